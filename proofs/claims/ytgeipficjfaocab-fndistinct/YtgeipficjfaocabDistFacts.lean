/-
  What the law FnDistinct asks, without any program; the law's helper that holds two rows against each other; the draw.
-/
import Derived.Test.YtgeipficjfaocabDistI
import Derived.Test.YtgeipficjfaocabRowsDraw
import Derived.Test.YtgeipficjfaocabLike
import Derived.Test.YtgeipficjfaocabLaw1
namespace Go.Proofs.Ytgeipficjfaocab
open Go.ChangeShapes Go.WideShapes Go.ChangeAt Go.RowKit
attribute [local go_sem ↓] Go.wp_at_zero Go.wp_at_succ

theorem getD_row (L : List (List CT)) (k : Nat) (h : k < L.length) : L.getD k [] = L[k] := by simp [List.getD, List.getElem?_eq_getElem h]
theorem sameRow_comm (l m : List CT) : sameRow l m = sameRow m l := by
  rw [Bool.eq_iff_iff, sameRow_eq, sameRow_eq]
  exact ⟨Eq.symm, Eq.symm⟩
theorem hasR_snoc (L : List (List CT)) (j : Nat) (h : j < L.length) (x : List CT) : hasR (L.take (j + 1)) x = (hasR (L.take j) x || sameRow L[j] x) := by
  unfold hasR
  rw [List.take_succ_eq_append_getElem h, List.any_append]; simp
theorem distTo_mem (L : List (List CT)) (k : Nat) (hk : k ≤ L.length) (x : List CT) : x ∈ distTo L k ↔ x ∈ L.take k := by
  induction k with
  | zero => simp [distTo]
  | succ k ih =>
    have hlt : k < L.length := by omega
    have ih := ih (by omega)
    rw [distTo, List.take_succ_eq_append_getElem hlt, getD_row L k hlt]
    split
    · rename_i h
      rw [ih, List.mem_append, List.mem_singleton]
      constructor
      · exact .inl
      · rintro (h' | rfl)
        · exact h'
        · exact ih.1 (hasR_iff.1 h)
    · rw [List.mem_append, List.mem_append, ih]
theorem hasR_dist (L : List (List CT)) (k : Nat) (hk : k ≤ L.length) (x : List CT) : hasR (distTo L k) x = hasR (L.take k) x := by
  rw [Bool.eq_iff_iff, hasR_iff, hasR_iff, distTo_mem L k hk]
theorem distTo_step (L : List (List CT)) (k : Nat) (hk : k < L.length) : distTo L (k + 1) = if hasR (L.take k) L[k] = true then distTo L k else distTo L k ++ [L[k]] := by
  rw [distTo, getD_row L k hk, hasR_dist L k (by omega)]
theorem distTo_prefix (L : List (List CT)) (k : Nat) : ∀ m, k ≤ m → distTo L k <+: distTo L m := by
  intro m
  induction m with
  | zero => intro h; rw [show k = 0 by omega]; exact List.prefix_rfl
  | succ m ih =>
    intro h
    by_cases e : k = m + 1
    · rw [e]; exact List.prefix_rfl
    · refine (ih (by omega)).trans ?_
      rw [distTo]
      split
      · exact List.prefix_rfl
      · exact List.prefix_append _ _
/-- A row that comes for the first time is there, at its place. -/
theorem dist_first (L : List (List CT)) (i : Nat) (hi : i < L.length) (h : hasR (L.take i) L[i] = false) : ∃ hk : (distTo L i).length < (distR L).length, (distR L)[(distTo L i).length] = L[i] := by
  have hp := distTo_prefix L (i + 1) L.length (by omega)
  rw [distTo_step L i hi, if_neg (by rw [h]; decide)] at hp
  obtain ⟨t, ht⟩ := hp
  have hD : distR L = distTo L i ++ ([L[i]] ++ t) := by unfold distR; rw [← ht, List.append_assoc]
  refine ⟨by rw [hD]; simp, ?_⟩
  simp only [hD]
  rw [List.getElem_append_right (Nat.le_refl _)]
  simp
theorem dist_nodup (L : List (List CT)) (k : Nat) : (distTo L k).Nodup := by
  induction k with
  | zero => simp [distTo]
  | succ k ih =>
    rw [distTo]
    split
    · exact ih
    · rename_i h
      rw [List.nodup_append]
      refine ⟨ih, by simp, ?_⟩
      intro a ha b hb e
      rw [List.mem_singleton] at hb
      subst hb
      subst e
      exact h (hasR_iff.2 ha)
theorem dist_idem (L : List (List CT)) : distR (distR L) = distR L := by
  have hn := dist_nodup L L.length
  change (distR L).Nodup at hn
  generalize distR L = D at hn
  have key : ∀ k, k ≤ D.length → distTo D k = D.take k := by
    intro k
    induction k with
    | zero => intro _; simp [distTo]
    | succ k ih =>
      intro hk
      have hlt : k < D.length := by omega
      rw [distTo_step D k hlt, ih (by omega), if_neg, List.take_succ_eq_append_getElem hlt]
      intro h
      have hm := hasR_iff.1 h
      obtain ⟨j, hj, he⟩ := List.getElem_of_mem hm
      have hj2 : j < k := by rw [List.length_take] at hj; omega
      rw [List.getElem_take] at he
      have := List.getElem_inj hn |>.1 he
      omega
  unfold distR
  rw [key D.length (Nat.le_refl _), List.take_length]

set_option maxRecDepth 100000 in
set_option maxHeartbeats 1000000 in
theorem like_rowR (a b : Option Addr) (ca cb : Nat) (l m : List CT) (w : World) (ha : RowAt w a l) (hb : RowAt w b m) (hl : l.length ≤ maxLen) (r : Bool) (hr : sameRow l m = r) :
    Calls Try.prog 9 #[.slice a l.length ca, .slice b m.length cb] w fun e w' => e = .returned (.bool r) ∧ Below w.heap.size w w' := by
  have HA : Hid (RowAt w a l) := ha
  have HB : Hid (RowAt w b m) := hb
  have HR : Hid (sameRow l m = r) := hr
  clear ha hb hr
  unfold maxLen at hl
  by_cases hlen : l.length = m.length
  · have hli : ((l.length : Int) == (m.length : Int)) = true := by rw [beq_iff_eq]; omega
    have HL : Hid (l.length = m.length) := hlen
    obtain ⟨n, hn⟩ : ∃ n, l.length = n := ⟨_, rfl⟩
    have hn2 : m.length = n := by omega
    have HN : Hid (l.length = n ∧ m.length = n) := ⟨hn, hn2⟩
    rw [hn, hn2]
    clear hlen hli hn2
    rw [hn] at hl
    clear hn
    go_enter Try.func9, Try.ntmps9
    go_wp2
    go_loopw [5] (fun kk wr => ∃ k : Nat, k ≤ n ∧ kk = .int .i64 k ∧ Hid (∀ j (h1 : j < l.length) (h2 : j < m.length), j < k → sameC l[j] m[j] = true) ∧ Below w.heap.size w wr) (fun kk _ => n - (intOf kk).toNat)
    case atStart => exact ⟨0, Nat.zero_le _, rfl, fun j _ _ h => by omega, Below.refl _ _⟩
    case round =>
      obtain ⟨k, hk, rfl, hall, hbw⟩ := hrel
      by_cases hlt : k < n
      · have h1 : k < l.length := by have := HN.out; omega
        have h2 : k < m.length := by have := HN.out; omega
        obtain ⟨g, o, rfl, hgw, c0, c1, c2⟩ := HA.out.below hbw k h1
        obtain ⟨g', o', rfl, hgw', d0, d1, d2⟩ := HB.out.below hbw k h2
        have hi0 : (0 : Int) ≤ (k : Int) := by omega
        have hi1 : (k : Int) < (n : Int) := by omega
        obtain ⟨q, hq⟩ : ∃ q, sameC l[k] m[k] = q := ⟨_, rfl⟩
        have hno : Hid (q = false → r = false) := by
          have : q = false → r = false := fun e => by rw [← HR.out]; exact sameRow_at k h1 h2 (by rw [hq, e])
          exact this
        have hyes : Hid (q = true → ∀ j (h1 : j < l.length) (h2 : j < m.length), j < k + 1 → sameC l[j] m[j] = true) := by
          have : q = true → ∀ j (h1 : j < l.length) (h2 : j < m.length), j < k + 1 → sameC l[j] m[j] = true := by
            intro e j hj1 hj2 hjk
            by_cases ej : j = k
            · subst ej; rw [hq, e]
            · exact hall.out j hj1 hj2 (by omega)
          exact this
        have hqr : ∀ wz, (binOp .neq 37 (.agg #[.int .i64 l[k].1, .int .i64 l[k].2.1, .string l[k].2.2]) (.agg #[.int .i64 m[k].1, .int .i64 m[k].2.1, .string m[k].2.2])).run Try.prog wz = .ok (.bool !q) wz := fun wz => by rw [run_neq, ← hq]; rfl
        clear hq
        generalize l[k] = x at c0 c1 c2 hqr
        generalize m[k] = y at d0 d1 d2 hqr
        cases q
        · have e := hno.out rfl
          subst e
          go_wp2_with fail
          go_quiet (fail)
          go_wp2
          go_ret
          exact ⟨rfl, belowN hbw _⟩
        · go_wp2_with fail
          go_quiet (fail)
          go_wp2
          go_roundw
          case rel => exact ⟨k + 1, by omega, by go_num, hyes.out (by trivial), belowN hbw _⟩
          case measure => simp [intOf]; omega
      · have hkl : k = n := by omega
        subst hkl
        have hi1 : ¬ (k : Int) < (k : Int) := by omega
        have e : r = true := by
          rw [← HR.out]
          exact sameRow_all HL.out fun j h1 h2 => hall.out j h1 h2 (by have := HN.out; omega)
        subst e
        go_wp2
        go_ret
        exact ⟨rfl, hbw⟩
  · have hli : ((l.length : Int) == (m.length : Int)) = false := by rw [beq_eq_false_iff_ne]; omega
    have hli2 : ¬ ((l.length : Int) = (m.length : Int)) := by omega
    have e : r = false := by rw [← HR.out]; exact sameRow_len hlen
    subst e
    go_enter Try.func9, Try.ntmps9
    go_wp2
    go_ret
    exact ⟨rfl, Below.refl _ _⟩


set_option maxRecDepth 100000 in
theorem distinct_draw {w : World} {a : Option Addr} {len cap : Nat} (hlen : len ≤ 4096)
    (row : ∀ j, j < len → ∃ (rb ro : Nat) (v : Int), a = some ⟨rb, ro, none⟩ ∧ rb < w.heap.size ∧ w.cell? ⟨rb, ro + j, none⟩ = some (.int .u8 v) ∧ 0 ≤ v ∧ v ≤ 255) :
    Calls Try.prog 5 #[.slice a len cap] w fun e w' => ∃ v L G C base, e = .returned v ∧ v ≠ .slice none 0 0 ∧ OwnRows w' base v L G C ∧ Drawn L 7 ∧ Below w.heap.size w w' := by
  have hR : Hid (∀ j, j < len → ∃ (rb ro : Nat) (v : Int), a = some ⟨rb, ro, none⟩ ∧ rb < w.heap.size ∧ w.cell? ⟨rb, ro + j, none⟩ = some (.int .u8 v) ∧ 0 ≤ v ∧ v ≤ 255) := row
  clear row
  go_enter Try.func5, Try.ntmps5
  go_wp2_with fail
  refine (new_draw hlen hR.out).mono ?_
  rintro e w1 ⟨c, rfl, hcs, hc1, hb1⟩
  have C1 : Hid (Cur w1 c a len cap) := hc1
  have hcw1 := hc1.lt
  clear hc1
  go_wp2_with fail
  refine (rows_draw C1.out).mono ?_
  rintro e w2 ⟨v, L, G, C, rfl, hv, O2, D, hc2, hk2⟩
  have OO : Hid (OwnRows w2 w1.heap.size v L G C ∧ Drawn L 7) := ⟨O2, D⟩
  have hx : Below w.heap.size w w2 := hb1.trans (hk2.below hcs hb1.size)
  clear O2 D hc2 C1
  go_wp2
  go_ret
  first | exact ⟨_, L, G, C, w1.heap.size, rfl, hv, OO.out.1, OO.out.2, hx⟩ | exact ⟨_, rfl, hv, ⟨L, G, C, w1.heap.size, OO.out.1, OO.out.2⟩, hx⟩

end Go.Proofs.Ytgeipficjfaocab
