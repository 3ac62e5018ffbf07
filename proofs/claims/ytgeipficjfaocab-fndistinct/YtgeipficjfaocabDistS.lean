/-
  Each row once: what it is, and the contract of the model's Distinct.
-/
import Derived.Test.YtgeipficjfaocabRank4
import Derived.Test.YtgeipficjfaocabRank5
namespace Go.Proofs.Ytgeipficjfaocab
open Go.ChangeShapes Go.WideShapes Go.ChangeAt Go.RowKit
attribute [local go_sem ↓] Go.wp_at_zero Go.wp_at_succ

def sameC (x y : CT) : Bool := sameB x.1 x.2.1 x.2.2 y.1 y.2.1 y.2.2
theorem sameC_eq {x y : CT} : sameC x y = true ↔ x = y := by
  unfold sameC
  rw [sameB_eq]
  constructor
  · rintro ⟨h1, h2, h3⟩; exact Prod.ext h1 (Prod.ext h2 h3)
  · rintro rfl; exact ⟨rfl, rfl, rfl⟩
/-- Are two rows one? -/
def sameRow : List CT → List CT → Bool
  | [], [] => true
  | x :: l, y :: m => sameC x y && sameRow l m
  | _, _ => false
theorem sameRow_eq : ∀ {l m : List CT}, sameRow l m = true ↔ l = m
  | [], [] => by simp [sameRow]
  | [], _ :: _ => by simp [sameRow]
  | _ :: _, [] => by simp [sameRow]
  | x :: l, y :: m => by rw [sameRow, Bool.and_eq_true, sameC_eq, sameRow_eq, List.cons.injEq]
theorem sameRow_len {l m : List CT} (h : l.length ≠ m.length) : sameRow l m = false := by
  rw [Bool.eq_false_iff]
  intro e
  exact h (by rw [sameRow_eq.1 e])
theorem sameRow_at {l m : List CT} (k : Nat) (h1 : k < l.length) (h2 : k < m.length) (h : sameC l[k] m[k] = false) : sameRow l m = false := by
  rw [Bool.eq_false_iff]
  intro e
  have := sameRow_eq.1 e
  subst this
  rw [sameC_eq.2 rfl] at h
  cases h
theorem sameRow_all {l m : List CT} (h : l.length = m.length) (ha : ∀ k (h1 : k < l.length) (h2 : k < m.length), sameC l[k] m[k] = true) : sameRow l m = true := by
  rw [sameRow_eq]
  exact List.ext_getElem h fun k h1 h2 => sameC_eq.1 (ha k h1 h2)
/-- Is the row among them? -/
def hasR (L : List (List CT)) (x : List CT) : Bool := L.any fun y => sameRow y x
theorem hasR_iff {L : List (List CT)} {x : List CT} : hasR L x = true ↔ x ∈ L := by
  unfold hasR
  rw [List.any_eq_true]
  constructor
  · rintro ⟨y, hy, h⟩; rw [← sameRow_eq.1 h]; exact hy
  · intro h; exact ⟨x, h, sameRow_eq.2 rfl⟩
/-- Each row once, where it comes first. -/
def distTo (L : List (List CT)) : Nat → List (List CT)
  | 0 => []
  | k + 1 => if hasR (distTo L k) (L.getD k []) = true then distTo L k else distTo L k ++ [L.getD k []]
def distR (L : List (List CT)) : List (List CT) := distTo L L.length
theorem distTo_len (L : List (List CT)) (k : Nat) : (distTo L k).length ≤ k := by
  induction k with
  | zero => simp [distTo]
  | succ k ih =>
    rw [distTo]
    split
    · omega
    · rw [List.length_append, List.length_singleton]; omega
/-- What holds of each row holds of each that is left. -/
theorem distTo_each {P : List CT → Prop} (L : List (List CT)) (k : Nat) (hk : k ≤ L.length) (h : ∀ i (hi : i < L.length), P L[i]) : ∀ i (hi : i < (distTo L k).length), P (distTo L k)[i] := by
  have key : ∀ x ∈ distTo L k, P x := by
    induction k with
    | zero => intro x hx; simp [distTo] at hx
    | succ k ih =>
      have hlt : k < L.length := by omega
      have hd : L.getD k [] = L[k] := by simp [List.getD, List.getElem?_eq_getElem hlt]
      intro x hx
      rw [distTo] at hx
      split at hx
      · exact ih (by omega) x hx
      · rcases List.mem_append.1 hx with h' | h'
        · exact ih (by omega) x h'
        · rw [List.mem_singleton] at h'
          rw [h', hd]; exact h k hlt
  intro i hi
  exact key _ (List.getElem_mem hi)

set_option maxRecDepth 100000 in
set_option maxHeartbeats 1000000 in
theorem same_specR (a b : Option Addr) (ca cb : Nat) (l m : List CT) (w : World) (ha : RowAt w a l) (hb : RowAt w b m) (hl : l.length ≤ maxLen) (r : Bool) (hr : sameRow l m = r) :
    Calls Try.prog 22 #[.slice a l.length ca, .slice b m.length cb] w fun e w' => e = .returned (.bool r) ∧ Below w.heap.size w w' := by
  have HA : Hid (RowAt w a l) := ha
  have HB : Hid (RowAt w b m) := hb
  have HR : Hid (sameRow l m = r) := hr
  clear ha hb hr
  unfold maxLen at hl
  by_cases hlen : l.length = m.length
  · have hli : ((l.length : Int) == (m.length : Int)) = true := by rw [beq_iff_eq]; omega
    have HL : Hid (l.length = m.length) := hlen
    obtain ⟨n, hn⟩ : ∃ n, l.length = n := ⟨_, rfl⟩
    have hn2 : m.length = n := by omega
    have HN : Hid (l.length = n ∧ m.length = n) := ⟨hn, hn2⟩
    rw [hn, hn2]
    clear hlen hli hn2
    rw [hn] at hl
    clear hn
    go_enter Try.func22, Try.ntmps22
    go_wp2
    go_loopw [5] (fun kk wr => ∃ k : Nat, k ≤ n ∧ kk = .int .i64 k ∧ Hid (∀ j (h1 : j < l.length) (h2 : j < m.length), j < k → sameC l[j] m[j] = true) ∧ Below w.heap.size w wr) (fun kk _ => n - (intOf kk).toNat)
    case atStart => exact ⟨0, Nat.zero_le _, rfl, fun j _ _ h => by omega, Below.refl _ _⟩
    case round =>
      obtain ⟨k, hk, rfl, hall, hbw⟩ := hrel
      by_cases hlt : k < n
      · have h1 : k < l.length := by have := HN.out; omega
        have h2 : k < m.length := by have := HN.out; omega
        obtain ⟨g, o, rfl, hgw, c0, c1, c2⟩ := HA.out.below hbw k h1
        obtain ⟨g', o', rfl, hgw', d0, d1, d2⟩ := HB.out.below hbw k h2
        have hi0 : (0 : Int) ≤ (k : Int) := by omega
        have hi1 : (k : Int) < (n : Int) := by omega
        obtain ⟨q, hq⟩ : ∃ q, sameC l[k] m[k] = q := ⟨_, rfl⟩
        have hno : Hid (q = false → r = false) := by
          have : q = false → r = false := fun e => by rw [← HR.out]; exact sameRow_at k h1 h2 (by rw [hq, e])
          exact this
        have hyes : Hid (q = true → ∀ j (h1 : j < l.length) (h2 : j < m.length), j < k + 1 → sameC l[j] m[j] = true) := by
          have : q = true → ∀ j (h1 : j < l.length) (h2 : j < m.length), j < k + 1 → sameC l[j] m[j] = true := by
            intro e j hj1 hj2 hjk
            by_cases ej : j = k
            · subst ej; rw [hq, e]
            · exact hall.out j hj1 hj2 (by omega)
          exact this
        have hqr : ∀ wz, (binOp .neq 37 (.agg #[.int .i64 l[k].1, .int .i64 l[k].2.1, .string l[k].2.2]) (.agg #[.int .i64 m[k].1, .int .i64 m[k].2.1, .string m[k].2.2])).run Try.prog wz = .ok (.bool !q) wz := fun wz => by rw [run_neq, ← hq]; rfl
        clear hq
        generalize l[k] = x at c0 c1 c2 hqr
        generalize m[k] = y at d0 d1 d2 hqr
        cases q
        · have e := hno.out rfl
          subst e
          go_wp2_with fail
          go_quiet (fail)
          go_wp2
          go_ret
          exact ⟨rfl, belowN hbw _⟩
        · go_wp2_with fail
          go_quiet (fail)
          go_wp2
          go_roundw
          case rel => exact ⟨k + 1, by omega, by go_num, hyes.out (by trivial), belowN hbw _⟩
          case measure => simp [intOf]; omega
      · have hkl : k = n := by omega
        subst hkl
        have hi1 : ¬ (k : Int) < (k : Int) := by omega
        have e : r = true := by
          rw [← HR.out]
          exact sameRow_all HL.out fun j h1 h2 => hall.out j h1 h2 (by have := HN.out; omega)
        subst e
        go_wp2
        go_ret
        exact ⟨rfl, hbw⟩
  · have hli : ((l.length : Int) == (m.length : Int)) = false := by rw [beq_eq_false_iff_ne]; omega
    have hli2 : ¬ ((l.length : Int) = (m.length : Int)) := by omega
    have e : r = false := by rw [← HR.out]; exact sameRow_len hlen
    subst e
    go_enter Try.func22, Try.ntmps22
    go_wp2
    go_ret
    exact ⟨rfl, Below.refl _ _⟩

theorem own_slice {w : World} {base n sz : Nat} {e : TypeId} {xs : List Value} {v : Value} (h : w.ownsRow base e sz v n xs) (hv : v ≠ .slice none 0 0) : ∃ g c, v = .slice (some ⟨g, 0, none⟩) n c := by
  rcases h.2 with ⟨h', _⟩ | ⟨g, c, cur, h', _⟩
  · exact absurd h' hv
  · exact ⟨g, c, h'⟩
set_option maxRecDepth 100000 in
set_option maxHeartbeats 1000000 in
theorem find_spec (a b : Option Addr) (ca cb : Nat) (L : List (List CT)) (x : List CT) (w : World) (ha : RowsAt w a L) (hb : RowAt w b x) (hl : L.length ≤ maxLen) (r : Bool) (hr : hasR L x = r) :
    Calls Try.prog 14 #[.slice a L.length ca, .slice b x.length cb] w fun e w' => ∃ k : Int, e = .returned (.int .i64 k) ∧ (r = true → 0 ≤ k) ∧ (r = false → k = -1) ∧ Below w.heap.size w w' := by
  have HA : Hid (RowsAt w a L) := ha
  have HB : Hid (RowAt w b x) := hb
  have HR : Hid (hasR L x = r) := hr
  clear ha hb hr
  unfold maxLen at hl
  go_enter Try.func14, Try.ntmps14
  go_wp2
  go_loopw [5] (fun kk wr => ∃ k : Nat, k ≤ L.length ∧ kk = .int .i64 k ∧ Hid (∀ y ∈ L.take k, sameRow y x = false) ∧ Below w.heap.size w wr) (fun kk _ => L.length - (intOf kk).toNat)
  case atStart => exact ⟨0, Nat.zero_le _, rfl, fun y hy => by simp at hy, Below.refl _ _⟩
  case round =>
    obtain ⟨k, hk, rfl, hall, hbw⟩ := hrel
    by_cases hlt : k < L.length
    · obtain ⟨g, o, ai, ci, rfl, hgw, c0, hra, _, hml, _⟩ := HA.out.below hbw k hlt
      have hi0 : (0 : Int) ≤ (k : Int) := by omega
      have hi1 : (k : Int) < (L.length : Int) := by omega
      have RA : Hid (RowAt wr ai L[k]) := hra
      obtain ⟨q, hq⟩ : ∃ q, sameRow L[k] x = q := ⟨_, rfl⟩
      have HQ : Hid (sameRow L[k] x = q) := hq
      have hyes : Hid (q = true → r = true) := by
        have : q = true → r = true := by
          intro e
          rw [← HR.out]
          unfold hasR
          rw [List.any_eq_true]
          exact ⟨L[k], List.getElem_mem hlt, by rw [hq, e]⟩
        exact this
      have hno : Hid (q = false → ∀ y ∈ L.take (k + 1), sameRow y x = false) := by
        have : q = false → ∀ y ∈ L.take (k + 1), sameRow y x = false := by
          intro e y hy
          rw [List.take_succ_eq_append_getElem hlt] at hy
          rcases List.mem_append.1 hy with h | h
          · exact hall.out y h
          · rw [List.mem_singleton] at h; rw [h, hq, e]
        exact this
      clear hra hq
      generalize L[k] = y at c0 RA HQ hml
      go_wp2_with fail
      refine (same_specR _ _ _ _ y x _ RA.out (HB.out.below hbw) hml q HQ.out).mono ?_
      rintro e w1 ⟨rfl, hb1⟩
      clear c0
      cases q
      · go_wp2
        go_roundw
        case rel => exact ⟨k + 1, by omega, by go_num, hno.out (by trivial), chain hbw hb1⟩
        case measure => simp [intOf]; omega
      · have hrt := hyes.out rfl
        go_wp2
        go_ret
        exact ⟨(k : Int), rfl, fun _ => by omega, fun e => (by rw [hrt] at e; cases e), chain hbw hb1⟩
    · have hkl : k = L.length := by omega
      subst hkl
      have hi1 : ¬ (L.length : Int) < (L.length : Int) := by omega
      have e : r = false := by
        rw [← HR.out, Bool.eq_false_iff]
        intro h
        unfold hasR at h
        obtain ⟨y, hy, hs⟩ := List.any_eq_true.1 h
        have := hall.out y (by rw [List.take_length]; exact hy)
        rw [this] at hs; cases hs
      have HE : Hid (r = false) := e
      clear e
      go_wp2
      go_ret
      exact ⟨-1, rfl, fun e => (by have := HE.out; rw [e] at this; cases this), fun _ => rfl, hbw⟩

theorem infoRowD : (Try.prog.info? 29).map (fun i => (i.zero, i.size, i.bytes)) = some (some (.slice none 0 0), 1, 24) := by kernel_rfl

set_option maxRecDepth 100000 in
set_option maxHeartbeats 4000000 in
theorem distinct_spec (a : Option Addr) (cap : Nat) (L : List (List CT)) (w : World) (hrow : RowsAt w a L) (hm : L.length ≤ 1048576) (hms : ∀ i (h : i < L.length), L[i].length ≤ 1048576) :
    Calls Try.prog 8 #[.slice a L.length cap] w fun e w' => ∃ v G C, e = .returned v ∧ OwnRows w' w.heap.size v (distR L) G C ∧ Below w.heap.size w w' ∧ v ≠ .slice none 0 0 := by
  obtain ⟨i0, hi, hz0, hz1, hz2⟩ := info_parts infoRowD
  have hF : Hid (∀ i (h : i < L.length), Fit L[i]) := by
    have : ∀ i (h : i < L.length), Fit L[i] := fun i h => by obtain ⟨_, _, _, _, _, _, _, _, h, _⟩ := hrow i h; exact h
    exact this
  have hR : Hid (RowsAt w a L) := hrow
  have hMS : Hid (∀ i (h : i < L.length), L[i].length ≤ 1048576) := hms
  clear hrow hms
  have own0 : Hid (∃ G C, OwnRows (w.alloc (.cells #[] 29)) w.heap.size (.slice (some ⟨w.heap.size, 0, none⟩) 0 0) (distTo L 0) G C) := by
    refine ⟨fun _ => 0, fun _ => 0, ⟨rfl, .inr ⟨w.heap.size, 0, #[], rfl, Nat.le_refl _, by show (w.heap.push _)[w.heap.size]? = _; simp, Nat.le_refl _, by unfold maxLen; omega, rfl, rfl⟩⟩, ?_, ?_⟩
    · intro i hi; simp [distTo] at hi
    · intro i j hi; simp [distTo] at hi
  have hb0 : Below w.heap.size w (w.alloc (.cells #[] 29)) := (Below.refl _ _).alloc (Nat.le_refl _) _
  go_enter Try.func8, Try.ntmps8
  go_wp2
  go_loopw [3, 4] (fun v i wr => ∃ m : Nat, m ≤ L.length ∧ i = .int .i64 m ∧ Hid (∃ G C, OwnRows wr w.heap.size v (distTo L m) G C) ∧ Below w.heap.size w wr ∧ v ≠ .slice none 0 0)
    (fun _ i _ => L.length - (intOf i).toNat)
  case atStart => exact ⟨0, Nat.zero_le _, rfl, own0, hb0, by simp⟩
  case round =>
    obtain ⟨m, hmL, rfl, hO, hb, hvn⟩ := hrel
    by_cases hlt : m < L.length
    · obtain ⟨b, o, ai, ci, ha, hbw, c0, hra, _, _, hnil⟩ := hR.out.below hb m hlt
      have hi0 : (0 : Int) ≤ (m : Int) := by omega
      have hi1 : (m : Int) < (L.length : Int) := by omega
      have hRA : Hid (RowAt wr ai L[m]) := hra
      have hml := hMS.out m hlt
      have hd : L.getD m [] = L[m] := by simp [List.getD, List.getElem?_eq_getElem hlt]
      obtain ⟨r, hr⟩ : ∃ r, hasR (distTo L m) L[m] = r := ⟨_, rfl⟩
      have hst : Hid (distTo L (m + 1) = if r = true then distTo L m else distTo L m ++ [L[m]]) := by
        have : distTo L (m + 1) = if r = true then distTo L m else distTo L m ++ [L[m]] := by rw [distTo, hd, hr]
        exact this
      have HH : Hid (hasR (distTo L m) L[m] = r) := hr
      have hdl := distTo_len L m
      have hdF := distTo_each (P := fun l => Fit l) L m hmL hF.out
      have hdM := distTo_each (P := fun l => l.length ≤ maxLen) L m hmL (fun i h => by have := hMS.out i h; unfold maxLen; omega)
      clear hra hd hr
      generalize L[m] = x at c0 hRA hml hst HH
      subst ha
      obtain ⟨G, C, O⟩ := hO.out
      obtain ⟨gv, cv, rfl⟩ := own_slice O.outer hvn
      have hOO : Hid (OwnRows wr w.heap.size (.slice (some ⟨gv, 0, none⟩) (distTo L m).length cv) (distTo L m) G C) := O
      have hRR : Hid (RowsAt wr (some ⟨gv, 0, none⟩) (distTo L m)) := O.rowsAt hdF hdM
      clear O hO hdF hdM
      generalize distTo L m = D at hOO hRR HH hst hdl hvn
      go_wp2_with fail
      refine (find_spec _ _ _ _ D x _ hRR.out hRA.out (by unfold maxLen; omega) r HH.out).mono ?_
      rintro e w1 ⟨kf, rfl, hk1, hk2, hb1⟩
      have O1 := hOO.out.below hb1
      have hRA1 : Hid (RowAt w1 ai x) := hRA.out.below hb1
      have hcell : w1.cell? ⟨b, o + m, none⟩ = some (.slice ai x.length ci) := by rw [hb1.cell (p := ⟨b, _, none⟩) hbw]; exact c0
      have hx := chain hb hb1
      clear c0 hRR hRA
      cases r
      · have hkf := hk2 rfl
        subst hkf
        have OO1 : Hid (OwnRows w1 w.heap.size (.slice (some ⟨gv, 0, none⟩) D.length cv) D G C) := O1
        rw [if_neg (by decide)] at hst
        clear O1 hOO hk1 hk2 hb1
        go_wp2_with fail
        refine (row_spec _ _ _ _ hRA1.out hnil hml).mono ?_
        rintro e w2 ⟨g, c, rfl, hg, own, hb2⟩
        have O2 := OO1.out.below hb2
        have hx2 := chain hx hb2
        clear hcell
        go_wp2_with (at_builtin; refine wpList_append_own _ rfl _ _ 24 rfl w.heap.size 29 i0 (.slice none 0 0) 1 24 Try.underlying24 hi hz0 hz1 hz2 rfl (by decide) _ _ _ rfl (O2.outer.alloc _) ⟨w2.heap.size, 0, none⟩ 1 1 [.slice (some ⟨g, 0, none⟩) x.length c] rfl rfl ?c1 ?c2 ?c3 ?c4 ?c5 ?_)
        case c1 =>
          intro j u hj
          match j, hj with
          | 0, hj => simp at hj; subst hj; simp [Addr.add]
        case c2 => intro u hu; simp at hu; subst hu; rfl
        case c3 => unfold maxLen; omega
        case c4 => omega
        case c5 => have := hx2.size; simp; omega
        intro v' w3 own3 hgrow hnn
        have S := OO1.out.step hb2 hg (own_base own hx.size) own3 hgrow
        rw [← hst.out] at S
        have hx3 : Below w.heap.size w w3 := by
          refine (hx2.alloc hx2.size _).grown hgrow (by have := hx2.size; simp; omega) ?_
          intro k hk
          exact (O2.outer.lt k hk).1
        have hvn2 : v' ≠ .slice none 0 0 := by first | exact hnn | exact fun e => hvn (hnn.1 e).1
        have SS : Hid (∃ G C, OwnRows w3 w.heap.size v' (distTo L (m + 1)) G C) := S
        clear S own3 hgrow hnn own O2 OO1
        go_wp2
        go_roundw
        case rel => exact ⟨m + 1, by omega, by go_num, SS, hx3, hvn2⟩
        case measure => simp [intOf]; omega
      · have hkf := hk1 rfl
        have hkf2 : ¬ (kf < 0) := by omega
        rw [if_pos rfl] at hst
        have SS : Hid (∃ G C, OwnRows w1 w.heap.size (.slice (some ⟨gv, 0, none⟩) D.length cv) (distTo L (m + 1)) G C) := by
          refine ⟨G, C, ?_⟩
          rw [hst.out]; exact O1
        clear O1 hOO hk1 hk2 hcell
        go_wp2
        go_roundw
        case rel => exact ⟨m + 1, by omega, by go_num, SS, hx, hvn⟩
        case measure => simp [intOf]; omega
    · have hkl : m = L.length := by omega
      subst hkl
      have hi1 : ¬ (L.length : Int) < (L.length : Int) := by omega
      go_wp2
      go_ret
      obtain ⟨G, C, O⟩ := hO.out
      first | exact ⟨_, G, C, rfl, O, hb, hvn⟩ | exact ⟨_, rfl, ⟨G, C, O⟩, hb, hvn⟩

end Go.Proofs.Ytgeipficjfaocab
