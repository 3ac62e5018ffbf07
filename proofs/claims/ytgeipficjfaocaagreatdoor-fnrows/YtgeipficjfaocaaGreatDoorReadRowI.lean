/-
  The contract of the program's reading of a row.
-/
import Derived.Test.YtgeipficjfaocaaGreatDoorReadRowS
import Derived.Test.YtgeipficjfaocaaGreatDoorReadI
namespace Go.Proofs.YtgeipficjfaocaaGreatDoor
open Go.ChangeShapes Go.WideShapes Go.ChangeAt Go.RowKit
attribute [local go_sem ↓] Go.wp_at_zero Go.wp_at_succ

/-- The library's variable that its search reads holds some number. -/
def MaxAt (w : World) : Prop := ∃ m, w.cell? ⟨Tryz.laysM146_ren.g 1, 0, none⟩ = some (.int .i64 m)
theorem MaxAt.below {w w' : World} (h : MaxAt w) (hb : Below w.heap.size w w') : MaxAt w' := by
  obtain ⟨m, hm⟩ := h
  exact ⟨m, by rw [hb.cell (p := ⟨_, 0, none⟩) (World.block_lt_of_cell? w _ hm)]; exact hm⟩
theorem MaxAt.shaped {w : World} (h : w.ShapedOpen Tryz.prog) : MaxAt w := Tryz.laysM146.s1_3 w h

theorem split_impl (s : ByteArray) (hs : s.size ≤ 1048576) (w : World) (hm : MaxAt w) :
    Calls Tryz.prog 27 #[.string s, .string ⟨#[32]⟩] w fun e w' => ∃ g c xs, e = .returned (.slice (some ⟨g, 0, none⟩) xs.length c) ∧ rawT xs = pieces s.data.toList ∧ w'.ownsRow w.heap.size 9 1 (.slice (some ⟨g, 0, none⟩) xs.length c) xs.length (xs.map Value.string) ∧ Below w.heap.size w w' := by
  obtain ⟨m, hm⟩ := hm
  refine (Tryz.strings_Split s ⟨#[32]⟩ m w (by omega) hm (by decide)).mono ?_
  rintro e w' ⟨rfl, rfl⟩
  have hraw := pieces_split s
  have hall := Lib.splitB_all ⟨#[32]⟩ (by decide) 0 _ s rfl
  obtain ⟨xs, hxs⟩ : ∃ xs, Lib.splitB ⟨#[32]⟩ 0 (Lib.countB s ⟨#[32]⟩) s = xs := ⟨_, rfl⟩
  rw [hxs] at hraw hall ⊢
  rw [← hall]
  have hlen : xs.length ≤ maxLen := by
    have h1 : (xs.map (·.data.toList)).length = xs.length := List.length_map _
    have h2 := pieces_length s.data.toList
    rw [← hraw, h1, ← Lib.size_eq] at h2
    unfold maxLen; omega
  refine ⟨w.heap.size, xs.length, xs, rfl, hraw, ⟨by rw [List.length_map, Nat.mul_one], .inr ⟨w.heap.size, xs.length, (xs.map Value.string).toArray, rfl, Nat.le_refl _, heap_alloc_new _ _, Nat.le_refl _, hlen, by simp, ?_⟩⟩, (Below.refl _ _).alloc (Nat.le_refl _) _⟩
  rw [Nat.mul_one]
  exact List.take_of_length_le (by simp)

set_option maxRecDepth 100000 in
set_option maxHeartbeats 4000000 in
theorem readrow_impl (s : ByteArray) (hs : s.size ≤ 1048576) (w : World) (hp : PowAt w) (he : ErrAt w) (hm : MaxAt w) (l : List CT) (b : Bool) (hR : rowR s = (l, b)) :
    Calls Tryz.prog 8 #[.string s] w fun e w' => ∃ v, e = .returned (.tuple #[v, .bool b]) ∧ Answer w' w.heap.size v l ∧ Below w.heap.size w w' := by
  obtain ⟨i0, hti, hz0, hz1, hz2⟩ := info_parts infoCell
  have own0 : Hid (Answer (w.alloc (.cells #[] 31)) w.heap.size (.slice (some ⟨w.heap.size, 0, none⟩) 0 0) []) := ⟨own_none w _ (Nat.le_refl _), by simp⟩
  have hb0 : Below w.heap.size w (w.alloc (.cells #[] 31)) := (Below.refl _ _).alloc (Nat.le_refl _) _
  have HR : Hid (rowR s = (l, b)) := hR
  have HP : Hid (PowAt w) := hp
  have HE : Hid (ErrAt w) := he
  have HM : Hid (MaxAt w) := hm
  clear hR hp he hm
  by_cases hs0 : s = ⟨#[]⟩
  · subst hs0
    have hf := HR.out
    rw [rowR_nil] at hf
    injection hf with e1 e2
    subst e1 e2
    go_enter Tryz.func8, Tryz.ntmps8
    go_wp2
    go_ret2
    exact ⟨_, rfl, own0.out, hb0⟩
  have hne : s.toList.isEmpty = false := by
    rw [Lib.toList_data]
    cases hd : s.data.toList with
    | nil => exact absurd (bytes_ext hd) hs0
    | cons c r => rfl
  have HS0 : Hid (s ≠ ⟨#[]⟩) := hs0
  clear hs0
  go_enter Tryz.func8, Tryz.ntmps8
  go_wp2_with fail
  refine (split_impl s hs _ (HM.out.below hb0)).mono ?_
  rintro e w1 ⟨g, c, xs, rfl, hraw, hT, hb1⟩
  have HRaw : Hid (rawT xs = pieces s.data.toList) := hraw
  have HT : Hid (w1.ownsRow w.heap.size 9 1 (.slice (some ⟨g, 0, none⟩) xs.length c) xs.length (xs.map Value.string)) := own_base hT (by simp)
  have own1 : Hid (Answer w1 w.heap.size (.slice (some ⟨w.heap.size, 0, none⟩) 0 0) []) := ⟨own_below own0.out.1 hb1, by simp⟩
  have hbx := chain hb0 hb1
  have hxl : xs.length ≤ 1048577 := by
    have h1 : (rawT xs).length = xs.length := by unfold rawT; rw [List.length_map]
    have h2 := pieces_length s.data.toList
    rw [← hraw, h1, ← Lib.size_eq] at h2
    omega
  clear hraw hT own0 hb0 hb1
  go_wp2
  go_loopw [4, 16] (fun v kk wr => ∃ (k : Nat) (out : List CT), k ≤ xs.length ∧ kk = .int .i64 k ∧ Hid (readAll ((pieces s.data.toList).take k) = some out) ∧ Hid (Answer wr w.heap.size v out) ∧ Hid (wr.ownsRow w.heap.size 9 1 (.slice (some ⟨g, 0, none⟩) xs.length c) xs.length (xs.map Value.string)) ∧ Below w.heap.size w wr) (fun _ kk _ => xs.length - (intOf kk).toNat)
  case atStart => exact ⟨0, [], Nat.zero_le _, rfl, rfl, own1, HT, hbx⟩
  case round =>
    obtain ⟨k, out, hk, rfl, hRd, hO, hTx, hb⟩ := hrel
    by_cases hlt : k < xs.length
    · obtain ⟨c0, hgw⟩ := texts_own hTx.out k hlt
      have hi0 : (0 : Int) ≤ (k : Int) := by omega
      have hi1 : (k : Int) < (xs.length : Int) := by omega
      obtain ⟨hk', hxe⟩ := raw_get HRaw.out k hlt
      have hpl : xs[k].size ≤ 1048576 := by
        rw [hxe, Lib.size_eq, bytes_mk]
        have := pieces_each s.data.toList _ (List.getElem_mem hk')
        rw [← Lib.size_eq] at this
        omega
      obtain ⟨ck, cn, ct, cb, hcell⟩ : ∃ p q r z, readR xs[k] = (p, q, r, z) := ⟨_, _, _, _, rfl⟩
      have hol : out.length = k := by
        have := readAll_length _ _ hRd.out
        rw [List.length_take] at this
        omega
      have hyes : Hid (cb = true → readAll ((pieces s.data.toList).take (k + 1)) = some (out ++ [(ck, cn, ct)])) := by
        have : cb = true → readAll ((pieces s.data.toList).take (k + 1)) = some (out ++ [(ck, cn, ct)]) := by
          intro e
          rw [List.take_succ_eq_append_getElem hk']
          refine readAll_snoc _ _ _ _ hRd.out ?_
          rw [← hxe]
          unfold readR at hcell
          cases hB : readB xs[k] with
          | none => rw [hB] at hcell; injection hcell with _ h; injection h with _ h; injection h with _ h; rw [← h] at e; cases e
          | some c =>
            obtain ⟨k', n', t'⟩ := c
            rw [hB] at hcell
            injection hcell with h1 h; injection h with h2 h; injection h with h3 h
            rw [h1, h2, h3]
        exact this
      have hno : Hid (cb = false → l = [] ∧ b = false) := by
        have : cb = false → l = [] ∧ b = false := by
          intro e
          have hn : readAll (pieces s.data.toList) = none := by
            refine readAll_none _ k hk' ?_
            rw [← hxe]
            unfold readR at hcell
            cases hB : readB xs[k] with
            | none => rfl
            | some c =>
              obtain ⟨k', n', t'⟩ := c
              rw [hB] at hcell
              injection hcell with _ h; injection h with _ h; injection h with _ h
              rw [← h] at e; cases e
          have hf := HR.out
          rw [rowR_no HS0.out hn] at hf
          injection hf with e1 e2
          exact ⟨e1.symm, e2.symm⟩
        exact this
      have HCell : Hid (readR xs[k] = (ck, cn, ct, cb)) := hcell
      clear hxe hcell
      generalize xs[k] = x at c0 hpl HCell
      go_wp2_with fail
      refine (readcell_impl x hpl _ (HP.out.below hb) (HE.out.below hb) ck cn ct cb HCell.out).mono ?_
      rintro e w2 ⟨rfl, hb2⟩
      clear c0
      have hbx2 := chain hb hb2
      have O1 := own_below hO.out.1 hb2
      have hvn := hO.out.2
      have T2 := own_below hTx.out hb2
      cases cb
      · obtain ⟨rfl, rfl⟩ := hno.out rfl
        clear O1 hO hTx
        have hA : Hid (Answer ((w2.alloc (.cells #[.int .i64 ck, .int .i64 cn, .string ct] 31)).alloc (.cells #[] 31)) w.heap.size (.slice (some ⟨w2.heap.size + 1, 0, none⟩) 0 0) []) := by
          have := own_none (w2.alloc (.cells #[.int .i64 ck, .int .i64 cn, .string ct] 31)) w.heap.size (by have := hbx2.size; simp; omega)
          have e : (w2.alloc (.cells #[.int .i64 ck, .int .i64 cn, .string ct] 31)).heap.size = w2.heap.size + 1 := by simp
          rw [e] at this
          exact ⟨this, by simp⟩
        have hbe : Below w.heap.size w ((w2.alloc (.cells #[.int .i64 ck, .int .i64 cn, .string ct] 31)).alloc (.cells #[] 31)) := (hbx2.alloc hbx2.size _).alloc (by have := hbx2.size; simp; omega) _
        go_wp2
        go_ret2
        exact ⟨_, rfl, hA.out, hbe⟩
      · have O2 := (O1.alloc (.cells #[.int .i64 ck, .int .i64 cn, .string ct] 31))
        have T3 := T2.alloc (.cells #[.int .i64 ck, .int .i64 cn, .string ct] 31)
        clear O1 hO hTx T2
        go_wp2_with (at_builtin; refine wpList_append_own _ rfl _ _ 24 rfl w.heap.size 31 i0 (.agg #[.int .i64 0, .int .i64 0, .string ⟨#[]⟩]) 3 32 Tryz.underlying24 hti hz0 hz1 hz2 rfl (by decide) _ _ _ rfl (O2.alloc _) ⟨w2.heap.size + 1, 0, none⟩ 1 1 [.int .i64 ck, .int .i64 cn, .string ct] rfl rfl ?c1 ?c2 ?c3 ?c4 ?c5 ?_)
        case c1 =>
          intro j u hj
          match j, hj with
          | 0, hj => simp at hj; subst hj; simp [Addr.add, go_sem]
          | 1, hj => simp at hj; subst hj; simp [Addr.add, go_sem]
          | 2, hj => simp at hj; subst hj; simp [Addr.add, go_sem]
        case c2 => intro u hu; simp at hu; rcases hu with rfl | rfl | rfl <;> rfl
        case c3 => unfold maxLen; omega
        case c4 => omega
        case c5 => have := hbx2.size; simp; omega
        intro v' w3 own3 hgrow hnn
        have hx2 : Below w.heap.size w w3 := by
          have hbA := hbx2.alloc hbx2.size (.cells #[.int .i64 ck, .int .i64 cn, .string ct] 31)
          refine (hbA.alloc hbA.size _).grown hgrow (by have := hbA.size; simp at this ⊢; omega) ?_
          intro kk hkk
          exact (O2.lt kk hkk).1
        have hvn2 : v' ≠ .slice none 0 0 := by first | exact hnn | exact fun e => hvn (hnn.1 e).1
        have SS : Hid (Answer w3 w.heap.size v' (out ++ [(ck, cn, ct)])) := by
          refine ⟨?_, hvn2⟩
          rw [flat_snoc, List.length_append]
          show w3.ownsRow _ _ _ _ (out.length + 1) _
          rw [hol]
          exact own3
        have TT : Hid (w3.ownsRow w.heap.size 9 1 (.slice (some ⟨g, 0, none⟩) xs.length c) xs.length (xs.map Value.string)) := by
          have h0 := T3.alloc (.cells #[.int .i64 ck, .int .i64 cn, .string ct] 31)
          exact h0.kept hgrow (.inr (by simp only [Value.ownBlock]; exact (own_other (O2.alloc _) h0 (by decide)).symm))
        clear own3 hgrow hnn O2 T3
        go_wp2
        go_roundw
        case rel => exact ⟨k + 1, _, by omega, by go_num, hyes.out (by trivial), SS, TT, hx2⟩
        case measure => simp [intOf]; omega
    · have hkl : k = xs.length := by omega
      subst hkl
      have hi1 : ¬ (xs.length : Int) < (xs.length : Int) := by omega
      have hall : readAll (pieces s.data.toList) = some out := by
        have := hRd.out
        rwa [List.take_of_length_le (by rw [← HRaw.out]; unfold rawT; rw [List.length_map]; exact Nat.le_refl _)] at this
      have hf := HR.out
      rw [rowR_all HS0.out hall] at hf
      injection hf with e1 e2
      subst e1 e2
      clear hall
      go_wp2
      go_ret2
      exact ⟨_, rfl, hO.out, hb⟩

end Go.Proofs.YtgeipficjfaocaaGreatDoor
