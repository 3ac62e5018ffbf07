/-
  A part of the proof: NamesS.
-/
import Derived.Test.YtegnekbbbfncgaaGreatDoorPart17
import Derived.Test.YtegnekbbbfncgaaGreatDoorPart14
import Derived.Test.YtegnekbbbfncgaaGreatDoorPart11

/-
  The contracts of the model's l8Put and NamesOf.
-/
namespace Go.Proofs.YtegnekbbbfncgaaGreatDoor
open Go.ChangeShapes Go.WideShapes Go.ChangeAt Go.RowKit
attribute [local go_sem ↓] Go.wp_at_zero Go.wp_at_succ
attribute [local simp] World.cell?_alloc_past World.cell?_alloc_at World.frozen?_alloc_at cell_far cell_off cell_here World.frozen?_alloc_past

theorem own_strs1 {w : World} {base g c n : Nat} {e : TypeId} {L : List ByteArray} (h : w.ownsRow base e 1 (.slice (some ⟨g, 0, none⟩) n c) n (strV L)) (hn : L.length = n) : StrsAt w (some ⟨g, 0, none⟩) L := fun j hj => by
  refine ⟨g, 0, rfl, (h.lt g rfl).2, ?_⟩
  rw [Nat.zero_add]
  have := h.cellAt j (by omega)
  rw [this]
  unfold strV
  rw [List.getElem?_map, List.getElem?_eq_getElem hj]
  rfl
/-- A list of texts, as an answer that is read. -/
def TxPost (w : World) (L : List ByteArray) (e : Ending) (w' : World) : Prop := ∃ g c, e = .returned (.slice (some ⟨g, 0, none⟩) L.length c) ∧ L.length ≤ c ∧ c ≤ maxLen ∧ StrsAt w' (some ⟨g, 0, none⟩) L ∧ Below w.heap.size w w'
set_option maxRecDepth 100000 in
set_option maxHeartbeats 4000000 in
theorem put8_spec (g cap : Nat) (L : List ByteArray) (N : Nat) (hn : L.length = N) (s : ByteArray) (w : World) (hrow : StrsAt w (some ⟨g, 0, none⟩) L) (hc : N ≤ cap) (hm : N ≤ 1000) (hcm : cap ≤ maxLen) :
    Calls Tryz.prog 129 #[.slice (some ⟨g, 0, none⟩) N cap, .string s] w (TxPost w (putN L s)) := by
  obtain ⟨i0, hti, hz0, hz1, hz2⟩ := info_parts infoTx
  have HR : Hid (StrsAt w (some ⟨g, 0, none⟩) L) := hrow
  have HN : Hid (L.length = N) := hn
  have hcm2 : cap ≤ 9223372036854775807 := by unfold maxLen at hcm; omega
  clear hrow hn
  go_enter Tryz.func129, Tryz.ntmps129
  go_wp2_with fail
  go_loopw [5] (fun i wr => ∃ k : Nat, k ≤ N ∧ i = .int .i64 k ∧ Hid (∀ j (hj : j < L.length), j < k → blt L[j] s = true) ∧ wr = w) (fun i _ => N - (intOf i).toNat)
  case atStart => exact ⟨0, Nat.zero_le _, rfl, (fun j hj h => by omega), rfl⟩
  case round =>
    obtain ⟨k, hkN, rfl, hlt, hwr⟩ := hrel
    replace hwr := hwr.symm
    subst hwr
    by_cases hk : k < N
    · have hk' : k < L.length := by rw [HN.out]; exact hk
      obtain ⟨b, o, e, hgw, hcell⟩ := HR.out k hk'
      simp only [Option.some.injEq, Addr.mk.injEq, and_true] at e
      obtain ⟨rfl, rfl⟩ := e
      rw [Nat.zero_add] at hcell
      have hi0 : (0 : Int) ≤ (k : Int) := by omega
      have hi1 : (k : Int) < (N : Int) := by omega
      obtain ⟨x, hx⟩ : ∃ x, L[k] = x := ⟨_, rfl⟩
      rw [hx] at hcell
      have HX : Hid (L[k]'hk' = x) := hx
      clear hx
      cases hbl : Op.bytesLess x.toList s.toList with
      | true =>
        have hlt2 : Hid (∀ j (hj : j < L.length), j < k + 1 → blt L[j] s = true) := by
          have : ∀ j (hj : j < L.length), j < k + 1 → blt L[j] s = true := by
            intro j hj hjk
            by_cases e : j = k
            · subst e; rw [HX.out]; exact hbl
            · exact hlt.out j hj (by omega)
          exact this
        go_wp2
        go_roundw
        case rel => exact ⟨k + 1, by omega, by go_num, hlt2, by first | rfl | trivial⟩
        case measure => simp [intOf]; omega
      | false =>
        have HAt := putN_at (L := L) (s := s) (k := k) (by omega) hlt.out (fun h => by rw [HX.out]; exact hbl)
        rw [dif_pos hk', HX.out] at HAt
        by_cases hxs : x = s
        · rw [if_pos hxs] at HAt
          subst hxs
          have hss : (x.toList == x.toList) = true := by simp
          have fin : Hid (TxPost w (putN L x) (.returned (.slice (some ⟨g, 0, none⟩) N cap)) w) := ⟨g, cap, by rw [HAt, HN.out], by rw [HAt, HN.out]; exact hc, hcm, by rw [HAt]; exact HR.out, Below.refl _ _⟩
          clear HAt
          go_wp2
          go_ret
          exact fin.out
        · rw [if_neg hxs] at HAt
          have hss : (x.toList == s.toList) = false := txt_other hxs
          have HPut : Hid (putN L s = L.take k ++ s :: L.drop k) := HAt
          clear HAt hlt
          have hk0 : (0 : Int) ≤ (k : Int) := by omega
          have hk1 : (k : Int) ≤ (N : Int) := by omega
          have hk2 : (k : Int) ≤ (cap : Int) := by omega
          have hN2 : (N : Int) ≤ (cap : Int) := by omega
          obtain ⟨d, hd⟩ : ∃ d, N - k = d := ⟨_, rfl⟩
          have hdI : (N : Int) - (k : Int) = (d : Int) := by omega
          obtain ⟨f, hf⟩ : ∃ f, cap - k = f := ⟨_, rfl⟩
          have hfI : (cap : Int) - (k : Int) = (f : Int) := by omega
          have HD : Hid ((L.drop k).length = d) := by
            have : (L.drop k).length = d := by rw [List.length_drop, HN.out]; exact hd
            exact this
          have HT : Hid ((L.take k).length = k) := by
            have : (L.take k).length = k := by rw [List.length_take, HN.out]; omega
            exact this
          have HRd : Hid (StrsAt w (some ⟨g, k, none⟩) (L.drop k)) := by
            have : StrsAt w (some ⟨g, k, none⟩) (L.drop k) := by
              intro j hj
              rw [List.length_drop] at hj
              obtain ⟨b, o, e, h1, h2⟩ := HR.out (k + j) (by omega)
              simp only [Option.some.injEq, Addr.mk.injEq, and_true] at e
              obtain ⟨rfl, rfl⟩ := e
              refine ⟨g, k, rfl, h1, ?_⟩
              rw [Nat.zero_add] at h2
              rw [List.getElem_drop]
              exact h2
            exact this
          have HRt : Hid (StrsAt w (some ⟨g, 0, none⟩) (L.take k)) := by
            have : StrsAt w (some ⟨g, 0, none⟩) (L.take k) := by
              intro j hj
              rw [List.length_take] at hj
              obtain ⟨b, o, e, h1, h2⟩ := HR.out j (by omega)
              refine ⟨b, o, e, h1, ?_⟩
              rw [List.getElem_take]
              exact h2
            exact this
          have hdm : d ≤ 1000 := by omega
          go_wp2_with fail
          refine (texts_spec _ _ (L.drop k) d HD.out _ HRd.out (fun h => by cases h) (by omega)).mono ?_
          rintro e w1 ⟨g1, c1, rfl, hg1, hc1, own1, hb1⟩
          have O1 : Hid (w1.ownsRow w.heap.size 9 1 (.slice (some ⟨g1, 0, none⟩) (L.drop k).length c1) (L.drop k).length (strV (L.drop k))) := own1
          clear own1
          go_wp2_with fail
          refine (texts_spec _ _ (L.take k) k HT.out _ (HRt.out.below hb1) (fun h => by cases h) (by omega)).mono ?_
          rintro e w2 ⟨g2, c2, rfl, hg2, hc2, own2, hb2⟩
          have hx2 := chain hb1 hb2
          have O2 : Hid (w2.ownsRow w1.heap.size 9 1 (.slice (some ⟨g2, 0, none⟩) k c2) k (strV (L.take k))) := by
            have := own2
            rw [HT.out] at this
            exact this
          have O12 : Hid (w2.ownsRow w.heap.size 9 1 (.slice (some ⟨g1, 0, none⟩) d c1) d (strV (L.drop k))) := by
            have := own_below O1.out hb2
            rw [HD.out] at this
            exact this
          have hs1 := hb1.size
          have hs2 := hb2.size
          have hg1lt := (O1.out.lt g1 rfl).2
          clear own2 O1 hb1 hb2
          go_wp2_with (at_builtin; refine wpList_append_own _ rfl _ _ 23 rfl w1.heap.size 9 i0 (.string ⟨#[]⟩) 1 16 Tryz.underlying23 hti hz0 hz1 hz2 rfl (by decide) _ _ _ rfl (O2.out.alloc _) ⟨w2.heap.size, 0, none⟩ 1 1 [.string s] rfl rfl (cells1S w2 _) (by intro u hu; simp at hu; subst hu; rfl) (by unfold maxLen; omega) (by omega) (by simp; omega) ?_)
          intro v3 w3 own3 hgrow3 hnn3
          have hb23 : Below w1.heap.size w2 w3 := by
            refine (((Below.refl w1.heap.size w2).alloc (by omega) _).grown hgrow3 (by simp; omega) ?_)
            intro kk hkk
            exact (O2.out.lt kk hkk).1
          have hx3 : Below w.heap.size w w3 := hx2.trans (hb23.mono hs1)
          have HS3 : Hid (StrsAt w3 (some ⟨g1, 0, none⟩) (L.drop k)) := by
            have h2 := own_strs1 O12.out HD.out
            have : StrsAt w3 (some ⟨g1, 0, none⟩) (L.drop k) := by
              intro j hj
              obtain ⟨b, o, e, h1, h3⟩ := h2 j hj
              simp only [Option.some.injEq, Addr.mk.injEq, and_true] at e
              obtain ⟨rfl, rfl⟩ := e
              exact ⟨g1, 0, rfl, Nat.lt_of_lt_of_le h1 hb23.size, by rw [hb23.cell (p := ⟨g1, 0 + j, none⟩) hg1lt]; exact h3⟩
            exact this
          obtain ⟨m, hm1⟩ : ∃ m, k + 1 = m := ⟨_, rfl⟩
          have own3' : w3.ownsRow w1.heap.size 9 1 v3 m (strV (L.take k) ++ [.string s]) := by rw [← hm1]; exact own3
          obtain ⟨g3, c3, rfl⟩ : ∃ g3 c3, v3 = .slice (some ⟨g3, 0, none⟩) m c3 := by
            rcases own3'.2 with ⟨h', h''⟩ | ⟨g3, c3, cur, h', _⟩
            · exfalso; omega
            · exact ⟨g3, c3, h'⟩
          have O3 : Hid (w3.ownsRow w1.heap.size 9 1 (.slice (some ⟨g3, 0, none⟩) m c3) m (strV (L.take k) ++ [.string s])) := own3'
          have hs3 := hb23.size
          have HM : Hid (k + 1 = m) := hm1
          have hmm : m ≤ 1001 := by omega
          have hm0 : 1 ≤ m := by omega
          clear own3 own3' hgrow3 hnn3 O12 O2 hm1
          go_wp2_with (at_builtin; refine wpList_append_own _ rfl _ _ 23 rfl w1.heap.size 9 i0 (.string ⟨#[]⟩) 1 16 Tryz.underlying23 hti hz0 hz1 hz2 rfl (by decide) (.slice (some ⟨g3, 0, none⟩) m c3) m (strV (L.take k) ++ [.string s]) rfl O3.out ⟨g1, 0, none⟩ d c1 (strV (L.drop k)) rfl (by rw [strV_length, HD.out]; omega) (strV_cells HS3.out) (by intro u hu; unfold strV at hu; obtain ⟨y, _, rfl⟩ := List.mem_map.1 hu; rfl) (by unfold maxLen; omega) (by omega) (by omega) ?_)
          intro v4 w4 own4 hgrow4 hnn4
          have hb34 : Below w1.heap.size w3 w4 := by
            refine (Below.refl w1.heap.size w3).grown hgrow4 (by omega) ?_
            intro kk hkk
            exact (O3.out.lt kk hkk).1
          have hx4 : Below w.heap.size w w4 := hx3.trans (hb34.mono hs1)
          have hlen : (putN L s).length = m + d := by
            rw [HPut.out, List.length_append, List.length_cons, HT.out, HD.out, ← HM.out]; omega
          have own5 : w4.ownsRow w1.heap.size 9 1 v4 (m + d) (strV (putN L s)) := by
            have e : strV (putN L s) = strV (L.take k) ++ .string s :: strV (L.drop k) := by
              rw [HPut.out]; unfold strV; rw [List.map_append, List.map_cons]
            rw [e]
            exact own4
          obtain ⟨g4, c4, rfl, hc4, hc4m⟩ : ∃ g4 c4, v4 = .slice (some ⟨g4, 0, none⟩) (m + d) c4 ∧ m + d ≤ c4 ∧ c4 ≤ maxLen := by
            rcases own5.2 with ⟨h', h''⟩ | ⟨g4, c4, cur, h', _, _, h1, h2, _⟩
            · exfalso; omega
            · exact ⟨g4, c4, h', h1, h2⟩
          have fin : Hid (TxPost w (putN L s) (.returned (.slice (some ⟨g4, 0, none⟩) (m + d) c4)) w4) := ⟨g4, c4, by rw [hlen], by rw [hlen]; exact hc4, hc4m, own_strs1 own5 hlen, hx4⟩
          clear own4 own5 hgrow4 hnn4 O3 HS3 hlen
          go_wp2
          go_ret
          exact fin.out
    · have hi1 : ¬ (k : Int) < (N : Int) := by omega
      have hkE : k = N := by omega
      have HPut : Hid (putN L s = L.take k ++ s :: L.drop k) := by
        have h1 := putN_at (L := L) (s := s) (k := k) (by rw [HN.out]; exact hkN) hlt.out (fun h => absurd h (by rw [HN.out]; omega))
        rw [dif_neg (by rw [HN.out]; omega)] at h1
        have : putN L s = L.take k ++ s :: L.drop k := by
          rw [h1, List.take_of_length_le (by rw [HN.out]; omega), List.drop_eq_nil_of_le (by rw [HN.out]; omega)]
        exact this
      clear hlt hkE
      by_cases hkc : k < cap
      · have hkc2 : (k : Int) < (cap : Int) := by omega
        have hk0 : (0 : Int) ≤ (k : Int) := by omega
        have hk1 : (k : Int) ≤ (N : Int) := by omega
        have hk2 : (k : Int) ≤ (cap : Int) := by omega
        have hN2 : (N : Int) ≤ (cap : Int) := by omega
        obtain ⟨d, hd⟩ : ∃ d, N - k = d := ⟨_, rfl⟩
        have hdI : (N : Int) - (k : Int) = (d : Int) := by omega
        obtain ⟨f, hf⟩ : ∃ f, cap - k = f := ⟨_, rfl⟩
        have hfI : (cap : Int) - (k : Int) = (f : Int) := by omega
        have HD : Hid ((L.drop k).length = d) := by
          have : (L.drop k).length = d := by rw [List.length_drop, HN.out]; exact hd
          exact this
        have HT : Hid ((L.take k).length = k) := by
          have : (L.take k).length = k := by rw [List.length_take, HN.out]; omega
          exact this
        have HRd : Hid (StrsAt w (some ⟨g, k, none⟩) (L.drop k)) := by
          have : StrsAt w (some ⟨g, k, none⟩) (L.drop k) := by
            intro j hj
            rw [List.length_drop] at hj
            obtain ⟨b, o, e, h1, h2⟩ := HR.out (k + j) (by omega)
            simp only [Option.some.injEq, Addr.mk.injEq, and_true] at e
            obtain ⟨rfl, rfl⟩ := e
            refine ⟨g, k, rfl, h1, ?_⟩
            rw [Nat.zero_add] at h2
            rw [List.getElem_drop]
            exact h2
          exact this
        have HRt : Hid (StrsAt w (some ⟨g, 0, none⟩) (L.take k)) := by
          have : StrsAt w (some ⟨g, 0, none⟩) (L.take k) := by
            intro j hj
            rw [List.length_take] at hj
            obtain ⟨b, o, e, h1, h2⟩ := HR.out j (by omega)
            refine ⟨b, o, e, h1, ?_⟩
            rw [List.getElem_take]
            exact h2
          exact this
        have hdm : d ≤ 1000 := by omega
        go_wp2_with fail
        refine (texts_spec _ _ (L.drop k) d HD.out _ HRd.out (fun h => by cases h) (by omega)).mono ?_
        rintro e w1 ⟨g1, c1, rfl, hg1, hc1, own1, hb1⟩
        have O1 : Hid (w1.ownsRow w.heap.size 9 1 (.slice (some ⟨g1, 0, none⟩) (L.drop k).length c1) (L.drop k).length (strV (L.drop k))) := own1
        clear own1
        go_wp2_with fail
        refine (texts_spec _ _ (L.take k) k HT.out _ (HRt.out.below hb1) (fun h => by cases h) (by omega)).mono ?_
        rintro e w2 ⟨g2, c2, rfl, hg2, hc2, own2, hb2⟩
        have hx2 := chain hb1 hb2
        have O2 : Hid (w2.ownsRow w1.heap.size 9 1 (.slice (some ⟨g2, 0, none⟩) k c2) k (strV (L.take k))) := by
          have := own2
          rw [HT.out] at this
          exact this
        have O12 : Hid (w2.ownsRow w.heap.size 9 1 (.slice (some ⟨g1, 0, none⟩) d c1) d (strV (L.drop k))) := by
          have := own_below O1.out hb2
          rw [HD.out] at this
          exact this
        have hs1 := hb1.size
        have hs2 := hb2.size
        have hg1lt := (O1.out.lt g1 rfl).2
        clear own2 O1 hb1 hb2
        go_wp2_with (at_builtin; refine wpList_append_own _ rfl _ _ 23 rfl w1.heap.size 9 i0 (.string ⟨#[]⟩) 1 16 Tryz.underlying23 hti hz0 hz1 hz2 rfl (by decide) _ _ _ rfl (O2.out.alloc _) ⟨w2.heap.size, 0, none⟩ 1 1 [.string s] rfl rfl (cells1S w2 _) (by intro u hu; simp at hu; subst hu; rfl) (by unfold maxLen; omega) (by omega) (by simp; omega) ?_)
        intro v3 w3 own3 hgrow3 hnn3
        have hb23 : Below w1.heap.size w2 w3 := by
          refine (((Below.refl w1.heap.size w2).alloc (by omega) _).grown hgrow3 (by simp; omega) ?_)
          intro kk hkk
          exact (O2.out.lt kk hkk).1
        have hx3 : Below w.heap.size w w3 := hx2.trans (hb23.mono hs1)
        have HS3 : Hid (StrsAt w3 (some ⟨g1, 0, none⟩) (L.drop k)) := by
          have h2 := own_strs1 O12.out HD.out
          have : StrsAt w3 (some ⟨g1, 0, none⟩) (L.drop k) := by
            intro j hj
            obtain ⟨b, o, e, h1, h3⟩ := h2 j hj
            simp only [Option.some.injEq, Addr.mk.injEq, and_true] at e
            obtain ⟨rfl, rfl⟩ := e
            exact ⟨g1, 0, rfl, Nat.lt_of_lt_of_le h1 hb23.size, by rw [hb23.cell (p := ⟨g1, 0 + j, none⟩) hg1lt]; exact h3⟩
          exact this
        obtain ⟨m, hm1⟩ : ∃ m, k + 1 = m := ⟨_, rfl⟩
        have own3' : w3.ownsRow w1.heap.size 9 1 v3 m (strV (L.take k) ++ [.string s]) := by rw [← hm1]; exact own3
        obtain ⟨g3, c3, rfl⟩ : ∃ g3 c3, v3 = .slice (some ⟨g3, 0, none⟩) m c3 := by
          rcases own3'.2 with ⟨h', h''⟩ | ⟨g3, c3, cur, h', _⟩
          · exfalso; omega
          · exact ⟨g3, c3, h'⟩
        have O3 : Hid (w3.ownsRow w1.heap.size 9 1 (.slice (some ⟨g3, 0, none⟩) m c3) m (strV (L.take k) ++ [.string s])) := own3'
        have hs3 := hb23.size
        have HM : Hid (k + 1 = m) := hm1
        have hmm : m ≤ 1001 := by omega
        have hm0 : 1 ≤ m := by omega
        clear own3 own3' hgrow3 hnn3 O12 O2 hm1
        go_wp2_with (at_builtin; refine wpList_append_own _ rfl _ _ 23 rfl w1.heap.size 9 i0 (.string ⟨#[]⟩) 1 16 Tryz.underlying23 hti hz0 hz1 hz2 rfl (by decide) (.slice (some ⟨g3, 0, none⟩) m c3) m (strV (L.take k) ++ [.string s]) rfl O3.out ⟨g1, 0, none⟩ d c1 (strV (L.drop k)) rfl (by rw [strV_length, HD.out]; omega) (strV_cells HS3.out) (by intro u hu; unfold strV at hu; obtain ⟨y, _, rfl⟩ := List.mem_map.1 hu; rfl) (by unfold maxLen; omega) (by omega) (by omega) ?_)
        intro v4 w4 own4 hgrow4 hnn4
        have hb34 : Below w1.heap.size w3 w4 := by
          refine (Below.refl w1.heap.size w3).grown hgrow4 (by omega) ?_
          intro kk hkk
          exact (O3.out.lt kk hkk).1
        have hx4 : Below w.heap.size w w4 := hx3.trans (hb34.mono hs1)
        have hlen : (putN L s).length = m + d := by
          rw [HPut.out, List.length_append, List.length_cons, HT.out, HD.out, ← HM.out]; omega
        have own5 : w4.ownsRow w1.heap.size 9 1 v4 (m + d) (strV (putN L s)) := by
          have e : strV (putN L s) = strV (L.take k) ++ .string s :: strV (L.drop k) := by
            rw [HPut.out]; unfold strV; rw [List.map_append, List.map_cons]
          rw [e]
          exact own4
        obtain ⟨g4, c4, rfl, hc4, hc4m⟩ : ∃ g4 c4, v4 = .slice (some ⟨g4, 0, none⟩) (m + d) c4 ∧ m + d ≤ c4 ∧ c4 ≤ maxLen := by
          rcases own5.2 with ⟨h', h''⟩ | ⟨g4, c4, cur, h', _, _, h1, h2, _⟩
          · exfalso; omega
          · exact ⟨g4, c4, h', h1, h2⟩
        have fin : Hid (TxPost w (putN L s) (.returned (.slice (some ⟨g4, 0, none⟩) (m + d) c4)) w4) := ⟨g4, c4, by rw [hlen], by rw [hlen]; exact hc4, hc4m, own_strs1 own5 hlen, hx4⟩
        clear own4 own5 hgrow4 hnn4 O3 HS3 hlen
        go_wp2
        go_ret
        exact fin.out

      · obtain rfl : k = cap := by omega
        have hk0 : (0 : Int) ≤ (k : Int) := by omega
        have hk1 : (k : Int) ≤ (N : Int) := by omega
        have hk2 : (k : Int) ≤ (k : Int) := by omega
        have hN2 : (N : Int) ≤ (k : Int) := by omega
        obtain ⟨d, hd⟩ : ∃ d, N - k = d := ⟨_, rfl⟩
        have hdI : (N : Int) - (k : Int) = (d : Int) := by omega
        obtain ⟨f, hf⟩ : ∃ f, k - k = f := ⟨_, rfl⟩
        have hfI : (k : Int) - (k : Int) = (f : Int) := by omega
        have HD : Hid ((L.drop k).length = d) := by
          have : (L.drop k).length = d := by rw [List.length_drop, HN.out]; exact hd
          exact this
        have HT : Hid ((L.take k).length = k) := by
          have : (L.take k).length = k := by rw [List.length_take, HN.out]; omega
          exact this
        have HRd : Hid (StrsAt w (some ⟨g, 0, none⟩) (L.drop k)) := by
          have : StrsAt w (some ⟨g, 0, none⟩) (L.drop k) := by
            intro j hj
            exfalso
            rw [List.length_drop, HN.out] at hj
            omega
          exact this
        have HRt : Hid (StrsAt w (some ⟨g, 0, none⟩) (L.take k)) := by
          have : StrsAt w (some ⟨g, 0, none⟩) (L.take k) := by
            intro j hj
            rw [List.length_take] at hj
            obtain ⟨b, o, e, h1, h2⟩ := HR.out j (by omega)
            refine ⟨b, o, e, h1, ?_⟩
            rw [List.getElem_take]
            exact h2
          exact this
        have hdm : d ≤ 1000 := by omega
        go_wp2_with fail
        refine (texts_spec _ _ (L.drop k) d HD.out _ HRd.out (fun h => by cases h) (by omega)).mono ?_
        rintro e w1 ⟨g1, c1, rfl, hg1, hc1, own1, hb1⟩
        have O1 : Hid (w1.ownsRow w.heap.size 9 1 (.slice (some ⟨g1, 0, none⟩) (L.drop k).length c1) (L.drop k).length (strV (L.drop k))) := own1
        clear own1
        go_wp2_with fail
        refine (texts_spec _ _ (L.take k) k HT.out _ (HRt.out.below hb1) (fun h => by cases h) (by omega)).mono ?_
        rintro e w2 ⟨g2, c2, rfl, hg2, hc2, own2, hb2⟩
        have hx2 := chain hb1 hb2
        have O2 : Hid (w2.ownsRow w1.heap.size 9 1 (.slice (some ⟨g2, 0, none⟩) k c2) k (strV (L.take k))) := by
          have := own2
          rw [HT.out] at this
          exact this
        have O12 : Hid (w2.ownsRow w.heap.size 9 1 (.slice (some ⟨g1, 0, none⟩) d c1) d (strV (L.drop k))) := by
          have := own_below O1.out hb2
          rw [HD.out] at this
          exact this
        have hs1 := hb1.size
        have hs2 := hb2.size
        have hg1lt := (O1.out.lt g1 rfl).2
        clear own2 O1 hb1 hb2
        go_wp2_with (at_builtin; refine wpList_append_own _ rfl _ _ 23 rfl w1.heap.size 9 i0 (.string ⟨#[]⟩) 1 16 Tryz.underlying23 hti hz0 hz1 hz2 rfl (by decide) _ _ _ rfl (O2.out.alloc _) ⟨w2.heap.size, 0, none⟩ 1 1 [.string s] rfl rfl (cells1S w2 _) (by intro u hu; simp at hu; subst hu; rfl) (by unfold maxLen; omega) (by omega) (by simp; omega) ?_)
        intro v3 w3 own3 hgrow3 hnn3
        have hb23 : Below w1.heap.size w2 w3 := by
          refine (((Below.refl w1.heap.size w2).alloc (by omega) _).grown hgrow3 (by simp; omega) ?_)
          intro kk hkk
          exact (O2.out.lt kk hkk).1
        have hx3 : Below w.heap.size w w3 := hx2.trans (hb23.mono hs1)
        have HS3 : Hid (StrsAt w3 (some ⟨g1, 0, none⟩) (L.drop k)) := by
          have h2 := own_strs1 O12.out HD.out
          have : StrsAt w3 (some ⟨g1, 0, none⟩) (L.drop k) := by
            intro j hj
            obtain ⟨b, o, e, h1, h3⟩ := h2 j hj
            simp only [Option.some.injEq, Addr.mk.injEq, and_true] at e
            obtain ⟨rfl, rfl⟩ := e
            exact ⟨g1, 0, rfl, Nat.lt_of_lt_of_le h1 hb23.size, by rw [hb23.cell (p := ⟨g1, 0 + j, none⟩) hg1lt]; exact h3⟩
          exact this
        obtain ⟨m, hm1⟩ : ∃ m, k + 1 = m := ⟨_, rfl⟩
        have own3' : w3.ownsRow w1.heap.size 9 1 v3 m (strV (L.take k) ++ [.string s]) := by rw [← hm1]; exact own3
        obtain ⟨g3, c3, rfl⟩ : ∃ g3 c3, v3 = .slice (some ⟨g3, 0, none⟩) m c3 := by
          rcases own3'.2 with ⟨h', h''⟩ | ⟨g3, c3, cur, h', _⟩
          · exfalso; omega
          · exact ⟨g3, c3, h'⟩
        have O3 : Hid (w3.ownsRow w1.heap.size 9 1 (.slice (some ⟨g3, 0, none⟩) m c3) m (strV (L.take k) ++ [.string s])) := own3'
        have hs3 := hb23.size
        have HM : Hid (k + 1 = m) := hm1
        have hmm : m ≤ 1001 := by omega
        have hm0 : 1 ≤ m := by omega
        clear own3 own3' hgrow3 hnn3 O12 O2 hm1
        go_wp2_with (at_builtin; refine wpList_append_own _ rfl _ _ 23 rfl w1.heap.size 9 i0 (.string ⟨#[]⟩) 1 16 Tryz.underlying23 hti hz0 hz1 hz2 rfl (by decide) (.slice (some ⟨g3, 0, none⟩) m c3) m (strV (L.take k) ++ [.string s]) rfl O3.out ⟨g1, 0, none⟩ d c1 (strV (L.drop k)) rfl (by rw [strV_length, HD.out]; omega) (strV_cells HS3.out) (by intro u hu; unfold strV at hu; obtain ⟨y, _, rfl⟩ := List.mem_map.1 hu; rfl) (by unfold maxLen; omega) (by omega) (by omega) ?_)
        intro v4 w4 own4 hgrow4 hnn4
        have hb34 : Below w1.heap.size w3 w4 := by
          refine (Below.refl w1.heap.size w3).grown hgrow4 (by omega) ?_
          intro kk hkk
          exact (O3.out.lt kk hkk).1
        have hx4 : Below w.heap.size w w4 := hx3.trans (hb34.mono hs1)
        have hlen : (putN L s).length = m + d := by
          rw [HPut.out, List.length_append, List.length_cons, HT.out, HD.out, ← HM.out]; omega
        have own5 : w4.ownsRow w1.heap.size 9 1 v4 (m + d) (strV (putN L s)) := by
          have e : strV (putN L s) = strV (L.take k) ++ .string s :: strV (L.drop k) := by
            rw [HPut.out]; unfold strV; rw [List.map_append, List.map_cons]
          rw [e]
          exact own4
        obtain ⟨g4, c4, rfl, hc4, hc4m⟩ : ∃ g4 c4, v4 = .slice (some ⟨g4, 0, none⟩) (m + d) c4 ∧ m + d ≤ c4 ∧ c4 ≤ maxLen := by
          rcases own5.2 with ⟨h', h''⟩ | ⟨g4, c4, cur, h', _, _, h1, h2, _⟩
          · exfalso; omega
          · exact ⟨g4, c4, h', h1, h2⟩
        have fin : Hid (TxPost w (putN L s) (.returned (.slice (some ⟨g4, 0, none⟩) (m + d) c4)) w4) := ⟨g4, c4, by rw [hlen], by rw [hlen]; exact hc4, hc4m, own_strs1 own5 hlen, hx4⟩
        clear own4 own5 hgrow4 hnn4 O3 HS3 hlen
        go_wp2
        go_ret
        exact fin.out
theorem namesN_length (l : List TI) : (namesN l).length ≤ l.length := by
  suffices h : ∀ (l : List TI) (L : List ByteArray), (l.foldl (fun L x => if x.1 = 2 then putN L x.2.2 else L) L).length ≤ L.length + l.length by
    have := h l []
    simpa [namesN] using this
  intro l
  induction l with
  | nil => intro L; exact Nat.le_refl _
  | cons x l ih =>
    intro L
    rw [List.foldl_cons, List.length_cons]
    refine Nat.le_trans (ih _) ?_
    split
    · have := putN_length L x.2.2
      omega
    · omega
theorem strsAt_none (w : World) (a : Option Addr) : StrsAt w a [] := fun j hj => by simp at hj
set_option maxRecDepth 100000 in
set_option maxHeartbeats 4000000 in
theorem namesof_spec (a : Option Addr) (cap : Nat) (l : List TI) (n : Nat) (hn : l.length = n) (w : World) (hrow : ItmAt w a l) (hfit : FitItm l) (hm : n ≤ maxLen) :
    Calls Tryz.prog 66 #[.slice a n cap] w (TxPost w (namesR l)) := by
  have HN : Hid (l.length = n) := hn
  have HR : Hid (ItmAt w a l) := hrow
  have HF : Hid (FitItm l) := hfit
  have HM : Hid (n ≤ maxLen) := hm
  obtain ⟨b, hb⟩ : ∃ b, sumB l = b := ⟨_, rfl⟩
  have HB : Hid (sumB l = b) := hb
  clear hrow hfit hn hb
  unfold maxLen at hm
  go_enter Tryz.func66, Tryz.ntmps66
  go_wp2
  go_loopw [3, 4] (fun ov i wr => ∃ k N g c : Nat, k ≤ n ∧ i = .int .i64 k ∧ ov = .slice (some ⟨g, 0, none⟩) N c ∧ N ≤ c ∧ c ≤ maxLen ∧ (k = 0 ∨ b = true) ∧ Hid ((namesN (l.take k)).length = N) ∧ Hid (StrsAt wr (some ⟨g, 0, none⟩) (namesN (l.take k))) ∧ Below w.heap.size w wr) (fun _ i _ => n - (intOf i).toNat)
  case atStart => exact ⟨0, 0, _, 0, Nat.zero_le _, rfl, rfl, Nat.le_refl _, Nat.zero_le _, .inl rfl, rfl, strsAt_none _ _, (Below.refl _ _).alloc (Nat.le_refl _) _⟩
  case round =>
    obtain ⟨k, N, g, c, hkn, rfl, rfl, hNc, hcm, hkb, hL, hS, hbw⟩ := hrel
    by_cases hlt : k < n
    · have hi1 : (k : Int) < (n : Int) := by omega
      have hi0 : (0 : Int) ≤ (k : Int) := by omega
      go_wp2_with fail
      refine (sum_spec _ _ l n HN.out _ (HR.out.below hbw) HF.out HM.out b HB.out).mono ?_
      rintro e w1 ⟨rfl, hb1⟩
      have hx1 := chain hbw hb1
      cases b
      · have hk0 : k = 0 := by rcases hkb with h | h; exact h; cases h
        have fin : Hid (TxPost w (namesR l) (.returned (.slice (some ⟨g, 0, none⟩) N c)) w1) := by
          subst hk0
          have h1 := hL.out
          rw [List.take_zero] at h1
          have h2 : N = 0 := h1.symm
          subst h2
          have h3 : namesR l = [] := by unfold namesR; rw [HB.out]; rfl
          have : TxPost w (namesR l) (.returned (.slice (some ⟨g, 0, none⟩) 0 c)) w1 := by
            rw [h3]
            exact ⟨g, c, rfl, Nat.zero_le _, hcm, strsAt_none _ _, hx1⟩
          exact this
        clear hL hS hkb hk0
        go_wp2
        go_ret
        exact fin.out
      · have hlk : k < l.length := by rw [HN.out]; exact hlt
        have hn40 : n ≤ 40 := by
          have := HB.out
          unfold sumB at this
          simp at this
          rw [HN.out] at this
          exact this.2
        obtain ⟨gg, o, rfl, hgw, c0, c1, c2, c3, c4⟩ := HR.out.below hx1 k hlk
        have hsn := namesN_snoc (l.take k) l[k]
        rw [← List.take_succ_eq_append_getElem hlk] at hsn
        have HSn : Hid (namesN (l.take (k + 1)) = if l[k].1 = 2 then putN (namesN (l.take k)) l[k].2.2 else namesN (l.take k)) := hsn
        clear hsn
        have hN40 : N ≤ 40 := by
          have := namesN_length (l.take k)
          rw [hL.out, List.length_take] at this
          omega
        have HS1 : Hid (StrsAt w1 (some ⟨g, 0, none⟩) (namesN (l.take k))) := hS.out.below hb1
        clear hS hb1 hkb c1 c2 c3
        generalize l[k] = x at c0 c4 HSn
        by_cases hx2 : x.1 = 2
        · obtain ⟨kd, ⟨ck, nm⟩⟩ := x
          simp only at c0 c4 HSn hx2
          subst hx2
          have HS2 : Hid (namesN (l.take (k + 1)) = putN (namesN (l.take k)) nm) := by
            have : namesN (l.take (k + 1)) = putN (namesN (l.take k)) nm := by rw [HSn.out]; rfl
            exact this
          clear HSn
          go_wp2_with fail
          refine (put8_spec g c (namesN (l.take k)) N hL.out nm _ HS1.out hNc (by omega) hcm).mono ?_
          rintro e w2 ⟨g2, c2, rfl, h1, h2, h3, hb2⟩
          rw [← HS2.out] at h1 h3 ⊢
          have hx3 := chain hx1 hb2
          obtain ⟨N2, hN2⟩ : ∃ N2, (namesN (l.take (k + 1))).length = N2 := ⟨_, rfl⟩
          rw [hN2] at h1 ⊢
          have HN2 : Hid ((namesN (l.take (k + 1))).length = N2) := hN2
          have HS3 : Hid (StrsAt w2 (some ⟨g2, 0, none⟩) (namesN (l.take (k + 1)))) := h3
          clear hN2 h3 HS2 c0 c4 hb2
          go_wp2
          go_roundw
          case rel => exact ⟨k + 1, N2, g2, c2, by omega, by go_num, rfl, h1, h2, .inr (by first | rfl | trivial), HN2, HS3, hx3⟩
          case measure => simp [intOf]; omega
        · have HS2 : Hid (namesN (l.take (k + 1)) = namesN (l.take k)) := by
            have : namesN (l.take (k + 1)) = namesN (l.take k) := by rw [HSn.out, if_neg hx2]
            exact this
          clear HSn
          generalize x.1 = kd at c0 hx2
          go_wp2
          go_roundw
          case rel => exact ⟨k + 1, N, g, c, by omega, by go_num, rfl, hNc, hcm, .inr (by first | rfl | trivial), by rw [HS2.out]; exact hL, by rw [HS2.out]; exact HS1, hx1⟩
          case measure => simp [intOf]; omega
    · have hi1 : ¬ (k : Int) < (n : Int) := by omega
      have fin : Hid (TxPost w (namesR l) (.returned (.slice (some ⟨g, 0, none⟩) N c)) wr) := by
        have ht : l.take k = l := List.take_of_length_le (by rw [HN.out]; omega)
        have h1 := hL.out
        have h2 := hS.out
        rw [ht] at h1 h2
        have h3 : namesR l = namesN l := by
          unfold namesR
          rcases hkb with h | h
          · have : l = [] := List.length_eq_zero_iff.1 (by rw [HN.out]; omega)
            subst this
            split <;> rfl
          · rw [HB.out, h]; rfl
        have : TxPost w (namesR l) (.returned (.slice (some ⟨g, 0, none⟩) N c)) wr := by
          rw [h3]
          exact ⟨g, c, by rw [h1], by rw [h1]; exact hNc, hcm, h2, hbw⟩
        exact this
      clear hL hS hkb
      go_wp2
      go_ret
      exact fin.out
end Go.Proofs.YtegnekbbbfncgaaGreatDoor
