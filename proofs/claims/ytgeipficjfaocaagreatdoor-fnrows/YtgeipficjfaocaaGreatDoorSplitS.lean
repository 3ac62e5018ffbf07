/-
  The contract of the model's cutting of a text at the blanks.
-/
import Derived.Test.YtgeipficjfaocaaGreatDoorRowS
import Derived.Laws.DeepStrings4
namespace Go.Proofs.YtgeipficjfaocaaGreatDoor
open Go.ChangeShapes Go.WideShapes Go.ChangeAt Go.RowKit
attribute [local go_sem ↓] Go.wp_at_zero Go.wp_at_succ

/-- What the loop keeps: the pieces that it has, and the one under way. -/
def CutInv (s : ByteArray) (xs : List ByteArray) (from_ i : Nat) : Prop :=
  rawT xs ++ cutAt 32 ((s.data.toList.take i).drop from_) (s.data.toList.drop i) = pieces s.data.toList
theorem CutInv.start (s : ByteArray) : CutInv s [] 0 0 := by
  unfold CutInv rawT pieces; simp
theorem drop_get (s : ByteArray) (i : Nat) (h : i < s.size) : s.data.toList.drop i = s[i] :: s.data.toList.drop (i + 1) := by
  rw [List.drop_eq_getElem_cons (by rw [← Lib.size_eq]; exact h)]; rfl
theorem take_drop_snoc (s : ByteArray) (f i : Nat) (hf : f ≤ i) (h : i < s.size) : (s.data.toList.take (i + 1)).drop f = (s.data.toList.take i).drop f ++ [s[i]] := by
  rw [take_snoc s i h, List.drop_append_of_le_length (by rw [List.length_take, ← Lib.size_eq]; omega)]
theorem CutInv.go {s : ByteArray} {xs : List ByteArray} {f i : Nat} (h : CutInv s xs f i) (hf : f ≤ i) (hi : i < s.size) (hc : ¬ s[i].toNat = 32) : CutInv s xs f (i + 1) := by
  unfold CutInv at h ⊢
  rw [← h, drop_get s i hi, cutAt, if_neg (fun e => hc (by rw [e]; rfl)), take_drop_snoc s f i hf hi]
theorem CutInv.cut {s : ByteArray} {xs : List ByteArray} {f i : Nat} (h : CutInv s xs f i) (hi : i < s.size) (hc : s[i].toNat = 32) : CutInv s (xs ++ [s.extract f i]) (i + 1) (i + 1) := by
  unfold CutInv at h ⊢
  have e : s[i] = 32 := UInt8.toNat_inj.1 (by rw [hc]; rfl)
  rw [← h, drop_get s i hi, cutAt, if_pos e, rawT_snoc, Lib.extract_data]
  have e2 : (s.data.toList.take (i + 1)).drop (i + 1) = [] := List.drop_eq_nil_of_le (by rw [List.length_take]; omega)
  rw [e2, List.append_assoc, List.drop_take]
  rfl
theorem CutInv.last {s : ByteArray} {xs : List ByteArray} {f : Nat} (h : CutInv s xs f s.size) : rawT (xs ++ [s.extract f s.size]) = pieces s.data.toList := by
  unfold CutInv at h
  have e : s.data.toList.drop s.size = [] := List.drop_of_length_le (by rw [← Lib.size_eq]; exact Nat.le_refl _)
  rw [← h, rawT_snoc, Lib.extract_data, e, List.drop_take]
  rfl
theorem CutInv.len {s : ByteArray} {xs : List ByteArray} {f i : Nat} (h : CutInv s xs f i) : xs.length ≤ s.size := by
  unfold CutInv at h
  have h1 := congrArg List.length h
  rw [List.length_append] at h1
  have h2 : (rawT xs).length = xs.length := by unfold rawT; rw [List.length_map]
  have h3 := pieces_length s.data.toList
  have h4 : 1 ≤ (cutAt 32 ((s.data.toList.take i).drop f) (s.data.toList.drop i)).length := List.length_pos_iff.2 (cutAt_ne_nil _ _ _)
  rw [Lib.size_eq]
  omega

set_option maxRecDepth 100000 in
set_option maxHeartbeats 2000000 in
theorem split_spec (s : ByteArray) (hs : s.size ≤ 1048576) (w : World) :
    Calls Tryz.prog 30 #[.string s, .int .u8 32] w fun e w' => ∃ g c xs, e = .returned (.slice (some ⟨g, 0, none⟩) xs.length c) ∧ rawT xs = pieces s.data.toList ∧ w'.ownsRow w.heap.size 9 1 (.slice (some ⟨g, 0, none⟩) xs.length c) xs.length (xs.map Value.string) ∧ Below w.heap.size w w' := by
  obtain ⟨i0, hti, hz0, hz1, hz2⟩ := info_parts infoStr
  have own0 : Hid ((w.alloc (.cells #[] 9)).ownsRow w.heap.size 9 1 (.slice (some ⟨w.heap.size, 0, none⟩) 0 0) ([] : List ByteArray).length (([] : List ByteArray).map Value.string)) :=
    ⟨rfl, .inr ⟨w.heap.size, 0, #[], rfl, Nat.le_refl _, by show (w.heap.push _)[w.heap.size]? = _; simp, Nat.le_refl _, by unfold maxLen; omega, rfl, rfl⟩⟩
  have hb0 : Below w.heap.size w (w.alloc (.cells #[] 9)) := (Below.refl _ _).alloc (Nat.le_refl _) _
  go_enter Tryz.func30, Tryz.ntmps30
  go_wp2
  go_loopw [5, 6, 7] (fun v ff ii wr => ∃ (f i : Nat) (xs : List ByteArray), i ≤ s.size + 1 ∧ ff = .int .i64 f ∧ ii = .int .i64 i ∧ Hid ((i ≤ s.size ∧ f ≤ i ∧ CutInv s xs f i) ∨ (i = s.size + 1 ∧ rawT xs = pieces s.data.toList)) ∧ Hid (wr.ownsRow w.heap.size 9 1 v xs.length (xs.map Value.string)) ∧ Below w.heap.size w wr ∧ v ≠ .slice none 0 0) (fun _ _ ii _ => s.size + 1 - (intOf ii).toNat)
  case atStart => exact ⟨0, 0, [], by omega, rfl, rfl, .inl ⟨Nat.zero_le _, Nat.le_refl _, CutInv.start s⟩, own0, hb0, by simp⟩
  case round =>
    obtain ⟨f, i, xs, hi, rfl, rfl, hI, hO, hb, hvn⟩ := hrel
    by_cases hlast : i = s.size + 1
    · subst hlast
      have hn1 : ¬ ((s.size : Int) + 1 ≤ (s.size : Int)) := by omega
      have hraw : rawT xs = pieces s.data.toList := by
        rcases hI.out with ⟨h, _⟩ | ⟨_, h⟩
        · omega
        · exact h
      rcases hO.out.2 with ⟨h', _⟩ | ⟨g, c, cur, h', hbg, _⟩
      · exact absurd h' hvn
      subst h'
      have HF : Hid (rawT xs = pieces s.data.toList ∧ wr.ownsRow w.heap.size 9 1 (.slice (some ⟨g, 0, none⟩) xs.length c) xs.length (xs.map Value.string)) := ⟨hraw, hO.out⟩
      clear hraw hI hO
      go_wp2
      go_ret
      exact ⟨g, c, xs, rfl, HF.out.1, HF.out.2, hb⟩
    · have hle : i ≤ s.size := by omega
      obtain ⟨hfi, hC⟩ : f ≤ i ∧ CutInv s xs f i := by
        rcases hI.out with ⟨_, h⟩ | ⟨h, _⟩
        · exact h
        · omega
      have HC : Hid (CutInv s xs f i) := hC
      have hlen := hC.len
      clear hC hI hlast
      have hi1 : (i : Int) ≤ (s.size : Int) := by omega
      have hi0 : (0 : Int) ≤ (i : Int) := by omega
      have hf0 : (0 : Int) ≤ (f : Int) := by omega
      have hf1 : (f : Int) ≤ (i : Int) := by omega
      by_cases hend : i = s.size
      · subst hend
        have HN : Hid (rawT (xs ++ [s.extract f s.size]) = pieces s.data.toList) := HC.out.last
        have O1 := hO.out
        go_wp2_with (at_builtin; refine wpList_append_own _ rfl _ _ 44 rfl w.heap.size 9 i0 (.string ⟨#[]⟩) 1 16 Tryz.underlying44 hti hz0 hz1 hz2 rfl (by decide) _ _ _ rfl (O1.alloc _) ⟨wr.heap.size, 0, none⟩ 1 1 [.string (s.extract f s.size)] rfl rfl ?c1 ?c2 ?c3 ?c4 ?c5 ?_)
        case c1 =>
          intro j u hj
          match j, hj with
          | 0, hj => simp at hj; subst hj; simp [Addr.add]
        case c2 => intro u hu; simp at hu; subst hu; rfl
        case c3 => unfold maxLen; omega
        case c4 => omega
        case c5 => have := hb.size; simp; omega
        intro v' w2 own2 hgrow hnn
        have hx2 : Below w.heap.size w w2 := by
          refine (hb.alloc hb.size _).grown hgrow (by have := hb.size; simp; omega) ?_
          intro kk hkk
          exact (O1.lt kk hkk).1
        have hvn2 : v' ≠ .slice none 0 0 := by first | exact hnn | exact fun e => hvn (hnn.1 e).1
        have SS : Hid (w2.ownsRow w.heap.size 9 1 v' (xs ++ [s.extract f s.size]).length ((xs ++ [s.extract f s.size]).map Value.string)) := by
          have : w2.ownsRow w.heap.size 9 1 v' (xs ++ [s.extract f s.size]).length ((xs ++ [s.extract f s.size]).map Value.string) := by
            rw [List.length_append, List.map_append]; exact own2
          exact this
        clear own2 hgrow hnn O1 hO
        go_wp2
        go_roundw
        case rel => exact ⟨s.size + 1, s.size + 1, _, by omega, by go_num, by go_num, .inr ⟨rfl, HN.out⟩, SS, hx2, hvn2⟩
        case measure => simp [intOf]
      · have hlt : i < s.size := by omega
        have hlt' : (i : Int) < (s.size : Int) := by omega
        have hne : ((i : Int) == (s.size : Int)) = false := by rw [beq_eq_false_iff_ne]; omega
        by_cases hc : s[i].toNat = 32
        · have HN : Hid (CutInv s (xs ++ [s.extract f i]) (i + 1) (i + 1)) := HC.out.cut hlt hc
          have O1 := hO.out
          go_wp2_with (at_builtin; refine wpList_append_own _ rfl _ _ 44 rfl w.heap.size 9 i0 (.string ⟨#[]⟩) 1 16 Tryz.underlying44 hti hz0 hz1 hz2 rfl (by decide) _ _ _ rfl (O1.alloc _) ⟨wr.heap.size, 0, none⟩ 1 1 [.string (s.extract f i)] rfl rfl ?c1 ?c2 ?c3 ?c4 ?c5 ?_)
          case c1 =>
            intro j u hj
            match j, hj with
            | 0, hj => simp at hj; subst hj; simp [Addr.add]
          case c2 => intro u hu; simp at hu; subst hu; rfl
          case c3 => unfold maxLen; omega
          case c4 => omega
          case c5 => have := hb.size; simp; omega
          intro v' w2 own2 hgrow hnn
          have hx2 : Below w.heap.size w w2 := by
            refine (hb.alloc hb.size _).grown hgrow (by have := hb.size; simp; omega) ?_
            intro kk hkk
            exact (O1.lt kk hkk).1
          have hvn2 : v' ≠ .slice none 0 0 := by first | exact hnn | exact fun e => hvn (hnn.1 e).1
          have SS : Hid (w2.ownsRow w.heap.size 9 1 v' (xs ++ [s.extract f i]).length ((xs ++ [s.extract f i]).map Value.string)) := by
            have : w2.ownsRow w.heap.size 9 1 v' (xs ++ [s.extract f i]).length ((xs ++ [s.extract f i]).map Value.string) := by
              rw [List.length_append, List.map_append]; exact own2
            exact this
          clear own2 hgrow hnn O1 hO
          go_wp2
          go_roundw
          case rel => exact ⟨i + 1, i + 1, _, by omega, by go_num, by go_num, .inl ⟨by omega, Nat.le_refl _, HN.out⟩, SS, hx2, hvn2⟩
          case measure => simp [intOf]; omega
        · go_wp2
          go_roundw
          case rel => exact ⟨f, i + 1, xs, by omega, rfl, by go_num, .inl ⟨by omega, by omega, HC.out.go hfi hlt hc⟩, hO, hb, hvn⟩
          case measure => simp [intOf]; omega

end Go.Proofs.YtgeipficjfaocaaGreatDoor
