/-
  The contract of the model's TextOf.
-/
import Derived.Test.YtngggdoaecbdgalDoorTokS
namespace Go.Proofs.YtngggdoaecbdgalDoor
open Go.ChangeShapes Go.WideShapes Go.ChangeAt Go.RowKit
attribute [local go_sem ↓] Go.wp_at_zero Go.wp_at_succ
attribute [local simp] World.cell?_alloc_past World.cell?_alloc_at World.frozen?_alloc_at cell_far cell_off cell_here World.frozen?_alloc_past

theorem tokT_len {t : TT} (ht : tokB t = true) : (tokT t).length ≤ 14 := by
  rcases tokB_kind ht with ⟨s, rfl, hn⟩ | ⟨c, rfl, hc⟩ | ⟨s, rfl, hs⟩
  · unfold nameK nameB at hn
    simp only [Bool.and_eq_true, Bool.not_eq_true', decide_eq_true_eq] at hn
    obtain ⟨⟨h1, h2, h3⟩, _⟩ := hn
    rw [tokT_1, ← Lib.size_eq]
    omega
  · rw [tokT_2]
    obtain ⟨k, n, x⟩ := c
    exact l4T_len hc
  · rw [tokT_3]
    unfold signB at hs
    rw [Bool.or_eq_true] at hs
    rcases hs with hs | hs
    · have hm := inB_iff.1 hs
      simp only [signW, List.mem_cons, List.not_mem_nil, or_false] at hm
      rcases hm with rfl | rfl | rfl | rfl <;> decide
    · have hm := inB_iff.1 hs
      simp only [signO, List.mem_cons, List.not_mem_nil, or_false] at hm
      rcases hm with rfl | rfl | rfl | rfl | rfl | rfl | rfl | rfl <;> decide
def textsK (l : List TT) : List ByteArray := l.map fun t => ⟨(tokT t).toArray⟩
theorem textsK_snoc (l : List TT) (k : Nat) (h : k < l.length) : textsK (l.take (k + 1)) = textsK (l.take k) ++ [⟨(tokT l[k]).toArray⟩] := by
  unfold textsK; rw [List.take_succ_eq_append_getElem h, List.map_append]; rfl
theorem rawT_textsK (l : List TT) : rawT (textsK l) = l.map tokT := by
  unfold rawT textsK; rw [List.map_map]; rfl
theorem toksT_texts {l : List TT} (h : l.all tokB = true) : toksT l = ⟨(Lib.join (rawT (textsK l)) [32]).toArray⟩ := by
  unfold toksT; rw [if_pos h, rawT_textsK]
theorem textsK_14 {l : List TT} (h : l.all tokB = true) : ∀ x ∈ textsK l, x.size ≤ 14 := by
  intro x hx
  unfold textsK at hx
  obtain ⟨c, hc, rfl⟩ := List.mem_map.1 hx
  rw [Lib.size_eq, bytes_mk]
  exact tokT_len (List.all_eq_true.1 h c hc)
theorem textsK_length (l : List TT) : (textsK l).length = l.length := by unfold textsK; rw [List.length_map]
theorem l7_spec (t : TT) (ht : tokB t = true) (y : ByteArray) (hy : (⟨(tokT t).toArray⟩ : ByteArray) = y) (w : World) :
    Calls Tryd.prog 32 #[.agg #[.int .i64 t.1, .string t.2.1, .int .i64 t.2.2.1, .int .i64 t.2.2.2.1, .string t.2.2.2.2]] w fun e w' => e = .returned (.string y) ∧ Below w.heap.size w w' := by
  rcases tokB_kind ht with ⟨s, rfl, hn⟩ | ⟨⟨ck, cn, ct⟩, rfl, hc⟩ | ⟨s, rfl, hs⟩
  · rw [tokT_1] at hy
    obtain rfl : s = y := hy
    unfold zeroC
    dsimp only
    go_enter Tryd.func32, Tryd.ntmps32
    go_wp2
    go_ret
    exact ⟨rfl, by go_grown⟩
  · rw [tokT_2] at hy
    dsimp only
    have hA : Below w.heap.size w (w.alloc (.cells #[.int .i64 2, .string ⟨#[]⟩, .int .i64 ck, .int .i64 cn, .string ct] 30)) := (Below.refl _ _).alloc (Nat.le_refl _) _
    go_enter Tryd.func32, Tryd.ntmps32
    go_wp2_with fail
    refine (l4_spec ck cn ct hc y hy _).mono ?_
    rintro e w1 ⟨rfl, hb1⟩
    have hx := chain hA hb1
    go_wp2
    go_ret
    exact ⟨rfl, hx⟩
  · rw [tokT_3] at hy
    obtain rfl : s = y := hy
    unfold zeroC
    dsimp only
    go_enter Tryd.func32, Tryd.ntmps32
    go_wp2
    go_ret
    exact ⟨rfl, by go_grown⟩
theorem allK_snoc (l : List TT) (k : Nat) (h : k < l.length) : (l.take (k + 1)).all tokB = ((l.take k).all tokB && tokB l[k]) := by
  rw [List.take_succ_eq_append_getElem h, List.all_append]; simp
set_option maxRecDepth 100000 in
set_option maxHeartbeats 2000000 in
theorem textof_spec (a : Option Addr) (cap : Nat) (l : List TT) (n : Nat) (hn : l.length = n) (w : World) (hrow : TokAt w a l) (hfit : FitTok l) (hm : n ≤ 1048576) (y : ByteArray) (hy : toksT l = y) :
    Calls Tryd.prog 16 #[.slice a n cap] w fun e w' => e = .returned (.string y) ∧ Below w.heap.size w w' := by
  subst hn
  obtain ⟨i0, hti, hz0, hz1, hz2⟩ := info_parts infoStr
  have HR : Hid (TokAt w a l) := hrow
  have HF : Hid (FitTok l) := hfit
  have HY : Hid (toksT l = y) := hy
  clear hrow hfit hy
  have own0 : Hid ((w.alloc (.cells #[] 9)).ownsRow w.heap.size 9 1 (.slice (some ⟨w.heap.size, 0, none⟩) 0 0) (textsK (l.take 0)).length ((textsK (l.take 0)).map Value.string)) :=
    ⟨rfl, .inr ⟨w.heap.size, 0, #[], rfl, Nat.le_refl _, by show (w.heap.push _)[w.heap.size]? = _; simp, Nat.le_refl _, by unfold maxLen; omega, rfl, rfl⟩⟩
  have hb0 : Below w.heap.size w (w.alloc (.cells #[] 9)) := (Below.refl _ _).alloc (Nat.le_refl _) _
  go_enter Tryd.func16, Tryd.ntmps16
  go_wp2
  go_loopw [3, 4] (fun v kk wr => ∃ k : Nat, k ≤ l.length ∧ kk = .int .i64 k ∧ Hid ((l.take k).all tokB = true) ∧ Hid (wr.ownsRow w.heap.size 9 1 v (textsK (l.take k)).length ((textsK (l.take k)).map Value.string)) ∧ Below w.heap.size w wr ∧ v ≠ .slice none 0 0) (fun _ kk _ => l.length - (intOf kk).toNat)
  case atStart => exact ⟨0, Nat.zero_le _, rfl, rfl, own0, hb0, by simp⟩
  case round =>
    obtain ⟨k, hk, rfl, hall, hO, hb, hvn⟩ := hrel
    by_cases hlt : k < l.length
    · obtain ⟨g, o, rfl, hgw, c0, c1, c2, c3, c4⟩ := HR.out.below hb k hlt
      have hi0 : (0 : Int) ≤ (k : Int) := by omega
      have hi1 : (k : Int) < (l.length : Int) := by omega
      obtain ⟨hf1, hf2⟩ := HF.out k hlt
      have hsn := textsK_snoc l k hlt
      have hlen : (textsK (l.take k)).length = k := by rw [textsK_length, List.length_take]; omega
      obtain ⟨z, hz⟩ : ∃ z : ByteArray, (⟨(tokT l[k]).toArray⟩ : ByteArray) = z := ⟨_, rfl⟩
      have hsn2 : textsK (l.take (k + 1)) = textsK (l.take k) ++ [z] := by rw [hsn, ← hz]
      have HS : Hid (textsK (l.take (k + 1)) = textsK (l.take k) ++ [z]) := hsn2
      have hal := allK_snoc l k hlt
      rw [hall.out, Bool.true_and] at hal
      have HAL : Hid ((l.take (k + 1)).all tokB = tokB l[k]) := hal
      have hno : Hid (tokB l[k] = false → y = ⟨#[]⟩) := by
        have : tokB l[k] = false → y = ⟨#[]⟩ := by
          intro e
          rw [← HY.out]
          unfold toksT
          rw [if_neg]
          intro h
          rw [List.all_eq_true.1 h _ (List.getElem_mem hlt)] at e
          cases e
        exact this
      clear hsn hsn2 hal
      have hOO := hO.out
      rw [hlen] at hOO
      generalize textsK (l.take k) = xs at HS hOO hlen
      obtain ⟨r, hr⟩ : ∃ r, tokB l[k] = r := ⟨_, rfl⟩
      have HZ : Hid ((⟨(tokT l[k]).toArray⟩ : ByteArray) = z) := hz
      have HRR : Hid (tokB l[k] = r) := hr
      clear hz hr
      generalize l[k] = x at c0 c1 c2 c3 c4 hf1 hf2 HZ HRR HAL hno
      go_wp2_with fail
      refine (tok_spec x _ hf1 hf2 r HRR.out).mono ?_
      rintro e w0 ⟨rfl, hb0'⟩
      cases r
      · obtain rfl : y = ⟨#[]⟩ := hno.out HRR.out
        have hx0 := chain hb hb0'
        clear c0 c1 c2 c3 c4
        go_wp2
        go_ret
        exact ⟨rfl, hx0⟩
      rw [← hb0'.cell (p := ⟨g, _, none⟩) hgw] at c0 c1 c2 c3 c4
      have hx0 := chain hb hb0'
      have hOO0 := own_below hOO hb0'
      clear hb0' hOO hO hno
      go_wp2_with fail
      refine (l7_spec x HRR.out z HZ.out _).mono ?_
      rintro e w1 ⟨rfl, hb1⟩
      clear c0 c1 c2 c3 c4
      have O1 := own_below hOO0 hb1
      have hx := chain hx0 hb1
      clear hOO0 hx0
      go_wp2_with (at_builtin; refine wpList_append_own _ rfl _ _ 54 rfl w.heap.size 9 i0 (.string ⟨#[]⟩) 1 16 Tryd.underlying54 hti hz0 hz1 hz2 rfl (by decide) _ _ _ rfl (O1.alloc _) ⟨w1.heap.size, 0, none⟩ 1 1 [.string z] rfl rfl ?c1 ?c2 ?c3 ?c4 ?c5 ?_)
      case c1 =>
        intro j u hj
        match j, hj with
        | 0, hj => simp at hj; subst hj; simp [Addr.add]
      case c2 => intro u hu; simp at hu; subst hu; rfl
      case c3 => unfold maxLen; omega
      case c4 => omega
      case c5 => have := hx.size; simp; omega
      intro v' w2 own2 hgrow hnn
      have hx2 : Below w.heap.size w w2 := by
        refine (hx.alloc hx.size _).grown hgrow (by have := hx.size; simp; omega) ?_
        intro kk hkk
        exact (O1.lt kk hkk).1
      have hvn2 : v' ≠ .slice none 0 0 := by first | exact hnn | exact fun e => hvn (hnn.1 e).1
      have SS : Hid (w2.ownsRow w.heap.size 9 1 v' (textsK (l.take (k + 1))).length ((textsK (l.take (k + 1))).map Value.string)) := by
        have : w2.ownsRow w.heap.size 9 1 v' (textsK (l.take (k + 1))).length ((textsK (l.take (k + 1))).map Value.string) := by
          rw [HS.out, List.length_append, hlen, List.map_append]; exact own2
        exact this
      clear own2 hgrow hnn O1
      go_wp2
      go_roundw
      case rel => exact ⟨k + 1, by omega, by go_num, HAL.out.trans HRR.out, SS, hx2, hvn2⟩
      case measure => simp [intOf]; omega
    · have hkl : k = l.length := by omega
      subst hkl
      have hi1 : ¬ (l.length : Int) < (l.length : Int) := by omega
      have hA := hall.out
      rw [List.take_length] at hA
      have hOO := hO.out
      rw [List.take_length] at hOO
      rcases hOO.2 with ⟨h', _⟩ | ⟨g, c, cur, h', hbg, _⟩
      · exact absurd h' hvn
      subst h'
      have HT : Hid (TextsAt wr g (textsK l)) := texts_own hOO
      have H14 : Hid (∀ x ∈ textsK l, x.size ≤ 14) := textsK_14 hA
      have HY2 : Hid ((⟨(Lib.join (rawT (textsK l)) [32]).toArray⟩ : ByteArray) = y) := by
        have : (⟨(Lib.join (rawT (textsK l)) [32]).toArray⟩ : ByteArray) = y := by rw [← HY.out, toksT_texts hA]
        exact this
      have HL : Hid ((textsK l).length ≤ 1048576) := by
        have : (textsK l).length ≤ 1048576 := by rw [textsK_length]; omega
        exact this
      clear hOO hO hA
      go_wp2_with fail
      refine (words_spec g c (textsK l) _ HT.out HL.out H14.out y HY2.out).mono ?_
      rintro e w2 ⟨rfl, rfl⟩
      go_wp2
      go_ret
      exact ⟨rfl, hb⟩
end Go.Proofs.YtngggdoaecbdgalDoor
