/-
  The contracts of the model's reading of tokens.
-/
import Derived.Test.YtgiknjlifocioaaDoorTokensI
import Derived.Test.YtgiknjlifocioaaDoorReadS2
import Derived.Deep.CutBlock
import Derived.Deep.DeepCutAuto
namespace Go.Proofs.YtgiknjlifocioaaDoor
open Go.ChangeShapes Go.WideShapes Go.ChangeAt Go.RowKit
attribute [local go_sem ↓] Go.wp_at_zero Go.wp_at_succ
attribute [local simp] World.cell?_alloc_past World.cell?_alloc_at World.frozen?_alloc_at cell_far cell_off cell_here World.frozen?_alloc_past

theorem far_spec (s : ByteArray) (hs : s.size ≤ 2000) (k : Nat) (hk : k < s.size) (w : World) :
    Calls Tryd.prog 16 #[.string s, .int .i64 (k : Int)] w fun e w' => e = .returned (.int .i64 ((k + min 14 (s.size - k) : Nat) : Int)) ∧ w' = w := by
  by_cases h : s.size - k > 14
  · have h1 : (14 : Int) < (s.size : Int) - (k : Int) := by omega
    go_enter Tryd.func16, Tryd.ntmps16
    go_wp2
    go_ret
    exact ⟨ret_int (by omega), rfl⟩
  · have h1 : ¬ (14 : Int) < (s.size : Int) - (k : Int) := by omega
    go_enter Tryd.func16, Tryd.ntmps16
    go_wp2
    go_ret
    exact ⟨ret_int (by omega), rfl⟩
def zeroTok : TT := (0, ⟨#[]⟩, zeroC)
/-- The token that begins there, and the place behind it. -/
def nextR (s : ByteArray) (k : Nat) : TT × Nat := match nextT (s.data.toList.drop k) with
  | some (t, e) => (t, k + e)
  | none => (zeroTok, k)
/-- The block of an answer that is a token: still zero, and open. -/
def Tok5 (w : World) (B : Nat) : Prop :=
  w.cell? ⟨B, 0, none⟩ = some (.int .i64 0) ∧ w.cell? ⟨B, 1, none⟩ = some (.string ⟨#[]⟩) ∧ w.cell? ⟨B, 2, none⟩ = some (.int .i64 0) ∧ w.cell? ⟨B, 3, none⟩ = some (.int .i64 0) ∧ w.cell? ⟨B, 4, none⟩ = some (.string ⟨#[]⟩) ∧ B < w.heap.size ∧
  w.frozen? ⟨B, 0, none⟩ = false ∧ w.frozen? ⟨B, 1, none⟩ = false ∧ w.frozen? ⟨B, 2, none⟩ = false ∧ w.frozen? ⟨B, 3, none⟩ = false ∧ w.frozen? ⟨B, 4, none⟩ = false
theorem Tok5.below {w w' : World} {B : Nat} (h : Tok5 w B) (hb : Below w.heap.size w w') : Tok5 w' B := by
  obtain ⟨h0, h1, h2, h3, h4, hB, f0, f1, f2, f3, f4⟩ := h
  have key : ∀ o, w'.cell? ⟨B, o, none⟩ = w.cell? ⟨B, o, none⟩ := fun o => hb.cell (p := ⟨B, o, none⟩) hB
  have fro : ∀ o, w'.frozen? ⟨B, o, none⟩ = w.frozen? ⟨B, o, none⟩ := fun o => hb.frozen (p := ⟨B, o, none⟩) hB
  have hs := hb.size
  exact ⟨(key _).trans h0, (key _).trans h1, (key _).trans h2, (key _).trans h3, (key _).trans h4, by omega, (fro _).trans f0, (fro _).trans f1, (fro _).trans f2, (fro _).trans f3, (fro _).trans f4⟩
theorem Tok5.new (w : World) : Tok5 (w.alloc (.cells #[.int .i64 0, .string ⟨#[]⟩, .int .i64 0, .int .i64 0, .string ⟨#[]⟩] 31)) w.heap.size := by
  obtain ⟨h0, h1, h2, h3, h4, hB⟩ := box5 (w := w) (Below.refl (w.alloc (.cells #[.int .i64 0, .string ⟨#[]⟩, .int .i64 0, .int .i64 0, .string ⟨#[]⟩] 31)).heap.size (w.alloc (.cells #[.int .i64 0, .string ⟨#[]⟩, .int .i64 0, .int .i64 0, .string ⟨#[]⟩] 31)))
  have hf := box5F (w := w) (Below.refl (w.alloc (.cells #[.int .i64 0, .string ⟨#[]⟩, .int .i64 0, .int .i64 0, .string ⟨#[]⟩] 31)).heap.size (w.alloc (.cells #[.int .i64 0, .string ⟨#[]⟩, .int .i64 0, .int .i64 0, .string ⟨#[]⟩] 31)))
  exact ⟨h0, h1, h2, h3, h4, hB, hf 0 (by omega), hf 1 (by omega), hf 2 (by omega), hf 3 (by omega), hf 4 (by omega)⟩
theorem nextR_word {s : ByteArray} {k e : Nat} (h0 : 0 < runL (s.data.toList.drop k)) (he : k + runL (s.data.toList.drop k) = e) : nextR s k = if (wordR (s.extract k e)).2 = true then ((wordR (s.extract k e)).1, e) else (zeroTok, k) := by
  have hp : (⟨((s.data.toList.drop k).take (runL (s.data.toList.drop k))).toArray⟩ : ByteArray) = s.extract k e := by
    refine bytes_ext ?_
    rw [Lib.extract_data, show e - k = runL (s.data.toList.drop k) by omega]
  unfold nextR nextT
  rw [if_pos h0, hp]
  unfold wordR
  cases wordT (s.extract k e) with
  | none => simp
  | some t => simp [he]
/-- What is read where no letter stands, of at most n bytes. -/
def lngR (s : ByteArray) (k n : Nat) : TT × Nat := match longC (s.data.toList.drop k) n with
  | some (c, e) => ((2, ⟨#[]⟩, c), k + e)
  | none => if signB (s.extract k (k + 1)) = true then ((3, s.extract k (k + 1), zeroC), k + 1) else (zeroTok, k)
theorem ext_take (s : ByteArray) (k n : Nat) : (⟨((s.data.toList.drop k).take n).toArray⟩ : ByteArray) = s.extract k (k + n) := by
  refine bytes_ext ?_
  rw [Lib.extract_data, show k + n - k = n by omega]
theorem nextR_long {s : ByteArray} {k : Nat} (h0 : runL (s.data.toList.drop k) = 0) : nextR s k = lngR s k (min 14 (s.size - k)) := by
  have hl : (s.data.toList.drop k).length = s.size - k := by rw [List.length_drop, ← Lib.size_eq]
  unfold nextR nextT lngR
  rw [if_neg (by omega), hl, ext_take]
  cases longC (s.data.toList.drop k) (min 14 (s.size - k)) with
  | some x => rfl
  | none =>
    simp only []
    cases signB (s.extract k (k + 1)) <;> rfl
theorem lngR_yes {s : ByteArray} {k e : Nat} {c : CK} (h : k < e) (hr : readB (s.extract k e) = some c) : lngR s k (e - k) = ((2, ⟨#[]⟩, c), e) := by
  obtain ⟨n, rfl⟩ : ∃ n, e = k + (n + 1) := ⟨e - k - 1, by omega⟩
  unfold lngR
  rw [show k + (n + 1) - k = n + 1 by omega]
  unfold longC
  rw [ext_take, hr]
theorem lngR_no {s : ByteArray} {k e : Nat} (h : k < e) (hr : readB (s.extract k e) = none) : lngR s k (e - k) = lngR s k (e - 1 - k) := by
  obtain ⟨n, rfl⟩ : ∃ n, e = k + (n + 1) := ⟨e - k - 1, by omega⟩
  unfold lngR
  rw [show k + (n + 1) - k = n + 1 by omega, show k + (n + 1) - 1 - k = n by omega]
  conv => lhs; unfold longC
  rw [ext_take, hr]
theorem lngR_zero {s : ByteArray} {k : Nat} : lngR s k 0 = if signB (s.extract k (k + 1)) = true then ((3, s.extract k (k + 1), zeroC), k + 1) else (zeroTok, k) := by
  unfold lngR longC; rfl
theorem byte_run {s : ByteArray} {j : Nat} (hj : j < s.size) (h1 : 97 ≤ (s[j]'hj).toNat) (h2 : (s[j]'hj).toNat ≤ 122) : runL (s.data.toList.drop j) = runL (s.data.toList.drop (j + 1)) + 1 :=
  (run_yes (k := j) (x := (s[j]'hj).toNat) (by unfold byteN; rw [dif_pos hj]) (by unfold letN; simp only [Bool.and_eq_true, decide_eq_true_eq]; exact ⟨h1, h2⟩)).2
theorem byte_stop {s : ByteArray} {j : Nat} (hj : j < s.size) (h : ¬ (97 ≤ (s[j]'hj).toNat ∧ (s[j]'hj).toNat ≤ 122)) : runL (s.data.toList.drop j) = 0 :=
  run_no (k := j) (x := (s[j]'hj).toNat) (by unfold byteN; rw [dif_pos hj]) (by unfold letN; rw [Bool.eq_false_iff]; simp only [ne_eq, Bool.and_eq_true, decide_eq_true_eq]; exact h)
theorem end_stop {s : ByteArray} {j : Nat} (hj : s.size ≤ j) : runL (s.data.toList.drop j) = 0 := by
  rw [List.drop_eq_nil_of_le (by rw [← Lib.size_eq]; exact hj)]; rfl
set_option maxRecDepth 100000 in
set_option maxHeartbeats 4000000 in
theorem next_spec (s : ByteArray) (hs : s.size ≤ 2000) (k : Nat) (hk : k < s.size) (t : TT) (r : Nat) (hR : nextR s k = (t, r)) (w : World) :
    Calls Tryd.prog 9 #[.string s, .int .i64 (k : Int)] w fun e w' => e = .returned (.tuple #[.agg #[.int .i64 t.1, .string t.2.1, .int .i64 t.2.2.1, .int .i64 t.2.2.2.1, .string t.2.2.2.2], .int .i64 (r : Int)]) ∧ Below w.heap.size w w' := by
  have HR : Hid (nextR s k = (t, r)) := hR
  clear hR
  go_enter Tryd.func9, Tryd.ntmps9
  go_upto_block 0 with fail
  obtain ⟨V, hV⟩ : ∃ V, V = w.alloc (.cells #[.int .i64 0, .string ⟨#[]⟩, .int .i64 0, .int .i64 0, .string ⟨#[]⟩] 31) := ⟨_, rfl⟩
  rw [← hV]
  have hxV : Below w.heap.size w V := by rw [hV]; exact (Below.refl _ _).alloc (Nat.le_refl _) _
  have hT : Tok5 V w.heap.size := by rw [hV]; exact Tok5.new w
  obtain ⟨B, hB⟩ : ∃ B, w.heap.size = B := ⟨_, rfl⟩
  have hw : w.heap.size ≤ B := by omega
  rw [hB] at hT ⊢
  have HT : Hid (Tok5 V B) := hT
  clear hT hV hB
  obtain ⟨m, hm⟩ : ∃ m, runL (s.data.toList.drop k) = m := ⟨_, rfl⟩
  have HM : Hid (runL (s.data.toList.drop k) = m) := hm
  have hml : k + m ≤ s.size := by
    have := runL_le (s.data.toList.drop k)
    rw [List.length_drop, ← Lib.size_eq, hm] at this
    omega
  clear hm
  go_cut [6] (fun s6 wc => s6 = .int .i64 ((k + m : Nat) : Int) ∧ wc = V)
  case first =>
    go_wp2_with fail
    go_loopw [6] (fun i wr => ∃ j : Nat, k ≤ j ∧ j ≤ s.size ∧ i = .int .i64 j ∧ Hid (k + m = j + runL (s.data.toList.drop j)) ∧ wr = V) (fun i _ => s.size - (intOf i).toNat)
    case atStart => exact ⟨k, Nat.le_refl _, by omega, rfl, by have := HM.out; exact (show k + m = k + runL (s.data.toList.drop k) by omega), rfl⟩
    case round =>
      obtain ⟨j, hj0, hj1, rfl, hrun, hwr⟩ := hrel
      subst hwr
      by_cases hlt : j < s.size
      · have hi0 : (0 : Int) ≤ (j : Int) := by omega
        have hi1 : (j : Int) < (s.size : Int) := by omega
        by_cases h1 : (s[j]'hlt).toNat < 97
        · have hfin : Hid ((j : Int) = ((k + m : Nat) : Int)) := by
            have h3 := byte_stop hlt (fun h => by omega)
            have h4 := hrun.out
            exact (show (j : Int) = ((k + m : Nat) : Int) by omega)
          go_wp2
          go_meet
          exact ⟨by rw [hfin.out], rfl⟩
        by_cases h2 : 122 < (s[j]'hlt).toNat
        · have hfin : Hid ((j : Int) = ((k + m : Nat) : Int)) := by
            have h3 := byte_stop hlt (fun h => by omega)
            have h4 := hrun.out
            exact (show (j : Int) = ((k + m : Nat) : Int) by omega)
          go_wp2
          go_meet
          exact ⟨by rw [hfin.out], rfl⟩
        have hrun2 : Hid (k + m = (j + 1) + runL (s.data.toList.drop (j + 1))) := by
          have h3 := byte_run hlt (by omega) (by omega)
          have h4 := hrun.out
          exact (show k + m = (j + 1) + runL (s.data.toList.drop (j + 1)) by omega)
        go_wp2
        go_roundw
        case rel => exact ⟨j + 1, by omega, by omega, by go_num, hrun2, by first | rfl | trivial⟩
        case measure => simp [intOf]; omega
      · have hi1 : ¬ (j : Int) < (s.size : Int) := by omega
        have hfin : Hid ((j : Int) = ((k + m : Nat) : Int)) := by
          have h3 := end_stop (s := s) (j := j) (by omega)
          have h4 := hrun.out
          exact (show (j : Int) = ((k + m : Nat) : Int) by omega)
        go_wp2
        go_meet
        exact ⟨by rw [hfin.out], rfl⟩
  case rest =>
    obtain ⟨rfl, hwc⟩ := hcut
    subst hwc
    by_cases hm0 : m = 0
    · subst hm0
      have hk0 : ((k + 0 : Nat) : Int) = (k : Int) := rfl
      rw [hk0]
      clear hk0
      have hN := nextR_long (s := s) (k := k) HM.out
      obtain ⟨f, hf⟩ : ∃ f, k + min 14 (s.size - k) = f := ⟨_, rfl⟩
      have hf1 : k < f := by omega
      have hf2 : f ≤ s.size := by omega
      rw [show min 14 (s.size - k) = f - k by omega, HR.out] at hN
      have HN : Hid (lngR s k (f - k) = (t, r)) := hN.symm
      clear hN
      go_wp2_with fail
      refine (far_spec s hs k hk _).mono ?_
      rw [hf]
      rintro e0 w1 ⟨rfl, rfl⟩
      clear hf
      go_wp2_with fail
      go_loopw [6] (fun i wr => ∃ e : Nat, k ≤ e ∧ e ≤ s.size ∧ i = .int .i64 e ∧ Hid (lngR s k (e - k) = (t, r)) ∧ Hid (Tok5 wr B) ∧ Below w.heap.size w wr) (fun i _ => (intOf i).toNat)
      case atStart => exact ⟨f, by omega, hf2, rfl, HN, HT, hxV⟩
      case round =>
        obtain ⟨e, hj2, hje, rfl, hL, hT5, hxw⟩ := hrel
        have hi0 : (0 : Int) ≤ (k : Int) := by omega
        have hj1 : (e : Int) ≤ (s.size : Int) := by omega
        by_cases hke : k < e
        · have hj0 : (k : Int) < (e : Int) := by omega
          obtain ⟨p, hpe⟩ : ∃ p, s.extract k e = p := ⟨_, rfl⟩
          have hpz : p.size = e - k := by rw [← hpe, Lib.size_eq, Lib.extract_data, List.length_take, List.length_drop, ← Lib.size_eq]; omega
          have hpm : p.size ≤ 1048576 := by omega
          obtain ⟨ck, cn, ct, c, hC⟩ : ∃ a b d c, readR p = (a, b, d, c) := ⟨_, _, _, _, rfl⟩
          obtain ⟨hC1, hC2⟩ := readR_b hC
          have HC : Hid (readR p = (ck, cn, ct, c)) := hC
          have HYes : Hid (c = true → lngR s k (e - k) = ((2, ⟨#[]⟩, ck, cn, ct), e)) := by
            have : c = true → lngR s k (e - k) = ((2, ⟨#[]⟩, ck, cn, ct), e) := fun h => lngR_yes hke (by rw [hpe]; exact hC2 h)
            exact this
          have HNo : Hid (c = false → lngR s k (e - 1 - k) = (t, r)) := by
            have : c = false → lngR s k (e - 1 - k) = (t, r) := fun h => by
              rw [← lngR_no hke (by rw [hpe]; exact some_none (hC1.trans h))]
              exact hL.out
            exact this
          clear hC hC1 hC2 hpz
          go_wp2_with fail
          refine (readcell_spec p hpm _ ck cn ct c HC.out).mono ?_
          rintro e0 w2 ⟨rfl, hb2⟩
          have hx2 := chain hxw hb2
          have T2 : Hid (Tok5 w2 B) := hT5.out.below hb2
          clear hb2
          cases c
          · have T3 : Hid (Tok5 (w2.alloc (.cells #[.int .i64 ck, .int .i64 cn, .string ct] 29)) B) := T2.out.below ((Below.refl _ _).alloc (Nat.le_refl _) _)
            have hx3 := hx2.alloc hx2.size (.cells #[.int .i64 ck, .int .i64 cn, .string ct] 29)
            go_wp2_with fail
            go_roundw
            case rel => exact ⟨e - 1, by omega, by omega, by congr 1; omega, HNo.out (by trivial), T3, hx3⟩
            case measure => simp [intOf]; omega
          · have hh := hL.out
            rw [HYes.out (by trivial)] at hh
            injection hh with e1 e2
            subst e1 e2
            go_upto_region 19 with fail
            obtain ⟨V2, hV2⟩ : ∃ V2, V2 = w2.alloc (.cells #[.int .i64 ck, .int .i64 cn, .string ct] 29) := ⟨_, rfl⟩
            rw [← hV2]
            have hbV : Below w2.heap.size w2 V2 := by rw [hV2]; exact (Below.refl _ _).alloc (Nat.le_refl _) _
            obtain ⟨b0, b1, b2, _⟩ := box3 (w := w2) (w1 := V2) (a := .int .i64 ck) (b := .int .i64 cn) (c := .string ct) (T := 29) (by rw [hV2]; exact Below.refl _ _)
            have hxV2 := chain hx2 hbV
            have TV2 : Hid (Tok5 V2 B) := T2.out.below hbV
            clear hV2 hbV
            obtain ⟨a0, a1, a2, a3, a4, aB, a5, a6, a7, a8, a9⟩ := TV2.out
            go_wp2_with fail
            generalize hZ : (((((V2.setCell ⟨B, 0, none⟩ _).setCell ⟨B, 1, none⟩ _).setCell ⟨B, 2, none⟩ _).setCell ⟨B, 3, none⟩ _).setCell ⟨B, 4, none⟩ _) = Z
            obtain ⟨y0, y1, y2, y3, y4, yB⟩ := out5 _ _ _ _ _ ⟨a0, a1, a2, a3, a4, aB⟩ Z hZ.symm
            have hbZ : Below w.heap.size w Z := by rw [← hZ]; exact ((((hxV2.setCell hw _).setCell hw _).setCell hw _).setCell hw _).setCell hw _
            refine bodyPost_ret (by simp [results, Tryd.results9, go_sem, y0, y1, y2, y3, y4]; try rfl) rfl ?_
            exact ⟨rfl, hbZ⟩

        · have hee : e = k := by omega
          subst hee
          have hj0 : ¬ (e : Int) < (e : Int) := by omega
          have hn1 : (e : Int) + 1 ≤ (s.size : Int) := by omega
          have hn2 : (e : Int) ≤ (e : Int) + 1 := by omega
          have hL2 := hL.out
          rw [Nat.sub_self, lngR_zero] at hL2
          obtain ⟨q, hq⟩ : ∃ q, s.extract e (e + 1) = q := ⟨_, rfl⟩
          rw [hq] at hL2
          obtain ⟨g, hg⟩ : ∃ g, signB q = g := ⟨_, rfl⟩
          rw [hg] at hL2
          have HG : Hid (signB q = g) := hg
          have HL2 : Hid ((if g = true then ((3, q, zeroC), e + 1) else (zeroTok, e)) = (t, r)) := hL2
          clear hg hL2 hL
          go_wp2_with fail
          refine (sign_spec q _ g HG.out).mono ?_
          rintro e0 w2 ⟨rfl, hb2⟩
          have hx2 := chain hxw hb2
          have T2 : Hid (Tok5 w2 B) := hT5.out.below hb2
          clear hb2
          cases g
          · have hh := HL2.out
            rw [if_neg (by decide)] at hh
            injection hh with e1 e2
            subst e1 e2
            obtain ⟨a0, a1, a2, a3, a4, aB, a5, a6, a7, a8, a9⟩ := T2.out
            go_wp2_with fail
            generalize hZ : (((((w2.setCell ⟨B, 0, none⟩ _).setCell ⟨B, 1, none⟩ _).setCell ⟨B, 2, none⟩ _).setCell ⟨B, 3, none⟩ _).setCell ⟨B, 4, none⟩ _) = Z
            obtain ⟨y0, y1, y2, y3, y4, yB⟩ := out5 _ _ _ _ _ ⟨a0, a1, a2, a3, a4, aB⟩ Z hZ.symm
            have hbZ : Below w.heap.size w Z := by rw [← hZ]; exact ((((hx2.setCell hw _).setCell hw _).setCell hw _).setCell hw _).setCell hw _
            refine bodyPost_ret (by simp [results, Tryd.results9, go_sem, y0, y1, y2, y3, y4]; try rfl) rfl ?_
            exact ⟨rfl, hbZ⟩

          · have hh := HL2.out
            rw [if_pos rfl] at hh
            injection hh with e1 e2
            subst e1 e2
            obtain ⟨a0, a1, a2, a3, a4, aB, a5, a6, a7, a8, a9⟩ := T2.out
            go_wp2_with fail
            generalize hZ : (((((w2.setCell ⟨B, 0, none⟩ _).setCell ⟨B, 1, none⟩ _).setCell ⟨B, 2, none⟩ _).setCell ⟨B, 3, none⟩ _).setCell ⟨B, 4, none⟩ _) = Z
            obtain ⟨y0, y1, y2, y3, y4, yB⟩ := out5 _ _ _ _ _ ⟨a0, a1, a2, a3, a4, aB⟩ Z hZ.symm
            have hbZ : Below w.heap.size w Z := by rw [← hZ]; exact ((((hx2.setCell hw _).setCell hw _).setCell hw _).setCell hw _).setCell hw _
            refine bodyPost_ret (by simp [results, Tryd.results9, go_sem, y0, y1, y2, y3, y4]; try rfl) rfl ?_
            exact ⟨rfl, hbZ⟩
    · have hpos : 0 < m := by omega
      obtain ⟨e, he⟩ : ∃ e, k + m = e := ⟨_, rfl⟩
      have hN := nextR_word (s := s) (k := k) (e := e) (by rw [HM.out]; exact hpos) (by rw [HM.out]; exact he)
      obtain ⟨p, hpe⟩ : ∃ p, s.extract k e = p := ⟨_, rfl⟩
      rw [hpe] at hN
      rw [he]
      have hpz : p.size = e - k := by rw [← hpe, Lib.size_eq, Lib.extract_data, List.length_take, List.length_drop, ← Lib.size_eq]; omega
      have hpm : p.size ≤ 1048576 := by omega
      have hpM : p.size ≤ maxLen := by unfold maxLen; omega
      have hi0 : (0 : Int) ≤ (k : Int) := by omega
      have hj0 : (k : Int) < (e : Int) := by omega
      have hj2 : (k : Int) ≤ (e : Int) := by omega
      have hj1 : (e : Int) ≤ (s.size : Int) := by omega
      obtain ⟨ck, cn, ct, c, hC⟩ : ∃ a b d c, readR p = (a, b, d, c) := ⟨_, _, _, _, rfl⟩
      obtain ⟨hC1, hC2⟩ := readR_b hC
      have HC : Hid (readR p = (ck, cn, ct, c)) := hC
      obtain ⟨g, hg⟩ : ∃ g, signB p = g := ⟨_, rfl⟩
      have HG : Hid (signB p = g) := hg
      obtain ⟨q, hq⟩ : ∃ q, nameK p = q := ⟨_, rfl⟩
      have HQ : Hid (nameK p = q) := hq
      have HN : Hid (nextR s k = if (wordR p).2 = true then ((wordR p).1, e) else (zeroTok, k)) := hN
      have HC1 : Hid ((readB p).isSome = c) := hC1
      have HC2 : Hid (c = true → readB p = some (ck, cn, ct)) := hC2
      clear hC hg hq hN hC1 hC2 hpz he
      go_wp2_with fail
      refine (readcell_spec p hpm _ ck cn ct c HC.out).mono ?_
      rintro e0 w1 ⟨rfl, hb1⟩
      have hx1 := chain hxV hb1
      have T1 : Hid (Tok5 w1 B) := HT.out.below hb1
      clear hb1
      cases c
      · have hnone := some_none HC1.out
        have HNO : Hid (readB p = none) := hnone
        clear hnone
        go_wp2_with fail
        refine (sign_spec p _ g HG.out).mono ?_
        rintro e0 w2 ⟨rfl, hb2⟩
        have hx2 := chain (hx1.alloc hx1.size _) hb2
        have T2 : Hid (Tok5 w2 B) := (T1.out.below ((Below.refl _ _).alloc (Nat.le_refl _) _)).below hb2
        clear hb2
        cases g
        · go_wp2_with fail
          refine (namek_spec p _ hpM q HQ.out).mono ?_
          rintro e0 w3 ⟨rfl, hb3⟩
          have hx3 := chain hx2 hb3
          have T3 : Hid (Tok5 w3 B) := T2.out.below hb3
          clear hb3
          have htk : tokB (1, p, zeroC) = q := by rw [tokB_1, HQ.out, decide_eq_true rfl, Bool.and_true]
          have hwn : Hid (wordR p = ((1, p, zeroC), q)) := by
            have := wordR_name HNO.out HG.out
            rw [htk] at this
            exact this
          clear htk
          cases q
          · have hh := HR.out
            rw [HN.out, hwn.out, if_neg (fun h => by cases h)] at hh
            injection hh with e1 e2
            subst e1 e2
            obtain ⟨a0, a1, a2, a3, a4, aB, a5, a6, a7, a8, a9⟩ := T3.out
            go_wp2_with fail
            generalize hZ : (((((w3.setCell ⟨B, 0, none⟩ _).setCell ⟨B, 1, none⟩ _).setCell ⟨B, 2, none⟩ _).setCell ⟨B, 3, none⟩ _).setCell ⟨B, 4, none⟩ _) = Z
            obtain ⟨y0, y1, y2, y3, y4, yB⟩ := out5 _ _ _ _ _ ⟨a0, a1, a2, a3, a4, aB⟩ Z hZ.symm
            have hbZ : Below w.heap.size w Z := by rw [← hZ]; exact ((((hx3.setCell hw _).setCell hw _).setCell hw _).setCell hw _).setCell hw _
            refine bodyPost_ret (by simp [results, Tryd.results9, go_sem, y0, y1, y2, y3, y4]; try rfl) rfl ?_
            exact ⟨rfl, hbZ⟩

          · have hh := HR.out
            rw [HN.out, hwn.out, if_pos rfl] at hh
            injection hh with e1 e2
            subst e1 e2
            obtain ⟨a0, a1, a2, a3, a4, aB, a5, a6, a7, a8, a9⟩ := T3.out
            go_wp2_with fail
            generalize hZ : (((((w3.setCell ⟨B, 0, none⟩ _).setCell ⟨B, 1, none⟩ _).setCell ⟨B, 2, none⟩ _).setCell ⟨B, 3, none⟩ _).setCell ⟨B, 4, none⟩ _) = Z
            obtain ⟨y0, y1, y2, y3, y4, yB⟩ := out5 _ _ _ _ _ ⟨a0, a1, a2, a3, a4, aB⟩ Z hZ.symm
            have hbZ : Below w.heap.size w Z := by rw [← hZ]; exact ((((hx3.setCell hw _).setCell hw _).setCell hw _).setCell hw _).setCell hw _
            refine bodyPost_ret (by simp [results, Tryd.results9, go_sem, y0, y1, y2, y3, y4]; try rfl) rfl ?_
            exact ⟨rfl, hbZ⟩

        · have hh := HR.out
          rw [HN.out, wordR_sign HNO.out HG.out, if_pos rfl] at hh
          injection hh with e1 e2
          subst e1 e2
          obtain ⟨a0, a1, a2, a3, a4, aB, a5, a6, a7, a8, a9⟩ := T2.out
          go_wp2_with fail
          generalize hZ : (((((w2.setCell ⟨B, 0, none⟩ _).setCell ⟨B, 1, none⟩ _).setCell ⟨B, 2, none⟩ _).setCell ⟨B, 3, none⟩ _).setCell ⟨B, 4, none⟩ _) = Z
          obtain ⟨y0, y1, y2, y3, y4, yB⟩ := out5 _ _ _ _ _ ⟨a0, a1, a2, a3, a4, aB⟩ Z hZ.symm
          have hbZ : Below w.heap.size w Z := by rw [← hZ]; exact ((((hx2.setCell hw _).setCell hw _).setCell hw _).setCell hw _).setCell hw _
          refine bodyPost_ret (by simp [results, Tryd.results9, go_sem, y0, y1, y2, y3, y4]; try rfl) rfl ?_
          exact ⟨rfl, hbZ⟩

      · have hh := HR.out
        rw [HN.out, wordR_cell (HC2.out rfl), if_pos rfl] at hh
        injection hh with e1 e2
        subst e1 e2
        go_upto_region 8 with fail
        obtain ⟨V2, hV2⟩ : ∃ V2, V2 = w1.alloc (.cells #[.int .i64 ck, .int .i64 cn, .string ct] 29) := ⟨_, rfl⟩
        rw [← hV2]
        have hbV : Below w1.heap.size w1 V2 := by rw [hV2]; exact (Below.refl _ _).alloc (Nat.le_refl _) _
        obtain ⟨b0, b1, b2, _⟩ := box3 (w := w1) (w1 := V2) (a := .int .i64 ck) (b := .int .i64 cn) (c := .string ct) (T := 29) (by rw [hV2]; exact Below.refl _ _)
        have hxV2 := chain hx1 hbV
        have TV2 : Hid (Tok5 V2 B) := T1.out.below hbV
        clear hV2 hbV
        obtain ⟨a0, a1, a2, a3, a4, aB, a5, a6, a7, a8, a9⟩ := TV2.out
        go_wp2_with fail
        generalize hZ : (((((V2.setCell ⟨B, 0, none⟩ _).setCell ⟨B, 1, none⟩ _).setCell ⟨B, 2, none⟩ _).setCell ⟨B, 3, none⟩ _).setCell ⟨B, 4, none⟩ _) = Z
        obtain ⟨y0, y1, y2, y3, y4, yB⟩ := out5 _ _ _ _ _ ⟨a0, a1, a2, a3, a4, aB⟩ Z hZ.symm
        have hbZ : Below w.heap.size w Z := by rw [← hZ]; exact ((((hxV2.setCell hw _).setCell hw _).setCell hw _).setCell hw _).setCell hw _
        refine bodyPost_ret (by simp [results, Tryd.results9, go_sem, y0, y1, y2, y3, y4]; try rfl) rfl ?_
        exact ⟨rfl, hbZ⟩
end Go.Proofs.YtgiknjlifocioaaDoor
