/-
  A part of the proof: SvI2, SvI4.
-/
import Derived.Test.YtmmandkellhbeaaGreatDoorPart18
import Derived.Test.YtmmandkellhbeaaGreatDoorPart9
import Derived.Test.YtmmandkellhbeaaGreatDoorPart19

/-
  The contract of the program's AskOk.
-/
namespace Go.Proofs.YtmmandkellhbeaaGreatDoor
open Go.ChangeShapes Go.WideShapes Go.ChangeAt Go.RowKit
attribute [local go_sem ↓] Go.wp_at_zero Go.wp_at_succ
attribute [local simp] World.cell?_alloc_past World.cell?_alloc_at World.frozen?_alloc_at cell_far cell_off cell_here World.frozen?_alloc_past

set_option maxRecDepth 100000 in
set_option maxHeartbeats 4000000 in
theorem ask_impl (a : Option Addr) (cap : Nat) (T : List SV) (n : Nat) (hn : T.length = n) (w : World) (hrow : SivsAt w a T) (hmild : ∀ i (hi : i < T.length), MildV T[i]) (hm : n ≤ maxLen) (hp : PowAt w) (he : ErrAt w) (b : Bool) (hb : askB T = b) :
    Calls Tryz.prog 15 #[.slice a n cap] w fun e w' => e = .returned (.bool b) ∧ Below w.heap.size w w' := by
  have HR : Hid (SivsAt w a T) := hrow
  have HN : Hid (T.length = n) := hn
  have HM : Hid (∀ i (hi : i < T.length), MildV T[i]) := hmild
  have HP : Hid (PowAt w) := hp
  have HE : Hid (ErrAt w) := he
  have hm6 := hm
  unfold maxLen at hm6
  rw [ask_good, hn] at hb
  by_cases h1 : (n : Int) < 1
  · obtain rfl : b = false := by rw [← hb, decide_eq_false (show ¬ (1 : Int) ≤ (n : Int) by omega)]; simp
    clear hb hrow hn hmild hp he
    go_enter Tryz.func15, Tryz.ntmps15
    go_wp2
    go_ret
    exact ⟨rfl, Below.refl _ _⟩
  by_cases h8 : (8 : Int) < (n : Int)
  · obtain rfl : b = false := by rw [← hb, decide_eq_false (show ¬ (n : Int) ≤ 8 by omega)]; simp
    clear hb hrow hn hmild hp he
    go_enter Tryz.func15, Tryz.ntmps15
    go_wp2
    go_ret
    exact ⟨rfl, Below.refl _ _⟩
  rw [decide_eq_true (show (1 : Int) ≤ (n : Int) by omega), decide_eq_true (show (n : Int) ≤ 8 by omega), Bool.and_self, Bool.and_true] at hb
  have HG : Hid (goodL 0 (T.drop 0) = b) := hb
  clear hrow hn hb hmild hp he
  go_enter Tryz.func15, Tryz.ntmps15
  go_wp2
  go_loopw [15] (fun iv wr => ∃ k : Nat, k ≤ n ∧ iv = .int .i64 k ∧ Hid (goodL k (T.drop k) = b) ∧ Below w.heap.size w wr) (fun iv _ => n - (intOf iv).toNat)
  case atStart => exact ⟨0, Nat.zero_le _, rfl, HG, Below.refl _ _⟩
  case round =>
    obtain ⟨k, hk, rfl, hg, hbw⟩ := hrel
    by_cases hlt : k < n
    · have hlk : k < T.length := by rw [HN.out]; exact hlt
      obtain ⟨g, o, na, nc, sa, sc, rfl, hgw, ⟨c0, c1, c2, c3, c4, c5, c6⟩, ht⟩ := HR.out.below hbw k hlk
      have hi0 : (0 : Int) ≤ (k : Int) := by omega
      have hi1 : (k : Int) < (n : Int) := by omega
      have hmk := HM.out k hlk
      have HST : Hid ((goodS k T[k] && goodL (k + 1) (T.drop (k + 1))) = b) := by
        have := hg.out
        rw [goodL_step T k hlk] at this
        exact this
      generalize T[k] = s at c0 c1 c2 c3 c4 c5 c6 ht HST hmk
      obtain ⟨kd, nm, N, S, dn, ct, sk⟩ := s
      dsimp only at c0 c1 c2 c3 c4 c5 c6
      obtain ⟨nn, hnn⟩ : ∃ m, N.length = m := ⟨_, rfl⟩
      obtain ⟨sn, hsn⟩ : ∃ m, S.length = m := ⟨_, rfl⟩
      rw [hnn] at c2
      rw [hsn] at c3
      obtain ⟨r, hr⟩ : ∃ r, sieveB ⟨kd, nm, N, S, dn, ct, sk⟩ = r := ⟨_, rfl⟩
      have C : Hid (∀ w', Below wr.heap.size wr w' → Calls Tryz.prog 10 #[.agg #[.int .i64 kd, .string nm, .slice na nn nc, .slice sa sn sc, .bool dn, .int .i64 ct, .int .i64 sk]] w' fun e w'' => e = .returned (.bool r) ∧ Below w'.heap.size w' w'') :=
        fun w' hw => sieve_impl kd nm na nn nc N hnn sa sn sc S hsn dn ct sk w' ((HP.out.below hbw).below hw) ((HE.out.below hbw).below hw) (ht.below hw) hmk r hr
      have HV : Hid (((r && ((kd == 1) == decide (k = 0))) && goodL (k + 1) (T.drop (k + 1))) = b) := by
        have := HST.out
        unfold goodS at this
        rw [hr] at this
        exact this
      clear HST hr ht hnn hsn hlk hg hmk
      have hA : ∀ o, Below wr.heap.size wr (wr.alloc o) := fun o => (Below.refl _ _).alloc (Nat.le_refl _) o
      go_wp2_with fail
      refine (C.out _ (by first | exact hA _ | exact Below.refl _ _)).mono ?_
      rintro e w1 ⟨rfl, hb1⟩
      have d0 : w1.cell? ⟨wr.heap.size, 0, none⟩ = some (.int .i64 kd) := (box7 hb1).1
      have hx1 := chain hbw (chainA hb1)
      clear c0 c1 c2 c3 c4 c5 c6 hb1 C
      cases r
      · obtain rfl : b = false := by rw [← HV.out]; simp
        go_wp2
        go_ret
        exact ⟨rfl, hx1⟩
      by_cases hk1 : kd = 1
      · subst hk1
        by_cases hk0 : k = 0
        · have hz : ((k : Int) == 0) = true := by simp; omega
          have HV2 : Hid (goodL (k + 1) (T.drop (k + 1)) = b) := by
            have h := HV.out
            rw [decide_eq_true hk0] at h
            have h2 : goodL (k + 1) (T.drop (k + 1)) = b := by simpa using h
            exact h2
          clear HV hk0
          go_wp2
          go_roundw
          case rel => exact ⟨k + 1, by omega, by go_num, HV2, hx1⟩
          case measure => simp [intOf]; omega
        · have hz : ((k : Int) == 0) = false := by simp; omega
          obtain rfl : b = false := by
            rw [← HV.out, decide_eq_false hk0]; rfl
          clear HV hk0
          go_wp2
          go_ret
          exact ⟨rfl, hx1⟩
      · have hz1 : (kd == 1) = false := by simpa using hk1
        by_cases hk0 : k = 0
        · have hz : ((k : Int) == 0) = true := by simp; omega
          obtain rfl : b = false := by
            rw [← HV.out, hz1, decide_eq_true hk0]; rfl
          clear HV hk0
          go_wp2
          go_ret
          exact ⟨rfl, hx1⟩
        · have hz : ((k : Int) == 0) = false := by simp; omega
          have HV2 : Hid (goodL (k + 1) (T.drop (k + 1)) = b) := by
            have h := HV.out
            rw [hz1, decide_eq_false hk0] at h
            have h2 : goodL (k + 1) (T.drop (k + 1)) = b := by simpa using h
            exact h2
          clear HV hk0
          go_wp2
          go_roundw
          case rel => exact ⟨k + 1, by omega, by go_num, HV2, hx1⟩
          case measure => simp [intOf]; omega
    · have hkl : k = n := by omega
      subst hkl
      have hi1 : ¬ (k : Int) < (k : Int) := by omega
      obtain rfl : true = b := by
        have := hg.out
        rw [goodL_end T k (by rw [HN.out]; exact Nat.le_refl _)] at this
        exact this
      clear hg
      go_wp2
      go_ret
      exact ⟨rfl, hbw⟩
end Go.Proofs.YtmmandkellhbeaaGreatDoor

/-
  The contract of the program's text of a question.
-/
namespace Go.Proofs.YtmmandkellhbeaaGreatDoor
open Go.ChangeShapes Go.WideShapes Go.ChangeAt Go.RowKit
attribute [local go_sem ↓] Go.wp_at_zero Go.wp_at_succ
attribute [local simp] World.cell?_alloc_past World.cell?_alloc_at World.frozen?_alloc_at cell_far cell_off cell_here World.frozen?_alloc_past

def showB8 (s : SV) : ByteArray := ⟨(showS s).toArray⟩
def textsV (l : List SV) : List ByteArray := l.map showB8
theorem textsV_take (T : List SV) (k : Nat) (h : k < T.length) : textsV (T.take (k + 1)) = textsV (T.take k) ++ [showB8 T[k]] := by
  unfold textsV; rw [List.take_succ_eq_append_getElem h, List.map_append]; rfl
theorem textsV_len (l : List SV) : (textsV l).length = l.length := List.length_map _
theorem raw_texts (T : List SV) : rawT (textsV T) = T.map showS := by
  unfold rawT textsV
  rw [List.map_map]
  rfl
theorem askT_yes {T : List SV} (h : askB T = true) : askT T = ⟨(Lib.join (rawT (textsV T)) [32, 124, 32]).toArray⟩ := by
  unfold askT; rw [if_pos h, raw_texts]
theorem ask_all {T : List SV} (h : askB T = true) : (∀ i (hi : i < T.length), sieveB T[i] = true) ∧ 1 ≤ T.length ∧ T.length ≤ 8 := by
  have h2 := h
  rw [ask_good] at h2
  unfold askB at h
  simp only [Bool.and_eq_true, decide_eq_true_eq] at h h2
  exact ⟨fun i hi => List.all_eq_true.1 h.1.1 _ (List.getElem_mem hi), by omega, by omega⟩
theorem ask_join {T : List SV} (h : askB T = true) : (Lib.join (rawT (textsV T)) [32, 124, 32]).length ≤ 8000 := by
  obtain ⟨h1, _, h8⟩ := ask_all h
  rw [raw_texts]
  have h2 := join_long (T.map showS) [32, 124, 32] 700 (by
    intro x hx
    obtain ⟨s, hs, rfl⟩ := List.mem_map.1 hx
    obtain ⟨i, hi, rfl⟩ := List.mem_iff_getElem.1 hs
    exact showS_len _ (h1 i hi))
  rw [List.length_map] at h2
  have : (700 + [(32 : UInt8), 124, 32].length) * T.length ≤ 703 * 8 := Nat.mul_le_mul (by decide) h8
  omega
theorem joinedW (gp cp : Nat) (Q : List ByteArray) (m : Nat) (hm : Q.length = m) (w : World) (B : Nat) (hQ : w.ownsRow B 9 1 (.slice (some ⟨gp, 0, none⟩) m cp) m (strV Q)) (hcp : m ≤ cp) (hm8 : m ≤ 8) (y : ByteArray) (hy : (⟨(Lib.join (rawT Q) [32, 124, 32]).toArray⟩ : ByteArray) = y) (hl : (Lib.join (rawT Q) [32, 124, 32]).length ≤ 8000) :
    Calls Tryz.prog 37 #[.string ⟨#[32, 124, 32]⟩, .slice (some ⟨gp, 0, none⟩) m cp] w fun e w' => e = .returned (.string y) ∧ Below w.heap.size w w' := by
  subst hm
  refine joined_impl gp cp Q ⟨#[32, 124, 32]⟩ w (fun j x hj => ?_) (hQ.lt gp rfl).2 (by omega) hcp (by unfold rawT at hl; exact Nat.le_trans hl (by omega)) y (by unfold rawT at hy; exact hy)
  obtain ⟨hlt, rfl⟩ := List.getElem?_eq_some_iff.1 hj
  rw [Nat.zero_add, hQ.cellAt j (by omega)]
  unfold strV
  rw [List.getElem?_map, List.getElem?_eq_getElem hlt]; rfl
set_option maxRecDepth 100000 in
set_option maxHeartbeats 4000000 in
theorem showask_impl (a : Option Addr) (cap : Nat) (T : List SV) (n : Nat) (hn : T.length = n) (w : World) (hrow : SivsAt w a T) (hmild : ∀ i (hi : i < T.length), MildV T[i]) (hm : n ≤ maxLen) (hp : PowAt w) (he : ErrAt w) (hs : SgnAt w) (y : ByteArray) (hy : askT T = y) :
    Calls Tryz.prog 18 #[.slice a n cap] w fun e w' => e = .returned (.string y) ∧ Below w.heap.size w w' := by
  obtain ⟨i0, hti, hz0, hz1, hz2⟩ := info_parts infoStr
  have HR : Hid (SivsAt w a T) := hrow
  have HN : Hid (T.length = n) := hn
  have HM : Hid (∀ i (hi : i < T.length), MildV T[i]) := hmild
  have HV : Hid (PowAt w ∧ ErrAt w ∧ SgnAt w) := ⟨hp, he, hs⟩
  obtain ⟨b, hb⟩ : ∃ b, askB T = b := ⟨_, rfl⟩
  have HB : Hid (askB T = b) := hb
  have HY : Hid (askT T = y) := hy
  clear hrow hn hmild hp he hs hb hy
  cases b
  · obtain rfl : y = ⟨#[]⟩ := by rw [← HY.out]; unfold askT; rw [HB.out]; rfl
    go_enter Tryz.func18, Tryz.ntmps18
    go_wp2_with fail
    refine (ask_impl a cap T n HN.out _ HR.out HM.out hm HV.out.1 HV.out.2.1 false HB.out).mono ?_
    rintro e w1 ⟨rfl, hb1⟩
    go_wp2
    go_ret
    exact ⟨rfl, hb1⟩
  obtain ⟨hall, hn1, hn8⟩ := ask_all HB.out
  rw [HN.out] at hn1 hn8
  have HAL : Hid (∀ i (hi : i < T.length), sieveB T[i] = true) := hall
  have HJ : Hid ((⟨(Lib.join (rawT (textsV T)) [32, 124, 32]).toArray⟩ : ByteArray) = y ∧ (Lib.join (rawT (textsV T)) [32, 124, 32]).length ≤ 8000) := by
    have h : (⟨(Lib.join (rawT (textsV T)) [32, 124, 32]).toArray⟩ : ByteArray) = y ∧ (Lib.join (rawT (textsV T)) [32, 124, 32]).length ≤ 8000 := ⟨by rw [← HY.out, askT_yes HB.out], ask_join HB.out⟩
    exact h
  clear hall HY
  go_enter Tryz.func18, Tryz.ntmps18
  go_wp2_with fail
  refine (ask_impl a cap T n HN.out _ HR.out HM.out hm HV.out.1 HV.out.2.1 true HB.out).mono ?_
  rintro e w1 ⟨rfl, hb1⟩
  go_wp2_with (at_make; refine wpList_make_own _ rfl _ _ 22 rfl w1.heap.size 9 i0 (.string ⟨#[]⟩) 1 Tryz.underlying22 hti hz0 hz1 .i64 .i64 _ n rfl rfl rfl (by rw [hz2]; omega) (by unfold maxLen; omega) (Nat.le_refl _) ?_)
  intro w0 hown0 hgrow0
  have hb0 : Below w1.heap.size w1 w0 := (Below.refl _ _).grown hgrow0 (Nat.le_refl _) (by intro k h; cases h)
  have own0 : Hid (w0.ownsRow w1.heap.size 9 1 (.slice (some ⟨w1.heap.size, 0, none⟩) 0 n) 0 (strV (textsV (T.take 0)))) := hown0
  clear hown0 hgrow0
  have hbs0 : Below w.heap.size w w0 := chain hb1 hb0
  have HW1 : Hid (w.heap.size ≤ w1.heap.size) := hb1.size
  clear hb0 hb1
  go_wp2
  go_loopw [3, 14] (fun v kk wr => ∃ k : Nat, k ≤ n ∧ kk = .int .i64 k ∧ Hid (wr.ownsRow w1.heap.size 9 1 v k (strV (textsV (T.take k)))) ∧ Below w.heap.size w wr ∧ w1.heap.size ≤ wr.heap.size ∧ v ≠ .slice none 0 0) (fun _ kk _ => n - (intOf kk).toNat)
  case atStart => exact ⟨0, Nat.zero_le _, rfl, own0, hbs0, Nat.le_of_lt (own0.out.lt _ rfl).2, by simp⟩
  case round =>
    obtain ⟨k, hk, rfl, hO, hbw, hsz, hvn⟩ := hrel
    by_cases hlt : k < n
    · have hlk : k < T.length := by rw [HN.out]; exact hlt
      obtain ⟨g, o, na, nc, sa, sc, rfl, hgw, ⟨c0, c1, c2, c3, c4, c5, c6⟩, ht⟩ := HR.out.below hbw k hlk
      have hi0 : (0 : Int) ≤ (k : Int) := by omega
      have hi1 : (k : Int) < (n : Int) := by omega
      have hmk := HM.out k hlk
      have hok := HAL.out k hlk
      have hst := textsV_take T k hlk
      generalize T[k] = s at c0 c1 c2 c3 c4 c5 c6 ht hmk hok hst
      obtain ⟨kd, nm, N, S, dn, ct, sk⟩ := s
      dsimp only at c0 c1 c2 c3 c4 c5 c6
      obtain ⟨nn, hnn⟩ : ∃ m, N.length = m := ⟨_, rfl⟩
      obtain ⟨sn, hsn⟩ : ∃ m, S.length = m := ⟨_, rfl⟩
      rw [hnn] at c2
      rw [hsn] at c3
      obtain ⟨fw, fn, ff, fm, fa, fs, fl, fc, hf⟩ : ∃ fw fn ff fm fa fs fl fc, formF kd = FS.mk fw fn ff fm fa fs fl fc := ⟨_, _, _, _, _, _, _, _, rfl⟩
      obtain ⟨z, hz⟩ : ∃ z, showB8 ⟨kd, nm, N, S, dn, ct, sk⟩ = z := ⟨_, rfl⟩
      rw [hz] at hst
      have HST : Hid (textsV (T.take (k + 1)) = textsV (T.take k) ++ [z]) := hst
      have HF : Hid (formF kd = FS.mk fw fn ff fm fa fs fl fc) := hf
      have C : Hid (∀ w', Below wr.heap.size wr w' → Calls Tryz.prog 36 #[.agg #[.slice sa sn sc, .string fw, .bool fn, .int .i64 ff, .int .i64 fm, .string fa, .bool fs, .bool fl, .int .i64 fc, .int .i64 kd, .string nm, .slice na nn nc, .slice sa sn sc, .bool dn, .int .i64 ct, .int .i64 sk]] w' fun e w'' => e = .returned (.string z) ∧ Below w'.heap.size w' w'') :=
        fun w' hw => text_impl kd nm na nn nc N hnn sa sn sc S hsn dn ct sk fw fn ff fm fa fs fl fc w' ((HV.out.1.below hbw).below hw) ((HV.out.2.1.below hbw).below hw) ((HV.out.2.2.below hbw).below hw) (ht.below hw) hmk hok hf z hz
      have HLN : Hid ((textsV (T.take k)).length = k) := by
        have h : (textsV (T.take k)).length = k := by rw [textsV_len, List.length_take]; omega
        exact h
      clear hst hz hf ht hmk hok hnn hsn hlk
      have hA : ∀ o, Below wr.heap.size wr (wr.alloc o) := fun o => (Below.refl _ _).alloc (Nat.le_refl _) o
      go_wp2_with fail
      refine (formed_impl kd nm na nn nc sa sn sc dn ct sk fw fn ff fm fa fs fl fc HF.out _).mono ?_
      rintro e w2 ⟨rfl, hb2⟩
      have hx2 : Below wr.heap.size wr w2 := chain (hA _) hb2
      clear hb2 c0 c1 c2 c3 c4 c5 c6
      go_wp2_with fail
      refine (C.out _ hx2).mono ?_
      rintro e w3 ⟨rfl, hb3⟩
      have hx3 : Below wr.heap.size wr w3 := chain hx2 hb3
      have O3 : Hid (w3.ownsRow w1.heap.size 9 1 u3 k (strV (textsV (T.take k)))) := own_below hO.out hx3
      have hs3 : w1.heap.size ≤ w3.heap.size := Nat.le_trans hsz hx3.size
      have hbx3 : Below w.heap.size w w3 := chain hbw hx3
      clear hb3 hx2 hx3 hO hA
      go_wp2_with (at_builtin; refine wpList_append_own _ rfl _ _ 22 rfl w1.heap.size 9 i0 (.string ⟨#[]⟩) 1 16 Tryz.underlying22 hti hz0 hz1 hz2 rfl (by decide) u3 k (strV (textsV (T.take k))) rfl (O3.out.alloc _) ⟨w3.heap.size, 0, none⟩ 1 1 [.string z] rfl rfl (one_cells w3 z) (by intro u hu; simp at hu; subst hu; rfl) (by unfold maxLen; omega) (by omega) (by simp; omega) ?_)
      intro v' w4 own4 hgrow4 hnn4
      have hvn4 : v' ≠ .slice none 0 0 := by first | exact hnn4 | exact fun e => hvn (hnn4.1 e).1
      have hx4 : Below w.heap.size w w4 := by
        have hw1 := HW1.out
        exact (hbx3.alloc hbx3.size _).grown hgrow4 (by have := hbx3.size; simp; omega) (fun kk hkk => Nat.le_trans hw1 (O3.out.lt kk hkk).1)
      have O4 : Hid (w4.ownsRow w1.heap.size 9 1 v' (k + 1) (strV (textsV (T.take (k + 1))))) := by
        have h : w4.ownsRow w1.heap.size 9 1 v' (k + 1) (strV (textsV (T.take (k + 1)))) := by
          rw [HST.out, show strV (textsV (T.take k) ++ [z]) = strV (textsV (T.take k)) ++ [.string z] from List.map_append]
          exact own4
        exact h
      have hs4 : w1.heap.size ≤ w4.heap.size := by
        obtain ⟨g4, c4, e4, _⟩ := own_formV O4.out hvn4
        subst e4
        have := O4.out.lt g4 rfl
        omega
      clear own4 hgrow4 hnn4 O3 hbx3 hs3
      go_wp2
      go_roundw
      case rel => exact ⟨k + 1, by omega, by go_num, O4, hx4, hs4, hvn4⟩
      case measure => simp [intOf]; omega
    · have hkl : k = n := by omega
      subst hkl
      have hi1 : ¬ (k : Int) < (k : Int) := by omega
      have HTK : Hid (T.take k = T) := List.take_of_length_le (by rw [HN.out]; exact Nat.le_refl _)
      obtain ⟨gp, cp, hvp, hcp⟩ := own_formV hO.out hvn
      subst hvp
      have O1 : Hid (wr.ownsRow w1.heap.size 9 1 (.slice (some ⟨gp, 0, none⟩) k cp) k (strV (textsV T))) := by
        have h := hO.out
        rw [HTK.out] at h
        exact h
      clear hO hvn HTK
      go_wp2_with fail
      refine (joined3 wr wr.heap.size rfl ⟨#[32]⟩ ⟨#[124]⟩ ⟨#[32]⟩ ⟨#[]⟩ (by decide) ⟨#[32, 124, 32]⟩ (by rfl)).mono ?_
      rintro e w2 ⟨rfl, hb2⟩
      have hx2 : Below wr.heap.size wr w2 := chainA hb2
      have O2 : Hid (w2.ownsRow w1.heap.size 9 1 (.slice (some ⟨gp, 0, none⟩) k cp) k (strV (textsV T))) := own_below O1.out hx2
      clear hb2 O1
      go_wp2_with fail
      refine (joinedW gp cp (textsV T) k (by rw [textsV_len]; exact HN.out) _ w1.heap.size O2.out hcp hn8 y HJ.out.1 HJ.out.2).mono ?_
      rintro e w3 ⟨rfl, hb3⟩
      have hx3 : Below w.heap.size w w3 := chain (chain hbw hx2) hb3
      go_wp2
      go_ret
      exact ⟨rfl, hx3⟩
end Go.Proofs.YtmmandkellhbeaaGreatDoor
