/-
  A part of the proof: LevS2, ReadSumS, LikeItm, Law1.
-/
import Derived.Test.YtfokdblojlmnlabGreatDoorPart23
import Derived.Test.YtfokdblojlmnlabGreatDoorPart15
import Derived.Test.YtfokdblojlmnlabGreatDoorPart5
import Derived.Test.YtfokdblojlmnlabGreatDoorPart2

/-
  The contract of the model's l8Level, and of its ReadSum.
-/
namespace Go.Proofs.YtfokdblojlmnlabGreatDoor
open Go.ChangeShapes Go.WideShapes Go.ChangeAt Go.RowKit
attribute [local go_sem ↓] Go.wp_at_zero Go.wp_at_succ
attribute [local simp] World.cell?_alloc_past World.cell?_alloc_at World.frozen?_alloc_at cell_far cell_off cell_here World.frozen?_alloc_past

theorem LevHyp.mono {w0 : World} {R : Nat} {a : Option Addr} {n c : Nat} {toks : List TT} {M M' : Nat} (h : LevHyp w0 R a n c toks M) (hm : M' ≤ M) : LevHyp w0 R a n c toks M' :=
  fun lev hl w k vo out hr hlt => h lev hl w k vo out hr (by omega)
theorem res_false {toks : List TT} {out out' : List TI} {k' : Nat} {res : Option (List TI × List TT)} (h : LevRes toks out k' out' false res) : ∃ o, res = some (o, toks.drop k') ∧ out' = out ++ o := by
  cases res with
  | none => cases h
  | some p => obtain ⟨o, r⟩ := p; obtain ⟨_, h1, h2⟩ := h; exact ⟨o, by rw [h2], h1⟩
theorem res_true {toks : List TT} {out out' : List TI} {k' : Nat} {res : Option (List TI × List TT)} (h : LevRes toks out k' out' true res) : res = none := by
  cases res with
  | none => rfl
  | some p => obtain ⟨o, r⟩ := p; obtain ⟨h1, _⟩ := h; cases h1
/-- A round of a level. -/
def LoopRel (w0 : World) (R : Nat) (a : Option Addr) (n c : Nat) (toks : List TT) (lev k : Nat) (out : List TI) (wr : World) : Prop :=
  ∃ k' v' out' b', Rd w0 wr R a n c toks k' v' out' b' ∧ out'.length + k ≤ out.length + k' ∧ k ≤ k' ∧ (b' = true → levR lev (toks.drop k) = none) ∧ (b' = false → ∃ o, out' = out ++ o ∧ levR lev (toks.drop k) = tlR lev o (toks.drop k'))
def atOf (R : Nat) (w : World) : Nat := (intOf ((w.cell? ⟨R, 1, none⟩).getD undef)).toNat
theorem Rd.atOf {w0 w : World} {R : Nat} {a : Option Addr} {n c : Nat} {toks : List TT} {k : Nat} {vo : Value} {out : List TI} {bad : Bool} (h : Rd w0 w R a n c toks k vo out bad) : atOf R w = k := by
  unfold Go.Proofs.YtfokdblojlmnlabGreatDoor.atOf
  rw [h.box.cells.2.1]
  simp [intOf]
/-- What a round leaves. -/
theorem LoopRel.next {w0 : World} {R : Nat} {a : Option Addr} {n c : Nat} {toks : List TT} {lev k : Nat} {out : List TI} (hl : lev ≤ 5) {k1 : Nat} {out1 o : List TI} (hk1 : k ≤ k1) (hs1 : out1.length + k ≤ out.length + k1) (ho : out1 = out ++ o) (htl : levR lev (toks.drop k) = tlR lev o (toks.drop k1)) {kd : Int} (h2 : twoT lev (toks.drop k1) = some (kd, toks.drop (k1 + 1)))
    {k3 : Nat} {out3 : List TI} {b3 : Bool} (hs3 : out3.length + (k1 + 1) ≤ out1.length + k3) (hk3 : k1 + 1 ≤ k3) (hr3 : LevRes toks out1 k3 out3 b3 (levR (lev + 1) (toks.drop (k1 + 1)))) {w4 : World} {v4 : Value} (h4 : Rd w0 w4 R a n c toks k3 v4 (out3 ++ [opI kd]) b3) : LoopRel w0 R a n c toks lev k out w4 := by
  refine ⟨k3, v4, _, b3, h4, by rw [List.length_append]; show out3.length + 1 + k ≤ out.length + k3; omega, by omega, ?_, ?_⟩
  · intro e
    subst e
    rw [htl, tlR_some hl h2, res_true hr3]
  · intro e
    subst e
    obtain ⟨p, hp, hop⟩ := res_false hr3
    refine ⟨o ++ (p ++ [opI kd]), by rw [hop, ho]; simp, ?_⟩
    rw [htl, tlR_some hl h2, hp]
set_option maxRecDepth 100000 in
set_option maxHeartbeats 8000000 in
theorem level_0 {w0 w : World} {R : Nat} {a : Option Addr} {n c : Nat} {toks : List TT} {k : Nat} {vo : Value} {out : List TI} (h : Rd w0 w R a n c toks k vo out false) (hm : n ≤ 1048576) (M : Nat) (hyp : LevHyp w0 R a n c toks M) (hM : 10 * (n - k) + (7 - 0) ≤ M) :
    Calls Tryz.prog 88 #[.pointer (some ⟨R, 0, none⟩), .int .i64 0] w (LevPost w0 R a n c toks k out (levR 0 (toks.drop k))) := by
  have H : Hid (Rd w0 w R a n c toks k vo out false) := h
  have HY : Hid (LevHyp w0 R a n c toks M) := hyp
  have hkn := h.hk
  have hko := h.hout
  have hln := h.hn
  obtain ⟨r0, r1, r2, r3⟩ := h.box.cells
  clear h hyp
  go_enter Tryz.func88, Tryz.ntmps88
  go_wp2_with fail
  refine (HY.out (0 + 1) (by omega) w k vo out H.out (by omega)).mono ?_
  rintro e w1 ⟨rfl, k1, v1, out1, b1, hR1, hsl1, hk1, hres1⟩
  have hrel : Hid (LoopRel w0 R a n c toks 0 k out w1) := by
    refine ⟨k1, v1, out1, b1, hR1, hsl1, hk1, ?_, ?_⟩
    · intro e
      subst e
      rw [levR_two (by omega), res_true hres1]
    · intro e
      subst e
      obtain ⟨o, h1, h2⟩ := res_false hres1
      exact ⟨o, h2, by rw [levR_two (by omega), h1]⟩
  clear hR1 hsl1 hk1 hres1 r0 r1 r2 r3 H
  go_wp2_with fail
  go_loopw [] (fun wr => LoopRel w0 R a n c toks 0 k out wr) (fun wr => n + 1 - atOf R wr)
  case atStart => exact hrel.out
  case round =>
    obtain ⟨k1, v1, out1, b1, hR1, hsl1, hk1, htrue, hfalse⟩ := hrel
    have R1 : Hid (Rd w0 wr R a n c toks k1 v1 out1 b1) := hR1
    have hk1n := hR1.hk
    have hk1o := hR1.hout
    have hat1 := hR1.atOf
    obtain ⟨r0, r1, r2, r3⟩ := hR1.box.cells
    have HAT1 : Hid (atOf R wr = k1) := hat1
    clear hR1 hat1
    cases b1
    · obtain ⟨o, ho, htl⟩ := hfalse rfl
      have HO : Hid (out1 = out ++ o) := ho
      have HTL : Hid (levR 0 (toks.drop k) = tlR 0 o (toks.drop k1)) := htl
      clear htrue hfalse ho htl
      go_wp2_with fail
      refine (two_spec R1.out hm 0 (by omega)).mono ?_
      rintro e w2 ⟨kd, k2, rfl, hT, hR2⟩
      have R2 : Hid (Rd w0 w2 R a n c toks k2 v1 out1 false) := hR2
      clear hR2 R1 r0 r1 r2 r3
      rcases hT with ⟨rfl, hkk, hn2⟩ | ⟨hkd3, hkd10, hkk, hs2⟩
      · rw [hkk] at R2
        have fin : Hid (LevPost w0 R a n c toks k out (levR 0 (toks.drop k)) (.returned (.tuple #[])) w2) := by
          refine ⟨rfl, k1, v1, out1, false, R2.out, hsl1, hk1, ?_⟩
          rw [HTL.out, tlR_none hn2]
          exact ⟨rfl, HO.out, rfl⟩
        clear hn2 hkk
        go_wp2_with fail
        exact bodyPost_ret (v := .tuple #[]) (by first | rfl | kernel_rfl) rfl fin.out
      · rw [hkk] at R2
        have HS2 : Hid (twoT 0 (toks.drop k1) = some (kd, toks.drop (k1 + 1))) := hs2
        have hk2n := R2.out.hk
        have hkd0 : (kd == 0) = false := by simpa using (show ¬ kd = 0 by omega)
        clear hs2 hkk
        go_wp2_with fail
        refine (HY.out (0 + 1) (by omega) w2 (k1 + 1) v1 out1 R2.out (by omega)).mono ?_
        rintro e w3 ⟨rfl, k3, v3, out3, b3, hR3, hsl3, hk3, hres3⟩
        have R3 : Hid (Rd w0 w3 R a n c toks k3 v3 out3 b3) := hR3
        have HRes : Hid (LevRes toks out1 k3 out3 b3 (levR (0 + 1) (toks.drop (k1 + 1)))) := hres3
        have hk3n := hR3.hk
        clear hR3 hres3 R2
        go_wp2_with fail
        refine (make_spec R3.out hm (by omega) kd).mono ?_
        rintro e w4 ⟨v4, rfl, hR4⟩
        have hat4 := hR4.atOf
        have HAT4 : Hid (atOf R w4 = k3) := hat4
        have HRel : Hid (LoopRel w0 R a n c toks 0 k out w4) := LoopRel.next (by omega) hk1 hsl1 HO.out HTL.out HS2.out hsl3 hk3 HRes.out hR4
        clear hR4 hat4 R3
        go_wp2
        go_roundw
        case rel => exact HRel.out
        case measure => rw [HAT1.out, HAT4.out]; omega
    · have hlv := htrue rfl
      have fin : Hid (LevPost w0 R a n c toks k out (levR 0 (toks.drop k)) (.returned (.tuple #[])) wr) := by
        refine ⟨rfl, k1, v1, out1, true, R1.out, hsl1, hk1, ?_⟩
        rw [hlv]
        rfl
      clear htrue hfalse hlv
      go_wp2_with fail
      exact bodyPost_end (v := .tuple #[]) (by first | rfl | kernel_rfl) rfl fin.out
set_option maxRecDepth 100000 in
set_option maxHeartbeats 8000000 in
theorem level_1 {w0 w : World} {R : Nat} {a : Option Addr} {n c : Nat} {toks : List TT} {k : Nat} {vo : Value} {out : List TI} (h : Rd w0 w R a n c toks k vo out false) (hm : n ≤ 1048576) (M : Nat) (hyp : LevHyp w0 R a n c toks M) (hM : 10 * (n - k) + (7 - 1) ≤ M) :
    Calls Tryz.prog 88 #[.pointer (some ⟨R, 0, none⟩), .int .i64 1] w (LevPost w0 R a n c toks k out (levR 1 (toks.drop k))) := by
  have H : Hid (Rd w0 w R a n c toks k vo out false) := h
  have HY : Hid (LevHyp w0 R a n c toks M) := hyp
  have hkn := h.hk
  have hko := h.hout
  have hln := h.hn
  obtain ⟨r0, r1, r2, r3⟩ := h.box.cells
  clear h hyp
  go_enter Tryz.func88, Tryz.ntmps88
  go_wp2_with fail
  refine (HY.out (1 + 1) (by omega) w k vo out H.out (by omega)).mono ?_
  rintro e w1 ⟨rfl, k1, v1, out1, b1, hR1, hsl1, hk1, hres1⟩
  have hrel : Hid (LoopRel w0 R a n c toks 1 k out w1) := by
    refine ⟨k1, v1, out1, b1, hR1, hsl1, hk1, ?_, ?_⟩
    · intro e
      subst e
      rw [levR_two (by omega), res_true hres1]
    · intro e
      subst e
      obtain ⟨o, h1, h2⟩ := res_false hres1
      exact ⟨o, h2, by rw [levR_two (by omega), h1]⟩
  clear hR1 hsl1 hk1 hres1 r0 r1 r2 r3 H
  go_wp2_with fail
  go_loopw [] (fun wr => LoopRel w0 R a n c toks 1 k out wr) (fun wr => n + 1 - atOf R wr)
  case atStart => exact hrel.out
  case round =>
    obtain ⟨k1, v1, out1, b1, hR1, hsl1, hk1, htrue, hfalse⟩ := hrel
    have R1 : Hid (Rd w0 wr R a n c toks k1 v1 out1 b1) := hR1
    have hk1n := hR1.hk
    have hk1o := hR1.hout
    have hat1 := hR1.atOf
    obtain ⟨r0, r1, r2, r3⟩ := hR1.box.cells
    have HAT1 : Hid (atOf R wr = k1) := hat1
    clear hR1 hat1
    cases b1
    · obtain ⟨o, ho, htl⟩ := hfalse rfl
      have HO : Hid (out1 = out ++ o) := ho
      have HTL : Hid (levR 1 (toks.drop k) = tlR 1 o (toks.drop k1)) := htl
      clear htrue hfalse ho htl
      go_wp2_with fail
      refine (two_spec R1.out hm 1 (by omega)).mono ?_
      rintro e w2 ⟨kd, k2, rfl, hT, hR2⟩
      have R2 : Hid (Rd w0 w2 R a n c toks k2 v1 out1 false) := hR2
      clear hR2 R1 r0 r1 r2 r3
      rcases hT with ⟨rfl, hkk, hn2⟩ | ⟨hkd3, hkd10, hkk, hs2⟩
      · rw [hkk] at R2
        have fin : Hid (LevPost w0 R a n c toks k out (levR 1 (toks.drop k)) (.returned (.tuple #[])) w2) := by
          refine ⟨rfl, k1, v1, out1, false, R2.out, hsl1, hk1, ?_⟩
          rw [HTL.out, tlR_none hn2]
          exact ⟨rfl, HO.out, rfl⟩
        clear hn2 hkk
        go_wp2_with fail
        exact bodyPost_ret (v := .tuple #[]) (by first | rfl | kernel_rfl) rfl fin.out
      · rw [hkk] at R2
        have HS2 : Hid (twoT 1 (toks.drop k1) = some (kd, toks.drop (k1 + 1))) := hs2
        have hk2n := R2.out.hk
        have hkd0 : (kd == 0) = false := by simpa using (show ¬ kd = 0 by omega)
        clear hs2 hkk
        go_wp2_with fail
        refine (HY.out (1 + 1) (by omega) w2 (k1 + 1) v1 out1 R2.out (by omega)).mono ?_
        rintro e w3 ⟨rfl, k3, v3, out3, b3, hR3, hsl3, hk3, hres3⟩
        have R3 : Hid (Rd w0 w3 R a n c toks k3 v3 out3 b3) := hR3
        have HRes : Hid (LevRes toks out1 k3 out3 b3 (levR (1 + 1) (toks.drop (k1 + 1)))) := hres3
        have hk3n := hR3.hk
        clear hR3 hres3 R2
        go_wp2_with fail
        refine (make_spec R3.out hm (by omega) kd).mono ?_
        rintro e w4 ⟨v4, rfl, hR4⟩
        have hat4 := hR4.atOf
        have HAT4 : Hid (atOf R w4 = k3) := hat4
        have HRel : Hid (LoopRel w0 R a n c toks 1 k out w4) := LoopRel.next (by omega) hk1 hsl1 HO.out HTL.out HS2.out hsl3 hk3 HRes.out hR4
        clear hR4 hat4 R3
        go_wp2
        go_roundw
        case rel => exact HRel.out
        case measure => rw [HAT1.out, HAT4.out]; omega
    · have hlv := htrue rfl
      have fin : Hid (LevPost w0 R a n c toks k out (levR 1 (toks.drop k)) (.returned (.tuple #[])) wr) := by
        refine ⟨rfl, k1, v1, out1, true, R1.out, hsl1, hk1, ?_⟩
        rw [hlv]
        rfl
      clear htrue hfalse hlv
      go_wp2_with fail
      exact bodyPost_end (v := .tuple #[]) (by first | rfl | kernel_rfl) rfl fin.out
set_option maxRecDepth 100000 in
set_option maxHeartbeats 8000000 in
theorem level_4 {w0 w : World} {R : Nat} {a : Option Addr} {n c : Nat} {toks : List TT} {k : Nat} {vo : Value} {out : List TI} (h : Rd w0 w R a n c toks k vo out false) (hm : n ≤ 1048576) (M : Nat) (hyp : LevHyp w0 R a n c toks M) (hM : 10 * (n - k) + (7 - 4) ≤ M) :
    Calls Tryz.prog 88 #[.pointer (some ⟨R, 0, none⟩), .int .i64 4] w (LevPost w0 R a n c toks k out (levR 4 (toks.drop k))) := by
  have H : Hid (Rd w0 w R a n c toks k vo out false) := h
  have HY : Hid (LevHyp w0 R a n c toks M) := hyp
  have hkn := h.hk
  have hko := h.hout
  have hln := h.hn
  obtain ⟨r0, r1, r2, r3⟩ := h.box.cells
  clear h hyp
  go_enter Tryz.func88, Tryz.ntmps88
  go_wp2_with fail
  refine (HY.out (4 + 1) (by omega) w k vo out H.out (by omega)).mono ?_
  rintro e w1 ⟨rfl, k1, v1, out1, b1, hR1, hsl1, hk1, hres1⟩
  have hrel : Hid (LoopRel w0 R a n c toks 4 k out w1) := by
    refine ⟨k1, v1, out1, b1, hR1, hsl1, hk1, ?_, ?_⟩
    · intro e
      subst e
      rw [levR_two (by omega), res_true hres1]
    · intro e
      subst e
      obtain ⟨o, h1, h2⟩ := res_false hres1
      exact ⟨o, h2, by rw [levR_two (by omega), h1]⟩
  clear hR1 hsl1 hk1 hres1 r0 r1 r2 r3 H
  go_wp2_with fail
  go_loopw [] (fun wr => LoopRel w0 R a n c toks 4 k out wr) (fun wr => n + 1 - atOf R wr)
  case atStart => exact hrel.out
  case round =>
    obtain ⟨k1, v1, out1, b1, hR1, hsl1, hk1, htrue, hfalse⟩ := hrel
    have R1 : Hid (Rd w0 wr R a n c toks k1 v1 out1 b1) := hR1
    have hk1n := hR1.hk
    have hk1o := hR1.hout
    have hat1 := hR1.atOf
    obtain ⟨r0, r1, r2, r3⟩ := hR1.box.cells
    have HAT1 : Hid (atOf R wr = k1) := hat1
    clear hR1 hat1
    cases b1
    · obtain ⟨o, ho, htl⟩ := hfalse rfl
      have HO : Hid (out1 = out ++ o) := ho
      have HTL : Hid (levR 4 (toks.drop k) = tlR 4 o (toks.drop k1)) := htl
      clear htrue hfalse ho htl
      go_wp2_with fail
      refine (two_spec R1.out hm 4 (by omega)).mono ?_
      rintro e w2 ⟨kd, k2, rfl, hT, hR2⟩
      have R2 : Hid (Rd w0 w2 R a n c toks k2 v1 out1 false) := hR2
      clear hR2 R1 r0 r1 r2 r3
      rcases hT with ⟨rfl, hkk, hn2⟩ | ⟨hkd3, hkd10, hkk, hs2⟩
      · rw [hkk] at R2
        have fin : Hid (LevPost w0 R a n c toks k out (levR 4 (toks.drop k)) (.returned (.tuple #[])) w2) := by
          refine ⟨rfl, k1, v1, out1, false, R2.out, hsl1, hk1, ?_⟩
          rw [HTL.out, tlR_none hn2]
          exact ⟨rfl, HO.out, rfl⟩
        clear hn2 hkk
        go_wp2_with fail
        exact bodyPost_ret (v := .tuple #[]) (by first | rfl | kernel_rfl) rfl fin.out
      · rw [hkk] at R2
        have HS2 : Hid (twoT 4 (toks.drop k1) = some (kd, toks.drop (k1 + 1))) := hs2
        have hk2n := R2.out.hk
        have hkd0 : (kd == 0) = false := by simpa using (show ¬ kd = 0 by omega)
        clear hs2 hkk
        go_wp2_with fail
        refine (HY.out (4 + 1) (by omega) w2 (k1 + 1) v1 out1 R2.out (by omega)).mono ?_
        rintro e w3 ⟨rfl, k3, v3, out3, b3, hR3, hsl3, hk3, hres3⟩
        have R3 : Hid (Rd w0 w3 R a n c toks k3 v3 out3 b3) := hR3
        have HRes : Hid (LevRes toks out1 k3 out3 b3 (levR (4 + 1) (toks.drop (k1 + 1)))) := hres3
        have hk3n := hR3.hk
        clear hR3 hres3 R2
        go_wp2_with fail
        refine (make_spec R3.out hm (by omega) kd).mono ?_
        rintro e w4 ⟨v4, rfl, hR4⟩
        have hat4 := hR4.atOf
        have HAT4 : Hid (atOf R w4 = k3) := hat4
        have HRel : Hid (LoopRel w0 R a n c toks 4 k out w4) := LoopRel.next (by omega) hk1 hsl1 HO.out HTL.out HS2.out hsl3 hk3 HRes.out hR4
        clear hR4 hat4 R3
        go_wp2
        go_roundw
        case rel => exact HRel.out
        case measure => rw [HAT1.out, HAT4.out]; omega
    · have hlv := htrue rfl
      have fin : Hid (LevPost w0 R a n c toks k out (levR 4 (toks.drop k)) (.returned (.tuple #[])) wr) := by
        refine ⟨rfl, k1, v1, out1, true, R1.out, hsl1, hk1, ?_⟩
        rw [hlv]
        rfl
      clear htrue hfalse hlv
      go_wp2_with fail
      exact bodyPost_end (v := .tuple #[]) (by first | rfl | kernel_rfl) rfl fin.out
set_option maxRecDepth 100000 in
set_option maxHeartbeats 8000000 in
theorem level_5 {w0 w : World} {R : Nat} {a : Option Addr} {n c : Nat} {toks : List TT} {k : Nat} {vo : Value} {out : List TI} (h : Rd w0 w R a n c toks k vo out false) (hm : n ≤ 1048576) (M : Nat) (hyp : LevHyp w0 R a n c toks M) (hM : 10 * (n - k) + (7 - 5) ≤ M) :
    Calls Tryz.prog 88 #[.pointer (some ⟨R, 0, none⟩), .int .i64 5] w (LevPost w0 R a n c toks k out (levR 5 (toks.drop k))) := by
  have H : Hid (Rd w0 w R a n c toks k vo out false) := h
  have HY : Hid (LevHyp w0 R a n c toks M) := hyp
  have hkn := h.hk
  have hko := h.hout
  have hln := h.hn
  obtain ⟨r0, r1, r2, r3⟩ := h.box.cells
  clear h hyp
  go_enter Tryz.func88, Tryz.ntmps88
  go_wp2_with fail
  refine (HY.out (5 + 1) (by omega) w k vo out H.out (by omega)).mono ?_
  rintro e w1 ⟨rfl, k1, v1, out1, b1, hR1, hsl1, hk1, hres1⟩
  have hrel : Hid (LoopRel w0 R a n c toks 5 k out w1) := by
    refine ⟨k1, v1, out1, b1, hR1, hsl1, hk1, ?_, ?_⟩
    · intro e
      subst e
      rw [levR_two (by omega), res_true hres1]
    · intro e
      subst e
      obtain ⟨o, h1, h2⟩ := res_false hres1
      exact ⟨o, h2, by rw [levR_two (by omega), h1]⟩
  clear hR1 hsl1 hk1 hres1 r0 r1 r2 r3 H
  go_wp2_with fail
  go_loopw [] (fun wr => LoopRel w0 R a n c toks 5 k out wr) (fun wr => n + 1 - atOf R wr)
  case atStart => exact hrel.out
  case round =>
    obtain ⟨k1, v1, out1, b1, hR1, hsl1, hk1, htrue, hfalse⟩ := hrel
    have R1 : Hid (Rd w0 wr R a n c toks k1 v1 out1 b1) := hR1
    have hk1n := hR1.hk
    have hk1o := hR1.hout
    have hat1 := hR1.atOf
    obtain ⟨r0, r1, r2, r3⟩ := hR1.box.cells
    have HAT1 : Hid (atOf R wr = k1) := hat1
    clear hR1 hat1
    cases b1
    · obtain ⟨o, ho, htl⟩ := hfalse rfl
      have HO : Hid (out1 = out ++ o) := ho
      have HTL : Hid (levR 5 (toks.drop k) = tlR 5 o (toks.drop k1)) := htl
      clear htrue hfalse ho htl
      go_wp2_with fail
      refine (two_spec R1.out hm 5 (by omega)).mono ?_
      rintro e w2 ⟨kd, k2, rfl, hT, hR2⟩
      have R2 : Hid (Rd w0 w2 R a n c toks k2 v1 out1 false) := hR2
      clear hR2 R1 r0 r1 r2 r3
      rcases hT with ⟨rfl, hkk, hn2⟩ | ⟨hkd3, hkd10, hkk, hs2⟩
      · rw [hkk] at R2
        have fin : Hid (LevPost w0 R a n c toks k out (levR 5 (toks.drop k)) (.returned (.tuple #[])) w2) := by
          refine ⟨rfl, k1, v1, out1, false, R2.out, hsl1, hk1, ?_⟩
          rw [HTL.out, tlR_none hn2]
          exact ⟨rfl, HO.out, rfl⟩
        clear hn2 hkk
        go_wp2_with fail
        exact bodyPost_ret (v := .tuple #[]) (by first | rfl | kernel_rfl) rfl fin.out
      · rw [hkk] at R2
        have HS2 : Hid (twoT 5 (toks.drop k1) = some (kd, toks.drop (k1 + 1))) := hs2
        have hk2n := R2.out.hk
        have hkd0 : (kd == 0) = false := by simpa using (show ¬ kd = 0 by omega)
        clear hs2 hkk
        go_wp2_with fail
        refine (HY.out (5 + 1) (by omega) w2 (k1 + 1) v1 out1 R2.out (by omega)).mono ?_
        rintro e w3 ⟨rfl, k3, v3, out3, b3, hR3, hsl3, hk3, hres3⟩
        have R3 : Hid (Rd w0 w3 R a n c toks k3 v3 out3 b3) := hR3
        have HRes : Hid (LevRes toks out1 k3 out3 b3 (levR (5 + 1) (toks.drop (k1 + 1)))) := hres3
        have hk3n := hR3.hk
        clear hR3 hres3 R2
        go_wp2_with fail
        refine (make_spec R3.out hm (by omega) kd).mono ?_
        rintro e w4 ⟨v4, rfl, hR4⟩
        have hat4 := hR4.atOf
        have HAT4 : Hid (atOf R w4 = k3) := hat4
        have HRel : Hid (LoopRel w0 R a n c toks 5 k out w4) := LoopRel.next (by omega) hk1 hsl1 HO.out HTL.out HS2.out hsl3 hk3 HRes.out hR4
        clear hR4 hat4 R3
        go_wp2
        go_roundw
        case rel => exact HRel.out
        case measure => rw [HAT1.out, HAT4.out]; omega
    · have hlv := htrue rfl
      have fin : Hid (LevPost w0 R a n c toks k out (levR 5 (toks.drop k)) (.returned (.tuple #[])) wr) := by
        refine ⟨rfl, k1, v1, out1, true, R1.out, hsl1, hk1, ?_⟩
        rw [hlv]
        rfl
      clear htrue hfalse hlv
      go_wp2_with fail
      exact bodyPost_end (v := .tuple #[]) (by first | rfl | kernel_rfl) rfl fin.out
set_option maxRecDepth 100000 in
set_option maxHeartbeats 8000000 in
theorem level_2 {w0 w : World} {R : Nat} {a : Option Addr} {n c : Nat} {toks : List TT} {k : Nat} {vo : Value} {out : List TI} (h : Rd w0 w R a n c toks k vo out false) (hm : n ≤ 1048576) (M : Nat) (hyp : LevHyp w0 R a n c toks M) (hM : 10 * (n - k) + (7 - 2) ≤ M) :
    Calls Tryz.prog 88 #[.pointer (some ⟨R, 0, none⟩), .int .i64 2] w (LevPost w0 R a n c toks k out (levR 2 (toks.drop k))) := by
  have H : Hid (Rd w0 w R a n c toks k vo out false) := h
  have HY : Hid (LevHyp w0 R a n c toks M) := hyp
  have hkn := h.hk
  have hko := h.hout
  have hln := h.hn
  obtain ⟨r0, r1, r2, r3⟩ := h.box.cells
  clear h hyp
  go_enter Tryz.func88, Tryz.ntmps88
  go_wp2_with fail
  refine (sees_spec H.out hm (sgn 11)).mono ?_
  rintro e w1 ⟨b, k1, rfl, hR1, hyes, hno, hk1⟩
  have R1 : Hid (Rd w0 w1 R a n c toks k1 vo out false) := hR1
  clear hR1 hk1 H r0 r1 r2 r3
  cases b
  · obtain ⟨hkk, hsee⟩ := hno rfl
    rw [hkk] at R1
    have HL : Hid (levR 2 (toks.drop k) = levR (2 + 1) (toks.drop k)) := by
      have : levR 2 (toks.drop k) = levR (2 + 1) (toks.drop k) := by
        rw [levR_pre (by omega), show (if (2 : Nat) = 2 then (11 : Int) else 12) = 11 from rfl, hsee]
      exact this
    clear hyes hno hsee hkk
    go_wp2_with fail
    refine (HY.out (2 + 1) (by omega) w1 k vo out R1.out (by omega)).mono ?_
    rintro e w2 ⟨rfl, hpost⟩
    have fin : Hid (LevPost w0 R a n c toks k out (levR 2 (toks.drop k)) (.returned (.tuple #[])) w2) := by
      have : LevPost w0 R a n c toks k out (levR 2 (toks.drop k)) (.returned (.tuple #[])) w2 := by rw [HL.out]; exact ⟨rfl, hpost⟩
      exact this
    clear hpost
    go_wp2_with fail
    exact bodyPost_end (v := .tuple #[]) (by first | rfl | kernel_rfl) rfl fin.out
  · obtain ⟨hkk, hsee⟩ := hyes rfl
    rw [hkk] at R1
    have HS : Hid (seesT (sgn 11) (toks.drop k) = some (toks.drop (k + 1))) := hsee
    have hk1n := R1.out.hk
    clear hyes hno hsee hkk
    go_wp2_with fail
    refine (HY.out 2 (by omega) w1 (k + 1) vo out R1.out (by omega)).mono ?_
    rintro e w2 ⟨rfl, k2, v2, out2, b2, hR2, hsl2, hk2, hres2⟩
    have R2 : Hid (Rd w0 w2 R a n c toks k2 v2 out2 b2) := hR2
    have HRes : Hid (LevRes toks out k2 out2 b2 (levR 2 (toks.drop (k + 1)))) := hres2
    clear hR2 hres2 R1
    go_wp2_with fail
    refine (make_spec R2.out hm (by omega) 11).mono ?_
    rintro e w3 ⟨v3, rfl, hR3⟩
    have fin : Hid (LevPost w0 R a n c toks k out (levR 2 (toks.drop k)) (.returned (.tuple #[])) w3) := by
      refine ⟨rfl, k2, v3, _, b2, hR3, by rw [List.length_append]; show out2.length + 1 + k ≤ out.length + k2; omega, by omega, ?_⟩
      rw [levR_pre (by omega), show (if (2 : Nat) = 2 then (11 : Int) else 12) = 11 from rfl, HS.out]
      have hr := HRes.out
      cases b2
      · obtain ⟨o, h1, h2⟩ := res_false hr
        simp only []
        rw [h1]
        exact ⟨rfl, by rw [h2]; simp, rfl⟩
      · simp only []
        rw [res_true hr]
        rfl
    clear hR3 R2 HRes
    go_wp2_with fail
    exact bodyPost_ret (v := .tuple #[]) (by first | rfl | kernel_rfl) rfl fin.out
set_option maxRecDepth 100000 in
set_option maxHeartbeats 8000000 in
theorem level_6 {w0 w : World} {R : Nat} {a : Option Addr} {n c : Nat} {toks : List TT} {k : Nat} {vo : Value} {out : List TI} (h : Rd w0 w R a n c toks k vo out false) (hm : n ≤ 1048576) (M : Nat) (hyp : LevHyp w0 R a n c toks M) (hM : 10 * (n - k) + (7 - 6) ≤ M) :
    Calls Tryz.prog 88 #[.pointer (some ⟨R, 0, none⟩), .int .i64 6] w (LevPost w0 R a n c toks k out (levR 6 (toks.drop k))) := by
  have H : Hid (Rd w0 w R a n c toks k vo out false) := h
  have HY : Hid (LevHyp w0 R a n c toks M) := hyp
  have hkn := h.hk
  have hko := h.hout
  have hln := h.hn
  obtain ⟨r0, r1, r2, r3⟩ := h.box.cells
  clear h hyp
  go_enter Tryz.func88, Tryz.ntmps88
  go_wp2_with fail
  refine (sees_spec H.out hm (sgn 12)).mono ?_
  rintro e w1 ⟨b, k1, rfl, hR1, hyes, hno, hk1⟩
  have R1 : Hid (Rd w0 w1 R a n c toks k1 vo out false) := hR1
  clear hR1 hk1 H r0 r1 r2 r3
  cases b
  · obtain ⟨hkk, hsee⟩ := hno rfl
    rw [hkk] at R1
    have HL : Hid (levR 6 (toks.drop k) = levR (6 + 1) (toks.drop k)) := by
      have : levR 6 (toks.drop k) = levR (6 + 1) (toks.drop k) := by
        rw [levR_pre (by omega), show (if (6 : Nat) = 2 then (11 : Int) else 12) = 12 from rfl, hsee]
      exact this
    clear hyes hno hsee hkk
    go_wp2_with fail
    refine (HY.out (6 + 1) (by omega) w1 k vo out R1.out (by omega)).mono ?_
    rintro e w2 ⟨rfl, hpost⟩
    have fin : Hid (LevPost w0 R a n c toks k out (levR 6 (toks.drop k)) (.returned (.tuple #[])) w2) := by
      have : LevPost w0 R a n c toks k out (levR 6 (toks.drop k)) (.returned (.tuple #[])) w2 := by rw [HL.out]; exact ⟨rfl, hpost⟩
      exact this
    clear hpost
    go_wp2_with fail
    exact bodyPost_end (v := .tuple #[]) (by first | rfl | kernel_rfl) rfl fin.out
  · obtain ⟨hkk, hsee⟩ := hyes rfl
    rw [hkk] at R1
    have HS : Hid (seesT (sgn 12) (toks.drop k) = some (toks.drop (k + 1))) := hsee
    have hk1n := R1.out.hk
    clear hyes hno hsee hkk
    go_wp2_with fail
    refine (HY.out 6 (by omega) w1 (k + 1) vo out R1.out (by omega)).mono ?_
    rintro e w2 ⟨rfl, k2, v2, out2, b2, hR2, hsl2, hk2, hres2⟩
    have R2 : Hid (Rd w0 w2 R a n c toks k2 v2 out2 b2) := hR2
    have HRes : Hid (LevRes toks out k2 out2 b2 (levR 6 (toks.drop (k + 1)))) := hres2
    clear hR2 hres2 R1
    go_wp2_with fail
    refine (make_spec R2.out hm (by omega) 12).mono ?_
    rintro e w3 ⟨v3, rfl, hR3⟩
    have fin : Hid (LevPost w0 R a n c toks k out (levR 6 (toks.drop k)) (.returned (.tuple #[])) w3) := by
      refine ⟨rfl, k2, v3, _, b2, hR3, by rw [List.length_append]; show out2.length + 1 + k ≤ out.length + k2; omega, by omega, ?_⟩
      rw [levR_pre (by omega), show (if (6 : Nat) = 2 then (11 : Int) else 12) = 12 from rfl, HS.out]
      have hr := HRes.out
      cases b2
      · obtain ⟨o, h1, h2⟩ := res_false hr
        simp only []
        rw [h1]
        exact ⟨rfl, by rw [h2]; simp, rfl⟩
      · simp only []
        rw [res_true hr]
        rfl
    clear hR3 R2 HRes
    go_wp2_with fail
    exact bodyPost_ret (v := .tuple #[]) (by first | rfl | kernel_rfl) rfl fin.out
set_option maxRecDepth 100000 in
set_option maxHeartbeats 8000000 in
theorem level_3 {w0 w : World} {R : Nat} {a : Option Addr} {n c : Nat} {toks : List TT} {k : Nat} {vo : Value} {out : List TI} (h : Rd w0 w R a n c toks k vo out false) (hm : n ≤ 1048576) (M : Nat) (hyp : LevHyp w0 R a n c toks M) (hM : 10 * (n - k) + (7 - 3) ≤ M) :
    Calls Tryz.prog 88 #[.pointer (some ⟨R, 0, none⟩), .int .i64 3] w (LevPost w0 R a n c toks k out (levR 3 (toks.drop k))) := by
  have H : Hid (Rd w0 w R a n c toks k vo out false) := h
  have HY : Hid (LevHyp w0 R a n c toks M) := hyp
  have hkn := h.hk
  have hko := h.hout
  have hln := h.hn
  obtain ⟨r0, r1, r2, r3⟩ := h.box.cells
  clear h hyp
  go_enter Tryz.func88, Tryz.ntmps88
  go_wp2_with fail
  refine (HY.out 4 (by omega) w k vo out H.out (by omega)).mono ?_
  rintro e w1 ⟨rfl, k1, v1, out1, b1, hR1, hsl1, hk1, hres1⟩
  have R1 : Hid (Rd w0 w1 R a n c toks k1 v1 out1 b1) := hR1
  have hk1n := hR1.hk
  have hk1o := hR1.hout
  have HRes1 : Hid (LevRes toks out k1 out1 b1 (levR 4 (toks.drop k))) := hres1
  clear hR1 hres1 H r0 r1 r2 r3
  go_wp2_with fail
  refine (two_spec R1.out hm 3 (by omega)).mono ?_
  rintro e w2 ⟨kd, k2, rfl, hT, hR2⟩
  have R2 : Hid (Rd w0 w2 R a n c toks k2 v1 out1 b1) := hR2
  clear hR2 R1
  rcases hT with ⟨rfl, hkk, hn2⟩ | ⟨hkd3, hkd10, hkk, hs2⟩
  · rw [hkk] at R2
    have fin : Hid (LevPost w0 R a n c toks k out (levR 3 (toks.drop k)) (.returned (.tuple #[])) w2) := by
      refine ⟨rfl, k1, v1, out1, b1, R2.out, hsl1, hk1, ?_⟩
      rw [levR_3]
      have hr := HRes1.out
      cases b1
      · obtain ⟨o, h1, h2⟩ := res_false hr
        rw [h1]
        simp only []
        rw [hn2]
        exact ⟨rfl, h2, rfl⟩
      · rw [res_true hr]
        rfl
    clear hn2 hkk HRes1
    go_wp2_with fail
    exact bodyPost_end (v := .tuple #[]) (by first | rfl | kernel_rfl) rfl fin.out
  · rw [hkk] at R2
    have HS2 : Hid (twoT 3 (toks.drop k1) = some (kd, toks.drop (k1 + 1))) := hs2
    have hk2n := R2.out.hk
    have hkd0 : 0 < kd := by omega
    clear hs2 hkk
    cases b1
    · obtain ⟨o, h1, h2⟩ := res_false HRes1.out
      have HO : Hid (levR 4 (toks.drop k) = some (o, toks.drop k1) ∧ out1 = out ++ o) := ⟨h1, h2⟩
      clear h1 h2 HRes1
      go_wp2_with fail
      refine (HY.out 4 (by omega) w2 (k1 + 1) v1 out1 R2.out (by omega)).mono ?_
      rintro e w3 ⟨rfl, k3, v3, out3, b3, hR3, hsl3, hk3, hres3⟩
      have R3 : Hid (Rd w0 w3 R a n c toks k3 v3 out3 b3) := hR3
      have HRes : Hid (LevRes toks out1 k3 out3 b3 (levR 4 (toks.drop (k1 + 1)))) := hres3
      clear hR3 hres3 R2
      go_wp2_with fail
      refine (make_spec R3.out hm (by omega) kd).mono ?_
      rintro e w4 ⟨v4, rfl, hR4⟩
      have fin : Hid (LevPost w0 R a n c toks k out (levR 3 (toks.drop k)) (.returned (.tuple #[])) w4) := by
        refine ⟨rfl, k3, v4, _, b3, hR4, by rw [List.length_append]; show out3.length + 1 + k ≤ out.length + k3; omega, by omega, ?_⟩
        rw [levR_3, HO.out.1]
        simp only []
        rw [HS2.out]
        simp only []
        have hr := HRes.out
        cases b3
        · obtain ⟨p, h1, h2⟩ := res_false hr
          rw [h1]
          exact ⟨rfl, by rw [h2, HO.out.2]; simp, rfl⟩
        · rw [res_true hr]
          rfl
      clear hR4 R3 HRes
      go_wp2_with fail
      exact bodyPost_end (v := .tuple #[]) (by first | rfl | kernel_rfl) rfl fin.out
    · have HN : Hid (levR 4 (toks.drop k) = none) := res_true HRes1.out
      clear HRes1
      go_wp2_with fail
      refine (level_bad R2.out 4).mono ?_
      rintro e w3 ⟨rfl, hw3⟩
      replace hw3 := hw3.symm
      subst hw3
      go_wp2_with fail
      refine (make_spec R2.out hm (by omega) kd).mono ?_
      rintro e w4 ⟨v4, rfl, hR4⟩
      have fin : Hid (LevPost w0 R a n c toks k out (levR 3 (toks.drop k)) (.returned (.tuple #[])) w4) := by
        refine ⟨rfl, k1 + 1, v4, _, true, hR4, by rw [List.length_append]; show out1.length + 1 + k ≤ out.length + (k1 + 1); omega, by omega, ?_⟩
        rw [levR_3, HN.out]
        rfl
      clear hR4 R2
      go_wp2_with fail
      exact bodyPost_end (v := .tuple #[]) (by first | rfl | kernel_rfl) rfl fin.out
set_option maxRecDepth 100000 in
set_option maxHeartbeats 8000000 in
theorem level_7 {w0 w : World} {R : Nat} {a : Option Addr} {n c : Nat} {toks : List TT} {k : Nat} {vo : Value} {out : List TI} (h : Rd w0 w R a n c toks k vo out false) (hm : n ≤ 1048576) (M : Nat) (hyp : LevHyp w0 R a n c toks M) (hM : 10 * (n - k) + (7 - 7) ≤ M) :
    Calls Tryz.prog 88 #[.pointer (some ⟨R, 0, none⟩), .int .i64 7] w (LevPost w0 R a n c toks k out (levR 7 (toks.drop k))) := by
  have H : Hid (Rd w0 w R a n c toks k vo out false) := h
  have HY : Hid (LevHyp w0 R a n c toks M) := hyp
  have hkn := h.hk
  have hko := h.hout
  have hln := h.hn
  obtain ⟨r0, r1, r2, r3⟩ := h.box.cells
  clear h hyp
  go_enter Tryz.func88, Tryz.ntmps88
  go_wp2_with fail
  refine (one_spec H.out hm (HY.out.mono (by omega))).mono ?_
  rintro e w1 ⟨rfl, hpost⟩
  have fin : Hid (LevPost w0 R a n c toks k out (levR 7 (toks.drop k)) (.returned (.tuple #[])) w1) := ⟨rfl, hpost⟩
  clear hpost r0 r1 r2 r3
  go_wp2_with fail
  exact bodyPost_end (v := .tuple #[]) (by first | rfl | kernel_rfl) rfl fin.out
theorem level_spec {w0 : World} {R : Nat} {a : Option Addr} {n c : Nat} {toks : List TT} (hm : n ≤ 1048576) : ∀ M, LevHyp w0 R a n c toks M
  | 0 => fun _ _ _ _ _ _ _ h => by omega
  | M + 1 => by
    have ih := level_spec (w0 := w0) (R := R) (a := a) (c := c) (toks := toks) hm M
    intro lev hl w k vo out hr hlt
    have : lev = 0 ∨ lev = 1 ∨ lev = 2 ∨ lev = 3 ∨ lev = 4 ∨ lev = 5 ∨ lev = 6 ∨ lev = 7 := by omega
    rcases this with rfl | rfl | rfl | rfl | rfl | rfl | rfl | rfl
    · exact level_0 hr hm M ih (by omega)
    · exact level_1 hr hm M ih (by omega)
    · exact level_2 hr hm M ih (by omega)
    · exact level_3 hr hm M ih (by omega)
    · exact level_4 hr hm M ih (by omega)
    · exact level_5 hr hm M ih (by omega)
    · exact level_6 hr hm M ih (by omega)
    · exact level_7 hr hm M ih (by omega)
end Go.Proofs.YtfokdblojlmnlabGreatDoor

/-
  The contract of the model's ReadSum.
-/
namespace Go.Proofs.YtfokdblojlmnlabGreatDoor
open Go.ChangeShapes Go.WideShapes Go.ChangeAt Go.RowKit
attribute [local go_sem ↓] Go.wp_at_zero Go.wp_at_succ
attribute [local simp] World.cell?_alloc_past World.cell?_alloc_at World.frozen?_alloc_at cell_far cell_off cell_here World.frozen?_alloc_past

theorem fitItm_of {o : List TI} (h : o.all itemB = true) : FitItm o := fun j hj => by
  have := itemB_fits (List.all_eq_true.1 h _ (List.getElem_mem hj))
  unfold maxLen
  omega
def ReadPost (w : World) (l : List TI) (b : Bool) (e : Ending) (w' : World) : Prop := ∃ a' c', e = .returned (.tuple #[.slice a' l.length c', .bool b]) ∧ ItmAt w' a' l ∧ Below w.heap.size w w'
set_option maxRecDepth 100000 in
set_option maxHeartbeats 8000000 in
theorem readsum_spec (a : Option Addr) (c : Nat) (toks : List TT) (n : Nat) (hn : toks.length = n) (w : World) (hrow : TokAt w a toks) (hfit : FitTok toks) (hm : n ≤ 1048576) (l : List TI) (b : Bool) (hR : sumR toks = (l, b)) :
    Calls Tryz.prog 39 #[.slice a n c] w (ReadPost w l b) := by
  have HK : Hid (TokAt w a toks) := hrow
  have HF : Hid (FitTok toks) := hfit
  have HN : Hid (toks.length = n) := hn
  have HR : Hid (sumR toks = (l, b)) := hR
  clear hrow hfit hn hR
  go_enter Tryz.func39, Tryz.ntmps39
  go_wp2
  go_loopw [4] (fun i wr => ∃ j : Nat, j ≤ n ∧ i = .int .i64 j ∧ Hid ((toks.take j).all tokB = true) ∧ Below w.heap.size w wr) (fun i _ => n - (intOf i).toNat)
  case atStart => exact ⟨0, Nat.zero_le _, rfl, rfl, Below.refl _ _⟩
  case round =>
    obtain ⟨j, hjn, rfl, hall, hb⟩ := hrel
    by_cases hlt : j < n
    · have hlj : j < toks.length := by rw [HN.out]; exact hlt
      have hal := allT_snoc toks j hlj
      rw [hall.out, Bool.true_and] at hal
      have HAL : Hid ((toks.take (j + 1)).all tokB = tokB toks[j]) := hal
      obtain ⟨q, hq⟩ : ∃ q, tokB toks[j] = q := ⟨_, rfl⟩
      have HQ : Hid (tokB toks[j] = q) := hq
      have HNo : Hid (q = false → l = [] ∧ b = false) := by
        have : q = false → l = [] ∧ b = false := fun e => by
          have hf := HR.out
          rw [sumR_bad (by
            rw [Bool.eq_false_iff]
            intro h
            have := List.all_eq_true.1 h _ (List.getElem_mem hlj)
            rw [hq, e] at this
            cases this)] at hf
          injection hf with e1 e2
          exact ⟨e1.symm, e2.symm⟩
        exact this
      obtain ⟨hf1, hf2⟩ := HF.out j hlj
      obtain ⟨g, o, rfl, hgw, c0, c1, c2, c3, c4⟩ := HK.out.below hb j hlj
      have hi0 : (0 : Int) ≤ (j : Int) := by omega
      have hi1 : (j : Int) < (n : Int) := by omega
      clear hq hal
      generalize toks[j] = x at c0 c1 c2 c3 c4 hf1 hf2 HQ HAL
      go_wp2_with fail
      refine (tok_spec x _ hf1 hf2 q HQ.out).mono ?_
      rintro e w1 ⟨rfl, hb1⟩
      have hx1 := chain hb hb1
      clear c0 c1 c2 c3 c4 hb1
      cases q
      · obtain ⟨rfl, rfl⟩ := HNo.out rfl
        have fin : Hid (Below w.heap.size w (w1.alloc (.cells #[] 102))) := hx1.alloc hx1.size _
        go_wp2
        go_ret2
        exact ⟨_, _, rfl, itmAt_nil _ _, fin.out⟩
      · go_wp2
        go_roundw
        case rel => exact ⟨j + 1, by omega, by go_num, HAL.out.trans HQ.out, hx1⟩
        case measure => simp [intOf]; omega
    · have hi1 : ¬ (j : Int) < (n : Int) := by omega
      have hA : toks.all tokB = true := by
        have := hall.out
        rwa [List.take_of_length_le (by rw [HN.out]; omega)] at this
      have HA : Hid (toks.all tokB = true) := hA
      clear hA hall
      obtain ⟨V, hV⟩ : ∃ V, V = wr.alloc (.cells #[.slice a n c, .int .i64 0, .slice none 0 0, .bool false] 113) := ⟨_, rfl⟩
      have hRd : Rd wr V wr.heap.size a n c toks 0 (.slice none 0 0) [] false := by
        rw [hV]
        refine ⟨?_, ⟨rfl, .inl ⟨rfl, rfl⟩⟩, (Below.refl _ _).alloc (Nat.le_refl _) _, Nat.le_refl _, HK.out.below hb, HN.out, Nat.zero_le _, Nat.zero_le _⟩
        show (wr.heap.push _)[wr.heap.size]? = _
        simp
      have hxV : Below w.heap.size w V := by rw [hV]; exact hb.alloc hb.size _
      have HRd : Hid (Rd wr V wr.heap.size a n c toks 0 (.slice none 0 0) [] false) := hRd
      clear hRd
      go_wp2_with fail
      rw [← hV]
      obtain ⟨R, hRe⟩ : ∃ R, wr.heap.size = R := ⟨_, rfl⟩
      rw [hRe] at HRd ⊢
      clear hV hRe
      refine (level_spec hm (10 * n + 8) 0 (by omega) V 0 (.slice none 0 0) [] HRd.out (by omega)).mono ?_
      rintro e w2 ⟨rfl, k2, v2, out2, b2, hR2, hsl2, hk2, hres2⟩
      rw [List.drop_zero] at hres2
      have hx2 : Below w.heap.size w w2 := hb.trans (hR2.kept.mono hb.size)
      obtain ⟨r0, r1, r2, r3⟩ := hR2.box.cells
      have hk2n := hR2.hk
      cases b2
      · obtain ⟨o, hlv, ho⟩ := res_false hres2
        rw [List.nil_append] at ho
        subst ho
        by_cases hend : k2 = n
        · subst hend
          have hdn : toks.drop k2 = [] := List.drop_eq_nil_of_le (by rw [HN.out]; exact Nat.le_refl _)
          rw [hdn] at hlv
          have hf := HR.out
          rw [sumR_end HA.out hlv] at hf
          have hit := levR_all HA.out hlv
          obtain ⟨a', c', rfl, hAt⟩ := own_itm hR2.own
          have HAt : Hid (ItmAt w2 a' out2) := hAt
          have HFit : Hid (FitItm out2) := fitItm_of hit
          obtain ⟨q, hq⟩ : ∃ q, sumB out2 = q := ⟨_, rfl⟩
          rw [hq] at hf
          have HQ : Hid (sumB out2 = q) := hq
          have HFq : Hid ((if q = true then (out2, true) else ([], false)) = (l, b)) := hf
          have hol := hR2.hout
          obtain ⟨L, hL⟩ : ∃ L, out2.length = L := ⟨_, rfl⟩
          have HL : Hid (out2.length = L) := hL
          have hLm : L ≤ maxLen := by unfold maxLen; omega
          have hwk : IntKind.i64.wrap (k2 : Int) = (k2 : Int) := by rw [IntKind.wrap_i64]; omega
          have hkk : ((k2 : Int) != (k2 : Int)) = false := by simp
          rw [hL] at r2
          have HRL : Hid (R < w2.heap.size) := hR2.box.lt
          clear hf hq hit hAt hlv hdn hR2 hres2 hsl2 hk2 HRd hL
          go_wp2_with fail
          refine (sum_spec a' c' out2 L HL.out _ HAt.out HFit.out hLm q HQ.out).mono ?_
          rintro e w3 ⟨rfl, hb3⟩
          have hx3 := chain hx2 hb3
          have i2 : w3.cell? ⟨R, 2, none⟩ = some (.slice a' L c') := by rw [hb3.cell (p := ⟨R, 2, none⟩) HRL.out]; exact r2
          have HAt3 : Hid (ItmAt w3 a' out2) := HAt.out.below hb3
          clear hb3 r0 r1 r2 r3 HAt
          cases q
          · have hf := HFq.out
            rw [if_neg (by decide)] at hf
            injection hf with e1 e2
            subst e1 e2
            have fin : Hid (Below w.heap.size w (w3.alloc (.cells #[] 102))) := hx3.alloc hx3.size _
            clear HFq
            go_wp2
            go_ret2
            exact ⟨_, _, rfl, itmAt_nil _ _, fin.out⟩
          · have hf := HFq.out
            rw [if_pos rfl] at hf
            injection hf with e1 e2
            subst e1 e2
            clear HFq
            go_wp2
            go_ret2
            exact ⟨a', c', by rw [HL.out]; rfl, HAt3.out, hx3⟩
        · have hne : ((k2 : Int) != (n : Int)) = true := by simpa using (show ¬ (k2 : Int) = (n : Int) by omega)
          have hf := HR.out
          rw [sumR_more hlv (by
            intro e
            have := congrArg List.length e
            rw [List.length_drop, HN.out] at this
            simp at this
            omega)] at hf
          injection hf with e1 e2
          subst e1 e2
          have fin : Hid (Below w.heap.size w (w2.alloc (.cells #[] 102))) := hx2.alloc hx2.size _
          clear hlv hR2 hres2 HRd
          go_wp2
          go_ret2
          exact ⟨_, _, rfl, itmAt_nil _ _, fin.out⟩
      · have hlv := res_true hres2
        have hf := HR.out
        rw [sumR_none hlv] at hf
        injection hf with e1 e2
        subst e1 e2
        have fin : Hid (Below w.heap.size w (w2.alloc (.cells #[] 102))) := hx2.alloc hx2.size _
        clear hlv hR2 hres2 HRd
        go_wp2
        go_ret2
        exact ⟨_, _, rfl, itmAt_nil _ _, fin.out⟩
end Go.Proofs.YtfokdblojlmnlabGreatDoor

/-
  The contract of the law's helper that holds lists of items against each other: of two that are one it answers true.
-/
namespace Go.Proofs.YtfokdblojlmnlabGreatDoor
open Go.ChangeShapes Go.WideShapes Go.ChangeAt Go.RowKit
attribute [local go_sem ↓] Go.wp_at_zero Go.wp_at_succ
attribute [local simp] World.cell?_alloc_past World.cell?_alloc_at World.frozen?_alloc_at cell_far cell_off cell_here World.frozen?_alloc_past

theorem neqItm_one (k : Int) (a b : Int) (t s : ByteArray) (w : World) :
    (binOp .neq 102 (.agg #[.int .i64 k, .int .i64 a, .int .i64 b, .string t, .string s]) (.agg #[.int .i64 k, .int .i64 a, .int .i64 b, .string t, .string s])).run Tryz.prog w = .ok (.bool false) w := by
  go_simp
set_option maxHeartbeats 1000000 in
theorem like_sum (a b : Option Addr) (ca cb : Nat) (l : List TI) (w : World) (ha : ItmAt w a l) (hb : ItmAt w b l) (hm : l.length ≤ maxLen) :
    Calls Tryz.prog 40 #[.slice a l.length ca, .slice b l.length cb] w fun e w' => e = .returned (.bool true) ∧ Below w.heap.size w w' := by
  have hA : Hid (ItmAt w a l) := ha
  have hB : Hid (ItmAt w b l) := hb
  clear ha hb
  have hq := neqItm_one
  unfold maxLen at hm
  go_enter Tryz.func40, Tryz.ntmps40
  go_wp2
  go_loopw [5] (fun i wr => ∃ k : Nat, k ≤ l.length ∧ i = .int .i64 k ∧ Below w.heap.size w wr) (fun i _ => l.length - (intOf i).toNat)
  case atStart => exact ⟨0, Nat.zero_le _, rfl, Below.refl _ _⟩
  case round =>
    obtain ⟨k, hk, rfl, hx⟩ := hrel
    by_cases hlt : k < l.length
    · obtain ⟨b1, o1, rfl, hbw, c0, c1, c2, c3, c4⟩ := hA.out.below hx k hlt
      obtain ⟨b2, o2, rfl, hbw2, d0, d1, d2, d3, d4⟩ := hB.out.below hx k hlt
      have hi0 : (0 : Int) ≤ (k : Int) := by omega
      have hi1 : (k : Int) < (l.length : Int) := by omega
      generalize l[k] = x at c0 c1 c2 c3 c4 d0 d1 d2 d3 d4
      go_wp2_with fail
      go_quiet (fail)
      go_wp2
      go_roundw
      case rel => exact ⟨k + 1, by omega, by go_num, belowN hx _⟩
      case measure => simp [intOf]; omega
    · have hnn : ¬ (k : Int) < (l.length : Int) := by omega
      go_wp2
      go_ret
      exact ⟨rfl, hx⟩
end Go.Proofs.YtfokdblojlmnlabGreatDoor

/-
  What every law over a drawn code uses: cells that lie in blocks, from world to world; a code that reads the same later; a cell held against itself.
-/
namespace Go.Proofs.YtfokdblojlmnlabGreatDoor
open Go.ChangeShapes Go.WideShapes Go.ChangeAt Go.RowKit

/-- A cell lies in block B. -/
def C3 (w : World) (B : Nat) (k n : Int) (t : ByteArray) : Prop :=
  w.cell? ⟨B, 0, none⟩ = some (.int .i64 k) ∧ w.cell? ⟨B, 1, none⟩ = some (.int .i64 n) ∧ w.cell? ⟨B, 2, none⟩ = some (.string t) ∧ B < w.heap.size
theorem C3.below {w w' : World} {B : Nat} {k n : Int} {t : ByteArray} (h : C3 w B k n t) (hb : Below w.heap.size w w') : C3 w' B k n t := later3 hb h
theorem C3.step {w w' : World} {B : Nat} {k n : Int} {t : ByteArray} {o : Obj} (h : C3 w B k n t) (hb : Below (w.alloc o).heap.size (w.alloc o) w') : C3 w' B k n t := h.below (chainA hb)
theorem C3.fresh {w w' : World} {k n : Int} {t : ByteArray} {T : TypeId} (hb : Below (w.alloc (.cells #[.int .i64 k, .int .i64 n, .string t] T)).heap.size (w.alloc (.cells #[.int .i64 k, .int .i64 n, .string t] T)) w') : C3 w' w.heap.size k n t := box3 hb

/-- The code that a law is handed, byte by byte. -/
def Code0 (w : World) (a : Option Addr) (len : Nat) : Prop :=
  ∀ j, j < len → ∃ (rb ro : Nat) (v : Int), a = some ⟨rb, ro, none⟩ ∧ rb < w.heap.size ∧ w.cell? ⟨rb, ro + j, none⟩ = some (.int .u8 v) ∧ 0 ≤ v ∧ v ≤ 255
theorem Code0.below {w w' : World} {a : Option Addr} {len : Nat} (h : Code0 w a len) (hb : Below w.heap.size w w') : Code0 w' a len := by
  intro j hj
  obtain ⟨rb, ro, v, ha, hrb, hcell, hv⟩ := h j hj
  exact ⟨rb, ro, v, ha, Nat.lt_of_lt_of_le hrb hb.size, by rw [hb.cell (p := ⟨rb, ro + j, none⟩) hrb]; exact hcell, hv⟩
theorem Code0.alloc {w : World} {a : Option Addr} {len : Nat} (h : Code0 w a len) (o : Obj) : Code0 (w.alloc o) a len := h.below ((Below.refl _ _).alloc (Nat.le_refl _) o)

theorem neq_same (a b : Int) (s : ByteArray) (w : World) :
    (binOp .neq 54 (.agg #[.int .i64 a, .int .i64 b, .string s]) (.agg #[.int .i64 a, .int .i64 b, .string s])).run Tryz.prog w = .ok (.bool false) w := by
  rw [run_neq, sameB_refl]; rfl
theorem eql_same (a b : Int) (s : ByteArray) (w : World) :
    (binOp .eql 54 (.agg #[.int .i64 a, .int .i64 b, .string s]) (.agg #[.int .i64 a, .int .i64 b, .string s])).run Tryz.prog w = .ok (.bool true) w := by
  rw [run_eql, sameB_refl]

theorem big_laws (a : Option Addr) (len cap : Nat) (w : World) :
    Calls Tryz.prog 6 #[.slice a len cap] w fun e w' => e = .returned (.bool (decide (4096 < (len : Int)))) ∧ w = w' := by
  go_enter Tryz.func6, Tryz.ntmps6
  go_wp2
  go_ret
  exact ⟨rfl, rfl⟩

end Go.Proofs.YtfokdblojlmnlabGreatDoor
