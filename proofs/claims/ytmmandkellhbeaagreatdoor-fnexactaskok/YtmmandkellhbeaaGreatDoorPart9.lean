/-
  A part of the proof: Names2, TabI1, KeyVar, KeyI, ReadS.
-/
import Derived.Test.YtmmandkellhbeaaGreatDoorPart3
import Derived.Test.YtmmandkellhbeaaGreatDoorPart1
import Derived.Test.YtmmandkellhbeaaGreatDoorShelf
import Derived.Test.YtmmandkellhbeaaGreatDoorPart2

/-
  The contract of the model's question whether texts are names, no two alike, and not too many.
-/
namespace Go.Proofs.YtmmandkellhbeaaGreatDoor
open Go.ChangeShapes Go.WideShapes Go.ChangeAt Go.RowKit
attribute [local go_sem ↓] Go.wp_at_zero Go.wp_at_succ
attribute [local simp] World.cell?_alloc_past World.cell?_alloc_at World.frozen?_alloc_at cell_far cell_off cell_here World.frozen?_alloc_past

theorem StrsAt.take {w : World} {a : Option Addr} {l : List ByteArray} (h : StrsAt w a l) (k : Nat) : StrsAt w a (l.take k) := by
  intro j hj
  have hj' : j < l.length := by rw [List.length_take] at hj; omega
  rw [List.getElem_take]
  exact h j hj'
theorem at_specN (n : Nat) (a : Option Addr) (cap : Nat) (l : List ByteArray) (hn : l.length = n) (s : ByteArray) (w : World) (hrow : StrsAt w a l) (hm : n ≤ maxLen) :
    Calls Tryz.prog 67 #[.slice a n cap, .string s] w fun e w' => ∃ r, e = .returned (.int .i64 r) ∧ AtIs l s r ∧ Below w.heap.size w w' := by
  subst hn; exact at_spec a cap l s w hrow hm

set_option maxRecDepth 100000 in
set_option maxHeartbeats 2000000 in
theorem names_spec (a : Option Addr) (cap : Nat) (l : List ByteArray) (least most : Int) (w : World) (hrow : StrsAt w a l) (hfit : FitS l) (hm : l.length ≤ maxLen) (hcap : l.length ≤ cap) (b : Bool) (hb : namesB l least most = b) :
    Calls Tryz.prog 50 #[.slice a l.length cap, .int .i64 least, .int .i64 most] w fun e w' => e = .returned (.bool b) ∧ Below w.heap.size w w' := by
  have HR : Hid (StrsAt w a l) := hrow
  have HF : Hid (FitS l) := hfit
  have HB : Hid (namesB l least most = b) := hb
  clear hrow hfit hb
  have hmm := hm
  unfold maxLen at hm
  go_enter Tryz.func50, Tryz.ntmps50
  go_wp2
  go_loopw [7] (fun kk wr => ∃ k : Nat, k ≤ l.length ∧ kk = .int .i64 k ∧ Hid (namesD (l.take k) = true) ∧ Below w.heap.size w wr) (fun kk _ => l.length - (intOf kk).toNat)
  case atStart => exact ⟨0, Nat.zero_le _, rfl, rfl, Below.refl _ _⟩
  case round =>
    obtain ⟨k, hk, rfl, hall, hbw⟩ := hrel
    by_cases hlt : k < l.length
    · have HW : Hid (StrsAt wr a l) := HR.out.below hbw
      obtain ⟨g, o, rfl, hgw, c0⟩ := HW.out k hlt
      have hi0 : (0 : Int) ≤ (k : Int) := by omega
      have hi1 : (k : Int) < (l.length : Int) := by omega
      have hkc : (k : Int) ≤ (cap : Int) := by omega
      have hft := HF.out k hlt
      have hsn := namesD_snoc l k hlt
      rw [hall.out, Bool.true_and] at hsn
      have HS : Hid (namesD (l.take (k + 1)) = (nameB l[k] && !inB (l.take k) l[k])) := hsn
      have hno : Hid (namesD (l.take (k + 1)) = false → b = false) := by
        have : namesD (l.take (k + 1)) = false → b = false := by
          intro e
          rw [← HB.out]
          unfold namesB
          rw [namesD_no l (k + 1) e, Bool.false_and]
        exact this
      have HT : Hid ((l.take k).length = k) := by
        have : (l.take k).length = k := by rw [List.length_take]; omega
        exact this
      clear hsn
      obtain ⟨r, hr⟩ : ∃ r, nameB l[k] = r := ⟨_, rfl⟩
      generalize l[k] = x at c0 hft HS hr
      have HRR : Hid (nameB x = r) := hr
      clear hr
      go_wp2_with fail
      refine wp_region_held_drew (S := (fun w' => w'.cell? ⟨g, o + k, none⟩ = some (.string x))) (by kernel_rfl) ?_ (fun hHeld => ?_)
      · (((try dsimp only); (repeat' apply And.intro) <;> first | (go_keep; done) | (simp (disch := first | omega | (simp <;> omega) | fail) [*]; done) | fail))
      refine wpAnyH_take (i := 0) (by simp only [List.getElem?_toArray, List.getElem?_cons_zero]; rfl) (by kernel_rfl) (by kernel_rfl) (by kernel_rfl) (by intro _ _ _ h; exact h) (Or.inl ⟨by rfl, fun w hSw => by (dsimp only at hSw; go_simp; (try with_reducible rfl))⟩) (by assumption) ?_
      simp only [Act.put, List.setIfInBounds_toArray, List.set_cons_zero, List.set_cons_succ]
      refine wpAnyH_take (i := 1) (by simp only [List.getElem?_toArray, List.getElem?_cons_zero, List.getElem?_cons_succ]; rfl) (by kernel_rfl) (by kernel_rfl) (by kernel_rfl) (by intro _ _ _ h; exact h) (Or.inl ⟨by rfl, fun w hSw => by (dsimp only at hSw; go_simp; (try with_reducible rfl))⟩) (by assumption) ?_
      simp only [Act.put, List.setIfInBounds_toArray, List.set_cons_zero, List.set_cons_succ]
      refine wpAnyH_take (i := 2) (by simp only [List.getElem?_toArray, List.getElem?_cons_zero, List.getElem?_cons_succ]; rfl) (by kernel_rfl) (by kernel_rfl) (by kernel_rfl) (by intro _ _ _ h; exact h) (Or.inl ⟨by rfl, fun w hSw => by (dsimp only at hSw; go_simp; (try with_reducible rfl))⟩) (by assumption) ?_
      simp only [Act.put, List.setIfInBounds_toArray, List.set_cons_zero, List.set_cons_succ]
      refine wpAnyH_take (i := 3) (by simp only [List.getElem?_toArray, List.getElem?_cons_zero, List.getElem?_cons_succ]; rfl) (by kernel_rfl) (by kernel_rfl) (by kernel_rfl) (by intro _ _ _ h; exact h) (Or.inl ⟨by rfl, fun w hSw => by (dsimp only at hSw; go_simp; (try with_reducible rfl))⟩) (by assumption) ?_
      simp only [Act.put, List.setIfInBounds_toArray, List.set_cons_zero, List.set_cons_succ]
      refine wpAnyH_ready (rs := [4]) (by kernel_rfl) (by simp) ?_
      refine AllReadyH.cons (by simp only [List.getElem?_toArray, List.getElem?_cons_zero, List.getElem?_cons_succ]; rfl) ?_ AllReadyH.nil
      intro K hK
      go_simp
      refine (name_spec x _ hft r HRR.out).mono ?_
      rintro e wA ⟨rfl, rfl⟩
      cases r
      · go_wp2_with fail
        refine hK.out _ _ ?_ (fun hHeld => ?_)
        · (((try dsimp only); (repeat' apply And.intro) <;> first | (go_keep; done) | (simp (disch := first | omega | (simp <;> omega) | fail) [*]; done) | fail))
        clear hK K
        try simp only [Act.put, List.setIfInBounds_toArray, List.set_cons_zero, List.set_cons_succ]
        refine wpAnyH_take (i := 5) (by simp only [List.getElem?_toArray, List.getElem?_cons_zero, List.getElem?_cons_succ]; rfl) (by kernel_rfl) (by kernel_rfl) (by kernel_rfl) (by intro _ _ _ h; exact h) (Or.inl ⟨by rfl, fun w hSw => by (dsimp only at hSw; go_simp; (try with_reducible rfl))⟩) (by assumption) ?_
        simp only [Act.put, List.setIfInBounds_toArray, List.set_cons_zero, List.set_cons_succ]
        refine wpAnyH_take (i := 6) (by simp only [List.getElem?_toArray, List.getElem?_cons_zero, List.getElem?_cons_succ]; rfl) (by kernel_rfl) (by kernel_rfl) (by kernel_rfl) (by intro _ _ _ h; exact h) (Or.inl ⟨by rfl, fun w hSw => by (dsimp only at hSw; go_simp; (try with_reducible rfl))⟩) (by assumption) ?_
        simp only [Act.put, List.setIfInBounds_toArray, List.set_cons_zero, List.set_cons_succ]
        refine wpAnyH_take (i := 7) (v := undef) (by simp only [List.getElem?_toArray, List.getElem?_cons_zero, List.getElem?_cons_succ]; rfl) (by kernel_rfl) (by kernel_rfl) (by kernel_rfl) (by intro _ _ _ h; exact h) (Or.inr ⟨by rfl, rfl⟩) (by assumption) ?_
        simp only [Act.put, List.setIfInBounds_toArray, List.set_cons_zero, List.set_cons_succ]
        refine wpAnyH_take (i := 8) (v := undef) (by simp only [List.getElem?_toArray, List.getElem?_cons_zero, List.getElem?_cons_succ]; rfl) (by kernel_rfl) (by kernel_rfl) (by kernel_rfl) (by intro _ _ _ h; exact h) (Or.inr ⟨by rfl, rfl⟩) (by assumption) ?_
        simp only [Act.put, List.setIfInBounds_toArray, List.set_cons_zero, List.set_cons_succ]
        refine wpAnyH_take (i := 9) (v := undef) (by simp only [List.getElem?_toArray, List.getElem?_cons_zero, List.getElem?_cons_succ]; rfl) (by kernel_rfl) (by kernel_rfl) (by kernel_rfl) (by intro _ _ _ h; exact h) (Or.inr ⟨by rfl, rfl⟩) (by assumption) ?_
        simp only [Act.put, List.setIfInBounds_toArray, List.set_cons_zero, List.set_cons_succ]
        refine wpAnyH_take (i := 10) (v := undef) (by simp only [List.getElem?_toArray, List.getElem?_cons_zero, List.getElem?_cons_succ]; rfl) (by kernel_rfl) (by kernel_rfl) (by kernel_rfl) (by intro _ _ _ h; exact h) (Or.inr ⟨by rfl, rfl⟩) (by assumption) ?_
        simp only [Act.put, List.setIfInBounds_toArray, List.set_cons_zero, List.set_cons_succ]
        refine wpAnyH_take (i := 11) (v := undef) (by simp only [List.getElem?_toArray, List.getElem?_cons_zero, List.getElem?_cons_succ]; rfl) (by kernel_rfl) (by kernel_rfl) (by kernel_rfl) (by intro _ _ _ h; exact h) (Or.inr ⟨by rfl, rfl⟩) (by assumption) ?_
        simp only [Act.put, List.setIfInBounds_toArray, List.set_cons_zero, List.set_cons_succ]
        refine wpAnyH_take (i := 12) (v := undef) (by simp only [List.getElem?_toArray, List.getElem?_cons_zero, List.getElem?_cons_succ]; rfl) (by kernel_rfl) (by kernel_rfl) (by kernel_rfl) (by intro _ _ _ h; exact h) (Or.inr ⟨by rfl, rfl⟩) (by assumption) ?_
        simp only [Act.put, List.setIfInBounds_toArray, List.set_cons_zero, List.set_cons_succ]
        refine wpAnyH_take (i := 13) (v := undef) (by simp only [List.getElem?_toArray, List.getElem?_cons_zero, List.getElem?_cons_succ]; rfl) (by kernel_rfl) (by kernel_rfl) (by kernel_rfl) (by intro _ _ _ h; exact h) (Or.inr ⟨by rfl, rfl⟩) (by assumption) ?_
        simp only [Act.put, List.setIfInBounds_toArray, List.set_cons_zero, List.set_cons_succ]
        refine wpAnyH_take (i := 14) (v := undef) (by simp only [List.getElem?_toArray, List.getElem?_cons_zero, List.getElem?_cons_succ]; rfl) (by kernel_rfl) (by kernel_rfl) (by kernel_rfl) (by intro _ _ _ h; exact h) (Or.inr ⟨by rfl, rfl⟩) (by assumption) ?_
        simp only [Act.put, List.setIfInBounds_toArray, List.set_cons_zero, List.set_cons_succ]
        refine wpAnyH_take (i := 15) (v := undef) (by simp only [List.getElem?_toArray, List.getElem?_cons_zero, List.getElem?_cons_succ]; rfl) (by kernel_rfl) (by kernel_rfl) (by kernel_rfl) (by intro _ _ _ h; exact h) (Or.inr ⟨by rfl, rfl⟩) (by assumption) ?_
        simp only [Act.put, List.setIfInBounds_toArray, List.set_cons_zero, List.set_cons_succ]
        refine wpAnyH_take (i := 16) (by simp only [List.getElem?_toArray, List.getElem?_cons_zero, List.getElem?_cons_succ]; rfl) (by kernel_rfl) (by kernel_rfl) (by kernel_rfl) (by intro _ _ _ h; exact h) (Or.inl ⟨by rfl, fun w hSw => by (dsimp only at hSw; go_simp; (try with_reducible rfl))⟩) (by assumption) ?_
        simp only [Act.put, List.setIfInBounds_toArray, List.set_cons_zero, List.set_cons_succ]
        refine wpAnyH_done (by kernel_rfl) ?_ _
        have e := hno.out (by rw [HS.out, HRR.out]; rfl)
        subst e
        go_wp2
        go_ret
        exact ⟨rfl, hbw.drew⟩
      · go_wp2_with fail
        refine hK.out _ _ ?_ (fun hHeld => ?_)
        · (((try dsimp only); (repeat' apply And.intro) <;> first | (go_keep; done) | (simp (disch := first | omega | (simp <;> omega) | fail) [*]; done) | fail))
        clear hK K
        try simp only [Act.put, List.setIfInBounds_toArray, List.set_cons_zero, List.set_cons_succ]
        refine wpAnyH_take (i := 5) (by simp only [List.getElem?_toArray, List.getElem?_cons_zero, List.getElem?_cons_succ]; rfl) (by kernel_rfl) (by kernel_rfl) (by kernel_rfl) (by intro _ _ _ h; exact h) (Or.inl ⟨by rfl, fun w hSw => by (dsimp only at hSw; go_simp; (try with_reducible rfl))⟩) (by assumption) ?_
        simp only [Act.put, List.setIfInBounds_toArray, List.set_cons_zero, List.set_cons_succ]
        refine wpAnyH_take (i := 6) (by simp only [List.getElem?_toArray, List.getElem?_cons_zero, List.getElem?_cons_succ]; rfl) (by kernel_rfl) (by kernel_rfl) (by kernel_rfl) (by intro _ _ _ h; exact h) (Or.inl ⟨by rfl, fun w hSw => by (dsimp only at hSw; go_simp; (try with_reducible rfl))⟩) (by assumption) ?_
        simp only [Act.put, List.setIfInBounds_toArray, List.set_cons_zero, List.set_cons_succ]
        refine wpAnyH_take (i := 7) (by simp only [List.getElem?_toArray, List.getElem?_cons_zero, List.getElem?_cons_succ]; rfl) (by kernel_rfl) (by kernel_rfl) (by kernel_rfl) (by intro _ _ _ h; exact h) (Or.inl ⟨by rfl, fun w hSw => by (dsimp only at hSw; go_simp; (try with_reducible rfl))⟩) (by assumption) ?_
        simp only [Act.put, List.setIfInBounds_toArray, List.set_cons_zero, List.set_cons_succ]
        refine wpAnyH_take (i := 8) (by simp only [List.getElem?_toArray, List.getElem?_cons_zero, List.getElem?_cons_succ]; rfl) (by kernel_rfl) (by kernel_rfl) (by kernel_rfl) (by intro _ _ _ h; exact h) (Or.inl ⟨by rfl, fun w hSw => by (dsimp only at hSw; go_simp; (try with_reducible rfl))⟩) (by assumption) ?_
        simp only [Act.put, List.setIfInBounds_toArray, List.set_cons_zero, List.set_cons_succ]
        refine wpAnyH_take (i := 9) (by simp only [List.getElem?_toArray, List.getElem?_cons_zero, List.getElem?_cons_succ]; rfl) (by kernel_rfl) (by kernel_rfl) (by kernel_rfl) (by intro _ _ _ h; exact h) (Or.inl ⟨by rfl, fun w hSw => by (dsimp only at hSw; go_simp; (try with_reducible rfl))⟩) (by assumption) ?_
        simp only [Act.put, List.setIfInBounds_toArray, List.set_cons_zero, List.set_cons_succ]
        refine wpAnyH_take (i := 10) (by simp only [List.getElem?_toArray, List.getElem?_cons_zero, List.getElem?_cons_succ]; rfl) (by kernel_rfl) (by kernel_rfl) (by kernel_rfl) (by intro _ _ _ h; exact h) (Or.inl ⟨by rfl, fun w hSw => by (dsimp only at hSw; go_simp; (try with_reducible rfl))⟩) (by assumption) ?_
        simp only [Act.put, List.setIfInBounds_toArray, List.set_cons_zero, List.set_cons_succ]
        refine wpAnyH_take (i := 11) (by simp only [List.getElem?_toArray, List.getElem?_cons_zero, List.getElem?_cons_succ]; rfl) (by kernel_rfl) (by kernel_rfl) (by kernel_rfl) (by intro _ _ _ h; exact h) (Or.inl ⟨by rfl, fun w hSw => by (dsimp only at hSw; go_simp; (try with_reducible rfl))⟩) (by assumption) ?_
        simp only [Act.put, List.setIfInBounds_toArray, List.set_cons_zero, List.set_cons_succ]
        refine wpAnyH_take (i := 12) (by simp only [List.getElem?_toArray, List.getElem?_cons_zero, List.getElem?_cons_succ]; rfl) (by kernel_rfl) (by kernel_rfl) (by kernel_rfl) (by intro _ _ _ h; exact h) (Or.inl ⟨by rfl, fun w hSw => by (dsimp only at hSw; go_simp; (try with_reducible rfl))⟩) (by assumption) ?_
        simp only [Act.put, List.setIfInBounds_toArray, List.set_cons_zero, List.set_cons_succ]
        refine wpAnyH_take (i := 13) (by simp only [List.getElem?_toArray, List.getElem?_cons_zero, List.getElem?_cons_succ]; rfl) (by kernel_rfl) (by kernel_rfl) (by kernel_rfl) (by intro _ _ _ h; exact h) (Or.inl ⟨by rfl, fun w hSw => by (dsimp only at hSw; go_simp; (try with_reducible rfl))⟩) (by assumption) ?_
        simp only [Act.put, List.setIfInBounds_toArray, List.set_cons_zero, List.set_cons_succ]
        refine wpAnyH_ready (rs := [14]) (by kernel_rfl) (by simp) ?_
        refine AllReadyH.cons (by simp only [List.getElem?_toArray, List.getElem?_cons_zero, List.getElem?_cons_succ]; rfl) ?_ AllReadyH.nil
        intro K hK
        go_simp
        refine (at_specN k _ _ (l.take k) HT.out x _ ((HW.out.take k).below (Below.refl wr.heap.size wr).drew) (by unfold maxLen; omega)).mono ?_
        rintro e wA ⟨r, rfl, hat, hbA⟩
        have hat0 : Hid (AtIs (l.take k) x r) := hat
        clear hat
        obtain ⟨hca, hfa⟩ := bcell hbA
        have hza := hbA.size
        try simp at hza
        have hxA : Below w.heap.size w wA := chain hbw (undrew hbA)
        have yA : g < wA.heap.size := by omega
        go_wp2_with fail
        refine hK.out _ _ ?_ (fun hHeld => ?_)
        · (((try dsimp only); (repeat' apply And.intro) <;> first | (go_keep; done) | (simp (disch := first | omega | (simp <;> omega) | fail) [*]; done) | fail))
        clear hK K
        try simp only [Act.put, List.setIfInBounds_toArray, List.set_cons_zero, List.set_cons_succ]
        by_cases hr0 : 0 ≤ r
        · skip
          refine wpAnyH_take (i := 15) (by simp only [List.getElem?_toArray, List.getElem?_cons_zero, List.getElem?_cons_succ]; rfl) (by kernel_rfl) (by kernel_rfl) (by kernel_rfl) (by intro _ _ _ h; exact h) (Or.inl ⟨by rfl, fun w hSw => by (dsimp only at hSw; go_simp; (try with_reducible rfl))⟩) (by assumption) ?_
          simp only [Act.put, List.setIfInBounds_toArray, List.set_cons_zero, List.set_cons_succ]
          refine wpAnyH_take (i := 16) (by simp only [List.getElem?_toArray, List.getElem?_cons_zero, List.getElem?_cons_succ]; rfl) (by kernel_rfl) (by kernel_rfl) (by kernel_rfl) (by intro _ _ _ h; exact h) (Or.inl ⟨by rfl, fun w hSw => by (dsimp only at hSw; go_simp; (try with_reducible rfl))⟩) (by assumption) ?_
          simp only [Act.put, List.setIfInBounds_toArray, List.set_cons_zero, List.set_cons_succ]
          refine wpAnyH_done (by kernel_rfl) ?_ _
          have e := hno.out (by rw [HS.out, HRR.out, inB_iff.2 (hat0.out.neg.1 hr0)]; rfl)
          subst e
          go_wp2
          go_ret
          exact ⟨rfl, hxA⟩
        · have hr1 : r < 0 := by omega
          refine wpAnyH_take (i := 15) (by simp only [List.getElem?_toArray, List.getElem?_cons_zero, List.getElem?_cons_succ]; rfl) (by kernel_rfl) (by kernel_rfl) (by kernel_rfl) (by intro _ _ _ h; exact h) (Or.inl ⟨by rfl, fun w hSw => by (dsimp only at hSw; go_simp; (try with_reducible rfl))⟩) (by assumption) ?_
          simp only [Act.put, List.setIfInBounds_toArray, List.set_cons_zero, List.set_cons_succ]
          refine wpAnyH_take (i := 16) (by simp only [List.getElem?_toArray, List.getElem?_cons_zero, List.getElem?_cons_succ]; rfl) (by kernel_rfl) (by kernel_rfl) (by kernel_rfl) (by intro _ _ _ h; exact h) (Or.inl ⟨by rfl, fun w hSw => by (dsimp only at hSw; go_simp; (try with_reducible rfl))⟩) (by assumption) ?_
          simp only [Act.put, List.setIfInBounds_toArray, List.set_cons_zero, List.set_cons_succ]
          refine wpAnyH_done (by kernel_rfl) ?_ _
          have hall2 : Hid (namesD (l.take (k + 1)) = true) := by
            have : namesD (l.take (k + 1)) = true := by
              rw [HS.out, HRR.out, inB_no.2 (fun h => hr0 (hat0.out.neg.2 h))]; rfl
            exact this
          go_wp2
          go_roundw
          case rel => exact ⟨k + 1, by omega, by go_num, hall2, hxA⟩
          case measure => simp [intOf]; omega
    · have hkl : k = l.length := by omega
      subst hkl
      have fin : Hid ((decide (least ≤ (l.length : Int)) && decide ((l.length : Int) ≤ most)) = b) := by
        have : (decide (least ≤ (l.length : Int)) && decide ((l.length : Int) ≤ most)) = b := by
          rw [← HB.out]; unfold namesB
          have := hall.out
          rw [List.take_length] at this
          rw [this, Bool.true_and]
        exact this
      go_wp2_with fail
      refine (in_spec _ _ _ _).mono ?_
      rintro e w' ⟨rfl, rfl⟩
      rw [fin.out]
      go_wp2
      go_ret
      exact ⟨rfl, hbw⟩

end Go.Proofs.YtmmandkellhbeaaGreatDoor

/-
  The contracts of the program's questions on names: whether a text is one, whether all of a list are, whether no two are alike.
-/
namespace Go.Proofs.YtmmandkellhbeaaGreatDoor
open Go.ChangeShapes Go.WideShapes Go.ChangeAt Go.RowKit
attribute [local go_sem ↓] Go.wp_at_zero Go.wp_at_succ
attribute [local simp] World.cell?_alloc_past World.cell?_alloc_at World.frozen?_alloc_at cell_far cell_off cell_here World.frozen?_alloc_past

theorem nameB_short {s : ByteArray} (h : ¬ (1 : Int) ≤ (s.size : Int)) : nameB s = false := by
  have : s = ⟨#[]⟩ := by
    apply ByteArray.ext
    apply Array.eq_empty_of_size_eq_zero
    have : s.size = 0 := by omega
    exact this
  rw [this]; rfl
theorem nameB_long {s : ByteArray} (h : ¬ (s.size : Int) ≤ 6) : nameB s = false := by
  unfold nameB
  rw [decide_eq_false h, Bool.and_false, Bool.and_false]
theorem nameB_mid {s : ByteArray} (h : (1 : Int) ≤ (s.size : Int)) (h6 : (s.size : Int) ≤ 6) : nameB s = (lets s.data.toList && decide ((s.size : Int) ≤ 12)) := by
  unfold nameB
  rw [decide_eq_true h6, decide_eq_true (by omega : (s.size : Int) ≤ 12), decide_eq_true, Bool.true_and]
  intro e
  rw [e] at h
  exact absurd h (by decide)

theorem name_impl (s : ByteArray) (w : World) (hs : s.size ≤ maxLen) (b : Bool) (hb : nameB s = b) :
    Calls Tryz.prog 110 #[.string s] w fun e w' => e = .returned (.bool b) ∧ w' = w := by
  have hm := hs
  unfold maxLen at hm
  by_cases h1 : (1 : Int) ≤ (s.size : Int)
  · by_cases h6 : (s.size : Int) ≤ 6
    · rw [nameB_mid h1 h6] at hb
      have HB : Hid ((lets s.data.toList && decide ((s.size : Int) ≤ 12)) = b) := hb
      clear hb
      go_enter Tryz.func110, Tryz.ntmps110
      go_wp2_with fail
      refine (textFits_impl s _ hs).mono ?_
      rintro e w' ⟨rfl, rfl⟩
      rw [HB.out]
      go_wp2
      go_ret
      exact ⟨rfl, rfl⟩
    · rw [nameB_long h6] at hb
      subst hb
      go_enter Tryz.func110, Tryz.ntmps110
      go_wp2
      go_ret
      exact ⟨rfl, rfl⟩
  · rw [nameB_short h1] at hb
    subst hb
    go_enter Tryz.func110, Tryz.ntmps110
    go_wp2
    go_ret
    exact ⟨rfl, rfl⟩

set_option maxHeartbeats 1000000 in
theorem index_str (n : Nat) (a : Option Addr) (cap : Nat) (l : List ByteArray) (hn : l.length = n) (s : ByteArray) (w : World) (hrow : StrsAt w a l) (hm : n ≤ maxLen) :
    Calls Tryz.prog 142 #[.slice a n cap, .string s] w fun e w' => ∃ r, e = .returned (.int .i64 r) ∧ AtIs l s r ∧ Below w.heap.size w w' := by
  subst hn
  have HR : Hid (StrsAt w a l) := hrow
  clear hrow
  unfold maxLen at hm
  go_enter Tryz.func142, Tryz.ntmps142
  go_wp2
  go_loopw [8] (fun kk wr => ∃ k : Nat, k ≤ l.length ∧ kk = .int .i64 k ∧ Hid (∀ j (hj : j < l.length), j < k → l[j] ≠ s) ∧ Below w.heap.size w wr) (fun kk _ => l.length - (intOf kk).toNat)
  case atStart => exact ⟨0, Nat.zero_le _, rfl, fun j _ h => by omega, Below.refl _ _⟩
  case round =>
    obtain ⟨k, hk, rfl, hall, hbw⟩ := hrel
    by_cases hlt : k < l.length
    · obtain ⟨g, o, rfl, hgw, c0⟩ := HR.out.below hbw k hlt
      have hi0 : (0 : Int) ≤ (k : Int) := by omega
      have hi1 : (k : Int) < (l.length : Int) := by omega
      by_cases e : l[k] = s
      · have fin : Hid (AtIs l s (k : Int)) := Or.inr ⟨k, hlt, rfl, e, hall.out⟩
        have hq := txt_same e.symm
        clear e
        generalize l[k] = x at c0 hq
        go_wp2
        go_ret
        exact ⟨_, rfl, fin.out, hbw⟩
      · have hall2 : Hid (∀ j (hj : j < l.length), j < k + 1 → l[j] ≠ s) := by
          have : ∀ j (hj : j < l.length), j < k + 1 → l[j] ≠ s := by
            intro j hj hjk
            by_cases ej : j = k
            · subst ej; exact e
            · exact hall.out j hj (by omega)
          exact this
        have hq := txt_other (Ne.symm e)
        clear e
        generalize l[k] = x at c0 hq
        go_wp2
        go_roundw
        case rel => exact ⟨k + 1, by omega, by go_num, hall2, hbw⟩
        case measure => simp [intOf]; omega
    · have fin : Hid (AtIs l s (-1)) := Or.inl ⟨rfl, fun hmem => by
        obtain ⟨j, hj, e⟩ := List.getElem_of_mem hmem
        exact hall.out j hj (by omega) e⟩
      have hkl : k = l.length := by omega
      subst hkl
      have hnn : ¬ (l.length : Int) < (l.length : Int) := by omega
      go_wp2
      go_ret
      exact ⟨_, rfl, fin.out, hbw⟩

theorem contains_str (n : Nat) (a : Option Addr) (cap : Nat) (l : List ByteArray) (hn : l.length = n) (s : ByteArray) (w : World) (hrow : StrsAt w a l) (hm : n ≤ maxLen) (b : Bool) (hb : inB l s = b) :
    Calls Tryz.prog 112 #[.slice a n cap, .string s] w fun e w' => e = .returned (.bool b) ∧ Below w.heap.size w w' := by
  have HI : Hid (Calls Tryz.prog 142 #[.slice a n cap, .string s] w fun e w' => ∃ r, e = .returned (.int .i64 r) ∧ AtIs l s r ∧ Below w.heap.size w w') := index_str n a cap l hn s w hrow hm
  have HB : Hid (inB l s = b) := hb
  clear hrow hn hb
  go_enter Tryz.func112, Tryz.ntmps112
  go_wp2_with fail
  refine HI.out.mono ?_
  rintro e w1 ⟨r, rfl, hat, hb1⟩
  have HAT : Hid (AtIs l s r) := hat
  clear hat HI
  by_cases hr : 0 ≤ r
  · have e : b = true := by rw [← HB.out]; exact inB_iff.2 (HAT.out.neg.1 hr)
    subst e
    go_wp2
    go_ret
    exact ⟨by first | rfl | simp, hb1⟩
  · have e : b = false := by rw [← HB.out]; exact inB_no.2 (fun h => hr (HAT.out.neg.2 h))
    subst e
    go_wp2
    go_ret
    exact ⟨by first | rfl | (simp; done) | (simp; omega), hb1⟩

theorem nodup_snoc (l : List ByteArray) (k : Nat) (h : k < l.length) (h0 : (l.take k).Nodup) : (l.take (k + 1)).Nodup ↔ inB (l.take k) l[k] = false := by
  rw [List.take_succ_eq_append_getElem h, List.nodup_append, inB_no]
  constructor
  · rintro ⟨_, _, h4⟩ hm
    exact h4 _ hm _ (List.mem_singleton.2 rfl) rfl
  · intro hn
    exact ⟨h0, by simp, fun x hx y hy e => hn (by rw [List.mem_singleton] at hy; rw [← hy, ← e]; exact hx)⟩

set_option maxHeartbeats 2000000 in
theorem differ_impl (n : Nat) (a : Option Addr) (cap : Nat) (l : List ByteArray) (hn : l.length = n) (w : World) (hrow : StrsAt w a l) (hm : n ≤ maxLen) (hcap : n ≤ cap) (b : Bool) (hb : decide l.Nodup = b) :
    Calls Tryz.prog 87 #[.slice a n cap] w fun e w' => e = .returned (.bool b) ∧ Below w.heap.size w w' := by
  have HR : Hid (StrsAt w a l) := hrow
  have HB : Hid (decide l.Nodup = b) := hb
  have HN : Hid (l.length = n) := hn
  clear hrow hb hn
  unfold maxLen at hm
  go_enter Tryz.func87, Tryz.ntmps87
  go_wp2
  go_loopw [7] (fun kk wr => ∃ k : Nat, k ≤ n ∧ kk = .int .i64 k ∧ Hid ((l.take k).Nodup) ∧ Below w.heap.size w wr) (fun kk _ => n - (intOf kk).toNat)
  case atStart => exact ⟨0, Nat.zero_le _, rfl, List.nodup_nil, Below.refl _ _⟩
  case round =>
    obtain ⟨k, hk, rfl, hall, hbw⟩ := hrel
    by_cases hlt : k < n
    · have hlt' : k < l.length := by rw [HN.out]; exact hlt
      have HW : Hid (StrsAt wr a l) := HR.out.below hbw
      obtain ⟨g, o, rfl, hgw, c0⟩ := HW.out k hlt'
      have hi0 : (0 : Int) ≤ (k : Int) := by omega
      have hi1 : (k : Int) < (n : Int) := by omega
      have hkc : (k : Int) ≤ (cap : Int) := by omega
      have HS : Hid ((l.take (k + 1)).Nodup ↔ inB (l.take k) l[k] = false) := nodup_snoc l k hlt' hall.out
      have hno : Hid (inB (l.take k) l[k] = true → b = false) := by
        have : inB (l.take k) l[k] = true → b = false := by
          intro e
          rw [← HB.out, decide_eq_false_iff_not]
          intro h
          have := (nodup_snoc l k hlt' hall.out).1 (h.sublist (List.take_sublist _ _))
          rw [this] at e; cases e
        exact this
      have HT : Hid ((l.take k).length = k) := by
        have : (l.take k).length = k := by rw [List.length_take]; omega
        exact this
      obtain ⟨r, hr⟩ : ∃ r, inB (l.take k) l[k] = r := ⟨_, rfl⟩
      generalize l[k] = x at c0 HS hr hno
      have HRR : Hid (inB (l.take k) x = r) := hr
      clear hr
      go_wp2_with fail
      refine (contains_str k _ _ (l.take k) HT.out x _ (HW.out.take k) (by unfold maxLen; omega) r HRR.out).mono ?_
      rintro e wA ⟨rfl, hbA⟩
      cases r
      · go_wp2
        go_roundw
        case rel => exact ⟨k + 1, by omega, by go_num, HS.out.2 HRR.out, chain hbw hbA⟩
        case measure => simp [intOf]; omega
      · have e := hno.out HRR.out
        subst e
        go_wp2
        go_ret
        exact ⟨rfl, chain hbw hbA⟩
    · have hkl : k = n := by omega
      subst hkl
      have hnn : ¬ (k : Int) < (k : Int) := by omega
      have e : b = true := by
        rw [← HB.out, decide_eq_true_eq]
        have := hall.out
        rw [← HN.out, List.take_length] at this
        exact this
      subst e
      go_wp2
      go_ret
      exact ⟨rfl, hbw⟩

end Go.Proofs.YtmmandkellhbeaaGreatDoor

/-
  Package-level variables of the library in later worlds: the table of powers of ten, the two sentinels.
-/
namespace Go.Proofs.YtmmandkellhbeaaGreatDoor
open Go.ChangeShapes Go.WideShapes Go.ChangeAt Go.RowKit

theorem var_below {P : Program} {w w' : World} {name : String} {v : Array Value} (h : w.var? P name = some v) (hb : Below w.heap.size w w') : w'.var? P name = some v := by
  unfold World.var? at h ⊢
  cases hg : P.globalNamed name with
  | none => rw [hg] at h; cases h
  | some g =>
    rw [hg] at h
    have h2 : (match w.heap[g]? with | some (.cells cs _ _) => some cs | _ => none) = some v := h
    have hlt : g < w.heap.size := by
      by_cases hl : g < w.heap.size
      · exact hl
      · rw [Array.getElem?_eq_none (by omega)] at h2; cases h2
    show (match w'.heap[g]? with | some (.cells cs _ _) => some cs | _ => none) = some v
    rw [hb.block g hlt]; exact h2
/-- The table of powers of ten holds them. -/
def PowAt (w : World) : Prop := Lib.TabIs Tryz.prog w "internal/strconv.uint64pow10" .u64 Lib.pow10Tab
theorem PowAt.below {w w' : World} (h : PowAt w) (hb : Below w.heap.size w w') : PowAt w' := var_below h hb
/-- The two sentinels hold something. -/
def ErrAt (w : World) : Prop := (∃ tp p, w.var? Tryz.prog "strconv.ErrSyntax" = some #[.iface tp p]) ∧ (∃ tp p, w.var? Tryz.prog "strconv.ErrRange" = some #[.iface tp p])
theorem ErrAt.below {w w' : World} (h : ErrAt w) (hb : Below w.heap.size w w') : ErrAt w' := by
  obtain ⟨⟨a, b, h1⟩, ⟨c, d, h2⟩⟩ := h
  exact ⟨⟨a, b, var_below h1 hb⟩, ⟨c, d, var_below h2 hb⟩⟩
theorem grow_below (w : World) (os : Array Obj) : Below w.heap.size w (Sort.grow w os) :=
  ⟨rfl, rfl, rfl, by unfold Sort.grow; simp, fun k hk => by
    unfold Sort.grow
    show (w.heap ++ os)[k]? = w.heap[k]?
    rw [Array.getElem?_append_left hk]⟩

theorem format_lib (n : Int) (h0 : -9223372036854775808 ≤ n) (h1 : n ≤ 9223372036854775807) (w : World) (hp : PowAt w) :
    Calls Tryz.prog 62 #[.int .i64 n, .int .i64 10] w fun e w' => e = .returned (.string ⟨(Lib.itoa n).toArray⟩) ∧ Below w.heap.size w w' := by
  refine (Tryz.strconv_FormatInt_10 n h0 h1 w hp).mono ?_
  rintro e w' ⟨rfl, k, os, rfl⟩
  exact ⟨rfl, (belowN (Below.refl _ _) k).trans (grow_below (w.drewN k) os)⟩

end Go.Proofs.YtmmandkellhbeaaGreatDoor

/-
  The contracts of the program's texts of cells.
-/
namespace Go.Proofs.YtmmandkellhbeaaGreatDoor
open Go.ChangeShapes Go.WideShapes Go.ChangeAt Go.RowKit

theorem joined_impl (bk c : Nat) (xs : List ByteArray) (sep : ByteArray) (w : World) (hcells : ∀ (j : Nat) x, xs[j]? = some x → w.cell? ⟨bk, 0 + j, none⟩ = some (.string x)) (hbk : bk < w.heap.size) (hN : xs.length ≤ 140737488355328) (hcap : xs.length ≤ c) (hlen : (Lib.join (xs.map (·.data.toList)) sep.data.toList).length ≤ 140737488355328) (y : ByteArray) (hy : (⟨(Lib.join (xs.map (·.data.toList)) sep.data.toList).toArray⟩ : ByteArray) = y) :
    Calls Tryz.prog 37 #[.string sep, .slice (some ⟨bk, 0, none⟩) xs.length c] w fun e w' => e = .returned (.string y) ∧ Below w.heap.size w w' := by
  subst hy
  go_enter Tryz.func37, Tryz.ntmps37
  go_wp2_with fail
  refine (Tryz.strings_Join bk 0 c xs sep _ hcells hbk hN hcap hlen).mono ?_
  rintro e w1 ⟨rfl, hb⟩
  go_wp2
  go_ret
  exact ⟨rfl, hb⟩

theorem joined_none (a : Option Addr) (c : Nat) (sep : ByteArray) (w : World) :
    Calls Tryz.prog 37 #[.string sep, .slice a 0 c] w fun e w' => e = .returned (.string ⟨#[]⟩) ∧ w' = w := by
  go_enter Tryz.func37, Tryz.ntmps37
  go_wp2_with fail
  refine (Tryz.strings_Join_none a c sep _).mono ?_
  rintro e w1 ⟨rfl, rfl⟩
  go_wp2
  go_ret
  exact ⟨rfl, rfl⟩

theorem st0 (w : World) :
    Calls Tryz.prog 181 #[.iface 188 (.agg #[])] w fun e w' => e = .returned (.string ⟨wNone.toArray⟩) ∧ Below w.heap.size w w' := by
  have h1 := asserts_noneShape
  go_enter Tryz.func181, Tryz.ntmps181
  go_wp2
  go_ret
  exact ⟨rfl, by go_grown⟩
theorem st1 (n : Int) (h0 : -9223372036854775808 ≤ n) (h1 : n ≤ 9223372036854775807) (w : World) (hp : PowAt w) :
    Calls Tryz.prog 181 #[.iface 198 (.agg #[.int .i64 n])] w fun e w' => e = .returned (.string ⟨(Lib.itoa n).toArray⟩) ∧ Below w.heap.size w w' := by
  obtain ⟨a1, a2⟩ := asserts_numberShape
  have HP : Hid (PowAt w) := hp
  clear hp
  go_enter Tryz.func181, Tryz.ntmps181
  go_wp2_with fail
  refine (format_lib n h0 h1 _ (HP.out.below (by go_grown))).mono ?_
  rintro e w1 ⟨rfl, hb⟩
  go_wp2
  go_ret
  exact ⟨rfl, chainA hb⟩
theorem st3 (n : Int) (w : World) :
    Calls Tryz.prog 181 #[.iface 213 (.agg #[.int .i64 n])] w fun e w' => e = .returned (.string ⟨(if n = 1 then wYes else wNo).toArray⟩) ∧ Below w.heap.size w w' := by
  obtain ⟨a1, a2, a3, a4⟩ := asserts_truthShape
  by_cases hn : n = 1
  · subst hn
    go_enter Tryz.func181, Tryz.ntmps181
    go_wp2
    go_ret
    exact ⟨rfl, by go_grown⟩
  · rw [if_neg hn]
    go_enter Tryz.func181, Tryz.ntmps181
    go_wp2
    go_ret
    exact ⟨rfl, by go_grown⟩
theorem st3b (n : Int) (y : ByteArray) (hy : (⟨(if n = 1 then wYes else wNo).toArray⟩ : ByteArray) = y) (w : World) :
    Calls Tryz.prog 181 #[.iface 213 (.agg #[.int .i64 n])] w fun e w' => e = .returned (.string y) ∧ Below w.heap.size w w' := by
  subst hy; exact st3 n w
theorem st2 (t : ByteArray) (ht : t.size ≤ 1000) (w : World) :
    Calls Tryz.prog 181 #[.iface 194 (.agg #[.string t])] w fun e w' => e = .returned (.string ⟨(39 :: (t.data.toList ++ [39])).toArray⟩) ∧ Below w.heap.size w w' := by
  obtain ⟨a1, a2, a3⟩ := asserts_textShape
  obtain ⟨y, hy⟩ : ∃ y : ByteArray, (⟨(39 :: (t.data.toList ++ [39])).toArray⟩ : ByteArray) = y := ⟨_, rfl⟩
  rw [hy]
  go_enter Tryz.func181, Tryz.ntmps181
  go_wp2_with fail
  refine (joined_impl _ _ [⟨#[39]⟩, t, ⟨#[39]⟩] ⟨#[]⟩ _ ?_ (by simp) (by simp) (by simp) ?_ y (by rw [← hy]; simp [Lib.join_cons, Lib.joinTail])).mono ?_
  · intro j x hj
    match j, hj with
    | 0, hj => simp at hj; subst hj; simp [go_sem]
    | 1, hj => simp at hj; subst hj; simp [go_sem]
    | 2, hj => simp at hj; subst hj; simp [go_sem]
  · have hsz := Lib.size_eq t
    simp [Lib.join_cons, Lib.joinTail]
    omega
  rintro e w1 ⟨rfl, hb⟩
  go_wp2
  go_ret
  exact ⟨rfl, chainAA hb⟩

theorem ctext_impl (k n : Int) (t : ByteArray) (w : World) (ht : t.size ≤ maxLen) (hp : PowAt w) :
    Calls Tryz.prog 140 #[.agg #[.int .i64 k, .int .i64 n, .string t]] w fun e w' => e = .returned (.string (cellT k n t)) ∧ Below w.heap.size w w' := by
  have HP : Hid (PowAt w) := hp
  clear hp
  cases ho : okB k n t with
  | false =>
    rw [cellT_no ho]
    go_enter Tryz.func140, Tryz.ntmps140
    go_wp2_with fail
    refine (ok_implb _ _ _ _ ho _ ht).mono ?_
    rintro e w1 ⟨rfl, hb⟩
    go_wp2
    go_ret
    exact ⟨rfl, by first | exact hb | exact chainA hb⟩
  | true =>
    have hc : cellT k n t = ⟨(l4T k n t.data.toList).toArray⟩ := by unfold cellT; rw [if_pos ho]
    rw [hc]
    clear hc
    rcases okB_kind ho with rfl | rfl | rfl | rfl
    · go_enter Tryz.func140, Tryz.ntmps140
      go_wp2_with fail
      refine (ok_implb _ _ _ _ ho _ ht).mono ?_
      rintro e w1 ⟨rfl, hb⟩
      obtain ⟨a1, b1, c1, d1⟩ := box3 hb
      go_wp2_with fail
      refine (shape0 _ _ _).mono ?_
      rintro e w2 ⟨rfl, hb2⟩
      go_wp2_with fail
      refine (st0 _).mono ?_
      rintro e w3 ⟨rfl, hb3⟩
      go_wp2
      go_ret
      exact ⟨rfl, chain (chain (chainA hb) hb2) hb3⟩
    · have hb := numB_iff.1 (okB_1 ho).1
      go_enter Tryz.func140, Tryz.ntmps140
      go_wp2_with fail
      refine (ok_implb _ _ _ _ ho _ ht).mono ?_
      rintro e w1 ⟨rfl, hb1⟩
      obtain ⟨a1, b1, c1, d1⟩ := box3 hb1
      go_wp2_with fail
      refine (shape1 _ _ _).mono ?_
      rintro e w2 ⟨rfl, hb2⟩
      go_wp2_with fail
      refine (st1 n (by omega) (by omega) _ (HP.out.below (chain (chainA hb1) hb2))).mono ?_
      rintro e w3 ⟨rfl, hb3⟩
      go_wp2
      go_ret
      exact ⟨rfl, chain (chain (chainA hb1) hb2) hb3⟩
    · have h12 : t.size ≤ 1000 := by
        have := (okB_2 ho).2
        unfold textB at this
        rw [Bool.and_eq_true, decide_eq_true_eq] at this
        omega
      go_enter Tryz.func140, Tryz.ntmps140
      go_wp2_with fail
      refine (ok_implb _ _ _ _ ho _ ht).mono ?_
      rintro e w1 ⟨rfl, hb1⟩
      obtain ⟨a1, b1, c1, d1⟩ := box3 hb1
      go_wp2_with fail
      refine (shape2 _ _ _).mono ?_
      rintro e w2 ⟨rfl, hb2⟩
      go_wp2_with fail
      refine (st2 t h12 _).mono ?_
      rintro e w3 ⟨rfl, hb3⟩
      go_wp2
      go_ret
      exact ⟨rfl, chain (chain (chainA hb1) hb2) hb3⟩
    · obtain ⟨y, hy⟩ : ∃ y : ByteArray, (⟨(l4T 3 n t.data.toList).toArray⟩ : ByteArray) = y := ⟨_, rfl⟩
      rw [hy]
      go_enter Tryz.func140, Tryz.ntmps140
      go_wp2_with fail
      refine (ok_implb _ _ _ _ ho _ ht).mono ?_
      rintro e w1 ⟨rfl, hb1⟩
      obtain ⟨a1, b1, c1, d1⟩ := box3 hb1
      go_wp2_with fail
      refine (shape3 _ _ _).mono ?_
      rintro e w2 ⟨rfl, hb2⟩
      go_wp2_with fail
      refine (st3b n y hy _).mono ?_
      rintro e w3 ⟨rfl, hb3⟩
      go_wp2
      go_ret
      exact ⟨rfl, chain (chain (chainA hb1) hb2) hb3⟩

theorem ctext_implb (k n : Int) (t : ByteArray) (y : ByteArray) (hy : cellT k n t = y) (w : World) (ht : t.size ≤ maxLen) (hp : PowAt w) :
    Calls Tryz.prog 140 #[.agg #[.int .i64 k, .int .i64 n, .string t]] w fun e w' => e = .returned (.string y) ∧ Below w.heap.size w w' := by
  subst hy; exact ctext_impl k n t w ht hp

end Go.Proofs.YtmmandkellhbeaaGreatDoor

/-
  The contracts of the model's reading of cells.
-/
namespace Go.Proofs.YtmmandkellhbeaaGreatDoor
open Go.ChangeShapes Go.WideShapes Go.ChangeAt Go.RowKit
attribute [local go_sem ↓] Go.wp_at_zero Go.wp_at_succ

/-- What is read behind the sign. -/
def bodyR (neg : Bool) (len : Nat) (r : List UInt8) : Int × Bool :=
  if r.length < 1 ∨ 10 < r.length then (0, false)
  else if r.all isDig = true then
    if r.head? = some 48 ∧ (neg = true ∨ 1 < len) then (0, false)
    else (if neg = true then -(valFrom 0 r : Int) else valFrom 0 r, true)
  else (0, false)
/-- What is read, as the model answers it. -/
def mostR (l : List UInt8) : Int × Bool := match readMost l with
  | some n => (n, true)
  | none => (0, false)
theorem mostR_body (l : List UInt8) : mostR l = bodyR (decide (l.head? = some 45)) l.length (if decide (l.head? = some 45) = true then l.drop 1 else l) := by
  unfold mostR readMost bodyR
  generalize decide (l.head? = some 45) = neg
  simp only []
  generalize (if neg = true then l.drop 1 else l) = r
  split
  · rename_i n h
    split at h
    · cases h
    · rename_i h1
      rw [if_neg h1]
      split at h
      · rename_i h2
        rw [if_pos h2]
        split at h
        · cases h
        · rename_i h3
          rw [if_neg h3]
          injection h with h
          rw [h]
      · cases h
  · rename_i h
    split at h
    · rename_i h1
      rw [if_pos h1]
    · rename_i h1
      rw [if_neg h1]
      split at h
      · rename_i h2
        rw [if_pos h2]
        split at h
        · rename_i h3
          rw [if_pos h3]
        · cases h
      · rename_i h2
        rw [if_neg h2]
theorem bodyR_len {neg : Bool} {len : Nat} {r : List UInt8} (h : r.length < 1 ∨ 10 < r.length) : bodyR neg len r = (0, false) := if_pos h
theorem bodyR_dig {neg : Bool} {len : Nat} {r : List UInt8} (c : UInt8) (hc : c ∈ r) (h : isDig c = false) : bodyR neg len r = (0, false) := by
  unfold bodyR
  split
  · rfl
  · rw [if_neg]
    intro e
    rw [List.all_eq_true.1 e c hc] at h
    cases h
theorem bodyR_nought {neg : Bool} {len : Nat} {r : List UInt8} (h : r.head? = some 48) (h2 : neg = true ∨ 1 < len) : bodyR neg len r = (0, false) := by
  unfold bodyR
  split
  · rfl
  · split
    · rw [if_pos ⟨h, h2⟩]
    · rfl
theorem bodyR_yes {neg : Bool} {len : Nat} {r : List UInt8} (h : ¬ (r.length < 1 ∨ 10 < r.length)) (hd : r.all isDig = true) (h2 : ¬ (r.head? = some 48 ∧ (neg = true ∨ 1 < len))) : bodyR neg len r = (if neg = true then -(valFrom 0 r : Int) else valFrom 0 r, true) := by
  unfold bodyR
  rw [if_neg h, if_pos hd, if_neg h2]

theorem take_dig (s : ByteArray) (i k : Nat) (hik : i ≤ k) (h : k < s.size) : ((s.data.toList.take (k + 1)).drop i) = (s.data.toList.take k).drop i ++ [s[k]] := by
  rw [take_snoc s k h, List.drop_append_of_le_length (by rw [List.length_take, ← Lib.size_eq]; omega)]
theorem mem_drop (s : ByteArray) (i k : Nat) (hik : i ≤ k) (h : k < s.size) : s[k] ∈ s.data.toList.drop i := by
  have e : (s.data.toList.drop i)[k - i]'(by rw [List.length_drop, ← Lib.size_eq]; omega) = s[k] := by
    rw [List.getElem_drop]
    show s.data.toList[i + (k - i)]'_ = _
    have : i + (k - i) = k := by omega
    simp only [this]
    rfl
  rw [← e]; exact List.getElem_mem _
theorem head_drop (s : ByteArray) (i : Nat) (h : i < s.size) : (s.data.toList.drop i).head? = some s[i] := by
  rw [List.head?_drop, List.getElem?_eq_getElem (by rw [← Lib.size_eq]; exact h)]; rfl
theorem byte_eq {c : UInt8} {n : Nat} (h : n < 256) : c = UInt8.ofNat n ↔ c.toNat = n := by
  constructor
  · intro e; rw [e, UInt8.toNat_ofNat_of_lt' h]
  · intro e; exact UInt8.toNat_inj.1 (by rw [e, UInt8.toNat_ofNat_of_lt' h])
theorem isDig_iff (c : UInt8) : isDig c = true ↔ 48 ≤ c.toNat ∧ c.toNat ≤ 57 := by unfold isDig; rw [Bool.and_eq_true, decide_eq_true_eq, decide_eq_true_eq]
theorem isDig_no {c : UInt8} (h : c.toNat < 48 ∨ 57 < c.toNat) : isDig c = false := by
  cases hd : isDig c with
  | false => rfl
  | true => have := (isDig_iff c).1 hd; omega

set_option maxRecDepth 100000 in
set_option maxHeartbeats 4000000 in
theorem most_pos (s : ByteArray) (hs : s.size ≤ maxLen) (hp : 0 < s.size) (h0 : ¬ s[0].toNat = 45) (w : World) (a : Int) (b : Bool) (hR0 : bodyR false s.size (s.data.toList.drop 0) = (a, b)) :
    Calls Tryz.prog 100 #[.string s, .int .i64 10] w fun e w' => e = .returned (.tuple #[.int .i64 a, .bool b]) ∧ Below w.heap.size w w' := by
  have hR : Hid (bodyR false s.size (s.data.toList.drop 0) = (a, b)) := hR0
  have hrl : Hid ((s.data.toList.drop 0).length = s.size - 0) := by
    have : (s.data.toList.drop 0).length = s.size - 0 := by rw [List.length_drop, ← Lib.size_eq]
    exact this
  clear hR0
  unfold maxLen at hs
  have hne : s.toList.isEmpty = false := by
    rw [Lib.toList_data]
    cases hd : s.data.toList with
    | nil => rw [Lib.size_eq, hd] at hp; simp at hp
    | cons c r => rfl
  have hne2 : ¬ s.toList = [] := by intro e; rw [e] at hne; cases hne
  have hp1 : (0 : Int) < (s.size : Int) := by omega
  have hw : wrap64 ((s.size : Int) - 0) = (s.size : Int) - 0 := by unfold wrap64; omega
  have hw0 : wrap64 (s.size : Int) = (s.size : Int) := by unfold wrap64; omega
  by_cases hl1 : (s.size : Int) - 0 < 1
  · exfalso; omega
  by_cases hl2 : 10 < (s.size : Int) - 0
  · have hf := hR.out
    rw [bodyR_len (.inr (by rw [hrl.out]; omega))] at hf
    injection hf with e1 e2
    subst e1 e2
    go_enter Tryz.func100, Tryz.ntmps100
    go_wp2
    go_ret2
    exact ⟨rfl, Below.refl _ _⟩
  go_enter Tryz.func100, Tryz.ntmps100
  go_wp2
  go_loopw [8, 9] (fun n kk wr => ∃ k : Nat, 0 ≤ k ∧ k ≤ s.size ∧ kk = .int .i64 k ∧ n = .int .i64 (valFrom 0 ((s.data.toList.take k).drop 0)) ∧ Hid (((s.data.toList.take k).drop 0).all isDig = true) ∧ wr = w) (fun _ kk _ => s.size - (intOf kk).toNat)
  case atStart =>
    have e : (s.data.toList.take 0).drop 0 = [] := List.drop_eq_nil_of_le (by rw [List.length_take]; omega)
    exact ⟨0, Nat.le_refl _, by omega, rfl, by rw [e]; rfl, by rw [e]; rfl, rfl⟩
  case round =>
    obtain ⟨k, hk0, hk, rfl, rfl, hall, rfl⟩ := hrel
    by_cases hlt : k < s.size
    · have hi1 : (k : Int) < (s.size : Int) := by omega
      have hi0 : (0 : Int) ≤ (k : Int) := by omega
      by_cases hd1 : s[k].toNat < 48
      · have hf := hR.out
        rw [bodyR_dig s[k] (mem_drop s 0 k hk0 hlt) (isDig_no (.inl hd1))] at hf
        injection hf with e1 e2
        subst e1 e2
        go_wp2
        go_ret2
        exact ⟨rfl, Below.refl _ _⟩
      by_cases hd2 : 57 < s[k].toNat
      · have hf := hR.out
        rw [bodyR_dig s[k] (mem_drop s 0 k hk0 hlt) (isDig_no (.inr hd2))] at hf
        injection hf with e1 e2
        subst e1 e2
        go_wp2
        go_ret2
        exact ⟨rfl, Below.refl _ _⟩
      have htk := take_dig s 0 k hk0 hlt
      have hbound : valFrom 0 ((s.data.toList.take k).drop 0) < 10000000000 := by
        have h := valFrom_lt ((s.data.toList.take k).drop 0) 0 (List.all_eq_true.1 hall.out)
        have hl : ((s.data.toList.take k).drop 0).length ≤ 10 := by rw [List.length_drop, List.length_take, ← Lib.size_eq]; omega
        have h10 : (10 : Nat) ^ ((s.data.toList.take k).drop 0).length ≤ 10 ^ 10 := Nat.pow_le_pow_right (by decide) hl
        have : (10 : Nat) ^ 10 = 10000000000 := by decide
        omega
      have hval : valFrom 0 ((s.data.toList.take (k + 1)).drop 0) = valFrom 0 ((s.data.toList.take k).drop 0) * 10 + (s[k].toNat - 48) := by rw [htk, valFrom_snoc]
      have hall2 : Hid (((s.data.toList.take (k + 1)).drop 0).all isDig = true) := by
        have : ((s.data.toList.take (k + 1)).drop 0).all isDig = true := by
          rw [htk, List.all_append, hall.out]
          simp only [List.all_cons, List.all_nil, Bool.and_true, Bool.true_and]
          exact (isDig_iff _).2 (by omega)
        exact this
      have hV : Hid (valFrom 0 ((s.data.toList.take (k + 1)).drop 0) = valFrom 0 ((s.data.toList.take k).drop 0) * 10 + (s[k].toNat - 48)) := hval
      clear htk hval hall
      generalize valFrom 0 ((s.data.toList.take k).drop 0) = v at hbound hV ⊢
      go_wp2
      go_roundw
      case rel =>
        refine ⟨k + 1, by omega, by omega, by go_num, ?_, hall2, by trivial⟩
        rw [hV.out]
        congr 1
        omega
      case measure => simp [intOf]; omega
    · have hkl : k = s.size := by omega
      subst hkl
      have hi1 : ¬ (s.size : Int) < (s.size : Int) := by omega
      have htake : s.data.toList.take s.size = s.data.toList := by rw [Lib.size_eq]; exact List.take_length
      rw [htake] at hall ⊢
      have hbound : valFrom 0 (s.data.toList.drop 0) < 10000000000 := by
        have h := valFrom_lt (s.data.toList.drop 0) 0 (List.all_eq_true.1 hall.out)
        have hl : (s.data.toList.drop 0).length ≤ 10 := by rw [hrl.out]; omega
        have h10 : (10 : Nat) ^ (s.data.toList.drop 0).length ≤ 10 ^ 10 := Nat.pow_le_pow_right (by decide) hl
        have : (10 : Nat) ^ 10 = 10000000000 := by decide
        omega
      have hlen : Hid (¬ ((s.data.toList.drop 0).length < 1 ∨ 10 < (s.data.toList.drop 0).length)) := by
        have : ¬ ((s.data.toList.drop 0).length < 1 ∨ 10 < (s.data.toList.drop 0).length) := by rw [hrl.out]; omega
        exact this
      have hhd : Hid ((s.data.toList.drop 0).head? = some (s[0]'(by omega))) := head_drop s 0 (by omega)
      have hi48 : 0 < s.size := by omega
      have hii : (0 : Int) < (s.size : Int) := by omega
      by_cases h48 : (s[0]'(by omega)).toNat = 48
      · have h48' : Hid ((s.data.toList.drop 0).head? = some 48) := by
          have : (s.data.toList.drop 0).head? = some 48 := by rw [hhd.out]; congr 1; exact (byte_eq (n := 48) (by decide)).2 h48
          exact this
        by_cases hone : 1 < s.size
        · have hone' : (1 : Int) < (s.size : Int) := by omega
          have hf := hR.out
          rw [bodyR_nought h48'.out (.inr hone)] at hf
          injection hf with e1 e2
          subst e1 e2
          go_wp2
          go_ret2
          exact ⟨rfl, Below.refl _ _⟩
        · have hone' : ¬ (1 : Int) < (s.size : Int) := by omega
          have hno : Hid (¬ ((s.data.toList.drop 0).head? = some 48 ∧ (false = true ∨ 1 < s.size))) := by
            have : ¬ ((s.data.toList.drop 0).head? = some 48 ∧ (false = true ∨ 1 < s.size)) := by
              rintro ⟨_, e | e⟩
              · cases e
              · exact hone e
            exact this
          have hf := hR.out
          rw [bodyR_yes hlen.out hall.out hno.out] at hf
          injection hf with e1 e2
          rw [if_neg (by decide)] at e1
          subst e2
          clear hno hlen hhd hR hrl hall
          generalize valFrom 0 (s.data.toList.drop 0) = v at hbound e1 ⊢
          have hA : Hid (_ = a) := e1
          clear e1
          go_wp2
          go_ret2
          exact ⟨by rw [← hA.out]; rfl, Below.refl _ _⟩
      · have hno : Hid (¬ ((s.data.toList.drop 0).head? = some 48 ∧ (false = true ∨ 1 < s.size))) := by
          have : ¬ ((s.data.toList.drop 0).head? = some 48 ∧ (false = true ∨ 1 < s.size)) := by
            rintro ⟨e, _⟩
            rw [hhd.out] at e
            injection e with e
            exact h48 (by rw [e]; rfl)
          exact this
        have hf := hR.out
        rw [bodyR_yes hlen.out hall.out hno.out] at hf
        injection hf with e1 e2
        rw [if_neg (by decide)] at e1
        subst e2
        clear hno hlen hhd hR hrl hall
        generalize valFrom 0 (s.data.toList.drop 0) = v at hbound e1 ⊢
        have hA : Hid (_ = a) := e1
        clear e1
        go_wp2
        go_ret2
        exact ⟨by rw [← hA.out]; rfl, Below.refl _ _⟩

set_option maxRecDepth 100000 in
set_option maxHeartbeats 4000000 in
theorem most_neg (s : ByteArray) (hs : s.size ≤ maxLen) (hp : 0 < s.size) (h0 : s[0].toNat = 45) (w : World) (a : Int) (b : Bool) (hR0 : bodyR true s.size (s.data.toList.drop 1) = (a, b)) :
    Calls Tryz.prog 100 #[.string s, .int .i64 10] w fun e w' => e = .returned (.tuple #[.int .i64 a, .bool b]) ∧ Below w.heap.size w w' := by
  have hR : Hid (bodyR true s.size (s.data.toList.drop 1) = (a, b)) := hR0
  have hrl : Hid ((s.data.toList.drop 1).length = s.size - 1) := by
    have : (s.data.toList.drop 1).length = s.size - 1 := by rw [List.length_drop, ← Lib.size_eq]
    exact this
  clear hR0
  unfold maxLen at hs
  have hne : s.toList.isEmpty = false := by
    rw [Lib.toList_data]
    cases hd : s.data.toList with
    | nil => rw [Lib.size_eq, hd] at hp; simp at hp
    | cons c r => rfl
  have hne2 : ¬ s.toList = [] := by intro e; rw [e] at hne; cases hne
  have hp1 : (0 : Int) < (s.size : Int) := by omega
  have hw : wrap64 ((s.size : Int) - 1) = (s.size : Int) - 1 := by unfold wrap64; omega
  have hw0 : wrap64 (s.size : Int) = (s.size : Int) := by unfold wrap64; omega
  by_cases hl1 : (s.size : Int) - 1 < 1
  · have hf := hR.out
    rw [bodyR_len (.inl (by rw [hrl.out]; omega))] at hf
    injection hf with e1 e2
    subst e1 e2
    go_enter Tryz.func100, Tryz.ntmps100
    go_wp2
    go_ret2
    exact ⟨rfl, Below.refl _ _⟩
  by_cases hl2 : 10 < (s.size : Int) - 1
  · have hf := hR.out
    rw [bodyR_len (.inr (by rw [hrl.out]; omega))] at hf
    injection hf with e1 e2
    subst e1 e2
    go_enter Tryz.func100, Tryz.ntmps100
    go_wp2
    go_ret2
    exact ⟨rfl, Below.refl _ _⟩
  go_enter Tryz.func100, Tryz.ntmps100
  go_wp2
  go_loopw [8, 9] (fun n kk wr => ∃ k : Nat, 1 ≤ k ∧ k ≤ s.size ∧ kk = .int .i64 k ∧ n = .int .i64 (valFrom 0 ((s.data.toList.take k).drop 1)) ∧ Hid (((s.data.toList.take k).drop 1).all isDig = true) ∧ wr = w) (fun _ kk _ => s.size - (intOf kk).toNat)
  case atStart =>
    have e : (s.data.toList.take 1).drop 1 = [] := List.drop_eq_nil_of_le (by rw [List.length_take]; omega)
    exact ⟨1, Nat.le_refl _, by omega, rfl, by rw [e]; rfl, by rw [e]; rfl, rfl⟩
  case round =>
    obtain ⟨k, hk0, hk, rfl, rfl, hall, rfl⟩ := hrel
    by_cases hlt : k < s.size
    · have hi1 : (k : Int) < (s.size : Int) := by omega
      have hi0 : (0 : Int) ≤ (k : Int) := by omega
      by_cases hd1 : s[k].toNat < 48
      · have hf := hR.out
        rw [bodyR_dig s[k] (mem_drop s 1 k hk0 hlt) (isDig_no (.inl hd1))] at hf
        injection hf with e1 e2
        subst e1 e2
        go_wp2
        go_ret2
        exact ⟨rfl, Below.refl _ _⟩
      by_cases hd2 : 57 < s[k].toNat
      · have hf := hR.out
        rw [bodyR_dig s[k] (mem_drop s 1 k hk0 hlt) (isDig_no (.inr hd2))] at hf
        injection hf with e1 e2
        subst e1 e2
        go_wp2
        go_ret2
        exact ⟨rfl, Below.refl _ _⟩
      have htk := take_dig s 1 k hk0 hlt
      have hbound : valFrom 0 ((s.data.toList.take k).drop 1) < 10000000000 := by
        have h := valFrom_lt ((s.data.toList.take k).drop 1) 0 (List.all_eq_true.1 hall.out)
        have hl : ((s.data.toList.take k).drop 1).length ≤ 10 := by rw [List.length_drop, List.length_take, ← Lib.size_eq]; omega
        have h10 : (10 : Nat) ^ ((s.data.toList.take k).drop 1).length ≤ 10 ^ 10 := Nat.pow_le_pow_right (by decide) hl
        have : (10 : Nat) ^ 10 = 10000000000 := by decide
        omega
      have hval : valFrom 0 ((s.data.toList.take (k + 1)).drop 1) = valFrom 0 ((s.data.toList.take k).drop 1) * 10 + (s[k].toNat - 48) := by rw [htk, valFrom_snoc]
      have hall2 : Hid (((s.data.toList.take (k + 1)).drop 1).all isDig = true) := by
        have : ((s.data.toList.take (k + 1)).drop 1).all isDig = true := by
          rw [htk, List.all_append, hall.out]
          simp only [List.all_cons, List.all_nil, Bool.and_true, Bool.true_and]
          exact (isDig_iff _).2 (by omega)
        exact this
      have hV : Hid (valFrom 0 ((s.data.toList.take (k + 1)).drop 1) = valFrom 0 ((s.data.toList.take k).drop 1) * 10 + (s[k].toNat - 48)) := hval
      clear htk hval hall
      generalize valFrom 0 ((s.data.toList.take k).drop 1) = v at hbound hV ⊢
      go_wp2
      go_roundw
      case rel =>
        refine ⟨k + 1, by omega, by omega, by go_num, ?_, hall2, by trivial⟩
        rw [hV.out]
        congr 1
        omega
      case measure => simp [intOf]; omega
    · have hkl : k = s.size := by omega
      subst hkl
      have hi1 : ¬ (s.size : Int) < (s.size : Int) := by omega
      have htake : s.data.toList.take s.size = s.data.toList := by rw [Lib.size_eq]; exact List.take_length
      rw [htake] at hall ⊢
      have hbound : valFrom 0 (s.data.toList.drop 1) < 10000000000 := by
        have h := valFrom_lt (s.data.toList.drop 1) 0 (List.all_eq_true.1 hall.out)
        have hl : (s.data.toList.drop 1).length ≤ 10 := by rw [hrl.out]; omega
        have h10 : (10 : Nat) ^ (s.data.toList.drop 1).length ≤ 10 ^ 10 := Nat.pow_le_pow_right (by decide) hl
        have : (10 : Nat) ^ 10 = 10000000000 := by decide
        omega
      have hlen : Hid (¬ ((s.data.toList.drop 1).length < 1 ∨ 10 < (s.data.toList.drop 1).length)) := by
        have : ¬ ((s.data.toList.drop 1).length < 1 ∨ 10 < (s.data.toList.drop 1).length) := by rw [hrl.out]; omega
        exact this
      have hhd : Hid ((s.data.toList.drop 1).head? = some (s[1]'(by omega))) := head_drop s 1 (by omega)
      have hi48 : 1 < s.size := by omega
      have hii : (1 : Int) < (s.size : Int) := by omega
      by_cases h48 : (s[1]'(by omega)).toNat = 48
      · have h48' : Hid ((s.data.toList.drop 1).head? = some 48) := by
          have : (s.data.toList.drop 1).head? = some 48 := by rw [hhd.out]; congr 1; exact (byte_eq (n := 48) (by decide)).2 h48
          exact this
        have hf := hR.out
        rw [bodyR_nought h48'.out (.inl rfl)] at hf
        injection hf with e1 e2
        subst e1 e2
        go_wp2
        go_ret2
        exact ⟨rfl, Below.refl _ _⟩
      · have hno : Hid (¬ ((s.data.toList.drop 1).head? = some 48 ∧ (true = true ∨ 1 < s.size))) := by
          have : ¬ ((s.data.toList.drop 1).head? = some 48 ∧ (true = true ∨ 1 < s.size)) := by
            rintro ⟨e, _⟩
            rw [hhd.out] at e
            injection e with e
            exact h48 (by rw [e]; rfl)
          exact this
        have hf := hR.out
        rw [bodyR_yes hlen.out hall.out hno.out] at hf
        injection hf with e1 e2
        rw [if_pos rfl] at e1
        subst e2
        clear hno hlen hhd hR hrl hall
        generalize valFrom 0 (s.data.toList.drop 1) = v at hbound e1 ⊢
        have hA : Hid (_ = a) := e1
        clear e1
        go_wp2
        go_ret2
        exact ⟨by rw [← hA.out]; rfl, Below.refl _ _⟩

end Go.Proofs.YtmmandkellhbeaaGreatDoor
