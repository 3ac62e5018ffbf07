/-
  A part of the proof: SwpI.
-/
import Derived.Test.YtegnekbbbfncgaaGreatDoorPart27
import Derived.Test.YtegnekbbbfncgaaGreatDoorPart32
import Derived.Deep.RegionHeld3

/-
  The program's swapped: two sieves the other way round, and whether they may.
-/
namespace Go.Proofs.YtegnekbbbfncgaaGreatDoor
open Go.ChangeShapes Go.WideShapes Go.ChangeAt Go.RowKit
attribute [local go_sem ↓] Go.wp_at_zero Go.wp_at_succ
attribute [local simp] World.cell?_alloc_past World.cell?_alloc_at World.frozen?_alloc_at cell_far cell_off cell_here World.frozen?_alloc_past

/-- What a rule answers: a slice of heads in memory of its own, and whether it applies. -/
structure RuleOut (w w' : World) (e : Ending) (P : List (SV × HAd)) (b : Bool) : Prop where
  ends : ∃ g n c, n = P.length ∧ e = .returned (.tuple #[.slice (some ⟨g, 0, none⟩) n c, .bool b]) ∧ g < w'.heap.size ∧ ∀ j u, (hvS P)[j]? = some u → w'.cell? ⟨g, j, none⟩ = some u
  kept : Below w.heap.size w w'
theorem cells_alloc (w : World) (vs : Array Value) (t : Nat) (L : List Value) (hL : L = vs.toList) : ∀ (j : Nat) u, L[j]? = some u → (w.alloc (.cells vs t)).cell? ⟨w.heap.size, j, none⟩ = some u := by
  subst hL
  intro j u h
  exact (World.cell?_alloc_new w vs t j).trans (by simpa using h)
set_option maxHeartbeats 2000000 in
theorem swapped_impl (kd : Int) (nm : ByteArray) (na : Option Addr) (nn nc : Nat) (N : List ByteArray) (hnn : N.length = nn) (sa : Option Addr) (sn sc : Nat) (S : List TI) (hsn : S.length = sn) (dn : Bool) (ct sk : Int) (kt : Int) (mt : ByteArray) (ma : Option Addr) (mn mc : Nat) (M : List ByteArray) (hmn : M.length = mn) (ra : Option Addr) (rn rc : Nat) (R : List TI) (hrn : R.length = rn) (dt : Bool) (tt st : Int) (w : World) (hs : SivAt w na nc sa ⟨kd, nm, N, S, dn, ct, sk⟩) (ht : SivAt w ma mc ra ⟨kt, mt, M, R, dt, tt, st⟩) (hms : MildV ⟨kd, nm, N, S, dn, ct, sk⟩) (hmt : MildV ⟨kt, mt, M, R, dt, tt, st⟩) (hp : PowAt w) (he : ErrAt w) (hcol : ColAt w) (b : Bool) (hb : swapR ⟨kd, nm, N, S, dn, ct, sk⟩ ⟨kt, mt, M, R, dt, tt, st⟩ = b) (z : Bool) (hz : (!decide (kd = 2) && b) = z) :
    Calls Tryz.prog 78 #[.agg #[.int .i64 kd, .string nm, .slice na nn nc, .slice sa sn sc, .bool dn, .int .i64 ct, .int .i64 sk], .agg #[.int .i64 kt, .string mt, .slice ma mn mc, .slice ra rn rc, .bool dt, .int .i64 tt, .int .i64 st]] w fun e w' => RuleOut w w' e [(⟨kt, mt, M, R, dt, tt, st⟩, ⟨ma, mc, ra, rc⟩), (⟨kd, nm, N, S, dn, ct, sk⟩, ⟨na, nc, sa, sc⟩)] z := by
  have CW : Hid (∀ w', Below w.heap.size w w' → Calls Tryz.prog 34 #[.agg #[.int .i64 kd, .string nm, .slice na nn nc, .slice sa sn sc, .bool dn, .int .i64 ct, .int .i64 sk], .agg #[.int .i64 kt, .string mt, .slice ma mn mc, .slice ra rn rc, .bool dt, .int .i64 tt, .int .i64 st]] w' fun e w'' => e = .returned (.bool b) ∧ Below w'.heap.size w' w'') := by
    have h : ∀ w', Below w.heap.size w w' → Calls Tryz.prog 34 #[.agg #[.int .i64 kd, .string nm, .slice na nn nc, .slice sa sn sc, .bool dn, .int .i64 ct, .int .i64 sk], .agg #[.int .i64 kt, .string mt, .slice ma mn mc, .slice ra rn rc, .bool dt, .int .i64 tt, .int .i64 st]] w' fun e w'' => e = .returned (.bool b) ∧ Below w'.heap.size w' w'' := fun w' hw => swap_impl kd nm na nn nc N hnn sa sn sc S hsn dn ct sk kt mt ma mn mc M hmn ra rn rc R hrn dt tt st w' (hs.below hw) (ht.below hw) hms hmt (hp.below hw) (he.below hw) (hcol.below hw) b hb
    exact h
  obtain ⟨E0, hE0, hA, hBS, hBT⟩ := two_boxes w (.cells #[.int .i64 kd, .string nm, .slice na nn nc, .slice sa sn sc, .bool dn, .int .i64 ct, .int .i64 sk] 43) (.cells #[.int .i64 kt, .string mt, .slice ma mn mc, .slice ra rn rc, .bool dt, .int .i64 tt, .int .i64 st] 43)
  have HBS : Hid (E0.heap[w.heap.size]? = some (.cells #[.int .i64 kd, .string nm, .slice na nn nc, .slice sa sn sc, .bool dn, .int .i64 ct, .int .i64 sk] 43)) := hBS
  have HBT : Hid (E0.heap[w.heap.size + 1]? = some (.cells #[.int .i64 kt, .string mt, .slice ma mn mc, .slice ra rn rc, .bool dt, .int .i64 tt, .int .i64 st] 43)) := hBT
  have HE0 : Hid (((w.alloc (.cells #[.int .i64 kd, .string nm, .slice na nn nc, .slice sa sn sc, .bool dn, .int .i64 ct, .int .i64 sk] 43)).alloc (.cells #[.int .i64 kt, .string mt, .slice ma mn mc, .slice ra rn rc, .bool dt, .int .i64 tt, .int .i64 st] 43)) = E0) := hE0
  have P0 := Kept.refl w.heap.size E0
  have HZ : Hid ((!decide (kd = 2) && b) = z) := hz
  have HN : Hid (N.length = nn ∧ S.length = sn ∧ M.length = mn ∧ R.length = rn) := ⟨hnn, hsn, hmn, hrn⟩
  clear hz hb hs ht hnn hsn hmn hrn hE0 hBS hBT hms hmt hp he hcol
  go_enter Tryz.func78, Tryz.ntmps78
  obtain ⟨p0, p1, p2, p3, p4, p5, p6⟩ := cells7 HBS.out
  obtain ⟨t0, t1, t2, t3, t4, t5, t6⟩ := cells7 HBT.out
  rw [← HE0.out] at p0 p1 p2 p3 p4 p5 p6 t0 t1 t2 t3 t4 t5 t6
  go_wp2_with fail
  rw [HE0.out]
  clear p0 p1 p2 p3 p4 p5 p6 t0 t1 t2 t3 t4 t5 t6
  obtain ⟨p0, p1, p2, p3, p4, p5, p6⟩ := cells7 HBS.out
  obtain ⟨t0, t1, t2, t3, t4, t5, t6⟩ := cells7 HBT.out
  have HX : Hid (E0.heap.size = w.heap.size + 2) := by
    have h : E0.heap.size = w.heap.size + 2 := by rw [← HE0.out]; simp
    exact h
  by_cases hk : kd = 2
  · subst hk
    obtain rfl : false = z := by rw [← HZ.out]; simp
    refine wp_region_held_drew (S := (fun w' => w'.cell? ⟨w.heap.size, 0, none⟩ = some (.int .i64 2) ∧ w'.cell? ⟨w.heap.size, 1, none⟩ = some (.string nm) ∧ w'.cell? ⟨w.heap.size, 2, none⟩ = some (.slice na nn nc) ∧ w'.cell? ⟨w.heap.size, 3, none⟩ = some (.slice sa sn sc) ∧ w'.cell? ⟨w.heap.size, 4, none⟩ = some (.bool dn) ∧ w'.cell? ⟨w.heap.size, 5, none⟩ = some (.int .i64 ct) ∧ w'.cell? ⟨w.heap.size, 6, none⟩ = some (.int .i64 sk) ∧ w'.cell? ⟨w.heap.size + 1, 0, none⟩ = some (.int .i64 kt) ∧ w'.cell? ⟨w.heap.size + 1, 1, none⟩ = some (.string mt) ∧ w'.cell? ⟨w.heap.size + 1, 2, none⟩ = some (.slice ma mn mc) ∧ w'.cell? ⟨w.heap.size + 1, 3, none⟩ = some (.slice ra rn rc) ∧ w'.cell? ⟨w.heap.size + 1, 4, none⟩ = some (.bool dt) ∧ w'.cell? ⟨w.heap.size + 1, 5, none⟩ = some (.int .i64 tt) ∧ w'.cell? ⟨w.heap.size + 1, 6, none⟩ = some (.int .i64 st))) (by kernel_rfl) ?_ (fun hHeld => ?_)
    · (((try dsimp only); (repeat' apply And.intro) <;> first | (go_keep; done) | (simp (disch := first | omega | (simp <;> omega) | fail) [*]; done) | fail))
    refine wpAnyH_take (i := 0) (by simp only [List.getElem?_toArray, List.getElem?_cons_zero]; rfl) (by kernel_rfl) (by kernel_rfl) (by kernel_rfl) (by intro _ _ _ h; exact h) (Or.inl ⟨by rfl, fun w hSw => by (dsimp only at hSw; go_simp; (try with_reducible rfl))⟩) (by assumption) ?_
    simp only [Act.put, List.setIfInBounds_toArray, List.set_cons_zero, List.set_cons_succ]
    refine wpAnyH_take (i := 1) (by simp only [List.getElem?_toArray, List.getElem?_cons_zero, List.getElem?_cons_succ]; rfl) (by kernel_rfl) (by kernel_rfl) (by kernel_rfl) (by intro _ _ _ h; exact h) (Or.inl ⟨by rfl, fun w hSw => by (dsimp only at hSw; go_simp; (try with_reducible rfl))⟩) (by assumption) ?_
    simp only [Act.put, List.setIfInBounds_toArray, List.set_cons_zero, List.set_cons_succ]
    refine wpAnyH_take (i := 3) (by simp only [List.getElem?_toArray, List.getElem?_cons_zero, List.getElem?_cons_succ]; rfl) (by kernel_rfl) (by kernel_rfl) (by kernel_rfl) (by intro _ _ _ h; exact h) (Or.inl ⟨by rfl, fun w hSw => by (dsimp only at hSw; go_simp; (try with_reducible rfl))⟩) (by assumption) ?_
    simp only [Act.put, List.setIfInBounds_toArray, List.set_cons_zero, List.set_cons_succ]
    refine wpAnyH_take (i := 4) (by simp only [List.getElem?_toArray, List.getElem?_cons_zero, List.getElem?_cons_succ]; rfl) (by kernel_rfl) (by kernel_rfl) (by kernel_rfl) (by intro _ _ _ h; exact h) (Or.inl ⟨by rfl, fun w hSw => by (dsimp only at hSw; go_simp; (try with_reducible rfl))⟩) (by assumption) ?_
    simp only [Act.put, List.setIfInBounds_toArray, List.set_cons_zero, List.set_cons_succ]
    refine wpAnyH_take (i := 5) (by simp only [List.getElem?_toArray, List.getElem?_cons_zero, List.getElem?_cons_succ]; rfl) (by kernel_rfl) (by kernel_rfl) (by kernel_rfl) (by intro _ _ _ h; exact h) (Or.inl ⟨by rfl, fun w hSw => by (dsimp only at hSw; go_simp; (try with_reducible rfl))⟩) (by assumption) ?_
    simp only [Act.put, List.setIfInBounds_toArray, List.set_cons_zero, List.set_cons_succ]
    refine wpAnyH_take (i := 6) (by simp only [List.getElem?_toArray, List.getElem?_cons_zero, List.getElem?_cons_succ]; rfl) (by kernel_rfl) (by kernel_rfl) (by kernel_rfl) (by intro _ _ _ h; exact h) (Or.inl ⟨by rfl, fun w hSw => by (dsimp only at hSw; go_simp; (try with_reducible rfl))⟩) (by assumption) ?_
    simp only [Act.put, List.setIfInBounds_toArray, List.set_cons_zero, List.set_cons_succ]
    refine wpAnyH_take (i := 7) (v := undef) (by simp only [List.getElem?_toArray, List.getElem?_cons_zero, List.getElem?_cons_succ]; rfl) (by kernel_rfl) (by kernel_rfl) (by kernel_rfl) (by intro _ _ _ h; exact h) (Or.inr ⟨by rfl, rfl⟩) (by assumption) ?_
    simp only [Act.put, List.setIfInBounds_toArray, List.set_cons_zero, List.set_cons_succ]
    refine wpAnyH_take (i := 8) (v := undef) (by simp only [List.getElem?_toArray, List.getElem?_cons_zero, List.getElem?_cons_succ]; rfl) (by kernel_rfl) (by kernel_rfl) (by kernel_rfl) (by intro _ _ _ h; exact h) (Or.inr ⟨by rfl, rfl⟩) (by assumption) ?_
    simp only [Act.put, List.setIfInBounds_toArray, List.set_cons_zero, List.set_cons_succ]
    refine wpAnyH_take (i := 9) (v := undef) (by simp only [List.getElem?_toArray, List.getElem?_cons_zero, List.getElem?_cons_succ]; rfl) (by kernel_rfl) (by kernel_rfl) (by kernel_rfl) (by intro _ _ _ h; exact h) (Or.inr ⟨by rfl, rfl⟩) (by assumption) ?_
    simp only [Act.put, List.setIfInBounds_toArray, List.set_cons_zero, List.set_cons_succ]
    refine wpAnyH_take (i := 10) (by simp only [List.getElem?_toArray, List.getElem?_cons_zero, List.getElem?_cons_succ]; rfl) (by kernel_rfl) (by kernel_rfl) (by kernel_rfl) (by intro _ _ _ h; exact h) (Or.inl ⟨by rfl, fun w hSw => by (dsimp only at hSw; go_simp; (try with_reducible rfl))⟩) (by assumption) ?_
    simp only [Act.put, List.setIfInBounds_toArray, List.set_cons_zero, List.set_cons_succ]
    refine wpAnyH_ready (rs := [2]) (by kernel_rfl) (by simp) ?_
    refine AllReadyH.cons (by simp only [List.getElem?_toArray, List.getElem?_cons_zero, List.getElem?_cons_succ]; rfl) ?_ AllReadyH.nil
    intro K hK
    go_simp
    obtain ⟨V, hV⟩ : ∃ V, V = E0.alloc (.cells #[.int .i64 kt, .string mt, .slice ma mn mc, .slice ra rn rc, .bool dt, .int .i64 tt, .int .i64 st, .int .i64 2, .string nm, .slice na nn nc, .slice sa sn sc, .bool dn, .int .i64 ct, .int .i64 sk] 43) := ⟨_, rfl⟩
    obtain ⟨g, hg⟩ : ∃ z, z = E0.heap.size := ⟨_, rfl⟩
    have hVB : Below E0.heap.size E0 V := by rw [hV]; exact (Below.refl _ _).alloc (Nat.le_refl _) _
    have HC : Hid (∀ (j : Nat) u, (hvS [(⟨kt, mt, M, R, dt, tt, st⟩, ⟨ma, mc, ra, rc⟩), (⟨2, nm, N, S, dn, ct, sk⟩, ⟨na, nc, sa, sc⟩)])[j]? = some u → V.cell? ⟨g, j, none⟩ = some u) := by
      have h : ∀ (j : Nat) u, (hvS [(⟨kt, mt, M, R, dt, tt, st⟩, ⟨ma, mc, ra, rc⟩), (⟨2, nm, N, S, dn, ct, sk⟩, ⟨na, nc, sa, sc⟩)])[j]? = some u → V.cell? ⟨g, j, none⟩ = some u := by rw [hV, hg]; exact cells_alloc E0 _ _ _ (by obtain ⟨h1, h2, h3, h4⟩ := HN.out; simp [hvS, headSv, h1, h2, h3, h4])
      exact h
    have hgl : g < V.heap.size := by rw [hV, hg]; simp
    rw [← hV, ← hg]
    have P1 := P0.below hVB
    have HB : Hid (Below w.heap.size w V.drew) := (chain hA hVB).drew
    clear p0 p1 p2 p3 p4 p5 p6 t0 t1 t2 t3 t4 t5 t6 hHeld
    obtain ⟨p0, p1, p2, p3, p4, p5, p6⟩ := cells7 (P1.box (Nat.le_refl _) HBS.out)
    obtain ⟨t0, t1, t2, t3, t4, t5, t6⟩ := cells7 (P1.box (by omega) HBT.out)
    clear hV hg hVB
    refine hK.out _ _ ?_ (fun hHeld => ?_)
    · (((try dsimp only); (repeat' apply And.intro) <;> first | assumption | (simp (disch := first | omega | (simp <;> omega) | fail) [*]; done) | fail))
    clear hK K
    try simp only [Act.put, List.setIfInBounds_toArray, List.set_cons_zero, List.set_cons_succ]
    refine wpAnyH_take (i := 11) (by simp only [List.getElem?_toArray, List.getElem?_cons_zero, List.getElem?_cons_succ]; rfl) (by kernel_rfl) (by kernel_rfl) (by kernel_rfl) (by intro _ _ _ h; exact h) (Or.inl ⟨by rfl, fun w hSw => by (dsimp only at hSw; go_simp; (try with_reducible rfl))⟩) (by assumption) ?_
    simp only [Act.put, List.setIfInBounds_toArray, List.set_cons_zero, List.set_cons_succ]
    refine wpAnyH_take (i := 12) (by simp only [List.getElem?_toArray, List.getElem?_cons_zero, List.getElem?_cons_succ]; rfl) (by kernel_rfl) (by kernel_rfl) (by kernel_rfl) (by intro _ _ _ h; exact h) (Or.inl ⟨by rfl, fun w hSw => by (dsimp only at hSw; go_simp; (try with_reducible rfl))⟩) (by assumption) ?_
    simp only [Act.put, List.setIfInBounds_toArray, List.set_cons_zero, List.set_cons_succ]
    refine wpAnyH_done (by kernel_rfl) ?_ _
    clear p0 p1 p2 p3 p4 p5 p6 t0 t1 t2 t3 t4 t5 t6 hHeld
    go_wp2
    go_ret2
    exact ⟨⟨g, 2, 2, rfl, rfl, hgl, HC.out⟩, HB.out⟩
  have hkt : (kd != 2) = true := by simp [hk]
  obtain rfl : b = z := by rw [← HZ.out]; simp [hk]
  clear HZ hk
  refine wp_region_held_drew (S := (fun w' => w'.cell? ⟨w.heap.size, 0, none⟩ = some (.int .i64 kd) ∧ w'.cell? ⟨w.heap.size, 1, none⟩ = some (.string nm) ∧ w'.cell? ⟨w.heap.size, 2, none⟩ = some (.slice na nn nc) ∧ w'.cell? ⟨w.heap.size, 3, none⟩ = some (.slice sa sn sc) ∧ w'.cell? ⟨w.heap.size, 4, none⟩ = some (.bool dn) ∧ w'.cell? ⟨w.heap.size, 5, none⟩ = some (.int .i64 ct) ∧ w'.cell? ⟨w.heap.size, 6, none⟩ = some (.int .i64 sk) ∧ w'.cell? ⟨w.heap.size + 1, 0, none⟩ = some (.int .i64 kt) ∧ w'.cell? ⟨w.heap.size + 1, 1, none⟩ = some (.string mt) ∧ w'.cell? ⟨w.heap.size + 1, 2, none⟩ = some (.slice ma mn mc) ∧ w'.cell? ⟨w.heap.size + 1, 3, none⟩ = some (.slice ra rn rc) ∧ w'.cell? ⟨w.heap.size + 1, 4, none⟩ = some (.bool dt) ∧ w'.cell? ⟨w.heap.size + 1, 5, none⟩ = some (.int .i64 tt) ∧ w'.cell? ⟨w.heap.size + 1, 6, none⟩ = some (.int .i64 st))) (by kernel_rfl) ?_ (fun hHeld => ?_)
  · (((try dsimp only); (repeat' apply And.intro) <;> first | (go_keep; done) | (simp (disch := first | omega | (simp <;> omega) | fail) [*]; done) | fail))
  refine wpAnyH_take (i := 0) (by simp only [List.getElem?_toArray, List.getElem?_cons_zero]; rfl) (by kernel_rfl) (by kernel_rfl) (by kernel_rfl) (by intro _ _ _ h; exact h) (Or.inl ⟨by rfl, fun w hSw => by (dsimp only at hSw; go_simp; (try with_reducible rfl))⟩) (by assumption) ?_
  simp only [Act.put, List.setIfInBounds_toArray, List.set_cons_zero, List.set_cons_succ]
  refine wpAnyH_take (i := 1) (by simp only [List.getElem?_toArray, List.getElem?_cons_zero, List.getElem?_cons_succ]; rfl) (by kernel_rfl) (by kernel_rfl) (by kernel_rfl) (by intro _ _ _ h; exact h) (Or.inl ⟨by rfl, fun w hSw => by (dsimp only at hSw; go_simp; (try with_reducible rfl))⟩) (by assumption) ?_
  simp only [Act.put, List.setIfInBounds_toArray, List.set_cons_zero, List.set_cons_succ]
  refine wpAnyH_take (i := 3) (by simp only [List.getElem?_toArray, List.getElem?_cons_zero, List.getElem?_cons_succ]; rfl) (by kernel_rfl) (by kernel_rfl) (by kernel_rfl) (by intro _ _ _ h; exact h) (Or.inl ⟨by rfl, fun w hSw => by (dsimp only at hSw; go_simp; (try with_reducible rfl))⟩) (by assumption) ?_
  simp only [Act.put, List.setIfInBounds_toArray, List.set_cons_zero, List.set_cons_succ]
  refine wpAnyH_take (i := 4) (by simp only [List.getElem?_toArray, List.getElem?_cons_zero, List.getElem?_cons_succ]; rfl) (by kernel_rfl) (by kernel_rfl) (by kernel_rfl) (by intro _ _ _ h; exact h) (Or.inl ⟨by rfl, fun w hSw => by (dsimp only at hSw; go_simp; (try with_reducible rfl))⟩) (by assumption) ?_
  simp only [Act.put, List.setIfInBounds_toArray, List.set_cons_zero, List.set_cons_succ]
  refine wpAnyH_take (i := 5) (by simp only [List.getElem?_toArray, List.getElem?_cons_zero, List.getElem?_cons_succ]; rfl) (by kernel_rfl) (by kernel_rfl) (by kernel_rfl) (by intro _ _ _ h; exact h) (Or.inl ⟨by rfl, fun w hSw => by (dsimp only at hSw; go_simp; (try with_reducible rfl))⟩) (by assumption) ?_
  simp only [Act.put, List.setIfInBounds_toArray, List.set_cons_zero, List.set_cons_succ]
  refine wpAnyH_take (i := 6) (by simp only [List.getElem?_toArray, List.getElem?_cons_zero, List.getElem?_cons_succ]; rfl) (by kernel_rfl) (by kernel_rfl) (by kernel_rfl) (by intro _ _ _ h; exact h) (Or.inl ⟨by rfl, fun w hSw => by (dsimp only at hSw; go_simp; (try with_reducible rfl))⟩) (by assumption) ?_
  simp only [Act.put, List.setIfInBounds_toArray, List.set_cons_zero, List.set_cons_succ]
  refine wpAnyH_take (i := 7) (by simp only [List.getElem?_toArray, List.getElem?_cons_zero, List.getElem?_cons_succ]; rfl) (by kernel_rfl) (by kernel_rfl) (by kernel_rfl) (by intro _ _ _ h; exact h) (Or.inl ⟨by rfl, fun w hSw => by (dsimp only at hSw; go_simp; (try with_reducible rfl))⟩) (by assumption) ?_
  simp only [Act.put, List.setIfInBounds_toArray, List.set_cons_zero, List.set_cons_succ]
  refine wpAnyH_take (i := 8) (by simp only [List.getElem?_toArray, List.getElem?_cons_zero, List.getElem?_cons_succ]; rfl) (by kernel_rfl) (by kernel_rfl) (by kernel_rfl) (by intro _ _ _ h; exact h) (Or.inl ⟨by rfl, fun w hSw => by (dsimp only at hSw; go_simp; (try with_reducible rfl))⟩) (by assumption) ?_
  simp only [Act.put, List.setIfInBounds_toArray, List.set_cons_zero, List.set_cons_succ]
  refine wpAnyH_ready (rs := [2, 9]) (by kernel_rfl) (by simp) ?_
  refine AllReadyH.cons (by simp only [List.getElem?_toArray, List.getElem?_cons_zero, List.getElem?_cons_succ]; rfl) ?_ (AllReadyH.cons (by simp only [List.getElem?_toArray, List.getElem?_cons_zero, List.getElem?_cons_succ]; rfl) ?_ AllReadyH.nil)
  · intro K hK
    go_simp
    obtain ⟨V, hV⟩ : ∃ V, V = E0.alloc (.cells #[.int .i64 kt, .string mt, .slice ma mn mc, .slice ra rn rc, .bool dt, .int .i64 tt, .int .i64 st, .int .i64 kd, .string nm, .slice na nn nc, .slice sa sn sc, .bool dn, .int .i64 ct, .int .i64 sk] 43) := ⟨_, rfl⟩
    obtain ⟨g, hg⟩ : ∃ z, z = E0.heap.size := ⟨_, rfl⟩
    have hVB : Below E0.heap.size E0 V := by rw [hV]; exact (Below.refl _ _).alloc (Nat.le_refl _) _
    have HC : Hid (∀ (j : Nat) u, (hvS [(⟨kt, mt, M, R, dt, tt, st⟩, ⟨ma, mc, ra, rc⟩), (⟨kd, nm, N, S, dn, ct, sk⟩, ⟨na, nc, sa, sc⟩)])[j]? = some u → V.cell? ⟨g, j, none⟩ = some u) := by
      have h : ∀ (j : Nat) u, (hvS [(⟨kt, mt, M, R, dt, tt, st⟩, ⟨ma, mc, ra, rc⟩), (⟨kd, nm, N, S, dn, ct, sk⟩, ⟨na, nc, sa, sc⟩)])[j]? = some u → V.cell? ⟨g, j, none⟩ = some u := by rw [hV, hg]; exact cells_alloc E0 _ _ _ (by obtain ⟨h1, h2, h3, h4⟩ := HN.out; simp [hvS, headSv, h1, h2, h3, h4])
      exact h
    have HGL : Hid (g < V.heap.size) := by
      have h : g < V.heap.size := by rw [hV, hg]; simp
      exact h
    rw [← hV, ← hg]
    have P1 := P0.below hVB
    have HB : Hid (Below w.heap.size w V) := chain hA hVB
    clear p0 p1 p2 p3 p4 p5 p6 t0 t1 t2 t3 t4 t5 t6 hHeld
    obtain ⟨p0, p1, p2, p3, p4, p5, p6⟩ := cells7 (P1.box (Nat.le_refl _) HBS.out)
    obtain ⟨t0, t1, t2, t3, t4, t5, t6⟩ := cells7 (P1.box (by omega) HBT.out)
    clear hV hg hVB
    refine hK.out _ _ ?_ (fun hHeld => ?_)
    · (((try dsimp only); (repeat' apply And.intro) <;> first | assumption | (simp (disch := first | omega | (simp <;> omega) | fail) [*]; done) | fail))
    clear hK K
    try simp only [Act.put, List.setIfInBounds_toArray, List.set_cons_zero, List.set_cons_succ]
    refine wpAnyH_ready (rs := [9]) (by kernel_rfl) (by simp) ?_
    refine AllReadyH.cons (by simp only [List.getElem?_toArray, List.getElem?_cons_zero, List.getElem?_cons_succ]; rfl) ?_ AllReadyH.nil
    intro K hK
    go_simp
    refine (CW.out _ HB.out.drew).mono ?_
    rintro e WT ⟨rfl, hb3⟩
    replace hb3 := undrew hb3
    have P2 := P1.below hb3
    have HF : Hid (RuleOut w WT (.returned (.tuple #[.slice (some ⟨g, 0, none⟩) 2 2, .bool b])) [(⟨kt, mt, M, R, dt, tt, st⟩, ⟨ma, mc, ra, rc⟩), (⟨kd, nm, N, S, dn, ct, sk⟩, ⟨na, nc, sa, sc⟩)] b) := by
      have h : RuleOut w WT (.returned (.tuple #[.slice (some ⟨g, 0, none⟩) 2 2, .bool b])) [(⟨kt, mt, M, R, dt, tt, st⟩, ⟨ma, mc, ra, rc⟩), (⟨kd, nm, N, S, dn, ct, sk⟩, ⟨na, nc, sa, sc⟩)] b := ⟨⟨g, 2, 2, rfl, rfl, Nat.lt_of_lt_of_le HGL.out hb3.size, fun j u hj => (hb3.cell (p := ⟨g, j, none⟩) HGL.out).trans (HC.out j u hj)⟩, chain HB.out hb3⟩
      exact h
    clear p0 p1 p2 p3 p4 p5 p6 t0 t1 t2 t3 t4 t5 t6 hHeld
    obtain ⟨p0, p1, p2, p3, p4, p5, p6⟩ := cells7 (P2.box (Nat.le_refl _) HBS.out)
    obtain ⟨t0, t1, t2, t3, t4, t5, t6⟩ := cells7 (P2.box (by omega) HBT.out)
    clear hb3 HGL HC HB P1
    go_wp2_with fail
    refine hK.out _ _ ?_ (fun hHeld => ?_)
    · (((try dsimp only); (repeat' apply And.intro) <;> first | assumption | (simp (disch := first | omega | (simp <;> omega) | fail) [*]; done) | fail))
    clear hK K
    try simp only [Act.put, List.setIfInBounds_toArray, List.set_cons_zero, List.set_cons_succ]
    refine wpAnyH_take (i := 10) (by simp only [List.getElem?_toArray, List.getElem?_cons_zero, List.getElem?_cons_succ]; rfl) (by kernel_rfl) (by kernel_rfl) (by kernel_rfl) (by intro _ _ _ h; exact h) (Or.inl ⟨by rfl, fun w hSw => by (dsimp only at hSw; go_simp; (try with_reducible rfl))⟩) (by assumption) ?_
    simp only [Act.put, List.setIfInBounds_toArray, List.set_cons_zero, List.set_cons_succ]
    refine wpAnyH_take (i := 11) (by simp only [List.getElem?_toArray, List.getElem?_cons_zero, List.getElem?_cons_succ]; rfl) (by kernel_rfl) (by kernel_rfl) (by kernel_rfl) (by intro _ _ _ h; exact h) (Or.inl ⟨by rfl, fun w hSw => by (dsimp only at hSw; go_simp; (try with_reducible rfl))⟩) (by assumption) ?_
    simp only [Act.put, List.setIfInBounds_toArray, List.set_cons_zero, List.set_cons_succ]
    refine wpAnyH_take (i := 12) (by simp only [List.getElem?_toArray, List.getElem?_cons_zero, List.getElem?_cons_succ]; rfl) (by kernel_rfl) (by kernel_rfl) (by kernel_rfl) (by intro _ _ _ h; exact h) (Or.inl ⟨by rfl, fun w hSw => by (dsimp only at hSw; go_simp; (try with_reducible rfl))⟩) (by assumption) ?_
    simp only [Act.put, List.setIfInBounds_toArray, List.set_cons_zero, List.set_cons_succ]
    refine wpAnyH_done (by kernel_rfl) ?_ _
    clear p0 p1 p2 p3 p4 p5 p6 t0 t1 t2 t3 t4 t5 t6 hHeld
    go_wp2
    go_ret2
    exact HF.out
  · intro K hK
    go_simp
    refine (CW.out _ hA.drew).mono ?_
    rintro e w3 ⟨rfl, hb3⟩
    replace hb3 := undrew hb3
    have P1 := P0.below hb3
    have HB : Hid (Below w.heap.size w w3) := chain hA hb3
    clear p0 p1 p2 p3 p4 p5 p6 t0 t1 t2 t3 t4 t5 t6 hHeld
    obtain ⟨p0, p1, p2, p3, p4, p5, p6⟩ := cells7 (P1.box (Nat.le_refl _) HBS.out)
    obtain ⟨t0, t1, t2, t3, t4, t5, t6⟩ := cells7 (P1.box (by omega) HBT.out)
    clear hb3
    go_wp2_with fail
    refine hK.out _ _ ?_ (fun hHeld => ?_)
    · (((try dsimp only); (repeat' apply And.intro) <;> first | assumption | (simp (disch := first | omega | (simp <;> omega) | fail) [*]; done) | fail))
    clear hK K
    try simp only [Act.put, List.setIfInBounds_toArray, List.set_cons_zero, List.set_cons_succ]
    refine wpAnyH_take (i := 10) (by simp only [List.getElem?_toArray, List.getElem?_cons_zero, List.getElem?_cons_succ]; rfl) (by kernel_rfl) (by kernel_rfl) (by kernel_rfl) (by intro _ _ _ h; exact h) (Or.inl ⟨by rfl, fun w hSw => by (dsimp only at hSw; go_simp; (try with_reducible rfl))⟩) (by assumption) ?_
    simp only [Act.put, List.setIfInBounds_toArray, List.set_cons_zero, List.set_cons_succ]
    refine wpAnyH_ready (rs := [2]) (by kernel_rfl) (by simp) ?_
    refine AllReadyH.cons (by simp only [List.getElem?_toArray, List.getElem?_cons_zero, List.getElem?_cons_succ]; rfl) ?_ AllReadyH.nil
    intro K hK
    go_simp
    obtain ⟨V, hV⟩ : ∃ V, V = w3.alloc (.cells #[.int .i64 kt, .string mt, .slice ma mn mc, .slice ra rn rc, .bool dt, .int .i64 tt, .int .i64 st, .int .i64 kd, .string nm, .slice na nn nc, .slice sa sn sc, .bool dn, .int .i64 ct, .int .i64 sk] 43) := ⟨_, rfl⟩
    obtain ⟨g, hg⟩ : ∃ z, z = w3.heap.size := ⟨_, rfl⟩
    have hVB : Below w3.heap.size w3 V := by rw [hV]; exact (Below.refl _ _).alloc (Nat.le_refl _) _
    have hC : ∀ (j : Nat) u, (hvS [(⟨kt, mt, M, R, dt, tt, st⟩, ⟨ma, mc, ra, rc⟩), (⟨kd, nm, N, S, dn, ct, sk⟩, ⟨na, nc, sa, sc⟩)])[j]? = some u → V.cell? ⟨g, j, none⟩ = some u := by rw [hV, hg]; exact cells_alloc w3 _ _ _ (by obtain ⟨h1, h2, h3, h4⟩ := HN.out; simp [hvS, headSv, h1, h2, h3, h4])
    have hgl : g < V.heap.size := by rw [hV, hg]; simp
    have HF : Hid (RuleOut w V (.returned (.tuple #[.slice (some ⟨g, 0, none⟩) 2 2, .bool b])) [(⟨kt, mt, M, R, dt, tt, st⟩, ⟨ma, mc, ra, rc⟩), (⟨kd, nm, N, S, dn, ct, sk⟩, ⟨na, nc, sa, sc⟩)] b) := by
      have h : RuleOut w V (.returned (.tuple #[.slice (some ⟨g, 0, none⟩) 2 2, .bool b])) [(⟨kt, mt, M, R, dt, tt, st⟩, ⟨ma, mc, ra, rc⟩), (⟨kd, nm, N, S, dn, ct, sk⟩, ⟨na, nc, sa, sc⟩)] b := ⟨⟨g, 2, 2, rfl, rfl, hgl, hC⟩, chain HB.out hVB⟩
      exact h
    rw [← hV, ← hg]
    have P2 := P1.below hVB
    clear p0 p1 p2 p3 p4 p5 p6 t0 t1 t2 t3 t4 t5 t6 hHeld
    obtain ⟨p0, p1, p2, p3, p4, p5, p6⟩ := cells7 (P2.box (Nat.le_refl _) HBS.out)
    obtain ⟨t0, t1, t2, t3, t4, t5, t6⟩ := cells7 (P2.box (by omega) HBT.out)
    clear hV hg hVB hC hgl HB P1
    refine hK.out _ _ ?_ (fun hHeld => ?_)
    · (((try dsimp only); (repeat' apply And.intro) <;> first | assumption | (simp (disch := first | omega | (simp <;> omega) | fail) [*]; done) | fail))
    clear hK K
    try simp only [Act.put, List.setIfInBounds_toArray, List.set_cons_zero, List.set_cons_succ]
    refine wpAnyH_take (i := 11) (by simp only [List.getElem?_toArray, List.getElem?_cons_zero, List.getElem?_cons_succ]; rfl) (by kernel_rfl) (by kernel_rfl) (by kernel_rfl) (by intro _ _ _ h; exact h) (Or.inl ⟨by rfl, fun w hSw => by (dsimp only at hSw; go_simp; (try with_reducible rfl))⟩) (by assumption) ?_
    simp only [Act.put, List.setIfInBounds_toArray, List.set_cons_zero, List.set_cons_succ]
    refine wpAnyH_take (i := 12) (by simp only [List.getElem?_toArray, List.getElem?_cons_zero, List.getElem?_cons_succ]; rfl) (by kernel_rfl) (by kernel_rfl) (by kernel_rfl) (by intro _ _ _ h; exact h) (Or.inl ⟨by rfl, fun w hSw => by (dsimp only at hSw; go_simp; (try with_reducible rfl))⟩) (by assumption) ?_
    simp only [Act.put, List.setIfInBounds_toArray, List.set_cons_zero, List.set_cons_succ]
    refine wpAnyH_done (by kernel_rfl) ?_ _
    clear p0 p1 p2 p3 p4 p5 p6 t0 t1 t2 t3 t4 t5 t6 hHeld
    go_wp2
    go_ret2
    exact HF.out
end Go.Proofs.YtegnekbbbfncgaaGreatDoor
