/-
  Proved: at every sieve the program's SieveOk answers as its model does, it writes into nothing that it is given, and the law's argument reads afterwards as before; the listed variables (the table of powers of ten, two tables of bits, two errors) start as the program's text lays them, to which the card ties them; no other condition.
-/
import Derived.Test.YtmmandkellhbeaaGreatDoorPart13
import Derived.Test.YtmmandkellhbeaaGreatDoorPart14
import Derived.Test.YtmmandkellhbeaaGreatDoorTie
import Derived.Test.YtmmandkellhbeaaGreatDoorCards
import Derived.Lib.SmallJoins
import Derived.SevenTiedAt
namespace Go.Proofs.YtmmandkellhbeaaGreatDoor
open Go.ChangeShapes Go.WideShapes Go.ChangeAt Go.RowKit Go.Joins

namespace exSieveOk

theorem own : ownKnob Tryz.prog.godebug = none := by kernel_rfl

set_option maxRecDepth 100000 in
set_option maxHeartbeats 2000000 in
theorem walk (na : Option Addr) (nc : Nat) (sa : Option Addr) (sc : Nat) (s : SV) (nn sn : Nat) (hnn : s.names.length = nn) (hsn : s.sum.length = sn) (w : World) (hrow : SivAt w na nc sa s) (hp : PowAt w) (he : ErrAt w) :
    Calls Tryz.prog 3 #[.agg #[.int .i64 s.kind, .string s.name, .slice na nn nc, .slice sa sn sc, .bool s.down, .int .i64 s.count, .int .i64 s.skip]] w fun e w' => e = .returned (.bool true) ∧ Below w.heap.size w w' := by
  have HP : Hid (PowAt w) := hp
  have HE : Hid (ErrAt w) := he
  have HK : Hid (SivAt w na nc sa s) := hrow
  have HN : Hid (s.names.length = nn) := hnn
  have HS : Hid (s.sum.length = sn) := hsn
  obtain ⟨r, hr⟩ : ∃ r : Int, leftV s 1048576 = r := ⟨_, rfl⟩
  have HRR : Hid (leftV s 1048576 = r) := hr
  obtain ⟨y, hy⟩ : ∃ y, sieveB s = y := ⟨_, rfl⟩
  have HY : Hid (sieveB s = y) := hy
  have SZ : Hid (∀ w', Below w.heap.size w w' → Calls Tryz.prog 7 #[.agg #[.int .i64 s.kind, .string s.name, .slice na nn nc, .slice sa sn sc, .bool s.down, .int .i64 s.count, .int .i64 s.skip], .int .i64 1048576] w' fun e w'' => e = .returned (.int .i64 r) ∧ Below w'.heap.size w' w'') := by
    have h : ∀ w', Below w.heap.size w w' → Calls Tryz.prog 7 #[.agg #[.int .i64 s.kind, .string s.name, .slice na nn nc, .slice sa sn sc, .bool s.down, .int .i64 s.count, .int .i64 s.skip], .int .i64 1048576] w' fun e w'' => e = .returned (.int .i64 r) ∧ Below w'.heap.size w' w'' := by
      intro w' hw
      rw [← hr]
      exact szsiv_laws na nc sa sc s nn sn hnn hsn w' (hrow.below hw) 1048576 (by omega) (by omega)
    exact h
  clear hp he hrow hnn hsn hy
  have hA : ∀ o, Below w.heap.size w (w.alloc o) := fun o => (Below.refl _ _).alloc (Nat.le_refl _) o
  by_cases hr0 : r < 0
  · clear hr
    go_enter Tryz.func3, Tryz.ntmps3
    go_wp2_with fail
    refine (SZ.out _ (by first | exact hA _ | exact Below.refl _ _)).mono ?_
    rintro e w1 ⟨rfl, hb1⟩
    go_wp2
    go_ret
    exact ⟨rfl, by first | exact chainA hb1 | exact hb1⟩
  have hmild : Hid (MildV s) := leftV_fit (left := 1048576) (by omega) (by rw [hr]; omega)
  have hn1 : nn ≤ 1048576 := by rw [← HN.out]; exact hmild.out.2.1
  have hs1 : sn ≤ 1048576 := by rw [← HS.out]; exact hmild.out.2.2.2.1
  have Z : Hid (∀ w', Below w.heap.size w w' → Calls Tryz.prog 9 #[.agg #[.int .i64 s.kind, .string s.name, .slice na nn nc, .slice sa sn sc, .bool s.down, .int .i64 s.count, .int .i64 s.skip]] w' fun e w'' => ∃ g g2, e = .returned (.agg #[.int .i64 s.kind, .string s.name, .slice (some ⟨g, 0, none⟩) nn nn, .slice (some ⟨g2, 0, none⟩) sn sn, .bool s.down, .int .i64 s.count, .int .i64 s.skip]) ∧ SivAt w'' (some ⟨g, 0, none⟩) nn (some ⟨g2, 0, none⟩) s ∧ Below w'.heap.size w' w'') := by
    have h : ∀ w', Below w.heap.size w w' → Calls Tryz.prog 9 #[.agg #[.int .i64 s.kind, .string s.name, .slice na nn nc, .slice sa sn sc, .bool s.down, .int .i64 s.count, .int .i64 s.skip]] w' fun e w'' => ∃ g g2, e = .returned (.agg #[.int .i64 s.kind, .string s.name, .slice (some ⟨g, 0, none⟩) nn nn, .slice (some ⟨g2, 0, none⟩) sn sn, .bool s.down, .int .i64 s.count, .int .i64 s.skip]) ∧ SivAt w'' (some ⟨g, 0, none⟩) nn (some ⟨g2, 0, none⟩) s ∧ Below w'.heap.size w' w'' := by
      intro w' hw
      refine (tosiv_laws na nc sa sc s nn sn HN.out HS.out w' (HK.out.below hw) hn1 hs1).mono ?_
      rintro e w'' ⟨g, g2, rfl, hnew, hb⟩
      have hl := hnew.lies HK.out.fitN HK.out.name HK.out.lenN HK.out.fitI HK.out.lenI
      rw [HN.out] at hl
      exact ⟨g, g2, rfl, hl, hb⟩
    exact h
  obtain ⟨k, nm, N, S, dn, ct, sk⟩ := s
  dsimp only at HN HS SZ Z ⊢
  have SP : Hid (∀ (w' : World) (g g2 : Nat), SivAt w' (some ⟨g, 0, none⟩) nn (some ⟨g2, 0, none⟩) ⟨k, nm, N, S, dn, ct, sk⟩ → Calls Tryz.prog 8 #[.agg #[.int .i64 k, .string nm, .slice (some ⟨g, 0, none⟩) nn nn, .slice (some ⟨g2, 0, none⟩) sn sn, .bool dn, .int .i64 ct, .int .i64 sk]] w' fun e w'' => e = .returned (.bool y) ∧ Below w'.heap.size w' w'') :=
    fun w' g g2 h => sieve_spec k nm _ nn nn N HN.out _ sn sn S HS.out dn ct sk w' h.name h.names h.fitN (by have := h.lenN; rw [← HN.out]; exact this) (Nat.le_refl _) h.sum h.fitI (by have := h.lenI; rw [← HS.out]; exact this) y HY.out
  have IM : Hid (∀ (w' : World) (g g2 : Nat), Below w.heap.size w w' → SivAt w' (some ⟨g, 0, none⟩) nn (some ⟨g2, 0, none⟩) ⟨k, nm, N, S, dn, ct, sk⟩ → Calls Tryz.prog 10 #[.agg #[.int .i64 k, .string nm, .slice (some ⟨g, 0, none⟩) nn nn, .slice (some ⟨g2, 0, none⟩) sn sn, .bool dn, .int .i64 ct, .int .i64 sk]] w' fun e w'' => e = .returned (.bool y) ∧ Below w'.heap.size w' w'') :=
    fun w' g g2 hw h => sieve_impl k nm _ nn nn N HN.out _ sn sn S HS.out dn ct sk w' (HP.out.below hw) (HE.out.below hw) h hmild.out y HY.out
  have hbn : ∀ (x : Bool) (wz : World), (binOp .neq 4 (.bool x) (.bool x)).run Tryz.prog wz = .ok (.bool false) wz := fun x wz => by cases x <;> kernel_rfl
  clear hn1 hs1 hr
  go_enter Tryz.func3, Tryz.ntmps3
  go_wp2_with fail
  refine (SZ.out _ (hA _)).mono ?_
  rintro e w1 ⟨rfl, hb1⟩
  have p := box7 hb1
  have hx := chainA hb1
  clear hb1 hA
  obtain ⟨p0, p1, p2, p3, p4, p5, p6, p7⟩ := id p
  go_wp2_with fail
  refine (Z.out _ hx).mono ?_
  rintro e w2 ⟨g, g2, rfl, T2, hb1⟩
  clear p0 p1 p2 p3 p4 p5 p6 p7
  replace p := later7 hb1 p
  replace hx := chain hx hb1
  clear hb1
  obtain ⟨p0, p1, p2, p3, p4, p5, p6, p7⟩ := id p
  go_wp2_with fail
  refine (SP.out _ g g2 T2).mono ?_
  rintro e w3 ⟨rfl, hb1⟩
  clear T2
  clear p0 p1 p2 p3 p4 p5 p6 p7
  replace p := later7 hb1 p
  replace hx := chain hx hb1
  clear hb1
  obtain ⟨p0, p1, p2, p3, p4, p5, p6, p7⟩ := id p
  go_wp2_with fail
  refine (Z.out _ hx).mono ?_
  rintro e w4 ⟨h, h2, rfl, T4, hb1⟩
  clear p0 p1 p2 p3 p4 p5 p6 p7
  replace p := later7 hb1 p
  replace hx := chain hx hb1
  clear hb1
  have T4h : Hid (SivAt w4 (some ⟨h, 0, none⟩) nn (some ⟨h2, 0, none⟩) ⟨k, nm, N, S, dn, ct, sk⟩) := T4
  clear T4
  obtain ⟨p0, p1, p2, p3, p4, p5, p6, p7⟩ := id p
  go_wp2_with fail
  obtain ⟨V, hV⟩ : ∃ V, V = (w4.alloc (.cells #[.int .i64 k, .string nm, .slice (some ⟨h, 0, none⟩) nn nn, .slice (some ⟨h2, 0, none⟩) sn sn, .bool dn, .int .i64 ct, .int .i64 sk] 30)) := ⟨_, rfl⟩
  have hAV : Below w4.heap.size w4 V := by rw [hV]; exact (Below.refl _ _).alloc (Nat.le_refl _) _
  rw [← hV]
  refine (IM.out _ h h2 (chain hx hAV) (T4h.out.below hAV)).mono ?_
  rintro e w5 ⟨rfl, hb1⟩
  have q : (w5.cell? ⟨w4.heap.size, 0, none⟩ = some (.int .i64 k) ∧ w5.cell? ⟨w4.heap.size, 1, none⟩ = some (.string nm) ∧ w5.cell? ⟨w4.heap.size, 2, none⟩ = some (.slice (some ⟨h, 0, none⟩) nn nn) ∧ w5.cell? ⟨w4.heap.size, 3, none⟩ = some (.slice (some ⟨h2, 0, none⟩) sn sn) ∧ w5.cell? ⟨w4.heap.size, 4, none⟩ = some (.bool dn) ∧ w5.cell? ⟨w4.heap.size, 5, none⟩ = some (.int .i64 ct) ∧ w5.cell? ⟨w4.heap.size, 6, none⟩ = some (.int .i64 sk)) ∧ w4.heap.size < w5.heap.size := by
    have := hb1
    rw [hV] at this
    obtain ⟨a0, a1, a2, a3, a4, a5, a6, a7⟩ := box7 this
    exact ⟨⟨a0, a1, a2, a3, a4, a5, a6⟩, a7⟩
  have h45 : Below w4.heap.size w4 w5 := chain hAV hb1
  clear hb1 hV
  clear p0 p1 p2 p3 p4 p5 p6 p7
  replace p := later7 h45 p
  replace hx := chain hx h45
  have HX5 : Hid (SivAt w5 (some ⟨h, 0, none⟩) nn (some ⟨h2, 0, none⟩) ⟨k, nm, N, S, dn, ct, sk⟩) := T4h.out.below h45
  clear h45 T4h hAV V
  obtain ⟨p0, p1, p2, p3, p4, p5, p6, p7⟩ := id p
  obtain ⟨⟨q0, q1, q2, q3, q4, q5, q6⟩, q7⟩ := id q
  have hbb : (y == y) = true := by simp
  go_wp2_with fail
  refine wp_region_held_drew (S := (fun w' => w'.cell? ⟨w.heap.size, 0, none⟩ = some (.int .i64 k) ∧ w'.cell? ⟨w.heap.size, 1, none⟩ = some (.string nm) ∧ w'.cell? ⟨w.heap.size, 2, none⟩ = some (.slice na nn nc) ∧ w'.cell? ⟨w.heap.size, 3, none⟩ = some (.slice sa sn sc) ∧ w'.cell? ⟨w.heap.size, 4, none⟩ = some (.bool dn) ∧ w'.cell? ⟨w.heap.size, 5, none⟩ = some (.int .i64 ct) ∧ w'.cell? ⟨w.heap.size, 6, none⟩ = some (.int .i64 sk) ∧ w'.cell? ⟨w4.heap.size, 0, none⟩ = some (.int .i64 k) ∧ w'.cell? ⟨w4.heap.size, 1, none⟩ = some (.string nm) ∧ w'.cell? ⟨w4.heap.size, 2, none⟩ = some (.slice (some ⟨h, 0, none⟩) nn nn) ∧ w'.cell? ⟨w4.heap.size, 3, none⟩ = some (.slice (some ⟨h2, 0, none⟩) sn sn) ∧ w'.cell? ⟨w4.heap.size, 4, none⟩ = some (.bool dn) ∧ w'.cell? ⟨w4.heap.size, 5, none⟩ = some (.int .i64 ct) ∧ w'.cell? ⟨w4.heap.size, 6, none⟩ = some (.int .i64 sk))) (by kernel_rfl) ?_ (fun hHeld => ?_)
  · (((try dsimp only); (repeat' apply And.intro) <;> first | (go_keep; done) | (simp (disch := first | omega | (simp <;> omega) | fail) [*]; done) | fail))
  refine wpAnyH_take (i := 0) (by simp only [List.getElem?_toArray, List.getElem?_cons_zero]; rfl) (by kernel_rfl) (by kernel_rfl) (by kernel_rfl) (by intro _ _ _ h; exact h) (Or.inl ⟨by rfl, fun w hSw => by (dsimp only at hSw; go_simp; (try with_reducible rfl))⟩) (by assumption) ?_
  simp only [Act.put, List.setIfInBounds_toArray, List.set_cons_zero, List.set_cons_succ]
  refine wpAnyH_take (i := 1) (by simp only [List.getElem?_toArray, List.getElem?_cons_zero, List.getElem?_cons_succ]; rfl) (by kernel_rfl) (by kernel_rfl) (by kernel_rfl) (by intro _ _ _ h; exact h) (Or.inl ⟨by rfl, fun w hSw => by (dsimp only at hSw; go_simp; (try with_reducible rfl))⟩) (by assumption) ?_
  simp only [Act.put, List.setIfInBounds_toArray, List.set_cons_zero, List.set_cons_succ]
  refine wpAnyH_ready (rs := [2]) (by kernel_rfl) (by simp) ?_
  refine AllReadyH.cons (by simp only [List.getElem?_toArray, List.getElem?_cons_zero, List.getElem?_cons_succ]; rfl) ?_ AllReadyH.nil
  intro K hK
  go_simp
  refine (Z.out _ hx.drew).mono ?_
  rintro e w6 ⟨g5, g6, rfl, T3, hb6⟩
  obtain ⟨hca, hfa⟩ := bcell hb6
  have hza := hb6.size
  try simp at hza
  have hx6 : Below w5.heap.size w5 w6 := undrew hb6
  have HX6 : Hid (SivAt w6 (some ⟨h, 0, none⟩) nn (some ⟨h2, 0, none⟩) ⟨k, nm, N, S, dn, ct, sk⟩) := HX5.out.below hx6
  replace hx := chain hx hx6
  go_wp2_with fail
  refine hK.out _ _ ?_ (fun hHeld => ?_)
  · (((try dsimp only); (repeat' apply And.intro) <;> first | (go_keep; done) | (simp (disch := first | omega | (simp <;> omega) | fail) [*]; done) | fail))
  clear hK K hb6 hca hfa HX5
  try simp only [Act.put, List.setIfInBounds_toArray, List.set_cons_zero, List.set_cons_succ]
  refine wpAnyH_ready (rs := [3]) (by kernel_rfl) (by simp) ?_
  refine AllReadyH.cons (by simp only [List.getElem?_toArray, List.getElem?_cons_zero, List.getElem?_cons_succ]; rfl) ?_ AllReadyH.nil
  intro K hK
  go_simp
  refine (eqsiv_laws _ _ _ _ _ _ _ _ ⟨k, nm, N, S, dn, ct, sk⟩ nn sn HN.out HS.out _ HX6.out T3).mono ?_
  rintro e w7 ⟨rfl, hb7⟩
  obtain ⟨hca, hfa⟩ := bcell hb7
  have hza7 := hb7.size
  replace hx := chain hx hb7
  have y1 : w.heap.size < w6.heap.size := by omega
  have y2 : w4.heap.size < w6.heap.size := by omega
  clear p0 p1 p2 p3 p4 p5 p6 p7 q0 q1 q2 q3 q4 q5 q6 q7
  obtain ⟨p0, p1, p2, p3, p4, p5, p6, p7⟩ := later7 hx6 p
  obtain ⟨q0, q1, q2, q3, q4, q5, q6, q7⟩ := later7 hx6 (by obtain ⟨⟨a0, a1, a2, a3, a4, a5, a6⟩, a7⟩ := q; exact ⟨a0, a1, a2, a3, a4, a5, a6, a7⟩)
  go_wp2_with fail
  refine hK.out _ _ ?_ (fun hHeld => ?_)
  · (((try dsimp only); (repeat' apply And.intro) <;> first | (go_keep; done) | (simp (disch := first | omega | (simp <;> omega) | fail) [*]; done) | fail))
  clear hK K
  try simp only [Act.put, List.setIfInBounds_toArray, List.set_cons_zero, List.set_cons_succ]
  refine wpAnyH_take (i := 4) (by simp only [List.getElem?_toArray, List.getElem?_cons_zero, List.getElem?_cons_succ]; rfl) (by kernel_rfl) (by kernel_rfl) (by kernel_rfl) (by intro _ _ _ h; exact h) (Or.inl ⟨by rfl, fun w hSw => by (dsimp only at hSw; go_simp; (try with_reducible rfl))⟩) (by assumption) ?_
  simp only [Act.put, List.setIfInBounds_toArray, List.set_cons_zero, List.set_cons_succ]
  refine wpAnyH_done (by kernel_rfl) ?_ _
  clear hb7 T3 HX6
  go_wp2
  go_ret
  exact ⟨rfl, hx⟩

theorem laidOut : laidOutB Tryz.prog = true := by kernel_rfl

theorem var_laid {W : World} (h : laidMetH Tryz.prog Rows.fnExactSieveOkRow.laid W) : PowAt W ∧ ErrAt W := by
  rw [MakeChecks.laidMetH_plain _ _ _ (by kernel_rfl)] at h
  have h2 : laidMet Tryz.prog (("internal/strconv.uint64pow10", Rows.laid_internal_strconv_uint64pow10) :: ("strconv.ErrRange", Rows.laid_strconv_ErrRange) :: ("strconv.ErrSyntax", Rows.laid_strconv_ErrSyntax) :: []) W := laidMet.tail (laidMet.tail h)
  exact ⟨pow_of h2, err_of h2.tail⟩

/-- The door's own heap meets the condition. -/
theorem door_met (os : Os) (args : Array Value) : laidMetH Tryz.prog Rows.fnExactSieveOkRow.laid ((World.doorLaid Tryz.prog 400 os).forCall (fun _ _ => 0) ⟨#[], args, []⟩).memory :=
  laidMetH_of_parts3 (fuel := 8) (laidMet_of_run' 8 (by kernel_rfl) (by kernel_rfl)) (by kernel_rfl) (by kernel_rfl)

set_option maxRecDepth 100000 in
theorem lifted (os : Os) (started : os.Started) (H : Type) (enc : TypeId × Value → H) :
    ReturnsInHanded {} Tryz.checked os 3 .any (fun w args => (Rows.fnExactSieveOkSpec.pre enc Tryz.prog Tryz.f3 [] false w args ∧ laidMetH Tryz.prog Rows.fnExactSieveOkRow.laid w) ∧ sizedMet enc Tryz.prog Tryz.f3 (OpenSpec.ofChange Rows.fnExactSieveOkSpec) false w args)
      (Rows.fnExactSieveOkSpec.post enc Tryz.prog Tryz.f3 false true false false) := by
  refine returnsInHanded_of_change_and (C := Tryz.checked) (X := fun w _ => laidMetH Tryz.prog Rows.fnExactSieveOkRow.laid w) (fun _ _ _ hh h => h.of_heap hh) own started (by kernel_rfl) Tryz.func3
    (ChangeSpec.witness_shaped (enc := enc) (C := Tryz.checked) (os := os) (X := fun w _ => laidMetH Tryz.prog Rows.fnExactSieveOkRow.laid w) false (World.doorLaid Tryz.prog 400 os) #[.agg #[.int .i64 0, .string ⟨#[]⟩, .slice none 0 0, .slice none 0 0, .bool false, .int .i64 0, .int .i64 0]] 8 rfl (World.shaped_of_RefB (by kernel_rfl) (by kernel_rfl)) (by kernel_rfl) (by kernel_rfl) (by kernel_rfl) (door_met os _)) ?_
  intro W base args ds gs before hval0 hW _ _ hL _
  have hval : ∀ (j : Nat) t v, Tryz.f3.params[j]? = some t → args[j]? = some v → Value.okWide Tryz.prog W .any base t v := hval0
  have hW' := hW
  obtain ⟨p, q, hA0, hV, rfl, hfz, hnd⟩ := hW
  have hA : DataW.TrodAll enc Tryz.prog W 0 (fun _ => true) true Tryz.f3.params.toList args.toList ds p := hA0
  rw [Tryz.params3] at hA hval
  obtain ⟨v0, d0, rfl, rfl, h0⟩ := trodAll_one hA
  obtain ⟨rfl, rfl⟩ := trodVars_none hV
  have k0 := h0
  have lt0 : ∀ x ∈ p, x.block < W.heap.size := by obtain ⟨m, hm⟩ := k0; exact DataW.trod_lt m _ _ _ hm
  obtain ⟨t0, nn0, sn0, na0, nc0, sa0, sc0, rfl, hnn0, hsn0, hT0⟩ := open_sieve (hval 0 25 v0 rfl rfl) h0
  clear hA0 hval0
  obtain ⟨hp, he⟩ := var_laid hL
  refine (walk na0 nc0 sa0 sc0 t0 nn0 sn0 hnn0 hsn0 W hT0 hp he).mono fun e W' ⟨he, bel⟩ => ?_
  subst he
  exact ⟨_, rfl, _, _, _, [], _, [], hW', trodAll_mk1 (shut_bool Tryz.underlying4 _), trodAll_mk1 (Below.trod laidOut (by kernel_rfl) (of_decide_eq_true (by kernel_rfl)) k0 bel lt0), rfl, bel.frame _, fun h => by cases h⟩

theorem over : Rows.fnExactSieveOkRow.holds Tryz.pinned (OpenSpec.ofChange Rows.fnExactSieveOkSpec) :=
  OpenClaim.holds_of_wide 3 Tryz.f3 rfl rfl rfl rfl rfl rfl rfl ⟨rfl, rfl, rfl, rfl, rfl⟩ rfl rfl rfl rfl rfl (by kernel_rfl) Tryz.func3 (by kernel_rfl)
    (of_decide_eq_true (by kernel_rfl)) (by unfold Func.isWrapper; first | (rw [if_pos (by decide +kernel)]; kernel_rfl) | (rw [if_neg (by decide +kernel)]; exact ⟨rfl, rfl⟩))
    (fun os started H enc _ => lifted os started H enc)

end exSieveOk

theorem fnExactSieveOk_card : Rows.FnExactSieveOkCardSaid :=
  Claim7.holds_tied_plain_at .later [] [.data, .data, .data, .sentinel, .sentinel] true Rows.fnExactSieveOkCard.stood.harness true
    exSieveOk.over (fun _ h => by cases h) (by kernel_rfl) (fun _ h => by cases h) fnExactSieveOk_row_tie rfl ⟨rfl, rfl⟩ (by kernel_rfl) rfl
    (fun f fn hf hfn => by
      obtain rfl : f = 3 := Option.some.inj ((show Tryz.prog.funcNamed Rows.fnExactSieveOkRow.func = some 3 by kernel_rfl).symm.trans hf) |>.symm
      obtain rfl : fn = Tryz.f3 := (Option.some.inj (Tryz.func3.symm.trans hfn)).symm
      exact ⟨by kernel_rfl, fun j t ht => by
        rw [Tryz.params3] at ht
        have h3 : t = 25 := by
          rcases j with _ | j
          · simpa using ht.symm
          · simp at ht
        subst h3
        exact (show Tryz.prog.wantsStandIn 25 = false by kernel_rfl)⟩)
    (by kernel_rfl)

end Go.Proofs.YtmmandkellhbeaaGreatDoor
