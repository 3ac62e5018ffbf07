/-
  A part of the proof: ShpI4.
-/
import Derived.Test.YtjiaciikbnpicaaGreatDoorPart42
import Derived.Test.YtjiaciikbnpicaaGreatDoorPart33
import Derived.Test.YtjiaciikbnpicaaGreatDoorPart35

/-
  The program's stepped of every kind, shapeCode, shape, stepColumns and StepShape.
-/
namespace Go.Proofs.YtjiaciikbnpicaaGreatDoor
open Go.ChangeShapes Go.WideShapes Go.ChangeAt Go.RowKit
attribute [local go_sem ↓] Go.wp_at_zero Go.wp_at_succ
attribute [local simp] World.cell?_alloc_past World.cell?_alloc_at World.frozen?_alloc_at cell_far cell_off cell_here World.frozen?_alloc_past

theorem mild_fitI {s : SV} (h : MildV s) : FitI s.sum := by
  intro x hx
  have h1 := oneI_le hx
  have h3 : weightItm s.sum ≤ 1048576 := h.2.2.2.2
  unfold oneItm at h1
  unfold maxLen
  exact ⟨by omega, by omega⟩
theorem stepped_impl (ba : Option Addr) (bn bc : Nat) (T : List TB) (hbn : T.length = bn) (hbM : bn ≤ 1048576) (hsmT : ∀ t, t ∈ T → Small t) (ca : Option Addr) (cn cc : Nat) (C : List ByteArray) (hcn : C.length = cn) (kd : Int) (nm : ByteArray) (na : Option Addr) (nn nc : Nat) (N : List ByteArray) (hnn : N.length = nn) (sa : Option Addr) (sn sc : Nat) (S : List TI) (hsn : S.length = sn) (dn : Bool) (ct sk : Int) (w : World) (hT : TabsAt w ba T) (hC : StrsAt w ca C) (hnil : ca = none → cc = 0) (hcc : cn ≤ cc) (hV : SivAt w na nc sa ⟨kd, nm, N, S, dn, ct, sk⟩) (hfit : FitI S) (hb : baseB T = true) (hc : namesB C 1 6 = true) (hok : sieveB ⟨kd, nm, N, S, dn, ct, sk⟩ = true) (hk1 : kd ≠ 1) (A : Sen) (hS : SenAt w A) (D : List ByteArray) (k0 : Int) (hD : stepC T C ⟨kd, nm, N, S, dn, ct, sk⟩ = (D, k0)) :
    Calls Tryz.prog 64 #[.slice ba bn bc, .slice ca cn cc, .agg #[.int .i64 kd, .string nm, .slice na nn nc, .slice sa sn sc, .bool dn, .int .i64 ct, .int .i64 sk]] w (ColOut w A D k0) := by
  rcases sieve_kind hok with e | e | e | e | e | e | e | e | e | e <;> (dsimp only at e; subst e)
  · exact absurd rfl hk1
  · exact stepped_2 ba bn bc T hbn hbM hsmT ca cn cc C hcn nm na nn nc N hnn sa sn sc S hsn dn ct sk w hT hC hnil hcc hV hfit hb hc hok A hS D k0 hD
  · exact stepped_3 ba bn bc T hbn hbM hsmT ca cn cc C hcn nm na nn nc N hnn sa sn sc S hsn dn ct sk w hT hC hnil hcc hV hfit hb hc hok A hS D k0 hD
  · exact stepped_4 ba bn bc T hbn hbM hsmT ca cn cc C hcn nm na nn nc N hnn sa sn sc S hsn dn ct sk w hT hC hnil hcc hV hfit hb hc hok A hS D k0 hD
  · exact stepped_5 ba bn bc T hbn hbM hsmT ca cn cc C hcn nm na nn nc N hnn sa sn sc S hsn dn ct sk w hT hC hnil hcc hV hfit hb hc hok A hS D k0 hD
  · exact stepped_6 ba bn bc T hbn hbM hsmT ca cn cc C hcn nm na nn nc N hnn sa sn sc S hsn dn ct sk w hT hC hnil hcc hV hfit hb hc hok A hS D k0 hD
  · exact stepped_7 ba bn bc T hbn hbM hsmT ca cn cc C hcn nm na nn nc N hnn sa sn sc S hsn dn ct sk w hT hC hnil hcc hV hfit hb hc hok A hS D k0 hD
  · exact stepped_8 ba bn bc T hbn hbM hsmT ca cn cc C hcn nm na nn nc N hnn sa sn sc S hsn dn ct sk w hT hC hnil hcc hV hfit hb hc hok A hS D k0 hD
  · exact stepped_9 ba bn bc T hbn hbM hsmT ca cn cc C hcn nm na nn nc N hnn sa sn sc S hsn dn ct sk w hT hC hnil hcc hV hfit hb hc hok A hS D k0 hD
  · exact stepped_10 ba bn bc T hbn hbM hsmT ca cn cc C hcn nm na nn nc N hnn sa sn sc S hsn dn ct sk w hT hC hnil hcc hV hfit hb hc hok A hS D k0 hD
set_option maxRecDepth 100000 in
set_option maxHeartbeats 4000000 in
theorem code_1 (nm : ByteArray) (w : World) (A : Sen) (hS : SenAt w A) :
    Calls Tryz.prog 60 #[.iface 133 (.agg #[.string nm, .iface 304 (.pointer (some A.e1))])] w fun e w' => e = .returned (.int .i64 1) ∧ Below w.heap.size w w' := by
  have S0 : Hid (SenAt w A) := hS
  have x0 : Below w.heap.size w w := Below.refl _ _
  clear hS
  go_enter Tryz.func60, Tryz.ntmps60
  have c1 := S0.out.v1
  go_wp2_with fail
  refine (is_wrap_same nm _ _).mono ?_
  rintro e w1 ⟨rfl, hb1⟩
  have x1 := chain x0 hb1
  have S1 : Hid (SenAt w1 A) := S0.out.below hb1
  clear c1 hb1
  go_wp2
  go_ret
  exact ⟨rfl, x1⟩
set_option maxRecDepth 100000 in
set_option maxHeartbeats 4000000 in
theorem code_2 (w : World) (A : Sen) (hS : SenAt w A) :
    Calls Tryz.prog 60 #[.iface 304 (.pointer (some A.e2))] w fun e w' => e = .returned (.int .i64 2) ∧ Below w.heap.size w w' := by
  have S0 : Hid (SenAt w A) := hS
  have x0 : Below w.heap.size w w := Below.refl _ _
  clear hS
  go_enter Tryz.func60, Tryz.ntmps60
  have c1 := S0.out.v1
  go_wp2_with fail
  refine (is_other _ _ _ (S0.out.n12).symm S0.out.b2 S0.out.b1).mono ?_
  rintro e w1 ⟨rfl, hb1⟩
  have x1 := chain x0 hb1
  have S1 : Hid (SenAt w1 A) := S0.out.below hb1
  clear c1 hb1
  have c2 := S1.out.v2
  go_wp2_with fail
  refine (is_same _ _).mono ?_
  rintro e w2 ⟨rfl, hb2⟩
  have x2 := chain x1 hb2
  have S2 : Hid (SenAt w2 A) := S1.out.below hb2
  clear c2 hb2
  go_wp2
  go_ret
  exact ⟨rfl, x2⟩
set_option maxRecDepth 100000 in
set_option maxHeartbeats 4000000 in
theorem code_3 (nm : ByteArray) (w : World) (A : Sen) (hS : SenAt w A) :
    Calls Tryz.prog 60 #[.iface 133 (.agg #[.string nm, .iface 304 (.pointer (some A.e3))])] w fun e w' => e = .returned (.int .i64 3) ∧ Below w.heap.size w w' := by
  have S0 : Hid (SenAt w A) := hS
  have x0 : Below w.heap.size w w := Below.refl _ _
  clear hS
  go_enter Tryz.func60, Tryz.ntmps60
  have c1 := S0.out.v1
  go_wp2_with fail
  refine (is_wrap_other nm _ _ _ (S0.out.n13).symm S0.out.b3 S0.out.b1).mono ?_
  rintro e w1 ⟨rfl, hb1⟩
  have x1 := chain x0 hb1
  have S1 : Hid (SenAt w1 A) := S0.out.below hb1
  clear c1 hb1
  have c2 := S1.out.v2
  go_wp2_with fail
  refine (is_wrap_other nm _ _ _ (S1.out.n23).symm S1.out.b3 S1.out.b2).mono ?_
  rintro e w2 ⟨rfl, hb2⟩
  have x2 := chain x1 hb2
  have S2 : Hid (SenAt w2 A) := S1.out.below hb2
  clear c2 hb2
  have c3 := S2.out.v3
  go_wp2_with fail
  refine (is_wrap_same nm _ _).mono ?_
  rintro e w3 ⟨rfl, hb3⟩
  have x3 := chain x2 hb3
  have S3 : Hid (SenAt w3 A) := S2.out.below hb3
  clear c3 hb3
  go_wp2
  go_ret
  exact ⟨rfl, x3⟩
set_option maxRecDepth 100000 in
set_option maxHeartbeats 4000000 in
theorem code_4 (w : World) (A : Sen) (hS : SenAt w A) :
    Calls Tryz.prog 60 #[.iface 304 (.pointer (some A.e4))] w fun e w' => e = .returned (.int .i64 4) ∧ Below w.heap.size w w' := by
  have S0 : Hid (SenAt w A) := hS
  have x0 : Below w.heap.size w w := Below.refl _ _
  clear hS
  go_enter Tryz.func60, Tryz.ntmps60
  have c1 := S0.out.v1
  go_wp2_with fail
  refine (is_other _ _ _ (S0.out.n14).symm S0.out.b4 S0.out.b1).mono ?_
  rintro e w1 ⟨rfl, hb1⟩
  have x1 := chain x0 hb1
  have S1 : Hid (SenAt w1 A) := S0.out.below hb1
  clear c1 hb1
  have c2 := S1.out.v2
  go_wp2_with fail
  refine (is_other _ _ _ (S1.out.n24).symm S1.out.b4 S1.out.b2).mono ?_
  rintro e w2 ⟨rfl, hb2⟩
  have x2 := chain x1 hb2
  have S2 : Hid (SenAt w2 A) := S1.out.below hb2
  clear c2 hb2
  have c3 := S2.out.v3
  go_wp2_with fail
  refine (is_other _ _ _ (S2.out.n34).symm S2.out.b4 S2.out.b3).mono ?_
  rintro e w3 ⟨rfl, hb3⟩
  have x3 := chain x2 hb3
  have S3 : Hid (SenAt w3 A) := S2.out.below hb3
  clear c3 hb3
  have c4 := S3.out.v4
  go_wp2_with fail
  refine (is_same _ _).mono ?_
  rintro e w4 ⟨rfl, hb4⟩
  have x4 := chain x3 hb4
  have S4 : Hid (SenAt w4 A) := S3.out.below hb4
  clear c4 hb4
  go_wp2
  go_ret
  exact ⟨rfl, x4⟩
set_option maxRecDepth 100000 in
set_option maxHeartbeats 4000000 in
theorem code_5 (w : World) (A : Sen) (hS : SenAt w A) :
    Calls Tryz.prog 60 #[.iface 304 (.pointer (some A.e5))] w fun e w' => e = .returned (.int .i64 5) ∧ Below w.heap.size w w' := by
  have S0 : Hid (SenAt w A) := hS
  have x0 : Below w.heap.size w w := Below.refl _ _
  clear hS
  go_enter Tryz.func60, Tryz.ntmps60
  have c1 := S0.out.v1
  go_wp2_with fail
  refine (is_other _ _ _ (S0.out.n15).symm S0.out.b5 S0.out.b1).mono ?_
  rintro e w1 ⟨rfl, hb1⟩
  have x1 := chain x0 hb1
  have S1 : Hid (SenAt w1 A) := S0.out.below hb1
  clear c1 hb1
  have c2 := S1.out.v2
  go_wp2_with fail
  refine (is_other _ _ _ (S1.out.n25).symm S1.out.b5 S1.out.b2).mono ?_
  rintro e w2 ⟨rfl, hb2⟩
  have x2 := chain x1 hb2
  have S2 : Hid (SenAt w2 A) := S1.out.below hb2
  clear c2 hb2
  have c3 := S2.out.v3
  go_wp2_with fail
  refine (is_other _ _ _ (S2.out.n35).symm S2.out.b5 S2.out.b3).mono ?_
  rintro e w3 ⟨rfl, hb3⟩
  have x3 := chain x2 hb3
  have S3 : Hid (SenAt w3 A) := S2.out.below hb3
  clear c3 hb3
  have c4 := S3.out.v4
  go_wp2_with fail
  refine (is_other _ _ _ (S3.out.n45).symm S3.out.b5 S3.out.b4).mono ?_
  rintro e w4 ⟨rfl, hb4⟩
  have x4 := chain x3 hb4
  have S4 : Hid (SenAt w4 A) := S3.out.below hb4
  clear c4 hb4
  go_wp2
  go_ret
  exact ⟨rfl, x4⟩
theorem code_impl (w : World) (A : Sen) (hS : SenAt w A) (k : Int) (v : Value) (hv : ErrV A k v) (hk : k ≠ 0) :
    Calls Tryz.prog 60 #[v] w fun e w' => e = .returned (.int .i64 k) ∧ Below w.heap.size w w' := by
  rcases hv with ⟨rfl, rfl⟩ | ⟨rfl, nm, rfl⟩ | ⟨rfl, rfl⟩ | ⟨rfl, nm, rfl⟩ | ⟨rfl, rfl⟩ | ⟨rfl, rfl⟩
  · exact absurd rfl hk
  · exact code_1 nm w A hS
  · exact code_2 w A hS
  · exact code_3 nm w A hS
  · exact code_4 w A hS
  · exact code_5 w A hS
set_option maxRecDepth 100000 in
set_option maxHeartbeats 4000000 in
theorem shape_impl (a : Option Addr) (n c : Nat) (v : Value) (w : World) (A : Sen) (hS : SenAt w A) (D : List ByteArray) (k : Int) (hv : ErrV A k v) (hk : k = 0 → D.length = n ∧ StrsAt w a D ∧ (a = none → c = 0) ∧ n ≤ c) (hn : k = 0 → n ≤ 1048576) (h0 : k ≠ 0 → D = []) :
    Calls Tryz.prog 35 #[.slice a n c, v] w (ShpOut w D k) := by
  have HS : Hid (SenAt w A) := hS
  rcases hv.shape with ⟨rfl, rfl⟩ | ⟨hk0, t, x, rfl⟩
  · obtain ⟨h1, h2, h3, h4⟩ := hk rfl
    have hnm := hn rfl
    obtain ⟨i0, hi, hz0, hz1, hz2⟩ := info_parts infoStrC
    have HD : Hid (D.length = n) := h1
    have HR : Hid (StrsAt w a D) := h2
    have HN : Hid (a = none → c = 0) := h3
    clear hk hn h0 hv h1 h2 h3 h4 hS
    go_enter Tryz.func35, Tryz.ntmps35
    go_wp2_with (at_make; refine wpList_make_own _ rfl _ _ 28 rfl w.heap.size 9 i0 (.string ⟨#[]⟩) 1 Tryz.underlying28 hi hz0 hz1 .i64 .i64 _ n rfl rfl rfl (by rw [hz2]; omega) (by unfold maxLen; omega) (Nat.le_refl _) ?_)
    intro w1 own1 hg1
    have hb1 : Below w.heap.size w w1 := (Below.refl _ _).grown hg1 (Nat.le_refl _) (by intro k h; cases h)
    obtain ⟨v2, w2, hr2, own2, hg2, hn2⟩ := run_append_strs w1 28 w.heap.size _ 0 [] own1 a n c D HD.out (HR.out.below hb1) HN.out (by omega) hb1.size
    have hb2 : Below w.heap.size w w2 := hb1.grown hg2 hb1.size (by intro k hk; simp [Value.ownBlock] at hk; omega)
    obtain ⟨g2, c2, rfl, hc2⟩ : ∃ g c, v2 = .slice (some ⟨g, 0, none⟩) (0 + n) c ∧ 0 + n ≤ c := by
      rcases own2.2 with ⟨e', _⟩ | ⟨g, cap, cur, e', _, _, hle, _⟩
      · exact absurd ((hn2.1 e').1) (by simp)
      · exact ⟨g, cap, e', hle⟩
    simp only [Nat.zero_add, List.nil_append] at hr2 own2 hc2
    have R2 : Hid _ := hr2
    have fin : Hid (ShpOut w D 0 (.returned (.tuple #[.slice (some ⟨g2, 0, none⟩) n c2, .int .i64 0])) w2) := ⟨g2, n, c2, HD.out, rfl, hc2, own2, hb2⟩
    clear hr2 own2 hg2 hn2 own1 hg1 hb1 hb2 HR
    go_wp2_with (at_builtin; refine wpList_app rfl _ _ 28 28 rfl _ _ rfl rfl _ _ R2.out ?_)
    go_ret2
    exact fin.out
  · obtain rfl := h0 hk0
    have HV : Hid (ErrV A k (.iface t x)) := hv
    have hA : Below w.heap.size w (w.alloc (.cells #[] 9)) := (Below.refl _ _).alloc (Nat.le_refl _) _
    have HK0 : Hid (k ≠ 0) := hk0
    clear hk hn h0 hv hk0 hS
    go_enter Tryz.func35, Tryz.ntmps35
    go_wp2_with fail
    refine (code_impl _ A (HS.out.below hA) k _ HV.out HK0.out).mono ?_
    rintro e w1 ⟨rfl, hb1⟩
    have fin : Hid (ShpOut w [] k (.returned (.tuple #[.slice (some ⟨w.heap.size, 0, none⟩) 0 0, .int .i64 k])) w1) := ⟨w.heap.size, 0, 0, rfl, rfl, Nat.le_refl _, own_below (own_nilS w) hb1, chain hA hb1⟩
    clear hb1 hA
    go_wp2
    go_ret2
    exact fin.out
set_option maxRecDepth 100000 in
set_option maxHeartbeats 8000000 in
theorem stepcolumns_impl (ba : Option Addr) (bn bc : Nat) (T : List TB) (hbn : T.length = bn) (hbM : bn ≤ 1048576) (hsmT : ∀ t, t ∈ T → Small t) (ca : Option Addr) (cn cc : Nat) (C : List ByteArray) (hcn : C.length = cn) (kd : Int) (nm : ByteArray) (na : Option Addr) (nn nc : Nat) (N : List ByteArray) (hnn : N.length = nn) (sa : Option Addr) (sn sc : Nat) (S : List TI) (hsn : S.length = sn) (dn : Bool) (ct sk : Int) (w : World) (hT : TabsAt w ba T) (hC : StrsAt w ca C) (hnil : ca = none → cc = 0) (hcc : cn ≤ cc) (hV : SivAt w na nc sa ⟨kd, nm, N, S, dn, ct, sk⟩) (hmild : MildV ⟨kd, nm, N, S, dn, ct, sk⟩) (hcF : FitS C) (hcM : cn ≤ maxLen) (A : Sen) (hS : SenAt w A) (D : List ByteArray) (k0 : Int) (hD : stepShapeR T C ⟨kd, nm, N, S, dn, ct, sk⟩ = (D, k0)) :
    Calls Tryz.prog 41 #[.slice ba bn bc, .slice ca cn cc, .agg #[.int .i64 kd, .string nm, .slice na nn nc, .slice sa sn sc, .bool dn, .int .i64 ct, .int .i64 sk]] w (ColOut w A D k0) := by
  obtain ⟨b1, hb1⟩ : ∃ b, baseB T = b := ⟨_, rfl⟩
  obtain ⟨b2, hb2⟩ : ∃ b, namesB C 1 6 = b := ⟨_, rfl⟩
  obtain ⟨b3, hb3⟩ : ∃ b, sieveB ⟨kd, nm, N, S, dn, ct, sk⟩ = b := ⟨_, rfl⟩
  have CB : Hid (∀ w', Below w.heap.size w w' → Calls Tryz.prog 61 #[.slice ba bn bc] w' fun e w'' => e = .returned (.bool b1) ∧ Below w'.heap.size w' w'') := fun w' hw => baseok_impl ba bc T bn hbn w' (hT.below hw) hbM b1 hb1
  have CN : Hid (∀ w', Below w.heap.size w w' → Calls Tryz.prog 66 #[.slice ca cn cc] w' fun e w'' => e = .returned (.bool b2) ∧ Below w'.heap.size w' w'') := fun w' hw => columns_impl cn ca cc C hcn w' (hC.below hw) hcF hcM hcc b2 hb2
  have CS : Hid (∀ w', Below w.heap.size w w' → Calls Tryz.prog 67 #[.agg #[.int .i64 kd, .string nm, .slice na nn nc, .slice sa sn sc, .bool dn, .int .i64 ct, .int .i64 sk]] w' fun e w'' => e = .returned (.bool b3) ∧ Below w'.heap.size w' w'') := fun w' hw => sieve_impl kd nm na nn nc N hnn sa sn sc S hsn dn ct sk w' (hS.below hw).pow (hS.below hw).err (hV.below hw) hmild b3 hb3
  have CL : Hid (b1 = true → b2 = true → b3 = true → kd ≠ 1 → ∀ w', Below w.heap.size w w' → Calls Tryz.prog 64 #[.slice ba bn bc, .slice ca cn cc, .agg #[.int .i64 kd, .string nm, .slice na nn nc, .slice sa sn sc, .bool dn, .int .i64 ct, .int .i64 sk]] w' (ColOut w' A D k0)) := by
    have h : b1 = true → b2 = true → b3 = true → kd ≠ 1 → ∀ w', Below w.heap.size w w' → Calls Tryz.prog 64 #[.slice ba bn bc, .slice ca cn cc, .agg #[.int .i64 kd, .string nm, .slice na nn nc, .slice sa sn sc, .bool dn, .int .i64 ct, .int .i64 sk]] w' (ColOut w' A D k0) := by
      intro e1 e2 e3 e4 w' hw
      subst e1 e2 e3
      have hD2 := hD
      unfold stepShapeR at hD2
      rw [if_pos ⟨by rw [hb1, hb2, hb3]; rfl, e4⟩] at hD2
      exact stepped_impl ba bn bc T hbn hbM hsmT ca cn cc C hcn kd nm na nn nc N hnn sa sn sc S hsn dn ct sk w' (hT.below hw) (hC.below hw) hnil hcc (hV.below hw) (mild_fitI hmild) hb1 hb2 hb3 e4 A (hS.below hw) D k0 hD2
    exact h
  have BAD : Hid (¬ (b1 = true ∧ b2 = true ∧ b3 = true ∧ kd ≠ 1) → k0 = 5) := by
    have h : ¬ (b1 = true ∧ b2 = true ∧ b3 = true ∧ kd ≠ 1) → k0 = 5 := by
      intro hn
      have hD2 := hD
      unfold stepShapeR at hD2
      rw [if_neg (by
        rintro ⟨h1, h2⟩
        rw [hb1, hb2, hb3] at h1
        simp only [Bool.and_eq_true] at h1
        exact hn ⟨h1.1.1, h1.1.2, h1.2, h2⟩)] at hD2
      injection hD2 with e1 e2
      exact e2.symm
    exact h
  have HS : Hid (SenAt w A) := hS
  have hA : ∀ o, Below w.heap.size w (w.alloc o) := fun o => (Below.refl _ _).alloc (Nat.le_refl _) o
  clear hb1 hb2 hb3 hT hC hV hbn hcn hnn hsn hD hcF hnil hS hsmT hmild hcM hcc
  go_enter Tryz.func41, Tryz.ntmps41
  go_wp2_with fail
  refine (CB.out _ (hA _)).mono ?_
  rintro e w1 ⟨rfl, hb1⟩
  obtain ⟨p0, p1, p2, p3, p4, p5, p6, hsz⟩ := box7 hb1
  have hx1 := chainA hb1
  clear hb1
  cases b1
  · obtain rfl := BAD.out (by simp)
    have hv := (HS.out.below hx1).v5
    clear BAD
    go_wp2_with fail
    go_quiet (fail)
    go_wp2
    refine bodyPost_ret (v := .tuple #[.slice none 0 0, .iface 304 (.pointer (some A.e5))]) (by simp [results, Tryz.results41, go_sem]) rfl ?_
    exact ⟨_, _, _, _, rfl, errV_5, fun h => absurd h (by decide), belowN hx1 _⟩
  go_wp2_with fail
  refine (CN.out _ hx1).mono ?_
  rintro e w2 ⟨rfl, hb2⟩
  obtain ⟨q0, q1, q2, q3, q4, q5, q6, hsz2⟩ := later7 hb2 ⟨p0, p1, p2, p3, p4, p5, p6, hsz⟩
  have hx2 := chain hx1 hb2
  clear p0 p1 p2 p3 p4 p5 p6 hsz hb2
  cases b2
  · obtain rfl := BAD.out (by simp)
    have hv := (HS.out.below hx2).v5
    clear BAD
    go_wp2_with fail
    go_quiet (fail)
    go_wp2
    refine bodyPost_ret (v := .tuple #[.slice none 0 0, .iface 304 (.pointer (some A.e5))]) (by simp [results, Tryz.results41, go_sem]) rfl ?_
    exact ⟨_, _, _, _, rfl, errV_5, fun h => absurd h (by decide), belowN hx2 _⟩
  go_wp2_with fail
  refine (CS.out _ hx2).mono ?_
  rintro e w3 ⟨rfl, hb3⟩
  obtain ⟨r0, r1, r2, r3, r4, r5, r6, hsz3⟩ := later7 hb3 ⟨q0, q1, q2, q3, q4, q5, q6, hsz2⟩
  have hx3 := chain hx2 hb3
  clear q0 q1 q2 q3 q4 q5 q6 hsz2 hb3
  cases b3
  · obtain rfl := BAD.out (by simp)
    have hv := (HS.out.below hx3).v5
    clear BAD
    go_wp2_with fail
    go_quiet (fail)
    go_wp2
    refine bodyPost_ret (v := .tuple #[.slice none 0 0, .iface 304 (.pointer (some A.e5))]) (by simp [results, Tryz.results41, go_sem]) rfl ?_
    exact ⟨_, _, _, _, rfl, errV_5, fun h => absurd h (by decide), belowN hx3 _⟩
  by_cases hk1 : kd = 1
  · have hk : (kd == 1) = true := by simp [hk1]
    obtain rfl := BAD.out (by simp [hk1])
    have hv := (HS.out.below hx3).v5
    clear BAD hk1
    go_wp2_with fail
    go_quiet (fail)
    go_wp2
    refine bodyPost_ret (v := .tuple #[.slice none 0 0, .iface 304 (.pointer (some A.e5))]) (by simp [results, Tryz.results41, go_sem]) rfl ?_
    exact ⟨_, _, _, _, rfl, errV_5, fun h => absurd h (by decide), belowN hx3 _⟩
  have hk : (kd == 1) = false := by simp [hk1]
  have C : Hid (∀ w', Below w.heap.size w w' → Calls Tryz.prog 64 #[.slice ba bn bc, .slice ca cn cc, .agg #[.int .i64 kd, .string nm, .slice na nn nc, .slice sa sn sc, .bool dn, .int .i64 ct, .int .i64 sk]] w' (ColOut w' A D k0)) := CL.out (by simp) (by simp) (by simp) hk1
  clear hk1 BAD CL
  go_wp2_with fail
  refine (C.out _ hx3).mono ?_
  rintro e w4 ⟨a', n', c', v', rfl, hv, hkk, hb4⟩
  have fin : Hid (ColOut w A D k0 (.returned (.tuple #[.slice a' n' c', v'])) w4) := ⟨_, _, _, _, rfl, hv, hkk, chain hx3 hb4⟩
  clear hv hkk hb4
  go_wp2
  refine bodyPost_ret (v := .tuple #[.slice a' n' c', v']) (by simp [results, Tryz.results41, go_sem]) rfl ?_
  exact fin.out
set_option maxRecDepth 100000 in
set_option maxHeartbeats 4000000 in
theorem stepshape_impl (ba : Option Addr) (bn bc : Nat) (T : List TB) (hbn : T.length = bn) (hbM : bn ≤ 1048576) (hsmT : ∀ t, t ∈ T → Small t) (ca : Option Addr) (cn cc : Nat) (C : List ByteArray) (hcn : C.length = cn) (kd : Int) (nm : ByteArray) (na : Option Addr) (nn nc : Nat) (N : List ByteArray) (hnn : N.length = nn) (sa : Option Addr) (sn sc : Nat) (S : List TI) (hsn : S.length = sn) (dn : Bool) (ct sk : Int) (w : World) (hT : TabsAt w ba T) (hC : StrsAt w ca C) (hnil : ca = none → cc = 0) (hcc : cn ≤ cc) (hV : SivAt w na nc sa ⟨kd, nm, N, S, dn, ct, sk⟩) (hmild : MildV ⟨kd, nm, N, S, dn, ct, sk⟩) (hcF : FitS C) (hcM : cn ≤ maxLen) (A : Sen) (hS : SenAt w A) (D : List ByteArray) (k0 : Int) (hD : stepShapeR T C ⟨kd, nm, N, S, dn, ct, sk⟩ = (D, k0)) :
    Calls Tryz.prog 10 #[.slice ba bn bc, .slice ca cn cc, .agg #[.int .i64 kd, .string nm, .slice na nn nc, .slice sa sn sc, .bool dn, .int .i64 ct, .int .i64 sk]] w (ShpOut w D k0) := by
  have hA : Below w.heap.size w (w.alloc (.cells #[.int .i64 kd, .string nm, .slice na nn nc, .slice sa sn sc, .bool dn, .int .i64 ct, .int .i64 sk] 33)) := (Below.refl _ _).alloc (Nat.le_refl _) _
  have E : Hid (Calls Tryz.prog 41 #[.slice ba bn bc, .slice ca cn cc, .agg #[.int .i64 kd, .string nm, .slice na nn nc, .slice sa sn sc, .bool dn, .int .i64 ct, .int .i64 sk]] (w.alloc (.cells #[.int .i64 kd, .string nm, .slice na nn nc, .slice sa sn sc, .bool dn, .int .i64 ct, .int .i64 sk] 33)) (ColOut (w.alloc (.cells #[.int .i64 kd, .string nm, .slice na nn nc, .slice sa sn sc, .bool dn, .int .i64 ct, .int .i64 sk] 33)) A D k0)) := stepcolumns_impl ba bn bc T hbn hbM hsmT ca cn cc C hcn kd nm na nn nc N hnn sa sn sc S hsn dn ct sk _ (hT.below hA) (hC.below hA) hnil hcc (hV.below hA) hmild hcF hcM A (hS.below hA) D k0 hD
  have HS : Hid (SenAt w A) := hS
  have HZ : Hid (k0 ≠ 0 → D = []) := by
    have : k0 ≠ 0 → D = [] := fun hk => by
      unfold stepShapeR at hD
      split at hD
      · have := stepC_none T C ⟨kd, nm, N, S, dn, ct, sk⟩ (by rw [hD]; exact hk)
        rw [hD] at this
        exact this
      · exact (congrArg Prod.fst hD).symm
    exact this
  have HL : Hid (k0 = 0 → D.length ≤ 6) := by
    have : k0 = 0 → D.length ≤ 6 := fun hk => by
      subst hk
      unfold stepShapeR at hD
      split at hD
      · rename_i h
        simp only [Bool.and_eq_true] at h
        exact (cols_six (stepC_ok h.1.1.1 h.1.1.2 h.1.2 hD)).1
      · exact absurd (show (5 : Int) = 0 from congrArg Prod.snd hD) (by decide)
    exact this
  clear hT hC hV hbn hcn hnn hsn hD hcF hnil hS hsmT hmild hcM hcc
  go_enter Tryz.func10, Tryz.ntmps10
  go_wp2_with fail
  refine E.out.mono ?_
  rintro e w1 ⟨a', n', c', v', rfl, hv, hkk, hb1⟩
  have hx1 := chain hA hb1
  have HV : Hid (ErrV A k0 v') := hv
  have HKK : Hid (k0 = 0 → D.length = n' ∧ StrsAt w1 a' D ∧ (a' = none → c' = 0) ∧ n' ≤ c') := hkk
  clear hv hkk hb1 hA E
  go_wp2_with fail
  refine (shape_impl a' n' c' v' w1 A (HS.out.below hx1) D k0 HV.out HKK.out (fun h => by have := HL.out h; have := (HKK.out h).1; omega) HZ.out).mono ?_
  rintro e w2 ⟨g, n, c, hn, rfl, hnc, ho, hb2⟩
  have fin : Hid (ShpOut w D k0 (.returned (.tuple #[.slice (some ⟨g, 0, none⟩) n c, .int .i64 k0])) w2) := ⟨g, n, c, hn, rfl, hnc, own_lowS ho hx1.size, chain hx1 hb2⟩
  clear hn hnc ho hb2 HV HKK
  go_wp2
  go_ret2
  exact fin.out
end Go.Proofs.YtjiaciikbnpicaaGreatDoor
