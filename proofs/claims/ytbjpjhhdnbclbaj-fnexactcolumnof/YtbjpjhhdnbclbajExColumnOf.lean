/-
  Proved: at every list of texts and every name the program's ColumnOf answers as its model does; it writes into no argument; the law's arguments read afterwards as before; no condition.
-/
import Derived.Test.YtbjpjhhdnbclbajTabI1
import Derived.Test.YtbjpjhhdnbclbajOpen2
import Derived.Lib.SmallJoins
namespace Go.Proofs.Ytbjpjhhdnbclbaj
open Go.ChangeShapes Go.WideShapes Go.ChangeAt Go.RowKit Go.Joins
attribute [local go_sem ↓] Go.wp_at_zero Go.wp_at_succ
attribute [local simp] World.cell?_alloc_past World.cell?_alloc_at World.frozen?_alloc_at cell_far cell_off cell_here World.frozen?_alloc_past

theorem columnof_impl (n : Nat) (a : Option Addr) (cap : Nat) (l : List ByteArray) (hn : l.length = n) (s : ByteArray) (w : World) (hrow : StrsAt w a l) (hm : n ≤ maxLen) :
    Calls Try.prog 22 #[.slice a n cap, .string s] w fun e w' => ∃ r, e = .returned (.int .i64 r) ∧ AtIs l s r ∧ Below w.heap.size w w' := by
  have HI : Hid (Calls Try.prog 47 #[.slice a n cap, .string s] w fun e w' => ∃ r, e = .returned (.int .i64 r) ∧ AtIs l s r ∧ Below w.heap.size w w') := index_str n a cap l hn s w hrow hm
  have HN : Hid (l.length = n) := hn
  clear hrow hn
  unfold maxLen at hm
  go_enter Try.func22, Try.ntmps22
  go_wp2_with fail
  refine HI.out.mono ?_
  rintro e w1 ⟨r, rfl, hat, hb1⟩
  obtain ⟨h1, h2⟩ := hat.lt
  rw [HN.out] at h2
  have HA : Hid (AtIs l s r) := hat
  clear hat
  go_wp2
  go_ret
  exact ⟨_, rfl, HA.out, hb1⟩
theorem columnof_spec (n : Nat) (a : Option Addr) (cap : Nat) (l : List ByteArray) (hn : l.length = n) (s : ByteArray) (w : World) (hrow : StrsAt w a l) (hm : n ≤ maxLen) :
    Calls Try.prog 20 #[.slice a n cap, .string s] w fun e w' => ∃ r, e = .returned (.int .i64 r) ∧ AtIs l s r ∧ Below w.heap.size w w' := by
  have HI : Hid (Calls Try.prog 46 #[.slice a n cap, .string s] w fun e w' => ∃ r, e = .returned (.int .i64 r) ∧ AtIs l s r ∧ Below w.heap.size w w') := at_specN n a cap l hn s w hrow hm
  clear hrow hn
  go_enter Try.func20, Try.ntmps20
  go_wp2_with fail
  refine HI.out.mono ?_
  rintro e w1 ⟨r, rfl, hat, hb1⟩
  have HA : Hid (AtIs l s r) := hat
  clear hat
  go_wp2
  go_ret
  exact ⟨_, rfl, HA.out, hb1⟩

namespace exColumnOf

theorem own : ownKnob Try.prog.godebug = none := by kernel_rfl
theorem laidOut : laidOutB Try.prog = true := by kernel_rfl

set_option maxRecDepth 100000 in
set_option maxHeartbeats 4000000 in
theorem walk (a : Option Addr) (cap : Nat) (l : List ByteArray) (n : Nat) (hn : l.length = n) (s : ByteArray) (w : World) (hR : StrsAt w a l) (hF : FitS l) (hm : n ≤ maxLen) :
    Calls Try.prog 5 #[.slice a n cap, .string s] w fun e w' => e = .returned (.bool true) ∧ Below w.heap.size w w' := by
  subst hn
  have S1 : Hid (Calls Try.prog 19 #[.slice a l.length cap, .int .i64 1048576] w fun e w'' => e = .returned (.int .i64 (leftOfS l 1048576)) ∧ Below w.heap.size w w'') := szstr_laws a cap l 1048576 w hR hF hm (by omega) (by omega)
  have RA : Hid (StrsAt w a l) := hR
  clear hR hF
  obtain ⟨x, hx1⟩ : ∃ x, leftOfS l 1048576 = x := ⟨_, rfl⟩
  by_cases hs2 : (1048576 : Int) < (s.size : Int)
  · go_enter Try.func5, Try.ntmps5
    go_wp2
    go_ret
    exact ⟨rfl, Below.refl _ _⟩
  by_cases hx0 : x < 0
  · go_enter Try.func5, Try.ntmps5
    go_wp2_with fail
    refine S1.out.mono ?_
    rw [hx1]
    rintro e w1 ⟨rfl, hb1⟩
    go_wp2
    go_ret
    exact ⟨rfl, hb1⟩
  have hx0' : 0 ≤ x := by omega
  have hlL : l.length ≤ 1048576 := by
    unfold leftOfS at hx1
    split at hx1 <;> omega
  have Z : Hid (∀ w', Below w.heap.size w w' → Calls Try.prog 21 #[.slice a l.length cap] w' fun e w'' => e = .returned (.slice (some ⟨w'.heap.size, 0, none⟩) l.length l.length) ∧ StrsAt w'' (some ⟨w'.heap.size, 0, none⟩) l ∧ Below w'.heap.size w' w'') := by
    have : ∀ w', Below w.heap.size w w' → Calls Try.prog 21 #[.slice a l.length cap] w' fun e w'' => e = .returned (.slice (some ⟨w'.heap.size, 0, none⟩) l.length l.length) ∧ StrsAt w'' (some ⟨w'.heap.size, 0, none⟩) l ∧ Below w'.heap.size w' w'' := by
      intro w' hw
      refine (tostr_laws a cap l w' (RA.out.below hw) hlL).mono ?_
      rintro e w'' ⟨rfl, ho, hb⟩
      exact ⟨rfl, own_strs ho, hb⟩
    exact this
  obtain ⟨m, hm'⟩ : ∃ m, l.length = m := ⟨_, rfl⟩
  have HM : Hid (l.length = m) := hm'
  rw [hm'] at hm S1 Z ⊢
  clear hm' hlL
  go_enter Try.func5, Try.ntmps5
  go_wp2_with fail
  refine S1.out.mono ?_
  rw [hx1]
  rintro e w1 ⟨rfl, hx⟩
  go_wp2_with fail
  refine (Z.out _ hx).mono ?_
  rintro e w2 ⟨rfl, T1, hb2⟩
  replace hx := chain hx hb2
  clear hb2
  go_wp2_with fail
  refine (columnof_spec m _ _ l HM.out s _ T1 hm).mono ?_
  rintro e w3 ⟨r, rfl, hat, hb3⟩
  have HA : Hid (AtIs l s r) := hat
  replace hx := chain hx hb3
  clear hb3 T1 hat
  go_wp2_with fail
  refine (Z.out _ hx).mono ?_
  rintro e w4 ⟨rfl, T2, hb4⟩
  replace hx := chain hx hb4
  clear hb4
  go_wp2_with fail
  refine (columnof_impl m _ _ l HM.out s _ T2 hm).mono ?_
  rintro e w5 ⟨r', rfl, hat, hb5⟩
  obtain rfl : r = r' := HA.out.one hat
  have T5 : Hid (StrsAt w5 _ l) := T2.below hb5
  replace hx := chain hx hb5
  clear hb5 T2 hat
  have hrr : (r == r) = true := by simp
  go_wp2_with fail
  refine (Z.out _ hx).mono ?_
  rintro e w6 ⟨rfl, T3, hb6⟩
  replace hx := chain hx hb6
  have T6 : Hid (StrsAt w6 _ l) := T5.out.below hb6
  clear hb6 T5
  have Q : Hid (Calls Try.prog 23 #[.slice (some ⟨w3.heap.size, 0, none⟩) m m, .slice (some ⟨w5.heap.size, 0, none⟩) m m] w6 fun e w' => e = .returned (.bool true) ∧ Below w6.heap.size w6 w') := by
    have := eqstr_laws (some ⟨w3.heap.size, 0, none⟩) (some ⟨w5.heap.size, 0, none⟩) m m l w6 T6.out T3 (by rw [HM.out]; exact hm)
    rw [HM.out] at this
    exact this
  go_wp2_with fail
  refine Q.out.mono ?_
  rintro e w7 ⟨rfl, hb7⟩
  replace hx := chain hx hb7
  clear hb7 T3
  go_wp2
  go_ret
  exact ⟨rfl, hx⟩

set_option maxRecDepth 100000 in
theorem lifted (os : Os) (started : os.Started) (H : Type) (enc : TypeId × Value → H) :
    ReturnsInHanded {} Try.checked os 5 .any (Rows.fnExactColumnOfSpec.pre6 enc Try.prog Try.f5 Rows.fnExactColumnOfRow.domain false) (Rows.fnExactColumnOfSpec.post enc Try.prog Try.f5 false true false false) := by
  refine returnsInHanded_of_change (C := Try.checked) own started (by kernel_rfl) Try.func5
    (ChangeSpec.witness6 (enc := enc) (C := Try.checked) false ⟨#[], #[.slice none 0 0, .string ⟨#[]⟩], []⟩ 8 (by kernel_rfl) (by kernel_rfl) (by kernel_rfl) (by kernel_rfl)) ?_
  intro W base args ds gs before hval0 hW hcnd _
  have hval : ∀ (j : Nat) t v, Try.f5.params[j]? = some t → args[j]? = some v → Value.okWide Try.prog W .any base t v := hval0
  have hW' := hW
  obtain ⟨p, q, hA0, hV, rfl, hfz, hnd⟩ := hW
  have hA : DataW.TrodAll enc Try.prog W 0 (fun _ => true) true Try.f5.params.toList args.toList ds p := hA0
  rw [Try.params5] at hA hval
  obtain ⟨v0, v1, d0, d1, p0, p1, rfl, rfl, rfl, h0, h1⟩ := trodAll_two hA
  obtain ⟨rfl, rfl⟩ := trodVars_none hV
  have k0 := h0
  have lt0 : ∀ x ∈ p0, x.block < W.heap.size := by obtain ⟨m, hm⟩ := k0; exact DataW.trod_lt m _ _ _ hm
  obtain ⟨a0, n0, c0, rfl⟩ := okWide_slice Try.underlying30 (hval 0 30 v0 rfl rfl)
  obtain ⟨m0, hm0⟩ := h0
  obtain ⟨l0, hl0, hS0, hF0, hM0, hC0, hN0⟩ := open_strs Try.underlying30 Try.underlying9 (by kernel_rfl) hm0
  have k1 := h1
  have lt1 : ∀ x ∈ p1, x.block < W.heap.size := by obtain ⟨m, hm⟩ := k1; exact DataW.trod_lt m _ _ _ hm
  obtain ⟨s1, rfl, _, _, hs1⟩ := Go.ChangeMaps.open_string Try.underlying9 (hval 1 9 v1 rfl rfl) h1
  clear hA0 hval0
  refine (walk a0 c0 l0 n0 hl0 s1 W hS0 hF0 hM0).mono fun e W' ⟨he, bel⟩ => ?_
  subst he
  exact ⟨_, rfl, _, _, _, [], _, [], hW', trodAll_mk1 (shut_bool Try.underlying4 _), trodAll_mk2 (Below.trod laidOut (by kernel_rfl) (of_decide_eq_true (by kernel_rfl)) k0 bel lt0) (Below.trod laidOut (by kernel_rfl) (of_decide_eq_true (by kernel_rfl)) k1 bel lt1), rfl, bel.frame _, fun h => by cases h⟩

theorem over : Rows.fnExactColumnOfRow.holds Try.pinned (OpenSpec.ofChange Rows.fnExactColumnOfSpec) :=
  OpenClaim.holds_of_wide 5 Try.f5 rfl rfl rfl rfl rfl rfl rfl ⟨rfl, rfl, rfl, rfl, rfl⟩ rfl rfl rfl rfl rfl (by kernel_rfl) Try.func5 (by kernel_rfl)
    (of_decide_eq_true (by kernel_rfl)) (by unfold Func.isWrapper; first | (rw [if_pos (by decide +kernel)]; kernel_rfl) | (rw [if_neg (by decide +kernel)]; exact ⟨rfl, rfl⟩))
    (fun os started H enc _ => lifted os started H enc)

end exColumnOf

theorem fnExactColumnOf_holds : Rows.FnExactColumnOfSaid := exColumnOf.over

end Go.Proofs.Ytbjpjhhdnbclbaj
