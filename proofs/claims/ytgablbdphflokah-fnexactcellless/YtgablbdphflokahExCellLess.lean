/-
  Proved: at every two cells the program's CellLess answers as its model does, and the law's arguments read afterwards as before; no condition.
-/
import Derived.Test.YtgablbdphflokahCmp2
import Derived.Lib.SmallJoins
namespace Go.Proofs.Ytgablbdphflokah
open Go.ChangeShapes Go.WideShapes Go.ChangeAt Go.RowKit Go.Joins
attribute [local go_sem ↓] Go.wp_at_zero Go.wp_at_succ
attribute [local simp] World.cell?_alloc_past World.cell?_alloc_at World.frozen?_alloc_at cell_far cell_off cell_here World.frozen?_alloc_past

namespace exCellLess

theorem own : ownKnob Try.prog.godebug = none := by kernel_rfl

set_option maxHeartbeats 2000000 in
theorem walk (k1 n1 : Int) (t1 : ByteArray) (k2 n2 : Int) (t2 : ByteArray) (w : World) (ht1 : t1.size ≤ maxLen) (ht2 : t2.size ≤ maxLen) :
    Calls Try.prog 8 #[.agg #[.int .i64 k1, .int .i64 n1, .string t1], .agg #[.int .i64 k2, .int .i64 n2, .string t2]] w fun e w' => e = .returned (.bool true) ∧ Below w.heap.size w w' := by
  by_cases hl1 : (1048576 : Int) < (t1.size : Int)
  · go_enter Try.func8, Try.ntmps8
    go_wp2_with fail
    refine (sz_laws _ _ _ _ _ ht1 (by omega) (by omega)).mono ?_
    rw [if_pos (by omega)]
    rintro e w1 ⟨rfl, hb1⟩
    go_wp2
    go_ret
    exact ⟨rfl, chainAA hb1⟩
  have hl0 : (0 : Int) ≤ 1048576 - (t1.size : Int) := by omega
  by_cases hl2 : (1048576 : Int) - (t1.size : Int) < (t2.size : Int)
  · go_enter Try.func8, Try.ntmps8
    go_wp2_with fail
    refine (sz_laws _ _ _ _ _ ht1 (by omega) (by omega)).mono ?_
    rw [if_neg (by omega)]
    rintro e w1 ⟨rfl, hb1⟩
    obtain ⟨⟨a1, b1, c1, d1⟩, ⟨x1, y1, z1, s1⟩, ff⟩ := two3 hb1
    go_wp2_with fail
    refine (sz_laws _ _ _ _ _ ht2 (by omega) (by omega)).mono ?_
    rw [if_pos (by omega)]
    rintro e w2 ⟨rfl, hb2⟩
    go_wp2
    go_ret
    exact ⟨rfl, chain (chainAA hb1) hb2⟩
  have hl3 : (0 : Int) ≤ 1048576 - (t1.size : Int) - (t2.size : Int) := by omega
  have SP : Hid (∀ w, Calls Try.prog 22 #[.agg #[.int .i64 k1, .int .i64 n1, .string t1], .agg #[.int .i64 k2, .int .i64 n2, .string t2]] w fun e w' => e = .returned (.bool (lessB k1 n1 t1 k2 n2 t2)) ∧ Below w.heap.size w w') := fun w => cless_spec k1 n1 t1 k2 n2 t2 w
  have IM : Hid (∀ w, Calls Try.prog 23 #[.agg #[.int .i64 k1, .int .i64 n1, .string t1], .agg #[.int .i64 k2, .int .i64 n2, .string t2]] w fun e w' => e = .returned (.bool (lessB k1 n1 t1 k2 n2 t2)) ∧ Below w.heap.size w w') := fun w => cless_impl k1 n1 t1 k2 n2 t2 w
  generalize lessB k1 n1 t1 k2 n2 t2 = R at SP IM
  have lm : ∀ a b : Nat, a < b → a < b + 1 := fun a b h => by omega
  go_enter Try.func8, Try.ntmps8
  go_wp2_with fail
  refine (sz_laws _ _ _ _ _ ht1 (by omega) (by omega)).mono ?_
  rw [if_neg (by omega)]
  rintro e w1 ⟨rfl, hb1⟩
  obtain ⟨⟨a1, b1, c1, d1⟩, ⟨x1, y1, z1, s1⟩, ff⟩ := two3 hb1
  go_wp2_with fail
  refine (sz_laws _ _ _ _ _ ht2 (by omega) (by omega)).mono ?_
  rw [if_neg (by omega)]
  rintro e w2 ⟨rfl, hb2⟩
  obtain ⟨a2, b2, c2, d2⟩ := later3 hb2 ⟨a1, b1, c1, d1⟩
  obtain ⟨x2, y2, z2, s2⟩ := later3 hb2 ⟨x1, y1, z1, s1⟩
  have hx2 := chain (chainAA hb1) hb2
  clear hb1 hb2 a1 b1 c1 d1 x1 y1 z1 s1 ff
  go_wp2_with fail
  go_cut [6] (fun s6 wc => s6 = .bool R ∧ w2.heap.size ≤ wc.heap.size ∧ Below w2.heap.size w2 wc)
  case first =>
    go_region_held3 (fun w' => w'.cell? ⟨w.heap.size, 0, none⟩ = some (.int .i64 k1) ∧ w'.cell? ⟨w.heap.size, 1, none⟩ = some (.int .i64 n1) ∧ w'.cell? ⟨w.heap.size, 2, none⟩ = some (.string t1) ∧
        w'.cell? ⟨w.heap.size + 1, 0, none⟩ = some (.int .i64 k2) ∧ w'.cell? ⟨w.heap.size + 1, 1, none⟩ = some (.int .i64 n2) ∧ w'.cell? ⟨w.heap.size + 1, 2, none⟩ = some (.string t2))
      (((try dsimp only); (repeat' apply And.intro) <;> first | (go_keep; done) | (simp (disch := first | omega | (simp <;> omega) | fail) [*]; done) | fail))
      (first
        | (go_at_call_of 11 (Value.string t1); refine (to_laws _ _ _ _).mono ?_; rintro e w3 ⟨rfl, hb3⟩; obtain ⟨hc3, hf3⟩ := bcell hb3; have hz3 := hb3.size; (try simp at hz3); (try have y30 : w.heap.size < w3.heap.size := by omega); (try have y31 : w.heap.size + 1 < w3.heap.size := by omega); (try have y32 : w2.heap.size < w3.heap.size := by omega))
        | (go_at_call_of 11 (Value.string t2); refine (to_laws _ _ _ _).mono ?_; rintro e w4 ⟨rfl, hb4⟩; obtain ⟨hc4, hf4⟩ := bcell hb4; have hz4 := hb4.size; (try simp at hz4); (try have y40 : w.heap.size < w4.heap.size := by omega); (try have y41 : w.heap.size + 1 < w4.heap.size := by omega); (try have y42 : w2.heap.size < w4.heap.size := by omega); (try have y43 : w3.heap.size < w4.heap.size := by omega))
        | (go_at_call 22; refine (SP.out _).mono ?_; rintro e w5 ⟨rfl, hb5⟩; obtain ⟨hc5, hf5⟩ := bcell hb5; have hz5 := hb5.size; (try simp at hz5); (try have y50 : w.heap.size < w5.heap.size := by omega); (try have y51 : w.heap.size + 1 < w5.heap.size := by omega); (try have y52 : w2.heap.size < w5.heap.size := by omega); (try have y53 : w3.heap.size < w5.heap.size := by omega); (try have y54 : w4.heap.size < w5.heap.size := by omega)))
    all_goals
      go_wp2_with fail
      go_meet
      case rel =>
        refine ⟨rfl, ?_, ?_⟩
        all_goals first
          | (simp (disch := first | omega | (simp <;> omega) | (simp (disch := first | omega | (simp <;> omega) | fail) [*]; done) | fail) [*]; done)
          | (simp <;> omega)
          | omega
          | (repeat' (first | (with_reducible exact Below.refl _ _) | (with_reducible refine Below.alloc ?_ ?_ _) | (with_reducible refine Below.drew ?_) | (with_reducible refine Below.setCell ?_ ?_ _) | (with_reducible refine chain ?_ hb5) | (with_reducible refine chain ?_ hb4) | (with_reducible refine chain ?_ hb3) | (simp <;> omega) | omega)
             done)
  case rest =>
    obtain ⟨rfl, _, hbc⟩ := hcut
    obtain ⟨a3, b3, c3, d3⟩ := later3 hbc ⟨a2, b2, c2, d2⟩
    obtain ⟨x3, y3, z3, s3⟩ := later3 hbc ⟨x2, y2, z2, s2⟩
    have hxc := chain hx2 hbc
    clear hbc a2 b2 c2 d2 x2 y2 z2 s2 hx2
    go_wp2_with fail
    go_cut [7] (fun s7 wd => s7 = .bool R ∧ wc.heap.size ≤ wd.heap.size ∧ Below wc.heap.size wc wd)
    case first =>
      go_region_held3 (fun w' => w'.cell? ⟨w.heap.size, 0, none⟩ = some (.int .i64 k1) ∧ w'.cell? ⟨w.heap.size, 1, none⟩ = some (.int .i64 n1) ∧ w'.cell? ⟨w.heap.size, 2, none⟩ = some (.string t1) ∧
          w'.cell? ⟨w.heap.size + 1, 0, none⟩ = some (.int .i64 k2) ∧ w'.cell? ⟨w.heap.size + 1, 1, none⟩ = some (.int .i64 n2) ∧ w'.cell? ⟨w.heap.size + 1, 2, none⟩ = some (.string t2))
        (((try dsimp only); (repeat' apply And.intro) <;> first | (go_keep; done) | (simp (disch := first | omega | (simp <;> omega) | fail) [*]; done) | fail))
        (first
          | (go_at_call_of 11 (Value.string t1); refine (to_laws _ _ _ _).mono ?_; rintro e w3 ⟨rfl, hb3⟩; obtain ⟨hc3, hf3⟩ := bcell hb3; have hz3 := hb3.size; (try simp at hz3); (try have y30 : w.heap.size < w3.heap.size := by omega); (try have y31 : w.heap.size + 1 < w3.heap.size := by omega); (try have y32 : wc.heap.size < w3.heap.size := by omega))
          | (go_at_call_of 11 (Value.string t2); refine (to_laws _ _ _ _).mono ?_; rintro e w4 ⟨rfl, hb4⟩; obtain ⟨hc4, hf4⟩ := bcell hb4; have hz4 := hb4.size; (try simp at hz4); (try have y40 : w.heap.size < w4.heap.size := by omega); (try have y41 : w.heap.size + 1 < w4.heap.size := by omega); (try have y42 : wc.heap.size < w4.heap.size := by omega); (try have y43 : w3.heap.size < w4.heap.size := by omega))
          | (go_at_call 23; refine (IM.out _).mono ?_; rintro e w5 ⟨rfl, hb5⟩; obtain ⟨hc5, hf5⟩ := bcell hb5; have hz5 := hb5.size; (try simp at hz5); (try have y50 : w.heap.size < w5.heap.size := by omega); (try have y51 : w.heap.size + 1 < w5.heap.size := by omega); (try have y52 : wc.heap.size < w5.heap.size := by omega); (try have y53 : w3.heap.size < w5.heap.size := by omega); (try have y54 : w4.heap.size < w5.heap.size := by omega)))
      all_goals
        go_wp2_with fail
        go_meet
        case rel =>
          refine ⟨rfl, ?_, ?_⟩
          all_goals first
            | (simp (disch := first | omega | (simp <;> omega) | (simp (disch := first | omega | (simp <;> omega) | fail) [*]; done) | fail) [*]; done)
            | (simp <;> omega)
            | omega
            | (repeat' (first | (with_reducible exact Below.refl _ _) | (with_reducible refine Below.alloc ?_ ?_ _) | (with_reducible refine Below.drew ?_) | (with_reducible refine Below.setCell ?_ ?_ _) | (with_reducible refine chain ?_ hb5) | (with_reducible refine chain ?_ hb4) | (with_reducible refine chain ?_ hb3) | (simp <;> omega) | omega)
               done)
    case rest =>
      obtain ⟨rfl, _, hbd⟩ := hcut
      go_wp2
      go_ret
      exact ⟨rfl, chain hxc hbd⟩

theorem cells3 : Try.prog.cellsOf 23 = 3 := by kernel_rfl

set_option maxRecDepth 100000 in
theorem lifted (os : Os) (started : os.Started) (H : Type) (enc : TypeId × Value → H) :
    ReturnsInHanded {} Try.checked os 8 .any (Rows.fnExactCellLessSpec.pre6 enc Try.prog Try.f8 Rows.fnExactCellLessRow.domain false) (Rows.fnExactCellLessSpec.post enc Try.prog Try.f8 false true false false) := by
  refine returnsInHanded_of_change (C := Try.checked) own started (by kernel_rfl) Try.func8
    (ChangeSpec.witness6 (enc := enc) (C := Try.checked) false ⟨#[], #[.agg #[.int .i64 0, .int .i64 0, .string ⟨#[]⟩], .agg #[.int .i64 0, .int .i64 0, .string ⟨#[]⟩]], []⟩ 8 (by kernel_rfl) (by kernel_rfl) (by kernel_rfl) (by kernel_rfl)) ?_
  intro W base args ds gs before hval0 hW hcnd _
  have hval : ∀ (j : Nat) t v, Try.f8.params[j]? = some t → args[j]? = some v → Value.okWide Try.prog W .any base t v := hval0
  have hW' := hW
  obtain ⟨p, q, hA0, hV, rfl, hfz, hnd⟩ := hW
  have hA : DataW.TrodAll enc Try.prog W 0 (fun _ => true) true Try.f8.params.toList args.toList ds p := hA0
  rw [Try.params8] at hA hval
  obtain ⟨v0, v1, d0, d1, p0, p1, rfl, rfl, rfl, h0, h1⟩ := trodAll_two hA
  obtain ⟨rfl, rfl⟩ := trodVars_none hV
  obtain ⟨e0, e1, e2, y0, y1, y2, m, rfl, rfl, rfl, hy0, hy1, hy2⟩ := open_agg3 Try.underlying23 (by kernel_rfl) cells3 (hval 0 23 v0 rfl rfl) h0
  obtain ⟨k1, ek, rfl, wk1⟩ := DataW.trod_int Try.underlying2 hy0
  obtain ⟨n1, en, rfl, wn1⟩ := DataW.trod_int Try.underlying2 hy1
  obtain ⟨t1, et, rfl, ht1⟩ := DataW.trod_string Try.underlying9 hy2
  simp at ek en et
  subst ek en et
  obtain ⟨e0, e1, e2, y0, y1, y2, m, rfl, rfl, rfl, hy0, hy1, hy2⟩ := open_agg3 Try.underlying23 (by kernel_rfl) cells3 (hval 1 23 v1 rfl rfl) h1
  obtain ⟨k2, ek, rfl, wk2⟩ := DataW.trod_int Try.underlying2 hy0
  obtain ⟨n2, en, rfl, wn2⟩ := DataW.trod_int Try.underlying2 hy1
  obtain ⟨t2, et, rfl, ht2⟩ := DataW.trod_string Try.underlying9 hy2
  simp at ek en et
  subst ek en et
  clear hA0 hval0
  refine (walk k1 n1 t1 k2 n2 t2 W ht1 ht2).mono fun e W' ⟨he, bel⟩ => ?_
  subst he
  have structReads : ∀ (k n : Int) (t : ByteArray) (W' : World) (sp : Nat → Bool), (Lit.int .i64 k).wf = true → (Lit.int .i64 n).wf = true → t.size ≤ maxLen → DataW.Trod enc Try.prog W' 0 sp true 23 (.agg #[.int .i64 k, .int .i64 n, .string t]) (.agg [.lit (.int .i64 k), .lit (.int .i64 n), .lit (.string t.data.toList)]) [] := fun k n t W' sp wk wn ht =>
    shut_agg3 (y0 := (.lit (.int .i64 k), [])) (y1 := (.lit (.int .i64 n), [])) (y2 := (.lit (.string t.data.toList), [])) Try.underlying23 (by kernel_rfl) cells3 ⟨1, by simp [DataW.trod, Try.underlying2, wk]⟩ ⟨1, by simp [DataW.trod, Try.underlying2, wn]⟩ ⟨1, by simp [DataW.trod, Try.underlying9, ht]⟩
  exact ⟨_, rfl, _, _, _, [], [], [], hW', trodAll_mk1 (shut_bool Try.underlying4 _), trodAll_mk2 (structReads k1 n1 t1 _ _ wk1 wn1 ht1) (structReads k2 n2 t2 _ _ wk2 wn2 ht2), rfl, bel.frame _, fun h => by cases h⟩

theorem over : Rows.fnExactCellLessRow.holds Try.pinned (OpenSpec.ofChange Rows.fnExactCellLessSpec) :=
  OpenClaim.holds_of_wide 8 Try.f8 rfl rfl rfl rfl rfl rfl rfl ⟨rfl, rfl, rfl, rfl, rfl⟩ rfl rfl rfl rfl rfl (by kernel_rfl) Try.func8 (by kernel_rfl)
    (of_decide_eq_true (by kernel_rfl)) (by unfold Func.isWrapper; first | (rw [if_pos (by decide +kernel)]; kernel_rfl) | (rw [if_neg (by decide +kernel)]; exact ⟨rfl, rfl⟩))
    (fun os started H enc _ => lifted os started H enc)

end exCellLess

theorem fnExactCellLess_holds : Rows.FnExactCellLessSaid := exCellLess.over

end Go.Proofs.Ytgablbdphflokah
