/-
  Proved: at every text the program's TokensOf answers as its model does, and its answer is new memory, behind another call too, and the law's argument reads afterwards as before; the listed variables of the library (the table of powers of ten, two tables of bits, two errors) start as the program's text lays them, to which the card ties them; no other condition.
-/
import Derived.Test.YtgiknjlifocioaaDoorTokensI
import Derived.Test.YtgiknjlifocioaaDoorTokensS
import Derived.Test.YtgiknjlifocioaaDoorTok2
import Derived.Test.YtgiknjlifocioaaDoorLaid
import Derived.Test.YtgiknjlifocioaaDoorTie
import Derived.Test.YtgiknjlifocioaaDoorCards
import Derived.Lib.SmallJoins
import Derived.SevenTiedAt
namespace Go.Proofs.YtgiknjlifocioaaDoor
open Go.ChangeShapes Go.WideShapes Go.ChangeAt Go.RowKit Go.Joins

theorem own_belowB {w w' : World} {base B g c n sz : Nat} {e : TypeId} {xs : List Value} (h : w.ownsRow base e sz (.slice (some ⟨g, 0, none⟩) n c) n xs) (hg : g < B) (hb : Below B w w') : w'.ownsRow base e sz (.slice (some ⟨g, 0, none⟩) n c) n xs := by
  refine ⟨h.1, ?_⟩
  rcases h.2 with h' | ⟨g', cap, cur, h', hbg, hgg, hr⟩
  · exact .inl h'
  · refine .inr ⟨g', cap, cur, h', hbg, ?_, hr⟩
    simp only [Value.slice.injEq, Option.some.injEq, Addr.mk.injEq, and_true, true_and] at h'
    obtain ⟨rfl, rfl⟩ := h'
    rw [hb.block g hg]; exact hgg
theorem own_lt {w : World} {base g c n sz : Nat} {e : TypeId} {xs : List Value} (h : w.ownsRow base e sz (.slice (some ⟨g, 0, none⟩) n c) n xs) : base ≤ g ∧ g < w.heap.size := h.lt g rfl
theorem ownTok_free {w : World} {base g c : Nat} {l : List TT} (h : w.ownsRow base 31 5 (.slice (some ⟨g, 0, none⟩) l.length c) l.length (flatTok l)) : FreeTok w (some ⟨g, 0, none⟩) l.length := by
  intro b o e j _
  simp only [Option.some.injEq, Addr.mk.injEq, and_true] at e
  obtain ⟨rfl, rfl⟩ := e
  rw [Nat.zero_add]; exact h.frozenAt j
theorem AnsTok.form {w : World} {B : Nat} {v : Value} {l : List TT} (h : AnsTok w B v l) : ∃ g c, v = .slice (some ⟨g, 0, none⟩) l.length c := by
  rcases h.1.2 with ⟨h', _⟩ | ⟨g, c, cur, h', _⟩
  · exact absurd h' h.2
  · exact ⟨g, c, h'⟩
namespace exTokensOf

theorem own : ownKnob Tryd.prog.godebug = none := by kernel_rfl

theorem eqsN (n : Nat) (a b : Option Addr) (ca cb : Nat) (l : List TT) (hn : l.length = n) (w : World) (ha : TokAt w a l) (hb : TokAt w b l) (hm : n ≤ maxLen) :
    Calls Tryd.prog 6 #[.slice a n ca, .slice b n cb] w fun e w' => e = .returned (.bool true) ∧ Below w.heap.size w w' := by
  subst hn; exact eqsTok a b ca cb l w ha hb hm
theorem markN (n : Nat) (a : Option Addr) (cap : Nat) (l : List TT) (hn : l.length = n) (r : Nat) (hr : 1 + 5 * n = r) (w : World) (hrow : TokAt w a l) (hfree : FreeTok w a l.length) (h1 : r ≤ 1099511627776) :
    Calls Tryd.prog 7 #[.slice a n cap, .int .i64 1] w fun e w' => e = .returned (.int .i64 (r : Int)) ∧ TokAt w' a (marksTok 1 n) ∧ KeepS (inBlk a n) w w' := by
  subst hn hr
  refine (markTok_laws a cap l 1 w hrow hfree (by omega) h1).mono ?_
  rintro e w' ⟨rfl, h1, _, h3⟩
  exact ⟨rfl, h1, h3⟩
theorem heldN (n : Nat) (a : Option Addr) (cap : Nat) (r : Nat) (hr : 1 + 5 * n = r) (w : World) (hrow : TokAt w a (marksTok 1 n)) (h1 : r ≤ 1099511627776) :
    Calls Tryd.prog 8 #[.slice a n cap, .int .i64 1] w fun e w' => e = .returned (.int .i64 (r : Int)) ∧ Below w.heap.size w w' := by
  subst hr; exact heldTok_laws a cap n 1 w hrow (by omega) h1

set_option maxRecDepth 100000 in
set_option maxHeartbeats 4000000 in
theorem walk (s : ByteArray) (w : World) (hp : PowAt w) (he : ErrAt w) :
    Calls Tryd.prog 3 #[.string s] w fun e w' => e = .returned (.bool true) ∧ Below w.heap.size w w' := by
  have HP : Hid (PowAt w) := hp
  have HE : Hid (ErrAt w) := he
  clear hp he
  by_cases hl : (1048576 : Int) < (s.size : Int)
  · go_enter Tryd.func3, Tryd.ntmps3
    go_wp2
    go_ret
    exact ⟨rfl, Below.refl _ _⟩
  have hs2 : s.size ≤ 1048576 := by omega
  obtain ⟨l, b, hR⟩ : ∃ l b, toksR s = (l, b) := ⟨_, _, rfl⟩
  have HR : Hid (toksR s = (l, b)) := hR
  have hln := toksR_len s l b hR
  obtain ⟨n, hn⟩ : ∃ n, l.length = n := ⟨_, rfl⟩
  obtain ⟨r, hr⟩ : ∃ r, 1 + 5 * n = r := ⟨_, rfl⟩
  have HN : Hid (l.length = n) := hn
  have HRR : Hid (1 + 5 * n = r) := hr
  have hnM : n ≤ maxLen := by unfold maxLen; omega
  have hr1 : r ≤ 1099511627776 := by omega
  have hr0 : ¬ ((r : Int) < 0) := by omega
  have hbn : ∀ (x : Bool) (wz : World), (binOp .neq 4 (.bool x) (.bool x)).run Tryd.prog wz = .ok (.bool false) wz := fun x wz => by cases x <;> kernel_rfl
  clear hR hn hr hln
  go_enter Tryd.func3, Tryd.ntmps3
  go_wp2_with fail
  refine (tokensof_spec s _ l b HR.out hs2).mono ?_
  rintro e w1 ⟨v0, rfl, A0, hb1⟩
  obtain ⟨g0, c0, rfl⟩ := A0.form
  have O0 : Hid (w1.ownsRow w.heap.size 31 5 (.slice (some ⟨g0, 0, none⟩) l.length c0) l.length (flatTok l)) := A0.1
  rw [HN.out]
  clear A0
  go_wp2_with fail
  refine (tokensof_impl s _ (HP.out.below hb1) (HE.out.below hb1) l b HR.out hs2).mono ?_
  rintro e w2 ⟨v1, rfl, A1, hb2⟩
  obtain ⟨g1, c1, rfl⟩ := A1.form
  have O1 : Hid (w2.ownsRow w1.heap.size 31 5 (.slice (some ⟨g1, 0, none⟩) l.length c1) l.length (flatTok l)) := A1.1
  rw [HN.out]
  clear A1
  have hx2 := chain hb1 hb2
  go_wp2_with fail
  refine (eqsN n _ _ _ _ l HN.out _ (ownTok O1.out) (ownTok (own_below O0.out hb2)) hnM).mono ?_
  rintro e w3 ⟨rfl, hb3⟩
  have hx3 := chain hx2 hb3
  have hg1 := own_lt O1.out
  have hg0 := own_lt O0.out
  have hs12 := hb2.size
  have hs01 := hb1.size
  have O13 : Hid (w3.ownsRow w1.heap.size 31 5 (.slice (some ⟨g1, 0, none⟩) l.length c1) l.length (flatTok l)) := own_below O1.out hb3
  have O03 : Hid (w3.ownsRow w.heap.size 31 5 (.slice (some ⟨g0, 0, none⟩) l.length c0) l.length (flatTok l)) := own_below (own_below O0.out hb2) hb3
  clear O0 O1
  cases b
  all_goals
    go_wp2_with fail
    refine (markN n _ _ l HN.out r HRR.out _ (ownTok O13.out) (ownTok_free O13.out) hr1).mono ?_
    rintro e w4 ⟨rfl, hM4, hK4⟩
    have hb34 : Below w1.heap.size w3 w4 := hK4.below (fun k hk => by obtain ⟨_, o, e⟩ := hk; simp only [Option.some.injEq, Addr.mk.injEq] at e; omega) (by have := hb3.size; omega)
    have O04 : Hid (w4.ownsRow w.heap.size 31 5 (.slice (some ⟨g0, 0, none⟩) l.length c0) l.length (flatTok l)) := own_belowB O03.out hg0.2 hb34
    have hx4 : Below w.heap.size w w4 := hx3.trans (hb34.mono hs01)
    have M4 : Hid (TokAt w4 (some ⟨g1, 0, none⟩) (marksTok 1 n)) := hM4
    clear hM4 hK4 hb34 O13 O03
    go_wp2_with fail
    refine (heldN n _ _ r HRR.out _ M4.out hr1).mono ?_
    rintro e w5 ⟨rfl, hb5⟩
    have hx5 := chain hx4 hb5
    have M5 : Hid (TokAt w5 (some ⟨g1, 0, none⟩) (marksTok 1 n)) := M4.out.below hb5
    have O05 : Hid (w5.ownsRow w.heap.size 31 5 (.slice (some ⟨g0, 0, none⟩) l.length c0) l.length (flatTok l)) := own_below O04.out hb5
    clear M4 O04
    go_wp2_with fail
    refine (tokensof_impl s _ (HP.out.below hx5) (HE.out.below hx5) l _ HR.out hs2).mono ?_
    rintro e w6 ⟨v2, rfl, A2, hb6⟩
    obtain ⟨g2, c2, rfl⟩ := A2.form
    have O2 : Hid (w6.ownsRow w5.heap.size 31 5 (.slice (some ⟨g2, 0, none⟩) l.length c2) l.length (flatTok l)) := A2.1
    rw [HN.out]
    clear A2
    have hx6 := chain hx5 hb6
    have M6 : Hid (TokAt w6 (some ⟨g1, 0, none⟩) (marksTok 1 n)) := M5.out.below hb6
    have O06 : Hid (w6.ownsRow w.heap.size 31 5 (.slice (some ⟨g0, 0, none⟩) l.length c0) l.length (flatTok l)) := own_below O05.out hb6
    clear M5 O05
    go_wp2_with fail
    refine (eqsN n _ _ _ _ l HN.out _ (ownTok O2.out) (ownTok O06.out) hnM).mono ?_
    rintro e w7 ⟨rfl, hb7⟩
    have hx7 := chain hx6 hb7
    have M7 : Hid (TokAt w7 (some ⟨g1, 0, none⟩) (marksTok 1 n)) := M6.out.below hb7
    clear M6 O06 O2
    go_wp2_with fail
    refine (heldN n _ _ r HRR.out _ M7.out hr1).mono ?_
    rintro e w8 ⟨rfl, hb8⟩
    go_wp2
    go_ret
    exact ⟨rfl, chain hx7 hb8⟩

theorem laidOut : laidOutB Tryd.prog = true := by kernel_rfl

theorem var_laid {W : World} (h : laidMetH Tryd.prog Rows.fnExactTokensOfRow.laid W) : PowAt W ∧ ErrAt W := by
  rw [MakeChecks.laidMetH_plain _ _ _ (by kernel_rfl)] at h
  have h2 : laidMet Tryd.prog (("internal/strconv.uint64pow10", Rows.laid_internal_strconv_uint64pow10) :: ("strconv.ErrRange", Rows.laid_strconv_ErrRange) :: ("strconv.ErrSyntax", Rows.laid_strconv_ErrSyntax) :: []) W := laidMet.tail (laidMet.tail h)
  exact ⟨pow_of h2, err_of h2.tail⟩

/-- The door's own heap meets the condition. -/
theorem door_met (os : Os) (args : Array Value) : laidMetH Tryd.prog Rows.fnExactTokensOfRow.laid ((World.doorLaid Tryd.prog 400 os).forCall (fun _ _ => 0) ⟨#[], args, []⟩).memory :=
  laidMetH_of_parts3 (fuel := 8) (laidMet_of_run' 8 (by kernel_rfl) (by kernel_rfl)) (by kernel_rfl) (by kernel_rfl)

set_option maxRecDepth 100000 in
theorem lifted (os : Os) (started : os.Started) (H : Type) (enc : TypeId × Value → H) :
    ReturnsInHanded {} Tryd.checked os 3 .any (fun w args => (Rows.fnExactTokensOfSpec.pre enc Tryd.prog Tryd.f3 [] false w args ∧ laidMetH Tryd.prog Rows.fnExactTokensOfRow.laid w) ∧ sizedMet enc Tryd.prog Tryd.f3 (OpenSpec.ofChange Rows.fnExactTokensOfSpec) false w args)
      (Rows.fnExactTokensOfSpec.post enc Tryd.prog Tryd.f3 false true false false) := by
  refine returnsInHanded_of_change_and (C := Tryd.checked) (X := fun w _ => laidMetH Tryd.prog Rows.fnExactTokensOfRow.laid w) (fun _ _ _ hh h => h.of_heap hh) own started (by kernel_rfl) Tryd.func3
    (ChangeSpec.witness_shaped (enc := enc) (C := Tryd.checked) (os := os) (X := fun w _ => laidMetH Tryd.prog Rows.fnExactTokensOfRow.laid w) false (World.doorLaid Tryd.prog 400 os) #[.string ⟨#[]⟩] 8 rfl (World.shaped_of_RefB (by kernel_rfl) (by kernel_rfl)) (by kernel_rfl) (by kernel_rfl) (by kernel_rfl) (door_met os _)) ?_
  intro W base args ds gs before hval0 hW _ _ hL _
  have hval : ∀ (j : Nat) t v, Tryd.f3.params[j]? = some t → args[j]? = some v → Value.okWide Tryd.prog W .any base t v := hval0
  have hW' := hW
  obtain ⟨p, q, hA0, hV, rfl, hfz, hnd⟩ := hW
  have hA : DataW.TrodAll enc Tryd.prog W 0 (fun _ => true) true Tryd.f3.params.toList args.toList ds p := hA0
  rw [Tryd.params3] at hA hval
  obtain ⟨v0, d0, rfl, rfl, h0⟩ := trodAll_one hA
  obtain ⟨rfl, rfl⟩ := trodVars_none hV
  have k0 := h0
  have lt0 : ∀ x ∈ p, x.block < W.heap.size := by obtain ⟨m, hm⟩ := k0; exact DataW.trod_lt m _ _ _ hm
  obtain ⟨s0, rfl, _, _, hs0⟩ := Go.ChangeMaps.open_string Tryd.underlying9 (hval 0 9 v0 rfl rfl) h0
  clear hA0 hval0
  obtain ⟨hp, he⟩ := var_laid hL
  refine (walk s0 W hp he).mono fun e W' ⟨he, bel⟩ => ?_
  subst he
  exact ⟨_, rfl, _, _, _, [], _, [], hW', trodAll_mk1 (shut_bool Tryd.underlying4 _), trodAll_mk1 (Below.trod laidOut (by kernel_rfl) (of_decide_eq_true (by kernel_rfl)) k0 bel lt0), rfl, bel.frame _, fun h => by cases h⟩

theorem over : Rows.fnExactTokensOfRow.holds Tryd.pinned (OpenSpec.ofChange Rows.fnExactTokensOfSpec) :=
  OpenClaim.holds_of_wide 3 Tryd.f3 rfl rfl rfl rfl rfl rfl rfl ⟨rfl, rfl, rfl, rfl, rfl⟩ rfl rfl rfl rfl rfl (by kernel_rfl) Tryd.func3 (by kernel_rfl)
    (of_decide_eq_true (by kernel_rfl)) (by unfold Func.isWrapper; first | (rw [if_pos (by decide +kernel)]; kernel_rfl) | (rw [if_neg (by decide +kernel)]; exact ⟨rfl, rfl⟩))
    (fun os started H enc _ => lifted os started H enc)

end exTokensOf

theorem fnExactTokensOf_card : Rows.FnExactTokensOfCardSaid :=
  Claim7.holds_tied_plain_at .later [] [.data, .data, .data, .sentinel, .sentinel] true Rows.fnExactTokensOfCard.stood.harness true
    exTokensOf.over (fun _ h => by cases h) (by kernel_rfl) (fun _ h => by cases h) fnExactTokensOf_row_tie rfl ⟨rfl, rfl⟩ (by kernel_rfl) rfl
    (fun f fn hf hfn => by
      obtain rfl : f = 3 := Option.some.inj ((show Tryd.prog.funcNamed Rows.fnExactTokensOfRow.func = some 3 by kernel_rfl).symm.trans hf) |>.symm
      obtain rfl : fn = Tryd.f3 := (Option.some.inj (Tryd.func3.symm.trans hfn)).symm
      exact ⟨by kernel_rfl, fun j t ht => by
        rw [Tryd.params3] at ht
        have h3 : t = 9 := by
          rcases j with _ | j
          · simpa using ht.symm
          · simp at ht
        subst h3
        exact (show Tryd.prog.wantsStandIn 9 = false by kernel_rfl)⟩)
    (by kernel_rfl)

end Go.Proofs.YtgiknjlifocioaaDoor
