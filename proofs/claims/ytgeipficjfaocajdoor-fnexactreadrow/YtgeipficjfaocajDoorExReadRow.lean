/-
  Proved: at every text the program's ReadRow answers as its model does, and its answer is new memory, behind another call too, and the law's argument reads afterwards as before; the listed variables of the library (the table of powers of ten, two tables of bits, two errors, two tables of text) start as the program's text lays them, to which the card ties them; no other condition.
-/
import Derived.Test.YtgeipficjfaocajDoorReadRowI
import Derived.Test.YtgeipficjfaocajDoorLists3
import Derived.Test.YtgeipficjfaocajDoorLists7
import Derived.Test.YtgeipficjfaocajDoorHandedLS
import Derived.Lay
import Derived.Test.YtgeipficjfaocajDoorLaid
import Derived.Test.YtgeipficjfaocajDoorTie
import Derived.Test.YtgeipficjfaocajDoorCards
import Derived.Lib.SmallJoins
import Derived.SevenTiedAt
namespace Go.Proofs.YtgeipficjfaocajDoor
open Go.ChangeShapes Go.WideShapes Go.ChangeAt Go.RowKit Go.Joins
open Go.ChangeMaps (open_string shut_string)

theorem own_belowB {w w' : World} {base B g c n sz : Nat} {e : TypeId} {xs : List Value} (h : w.ownsRow base e sz (.slice (some ⟨g, 0, none⟩) n c) n xs) (hg : g < B) (hb : Below B w w') : w'.ownsRow base e sz (.slice (some ⟨g, 0, none⟩) n c) n xs := by
  refine ⟨h.1, ?_⟩
  rcases h.2 with h' | ⟨g', cap, cur, h', hbg, hgg, hr⟩
  · exact .inl h'
  · refine .inr ⟨g', cap, cur, h', hbg, ?_, hr⟩
    simp only [Value.slice.injEq, Option.some.injEq, Addr.mk.injEq, and_true, true_and] at h'
    obtain ⟨rfl, rfl⟩ := h'
    rw [hb.block g hg]; exact hgg
theorem own_lt {w : World} {base g c n sz : Nat} {e : TypeId} {xs : List Value} (h : w.ownsRow base e sz (.slice (some ⟨g, 0, none⟩) n c) n xs) : base ≤ g ∧ g < w.heap.size := h.lt g rfl
theorem own_free {w : World} {base g c : Nat} {l : List CT} (h : w.ownsRow base 37 3 (.slice (some ⟨g, 0, none⟩) l.length c) l.length (flat l)) : Free w (some ⟨g, 0, none⟩) l.length := by
  intro b o e j _
  simp only [Option.some.injEq, Addr.mk.injEq, and_true] at e
  obtain ⟨rfl, rfl⟩ := e
  rw [Nat.zero_add]; exact h.frozenAt j
theorem Answer.form {w : World} {B : Nat} {v : Value} {l : List CT} (h : Answer w B v l) : ∃ g c, v = .slice (some ⟨g, 0, none⟩) l.length c := by
  rcases h.1.2 with ⟨h', _⟩ | ⟨g, c, cur, h', _⟩
  · exact absurd h' h.2
  · exact ⟨g, c, h'⟩
theorem rowR_len (s : ByteArray) (l : List CT) (b : Bool) (h : rowR s = (l, b)) : l.length ≤ s.size + 1 := by
  unfold rowR readRowB at h
  split at h
  · rename_i l' h'
    injection h with e _
    subst e
    split at h'
    · injection h' with e; subst e; simp
    · rw [readAll_length _ _ h', Lib.size_eq]; exact pieces_length _
  · injection h with e _; subst e; simp

namespace exReadRow

theorem own : ownKnob Tryd.prog.godebug = none := by kernel_rfl

theorem eqsN (n : Nat) (a b : Option Addr) (ca cb : Nat) (l : List CT) (hn : l.length = n) (w : World) (ha : RowAt w a l) (hb : RowAt w b l) (hm : n ≤ maxLen) :
    Calls Tryd.prog 9 #[.slice a n ca, .slice b n cb] w fun e w' => e = .returned (.bool true) ∧ Below w.heap.size w w' := by
  subst hn; exact eqs_laws a b ca cb l w ha hb hm
theorem markN (n : Nat) (a : Option Addr) (cap : Nat) (l : List CT) (hn : l.length = n) (r : Nat) (hr : 1 + 3 * n = r) (w : World) (hrow : RowAt w a l) (hfree : Free w a l.length) (h1 : r ≤ 1099511627776) :
    Calls Tryd.prog 12 #[.slice a n cap, .int .i64 1] w fun e w' => e = .returned (.int .i64 (r : Int)) ∧ RowAt w' a (marks 1 n) ∧ KeepS (inBlk a n) w w' := by
  subst hn hr
  refine (mark_laws a cap l 1 w hrow hfree (by omega) h1).mono ?_
  rintro e w' ⟨rfl, h1, _, h3⟩
  exact ⟨rfl, h1, h3⟩
theorem heldN (n : Nat) (a : Option Addr) (cap : Nat) (r : Nat) (hr : 1 + 3 * n = r) (w : World) (hrow : RowAt w a (marks 1 n)) (h1 : r ≤ 1099511627776) :
    Calls Tryd.prog 13 #[.slice a n cap, .int .i64 1] w fun e w' => e = .returned (.int .i64 (r : Int)) ∧ Below w.heap.size w w' := by
  subst hr; exact held_laws a cap n 1 w hrow (by omega) h1

set_option maxRecDepth 100000 in
set_option maxHeartbeats 4000000 in
theorem walk (s : ByteArray) (w : World) (hp : PowAt w) (he : ErrAt w) (hm : MaxAt w) :
    Calls Tryd.prog 4 #[.string s] w fun e w' => e = .returned (.bool true) ∧ Below w.heap.size w w' := by
  have HP : Hid (PowAt w) := hp
  have HE : Hid (ErrAt w) := he
  have HM : Hid (MaxAt w) := hm
  clear hp he hm
  by_cases hl : (1048576 : Int) < (s.size : Int)
  · go_enter Tryd.func4, Tryd.ntmps4
    go_wp2
    go_ret
    exact ⟨rfl, Below.refl _ _⟩
  have hs2 : s.size ≤ 1048576 := by omega
  obtain ⟨l, b, hR⟩ : ∃ l b, rowR s = (l, b) := ⟨_, _, rfl⟩
  have HR : Hid (rowR s = (l, b)) := hR
  have hln := rowR_len s l b hR
  obtain ⟨n, hn⟩ : ∃ n, l.length = n := ⟨_, rfl⟩
  obtain ⟨r, hr⟩ : ∃ r, 1 + 3 * n = r := ⟨_, rfl⟩
  have HN : Hid (l.length = n) := hn
  have HRR : Hid (1 + 3 * n = r) := hr
  have hnM : n ≤ maxLen := by unfold maxLen; omega
  have hr1 : r ≤ 1099511627776 := by omega
  have hr0 : ¬ ((r : Int) < 0) := by omega
  have hbn : ∀ (x : Bool) (wz : World), (binOp .neq 4 (.bool x) (.bool x)).run Tryd.prog wz = .ok (.bool false) wz := fun x wz => by cases x <;> kernel_rfl
  clear hR hn hr hln
  go_enter Tryd.func4, Tryd.ntmps4
  go_wp2_with fail
  refine (readrow_spec s hs2 _ l b HR.out).mono ?_
  rintro e w1 ⟨v0, rfl, A0, hb1⟩
  obtain ⟨g0, c0, rfl⟩ := A0.form
  have O0 : Hid (w1.ownsRow w.heap.size 37 3 (.slice (some ⟨g0, 0, none⟩) l.length c0) l.length (flat l)) := A0.1
  rw [HN.out]
  clear A0
  go_wp2_with fail
  refine (readrow_impl s hs2 _ (HP.out.below hb1) (HE.out.below hb1) (HM.out.below hb1) l b HR.out).mono ?_
  rintro e w2 ⟨v1, rfl, A1, hb2⟩
  obtain ⟨g1, c1, rfl⟩ := A1.form
  have O1 : Hid (w2.ownsRow w1.heap.size 37 3 (.slice (some ⟨g1, 0, none⟩) l.length c1) l.length (flat l)) := A1.1
  rw [HN.out]
  clear A1
  have hx2 := chain hb1 hb2
  go_wp2_with fail
  refine (eqsN n _ _ _ _ l HN.out _ (own_row O1.out) (own_row (own_below O0.out hb2)) hnM).mono ?_
  rintro e w3 ⟨rfl, hb3⟩
  have hx3 := chain hx2 hb3
  have hg1 := own_lt O1.out
  have hg0 := own_lt O0.out
  have hs12 := hb2.size
  have hs01 := hb1.size
  have O13 : Hid (w3.ownsRow w1.heap.size 37 3 (.slice (some ⟨g1, 0, none⟩) l.length c1) l.length (flat l)) := own_below O1.out hb3
  have O03 : Hid (w3.ownsRow w.heap.size 37 3 (.slice (some ⟨g0, 0, none⟩) l.length c0) l.length (flat l)) := own_below (own_below O0.out hb2) hb3
  clear O0 O1
  cases b
  all_goals
    go_wp2_with fail
    refine (markN n _ _ l HN.out r HRR.out _ (own_row O13.out) (own_free O13.out) hr1).mono ?_
    rintro e w4 ⟨rfl, hM4, hK4⟩
    have hb34 : Below w1.heap.size w3 w4 := hK4.below (fun k hk => by obtain ⟨_, o, e⟩ := hk; simp only [Option.some.injEq, Addr.mk.injEq] at e; omega) (by have := hb3.size; omega)
    have O04 : Hid (w4.ownsRow w.heap.size 37 3 (.slice (some ⟨g0, 0, none⟩) l.length c0) l.length (flat l)) := own_belowB O03.out hg0.2 hb34
    have hx4 : Below w.heap.size w w4 := hx3.trans (hb34.mono hs01)
    have M4 : Hid (RowAt w4 (some ⟨g1, 0, none⟩) (marks 1 n)) := hM4
    clear hM4 hK4 hb34 O13 O03
    go_wp2_with fail
    refine (heldN n _ _ r HRR.out _ M4.out hr1).mono ?_
    rintro e w5 ⟨rfl, hb5⟩
    have hx5 := chain hx4 hb5
    have M5 : Hid (RowAt w5 (some ⟨g1, 0, none⟩) (marks 1 n)) := M4.out.below hb5
    have O05 : Hid (w5.ownsRow w.heap.size 37 3 (.slice (some ⟨g0, 0, none⟩) l.length c0) l.length (flat l)) := own_below O04.out hb5
    clear M4 O04
    go_wp2_with fail
    refine (readrow_impl s hs2 _ (HP.out.below hx5) (HE.out.below hx5) (HM.out.below hx5) l _ HR.out).mono ?_
    rintro e w6 ⟨v2, rfl, A2, hb6⟩
    obtain ⟨g2, c2, rfl⟩ := A2.form
    have O2 : Hid (w6.ownsRow w5.heap.size 37 3 (.slice (some ⟨g2, 0, none⟩) l.length c2) l.length (flat l)) := A2.1
    rw [HN.out]
    clear A2
    have hx6 := chain hx5 hb6
    have M6 : Hid (RowAt w6 (some ⟨g1, 0, none⟩) (marks 1 n)) := M5.out.below hb6
    have O06 : Hid (w6.ownsRow w.heap.size 37 3 (.slice (some ⟨g0, 0, none⟩) l.length c0) l.length (flat l)) := own_below O05.out hb6
    clear M5 O05
    go_wp2_with fail
    refine (eqsN n _ _ _ _ l HN.out _ (own_row O2.out) (own_row O06.out) hnM).mono ?_
    rintro e w7 ⟨rfl, hb7⟩
    have hx7 := chain hx6 hb7
    have M7 : Hid (RowAt w7 (some ⟨g1, 0, none⟩) (marks 1 n)) := M6.out.below hb7
    clear M6 O06 O2
    go_wp2_with fail
    refine (heldN n _ _ r HRR.out _ M7.out hr1).mono ?_
    rintro e w8 ⟨rfl, hb8⟩
    go_wp2
    go_ret
    exact ⟨rfl, chain hx7 hb8⟩

theorem var_laid {W : World} (h : laidMetH Tryd.prog Rows.fnExactReadRowRow.laid W) : PowAt W ∧ ErrAt W := by
  rw [MakeChecks.laidMetH_plain _ _ _ (by kernel_rfl)] at h
  have h2 : laidMet Tryd.prog (("internal/strconv.uint64pow10", Rows.laid_internal_strconv_uint64pow10) :: (Rows.fnExactReadRowRow.laid.drop 3)) W := laidMet.tail (laidMet.tail h)
  have h3 : laidMet Tryd.prog (("strconv.ErrRange", Rows.laid_strconv_ErrRange) :: ("strconv.ErrSyntax", Rows.laid_strconv_ErrSyntax) :: (Rows.fnExactReadRowRow.laid.drop 6)) W := laidMet.tail (laidMet.tail h2)
  exact ⟨pow_of h2, err_of h3⟩

set_option maxRecDepth 100000 in
theorem lifted (os : Os) (started : os.Started) (H : Type) (enc : TypeId × Value → H) :
    ReturnsInHanded {} Tryd.checked os 4 .any (fun w args => (Rows.fnExactReadRowSpec.pre enc Tryd.prog Tryd.f4 [] false w args ∧ laidMetH Tryd.prog Rows.fnExactReadRowRow.laid w) ∧ sizedMet enc Tryd.prog Tryd.f4 (OpenSpec.ofChange Rows.fnExactReadRowSpec) false w args)
      (Rows.fnExactReadRowSpec.post enc Tryd.prog Tryd.f4 false true false false) := by
  refine handed_both (C := Tryd.checked) (X := fun w _ => laidMetH Tryd.prog Rows.fnExactReadRowRow.laid w) (fun _ _ _ hh h => h.of_heap hh) own started (by kernel_rfl) Tryd.func4
    (ChangeSpec.witness_shaped (enc := enc) (C := Tryd.checked) (os := os) (X := fun w _ => laidMetH Tryd.prog Rows.fnExactReadRowRow.laid w) false (World.laidAll Tryd.prog os Rows.fnExactReadRowRow.laid) #[.string ⟨#[]⟩] 8 (World.laidAll_os _ _ _)
      (World.shaped_of_ZipB (by kernel_rfl) (by kernel_rfl)) (by kernel_rfl) (by kernel_rfl) (by kernel_rfl)
      (by rw [MakeChecks.laidMetH_plain _ _ _ (by kernel_rfl)]; exact laidMet_laidAll _ (by kernel_rfl) (by kernel_rfl))) ?_
  intro W base args ds gs before hval0 hW hL hsh
  have hval : ∀ (j : Nat) t v, Tryd.f4.params[j]? = some t → args[j]? = some v → Value.okWide Tryd.prog W .any base t v := hval0
  have hW' := hW
  obtain ⟨p, q, hA0, hV, rfl, hfz, hnd⟩ := hW
  have hA : DataW.TrodAll enc Tryd.prog W 0 (fun _ => true) true Tryd.f4.params.toList args.toList ds p := hA0
  rw [Tryd.params4] at hA hval
  obtain ⟨v0, d0, rfl, rfl, h0⟩ := trodAll_one hA
  obtain ⟨rfl, rfl⟩ := trodVars_none hV
  obtain ⟨t, rfl, rfl, rfl, ht⟩ := open_string Tryd.underlying9 (hval 0 9 v0 rfl rfl) h0
  clear hA0 hval0
  obtain ⟨hp, he⟩ := var_laid hL
  refine (walk t W hp he (MaxAt.shaped hsh)).mono fun e W' ⟨he, bel⟩ => ?_
  subst he
  exact ⟨_, rfl, _, _, _, [], [], [], hW', trodAll_mk1 (shut_bool Tryd.underlying4 _), trodAll_mk1 (shut_string Tryd.underlying9 ht), rfl, bel.frame _, fun h => by cases h⟩

theorem over : Rows.fnExactReadRowRow.holds Tryd.pinned (OpenSpec.ofChange Rows.fnExactReadRowSpec) :=
  OpenClaim.holds_of_wide 4 Tryd.f4 rfl rfl rfl rfl rfl rfl rfl ⟨rfl, rfl, rfl, rfl, rfl⟩ rfl rfl rfl rfl rfl (by kernel_rfl) Tryd.func4 (by kernel_rfl)
    (of_decide_eq_true (by kernel_rfl)) (by unfold Func.isWrapper; first | (rw [if_pos (by decide +kernel)]; kernel_rfl) | (rw [if_neg (by decide +kernel)]; exact ⟨rfl, rfl⟩))
    (fun os started H enc _ => lifted os started H enc)

end exReadRow

theorem fnExactReadRow_card : Rows.FnExactReadRowCardSaid :=
  Claim7.holds_tied_plain_at .later [] [.data, .data, .data, .data, .sentinel, .sentinel, .pinned] true Rows.fnExactReadRowCard.stood.harness true
    exReadRow.over (fun _ h => by cases h) (by kernel_rfl) (fun _ h => by cases h) fnExactReadRow_row_tie rfl ⟨rfl, rfl⟩ (by kernel_rfl) rfl
    (fun f fn hf hfn => by
      obtain rfl : f = 4 := Option.some.inj ((show Tryd.prog.funcNamed Rows.fnExactReadRowRow.func = some 4 by kernel_rfl).symm.trans hf) |>.symm
      obtain rfl : fn = Tryd.f4 := (Option.some.inj (Tryd.func4.symm.trans hfn)).symm
      exact ⟨by kernel_rfl, fun j t ht => by
        rw [Tryd.params4] at ht
        have h3 : t = 9 := by
          rcases j with _ | j
          · simpa using ht.symm
          · simp at ht
        subst h3
        exact (show Tryd.prog.wantsStandIn 9 = false by kernel_rfl)⟩)
    (by kernel_rfl)

end Go.Proofs.YtgeipficjfaocajDoor
