/-
  Proved: at every table and row the program's Put answers as its model does; it writes into no argument and keeps nothing of one; its answer owns its memory, behind another call too; the law's arguments read afterwards as before; no condition.
-/
import Derived.Test.YtbjpjhhdnbclbajPutI
import Derived.Test.YtbjpjhhdnbclbajOpen2
import Derived.Lib.SmallJoins
namespace Go.Proofs.Ytbjpjhhdnbclbaj
open Go.ChangeShapes Go.WideShapes Go.ChangeAt Go.RowKit Go.Joins
attribute [local go_sem ↓] Go.wp_at_zero Go.wp_at_succ
attribute [local simp] World.cell?_alloc_past World.cell?_alloc_at World.frozen?_alloc_at cell_far cell_off cell_here World.frozen?_alloc_past

/-- Three values in a block. -/
def Box (w : World) (B : Nat) (x y z : Value) : Prop := w.cell? ⟨B, 0, none⟩ = some x ∧ w.cell? ⟨B, 1, none⟩ = some y ∧ w.cell? ⟨B, 2, none⟩ = some z ∧ B < w.heap.size
theorem Box.below {w w' : World} {B : Nat} {x y z : Value} (h : Box w B x y z) (hb : Below w.heap.size w w') : Box w' B x y z := later3 hb h
theorem Box.keepS {w w' : World} {P : Nat → Prop} {B : Nat} {x y z : Value} (h : Box w B x y z) (hk : KeepS P w w') (hn : ¬ P B) : Box w' B x y z :=
  ⟨by rw [hk.cell h.2.2.2 hn]; exact h.1, by rw [hk.cell h.2.2.2 hn]; exact h.2.1, by rw [hk.cell h.2.2.2 hn]; exact h.2.2.1, Nat.lt_of_lt_of_le h.2.2.2 hk.size⟩
/-- A row of its own in block g. -/
structure OutRow (w : World) (g : Nat) (r : List CT) : Prop where
  at_ : RowAt w (some ⟨g, 0, none⟩) r
  free : Free w (some ⟨g, 0, none⟩) r.length
  lt : g < w.heap.size
theorem OutRow.keepS {w w' : World} {P : Nat → Prop} {g : Nat} {r : List CT} (h : OutRow w g r) (hk : KeepS P w w') (hn : ¬ P g) : OutRow w' g r := by
  have hq : ∀ b, inBlk (some ⟨g, 0, none⟩) r.length b → ¬ P b := by
    rintro b ⟨_, o, e⟩
    cases e; exact hn
  exact ⟨h.at_.keepS hk hq, h.free.keepS h.at_ hk hq, Nat.lt_of_lt_of_le h.lt hk.size⟩
theorem OutRow.below {w w' : World} {g : Nat} {r : List CT} (h : OutRow w g r) (hb : Below w.heap.size w w') : OutRow w' g r :=
  h.keepS (KeepS.ofBelow (P := fun _ => False) hb) (fun h => h)
theorem own_outRow {w : World} {base g c : Nat} {e : TypeId} {r : List CT} (h : w.ownsRow base e 3 (.slice (some ⟨g, 0, none⟩) r.length c) r.length (flat r)) : OutRow w g r :=
  ⟨own_row h, fun b o e j _ => by cases e; rw [Nat.zero_add]; exact h.frozenAt j, (h.lt _ rfl).2⟩
theorem MarkedT.keepS {w w' : World} {P : Nat → Prop} {ca ra : Option Addr} {t : TB} {A : Nat → Option Addr} {C : Nat → Nat} {k : Nat} (h : MarkedT w ca ra t A C k) (hk : KeepS P w w') (hP : ∀ b, tabBlks ca ra t A b → ¬ P b) : MarkedT w' ca ra t A C k :=
  ⟨h.cols.keepS hk (fun b hb => hP b (.inl (by rw [marksS_length] at hb; exact hb))), h.heads.keepN hk (fun b o h0 e => hP b (.inr (.inr ⟨h0, o, e⟩))), h.rows.keepL hk (fun b hb => hP b (.inr (.inl hb)))⟩

theorem offsT (L : List (List CT)) : offs L L.length ≤ total L := by
  unfold offs total
  rw [List.take_length]
  induction L with
  | nil => simp
  | cons y L ih => simp only [List.map_cons, List.sum_cons]; omega
theorem leftT_mark {t : TB} {x : Int} (hx : leftT t 1048576 = x) (h : 0 ≤ x) : markN t 1 ≤ 10485760 ∧ x ≤ 1048576 := by
  have h1 := hx
  unfold leftT at h1
  split at h1
  · omega
  split at h1
  · omega
  split at h1
  · omega
  rename_i a b c
  have e1 : leftOfS t.2.1 (1048576 - t.1.size) = 1048576 - t.1.size - t.2.1.length - weightS t.2.1 := by
    unfold leftOfS at b ⊢
    split at b
    · omega
    · rw [if_neg (by assumption)]
  rw [e1] at c h1
  have e2 : ((t.2.2.length : Int) + total t.2.2 ≤ 1048576 - t.1.size - t.2.1.length - weightS t.2.1) := by
    unfold leftOfs at c
    split at c
    · omega
    · omega
  have := offsT t.2.2
  refine ⟨?_, ?_⟩
  · unfold markN
    omega
  · unfold leftOfs at h1
    split at h1 <;> omega
/-- The marks of what Put answers are no more than those of what it was given. -/
theorem put_mark {t T : TB} {r : List CT} {b : Bool} (h : putR t r = (T, b)) : markN T 1 ≤ markN t 1 + 3 * r.length := by
  unfold putR at h
  split at h
  · split at h
    · obtain ⟨rfl, _⟩ := Prod.mk.inj h
      unfold markN putT offs
      rw [List.take_length, List.take_length, List.map_append, List.sum_append]
      simp; omega
    · obtain ⟨rfl, _⟩ := Prod.mk.inj h
      omega
  · obtain ⟨rfl, _⟩ := Prod.mk.inj h
    unfold markN zeroT offs
    simp
    omega

namespace exPut

theorem own : ownKnob Try.prog.godebug = none := by kernel_rfl
theorem laidOut : laidOutB Try.prog = true := by kernel_rfl

set_option maxRecDepth 100000 in
set_option maxHeartbeats 8000000 in
theorem walk (ca : Option Addr) (cc : Nat) (ra : Option Addr) (cr : Nat) (t : TB) (nc nr : Nat) (hnc : t.2.1.length = nc) (hnr : t.2.2.length = nr) (a : Option Addr) (cap n : Nat) (r : List CT) (hn : r.length = n) (w : World) (ht : TabAt w ca cc ra t) (hrow : RowAt w a r) (hfit : Fit r) (hM : n ≤ maxLen) :
    Calls Try.prog 6 #[.agg #[.string t.1, .slice ca nc cc, .slice ra nr cr], .slice a n cap] w fun e w' => e = .returned (.bool true) ∧ Below w.heap.size w w' := by
  have HT : Hid (TabAt w ca cc ra t) := ht
  have HNC : Hid (t.2.1.length = nc) := hnc
  have HNR : Hid (t.2.2.length = nr) := hnr
  have HN : Hid (r.length = n) := hn
  have HR : Hid (RowAt w a r) := hrow
  have HF : Hid (Fit r) := hfit
  obtain ⟨B, hB⟩ : ∃ W, W = (w.alloc (.cells #[.string t.1, .slice ca nc cc, .slice ra nr cr] 32)) := ⟨_, rfl⟩
  have hA : Below w.heap.size w B := by rw [hB]; exact (Below.refl _ _).alloc (Nat.le_refl _) _
  have S1 : Hid (Calls Try.prog 14 #[.agg #[.string t.1, .slice ca nc cc, .slice ra nr cr], .int .i64 1048576] B fun e w'' => e = .returned (.int .i64 (leftT t 1048576)) ∧ Below B.heap.size B w'') := sztab_laws ca cc ra cr t nc nr hnc hnr B (ht.below hA) 1048576 (by omega) (by omega)
  obtain ⟨x, hx1⟩ : ∃ x, leftT t 1048576 = x := ⟨_, rfl⟩
  clear ht hnc hnr hrow hfit hn
  by_cases hx0 : x < 0
  · go_enter Try.func6, Try.ntmps6
    go_wp2_with fail
    rw [← hB]
    refine S1.out.mono ?_
    rw [hx1]
    rintro e w1 ⟨rfl, hb1⟩
    go_wp2
    go_ret
    exact ⟨rfl, chain hA hb1⟩
  have hx0' : 0 ≤ x := by omega
  obtain ⟨hmk, hxle⟩ := leftT_mark hx1 hx0'
  have S2 : Hid (∀ w', Below w.heap.size w w' → Calls Try.prog 24 #[.slice a n cap, .int .i64 x] w' fun e w'' => e = .returned (.int .i64 (leftOf r x)) ∧ Below w'.heap.size w' w'') := by
    have : ∀ w', Below w.heap.size w w' → Calls Try.prog 24 #[.slice a n cap, .int .i64 x] w' fun e w'' => e = .returned (.int .i64 (leftOf r x)) ∧ Below w'.heap.size w' w'' := by
      intro w' hw
      have := szs_laws a cap r x w' (HR.out.below hw) HF.out (by rw [HN.out]; exact hM) hx0' hxle
      rw [HN.out] at this
      exact this
    exact this
  obtain ⟨y, hy1⟩ : ∃ y, leftOf r x = y := ⟨_, rfl⟩
  by_cases hy0 : y < 0
  · go_enter Try.func6, Try.ntmps6
    go_wp2_with fail
    rw [← hB]
    refine S1.out.mono ?_
    rw [hx1]
    rintro e w1 ⟨rfl, hb1⟩
    go_wp2_with fail
    refine (S2.out _ (chain hA hb1)).mono ?_
    rw [hy1]
    rintro e w2 ⟨rfl, hb2⟩
    go_wp2
    go_ret
    exact ⟨rfl, chain (chain hA hb1) hb2⟩
  have hy0' : 0 ≤ y := by omega
  have hn1 : n ≤ 1048576 := by
    unfold leftOf at hy1
    rw [HN.out] at hy1
    split at hy1 <;> omega
  have hleft : 0 ≤ leftT t 1048576 := by rw [hx1]; exact hx0'
  have Z : Hid (∀ w', Below w.heap.size w w' → Calls Try.prog 16 #[.agg #[.string t.1, .slice ca nc cc, .slice ra nr cr]] w' fun e w'' => ∃ g g2 A C, e = .returned (.agg #[.string t.1, .slice (some ⟨g, 0, none⟩) nc nc, .slice (some ⟨g2, 0, none⟩) nr nr]) ∧ OutTab w'' w'.heap.size (some ⟨g, 0, none⟩) nc (some ⟨g2, 0, none⟩) t A C ∧ Below w'.heap.size w' w'') :=
    fun w' hw => totab_out ca cc ra cr t nc nr HNC.out HNR.out w' (HT.out.below hw) hleft
  have ZR : Hid (∀ w', Below w.heap.size w w' → Calls Try.prog 26 #[.slice a n cap] w' fun e w'' => ∃ g, e = .returned (.slice (some ⟨g, 0, none⟩) n n) ∧ w'.heap.size ≤ g ∧ OutRow w'' g r ∧ Below w'.heap.size w' w'') := by
    have : ∀ w', Below w.heap.size w w' → Calls Try.prog 26 #[.slice a n cap] w' fun e w'' => ∃ g, e = .returned (.slice (some ⟨g, 0, none⟩) n n) ∧ w'.heap.size ≤ g ∧ OutRow w'' g r ∧ Below w'.heap.size w' w'' := by
      intro w' hw
      have h := tos_laws a cap r w' (HR.out.below hw) (by rw [HN.out]; exact hn1)
      rw [HN.out] at h
      refine h.mono ?_
      rintro e w'' ⟨rfl, ho, hb⟩
      exact ⟨w'.heap.size, rfl, Nat.le_refl _, own_outRow (by rw [← HN.out] at ho; exact ho), hb⟩
    exact this
  obtain ⟨T, b, hTb⟩ : ∃ T b, putR t r = (T, b) := ⟨_, _, rfl⟩
  have HP : Hid (putR t r = (T, b)) := hTb
  obtain ⟨mc, hmc⟩ : ∃ m, T.2.1.length = m := ⟨_, rfl⟩
  obtain ⟨mr, hmr⟩ : ∃ m, T.2.2.length = m := ⟨_, rfl⟩
  have HMC : Hid (T.2.1.length = mc) := hmc
  have HMR : Hid (T.2.2.length = mr) := hmr
  obtain ⟨rk, hrk⟩ : ∃ r, markN t 1 = r := ⟨_, rfl⟩
  have HRK : Hid (markN t 1 = rk) := hrk
  obtain ⟨rT, hrT⟩ : ∃ r, markN T 1 = r := ⟨_, rfl⟩
  have HRT : Hid (markN T 1 = rT) := hrT
  have hrT2 : rT ≤ 104857600 := by
    have := put_mark hTb
    rw [HN.out] at this
    omega
  have hrk2 : rk ≤ 10485760 := by omega
  have PS : Hid (∀ w' g g2 gr, TabAt w' (some ⟨g, 0, none⟩) nc (some ⟨g2, 0, none⟩) t → RowAt w' (some ⟨gr, 0, none⟩) r → Calls Try.prog 25 #[.agg #[.string t.1, .slice (some ⟨g, 0, none⟩) nc nc, .slice (some ⟨g2, 0, none⟩) nr nr], .slice (some ⟨gr, 0, none⟩) n n] w' fun e w'' => ∃ ca cc ra cr A C, e = .returned (.tuple #[.agg #[.string T.1, .slice ca mc cc, .slice ra mr cr], .bool b]) ∧ OutTab w'' w'.heap.size ca cc ra T A C ∧ Below w'.heap.size w' w'') := by
    have : ∀ w' g g2 gr, TabAt w' (some ⟨g, 0, none⟩) nc (some ⟨g2, 0, none⟩) t → RowAt w' (some ⟨gr, 0, none⟩) r → Calls Try.prog 25 #[.agg #[.string t.1, .slice (some ⟨g, 0, none⟩) nc nc, .slice (some ⟨g2, 0, none⟩) nr nr], .slice (some ⟨gr, 0, none⟩) n n] w' fun e w'' => ∃ ca cc ra cr A C, e = .returned (.tuple #[.agg #[.string T.1, .slice ca mc cc, .slice ra mr cr], .bool b]) ∧ OutTab w'' w'.heap.size ca cc ra T A C ∧ Below w'.heap.size w' w'' := by
      intro w' g g2 gr hO hr
      refine (put_spec _ _ _ _ t nc nr HNC.out HNR.out _ _ r n HN.out w' hO hr HF.out (fun e => by cases e) hn1 T b HP.out).mono ?_
      rintro e w'' ⟨ca, cc, ra, cr, A, C, rfl, ho, hb⟩
      exact ⟨ca, cc, ra, cr, A, C, by rw [hmc, hmr], ho, hb⟩
    exact this
  have PI : Hid (∀ w' g g2 gr, TabAt w' (some ⟨g, 0, none⟩) nc (some ⟨g2, 0, none⟩) t → RowAt w' (some ⟨gr, 0, none⟩) r → Calls Try.prog 27 #[.agg #[.string t.1, .slice (some ⟨g, 0, none⟩) nc nc, .slice (some ⟨g2, 0, none⟩) nr nr], .slice (some ⟨gr, 0, none⟩) n n] w' fun e w'' => ∃ ca cc ra cr A C, e = .returned (.tuple #[.agg #[.string T.1, .slice ca mc cc, .slice ra mr cr], .bool b]) ∧ OutTab w'' w'.heap.size ca cc ra T A C ∧ Below w'.heap.size w' w'') := by
    have : ∀ w' g g2 gr, TabAt w' (some ⟨g, 0, none⟩) nc (some ⟨g2, 0, none⟩) t → RowAt w' (some ⟨gr, 0, none⟩) r → Calls Try.prog 27 #[.agg #[.string t.1, .slice (some ⟨g, 0, none⟩) nc nc, .slice (some ⟨g2, 0, none⟩) nr nr], .slice (some ⟨gr, 0, none⟩) n n] w' fun e w'' => ∃ ca cc ra cr A C, e = .returned (.tuple #[.agg #[.string T.1, .slice ca mc cc, .slice ra mr cr], .bool b]) ∧ OutTab w'' w'.heap.size ca cc ra T A C ∧ Below w'.heap.size w' w'' := by
      intro w' g g2 gr hO hr
      refine (put_impl _ _ _ _ t nc nr HNC.out HNR.out _ _ r n HN.out w' hO (fun e => by cases e) hr HF.out (fun e => by cases e) hn1 T b HP.out).mono ?_
      rintro e w'' ⟨ca, cc, ra, cr, A, C, rfl, ho, hb⟩
      exact ⟨ca, cc, ra, cr, A, C, by rw [hmc, hmr], ho, hb⟩
    exact this
  clear hTb hmc hmr hrk hrT hmk hleft
  go_enter Try.func6, Try.ntmps6
  go_wp2_with fail
  rw [← hB]
  refine S1.out.mono ?_
  rw [hx1]
  rintro e w1 ⟨rfl, hb1⟩
  have hp : Box w1 w.heap.size (.string t.1) (.slice ca nc cc) (.slice ra nr cr) := by
    subst hB; exact box3 hb1
  have hx : Below w.heap.size w w1 := chain hA hb1
  have bT1 : Hid (Box w1 w.heap.size (.string t.1) (.slice ca nc cc) (.slice ra nr cr)) := hp
  clear hb1 S1 hB hA hp
  go_wp2_with fail
  refine (S2.out _ hx).mono ?_
  rw [hy1]
  rintro e w2 ⟨rfl, hb2⟩
  have bT2 : Hid (Box w2 w.heap.size (.string t.1) (.slice ca nc cc) (.slice ra nr cr)) := bT1.out.below hb2
  replace hx := chain hx hb2
  clear hb2 bT1
  obtain ⟨p0, p1, p2, p3⟩ := bT2.out
  go_wp2_with fail
  refine (Z.out _ hx).mono ?_
  rintro e w3 ⟨g1, g2, A1, C1, rfl, T1, hb3⟩
  have bT3 : Hid (Box w3 w.heap.size (.string t.1) (.slice ca nc cc) (.slice ra nr cr)) := bT2.out.below hb3
  replace hx := chain hx hb3
  have U1 : Hid (TabAt w3 (some ⟨g1, 0, none⟩) nc (some ⟨g2, 0, none⟩) t) := T1.tab
  clear hb3 bT2 T1 p0 p1 p2 p3
  go_wp2_with fail
  refine (ZR.out _ hx).mono ?_
  rintro e w4 ⟨gr1, rfl, _, R1, hb4⟩
  have bT4 : Hid (Box w4 w.heap.size (.string t.1) (.slice ca nc cc) (.slice ra nr cr)) := bT3.out.below hb4
  replace hx := chain hx hb4
  have U4 : Hid (TabAt w4 (some ⟨g1, 0, none⟩) nc (some ⟨g2, 0, none⟩) t) := U1.out.below hb4
  clear hb4 bT3 U1
  go_wp2_with fail
  refine (PS.out _ _ _ _ U4.out R1.at_).mono ?_
  rintro e w5 ⟨caS, ccS, raS, crS, AS, CS, rfl, OS, hb5⟩
  have bT5 : Hid (Box w5 w.heap.size (.string t.1) (.slice ca nc cc) (.slice ra nr cr)) := bT4.out.below hb5
  replace hx := chain hx hb5
  have OS5 : Hid (OutTab w5 w4.heap.size caS ccS raS T AS CS) := OS
  clear hb5 bT4 U4 R1 OS
  obtain ⟨p0, p1, p2, p3⟩ := bT5.out
  go_wp2_with fail
  obtain ⟨V5, hV5⟩ : ∃ V, V = (w5.alloc (.cells #[.string T.1, .slice caS mc ccS, .slice raS mr crS] 36)) := ⟨_, rfl⟩
  rw [← hV5]
  have hA5 : Below w5.heap.size w5 V5 := by rw [hV5]; exact (Below.refl _ _).alloc (Nat.le_refl _) _
  have bW5 : Hid (Box V5 w5.heap.size (.string T.1) (.slice caS mc ccS) (.slice raS mr crS)) := by
    have : Box V5 w5.heap.size (.string T.1) (.slice caS mc ccS) (.slice raS mr crS) := by subst hV5; exact box3 (Below.refl _ _)
    exact this
  have bV5 : Hid (Box V5 w.heap.size (.string t.1) (.slice ca nc cc) (.slice ra nr cr)) := bT5.out.below hA5
  have OSV : Hid (OutTab V5 w4.heap.size caS ccS raS T AS CS) := OS5.out.below hA5
  have hblkS : Hid (∀ b, tabBlks caS raS T AS b → w4.heap.size ≤ b ∧ b < w5.heap.size) := by
    have : ∀ b, tabBlks caS raS T AS b → w4.heap.size ≤ b ∧ b < w5.heap.size := fun b hb => ⟨OS5.out.lo b hb, OS5.out.lt b hb⟩
    exact this
  have hw5 : w.heap.size < w5.heap.size := p3
  have hV5s : w5.heap.size < V5.heap.size := bW5.out.2.2.2
  replace hx := chain hx hA5
  clear hV5 hA5 bT5 OS5 p0 p1 p2 p3
  refine (Z.out _ hx).mono ?_
  rintro e w6 ⟨gX, gX2, AX, CX, rfl, OX, hb6⟩
  have hbX6 : Below V5.heap.size V5 w6 := hb6
  have bT6 : Hid (Box w6 w.heap.size (.string t.1) (.slice ca nc cc) (.slice ra nr cr)) := bV5.out.below hb6
  have bW6 : Hid (Box w6 w5.heap.size (.string T.1) (.slice caS mc ccS) (.slice raS mr crS)) := bW5.out.below hb6
  have OS6 : Hid (OutTab w6 w4.heap.size caS ccS raS T AS CS) := OSV.out.below hb6
  have hblkX : Hid (∀ b, tabBlks (some ⟨gX, 0, none⟩) (some ⟨gX2, 0, none⟩) t AX b → V5.heap.size ≤ b ∧ b < w6.heap.size) := by
    have : ∀ b, tabBlks (some ⟨gX, 0, none⟩) (some ⟨gX2, 0, none⟩) t AX b → V5.heap.size ≤ b ∧ b < w6.heap.size := fun b hb => ⟨OX.lo b hb, OX.lt b hb⟩
    exact this
  have OX6 : Hid (OutTab w6 V5.heap.size (some ⟨gX, 0, none⟩) nc (some ⟨gX2, 0, none⟩) t AX CX) := OX
  have h56 := hb6.size
  replace hx := chain hx hb6
  clear hb6 hbX6 bV5 bW5 OSV OX
  go_wp2_with fail
  obtain ⟨V6, hV6⟩ : ∃ V, V = (w6.alloc (.cells #[.string t.1, .slice (some ⟨gX, 0, none⟩) nc nc, .slice (some ⟨gX2, 0, none⟩) nr nr] 36)) := ⟨_, rfl⟩
  rw [← hV6]
  have hA6 : Below w6.heap.size w6 V6 := by rw [hV6]; exact (Below.refl _ _).alloc (Nat.le_refl _) _
  have bX7 : Hid (Box V6 w6.heap.size (.string t.1) (.slice (some ⟨gX, 0, none⟩) nc nc) (.slice (some ⟨gX2, 0, none⟩) nr nr)) := by
    have : Box V6 w6.heap.size (.string t.1) (.slice (some ⟨gX, 0, none⟩) nc nc) (.slice (some ⟨gX2, 0, none⟩) nr nr) := by subst hV6; exact box3 (Below.refl _ _)
    exact this
  have hV6s : w6.heap.size < V6.heap.size := bX7.out.2.2.2
  have bT7 : Hid (Box V6 w.heap.size (.string t.1) (.slice ca nc cc) (.slice ra nr cr)) := bT6.out.below hA6
  have bW7 : Hid (Box V6 w5.heap.size (.string T.1) (.slice caS mc ccS) (.slice raS mr crS)) := bW6.out.below hA6
  have OS7 : Hid (OutTab V6 w4.heap.size caS ccS raS T AS CS) := OS6.out.below hA6
  have OX7 : Hid (OutTab V6 V5.heap.size (some ⟨gX, 0, none⟩) nc (some ⟨gX2, 0, none⟩) t AX CX) := OX6.out.below hA6
  replace hx := chain hx hA6
  clear hV6 hA6 bT6 bW6 OS6 OX6
  refine (ZR.out _ hx).mono ?_
  rintro e w7 ⟨grX, rfl, hgrX, RX, hb7⟩
  have h67 := hb7.size
  have hgr7 : grX < w7.heap.size := RX.lt
  have bX8 : Hid (Box w7 w6.heap.size (.string t.1) (.slice (some ⟨gX, 0, none⟩) nc nc) (.slice (some ⟨gX2, 0, none⟩) nr nr)) := bX7.out.below hb7
  have bT8 : Hid (Box w7 w.heap.size (.string t.1) (.slice ca nc cc) (.slice ra nr cr)) := bT7.out.below hb7
  have bW8 : Hid (Box w7 w5.heap.size (.string T.1) (.slice caS mc ccS) (.slice raS mr crS)) := bW7.out.below hb7
  have OS8 : Hid (OutTab w7 w4.heap.size caS ccS raS T AS CS) := OS7.out.below hb7
  have OX8 : Hid (OutTab w7 V5.heap.size (some ⟨gX, 0, none⟩) nc (some ⟨gX2, 0, none⟩) t AX CX) := OX7.out.below hb7
  have RX8 : Hid (OutRow w7 grX r) := RX
  replace hx := chain hx hb7
  clear hb7 bT7 bW7 OS7 OX7 RX bX7
  obtain ⟨q0, q1, q2, q3⟩ := bX8.out
  go_wp2_with fail
  refine (PI.out _ _ _ _ OX8.out.tab RX8.out.at_).mono ?_
  rintro e w8 ⟨caG, ccG, raG, crG, AG, CG, rfl, OG, hb8⟩
  have h78 := hb8.size
  have bX9 : Hid (Box w8 w6.heap.size (.string t.1) (.slice (some ⟨gX, 0, none⟩) nc nc) (.slice (some ⟨gX2, 0, none⟩) nr nr)) := bX8.out.below hb8
  have bT9 : Hid (Box w8 w.heap.size (.string t.1) (.slice ca nc cc) (.slice ra nr cr)) := bT8.out.below hb8
  have bW9 : Hid (Box w8 w5.heap.size (.string T.1) (.slice caS mc ccS) (.slice raS mr crS)) := bW8.out.below hb8
  have OS9 : Hid (OutTab w8 w4.heap.size caS ccS raS T AS CS) := OS8.out.below hb8
  have OX9 : Hid (OutTab w8 V5.heap.size (some ⟨gX, 0, none⟩) nc (some ⟨gX2, 0, none⟩) t AX CX) := OX8.out.below hb8
  have RX9 : Hid (OutRow w8 grX r) := RX8.out.below hb8
  have OG9 : Hid (OutTab w8 w7.heap.size caG ccG raG T AG CG) := OG
  have hblkG : Hid (∀ b, tabBlks caG raG T AG b → w7.heap.size ≤ b ∧ b < w8.heap.size) := by
    have : ∀ b, tabBlks caG raG T AG b → w7.heap.size ≤ b ∧ b < w8.heap.size := fun b hb => ⟨OG.lo b hb, OG.lt b hb⟩
    exact this
  replace hx := chain hx hb8
  clear hb8 bT8 bW8 OS8 OX8 RX8 bX8 OG q0 q1 q2 q3
  obtain ⟨s0, s1, s2, s3⟩ := bW9.out
  go_wp2_with fail
  obtain ⟨V8, hV8⟩ : ∃ V, V = (w8.alloc (.cells #[.string T.1, .slice caG mc ccG, .slice raG mr crG] 36)) := ⟨_, rfl⟩
  rw [← hV8]
  have hA8 : Below w8.heap.size w8 V8 := by rw [hV8]; exact (Below.refl _ _).alloc (Nat.le_refl _) _
  have bG9 : Hid (Box V8 w8.heap.size (.string T.1) (.slice caG mc ccG) (.slice raG mr crG)) := by
    have : Box V8 w8.heap.size (.string T.1) (.slice caG mc ccG) (.slice raG mr crG) := by subst hV8; exact box3 (Below.refl _ _)
    exact this
  have hV8s : w8.heap.size < V8.heap.size := bG9.out.2.2.2
  refine (eqtab_laws _ _ _ _ _ _ _ _ T mc mr HMC.out HMR.out _ (OG9.out.below hA8).tab (OS9.out.below hA8).tab).mono ?_
  rintro e w9 ⟨rfl, hb9'⟩
  have hb9 : Below w8.heap.size w8 w9 := chain hA8 hb9'
  have bG10 : Hid (Box w9 w8.heap.size (.string T.1) (.slice caG mc ccG) (.slice raG mr crG)) := bG9.out.below hb9'
  have bX10 : Hid (Box w9 w6.heap.size (.string t.1) (.slice (some ⟨gX, 0, none⟩) nc nc) (.slice (some ⟨gX2, 0, none⟩) nr nr)) := bX9.out.below hb9
  have bT10 : Hid (Box w9 w.heap.size (.string t.1) (.slice ca nc cc) (.slice ra nr cr)) := bT9.out.below hb9
  have bW10 : Hid (Box w9 w5.heap.size (.string T.1) (.slice caS mc ccS) (.slice raS mr crS)) := bW9.out.below hb9
  have OS10 : Hid (OutTab w9 w4.heap.size caS ccS raS T AS CS) := OS9.out.below hb9
  have OX10 : Hid (OutTab w9 V5.heap.size (some ⟨gX, 0, none⟩) nc (some ⟨gX2, 0, none⟩) t AX CX) := OX9.out.below hb9
  have RX10 : Hid (OutRow w9 grX r) := RX9.out.below hb9
  have OG10 : Hid (OutTab w9 w7.heap.size caG ccG raG T AG CG) := OG9.out.below hb9
  have h89 := hb9'.size
  replace hx := chain hx hb9
  clear hb9 hb9' hA8 hV8 bT9 bW9 OS9 OX9 RX9 bX9 OG9 bG9 s0 s1 s2 s3
  have hbb : (b == b) = true := by simp
  obtain ⟨p0, p1, p2, p3⟩ := bT10.out
  obtain ⟨q0, q1, q2, q3⟩ := bX10.out
  go_wp2_with fail
  refine wp_region_held_drew (S := (fun w' => w'.cell? ⟨w.heap.size, 0, none⟩ = some (.string t.1) ∧ w'.cell? ⟨w.heap.size, 1, none⟩ = some (.slice ca nc cc) ∧ w'.cell? ⟨w.heap.size, 2, none⟩ = some (.slice ra nr cr) ∧ w'.cell? ⟨w6.heap.size, 0, none⟩ = some (.string t.1) ∧ w'.cell? ⟨w6.heap.size, 1, none⟩ = some (.slice (some ⟨gX, 0, none⟩) nc nc) ∧ w'.cell? ⟨w6.heap.size, 2, none⟩ = some (.slice (some ⟨gX2, 0, none⟩) nr nr))) (by kernel_rfl) ?_ (fun hHeld => ?_)
  · (((try dsimp only); (repeat' apply And.intro) <;> first | (go_keep; done) | (simp (disch := first | omega | (simp <;> omega) | fail) [*]; done) | fail))
  refine wpAnyH_take (i := 0) (by simp only [List.getElem?_toArray, List.getElem?_cons_zero]; rfl) (by kernel_rfl) (by kernel_rfl) (by kernel_rfl) (by intro _ _ _ h; exact h) (Or.inl ⟨by rfl, fun w hSw => by (dsimp only at hSw; go_simp; (try with_reducible rfl))⟩) (by assumption) ?_
  simp only [Act.put, List.setIfInBounds_toArray, List.set_cons_zero, List.set_cons_succ]
  refine wpAnyH_take (i := 1) (by simp only [List.getElem?_toArray, List.getElem?_cons_zero, List.getElem?_cons_succ]; rfl) (by kernel_rfl) (by kernel_rfl) (by kernel_rfl) (by intro _ _ _ h; exact h) (Or.inl ⟨by rfl, fun w hSw => by (dsimp only at hSw; go_simp; (try with_reducible rfl))⟩) (by assumption) ?_
  simp only [Act.put, List.setIfInBounds_toArray, List.set_cons_zero, List.set_cons_succ]
  refine wpAnyH_ready (rs := [2]) (by kernel_rfl) (by simp) ?_
  refine AllReadyH.cons (by simp only [List.getElem?_toArray, List.getElem?_cons_zero, List.getElem?_cons_succ]; rfl) ?_ AllReadyH.nil
  intro K hK
  go_simp
  refine (Z.out _ hx.drew).mono ?_
  rintro e w10 ⟨g5, g6, A10, C10, rfl, T3, hb10⟩
  have hx10 : Below w9.heap.size w9 w10 := undrew hb10
  have T10 : Hid (TabAt w10 (some ⟨g5, 0, none⟩) nc (some ⟨g6, 0, none⟩) t) := T3.tab
  clear T3 hb10
  clear p0 p1 p2 p3 q0 q1 q2 q3
  have bG11 : Hid (Box w10 w8.heap.size (.string T.1) (.slice caG mc ccG) (.slice raG mr crG)) := bG10.out.below hx10
  have bX11 : Hid (Box w10 w6.heap.size (.string t.1) (.slice (some ⟨gX, 0, none⟩) nc nc) (.slice (some ⟨gX2, 0, none⟩) nr nr)) := bX10.out.below hx10
  have bT11 : Hid (Box w10 w.heap.size (.string t.1) (.slice ca nc cc) (.slice ra nr cr)) := bT10.out.below hx10
  have bW11 : Hid (Box w10 w5.heap.size (.string T.1) (.slice caS mc ccS) (.slice raS mr crS)) := bW10.out.below hx10
  have OS11 : Hid (OutTab w10 w4.heap.size caS ccS raS T AS CS) := OS10.out.below hx10
  have OX11 : Hid (OutTab w10 V5.heap.size (some ⟨gX, 0, none⟩) nc (some ⟨gX2, 0, none⟩) t AX CX) := OX10.out.below hx10
  have RX11 : Hid (OutRow w10 grX r) := RX10.out.below hx10
  have OG11 : Hid (OutTab w10 w7.heap.size caG ccG raG T AG CG) := OG10.out.below hx10
  clear bG10 bX10 bT10 bW10 OS10 OX10 RX10 OG10
  replace hx := chain hx hx10
  have h910 := hx10.size
  clear hx10
  obtain ⟨p0, p1, p2, p3⟩ := bT11.out
  obtain ⟨q0, q1, q2, q3⟩ := bX11.out
  go_wp2_with fail
  refine hK.out _ _ ⟨p0, p1, p2, q0, q1, q2⟩ (fun hHeld => ?_)
  clear hK K
  try simp only [Act.put, List.setIfInBounds_toArray, List.set_cons_zero, List.set_cons_succ]
  refine wpAnyH_ready (rs := [3]) (by kernel_rfl) (by simp) ?_
  refine AllReadyH.cons (by simp only [List.getElem?_toArray, List.getElem?_cons_zero, List.getElem?_cons_succ]; rfl) ?_ AllReadyH.nil
  intro K hK
  go_simp
  refine (eqtab_laws _ _ _ _ _ _ _ _ t nc nr HNC.out HNR.out _ OX11.out.tab T10.out).mono ?_
  rintro e w11 ⟨rfl, hb11⟩
  clear p0 p1 p2 p3 q0 q1 q2 q3 T10
  have bG12 : Hid (Box w11 w8.heap.size (.string T.1) (.slice caG mc ccG) (.slice raG mr crG)) := bG11.out.below hb11
  have bX12 : Hid (Box w11 w6.heap.size (.string t.1) (.slice (some ⟨gX, 0, none⟩) nc nc) (.slice (some ⟨gX2, 0, none⟩) nr nr)) := bX11.out.below hb11
  have bT12 : Hid (Box w11 w.heap.size (.string t.1) (.slice ca nc cc) (.slice ra nr cr)) := bT11.out.below hb11
  have bW12 : Hid (Box w11 w5.heap.size (.string T.1) (.slice caS mc ccS) (.slice raS mr crS)) := bW11.out.below hb11
  have OS12 : Hid (OutTab w11 w4.heap.size caS ccS raS T AS CS) := OS11.out.below hb11
  have OX12 : Hid (OutTab w11 V5.heap.size (some ⟨gX, 0, none⟩) nc (some ⟨gX2, 0, none⟩) t AX CX) := OX11.out.below hb11
  have RX12 : Hid (OutRow w11 grX r) := RX11.out.below hb11
  have OG12 : Hid (OutTab w11 w7.heap.size caG ccG raG T AG CG) := OG11.out.below hb11
  clear bG11 bX11 bT11 bW11 OS11 OX11 RX11 OG11
  replace hx := chain hx hb11
  have h1011 := hb11.size
  clear hb11
  obtain ⟨p0, p1, p2, p3⟩ := bT12.out
  obtain ⟨q0, q1, q2, q3⟩ := bX12.out
  go_wp2_with fail
  refine hK.out _ _ ⟨p0, p1, p2, q0, q1, q2⟩ (fun hHeld => ?_)
  clear hK K
  try simp only [Act.put, List.setIfInBounds_toArray, List.set_cons_zero, List.set_cons_succ]
  refine wpAnyH_take (i := 4) (by simp only [List.getElem?_toArray, List.getElem?_cons_zero, List.getElem?_cons_succ]; rfl) (by kernel_rfl) (by kernel_rfl) (by kernel_rfl) (by intro _ _ _ h; exact h) (Or.inl ⟨by rfl, fun w hSw => by (dsimp only at hSw; go_simp; (try with_reducible rfl))⟩) (by assumption) ?_
  simp only [Act.put, List.setIfInBounds_toArray, List.set_cons_zero, List.set_cons_succ]
  refine wpAnyH_done (by kernel_rfl) ?_ _
  clear p0 p1 p2 p3 q0 q1 q2 q3
  go_wp2_with fail
  refine (ZR.out _ hx).mono ?_
  rintro e w12 ⟨gr3, rfl, _, R3, hb12⟩
  have R12 : Hid (OutRow w12 gr3 r) := R3
  clear R3
  have bG13 : Hid (Box w12 w8.heap.size (.string T.1) (.slice caG mc ccG) (.slice raG mr crG)) := bG12.out.below hb12
  have bX13 : Hid (Box w12 w6.heap.size (.string t.1) (.slice (some ⟨gX, 0, none⟩) nc nc) (.slice (some ⟨gX2, 0, none⟩) nr nr)) := bX12.out.below hb12
  have bT13 : Hid (Box w12 w.heap.size (.string t.1) (.slice ca nc cc) (.slice ra nr cr)) := bT12.out.below hb12
  have bW13 : Hid (Box w12 w5.heap.size (.string T.1) (.slice caS mc ccS) (.slice raS mr crS)) := bW12.out.below hb12
  have OS13 : Hid (OutTab w12 w4.heap.size caS ccS raS T AS CS) := OS12.out.below hb12
  have OX13 : Hid (OutTab w12 V5.heap.size (some ⟨gX, 0, none⟩) nc (some ⟨gX2, 0, none⟩) t AX CX) := OX12.out.below hb12
  have RX13 : Hid (OutRow w12 grX r) := RX12.out.below hb12
  have OG13 : Hid (OutTab w12 w7.heap.size caG ccG raG T AG CG) := OG12.out.below hb12
  clear bG12 bX12 bT12 bW12 OS12 OX12 RX12 OG12
  replace hx := chain hx hb12
  have h1112 := hb12.size
  clear hb12
  have QR : Hid (Calls Try.prog 28 #[.slice (some ⟨grX, 0, none⟩) n n, .slice (some ⟨gr3, 0, none⟩) n n] w12 fun e w' => e = .returned (.bool true) ∧ Below w12.heap.size w12 w') := by
    have := eqs_laws (some ⟨grX, 0, none⟩) (some ⟨gr3, 0, none⟩) n n r w12 RX13.out.at_ R12.out.at_ (by rw [HN.out]; exact hM)
    rw [HN.out] at this
    exact this
  go_wp2_with fail
  refine QR.out.mono ?_
  rintro e w13 ⟨rfl, hb13⟩
  clear QR R12
  have bG14 : Hid (Box w13 w8.heap.size (.string T.1) (.slice caG mc ccG) (.slice raG mr crG)) := bG13.out.below hb13
  have bX14 : Hid (Box w13 w6.heap.size (.string t.1) (.slice (some ⟨gX, 0, none⟩) nc nc) (.slice (some ⟨gX2, 0, none⟩) nr nr)) := bX13.out.below hb13
  have bT14 : Hid (Box w13 w.heap.size (.string t.1) (.slice ca nc cc) (.slice ra nr cr)) := bT13.out.below hb13
  have bW14 : Hid (Box w13 w5.heap.size (.string T.1) (.slice caS mc ccS) (.slice raS mr crS)) := bW13.out.below hb13
  have OS14 : Hid (OutTab w13 w4.heap.size caS ccS raS T AS CS) := OS13.out.below hb13
  have OX14 : Hid (OutTab w13 V5.heap.size (some ⟨gX, 0, none⟩) nc (some ⟨gX2, 0, none⟩) t AX CX) := OX13.out.below hb13
  have RX14 : Hid (OutRow w13 grX r) := RX13.out.below hb13
  have OG14 : Hid (OutTab w13 w7.heap.size caG ccG raG T AG CG) := OG13.out.below hb13
  clear bG13 bX13 bT13 bW13 OS13 OX13 RX13 OG13
  replace hx := chain hx hb13
  have h1213 := hb13.size
  clear hb13
  obtain ⟨q0, q1, q2, q3⟩ := bX14.out
  have hrk0 : (0 : Int) ≤ (rk : Int) := by omega
  go_wp2_with fail
  refine (marktab_laws _ _ _ _ t nc nr HNC.out HNR.out AX CX V5.heap.size 1 rk HRK.out _ OX14.out (by omega) (by omega)).mono ?_
  rintro e w14 ⟨rfl, _, wa, hba, K14⟩
  clear q0 q1 q2 q3
  have hsa := hba.size
  have hs14 := K14.size
  have nP : ∀ b, b < V5.heap.size ∨ w6.heap.size ≤ b → ¬ (inBlk (some ⟨gX, 0, none⟩) t.2.1.length b ∨ rowBlks t.2.2 AX b) := by
    rintro b hb (h | h)
    · have := hblkX.out b (.inl h); omega
    · have := hblkX.out b (.inr (.inl h)); omega
  clear OX14 bX14
  have bG15 : Hid (Box w14 w8.heap.size (.string T.1) (.slice caG mc ccG) (.slice raG mr crG)) := (bG14.out.below hba).keepS K14 (nP w8.heap.size (by omega))
  have bT15 : Hid (Box w14 w.heap.size (.string t.1) (.slice ca nc cc) (.slice ra nr cr)) := (bT14.out.below hba).keepS K14 (nP w.heap.size (by omega))
  have bW15 : Hid (Box w14 w5.heap.size (.string T.1) (.slice caS mc ccS) (.slice raS mr crS)) := (bW14.out.below hba).keepS K14 (nP w5.heap.size (by omega))
  have OS15 : Hid (OutTab w14 w4.heap.size caS ccS raS T AS CS) := (OS14.out.below hba).keepS K14 (fun b hb => nP b (by have := hblkS.out b hb; omega))
  have RX15 : Hid (OutRow w14 grX r) := (RX14.out.below hba).keepS K14 (nP grX (by omega))
  have OG15 : Hid (OutTab w14 w7.heap.size caG ccG raG T AG CG) := (OG14.out.below hba).keepS K14 (fun b hb => nP b (by have := hblkG.out b hb; omega))
  clear bG14 bT14 bW14 OS14 RX14 OG14
  replace hx : Below w.heap.size w w14 := (chain hx hba).trans (K14.below (fun b hb => by
    by_cases h : b < V5.heap.size
    · exact absurd hb (nP b (.inl h))
    · omega) (by omega))
  clear nP K14 hba
  have QM : Hid (Calls Try.prog 30 #[.slice (some ⟨grX, 0, none⟩) n n, .int .i64 (rk : Int)] w14 fun e w' => e = .returned (.int .i64 ((rk + 3 * n : Nat) : Int)) ∧ KeepS (inBlk (some ⟨grX, 0, none⟩) n) w14 w') := by
    have hpos : 0 < rk := by have := HRK.out; unfold markN at this; omega
    have h := mark_laws (some ⟨grX, 0, none⟩) n r rk w14 RX15.out.at_ RX15.out.free hpos (by rw [HN.out]; omega)
    rw [HN.out] at h
    have : Calls Try.prog 30 #[.slice (some ⟨grX, 0, none⟩) n n, .int .i64 (rk : Int)] w14 fun e w' => e = .returned (.int .i64 ((rk + 3 * n : Nat) : Int)) ∧ KeepS (inBlk (some ⟨grX, 0, none⟩) n) w14 w' := h.mono fun e w' h => ⟨h.1, h.2.2.2⟩
    exact this
  go_wp2_with fail
  refine QM.out.mono ?_
  rintro e w15 ⟨rfl, K15⟩
  have hs15 := K15.size
  have nP : ∀ b, b ≠ grX → ¬ inBlk (some ⟨grX, 0, none⟩) n b := by
    rintro b hb ⟨_, o, e⟩
    cases e; exact hb rfl
  have hba : Below w14.heap.size w14 w14 := Below.refl _ _
  clear QM RX15
  have bG16 : Hid (Box w15 w8.heap.size (.string T.1) (.slice caG mc ccG) (.slice raG mr crG)) := (bG15.out.below hba).keepS K15 (nP w8.heap.size (by omega))
  have bT16 : Hid (Box w15 w.heap.size (.string t.1) (.slice ca nc cc) (.slice ra nr cr)) := (bT15.out.below hba).keepS K15 (nP w.heap.size (by omega))
  have bW16 : Hid (Box w15 w5.heap.size (.string T.1) (.slice caS mc ccS) (.slice raS mr crS)) := (bW15.out.below hba).keepS K15 (nP w5.heap.size (by omega))
  have OS16 : Hid (OutTab w15 w4.heap.size caS ccS raS T AS CS) := (OS15.out.below hba).keepS K15 (fun b hb => nP b (by have := hblkS.out b hb; omega))
  have OG16 : Hid (OutTab w15 w7.heap.size caG ccG raG T AG CG) := (OG15.out.below hba).keepS K15 (fun b hb => nP b (by have := hblkG.out b hb; omega))
  clear bG15 bT15 bW15 OS15 OG15
  replace hx : Below w.heap.size w w15 := hx.trans (K15.below (fun b hb => by
    by_cases h : b = grX
    · omega
    · exact absurd hb (nP b h)) (by omega))
  clear nP K15 hba
  have hk0 : ¬ (((rk + 3 * n : Nat) : Int) < 0) := by omega
  obtain ⟨s0, s1, s2, s3⟩ := bW16.out
  obtain ⟨q0, q1, q2, q3⟩ := bG16.out
  go_wp2_with fail
  refine (eqtab_laws _ _ _ _ _ _ _ _ T mc mr HMC.out HMR.out _ OG16.out.tab OS16.out.tab).mono ?_
  rintro e w16 ⟨rfl, hb16⟩
  clear s0 s1 s2 s3 q0 q1 q2 q3
  have bG17 : Hid (Box w16 w8.heap.size (.string T.1) (.slice caG mc ccG) (.slice raG mr crG)) := bG16.out.below hb16
  have bT17 : Hid (Box w16 w.heap.size (.string t.1) (.slice ca nc cc) (.slice ra nr cr)) := bT16.out.below hb16
  have bW17 : Hid (Box w16 w5.heap.size (.string T.1) (.slice caS mc ccS) (.slice raS mr crS)) := bW16.out.below hb16
  have OS17 : Hid (OutTab w16 w4.heap.size caS ccS raS T AS CS) := OS16.out.below hb16
  have OG17 : Hid (OutTab w16 w7.heap.size caG ccG raG T AG CG) := OG16.out.below hb16
  clear bG16 bT16 bW16 OS16 OG16
  replace hx := chain hx hb16
  have hs16 := hb16.size
  clear hb16
  obtain ⟨q0, q1, q2, q3⟩ := bG17.out
  have hrT0 : (0 : Int) ≤ (rT : Int) := by omega
  go_wp2_with fail
  refine (marktab_laws _ _ _ _ T mc mr HMC.out HMR.out AG CG w7.heap.size 1 rT HRT.out _ OG17.out (by omega) (by omega)).mono ?_
  rintro e w17 ⟨rfl, M17, wa, hba, K17⟩
  clear q0 q1 q2 q3
  have hsa := hba.size
  have hs17 := K17.size
  have nP : ∀ b, b < w7.heap.size ∨ w8.heap.size ≤ b → ¬ (inBlk caG T.2.1.length b ∨ rowBlks T.2.2 AG b) := by
    rintro b hb (h | h)
    · have := hblkG.out b (.inl h); omega
    · have := hblkG.out b (.inr (.inl h)); omega
  have hlenG : mr ≤ maxLen := by rw [← HMR.out]; exact OG17.out.lenR
  have MG18 : Hid (MarkedT w17 caG raG T AG CG 1) := M17
  clear OG17 M17
  have bG18 : Hid (Box w17 w8.heap.size (.string T.1) (.slice caG mc ccG) (.slice raG mr crG)) := (bG17.out.below hba).keepS K17 (nP w8.heap.size (by omega))
  have bT18 : Hid (Box w17 w.heap.size (.string t.1) (.slice ca nc cc) (.slice ra nr cr)) := (bT17.out.below hba).keepS K17 (nP w.heap.size (by omega))
  have bW18 : Hid (Box w17 w5.heap.size (.string T.1) (.slice caS mc ccS) (.slice raS mr crS)) := (bW17.out.below hba).keepS K17 (nP w5.heap.size (by omega))
  have OS18 : Hid (OutTab w17 w4.heap.size caS ccS raS T AS CS) := (OS17.out.below hba).keepS K17 (fun b hb => nP b (by have := hblkS.out b hb; omega))
  clear bG17 bT17 bW17 OS17
  replace hx : Below w.heap.size w w17 := (chain hx hba).trans (K17.below (fun b hb => by
    by_cases h : b < w7.heap.size
    · exact absurd hb (nP b (.inl h))
    · omega) (by omega))
  clear nP K17 hba
  obtain ⟨q0, q1, q2, q3⟩ := bG18.out
  go_wp2_with fail
  refine (heldtab_laws _ _ _ _ T mc mr HMC.out HMR.out AG CG 1 rT HRT.out _ MG18.out (by omega) (by omega) hlenG).mono ?_
  rintro e w18 ⟨rfl, hb18⟩
  clear q0 q1 q2 q3
  have bG19 : Hid (Box w18 w8.heap.size (.string T.1) (.slice caG mc ccG) (.slice raG mr crG)) := bG18.out.below hb18
  have bT19 : Hid (Box w18 w.heap.size (.string t.1) (.slice ca nc cc) (.slice ra nr cr)) := bT18.out.below hb18
  have bW19 : Hid (Box w18 w5.heap.size (.string T.1) (.slice caS mc ccS) (.slice raS mr crS)) := bW18.out.below hb18
  have OS19 : Hid (OutTab w18 w4.heap.size caS ccS raS T AS CS) := OS18.out.below hb18
  have MG19 : Hid (MarkedT w18 caG raG T AG CG 1) := MG18.out.below hb18
  clear bG18 bT18 bW18 OS18 MG18
  replace hx := chain hx hb18
  clear hb18
  obtain ⟨p0, p1, p2, p3⟩ := bT19.out
  go_wp2_with fail
  refine (Z.out _ hx).mono ?_
  rintro e w19 ⟨g7, g8, A19, C19, rfl, T19, hb19⟩
  clear p0 p1 p2 p3
  have U19 : Hid (TabAt w19 (some ⟨g7, 0, none⟩) nc (some ⟨g8, 0, none⟩) t) := T19.tab
  clear T19
  have bG20 : Hid (Box w19 w8.heap.size (.string T.1) (.slice caG mc ccG) (.slice raG mr crG)) := bG19.out.below hb19
  have bT20 : Hid (Box w19 w.heap.size (.string t.1) (.slice ca nc cc) (.slice ra nr cr)) := bT19.out.below hb19
  have bW20 : Hid (Box w19 w5.heap.size (.string T.1) (.slice caS mc ccS) (.slice raS mr crS)) := bW19.out.below hb19
  have OS20 : Hid (OutTab w19 w4.heap.size caS ccS raS T AS CS) := OS19.out.below hb19
  have MG20 : Hid (MarkedT w19 caG raG T AG CG 1) := MG19.out.below hb19
  clear bG19 bT19 bW19 OS19 MG19
  replace hx := chain hx hb19
  clear hb19
  go_wp2_with fail
  refine (ZR.out _ hx).mono ?_
  rintro e w20 ⟨gr4, rfl, _, R4, hb20⟩
  have U20 : Hid (TabAt w20 (some ⟨g7, 0, none⟩) nc (some ⟨g8, 0, none⟩) t) := U19.out.below hb20
  clear U19
  have bG21 : Hid (Box w20 w8.heap.size (.string T.1) (.slice caG mc ccG) (.slice raG mr crG)) := bG20.out.below hb20
  have bT21 : Hid (Box w20 w.heap.size (.string t.1) (.slice ca nc cc) (.slice ra nr cr)) := bT20.out.below hb20
  have bW21 : Hid (Box w20 w5.heap.size (.string T.1) (.slice caS mc ccS) (.slice raS mr crS)) := bW20.out.below hb20
  have OS21 : Hid (OutTab w20 w4.heap.size caS ccS raS T AS CS) := OS20.out.below hb20
  have MG21 : Hid (MarkedT w20 caG raG T AG CG 1) := MG20.out.below hb20
  clear bG20 bT20 bW20 OS20 MG20
  replace hx := chain hx hb20
  clear hb20
  go_wp2_with fail
  refine (PI.out _ _ _ _ U20.out R4.at_).mono ?_
  rintro e w21 ⟨caH, ccH, raH, crH, AH, CH, rfl, OH, hb21⟩
  have OH21 : Hid (OutTab w21 w20.heap.size caH ccH raH T AH CH) := OH
  clear OH R4 U20
  have bG22 : Hid (Box w21 w8.heap.size (.string T.1) (.slice caG mc ccG) (.slice raG mr crG)) := bG21.out.below hb21
  have bT22 : Hid (Box w21 w.heap.size (.string t.1) (.slice ca nc cc) (.slice ra nr cr)) := bT21.out.below hb21
  have bW22 : Hid (Box w21 w5.heap.size (.string T.1) (.slice caS mc ccS) (.slice raS mr crS)) := bW21.out.below hb21
  have OS22 : Hid (OutTab w21 w4.heap.size caS ccS raS T AS CS) := OS21.out.below hb21
  have MG22 : Hid (MarkedT w21 caG raG T AG CG 1) := MG21.out.below hb21
  clear bG21 bT21 bW21 OS21 MG21
  replace hx := chain hx hb21
  clear hb21
  obtain ⟨s0, s1, s2, s3⟩ := bW22.out
  go_wp2_with fail
  obtain ⟨V21, hV21⟩ : ∃ V, V = (w21.alloc (.cells #[.string T.1, .slice caH mc ccH, .slice raH mr crH] 36)) := ⟨_, rfl⟩
  rw [← hV21]
  have hA21 : Below w21.heap.size w21 V21 := by rw [hV21]; exact (Below.refl _ _).alloc (Nat.le_refl _) _
  clear hV21
  refine (eqtab_laws _ _ _ _ _ _ _ _ T mc mr HMC.out HMR.out _ (OH21.out.below hA21).tab (OS22.out.below hA21).tab).mono ?_
  rintro e w22 ⟨rfl, hb22'⟩
  have hb22 : Below w21.heap.size w21 w22 := chain hA21 hb22'
  have bG23 : Hid (Box w22 w8.heap.size (.string T.1) (.slice caG mc ccG) (.slice raG mr crG)) := bG22.out.below hb22
  have MG23 : Hid (MarkedT w22 caG raG T AG CG 1) := MG22.out.below hb22
  replace hx := chain hx hb22
  clear hb22 hb22' hA21 s0 s1 s2 s3 bG22 MG22 bT22 bW22 OS22
  obtain ⟨q0, q1, q2, q3⟩ := bG23.out
  go_wp2_with fail
  refine (heldtab_laws _ _ _ _ T mc mr HMC.out HMR.out AG CG 1 rT HRT.out _ MG23.out (by omega) (by omega) hlenG).mono ?_
  rintro e w23 ⟨rfl, hb23⟩
  replace hx := chain hx hb23
  clear hb23 q0 q1 q2 q3
  go_wp2
  go_ret
  exact ⟨rfl, hx⟩

set_option maxRecDepth 100000 in
theorem lifted (os : Os) (started : os.Started) (H : Type) (enc : TypeId × Value → H) :
    ReturnsInHanded {} Try.checked os 6 .any (Rows.fnExactPutSpec.pre6 enc Try.prog Try.f6 Rows.fnExactPutRow.domain false) (Rows.fnExactPutSpec.post enc Try.prog Try.f6 false true false false) := by
  refine returnsInHanded_of_change (C := Try.checked) own started (by kernel_rfl) Try.func6
    (ChangeSpec.witness6 (enc := enc) (C := Try.checked) false ⟨#[], #[.agg #[.string ⟨#[]⟩, .slice none 0 0, .slice none 0 0], .slice none 0 0], []⟩ 8 (by kernel_rfl) (by kernel_rfl) (by kernel_rfl) (by kernel_rfl)) ?_
  intro W base args ds gs before hval0 hW hcnd _
  have hval : ∀ (j : Nat) t v, Try.f6.params[j]? = some t → args[j]? = some v → Value.okWide Try.prog W .any base t v := hval0
  have hW' := hW
  obtain ⟨p, q, hA0, hV, rfl, hfz, hnd⟩ := hW
  have hA : DataW.TrodAll enc Try.prog W 0 (fun _ => true) true Try.f6.params.toList args.toList ds p := hA0
  rw [Try.params6] at hA hval
  obtain ⟨v0, v1, d0, d1, p0, p1, rfl, rfl, rfl, h0, h1⟩ := trodAll_two hA
  obtain ⟨rfl, rfl⟩ := trodVars_none hV
  have k0 := h0
  have lt0 : ∀ x ∈ p0, x.block < W.heap.size := by obtain ⟨m, hm⟩ := k0; exact DataW.trod_lt m _ _ _ hm
  obtain ⟨t0, nc0, nr0, ca0, cc0, ra0, cr0, rfl, hnc0, hnr0, hT0⟩ := open_table (hval 0 32 v0 rfl rfl) h0
  have k1 := h1
  have lt1 : ∀ x ∈ p1, x.block < W.heap.size := by obtain ⟨m, hm⟩ := k1; exact DataW.trod_lt m _ _ _ hm
  obtain ⟨a1, n1, c1, rfl⟩ := okWide_slice Try.underlying45 (hval 1 45 v1 rfl rfl)
  obtain ⟨m1, hm1⟩ := h1
  obtain ⟨l1, hl1, hR1, hF1, hM1, hN1⟩ := open_cells Try.underlying45 Try.underlying70 (by kernel_rfl) rfl rfl rfl (by kernel_rfl) (by kernel_rfl) (by kernel_rfl) Try.underlying2 Try.underlying2 Try.underlying9 hm1
  clear hA0 hval0
  refine (walk ca0 cc0 ra0 cr0 t0 nc0 nr0 hnc0 hnr0 a1 c1 n1 l1 hl1 W hT0 hR1 hF1 hM1).mono fun e W' ⟨he, bel⟩ => ?_
  subst he
  exact ⟨_, rfl, _, _, _, [], _, [], hW', trodAll_mk1 (shut_bool Try.underlying4 _), trodAll_mk2 (Below.trod laidOut (by kernel_rfl) (of_decide_eq_true (by kernel_rfl)) k0 bel lt0) (Below.trod laidOut (by kernel_rfl) (of_decide_eq_true (by kernel_rfl)) k1 bel lt1), rfl, bel.frame _, fun h => by cases h⟩

theorem over : Rows.fnExactPutRow.holds Try.pinned (OpenSpec.ofChange Rows.fnExactPutSpec) :=
  OpenClaim.holds_of_wide 6 Try.f6 rfl rfl rfl rfl rfl rfl rfl ⟨rfl, rfl, rfl, rfl, rfl⟩ rfl rfl rfl rfl rfl (by kernel_rfl) Try.func6 (by kernel_rfl)
    (of_decide_eq_true (by kernel_rfl)) (by unfold Func.isWrapper; first | (rw [if_pos (by decide +kernel)]; kernel_rfl) | (rw [if_neg (by decide +kernel)]; exact ⟨rfl, rfl⟩))
    (fun os started H enc _ => lifted os started H enc)

end exPut

theorem fnExactPut_holds : Rows.FnExactPutSaid := exPut.over

end Go.Proofs.Ytbjpjhhdnbclbaj
