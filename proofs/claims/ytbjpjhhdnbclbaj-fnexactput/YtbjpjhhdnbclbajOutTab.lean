/-
  A table in memory of its own: what the marks want of it, and the contracts of the law's helpers that mark a table, and look whether the marks are still there.
-/
import Derived.Test.YtbjpjhhdnbclbajTab3
import Derived.Test.YtbjpjhhdnbclbajTakenX
import Derived.Test.YtbjpjhhdnbclbajStrs2
namespace Go.Proofs.Ytbjpjhhdnbclbaj
open Go.ChangeShapes Go.WideShapes Go.ChangeAt Go.RowKit
attribute [local go_sem ↓] Go.wp_at_zero Go.wp_at_succ
attribute [local simp] World.cell?_alloc_past World.cell?_alloc_at World.frozen?_alloc_at cell_far cell_off cell_here World.frozen?_alloc_past

theorem StrsAt.keepS {P : Nat → Prop} {w w' : World} {a : Option Addr} {l : List ByteArray} (h : StrsAt w a l) (hk : KeepS P w w') (hP : ∀ b, inBlk a l.length b → ¬ P b) : StrsAt w' a l := by
  intro j hj
  obtain ⟨b, o, ha, hlt, h0⟩ := h j hj
  exact ⟨b, o, ha, Nat.lt_of_lt_of_le hlt hk.size, by rw [hk.cell hlt (hP b ⟨by omega, o, ha⟩)]; exact h0⟩
theorem FreeS.keepS {P : Nat → Prop} {w w' : World} {a : Option Addr} {l : List ByteArray} (hf : FreeS w a l.length) (h : StrsAt w a l) (hk : KeepS P w w') (hP : ∀ b, inBlk a l.length b → ¬ P b) : FreeS w' a l.length := by
  intro b o ha j hj
  obtain ⟨b', o', ha', hlt, _⟩ := h j hj
  rw [ha] at ha'
  cases ha'
  rw [hk.frozen hlt (hP b ⟨by omega, o, ha⟩)]
  exact hf b o ha j hj
theorem HeadsAt.keepN {P : Nat → Prop} {w w' : World} {a : Option Addr} {L : List (List CT)} {A : Nat → Option Addr} {C : Nat → Nat} (h : HeadsAt w a L A C) (hk : KeepS P w w') (hP : ∀ b o, 0 < L.length → a = some ⟨b, o, none⟩ → ¬ P b) : HeadsAt w' a L A C := by
  intro i hi
  obtain ⟨b, o, ha, hlt, h0⟩ := h i hi
  exact ⟨b, o, ha, Nat.lt_of_lt_of_le hlt hk.size, by rw [hk.cell hlt (hP b o (by omega) ha)]; exact h0⟩
theorem Marked.keep0 {P : Nat → Prop} {w w' : World} {L : List (List CT)} {A : Nat → Option Addr} {k : Nat} (h : Marked w L A k 0) (hk : KeepS P w w') (hP : ∀ b, rowBlks L A b → ¬ P b) : Marked w' L A k 0 := by
  intro j hj
  obtain ⟨_, h2, h3⟩ := h j hj
  have hq : ∀ b, inBlk (A j) L[j].length b → ¬ P b := fun b hb => hP b ⟨j, hj, hb⟩
  exact ⟨fun hlt => by omega, fun _ => (h2 (Nat.zero_le _)).keepS hk hq, h3.keepS (h2 (Nat.zero_le _)) hk hq⟩
theorem Marked.keepL {P : Nat → Prop} {w w' : World} {L : List (List CT)} {A : Nat → Option Addr} {k : Nat} (h : Marked w L A k L.length) (hk : KeepS P w w') (hP : ∀ b, rowBlks L A b → ¬ P b) : Marked w' L A k L.length := by
  intro j hj
  obtain ⟨h1, _, h3⟩ := h j hj
  have hq : ∀ b, inBlk (A j) L[j].length b → ¬ P b := fun b hb => hP b ⟨j, hj, hb⟩
  refine ⟨fun _ => (h1 hj).keepS hk (by rw [marks_length]; exact hq), fun hle => by omega, ?_⟩
  have := Free.keepS (l := marks (k + 3 * offs L j) L[j].length) (by rw [marks_length]; exact h3) (h1 hj) hk (by rw [marks_length]; exact hq)
  rwa [marks_length] at this

/-- The blocks of a table. -/
def tabBlks (ca ra : Option Addr) (t : TB) (A : Nat → Option Addr) (b : Nat) : Prop :=
  inBlk ca t.2.1.length b ∨ rowBlks t.2.2 A b ∨ (0 < t.2.2.length ∧ ∃ o, ra = some ⟨b, o, none⟩)
/-- A table whose lists share no memory, all of it at base or behind. -/
structure OutTab (w : World) (base : Nat) (ca : Option Addr) (cc : Nat) (ra : Option Addr) (t : TB) (A : Nat → Option Addr) (C : Nat → Nat) : Prop where
  cols : StrsAt w ca t.2.1
  fit : FitS t.2.1
  len : t.2.1.length ≤ maxLen
  cap : t.2.1.length ≤ cc
  nilC : ca = none → cc = 0
  lenR : t.2.2.length ≤ maxLen
  name : t.1.size ≤ maxLen
  fitR : ∀ i (hi : i < t.2.2.length), Fit t.2.2[i]
  lenL : ∀ i (hi : i < t.2.2.length), t.2.2[i].length ≤ maxLen
  nilR : ∀ i, A i = none → C i = 0
  free : FreeS w ca t.2.1.length
  heads : HeadsAt w ra t.2.2 A C
  un : ∀ k, Marked w t.2.2 A k 0
  ap : Apart ra t.2.2 A
  colR : ∀ b, inBlk ca t.2.1.length b → ¬ rowBlks t.2.2 A b
  colH : ∀ b, inBlk ca t.2.1.length b → 0 < t.2.2.length → ∀ o, ra ≠ some ⟨b, o, none⟩
  lo : ∀ b, tabBlks ca ra t A b → base ≤ b
theorem OutTab.tab {w : World} {base : Nat} {ca : Option Addr} {cc : Nat} {ra : Option Addr} {t : TB} {A : Nat → Option Addr} {C : Nat → Nat} (h : OutTab w base ca cc ra t A C) : TabAt w ca cc ra t := by
  refine ⟨h.cols, h.fit, h.len, h.cap, h.nilC, ?_, h.lenR, h.name⟩
  intro i hi
  obtain ⟨b, o, e, hlt, c0⟩ := h.heads i hi
  exact ⟨b, o, A i, C i, e, hlt, c0, (h.un 0 i hi).2.1 (Nat.zero_le _), h.fitR i hi, h.lenL i hi, h.nilR i⟩
theorem OutTab.keepS {w w' : World} {P : Nat → Prop} {base : Nat} {ca : Option Addr} {cc : Nat} {ra : Option Addr} {t : TB} {A : Nat → Option Addr} {C : Nat → Nat} (h : OutTab w base ca cc ra t A C) (hk : KeepS P w w') (hP : ∀ b, tabBlks ca ra t A b → ¬ P b) : OutTab w' base ca cc ra t A C :=
  ⟨h.cols.keepS hk (fun b hb => hP b (.inl hb)), h.fit, h.len, h.cap, h.nilC, h.lenR, h.name, h.fitR, h.lenL, h.nilR, h.free.keepS h.cols hk (fun b hb => hP b (.inl hb)), h.heads.keepN hk (fun b o h0 e => hP b (.inr (.inr ⟨h0, o, e⟩))),
    fun k => (h.un k).keep0 hk (fun b hb => hP b (.inr (.inl hb))), h.ap, h.colR, h.colH, h.lo⟩
theorem OutTab.below {w w' : World} {base : Nat} {ca : Option Addr} {cc : Nat} {ra : Option Addr} {t : TB} {A : Nat → Option Addr} {C : Nat → Nat} (h : OutTab w base ca cc ra t A C) (hb : Below w.heap.size w w') : OutTab w' base ca cc ra t A C :=
  h.keepS (KeepS.ofBelow (P := fun _ => False) hb) (fun _ _ h => h)
theorem OutTab.lt {w : World} {base : Nat} {ca : Option Addr} {cc : Nat} {ra : Option Addr} {t : TB} {A : Nat → Option Addr} {C : Nat → Nat} (h : OutTab w base ca cc ra t A C) (b : Nat) (hb : tabBlks ca ra t A b) : b < w.heap.size := by
  rcases hb with ⟨h0, o, e⟩ | ⟨i, hi, h0, o, e⟩ | ⟨h0, o, e⟩
  · obtain ⟨b', o', e', hlt, _⟩ := h.cols 0 h0
    rw [e] at e'; cases e'; exact hlt
  · obtain ⟨b', o', e', hlt, _⟩ := (h.un 0 i hi).2.1 (Nat.zero_le _) 0 h0
    rw [e] at e'; cases e'; exact hlt
  · obtain ⟨b', o', e', hlt, _⟩ := h.heads 0 h0
    rw [e] at e'; cases e'; exact hlt

theorem own_freeS {w : World} {base g n c : Nat} {e : TypeId} {xs : List Value} (h : w.ownsRow base e 1 (.slice (some ⟨g, 0, none⟩) n c) n xs) : FreeS w (some ⟨g, 0, none⟩) n := by
  intro b o e j hj
  cases e
  rw [Nat.zero_add]
  exact h.frozenAt j

theorem NewTab.out {w : World} {base g g2 : Nat} {t : TB} (h : NewTab w base g g2 t) (hf : FitS t.2.1) (hn : t.1.size ≤ maxLen) (hc : t.2.1.length ≤ maxLen) (hr : t.2.2.length ≤ maxLen) (hfr : ∀ i (hi : i < t.2.2.length), Fit t.2.2[i]) (hmr : ∀ i (hi : i < t.2.2.length), t.2.2[i].length ≤ maxLen) :
    ∃ A C, OutTab w base (some ⟨g, 0, none⟩) t.2.1.length (some ⟨g2, 0, none⟩) t A C := by
  obtain ⟨G, hG⟩ := h.rows
  have hlo := h.lo
  have hap := h.apart
  refine ⟨fun i => some ⟨G i, 0, none⟩, fun i => (t.2.2.getD i []).length, own_strs h.cols, hf, hc, Nat.le_refl _, (fun e => by cases e), hr, hn, hfr, hmr, (fun i e => by cases e), own_freeS h.cols, hG.heads, fun k => hG.unmarked k, hG.apartA, ?_, ?_, ?_⟩
  · rintro b ⟨_, o, e⟩ hb
    cases e
    have := (hG.blks _ hb).1
    omega
  · rintro b ⟨_, o, e⟩ _ o' e'
    cases e
    cases e'
    omega
  · rintro b (⟨_, o, e⟩ | hb | ⟨_, o, e⟩)
    · cases e; exact hlo
    · have := (hG.blks _ hb).1; omega
    · cases e; omega

theorem totab_out (ca : Option Addr) (cc : Nat) (ra : Option Addr) (cr : Nat) (t : TB) (nc nr : Nat) (hnc : t.2.1.length = nc) (hnr : t.2.2.length = nr) (w : World) (ht : TabAt w ca cc ra t) (hl : 0 ≤ leftT t 1048576) :
    Calls Try.prog 16 #[.agg #[.string t.1, .slice ca nc cc, .slice ra nr cr]] w fun e w' => ∃ g g2 A C, e = .returned (.agg #[.string t.1, .slice (some ⟨g, 0, none⟩) nc nc, .slice (some ⟨g2, 0, none⟩) nr nr]) ∧ OutTab w' w.heap.size (some ⟨g, 0, none⟩) nc (some ⟨g2, 0, none⟩) t A C ∧ Below w.heap.size w w' := by
  obtain ⟨hq0, hq1, hq2, hq3⟩ := leftT_fit (t := t) (left := 1048576) (by omega) hl
  have hFit : ∀ i (hi : i < t.2.2.length), Fit t.2.2[i] := fun i hi => by
    obtain ⟨_, _, _, _, _, _, _, _, h, _⟩ := ht.rows i hi; exact h
  have hLen : ∀ i (hi : i < t.2.2.length), t.2.2[i].length ≤ maxLen := fun i hi => by
    obtain ⟨_, _, _, _, _, _, _, _, _, h, _⟩ := ht.rows i hi; exact h
  refine (totab_laws ca cc ra cr t nc nr hnc hnr w ht (by omega) (by omega) hq3).mono ?_
  rintro e w'' ⟨g, g2, rfl, hN, hb⟩
  obtain ⟨A, C, hO⟩ := hN.out ht.fit ht.name ht.len ht.lenR hFit hLen
  rw [hnc] at hO
  exact ⟨g, g2, A, C, rfl, hO, hb⟩

/-- Columns and rows that a call laid are a table in memory of its own. -/
theorem out_of_own {w : World} {base g c g2 c2 : Nat} {S : TypeId} {t : TB} {G D : Nat → Nat} (hS : S ≠ 49) (hS2 : S ≠ 72) (ho : w.ownsRow base S 1 (.slice (some ⟨g, 0, none⟩) t.2.1.length c) t.2.1.length (strV t.2.1)) (hr : OwnRows w base (.slice (some ⟨g2, 0, none⟩) t.2.2.length c2) t.2.2 G D)
    (hcap : t.2.1.length ≤ c) (hf : FitS t.2.1) (hn : t.1.size ≤ maxLen) (hc : t.2.1.length ≤ maxLen) (hrl : t.2.2.length ≤ maxLen) (hfr : ∀ i (hi : i < t.2.2.length), Fit t.2.2[i]) (hmr : ∀ i (hi : i < t.2.2.length), t.2.2[i].length ≤ maxLen) :
    OutTab w base (some ⟨g, 0, none⟩) c (some ⟨g2, 0, none⟩) t (fun i => some ⟨G i, 0, none⟩) D := by
  refine ⟨own_strs ho, hf, hc, hcap, (fun e => by cases e), hrl, hn, hfr, hmr, (fun i e => by cases e), own_freeS ho, hr.heads, fun k => hr.unmarked k, hr.apartA, ?_, ?_, ?_⟩
  · rintro b ⟨_, o, e⟩ ⟨i, hi, _, o', e'⟩
    cases e
    have := hr.inner i hi
    unfold headOf at this
    refine own_other ho this hS2 ?_
    simp only [Option.some.injEq, Addr.mk.injEq] at e'
    rw [e'.1]; rfl
  · rintro b ⟨_, o, e⟩ _ o' e'
    cases e
    cases e'
    exact own_other ho hr.outer hS rfl
  · rintro b (⟨_, o, e⟩ | hb | ⟨_, o, e⟩)
    · cases e; exact (ho.lt _ rfl).1
    · exact hr.blks _ hb
    · cases e; exact (hr.outer.lt _ rfl).1

/-- The marked table. -/
structure MarkedT (w : World) (ca ra : Option Addr) (t : TB) (A : Nat → Option Addr) (C : Nat → Nat) (k : Nat) : Prop where
  cols : StrsAt w ca (marksS k t.2.1.length)
  heads : HeadsAt w ra t.2.2 A C
  rows : Marked w t.2.2 A (k + t.2.1.length) t.2.2.length
theorem MarkedT.below {w w' : World} {ca ra : Option Addr} {t : TB} {A : Nat → Option Addr} {C : Nat → Nat} {k : Nat} (h : MarkedT w ca ra t A C k) (hb : Below w.heap.size w w') : MarkedT w' ca ra t A C k :=
  ⟨h.cols.below hb, h.heads.below hb, h.rows.below hb⟩
/-- The number behind the marks. -/
def markN (t : TB) (k : Nat) : Nat := k + t.2.1.length + 3 * offs t.2.2 t.2.2.length

theorem markstrN (n : Nat) (a : Option Addr) (cap : Nat) (l : List ByteArray) (hn : l.length = n) (k : Nat) (w : World) (hrow : StrsAt w a l) (hfree : FreeS w a l.length) (h0 : 0 < k) (h1 : k + n ≤ 1099511627776) :
    Calls Try.prog 54 #[.slice a n cap, .int .i64 k] w fun e w' => e = .returned (.int .i64 ((k + n : Nat) : Int)) ∧ StrsAt w' a (marksS k l.length) ∧ FreeS w' a l.length ∧ KeepS (inBlk a l.length) w w' := by
  subst hn; exact markstr_laws a cap l k w hrow hfree h0 h1
theorem markssK (n : Nat) (a : Option Addr) (cap : Nat) (L : List (List CT)) (hn : L.length = n) (A : Nat → Option Addr) (C : Nat → Nat) (k r : Nat) (hr : k + 3 * offs L L.length = r) (w : World) (hh : HeadsAt w a L A C) (hm : Marked w L A k 0) (ap : Apart a L A) (h0 : 0 < k) (h1 : r ≤ 1099511627776) (hlen : n ≤ maxLen) :
    Calls Try.prog 12 #[.slice a n cap, .int .i64 k] w fun e w' => e = .returned (.int .i64 (r : Int)) ∧ HeadsAt w' a L A C ∧ Marked w' L A k L.length ∧ KeepS (rowBlks L A) w w' := by
  subst hn hr; exact markss_laws a cap L A C k w hh hm ap h0 h1 hlen

set_option maxHeartbeats 2000000 in
theorem marktab_laws (ca : Option Addr) (cc : Nat) (ra : Option Addr) (cr : Nat) (t : TB) (nc nr : Nat) (hnc : t.2.1.length = nc) (hnr : t.2.2.length = nr) (A : Nat → Option Addr) (C : Nat → Nat) (base : Nat) (k r : Nat) (hr : markN t k = r) (w : World) (ht : OutTab w base ca cc ra t A C) (h0 : 0 < k) (h1 : r ≤ 1099511627776) :
    Calls Try.prog 29 #[.agg #[.string t.1, .slice ca nc cc, .slice ra nr cr], .int .i64 k] w fun e w' => e = .returned (.int .i64 (r : Int)) ∧ MarkedT w' ca ra t A C k ∧ (∃ wa, Below w.heap.size w wa ∧ KeepS (fun b => inBlk ca t.2.1.length b ∨ rowBlks t.2.2 A b) wa w') := by
  obtain ⟨nm, CC, L⟩ := t
  dsimp only at hnc hnr ⊢
  have HT : Hid (OutTab w base ca cc ra (nm, CC, L) A C) := ht
  have HNC : Hid (CC.length = nc) := hnc
  have HNR : Hid (L.length = nr) := hnr
  have HRR : Hid ((k + nc) + 3 * offs L L.length = r) := by
    have : (k + nc) + 3 * offs L L.length = r := by rw [← hr, ← hnc]; rfl
    exact this
  have hnrM : nr ≤ maxLen := by rw [← hnr]; exact ht.lenR
  have hkn : k + nc ≤ 1099511627776 := by have := HRR.out; omega
  clear ht hnc hnr hr
  obtain ⟨W, hW⟩ : ∃ W, W = (w.alloc (.cells #[.string nm, .slice ca nc cc, .slice ra nr cr] 36)) := ⟨_, rfl⟩
  have hA : Below w.heap.size w W := by rw [hW]; exact (Below.refl _ _).alloc (Nat.le_refl _) _
  have OW : Hid (OutTab W base ca cc ra (nm, CC, L) A C) := HT.out.below hA
  have hsz : w.heap.size < W.heap.size := by rw [hW]; simp
  have c0 : W.cell? ⟨w.heap.size, 2, none⟩ = some (.slice ra nr cr) := by rw [hW]; simp
  have hblk : Hid (∀ b, tabBlks ca ra (nm, CC, L) A b → b ≠ w.heap.size) := by
    have : ∀ b, tabBlks ca ra (nm, CC, L) A b → b ≠ w.heap.size := fun b hb e => by have := HT.out.lt b hb; omega
    exact this
  go_enter Try.func29, Try.ntmps29
  go_wp2_with fail
  rw [← hW]
  clear hW
  refine (markstrN nc ca cc CC HNC.out k _ OW.out.cols OW.out.free h0 hkn).mono ?_
  rintro e w1 ⟨rfl, S1, F1, K1⟩
  have c1 : w1.cell? ⟨w.heap.size, 2, none⟩ = some (.slice ra nr cr) := by rw [K1.cell hsz (fun hb => hblk.out _ (.inl hb) rfl)]; exact c0
  have HH : Hid (HeadsAt w1 ra L A C) := OW.out.heads.keepN K1 (fun b o h0 e hb => OW.out.colH b hb h0 o e)
  have HM : Hid (∀ k, Marked w1 L A k 0) := by
    have : ∀ k, Marked w1 L A k 0 := fun k => (OW.out.un k).keep0 K1 (fun b hb hb2 => OW.out.colR b hb2 hb)
    exact this
  have HS : Hid (StrsAt w1 ca (marksS k CC.length)) := S1
  have HK : Hid (KeepS (inBlk ca CC.length) W w1) := K1
  clear S1 F1 K1
  go_wp2_with fail
  refine (markssK nr ra cr L HNR.out A C (k + nc) r HRR.out _ HH.out (HM.out _) OW.out.ap (by omega) h1 hnrM).mono ?_
  rintro e w2 ⟨rfl, H2, M2, K2⟩
  have FIN : Hid (MarkedT w2 ca ra (nm, CC, L) A C k ∧ (∃ wa, Below w.heap.size w wa ∧ KeepS (fun b => inBlk ca CC.length b ∨ rowBlks L A b) wa w2)) := by
    have : MarkedT w2 ca ra (nm, CC, L) A C k ∧ (∃ wa, Below w.heap.size w wa ∧ KeepS (fun b => inBlk ca CC.length b ∨ rowBlks L A b) wa w2) := by
      refine ⟨⟨HS.out.keepS K2 (fun b hb hb2 => OW.out.colR b (by rw [marksS_length] at hb; exact hb) hb2), H2, ?_⟩, W, hA, (HK.out.mono fun b hb => .inl hb).trans (K2.mono fun b hb => .inr hb)⟩
      rw [show k + (nm, CC, L).2.1.length = k + nc by rw [show (nm, CC, L).2.1.length = nc from HNC.out]]
      exact M2
    exact this
  clear H2 M2 K2
  go_wp2
  go_ret
  exact ⟨rfl, FIN.out⟩

theorem heldstrN (n : Nat) (a : Option Addr) (cap : Nat) (k : Nat) (w : World) (hrow : StrsAt w a (marksS k n)) (h0 : 0 < k) (h1 : k + n ≤ 1099511627776) :
    Calls Try.prog 56 #[.slice a n cap, .int .i64 k] w fun e w' => e = .returned (.int .i64 ((k + n : Nat) : Int)) ∧ Below w.heap.size w w' := heldstr_laws a cap n k w hrow h0 h1
theorem heldssK (n : Nat) (a : Option Addr) (cap : Nat) (L : List (List CT)) (hn : L.length = n) (A : Nat → Option Addr) (C : Nat → Nat) (k r : Nat) (hr : k + 3 * offs L L.length = r) (w : World) (hh : HeadsAt w a L A C) (hm : Marked w L A k L.length) (h0 : 0 < k) (h1 : r ≤ 1099511627776) (hlen : n ≤ maxLen) :
    Calls Try.prog 13 #[.slice a n cap, .int .i64 k] w fun e w' => e = .returned (.int .i64 (r : Int)) ∧ Below w.heap.size w w' := by
  subst hn hr; exact heldss_laws a cap L A C k w hh hm h0 h1 hlen

set_option maxHeartbeats 2000000 in
theorem heldtab_laws (ca : Option Addr) (cc : Nat) (ra : Option Addr) (cr : Nat) (t : TB) (nc nr : Nat) (hnc : t.2.1.length = nc) (hnr : t.2.2.length = nr) (A : Nat → Option Addr) (C : Nat → Nat) (k r : Nat) (hr : markN t k = r) (w : World) (ht : MarkedT w ca ra t A C k) (h0 : 0 < k) (h1 : r ≤ 1099511627776) (hnrM : nr ≤ maxLen) :
    Calls Try.prog 31 #[.agg #[.string t.1, .slice ca nc cc, .slice ra nr cr], .int .i64 k] w fun e w' => e = .returned (.int .i64 (r : Int)) ∧ Below w.heap.size w w' := by
  obtain ⟨nm, CC, L⟩ := t
  dsimp only at hnc hnr ⊢
  have HT : Hid (MarkedT w ca ra (nm, CC, L) A C k) := ht
  have HNC : Hid (CC.length = nc) := hnc
  have HNR : Hid (L.length = nr) := hnr
  have HRR : Hid ((k + nc) + 3 * offs L L.length = r) := by
    have : (k + nc) + 3 * offs L L.length = r := by rw [← hr, ← hnc]; rfl
    exact this
  have hkn : k + nc ≤ 1099511627776 := by have := HRR.out; omega
  clear ht hnc hnr hr
  obtain ⟨W, hW⟩ : ∃ W, W = (w.alloc (.cells #[.string nm, .slice ca nc cc, .slice ra nr cr] 36)) := ⟨_, rfl⟩
  have hA : Below w.heap.size w W := by rw [hW]; exact (Below.refl _ _).alloc (Nat.le_refl _) _
  have S0 : Hid (StrsAt W ca (marksS k nc)) := by
    have := (HT.out.below hA).cols
    rw [show (nm, CC, L).2.1.length = nc from HNC.out] at this
    exact this
  have hk1 : ¬ (((k + nc : Nat) : Int) < 0) := by omega
  have hr1 : ¬ ((r : Int) < 0) := by omega
  go_enter Try.func31, Try.ntmps31
  go_wp2_with fail
  rw [← hW]
  refine (heldstrN nc ca cc k _ S0.out h0 hkn).mono ?_
  rintro e w1 ⟨rfl, hb1⟩
  have hp : w1.cell? ⟨w.heap.size, 0, none⟩ = some (.string nm) ∧ w1.cell? ⟨w.heap.size, 1, none⟩ = some (.slice ca nc cc) ∧ w1.cell? ⟨w.heap.size, 2, none⟩ = some (.slice ra nr cr) ∧ w.heap.size < w1.heap.size := by
    subst hW; exact box3 hb1
  obtain ⟨p0, p1, p2, p3⟩ := hp
  have hx := chain hA hb1
  have M1 : Hid (HeadsAt w1 ra L A C ∧ Marked w1 L A (k + nc) L.length) := by
    have h := HT.out.below hx
    have : HeadsAt w1 ra L A C ∧ Marked w1 L A (k + nc) L.length := ⟨h.heads, by have := h.rows; rw [show (nm, CC, L).2.1.length = nc from HNC.out] at this; exact this⟩
    exact this
  clear hb1 hW hA
  go_wp2_with fail
  refine (heldssK nr ra cr L HNR.out A C (k + nc) r HRR.out _ M1.out.1 M1.out.2 (by omega) h1 hnrM).mono ?_
  rintro e w2 ⟨rfl, hb2⟩
  go_wp2
  go_ret
  exact ⟨rfl, chain hx hb2⟩

end Go.Proofs.Ytbjpjhhdnbclbaj
