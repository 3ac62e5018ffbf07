/-
  A part of the proof: Strs2, OutTab, Box, TabsOut, TabsOwn.
-/
import Derived.Test.YtkbfgecdhiaiiakGreatPart2
import Derived.Test.YtkbfgecdhiaiiakGreatPart8
import Derived.Test.YtkbfgecdhiaiiakGreatPart9
import Derived.Maps.AppendAt

/-
  The contracts of the law's helpers that mark the texts of a list, one number behind the other, and that look whether the marks are still there.
-/
namespace Go.Proofs.YtkbfgecdhiaiiakGreat
open Go.ChangeShapes Go.WideShapes Go.ChangeAt Go.RowKit
attribute [local go_sem ↓] Go.wp_at_zero Go.wp_at_succ

/-- The marks of a list of n texts. -/
def marksS (k n : Nat) : List ByteArray := (List.range n).map fun i => mt (k + i)
theorem marksS_length (k n : Nat) : (marksS k n).length = n := by simp [marksS]
theorem marksS_at (k n i : Nat) (h : i < (marksS k n).length) : (marksS k n)[i] = mt (k + i) := by simp [marksS]
theorem marksS_step (k : Nat) (l : List ByteArray) (i : Nat) (h : i < l.length) : (marksS k i ++ l.drop i).set i (mt (k + i)) = marksS k (i + 1) ++ l.drop (i + 1) := by
  rw [List.set_append_right _ _ (by rw [marksS_length]; omega), marksS_length, Nat.sub_self]
  have e : l.drop i = l[i] :: l.drop (i + 1) := List.drop_eq_getElem_cons h
  rw [e, List.set_cons_zero]
  simp [marksS, List.range_succ]
/-- The texts of a slice may be written. -/
def FreeS (w : World) (a : Option Addr) (n : Nat) : Prop := ∀ b o, a = some ⟨b, o, none⟩ → ∀ j, j < n → w.frozen? ⟨b, o + j, none⟩ = false
theorem StrsAt.upd {w w' : World} {b o : Nat} {l : List ByteArray} {i : Nat} {x : ByteArray} (h : StrsAt w (some ⟨b, o, none⟩) l) (hs : w.heap.size ≤ w'.heap.size)
    (hfar : ∀ q, q ≠ o + i → w'.cell? ⟨b, q, none⟩ = w.cell? ⟨b, q, none⟩) (h0 : w'.cell? ⟨b, o + i, none⟩ = some (.string x)) : StrsAt w' (some ⟨b, o, none⟩) (l.set i x) := by
  intro j hj
  have hj' : j < l.length := by simpa using hj
  obtain ⟨b', o', e, hlt, c0⟩ := h j hj'
  cases e
  refine ⟨b, o, rfl, Nat.lt_of_lt_of_le hlt hs, ?_⟩
  by_cases hij : i = j
  · subst hij
    rw [List.getElem_set_self]; exact h0
  · rw [List.getElem_set_ne hij, hfar _ (by omega)]; exact c0
theorem FreeS.upd {w w' : World} {a : Option Addr} {n : Nat} (h : FreeS w a n) (hf : ∀ b o q, a = some ⟨b, o, none⟩ → w'.frozen? ⟨b, q, none⟩ = w.frozen? ⟨b, q, none⟩) : FreeS w' a n :=
  fun b o e j hj => by rw [hf b o _ e]; exact h b o e j hj

set_option maxHeartbeats 2000000 in
theorem markstr_laws (a : Option Addr) (cap : Nat) (l : List ByteArray) (k : Nat) (w : World) (hrow : StrsAt w a l) (hfree : FreeS w a l.length) (h0 : 0 < k) (h1 : k + l.length ≤ 1099511627776) :
    Calls Tryz.prog 14 #[.slice a l.length cap, .int .i64 k] w fun e w' => e = .returned (.int .i64 ((k + l.length : Nat) : Int)) ∧ StrsAt w' a (marksS k l.length) ∧ FreeS w' a l.length ∧ KeepS (inBlk a l.length) w w' := by
  have hR : Hid (StrsAt w a l) := hrow
  have hF : Hid (FreeS w a l.length) := hfree
  clear hrow hfree
  go_enter Tryz.func14, Tryz.ntmps14
  go_wp2
  go_loopw [1, 5] (fun s i wr => ∃ m : Nat, m ≤ l.length ∧ i = .int .i64 m ∧ s = .int .i64 ((k + m : Nat) : Int) ∧ Hid (StrsAt wr a (marksS k m ++ l.drop m)) ∧ Hid (FreeS wr a l.length) ∧ KeepS (inBlk a l.length) w wr)
    (fun _ i _ => l.length - (intOf i).toNat)
  case atStart => exact ⟨0, Nat.zero_le _, rfl, by simp, by simpa [marksS] using hR, hF, KeepS.refl _ _⟩
  case round =>
    obtain ⟨m, hm, rfl, rfl, hr, hf, hkp⟩ := hrel
    by_cases hlt : m < l.length
    · have hl2 : m < (marksS k m ++ l.drop m).length := by rw [List.length_append, marksS_length, List.length_drop]; omega
      obtain ⟨b, o, rfl, hbw, c0⟩ := hr.out m hl2
      generalize (marksS k m ++ l.drop m)[m] = x at c0
      have hi0 : (0 : Int) ≤ (m : Int) := by omega
      have hi1 : (m : Int) < (l.length : Int) := by omega
      have f0 := hf.out b o rfl m hlt
      go_wp2_with fail
      refine (text_lawsN (k + m) _ (by omega) _ (by omega) (by omega)).mono ?_
      rintro e w2 ⟨rfl, hb2⟩
      have g0 : w2.cell? ⟨b, o + m, none⟩ = some (.string x) := by rw [hb2.cell (p := ⟨b, o + m, none⟩) hbw]; exact c0
      have e0 : w2.frozen? ⟨b, o + m, none⟩ = false := by rw [hb2.frozen (p := ⟨b, o + m, none⟩) hbw]; exact f0
      go_wp2
      go_roundw
      case rel =>
        refine ⟨m + 1, by omega, by go_num, by go_num, ?_, ?_, ?_⟩
        · show StrsAt _ _ _
          rw [← marksS_step k l m hlt]
          refine hr.out.upd (by simpa using hb2.size) ?_ ?_
          · intro q q0
            rw [cell_off _ _ _ _ _ q0, hb2.cell (p := ⟨b, q, none⟩) hbw]
          · rw [cell_here _ _ _ _ (by rw [g0]; rfl)]
        · show FreeS _ _ _
          refine hf.out.upd ?_
          intro b' o' q e
          cases e
          rw [World.frozen?_setCell, hb2.frozen (p := ⟨b, q, none⟩) hbw]
        · exact (hkp.trans (KeepS.ofBelow hb2)).setCell (p := ⟨b, o + m, none⟩) ⟨by omega, o, rfl⟩ _
      case measure => simp [intOf]; omega
    · have hkl : m = l.length := by omega
      subst hkl
      rw [List.drop_length, List.append_nil] at hr
      go_wp2
      go_ret
      exact ⟨rfl, hr.out, hf.out, hkp⟩

set_option maxHeartbeats 2000000 in
theorem heldstr_laws (a : Option Addr) (cap n : Nat) (k : Nat) (w : World) (hrow : StrsAt w a (marksS k n)) (h0 : 0 < k) (h1 : k + n ≤ 1099511627776) :
    Calls Tryz.prog 32 #[.slice a n cap, .int .i64 k] w fun e w' => e = .returned (.int .i64 ((k + n : Nat) : Int)) ∧ Below w.heap.size w w' := by
  have hR : Hid (StrsAt w a (marksS k n)) := hrow
  clear hrow
  go_enter Tryz.func32, Tryz.ntmps32
  go_wp2
  go_loopw [1, 5] (fun s i wr => ∃ m : Nat, m ≤ n ∧ i = .int .i64 m ∧ s = .int .i64 ((k + m : Nat) : Int) ∧ Below w.heap.size w wr)
    (fun _ i _ => n - (intOf i).toNat)
  case atStart => exact ⟨0, Nat.zero_le _, rfl, by simp, Below.refl _ _⟩
  case round =>
    obtain ⟨m, hm, rfl, rfl, hx⟩ := hrel
    by_cases hlt : m < n
    · have hl2 : m < (marksS k n).length := by rw [marksS_length]; exact hlt
      obtain ⟨b, o, rfl, hbw, c0⟩ := hR.out.below hx m hl2
      rw [marksS_at] at c0
      generalize hT : mt (k + m) = T at c0
      have hTT : (T.toList == T.toList) = true := by simp
      have hi0 : (0 : Int) ≤ (m : Int) := by omega
      have hi1 : (m : Int) < (n : Int) := by omega
      go_wp2_with fail
      go_region_held3 (fun w' => w'.cell? ⟨b, o + m, none⟩ = some (.string T))
        (((try dsimp only); first | (go_keep; done) | (simp (disch := first | omega | (simp <;> omega) | fail) [*]; done) | fail))
        ((go_at_call 30; refine (text_lawsN (k + m) _ (by omega) _ (by omega) (by omega)).mono ?_; rw [hT]; rintro e w1 ⟨rfl, hb1⟩; obtain ⟨hc, hf⟩ := bcell hb1))
      all_goals
        go_wp2
        go_roundw
        case rel => exact ⟨m + 1, by omega, by go_num, by go_num, chain hx (undrew hb1)⟩
        case measure => simp [intOf]; omega
    · have hkl : m = n := by omega
      subst hkl
      go_wp2
      go_ret
      exact ⟨rfl, hx⟩

end Go.Proofs.YtkbfgecdhiaiiakGreat

/-
  A table in memory of its own: what the marks want of it, and the contracts of the law's helpers that mark a table, and look whether the marks are still there.
-/
namespace Go.Proofs.YtkbfgecdhiaiiakGreat
open Go.ChangeShapes Go.WideShapes Go.ChangeAt Go.RowKit
attribute [local go_sem ↓] Go.wp_at_zero Go.wp_at_succ
attribute [local simp] World.cell?_alloc_past World.cell?_alloc_at World.frozen?_alloc_at cell_far cell_off cell_here World.frozen?_alloc_past

theorem StrsAt.keepS {P : Nat → Prop} {w w' : World} {a : Option Addr} {l : List ByteArray} (h : StrsAt w a l) (hk : KeepS P w w') (hP : ∀ b, inBlk a l.length b → ¬ P b) : StrsAt w' a l := by
  intro j hj
  obtain ⟨b, o, ha, hlt, h0⟩ := h j hj
  exact ⟨b, o, ha, Nat.lt_of_lt_of_le hlt hk.size, by rw [hk.cell hlt (hP b ⟨by omega, o, ha⟩)]; exact h0⟩
theorem FreeS.keepS {P : Nat → Prop} {w w' : World} {a : Option Addr} {l : List ByteArray} (hf : FreeS w a l.length) (h : StrsAt w a l) (hk : KeepS P w w') (hP : ∀ b, inBlk a l.length b → ¬ P b) : FreeS w' a l.length := by
  intro b o ha j hj
  obtain ⟨b', o', ha', hlt, _⟩ := h j hj
  rw [ha] at ha'
  cases ha'
  rw [hk.frozen hlt (hP b ⟨by omega, o, ha⟩)]
  exact hf b o ha j hj
theorem HeadsAt.keepN {P : Nat → Prop} {w w' : World} {a : Option Addr} {L : List (List CT)} {A : Nat → Option Addr} {C : Nat → Nat} (h : HeadsAt w a L A C) (hk : KeepS P w w') (hP : ∀ b o, 0 < L.length → a = some ⟨b, o, none⟩ → ¬ P b) : HeadsAt w' a L A C := by
  intro i hi
  obtain ⟨b, o, ha, hlt, h0⟩ := h i hi
  exact ⟨b, o, ha, Nat.lt_of_lt_of_le hlt hk.size, by rw [hk.cell hlt (hP b o (by omega) ha)]; exact h0⟩
theorem Marked.keep0 {P : Nat → Prop} {w w' : World} {L : List (List CT)} {A : Nat → Option Addr} {k : Nat} (h : Marked w L A k 0) (hk : KeepS P w w') (hP : ∀ b, rowBlks L A b → ¬ P b) : Marked w' L A k 0 := by
  intro j hj
  obtain ⟨_, h2, h3⟩ := h j hj
  have hq : ∀ b, inBlk (A j) L[j].length b → ¬ P b := fun b hb => hP b ⟨j, hj, hb⟩
  exact ⟨fun hlt => by omega, fun _ => (h2 (Nat.zero_le _)).keepS hk hq, h3.keepS (h2 (Nat.zero_le _)) hk hq⟩
theorem Marked.keepL {P : Nat → Prop} {w w' : World} {L : List (List CT)} {A : Nat → Option Addr} {k : Nat} (h : Marked w L A k L.length) (hk : KeepS P w w') (hP : ∀ b, rowBlks L A b → ¬ P b) : Marked w' L A k L.length := by
  intro j hj
  obtain ⟨h1, _, h3⟩ := h j hj
  have hq : ∀ b, inBlk (A j) L[j].length b → ¬ P b := fun b hb => hP b ⟨j, hj, hb⟩
  refine ⟨fun _ => (h1 hj).keepS hk (by rw [marks_length]; exact hq), fun hle => by omega, ?_⟩
  have := Free.keepS (l := marks (k + 3 * offs L j) L[j].length) (by rw [marks_length]; exact h3) (h1 hj) hk (by rw [marks_length]; exact hq)
  rwa [marks_length] at this

/-- The blocks of a table. -/
def tabBlks (ca ra : Option Addr) (t : TB) (A : Nat → Option Addr) (b : Nat) : Prop :=
  inBlk ca t.2.1.length b ∨ rowBlks t.2.2 A b ∨ (0 < t.2.2.length ∧ ∃ o, ra = some ⟨b, o, none⟩)
/-- A table whose lists share no memory, all of it at base or behind. -/
structure OutTab (w : World) (base : Nat) (ca : Option Addr) (cc : Nat) (ra : Option Addr) (t : TB) (A : Nat → Option Addr) (C : Nat → Nat) : Prop where
  cols : StrsAt w ca t.2.1
  fit : FitS t.2.1
  len : t.2.1.length ≤ maxLen
  cap : t.2.1.length ≤ cc
  nilC : ca = none → cc = 0
  lenR : t.2.2.length ≤ maxLen
  name : t.1.size ≤ maxLen
  fitR : ∀ i (hi : i < t.2.2.length), Fit t.2.2[i]
  lenL : ∀ i (hi : i < t.2.2.length), t.2.2[i].length ≤ maxLen
  nilR : ∀ i, A i = none → C i = 0
  free : FreeS w ca t.2.1.length
  heads : HeadsAt w ra t.2.2 A C
  un : ∀ k, Marked w t.2.2 A k 0
  ap : Apart ra t.2.2 A
  colR : ∀ b, inBlk ca t.2.1.length b → ¬ rowBlks t.2.2 A b
  colH : ∀ b, inBlk ca t.2.1.length b → 0 < t.2.2.length → ∀ o, ra ≠ some ⟨b, o, none⟩
  lo : ∀ b, tabBlks ca ra t A b → base ≤ b
theorem OutTab.tab {w : World} {base : Nat} {ca : Option Addr} {cc : Nat} {ra : Option Addr} {t : TB} {A : Nat → Option Addr} {C : Nat → Nat} (h : OutTab w base ca cc ra t A C) : TabAt w ca cc ra t := by
  refine ⟨h.cols, h.fit, h.len, h.cap, h.nilC, ?_, h.lenR, h.name⟩
  intro i hi
  obtain ⟨b, o, e, hlt, c0⟩ := h.heads i hi
  exact ⟨b, o, A i, C i, e, hlt, c0, (h.un 0 i hi).2.1 (Nat.zero_le _), h.fitR i hi, h.lenL i hi, h.nilR i⟩
theorem OutTab.keepS {w w' : World} {P : Nat → Prop} {base : Nat} {ca : Option Addr} {cc : Nat} {ra : Option Addr} {t : TB} {A : Nat → Option Addr} {C : Nat → Nat} (h : OutTab w base ca cc ra t A C) (hk : KeepS P w w') (hP : ∀ b, tabBlks ca ra t A b → ¬ P b) : OutTab w' base ca cc ra t A C :=
  ⟨h.cols.keepS hk (fun b hb => hP b (.inl hb)), h.fit, h.len, h.cap, h.nilC, h.lenR, h.name, h.fitR, h.lenL, h.nilR, h.free.keepS h.cols hk (fun b hb => hP b (.inl hb)), h.heads.keepN hk (fun b o h0 e => hP b (.inr (.inr ⟨h0, o, e⟩))),
    fun k => (h.un k).keep0 hk (fun b hb => hP b (.inr (.inl hb))), h.ap, h.colR, h.colH, h.lo⟩
theorem OutTab.below {w w' : World} {base : Nat} {ca : Option Addr} {cc : Nat} {ra : Option Addr} {t : TB} {A : Nat → Option Addr} {C : Nat → Nat} (h : OutTab w base ca cc ra t A C) (hb : Below w.heap.size w w') : OutTab w' base ca cc ra t A C :=
  h.keepS (KeepS.ofBelow (P := fun _ => False) hb) (fun _ _ h => h)
theorem OutTab.lt {w : World} {base : Nat} {ca : Option Addr} {cc : Nat} {ra : Option Addr} {t : TB} {A : Nat → Option Addr} {C : Nat → Nat} (h : OutTab w base ca cc ra t A C) (b : Nat) (hb : tabBlks ca ra t A b) : b < w.heap.size := by
  rcases hb with ⟨h0, o, e⟩ | ⟨i, hi, h0, o, e⟩ | ⟨h0, o, e⟩
  · obtain ⟨b', o', e', hlt, _⟩ := h.cols 0 h0
    rw [e] at e'; cases e'; exact hlt
  · obtain ⟨b', o', e', hlt, _⟩ := (h.un 0 i hi).2.1 (Nat.zero_le _) 0 h0
    rw [e] at e'; cases e'; exact hlt
  · obtain ⟨b', o', e', hlt, _⟩ := h.heads 0 h0
    rw [e] at e'; cases e'; exact hlt

theorem own_freeS {w : World} {base g n c : Nat} {e : TypeId} {xs : List Value} (h : w.ownsRow base e 1 (.slice (some ⟨g, 0, none⟩) n c) n xs) : FreeS w (some ⟨g, 0, none⟩) n := by
  intro b o e j hj
  cases e
  rw [Nat.zero_add]
  exact h.frozenAt j

theorem NewTab.out {w : World} {base g g2 : Nat} {t : TB} (h : NewTab w base g g2 t) (hf : FitS t.2.1) (hn : t.1.size ≤ maxLen) (hc : t.2.1.length ≤ maxLen) (hr : t.2.2.length ≤ maxLen) (hfr : ∀ i (hi : i < t.2.2.length), Fit t.2.2[i]) (hmr : ∀ i (hi : i < t.2.2.length), t.2.2[i].length ≤ maxLen) :
    ∃ A C, OutTab w base (some ⟨g, 0, none⟩) t.2.1.length (some ⟨g2, 0, none⟩) t A C := by
  obtain ⟨G, hG⟩ := h.rows
  have hlo := h.lo
  have hap := h.apart
  refine ⟨fun i => some ⟨G i, 0, none⟩, fun i => (t.2.2.getD i []).length, own_strs h.cols, hf, hc, Nat.le_refl _, (fun e => by cases e), hr, hn, hfr, hmr, (fun i e => by cases e), own_freeS h.cols, hG.heads, fun k => hG.unmarked k, hG.apartA, ?_, ?_, ?_⟩
  · rintro b ⟨_, o, e⟩ hb
    cases e
    have := (hG.blks _ hb).1
    omega
  · rintro b ⟨_, o, e⟩ _ o' e'
    cases e
    cases e'
    omega
  · rintro b (⟨_, o, e⟩ | hb | ⟨_, o, e⟩)
    · cases e; exact hlo
    · have := (hG.blks _ hb).1; omega
    · cases e; omega

theorem totab_out (ca : Option Addr) (cc : Nat) (ra : Option Addr) (cr : Nat) (t : TB) (nc nr : Nat) (hnc : t.2.1.length = nc) (hnr : t.2.2.length = nr) (w : World) (ht : TabAt w ca cc ra t) (hl : 0 ≤ leftT t 1048576) :
    Calls Tryz.prog 24 #[.agg #[.string t.1, .slice ca nc cc, .slice ra nr cr]] w fun e w' => ∃ g g2 A C, e = .returned (.agg #[.string t.1, .slice (some ⟨g, 0, none⟩) nc nc, .slice (some ⟨g2, 0, none⟩) nr nr]) ∧ OutTab w' w.heap.size (some ⟨g, 0, none⟩) nc (some ⟨g2, 0, none⟩) t A C ∧ Below w.heap.size w w' := by
  obtain ⟨hq0, hq1, hq2, hq3⟩ := leftT_fit (t := t) (left := 1048576) (by omega) hl
  have hFit : ∀ i (hi : i < t.2.2.length), Fit t.2.2[i] := fun i hi => by
    obtain ⟨_, _, _, _, _, _, _, _, h, _⟩ := ht.rows i hi; exact h
  have hLen : ∀ i (hi : i < t.2.2.length), t.2.2[i].length ≤ maxLen := fun i hi => by
    obtain ⟨_, _, _, _, _, _, _, _, _, h, _⟩ := ht.rows i hi; exact h
  refine (totab_laws ca cc ra cr t nc nr hnc hnr w ht (by omega) (by omega) hq3).mono ?_
  rintro e w'' ⟨g, g2, rfl, hN, hb⟩
  obtain ⟨A, C, hO⟩ := hN.out ht.fit ht.name ht.len ht.lenR hFit hLen
  rw [hnc] at hO
  exact ⟨g, g2, A, C, rfl, hO, hb⟩

/-- Columns and rows that a call laid are a table in memory of its own. -/
theorem out_of_own {w : World} {base g c g2 c2 : Nat} {S : TypeId} {t : TB} {G D : Nat → Nat} (hS : S ≠ 61) (hS2 : S ≠ 90) (ho : w.ownsRow base S 1 (.slice (some ⟨g, 0, none⟩) t.2.1.length c) t.2.1.length (strV t.2.1)) (hr : OwnRows w base (.slice (some ⟨g2, 0, none⟩) t.2.2.length c2) t.2.2 G D)
    (hcap : t.2.1.length ≤ c) (hf : FitS t.2.1) (hn : t.1.size ≤ maxLen) (hc : t.2.1.length ≤ maxLen) (hrl : t.2.2.length ≤ maxLen) (hfr : ∀ i (hi : i < t.2.2.length), Fit t.2.2[i]) (hmr : ∀ i (hi : i < t.2.2.length), t.2.2[i].length ≤ maxLen) :
    OutTab w base (some ⟨g, 0, none⟩) c (some ⟨g2, 0, none⟩) t (fun i => some ⟨G i, 0, none⟩) D := by
  refine ⟨own_strs ho, hf, hc, hcap, (fun e => by cases e), hrl, hn, hfr, hmr, (fun i e => by cases e), own_freeS ho, hr.heads, fun k => hr.unmarked k, hr.apartA, ?_, ?_, ?_⟩
  · rintro b ⟨_, o, e⟩ ⟨i, hi, _, o', e'⟩
    cases e
    have := hr.inner i hi
    unfold headOf at this
    refine own_other ho this hS2 ?_
    simp only [Option.some.injEq, Addr.mk.injEq] at e'
    rw [e'.1]; rfl
  · rintro b ⟨_, o, e⟩ _ o' e'
    cases e
    cases e'
    exact own_other ho hr.outer hS rfl
  · rintro b (⟨_, o, e⟩ | hb | ⟨_, o, e⟩)
    · cases e; exact (ho.lt _ rfl).1
    · exact hr.blks _ hb
    · cases e; exact (hr.outer.lt _ rfl).1

/-- The marked table. -/
structure MarkedT (w : World) (ca ra : Option Addr) (t : TB) (A : Nat → Option Addr) (C : Nat → Nat) (k : Nat) : Prop where
  cols : StrsAt w ca (marksS k t.2.1.length)
  heads : HeadsAt w ra t.2.2 A C
  rows : Marked w t.2.2 A (k + t.2.1.length) t.2.2.length
theorem MarkedT.below {w w' : World} {ca ra : Option Addr} {t : TB} {A : Nat → Option Addr} {C : Nat → Nat} {k : Nat} (h : MarkedT w ca ra t A C k) (hb : Below w.heap.size w w') : MarkedT w' ca ra t A C k :=
  ⟨h.cols.below hb, h.heads.below hb, h.rows.below hb⟩
/-- The number behind the marks. -/
def markN (t : TB) (k : Nat) : Nat := k + t.2.1.length + 3 * offs t.2.2 t.2.2.length

end Go.Proofs.YtkbfgecdhiaiiakGreat

/-
  Values in a block, a row of its own, a marked table: what stays of them.
-/
namespace Go.Proofs.YtkbfgecdhiaiiakGreat
open Go.ChangeShapes Go.WideShapes Go.ChangeAt Go.RowKit

/-- Three values in a block. -/
def Box (w : World) (B : Nat) (x y z : Value) : Prop := w.cell? ⟨B, 0, none⟩ = some x ∧ w.cell? ⟨B, 1, none⟩ = some y ∧ w.cell? ⟨B, 2, none⟩ = some z ∧ B < w.heap.size
theorem Box.below {w w' : World} {B : Nat} {x y z : Value} (h : Box w B x y z) (hb : Below w.heap.size w w') : Box w' B x y z := later3 hb h
theorem Box.keepS {w w' : World} {P : Nat → Prop} {B : Nat} {x y z : Value} (h : Box w B x y z) (hk : KeepS P w w') (hn : ¬ P B) : Box w' B x y z :=
  ⟨by rw [hk.cell h.2.2.2 hn]; exact h.1, by rw [hk.cell h.2.2.2 hn]; exact h.2.1, by rw [hk.cell h.2.2.2 hn]; exact h.2.2.1, Nat.lt_of_lt_of_le h.2.2.2 hk.size⟩
/-- A row of its own in block g. -/
structure OutRow (w : World) (g : Nat) (r : List CT) : Prop where
  at_ : RowAt w (some ⟨g, 0, none⟩) r
  free : Free w (some ⟨g, 0, none⟩) r.length
  lt : g < w.heap.size
theorem OutRow.keepS {w w' : World} {P : Nat → Prop} {g : Nat} {r : List CT} (h : OutRow w g r) (hk : KeepS P w w') (hn : ¬ P g) : OutRow w' g r := by
  have hq : ∀ b, inBlk (some ⟨g, 0, none⟩) r.length b → ¬ P b := by
    rintro b ⟨_, o, e⟩
    cases e; exact hn
  exact ⟨h.at_.keepS hk hq, h.free.keepS h.at_ hk hq, Nat.lt_of_lt_of_le h.lt hk.size⟩
theorem OutRow.below {w w' : World} {g : Nat} {r : List CT} (h : OutRow w g r) (hb : Below w.heap.size w w') : OutRow w' g r :=
  h.keepS (KeepS.ofBelow (P := fun _ => False) hb) (fun h => h)
theorem own_outRow {w : World} {base g c : Nat} {e : TypeId} {r : List CT} (h : w.ownsRow base e 3 (.slice (some ⟨g, 0, none⟩) r.length c) r.length (flat r)) : OutRow w g r :=
  ⟨own_row h, fun b o e j _ => by cases e; rw [Nat.zero_add]; exact h.frozenAt j, (h.lt _ rfl).2⟩
theorem MarkedT.keepS {w w' : World} {P : Nat → Prop} {ca ra : Option Addr} {t : TB} {A : Nat → Option Addr} {C : Nat → Nat} {k : Nat} (h : MarkedT w ca ra t A C k) (hk : KeepS P w w') (hP : ∀ b, tabBlks ca ra t A b → ¬ P b) : MarkedT w' ca ra t A C k :=
  ⟨h.cols.keepS hk (fun b hb => hP b (.inl (by rw [marksS_length] at hb; exact hb))), h.heads.keepN hk (fun b o h0 e => hP b (.inr (.inr ⟨h0, o, e⟩))), h.rows.keepL hk (fun b hb => hP b (.inr (.inl hb)))⟩

end Go.Proofs.YtkbfgecdhiaiiakGreat

/-
  Lists of tables in memory of their own: no two lists of them share any; taken over so by the law's helper; marked, and asked whether the marks are still there.
-/
namespace Go.Proofs.YtkbfgecdhiaiiakGreat
open Go.ChangeShapes Go.WideShapes Go.ChangeAt Go.RowKit
attribute [local go_sem ↓] Go.wp_at_zero Go.wp_at_succ
attribute [local simp] World.cell?_alloc_past World.cell?_alloc_at World.frozen?_alloc_at cell_far cell_off cell_here World.frozen?_alloc_past

/-- Where the lists of a table lie. -/
structure TAd where
  ca : Option Addr
  cc : Nat
  ra : Option Addr
  cr : Nat
  A : Nat → Option Addr
  C : Nat → Nat
def TAd.blks (q : TAd) (t : TB) (b : Nat) : Prop := tabBlks q.ca q.ra t q.A b
def OutT (w : World) (base : Nat) (q : TAd) (t : TB) : Prop := OutTab w base q.ca q.cc q.ra t q.A q.C
/-- The heads of the tables, up to the m-th. -/
def HeadsT (w : World) (a : Option Addr) (T : List TB) (Q : Nat → TAd) (m : Nat) : Prop :=
  ∀ i (h : i < T.length), i < m → ∃ g o, a = some ⟨g, o, none⟩ ∧ g < w.heap.size ∧ w.cell? ⟨g, o + i * 3, none⟩ = some (.string T[i].1) ∧ w.cell? ⟨g, o + i * 3 + 1, none⟩ = some (.slice (Q i).ca T[i].2.1.length (Q i).cc) ∧ w.cell? ⟨g, o + i * 3 + 2, none⟩ = some (.slice (Q i).ra T[i].2.2.length (Q i).cr) ∧ w.frozen? ⟨g, o + i * 3, none⟩ = false
theorem HeadsT.keepS {P : Nat → Prop} {w w' : World} {a : Option Addr} {T : List TB} {Q : Nat → TAd} {m : Nat} (h : HeadsT w a T Q m) (hk : KeepS P w w') (hP : ∀ g o, 0 < m → a = some ⟨g, o, none⟩ → ¬ P g) : HeadsT w' a T Q m := by
  intro i hi hm
  obtain ⟨g, o, ha, hlt, c0, c1, c2, f0⟩ := h i hi hm
  have := hP g o (by omega) ha
  exact ⟨g, o, ha, Nat.lt_of_lt_of_le hlt hk.size, by rw [hk.cell hlt this]; exact c0, by rw [hk.cell hlt this]; exact c1, by rw [hk.cell hlt this]; exact c2, by rw [hk.frozen hlt this]; exact f0⟩
/-- The tables up to the m-th lie in memory of their own, each apart from all others and from the heads. -/
structure OutU (w : World) (base : Nat) (a : Option Addr) (T : List TB) (Q : Nat → TAd) (m : Nat) : Prop where
  heads : HeadsT w a T Q m
  tabs : ∀ i (_ : i < T.length), i < m → OutT w base (Q i) T[i]
  apart : ∀ i j (_ : i < T.length) (_ : j < T.length) b, i < m → j < m → i ≠ j → (Q i).blks T[i] b → ¬ (Q j).blks T[j] b
  head : ∀ i (_ : i < T.length) g o, i < m → a = some ⟨g, o, none⟩ → ¬ (Q i).blks T[i] g
  lo : ∀ g o, 0 < m → a = some ⟨g, o, none⟩ → base ≤ g
abbrev OutTs (w : World) (base : Nat) (a : Option Addr) (T : List TB) (Q : Nat → TAd) : Prop := OutU w base a T Q T.length
/-- All their blocks. -/
def tabsBlks (a : Option Addr) (T : List TB) (Q : Nat → TAd) (b : Nat) : Prop := (0 < T.length ∧ ∃ o, a = some ⟨b, o, none⟩) ∨ ∃ i, ∃ h : i < T.length, (Q i).blks T[i] b
theorem OutU.lies {w : World} {base : Nat} {a : Option Addr} {T : List TB} {Q : Nat → TAd} (h : OutTs w base a T Q) : TabsAt w a T := by
  intro i hi
  obtain ⟨g, o, ha, hlt, c0, c1, c2, _⟩ := h.heads i hi hi
  exact ⟨g, o, _, _, _, _, ha, hlt, c0, c1, c2, (h.tabs i hi hi).tab⟩
theorem OutU.keepS {P : Nat → Prop} {w w' : World} {base : Nat} {a : Option Addr} {T : List TB} {Q : Nat → TAd} {m : Nat} (h : OutU w base a T Q m) (hk : KeepS P w w') (hH : ∀ g o, 0 < m → a = some ⟨g, o, none⟩ → ¬ P g) (hP : ∀ i (hi : i < T.length) b, i < m → (Q i).blks T[i] b → ¬ P b) : OutU w' base a T Q m :=
  ⟨h.heads.keepS hk hH, fun i hi hm => (h.tabs i hi hm).keepS hk (fun b hb => hP i hi b hm hb), h.apart, h.head, h.lo⟩
theorem OutU.below {w w' : World} {base : Nat} {a : Option Addr} {T : List TB} {Q : Nat → TAd} {m : Nat} (h : OutU w base a T Q m) (hb : Below w.heap.size w w') : OutU w' base a T Q m :=
  h.keepS (KeepS.ofBelow (P := fun _ => False) hb) (fun _ _ _ _ h => h) (fun _ _ _ _ _ h => h)
/-- What is written lies below. -/
theorem OutU.keepFar {P : Nat → Prop} {w w' : World} {base : Nat} {a : Option Addr} {T : List TB} {Q : Nat → TAd} {m : Nat} (h : OutU w base a T Q m) (hk : KeepS P w w') (hP : ∀ b, P b → b < base) : OutU w' base a T Q m :=
  h.keepS hk (fun g o h0 e hp => by have := hP g hp; have := h.lo g o h0 e; omega) (fun i hi b hm hb hp => by have := hP b hp; have := (h.tabs i hi hm).lo b hb; omega)
theorem OutU.blks_lo {w : World} {base : Nat} {a : Option Addr} {T : List TB} {Q : Nat → TAd} (h : OutTs w base a T Q) (b : Nat) (hb : tabsBlks a T Q b) : base ≤ b := by
  rcases hb with ⟨h0, o, e⟩ | ⟨i, hi, hb⟩
  · exact h.lo b o h0 e
  · exact (h.tabs i hi hi).lo b hb
theorem OutU.blks_lt {w : World} {base : Nat} {a : Option Addr} {T : List TB} {Q : Nat → TAd} (h : OutTs w base a T Q) (b : Nat) (hb : tabsBlks a T Q b) : b < w.heap.size := by
  rcases hb with ⟨h0, o, e⟩ | ⟨i, hi, hb⟩
  · obtain ⟨g, o', ha, hlt, _⟩ := h.heads 0 h0 h0
    rw [e] at ha; cases ha; exact hlt
  · exact (h.tabs i hi hi).lt b hb
theorem OutT.below {w w' : World} {base : Nat} {q : TAd} {t : TB} (h : OutT w base q t) (hb : Below w.heap.size w w') : OutT w' base q t := OutTab.below h hb
theorem OutT.lower {w : World} {base base' : Nat} {q : TAd} {t : TB} (h : OutT w base q t) (hb : base' ≤ base) : OutT w base' q t :=
  ⟨h.cols, h.fit, h.len, h.cap, h.nilC, h.lenR, h.name, h.fitR, h.lenL, h.nilR, h.free, h.heads, h.un, h.ap, h.colR, h.colH, fun b hb' => Nat.le_trans hb (h.lo b hb')⟩
def setQ (Q : Nat → TAd) (m : Nat) (q : TAd) : Nat → TAd := fun i => if i = m then q else Q i
theorem setQ_at (Q : Nat → TAd) (m : Nat) (q : TAd) : setQ Q m q m = q := if_pos rfl
theorem setQ_old (Q : Nat → TAd) {m i : Nat} (q : TAd) (h : i ≠ m) : setQ Q m q i = Q i := if_neg h
/-- One table more: its lists are newer than all that was there. -/
theorem OutU.snoc {w w' : World} {base : Nat} {a a' : Option Addr} {T : List TB} {Q : Nat → TAd} {m B : Nat} {q : TAd} (h : OutU w base a T Q m) (hm : m < T.length) (hB : w.heap.size ≤ B) (hbase : base ≤ B) (hq : OutT w' B q T[m])
    (hold : ∀ i (hi : i < T.length), i < m → OutT w' base (Q i) T[i]) (hh : HeadsT w' a' T (setQ Q m q) (m + 1)) (hlo : ∀ g o, a' = some ⟨g, o, none⟩ → base ≤ g)
    (hhd : ∀ g o, a' = some ⟨g, o, none⟩ → (∀ i (hi : i < T.length), i < m → ¬ (Q i).blks T[i] g) ∧ ¬ q.blks T[m] g) : OutU w' base a' T (setQ Q m q) (m + 1) := by
  have far : ∀ i (hi : i < T.length) b, i < m → (Q i).blks T[i] b → b < B := fun i hi b him hb => Nat.lt_of_lt_of_le ((h.tabs i hi him).lt b hb) hB
  have near : ∀ b, q.blks T[m] b → B ≤ b := fun b hb => hq.lo b hb
  refine ⟨hh, ?_, ?_, ?_, fun g o _ e => hlo g o e⟩
  · intro i hi hlt
    by_cases e : i = m
    · subst e; rw [setQ_at]; exact hq.lower hbase
    · rw [setQ_old Q q e]; exact hold i hi (by omega)
  · intro i j hi hj b hil hjl hij hbi hbj
    by_cases ei : i = m
    · subst ei
      rw [setQ_at] at hbi
      rw [setQ_old Q q (Ne.symm hij)] at hbj
      have := near b hbi
      have := far j hj b (by omega) hbj
      omega
    · rw [setQ_old Q q ei] at hbi
      by_cases ej : j = m
      · subst ej
        rw [setQ_at] at hbj
        have := near b hbj
        have := far i hi b (by omega) hbi
        omega
      · rw [setQ_old Q q ej] at hbj
        exact h.apart i j hi hj b (by omega) (by omega) hij hbi hbj
  · intro i hi g o hil e
    by_cases ei : i = m
    · subst ei; rw [setQ_at]; exact (hhd g o e).2
    · rw [setQ_old Q q ei]; exact (hhd g o e).1 i hi (by omega)

/-- The first m tables are taken over into block g. -/
structure TakQ (w : World) (g : Nat) (T : List TB) (Q : Nat → TAd) (m : Nat) : Prop where
  lt : g < w.heap.size
  there : ∀ q, q < T.length * 3 → ∃ u, w.cell? ⟨g, q, none⟩ = some u
  free : ∀ q, w.frozen? ⟨g, q, none⟩ = false
  out : OutU w g (some ⟨g, 0, none⟩) T Q m
  above : ∀ i (_ : i < T.length) b, i < m → (Q i).blks T[i] b → g < b
theorem TakQ.below {w w' : World} {g : Nat} {T : List TB} {Q : Nat → TAd} {m : Nat} (h : TakQ w g T Q m) (hb : Below w.heap.size w w') : TakQ w' g T Q m where
  lt := Nat.lt_of_lt_of_le h.lt hb.size
  there q hq := by obtain ⟨u, hu⟩ := h.there q hq; exact ⟨u, by rw [hb.cell (p := ⟨g, q, none⟩) h.lt]; exact hu⟩
  free q := by rw [hb.frozen (p := ⟨g, q, none⟩) h.lt]; exact h.free q
  out := h.out.below hb
  above := h.above
theorem TakQ.step {w wr : World} {g : Nat} {T : List TB} {Q : Nat → TAd} {m : Nat} {q : TAd} (h0 : TakQ wr g T Q m) (hb : Below wr.heap.size wr w) (hm : m < T.length) (t : TB) (ht : T[m] = t) (N : OutT w wr.heap.size q t) :
    TakQ (((w.setCell ⟨g, m * 3, none⟩ (.string t.1)).setCell ⟨g, m * 3 + 1, none⟩ (.slice q.ca t.2.1.length q.cc)).setCell ⟨g, m * 3 + 2, none⟩ (.slice q.ra t.2.2.length q.cr)) g T (setQ Q m q) (m + 1) := by
  subst ht
  have h := h0.below hb
  have hlt := h0.lt
  obtain ⟨u0, e0⟩ := h.there (m * 3) (by omega)
  obtain ⟨u1, e1⟩ := h.there (m * 3 + 1) (by omega)
  obtain ⟨u2, e2⟩ := h.there (m * 3 + 2) (by omega)
  obtain ⟨W, hW⟩ : ∃ W, W = (((w.setCell ⟨g, m * 3, none⟩ (.string T[m].1)).setCell ⟨g, m * 3 + 1, none⟩ (.slice q.ca T[m].2.1.length q.cc)).setCell ⟨g, m * 3 + 2, none⟩ (.slice q.ra T[m].2.2.length q.cr)) := ⟨_, rfl⟩
  have off : ∀ p, p ≠ m * 3 → p ≠ m * 3 + 1 → p ≠ m * 3 + 2 → W.cell? ⟨g, p, none⟩ = w.cell? ⟨g, p, none⟩ := by
    intro p h0 h1 h2
    rw [hW, cell_off _ _ _ _ _ h2, cell_off _ _ _ _ _ h1, cell_off _ _ _ _ _ h0]
  have a0 : W.cell? ⟨g, m * 3, none⟩ = some (.string T[m].1) := by
    rw [hW, cell_off _ _ _ _ _ (by omega), cell_off _ _ _ _ _ (by omega), cell_here _ _ _ _ (by rw [e0]; rfl)]
  have a1 : W.cell? ⟨g, m * 3 + 1, none⟩ = some (.slice q.ca T[m].2.1.length q.cc) := by
    rw [hW, cell_off _ _ _ _ _ (by omega), cell_here _ _ _ _ (by rw [cell_off _ _ _ _ _ (by omega), e1]; rfl)]
  have a2 : W.cell? ⟨g, m * 3 + 2, none⟩ = some (.slice q.ra T[m].2.2.length q.cr) := by
    rw [hW, cell_here _ _ _ _ (by rw [cell_off _ _ _ _ _ (by omega), cell_off _ _ _ _ _ (by omega), e2]; rfl)]
  have fr : ∀ p, W.frozen? ⟨g, p, none⟩ = false := by
    intro p; rw [hW, World.frozen?_setCell, World.frozen?_setCell, World.frozen?_setCell]; exact h.free p
  have K : KeepS (fun b => b = g) w W := by
    rw [hW]
    exact (((KeepS.refl (fun b => b = g) w).setCell (p := ⟨g, m * 3, none⟩) rfl _).setCell (p := ⟨g, m * 3 + 1, none⟩) rfl _).setCell (p := ⟨g, m * 3 + 2, none⟩) rfl _
  rw [← hW]
  clear hW
  have nearG : ∀ b, q.blks T[m] b → g < b := fun b hb => Nat.lt_of_lt_of_le hlt (N.lo b hb)
  have hgW : g < W.heap.size := Nat.lt_of_lt_of_le h.lt K.size
  refine ⟨hgW, ?_, fr, ?_, ?_⟩
  · intro p hp
    by_cases h0 : p = m * 3
    · subst h0; exact ⟨_, a0⟩
    by_cases h1 : p = m * 3 + 1
    · subst h1; exact ⟨_, a1⟩
    by_cases h2 : p = m * 3 + 2
    · subst h2; exact ⟨_, a2⟩
    rw [off p h0 h1 h2]; exact h.there p hp
  · refine OutU.snoc (B := wr.heap.size) h0.out hm (Nat.le_refl _) (by omega) (OutTab.keepS N K (fun b hb e => by have := nearG b hb; omega)) (fun i hi hlt => OutTab.keepS (h.out.tabs i hi hlt) K (fun b hb e => by have := h.above i hi b hlt hb; omega)) ?_ (fun g' o e => by cases e; exact Nat.le_refl _) ?_
    · intro i hi hlt
      refine ⟨g, 0, rfl, hgW, ?_⟩
      rw [Nat.zero_add]
      by_cases e : i = m
      · subst e
        rw [setQ_at]
        exact ⟨a0, a1, a2, fr _⟩
      · obtain ⟨g', o', eg, _, c0, c1, c2, _⟩ := h.out.heads i hi (by omega)
        cases eg
        rw [Nat.zero_add] at c0 c1 c2
        rw [setQ_old Q q e, off _ (by omega) (by omega) (by omega), off _ (by omega) (by omega) (by omega), off _ (by omega) (by omega) (by omega)]
        exact ⟨c0, c1, c2, fr _⟩
    · intro g' o e
      cases e
      exact ⟨fun i hi hlt hb => by have := h.above i hi g hlt hb; omega, fun hb => by have := nearG g hb; omega⟩
  · intro i hi b hlt hb
    by_cases e : i = m
    · subst e; rw [setQ_at] at hb; exact nearG b hb
    · rw [setQ_old Q q e] at hb; exact h.above i hi b (by omega) hb

set_option maxHeartbeats 4000000 in
theorem totabs_out (a : Option Addr) (cap : Nat) (T : List TB) (n : Nat) (hn : T.length = n) (w : World) (hrow : TabsAt w a T) (hm : n ≤ 1048576) (hms : ∀ i (h : i < T.length), T[i].2.1.length ≤ 1048576 ∧ T[i].2.2.length ≤ 1048576 ∧ ∀ j (hj : j < T[i].2.2.length), T[i].2.2[j].length ≤ 1048576) :
    Calls Tryz.prog 8 #[.slice a n cap] w fun e w' => ∃ g Q, e = .returned (.slice (some ⟨g, 0, none⟩) n n) ∧ OutTs w' w.heap.size (some ⟨g, 0, none⟩) T Q ∧ Below w.heap.size w w' := by
  obtain ⟨i0, hi, hz0, hz1, hz2⟩ := info_parts infoT
  have hR : Hid (TabsAt w a T) := hrow
  have hN : Hid (T.length = n) := hn
  have hMS : Hid (∀ i (h : i < T.length), T[i].2.1.length ≤ 1048576 ∧ T[i].2.2.length ≤ 1048576 ∧ ∀ j (hj : j < T[i].2.2.length), T[i].2.2[j].length ≤ 1048576) := hms
  clear hrow hn hms
  go_enter Tryz.func8, Tryz.ntmps8
  go_wp2_with (at_make; refine wpList_make_full _ rfl _ _ 26 rfl w.heap.size 44 i0 (.agg #[.string ⟨#[]⟩, .slice none 0 0, .slice none 0 0]) 3 Tryz.underlying26 hi hz0 hz1 .i64 .i64 _ _ n rfl rfl rfl rfl ?b2 ?b3 (Nat.le_refl _) ?_)
  case b2 => rw [hz2]; omega
  case b3 => unfold maxLen; omega
  intro w1 hown hgrow
  have hb1 : Below w.heap.size w w1 := (Below.refl _ _).grown hgrow (Nat.le_refl _) (by intro k h; cases h)
  generalize (madeCells _ _).toList = z at hown
  have hT : Hid (∃ Q, TakQ w1 w.heap.size T Q 0) := by
    refine ⟨fun _ => ⟨none, 0, none, 0, fun _ => none, fun _ => 0⟩, (hown.lt _ rfl).2, ?_, fun q => hown.frozenAt q, ⟨fun i _ h => by omega, fun i _ h => by omega, fun i j _ _ b h => by omega, fun i _ g o h => by omega, fun g o h => by omega⟩, fun i _ b h => by omega⟩
    intro q hq
    have := hN.out
    exact ⟨_, (hown.cellAt q (by omega)).trans (List.getElem?_eq_getElem (by rw [hown.1]; omega))⟩
  clear hown hgrow
  go_wp2
  go_loopw [4] (fun i wr => ∃ m : Nat, m ≤ n ∧ i = .int .i64 m ∧ Hid (∃ Q, TakQ wr w.heap.size T Q m) ∧ Below w.heap.size w wr)
    (fun i _ => n - (intOf i).toNat)
  case atStart => exact ⟨0, Nat.zero_le _, rfl, hT, hb1⟩
  case round =>
    obtain ⟨m, hmL, rfl, hT1, hb⟩ := hrel
    obtain ⟨Q, hTQ⟩ := hT1.out
    have hT2 : Hid (TakQ wr w.heap.size T Q m) := hTQ
    clear hTQ hT1
    by_cases hlt : m < n
    · have hlt' : Hid (m < T.length) := by have := hN.out; exact show m < T.length by omega
      obtain ⟨b, o, ca, cc, ra, cr, rfl, hbw, c0, c1, c2, ht⟩ := hR.out.below hb m hlt'.out
      have hi0 : (0 : Int) ≤ (m : Int) := by omega
      have hi1 : (m : Int) < (n : Int) := by omega
      have HT : Hid (TabAt wr ca cc ra (T[m]'hlt'.out)) := ht
      have HM : Hid (_ ∧ _ ∧ _) := hMS.out m hlt'.out
      clear ht
      obtain ⟨x, hx⟩ : ∃ x, (T[m]'hlt'.out) = x := ⟨_, rfl⟩
      rw [hx] at c0 c1 c2 HT HM
      have HXE : Hid ((T[m]'hlt'.out) = x) := hx
      clear hx
      obtain ⟨nc, hnc⟩ : ∃ k, x.2.1.length = k := ⟨_, rfl⟩
      obtain ⟨nr, hnr⟩ : ∃ k, x.2.2.length = k := ⟨_, rfl⟩
      rw [hnc] at c1
      rw [hnr] at c2
      have HNC : Hid (x.2.1.length = nc) := hnc
      have HNR : Hid (x.2.2.length = nr) := hnr
      have hbg : w.heap.size < wr.heap.size := hT2.out.lt
      have hFit : Hid (∀ i (hi : i < x.2.2.length), Fit x.2.2[i]) := by
        have h0 : ∀ i (hi : i < x.2.2.length), Fit x.2.2[i] := fun i hi => by
          obtain ⟨_, _, _, _, _, _, _, _, h, _⟩ := HT.out.rows i hi; exact h
        exact h0
      have hLen : Hid (∀ i (hi : i < x.2.2.length), x.2.2[i].length ≤ maxLen) := by
        have h0 : ∀ i (hi : i < x.2.2.length), x.2.2[i].length ≤ maxLen := fun i hi => by
          obtain ⟨_, _, _, _, _, _, _, _, _, h, _⟩ := HT.out.rows i hi; exact h
        exact h0
      clear hnc hnr
      go_wp2_with fail
      refine (totab_laws ca cc ra cr x nc nr HNC.out HNR.out _ HT.out (by have := HM.out.1; rw [HNC.out] at this; exact this) (by have := HM.out.2.1; rw [HNR.out] at this; exact this) HM.out.2.2).mono ?_
      rintro e w2 ⟨g1, g2, rfl, hnew, hb2⟩
      have hx2 := chain hb hb2
      obtain ⟨A, C, hO⟩ := hnew.out HT.out.fit HT.out.name HT.out.len HT.out.lenR hFit.out hLen.out
      have T2 := hT2.out.below hb2
      have hTT := TakQ.step (q := ⟨some ⟨g1, 0, none⟩, x.2.1.length, some ⟨g2, 0, none⟩, x.2.2.length, A, C⟩) hT2.out hb2 hlt'.out x HXE.out hO
      dsimp only at hTT
      rw [HNC.out, HNR.out] at hTT
      have HTT : Hid (∃ Q, TakQ (((w2.setCell ⟨w.heap.size, m * 3, none⟩ (.string x.1)).setCell ⟨w.heap.size, m * 3 + 1, none⟩ (.slice (some ⟨g1, 0, none⟩) nc nc)).setCell ⟨w.heap.size, m * 3 + 2, none⟩ (.slice (some ⟨g2, 0, none⟩) nr nr)) w.heap.size T Q (m + 1)) := ⟨_, hTT⟩
      have hlq := hlt'.out
      obtain ⟨u0, g0⟩ := T2.there (m * 3) (by omega)
      obtain ⟨u1, g1'⟩ := T2.there (m * 3 + 1) (by omega)
      obtain ⟨u2, g2'⟩ := T2.there (m * 3 + 2) (by omega)
      have f0 := T2.free (m * 3)
      have f1 := T2.free (m * 3 + 1)
      have f2 := T2.free (m * 3 + 2)
      clear hTT T2 hb2 hnew hlq hT2 hO
      go_wp2
      go_roundw
      case rel => exact ⟨m + 1, by omega, by go_num, HTT, ((hx2.setCell (Nat.le_refl _) _).setCell (Nat.le_refl _) _).setCell (Nat.le_refl _) _⟩
      case measure => simp [intOf]; omega
    · have hkl : m = n := by omega
      subst hkl
      go_wp2
      go_ret
      exact ⟨_, Q, rfl, by have := hT2.out.out; rw [← hN.out] at this; exact this, hb⟩
end Go.Proofs.YtkbfgecdhiaiiakGreat

/-
  A list of tables that a call makes, one behind the other: the heads in a row of its own, each table's lists newer than those ahead of it.
-/
namespace Go.Proofs.YtkbfgecdhiaiiakGreat
open Go.ChangeShapes Go.WideShapes Go.ChangeAt Go.RowKit

def zeroTB : TB := (⟨#[]⟩, [], [])
def headV (t : TB) (q : TAd) : List Value := [.string t.1, .slice q.ca t.2.1.length q.cc, .slice q.ra t.2.2.length q.cr]
/-- The heads of the first k tables, cell by cell. -/
def tabsV (V : List TB) (Q : Nat → TAd) : Nat → List Value
  | 0 => []
  | k + 1 => tabsV V Q k ++ headV (V.getD k zeroTB) (Q k)
theorem tabsV_length (V : List TB) (Q : Nat → TAd) (k : Nat) : (tabsV V Q k).length = k * 3 := by
  induction k with
  | zero => rfl
  | succ k ih => rw [tabsV, List.length_append, ih]; simp [headV]; omega
theorem tabsV_congr {V : List TB} {Q Q' : Nat → TAd} {k : Nat} (h : ∀ i, i < k → Q i = Q' i) : tabsV V Q k = tabsV V Q' k := by
  induction k with
  | zero => rfl
  | succ k ih => rw [tabsV, tabsV, ih (fun i hi => h i (by omega)), h k (by omega)]
theorem getD_tb {V : List TB} {k : Nat} (h : k < V.length) : V.getD k zeroTB = V[k] := by simp [List.getD, List.getElem?_eq_getElem h]
theorem tabsV_at {V : List TB} {Q : Nat → TAd} {k i j : Nat} (hi : i < k) (hj : j < 3) : (tabsV V Q k)[i * 3 + j]? = (headV (V.getD i zeroTB) (Q i))[j]? := by
  induction k with
  | zero => omega
  | succ k ih =>
    rw [tabsV]
    by_cases e : i = k
    · subst e
      rw [List.getElem?_append_right (by rw [tabsV_length]; omega), tabsV_length]
      congr 1
      omega
    · rw [List.getElem?_append_left (by rw [tabsV_length]; omega)]
      exact ih (by omega)
structure OwnTs (w : World) (base : Nat) (v : Value) (V : List TB) (Q : Nat → TAd) (k : Nat) : Prop where
  own : w.ownsRow base 44 3 v k (tabsV V Q k)
  tabs : ∀ i (_ : i < V.length), i < k → OutT w base (Q i) V[i]
  apart : ∀ i j (_ : i < V.length) (_ : j < V.length) b, i < k → j < k → i ≠ j → (Q i).blks V[i] b → ¬ (Q j).blks V[j] b
  head : ∀ g, v.ownBlock = some g → ∀ i (_ : i < V.length), i < k → ¬ (Q i).blks V[i] g
theorem KeepS.grown {w w' : World} {row : Option Nat} (h : w.grownBy w' row) : KeepS (fun b => some b = row) w w' := ⟨h.os, h.tape, h.output, h.size, fun k hk hn => h.block k hk hn⟩
theorem OwnTs.below {w w' : World} {base : Nat} {v : Value} {V : List TB} {Q : Nat → TAd} {k : Nat} (h : OwnTs w base v V Q k) (hb : Below w.heap.size w w') : OwnTs w' base v V Q k :=
  ⟨own_below h.own hb, fun i hi hk => (h.tabs i hi hk).below hb, h.apart, h.head⟩
theorem OwnTs.start {w : World} {base : Nat} {v : Value} {V : List TB} (Q : Nat → TAd) (h : w.ownsRow base 44 3 v 0 []) : OwnTs w base v V Q 0 :=
  ⟨h, fun i _ h => by omega, fun i j _ _ b h => by omega, fun g _ i _ h => by omega⟩
/-- One table more at the end. -/
theorem OwnTs.snoc {wr w1 w3 : World} {base : Nat} {v v' : Value} {V : List TB} {Q : Nat → TAd} {k : Nat} {q : TAd} {ob : Obj} (h : OwnTs wr base v V Q k) (hk : k < V.length) (hbase : base ≤ wr.heap.size) (hb : Below wr.heap.size wr w1) (hq : OutT w1 wr.heap.size q V[k])
    (hown : w3.ownsRow base 44 3 v' (k + 1) (tabsV V Q k ++ headV V[k] q)) (hgrow : (w1.alloc ob).grownBy w3 v.ownBlock) (hloc : v'.ownBlock = v.ownBlock ∨ v'.ownBlock = some (w1.alloc ob).heap.size) : OwnTs w3 base v' V (setQ Q k q) (k + 1) := by
  have hA : Below w1.heap.size w1 (w1.alloc ob) := (Below.refl _ _).alloc (Nat.le_refl _) _
  have far : ∀ i (hi : i < V.length) b, i < k → (Q i).blks V[i] b → b < wr.heap.size := fun i hi b hik hb => (h.tabs i hi hik).lt b hb
  have near : ∀ b, q.blks V[k] b → wr.heap.size ≤ b ∧ b < w1.heap.size := fun b hb => ⟨hq.lo b hb, OutTab.lt hq b hb⟩
  have KG := KeepS.grown hgrow
  have hgl : ∀ g, v.ownBlock = some g → g < wr.heap.size := fun g hg => (h.own.lt g hg).2
  refine ⟨?_, ?_, ?_, ?_⟩
  · rw [show tabsV V (setQ Q k q) (k + 1) = tabsV V Q k ++ headV V[k] q by
      rw [tabsV, setQ_at, getD_tb hk, tabsV_congr (Q' := Q) (fun i hi => setQ_old Q q (by omega))]]
    exact hown
  · intro i hi hlt
    by_cases e : i = k
    · subst e
      rw [setQ_at]
      refine OutTab.keepS ((hq.below hA).lower hbase) KG (fun b hb e => ?_)
      have := (near b hb).1
      have := hgl b e.symm
      omega
    · rw [setQ_old Q q e]
      exact OutTab.keepS (((h.tabs i hi (by omega)).below hb).below hA) KG (fun b hb e => h.head b e.symm i hi (by omega) hb)
  · intro i j hi hj b hil hjl hij hbi hbj
    by_cases ei : i = k
    · subst ei
      rw [setQ_at] at hbi
      rw [setQ_old Q q (Ne.symm hij)] at hbj
      have := (near b hbi).1
      have := far j hj b (by omega) hbj
      omega
    · rw [setQ_old Q q ei] at hbi
      by_cases ej : j = k
      · subst ej
        rw [setQ_at] at hbj
        have := (near b hbj).1
        have := far i hi b (by omega) hbi
        omega
      · rw [setQ_old Q q ej] at hbj
        exact h.apart i j hi hj b (by omega) (by omega) hij hbi hbj
  · intro g hg i hi hlt hbi
    have hsz : (w1.alloc ob).heap.size = w1.heap.size + 1 := by simp
    have hs1 := hb.size
    rcases hloc with e | e
    · rw [e] at hg
      by_cases ei : i = k
      · subst ei
        rw [setQ_at] at hbi
        have := (near g hbi).1
        have := hgl g hg
        omega
      · rw [setQ_old Q q ei] at hbi
        exact h.head g hg i hi (by omega) hbi
    · rw [hg] at e
      injection e with e
      by_cases ei : i = k
      · subst ei
        rw [setQ_at] at hbi
        have := (near g hbi).2
        omega
      · rw [setQ_old Q q ei] at hbi
        have := far i hi g (by omega) hbi
        omega
/-- All of them: a list of tables in memory of its own. -/
theorem OwnTs.out {w : World} {base : Nat} {v : Value} {V : List TB} {Q : Nat → TAd} {n : Nat} (hn : V.length = n) (h : OwnTs w base v V Q n) : ∃ a cap, v = .slice a n cap ∧ OutTs w base a V Q ∧ n ≤ cap := by
  subst hn
  rcases h.own.2 with ⟨e, h0⟩ | ⟨g, cap, cur, e, hbg, hg, hc, _⟩
  · have hV : V = [] := List.eq_nil_of_length_eq_zero h0
    subst hV
    exact ⟨none, 0, e, ⟨fun i hi => by simp at hi, fun i hi => by simp at hi, fun i j hi => by simp at hi, fun i hi => by simp at hi, fun g o h => by simp at h⟩, Nat.le_refl _⟩
  · subst e
    have hgl : g < w.heap.size := (h.own.lt g rfl).2
    have cel : ∀ i (hi : i < V.length) j, j < 3 → w.cell? ⟨g, i * 3 + j, none⟩ = (headV V[i] (Q i))[j]? := by
      intro i hi j hj
      rw [h.own.cellAt _ (by omega), tabsV_at hi hj, getD_tb hi]
    refine ⟨some ⟨g, 0, none⟩, cap, rfl, ⟨?_, h.tabs, h.apart, fun i hi g' o hm e => by cases e; exact h.head g rfl i hi hm, fun g' o _ e => by cases e; exact hbg⟩, hc⟩
    intro i hi _
    refine ⟨g, 0, rfl, hgl, ?_, ?_, ?_, h.own.frozenAt _⟩
    · have := cel i hi 0 (by omega); simpa [headV] using this
    · have := cel i hi 1 (by omega); simpa [headV] using this
    · have := cel i hi 2 (by omega); simpa [headV] using this
end Go.Proofs.YtkbfgecdhiaiiakGreat
