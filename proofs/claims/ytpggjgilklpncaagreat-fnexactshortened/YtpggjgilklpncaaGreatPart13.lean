/-
  A part of the proof: Tab3, Strs2, OutTab, Box.
-/
import Derived.Test.YtpggjgilklpncaaGreatPart5
import Derived.Test.YtpggjgilklpncaaGreatPart12
import Derived.Test.YtpggjgilklpncaaGreatPart3
import Derived.Test.YtpggjgilklpncaaGreatPart11

/-
  The contract of the law's helper that takes a table over: all of it lies in new memory.
-/
namespace Go.Proofs.YtpggjgilklpncaaGreat
open Go.ChangeShapes Go.WideShapes Go.ChangeAt Go.RowKit
attribute [local go_sem ↓] Go.wp_at_zero Go.wp_at_succ
attribute [local simp] World.cell?_alloc_past World.cell?_alloc_at World.frozen?_alloc_at cell_far cell_off cell_here World.frozen?_alloc_past

theorem Taken.lies {w : World} {g : Nat} {L : List (List CT)} {G : Nat → Nat} (h : Taken w g L G L.length) (hf : ∀ i (hi : i < L.length), Fit L[i]) (hm : ∀ i (hi : i < L.length), L[i].length ≤ maxLen) : RowsAt w (some ⟨g, 0, none⟩) L := by
  intro i hi
  obtain ⟨h1, h2, _⟩ := h.rows i hi hi
  exact ⟨g, 0, _, _, rfl, h.lt, by rw [Nat.zero_add]; exact h1, h2, hf i hi, hm i hi, fun e => by cases e⟩

theorem own_keepG {w w' : World} {base base' g c : Nat} {e : TypeId} {size n : Nat} {xs : List Value} (h : w.ownsRow base e size (.slice (some ⟨g, 0, none⟩) n c) n xs) (hb : base' ≤ base) (hk : w'.heap[g]? = w.heap[g]?) : w'.ownsRow base' e size (.slice (some ⟨g, 0, none⟩) n c) n xs := by
  refine ⟨h.1, ?_⟩
  rcases h.2 with h' | ⟨g', cap, cur, h', hbg, hg, hr⟩
  · exact .inl h'
  · refine .inr ⟨g', cap, cur, h', by omega, ?_, hr⟩
    simp only [Value.slice.injEq, Option.some.injEq, Addr.mk.injEq, and_true, true_and] at h'
    obtain ⟨rfl, _⟩ := h'
    rw [hk]; exact hg
theorem Taken.low {w w' : World} {g : Nat} {L : List (List CT)} {G : Nat → Nat} (h : Taken w g L G L.length) (hs : w.heap.size ≤ w'.heap.size) (hk : ∀ k, g ≤ k → k < w.heap.size → w'.heap[k]? = w.heap[k]?) : Taken w' g L G L.length where
  lt := Nat.lt_of_lt_of_le h.lt hs
  there := fun i hi => by rw [World.cell?_of_block (a := ⟨g, i, none⟩) (hk g (Nat.le_refl _) h.lt)]; exact h.there i hi
  free := fun i hi => by rw [World.frozen?_of_block (a := ⟨g, i, none⟩) (hk g (Nat.le_refl _) h.lt)]; exact h.free i hi
  bounds := fun i hi => ⟨(h.bounds i hi).1, Nat.lt_of_lt_of_le (h.bounds i hi).2 hs⟩
  rises := h.rises
  rows := fun i hi hm => by
    obtain ⟨h1, h2, h3⟩ := h.rows i hi hm
    have hb := h.bounds i hm
    have e := hk (G i) (by omega) hb.2
    refine ⟨by rw [World.cell?_of_block (a := ⟨g, i, none⟩) (hk g (Nat.le_refl _) h.lt)]; exact h1, ?_, ?_⟩
    · intro j hj
      obtain ⟨b, o, ha, hlt, c0, c1, c2⟩ := h2 j hj
      simp only [Option.some.injEq, Addr.mk.injEq, and_true] at ha
      obtain ⟨rfl, rfl⟩ := ha
      exact ⟨_, _, rfl, Nat.lt_of_lt_of_le hlt hs, by rw [World.cell?_of_block (a := ⟨G i, _, none⟩) e]; exact c0, by rw [World.cell?_of_block (a := ⟨G i, _, none⟩) e]; exact c1, by rw [World.cell?_of_block (a := ⟨G i, _, none⟩) e]; exact c2⟩
    · intro b o ha j hj
      cases ha
      rw [World.frozen?_of_block (a := ⟨G i, _, none⟩) e]
      exact h3 _ _ rfl j hj
theorem tostrN (n : Nat) (a : Option Addr) (cap : Nat) (l : List ByteArray) (hn : l.length = n) (w : World) (H : Nat) (hH : w.heap.size = H) (hrow : StrsAt w a l) (hm : n ≤ 1048576) :
    Calls Tryz.prog 28 #[.slice a n cap] w fun e w' => e = .returned (.slice (some ⟨H, 0, none⟩) n n) ∧
      w'.ownsRow H 9 1 (.slice (some ⟨H, 0, none⟩) l.length l.length) l.length (strV l) ∧ Below w.heap.size w w' := by
  subst hn hH; exact tostr_laws a cap l w hrow hm
theorem tossN (n : Nat) (a : Option Addr) (cap : Nat) (L : List (List CT)) (hn : L.length = n) (w : World) (H : Nat) (hH : w.heap.size = H) (hrow : RowsAt w a L) (hm : n ≤ 1048576) (hms : ∀ i (h : i < L.length), L[i].length ≤ 1048576) :
    Calls Tryz.prog 29 #[.slice a n cap] w fun e w' => e = .returned (.slice (some ⟨H, 0, none⟩) n n) ∧
      (∃ G, Taken w' H L G L.length) ∧ Below w.heap.size w w' := by
  subst hn hH; exact toss_laws a cap L w hrow hm hms
/-- A table that was taken over: its columns in block g, its rows in block g2 and those behind. -/
structure NewTab (w : World) (base g g2 : Nat) (t : TB) : Prop where
  lo : base ≤ g
  cols : w.ownsRow base 9 1 (.slice (some ⟨g, 0, none⟩) t.2.1.length t.2.1.length) t.2.1.length (strV t.2.1)
  apart : g < g2
  rows : ∃ G, Taken w g2 t.2.2 G t.2.2.length
theorem NewTab.below {w w' : World} {base g g2 : Nat} {t : TB} (h : NewTab w base g g2 t) (hb : Below w.heap.size w w') : NewTab w' base g g2 t :=
  ⟨h.lo, own_below h.cols hb, h.apart, by obtain ⟨G, hG⟩ := h.rows; exact ⟨G, hG.below hb⟩⟩
theorem NewTab.lies {w : World} {base g g2 : Nat} {t : TB} (h : NewTab w base g g2 t) (hf : FitS t.2.1) (hn : t.1.size ≤ maxLen) (hc : t.2.1.length ≤ maxLen) (hr : t.2.2.length ≤ maxLen) (hfr : ∀ i (hi : i < t.2.2.length), Fit t.2.2[i]) (hmr : ∀ i (hi : i < t.2.2.length), t.2.2[i].length ≤ maxLen) :
    TabAt w (some ⟨g, 0, none⟩) t.2.1.length (some ⟨g2, 0, none⟩) t :=
  ⟨own_strs h.cols, hf, hc, Nat.le_refl _, (fun e => by cases e), by obtain ⟨G, hG⟩ := h.rows; exact hG.lies hfr hmr, hr, hn⟩

theorem NewTab.keepS {w w' : World} {base g g2 : Nat} {t : TB} {P : Nat → Prop} (h : NewTab w base g g2 t) (hk : KeepS P w w') (hP : ∀ b, P b → b < g) : NewTab w' base g g2 t := by
  have hg := (h.cols.lt g rfl).2
  obtain ⟨G, hG⟩ := h.rows
  have ha := h.apart
  exact ⟨h.lo, own_keepG h.cols (Nat.le_refl _) (hk.block g hg (fun hp => by have := hP g hp; omega)), h.apart, G, hG.low hk.size (fun k hgk hl => hk.block k hl (fun hp => by have := hP k hp; omega))⟩

set_option maxHeartbeats 4000000 in
theorem totab_laws (ca : Option Addr) (cc : Nat) (ra : Option Addr) (cr : Nat) (t : TB) (nc nr : Nat) (hnc : t.2.1.length = nc) (hnr : t.2.2.length = nr) (w : World) (ht : TabAt w ca cc ra t) (hc1 : nc ≤ 1048576) (hr1 : nr ≤ 1048576) (hms : ∀ i (h : i < t.2.2.length), t.2.2[i].length ≤ 1048576) :
    Calls Tryz.prog 15 #[.agg #[.string t.1, .slice ca nc cc, .slice ra nr cr]] w fun e w' => ∃ g g2, e = .returned (.agg #[.string t.1, .slice (some ⟨g, 0, none⟩) nc nc, .slice (some ⟨g2, 0, none⟩) nr nr]) ∧ NewTab w' w.heap.size g g2 t ∧ Below w.heap.size w w' := by
  obtain ⟨nm, C, L⟩ := t
  dsimp only at hnc hnr hms ⊢
  have HT : Hid (TabAt w ca cc ra (nm, C, L)) := ht
  have HNC : Hid (C.length = nc) := hnc
  have HNR : Hid (L.length = nr) := hnr
  have HMS : Hid (∀ i (h : i < L.length), L[i].length ≤ 1048576) := hms
  clear ht hnc hnr hms
  have hA : Below w.heap.size w (((w.alloc (.cells #[.string nm, .slice ca nc cc, .slice ra nr cr] 34)).alloc (.cells #[.string ⟨#[]⟩, .slice none 0 0, .slice none 0 0] 40)).alloc (.cells #[.string nm, .slice none 0 0, .slice none 0 0] 40)) :=
    (((Below.refl _ _).alloc (Nat.le_refl _) _).alloc (by simp) _).alloc (by simp; omega) _
  go_enter Tryz.func15, Tryz.ntmps15
  go_wp2_with fail
  refine (tostrN nc ca cc C HNC.out _ (w.heap.size + 1 + 1 + 1) (by simp) (HT.out.below hA).cols hc1).mono ?_
  rintro e w1 ⟨rfl, own1, hb1⟩
  have hx1 := chain hA hb1
  obtain ⟨⟨_, _, p2, pw⟩, ⟨q0, q1, q2, qw⟩, ⟨r0, r1, r2, rw_⟩, f0, f1, f2⟩ := three3 hb1
  have hs1 : w.heap.size + 1 + 1 + 1 < w1.heap.size := (own1.lt _ rfl).2
  obtain ⟨_, hf⟩ := bcell hb1
  have e0 : w1.frozen? ⟨w.heap.size + 1, 0, none⟩ = false := by rw [hf _ _ (by simp)]; simp
  have e1 : w1.frozen? ⟨w.heap.size + 1, 1, none⟩ = false := by rw [hf _ _ (by simp)]; simp
  have e2 : w1.frozen? ⟨w.heap.size + 1, 2, none⟩ = false := by rw [hf _ _ (by simp)]; simp
  have OW1 : Hid (w1.ownsRow (w.heap.size + 1 + 1 + 1) 9 1 (.slice (some ⟨w.heap.size + 1 + 1 + 1, 0, none⟩) C.length C.length) C.length (strV C)) := own1
  clear hf hb1 own1 hA
  obtain ⟨v1, hv1⟩ : ∃ v, v = Value.slice (some ⟨w.heap.size + 1 + 1 + 1, 0, none⟩) nc nc := ⟨_, rfl⟩
  have hxW : Below w.heap.size w (w1.setCell ⟨w.heap.size + 1 + 1, 1, none⟩ v1) := hx1.setCell (p := ⟨w.heap.size + 1 + 1, 1, none⟩) (by show _ ≤ w.heap.size + 1 + 1; omega) _
  go_wp2_with fail
  rw [← hv1]
  refine (tossN nr ra cr L HNR.out _ w1.heap.size (by simp) (HT.out.below hxW).rows hr1 HMS.out).mono ?_
  rintro e w2 ⟨rfl, ⟨G, hG⟩, hb2⟩
  have hx2 := chain hxW hb2
  have hs2 := hb2.size
  simp at hs2
  obtain ⟨hc, hf⟩ := bcell hb2
  have s0 : w2.cell? ⟨w.heap.size + 1 + 1, 0, none⟩ = some (.string nm) := by rw [hc _ _ (by simp; omega), cell_off _ _ _ _ _ (by omega)]; exact r0
  have s1 : w2.cell? ⟨w.heap.size + 1 + 1, 1, none⟩ = some v1 := by rw [hc _ _ (by simp; omega), cell_here _ _ _ _ (by rw [r1]; rfl)]
  have s2 : w2.cell? ⟨w.heap.size + 1 + 1, 2, none⟩ = some (.slice none 0 0) := by rw [hc _ _ (by simp; omega), cell_off _ _ _ _ _ (by omega)]; exact r2
  have t0 : w2.cell? ⟨w.heap.size + 1, 0, none⟩ = some (.string ⟨#[]⟩) := by rw [hc _ _ (by simp; omega), cell_far _ _ _ _ _ _ (by omega)]; exact q0
  have t1 : w2.cell? ⟨w.heap.size + 1, 1, none⟩ = some (.slice none 0 0) := by rw [hc _ _ (by simp; omega), cell_far _ _ _ _ _ _ (by omega)]; exact q1
  have t2 : w2.cell? ⟨w.heap.size + 1, 2, none⟩ = some (.slice none 0 0) := by rw [hc _ _ (by simp; omega), cell_far _ _ _ _ _ _ (by omega)]; exact q2
  have g0 : w2.frozen? ⟨w.heap.size + 1 + 1, 0, none⟩ = false := by rw [hf _ _ (by simp; omega)]; simpa using f0
  have g1 : w2.frozen? ⟨w.heap.size + 1 + 1, 1, none⟩ = false := by rw [hf _ _ (by simp; omega)]; simpa using f1
  have g2 : w2.frozen? ⟨w.heap.size + 1 + 1, 2, none⟩ = false := by rw [hf _ _ (by simp; omega)]; simpa using f2
  have h0 : w2.frozen? ⟨w.heap.size + 1, 0, none⟩ = false := by rw [hf _ _ (by simp; omega)]; simpa using e0
  have h1 : w2.frozen? ⟨w.heap.size + 1, 1, none⟩ = false := by rw [hf _ _ (by simp; omega)]; simpa using e1
  have h2 : w2.frozen? ⟨w.heap.size + 1, 2, none⟩ = false := by rw [hf _ _ (by simp; omega)]; simpa using e2
  have K1 : Keep (w.heap.size + 1 + 1) w1 (w1.setCell ⟨w.heap.size + 1 + 1, 1, none⟩ v1) := (Keep.refl (w.heap.size + 1 + 1) w1).setCell (p := ⟨w.heap.size + 1 + 1, 1, none⟩) (Or.inl rfl) _
  have OW2 : Hid (w2.ownsRow (w.heap.size + 1 + 1 + 1) 9 1 (.slice (some ⟨w.heap.size + 1 + 1 + 1, 0, none⟩) C.length C.length) C.length (strV C)) :=
    own_keepG OW1.out (Nat.le_refl _) ((hb2.block _ (by simp; exact hs1)).trans (K1.block _ hs1 (by omega)))
  have TG : Hid (Taken w2 w1.heap.size L G L.length) := hG
  clear hc hf hb2 hG OW1 K1 q0 q1 q2 r0 r1 r2 f0 f1 f2 e0 e1 e2 p2
  have hw12 : w1.heap.size < w2.heap.size := TG.out.lt
  have N2 : Hid (NewTab w2 w.heap.size (w.heap.size + 1 + 1 + 1) w1.heap.size (nm, C, L)) := by
    have : NewTab w2 w.heap.size (w.heap.size + 1 + 1 + 1) w1.heap.size (nm, C, L) := ⟨by omega, own_keepG OW2.out (by omega) rfl, hs1, G, TG.out⟩
    exact this
  clear OW2 TG
  go_wp2
  refine bodyPost_ret (v := .agg #[.string nm, .slice (some ⟨w.heap.size + 1 + 1 + 1, 0, none⟩) nc nc, .slice (some ⟨w1.heap.size, 0, none⟩) nr nr]) (by simp [results, Tryz.results15, go_sem, t0, t1, t2]) rfl ⟨_, _, rfl, ?_, ?_⟩
  · refine N2.out.keepS (P := fun b => b = w.heap.size + 1 ∨ b = w.heap.size + 1 + 1) ?_ (fun b hb => by omega)
    repeat (first | exact KeepS.refl _ _ | refine KeepS.setCell ?_ (by simp) _)
  · repeat (first | exact hx2 | refine Below.setCell ?_ (by first | (simp; done) | (simp; omega)) _)

end Go.Proofs.YtpggjgilklpncaaGreat

/-
  The contracts of the law's helpers that mark the texts of a list, one number behind the other, and that look whether the marks are still there.
-/
namespace Go.Proofs.YtpggjgilklpncaaGreat
open Go.ChangeShapes Go.WideShapes Go.ChangeAt Go.RowKit
attribute [local go_sem ↓] Go.wp_at_zero Go.wp_at_succ

/-- The marks of a list of n texts. -/
def marksS (k n : Nat) : List ByteArray := (List.range n).map fun i => mt (k + i)
theorem marksS_length (k n : Nat) : (marksS k n).length = n := by simp [marksS]
theorem marksS_at (k n i : Nat) (h : i < (marksS k n).length) : (marksS k n)[i] = mt (k + i) := by simp [marksS]
theorem marksS_step (k : Nat) (l : List ByteArray) (i : Nat) (h : i < l.length) : (marksS k i ++ l.drop i).set i (mt (k + i)) = marksS k (i + 1) ++ l.drop (i + 1) := by
  rw [List.set_append_right _ _ (by rw [marksS_length]; omega), marksS_length, Nat.sub_self]
  have e : l.drop i = l[i] :: l.drop (i + 1) := List.drop_eq_getElem_cons h
  rw [e, List.set_cons_zero]
  simp [marksS, List.range_succ]
/-- The texts of a slice may be written. -/
def FreeS (w : World) (a : Option Addr) (n : Nat) : Prop := ∀ b o, a = some ⟨b, o, none⟩ → ∀ j, j < n → w.frozen? ⟨b, o + j, none⟩ = false
theorem StrsAt.upd {w w' : World} {b o : Nat} {l : List ByteArray} {i : Nat} {x : ByteArray} (h : StrsAt w (some ⟨b, o, none⟩) l) (hs : w.heap.size ≤ w'.heap.size)
    (hfar : ∀ q, q ≠ o + i → w'.cell? ⟨b, q, none⟩ = w.cell? ⟨b, q, none⟩) (h0 : w'.cell? ⟨b, o + i, none⟩ = some (.string x)) : StrsAt w' (some ⟨b, o, none⟩) (l.set i x) := by
  intro j hj
  have hj' : j < l.length := by simpa using hj
  obtain ⟨b', o', e, hlt, c0⟩ := h j hj'
  cases e
  refine ⟨b, o, rfl, Nat.lt_of_lt_of_le hlt hs, ?_⟩
  by_cases hij : i = j
  · subst hij
    rw [List.getElem_set_self]; exact h0
  · rw [List.getElem_set_ne hij, hfar _ (by omega)]; exact c0
theorem FreeS.upd {w w' : World} {a : Option Addr} {n : Nat} (h : FreeS w a n) (hf : ∀ b o q, a = some ⟨b, o, none⟩ → w'.frozen? ⟨b, q, none⟩ = w.frozen? ⟨b, q, none⟩) : FreeS w' a n :=
  fun b o e j hj => by rw [hf b o _ e]; exact h b o e j hj

theorem StrsAt.keepS {P : Nat → Prop} {w w' : World} {a : Option Addr} {l : List ByteArray} (h : StrsAt w a l) (hk : KeepS P w w') (hP : ∀ b, inBlk a l.length b → ¬ P b) : StrsAt w' a l := by
  intro j hj
  obtain ⟨b, o, ha, hlt, h0⟩ := h j hj
  exact ⟨b, o, ha, Nat.lt_of_lt_of_le hlt hk.size, by rw [hk.cell hlt (hP b ⟨by omega, o, ha⟩)]; exact h0⟩
set_option maxHeartbeats 2000000 in
theorem markstr_laws (a : Option Addr) (cap : Nat) (l : List ByteArray) (k : Nat) (w : World) (hrow : StrsAt w a l) (hfree : FreeS w a l.length) (h0 : 0 < k) (h1 : k + l.length ≤ 1099511627776) :
    Calls Tryz.prog 20 #[.slice a l.length cap, .int .i64 k] w fun e w' => e = .returned (.int .i64 ((k + l.length : Nat) : Int)) ∧ StrsAt w' a (marksS k l.length) ∧ FreeS w' a l.length ∧ KeepS (inBlk a l.length) w w' := by
  have hR : Hid (StrsAt w a l) := hrow
  have hF : Hid (FreeS w a l.length) := hfree
  clear hrow hfree
  go_enter Tryz.func20, Tryz.ntmps20
  go_wp2
  go_loopw [1, 5] (fun s i wr => ∃ m : Nat, m ≤ l.length ∧ i = .int .i64 m ∧ s = .int .i64 ((k + m : Nat) : Int) ∧ Hid (StrsAt wr a (marksS k m ++ l.drop m)) ∧ Hid (FreeS wr a l.length) ∧ KeepS (inBlk a l.length) w wr)
    (fun _ i _ => l.length - (intOf i).toNat)
  case atStart => exact ⟨0, Nat.zero_le _, rfl, by simp, by simpa [marksS] using hR, hF, KeepS.refl _ _⟩
  case round =>
    obtain ⟨m, hm, rfl, rfl, hr, hf, hkp⟩ := hrel
    by_cases hlt : m < l.length
    · have hl2 : m < (marksS k m ++ l.drop m).length := by rw [List.length_append, marksS_length, List.length_drop]; omega
      obtain ⟨b, o, rfl, hbw, c0⟩ := hr.out m hl2
      generalize (marksS k m ++ l.drop m)[m] = x at c0
      have hi0 : (0 : Int) ≤ (m : Int) := by omega
      have hi1 : (m : Int) < (l.length : Int) := by omega
      have f0 := hf.out b o rfl m hlt
      go_wp2_with fail
      refine (text_lawsN (k + m) _ (by omega) _ (by omega) (by omega)).mono ?_
      rintro e w2 ⟨rfl, hb2⟩
      have g0 : w2.cell? ⟨b, o + m, none⟩ = some (.string x) := by rw [hb2.cell (p := ⟨b, o + m, none⟩) hbw]; exact c0
      have e0 : w2.frozen? ⟨b, o + m, none⟩ = false := by rw [hb2.frozen (p := ⟨b, o + m, none⟩) hbw]; exact f0
      go_wp2
      go_roundw
      case rel =>
        refine ⟨m + 1, by omega, by go_num, by go_num, ?_, ?_, ?_⟩
        · show StrsAt _ _ _
          rw [← marksS_step k l m hlt]
          refine hr.out.upd (by simpa using hb2.size) ?_ ?_
          · intro q q0
            rw [cell_off _ _ _ _ _ q0, hb2.cell (p := ⟨b, q, none⟩) hbw]
          · rw [cell_here _ _ _ _ (by rw [g0]; rfl)]
        · show FreeS _ _ _
          refine hf.out.upd ?_
          intro b' o' q e
          cases e
          rw [World.frozen?_setCell, hb2.frozen (p := ⟨b, q, none⟩) hbw]
        · exact (hkp.trans (KeepS.ofBelow hb2)).setCell (p := ⟨b, o + m, none⟩) ⟨by omega, o, rfl⟩ _
      case measure => simp [intOf]; omega
    · have hkl : m = l.length := by omega
      subst hkl
      rw [List.drop_length, List.append_nil] at hr
      go_wp2
      go_ret
      exact ⟨rfl, hr.out, hf.out, hkp⟩

set_option maxHeartbeats 2000000 in
theorem heldstr_laws (a : Option Addr) (cap n : Nat) (k : Nat) (w : World) (hrow : StrsAt w a (marksS k n)) (h0 : 0 < k) (h1 : k + n ≤ 1099511627776) :
    Calls Tryz.prog 22 #[.slice a n cap, .int .i64 k] w fun e w' => e = .returned (.int .i64 ((k + n : Nat) : Int)) ∧ Below w.heap.size w w' := by
  have hR : Hid (StrsAt w a (marksS k n)) := hrow
  clear hrow
  go_enter Tryz.func22, Tryz.ntmps22
  go_wp2
  go_loopw [1, 5] (fun s i wr => ∃ m : Nat, m ≤ n ∧ i = .int .i64 m ∧ s = .int .i64 ((k + m : Nat) : Int) ∧ Below w.heap.size w wr)
    (fun _ i _ => n - (intOf i).toNat)
  case atStart => exact ⟨0, Nat.zero_le _, rfl, by simp, Below.refl _ _⟩
  case round =>
    obtain ⟨m, hm, rfl, rfl, hx⟩ := hrel
    by_cases hlt : m < n
    · have hl2 : m < (marksS k n).length := by rw [marksS_length]; exact hlt
      obtain ⟨b, o, rfl, hbw, c0⟩ := hR.out.below hx m hl2
      rw [marksS_at] at c0
      generalize hT : mt (k + m) = T at c0
      have hTT : (T.toList == T.toList) = true := by simp
      have hi0 : (0 : Int) ≤ (m : Int) := by omega
      have hi1 : (m : Int) < (n : Int) := by omega
      go_wp2_with fail
      go_region_held3 (fun w' => w'.cell? ⟨b, o + m, none⟩ = some (.string T))
        (((try dsimp only); first | (go_keep; done) | (simp (disch := first | omega | (simp <;> omega) | fail) [*]; done) | fail))
        ((go_at_call 19; refine (text_lawsN (k + m) _ (by omega) _ (by omega) (by omega)).mono ?_; rw [hT]; rintro e w1 ⟨rfl, hb1⟩; obtain ⟨hc, hf⟩ := bcell hb1))
      all_goals
        go_wp2
        go_roundw
        case rel => exact ⟨m + 1, by omega, by go_num, by go_num, chain hx (undrew hb1)⟩
        case measure => simp [intOf]; omega
    · have hkl : m = n := by omega
      subst hkl
      go_wp2
      go_ret
      exact ⟨rfl, hx⟩

end Go.Proofs.YtpggjgilklpncaaGreat

/-
  A table in memory of its own: what the marks want of it, and the contracts of the law's helpers that mark a table, and look whether the marks are still there.
-/
namespace Go.Proofs.YtpggjgilklpncaaGreat
open Go.ChangeShapes Go.WideShapes Go.ChangeAt Go.RowKit
attribute [local go_sem ↓] Go.wp_at_zero Go.wp_at_succ
attribute [local simp] World.cell?_alloc_past World.cell?_alloc_at World.frozen?_alloc_at cell_far cell_off cell_here World.frozen?_alloc_past

theorem FreeS.keepS {P : Nat → Prop} {w w' : World} {a : Option Addr} {l : List ByteArray} (hf : FreeS w a l.length) (h : StrsAt w a l) (hk : KeepS P w w') (hP : ∀ b, inBlk a l.length b → ¬ P b) : FreeS w' a l.length := by
  intro b o ha j hj
  obtain ⟨b', o', ha', hlt, _⟩ := h j hj
  rw [ha] at ha'
  cases ha'
  rw [hk.frozen hlt (hP b ⟨by omega, o, ha⟩)]
  exact hf b o ha j hj
theorem HeadsAt.keepN {P : Nat → Prop} {w w' : World} {a : Option Addr} {L : List (List CT)} {A : Nat → Option Addr} {C : Nat → Nat} (h : HeadsAt w a L A C) (hk : KeepS P w w') (hP : ∀ b o, 0 < L.length → a = some ⟨b, o, none⟩ → ¬ P b) : HeadsAt w' a L A C := by
  intro i hi
  obtain ⟨b, o, ha, hlt, h0⟩ := h i hi
  exact ⟨b, o, ha, Nat.lt_of_lt_of_le hlt hk.size, by rw [hk.cell hlt (hP b o (by omega) ha)]; exact h0⟩
theorem Marked.keep0 {P : Nat → Prop} {w w' : World} {L : List (List CT)} {A : Nat → Option Addr} {k : Nat} (h : Marked w L A k 0) (hk : KeepS P w w') (hP : ∀ b, rowBlks L A b → ¬ P b) : Marked w' L A k 0 := by
  intro j hj
  obtain ⟨_, h2, h3⟩ := h j hj
  have hq : ∀ b, inBlk (A j) L[j].length b → ¬ P b := fun b hb => hP b ⟨j, hj, hb⟩
  exact ⟨fun hlt => by omega, fun _ => (h2 (Nat.zero_le _)).keepS hk hq, h3.keepS (h2 (Nat.zero_le _)) hk hq⟩
theorem Marked.keepL {P : Nat → Prop} {w w' : World} {L : List (List CT)} {A : Nat → Option Addr} {k : Nat} (h : Marked w L A k L.length) (hk : KeepS P w w') (hP : ∀ b, rowBlks L A b → ¬ P b) : Marked w' L A k L.length := by
  intro j hj
  obtain ⟨h1, _, h3⟩ := h j hj
  have hq : ∀ b, inBlk (A j) L[j].length b → ¬ P b := fun b hb => hP b ⟨j, hj, hb⟩
  refine ⟨fun _ => (h1 hj).keepS hk (by rw [marks_length]; exact hq), fun hle => by omega, ?_⟩
  have := Free.keepS (l := marks (k + 3 * offs L j) L[j].length) (by rw [marks_length]; exact h3) (h1 hj) hk (by rw [marks_length]; exact hq)
  rwa [marks_length] at this

/-- The blocks of a table. -/
def tabBlks (ca ra : Option Addr) (t : TB) (A : Nat → Option Addr) (b : Nat) : Prop :=
  inBlk ca t.2.1.length b ∨ rowBlks t.2.2 A b ∨ (0 < t.2.2.length ∧ ∃ o, ra = some ⟨b, o, none⟩)
/-- A table whose lists share no memory, all of it at base or behind. -/
structure OutTab (w : World) (base : Nat) (ca : Option Addr) (cc : Nat) (ra : Option Addr) (t : TB) (A : Nat → Option Addr) (C : Nat → Nat) : Prop where
  cols : StrsAt w ca t.2.1
  fit : FitS t.2.1
  len : t.2.1.length ≤ maxLen
  cap : t.2.1.length ≤ cc
  nilC : ca = none → cc = 0
  lenR : t.2.2.length ≤ maxLen
  name : t.1.size ≤ maxLen
  fitR : ∀ i (hi : i < t.2.2.length), Fit t.2.2[i]
  lenL : ∀ i (hi : i < t.2.2.length), t.2.2[i].length ≤ maxLen
  nilR : ∀ i, A i = none → C i = 0
  free : FreeS w ca t.2.1.length
  heads : HeadsAt w ra t.2.2 A C
  un : ∀ k, Marked w t.2.2 A k 0
  ap : Apart ra t.2.2 A
  colR : ∀ b, inBlk ca t.2.1.length b → ¬ rowBlks t.2.2 A b
  colH : ∀ b, inBlk ca t.2.1.length b → 0 < t.2.2.length → ∀ o, ra ≠ some ⟨b, o, none⟩
  lo : ∀ b, tabBlks ca ra t A b → base ≤ b
theorem OutTab.tab {w : World} {base : Nat} {ca : Option Addr} {cc : Nat} {ra : Option Addr} {t : TB} {A : Nat → Option Addr} {C : Nat → Nat} (h : OutTab w base ca cc ra t A C) : TabAt w ca cc ra t := by
  refine ⟨h.cols, h.fit, h.len, h.cap, h.nilC, ?_, h.lenR, h.name⟩
  intro i hi
  obtain ⟨b, o, e, hlt, c0⟩ := h.heads i hi
  exact ⟨b, o, A i, C i, e, hlt, c0, (h.un 0 i hi).2.1 (Nat.zero_le _), h.fitR i hi, h.lenL i hi, h.nilR i⟩
theorem OutTab.keepS {w w' : World} {P : Nat → Prop} {base : Nat} {ca : Option Addr} {cc : Nat} {ra : Option Addr} {t : TB} {A : Nat → Option Addr} {C : Nat → Nat} (h : OutTab w base ca cc ra t A C) (hk : KeepS P w w') (hP : ∀ b, tabBlks ca ra t A b → ¬ P b) : OutTab w' base ca cc ra t A C :=
  ⟨h.cols.keepS hk (fun b hb => hP b (.inl hb)), h.fit, h.len, h.cap, h.nilC, h.lenR, h.name, h.fitR, h.lenL, h.nilR, h.free.keepS h.cols hk (fun b hb => hP b (.inl hb)), h.heads.keepN hk (fun b o h0 e => hP b (.inr (.inr ⟨h0, o, e⟩))),
    fun k => (h.un k).keep0 hk (fun b hb => hP b (.inr (.inl hb))), h.ap, h.colR, h.colH, h.lo⟩
theorem OutTab.below {w w' : World} {base : Nat} {ca : Option Addr} {cc : Nat} {ra : Option Addr} {t : TB} {A : Nat → Option Addr} {C : Nat → Nat} (h : OutTab w base ca cc ra t A C) (hb : Below w.heap.size w w') : OutTab w' base ca cc ra t A C :=
  h.keepS (KeepS.ofBelow (P := fun _ => False) hb) (fun _ _ h => h)
theorem OutTab.lt {w : World} {base : Nat} {ca : Option Addr} {cc : Nat} {ra : Option Addr} {t : TB} {A : Nat → Option Addr} {C : Nat → Nat} (h : OutTab w base ca cc ra t A C) (b : Nat) (hb : tabBlks ca ra t A b) : b < w.heap.size := by
  rcases hb with ⟨h0, o, e⟩ | ⟨i, hi, h0, o, e⟩ | ⟨h0, o, e⟩
  · obtain ⟨b', o', e', hlt, _⟩ := h.cols 0 h0
    rw [e] at e'; cases e'; exact hlt
  · obtain ⟨b', o', e', hlt, _⟩ := (h.un 0 i hi).2.1 (Nat.zero_le _) 0 h0
    rw [e] at e'; cases e'; exact hlt
  · obtain ⟨b', o', e', hlt, _⟩ := h.heads 0 h0
    rw [e] at e'; cases e'; exact hlt

theorem own_freeS {w : World} {base g n c : Nat} {e : TypeId} {xs : List Value} (h : w.ownsRow base e 1 (.slice (some ⟨g, 0, none⟩) n c) n xs) : FreeS w (some ⟨g, 0, none⟩) n := by
  intro b o e j hj
  cases e
  rw [Nat.zero_add]
  exact h.frozenAt j

theorem NewTab.out {w : World} {base g g2 : Nat} {t : TB} (h : NewTab w base g g2 t) (hf : FitS t.2.1) (hn : t.1.size ≤ maxLen) (hc : t.2.1.length ≤ maxLen) (hr : t.2.2.length ≤ maxLen) (hfr : ∀ i (hi : i < t.2.2.length), Fit t.2.2[i]) (hmr : ∀ i (hi : i < t.2.2.length), t.2.2[i].length ≤ maxLen) :
    ∃ A C, OutTab w base (some ⟨g, 0, none⟩) t.2.1.length (some ⟨g2, 0, none⟩) t A C := by
  obtain ⟨G, hG⟩ := h.rows
  have hlo := h.lo
  have hap := h.apart
  refine ⟨fun i => some ⟨G i, 0, none⟩, fun i => (t.2.2.getD i []).length, own_strs h.cols, hf, hc, Nat.le_refl _, (fun e => by cases e), hr, hn, hfr, hmr, (fun i e => by cases e), own_freeS h.cols, hG.heads, fun k => hG.unmarked k, hG.apartA, ?_, ?_, ?_⟩
  · rintro b ⟨_, o, e⟩ hb
    cases e
    have := (hG.blks _ hb).1
    omega
  · rintro b ⟨_, o, e⟩ _ o' e'
    cases e
    cases e'
    omega
  · rintro b (⟨_, o, e⟩ | hb | ⟨_, o, e⟩)
    · cases e; exact hlo
    · have := (hG.blks _ hb).1; omega
    · cases e; omega

/-- Columns and rows that a call laid are a table in memory of its own. -/
theorem out_of_own {w : World} {base g c g2 c2 : Nat} {S : TypeId} {t : TB} {G D : Nat → Nat} (hS : S ≠ 66) (hS2 : S ≠ 89) (ho : w.ownsRow base S 1 (.slice (some ⟨g, 0, none⟩) t.2.1.length c) t.2.1.length (strV t.2.1)) (hr : OwnRows w base (.slice (some ⟨g2, 0, none⟩) t.2.2.length c2) t.2.2 G D)
    (hcap : t.2.1.length ≤ c) (hf : FitS t.2.1) (hn : t.1.size ≤ maxLen) (hc : t.2.1.length ≤ maxLen) (hrl : t.2.2.length ≤ maxLen) (hfr : ∀ i (hi : i < t.2.2.length), Fit t.2.2[i]) (hmr : ∀ i (hi : i < t.2.2.length), t.2.2[i].length ≤ maxLen) :
    OutTab w base (some ⟨g, 0, none⟩) c (some ⟨g2, 0, none⟩) t (fun i => some ⟨G i, 0, none⟩) D := by
  refine ⟨own_strs ho, hf, hc, hcap, (fun e => by cases e), hrl, hn, hfr, hmr, (fun i e => by cases e), own_freeS ho, hr.heads, fun k => hr.unmarked k, hr.apartA, ?_, ?_, ?_⟩
  · rintro b ⟨_, o, e⟩ ⟨i, hi, _, o', e'⟩
    cases e
    have := hr.inner i hi
    unfold headOf at this
    refine own_other ho this hS2 ?_
    simp only [Option.some.injEq, Addr.mk.injEq] at e'
    rw [e'.1]; rfl
  · rintro b ⟨_, o, e⟩ _ o' e'
    cases e
    cases e'
    exact own_other ho hr.outer hS rfl
  · rintro b (⟨_, o, e⟩ | hb | ⟨_, o, e⟩)
    · cases e; exact (ho.lt _ rfl).1
    · exact hr.blks _ hb
    · cases e; exact (hr.outer.lt _ rfl).1

/-- The marked table. -/
structure MarkedT (w : World) (ca ra : Option Addr) (t : TB) (A : Nat → Option Addr) (C : Nat → Nat) (k : Nat) : Prop where
  cols : StrsAt w ca (marksS k t.2.1.length)
  heads : HeadsAt w ra t.2.2 A C
  rows : Marked w t.2.2 A (k + t.2.1.length) t.2.2.length
theorem MarkedT.below {w w' : World} {ca ra : Option Addr} {t : TB} {A : Nat → Option Addr} {C : Nat → Nat} {k : Nat} (h : MarkedT w ca ra t A C k) (hb : Below w.heap.size w w') : MarkedT w' ca ra t A C k :=
  ⟨h.cols.below hb, h.heads.below hb, h.rows.below hb⟩
end Go.Proofs.YtpggjgilklpncaaGreat

/-
  Values in a block, a row of its own, a marked table: what stays of them.
-/
namespace Go.Proofs.YtpggjgilklpncaaGreat
open Go.ChangeShapes Go.WideShapes Go.ChangeAt Go.RowKit

/-- Three values in a block. -/
def Box (w : World) (B : Nat) (x y z : Value) : Prop := w.cell? ⟨B, 0, none⟩ = some x ∧ w.cell? ⟨B, 1, none⟩ = some y ∧ w.cell? ⟨B, 2, none⟩ = some z ∧ B < w.heap.size
theorem Box.below {w w' : World} {B : Nat} {x y z : Value} (h : Box w B x y z) (hb : Below w.heap.size w w') : Box w' B x y z := later3 hb h
theorem Box.keepS {w w' : World} {P : Nat → Prop} {B : Nat} {x y z : Value} (h : Box w B x y z) (hk : KeepS P w w') (hn : ¬ P B) : Box w' B x y z :=
  ⟨by rw [hk.cell h.2.2.2 hn]; exact h.1, by rw [hk.cell h.2.2.2 hn]; exact h.2.1, by rw [hk.cell h.2.2.2 hn]; exact h.2.2.1, Nat.lt_of_lt_of_le h.2.2.2 hk.size⟩
/-- A row of its own in block g. -/
structure OutRow (w : World) (g : Nat) (r : List CT) : Prop where
  at_ : RowAt w (some ⟨g, 0, none⟩) r
  free : Free w (some ⟨g, 0, none⟩) r.length
  lt : g < w.heap.size
theorem OutRow.keepS {w w' : World} {P : Nat → Prop} {g : Nat} {r : List CT} (h : OutRow w g r) (hk : KeepS P w w') (hn : ¬ P g) : OutRow w' g r := by
  have hq : ∀ b, inBlk (some ⟨g, 0, none⟩) r.length b → ¬ P b := by
    rintro b ⟨_, o, e⟩
    cases e; exact hn
  exact ⟨h.at_.keepS hk hq, h.free.keepS h.at_ hk hq, Nat.lt_of_lt_of_le h.lt hk.size⟩
theorem OutRow.below {w w' : World} {g : Nat} {r : List CT} (h : OutRow w g r) (hb : Below w.heap.size w w') : OutRow w' g r :=
  h.keepS (KeepS.ofBelow (P := fun _ => False) hb) (fun h => h)
theorem MarkedT.keepS {w w' : World} {P : Nat → Prop} {ca ra : Option Addr} {t : TB} {A : Nat → Option Addr} {C : Nat → Nat} {k : Nat} (h : MarkedT w ca ra t A C k) (hk : KeepS P w w') (hP : ∀ b, tabBlks ca ra t A b → ¬ P b) : MarkedT w' ca ra t A C k :=
  ⟨h.cols.keepS hk (fun b hb => hP b (.inl (by rw [marksS_length] at hb; exact hb))), h.heads.keepN hk (fun b o h0 e => hP b (.inr (.inr ⟨h0, o, e⟩))), h.rows.keepL hk (fun b hb => hP b (.inr (.inl hb)))⟩

end Go.Proofs.YtpggjgilklpncaaGreat
