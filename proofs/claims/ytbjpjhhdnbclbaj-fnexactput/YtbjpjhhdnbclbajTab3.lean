/-
  The contract of the law's helper that takes a table over: all of it lies in new memory.
-/
import Derived.Test.YtbjpjhhdnbclbajTab2
import Derived.Test.YtbjpjhhdnbclbajLists9
namespace Go.Proofs.Ytbjpjhhdnbclbaj
open Go.ChangeShapes Go.WideShapes Go.ChangeAt Go.RowKit
attribute [local go_sem ↓] Go.wp_at_zero Go.wp_at_succ
attribute [local simp] World.cell?_alloc_past World.cell?_alloc_at World.frozen?_alloc_at cell_far cell_off cell_here World.frozen?_alloc_past

theorem Taken.lies {w : World} {g : Nat} {L : List (List CT)} {G : Nat → Nat} (h : Taken w g L G L.length) (hf : ∀ i (hi : i < L.length), Fit L[i]) (hm : ∀ i (hi : i < L.length), L[i].length ≤ maxLen) : RowsAt w (some ⟨g, 0, none⟩) L := by
  intro i hi
  obtain ⟨h1, h2, _⟩ := h.rows i hi hi
  exact ⟨g, 0, _, _, rfl, h.lt, by rw [Nat.zero_add]; exact h1, h2, hf i hi, hm i hi, fun e => by cases e⟩

theorem tostrN (n : Nat) (a : Option Addr) (cap : Nat) (l : List ByteArray) (hn : l.length = n) (w : World) (H : Nat) (hH : w.heap.size = H) (hrow : StrsAt w a l) (hm : n ≤ 1048576) :
    Calls Try.prog 21 #[.slice a n cap] w fun e w' => e = .returned (.slice (some ⟨H, 0, none⟩) n n) ∧
      w'.ownsRow H 9 1 (.slice (some ⟨H, 0, none⟩) l.length l.length) l.length (strV l) ∧ Below w.heap.size w w' := by
  subst hn hH; exact tostr_laws a cap l w hrow hm
theorem tossN (n : Nat) (a : Option Addr) (cap : Nat) (L : List (List CT)) (hn : L.length = n) (w : World) (H : Nat) (hH : w.heap.size = H) (hrow : RowsAt w a L) (hm : n ≤ 1048576) (hms : ∀ i (h : i < L.length), L[i].length ≤ 1048576) :
    Calls Try.prog 9 #[.slice a n cap] w fun e w' => e = .returned (.slice (some ⟨H, 0, none⟩) n n) ∧
      (∃ G, Taken w' H L G L.length) ∧ Below w.heap.size w w' := by
  subst hn hH; exact toss_laws a cap L w hrow hm hms
theorem own_keepG {w w' : World} {base base' g c : Nat} {e : TypeId} {size n : Nat} {xs : List Value} (h : w.ownsRow base e size (.slice (some ⟨g, 0, none⟩) n c) n xs) (hb : base' ≤ base) (hk : w'.heap[g]? = w.heap[g]?) : w'.ownsRow base' e size (.slice (some ⟨g, 0, none⟩) n c) n xs := by
  refine ⟨h.1, ?_⟩
  rcases h.2 with h' | ⟨g', cap, cur, h', hbg, hg, hr⟩
  · exact .inl h'
  · refine .inr ⟨g', cap, cur, h', by omega, ?_, hr⟩
    simp only [Value.slice.injEq, Option.some.injEq, Addr.mk.injEq, and_true, true_and] at h'
    obtain ⟨rfl, _⟩ := h'
    rw [hk]; exact hg
theorem Taken.low {w w' : World} {g : Nat} {L : List (List CT)} {G : Nat → Nat} (h : Taken w g L G L.length) (hs : w.heap.size ≤ w'.heap.size) (hk : ∀ k, g ≤ k → k < w.heap.size → w'.heap[k]? = w.heap[k]?) : Taken w' g L G L.length where
  lt := Nat.lt_of_lt_of_le h.lt hs
  there := fun i hi => by rw [World.cell?_of_block (a := ⟨g, i, none⟩) (hk g (Nat.le_refl _) h.lt)]; exact h.there i hi
  free := fun i hi => by rw [World.frozen?_of_block (a := ⟨g, i, none⟩) (hk g (Nat.le_refl _) h.lt)]; exact h.free i hi
  bounds := fun i hi => ⟨(h.bounds i hi).1, Nat.lt_of_lt_of_le (h.bounds i hi).2 hs⟩
  rises := h.rises
  rows := fun i hi hm => by
    obtain ⟨h1, h2, h3⟩ := h.rows i hi hm
    have hb := h.bounds i hm
    have e := hk (G i) (by omega) hb.2
    refine ⟨by rw [World.cell?_of_block (a := ⟨g, i, none⟩) (hk g (Nat.le_refl _) h.lt)]; exact h1, ?_, ?_⟩
    · intro j hj
      obtain ⟨b, o, ha, hlt, c0, c1, c2⟩ := h2 j hj
      simp only [Option.some.injEq, Addr.mk.injEq, and_true] at ha
      obtain ⟨rfl, rfl⟩ := ha
      exact ⟨_, _, rfl, Nat.lt_of_lt_of_le hlt hs, by rw [World.cell?_of_block (a := ⟨G i, _, none⟩) e]; exact c0, by rw [World.cell?_of_block (a := ⟨G i, _, none⟩) e]; exact c1, by rw [World.cell?_of_block (a := ⟨G i, _, none⟩) e]; exact c2⟩
    · intro b o ha j hj
      cases ha
      rw [World.frozen?_of_block (a := ⟨G i, _, none⟩) e]
      exact h3 _ _ rfl j hj

/-- A table that was taken over: its columns in block g, its rows in block g2 and those behind. -/
structure NewTab (w : World) (base g g2 : Nat) (t : TB) : Prop where
  lo : base ≤ g
  cols : w.ownsRow base 9 1 (.slice (some ⟨g, 0, none⟩) t.2.1.length t.2.1.length) t.2.1.length (strV t.2.1)
  apart : g < g2
  rows : ∃ G, Taken w g2 t.2.2 G t.2.2.length
theorem NewTab.below {w w' : World} {base g g2 : Nat} {t : TB} (h : NewTab w base g g2 t) (hb : Below w.heap.size w w') : NewTab w' base g g2 t :=
  ⟨h.lo, own_below h.cols hb, h.apart, by obtain ⟨G, hG⟩ := h.rows; exact ⟨G, hG.below hb⟩⟩
theorem NewTab.lies {w : World} {base g g2 : Nat} {t : TB} (h : NewTab w base g g2 t) (hf : FitS t.2.1) (hn : t.1.size ≤ maxLen) (hc : t.2.1.length ≤ maxLen) (hr : t.2.2.length ≤ maxLen) (hfr : ∀ i (hi : i < t.2.2.length), Fit t.2.2[i]) (hmr : ∀ i (hi : i < t.2.2.length), t.2.2[i].length ≤ maxLen) :
    TabAt w (some ⟨g, 0, none⟩) t.2.1.length (some ⟨g2, 0, none⟩) t :=
  ⟨own_strs h.cols, hf, hc, Nat.le_refl _, (fun e => by cases e), by obtain ⟨G, hG⟩ := h.rows; exact hG.lies hfr hmr, hr, hn⟩

theorem NewTab.keepS {w w' : World} {base g g2 : Nat} {t : TB} {P : Nat → Prop} (h : NewTab w base g g2 t) (hk : KeepS P w w') (hP : ∀ b, P b → b < g) : NewTab w' base g g2 t := by
  have hg := (h.cols.lt g rfl).2
  obtain ⟨G, hG⟩ := h.rows
  have ha := h.apart
  exact ⟨h.lo, own_keepG h.cols (Nat.le_refl _) (hk.block g hg (fun hp => by have := hP g hp; omega)), h.apart, G, hG.low hk.size (fun k hgk hl => hk.block k hl (fun hp => by have := hP k hp; omega))⟩

set_option maxHeartbeats 4000000 in
theorem totab_laws (ca : Option Addr) (cc : Nat) (ra : Option Addr) (cr : Nat) (t : TB) (nc nr : Nat) (hnc : t.2.1.length = nc) (hnr : t.2.2.length = nr) (w : World) (ht : TabAt w ca cc ra t) (hc1 : nc ≤ 1048576) (hr1 : nr ≤ 1048576) (hms : ∀ i (h : i < t.2.2.length), t.2.2[i].length ≤ 1048576) :
    Calls Try.prog 16 #[.agg #[.string t.1, .slice ca nc cc, .slice ra nr cr]] w fun e w' => ∃ g g2, e = .returned (.agg #[.string t.1, .slice (some ⟨g, 0, none⟩) nc nc, .slice (some ⟨g2, 0, none⟩) nr nr]) ∧ NewTab w' w.heap.size g g2 t ∧ Below w.heap.size w w' := by
  obtain ⟨nm, C, L⟩ := t
  dsimp only at hnc hnr hms ⊢
  have HT : Hid (TabAt w ca cc ra (nm, C, L)) := ht
  have HNC : Hid (C.length = nc) := hnc
  have HNR : Hid (L.length = nr) := hnr
  have HMS : Hid (∀ i (h : i < L.length), L[i].length ≤ 1048576) := hms
  clear ht hnc hnr hms
  have hA : Below w.heap.size w (((w.alloc (.cells #[.string nm, .slice ca nc cc, .slice ra nr cr] 32)).alloc (.cells #[.string ⟨#[]⟩, .slice none 0 0, .slice none 0 0] 36)).alloc (.cells #[.string nm, .slice none 0 0, .slice none 0 0] 36)) :=
    (((Below.refl _ _).alloc (Nat.le_refl _) _).alloc (by simp) _).alloc (by simp; omega) _
  go_enter Try.func16, Try.ntmps16
  go_wp2_with fail
  refine (tostrN nc ca cc C HNC.out _ (w.heap.size + 1 + 1 + 1) (by simp) (HT.out.below hA).cols hc1).mono ?_
  rintro e w1 ⟨rfl, own1, hb1⟩
  have hx1 := chain hA hb1
  obtain ⟨⟨_, _, p2, pw⟩, ⟨q0, q1, q2, qw⟩, ⟨r0, r1, r2, rw_⟩, f0, f1, f2⟩ := three3 hb1
  have hs1 : w.heap.size + 1 + 1 + 1 < w1.heap.size := (own1.lt _ rfl).2
  obtain ⟨_, hf⟩ := bcell hb1
  have e0 : w1.frozen? ⟨w.heap.size + 1, 0, none⟩ = false := by rw [hf _ _ (by simp)]; simp
  have e1 : w1.frozen? ⟨w.heap.size + 1, 1, none⟩ = false := by rw [hf _ _ (by simp)]; simp
  have e2 : w1.frozen? ⟨w.heap.size + 1, 2, none⟩ = false := by rw [hf _ _ (by simp)]; simp
  have OW1 : Hid (w1.ownsRow (w.heap.size + 1 + 1 + 1) 9 1 (.slice (some ⟨w.heap.size + 1 + 1 + 1, 0, none⟩) C.length C.length) C.length (strV C)) := own1
  clear hf hb1 own1 hA
  obtain ⟨v1, hv1⟩ : ∃ v, v = Value.slice (some ⟨w.heap.size + 1 + 1 + 1, 0, none⟩) nc nc := ⟨_, rfl⟩
  have hxW : Below w.heap.size w (w1.setCell ⟨w.heap.size + 1 + 1, 1, none⟩ v1) := hx1.setCell (p := ⟨w.heap.size + 1 + 1, 1, none⟩) (by show _ ≤ w.heap.size + 1 + 1; omega) _
  go_wp2_with fail
  rw [← hv1]
  refine (tossN nr ra cr L HNR.out _ w1.heap.size (by simp) (HT.out.below hxW).rows hr1 HMS.out).mono ?_
  rintro e w2 ⟨rfl, ⟨G, hG⟩, hb2⟩
  have hx2 := chain hxW hb2
  have hs2 := hb2.size
  simp at hs2
  obtain ⟨hc, hf⟩ := bcell hb2
  have s0 : w2.cell? ⟨w.heap.size + 1 + 1, 0, none⟩ = some (.string nm) := by rw [hc _ _ (by simp; omega), cell_off _ _ _ _ _ (by omega)]; exact r0
  have s1 : w2.cell? ⟨w.heap.size + 1 + 1, 1, none⟩ = some v1 := by rw [hc _ _ (by simp; omega), cell_here _ _ _ _ (by rw [r1]; rfl)]
  have s2 : w2.cell? ⟨w.heap.size + 1 + 1, 2, none⟩ = some (.slice none 0 0) := by rw [hc _ _ (by simp; omega), cell_off _ _ _ _ _ (by omega)]; exact r2
  have t0 : w2.cell? ⟨w.heap.size + 1, 0, none⟩ = some (.string ⟨#[]⟩) := by rw [hc _ _ (by simp; omega), cell_far _ _ _ _ _ _ (by omega)]; exact q0
  have t1 : w2.cell? ⟨w.heap.size + 1, 1, none⟩ = some (.slice none 0 0) := by rw [hc _ _ (by simp; omega), cell_far _ _ _ _ _ _ (by omega)]; exact q1
  have t2 : w2.cell? ⟨w.heap.size + 1, 2, none⟩ = some (.slice none 0 0) := by rw [hc _ _ (by simp; omega), cell_far _ _ _ _ _ _ (by omega)]; exact q2
  have g0 : w2.frozen? ⟨w.heap.size + 1 + 1, 0, none⟩ = false := by rw [hf _ _ (by simp; omega)]; simpa using f0
  have g1 : w2.frozen? ⟨w.heap.size + 1 + 1, 1, none⟩ = false := by rw [hf _ _ (by simp; omega)]; simpa using f1
  have g2 : w2.frozen? ⟨w.heap.size + 1 + 1, 2, none⟩ = false := by rw [hf _ _ (by simp; omega)]; simpa using f2
  have h0 : w2.frozen? ⟨w.heap.size + 1, 0, none⟩ = false := by rw [hf _ _ (by simp; omega)]; simpa using e0
  have h1 : w2.frozen? ⟨w.heap.size + 1, 1, none⟩ = false := by rw [hf _ _ (by simp; omega)]; simpa using e1
  have h2 : w2.frozen? ⟨w.heap.size + 1, 2, none⟩ = false := by rw [hf _ _ (by simp; omega)]; simpa using e2
  have K1 : Keep (w.heap.size + 1 + 1) w1 (w1.setCell ⟨w.heap.size + 1 + 1, 1, none⟩ v1) := (Keep.refl (w.heap.size + 1 + 1) w1).setCell (p := ⟨w.heap.size + 1 + 1, 1, none⟩) (Or.inl rfl) _
  have OW2 : Hid (w2.ownsRow (w.heap.size + 1 + 1 + 1) 9 1 (.slice (some ⟨w.heap.size + 1 + 1 + 1, 0, none⟩) C.length C.length) C.length (strV C)) :=
    own_keepG OW1.out (Nat.le_refl _) ((hb2.block _ (by simp; exact hs1)).trans (K1.block _ hs1 (by omega)))
  have TG : Hid (Taken w2 w1.heap.size L G L.length) := hG
  clear hc hf hb2 hG OW1 K1 q0 q1 q2 r0 r1 r2 f0 f1 f2 e0 e1 e2 p2
  have hw12 : w1.heap.size < w2.heap.size := TG.out.lt
  have N2 : Hid (NewTab w2 w.heap.size (w.heap.size + 1 + 1 + 1) w1.heap.size (nm, C, L)) := by
    have : NewTab w2 w.heap.size (w.heap.size + 1 + 1 + 1) w1.heap.size (nm, C, L) := ⟨by omega, own_keepG OW2.out (by omega) rfl, hs1, G, TG.out⟩
    exact this
  clear OW2 TG
  go_wp2
  refine bodyPost_ret (v := .agg #[.string nm, .slice (some ⟨w.heap.size + 1 + 1 + 1, 0, none⟩) nc nc, .slice (some ⟨w1.heap.size, 0, none⟩) nr nr]) (by simp [results, Try.results16, go_sem, t0, t1, t2]) rfl ⟨_, _, rfl, ?_, ?_⟩
  · refine N2.out.keepS (P := fun b => b = w.heap.size + 1 ∨ b = w.heap.size + 1 + 1) ?_ (fun b hb => by omega)
    repeat (first | exact KeepS.refl _ _ | refine KeepS.setCell ?_ (by simp) _)
  · repeat (first | exact hx2 | refine Below.setCell ?_ (by first | (simp; done) | (simp; omega)) _)

end Go.Proofs.Ytbjpjhhdnbclbaj
