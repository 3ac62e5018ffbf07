/-
  A part of the proof: Lists9, TakenX, ShI4, Tab3, Tabs2, TabsZ, Strs2.
-/
import Derived.Test.YtkbfgecdhiaiialGreatDoorPart8
import Derived.Test.YtkbfgecdhiaiialGreatDoorPart7
import Derived.Test.YtkbfgecdhiaiialGreatDoorPart4
import Derived.Test.YtkbfgecdhiaiialGreatDoorPart3

/-
  The contract of the law's helper that takes a list of lists over: new memory, a block for each list.
-/
namespace Go.Proofs.YtkbfgecdhiaiialGreatDoor
open Go.ChangeShapes Go.WideShapes Go.ChangeAt Go.RowKit
attribute [local go_sem ↓] Go.wp_at_zero Go.wp_at_succ

/-- The first m lists are taken over, each into a block of its own behind block g. -/
structure Taken (w : World) (g : Nat) (L : List (List CT)) (G : Nat → Nat) (m : Nat) : Prop where
  lt : g < w.heap.size
  there : ∀ i, i < L.length → ∃ u, w.cell? ⟨g, i, none⟩ = some u
  free : ∀ i, i < L.length → w.frozen? ⟨g, i, none⟩ = false
  bounds : ∀ i, i < m → g < G i ∧ G i < w.heap.size
  rises : ∀ i j, i < j → j < m → G i < G j
  rows : ∀ i (h : i < L.length), i < m → w.cell? ⟨g, i, none⟩ = some (.slice (some ⟨G i, 0, none⟩) L[i].length L[i].length) ∧ RowAt w (some ⟨G i, 0, none⟩) L[i] ∧ Free w (some ⟨G i, 0, none⟩) L[i].length

theorem Taken.below {w w' : World} {g : Nat} {L : List (List CT)} {G : Nat → Nat} {m : Nat} (h : Taken w g L G m) (hb : Below w.heap.size w w') : Taken w' g L G m where
  lt := Nat.lt_of_lt_of_le h.lt hb.size
  there i hi := by obtain ⟨u, hu⟩ := h.there i hi; exact ⟨u, by rw [hb.cell (p := ⟨g, i, none⟩) h.lt]; exact hu⟩
  free i hi := by rw [hb.frozen (p := ⟨g, i, none⟩) h.lt]; exact h.free i hi
  bounds i hi := ⟨(h.bounds i hi).1, Nat.lt_of_lt_of_le (h.bounds i hi).2 hb.size⟩
  rises := h.rises
  rows i hi hm := by
    obtain ⟨h1, h2, h3⟩ := h.rows i hi hm
    refine ⟨by rw [hb.cell (p := ⟨g, i, none⟩) h.lt]; exact h1, h2.below hb, ?_⟩
    intro b o e j hj
    cases e
    rw [hb.frozen (p := ⟨G i, _, none⟩) (h.bounds i hm).2]; exact h3 _ _ rfl j hj

/-- One list more is taken over: its head is written. -/
theorem Taken.step {w : World} {g : Nat} {L : List (List CT)} {G : Nat → Nat} {m B : Nat} (h : Taken w g L G m) (hm : m < L.length) (hB : B < w.heap.size) (hgB : g < B) (hup : ∀ i, i < m → G i < B)
    (hr : RowAt w (some ⟨B, 0, none⟩) L[m]) (hf : Free w (some ⟨B, 0, none⟩) L[m].length) :
    Taken (w.setCell ⟨g, m, none⟩ (.slice (some ⟨B, 0, none⟩) L[m].length L[m].length)) g L (fun i => if i = m then B else G i) (m + 1) where
  lt := by simpa using h.lt
  there i hi := by
    by_cases e : i = m
    · subst e
      obtain ⟨u, hu⟩ := h.there i hi
      exact ⟨_, cell_here _ _ _ _ (by rw [hu]; rfl)⟩
    · obtain ⟨u, hu⟩ := h.there i hi
      exact ⟨u, by rw [cell_off _ _ _ _ _ e]; exact hu⟩
  free i hi := by rw [World.frozen?_setCell]; exact h.free i hi
  bounds i hi := by
    by_cases e : i = m
    · simpa [e] using ⟨hgB, hB⟩
    · simpa [e] using h.bounds i (by omega)
  rises i j hij hj := by
    by_cases e : j = m
    · have ei : i ≠ m := by omega
      simpa [e, ei] using hup i (by omega)
    · have ei : i ≠ m := by omega
      simpa [e, ei] using h.rises i j hij (by omega)
  rows i hi hlt := by
    have far : ∀ b q, b ≠ g → (w.setCell ⟨g, m, none⟩ (.slice (some ⟨B, 0, none⟩) L[m].length L[m].length)).cell? ⟨b, q, none⟩ = w.cell? ⟨b, q, none⟩ := fun b q hb => cell_far _ _ _ _ _ _ hb
    have rowFar : ∀ b l, b ≠ g → RowAt w (some ⟨b, 0, none⟩) l → RowAt (w.setCell ⟨g, m, none⟩ (.slice (some ⟨B, 0, none⟩) L[m].length L[m].length)) (some ⟨b, 0, none⟩) l := by
      intro b l hb hr j hj
      obtain ⟨b', o', e, hlt, c0, c1, c2⟩ := hr j hj
      cases e
      exact ⟨b, 0, rfl, by simpa using hlt, by rw [far _ _ hb]; exact c0, by rw [far _ _ hb]; exact c1, by rw [far _ _ hb]; exact c2⟩
    have freeFar : ∀ b n, Free w (some ⟨b, 0, none⟩) n → Free (w.setCell ⟨g, m, none⟩ (.slice (some ⟨B, 0, none⟩) L[m].length L[m].length)) (some ⟨b, 0, none⟩) n := by
      intro b n hf b' o' e j hj
      rw [World.frozen?_setCell]; exact hf b' o' e j hj
    by_cases e : i = m
    · subst e
      obtain ⟨u, hu⟩ := h.there i hi
      simp only [if_true]
      exact ⟨cell_here _ _ _ _ (by rw [hu]; rfl), rowFar _ _ (by omega) hr, freeFar _ _ hf⟩
    · obtain ⟨h1, h2, h3⟩ := h.rows i hi (by omega)
      have hb := (h.bounds i (by omega)).1
      simp only [if_neg e]
      exact ⟨by rw [cell_off _ _ _ _ _ e]; exact h1, rowFar _ _ (by omega) h2, freeFar _ _ h3⟩

theorem infoS : (Tryz.prog.info? 40).map (fun i => (i.zero, i.size, i.bytes)) = some (some (.slice none 0 0), 1, 24) := by kernel_rfl

set_option maxHeartbeats 2000000 in
theorem toss_laws (a : Option Addr) (cap : Nat) (L : List (List CT)) (w : World) (hrow : RowsAt w a L) (hm : L.length ≤ 1048576) (hms : ∀ i (h : i < L.length), L[i].length ≤ 1048576) :
    Calls Tryz.prog 24 #[.slice a L.length cap] w fun e w' => e = .returned (.slice (some ⟨w.heap.size, 0, none⟩) L.length L.length) ∧
      (∃ G, Taken w' w.heap.size L G L.length) ∧ Below w.heap.size w w' := by
  obtain ⟨i0, hi, hz0, hz1, hz2⟩ := info_parts infoS
  have hR : Hid (RowsAt w a L) := hrow
  have hMS : Hid (∀ i (h : i < L.length), L[i].length ≤ 1048576) := hms
  clear hrow hms
  go_enter Tryz.func24, Tryz.ntmps24
  go_wp2_with (at_make; refine wpList_make_full _ rfl _ _ 35 rfl w.heap.size 40 i0 (.slice none 0 0) 1 Tryz.underlying35 hi hz0 hz1 .i64 .i64 _ _ L.length rfl rfl rfl rfl ?b2 ?b3 (Nat.le_refl _) ?_)
  case b2 => rw [hz2]; omega
  case b3 => unfold maxLen; omega
  intro w1 hown hgrow
  have hb1 : Below w.heap.size w w1 := (Below.refl _ _).grown hgrow (Nat.le_refl _) (by intro k h; cases h)
  generalize (madeCells _ _).toList = z at hown
  have hT : Hid (∃ G, Taken w1 w.heap.size L G 0) := by
    refine ⟨fun _ => 0, ?_, ?_, fun i _ => hown.frozenAt i, fun i h => by omega, fun i j _ h => by omega, fun i _ h => by omega⟩
    · rcases hown.2 with ⟨h', _⟩ | ⟨g', cap', cur, h', _, hg, _⟩
      · simp at h'
      · simp only [Value.slice.injEq, Option.some.injEq, Addr.mk.injEq, and_true, true_and] at h'
        obtain ⟨rfl, rfl⟩ := h'
        by_cases hl : w.heap.size < w1.heap.size
        · exact hl
        · rw [Array.getElem?_eq_none (by omega)] at hg; cases hg
    · intro i hi
      exact ⟨_, (hown.cellAt i (by omega)).trans (List.getElem?_eq_getElem (by rw [hown.1]; omega))⟩
  clear hown hgrow
  go_wp2
  go_loopw [4] (fun i wr => ∃ m : Nat, m ≤ L.length ∧ i = .int .i64 m ∧ Hid (∃ G, Taken wr w.heap.size L G m) ∧ Below w.heap.size w wr)
    (fun i _ => L.length - (intOf i).toNat)
  case atStart => exact ⟨0, Nat.zero_le _, rfl, hT, hb1⟩
  case round =>
    obtain ⟨m, hmL, rfl, hT2, hb⟩ := hrel
    by_cases hlt : m < L.length
    · obtain ⟨b, o, ai, ci, ha, hbw, c0, hra, _, _⟩ := hR.out.below hb m hlt
      have hi0 : (0 : Int) ≤ (m : Int) := by omega
      have hi1 : (m : Int) < (L.length : Int) := by omega
      have hRA : Hid (RowAt wr ai L[m]) := hra
      have hml := hMS.out m hlt
      have FIN : Hid (∀ w2, Below wr.heap.size wr w2 → w2.ownsRow wr.heap.size 55 3 (.slice (some ⟨wr.heap.size, 0, none⟩) L[m].length L[m].length) L[m].length (flat L[m]) →
          (∃ u, w2.cell? ⟨w.heap.size, m, none⟩ = some u) ∧ w2.frozen? ⟨w.heap.size, m, none⟩ = false ∧ ∃ G, Taken (w2.setCell ⟨w.heap.size, m, none⟩ (.slice (some ⟨wr.heap.size, 0, none⟩) L[m].length L[m].length)) w.heap.size L G (m + 1)) := by
        intro w2 hb2 own
        obtain ⟨G, T⟩ := hT2.out
        have T2 := T.below hb2
        refine ⟨T2.there m hlt, T2.free m hlt, _, T2.step hlt ?_ T.lt (fun i hi => (T.bounds i hi).2) (own_row own) ?_⟩
        · rcases own.2 with ⟨h', _⟩ | ⟨g', cap', cur, h', _, hg, _⟩
          · simp at h'
          · simp only [Value.slice.injEq, Option.some.injEq, Addr.mk.injEq, and_true, true_and] at h'
            obtain ⟨rfl, rfl⟩ := h'
            by_cases hl : wr.heap.size < w2.heap.size
            · exact hl
            · rw [Array.getElem?_eq_none (by omega)] at hg; cases hg
        · intro b' o' e j hj
          cases e
          exact own.frozenAt _
      clear hra hT2
      generalize L[m] = x at c0 hRA hml FIN
      subst ha
      go_wp2_with fail
      refine (tos_laws _ _ _ _ hRA.out hml).mono ?_
      rintro e w2 ⟨rfl, own, hb2⟩
      obtain ⟨⟨u, g0⟩, f0, hG⟩ := FIN.out w2 hb2 own
      have hGG : Hid (∃ G, Taken (w2.setCell ⟨w.heap.size, m, none⟩ (.slice (some ⟨wr.heap.size, 0, none⟩) x.length x.length)) w.heap.size L G (m + 1)) := hG
      have hx := chain hb hb2
      clear own hG FIN hb2
      go_wp2
      go_roundw
      case rel => exact ⟨m + 1, by omega, by go_num, hGG, hx.setCell (Nat.le_refl _) _⟩
      case measure => simp [intOf]; omega
    · have hkl : m = L.length := by omega
      subst hkl
      go_wp2
      go_ret
      exact ⟨rfl, hT2.out, hb⟩

end Go.Proofs.YtkbfgecdhiaiialGreatDoor

/-
  Rows that were taken over, or that lie in memory of their own: what the marks want of them.
-/
namespace Go.Proofs.YtkbfgecdhiaiialGreatDoor
open Go.ChangeShapes Go.WideShapes Go.ChangeAt Go.RowKit

theorem Taken.heads {w : World} {g : Nat} {L : List (List CT)} {G : Nat → Nat} (h : Taken w g L G L.length) : HeadsAt w (some ⟨g, 0, none⟩) L (fun i => some ⟨G i, 0, none⟩) (fun i => (L.getD i []).length) := by
  intro i hi
  refine ⟨g, 0, rfl, h.lt, ?_⟩
  rw [show 0 + i = i by omega, (h.rows i hi hi).1]
  dsimp only; rw [getD_at hi]
theorem Taken.apartA {w : World} {g : Nat} {L : List (List CT)} {G : Nat → Nat} (h : Taken w g L G L.length) : Apart (some ⟨g, 0, none⟩) L (fun i => some ⟨G i, 0, none⟩) where
  heads i hi b o e := by
    cases e
    rintro ⟨_, o', e'⟩
    simp only [Option.some.injEq, Addr.mk.injEq] at e'
    have := (h.bounds i hi).1; omega
  rows i j hi hj b hij := by
    rintro ⟨_, o1, e1⟩ ⟨_, o2, e2⟩
    simp only [Option.some.injEq, Addr.mk.injEq] at e1 e2
    rcases Nat.lt_or_gt_of_ne hij with hl | hl
    · have := h.rises i j hl hj; omega
    · have := h.rises j i hl hi; omega
theorem Taken.unmarked {w : World} {g : Nat} {L : List (List CT)} {G : Nat → Nat} (h : Taken w g L G L.length) (k : Nat) : Marked w L (fun i => some ⟨G i, 0, none⟩) k 0 :=
  fun j hj => ⟨fun hlt => by omega, fun _ => (h.rows j hj hj).2.1, (h.rows j hj hj).2.2⟩
theorem Taken.rowsAt {w : World} {g : Nat} {L : List (List CT)} {G : Nat → Nat} (h : Taken w g L G L.length) (hf : ∀ i (hi : i < L.length), Fit L[i]) (hm : ∀ i (hi : i < L.length), L[i].length ≤ maxLen) : RowsAt w (some ⟨g, 0, none⟩) L := by
  intro i hi
  obtain ⟨h1, h2, _⟩ := h.rows i hi hi
  exact ⟨g, 0, _, _, rfl, h.lt, by rw [show 0 + i = i by omega]; exact h1, h2, hf i hi, hm i hi, fun e => by cases e⟩
theorem Taken.blks {w : World} {g : Nat} {L : List (List CT)} {G : Nat → Nat} (h : Taken w g L G L.length) (b : Nat) (hb : rowBlks L (fun i => some ⟨G i, 0, none⟩) b) : g < b ∧ b < w.heap.size := by
  obtain ⟨i, hi, _, o, e⟩ := hb
  simp only [Option.some.injEq, Addr.mk.injEq] at e
  have := h.bounds i hi; omega

theorem own_keepS {w w' : World} {P : Nat → Prop} {base : Nat} {e : TypeId} {size n : Nat} {v : Value} {xs : List Value} (h : w.ownsRow base e size v n xs) (hk : KeepS P w w') (hP : ∀ b, P b → b < base) : w'.ownsRow base e size v n xs := by
  refine ⟨h.1, ?_⟩
  rcases h.2 with h' | ⟨g, cap, cur, h', hbg, hg, hr⟩
  · exact .inl h'
  · refine .inr ⟨g, cap, cur, h', hbg, ?_, hr⟩
    have hlt : g < w.heap.size := by
      by_cases hl : g < w.heap.size
      · exact hl
      · rw [Array.getElem?_eq_none (by omega)] at hg; cases hg
    rw [hk.block g hlt (fun hp => by have := hP g hp; omega)]; exact hg
theorem OwnRows.keepS {w w' : World} {P : Nat → Prop} {base : Nat} {v : Value} {L : List (List CT)} {G C : Nat → Nat} (h : OwnRows w base v L G C) (hk : KeepS P w w') (hP : ∀ b, P b → b < base) : OwnRows w' base v L G C :=
  ⟨own_keepS h.outer hk hP, fun i hi => own_keepS (h.inner i hi) hk hP, h.apart⟩

theorem HeadsAt.below {w w' : World} {a : Option Addr} {L : List (List CT)} {A : Nat → Option Addr} {C : Nat → Nat} (h : HeadsAt w a L A C) (hb : Below w.heap.size w w') : HeadsAt w' a L A C := by
  intro i hi
  obtain ⟨b, o, ha, hlt, h0⟩ := h i hi
  exact ⟨b, o, ha, Nat.lt_of_lt_of_le hlt hb.size, by rw [hb.cell (p := ⟨b, _, none⟩) hlt]; exact h0⟩
theorem Marked.below {w w' : World} {L : List (List CT)} {A : Nat → Option Addr} {k : Nat} (h : Marked w L A k L.length) (hb : Below w.heap.size w w') : Marked w' L A k L.length := by
  intro j hj
  obtain ⟨h1, _, h3⟩ := h j hj
  refine ⟨fun hlt => (h1 hlt).below hb, fun hle => by omega, ?_⟩
  intro b o e q hq
  have hlt : b < w.heap.size := by
    obtain ⟨b', o', e', hlt, _⟩ := h1 hj 0 (by rw [marks_length]; omega)
    rw [e] at e'
    simp only [Option.some.injEq, Addr.mk.injEq] at e'
    omega
  rw [hb.frozen (p := ⟨b, _, none⟩) hlt]; exact h3 b o e q hq

/-- The blocks of rows in memory of their own. -/
theorem OwnRows.blks {w : World} {base : Nat} {v : Value} {L : List (List CT)} {G C : Nat → Nat} (h : OwnRows w base v L G C) (b : Nat) (hb : rowBlks L (fun i => some ⟨G i, 0, none⟩) b) : base ≤ b := by
  obtain ⟨i, hi, _, o, e⟩ := hb
  simp only [Option.some.injEq, Addr.mk.injEq] at e
  rcases (h.inner i hi).2 with ⟨h', _⟩ | ⟨g2, c2, cur2, h', hle, _⟩
  · simp [headOf] at h'
  · simp only [headOf, Value.slice.injEq, Option.some.injEq, Addr.mk.injEq, and_true, true_and] at h'
    omega


end Go.Proofs.YtkbfgecdhiaiialGreatDoor

/-
  The contract of the program's shelf made of a list of tables.
-/
namespace Go.Proofs.YtkbfgecdhiaiialGreatDoor
open Go.ChangeShapes Go.WideShapes Go.ChangeAt Go.RowKit Go.Maps
attribute [local go_sem ↓] Go.wp_at_zero Go.wp_at_succ
attribute [local simp] World.cell?_alloc_past World.cell?_alloc_at World.frozen?_alloc_at cell_far cell_off cell_here World.frozen?_alloc_past

/-- What the shelf has at the table's name is that table, which lies where it says. -/
def HoldsT (w : World) (f : ByteArray → Value) (t : TB) : Prop :=
  ∃ ca cc ra cr, f t.1 = .agg #[.string t.1, .slice ca t.2.1.length cc, .slice ra t.2.2.length cr] ∧ TabAt w ca cc ra t
theorem HoldsT.below {w w' : World} {f : ByteArray → Value} {t : TB} (h : HoldsT w f t) (hb : Below w.heap.size w w') : HoldsT w' f t := by
  obtain ⟨ca, cc, ra, cr, e, ht⟩ := h
  exact ⟨ca, cc, ra, cr, e, ht.below hb⟩
/-- The shelf has just these tables, which lay there in world w0 already. -/
def ShelfT (w0 w : World) (B n : Nat) (U : List TB) : Prop := (namesT U).Nodup ∧ ∃ f, ShelfAt w B n (namesT U) f ∧ ∀ t, t ∈ U → HoldsT w0 f t
theorem ShelfT.below {w0 w w' : World} {B n : Nat} {U : List TB} (h : ShelfT w0 w B n U) (hb : Below w.heap.size w w') : ShelfT w0 w' B n U := by
  obtain ⟨hn, f, hs, ht⟩ := h
  exact ⟨hn, f, hs.below hb, ht⟩
theorem turned_block {w w' : World} {B b : Nat} (h : w.mapTurned w' B) (hb : b ≠ B) : w'.heap[b]? = w.heap[b]? := by
  obtain ⟨es, clock, es', clock', he, rfl⟩ := h
  exact ChangeMaps.heap_setBlock_other he _ hb
theorem turned_cell {w w' : World} {B b o : Nat} (h : w.mapTurned w' B) (hb : b ≠ B) : w'.cell? ⟨b, o, none⟩ = w.cell? ⟨b, o, none⟩ := World.cell?_of_block (w := w) (turned_block h hb)
theorem turned_frozen {w w' : World} {B b o : Nat} (h : w.mapTurned w' B) (hb : b ≠ B) : w'.frozen? ⟨b, o, none⟩ = w.frozen? ⟨b, o, none⟩ := World.frozen?_of_block (w := w) (turned_block h hb)
theorem turned_size {w w' : World} {B : Nat} (h : w.mapTurned w' B) : w'.heap.size = w.heap.size := by
  obtain ⟨es, clock, es', clock', he, rfl⟩ := h
  simp [ChangeMaps.setBlock]
theorem KeepS.turned {w w' : World} {B : Nat} (h : w.mapTurned w' B) : KeepS (fun b => b = B) w w' := by
  have hs := turned_size h
  obtain ⟨es, clock, es', clock', he, rfl⟩ := h
  exact ⟨rfl, rfl, rfl, Nat.le_of_eq hs.symm, fun k _ hk => ChangeMaps.heap_setBlock_other he _ hk⟩
/-- The k-th step: the shelf has the first k tables' names, and each table where no two names are alike. -/
def ShInv (w0 w : World) (B : Nat) (T : List TB) (k : Nat) : Prop :=
  ∃ f, ShelfAt w B k (ksOf (namesT (T.take k))) f ∧ ((namesT (T.take k)).Nodup → ∀ t, t ∈ T.take k → HoldsT w0 f t)
theorem ShInv.below {w0 w w' : World} {B : Nat} {T : List TB} {k : Nat} (h : ShInv w0 w B T k) (hb : Below w.heap.size w w') : ShInv w0 w' B T k := by
  obtain ⟨f, hs, ht⟩ := h
  exact ⟨f, hs.below hb, ht⟩
theorem namesT_snoc (T : List TB) (t : TB) : namesT (T ++ [t]) = namesT T ++ [t.1] := by simp [namesT]
theorem ShInv.step {w0 w' : World} {B : Nat} {T : List TB} {k : Nat} {t : TB} {D : DataW Value} {f : ByteArray → Value} {ca : Option Addr} {cc : Nat} {ra : Option Addr} {cr : Nat} (hsn : T.take (k + 1) = T.take k ++ [t])
    (hS : Says D (ksOf (namesT (T.take k))) f) (hD : IsMap D) (hH : (namesT (T.take k)).Nodup → ∀ t, t ∈ T.take k → HoldsT w0 f t) (ht : TabAt w0 ca cc ra t)
    (hown : w'.ownsMap Tryz.prog 9 tokR B (k + 1) (D.put (keyL t.1) (.held (.agg #[.string t.1, .slice ca t.2.1.length cc, .slice ra t.2.2.length cr])))) : ShInv w0 w' B T (k + 1) := by
  refine ⟨putF f t.1 (.agg #[.string t.1, .slice ca t.2.1.length cc, .slice ra t.2.2.length cr]), ⟨_, hown, ?_⟩, ?_⟩
  · rw [hsn, namesT_snoc, ksOf_snoc]
    exact hS.put hD t.1 _
  · rw [hsn, namesT_snoc]
    intro hn u hu
    rcases List.mem_append.1 hu with hu | hu
    · have hne : u.1 ≠ t.1 := fun e => (List.nodup_append.1 hn).2.2 u.1 (List.mem_map_of_mem hu) t.1 (by simp) e
      obtain ⟨a1, a2, a3, a4, e, h⟩ := hH (List.nodup_append.1 hn).1 u hu
      exact ⟨a1, a2, a3, a4, by unfold putF; rw [if_neg hne]; exact e, h⟩
    · rw [List.mem_singleton] at hu
      subst hu
      exact ⟨ca, cc, ra, cr, by unfold putF; rw [if_pos rfl], ht⟩
theorem run_clear {w : World} {B n : Nat} {D : DataW Value} (h : w.ownsMap Tryz.prog 9 tokR B n D) : ∃ w', (∀ ty, (Builtin.clear_ #[43] ty #[.map (some B)]).run Tryz.prog w = .ok (.tuple #[]) w') ∧ w'.ownsMap Tryz.prog 9 tokR B 0 (.map []) ∧ w.mapTurned w' B := by
  obtain ⟨es, clock, hb, F, hs, hD⟩ := h
  refine ⟨_, fun ty => ?_, ⟨#[], clock, ChangeMaps.heap_setBlock_same hb _, ⟨by simp, MapKept.stamped_empty _, by simp⟩, Nat.le_refl _, rfl⟩, ⟨es, clock, #[], clock, hb, rfl⟩⟩
  simp [Builtin.clear_, run_underlying Tryz.underlying43, MapKept.run_getObj_map hb, MapKept.run_setObj_map _ hb, Result.andThen, ChangeMaps.setBlock]
theorem own_strsV {w : World} {base n : Nat} {v : Value} {l : List ByteArray} (h : w.ownsRow base 9 1 v n (strV l)) (hn : l.length = n) : ∃ a cap, v = .slice a n cap ∧ StrsAt w a l ∧ n ≤ cap ∧ (a = none → cap = 0) := by
  subst hn
  rcases h.2 with ⟨e, h0⟩ | ⟨g, cap, cur, e, hbg, hg, hc, _⟩
  · have : l = [] := List.eq_nil_of_length_eq_zero h0
    subst this
    exact ⟨none, 0, e, fun j hj => by simp at hj, Nat.le_refl _, fun _ => rfl⟩
  · subst e
    exact ⟨some ⟨g, 0, none⟩, cap, rfl, own_strs h, by omega, fun e => by cases e⟩

set_option maxRecDepth 100000 in
set_option maxHeartbeats 4000000 in
theorem shelf_impl (a : Option Addr) (cap : Nat) (T : List TB) (n : Nat) (hn : T.length = n) (w : World) (hrow : TabsAt w a T) (hm : n ≤ 1048576) (b : Bool) (hb : baseB T = b) :
    Calls Tryz.prog 14 #[.slice a n cap] w fun e w' => e = .returned (.tuple #[.map (some w.heap.size), .bool b]) ∧ ShelfT w w' w.heap.size n (if b then T else []) ∧ Below w.heap.size w w' := by
  obtain ⟨i0, hti, hz0, hz1, hz2⟩ := info_parts infoStrT
  have HR : Hid (TabsAt w a T) := hrow
  have HN : Hid (T.length = n) := hn
  have HB : Hid (baseB T = b) := hb
  clear hrow hn hb
  have hmm := @run_makeMap Tryz.prog
  go_enter Tryz.func14, Tryz.ntmps14
  go_wp2_with (at_make; refine wpList_make_own _ rfl _ _ 30 rfl (w.heap.size + 1) 9 i0 (.string ⟨#[]⟩) 1 Tryz.underlying30 hti hz0 hz1 .i64 .i64 _ n rfl rfl rfl (by rw [hz2]; omega) (by unfold maxLen; omega) (by simp) ?_)
  intro w0 hown0 hgrow0
  have hb0 : Below w.heap.size w w0 := ((Below.refl _ _).alloc (Nat.le_refl _) _).grown hgrow0 (by simp) (by intro k h; cases h)
  have own0 : Hid (w0.ownsRow (w.heap.size + 1) 9 1 (.slice (some ⟨w.heap.size + 1, 0, none⟩) 0 n) 0 (strV (namesT (T.take 0)))) := by
    exact hown0
  have inv0 : Hid (ShInv w w0 w.heap.size T 0) := by
    have : ShInv w w0 w.heap.size T 0 := ⟨fun _ => .nilFunc, (ShelfAt.made w _).block (hgrow0.block _ (by simp) (by simp)), fun _ t ht => by simp at ht⟩
    exact this
  clear hown0 hgrow0 hmm
  go_wp2
  go_loopw [5, 15] (fun v kk wr => ∃ k : Nat, k ≤ n ∧ kk = .int .i64 k ∧ Hid (ShInv w wr w.heap.size T k) ∧ Hid (wr.ownsRow (w.heap.size + 1) 9 1 v k (strV (namesT (T.take k)))) ∧ Below w.heap.size w wr ∧ w.heap.size + 1 ≤ wr.heap.size) (fun _ kk _ => n - (intOf kk).toNat)
  case atStart => exact ⟨0, Nat.zero_le _, rfl, inv0, own0, hb0, by have := inv0.out.choose_spec.1.lt; omega⟩
  case round =>
    obtain ⟨k, hk, rfl, hI, hO, hbw, hsz⟩ := hrel
    by_cases hlt : k < n
    · have hlt' : Hid (k < T.length) := by have := HN.out; exact show k < T.length by omega
      obtain ⟨g, o, ca, cc, ra, cr, rfl, hgw, c0, c1, c2, hta⟩ := HR.out k hlt'.out
      rw [← hbw.cell (p := ⟨g, _, none⟩) hgw] at c0 c1 c2
      have hi0 : (0 : Int) ≤ (k : Int) := by omega
      have hi1 : (k : Int) < (n : Int) := by omega
      have hsn : T.take (k + 1) = T.take k ++ [T[k]'hlt'.out] := List.take_succ_eq_append_getElem hlt'.out
      obtain ⟨t, ht⟩ : ∃ t, (T[k]'hlt'.out) = t := ⟨_, rfl⟩
      rw [ht] at c0 c1 c2 hta hsn
      have HSN : Hid (T.take (k + 1) = T.take k ++ [t]) := hsn
      have HTA : Hid (TabAt w ca cc ra t) := hta
      have hnmL : t.1.size ≤ maxLen := hta.name
      clear hta hsn ht
      obtain ⟨f, ⟨D, hown, hSay⟩, hHo⟩ := hI.out
      have hownH : Hid (wr.ownsMap Tryz.prog 9 tokR w.heap.size k D) := hown
      have hStep : Hid (∀ w', w'.ownsMap Tryz.prog 9 tokR w.heap.size (k + 1) (D.put (keyL t.1) (.held (.agg #[.string t.1, .slice ca t.2.1.length cc, .slice ra t.2.2.length cr]))) → ShInv w w' w.heap.size T (k + 1)) := by
        have : ∀ w', w'.ownsMap Tryz.prog 9 tokR w.heap.size (k + 1) (D.put (keyL t.1) (.held (.agg #[.string t.1, .slice ca t.2.1.length cc, .slice ra t.2.2.length cr]))) → ShInv w w' w.heap.size T (k + 1) :=
          fun w' h => ShInv.step HSN.out hSay hown.isMap hHo HTA.out h
        exact this
      clear hSay hHo hown hI
      obtain ⟨nc, hnc⟩ : ∃ m, t.2.1.length = m := ⟨_, rfl⟩
      obtain ⟨nr, hnr⟩ : ∃ m, t.2.2.length = m := ⟨_, rfl⟩
      obtain ⟨nm, hnm⟩ : ∃ s, t.1 = s := ⟨_, rfl⟩
      rw [hnm] at c0 hnmL
      rw [hnc] at c1
      rw [hnr] at c2
      rw [hnc, hnr, hnm] at hStep
      have HNM : Hid (t.1 = nm) := hnm
      clear hnm hnc hnr
      go_wp2_with (at_mapUpdate; refine wpList_mapUpdate_in _ rfl _ _ _ 43 rfl 9 37 str_keyed Tryz.underlying43 tokR w.heap.size k D rfl (hownH.out.alloc _) (by unfold maxLen; omega) _ _ _ rfl rfl (keyOf_txt nm hnmL) _ [] rfl ?_)
      intro w1 hown1 hturn1
      have hxa : Below w.heap.size w w1 := below_turned (hbw.alloc hbw.size _) hturn1 (Nat.le_refl _)
      have d0 : w1.cell? ⟨wr.heap.size, 0, none⟩ = some (.string nm) := by rw [turned_cell hturn1 (by omega)]; simp
      have hs1 : w1.heap.size = wr.heap.size + 1 := by rw [turned_size hturn1]; simp
      have O1 := own_keepS (hO.out.alloc (.cells #[.string nm, .slice ca nc cc, .slice ra nr cr] 37)) (KeepS.turned hturn1) (fun b hb => by omega)
      have HO1 : Hid (w1.ownsMap Tryz.prog 9 tokR w.heap.size (k + 1) (D.put (keyL nm) (.held (.agg #[.string nm, .slice ca nc cc, .slice ra nr cr])))) := hown1
      clear hturn1 hown1 hownH hO c0 c1 c2 hbw
      have hs1' : Hid (w1.heap.size = wr.heap.size + 1) := hs1
      clear hs1
      go_wp2_with (at_builtin; refine wpList_append_own _ rfl _ _ 30 rfl (w.heap.size + 1) 9 i0 (.string ⟨#[]⟩) 1 16 Tryz.underlying30 hti hz0 hz1 hz2 rfl (by decide) _ _ _ rfl (O1.alloc _) ⟨w1.heap.size, 0, none⟩ 1 1 [.string nm] rfl rfl ?c1 ?c2 ?c3 ?c4 ?c5 ?_)
      case c1 =>
        intro j u hj
        match j, hj with
        | 0, hj => simp at hj; subst hj; simp [Addr.add]
      case c2 => intro u hu; simp at hu; subst hu; rfl
      case c3 => unfold maxLen; omega
      case c4 => omega
      case c5 => have := hs1'.out; simp; omega
      intro v' w3 own2 hgrow hnn
      have hx3 : Below w.heap.size w w3 := by
        refine (hxa.alloc hxa.size _).grown hgrow (by have := hxa.size; simp; omega) ?_
        intro kk hkk
        have := (O1.lt kk hkk).1
        omega
      have hs3 : w.heap.size + 1 ≤ w3.heap.size := by have := hgrow.size; have := hs1'.out; simp at *; omega
      have I3 : Hid (ShInv w w3 w.heap.size T (k + 1)) := by
        have : ShInv w w3 w.heap.size T (k + 1) := hStep.out w3 ((HO1.out.alloc _).kept hgrow (fun e => by have := (O1.lt _ e.symm).1; omega))
        exact this
      have SS : Hid (w3.ownsRow (w.heap.size + 1) 9 1 v' (k + 1) (strV (namesT (T.take (k + 1))))) := by
        have : w3.ownsRow (w.heap.size + 1) 9 1 v' (k + 1) (strV (namesT (T.take (k + 1)))) := by
          rw [HSN.out, namesT_snoc, HNM.out, show strV (namesT (T.take k) ++ [nm]) = strV (namesT (T.take k)) ++ [.string nm] from List.map_append]; exact own2
        exact this
      clear own2 hgrow hnn O1 HO1 hStep
      go_wp2
      go_roundw
      case rel => exact ⟨k + 1, by omega, by go_num, I3, SS, hx3, hs3⟩
      case measure => simp [intOf]; omega
    · have hkl : k = n := by omega
      subst hkl
      have hnn : ¬ (k : Int) < (k : Int) := by omega
      have hTk : T.take k = T := by rw [← HN.out, List.take_length]
      rw [hTk] at hO
      obtain ⟨f, hSh, hHo⟩ := hI.out
      rw [hTk] at hSh hHo
      have HHo : Hid ((namesT T).Nodup → ∀ t, t ∈ T → HoldsT w f t) := hHo
      have HSh : Hid (ShelfAt wr w.heap.size k (ksOf (namesT T)) f) := hSh
      have hnl : (namesT T).length = k := by rw [namesT_length]; exact HN.out
      obtain ⟨ga, gc, hv, hst, hgc, _⟩ := own_strsV hO.out hnl
      subst hv
      have HST : Hid (StrsAt wr ga (namesT T)) := hst
      have HNL : Hid ((namesT T).length = k) := hnl
      have hks : Hid ((ksOf (namesT T)).length ≤ k) := by
        have : (ksOf (namesT T)).length ≤ k := by rw [← HNL.out]; exact ksOf_length _
        exact this
      clear hSh hHo hI hTk hst hO hnl inv0 own0 hb0
      by_cases h5 : (k : Int) ≤ 5
      · obtain ⟨b2, hb2⟩ : ∃ b2, T.all tableB = b2 := ⟨_, rfl⟩
        obtain ⟨r, hr⟩ : ∃ r, risesN (namesT T) = r := ⟨_, rfl⟩
        have hbb : (b2 && r) = b := by
          rw [← HB.out]
          unfold baseB
          rw [hb2, hr, decide_eq_true (by have := HN.out; omega), Bool.and_true]
        have HB2 : Hid (T.all tableB = b2) := hb2
        have HRI : Hid (risesN (namesT T) = r) := hr
        clear hb2 hr
        go_wp2_with fail
        refine (every_tables a cap T k HN.out _ (HR.out.below hbw) (by unfold maxLen; omega) b2 HB2.out).mono ?_
        rintro e w2 ⟨rfl, hbx2⟩
        have hx2 := chain hbw hbx2
        have hs2 : w.heap.size + 1 ≤ w2.heap.size := Nat.le_trans hsz hbx2.size
        have HS2 := HSh.out.below hbx2
        have HT2 := HST.out.below hbx2
        clear hbx2 HSh HST
        cases b2
        · rw [Bool.false_and] at hbb
          subst hbb
          obtain ⟨D, hown, hsay⟩ := HS2
          obtain ⟨wc, hcl, hownc, hturnc⟩ := run_clear hown
          have FIN : Hid (ShelfT w wc w.heap.size k [] ∧ Below w.heap.size w wc) := by
            have : ShelfT w wc w.heap.size k [] ∧ Below w.heap.size w wc := ⟨⟨List.nodup_nil, f, ⟨_, hownc.mono (Nat.zero_le _), says_none f⟩, fun t ht => by cases ht⟩, below_turned hx2 hturnc (Nat.le_refl _)⟩
            exact this
          clear hown hsay hownc hturnc
          go_wp2
          exact bodyPost_ret (v := .tuple #[.map (some w.heap.size), .bool false]) (by simp [results, Tryz.results14, go_sem]) rfl ⟨rfl, FIN.out⟩
        rw [Bool.true_and] at hbb
        subst hbb
        obtain ⟨o1, ho1⟩ : ∃ o1, ordL (namesT T) = o1 := ⟨_, rfl⟩
        obtain ⟨o2, ho2⟩ : ∃ o2, ordL (srt (ksOf (namesT T))) = o2 := ⟨_, rfl⟩
        have hneq : ∀ w, (binOp .neq 63 o1 o2).run Tryz.prog w = .ok (.bool !r) w := by
          intro w
          rw [← ho1, ← ho2]
          unfold ordL
          rw [run_ord_neq]
          have h1 : (namesT T).length ≤ 5 := by rw [HNL.out]; omega
          have h2 : (srt (ksOf (namesT T))).length ≤ 5 := by rw [srt_length]; have := hks.out; omega
          have := ordEq_iff (namesT T) (srt (ksOf (namesT T))) h1 h2
          rw [given_sorted, HRI.out] at this
          congr 3
          exact Bool.eq_iff_iff.2 this
        have heg : ∀ x y w, (eqGuard .neq 63 x y o1 o2).run Tryz.prog w = .ok () w := by
          intro x y w
          rw [← ho1, ← ho2]
          unfold ordL ordV
          go_simp
        have HO1 : Hid (ordL (namesT T) = o1) := ho1
        have HO2 : Hid (ordL (srt (ksOf (namesT T))) = o2) := ho2
        obtain ⟨m, hml⟩ : ∃ m, (ksOf (namesT T)).length = m := ⟨_, rfl⟩
        have HML : Hid ((ksOf (namesT T)).length = m) := hml
        clear ho1 ho2 hml
        go_wp2_with fail
        refine (order_impl ga gc (namesT T) k HNL.out (by rw [HNL.out]; omega) _ HT2).mono ?_
        rw [HO1.out]
        rintro e w3 ⟨rfl, hbx3⟩
        have hx3 := chain hx2 hbx3
        have HS3 := HS2.below hbx3
        clear HT2 HS2 hbx3
        go_wp2_with fail
        refine (names_impl w.heap.size k (ksOf (namesT T)) f _ HS3 (by have := hks.out; omega)).mono ?_
        rintro e w4 ⟨v4, rfl, own4, _, hbx4⟩
        obtain ⟨ga4, gc4, hv4, hst4, hgc4, _⟩ := own_strsV own4 (srt_length _)
        subst hv4
        have hx4 := chain hx3 hbx4
        have HS4 := HS3.below hbx4
        clear HS3 hbx4 own4
        rw [HML.out]
        go_wp2_with fail
        refine (order_impl ga4 gc4 (srt (ksOf (namesT T))) m (by rw [srt_length]; exact HML.out) (by rw [srt_length]; have := hks.out; omega) _ hst4).mono ?_
        rw [HO2.out]
        rintro e w5 ⟨rfl, hbx5⟩
        have hx5 := chain hx4 hbx5
        have HS5 := HS4.below hbx5
        clear HS4 hbx5 hst4
        cases r
        · obtain ⟨D, hown, hsay⟩ := HS5
          obtain ⟨wc, hcl, hownc, hturnc⟩ := run_clear hown
          have FIN : Hid (ShelfT w wc w.heap.size k [] ∧ Below w.heap.size w wc) := by
            have : ShelfT w wc w.heap.size k [] ∧ Below w.heap.size w wc := ⟨⟨List.nodup_nil, f, ⟨_, hownc.mono (Nat.zero_le _), says_none f⟩, fun t ht => by cases ht⟩, below_turned hx5 hturnc (Nat.le_refl _)⟩
            exact this
          clear hown hsay hownc hturnc
          go_wp2
          exact bodyPost_ret (v := .tuple #[.map (some w.heap.size), .bool false]) (by simp [results, Tryz.results14, go_sem]) rfl ⟨rfl, FIN.out⟩
        · have FIN : Hid (ShelfT w w5 w.heap.size k T ∧ Below w.heap.size w w5) := by
            have hnd := rises_nodup HRI.out
            have : ShelfT w w5 w.heap.size k T ∧ Below w.heap.size w w5 := ⟨⟨hnd, f, by rw [ksOf_self hnd] at HS5; exact HS5, HHo.out hnd⟩, hx5⟩
            exact this
          clear HS5
          go_wp2
          exact bodyPost_ret (v := .tuple #[.map (some w.heap.size), .bool true]) (by simp [results, Tryz.results14, go_sem]) rfl ⟨rfl, FIN.out⟩
      · have hb0 : b = false := by
          rw [← HB.out]
          unfold baseB
          rw [decide_eq_false (by have := HN.out; omega), Bool.and_false]
        subst hb0
        obtain ⟨D, hown, hsay⟩ := HSh.out
        obtain ⟨wc, hcl, hownc, hturnc⟩ := run_clear hown
        have FIN : Hid (ShelfT w wc w.heap.size k [] ∧ Below w.heap.size w wc) := by
          have : ShelfT w wc w.heap.size k [] ∧ Below w.heap.size w wc := ⟨⟨List.nodup_nil, f, ⟨_, hownc.mono (Nat.zero_le _), says_none f⟩, fun t ht => by cases ht⟩, below_turned hbw hturnc (Nat.le_refl _)⟩
          exact this
        clear hown hsay hownc hturnc HSh
        go_wp2
        exact bodyPost_ret (v := .tuple #[.map (some w.heap.size), .bool false]) (by simp [results, Tryz.results14, go_sem]) rfl ⟨rfl, FIN.out⟩

end Go.Proofs.YtkbfgecdhiaiialGreatDoor

/-
  The contract of the law's helper that takes a table over: all of it lies in new memory.
-/
namespace Go.Proofs.YtkbfgecdhiaiialGreatDoor
open Go.ChangeShapes Go.WideShapes Go.ChangeAt Go.RowKit
attribute [local go_sem ↓] Go.wp_at_zero Go.wp_at_succ
attribute [local simp] World.cell?_alloc_past World.cell?_alloc_at World.frozen?_alloc_at cell_far cell_off cell_here World.frozen?_alloc_past

theorem Taken.lies {w : World} {g : Nat} {L : List (List CT)} {G : Nat → Nat} (h : Taken w g L G L.length) (hf : ∀ i (hi : i < L.length), Fit L[i]) (hm : ∀ i (hi : i < L.length), L[i].length ≤ maxLen) : RowsAt w (some ⟨g, 0, none⟩) L := by
  intro i hi
  obtain ⟨h1, h2, _⟩ := h.rows i hi hi
  exact ⟨g, 0, _, _, rfl, h.lt, by rw [Nat.zero_add]; exact h1, h2, hf i hi, hm i hi, fun e => by cases e⟩

theorem tostrN (n : Nat) (a : Option Addr) (cap : Nat) (l : List ByteArray) (hn : l.length = n) (w : World) (H : Nat) (hH : w.heap.size = H) (hrow : StrsAt w a l) (hm : n ≤ 1048576) :
    Calls Tryz.prog 23 #[.slice a n cap] w fun e w' => e = .returned (.slice (some ⟨H, 0, none⟩) n n) ∧
      w'.ownsRow H 9 1 (.slice (some ⟨H, 0, none⟩) l.length l.length) l.length (strV l) ∧ Below w.heap.size w w' := by
  subst hn hH; exact tostr_laws a cap l w hrow hm
theorem tossN (n : Nat) (a : Option Addr) (cap : Nat) (L : List (List CT)) (hn : L.length = n) (w : World) (H : Nat) (hH : w.heap.size = H) (hrow : RowsAt w a L) (hm : n ≤ 1048576) (hms : ∀ i (h : i < L.length), L[i].length ≤ 1048576) :
    Calls Tryz.prog 24 #[.slice a n cap] w fun e w' => e = .returned (.slice (some ⟨H, 0, none⟩) n n) ∧
      (∃ G, Taken w' H L G L.length) ∧ Below w.heap.size w w' := by
  subst hn hH; exact toss_laws a cap L w hrow hm hms
theorem own_keepG {w w' : World} {base base' g c : Nat} {e : TypeId} {size n : Nat} {xs : List Value} (h : w.ownsRow base e size (.slice (some ⟨g, 0, none⟩) n c) n xs) (hb : base' ≤ base) (hk : w'.heap[g]? = w.heap[g]?) : w'.ownsRow base' e size (.slice (some ⟨g, 0, none⟩) n c) n xs := by
  refine ⟨h.1, ?_⟩
  rcases h.2 with h' | ⟨g', cap, cur, h', hbg, hg, hr⟩
  · exact .inl h'
  · refine .inr ⟨g', cap, cur, h', by omega, ?_, hr⟩
    simp only [Value.slice.injEq, Option.some.injEq, Addr.mk.injEq, and_true, true_and] at h'
    obtain ⟨rfl, _⟩ := h'
    rw [hk]; exact hg
theorem Taken.low {w w' : World} {g : Nat} {L : List (List CT)} {G : Nat → Nat} (h : Taken w g L G L.length) (hs : w.heap.size ≤ w'.heap.size) (hk : ∀ k, g ≤ k → k < w.heap.size → w'.heap[k]? = w.heap[k]?) : Taken w' g L G L.length where
  lt := Nat.lt_of_lt_of_le h.lt hs
  there := fun i hi => by rw [World.cell?_of_block (a := ⟨g, i, none⟩) (hk g (Nat.le_refl _) h.lt)]; exact h.there i hi
  free := fun i hi => by rw [World.frozen?_of_block (a := ⟨g, i, none⟩) (hk g (Nat.le_refl _) h.lt)]; exact h.free i hi
  bounds := fun i hi => ⟨(h.bounds i hi).1, Nat.lt_of_lt_of_le (h.bounds i hi).2 hs⟩
  rises := h.rises
  rows := fun i hi hm => by
    obtain ⟨h1, h2, h3⟩ := h.rows i hi hm
    have hb := h.bounds i hm
    have e := hk (G i) (by omega) hb.2
    refine ⟨by rw [World.cell?_of_block (a := ⟨g, i, none⟩) (hk g (Nat.le_refl _) h.lt)]; exact h1, ?_, ?_⟩
    · intro j hj
      obtain ⟨b, o, ha, hlt, c0, c1, c2⟩ := h2 j hj
      simp only [Option.some.injEq, Addr.mk.injEq, and_true] at ha
      obtain ⟨rfl, rfl⟩ := ha
      exact ⟨_, _, rfl, Nat.lt_of_lt_of_le hlt hs, by rw [World.cell?_of_block (a := ⟨G i, _, none⟩) e]; exact c0, by rw [World.cell?_of_block (a := ⟨G i, _, none⟩) e]; exact c1, by rw [World.cell?_of_block (a := ⟨G i, _, none⟩) e]; exact c2⟩
    · intro b o ha j hj
      cases ha
      rw [World.frozen?_of_block (a := ⟨G i, _, none⟩) e]
      exact h3 _ _ rfl j hj

/-- A table that was taken over: its columns in block g, its rows in block g2 and those behind. -/
structure NewTab (w : World) (base g g2 : Nat) (t : TB) : Prop where
  lo : base ≤ g
  cols : w.ownsRow base 9 1 (.slice (some ⟨g, 0, none⟩) t.2.1.length t.2.1.length) t.2.1.length (strV t.2.1)
  apart : g < g2
  rows : ∃ G, Taken w g2 t.2.2 G t.2.2.length
theorem NewTab.below {w w' : World} {base g g2 : Nat} {t : TB} (h : NewTab w base g g2 t) (hb : Below w.heap.size w w') : NewTab w' base g g2 t :=
  ⟨h.lo, own_below h.cols hb, h.apart, by obtain ⟨G, hG⟩ := h.rows; exact ⟨G, hG.below hb⟩⟩
theorem NewTab.lies {w : World} {base g g2 : Nat} {t : TB} (h : NewTab w base g g2 t) (hf : FitS t.2.1) (hn : t.1.size ≤ maxLen) (hc : t.2.1.length ≤ maxLen) (hr : t.2.2.length ≤ maxLen) (hfr : ∀ i (hi : i < t.2.2.length), Fit t.2.2[i]) (hmr : ∀ i (hi : i < t.2.2.length), t.2.2[i].length ≤ maxLen) :
    TabAt w (some ⟨g, 0, none⟩) t.2.1.length (some ⟨g2, 0, none⟩) t :=
  ⟨own_strs h.cols, hf, hc, Nat.le_refl _, (fun e => by cases e), by obtain ⟨G, hG⟩ := h.rows; exact hG.lies hfr hmr, hr, hn⟩

theorem NewTab.keepS {w w' : World} {base g g2 : Nat} {t : TB} {P : Nat → Prop} (h : NewTab w base g g2 t) (hk : KeepS P w w') (hP : ∀ b, P b → b < g) : NewTab w' base g g2 t := by
  have hg := (h.cols.lt g rfl).2
  obtain ⟨G, hG⟩ := h.rows
  have ha := h.apart
  exact ⟨h.lo, own_keepG h.cols (Nat.le_refl _) (hk.block g hg (fun hp => by have := hP g hp; omega)), h.apart, G, hG.low hk.size (fun k hgk hl => hk.block k hl (fun hp => by have := hP k hp; omega))⟩

set_option maxHeartbeats 4000000 in
theorem totab_laws (ca : Option Addr) (cc : Nat) (ra : Option Addr) (cr : Nat) (t : TB) (nc nr : Nat) (hnc : t.2.1.length = nc) (hnr : t.2.2.length = nr) (w : World) (ht : TabAt w ca cc ra t) (hc1 : nc ≤ 1048576) (hr1 : nr ≤ 1048576) (hms : ∀ i (h : i < t.2.2.length), t.2.2[i].length ≤ 1048576) :
    Calls Tryz.prog 13 #[.agg #[.string t.1, .slice ca nc cc, .slice ra nr cr]] w fun e w' => ∃ g g2, e = .returned (.agg #[.string t.1, .slice (some ⟨g, 0, none⟩) nc nc, .slice (some ⟨g2, 0, none⟩) nr nr]) ∧ NewTab w' w.heap.size g g2 t ∧ Below w.heap.size w w' := by
  obtain ⟨nm, C, L⟩ := t
  dsimp only at hnc hnr hms ⊢
  have HT : Hid (TabAt w ca cc ra (nm, C, L)) := ht
  have HNC : Hid (C.length = nc) := hnc
  have HNR : Hid (L.length = nr) := hnr
  have HMS : Hid (∀ i (h : i < L.length), L[i].length ≤ 1048576) := hms
  clear ht hnc hnr hms
  have hA : Below w.heap.size w (((w.alloc (.cells #[.string nm, .slice ca nc cc, .slice ra nr cr] 33)).alloc (.cells #[.string ⟨#[]⟩, .slice none 0 0, .slice none 0 0] 37)).alloc (.cells #[.string nm, .slice none 0 0, .slice none 0 0] 37)) :=
    (((Below.refl _ _).alloc (Nat.le_refl _) _).alloc (by simp) _).alloc (by simp; omega) _
  go_enter Tryz.func13, Tryz.ntmps13
  go_wp2_with fail
  refine (tostrN nc ca cc C HNC.out _ (w.heap.size + 1 + 1 + 1) (by simp) (HT.out.below hA).cols hc1).mono ?_
  rintro e w1 ⟨rfl, own1, hb1⟩
  have hx1 := chain hA hb1
  obtain ⟨⟨_, _, p2, pw⟩, ⟨q0, q1, q2, qw⟩, ⟨r0, r1, r2, rw_⟩, f0, f1, f2⟩ := three3 hb1
  have hs1 : w.heap.size + 1 + 1 + 1 < w1.heap.size := (own1.lt _ rfl).2
  obtain ⟨_, hf⟩ := bcell hb1
  have e0 : w1.frozen? ⟨w.heap.size + 1, 0, none⟩ = false := by rw [hf _ _ (by simp)]; simp
  have e1 : w1.frozen? ⟨w.heap.size + 1, 1, none⟩ = false := by rw [hf _ _ (by simp)]; simp
  have e2 : w1.frozen? ⟨w.heap.size + 1, 2, none⟩ = false := by rw [hf _ _ (by simp)]; simp
  have OW1 : Hid (w1.ownsRow (w.heap.size + 1 + 1 + 1) 9 1 (.slice (some ⟨w.heap.size + 1 + 1 + 1, 0, none⟩) C.length C.length) C.length (strV C)) := own1
  clear hf hb1 own1 hA
  obtain ⟨v1, hv1⟩ : ∃ v, v = Value.slice (some ⟨w.heap.size + 1 + 1 + 1, 0, none⟩) nc nc := ⟨_, rfl⟩
  have hxW : Below w.heap.size w (w1.setCell ⟨w.heap.size + 1 + 1, 1, none⟩ v1) := hx1.setCell (p := ⟨w.heap.size + 1 + 1, 1, none⟩) (by show _ ≤ w.heap.size + 1 + 1; omega) _
  go_wp2_with fail
  rw [← hv1]
  refine (tossN nr ra cr L HNR.out _ w1.heap.size (by simp) (HT.out.below hxW).rows hr1 HMS.out).mono ?_
  rintro e w2 ⟨rfl, ⟨G, hG⟩, hb2⟩
  have hx2 := chain hxW hb2
  have hs2 := hb2.size
  simp at hs2
  obtain ⟨hc, hf⟩ := bcell hb2
  have s0 : w2.cell? ⟨w.heap.size + 1 + 1, 0, none⟩ = some (.string nm) := by rw [hc _ _ (by simp; omega), cell_off _ _ _ _ _ (by omega)]; exact r0
  have s1 : w2.cell? ⟨w.heap.size + 1 + 1, 1, none⟩ = some v1 := by rw [hc _ _ (by simp; omega), cell_here _ _ _ _ (by rw [r1]; rfl)]
  have s2 : w2.cell? ⟨w.heap.size + 1 + 1, 2, none⟩ = some (.slice none 0 0) := by rw [hc _ _ (by simp; omega), cell_off _ _ _ _ _ (by omega)]; exact r2
  have t0 : w2.cell? ⟨w.heap.size + 1, 0, none⟩ = some (.string ⟨#[]⟩) := by rw [hc _ _ (by simp; omega), cell_far _ _ _ _ _ _ (by omega)]; exact q0
  have t1 : w2.cell? ⟨w.heap.size + 1, 1, none⟩ = some (.slice none 0 0) := by rw [hc _ _ (by simp; omega), cell_far _ _ _ _ _ _ (by omega)]; exact q1
  have t2 : w2.cell? ⟨w.heap.size + 1, 2, none⟩ = some (.slice none 0 0) := by rw [hc _ _ (by simp; omega), cell_far _ _ _ _ _ _ (by omega)]; exact q2
  have g0 : w2.frozen? ⟨w.heap.size + 1 + 1, 0, none⟩ = false := by rw [hf _ _ (by simp; omega)]; simpa using f0
  have g1 : w2.frozen? ⟨w.heap.size + 1 + 1, 1, none⟩ = false := by rw [hf _ _ (by simp; omega)]; simpa using f1
  have g2 : w2.frozen? ⟨w.heap.size + 1 + 1, 2, none⟩ = false := by rw [hf _ _ (by simp; omega)]; simpa using f2
  have h0 : w2.frozen? ⟨w.heap.size + 1, 0, none⟩ = false := by rw [hf _ _ (by simp; omega)]; simpa using e0
  have h1 : w2.frozen? ⟨w.heap.size + 1, 1, none⟩ = false := by rw [hf _ _ (by simp; omega)]; simpa using e1
  have h2 : w2.frozen? ⟨w.heap.size + 1, 2, none⟩ = false := by rw [hf _ _ (by simp; omega)]; simpa using e2
  have K1 : Keep (w.heap.size + 1 + 1) w1 (w1.setCell ⟨w.heap.size + 1 + 1, 1, none⟩ v1) := (Keep.refl (w.heap.size + 1 + 1) w1).setCell (p := ⟨w.heap.size + 1 + 1, 1, none⟩) (Or.inl rfl) _
  have OW2 : Hid (w2.ownsRow (w.heap.size + 1 + 1 + 1) 9 1 (.slice (some ⟨w.heap.size + 1 + 1 + 1, 0, none⟩) C.length C.length) C.length (strV C)) :=
    own_keepG OW1.out (Nat.le_refl _) ((hb2.block _ (by simp; exact hs1)).trans (K1.block _ hs1 (by omega)))
  have TG : Hid (Taken w2 w1.heap.size L G L.length) := hG
  clear hc hf hb2 hG OW1 K1 q0 q1 q2 r0 r1 r2 f0 f1 f2 e0 e1 e2 p2
  have hw12 : w1.heap.size < w2.heap.size := TG.out.lt
  have N2 : Hid (NewTab w2 w.heap.size (w.heap.size + 1 + 1 + 1) w1.heap.size (nm, C, L)) := by
    have : NewTab w2 w.heap.size (w.heap.size + 1 + 1 + 1) w1.heap.size (nm, C, L) := ⟨by omega, own_keepG OW2.out (by omega) rfl, hs1, G, TG.out⟩
    exact this
  clear OW2 TG
  go_wp2
  refine bodyPost_ret (v := .agg #[.string nm, .slice (some ⟨w.heap.size + 1 + 1 + 1, 0, none⟩) nc nc, .slice (some ⟨w1.heap.size, 0, none⟩) nr nr]) (by simp [results, Tryz.results13, go_sem, t0, t1, t2]) rfl ⟨_, _, rfl, ?_, ?_⟩
  · refine N2.out.keepS (P := fun b => b = w.heap.size + 1 ∨ b = w.heap.size + 1 + 1) ?_ (fun b hb => by omega)
    repeat (first | exact KeepS.refl _ _ | refine KeepS.setCell ?_ (by simp) _)
  · repeat (first | exact hx2 | refine Below.setCell ?_ (by first | (simp; done) | (simp; omega)) _)

end Go.Proofs.YtkbfgecdhiaiialGreatDoor

/-
  The contract of the law's helper that takes a list of tables over: all of it lies in new memory.
-/
namespace Go.Proofs.YtkbfgecdhiaiialGreatDoor
open Go.ChangeShapes Go.WideShapes Go.ChangeAt Go.RowKit
attribute [local go_sem ↓] Go.wp_at_zero Go.wp_at_succ

/-- The first m tables are taken over into block g, their lists behind it. -/
structure TakT (w : World) (g : Nat) (T : List TB) (m : Nat) : Prop where
  lt : g < w.heap.size
  there : ∀ q, q < T.length * 3 → ∃ u, w.cell? ⟨g, q, none⟩ = some u
  free : ∀ q, w.frozen? ⟨g, q, none⟩ = false
  tabs : ∀ i (_ : i < T.length), i < m → ∃ g1 g2, w.cell? ⟨g, i * 3, none⟩ = some (.string T[i].1) ∧ w.cell? ⟨g, i * 3 + 1, none⟩ = some (.slice (some ⟨g1, 0, none⟩) T[i].2.1.length T[i].2.1.length) ∧ w.cell? ⟨g, i * 3 + 2, none⟩ = some (.slice (some ⟨g2, 0, none⟩) T[i].2.2.length T[i].2.2.length) ∧ NewTab w (g + 1) g1 g2 T[i]
theorem TakT.below {w w' : World} {g : Nat} {T : List TB} {m : Nat} (h : TakT w g T m) (hb : Below w.heap.size w w') : TakT w' g T m where
  lt := Nat.lt_of_lt_of_le h.lt hb.size
  there q hq := by obtain ⟨u, hu⟩ := h.there q hq; exact ⟨u, by rw [hb.cell (p := ⟨g, q, none⟩) h.lt]; exact hu⟩
  free q := by rw [hb.frozen (p := ⟨g, q, none⟩) h.lt]; exact h.free q
  tabs i hi hm := by
    obtain ⟨g1, g2, c0, c1, c2, N⟩ := h.tabs i hi hm
    exact ⟨g1, g2, by rw [hb.cell (p := ⟨g, _, none⟩) h.lt]; exact c0, by rw [hb.cell (p := ⟨g, _, none⟩) h.lt]; exact c1, by rw [hb.cell (p := ⟨g, _, none⟩) h.lt]; exact c2, N.below hb⟩
theorem NewTab.lower {w : World} {base base' g g2 : Nat} {t : TB} (h : NewTab w base g g2 t) (hb : base' ≤ base) : NewTab w base' g g2 t :=
  ⟨Nat.le_trans hb h.lo, own_keepG h.cols hb rfl, h.apart, h.rows⟩
/-- One table more is taken over: its three cells are written. -/
theorem TakT.step {w : World} {g : Nat} {T : List TB} {m g1 g2 : Nat} (h : TakT w g T m) (hm : m < T.length) (t : TB) (ht : T[m] = t) (N : NewTab w (g + 1) g1 g2 t) :
    TakT (((w.setCell ⟨g, m * 3, none⟩ (.string t.1)).setCell ⟨g, m * 3 + 1, none⟩ (.slice (some ⟨g1, 0, none⟩) t.2.1.length t.2.1.length)).setCell ⟨g, m * 3 + 2, none⟩ (.slice (some ⟨g2, 0, none⟩) t.2.2.length t.2.2.length)) g T (m + 1) := by
  subst ht
  obtain ⟨u0, e0⟩ := h.there (m * 3) (by omega)
  obtain ⟨u1, e1⟩ := h.there (m * 3 + 1) (by omega)
  obtain ⟨u2, e2⟩ := h.there (m * 3 + 2) (by omega)
  have off : ∀ q, q ≠ m * 3 → q ≠ m * 3 + 1 → q ≠ m * 3 + 2 → (((w.setCell ⟨g, m * 3, none⟩ (.string T[m].1)).setCell ⟨g, m * 3 + 1, none⟩ (.slice (some ⟨g1, 0, none⟩) T[m].2.1.length T[m].2.1.length)).setCell ⟨g, m * 3 + 2, none⟩ (.slice (some ⟨g2, 0, none⟩) T[m].2.2.length T[m].2.2.length)).cell? ⟨g, q, none⟩ = w.cell? ⟨g, q, none⟩ := by
    intro q h0 h1 h2
    rw [cell_off _ _ _ _ _ h2, cell_off _ _ _ _ _ h1, cell_off _ _ _ _ _ h0]
  have a0 : (((w.setCell ⟨g, m * 3, none⟩ (.string T[m].1)).setCell ⟨g, m * 3 + 1, none⟩ (.slice (some ⟨g1, 0, none⟩) T[m].2.1.length T[m].2.1.length)).setCell ⟨g, m * 3 + 2, none⟩ (.slice (some ⟨g2, 0, none⟩) T[m].2.2.length T[m].2.2.length)).cell? ⟨g, m * 3, none⟩ = some (.string T[m].1) := by
    rw [cell_off _ _ _ _ _ (by omega), cell_off _ _ _ _ _ (by omega), cell_here _ _ _ _ (by rw [e0]; rfl)]
  have a1 : (((w.setCell ⟨g, m * 3, none⟩ (.string T[m].1)).setCell ⟨g, m * 3 + 1, none⟩ (.slice (some ⟨g1, 0, none⟩) T[m].2.1.length T[m].2.1.length)).setCell ⟨g, m * 3 + 2, none⟩ (.slice (some ⟨g2, 0, none⟩) T[m].2.2.length T[m].2.2.length)).cell? ⟨g, m * 3 + 1, none⟩ = some (.slice (some ⟨g1, 0, none⟩) T[m].2.1.length T[m].2.1.length) := by
    rw [cell_off _ _ _ _ _ (by omega), cell_here _ _ _ _ (by rw [cell_off _ _ _ _ _ (by omega), e1]; rfl)]
  have a2 : (((w.setCell ⟨g, m * 3, none⟩ (.string T[m].1)).setCell ⟨g, m * 3 + 1, none⟩ (.slice (some ⟨g1, 0, none⟩) T[m].2.1.length T[m].2.1.length)).setCell ⟨g, m * 3 + 2, none⟩ (.slice (some ⟨g2, 0, none⟩) T[m].2.2.length T[m].2.2.length)).cell? ⟨g, m * 3 + 2, none⟩ = some (.slice (some ⟨g2, 0, none⟩) T[m].2.2.length T[m].2.2.length) := by
    rw [cell_here _ _ _ _ (by rw [cell_off _ _ _ _ _ (by omega), cell_off _ _ _ _ _ (by omega), e2]; rfl)]
  have K : KeepS (fun b => b = g) w (((w.setCell ⟨g, m * 3, none⟩ (.string T[m].1)).setCell ⟨g, m * 3 + 1, none⟩ (.slice (some ⟨g1, 0, none⟩) T[m].2.1.length T[m].2.1.length)).setCell ⟨g, m * 3 + 2, none⟩ (.slice (some ⟨g2, 0, none⟩) T[m].2.2.length T[m].2.2.length)) :=
    (((KeepS.refl (fun b => b = g) w).setCell (p := ⟨g, m * 3, none⟩) rfl _).setCell (p := ⟨g, m * 3 + 1, none⟩) rfl _).setCell (p := ⟨g, m * 3 + 2, none⟩) rfl _
  refine ⟨Nat.lt_of_lt_of_le h.lt K.size, ?_, ?_, ?_⟩
  · intro q hq
    by_cases h0 : q = m * 3
    · subst h0; exact ⟨_, a0⟩
    by_cases h1 : q = m * 3 + 1
    · subst h1; exact ⟨_, a1⟩
    by_cases h2 : q = m * 3 + 2
    · subst h2; exact ⟨_, a2⟩
    rw [off q h0 h1 h2]; exact h.there q hq
  · intro q
    rw [World.frozen?_setCell, World.frozen?_setCell, World.frozen?_setCell]; exact h.free q
  · intro i hi hlt
    by_cases e : i = m
    · subst e
      exact ⟨g1, g2, a0, a1, a2, N.keepS K (fun b hb => by have := N.lo; omega)⟩
    · obtain ⟨p1, p2, c0, c1, c2, M⟩ := h.tabs i hi (by omega)
      exact ⟨p1, p2, by rw [off _ (by omega) (by omega) (by omega)]; exact c0, by rw [off _ (by omega) (by omega) (by omega)]; exact c1, by rw [off _ (by omega) (by omega) (by omega)]; exact c2, M.keepS K (fun b hb => by have := M.lo; omega)⟩
theorem TakT.lies {w : World} {g : Nat} {T : List TB} (h : TakT w g T T.length) (hf : ∀ i (hi : i < T.length), FitS T[i].2.1 ∧ T[i].1.size ≤ maxLen ∧ T[i].2.1.length ≤ maxLen ∧ T[i].2.2.length ≤ maxLen ∧ (∀ j (hj : j < T[i].2.2.length), Fit T[i].2.2[j]) ∧ (∀ j (hj : j < T[i].2.2.length), T[i].2.2[j].length ≤ maxLen)) : TabsAt w (some ⟨g, 0, none⟩) T := by
  intro i hi
  obtain ⟨g1, g2, c0, c1, c2, N⟩ := h.tabs i hi hi
  obtain ⟨f1, f2, f3, f4, f5, f6⟩ := hf i hi
  exact ⟨g, 0, _, _, _, _, rfl, h.lt, by rw [Nat.zero_add]; exact c0, by rw [Nat.zero_add]; exact c1, by rw [Nat.zero_add]; exact c2, N.lies f1 f2 f3 f4 f5 f6⟩
theorem TabsAt.fits {w : World} {a : Option Addr} {T : List TB} (h : TabsAt w a T) : ∀ i (hi : i < T.length), FitS T[i].2.1 ∧ T[i].1.size ≤ maxLen ∧ T[i].2.1.length ≤ maxLen ∧ T[i].2.2.length ≤ maxLen ∧ (∀ j (hj : j < T[i].2.2.length), Fit T[i].2.2[j]) ∧ (∀ j (hj : j < T[i].2.2.length), T[i].2.2[j].length ≤ maxLen) := by
  intro i hi
  obtain ⟨b, o, ca, cc, ra, cr, _, _, _, _, _, t⟩ := h i hi
  refine ⟨t.fit, t.name, t.len, t.lenR, fun j hj => ?_, fun j hj => ?_⟩
  · obtain ⟨_, _, _, _, _, _, _, _, hfit, _⟩ := t.rows j hj; exact hfit
  · obtain ⟨_, _, _, _, _, _, _, _, _, hml, _⟩ := t.rows j hj; exact hml

theorem infoT : (Tryz.prog.info? 37).map (fun i => (i.zero, i.size, i.bytes)) = some (some (.agg #[.string ⟨#[]⟩, .slice none 0 0, .slice none 0 0]), 3, 64) := by kernel_rfl

set_option maxHeartbeats 4000000 in
theorem totabs_laws (a : Option Addr) (cap : Nat) (T : List TB) (n : Nat) (hn : T.length = n) (w : World) (hrow : TabsAt w a T) (hm : n ≤ 1048576) (hms : ∀ i (h : i < T.length), T[i].2.1.length ≤ 1048576 ∧ T[i].2.2.length ≤ 1048576 ∧ ∀ j (hj : j < T[i].2.2.length), T[i].2.2[j].length ≤ 1048576) :
    Calls Tryz.prog 6 #[.slice a n cap] w fun e w' => e = .returned (.slice (some ⟨w.heap.size, 0, none⟩) n n) ∧ TakT w' w.heap.size T T.length ∧ Below w.heap.size w w' := by
  obtain ⟨i0, hi, hz0, hz1, hz2⟩ := info_parts infoT
  have hR : Hid (TabsAt w a T) := hrow
  have hN : Hid (T.length = n) := hn
  have hMS : Hid (∀ i (h : i < T.length), T[i].2.1.length ≤ 1048576 ∧ T[i].2.2.length ≤ 1048576 ∧ ∀ j (hj : j < T[i].2.2.length), T[i].2.2[j].length ≤ 1048576) := hms
  clear hrow hn hms
  go_enter Tryz.func6, Tryz.ntmps6
  go_wp2_with (at_make; refine wpList_make_full _ rfl _ _ 25 rfl w.heap.size 37 i0 (.agg #[.string ⟨#[]⟩, .slice none 0 0, .slice none 0 0]) 3 Tryz.underlying25 hi hz0 hz1 .i64 .i64 _ _ n rfl rfl rfl rfl ?b2 ?b3 (Nat.le_refl _) ?_)
  case b2 => rw [hz2]; omega
  case b3 => unfold maxLen; omega
  intro w1 hown hgrow
  have hb1 : Below w.heap.size w w1 := (Below.refl _ _).grown hgrow (Nat.le_refl _) (by intro k h; cases h)
  generalize (madeCells _ _).toList = z at hown
  have hT : Hid (TakT w1 w.heap.size T 0) := by
    refine ⟨(hown.lt _ rfl).2, ?_, fun q => hown.frozenAt q, fun i _ h => by omega⟩
    intro q hq
    have := hN.out
    exact ⟨_, (hown.cellAt q (by omega)).trans (List.getElem?_eq_getElem (by rw [hown.1]; omega))⟩
  clear hown hgrow
  go_wp2
  go_loopw [4] (fun i wr => ∃ m : Nat, m ≤ n ∧ i = .int .i64 m ∧ Hid (TakT wr w.heap.size T m) ∧ Below w.heap.size w wr)
    (fun i _ => n - (intOf i).toNat)
  case atStart => exact ⟨0, Nat.zero_le _, rfl, hT, hb1⟩
  case round =>
    obtain ⟨m, hmL, rfl, hT2, hb⟩ := hrel
    by_cases hlt : m < n
    · have hlt' : Hid (m < T.length) := by have := hN.out; exact show m < T.length by omega
      obtain ⟨b, o, ca, cc, ra, cr, rfl, hbw, c0, c1, c2, ht⟩ := hR.out.below hb m hlt'.out
      have hi0 : (0 : Int) ≤ (m : Int) := by omega
      have hi1 : (m : Int) < (n : Int) := by omega
      have HT : Hid (TabAt wr ca cc ra (T[m]'hlt'.out)) := ht
      have HM : Hid (_ ∧ _ ∧ _) := hMS.out m hlt'.out
      clear ht
      obtain ⟨x, hx⟩ : ∃ x, (T[m]'hlt'.out) = x := ⟨_, rfl⟩
      rw [hx] at c0 c1 c2 HT HM
      have HXE : Hid ((T[m]'hlt'.out) = x) := hx
      clear hx
      obtain ⟨nc, hnc⟩ : ∃ k, x.2.1.length = k := ⟨_, rfl⟩
      obtain ⟨nr, hnr⟩ : ∃ k, x.2.2.length = k := ⟨_, rfl⟩
      rw [hnc] at c1
      rw [hnr] at c2
      have HNC : Hid (x.2.1.length = nc) := hnc
      have HNR : Hid (x.2.2.length = nr) := hnr
      have hbg : w.heap.size < wr.heap.size := hT2.out.lt
      clear hnc hnr
      go_wp2_with fail
      refine (totab_laws ca cc ra cr x nc nr HNC.out HNR.out _ HT.out (by have := HM.out.1; rw [HNC.out] at this; exact this) (by have := HM.out.2.1; rw [HNR.out] at this; exact this) HM.out.2.2).mono ?_
      rintro e w2 ⟨g1, g2, rfl, hnew, hb2⟩
      have hx2 := chain hb hb2
      have T2 := hT2.out.below hb2
      have hTT := T2.step hlt'.out x HXE.out (hnew.lower (by omega))
      rw [HNC.out, HNR.out] at hTT
      have HTT : Hid (TakT (((w2.setCell ⟨w.heap.size, m * 3, none⟩ (.string x.1)).setCell ⟨w.heap.size, m * 3 + 1, none⟩ (.slice (some ⟨g1, 0, none⟩) nc nc)).setCell ⟨w.heap.size, m * 3 + 2, none⟩ (.slice (some ⟨g2, 0, none⟩) nr nr)) w.heap.size T (m + 1)) := hTT
      have hlq := hlt'.out
      obtain ⟨u0, g0⟩ := T2.there (m * 3) (by omega)
      obtain ⟨u1, g1'⟩ := T2.there (m * 3 + 1) (by omega)
      obtain ⟨u2, g2'⟩ := T2.there (m * 3 + 2) (by omega)
      have f0 := T2.free (m * 3)
      have f1 := T2.free (m * 3 + 1)
      have f2 := T2.free (m * 3 + 2)
      clear hTT T2 hb2 hnew hlq hT2
      go_wp2
      go_roundw
      case rel => exact ⟨m + 1, by omega, by go_num, HTT, ((hx2.setCell (Nat.le_refl _) _).setCell (Nat.le_refl _) _).setCell (Nat.le_refl _) _⟩
      case measure => simp [intOf]; omega
    · have hkl : m = n := by omega
      subst hkl
      go_wp2
      go_ret
      exact ⟨rfl, by rw [hN.out]; exact hT2.out, hb⟩

end Go.Proofs.YtkbfgecdhiaiialGreatDoor

/-
  What a law holds of a list of tables that is not too great: each is of a bearable size, and a copy of all of them can be taken.
-/
namespace Go.Proofs.YtkbfgecdhiaiialGreatDoor
open Go.ChangeShapes Go.WideShapes Go.ChangeAt Go.RowKit

theorem leftTS_fits {T : List TB} {x : Int} (h1 : x ≤ 1048576) (h : 0 ≤ leftTS T x) : T.length ≤ 1048576 ∧ ∀ i (hi : i < T.length), T[i].2.1.length ≤ 1048576 ∧ T[i].2.2.length ≤ 1048576 ∧ ∀ j (hj : j < T[i].2.2.length), T[i].2.2[j].length ≤ 1048576 := by
  unfold leftTS at h
  split at h
  · omega
  rename_i hn
  refine ⟨by omega, fun i hi => ?_⟩
  obtain ⟨y, hy1, hy2⟩ := leftTs_fit (T := T) (left := x - T.length) (by omega) h i hi
  obtain ⟨_, q1, q2, q3⟩ := leftT_fit (t := T[i]) (left := y) hy1 hy2
  exact ⟨q1, q2, q3⟩
theorem totabs_lies (a : Option Addr) (cap : Nat) (T : List TB) (n : Nat) (hn : T.length = n) (w : World) (hrow : TabsAt w a T) (hm : T.length ≤ 1048576 ∧ ∀ i (hi : i < T.length), T[i].2.1.length ≤ 1048576 ∧ T[i].2.2.length ≤ 1048576 ∧ ∀ j (hj : j < T[i].2.2.length), T[i].2.2[j].length ≤ 1048576) :
    ∀ w', Below w.heap.size w w' → Calls Tryz.prog 6 #[.slice a n cap] w' fun e w'' => ∃ g, e = .returned (.slice (some ⟨g, 0, none⟩) n n) ∧ TabsAt w'' (some ⟨g, 0, none⟩) T ∧ Below w'.heap.size w' w'' := by
  intro w' hw
  refine (totabs_laws a cap T n hn w' (hrow.below hw) (by rw [← hn]; exact hm.1) hm.2).mono ?_
  rintro e w'' ⟨rfl, hT, hb⟩
  exact ⟨_, rfl, hT.lies hrow.fits, hb⟩
end Go.Proofs.YtkbfgecdhiaiialGreatDoor

/-
  The contracts of the law's helpers that mark the texts of a list, one number behind the other, and that look whether the marks are still there.
-/
namespace Go.Proofs.YtkbfgecdhiaiialGreatDoor
open Go.ChangeShapes Go.WideShapes Go.ChangeAt Go.RowKit
attribute [local go_sem ↓] Go.wp_at_zero Go.wp_at_succ

/-- The marks of a list of n texts. -/
def marksS (k n : Nat) : List ByteArray := (List.range n).map fun i => mt (k + i)
theorem marksS_length (k n : Nat) : (marksS k n).length = n := by simp [marksS]
theorem marksS_at (k n i : Nat) (h : i < (marksS k n).length) : (marksS k n)[i] = mt (k + i) := by simp [marksS]
theorem marksS_step (k : Nat) (l : List ByteArray) (i : Nat) (h : i < l.length) : (marksS k i ++ l.drop i).set i (mt (k + i)) = marksS k (i + 1) ++ l.drop (i + 1) := by
  rw [List.set_append_right _ _ (by rw [marksS_length]; omega), marksS_length, Nat.sub_self]
  have e : l.drop i = l[i] :: l.drop (i + 1) := List.drop_eq_getElem_cons h
  rw [e, List.set_cons_zero]
  simp [marksS, List.range_succ]
/-- The texts of a slice may be written. -/
def FreeS (w : World) (a : Option Addr) (n : Nat) : Prop := ∀ b o, a = some ⟨b, o, none⟩ → ∀ j, j < n → w.frozen? ⟨b, o + j, none⟩ = false
theorem StrsAt.upd {w w' : World} {b o : Nat} {l : List ByteArray} {i : Nat} {x : ByteArray} (h : StrsAt w (some ⟨b, o, none⟩) l) (hs : w.heap.size ≤ w'.heap.size)
    (hfar : ∀ q, q ≠ o + i → w'.cell? ⟨b, q, none⟩ = w.cell? ⟨b, q, none⟩) (h0 : w'.cell? ⟨b, o + i, none⟩ = some (.string x)) : StrsAt w' (some ⟨b, o, none⟩) (l.set i x) := by
  intro j hj
  have hj' : j < l.length := by simpa using hj
  obtain ⟨b', o', e, hlt, c0⟩ := h j hj'
  cases e
  refine ⟨b, o, rfl, Nat.lt_of_lt_of_le hlt hs, ?_⟩
  by_cases hij : i = j
  · subst hij
    rw [List.getElem_set_self]; exact h0
  · rw [List.getElem_set_ne hij, hfar _ (by omega)]; exact c0
theorem FreeS.upd {w w' : World} {a : Option Addr} {n : Nat} (h : FreeS w a n) (hf : ∀ b o q, a = some ⟨b, o, none⟩ → w'.frozen? ⟨b, q, none⟩ = w.frozen? ⟨b, q, none⟩) : FreeS w' a n :=
  fun b o e j hj => by rw [hf b o _ e]; exact h b o e j hj

end Go.Proofs.YtkbfgecdhiaiialGreatDoor
