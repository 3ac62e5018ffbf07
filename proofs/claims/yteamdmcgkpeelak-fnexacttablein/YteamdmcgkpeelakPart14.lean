/-
  A part of the proof: TabsLaw, Open1, Open2, Open3.
-/
import Derived.Test.YteamdmcgkpeelakPart13
import Derived.Test.YteamdmcgkpeelakPart3
import Derived.Deep.SlicePairs
import Derived.Test.YteamdmcgkpeelakPart4
import Derived.Lib.SmallJoins

/-
  What the laws of the base want: how many marks there are, and what stays where marks are put.
-/
namespace Go.Proofs.Yteamdmcgkpeelak
open Go.ChangeShapes Go.WideShapes Go.ChangeAt Go.RowKit

theorem sum_le {α : Type} (f : α → Nat) (c : Nat) (l : List α) (h : ∀ x, x ∈ l → f x ≤ c) : (l.map f).sum ≤ l.length * c := by
  induction l with
  | nil => simp
  | cons x l ih =>
    have h1 := h x (by simp)
    have h2 := ih (fun y hy => h y (by simp [hy]))
    rw [List.map_cons, List.sum_cons, List.length_cons, Nat.add_mul]
    omega
theorem tabN_small {t : TB} (h : tableB t = true) : tabN t ≤ 1087 := by
  unfold tableB namesB at h
  simp only [Bool.and_eq_true, decide_eq_true_eq] at h
  obtain ⟨⟨_, ⟨_, h2⟩, h3⟩, h4⟩ := h
  have hc : t.2.1.length ≤ 6 := by
    have := h2
    omega
  have ho : offs t.2.2 t.2.2.length ≤ t.2.2.length * 6 := by
    unfold offs
    rw [List.take_length]
    refine sum_le List.length 6 t.2.2 (fun r hr => ?_)
    have := List.all_eq_true.1 h4 _ hr
    unfold rowOk at this
    simp only [Bool.and_eq_true, decide_eq_true_eq] at this
    omega
  unfold tabN
  omega
theorem offT_small {V : List TB} (h : ∀ t, t ∈ V → tableB t = true) (h5 : V.length ≤ 5) : offT V V.length ≤ 5435 := by
  unfold offT
  rw [List.take_length]
  have := sum_le tabN 1087 V (fun t ht => tabN_small (h t ht))
  omega
theorem offsT2 (L : List (List CT)) : offs L L.length ≤ total L := by
  unfold offs total
  rw [List.take_length]
  induction L with
  | nil => simp
  | cons l L ih => simp only [List.map_cons, List.sum_cons]; omega
theorem tabN_left {t : TB} {x : Int} (h : 0 ≤ leftT t x) : (tabN t : Int) ≤ 1 + 3 * (x - leftT t x) := by
  unfold leftT at h ⊢
  by_cases h1 : x < (t.1.size : Int)
  · rw [if_pos h1] at h; omega
  rw [if_neg h1] at h ⊢
  by_cases h2 : leftOfS t.2.1 (x - t.1.size) < 0
  · rw [if_pos h2] at h; omega
  rw [if_neg h2] at h ⊢
  by_cases h3 : leftOfs t.2.2 (leftOfS t.2.1 (x - t.1.size)) < 0
  · rw [if_pos h3] at h; omega
  rw [if_neg h3] at h ⊢
  have ho := offsT2 t.2.2
  unfold leftOfs at h3 ⊢
  split at h3
  · omega
  rename_i h4
  rw [if_neg h4]
  unfold leftOfS at h2 h4 ⊢
  split at h2
  · omega
  rename_i h5
  rw [if_neg h5] at h4 ⊢
  unfold tabN
  omega
theorem offT_leftTs {T : List TB} {x : Int} (h : 0 ≤ leftTs T x) : (((T.map tabN).sum : Nat) : Int) ≤ T.length + 3 * (x - leftTs T x) := by
  induction T generalizing x with
  | nil => simp [leftTs]
  | cons t T ih =>
    unfold leftTs at h ⊢
    split at h
    · omega
    rename_i hn
    rw [if_neg hn]
    have h1 := tabN_left (t := t) (x := x) (by omega)
    have h2 := ih h
    rw [List.map_cons, List.sum_cons, List.length_cons]
    omega
theorem offT_leftTS {T : List TB} {x : Int} (h1 : x ≤ 1048576) (h : 0 ≤ leftTS T x) : offT T T.length ≤ 4194304 := by
  unfold leftTS at h
  split at h
  · omega
  rename_i hn
  have := offT_leftTs (T := T) (x := x - T.length) h
  unfold offT
  rw [List.take_length]
  omega
theorem dropped_good {T : List TB} {s : ByteArray} {V : List TB} {r : Bool} (h : droppedR T s = (V, r)) : (∀ t, t ∈ V → tableB t = true) ∧ V.length ≤ 5 := by
  unfold droppedR at h
  split at h
  · rename_i hb
    obtain ⟨p1, _, p3⟩ := baseB_parts hb
    obtain ⟨e, _⟩ := Prod.mk.inj h
    subst e
    exact ⟨fun t ht => p1 t (List.mem_filter.1 ht).1, Nat.le_trans (List.length_filter_le _ _) p3⟩
  · obtain ⟨e, _⟩ := Prod.mk.inj h
    subst e
    exact ⟨fun t ht => (by cases ht), Nat.zero_le _⟩
theorem replaced_good {T : List TB} {u : TB} {V : List TB} {r : Bool} (h : replacedR T u = (V, r)) : (∀ t, t ∈ V → tableB t = true) ∧ V.length ≤ 5 := by
  unfold replacedR at h
  split at h
  · rename_i hb
    obtain ⟨p1, _, p3⟩ := baseB_parts hb
    split at h
    · rename_i hc
      obtain ⟨e, _⟩ := Prod.mk.inj h
      subst e
      refine ⟨fun t ht => ?_, by rw [replT_length]; exact p3⟩
      unfold replT at ht
      obtain ⟨x, hx, e⟩ := List.mem_map.1 ht
      split at e
      · subst e; exact hc.2
      · subst e; exact p1 x hx
    · obtain ⟨e, _⟩ := Prod.mk.inj h
      subst e
      exact ⟨p1, p3⟩
  · obtain ⟨e, _⟩ := Prod.mk.inj h
    subst e
    exact ⟨fun t ht => (by cases ht), Nat.zero_le _⟩
theorem made_good {T : List TB} {u : TB} {V : List TB} {r : Bool} (h : madeR T u = (V, r)) : (∀ t, t ∈ V → tableB t = true) ∧ V.length ≤ 5 := by
  unfold madeR at h
  split at h
  · rename_i hb
    obtain ⟨p1, _, p3⟩ := baseB_parts hb
    split at h
    · rename_i hc
      obtain ⟨e, _⟩ := Prod.mk.inj h
      subst e
      refine ⟨fun t ht => ?_, by rw [insT_length]; have := hc.2.1; omega⟩
      rcases List.mem_append.1 ((insT_perm T u).mem_iff.1 ht) with ht | ht
      · exact p1 t ht
      · rw [List.mem_singleton] at ht; subst ht; exact hc.2.2
    · obtain ⟨e, _⟩ := Prod.mk.inj h
      subst e
      exact ⟨p1, p3⟩
  · obtain ⟨e, _⟩ := Prod.mk.inj h
    subst e
    exact ⟨fun t ht => (by cases ht), Nat.zero_le _⟩
theorem KeepS.belowP {P : Nat → Prop} {B : Nat} {a w w' : World} (h : Below B a w) (hk : KeepS P w w') (hB : B ≤ w.heap.size) (hP : ∀ b, P b → B ≤ b) : Below B a w' :=
  h.trans ⟨hk.os, hk.tape, hk.output, hk.size, fun k hkB => hk.block k (by omega) (fun hp => by have := hP k hp; omega)⟩
/-- Tables that lie there stay where nothing below is written. -/
theorem TabsAt.far {B : Nat} {w w' : World} {a : Option Addr} {T : List TB} (h : TabsAt w a T) (hs : w.heap.size = B) (hb : Below B w w') : TabsAt w' a T := by
  subst hs; exact h.below hb
end Go.Proofs.Yteamdmcgkpeelak

/-
  A law's argument that is a slice of cells, opened: which list of cells it is, and where they lie.
-/
namespace Go.Proofs.Yteamdmcgkpeelak
open Go.ChangeShapes Go.WideShapes Go.ChangeAt Go.RowKit Go.Deep

theorem open_cells {H : Type} {enc : TypeId × Value → H} {P : Program} {w : World} {base : Nat} {spare : Nat → Bool} {held : Bool} {t e : TypeId} {f0 f1 f2 : Field} {fuel : Nat} {a : Option Addr} {len cap : Nat} {x : DataW H × List MemPlace}
    (ht : P.underlying t = some (.slice e)) (he : P.underlying e = some (.struct #[f0, f1, f2])) (ce : P.cellsOf e = 3) (o0 : f0.offset = 0) (o1 : f1.offset = 1) (o2 : f2.offset = 2)
    (c0 : P.cellsOf f0.type = 1) (c1 : P.cellsOf f1.type = 1) (c2 : P.cellsOf f2.type = 1) (u0 : P.underlying f0.type = some (.int .i64)) (u1 : P.underlying f1.type = some (.int .i64)) (u2 : P.underlying f2.type = some .string)
    (h : DataW.trod enc P w base spare held fuel t [.slice a len cap] = some x) :
    ∃ l : List CT, l.length = len ∧ RowAt w a l ∧ Fit l ∧ len ≤ maxLen ∧ (a = none → cap = 0) := by
  rcases open_slice ht h with ⟨h0, _⟩ | ⟨ad, len', cap', m, n, D, Pl, hcs, hb, hl, hm, hmm, _, hx⟩
  · simp at h0
    obtain ⟨rfl, rfl, rfl⟩ := h0
    exact ⟨[], rfl, fun j hj => by simp at hj, fun j hj => by simp at hj, by unfold maxLen; omega, fun _ => rfl⟩
  simp at hcs
  obtain ⟨rfl, rfl, rfl⟩ := hcs
  have hlm : len ≤ m := by rw [hmm]; split <;> omega
  have each : ∀ i, i < len → ∃ q : CT, w.cell? (ad.add (i * 3)) = some (.int .i64 q.1) ∧ w.cell? (ad.add (i * 3 + 1)) = some (.int .i64 q.2.1) ∧ w.cell? (ad.add (i * 3 + 2)) = some (.string q.2.2) ∧ q.2.2.size ≤ maxLen := by
    intro i hi
    obtain ⟨cs', h1, h2⟩ := hx i (by omega)
    rw [ce] at h1
    obtain ⟨_, hlen, hcell⟩ := World.cells?_some h1
    obtain ⟨xs, k, hk, hxy, _, hxl, hf⟩ := DataW.trod_struct he h2
    match xs, hxl, cs', hlen with
    | [y0, y1, y2], _, [v0, v1, v2], _ =>
      have g0 := hf 0 f0 rfl
      have g1 := hf 1 f1 rfl
      have g2 := hf 2 f2 rfl
      simp [o0, o1, o2, c0, c1, c2] at g0 g1 g2
      have e0 := hcell 0 (by omega)
      have e1 := hcell 1 (by omega)
      have e2 := hcell 2 (by omega)
      rw [add_add] at e0 e1 e2
      obtain ⟨k0, ek, _, _⟩ := DataW.trod_int u0 g0
      obtain ⟨n0, en, _, _⟩ := DataW.trod_int u1 g1
      obtain ⟨s0, es, _, hs⟩ := DataW.trod_string u2 g2
      simp at ek en es
      subst ek en es
      exact ⟨(k0, n0, s0), by simpa using e0, by simpa using e1, by simpa using e2, hs⟩
  obtain ⟨q, hq⟩ := choose_lt each
  have spot : 0 < len → ad.spot = none := by
    intro h0
    obtain ⟨e0, _⟩ := hq 0 h0
    simpa [Addr.add] using World.cell?_spot e0
  refine ⟨(List.range len).map q, by simp, ?_, ?_, by omega, fun h => by cases h⟩
  · intro j hj
    have hj' : j < len := by simpa using hj
    obtain ⟨b, o, sp⟩ := ad
    have hsp := spot (by omega)
    simp at hsp
    subst hsp
    obtain ⟨e0, e1, e2, _⟩ := hq j hj'
    have hadd : ∀ q, ((⟨b, o, none⟩ : Addr).add q) = ⟨b, o + q, none⟩ := by
      intro q
      unfold Addr.add
      by_cases hq : q = 0 <;> simp [hq]
    rw [hadd] at e0 e1 e2
    refine ⟨b, o, rfl, World.block_lt_of_cell? w _ e0, ?_, ?_, ?_⟩
    · simpa using e0
    · simpa [Nat.add_assoc] using e1
    · simpa [Nat.add_assoc] using e2
  · intro j hj
    have hj' : j < len := by simpa using hj
    simpa using (hq j hj').2.2.2

theorem open_rows {H : Type} {enc : TypeId × Value → H} {P : Program} {w : World} {base : Nat} {spare : Nat → Bool} {held : Bool} {tt t e : TypeId} {f0 f1 f2 : Field} {fuel : Nat} {a : Option Addr} {len cap : Nat} {x : DataW H × List MemPlace}
    (htt : P.underlying tt = some (.slice t)) (ct : P.cellsOf t = 1) (ht : P.underlying t = some (.slice e)) (he : P.underlying e = some (.struct #[f0, f1, f2])) (ce : P.cellsOf e = 3) (o0 : f0.offset = 0) (o1 : f1.offset = 1) (o2 : f2.offset = 2)
    (c0 : P.cellsOf f0.type = 1) (c1 : P.cellsOf f1.type = 1) (c2 : P.cellsOf f2.type = 1) (u0 : P.underlying f0.type = some (.int .i64)) (u1 : P.underlying f1.type = some (.int .i64)) (u2 : P.underlying f2.type = some .string)
    (h : DataW.trod enc P w base spare held fuel tt [.slice a len cap] = some x) :
    ∃ L : List (List CT), L.length = len ∧ RowsAt w a L ∧ len ≤ maxLen ∧ (a = none → cap = 0) := by
  rcases open_slice htt h with ⟨h0, _⟩ | ⟨ad, len', cap', m, n, D, Pl, hcs, hb, hl, hm, hmm, _, hx⟩
  · simp at h0
    obtain ⟨rfl, rfl, rfl⟩ := h0
    exact ⟨[], rfl, fun j hj => by simp at hj, by unfold maxLen; omega, fun _ => rfl⟩
  simp at hcs
  obtain ⟨rfl, rfl, rfl⟩ := hcs
  have hlm : len ≤ m := by rw [hmm]; split <;> omega
  have each : ∀ i, i < len → ∃ l : List CT, ∃ ai ci, w.cell? (ad.add i) = some (.slice ai l.length ci) ∧ RowAt w ai l ∧ Fit l ∧ l.length ≤ maxLen ∧ (ai = none → ci = 0) := by
    intro i hi
    obtain ⟨cs', h1, h2⟩ := hx i (by omega)
    rw [ct, Nat.mul_one] at h1
    obtain ⟨_, hlen, hcell⟩ := World.cells?_some h1
    match cs', hlen with
    | [v], _ =>
      have e0 := hcell 0 (by omega)
      rw [add_add] at e0
      have e1 : w.cell? (ad.add i) = some v := by simpa using e0
      obtain ⟨ai, li, ci, rfl⟩ : ∃ ai li ci, v = .slice ai li ci := by
        rcases open_slice ht h2 with ⟨hv, _⟩ | ⟨a', l', c', _, _, _, _, hv, _⟩
        · simp at hv; exact ⟨_, _, _, hv⟩
        · simp at hv; exact ⟨_, _, _, hv⟩
      obtain ⟨l, hll, hr, hf, hml, hn⟩ := open_cells ht he ce o0 o1 o2 c0 c1 c2 u0 u1 u2 h2
      subst hll
      exact ⟨l, ai, ci, e1, hr, hf, hml, hn⟩
  obtain ⟨q, hq⟩ := choose_lt each
  have spot : 0 < len → ad.spot = none := by
    intro h0
    obtain ⟨ai, ci, e0, _⟩ := hq 0 h0
    simpa [Addr.add] using World.cell?_spot e0
  refine ⟨(List.range len).map q, by simp, ?_, by omega, fun h => by cases h⟩
  intro j hj
  have hj' : j < len := by simpa using hj
  obtain ⟨b, o, sp⟩ := ad
  have hsp := spot (by omega)
  simp at hsp
  subst hsp
  obtain ⟨ai, ci, e0, hr, hf, hml, hn⟩ := hq j hj'
  have hadd : ((⟨b, o, none⟩ : Addr).add j) = ⟨b, o + j, none⟩ := by
    unfold Addr.add
    by_cases hq : j = 0 <;> simp [hq]
  rw [hadd] at e0
  have hg : ((List.range len).map q)[j] = q j := by simp
  rw [hg]
  exact ⟨b, o, ai, ci, rfl, World.block_lt_of_cell? w _ e0, e0, hr, hf, hml, hn⟩

end Go.Proofs.Yteamdmcgkpeelak

/-
  A law's argument that is a slice of texts, or a table, opened: which one it is, and where it lies.
-/
namespace Go.Proofs.Yteamdmcgkpeelak
open Go.ChangeShapes Go.WideShapes Go.ChangeAt Go.RowKit Go.Deep Go.Joins

theorem open_strs {H : Type} {enc : TypeId × Value → H} {P : Program} {w : World} {base : Nat} {spare : Nat → Bool} {held : Bool} {t e : TypeId} {fuel : Nat} {a : Option Addr} {len cap : Nat} {x : DataW H × List MemPlace}
    (ht : P.underlying t = some (.slice e)) (he : P.underlying e = some .string) (ce : P.cellsOf e = 1)
    (h : DataW.trod enc P w base spare held fuel t [.slice a len cap] = some x) :
    ∃ l : List ByteArray, l.length = len ∧ StrsAt w a l ∧ FitS l ∧ len ≤ maxLen ∧ len ≤ cap ∧ (a = none → cap = 0) := by
  rcases open_slice ht h with ⟨h0, _⟩ | ⟨ad, len', cap', m, n, D, Pl, hcs, hb, hl, hm, hmm, _, hx⟩
  · simp at h0
    obtain ⟨rfl, rfl, rfl⟩ := h0
    exact ⟨[], rfl, fun j hj => by simp at hj, fun j hj => by simp at hj, by unfold maxLen; omega, Nat.le_refl _, fun _ => rfl⟩
  simp at hcs
  obtain ⟨rfl, rfl, rfl⟩ := hcs
  have hlm : len ≤ m := by rw [hmm]; split <;> omega
  have each : ∀ i, i < len → ∃ q : ByteArray, w.cell? (ad.add i) = some (.string q) ∧ q.size ≤ maxLen := by
    intro i hi
    obtain ⟨cs', h1, h2⟩ := hx i (by omega)
    rw [ce, Nat.mul_one] at h1
    obtain ⟨_, hlen, hcell⟩ := World.cells?_some h1
    match cs', hlen with
    | [v], _ =>
      have e0 := hcell 0 (by omega)
      rw [add_add] at e0
      obtain ⟨s0, es, _, hs⟩ := DataW.trod_string he h2
      simp at es
      subst es
      exact ⟨s0, by simpa using e0, hs⟩
  obtain ⟨q, hq⟩ := choose_lt each
  have spot : 0 < len → ad.spot = none := by
    intro h0
    obtain ⟨e0, _⟩ := hq 0 h0
    simpa [Addr.add] using World.cell?_spot e0
  refine ⟨(List.range len).map q, by simp, ?_, ?_, by omega, by omega, fun h => by cases h⟩
  · intro j hj
    have hj' : j < len := by simpa using hj
    obtain ⟨b, o, sp⟩ := ad
    have hsp := spot (by omega)
    simp at hsp
    subst hsp
    obtain ⟨e0, _⟩ := hq j hj'
    have hadd : ((⟨b, o, none⟩ : Addr).add j) = ⟨b, o + j, none⟩ := by
      unfold Addr.add
      by_cases hq : j = 0 <;> simp [hq]
    rw [hadd] at e0
    refine ⟨b, o, rfl, World.block_lt_of_cell? w _ e0, ?_⟩
    simpa using e0
  · intro j hj
    have hj' : j < len := by simpa using hj
    simpa using (hq j hj').2

theorem cellsTab : Try.prog.cellsOf 25 = 3 := by kernel_rfl

set_option maxRecDepth 100000 in
theorem open_table {H : Type} {enc : TypeId × Value → H} {w : World} {r : _root_.Go.Reach} {b0 base : Nat} {spare : Nat → Bool} {held : Bool} {v : Value} {d : DataW H} {p : List MemPlace}
    (hv : Value.okWide Try.prog w r b0 25 v) (h : DataW.Trod enc Try.prog w base spare held 25 v d p) :
    ∃ (t : TB) (nc nr : Nat) (ca : Option Addr) (cc : Nat) (ra : Option Addr) (cr : Nat), v = .agg #[.string t.1, .slice ca nc cc, .slice ra nr cr] ∧ t.2.1.length = nc ∧ t.2.2.length = nr ∧ TabAt w ca cc ra t := by
  obtain ⟨v0, v1, v2, y0, y1, y2, m, rfl, rfl, rfl, hy0, hy1, hy2⟩ := open_agg3 Try.underlying25 (by kernel_rfl) cellsTab hv h
  obtain ⟨nm, en, _, hn⟩ := DataW.trod_string Try.underlying9 hy0
  simp at en
  subst en
  obtain ⟨ca, nc, cc, rfl⟩ : ∃ ai li ci, v1 = .slice ai li ci := by
    rcases open_slice Try.underlying22 hy1 with ⟨hv, _⟩ | ⟨a', l', c', _, _, _, _, hv, _⟩
    · simp at hv; exact ⟨_, _, _, hv⟩
    · simp at hv; exact ⟨_, _, _, hv⟩
  obtain ⟨ra, nr, cr, rfl⟩ : ∃ ai li ci, v2 = .slice ai li ci := by
    rcases open_slice Try.underlying23 hy2 with ⟨hv, _⟩ | ⟨a', l', c', _, _, _, _, hv, _⟩
    · simp at hv; exact ⟨_, _, _, hv⟩
    · simp at hv; exact ⟨_, _, _, hv⟩
  obtain ⟨C, hC, hs, hf, hl, hcap, hnil⟩ := open_strs Try.underlying22 Try.underlying9 (by kernel_rfl) hy1
  obtain ⟨L, hL, hr, hlr, _⟩ := open_rows Try.underlying23 (by kernel_rfl) Try.underlying76 Try.underlying92 (by kernel_rfl) rfl rfl rfl (by kernel_rfl) (by kernel_rfl) (by kernel_rfl) Try.underlying2 Try.underlying2 Try.underlying9 hy2
  exact ⟨(nm, C, L), nc, nr, ca, cc, ra, cr, rfl, hC, hL, hs, hf, by rw [show (nm, C, L).2.1.length = nc from hC]; exact hl, by rw [show (nm, C, L).2.1.length = nc from hC]; exact hcap, hnil, hr, by rw [show (nm, C, L).2.2.length = nr from hL]; exact hlr, hn⟩

end Go.Proofs.Yteamdmcgkpeelak

/-
  A law's argument that is a slice of tables, opened: which tables they are, and where they lie.
-/
namespace Go.Proofs.Yteamdmcgkpeelak
open Go.ChangeShapes Go.WideShapes Go.ChangeAt Go.RowKit Go.Deep Go.Joins

set_option maxRecDepth 100000 in
theorem open_tabs {H : Type} {enc : TypeId × Value → H} {w : World} {base : Nat} {spare : Nat → Bool} {held : Bool} {fuel : Nat} {a : Option Addr} {len cap : Nat} {x : DataW H × List MemPlace}
    (h : DataW.trod enc Try.prog w base spare held fuel 39 [.slice a len cap] = some x) :
    ∃ T : List TB, T.length = len ∧ TabsAt w a T ∧ len ≤ maxLen ∧ len ≤ cap ∧ (a = none → cap = 0) := by
  rcases open_slice Try.underlying39 h with ⟨h0, _⟩ | ⟨ad, len', cap', m, n, D, Pl, hcs, hb, hl, hm, hmm, _, hx⟩
  · simp at h0
    obtain ⟨rfl, rfl, rfl⟩ := h0
    exact ⟨[], rfl, fun j hj => by simp at hj, by unfold maxLen; omega, Nat.le_refl _, fun _ => rfl⟩
  simp at hcs
  obtain ⟨rfl, rfl, rfl⟩ := hcs
  have hlm : len ≤ m := by rw [hmm]; split <;> omega
  have each : ∀ i, i < len → ∃ t : TB, ∃ ca cc ra cr, w.cell? (ad.add (i * 3)) = some (.string t.1) ∧ w.cell? (ad.add (i * 3 + 1)) = some (.slice ca t.2.1.length cc) ∧ w.cell? (ad.add (i * 3 + 2)) = some (.slice ra t.2.2.length cr) ∧ TabAt w ca cc ra t := by
    intro i hi
    obtain ⟨cs', h1, h2⟩ := hx i (by omega)
    rw [cellsTab] at h1
    obtain ⟨_, hlen, hcell⟩ := World.cells?_some h1
    obtain ⟨xs, k, hk, hxy, _, hxl, hf⟩ := DataW.trod_struct Try.underlying25 h2
    match xs, hxl, cs', hlen with
    | [y0, y1, y2], _, [v0, v1, v2], _ =>
      have g0 := hf 0 _ rfl
      have g1 := hf 1 _ rfl
      have g2 := hf 2 _ rfl
      have k0 : Try.prog.cellsOf 9 = 1 := by kernel_rfl
      have k1 : Try.prog.cellsOf 22 = 1 := by kernel_rfl
      have k2 : Try.prog.cellsOf 23 = 1 := by kernel_rfl
      simp [k0, k1, k2] at g0 g1 g2
      have e0 := hcell 0 (by omega)
      have e1 := hcell 1 (by omega)
      have e2 := hcell 2 (by omega)
      rw [add_add] at e0 e1 e2
      obtain ⟨nm, en, _, hn⟩ := DataW.trod_string Try.underlying9 g0
      simp at en
      subst en
      obtain ⟨ca, nc, cc, rfl⟩ : ∃ ai li ci, v1 = .slice ai li ci := by
        rcases open_slice Try.underlying22 g1 with ⟨hv, _⟩ | ⟨a', l', c', _, _, _, _, hv, _⟩
        · simp at hv; exact ⟨_, _, _, hv⟩
        · simp at hv; exact ⟨_, _, _, hv⟩
      obtain ⟨ra, nr, cr, rfl⟩ : ∃ ai li ci, v2 = .slice ai li ci := by
        rcases open_slice Try.underlying23 g2 with ⟨hv, _⟩ | ⟨a', l', c', _, _, _, _, hv, _⟩
        · simp at hv; exact ⟨_, _, _, hv⟩
        · simp at hv; exact ⟨_, _, _, hv⟩
      obtain ⟨C, hC, hs, hft, hlc, hcap, hnil⟩ := open_strs Try.underlying22 Try.underlying9 (by kernel_rfl) g1
      obtain ⟨L, hL, hr, hlr, _⟩ := open_rows Try.underlying23 (by kernel_rfl) Try.underlying76 Try.underlying92 (by kernel_rfl) rfl rfl rfl (by kernel_rfl) (by kernel_rfl) (by kernel_rfl) Try.underlying2 Try.underlying2 Try.underlying9 g2
      subst hC hL
      exact ⟨(nm, C, L), ca, cc, ra, cr, by simpa using e0, by simpa using e1, by simpa using e2, hs, hft, hlc, hcap, hnil, hr, hlr, hn⟩
  obtain ⟨q, hq⟩ := choose_lt each
  have spot : 0 < len → ad.spot = none := by
    intro h0
    obtain ⟨_, _, _, _, e0, _⟩ := hq 0 h0
    simpa [Addr.add] using World.cell?_spot e0
  refine ⟨(List.range len).map q, by simp, ?_, by omega, by omega, fun h => by cases h⟩
  intro j hj
  have hj' : j < len := by simpa using hj
  obtain ⟨b, o, sp⟩ := ad
  have hsp := spot (by omega)
  simp at hsp
  subst hsp
  obtain ⟨ca, cc, ra, cr, e0, e1, e2, ht⟩ := hq j hj'
  have hadd : ∀ q, ((⟨b, o, none⟩ : Addr).add q) = ⟨b, o + q, none⟩ := by
    intro q
    unfold Addr.add
    by_cases hq : q = 0 <;> simp [hq]
  rw [hadd] at e0 e1 e2
  have hg : ((List.range len).map q)[j] = q j := by simp
  rw [hg]
  exact ⟨b, o, ca, cc, ra, cr, rfl, World.block_lt_of_cell? w _ e0, e0, e1, e2, ht⟩

end Go.Proofs.Yteamdmcgkpeelak
