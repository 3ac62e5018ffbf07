/-
  A law's argument that is a slice of cells, opened: which list of cells it is, and where they lie.
-/
import Derived.Test.YtmhamgcjmehnnaaDoorLists4
import Derived.Deep.SlicePairs
namespace Go.Proofs.YtmhamgcjmehnnaaDoor
open Go.ChangeShapes Go.WideShapes Go.ChangeAt Go.RowKit Go.Deep

theorem open_cells {H : Type} {enc : TypeId × Value → H} {P : Program} {w : World} {base : Nat} {spare : Nat → Bool} {held : Bool} {t e : TypeId} {f0 f1 f2 : Field} {fuel : Nat} {a : Option Addr} {len cap : Nat} {x : DataW H × List MemPlace}
    (ht : P.underlying t = some (.slice e)) (he : P.underlying e = some (.struct #[f0, f1, f2])) (ce : P.cellsOf e = 3) (o0 : f0.offset = 0) (o1 : f1.offset = 1) (o2 : f2.offset = 2)
    (c0 : P.cellsOf f0.type = 1) (c1 : P.cellsOf f1.type = 1) (c2 : P.cellsOf f2.type = 1) (u0 : P.underlying f0.type = some (.int .i64)) (u1 : P.underlying f1.type = some (.int .i64)) (u2 : P.underlying f2.type = some .string)
    (h : DataW.trod enc P w base spare held fuel t [.slice a len cap] = some x) :
    ∃ l : List CT, l.length = len ∧ RowAt w a l ∧ Fit l ∧ len ≤ maxLen ∧ (a = none → cap = 0) := by
  rcases open_slice ht h with ⟨h0, _⟩ | ⟨ad, len', cap', m, n, D, Pl, hcs, hb, hl, hm, hmm, _, hx⟩
  · simp at h0
    obtain ⟨rfl, rfl, rfl⟩ := h0
    exact ⟨[], rfl, fun j hj => by simp at hj, fun j hj => by simp at hj, by unfold maxLen; omega, fun _ => rfl⟩
  simp at hcs
  obtain ⟨rfl, rfl, rfl⟩ := hcs
  have hlm : len ≤ m := by rw [hmm]; split <;> omega
  have each : ∀ i, i < len → ∃ q : CT, w.cell? (ad.add (i * 3)) = some (.int .i64 q.1) ∧ w.cell? (ad.add (i * 3 + 1)) = some (.int .i64 q.2.1) ∧ w.cell? (ad.add (i * 3 + 2)) = some (.string q.2.2) ∧ q.2.2.size ≤ maxLen := by
    intro i hi
    obtain ⟨cs', h1, h2⟩ := hx i (by omega)
    rw [ce] at h1
    obtain ⟨_, hlen, hcell⟩ := World.cells?_some h1
    obtain ⟨xs, k, hk, hxy, _, hxl, hf⟩ := DataW.trod_struct he h2
    match xs, hxl, cs', hlen with
    | [y0, y1, y2], _, [v0, v1, v2], _ =>
      have g0 := hf 0 f0 rfl
      have g1 := hf 1 f1 rfl
      have g2 := hf 2 f2 rfl
      simp [o0, o1, o2, c0, c1, c2] at g0 g1 g2
      have e0 := hcell 0 (by omega)
      have e1 := hcell 1 (by omega)
      have e2 := hcell 2 (by omega)
      rw [add_add] at e0 e1 e2
      obtain ⟨k0, ek, _, _⟩ := DataW.trod_int u0 g0
      obtain ⟨n0, en, _, _⟩ := DataW.trod_int u1 g1
      obtain ⟨s0, es, _, hs⟩ := DataW.trod_string u2 g2
      simp at ek en es
      subst ek en es
      exact ⟨(k0, n0, s0), by simpa using e0, by simpa using e1, by simpa using e2, hs⟩
  obtain ⟨q, hq⟩ := choose_lt each
  have spot : 0 < len → ad.spot = none := by
    intro h0
    obtain ⟨e0, _⟩ := hq 0 h0
    simpa [Addr.add] using World.cell?_spot e0
  refine ⟨(List.range len).map q, by simp, ?_, ?_, by omega, fun h => by cases h⟩
  · intro j hj
    have hj' : j < len := by simpa using hj
    obtain ⟨b, o, sp⟩ := ad
    have hsp := spot (by omega)
    simp at hsp
    subst hsp
    obtain ⟨e0, e1, e2, _⟩ := hq j hj'
    have hadd : ∀ q, ((⟨b, o, none⟩ : Addr).add q) = ⟨b, o + q, none⟩ := by
      intro q
      unfold Addr.add
      by_cases hq : q = 0 <;> simp [hq]
    rw [hadd] at e0 e1 e2
    refine ⟨b, o, rfl, World.block_lt_of_cell? w _ e0, ?_, ?_, ?_⟩
    · simpa using e0
    · simpa [Nat.add_assoc] using e1
    · simpa [Nat.add_assoc] using e2
  · intro j hj
    have hj' : j < len := by simpa using hj
    simpa using (hq j hj').2.2.2

theorem open_rows {H : Type} {enc : TypeId × Value → H} {P : Program} {w : World} {base : Nat} {spare : Nat → Bool} {held : Bool} {tt t e : TypeId} {f0 f1 f2 : Field} {fuel : Nat} {a : Option Addr} {len cap : Nat} {x : DataW H × List MemPlace}
    (htt : P.underlying tt = some (.slice t)) (ct : P.cellsOf t = 1) (ht : P.underlying t = some (.slice e)) (he : P.underlying e = some (.struct #[f0, f1, f2])) (ce : P.cellsOf e = 3) (o0 : f0.offset = 0) (o1 : f1.offset = 1) (o2 : f2.offset = 2)
    (c0 : P.cellsOf f0.type = 1) (c1 : P.cellsOf f1.type = 1) (c2 : P.cellsOf f2.type = 1) (u0 : P.underlying f0.type = some (.int .i64)) (u1 : P.underlying f1.type = some (.int .i64)) (u2 : P.underlying f2.type = some .string)
    (h : DataW.trod enc P w base spare held fuel tt [.slice a len cap] = some x) :
    ∃ L : List (List CT), L.length = len ∧ RowsAt w a L ∧ len ≤ maxLen ∧ (a = none → cap = 0) := by
  rcases open_slice htt h with ⟨h0, _⟩ | ⟨ad, len', cap', m, n, D, Pl, hcs, hb, hl, hm, hmm, _, hx⟩
  · simp at h0
    obtain ⟨rfl, rfl, rfl⟩ := h0
    exact ⟨[], rfl, fun j hj => by simp at hj, by unfold maxLen; omega, fun _ => rfl⟩
  simp at hcs
  obtain ⟨rfl, rfl, rfl⟩ := hcs
  have hlm : len ≤ m := by rw [hmm]; split <;> omega
  have each : ∀ i, i < len → ∃ l : List CT, ∃ ai ci, w.cell? (ad.add i) = some (.slice ai l.length ci) ∧ RowAt w ai l ∧ Fit l ∧ l.length ≤ maxLen ∧ (ai = none → ci = 0) := by
    intro i hi
    obtain ⟨cs', h1, h2⟩ := hx i (by omega)
    rw [ct, Nat.mul_one] at h1
    obtain ⟨_, hlen, hcell⟩ := World.cells?_some h1
    match cs', hlen with
    | [v], _ =>
      have e0 := hcell 0 (by omega)
      rw [add_add] at e0
      have e1 : w.cell? (ad.add i) = some v := by simpa using e0
      obtain ⟨ai, li, ci, rfl⟩ : ∃ ai li ci, v = .slice ai li ci := by
        rcases open_slice ht h2 with ⟨hv, _⟩ | ⟨a', l', c', _, _, _, _, hv, _⟩
        · simp at hv; exact ⟨_, _, _, hv⟩
        · simp at hv; exact ⟨_, _, _, hv⟩
      obtain ⟨l, hll, hr, hf, hml, hn⟩ := open_cells ht he ce o0 o1 o2 c0 c1 c2 u0 u1 u2 h2
      subst hll
      exact ⟨l, ai, ci, e1, hr, hf, hml, hn⟩
  obtain ⟨q, hq⟩ := choose_lt each
  have spot : 0 < len → ad.spot = none := by
    intro h0
    obtain ⟨ai, ci, e0, _⟩ := hq 0 h0
    simpa [Addr.add] using World.cell?_spot e0
  refine ⟨(List.range len).map q, by simp, ?_, by omega, fun h => by cases h⟩
  intro j hj
  have hj' : j < len := by simpa using hj
  obtain ⟨b, o, sp⟩ := ad
  have hsp := spot (by omega)
  simp at hsp
  subst hsp
  obtain ⟨ai, ci, e0, hr, hf, hml, hn⟩ := hq j hj'
  have hadd : ((⟨b, o, none⟩ : Addr).add j) = ⟨b, o + j, none⟩ := by
    unfold Addr.add
    by_cases hq : j = 0 <;> simp [hq]
  rw [hadd] at e0
  have hg : ((List.range len).map q)[j] = q j := by simp
  rw [hg]
  exact ⟨b, o, ai, ci, rfl, World.block_lt_of_cell? w _ e0, e0, hr, hf, hml, hn⟩

end Go.Proofs.YtmhamgcjmehnnaaDoor
