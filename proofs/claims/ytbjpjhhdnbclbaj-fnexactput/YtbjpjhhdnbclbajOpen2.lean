/-
  A law's argument that is a slice of texts, or a table, opened: which one it is, and where it lies.
-/
import Derived.Test.YtbjpjhhdnbclbajTab1
import Derived.Test.YtbjpjhhdnbclbajOpen1
import Derived.Lib.SmallJoins
namespace Go.Proofs.Ytbjpjhhdnbclbaj
open Go.ChangeShapes Go.WideShapes Go.ChangeAt Go.RowKit Go.Deep Go.Joins

theorem open_strs {H : Type} {enc : TypeId × Value → H} {P : Program} {w : World} {base : Nat} {spare : Nat → Bool} {held : Bool} {t e : TypeId} {fuel : Nat} {a : Option Addr} {len cap : Nat} {x : DataW H × List MemPlace}
    (ht : P.underlying t = some (.slice e)) (he : P.underlying e = some .string) (ce : P.cellsOf e = 1)
    (h : DataW.trod enc P w base spare held fuel t [.slice a len cap] = some x) :
    ∃ l : List ByteArray, l.length = len ∧ StrsAt w a l ∧ FitS l ∧ len ≤ maxLen ∧ len ≤ cap ∧ (a = none → cap = 0) := by
  rcases open_slice ht h with ⟨h0, _⟩ | ⟨ad, len', cap', m, n, D, Pl, hcs, hb, hl, hm, hmm, _, hx⟩
  · simp at h0
    obtain ⟨rfl, rfl, rfl⟩ := h0
    exact ⟨[], rfl, fun j hj => by simp at hj, fun j hj => by simp at hj, by unfold maxLen; omega, Nat.le_refl _, fun _ => rfl⟩
  simp at hcs
  obtain ⟨rfl, rfl, rfl⟩ := hcs
  have hlm : len ≤ m := by rw [hmm]; split <;> omega
  have each : ∀ i, i < len → ∃ q : ByteArray, w.cell? (ad.add i) = some (.string q) ∧ q.size ≤ maxLen := by
    intro i hi
    obtain ⟨cs', h1, h2⟩ := hx i (by omega)
    rw [ce, Nat.mul_one] at h1
    obtain ⟨_, hlen, hcell⟩ := World.cells?_some h1
    match cs', hlen with
    | [v], _ =>
      have e0 := hcell 0 (by omega)
      rw [add_add] at e0
      obtain ⟨s0, es, _, hs⟩ := DataW.trod_string he h2
      simp at es
      subst es
      exact ⟨s0, by simpa using e0, hs⟩
  obtain ⟨q, hq⟩ := choose_lt each
  have spot : 0 < len → ad.spot = none := by
    intro h0
    obtain ⟨e0, _⟩ := hq 0 h0
    simpa [Addr.add] using World.cell?_spot e0
  refine ⟨(List.range len).map q, by simp, ?_, ?_, by omega, by omega, fun h => by cases h⟩
  · intro j hj
    have hj' : j < len := by simpa using hj
    obtain ⟨b, o, sp⟩ := ad
    have hsp := spot (by omega)
    simp at hsp
    subst hsp
    obtain ⟨e0, _⟩ := hq j hj'
    have hadd : ((⟨b, o, none⟩ : Addr).add j) = ⟨b, o + j, none⟩ := by
      unfold Addr.add
      by_cases hq : j = 0 <;> simp [hq]
    rw [hadd] at e0
    refine ⟨b, o, rfl, World.block_lt_of_cell? w _ e0, ?_⟩
    simpa using e0
  · intro j hj
    have hj' : j < len := by simpa using hj
    simpa using (hq j hj').2

theorem cellsTab : Try.prog.cellsOf 32 = 3 := by kernel_rfl

set_option maxRecDepth 100000 in
theorem open_table {H : Type} {enc : TypeId × Value → H} {w : World} {r : Reach} {b0 base : Nat} {spare : Nat → Bool} {held : Bool} {v : Value} {d : DataW H} {p : List MemPlace}
    (hv : Value.okWide Try.prog w r b0 32 v) (h : DataW.Trod enc Try.prog w base spare held 32 v d p) :
    ∃ (t : TB) (nc nr : Nat) (ca : Option Addr) (cc : Nat) (ra : Option Addr) (cr : Nat), v = .agg #[.string t.1, .slice ca nc cc, .slice ra nr cr] ∧ t.2.1.length = nc ∧ t.2.2.length = nr ∧ TabAt w ca cc ra t := by
  obtain ⟨v0, v1, v2, y0, y1, y2, m, rfl, rfl, rfl, hy0, hy1, hy2⟩ := open_agg3 Try.underlying32 (by kernel_rfl) cellsTab hv h
  obtain ⟨nm, en, _, hn⟩ := DataW.trod_string Try.underlying9 hy0
  simp at en
  subst en
  obtain ⟨ca, nc, cc, rfl⟩ : ∃ ai li ci, v1 = .slice ai li ci := by
    rcases open_slice Try.underlying30 hy1 with ⟨hv, _⟩ | ⟨a', l', c', _, _, _, _, hv, _⟩
    · simp at hv; exact ⟨_, _, _, hv⟩
    · simp at hv; exact ⟨_, _, _, hv⟩
  obtain ⟨ra, nr, cr, rfl⟩ : ∃ ai li ci, v2 = .slice ai li ci := by
    rcases open_slice Try.underlying22 hy2 with ⟨hv, _⟩ | ⟨a', l', c', _, _, _, _, hv, _⟩
    · simp at hv; exact ⟨_, _, _, hv⟩
    · simp at hv; exact ⟨_, _, _, hv⟩
  obtain ⟨C, hC, hs, hf, hl, hcap, hnil⟩ := open_strs Try.underlying30 Try.underlying9 (by kernel_rfl) hy1
  obtain ⟨L, hL, hr, hlr, _⟩ := open_rows Try.underlying22 (by kernel_rfl) Try.underlying45 Try.underlying70 (by kernel_rfl) rfl rfl rfl (by kernel_rfl) (by kernel_rfl) (by kernel_rfl) Try.underlying2 Try.underlying2 Try.underlying9 hy2
  exact ⟨(nm, C, L), nc, nr, ca, cc, ra, cr, rfl, hC, hL, hs, hf, by rw [show (nm, C, L).2.1.length = nc from hC]; exact hl, by rw [show (nm, C, L).2.1.length = nc from hC]; exact hcap, hnil, hr, by rw [show (nm, C, L).2.2.length = nr from hL]; exact hlr, hn⟩

end Go.Proofs.Ytbjpjhhdnbclbaj
