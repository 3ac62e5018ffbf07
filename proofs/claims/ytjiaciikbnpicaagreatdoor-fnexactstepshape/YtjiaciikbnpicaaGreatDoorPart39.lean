/-
  A part of the proof: Open3, Laid.
-/
import Derived.Test.YtjiaciikbnpicaaGreatDoorPart8
import Derived.Test.YtjiaciikbnpicaaGreatDoorPart38
import Derived.Test.YtjiaciikbnpicaaGreatDoorPart2
import Derived.LaidMore
import Derived.Stop.LaidErr
import Derived.Lib.LaidTab
import Derived.Stop.Joined
import Derived.ProofKit
import Derived.LaidLaws

/-
  A law's argument that is a slice of tables, opened: which tables they are, and where they lie.
-/
namespace Go.Proofs.YtjiaciikbnpicaaGreatDoor
open Go.ChangeShapes Go.WideShapes Go.ChangeAt Go.RowKit Go.Deep Go.Joins

set_option maxRecDepth 100000 in
theorem open_tabs {H : Type} {enc : TypeId × Value → H} {w : World} {base : Nat} {spare : Nat → Bool} {held : Bool} {fuel : Nat} {a : Option Addr} {len cap : Nat} {x : DataW H × List MemPlace}
    (h : DataW.trod enc Tryz.prog w base spare held fuel 44 [.slice a len cap] = some x) :
    ∃ T : List TB, T.length = len ∧ TabsAt w a T ∧ len ≤ maxLen ∧ len ≤ cap ∧ (a = none → cap = 0) := by
  rcases open_slice Tryz.underlying44 h with ⟨h0, _⟩ | ⟨ad, len', cap', m, n, D, Pl, hcs, hb, hl, hm, hmm, _, hx⟩
  · simp at h0
    obtain ⟨rfl, rfl, rfl⟩ := h0
    exact ⟨[], rfl, fun j hj => by simp at hj, by unfold maxLen; omega, Nat.le_refl _, fun _ => rfl⟩
  simp at hcs
  obtain ⟨rfl, rfl, rfl⟩ := hcs
  have hlm : len ≤ m := by rw [hmm]; split <;> omega
  have each : ∀ i, i < len → ∃ t : TB, ∃ ca cc ra cr, w.cell? (ad.add (i * 3)) = some (.string t.1) ∧ w.cell? (ad.add (i * 3 + 1)) = some (.slice ca t.2.1.length cc) ∧ w.cell? (ad.add (i * 3 + 2)) = some (.slice ra t.2.2.length cr) ∧ TabAt w ca cc ra t := by
    intro i hi
    obtain ⟨cs', h1, h2⟩ := hx i (by omega)
    rw [cellsTab] at h1
    obtain ⟨_, hlen, hcell⟩ := World.cells?_some h1
    obtain ⟨xs, k, hk, hxy, _, hxl, hf⟩ := DataW.trod_struct Tryz.underlying85 h2
    match xs, hxl, cs', hlen with
    | [y0, y1, y2], _, [v0, v1, v2], _ =>
      have g0 := hf 0 _ rfl
      have g1 := hf 1 _ rfl
      have g2 := hf 2 _ rfl
      have k0 : Tryz.prog.cellsOf 9 = 1 := by kernel_rfl
      have k1 : Tryz.prog.cellsOf 28 = 1 := by kernel_rfl
      have k2 : Tryz.prog.cellsOf 83 = 1 := by kernel_rfl
      simp [k0, k1, k2] at g0 g1 g2
      have e0 := hcell 0 (by omega)
      have e1 := hcell 1 (by omega)
      have e2 := hcell 2 (by omega)
      rw [add_add] at e0 e1 e2
      obtain ⟨nm, en, _, hn⟩ := DataW.trod_string Tryz.underlying9 g0
      simp at en
      subst en
      obtain ⟨ca, nc, cc, rfl⟩ : ∃ ai li ci, v1 = .slice ai li ci := by
        rcases open_slice Tryz.underlying28 g1 with ⟨hv, _⟩ | ⟨a', l', c', _, _, _, _, hv, _⟩
        · simp at hv; exact ⟨_, _, _, hv⟩
        · simp at hv; exact ⟨_, _, _, hv⟩
      obtain ⟨ra, nr, cr, rfl⟩ : ∃ ai li ci, v2 = .slice ai li ci := by
        rcases open_slice Tryz.underlying83 g2 with ⟨hv, _⟩ | ⟨a', l', c', _, _, _, _, hv, _⟩
        · simp at hv; exact ⟨_, _, _, hv⟩
        · simp at hv; exact ⟨_, _, _, hv⟩
      obtain ⟨C, hC, hs, hft, hlc, hcap, hnil⟩ := open_strs Tryz.underlying28 Tryz.underlying9 (by kernel_rfl) g1
      obtain ⟨L, hL, hr, hlr, _⟩ := open_rows Tryz.underlying83 (by kernel_rfl) Tryz.underlying155 Tryz.underlying118 (by kernel_rfl) rfl rfl rfl (by kernel_rfl) (by kernel_rfl) (by kernel_rfl) Tryz.underlying2 Tryz.underlying2 Tryz.underlying9 g2
      subst hC hL
      exact ⟨(nm, C, L), ca, cc, ra, cr, by simpa using e0, by simpa using e1, by simpa using e2, hs, hft, hlc, hcap, hnil, hr, hlr, hn⟩
  obtain ⟨q, hq⟩ := choose_lt each
  have spot : 0 < len → ad.spot = none := by
    intro h0
    obtain ⟨_, _, _, _, e0, _⟩ := hq 0 h0
    simpa [Addr.add] using World.cell?_spot e0
  refine ⟨(List.range len).map q, by simp, ?_, by omega, by omega, fun h => by cases h⟩
  intro j hj
  have hj' : j < len := by simpa using hj
  obtain ⟨b, o, sp⟩ := ad
  have hsp := spot (by omega)
  simp at hsp
  subst hsp
  obtain ⟨ca, cc, ra, cr, e0, e1, e2, ht⟩ := hq j hj'
  have hadd : ∀ q, ((⟨b, o, none⟩ : Addr).add q) = ⟨b, o + q, none⟩ := by
    intro q
    unfold Addr.add
    by_cases hq : q = 0 <;> simp [hq]
  rw [hadd] at e0 e1 e2
  have hg : ((List.range len).map q)[j] = q j := by simp
  rw [hg]
  exact ⟨b, o, ca, cc, ra, cr, rfl, World.block_lt_of_cell? w _ e0, e0, e1, e2, ht⟩

end Go.Proofs.YtjiaciikbnpicaaGreatDoor

/-
  From the row's condition on the listed variables to what the walks ask of them.
-/
namespace Go.Proofs.YtjiaciikbnpicaaGreatDoor
open Go.ChangeShapes Go.WideShapes Go.ChangeAt Go.RowKit

theorem gPow : (Tryz.prog.globalNamed "internal/strconv.uint64pow10").bind (fun g => (Tryz.prog.globals[g]?).map (·.type)) = some 309 := by kernel_rfl
theorem pow_data : (Rows.laid_internal_strconv_uint64pow10 : DataW Unit) = Lib.tabData .u64 Lib.pow10Tab := by kernel_rfl
theorem pow_of {W : World} {rest : List (String × DataW Unit)} (h : laidMet Tryz.prog (("internal/strconv.uint64pow10", Rows.laid_internal_strconv_uint64pow10) :: rest) W) : PowAt W := by
  rw [pow_data] at h
  obtain ⟨g, hg, ht⟩ := Option.bind_eq_some_iff.1 gPow
  exact Lib.tabIs_of_head hg ht Tryz.underlying309 Tryz.underlying230 (by kernel_rfl) (by kernel_rfl) h

theorem star_name : "*" ++ "errors.errorString" = "*errors.errorString" := by decide
theorem row_err (u : TypeId) (h : Tryz.prog.typeName? 3 u = some "*errors.errorString") : u = 304 :=
  typeName_ptr_named (nm := "errors.errorString") (by rw [star_name]; kernel_rfl) (by kernel_rfl) (by decide) u (by rw [star_name]; exact h)
theorem gRange : (Tryz.prog.globalNamed "strconv.ErrRange").bind (fun g => (Tryz.prog.globals[g]?).map (·.type)) = some 70 := by kernel_rfl
theorem gSyntax : (Tryz.prog.globalNamed "strconv.ErrSyntax").bind (fun g => (Tryz.prog.globals[g]?).map (·.type)) = some 70 := by kernel_rfl
theorem err_of {W : World} {rest : List (String × DataW Unit)} (h : laidMet Tryz.prog (("strconv.ErrRange", Rows.laid_strconv_ErrRange) :: ("strconv.ErrSyntax", Rows.laid_strconv_ErrSyntax) :: rest) W) : ErrAt W := by
  obtain ⟨g, hg, ht⟩ := Option.bind_eq_some_iff.1 gRange
  obtain ⟨g2, hg2, ht2⟩ := Option.bind_eq_some_iff.1 gSyntax
  have h2 := h.tail
  unfold Rows.laid_strconv_ErrRange at h
  unfold Rows.laid_strconv_ErrSyntax at h2
  obtain ⟨a, s, hv, _⟩ := laid_sentinel h hg ht Tryz.underlying70 row_err Tryz.underlying304 Tryz.underlying306 rfl rfl Tryz.underlying9 (by kernel_rfl) (by kernel_rfl)
  obtain ⟨a2, s2, hv2, _⟩ := laid_sentinel h2 hg2 ht2 Tryz.underlying70 row_err Tryz.underlying304 Tryz.underlying306 rfl rfl Tryz.underlying9 (by kernel_rfl) (by kernel_rfl)
  exact ⟨⟨_, _, hv2⟩, ⟨_, _, hv⟩⟩

end Go.Proofs.YtjiaciikbnpicaaGreatDoor
