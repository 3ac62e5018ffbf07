/-
  A part of the proof: Open2, OpenV, Laid.
-/
import Derived.Test.YtadbbkpillfjaaaGreatDoorPart11
import Derived.Test.YtadbbkpillfjaaaGreatDoorPart4
import Derived.Lib.SmallJoins
import Derived.Test.YtadbbkpillfjaaaGreatDoorPart8
import Derived.Test.YtadbbkpillfjaaaGreatDoorRows
import Derived.Test.YtadbbkpillfjaaaGreatDoorPart13
import Derived.LaidMore
import Derived.Stop.LaidErr
import Derived.Lib.LaidTab
import Derived.Stop.Joined
import Derived.ProofKit
import Derived.LaidLaws

/-
  A law's argument that is a slice of texts, or a table, opened: which one it is, and where it lies.
-/
namespace Go.Proofs.YtadbbkpillfjaaaGreatDoor
open Go.ChangeShapes Go.WideShapes Go.ChangeAt Go.RowKit Go.Deep Go.Joins

theorem open_strs {H : Type} {enc : TypeId × Value → H} {P : Program} {w : World} {base : Nat} {spare : Nat → Bool} {held : Bool} {t e : TypeId} {fuel : Nat} {a : Option Addr} {len cap : Nat} {x : DataW H × List MemPlace}
    (ht : P.underlying t = some (.slice e)) (he : P.underlying e = some .string) (ce : P.cellsOf e = 1)
    (h : DataW.trod enc P w base spare held fuel t [.slice a len cap] = some x) :
    ∃ l : List ByteArray, l.length = len ∧ StrsAt w a l ∧ FitS l ∧ len ≤ maxLen ∧ len ≤ cap ∧ (a = none → cap = 0) := by
  rcases open_slice ht h with ⟨h0, _⟩ | ⟨ad, len', cap', m, n, D, Pl, hcs, hb, hl, hm, hmm, _, hx⟩
  · simp at h0
    obtain ⟨rfl, rfl, rfl⟩ := h0
    exact ⟨[], rfl, fun j hj => by simp at hj, fun j hj => by simp at hj, by unfold maxLen; omega, Nat.le_refl _, fun _ => rfl⟩
  simp at hcs
  obtain ⟨rfl, rfl, rfl⟩ := hcs
  have hlm : len ≤ m := by rw [hmm]; split <;> omega
  have each : ∀ i, i < len → ∃ q : ByteArray, w.cell? (ad.add i) = some (.string q) ∧ q.size ≤ maxLen := by
    intro i hi
    obtain ⟨cs', h1, h2⟩ := hx i (by omega)
    rw [ce, Nat.mul_one] at h1
    obtain ⟨_, hlen, hcell⟩ := World.cells?_some h1
    match cs', hlen with
    | [v], _ =>
      have e0 := hcell 0 (by omega)
      rw [add_add] at e0
      obtain ⟨s0, es, _, hs⟩ := DataW.trod_string he h2
      simp at es
      subst es
      exact ⟨s0, by simpa using e0, hs⟩
  obtain ⟨q, hq⟩ := choose_lt each
  have spot : 0 < len → ad.spot = none := by
    intro h0
    obtain ⟨e0, _⟩ := hq 0 h0
    simpa [Addr.add] using World.cell?_spot e0
  refine ⟨(List.range len).map q, by simp, ?_, ?_, by omega, by omega, fun h => by cases h⟩
  · intro j hj
    have hj' : j < len := by simpa using hj
    obtain ⟨b, o, sp⟩ := ad
    have hsp := spot (by omega)
    simp at hsp
    subst hsp
    obtain ⟨e0, _⟩ := hq j hj'
    have hadd : ((⟨b, o, none⟩ : Addr).add j) = ⟨b, o + j, none⟩ := by
      unfold Addr.add
      by_cases hq : j = 0 <;> simp [hq]
    rw [hadd] at e0
    refine ⟨b, o, rfl, World.block_lt_of_cell? w _ e0, ?_⟩
    simpa using e0
  · intro j hj
    have hj' : j < len := by simpa using hj
    simpa using (hq j hj').2

end Go.Proofs.YtadbbkpillfjaaaGreatDoor

/-
  A law's argument that is a sieve, or a slice of sieves, opened: which they are, and where they lie.
-/
namespace Go.Proofs.YtadbbkpillfjaaaGreatDoor
open Go.ChangeShapes Go.WideShapes Go.ChangeAt Go.RowKit Go.Deep Go.Joins

theorem cellsSiv : Tryz.prog.cellsOf 34 = 7 := by kernel_rfl
set_option maxRecDepth 100000 in
theorem open_sieves {H : Type} {enc : TypeId × Value → H} {w : World} {base : Nat} {spare : Nat → Bool} {held : Bool} {fuel : Nat} {a : Option Addr} {len cap : Nat} {x : DataW H × List MemPlace}
    (h : DataW.trod enc Tryz.prog w base spare held fuel 22 [.slice a len cap] = some x) :
    ∃ T : List SV, T.length = len ∧ SivsAt w a T ∧ len ≤ maxLen ∧ len ≤ cap ∧ (a = none → cap = 0) := by
  rcases open_slice Tryz.underlying22 h with ⟨h0, _⟩ | ⟨ad, len', cap', m, n, D, Pl, hcs, hb, hl, hm, hmm, _, hx⟩
  · simp at h0
    obtain ⟨rfl, rfl, rfl⟩ := h0
    exact ⟨[], rfl, fun j hj => by simp at hj, by unfold maxLen; omega, Nat.le_refl _, fun _ => rfl⟩
  simp at hcs
  obtain ⟨rfl, rfl, rfl⟩ := hcs
  have hlm : len ≤ m := by rw [hmm]; split <;> omega
  have each : ∀ i, i < len → ∃ q : SV, ∃ na nc sa sc, (w.cell? (ad.add (i * 7)) = some (.int .i64 q.kind) ∧ w.cell? (ad.add (i * 7 + 1)) = some (.string q.name) ∧ w.cell? (ad.add (i * 7 + 2)) = some (.slice na q.names.length nc) ∧ w.cell? (ad.add (i * 7 + 3)) = some (.slice sa q.sum.length sc) ∧ w.cell? (ad.add (i * 7 + 4)) = some (.bool q.down) ∧ w.cell? (ad.add (i * 7 + 5)) = some (.int .i64 q.count) ∧ w.cell? (ad.add (i * 7 + 6)) = some (.int .i64 q.skip)) ∧ SivAt w na nc sa q := by
    intro i hi
    obtain ⟨cs', h1, h2⟩ := hx i (by omega)
    rw [cellsSiv] at h1
    obtain ⟨_, hlen, hcell⟩ := World.cells?_some h1
    obtain ⟨xs, k, hk, hxy, _, hxl, hf⟩ := DataW.trod_struct Tryz.underlying34 h2
    match xs, hxl, cs', hlen with
    | [y0, y1, y2, y3, y4, y5, y6], _, [w0, w1, w2, w3, w4, w5, w6], _ =>
      have q0 := hf 0 _ rfl
      have q1 := hf 1 _ rfl
      have q2 := hf 2 _ rfl
      have q3 := hf 3 _ rfl
      have q4 := hf 4 _ rfl
      have q5 := hf 5 _ rfl
      have q6 := hf 6 _ rfl
      have k0 : Tryz.prog.cellsOf 2 = 1 := by kernel_rfl
      have k1 : Tryz.prog.cellsOf 9 = 1 := by kernel_rfl
      have k2 : Tryz.prog.cellsOf 31 = 1 := by kernel_rfl
      have k3 : Tryz.prog.cellsOf 32 = 1 := by kernel_rfl
      have k4 : Tryz.prog.cellsOf 4 = 1 := by kernel_rfl
      simp [k0, k1, k2, k3, k4] at q0 q1 q2 q3 q4 q5 q6
      clear k0 k1 k2 k3 k4
      have e0 := hcell 0 (by omega)
      have e1 := hcell 1 (by omega)
      have e2 := hcell 2 (by omega)
      have e3 := hcell 3 (by omega)
      have e4 := hcell 4 (by omega)
      have e5 := hcell 5 (by omega)
      have e6 := hcell 6 (by omega)
      rw [add_add] at e0 e1 e2 e3 e4 e5 e6
      obtain ⟨k0, ek0, _, _⟩ := DataW.trod_int Tryz.underlying2 q0
      obtain ⟨nm, enm, _, hnm⟩ := DataW.trod_string Tryz.underlying9 q1
      obtain ⟨dn, edn, _⟩ := DataW.trod_bool Tryz.underlying4 q4
      obtain ⟨ct, ect, _, _⟩ := DataW.trod_int Tryz.underlying2 q5
      obtain ⟨sk, esk, _, _⟩ := DataW.trod_int Tryz.underlying2 q6
      simp at ek0 enm edn ect esk
      subst ek0 enm edn ect esk
      obtain ⟨na, nn, nc, rfl⟩ : ∃ ai li ci, w2 = .slice ai li ci := by
        rcases open_slice Tryz.underlying31 q2 with ⟨hv, _⟩ | ⟨a', l', c', _, _, _, _, hv, _⟩
        · simp at hv; exact ⟨_, _, _, hv⟩
        · simp at hv; exact ⟨_, _, _, hv⟩
      obtain ⟨sa, sn, sc, rfl⟩ : ∃ ai li ci, w3 = .slice ai li ci := by
        rcases open_slice Tryz.underlying32 q3 with ⟨hv, _⟩ | ⟨a', l', c', _, _, _, _, hv, _⟩
        · simp at hv; exact ⟨_, _, _, hv⟩
        · simp at hv; exact ⟨_, _, _, hv⟩
      obtain ⟨N, hN, hs, hft, hlc, hcap, hnil⟩ := open_strs Tryz.underlying31 Tryz.underlying9 (by kernel_rfl) q2
      obtain ⟨S, hS, hK, hF, hM, _⟩ := open_itms Tryz.underlying32 Tryz.underlying69 Tryz.underlying67 (by kernel_rfl) rfl rfl rfl rfl rfl rfl (by kernel_rfl) (by kernel_rfl) (by kernel_rfl) (by kernel_rfl) (by kernel_rfl) (by kernel_rfl) Tryz.underlying2 Tryz.underlying9 Tryz.underlying2 Tryz.underlying2 Tryz.underlying9 q3
      subst hN hS
      exact ⟨⟨k0, nm, N, S, dn, ct, sk⟩, na, nc, sa, sc, ⟨by simpa using e0, by simpa using e1, by simpa using e2, by simpa using e3, by simpa using e4, by simpa using e5, by simpa using e6⟩, hs, hft, hlc, hcap, hnil, hK, hF, hM, hnm⟩
  haveI : Inhabited SV := ⟨⟨0, ⟨#[]⟩, [], [], false, 0, 0⟩⟩
  obtain ⟨q, hq⟩ := choose_lt each
  have spot : 0 < len → ad.spot = none := by
    intro h0
    obtain ⟨_, _, _, _, ⟨e0, _⟩, _⟩ := hq 0 h0
    simpa [Addr.add] using World.cell?_spot e0
  refine ⟨(List.range len).map q, by simp, ?_, by omega, by omega, fun h => by cases h⟩
  intro j hj
  have hj' : j < len := by simpa using hj
  obtain ⟨b, o, sp⟩ := ad
  have hsp := spot (by omega)
  simp at hsp
  subst hsp
  obtain ⟨na, nc, sa, sc, ⟨e0, e1, e2, e3, e4, e5, e6⟩, ht⟩ := hq j hj'
  have hadd : ∀ q, ((⟨b, o, none⟩ : Addr).add q) = ⟨b, o + q, none⟩ := by
    intro q
    unfold Addr.add
    by_cases hq : q = 0 <;> simp [hq]
  rw [hadd] at e0 e1 e2 e3 e4 e5 e6
  have hg : ((List.range len).map q)[j] = q j := by simp
  rw [hg]
  exact ⟨b, o, na, nc, sa, sc, rfl, World.block_lt_of_cell? w _ e0, ⟨e0, e1, e2, e3, e4, e5, e6⟩, ht⟩
end Go.Proofs.YtadbbkpillfjaaaGreatDoor

/-
  From the row's condition on the listed variables to what the walks ask of them.
-/
namespace Go.Proofs.YtadbbkpillfjaaaGreatDoor
open Go.ChangeShapes Go.WideShapes Go.ChangeAt Go.RowKit

theorem gPow : (Tryz.prog.globalNamed "internal/strconv.uint64pow10").bind (fun g => (Tryz.prog.globals[g]?).map (·.type)) = some 167 := by kernel_rfl
theorem pow_data : (Rows.laid_internal_strconv_uint64pow10 : DataW Unit) = Lib.tabData .u64 Lib.pow10Tab := by kernel_rfl
theorem pow_of {W : World} {rest : List (String × DataW Unit)} (h : laidMet Tryz.prog (("internal/strconv.uint64pow10", Rows.laid_internal_strconv_uint64pow10) :: rest) W) : PowAt W := by
  rw [pow_data] at h
  obtain ⟨g, hg, ht⟩ := Option.bind_eq_some_iff.1 gPow
  exact Lib.tabIs_of_head hg ht Tryz.underlying167 Tryz.underlying136 (by kernel_rfl) (by kernel_rfl) h

theorem star_name : "*" ++ "errors.errorString" = "*errors.errorString" := by decide
theorem row_err (u : TypeId) (h : Tryz.prog.typeName? 3 u = some "*errors.errorString") : u = 162 :=
  typeName_ptr_named (nm := "errors.errorString") (by rw [star_name]; kernel_rfl) (by kernel_rfl) (by decide) u (by rw [star_name]; exact h)
theorem gRange : (Tryz.prog.globalNamed "strconv.ErrRange").bind (fun g => (Tryz.prog.globals[g]?).map (·.type)) = some 128 := by kernel_rfl
theorem gSyntax : (Tryz.prog.globalNamed "strconv.ErrSyntax").bind (fun g => (Tryz.prog.globals[g]?).map (·.type)) = some 128 := by kernel_rfl
theorem err_of {W : World} {rest : List (String × DataW Unit)} (h : laidMet Tryz.prog (("strconv.ErrRange", Rows.laid_strconv_ErrRange) :: ("strconv.ErrSyntax", Rows.laid_strconv_ErrSyntax) :: rest) W) : ErrAt W := by
  obtain ⟨g, hg, ht⟩ := Option.bind_eq_some_iff.1 gRange
  obtain ⟨g2, hg2, ht2⟩ := Option.bind_eq_some_iff.1 gSyntax
  have h2 := h.tail
  unfold Rows.laid_strconv_ErrRange at h
  unfold Rows.laid_strconv_ErrSyntax at h2
  obtain ⟨a, s, hv, _⟩ := laid_sentinel h hg ht Tryz.underlying128 row_err Tryz.underlying162 Tryz.underlying164 rfl rfl Tryz.underlying9 (by kernel_rfl) (by kernel_rfl)
  obtain ⟨a2, s2, hv2, _⟩ := laid_sentinel h2 hg2 ht2 Tryz.underlying128 row_err Tryz.underlying162 Tryz.underlying164 rfl rfl Tryz.underlying9 (by kernel_rfl) (by kernel_rfl)
  exact ⟨⟨_, _, hv2⟩, ⟨_, _, hv⟩⟩

end Go.Proofs.YtadbbkpillfjaaaGreatDoor
