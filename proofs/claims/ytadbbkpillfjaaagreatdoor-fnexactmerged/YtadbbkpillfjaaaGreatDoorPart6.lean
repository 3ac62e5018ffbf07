/-
  A part of the proof: Open5.
-/
import Derived.Test.YtadbbkpillfjaaaGreatDoorPart4
import Derived.Test.YtadbbkpillfjaaaGreatDoorPart5
import Derived.Lib.SmallJoins

/-
  A law's argument that is a slice of items, opened; what the laws ask of lists of items, with their lengths as letters.
-/
namespace Go.Proofs.YtadbbkpillfjaaaGreatDoor
open Go.ChangeShapes Go.WideShapes Go.ChangeAt Go.RowKit Go.Deep

theorem open_itms {H : Type} {enc : TypeId × Value → H} {P : Program} {w : World} {base : Nat} {spare : Nat → Bool} {held : Bool} {t e : TypeId} {f0 f1 f2 g0 g1 g2 : Field} {fuel : Nat} {a : Option Addr} {len cap : Nat} {x : DataW H × List MemPlace}
    (ht : P.underlying t = some (.slice e)) (he : P.underlying e = some (.struct #[f0, f1, f2])) (hce : P.underlying f1.type = some (.struct #[g0, g1, g2])) (kk : P.cellsOf e = 5)
    (o0 : f0.offset = 0) (o1 : f1.offset = 1) (o2 : f2.offset = 4) (p0 : g0.offset = 0) (p1 : g1.offset = 1) (p2 : g2.offset = 2)
    (c0 : P.cellsOf f0.type = 1) (c1 : P.cellsOf f1.type = 3) (c2 : P.cellsOf f2.type = 1) (d0 : P.cellsOf g0.type = 1) (d1 : P.cellsOf g1.type = 1) (d2 : P.cellsOf g2.type = 1)
    (u0 : P.underlying f0.type = some (.int .i64)) (u1 : P.underlying f2.type = some .string) (v0 : P.underlying g0.type = some (.int .i64)) (v1 : P.underlying g1.type = some (.int .i64)) (v2 : P.underlying g2.type = some .string)
    (h : DataW.trod enc P w base spare held fuel t [.slice a len cap] = some x) :
    ∃ l : List TI, l.length = len ∧ ItmAt w a l ∧ FitItm l ∧ len ≤ maxLen ∧ (a = none → cap = 0) := by
  rcases open_slice ht h with ⟨h0, _⟩ | ⟨ad, len', cap', m, n, D, Pl, hcs, hb, hl, hm, hmm, _, hx⟩
  · simp at h0
    obtain ⟨rfl, rfl, rfl⟩ := h0
    exact ⟨[], rfl, fun j hj => by simp at hj, fun j hj => by simp at hj, by unfold maxLen; omega, fun _ => rfl⟩
  simp at hcs
  obtain ⟨rfl, rfl, rfl⟩ := hcs
  have hlm : len ≤ m := by rw [hmm]; split <;> omega
  have each : ∀ i, i < len → ∃ q : TI, w.cell? (ad.add (i * 5)) = some (.int .i64 q.1) ∧ w.cell? (ad.add (i * 5 + 1)) = some (.int .i64 q.2.1.1) ∧ w.cell? (ad.add (i * 5 + 2)) = some (.int .i64 q.2.1.2.1) ∧ w.cell? (ad.add (i * 5 + 3)) = some (.string q.2.1.2.2) ∧ w.cell? (ad.add (i * 5 + 4)) = some (.string q.2.2) ∧ q.2.1.2.2.size ≤ maxLen ∧ q.2.2.size ≤ maxLen := by
    intro i hi
    obtain ⟨cs', h1, h2⟩ := hx i (by omega)
    rw [kk] at h1
    obtain ⟨_, hlen, hcell⟩ := World.cells?_some h1
    obtain ⟨xs, k, hk, hxy, _, hxl, hf⟩ := DataW.trod_struct he h2
    match xs, hxl, cs', hlen with
    | [y0, y1, y2], _, [w0, w1, w2, w3, w4], _ =>
      have q0 := hf 0 f0 rfl
      have q1 := hf 1 f1 rfl
      have q2 := hf 2 f2 rfl
      simp [o0, o1, o2, c0, c1, c2] at q0 q1 q2
      obtain ⟨ys, k2, hk2, hyy, _, hyl, hg⟩ := DataW.trod_struct hce q1
      match ys, hyl with
      | [z0, z1, z2], _ =>
        have r0 := hg 0 g0 rfl
        have r1 := hg 1 g1 rfl
        have r2 := hg 2 g2 rfl
        simp [p0, p1, p2, d0, d1, d2] at r0 r1 r2
        have e0 := hcell 0 (by omega)
        have e1 := hcell 1 (by omega)
        have e2 := hcell 2 (by omega)
        have e3 := hcell 3 (by omega)
        have e4 := hcell 4 (by omega)
        rw [add_add] at e0 e1 e2 e3 e4
        obtain ⟨k0, ek, _, _⟩ := DataW.trod_int u0 q0
        obtain ⟨s0, es, _, hs⟩ := DataW.trod_string u1 q2
        obtain ⟨k1, ek1, _, _⟩ := DataW.trod_int v0 r0
        obtain ⟨n1, en1, _, _⟩ := DataW.trod_int v1 r1
        obtain ⟨s1, es1, _, hs1⟩ := DataW.trod_string v2 r2
        simp at ek es ek1 en1 es1
        subst ek es ek1 en1 es1
        exact ⟨(k0, (k1, n1, s1), s0), by simpa using e0, by simpa using e1, by simpa using e2, by simpa using e3, by simpa using e4, hs1, hs⟩
  obtain ⟨q, hq⟩ := choose_lt each
  have spot : 0 < len → ad.spot = none := by
    intro h0
    obtain ⟨e0, _⟩ := hq 0 h0
    simpa [Addr.add] using World.cell?_spot e0
  refine ⟨(List.range len).map q, by simp, ?_, ?_, by omega, fun h => by cases h⟩
  · intro j hj
    have hj' : j < len := by simpa using hj
    obtain ⟨b, o, sp⟩ := ad
    have hsp := spot (by omega)
    simp at hsp
    subst hsp
    obtain ⟨e0, e1, e2, e3, e4, _⟩ := hq j hj'
    have hadd : ∀ q, ((⟨b, o, none⟩ : Addr).add q) = ⟨b, o + q, none⟩ := by
      intro q
      unfold Addr.add
      by_cases hq : q = 0 <;> simp [hq]
    rw [hadd] at e0 e1 e2 e3 e4
    refine ⟨b, o, rfl, World.block_lt_of_cell? w _ e0, ?_, ?_, ?_, ?_, ?_⟩
    · simpa using e0
    · simpa [Nat.add_assoc] using e1
    · simpa [Nat.add_assoc] using e2
    · simpa [Nat.add_assoc] using e3
    · simpa [Nat.add_assoc] using e4
  · intro j hj
    have hj' : j < len := by simpa using hj
    simpa using (hq j hj').2.2.2.2.2
theorem eqsI (n : Nat) (a b : Option Addr) (ca cb : Nat) (l : List TI) (hn : l.length = n) (w : World) (ha : ItmAt w a l) (hb : ItmAt w b l) (hm : n ≤ maxLen) :
    Calls Tryz.prog 39 #[.slice a n ca, .slice b n cb] w fun e w' => e = .returned (.bool true) ∧ Below w.heap.size w w' := by
  subst hn; exact eqsItm a b ca cb l w ha hb hm
theorem oneI_le {l : List TI} {x : TI} (h : x ∈ l) : oneItm x ≤ weightItm l := by
  unfold weightItm
  obtain ⟨j, hj, rfl⟩ := List.mem_iff_getElem.1 h
  have h1 := weightItm_take l j hj
  have h2 := weightItm_le l (j + 1)
  unfold weightItm at h1 h2
  omega
end Go.Proofs.YtadbbkpillfjaaaGreatDoor
