/-
  A law's argument of quick steps, opened: which steps, what comes out, and where they lie.
-/
import Derived.Test.YtmhamgcjmehnnaaDoorFastTx
import Derived.Test.YtmhamgcjmehnnaaDoorOpen1
import Derived.Lib.SmallJoins
namespace Go.Proofs.YtmhamgcjmehnnaaDoor
open Go.ChangeShapes Go.WideShapes Go.ChangeAt Go.RowKit Go.Deep Go.Joins

theorem i64_of {n : Int} (h : (Lit.int .i64 n).wf = true) : I64 n := by
  have hm : IntKind.i64.min = -9223372036854775808 := by decide
  have hM : IntKind.i64.max = 9223372036854775807 := by decide
  unfold I64
  simp only [Lit.wf, hm, hM, Bool.and_eq_true, decide_eq_true_eq] at h
  exact h
theorem open_fos {H : Type} {enc : TypeId × Value → H} {P : Program} {w : World} {base : Nat} {spare : Nat → Bool} {held : Bool} {t e : TypeId} {f0 f1 f2 f3 : Field} {fuel : Nat} {a : Option Addr} {len cap : Nat} {x : DataW H × List MemPlace}
    (ht : P.underlying t = some (.slice e)) (he : P.underlying e = some (.struct #[f0, f1, f2, f3])) (kk : P.cellsOf e = 4)
    (o0 : f0.offset = 0) (o1 : f1.offset = 1) (o2 : f2.offset = 2) (o3 : f3.offset = 3) (c0 : P.cellsOf f0.type = 1) (c1 : P.cellsOf f1.type = 1) (c2 : P.cellsOf f2.type = 1) (c3 : P.cellsOf f3.type = 1) (u0 : P.underlying f0.type = some (.int .i64)) (u1 : P.underlying f1.type = some (.int .i64)) (u2 : P.underlying f2.type = some (.int .i64)) (u3 : P.underlying f3.type = some (.int .i64))
    (h : DataW.trod enc P w base spare held fuel t [.slice a len cap] = some x) :
    ∃ l : List FO, l.length = len ∧ FoAt w a l ∧ len ≤ maxLen ∧ (a = none → cap = 0) ∧ RngO l := by
  rcases open_slice ht h with ⟨h0, _⟩ | ⟨ad, len', cap', m, n, D, Pl, hcs, hb, hl, hm, hmm, _, hx⟩
  · simp at h0
    obtain ⟨rfl, rfl, rfl⟩ := h0
    exact ⟨[], rfl, fun j hj => by simp at hj, by unfold maxLen; omega, fun _ => rfl, fun x hx => by cases hx⟩
  simp at hcs
  obtain ⟨rfl, rfl, rfl⟩ := hcs
  have hlm : len ≤ m := by rw [hmm]; split <;> omega
  have each : ∀ i, i < len → ∃ q : FO, w.cell? (ad.add (i * 4)) = some (.int .i64 q.1) ∧ w.cell? (ad.add (i * 4 + 1)) = some (.int .i64 q.2.1) ∧ w.cell? (ad.add (i * 4 + 2)) = some (.int .i64 q.2.2.1) ∧ w.cell? (ad.add (i * 4 + 3)) = some (.int .i64 q.2.2.2) ∧ I64 q.1 ∧ I64 q.2.1 ∧ I64 q.2.2.1 ∧ I64 q.2.2.2 := by
    intro i hi
    obtain ⟨cs', h1, h2⟩ := hx i (by omega)
    rw [kk] at h1
    obtain ⟨_, hlen, hcell⟩ := World.cells?_some h1
    obtain ⟨xs, k, hk, hxy, _, hxl, hf⟩ := DataW.trod_struct he h2
    match xs, hxl, cs', hlen with
    | [y0, y1, y2, y3], _, [w0, w1, w2, w3], _ =>
      have q0 := hf 0 f0 rfl
      have q1 := hf 1 f1 rfl
      have q2 := hf 2 f2 rfl
      have q3 := hf 3 f3 rfl
      simp [o0, o1, o2, o3, c0, c1, c2, c3] at q0 q1 q2 q3
      have e0 := hcell 0 (by omega)
      have e1 := hcell 1 (by omega)
      have e2 := hcell 2 (by omega)
      have e3 := hcell 3 (by omega)
      rw [add_add] at e0 e1 e2 e3
      obtain ⟨k0, ek0, _, r0⟩ := DataW.trod_int u0 q0
      obtain ⟨k1, ek1, _, r1⟩ := DataW.trod_int u1 q1
      obtain ⟨k2, ek2, _, r2⟩ := DataW.trod_int u2 q2
      obtain ⟨k3, ek3, _, r3⟩ := DataW.trod_int u3 q3
      simp at ek0 ek1 ek2 ek3
      subst ek0 ek1 ek2 ek3
      exact ⟨(k0, k1, k2, k3), by simpa using e0, by simpa using e1, by simpa using e2, by simpa using e3, i64_of r0, i64_of r1, i64_of r2, i64_of r3⟩
  obtain ⟨q, hq⟩ := choose_lt each
  have spot : 0 < len → ad.spot = none := by
    intro h0
    obtain ⟨e0, _⟩ := hq 0 h0
    simpa [Addr.add] using World.cell?_spot e0
  refine ⟨(List.range len).map q, by simp, ?_, by omega, (fun h => by cases h), ?_⟩
  rotate_left
  · intro x hx
    obtain ⟨j, hj, rfl⟩ := List.mem_map.1 hx
    obtain ⟨_, _, _, _, r0, r1, r2, r3⟩ := hq j (List.mem_range.1 hj)
    exact ⟨r0, r1, r2, r3⟩
  intro j hj
  have hj' : j < len := by simpa using hj
  obtain ⟨b, o, sp⟩ := ad
  have hsp := spot (by omega)
  simp at hsp
  subst hsp
  obtain ⟨e0, e1, e2, e3, _, _, _, _⟩ := hq j hj'
  have hadd : ∀ q, ((⟨b, o, none⟩ : Addr).add q) = ⟨b, o + q, none⟩ := by
    intro q
    unfold Addr.add
    by_cases hq : q = 0 <;> simp [hq]
  rw [hadd] at e0 e1 e2 e3
  refine ⟨b, o, rfl, World.block_lt_of_cell? w _ e0, ?_, ?_, ?_, ?_⟩
  · simpa using e0
  · simpa [Nat.add_assoc] using e1
  · simpa [Nat.add_assoc] using e2
  · simpa [Nat.add_assoc] using e3
theorem open_fus {H : Type} {enc : TypeId × Value → H} {P : Program} {w : World} {base : Nat} {spare : Nat → Bool} {held : Bool} {t e : TypeId} {f0 f1 f2 : Field} {fuel : Nat} {a : Option Addr} {len cap : Nat} {x : DataW H × List MemPlace}
    (ht : P.underlying t = some (.slice e)) (he : P.underlying e = some (.struct #[f0, f1, f2])) (kk : P.cellsOf e = 3)
    (o0 : f0.offset = 0) (o1 : f1.offset = 1) (o2 : f2.offset = 2) (c0 : P.cellsOf f0.type = 1) (c1 : P.cellsOf f1.type = 1) (c2 : P.cellsOf f2.type = 1) (u0 : P.underlying f0.type = some (.int .i64)) (u1 : P.underlying f1.type = some (.int .i64)) (u2 : P.underlying f2.type = some .bool)
    (h : DataW.trod enc P w base spare held fuel t [.slice a len cap] = some x) :
    ∃ l : List FU, l.length = len ∧ FuAt w a l ∧ len ≤ maxLen ∧ (a = none → cap = 0) ∧ RngU l := by
  rcases open_slice ht h with ⟨h0, _⟩ | ⟨ad, len', cap', m, n, D, Pl, hcs, hb, hl, hm, hmm, _, hx⟩
  · simp at h0
    obtain ⟨rfl, rfl, rfl⟩ := h0
    exact ⟨[], rfl, fun j hj => by simp at hj, by unfold maxLen; omega, fun _ => rfl, fun x hx => by cases hx⟩
  simp at hcs
  obtain ⟨rfl, rfl, rfl⟩ := hcs
  have hlm : len ≤ m := by rw [hmm]; split <;> omega
  have each : ∀ i, i < len → ∃ q : FU, w.cell? (ad.add (i * 3)) = some (.int .i64 q.1) ∧ w.cell? (ad.add (i * 3 + 1)) = some (.int .i64 q.2.1) ∧ w.cell? (ad.add (i * 3 + 2)) = some (.bool q.2.2) ∧ I64 q.1 ∧ I64 q.2.1 := by
    intro i hi
    obtain ⟨cs', h1, h2⟩ := hx i (by omega)
    rw [kk] at h1
    obtain ⟨_, hlen, hcell⟩ := World.cells?_some h1
    obtain ⟨xs, k, hk, hxy, _, hxl, hf⟩ := DataW.trod_struct he h2
    match xs, hxl, cs', hlen with
    | [y0, y1, y2], _, [w0, w1, w2], _ =>
      have q0 := hf 0 f0 rfl
      have q1 := hf 1 f1 rfl
      have q2 := hf 2 f2 rfl
      simp [o0, o1, o2, c0, c1, c2] at q0 q1 q2
      have e0 := hcell 0 (by omega)
      have e1 := hcell 1 (by omega)
      have e2 := hcell 2 (by omega)
      rw [add_add] at e0 e1 e2
      obtain ⟨k0, ek0, _, r0⟩ := DataW.trod_int u0 q0
      obtain ⟨k1, ek1, _, r1⟩ := DataW.trod_int u1 q1
      obtain ⟨k2, ek2, _⟩ := DataW.trod_bool u2 q2
      simp at ek0 ek1 ek2
      subst ek0 ek1 ek2
      exact ⟨(k0, k1, k2), by simpa using e0, by simpa using e1, by simpa using e2, i64_of r0, i64_of r1⟩
  obtain ⟨q, hq⟩ := choose_lt each
  have spot : 0 < len → ad.spot = none := by
    intro h0
    obtain ⟨e0, _⟩ := hq 0 h0
    simpa [Addr.add] using World.cell?_spot e0
  refine ⟨(List.range len).map q, by simp, ?_, by omega, (fun h => by cases h), ?_⟩
  rotate_left
  · intro x hx
    obtain ⟨j, hj, rfl⟩ := List.mem_map.1 hx
    obtain ⟨_, _, _, r0, r1⟩ := hq j (List.mem_range.1 hj)
    exact ⟨r0, r1⟩
  intro j hj
  have hj' : j < len := by simpa using hj
  obtain ⟨b, o, sp⟩ := ad
  have hsp := spot (by omega)
  simp at hsp
  subst hsp
  obtain ⟨e0, e1, e2, _, _⟩ := hq j hj'
  have hadd : ∀ q, ((⟨b, o, none⟩ : Addr).add q) = ⟨b, o + q, none⟩ := by
    intro q
    unfold Addr.add
    by_cases hq : q = 0 <;> simp [hq]
  rw [hadd] at e0 e1 e2
  refine ⟨b, o, rfl, World.block_lt_of_cell? w _ e0, ?_, ?_, ?_⟩
  · simpa using e0
  · simpa [Nat.add_assoc] using e1
  · simpa [Nat.add_assoc] using e2
theorem array2F {cs : Array Value} (h : cs.size = 2) : ∃ a b, cs = #[a, b] := by
  obtain ⟨l⟩ := cs
  match l, h with
  | [a, b], _ => exact ⟨a, b, rfl⟩
set_option maxRecDepth 100000 in
theorem open_fastr {H : Type} {enc : TypeId × Value → H} {w : World} {r : _root_.Go.Reach} {b0 base : Nat} {spare : Nat → Bool} {held : Bool} {v : Value} {d : DataW H} {p : List MemPlace}
    (hv : Value.okWide Tryd.prog w r b0 25 v) (h : DataW.Trod enc Tryd.prog w base spare held 25 v d p) :
    ∃ (O : List FO) (U : List FU) (n m : Nat) (oa : Option Addr) (oc : Nat) (ua : Option Addr) (uc : Nat), v = .agg #[.slice oa n oc, .slice ua m uc] ∧ O.length = n ∧ U.length = m ∧ FoAt w oa O ∧ FuAt w ua U ∧ n ≤ maxLen ∧ m ≤ maxLen ∧ RngO O ∧ RngU U := by
  have he := Tryd.underlying25
  obtain ⟨cs, rfl, hsz⟩ := okWide_struct he hv
  obtain ⟨w0, w1, rfl⟩ := array2F (hsz.trans (by kernel_rfl))
  obtain ⟨fuel, hf⟩ := h
  obtain ⟨xs, k, hk, hxy, _, hxl, hf⟩ := DataW.trod_struct he hf
  match xs, hxl with
  | [y0, y1], _ =>
      have q0 := hf 0 _ rfl
      have q1 := hf 1 _ rfl
      have k0 : Tryd.prog.cellsOf 22 = 1 := by kernel_rfl
      have k1 : Tryd.prog.cellsOf 23 = 1 := by kernel_rfl
      simp [Value.cells, k0, k1] at q0 q1
      clear k0 k1
      obtain ⟨oa, n, oc, rfl⟩ : ∃ ai li ci, w0 = .slice ai li ci := by
        rcases open_slice Tryd.underlying22 q0 with ⟨hv, _⟩ | ⟨a', l', c', _, _, _, _, hv, _⟩
        · simp at hv; exact ⟨_, _, _, hv⟩
        · simp at hv; exact ⟨_, _, _, hv⟩
      obtain ⟨ua, m, uc, rfl⟩ : ∃ ai li ci, w1 = .slice ai li ci := by
        rcases open_slice Tryd.underlying23 q1 with ⟨hv, _⟩ | ⟨a', l', c', _, _, _, _, hv, _⟩
        · simp at hv; exact ⟨_, _, _, hv⟩
        · simp at hv; exact ⟨_, _, _, hv⟩
      obtain ⟨O, hn, hO, hM, _, hR⟩ := open_fos Tryd.underlying22 Tryd.underlying62 (by kernel_rfl) rfl rfl rfl rfl (by kernel_rfl) (by kernel_rfl) (by kernel_rfl) (by kernel_rfl) Tryd.underlying2 Tryd.underlying2 Tryd.underlying2 Tryd.underlying2 q0
      obtain ⟨U, hm, hU, hM2, _, hR2⟩ := open_fus Tryd.underlying23 Tryd.underlying64 (by kernel_rfl) rfl rfl rfl (by kernel_rfl) (by kernel_rfl) (by kernel_rfl) Tryd.underlying2 Tryd.underlying2 Tryd.underlying4 q1
      exact ⟨O, U, n, m, oa, oc, ua, uc, rfl, hn, hm, hO, hU, hM, hM2, hR, hR2⟩
theorem open_fast {H : Type} {enc : TypeId × Value → H} {w : World} {r : _root_.Go.Reach} {b0 base : Nat} {spare : Nat → Bool} {held : Bool} {v : Value} {d : DataW H} {p : List MemPlace}
    (hv : Value.okWide Tryd.prog w r b0 25 v) (h : DataW.Trod enc Tryd.prog w base spare held 25 v d p) :
    ∃ (O : List FO) (U : List FU) (n m : Nat) (oa : Option Addr) (oc : Nat) (ua : Option Addr) (uc : Nat), v = .agg #[.slice oa n oc, .slice ua m uc] ∧ O.length = n ∧ U.length = m ∧ FoAt w oa O ∧ FuAt w ua U ∧ n ≤ maxLen ∧ m ≤ maxLen := by
  obtain ⟨O, U, n, m, oa, oc, ua, uc, h1, h2, h3, h4, h5, h6, h7, _, _⟩ := open_fastr hv h
  exact ⟨O, U, n, m, oa, oc, ua, uc, h1, h2, h3, h4, h5, h6, h7⟩
end Go.Proofs.YtmhamgcjmehnnaaDoor
