/-
  A part of the proof: Open2, OpenV, Laid, LaidEr.
-/
import Derived.Test.YtjjkdbmjloolaaaGreatDoorPart8
import Derived.Test.YtjjkdbmjloolaaaGreatDoorPart13
import Derived.Lib.SmallJoins
import Derived.Test.YtjjkdbmjloolaaaGreatDoorPart33
import Derived.Test.YtjjkdbmjloolaaaGreatDoorRows
import Derived.Test.YtjjkdbmjloolaaaGreatDoorPart20
import Derived.LaidMore
import Derived.Stop.LaidErr
import Derived.Lib.LaidTab
import Derived.Stop.Joined
import Derived.ProofKit
import Derived.LaidLaws
import Derived.Test.YtjjkdbmjloolaaaGreatDoorPart24
import Derived.LaidHandle
import Derived.Stop.LaidTwo
import Derived.OpenVars
import Derived.ChangeVars

namespace Go.Proofs.YtjjkdbmjloolaaaGreatDoor
open Go.ChangeShapes Go.WideShapes Go.ChangeAt Go.RowKit Go.Deep Go.Joins
theorem open_strs {H : Type} {enc : TypeId × Value → H} {P : Program} {w : World} {base : Nat} {spare : Nat → Bool} {held : Bool} {t e : TypeId} {fuel : Nat} {a : Option Addr} {len cap : Nat} {x : DataW H × List MemPlace}
  (ht : P.underlying t = some (.slice e)) (he : P.underlying e = some .string) (ce : P.cellsOf e = 1)
  (h : DataW.trod enc P w base spare held fuel t [.slice a len cap] = some x) :
  ∃ l : List ByteArray, l.length = len ∧ StrsAt w a l ∧ FitS l ∧ len ≤ maxLen ∧ len ≤ cap ∧ (a = none → cap = 0) := by
 rcases open_slice ht h with ⟨h0, _⟩ | ⟨ad, len', cap', m, n, D, Pl, hcs, hb, hl, hm, hmm, _, hx⟩
 · simp at h0
  obtain ⟨rfl, rfl, rfl⟩ := h0
  exact ⟨[], rfl, fun j hj => by simp at hj, fun j hj => by simp at hj, by unfold maxLen; omega, Nat.le_refl _, fun _ => rfl⟩
 simp at hcs
 obtain ⟨rfl, rfl, rfl⟩ := hcs
 have hlm : len ≤ m := by rw [hmm]; split <;> omega
 have each : ∀ i, i < len → ∃ q : ByteArray, w.cell? (ad.add i) = some (.string q) ∧ q.size ≤ maxLen := by
  intro i hi
  obtain ⟨cs', h1, h2⟩ := hx i (by omega)
  rw [ce, Nat.mul_one] at h1
  obtain ⟨_, hlen, hcell⟩ := World.cells?_some h1
  match cs', hlen with
  | [v], _ =>
   have e0 := hcell 0 (by omega)
   rw [add_add] at e0
   obtain ⟨s0, es, _, hs⟩ := DataW.trod_string he h2
   simp at es
   subst es
   exact ⟨s0, by simpa using e0, hs⟩
 obtain ⟨q, hq⟩ := choose_lt each
 have spot : 0 < len → ad.spot = none := by
  intro h0
  obtain ⟨e0, _⟩ := hq 0 h0
  simpa [Addr.add] using World.cell?_spot e0
 refine ⟨(List.range len).map q, by simp, ?_, ?_, by omega, by omega, fun h => by cases h⟩
 · intro j hj
  have hj' : j < len := by simpa using hj
  obtain ⟨b, o, sp⟩ := ad
  have hsp := spot (by omega)
  simp at hsp
  subst hsp
  obtain ⟨e0, _⟩ := hq j hj'
  have hadd : ((⟨b, o, none⟩ : Addr).add j) = ⟨b, o + j, none⟩ := by
   unfold Addr.add
   by_cases hq : j = 0 <;> simp [hq]
  rw [hadd] at e0
  refine ⟨b, o, rfl, World.block_lt_of_cell? w _ e0, ?_⟩
  simpa using e0
 · intro j hj
  have hj' : j < len := by simpa using hj
  simpa using (hq j hj').2
theorem cellsSiv : Tryz.prog.cellsOf 44 = 7 := by kernel_rfl
set_option maxRecDepth 100000 in
theorem open_sieves {H : Type} {enc : TypeId × Value → H} {w : World} {base : Nat} {spare : Nat → Bool} {held : Bool} {fuel : Nat} {a : Option Addr} {len cap : Nat} {x : DataW H × List MemPlace}
  (h : DataW.trod enc Tryz.prog w base spare held fuel 23 [.slice a len cap] = some x) :
  ∃ T : List SV, T.length = len ∧ SivsAt w a T ∧ len ≤ maxLen ∧ len ≤ cap ∧ (a = none → cap = 0) := by
 rcases open_slice Tryz.underlying23 h with ⟨h0, _⟩ | ⟨ad, len', cap', m, n, D, Pl, hcs, hb, hl, hm, hmm, _, hx⟩
 · simp at h0
  obtain ⟨rfl, rfl, rfl⟩ := h0
  exact ⟨[], rfl, fun j hj => by simp at hj, by unfold maxLen; omega, Nat.le_refl _, fun _ => rfl⟩
 simp at hcs
 obtain ⟨rfl, rfl, rfl⟩ := hcs
 have hlm : len ≤ m := by rw [hmm]; split <;> omega
 have each : ∀ i, i < len → ∃ q : SV, ∃ na nc sa sc, (w.cell? (ad.add (i * 7)) = some (.int .i64 q.kind) ∧ w.cell? (ad.add (i * 7 + 1)) = some (.string q.name) ∧ w.cell? (ad.add (i * 7 + 2)) = some (.slice na q.names.length nc) ∧ w.cell? (ad.add (i * 7 + 3)) = some (.slice sa q.sum.length sc) ∧ w.cell? (ad.add (i * 7 + 4)) = some (.bool q.down) ∧ w.cell? (ad.add (i * 7 + 5)) = some (.int .i64 q.count) ∧ w.cell? (ad.add (i * 7 + 6)) = some (.int .i64 q.skip)) ∧ SivAt w na nc sa q := by
  intro i hi
  obtain ⟨cs', h1, h2⟩ := hx i (by omega)
  rw [cellsSiv] at h1
  obtain ⟨_, hlen, hcell⟩ := World.cells?_some h1
  obtain ⟨xs, k, hk, hxy, _, hxl, hf⟩ := DataW.trod_struct Tryz.underlying44 h2
  match xs, hxl, cs', hlen with
  | [y0, y1, y2, y3, y4, y5, y6], _, [w0, w1, w2, w3, w4, w5, w6], _ =>
   have q0 := hf 0 _ rfl
   have q1 := hf 1 _ rfl
   have q2 := hf 2 _ rfl
   have q3 := hf 3 _ rfl
   have q4 := hf 4 _ rfl
   have q5 := hf 5 _ rfl
   have q6 := hf 6 _ rfl
   have k0 : Tryz.prog.cellsOf 2 = 1 := by kernel_rfl
   have k1 : Tryz.prog.cellsOf 9 = 1 := by kernel_rfl
   have k2 : Tryz.prog.cellsOf 22 = 1 := by kernel_rfl
   have k3 : Tryz.prog.cellsOf 42 = 1 := by kernel_rfl
   have k4 : Tryz.prog.cellsOf 4 = 1 := by kernel_rfl
   simp [k0, k1, k2, k3, k4] at q0 q1 q2 q3 q4 q5 q6
   clear k0 k1 k2 k3 k4
   have e0 := hcell 0 (by omega)
   have e1 := hcell 1 (by omega)
   have e2 := hcell 2 (by omega)
   have e3 := hcell 3 (by omega)
   have e4 := hcell 4 (by omega)
   have e5 := hcell 5 (by omega)
   have e6 := hcell 6 (by omega)
   rw [add_add] at e0 e1 e2 e3 e4 e5 e6
   obtain ⟨k0, ek0, _, _⟩ := DataW.trod_int Tryz.underlying2 q0
   obtain ⟨nm, enm, _, hnm⟩ := DataW.trod_string Tryz.underlying9 q1
   obtain ⟨dn, edn, _⟩ := DataW.trod_bool Tryz.underlying4 q4
   obtain ⟨ct, ect, _, _⟩ := DataW.trod_int Tryz.underlying2 q5
   obtain ⟨sk, esk, _, _⟩ := DataW.trod_int Tryz.underlying2 q6
   simp at ek0 enm edn ect esk
   subst ek0 enm edn ect esk
   obtain ⟨na, nn, nc, rfl⟩ : ∃ ai li ci, w2 = .slice ai li ci := by
    rcases open_slice Tryz.underlying22 q2 with ⟨hv, _⟩ | ⟨a', l', c', _, _, _, _, hv, _⟩
    · simp at hv; exact ⟨_, _, _, hv⟩
    · simp at hv; exact ⟨_, _, _, hv⟩
   obtain ⟨sa, sn, sc, rfl⟩ : ∃ ai li ci, w3 = .slice ai li ci := by
    rcases open_slice Tryz.underlying42 q3 with ⟨hv, _⟩ | ⟨a', l', c', _, _, _, _, hv, _⟩
    · simp at hv; exact ⟨_, _, _, hv⟩
    · simp at hv; exact ⟨_, _, _, hv⟩
   obtain ⟨N, hN, hs, hft, hlc, hcap, hnil⟩ := open_strs Tryz.underlying22 Tryz.underlying9 (by kernel_rfl) q2
   obtain ⟨S, hS, hK, hF, hM, _⟩ := open_itms Tryz.underlying42 Tryz.underlying101 Tryz.underlying99 (by kernel_rfl) rfl rfl rfl rfl rfl rfl (by kernel_rfl) (by kernel_rfl) (by kernel_rfl) (by kernel_rfl) (by kernel_rfl) (by kernel_rfl) Tryz.underlying2 Tryz.underlying9 Tryz.underlying2 Tryz.underlying2 Tryz.underlying9 q3
   subst hN hS
   exact ⟨⟨k0, nm, N, S, dn, ct, sk⟩, na, nc, sa, sc, ⟨by simpa using e0, by simpa using e1, by simpa using e2, by simpa using e3, by simpa using e4, by simpa using e5, by simpa using e6⟩, hs, hft, hlc, hcap, hnil, hK, hF, hM, hnm⟩
 haveI : Inhabited SV := ⟨⟨0, ⟨#[]⟩, [], [], false, 0, 0⟩⟩
 obtain ⟨q, hq⟩ := choose_lt each
 have spot : 0 < len → ad.spot = none := by
  intro h0
  obtain ⟨_, _, _, _, ⟨e0, _⟩, _⟩ := hq 0 h0
  simpa [Addr.add] using World.cell?_spot e0
 refine ⟨(List.range len).map q, by simp, ?_, by omega, by omega, fun h => by cases h⟩
 intro j hj
 have hj' : j < len := by simpa using hj
 obtain ⟨b, o, sp⟩ := ad
 have hsp := spot (by omega)
 simp at hsp
 subst hsp
 obtain ⟨na, nc, sa, sc, ⟨e0, e1, e2, e3, e4, e5, e6⟩, ht⟩ := hq j hj'
 have hadd : ∀ q, ((⟨b, o, none⟩ : Addr).add q) = ⟨b, o + q, none⟩ := by
  intro q
  unfold Addr.add
  by_cases hq : q = 0 <;> simp [hq]
 rw [hadd] at e0 e1 e2 e3 e4 e5 e6
 have hg : ((List.range len).map q)[j] = q j := by simp
 rw [hg]
 exact ⟨b, o, na, nc, sa, sc, rfl, World.block_lt_of_cell? w _ e0, ⟨e0, e1, e2, e3, e4, e5, e6⟩, ht⟩
end Go.Proofs.YtjjkdbmjloolaaaGreatDoor
namespace Go.Proofs.YtjjkdbmjloolaaaGreatDoor
open Go.ChangeShapes Go.WideShapes Go.ChangeAt Go.RowKit
theorem gPow : (Tryz.prog.globalNamed "internal/strconv.uint64pow10").bind (fun g => (Tryz.prog.globals[g]?).map (·.type)) = some 297 := by kernel_rfl
theorem pow_data : (Rows.laid_internal_strconv_uint64pow10 : DataW Unit) = Lib.tabData .u64 Lib.pow10Tab := by kernel_rfl
theorem pow_of {W : World} {rest : List (String × DataW Unit)} (h : laidMet Tryz.prog (("internal/strconv.uint64pow10", Rows.laid_internal_strconv_uint64pow10) :: rest) W) : PowAt W := by
 rw [pow_data] at h
 obtain ⟨g, hg, ht⟩ := Option.bind_eq_some_iff.1 gPow
 exact Lib.tabIs_of_head hg ht Tryz.underlying297 Tryz.underlying206 (by kernel_rfl) (by kernel_rfl) h
theorem star_name : "*" ++ "errors.errorString" = "*errors.errorString" := by decide
theorem row_err (u : TypeId) (h : Tryz.prog.typeName? 3 u = some "*errors.errorString") : u = 292 :=
 typeName_ptr_named (nm := "errors.errorString") (by rw [star_name]; kernel_rfl) (by kernel_rfl) (by decide) u (by rw [star_name]; exact h)
theorem gRange : (Tryz.prog.globalNamed "strconv.ErrRange").bind (fun g => (Tryz.prog.globals[g]?).map (·.type)) = some 84 := by kernel_rfl
theorem gSyntax : (Tryz.prog.globalNamed "strconv.ErrSyntax").bind (fun g => (Tryz.prog.globals[g]?).map (·.type)) = some 84 := by kernel_rfl
theorem err_of {W : World} {rest : List (String × DataW Unit)} (h : laidMet Tryz.prog (("strconv.ErrRange", Rows.laid_strconv_ErrRange) :: ("strconv.ErrSyntax", Rows.laid_strconv_ErrSyntax) :: rest) W) : ErrAt W := by
 obtain ⟨g, hg, ht⟩ := Option.bind_eq_some_iff.1 gRange
 obtain ⟨g2, hg2, ht2⟩ := Option.bind_eq_some_iff.1 gSyntax
 have h2 := h.tail
 unfold Rows.laid_strconv_ErrRange at h
 unfold Rows.laid_strconv_ErrSyntax at h2
 obtain ⟨a, s, hv, _⟩ := laid_sentinel h hg ht Tryz.underlying84 row_err Tryz.underlying292 Tryz.underlying294 rfl rfl Tryz.underlying9 (by kernel_rfl) (by kernel_rfl)
 obtain ⟨a2, s2, hv2, _⟩ := laid_sentinel h2 hg2 ht2 Tryz.underlying84 row_err Tryz.underlying292 Tryz.underlying294 rfl rfl Tryz.underlying9 (by kernel_rfl) (by kernel_rfl)
 exact ⟨⟨_, _, hv2⟩, ⟨_, _, hv⟩⟩
theorem laid_skip {P : Program} {x y : String × DataW Unit} {r : List (String × DataW Unit)} {W : World} (h : laidMet P (x :: y :: r) W) : laidMet P (x :: r) W := by
 obtain ⟨n0, d0⟩ := x
 obtain ⟨n1, d1⟩ := y
 obtain ⟨ps, ⟨g0, t0, cs0, f0, p0, q0, hg0, ht0, hv0, hd0, ⟨g1, t1, cs1, f1, p1, q1, hg1, ht1, hv1, hd1, hr, e1⟩, e0⟩, hnd, hrows⟩ := h
 subst e1
 subst e0
 refine ⟨_, ⟨g0, t0, cs0, f0, p0, q1, hg0, ht0, hv0, hd0, hr, rfl⟩, hnd.sublist (List.Sublist.append (List.Sublist.refl _) (List.sublist_append_right _ _)), fun b off hm => hrows b off ?_⟩
 rcases List.mem_append.1 hm with hm | hm
 · exact List.mem_append_left _ hm
 · exact List.mem_append_right _ (List.mem_append_right _ hm)
theorem trodVars_five {H : Type} {enc : TypeId × Value → H} {P : Program} {w : World} {spare : Nat → Bool} {n1 n2 n3 n4 n5 : String} {gs : List (DataW H)} {ps : List MemPlace} (h : DataW.TrodVars enc P w spare [n1, n2, n3, n4, n5] gs ps) : ∃ d1 d2 d3 d4 d5, gs = [d1, d2, d3, d4, d5] := by
 have key : ∀ (ns : List String) (gs : List (DataW H)) (ps : List MemPlace), DataW.TrodVars enc P w spare ns gs ps → gs.length = ns.length := by
  intro ns
  induction ns with
  | nil =>
   intro gs ps h
   cases gs with
   | nil => rfl
   | cons d ds => exact absurd h (by intro h; cases h)
  | cons n ns ih =>
   intro gs ps h
   cases gs with
   | nil => exact absurd h (by intro h; cases h)
   | cons d ds =>
    obtain ⟨_, _, _, _, _, _, _, _, _, _, hs, _⟩ := h
    simp [ih ds _ hs]
 have hl := key _ _ _ h
 match gs, hl with
 | [a, b, c, d, e], _ => exact ⟨a, b, c, d, e, rfl⟩
def lineup : List (String × DataW Unit) := [("math/bits.deBruijn32tab", Rows.laid_math_bits_deBruijn32tab), ("math/bits.deBruijn64tab", Rows.laid_math_bits_deBruijn64tab), ("internal/strconv.uint64pow10", Rows.laid_internal_strconv_uint64pow10), ("errors.errorType", Rows.laid_errors_errorType), ("strconv.ErrRange", Rows.laid_strconv_ErrRange), ("strconv.ErrSyntax", Rows.laid_strconv_ErrSyntax), ("loop.example/g00536/impl.errNoTable", Rows.laid_loop_example_g00536_impl_errNoTable), ("loop.example/g00536/impl.errTwice", Rows.laid_loop_example_g00536_impl_errTwice), ("loop.example/g00536/impl.errNoColumn", Rows.laid_loop_example_g00536_impl_errNoColumn), ("loop.example/g00536/impl.errTooMany", Rows.laid_loop_example_g00536_impl_errTooMany), ("loop.example/g00536/impl.errNotRight", Rows.laid_loop_example_g00536_impl_errNotRight)]
theorem lineup_h : (lineup.filter fun x => x.2.handleName?.isSome) = [("errors.errorType", Rows.laid_errors_errorType)] := by kernel_rfl
theorem lineup_d : (lineup.filter fun x => x.2.handleName?.isNone) = [("math/bits.deBruijn32tab", Rows.laid_math_bits_deBruijn32tab), ("math/bits.deBruijn64tab", Rows.laid_math_bits_deBruijn64tab), ("internal/strconv.uint64pow10", Rows.laid_internal_strconv_uint64pow10), ("strconv.ErrRange", Rows.laid_strconv_ErrRange), ("strconv.ErrSyntax", Rows.laid_strconv_ErrSyntax), ("loop.example/g00536/impl.errNoTable", Rows.laid_loop_example_g00536_impl_errNoTable), ("loop.example/g00536/impl.errTwice", Rows.laid_loop_example_g00536_impl_errTwice), ("loop.example/g00536/impl.errNoColumn", Rows.laid_loop_example_g00536_impl_errNoColumn), ("loop.example/g00536/impl.errTooMany", Rows.laid_loop_example_g00536_impl_errTooMany), ("loop.example/g00536/impl.errNotRight", Rows.laid_loop_example_g00536_impl_errNotRight)] := by kernel_rfl
theorem g1 : Tryz.prog.globalNamed "loop.example/g00536/impl.errNoTable" = some 4 := by kernel_rfl
theorem g2 : Tryz.prog.globalNamed "loop.example/g00536/impl.errTwice" = some 1 := by kernel_rfl
theorem g3 : Tryz.prog.globalNamed "loop.example/g00536/impl.errNoColumn" = some 3 := by kernel_rfl
theorem g4 : Tryz.prog.globalNamed "loop.example/g00536/impl.errTooMany" = some 2 := by kernel_rfl
theorem g5 : Tryz.prog.globalNamed "loop.example/g00536/impl.errNotRight" = some 0 := by kernel_rfl
theorem gE : Tryz.prog.globalNamed "errors.errorType" = some 5 := by kernel_rfl
theorem gT (g : Nat) (hg : g = 4 ∨ g = 1 ∨ g = 3 ∨ g = 2 ∨ g = 0) : (Tryz.prog.globals[g]?).map (·.type) = some 84 := by
 rcases hg with rfl | rfl | rfl | rfl | rfl <;> kernel_rfl
theorem rtT : (Tryz.prog.cutTypes.find? (·.1 == "internal/reflectlite.rtype")).map (·.2) = some 234 := by kernel_rfl
theorem typesN : Tryz.prog.types.size = 331 := by kernel_rfl
theorem oneError : ((List.range 331).filter fun t => Tryz.prog.rowNamed t [101, 114, 114, 111, 114]) = [84] := by kernel_rfl
theorem var_cellE {W : World} {n : String} {g : Nat} {x : Value} (hg : Tryz.prog.globalNamed n = some g) (h : W.var? Tryz.prog n = some #[x]) : W.cell? ⟨g, 0, none⟩ = some x ∧ g < W.heap.size := by
 have hc : W.cell? ⟨g, 0, none⟩ = some x := by simpa using World.var?_cell hg h 0
 refine ⟨hc, ?_⟩
 by_cases hl : g < W.heap.size
 · exact hl
 · simp [World.cell?, Array.getElem?_eq_none (Nat.le_of_not_lt hl)] at hc
theorem two_sen {W : World} {r : List (String × DataW Unit)} {n0 n1 : String} {t0 t1 : List UInt8} {g0 g1 : Nat} (h : laidMet Tryz.prog ((n0, .iface "*errors.errorString" (.ptr (.agg [.lit (.string t0)]))) :: (n1, .iface "*errors.errorString" (.ptr (.agg [.lit (.string t1)]))) :: r) W)
  (h0 : Tryz.prog.globalNamed n0 = some g0) (k0 : g0 = 4 ∨ g0 = 1 ∨ g0 = 3 ∨ g0 = 2 ∨ g0 = 0) (h1 : Tryz.prog.globalNamed n1 = some g1) (k1 : g1 = 4 ∨ g1 = 1 ∨ g1 = 3 ∨ g1 = 2 ∨ g1 = 0) :
  ∃ a0 a1 : Addr, W.var? Tryz.prog n0 = some #[.iface 292 (.pointer (some a0))] ∧ W.var? Tryz.prog n1 = some #[.iface 292 (.pointer (some a1))] ∧ a0 ≠ a1 ∧ Blk W a0 ∧ Blk W a1 := by
 obtain ⟨a0, a1, s0, s1, c0, c1, u0, u1, hv0, hv1, _, _, _, _, _, _, hne, hb0, hb1⟩ := laid_sentinels2 h h0 (gT g0 k0) h1 (gT g1 k1) Tryz.underlying84 row_err Tryz.underlying292 Tryz.underlying294 rfl rfl Tryz.underlying9 (by kernel_rfl) (by kernel_rfl)
 exact ⟨a0, a1, hv0, hv1, hne, ⟨c0, u0, hb0⟩, ⟨c1, u1, hb1⟩⟩
theorem same_addr {W : World} {n : String} {a b : Addr} (h : W.var? Tryz.prog n = some #[.iface 292 (.pointer (some a))]) (h' : W.var? Tryz.prog n = some #[.iface 292 (.pointer (some b))]) : a = b := by
 rw [h] at h'
 simpa using h'
theorem sen_of {W : World} (h : laidMetH Tryz.prog lineup W) : ∃ A, SenAt W A := by
 have hh : laidMet Tryz.prog (lineup.filter fun x => x.2.handleName?.isNone) W ∧ handlesMet Tryz.prog [("errors.errorType", Rows.laid_errors_errorType)] W := by
  unfold laidMetH at h
  rw [lineup_h] at h
  exact h
 rw [lineup_d] at hh
 obtain ⟨hd, hm⟩ := hh
 have hE : W.cell? ⟨5, 0, none⟩ = some (.iface 234 (.agg #[.pointer (some ⟨12, 84, none⟩)])) ∧ 5 < W.heap.size := by
  have hx := hm _ (List.mem_singleton.2 rfl)
  have hx2 : ∃ name u ty, (Rows.laid_errors_errorType : DataW Unit).handleName? = some name ∧ (Tryz.prog.cutTypes.find? (·.1 == "internal/reflectlite.rtype")).map (·.2) = some u ∧ ty < Tryz.prog.types.size ∧ Tryz.prog.rowNamed ty name = true ∧ W.var? Tryz.prog "errors.errorType" = some #[.iface u (.agg #[typeHandle Tryz.prog ty])] := hx
  obtain ⟨name, u, ty, e1, e2, e3, e4, e5⟩ := hx2
  have en : name = [101, 114, 114, 111, 114] := by
   have e0 : (Rows.laid_errors_errorType : DataW Unit).handleName? = some [101, 114, 114, 111, 114] := by kernel_rfl
   exact Option.some.inj (e1.symm.trans e0)
  subst en
  obtain rfl := Option.some.inj (rtT.symm.trans e2)
  have hm : ty ∈ (List.range 331).filter fun t => Tryz.prog.rowNamed t [101, 114, 114, 111, 114] := List.mem_filter.2 ⟨List.mem_range.2 (by rw [← typesN]; exact e3), e4⟩
  rw [oneError] at hm
  obtain rfl := List.mem_singleton.1 hm
  have hh : typeHandle Tryz.prog 84 = .pointer (some ⟨12, 84, none⟩) := by kernel_rfl
  rw [hh] at e5
  exact var_cellE gE e5
 have h2 := laidMet.tail (laidMet.tail hd)
 have h5 := laidMet.tail (laidMet.tail (laidMet.tail h2))
 have hp := pow_of h2
 have he := err_of (laidMet.tail h2)
 unfold Rows.laid_loop_example_g00536_impl_errNoTable Rows.laid_loop_example_g00536_impl_errTwice Rows.laid_loop_example_g00536_impl_errNoColumn Rows.laid_loop_example_g00536_impl_errTooMany Rows.laid_loop_example_g00536_impl_errNotRight at h5
 have k1 : 4 = 4 ∨ 4 = 1 ∨ 4 = 3 ∨ 4 = 2 ∨ 4 = 0 := by decide
 have k2 : 1 = 4 ∨ 1 = 1 ∨ 1 = 3 ∨ 1 = 2 ∨ 1 = 0 := by decide
 have k3 : 3 = 4 ∨ 3 = 1 ∨ 3 = 3 ∨ 3 = 2 ∨ 3 = 0 := by decide
 have k4 : 2 = 4 ∨ 2 = 1 ∨ 2 = 3 ∨ 2 = 2 ∨ 2 = 0 := by decide
 have k5 : 0 = 4 ∨ 0 = 1 ∨ 0 = 3 ∨ 0 = 2 ∨ 0 = 0 := by decide
 obtain ⟨a1, a2, v1, v2, n12, b1, b2⟩ := two_sen h5 g1 k1 g2 k2
 obtain ⟨x1, a3, y1, v3, n13, _, b3⟩ := two_sen (laid_skip h5) g1 k1 g3 k3
 obtain rfl := same_addr v1 y1
 obtain ⟨x1, a4, y1, v4, n14, _, b4⟩ := two_sen (laid_skip (laid_skip h5)) g1 k1 g4 k4
 obtain rfl := same_addr v1 y1
 obtain ⟨x1, a5, y1, v5, n15, _, b5⟩ := two_sen (laid_skip (laid_skip (laid_skip h5))) g1 k1 g5 k5
 obtain rfl := same_addr v1 y1
 have h6 := laidMet.tail h5
 obtain ⟨x2, x3, y2, y3, n23, _, _⟩ := two_sen h6 g2 k2 g3 k3
 obtain rfl := same_addr v2 y2
 obtain rfl := same_addr v3 y3
 obtain ⟨x2, x4, y2, y4, n24, _, _⟩ := two_sen (laid_skip h6) g2 k2 g4 k4
 obtain rfl := same_addr v2 y2
 obtain rfl := same_addr v4 y4
 obtain ⟨x2, x5, y2, y5, n25, _, _⟩ := two_sen (laid_skip (laid_skip h6)) g2 k2 g5 k5
 obtain rfl := same_addr v2 y2
 obtain rfl := same_addr v5 y5
 have h7 := laidMet.tail h6
 obtain ⟨x3, x4, y3, y4, n34, _, _⟩ := two_sen h7 g3 k3 g4 k4
 obtain rfl := same_addr v3 y3
 obtain rfl := same_addr v4 y4
 obtain ⟨x3, x5, y3, y5, n35, _, _⟩ := two_sen (laid_skip h7) g3 k3 g5 k5
 obtain rfl := same_addr v3 y3
 obtain rfl := same_addr v5 y5
 have h8 := laidMet.tail h7
 obtain ⟨x4, x5, y4, y5, n45, _, _⟩ := two_sen h8 g4 k4 g5 k5
 obtain rfl := same_addr v4 y4
 obtain rfl := same_addr v5 y5
 obtain ⟨c1, l1⟩ := var_cellE g1 v1
 obtain ⟨c2, l2⟩ := var_cellE g2 v2
 obtain ⟨c3, l3⟩ := var_cellE g3 v3
 obtain ⟨c4, l4⟩ := var_cellE g4 v4
 obtain ⟨c5, l5⟩ := var_cellE g5 v5
 exact ⟨⟨a1, a2, a3, a4, a5⟩, ⟨l1, l2, l3, l4, l5, hE.2⟩, c1, c2, c3, c4, c5, b1, b2, b3, b4, b5, n12, n13, n14, n15, n23, n24, n25, n34, n35, n45, hE.1, hp, he⟩
end Go.Proofs.YtjjkdbmjloolaaaGreatDoor
