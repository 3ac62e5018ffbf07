/-
  A part of the proof: Sure, Lists4, Open1, Open5, Laid.
-/
import Derived.Test.YtegnekbbbfncgaaDoorPart5
import Derived.Test.YtegnekbbbfncgaaDoorPart7
import Derived.Test.YtegnekbbbfncgaaDoorPart3
import Derived.Deep.SlicePairs
import Derived.Test.YtegnekbbbfncgaaDoorPart4
import Derived.Lib.SmallJoins
import Derived.Test.YtegnekbbbfncgaaDoorRows
import Derived.LaidMore
import Derived.Stop.LaidErr
import Derived.Lib.LaidTab
import Derived.Stop.Joined
import Derived.ProofKit
import Derived.LaidLaws

/-
  IsSure, of the model and of the program.
-/
namespace Go.Proofs.YtegnekbbbfncgaaDoor
open Go.ChangeShapes Go.WideShapes Go.ChangeAt Go.RowKit
attribute [local go_sem ↓] Go.wp_at_zero Go.wp_at_succ
attribute [local simp] World.cell?_alloc_past World.cell?_alloc_at World.frozen?_alloc_at cell_far cell_off cell_here World.frozen?_alloc_past

/-- Is this, as the last item of a sum that may not fail, one that answers true, false or nothing? -/
def lastB (x : TI) : Bool := decide (x.1 = 12) || (decide (x.1 = 1) && threeB x.2.1.1 x.2.1.2.1 x.2.1.2.2)
/-- What IsSure answers. -/
def sureR (l : List TI) : Bool := !mayR l && (match l.getLast? with | some x => lastB x | none => false)
theorem may_pos {l : List TI} (h : mayR l = false) : 0 < l.length := by
  cases l with
  | nil => exact absurd (show mayR [] = true from rfl) (by rw [h]; simp)
  | cons x l => simp
theorem sure_may {l : List TI} (h : mayR l = true) : sureR l = false := by unfold sureR; rw [h]; rfl
theorem sure_at {l : List TI} {k : Nat} (hk : l.length = k + 1) (h : mayR l = false) : sureR l = lastB (l[k]'(by omega)) := by
  unfold sureR
  have e : l.getLast? = some (l[k]'(by omega)) := by
    rw [List.getLast?_eq_getElem?]
    have e2 : l.length - 1 = k := by omega
    rw [e2]
    exact List.getElem?_eq_getElem _
  rw [h, e]
  rfl
set_option maxHeartbeats 1000000 in
theorem sure_spec (a : Option Addr) (cap : Nat) (l : List TI) (n : Nat) (hn : l.length = n) (w : World) (hrow : ItmAt w a l) (hfit : FitItm l) (hm : n ≤ maxLen) (b : Bool) (hb : sureR l = b) :
    Calls Tryd.prog 5 #[.slice a n cap] w fun e w' => e = .returned (.bool b) ∧ Below w.heap.size w w' := by
  have HN : Hid (l.length = n) := hn
  have HR : Hid (ItmAt w a l) := hrow
  have HF : Hid (FitItm l) := hfit
  have HB : Hid (sureR l = b) := hb
  obtain ⟨y, hy⟩ : ∃ y, mayR l = y := ⟨_, rfl⟩
  have HY : Hid (mayR l = y) := hy
  clear hrow hfit hb hy
  go_enter Tryd.func5, Tryd.ntmps5
  go_wp2_with fail
  refine (may_specb a cap l n HN.out _ HR.out HF.out hm y HY.out).mono ?_
  rintro e w1 ⟨rfl, hb1⟩
  cases y
  · obtain ⟨k, rfl⟩ : ∃ k, n = k + 1 := ⟨n - 1, by have := may_pos HY.out; omega⟩
    have hk : k < l.length := by omega
    obtain ⟨g, o, rfl, hgw, c0, c1, c2, c3, c4⟩ := HR.out.below hb1 k hk
    have hL : lastB l[k] = b := (sure_at hn HY.out).symm.trans HB.out
    have hft := (HF.out k hk).1
    clear hn HB HY
    generalize l[k] = x at c0 c1 c2 c3 c4 hL hft
    obtain ⟨kd, ⟨ck, cn, ct⟩, nm⟩ := x
    simp only at c0 c1 c2 c3 c4 hft
    have hj : ((k + 1 : Nat) : Int) - 1 = (k : Int) := by omega
    have hi0 : (0 : Int) ≤ (k : Int) := by omega
    have hi1 : (k : Int) < ((k + 1 : Nat) : Int) := by omega
    unfold maxLen at hm
    obtain ⟨r, hr⟩ : ∃ r, threeB ck cn ct = r := ⟨_, rfl⟩
    have HRr : Hid (threeB ck cn ct = r) := hr
    by_cases h12 : kd = 12
    · subst h12
      obtain rfl : true = b := by rw [← hL]; rfl
      clear hL hr
      go_wp2
      go_ret
      exact ⟨rfl, chain hb1 ((Below.refl _ _).alloc (Nat.le_refl _) _)⟩
    · by_cases h1 : kd = 1
      · subst h1
        have HL : Hid (r = b) := by rw [← hL]; simp [lastB, hr]; exact ⟨⟩
        clear hL hr
        go_wp2_with fail
        refine (three_specb ck cn ct r HRr.out _ hft).mono ?_
        rintro e w2 ⟨rfl, hb2⟩
        have hx := chain (chain hb1 ((Below.refl _ _).alloc (Nat.le_refl _) _)) hb2
        obtain rfl := HL.out
        go_wp2
        go_ret
        exact ⟨rfl, hx⟩
      · obtain rfl : false = b := by rw [← hL]; simp [lastB, h12, h1]
        clear hL hr
        have hf12 : (kd == 12) = false := by simp [h12]
        go_wp2
        go_ret
        exact ⟨rfl, chain hb1 ((Below.refl _ _).alloc (Nat.le_refl _) _)⟩
  · obtain rfl : false = b := (sure_may HY.out).symm.trans HB.out
    go_wp2
    go_ret
    exact ⟨rfl, hb1⟩
set_option maxHeartbeats 1000000 in
theorem isanswer_impl (kd ck cn : Int) (ct nm : ByteArray) (w : World) (hct : ct.size ≤ maxLen) (b : Bool) (hb : lastB (kd, (ck, cn, ct), nm) = b) :
    Calls Tryd.prog 14 #[.agg #[.int .i64 kd, .int .i64 ck, .int .i64 cn, .string ct, .string nm]] w fun e w' => e = .returned (.bool b) ∧ Below w.heap.size w w' := by
  obtain ⟨r, hr⟩ : ∃ r, threeB ck cn ct = r := ⟨_, rfl⟩
  have HRr : Hid (threeB ck cn ct = r) := hr
  obtain ⟨x, hx⟩ : ∃ x, (if r = true then rankI ck cn else 0) = x := ⟨_, rfl⟩
  have HX : Hid ((if r = true then rankI ck cn else 0) = x) := hx
  clear hx
  by_cases h12 : kd = 12
  · subst h12
    obtain rfl : true = b := by rw [← hb]; rfl
    clear hb hr
    go_enter Tryd.func14, Tryd.ntmps14
    go_wp2
    go_ret
    exact ⟨rfl, (Below.refl _ _).alloc (Nat.le_refl _) _⟩
  · by_cases h1 : kd = 1
    · subst h1
      have HL : Hid (r = b) := by rw [← hb]; simp [lastB, hr]; exact ⟨⟩
      clear hb hr
      go_enter Tryd.func14, Tryd.ntmps14
      go_wp2_with fail
      refine (answer_impl ck cn ct x r HRr.out HX.out _ hct).mono ?_
      rintro e w2 ⟨rfl, hb2⟩
      obtain rfl := HL.out
      go_wp2
      go_ret
      exact ⟨rfl, chainA hb2⟩
    · obtain rfl : false = b := by rw [← hb]; simp [lastB, h12, h1]
      clear hb hr
      go_enter Tryd.func14, Tryd.ntmps14
      go_wp2
      go_ret
      exact ⟨rfl, (Below.refl _ _).alloc (Nat.le_refl _) _⟩
set_option maxHeartbeats 1000000 in
theorem sure_impl (a : Option Addr) (cap : Nat) (l : List TI) (n : Nat) (hn : l.length = n) (w : World) (hrow : ItmAt w a l) (hfit : FitI l) (hm : n ≤ maxLen) (hp : PowAt w) (he : ErrAt w) (b : Bool) (hb : sureR l = b) :
    Calls Tryd.prog 7 #[.slice a n cap] w fun e w' => e = .returned (.bool b) ∧ Below w.heap.size w w' := by
  have HN : Hid (l.length = n) := hn
  have HR : Hid (ItmAt w a l) := hrow
  have HF : Hid (FitI l) := hfit
  have HB : Hid (sureR l = b) := hb
  have HP : Hid (PowAt w) := hp
  have HE : Hid (ErrAt w) := he
  obtain ⟨y, hy⟩ : ∃ y, mayR l = y := ⟨_, rfl⟩
  have HY : Hid (mayR l = y) := hy
  clear hrow hfit hb hy hp he
  go_enter Tryd.func7, Tryd.ntmps7
  go_wp2_with fail
  refine (may_impl a cap l n HN.out _ HR.out HF.out hm HP.out HE.out y HY.out).mono ?_
  rintro e w1 ⟨rfl, hb1⟩
  cases y
  · obtain ⟨k, rfl⟩ : ∃ k, n = k + 1 := ⟨n - 1, by have := may_pos HY.out; omega⟩
    have hk : k < l.length := by omega
    obtain ⟨g, o, rfl, hgw, c0, c1, c2, c3, c4⟩ := HR.out.below hb1 k hk
    have hL : lastB l[k] = b := (sure_at hn HY.out).symm.trans HB.out
    have hft : l[k].2.1.2.2.size ≤ maxLen := (HF.out _ (List.getElem_mem hk)).1
    clear hn HB HY
    generalize l[k] = x at c0 c1 c2 c3 c4 hL hft
    obtain ⟨kd, ⟨ck, cn, ct⟩, nm⟩ := x
    simp only at c0 c1 c2 c3 c4 hft
    have HL : Hid (lastB (kd, (ck, cn, ct), nm) = b) := hL
    have hj : ((k + 1 : Nat) : Int) - 1 = (k : Int) := by omega
    have hi0 : (0 : Int) ≤ (k : Int) := by omega
    have hi1 : (k : Int) < ((k + 1 : Nat) : Int) := by omega
    unfold maxLen at hm
    clear hL
    go_wp2_with fail
    refine (isanswer_impl kd ck cn ct nm _ hft b HL.out).mono ?_
    rintro e w2 ⟨rfl, hb2⟩
    have hx := chain hb1 hb2
    go_wp2
    go_ret
    exact ⟨rfl, hx⟩
  · obtain rfl : false = b := (sure_may HY.out).symm.trans HB.out
    go_wp2
    go_ret
    exact ⟨rfl, hb1⟩
end Go.Proofs.YtegnekbbbfncgaaDoor

/-
  Lists of lists of cells: how they lie in memory, and the contracts of the law's helpers that measure them and hold two of them against each other.
-/
namespace Go.Proofs.YtegnekbbbfncgaaDoor
open Go.ChangeShapes Go.WideShapes Go.ChangeAt Go.RowKit
attribute [local go_sem ↓] Go.wp_at_zero Go.wp_at_succ

/-- The lists of a slice of slices lie where it says. -/
def RowsAt (w : World) (a : Option Addr) (L : List (List CT)) : Prop :=
  ∀ i (h : i < L.length), ∃ b o ai ci, a = some ⟨b, o, none⟩ ∧ b < w.heap.size ∧ w.cell? ⟨b, o + i, none⟩ = some (.slice ai L[i].length ci) ∧ RowAt w ai L[i] ∧ Fit L[i] ∧ L[i].length ≤ maxLen ∧ (ai = none → ci = 0)
theorem RowsAt.below {w w' : World} {a : Option Addr} {L : List (List CT)} (h : RowsAt w a L) (hb : Below w.heap.size w w') : RowsAt w' a L := by
  intro i hi
  obtain ⟨b, o, ai, ci, ha, hlt, h0, h1, h2⟩ := h i hi
  refine ⟨b, o, ai, ci, ha, Nat.lt_of_lt_of_le hlt hb.size, ?_, h1.below hb, h2⟩
  rw [hb.cell (p := ⟨b, _, none⟩) hlt]; exact h0
end Go.Proofs.YtegnekbbbfncgaaDoor

/-
  A law's argument that is a slice of cells, opened: which list of cells it is, and where they lie.
-/
namespace Go.Proofs.YtegnekbbbfncgaaDoor
open Go.ChangeShapes Go.WideShapes Go.ChangeAt Go.RowKit Go.Deep

end Go.Proofs.YtegnekbbbfncgaaDoor

/-
  A law's argument that is a slice of items, opened; what the laws ask of lists of items, with their lengths as letters.
-/
namespace Go.Proofs.YtegnekbbbfncgaaDoor
open Go.ChangeShapes Go.WideShapes Go.ChangeAt Go.RowKit Go.Deep

theorem open_itms {H : Type} {enc : TypeId × Value → H} {P : Program} {w : World} {base : Nat} {spare : Nat → Bool} {held : Bool} {t e : TypeId} {f0 f1 f2 g0 g1 g2 : Field} {fuel : Nat} {a : Option Addr} {len cap : Nat} {x : DataW H × List MemPlace}
    (ht : P.underlying t = some (.slice e)) (he : P.underlying e = some (.struct #[f0, f1, f2])) (hce : P.underlying f1.type = some (.struct #[g0, g1, g2])) (kk : P.cellsOf e = 5)
    (o0 : f0.offset = 0) (o1 : f1.offset = 1) (o2 : f2.offset = 4) (p0 : g0.offset = 0) (p1 : g1.offset = 1) (p2 : g2.offset = 2)
    (c0 : P.cellsOf f0.type = 1) (c1 : P.cellsOf f1.type = 3) (c2 : P.cellsOf f2.type = 1) (d0 : P.cellsOf g0.type = 1) (d1 : P.cellsOf g1.type = 1) (d2 : P.cellsOf g2.type = 1)
    (u0 : P.underlying f0.type = some (.int .i64)) (u1 : P.underlying f2.type = some .string) (v0 : P.underlying g0.type = some (.int .i64)) (v1 : P.underlying g1.type = some (.int .i64)) (v2 : P.underlying g2.type = some .string)
    (h : DataW.trod enc P w base spare held fuel t [.slice a len cap] = some x) :
    ∃ l : List TI, l.length = len ∧ ItmAt w a l ∧ FitItm l ∧ len ≤ maxLen ∧ (a = none → cap = 0) := by
  rcases open_slice ht h with ⟨h0, _⟩ | ⟨ad, len', cap', m, n, D, Pl, hcs, hb, hl, hm, hmm, _, hx⟩
  · simp at h0
    obtain ⟨rfl, rfl, rfl⟩ := h0
    exact ⟨[], rfl, fun j hj => by simp at hj, fun j hj => by simp at hj, by unfold maxLen; omega, fun _ => rfl⟩
  simp at hcs
  obtain ⟨rfl, rfl, rfl⟩ := hcs
  have hlm : len ≤ m := by rw [hmm]; split <;> omega
  have each : ∀ i, i < len → ∃ q : TI, w.cell? (ad.add (i * 5)) = some (.int .i64 q.1) ∧ w.cell? (ad.add (i * 5 + 1)) = some (.int .i64 q.2.1.1) ∧ w.cell? (ad.add (i * 5 + 2)) = some (.int .i64 q.2.1.2.1) ∧ w.cell? (ad.add (i * 5 + 3)) = some (.string q.2.1.2.2) ∧ w.cell? (ad.add (i * 5 + 4)) = some (.string q.2.2) ∧ q.2.1.2.2.size ≤ maxLen ∧ q.2.2.size ≤ maxLen := by
    intro i hi
    obtain ⟨cs', h1, h2⟩ := hx i (by omega)
    rw [kk] at h1
    obtain ⟨_, hlen, hcell⟩ := World.cells?_some h1
    obtain ⟨xs, k, hk, hxy, _, hxl, hf⟩ := DataW.trod_struct he h2
    match xs, hxl, cs', hlen with
    | [y0, y1, y2], _, [w0, w1, w2, w3, w4], _ =>
      have q0 := hf 0 f0 rfl
      have q1 := hf 1 f1 rfl
      have q2 := hf 2 f2 rfl
      simp [o0, o1, o2, c0, c1, c2] at q0 q1 q2
      obtain ⟨ys, k2, hk2, hyy, _, hyl, hg⟩ := DataW.trod_struct hce q1
      match ys, hyl with
      | [z0, z1, z2], _ =>
        have r0 := hg 0 g0 rfl
        have r1 := hg 1 g1 rfl
        have r2 := hg 2 g2 rfl
        simp [p0, p1, p2, d0, d1, d2] at r0 r1 r2
        have e0 := hcell 0 (by omega)
        have e1 := hcell 1 (by omega)
        have e2 := hcell 2 (by omega)
        have e3 := hcell 3 (by omega)
        have e4 := hcell 4 (by omega)
        rw [add_add] at e0 e1 e2 e3 e4
        obtain ⟨k0, ek, _, _⟩ := DataW.trod_int u0 q0
        obtain ⟨s0, es, _, hs⟩ := DataW.trod_string u1 q2
        obtain ⟨k1, ek1, _, _⟩ := DataW.trod_int v0 r0
        obtain ⟨n1, en1, _, _⟩ := DataW.trod_int v1 r1
        obtain ⟨s1, es1, _, hs1⟩ := DataW.trod_string v2 r2
        simp at ek es ek1 en1 es1
        subst ek es ek1 en1 es1
        exact ⟨(k0, (k1, n1, s1), s0), by simpa using e0, by simpa using e1, by simpa using e2, by simpa using e3, by simpa using e4, hs1, hs⟩
  obtain ⟨q, hq⟩ := choose_lt each
  have spot : 0 < len → ad.spot = none := by
    intro h0
    obtain ⟨e0, _⟩ := hq 0 h0
    simpa [Addr.add] using World.cell?_spot e0
  refine ⟨(List.range len).map q, by simp, ?_, ?_, by omega, fun h => by cases h⟩
  · intro j hj
    have hj' : j < len := by simpa using hj
    obtain ⟨b, o, sp⟩ := ad
    have hsp := spot (by omega)
    simp at hsp
    subst hsp
    obtain ⟨e0, e1, e2, e3, e4, _⟩ := hq j hj'
    have hadd : ∀ q, ((⟨b, o, none⟩ : Addr).add q) = ⟨b, o + q, none⟩ := by
      intro q
      unfold Addr.add
      by_cases hq : q = 0 <;> simp [hq]
    rw [hadd] at e0 e1 e2 e3 e4
    refine ⟨b, o, rfl, World.block_lt_of_cell? w _ e0, ?_, ?_, ?_, ?_, ?_⟩
    · simpa using e0
    · simpa [Nat.add_assoc] using e1
    · simpa [Nat.add_assoc] using e2
    · simpa [Nat.add_assoc] using e3
    · simpa [Nat.add_assoc] using e4
  · intro j hj
    have hj' : j < len := by simpa using hj
    simpa using (hq j hj').2.2.2.2.2
theorem szI (n : Nat) (a : Option Addr) (cap : Nat) (l : List TI) (hn : l.length = n) (w : World) (hrow : ItmAt w a l) (hfit : FitItm l) (hm : n ≤ maxLen) (r : Int) (hr : leftOfItm l 1048576 = r) :
    Calls Tryd.prog 4 #[.slice a n cap, .int .i64 1048576] w fun e w' => e = .returned (.int .i64 r) ∧ Below w.heap.size w w' := by
  subst hn hr; exact szsItm a cap l 1048576 w hrow hfit hm (by omega) (by omega)
theorem tosI (n : Nat) (a : Option Addr) (cap : Nat) (l : List TI) (hn : l.length = n) (w : World) (hrow : ItmAt w a l) (hm : n ≤ 1048576) :
    Calls Tryd.prog 6 #[.slice a n cap] w fun e w' => ∃ g, e = .returned (.slice (some ⟨g, 0, none⟩) n n) ∧ ItmAt w' (some ⟨g, 0, none⟩) l ∧ w.heap.size ≤ g ∧ (∀ j, j < n * 5 → w'.frozen? ⟨g, 0 + j, none⟩ = false) ∧ Below w.heap.size w w' := by
  subst hn
  refine (tosItm a cap l w hrow hm).mono ?_
  rintro e w' ⟨rfl, hO, hb⟩
  refine ⟨_, rfl, ownItm hO, (hO.lt _ rfl).1, fun j _ => ?_, hb⟩
  rw [Nat.zero_add]; exact hO.frozenAt j
theorem eqsI (n : Nat) (a b : Option Addr) (ca cb : Nat) (l : List TI) (hn : l.length = n) (w : World) (ha : ItmAt w a l) (hb : ItmAt w b l) (hm : n ≤ maxLen) :
    Calls Tryd.prog 8 #[.slice a n ca, .slice b n cb] w fun e w' => e = .returned (.bool true) ∧ Below w.heap.size w w' := by
  subst hn; exact eqsItm a b ca cb l w ha hb hm
theorem oneI_le {l : List TI} {x : TI} (h : x ∈ l) : oneItm x ≤ weightItm l := by
  unfold weightItm
  obtain ⟨j, hj, rfl⟩ := List.mem_iff_getElem.1 h
  have h1 := weightItm_take l j hj
  have h2 := weightItm_le l (j + 1)
  unfold weightItm at h1 h2
  omega
end Go.Proofs.YtegnekbbbfncgaaDoor

/-
  From the row's condition on the listed variables to what the walks ask of them.
-/
namespace Go.Proofs.YtegnekbbbfncgaaDoor
open Go.ChangeShapes Go.WideShapes Go.ChangeAt Go.RowKit

theorem gPow : (Tryd.prog.globalNamed "internal/strconv.uint64pow10").bind (fun g => (Tryd.prog.globals[g]?).map (·.type)) = some 118 := by kernel_rfl
theorem pow_data : (Rows.laid_internal_strconv_uint64pow10 : DataW Unit) = Lib.tabData .u64 Lib.pow10Tab := by kernel_rfl
theorem pow_of {W : World} {rest : List (String × DataW Unit)} (h : laidMet Tryd.prog (("internal/strconv.uint64pow10", Rows.laid_internal_strconv_uint64pow10) :: rest) W) : PowAt W := by
  rw [pow_data] at h
  obtain ⟨g, hg, ht⟩ := Option.bind_eq_some_iff.1 gPow
  exact Lib.tabIs_of_head hg ht Tryd.underlying118 Tryd.underlying85 (by kernel_rfl) (by kernel_rfl) h

theorem star_name : "*" ++ "errors.errorString" = "*errors.errorString" := by decide
theorem row_err (u : TypeId) (h : Tryd.prog.typeName? 3 u = some "*errors.errorString") : u = 113 :=
  typeName_ptr_named (nm := "errors.errorString") (by rw [star_name]; kernel_rfl) (by kernel_rfl) (by decide) u (by rw [star_name]; exact h)
theorem gRange : (Tryd.prog.globalNamed "strconv.ErrRange").bind (fun g => (Tryd.prog.globals[g]?).map (·.type)) = some 77 := by kernel_rfl
theorem gSyntax : (Tryd.prog.globalNamed "strconv.ErrSyntax").bind (fun g => (Tryd.prog.globals[g]?).map (·.type)) = some 77 := by kernel_rfl
theorem err_of {W : World} {rest : List (String × DataW Unit)} (h : laidMet Tryd.prog (("strconv.ErrRange", Rows.laid_strconv_ErrRange) :: ("strconv.ErrSyntax", Rows.laid_strconv_ErrSyntax) :: rest) W) : ErrAt W := by
  obtain ⟨g, hg, ht⟩ := Option.bind_eq_some_iff.1 gRange
  obtain ⟨g2, hg2, ht2⟩ := Option.bind_eq_some_iff.1 gSyntax
  have h2 := h.tail
  unfold Rows.laid_strconv_ErrRange at h
  unfold Rows.laid_strconv_ErrSyntax at h2
  obtain ⟨a, s, hv, _⟩ := laid_sentinel h hg ht Tryd.underlying77 row_err Tryd.underlying113 Tryd.underlying115 rfl rfl Tryd.underlying9 (by kernel_rfl) (by kernel_rfl)
  obtain ⟨a2, s2, hv2, _⟩ := laid_sentinel h2 hg2 ht2 Tryd.underlying77 row_err Tryd.underlying113 Tryd.underlying115 rfl rfl Tryd.underlying9 (by kernel_rfl) (by kernel_rfl)
  exact ⟨⟨_, _, hv2⟩, ⟨_, _, hv⟩⟩

end Go.Proofs.YtegnekbbbfncgaaDoor
