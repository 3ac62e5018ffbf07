/-
  The walk of the law FnSorted.
-/
import Derived.Test.YtgeipficjfaocaaSortDraw
import Derived.Test.YtgeipficjfaocaaSortFacts
import Derived.Test.YtgeipficjfaocaaSortedS2
import Derived.Test.YtgeipficjfaocaaSortedI2
import Derived.Test.YtgeipficjfaocaaLike
import Derived.Test.YtgeipficjfaocaaLaw1
import Derived.Maps.AppendAt
namespace Go.Proofs.Ytgeipficjfaocaa
open Go.ChangeShapes Go.WideShapes Go.ChangeAt Go.RowKit
attribute [local go_sem ↓] Go.wp_at_zero Go.wp_at_succ
attribute [local simp] World.cell?_alloc_past World.cell?_alloc_at World.frozen?_alloc_at cell_far cell_off cell_here World.frozen?_alloc_past

theorem like_rowsN (n : Nat) (a b : Option Addr) (ca cb : Nat) (L : List (List CT)) (hn : L.length = n) (w : World) (ha : RowsAt w a L) (hb : RowsAt w b L) (hm : n ≤ maxLen) :
    Calls Try.prog 44 #[.slice a n ca, .slice b n cb] w fun e w' => e = .returned (.bool true) ∧ Below w.heap.size w w' := by
  subst hn; exact like_rows a b ca cb L w ha hb hm
/-- What holds of each row holds of each in another order. -/
theorem rowsOf_each {P : List CT → Prop} {L : List (List CT)} {p : List Nat} (hp : p.Perm (List.range L.length)) (h : ∀ i (hi : i < L.length), P L[i]) : ∀ i (hi : i < (rowsOf L p).length), P (rowsOf L p)[i] := by
  intro i hi
  have hi' : i < p.length := by simpa [rowsOf] using hi
  have hm : p[i] < L.length := by
    have : p[i] ∈ List.range L.length := hp.mem_iff.1 (List.getElem_mem hi')
    simpa using this
  have e : (rowsOf L p)[i] = L[p[i]] := by
    have := rowsOf_getD L p i hi'
    rw [getD_get _ _ _ hi, getD_get _ _ _ hi', getD_get _ _ _ hm] at this
    exact this
  rw [e]; exact h _ hm
theorem OwnRows.read {w : World} {base g c : Nat} {L : List (List CT)} {G C : Nat → Nat} (h : OwnRows w base (.slice (some ⟨g, 0, none⟩) L.length c) L G C) (hf : ∀ i (hi : i < L.length), Fit L[i]) (hm : ∀ i (hi : i < L.length), L[i].length ≤ maxLen) : RowsAt w (some ⟨g, 0, none⟩) L := by
  intro i hi
  have hin := h.inner i hi
  have hl := h.look i hi
  unfold headOf at hin hl
  rw [getD_get _ _ _ hi] at hin hl
  have hg : g < w.heap.size := World.block_lt_of_cell? w _ hl.1
  exact ⟨g, 0, _, _, rfl, hg, by rw [show 0 + i = i by omega]; exact hl.1, own_row hin, hf i hi, hm i hi, fun e => by cases e⟩
theorem Laid.read {w : World} {base g c : Nat} {L : List (List CT)} {p : List Nat} (h : Laid w base g c L p) (hp : p.Perm (List.range L.length)) (hf : ∀ i (hi : i < L.length), Fit L[i]) (hm : ∀ i (hi : i < L.length), L[i].length ≤ maxLen) : RowsAt w (some ⟨g, 0, none⟩) (rowsOf L p) := by
  obtain ⟨G, C, O⟩ := h
  have hl : (rowsOf L p).length = L.length := by rw [rowsOf_length]; simpa using hp.length_eq
  rw [← hl] at O
  exact O.read (rowsOf_each (P := fun l => Fit l) hp hf) (rowsOf_each (P := fun l => l.length ≤ maxLen) hp hm)

/-- Two lists of heads that grow, each in a block of its own. -/
structure Two (w : World) (B : Nat) (vs vo : Value) (xs ys : List Value) : Prop where
  own1 : w.ownsRow B 33 1 vs xs.length xs
  own2 : w.ownsRow B 33 1 vo ys.length ys
  some1 : vs ≠ .slice none 0 0
  some2 : vo ≠ .slice none 0 0
  apart : vs.ownBlock ≠ vo.ownBlock
theorem Two.new (w : World) (B : Nat) (hB : B ≤ w.heap.size) : Two ((w.alloc (.cells #[] 33)).alloc (.cells #[] 33)) B (.slice (some ⟨w.heap.size, 0, none⟩) 0 0) (.slice (some ⟨w.heap.size + 1, 0, none⟩) 0 0) [] [] := by
  have h1 : (w.alloc (.cells #[] 33)).ownsRow B 33 1 (.slice (some ⟨w.heap.size, 0, none⟩) 0 0) 0 [] :=
    ⟨rfl, .inr ⟨w.heap.size, 0, #[], rfl, hB, by show (w.heap.push _)[w.heap.size]? = _; simp, Nat.le_refl _, by unfold maxLen; omega, rfl, rfl⟩⟩
  refine ⟨h1.alloc _, ⟨rfl, .inr ⟨w.heap.size + 1, 0, #[], rfl, by omega, ?_, Nat.le_refl _, by unfold maxLen; omega, rfl, rfl⟩⟩, by simp, by simp, by simp [Value.ownBlock]⟩
  rw [show w.heap.size + 1 = (w.alloc (Obj.cells #[] 33)).heap.size from by simp]
  exact heap_alloc_new _ _
theorem Two.below {w w' : World} {B : Nat} {vs vo : Value} {xs ys : List Value} (h : Two w B vs vo xs ys) (hb : Below w.heap.size w w') : Two w' B vs vo xs ys :=
  ⟨own_below h.own1 hb, own_below h.own2 hb, h.some1, h.some2, h.apart⟩
theorem Two.grow1 {w w2 : World} {B : Nat} {vs vo vs' : Value} {xs ys : List Value} {x : Value} (h : Two w B vs vo xs ys) (own' : w2.ownsRow B 33 1 vs' (xs.length + 1) (xs ++ [x])) (hg : w.grownBy w2 vs.ownBlock) (hat : vs'.ownBlock = vs.ownBlock ∨ vs'.ownBlock = some w.heap.size) (hn : vs' ≠ .slice none 0 0) : Two w2 B vs' vo (xs ++ [x]) ys := by
  refine ⟨by rw [List.length_append]; exact own', h.own2.kept hg (.inr h.apart.symm), hn, h.some2, ?_⟩
  rcases hat with e | e
  · rw [e]; exact h.apart
  · rw [e]
    intro e2
    have := (h.own2.lt _ e2.symm).2
    omega
theorem Two.grow2 {w w2 : World} {B : Nat} {vs vo vo' : Value} {xs ys : List Value} {y : Value} (h : Two w B vs vo xs ys) (own' : w2.ownsRow B 33 1 vo' (ys.length + 1) (ys ++ [y])) (hg : w.grownBy w2 vo.ownBlock) (hat : vo'.ownBlock = vo.ownBlock ∨ vo'.ownBlock = some w.heap.size) (hn : vo' ≠ .slice none 0 0) : Two w2 B vs vo' xs (ys ++ [y]) := by
  refine ⟨h.own1.kept hg (.inr h.apart), by rw [List.length_append]; exact own', h.some1, hn, ?_⟩
  rcases hat with e | e
  · rw [e]; exact h.apart
  · rw [e]
    intro e2
    have := (h.own1.lt _ e2).2
    omega
/-- Those among the first m whose cell is x. -/
def alikeTo (L : List (List CT)) (at_ : Int) (x : CT) (q : Nat) : Bool := sameB (keyOf L at_ q).1 (keyOf L at_ q).2.1 (keyOf L at_ q).2.2 x.1 x.2.1 x.2.2
theorem alikeTo_eq {L : List (List CT)} {at_ : Int} {x : CT} {q : Nat} (h : alikeTo L at_ x q = true) : keyOf L at_ q = x := by
  obtain ⟨h1, h2, h3⟩ := sameB_eq.1 h
  exact Prod.ext h1 (Prod.ext h2 h3)

theorem own_any {w : World} {base n sz : Nat} {e : TypeId} {xs : List Value} {v : Value} (h : w.ownsRow base e sz v n xs) (hv : v ≠ .slice none 0 0) : ∃ g c, v = .slice (some ⟨g, 0, none⟩) n c := by
  rcases h.2 with ⟨h', _⟩ | ⟨g, c, cur, h', _⟩
  · exact absurd h' hv
  · exact ⟨g, c, h'⟩
theorem filter_places (p : List Nat) (n : Nat) (h : p.length = n) (f : Nat → Bool) : ((List.range n).filter (fun j => f (p.getD j 0))).map (fun j => p.getD j 0) = p.filter f := by
  have e : p = (List.range n).map (fun j => p.getD j 0) := by
    apply List.ext_getElem
    · simp [h]
    · intro k h1 h2
      simp [List.getD, List.getElem?_eq_getElem h1]
  conv => rhs; rw [e, List.filter_map]
  rfl
/-- Heads of some of the rows: these rows lie there. -/
theorem heads_read {w : World} {B base g2 c2 : Nat} {v : Value} {L : List (List CT)} {G C : Nat → Nat} {js : List Nat} (own : w.ownsRow B 33 1 (.slice (some ⟨g2, 0, none⟩) js.length c2) js.length (js.map (headOf G C L))) (O : OwnRows w base v L G C) (hj : ∀ j ∈ js, j < L.length) (hf : ∀ i (hi : i < L.length), Fit L[i]) (hm : ∀ i (hi : i < L.length), L[i].length ≤ maxLen) : RowsAt w (some ⟨g2, 0, none⟩) (js.map (fun j => L.getD j [])) := by
  intro i hi
  have hi' : i < js.length := by simpa using hi
  have hlt := hj _ (List.getElem_mem hi')
  have hin := O.inner _ hlt
  have hc := own.cellAt i (by omega)
  rw [List.getElem?_map, List.getElem?_eq_getElem hi'] at hc
  unfold headOf at hin hc
  have hg : g2 < w.heap.size := World.block_lt_of_cell? w _ hc
  have e : (js.map (fun j => L.getD j []))[i] = L.getD js[i] [] := by simp
  have e2 : L.getD js[i] [] = L[js[i]] := getD_get _ _ _ hlt
  rw [e]
  refine ⟨g2, 0, _, _, rfl, hg, by rw [show 0 + i = i by omega]; exact hc, own_row hin, ?_, ?_, fun x => by cases x⟩
  · rw [e2]; exact hf _ hlt
  · rw [e2]; exact hm _ hlt

theorem not_gtr (j : Int) (h : ¬ 0 < j) : ∀ w, (binOp .gtr 3 (.int .i64 j) (.int .i64 0)).run Try.prog w = .ok (.bool false) w := fun w => by
  go_simp
  first | done | (simp; omega) | omega

namespace sortLaw

theorem infoRow : (Try.prog.info? 33).map (fun i => (i.zero, i.size, i.bytes)) = some (some (.slice none 0 0), 1, 24) := by kernel_rfl

set_option maxRecDepth 100000 in
set_option maxHeartbeats 4000000 in
theorem walk {w : World} {a : Option Addr} {len cap : Nat} (row : Code0 w a len) :
    Calls Try.prog 6 #[.slice a len cap] w fun e w' => e = .returned (.bool true) ∧ Below w.heap.size w w' := by
  by_cases hl : 4096 < (len : Int)
  · clear row
    go_enter Try.func6, Try.ntmps6
    go_wp2_with (go_at_call 7; refine (big_laws _ _ _ _).mono ?_; rintro e w' ⟨rfl, rfl⟩)
    go_ret
    exact ⟨rfl, Below.refl _ _⟩
  have hC : Hid (Code0 w a len) := row
  obtain ⟨i0, hti, hz0, hz1, hz2⟩ := info_parts infoRow
  clear row
  go_enter Try.func6, Try.ntmps6
  go_wp2_with fail
  refine (big_laws _ _ _ _).mono ?_
  rintro e w' ⟨rfl, rfl⟩
  go_wp2_with fail
  refine (sorted_draw (by omega) hC.out).mono ?_
  rintro e w1 ⟨v, L, G, C, at_, down, base, rfl, hv, O1, D, hbw, hx⟩
  obtain ⟨gr, cr, rfl⟩ : ∃ g c, v = .slice (some ⟨g, 0, none⟩) L.length c := by
    rcases O1.outer.2 with ⟨h', _⟩ | ⟨g, c, cur, h', _⟩
    · exact absurd h' hv
    · exact ⟨g, c, h'⟩
  have hF0 : ∀ i (hi : i < L.length), Fit L[i] := fun i hi => (D.2 i hi).1
  have hM0 : ∀ i (hi : i < L.length), L[i].length ≤ maxLen := fun i hi => by have := (D.2 i hi).2; unfold maxLen; omega
  have hS0 : ∀ i (hi : i < L.length), L[i].length ≤ 1048576 := fun i hi => by have := (D.2 i hi).2; omega
  have hF : Hid (∀ i (hi : i < L.length), Fit L[i]) := hF0
  have hM : Hid (∀ i (hi : i < L.length), L[i].length ≤ maxLen) := hM0
  have hS : Hid (∀ i (hi : i < L.length), L[i].length ≤ 1048576) := hS0
  have hL7 : L.length ≤ 7 := D.1
  have hlM : L.length ≤ maxLen := by unfold maxLen; omega
  have R1 : Hid (RowsAt w1 (some ⟨gr, 0, none⟩) L) := O1.read hF0 hM0
  have OR1 : Hid (OwnRows w1 base (.slice (some ⟨gr, 0, none⟩) L.length cr) L G C) := O1
  clear hF0 hM0 hS0 O1 D hC hv
  go_wp2_with fail
  refine (sorted_impl _ _ L at_ down _ R1.out (by omega) hS.out).mono ?_
  rintro e w2 ⟨gx, cx, p, rfl, ord, laidX, hb2⟩
  have hper := ord.perm
  have hpl : (rowsOf L p).length = L.length := by rw [rowsOf_length]; simpa using hper.length_eq
  have ORD : Hid (IsOrder L at_ down p) := ord
  have LX : Hid (Laid w2 w1.heap.size gx cx L p) := laidX
  have R2 : Hid (RowsAt w2 (some ⟨gr, 0, none⟩) L) := R1.out.below hb2
  have OR2 : Hid (OwnRows w2 base (.slice (some ⟨gr, 0, none⟩) L.length cr) L G C) := OR1.out.below hb2
  replace hx := chain hx hb2
  clear ord laidX hb2 R1 OR1
  go_wp2_with fail
  refine (sorted_spec _ _ L at_ down _ R2.out (by omega) hS.out).mono ?_
  rintro e w3 ⟨gs, cs, p', rfl, ord', laidS, hb3⟩
  have hpp := ord'.one ORD.out
  subst hpp
  have RS : Hid (RowsAt w3 (some ⟨gs, 0, none⟩) (rowsOf L p')) := laidS.read hper hF.out hM.out
  have LX3 : Hid (Laid w3 w1.heap.size gx cx L p') := LX.out.below hb3
  have RX3 : Hid (RowsAt w3 (some ⟨gx, 0, none⟩) (rowsOf L p')) := LX3.out.read hper hF.out hM.out
  have OR3 : Hid (OwnRows w3 base (.slice (some ⟨gr, 0, none⟩) L.length cr) L G C) := OR2.out.below hb3
  have R3 : Hid (RowsAt w3 (some ⟨gr, 0, none⟩) L) := R2.out.below hb3
  replace hx := chain hx hb3
  clear ord' laidS hb3 R2 OR2 LX
  go_wp2_with fail
  refine (like_rowsN L.length _ _ _ _ (rowsOf L p') hpl _ RX3.out RS.out hlM).mono ?_
  rintro e w4 ⟨rfl, hb4⟩
  have LX4 : Hid (Laid w4 w1.heap.size gx cx L p') := LX3.out.below hb4
  have RX4 : Hid (RowsAt w4 (some ⟨gx, 0, none⟩) (rowsOf L p')) := RX3.out.below hb4
  have OR4 : Hid (OwnRows w4 base (.slice (some ⟨gr, 0, none⟩) L.length cr) L G C) := OR3.out.below hb4
  have R4 : Hid (RowsAt w4 (some ⟨gr, 0, none⟩) L) := R3.out.below hb4
  replace hx := chain hx hb4
  clear hb4 RS LX3 RX3 OR3 R3
  go_wp2_with fail
  go_loopw [7] (fun i wr => ∃ k : Nat, k ≤ L.length ∧ i = .int .i64 k ∧ Hid (∀ q (hq : q < L.length), q < k → 0 ≤ at_ ∧ at_ < (L[q].length : Int)) ∧ w4 = wr) (fun i _ => L.length - (intOf i).toNat)
  case atStart => exact ⟨0, Nat.zero_le _, rfl, fun q hq h => by omega, rfl⟩
  case round =>
    obtain ⟨k, hk, rfl, hre, rfl⟩ := hrel
    by_cases hlt : k < L.length
    · obtain ⟨hd, _⟩ := OR4.out.look k hlt
      unfold headOf at hd
      rw [getD_get _ _ _ hlt] at hd
      have hi0 : (0 : Int) ≤ (k : Int) := by omega
      have hi1 : (k : Int) < (L.length : Int) := by omega
      have hasis : Hid (¬ Reach L at_ → RowsAt w4 (some ⟨gx, 0, none⟩) L) := by
        have h0 : ¬ Reach L at_ → RowsAt w4 (some ⟨gx, 0, none⟩) L := fun hn => by
          have := RX4.out
          rw [ORD.out.asTheyAre hn, rowsOf_range] at this
          exact this
        exact h0
      by_cases hat : at_ < 0
      · go_wp2_with fail
        refine (like_rowsN L.length _ _ _ _ L rfl _ (hasis.out (fun hr => by have := (hr k hlt).1; omega)) R4.out hlM).mono ?_
        rintro e w5 ⟨rfl, hb5⟩
        go_wp2
        go_ret
        exact ⟨rfl, chain hx hb5⟩
      have hat0 : 0 ≤ at_ := by omega
      by_cases hat2 : at_ < (L[k].length : Int)
      · go_wp2
        go_roundw
        case rel =>
          refine ⟨k + 1, by omega, by go_num, ?_, by trivial⟩
          intro q hq hqk
          by_cases e : q = k
          · subst e; exact ⟨hat0, hat2⟩
          · exact hre.out q hq (by omega)
        case measure => simp [intOf]; omega
      · go_wp2_with fail
        refine (like_rowsN L.length _ _ _ _ L rfl _ (hasis.out (fun hr => by have := (hr k hlt).2; omega)) R4.out hlM).mono ?_
        rintro e w5 ⟨rfl, hb5⟩
        go_wp2
        go_ret
        exact ⟨rfl, chain hx hb5⟩
    · have hReach : Hid (Reach L at_) := fun q hq => hre.out q hq (by omega)
      clear hre
      have hkl : k = L.length := by omega
      subst hkl
      have hnn : ¬ (L.length : Int) < (L.length : Int) := by omega
      obtain ⟨GX, CX, OX0⟩ := LX4.out
      rw [← hpl] at OX0
      have OX : Hid (OwnRows w4 w1.heap.size (.slice (some ⟨gx, 0, none⟩) (rowsOf L p').length cx) (rowsOf L p') GX CX) := OX0
      clear OX0 LX4 RX4 R4
      go_wp2_with fail
      go_loopw [8] (fun i wr => ∃ k : Nat, k ≤ L.length ∧ i = .int .i64 k ∧ Below w4.heap.size w4 wr) (fun i _ => L.length - (intOf i).toNat)
      case atStart => exact ⟨0, Nat.zero_le _, rfl, Below.refl _ _⟩
      case round =>
        obtain ⟨i, hi, rfl, hb4⟩ := hrel
        by_cases hlt2 : i < L.length
        · have hi1 : (i : Int) < (L.length : Int) := by omega
          obtain ⟨t, rfl⟩ : ∃ t : Nat, at_ = t := ⟨at_.toNat, by have := hReach.out i hlt2; omega⟩
          obtain ⟨x, hxk⟩ : ∃ x, keyOf L (t : Int) i = x := ⟨_, rfl⟩
          have T0 := Two.new wr w4.heap.size hb4.size
          have HT0 : Hid (Two ((wr.alloc (.cells #[] 33)).alloc (.cells #[] 33)) w4.heap.size (.slice (some ⟨wr.heap.size, 0, none⟩) 0 0) (.slice (some ⟨wr.heap.size + 1, 0, none⟩) 0 0) [] []) := T0
          clear T0
          go_wp2_with fail
          go_loopw [9, 10, 11] (fun vs vo kk wr => ∃ m : Nat, m ≤ L.length ∧ kk = .int .i64 m ∧ Hid (Two wr w4.heap.size vs vo (((List.range m).filter (alikeTo L (t : Int) x)).map (headOf G C L)) (((List.range m).filter (fun j => alikeTo L (t : Int) x (p'.getD j 0))).map (headOf GX CX (rowsOf L p')))) ∧ Below w4.heap.size w4 wr) (fun _ _ kk _ => L.length - (intOf kk).toNat)
          case atStart => exact ⟨0, Nat.zero_le _, rfl, HT0.out, (hb4.alloc hb4.size _).alloc (Nat.le_trans hb4.size (by simp)) _⟩
          case round =>
            obtain ⟨m, hm, rfl, hT, hb5⟩ := hrel
            clear HT0
            by_cases hlt3 : m < L.length
            · have hm1 : (m : Int) < (L.length : Int) := by omega
              have hm0 : (0 : Int) ≤ (m : Int) := by omega
              have hi0 : (0 : Int) ≤ (i : Int) := by omega
              have ht0 : (0 : Int) ≤ (t : Int) := by omega
              have hppl : p'.length = L.length := by simpa using hper.length_eq
              have hpm : p'.getD m 0 < L.length := mem_lt (fun x hx => by simpa using hper.mem_iff.1 hx) (by omega)
              have R0 := OR4.out.below hb5
              have X0 := OX.out.below hb5
              obtain ⟨_, hn1, _⟩ := reach_key hReach.out m hlt3
              obtain ⟨_, hn2, _⟩ := reach_key hReach.out i hlt2
              obtain ⟨_, hn3, _⟩ := reach_key hReach.out (p'.getD m 0) hpm
              simp only [Int.toNat_natCast] at hn1 hn2 hn3
              have eX : (rowsOf L p').getD m [] = L.getD (p'.getD m 0) [] := rowsOf_getD _ _ _ (by omega)
              have HN2 : Hid (t < (L.getD i []).length) := hn2
              have HN3 : Hid (t < (L.getD (p'.getD m 0) []).length) := hn3
              have HX : Hid ((rowsOf L p').getD m [] = L.getD (p'.getD m 0) []) := eX
              obtain ⟨y1, hy1⟩ : ∃ y, keyOf L (t : Int) m = y := ⟨_, rfl⟩
              obtain ⟨y2, hy2⟩ : ∃ y, keyOf L (t : Int) (p'.getD m 0) = y := ⟨_, rfl⟩
              obtain ⟨h1, _⟩ := R0.look m hlt3
              obtain ⟨h2, _⟩ := R0.look i hlt2
              obtain ⟨h3, _⟩ := X0.look m (by rw [hpl]; exact hlt3)
              obtain ⟨a1, a2, a3, a4⟩ := R0.lookIn m hlt3 t y1 hn1 (by rw [← hy1]; unfold keyOf; rw [Int.toNat_natCast])
              obtain ⟨b1, b2, b3, b4⟩ := R0.lookIn i hlt2 t x hn2 (by rw [← hxk]; unfold keyOf; rw [Int.toNat_natCast])
              obtain ⟨d1, d2, d3, d4⟩ := X0.lookIn m (by rw [hpl]; exact hlt3) t y2 (by rw [eX]; exact hn3) (by rw [eX, ← hy2]; unfold keyOf; rw [Int.toNat_natCast])
              have HY2 : Hid ((L.getD (p'.getD m 0) []).getD t (0, 0, ⟨#[]⟩) = y2) := by rw [← hy2]; unfold keyOf; rw [Int.toNat_natCast]; rfl
              have HY0 : Hid ((L.getD i []).getD t (0, 0, ⟨#[]⟩) = x) := by rw [← hxk]; unfold keyOf; rw [Int.toNat_natCast]; rfl
              have HD2 : Hid (headOf G C L i = .slice (some ⟨G i, 0, none⟩) (L.getD i []).length (C i)) := rfl
              have HD1 : Hid (headOf G C L m = .slice (some ⟨G m, 0, none⟩) (L.getD m []).length (C m)) := rfl
              have HD3 : Hid (headOf GX CX (rowsOf L p') m = .slice (some ⟨GX m, 0, none⟩) (L.getD (p'.getD m 0) []).length (CX m)) := by unfold headOf; rw [eX]; rfl
              rw [HD1.out] at h1
              rw [HD2.out] at h2
              rw [HD3.out] at h3
              clear R0 X0 eX
              obtain ⟨z1, hy11⟩ : ∃ z, (L.getD m []).length = z := ⟨_, rfl⟩
              obtain ⟨z2, hy12⟩ : ∃ z, (L.getD i []).length = z := ⟨_, rfl⟩
              obtain ⟨z3, hy13⟩ : ∃ z, (L.getD (p'.getD m 0) []).length = z := ⟨_, rfl⟩
              rw [hy11] at hn1 h1 HD1
              rw [hy12] at hn2 h2 HD2
              rw [hy13] at hn3 h3 HD3
              clear hy11 hy12 hy13
              have j1 : (t : Int) < (z1 : Int) := by omega
              have j2 : (t : Int) < (z2 : Int) := by omega
              have j3 : (t : Int) < (z3 : Int) := by omega
              obtain ⟨e1, he1⟩ : ∃ e, alikeTo L (t : Int) x m = e := ⟨_, rfl⟩
              obtain ⟨e2, he2⟩ : ∃ e, alikeTo L (t : Int) x (p'.getD m 0) = e := ⟨_, rfl⟩
              have hq1 : ∀ w, (binOp .eql 25 (.agg #[.int .i64 y1.1, .int .i64 y1.2.1, .string y1.2.2]) (.agg #[.int .i64 x.1, .int .i64 x.2.1, .string x.2.2])).run Try.prog w = .ok (.bool e1) w := fun w => by rw [run_eql, ← he1]; unfold alikeTo; rw [hy1]
              have hq2 : ∀ w, (binOp .eql 25 (.agg #[.int .i64 y2.1, .int .i64 y2.2.1, .string y2.2.2]) (.agg #[.int .i64 x.1, .int .i64 x.2.1, .string x.2.2])).run Try.prog w = .ok (.bool e2) w := fun w => by rw [run_eql, ← he2]; unfold alikeTo; rw [hy2]
              go_wp2_with fail
              go_quiet (fail)
              have hb6 : Below w4.heap.size w4 (wr.drewN nq) := belowN hb5 nq
              have T6 : Hid (Two (wr.drewN nq) w4.heap.size _ _ (((List.range m).filter (alikeTo L (t : Int) x)).map (headOf G C L)) (((List.range m).filter (fun j => alikeTo L (t : Int) x (p'.getD j 0))).map (headOf GX CX (rowsOf L p')))) := hT.out.below (belowN (Below.refl _ _) nq)
              clear h1 h2 h3 a1 a2 a3 a4 b1 b2 b3 b4 d1 d2 d3 d4 hq1 hT hb5
              generalize wr.drewN nq = W at hb6 T6 ⊢
              obtain ⟨h1, _⟩ := (OR4.out.below hb6).look m hlt3
              rw [HD1.out] at h1
              have hf1 : Hid (((List.range (m + 1)).filter (alikeTo L (t : Int) x)).map (headOf G C L) = ((List.range m).filter (alikeTo L (t : Int) x)).map (headOf G C L) ++ (if alikeTo L (t : Int) x m = true then [headOf G C L m] else [])) := by
                rw [List.range_succ, List.filter_append, List.map_append]
                congr 1
                by_cases h : alikeTo L (t : Int) x m = true <;> simp [h]
              cases e1
              case' true =>
                rw [he1, if_pos rfl, HD1.out] at hf1
                have hfl : ((((List.range m).filter (alikeTo L (t : Int) x)).map (headOf G C L))).length ≤ 7 := by
                  rw [List.length_map]
                  exact Nat.le_trans (List.length_filter_le _ _) (by simp; omega)
                have TA := T6.out.below ((Below.refl _ _).alloc (Nat.le_refl _) (.cells #[.slice (some ⟨G m, 0, none⟩) z1 (C m)] 33))
                go_wp2_with (at_builtin; refine wpList_append_own_at _ rfl _ _ 38 rfl w4.heap.size 33 i0 (.slice none 0 0) 1 24 Try.underlying38 hti hz0 hz1 hz2 rfl (by decide) _ _ _ rfl TA.own1 ⟨W.heap.size, 0, none⟩ 1 1 [.slice (some ⟨G m, 0, none⟩) z1 (C m)] rfl rfl (cells1w W _ _) (by intro u hu; simp at hu; subst hu; rfl) (by unfold maxLen; omega) (by omega) (by have := hb6.size; simp; omega) ?_)
                intro v1 w6 own6 hgrow hnn hat6
                have T7 := TA.grow1 (by rw [List.length_map]; exact own6) hgrow (by simpa using hat6) hnn
                rw [← hf1.out] at T7
                have hb7 : Below w4.heap.size w4 w6 := (hb6.alloc hb6.size _).grown hgrow (by have := hb6.size; simp; omega) (fun k hk => (TA.own1.lt k hk).1)
                have T8 : Hid (Two w6 w4.heap.size _ _ (((List.range (m + 1)).filter (alikeTo L (t : Int) x)).map (headOf G C L)) (((List.range m).filter (fun j => alikeTo L (t : Int) x (p'.getD j 0))).map (headOf GX CX (rowsOf L p')))) := T7
                clear T7 TA own6 hgrow hnn hat6 T6 hb6 h1 hf1 hfl he1
              case' false =>
                rw [if_neg (by rw [he1]; decide), List.append_nil] at hf1
                have T7 := T6.out
                rw [← hf1.out] at T7
                have T8 : Hid (Two W w4.heap.size _ _ (((List.range (m + 1)).filter (alikeTo L (t : Int) x)).map (headOf G C L)) (((List.range m).filter (fun j => alikeTo L (t : Int) x (p'.getD j 0))).map (headOf GX CX (rowsOf L p')))) := T7
                have hb7 := hb6
                clear T7 T6 hb6 h1 hf1 he1
                generalize W = w6 at T8 hb7 ⊢
              all_goals
                have R6 := OR4.out.below hb7
                have X6 := OX.out.below hb7
                obtain ⟨h2, _⟩ := R6.look i hlt2
                rw [HD2.out] at h2
                obtain ⟨h3, _⟩ := X6.look m (by rw [hpl]; exact hlt3)
                rw [HD3.out] at h3
                obtain ⟨b1, b2, b3, b4⟩ := R6.lookIn i hlt2 t x HN2.out HY0.out
                obtain ⟨d1, d2, d3, d4⟩ := X6.lookIn m (by rw [hpl]; exact hlt3) t y2 (by rw [HX.out]; exact HN3.out) (by rw [HX.out]; exact HY2.out)
                clear R6 X6
                go_wp2_with fail
                go_quiet (fail)
                have hb8 : Below w4.heap.size w4 (w6.drewN nq) := belowN hb7 nq
                have T9 : Hid (Two (w6.drewN nq) w4.heap.size _ _ (((List.range (m + 1)).filter (alikeTo L (t : Int) x)).map (headOf G C L)) (((List.range m).filter (fun j => alikeTo L (t : Int) x (p'.getD j 0))).map (headOf GX CX (rowsOf L p')))) := T8.out.below (belowN (Below.refl _ _) nq)
                clear h2 h3 b1 b2 b3 b4 d1 d2 d3 d4 hq2 T8 hb7
                generalize w6.drewN nq = W8 at hb8 T9 ⊢
                obtain ⟨h3, _⟩ := (OX.out.below hb8).look m (by rw [hpl]; exact hlt3)
                rw [HD3.out] at h3
                have hf2 : Hid (((List.range (m + 1)).filter (fun j => alikeTo L (t : Int) x (p'.getD j 0))).map (headOf GX CX (rowsOf L p')) = ((List.range m).filter (fun j => alikeTo L (t : Int) x (p'.getD j 0))).map (headOf GX CX (rowsOf L p')) ++ (if alikeTo L (t : Int) x (p'.getD m 0) = true then [headOf GX CX (rowsOf L p') m] else [])) := by
                  rw [List.range_succ, List.filter_append, List.map_append]
                  congr 1
                  by_cases h : alikeTo L (t : Int) x (p'.getD m 0) = true
                  · rw [if_pos h, List.filter_cons_of_pos (by simpa using h)]; rfl
                  · rw [if_neg h, List.filter_cons_of_neg (by simpa using h)]; rfl
                cases e2
              all_goals try
                (rw [if_neg (by rw [he2]; decide), List.append_nil] at hf2
                 have T10 := T9.out
                 rw [← hf2.out] at T10
                 have T11 : Hid (Two W8 w4.heap.size _ _ (((List.range (m + 1)).filter (alikeTo L (t : Int) x)).map (headOf G C L)) (((List.range (m + 1)).filter (fun j => alikeTo L (t : Int) x (p'.getD j 0))).map (headOf GX CX (rowsOf L p')))) := T10
                 clear T10 T9 hf2 h3
                 go_wp2
                 go_roundw
                 case rel => exact ⟨m + 1, by omega, by go_num, T11.out, hb8⟩
                 case measure => simp [intOf]; omega)
              all_goals
                rw [he2, if_pos rfl, HD3.out] at hf2
                have hfl : ((((List.range m).filter (fun j => alikeTo L (t : Int) x (p'.getD j 0))).map (headOf GX CX (rowsOf L p')))).length ≤ 7 := by
                  rw [List.length_map]
                  exact Nat.le_trans (List.length_filter_le _ _) (by simp; omega)
                have TA := T9.out.below ((Below.refl _ _).alloc (Nat.le_refl _) (.cells #[.slice (some ⟨GX m, 0, none⟩) z3 (CX m)] 33))
                go_wp2_with (at_builtin; refine wpList_append_own_at _ rfl _ _ 38 rfl w4.heap.size 33 i0 (.slice none 0 0) 1 24 Try.underlying38 hti hz0 hz1 hz2 rfl (by decide) _ _ _ rfl TA.own2 ⟨W8.heap.size, 0, none⟩ 1 1 [.slice (some ⟨GX m, 0, none⟩) z3 (CX m)] rfl rfl (cells1w W8 _ _) (by intro u hu; simp at hu; subst hu; rfl) (by unfold maxLen; omega) (by omega) (by have := hb8.size; simp; omega) ?_)
                intro v2 w9 own9 hgrow hnn hat9
                have T10 := TA.grow2 (by rw [List.length_map]; exact own9) hgrow (by simpa using hat9) hnn
                rw [← hf2.out] at T10
                have hb9 : Below w4.heap.size w4 w9 := (hb8.alloc hb8.size _).grown hgrow (by have := hb8.size; simp; omega) (fun k hk => (TA.own2.lt k hk).1)
                have T11 : Hid (Two w9 w4.heap.size _ _ (((List.range (m + 1)).filter (alikeTo L (t : Int) x)).map (headOf G C L)) (((List.range (m + 1)).filter (fun j => alikeTo L (t : Int) x (p'.getD j 0))).map (headOf GX CX (rowsOf L p')))) := T10
                clear T10 TA own9 hgrow hnn hat9 T9 hb8 h3 hf2 hfl he2
                go_wp2
                go_roundw
                case rel => exact ⟨m + 1, by omega, by go_num, T11.out, hb9⟩
                case measure => simp [intOf]; omega
            · have hm1 : ¬ (m : Int) < (L.length : Int) := by omega
              have hml : m = L.length := by omega
              subst hml
              have R9 := OR4.out.below hb5
              have X9 := OX.out.below hb5
              have hTT := hT.out
              have hppl : p'.length = L.length := by simpa using hper.length_eq
              obtain ⟨js1, hj1⟩ : ∃ js, (List.range L.length).filter (alikeTo L (t : Int) x) = js := ⟨_, rfl⟩
              obtain ⟨js2, hj2⟩ : ∃ js, (List.range L.length).filter (fun j => alikeTo L (t : Int) x (p'.getD j 0)) = js := ⟨_, rfl⟩
              rw [hj1, hj2] at hTT
              obtain ⟨g1, c1, rfl⟩ := own_any hTT.own1 hTT.some1
              obtain ⟨g2, c2, rfl⟩ := own_any hTT.own2 hTT.some2
              have e12 : js2.map (fun j => p'.getD j 0) = js1 := by
                rw [← hj2, filter_places p' L.length hppl, ← hj1]
                exact ORD.out.alike hReach.out _ x (fun q hq => alikeTo_eq hq)
              have hl12 : js2.length = js1.length := by rw [← e12, List.length_map]
              have o1 := hTT.own1
              have o2 := hTT.own2
              rw [List.length_map] at o1 o2
              have RS0 := heads_read o1 R9 (fun j hj => by rw [← hj1] at hj; simpa using (List.mem_filter.1 hj).1) hF.out hM.out
              have RO0 := heads_read o2 X9 (fun j hj => by rw [← hj2] at hj; rw [hpl]; simpa using (List.mem_filter.1 hj).1) (rowsOf_each (P := fun l => Fit l) hper hF.out) (rowsOf_each (P := fun l => l.length ≤ maxLen) hper hM.out)
              have eR : js2.map (fun j => (rowsOf L p').getD j []) = js1.map (fun j => L.getD j []) := by
                rw [← e12, List.map_map]
                refine List.map_congr_left fun j hj => ?_
                rw [← hj2] at hj
                have : j < L.length := by simpa using (List.mem_filter.1 hj).1
                exact rowsOf_getD _ _ _ (by omega)
              rw [eR] at RO0
              have hnM : js1.length ≤ maxLen := by
                have : js1.length ≤ L.length := by rw [← hj1]; exact Nat.le_trans (List.length_filter_le _ _) (by simp)
                omega
              have hnl0 : (js1.map (fun j => L.getD j [])).length = js1.length := List.length_map _
              simp only [List.length_map, hl12]
              generalize js1.length = n at hnM hnl0 ⊢
              generalize js1.map (fun j => L.getD j []) = M at hnl0 RS0 RO0
              have hnl : Hid (M.length = n) := hnl0
              have RS : Hid (RowsAt wr (some ⟨g1, 0, none⟩) M) := RS0
              have RO : Hid (RowsAt wr (some ⟨g2, 0, none⟩) M) := RO0
              have hgx : gx < wr.heap.size := World.block_lt_of_cell? wr _ (X9.look i (by rw [hpl]; exact hlt2)).1
              clear RS0 RO0 hnl0 o1 o2 eR e12 hl12 hj1 hj2 hTT hT R9
              by_cases hi00 : i = 0
              · subst hi00
                go_wp2_with fail
                go_cut [166] (fun s166 wc => s166 = .bool false ∧ Below wr.heap.size wr wc)
                case first =>
                  as_aux_lemma =>
                    refine wp_region_held_drew (S := (fun _ => True)) (by kernel_rfl) trivial (fun hHeld => ?_)
                    refine wpAnyH_take (i := 0) (by simp only [List.getElem?_toArray, List.getElem?_cons_zero]; rfl) (by kernel_rfl) (by kernel_rfl) (by kernel_rfl) (by intro _ _ _ h; exact h) (Or.inl ⟨by rfl, fun w hSw => by (dsimp only at hSw; go_simp; (try with_reducible rfl))⟩) (by assumption) ?_
                    simp only [Act.put, List.setIfInBounds_toArray, List.set_cons_zero, List.set_cons_succ]
                    refine wpAnyH_take (i := 1) (by simp only [List.getElem?_toArray, List.getElem?_cons_zero, List.getElem?_cons_succ]; rfl) (by kernel_rfl) (by kernel_rfl) (by kernel_rfl) (by intro _ _ _ h; exact h) (Or.inl ⟨by rfl, fun w hSw => by (dsimp only at hSw; go_simp; (try with_reducible rfl))⟩) (by assumption) ?_
                    simp only [Act.put, List.setIfInBounds_toArray, List.set_cons_zero, List.set_cons_succ]
                    refine wpAnyH_ready (rs := [2]) (by kernel_rfl) (by simp) ?_
                    refine AllReadyH.cons (by simp only [List.getElem?_toArray, List.getElem?_cons_zero, List.getElem?_cons_succ]; rfl) ?_ AllReadyH.nil
                    intro K hK
                    go_simp
                    refine (like_rowsN n _ _ _ _ _ hnl _ (RS.out.below (Below.refl wr.heap.size wr).drew) (RO.out.below (Below.refl wr.heap.size wr).drew) hnM).mono ?_
                    rintro e wa ⟨rfl, hbA⟩
                    obtain ⟨hca, hfa⟩ := bcell hbA
                    have hza := hbA.size
                    try simp at hza
                    have hxa : Below wr.heap.size wr wa := undrew hbA
                    have yg : gx < wa.heap.size := by omega
                    go_wp2_with fail
                    refine hK.out _ _ ?_ (fun hHeld => ?_)
                    · trivial
                    clear hK K
                    try simp only [Act.put, List.setIfInBounds_toArray, List.set_cons_zero, List.set_cons_succ]
                    refine wpAnyH_take (i := 3) (by simp only [List.getElem?_toArray, List.getElem?_cons_zero, List.getElem?_cons_succ]; rfl) (by kernel_rfl) (by kernel_rfl) (by kernel_rfl) (by intro _ _ _ h; exact h) (Or.inl ⟨by rfl, fun w hSw => by (dsimp only at hSw; go_simp; (try with_reducible rfl))⟩) (by assumption) ?_
                    simp only [Act.put, List.setIfInBounds_toArray, List.set_cons_zero, List.set_cons_succ]
                    refine wpAnyH_take (i := 4) (by simp only [List.getElem?_toArray, List.getElem?_cons_zero, List.getElem?_cons_succ]; rfl) (by kernel_rfl) (by kernel_rfl) (by kernel_rfl) (by intro _ _ _ h; exact h) (Or.inl ⟨by rfl, fun w hSw => by (dsimp only at hSw; go_simp; (try with_reducible rfl))⟩) (by assumption) ?_
                    simp only [Act.put, List.setIfInBounds_toArray, List.set_cons_zero, List.set_cons_succ]
                    refine wpAnyH_take (i := 5) (by simp only [List.getElem?_toArray, List.getElem?_cons_zero, List.getElem?_cons_succ]; rfl) (by kernel_rfl) (by kernel_rfl) (by kernel_rfl) (by intro _ _ _ h; exact h) (Or.inl ⟨by rfl, fun w hSw => by (dsimp only at hSw; go_simp; (try with_reducible rfl))⟩) (by assumption) ?_
                    simp only [Act.put, List.setIfInBounds_toArray, List.set_cons_zero, List.set_cons_succ]
                    refine wpAnyH_take (i := 6) (by simp only [List.getElem?_toArray, List.getElem?_cons_zero, List.getElem?_cons_succ]; rfl) (by kernel_rfl) (by kernel_rfl) (by kernel_rfl) (by intro _ _ _ h; exact h) (Or.inl ⟨by rfl, fun w hSw => by (dsimp only at hSw; go_simp; (try with_reducible rfl))⟩) (by assumption) ?_
                    simp only [Act.put, List.setIfInBounds_toArray, List.set_cons_zero, List.set_cons_succ]
                    refine wpAnyH_take (i := 7) (by simp only [List.getElem?_toArray, List.getElem?_cons_zero, List.getElem?_cons_succ]; rfl) (by kernel_rfl) (by kernel_rfl) (by kernel_rfl) (by intro _ _ _ h; exact h) (Or.inl ⟨by rfl, fun w hSw => by (dsimp only at hSw; go_simp; (try with_reducible rfl))⟩) (by assumption) ?_
                    simp only [Act.put, List.setIfInBounds_toArray, List.set_cons_zero, List.set_cons_succ]
                    refine wpAnyH_take (i := 8) (v := undef) (by simp only [List.getElem?_toArray, List.getElem?_cons_zero, List.getElem?_cons_succ]; rfl) (by kernel_rfl) (by kernel_rfl) (by kernel_rfl) (by intro _ _ _ h; exact h) (Or.inr ⟨by rfl, rfl⟩) (by assumption) ?_
                    simp only [Act.put, List.setIfInBounds_toArray, List.set_cons_zero, List.set_cons_succ]
                    refine wpAnyH_take (i := 9) (v := undef) (by simp only [List.getElem?_toArray, List.getElem?_cons_zero, List.getElem?_cons_succ]; rfl) (by kernel_rfl) (by kernel_rfl) (by kernel_rfl) (by intro _ _ _ h; exact h) (Or.inr ⟨by rfl, rfl⟩) (by assumption) ?_
                    simp only [Act.put, List.setIfInBounds_toArray, List.set_cons_zero, List.set_cons_succ]
                    refine wpAnyH_take (i := 10) (v := undef) (by simp only [List.getElem?_toArray, List.getElem?_cons_zero, List.getElem?_cons_succ]; rfl) (by kernel_rfl) (by kernel_rfl) (by kernel_rfl) (by intro _ _ _ h; exact h) (Or.inr ⟨by rfl, rfl⟩) (by assumption) ?_
                    simp only [Act.put, List.setIfInBounds_toArray, List.set_cons_zero, List.set_cons_succ]
                    refine wpAnyH_take (i := 11) (v := undef) (by simp only [List.getElem?_toArray, List.getElem?_cons_zero, List.getElem?_cons_succ]; rfl) (by kernel_rfl) (by kernel_rfl) (by kernel_rfl) (by intro _ _ _ h; exact h) (Or.inr ⟨by rfl, rfl⟩) (by assumption) ?_
                    simp only [Act.put, List.setIfInBounds_toArray, List.set_cons_zero, List.set_cons_succ]
                    refine wpAnyH_take (i := 12) (v := undef) (by simp only [List.getElem?_toArray, List.getElem?_cons_zero, List.getElem?_cons_succ]; rfl) (by kernel_rfl) (by kernel_rfl) (by kernel_rfl) (by intro _ _ _ h; exact h) (Or.inr ⟨by rfl, rfl⟩) (by assumption) ?_
                    simp only [Act.put, List.setIfInBounds_toArray, List.set_cons_zero, List.set_cons_succ]
                    refine wpAnyH_take (i := 13) (v := undef) (by simp only [List.getElem?_toArray, List.getElem?_cons_zero, List.getElem?_cons_succ]; rfl) (by kernel_rfl) (by kernel_rfl) (by kernel_rfl) (by intro _ _ _ h; exact h) (Or.inr ⟨by rfl, rfl⟩) (by assumption) ?_
                    simp only [Act.put, List.setIfInBounds_toArray, List.set_cons_zero, List.set_cons_succ]
                    refine wpAnyH_take (i := 14) (v := undef) (by simp only [List.getElem?_toArray, List.getElem?_cons_zero, List.getElem?_cons_succ]; rfl) (by kernel_rfl) (by kernel_rfl) (by kernel_rfl) (by intro _ _ _ h; exact h) (Or.inr ⟨by rfl, rfl⟩) (by assumption) ?_
                    simp only [Act.put, List.setIfInBounds_toArray, List.set_cons_zero, List.set_cons_succ]
                    refine wpAnyH_take (i := 15) (v := undef) (by simp only [List.getElem?_toArray, List.getElem?_cons_zero, List.getElem?_cons_succ]; rfl) (by kernel_rfl) (by kernel_rfl) (by kernel_rfl) (by intro _ _ _ h; exact h) (Or.inr ⟨by rfl, rfl⟩) (by assumption) ?_
                    simp only [Act.put, List.setIfInBounds_toArray, List.set_cons_zero, List.set_cons_succ]
                    refine wpAnyH_take (i := 16) (v := undef) (by simp only [List.getElem?_toArray, List.getElem?_cons_zero, List.getElem?_cons_succ]; rfl) (by kernel_rfl) (by kernel_rfl) (by kernel_rfl) (by intro _ _ _ h; exact h) (Or.inr ⟨by rfl, rfl⟩) (by assumption) ?_
                    simp only [Act.put, List.setIfInBounds_toArray, List.set_cons_zero, List.set_cons_succ]
                    refine wpAnyH_take (i := 17) (v := undef) (by simp only [List.getElem?_toArray, List.getElem?_cons_zero, List.getElem?_cons_succ]; rfl) (by kernel_rfl) (by kernel_rfl) (by kernel_rfl) (by intro _ _ _ h; exact h) (Or.inr ⟨by rfl, rfl⟩) (by assumption) ?_
                    simp only [Act.put, List.setIfInBounds_toArray, List.set_cons_zero, List.set_cons_succ]
                    refine wpAnyH_take (i := 18) (v := undef) (by simp only [List.getElem?_toArray, List.getElem?_cons_zero, List.getElem?_cons_succ]; rfl) (by kernel_rfl) (by kernel_rfl) (by kernel_rfl) (by intro _ _ _ h; exact h) (Or.inr ⟨by rfl, rfl⟩) (by assumption) ?_
                    simp only [Act.put, List.setIfInBounds_toArray, List.set_cons_zero, List.set_cons_succ]
                    refine wpAnyH_take (i := 19) (v := undef) (by simp only [List.getElem?_toArray, List.getElem?_cons_zero, List.getElem?_cons_succ]; rfl) (by kernel_rfl) (by kernel_rfl) (by kernel_rfl) (by intro _ _ _ h; exact h) (Or.inr ⟨by rfl, rfl⟩) (by assumption) ?_
                    simp only [Act.put, List.setIfInBounds_toArray, List.set_cons_zero, List.set_cons_succ]
                    refine wpAnyH_take (i := 20) (v := undef) (by simp only [List.getElem?_toArray, List.getElem?_cons_zero, List.getElem?_cons_succ]; rfl) (by kernel_rfl) (by kernel_rfl) (by kernel_rfl) (by intro _ _ _ h; exact h) (Or.inr ⟨by rfl, rfl⟩) (by assumption) ?_
                    simp only [Act.put, List.setIfInBounds_toArray, List.set_cons_zero, List.set_cons_succ]
                    refine wpAnyH_take (i := 21) (v := undef) (by simp only [List.getElem?_toArray, List.getElem?_cons_zero, List.getElem?_cons_succ]; rfl) (by kernel_rfl) (by kernel_rfl) (by kernel_rfl) (by intro _ _ _ h; exact h) (Or.inr ⟨by rfl, rfl⟩) (by assumption) ?_
                    simp only [Act.put, List.setIfInBounds_toArray, List.set_cons_zero, List.set_cons_succ]
                    refine wpAnyH_take (i := 22) (v := undef) (by simp only [List.getElem?_toArray, List.getElem?_cons_zero, List.getElem?_cons_succ]; rfl) (by kernel_rfl) (by kernel_rfl) (by kernel_rfl) (by intro _ _ _ h; exact h) (Or.inr ⟨by rfl, rfl⟩) (by assumption) ?_
                    simp only [Act.put, List.setIfInBounds_toArray, List.set_cons_zero, List.set_cons_succ]
                    refine wpAnyH_take (i := 23) (v := undef) (by simp only [List.getElem?_toArray, List.getElem?_cons_zero, List.getElem?_cons_succ]; rfl) (by kernel_rfl) (by kernel_rfl) (by kernel_rfl) (by intro _ _ _ h; exact h) (Or.inr ⟨by rfl, rfl⟩) (by assumption) ?_
                    simp only [Act.put, List.setIfInBounds_toArray, List.set_cons_zero, List.set_cons_succ]
                    refine wpAnyH_take (i := 24) (v := undef) (by simp only [List.getElem?_toArray, List.getElem?_cons_zero, List.getElem?_cons_succ]; rfl) (by kernel_rfl) (by kernel_rfl) (by kernel_rfl) (by intro _ _ _ h; exact h) (Or.inr ⟨by rfl, rfl⟩) (by assumption) ?_
                    simp only [Act.put, List.setIfInBounds_toArray, List.set_cons_zero, List.set_cons_succ]
                    refine wpAnyH_take (i := 25) (v := undef) (by simp only [List.getElem?_toArray, List.getElem?_cons_zero, List.getElem?_cons_succ]; rfl) (by kernel_rfl) (by kernel_rfl) (by kernel_rfl) (by intro _ _ _ h; exact h) (Or.inr ⟨by rfl, rfl⟩) (by assumption) ?_
                    simp only [Act.put, List.setIfInBounds_toArray, List.set_cons_zero, List.set_cons_succ]
                    refine wpAnyH_take (i := 26) (v := undef) (by simp only [List.getElem?_toArray, List.getElem?_cons_zero, List.getElem?_cons_succ]; rfl) (by kernel_rfl) (by kernel_rfl) (by kernel_rfl) (by intro _ _ _ h; exact h) (Or.inr ⟨by rfl, rfl⟩) (by assumption) ?_
                    simp only [Act.put, List.setIfInBounds_toArray, List.set_cons_zero, List.set_cons_succ]
                    refine wpAnyH_take (i := 27) (v := undef) (by simp only [List.getElem?_toArray, List.getElem?_cons_zero, List.getElem?_cons_succ]; rfl) (by kernel_rfl) (by kernel_rfl) (by kernel_rfl) (by intro _ _ _ h; exact h) (Or.inr ⟨by rfl, rfl⟩) (by assumption) ?_
                    simp only [Act.put, List.setIfInBounds_toArray, List.set_cons_zero, List.set_cons_succ]
                    refine wpAnyH_take (i := 28) (v := undef) (by simp only [List.getElem?_toArray, List.getElem?_cons_zero, List.getElem?_cons_succ]; rfl) (by kernel_rfl) (by kernel_rfl) (by kernel_rfl) (by intro _ _ _ h; exact h) (Or.inr ⟨by rfl, rfl⟩) (by assumption) ?_
                    simp only [Act.put, List.setIfInBounds_toArray, List.set_cons_zero, List.set_cons_succ]
                    refine wpAnyH_take (i := 29) (v := undef) (by simp only [List.getElem?_toArray, List.getElem?_cons_zero, List.getElem?_cons_succ]; rfl) (by kernel_rfl) (by kernel_rfl) (by kernel_rfl) (by intro _ _ _ h; exact h) (Or.inr ⟨by rfl, rfl⟩) (by assumption) ?_
                    simp only [Act.put, List.setIfInBounds_toArray, List.set_cons_zero, List.set_cons_succ]
                    refine wpAnyH_take (i := 30) (v := undef) (by simp only [List.getElem?_toArray, List.getElem?_cons_zero, List.getElem?_cons_succ]; rfl) (by kernel_rfl) (by kernel_rfl) (by kernel_rfl) (by intro _ _ _ h; exact h) (Or.inr ⟨by rfl, rfl⟩) (by assumption) ?_
                    simp only [Act.put, List.setIfInBounds_toArray, List.set_cons_zero, List.set_cons_succ]
                    refine wpAnyH_take (i := 31) (v := undef) (by simp only [List.getElem?_toArray, List.getElem?_cons_zero, List.getElem?_cons_succ]; rfl) (by kernel_rfl) (by kernel_rfl) (by kernel_rfl) (by intro _ _ _ h; exact h) (Or.inr ⟨by rfl, rfl⟩) (by assumption) ?_
                    simp only [Act.put, List.setIfInBounds_toArray, List.set_cons_zero, List.set_cons_succ]
                    refine wpAnyH_take (i := 32) (v := undef) (by simp only [List.getElem?_toArray, List.getElem?_cons_zero, List.getElem?_cons_succ]; rfl) (by kernel_rfl) (by kernel_rfl) (by kernel_rfl) (by intro _ _ _ h; exact h) (Or.inr ⟨by rfl, rfl⟩) (by assumption) ?_
                    simp only [Act.put, List.setIfInBounds_toArray, List.set_cons_zero, List.set_cons_succ]
                    refine wpAnyH_take (i := 33) (v := undef) (by simp only [List.getElem?_toArray, List.getElem?_cons_zero, List.getElem?_cons_succ]; rfl) (by kernel_rfl) (by kernel_rfl) (by kernel_rfl) (by intro _ _ _ h; exact h) (Or.inr ⟨by rfl, rfl⟩) (by assumption) ?_
                    simp only [Act.put, List.setIfInBounds_toArray, List.set_cons_zero, List.set_cons_succ]
                    refine wpAnyH_take (i := 34) (v := undef) (by simp only [List.getElem?_toArray, List.getElem?_cons_zero, List.getElem?_cons_succ]; rfl) (by kernel_rfl) (by kernel_rfl) (by kernel_rfl) (by intro _ _ _ h; exact h) (Or.inr ⟨by rfl, rfl⟩) (by assumption) ?_
                    simp only [Act.put, List.setIfInBounds_toArray, List.set_cons_zero, List.set_cons_succ]
                    refine wpAnyH_take (i := 35) (v := undef) (by simp only [List.getElem?_toArray, List.getElem?_cons_zero, List.getElem?_cons_succ]; rfl) (by kernel_rfl) (by kernel_rfl) (by kernel_rfl) (by intro _ _ _ h; exact h) (Or.inr ⟨by rfl, rfl⟩) (by assumption) ?_
                    simp only [Act.put, List.setIfInBounds_toArray, List.set_cons_zero, List.set_cons_succ]
                    refine wpAnyH_take (i := 36) (v := undef) (by simp only [List.getElem?_toArray, List.getElem?_cons_zero, List.getElem?_cons_succ]; rfl) (by kernel_rfl) (by kernel_rfl) (by kernel_rfl) (by intro _ _ _ h; exact h) (Or.inr ⟨by rfl, rfl⟩) (by assumption) ?_
                    simp only [Act.put, List.setIfInBounds_toArray, List.set_cons_zero, List.set_cons_succ]
                    refine wpAnyH_take (i := 37) (v := undef) (by simp only [List.getElem?_toArray, List.getElem?_cons_zero, List.getElem?_cons_succ]; rfl) (by kernel_rfl) (by kernel_rfl) (by kernel_rfl) (by intro _ _ _ h; exact h) (Or.inr ⟨by rfl, rfl⟩) (by assumption) ?_
                    simp only [Act.put, List.setIfInBounds_toArray, List.set_cons_zero, List.set_cons_succ]
                    refine wpAnyH_take (i := 38) (v := undef) (by simp only [List.getElem?_toArray, List.getElem?_cons_zero, List.getElem?_cons_succ]; rfl) (by kernel_rfl) (by kernel_rfl) (by kernel_rfl) (by intro _ _ _ h; exact h) (Or.inr ⟨by rfl, rfl⟩) (by assumption) ?_
                    simp only [Act.put, List.setIfInBounds_toArray, List.set_cons_zero, List.set_cons_succ]
                    refine wpAnyH_take (i := 39) (v := undef) (by simp only [List.getElem?_toArray, List.getElem?_cons_zero, List.getElem?_cons_succ]; rfl) (by kernel_rfl) (by kernel_rfl) (by kernel_rfl) (by intro _ _ _ h; exact h) (Or.inr ⟨by rfl, rfl⟩) (by assumption) ?_
                    simp only [Act.put, List.setIfInBounds_toArray, List.set_cons_zero, List.set_cons_succ]
                    refine wpAnyH_take (i := 40) (v := undef) (by simp only [List.getElem?_toArray, List.getElem?_cons_zero, List.getElem?_cons_succ]; rfl) (by kernel_rfl) (by kernel_rfl) (by kernel_rfl) (by intro _ _ _ h; exact h) (Or.inr ⟨by rfl, rfl⟩) (by assumption) ?_
                    simp only [Act.put, List.setIfInBounds_toArray, List.set_cons_zero, List.set_cons_succ]
                    refine wpAnyH_take (i := 41) (v := undef) (by simp only [List.getElem?_toArray, List.getElem?_cons_zero, List.getElem?_cons_succ]; rfl) (by kernel_rfl) (by kernel_rfl) (by kernel_rfl) (by intro _ _ _ h; exact h) (Or.inr ⟨by rfl, rfl⟩) (by assumption) ?_
                    simp only [Act.put, List.setIfInBounds_toArray, List.set_cons_zero, List.set_cons_succ]
                    refine wpAnyH_take (i := 42) (v := undef) (by simp only [List.getElem?_toArray, List.getElem?_cons_zero, List.getElem?_cons_succ]; rfl) (by kernel_rfl) (by kernel_rfl) (by kernel_rfl) (by intro _ _ _ h; exact h) (Or.inr ⟨by rfl, rfl⟩) (by assumption) ?_
                    simp only [Act.put, List.setIfInBounds_toArray, List.set_cons_zero, List.set_cons_succ]
                    refine wpAnyH_take (i := 43) (v := undef) (by simp only [List.getElem?_toArray, List.getElem?_cons_zero, List.getElem?_cons_succ]; rfl) (by kernel_rfl) (by kernel_rfl) (by kernel_rfl) (by intro _ _ _ h; exact h) (Or.inr ⟨by rfl, rfl⟩) (by assumption) ?_
                    simp only [Act.put, List.setIfInBounds_toArray, List.set_cons_zero, List.set_cons_succ]
                    refine wpAnyH_take (i := 44) (v := undef) (by simp only [List.getElem?_toArray, List.getElem?_cons_zero, List.getElem?_cons_succ]; rfl) (by kernel_rfl) (by kernel_rfl) (by kernel_rfl) (by intro _ _ _ h; exact h) (Or.inr ⟨by rfl, rfl⟩) (by assumption) ?_
                    simp only [Act.put, List.setIfInBounds_toArray, List.set_cons_zero, List.set_cons_succ]
                    refine wpAnyH_take (i := 45) (v := undef) (by simp only [List.getElem?_toArray, List.getElem?_cons_zero, List.getElem?_cons_succ]; rfl) (by kernel_rfl) (by kernel_rfl) (by kernel_rfl) (by intro _ _ _ h; exact h) (Or.inr ⟨by rfl, rfl⟩) (by assumption) ?_
                    simp only [Act.put, List.setIfInBounds_toArray, List.set_cons_zero, List.set_cons_succ]
                    refine wpAnyH_take (i := 46) (v := undef) (by simp only [List.getElem?_toArray, List.getElem?_cons_zero, List.getElem?_cons_succ]; rfl) (by kernel_rfl) (by kernel_rfl) (by kernel_rfl) (by intro _ _ _ h; exact h) (Or.inr ⟨by rfl, rfl⟩) (by assumption) ?_
                    simp only [Act.put, List.setIfInBounds_toArray, List.set_cons_zero, List.set_cons_succ]
                    refine wpAnyH_take (i := 47) (v := undef) (by simp only [List.getElem?_toArray, List.getElem?_cons_zero, List.getElem?_cons_succ]; rfl) (by kernel_rfl) (by kernel_rfl) (by kernel_rfl) (by intro _ _ _ h; exact h) (Or.inr ⟨by rfl, rfl⟩) (by assumption) ?_
                    simp only [Act.put, List.setIfInBounds_toArray, List.set_cons_zero, List.set_cons_succ]
                    refine wpAnyH_take (i := 48) (v := undef) (by simp only [List.getElem?_toArray, List.getElem?_cons_zero, List.getElem?_cons_succ]; rfl) (by kernel_rfl) (by kernel_rfl) (by kernel_rfl) (by intro _ _ _ h; exact h) (Or.inr ⟨by rfl, rfl⟩) (by assumption) ?_
                    simp only [Act.put, List.setIfInBounds_toArray, List.set_cons_zero, List.set_cons_succ]
                    refine wpAnyH_take (i := 49) (by simp only [List.getElem?_toArray, List.getElem?_cons_zero, List.getElem?_cons_succ]; rfl) (by kernel_rfl) (by kernel_rfl) (by kernel_rfl) (by intro _ _ _ h; exact h) (Or.inl ⟨by rfl, fun w hSw => by (dsimp only at hSw; go_simp; (try with_reducible rfl))⟩) (by assumption) ?_
                    simp only [Act.put, List.setIfInBounds_toArray, List.set_cons_zero, List.set_cons_succ]
                    refine wpAnyH_take (i := 50) (by simp only [List.getElem?_toArray, List.getElem?_cons_zero, List.getElem?_cons_succ]; rfl) (by kernel_rfl) (by kernel_rfl) (by kernel_rfl) (by intro _ _ _ h; exact h) (Or.inl ⟨by rfl, fun w hSw => by (dsimp only at hSw; go_simp; (try with_reducible rfl))⟩) (by assumption) ?_
                    simp only [Act.put, List.setIfInBounds_toArray, List.set_cons_zero, List.set_cons_succ]
                    refine wpAnyH_done (by kernel_rfl) ?_ _
                    go_wp2_with fail
                    go_meet
                    case rel => exact ⟨rfl, hxa⟩
                case rest =>
                  obtain ⟨rfl, hb6⟩ := hcut
                  go_wp2
                  go_roundw
                  case rel => exact ⟨0 + 1, by omega, by go_num, hb5.trans (hb6.mono hb5.size)⟩
                  case measure => simp [intOf]; omega
              · go_wp2_with fail
                go_cut [166] (fun s166 wc => s166 = .bool false ∧ Below wr.heap.size wr wc)
                case first =>
                  obtain ⟨q, hq⟩ : ∃ q, i = q + 1 := ⟨i - 1, by omega⟩
                  have hi3 : (0 : Int) < (i : Int) := by omega
                  have hq2 : (i : Int) - 1 = (q : Int) := by omega
                  have hq0 : (0 : Int) ≤ (q : Int) := by omega
                  have hqw : IntKind.i64.wrap (q : Int) = (q : Int) := IntWalk.i64_in _ (by omega)
                  have hi3n : 0 < i := by omega
                  have hq1 : (q : Int) < (L.length : Int) := by omega
                  have hqL : q < L.length := by omega
                  have hi0 : (0 : Int) ≤ (i : Int) := by omega
                  have ht0 : (0 : Int) ≤ (t : Int) := by omega
                  have hside := ORD.out.side hReach.out q (by omega)
                  have hpi : p'.getD i 0 < L.length := mem_lt (fun x hx => by simpa using hper.mem_iff.1 hx) (by omega)
                  have hpq : p'.getD q 0 < L.length := mem_lt (fun x hx => by simpa using hper.mem_iff.1 hx) (by omega)
                  obtain ⟨_, hn1, _⟩ := reach_key hReach.out (p'.getD i 0) hpi
                  obtain ⟨_, hn2, _⟩ := reach_key hReach.out (p'.getD q 0) hpq
                  simp only [Int.toNat_natCast] at hn1 hn2
                  have eXi : (rowsOf L p').getD i [] = L.getD (p'.getD i 0) [] := rowsOf_getD _ _ _ (by omega)
                  have eXq : (rowsOf L p').getD q [] = L.getD (p'.getD q 0) [] := rowsOf_getD _ _ _ (by omega)
                  obtain ⟨y1, hy1⟩ : ∃ y, keyOf L (t : Int) (p'.getD i 0) = y := ⟨_, rfl⟩
                  obtain ⟨y2, hy2⟩ : ∃ y, keyOf L (t : Int) (p'.getD q 0) = y := ⟨_, rfl⟩
                  rw [← hq, hy1, hy2] at hside
                  obtain ⟨h1, _⟩ := X9.look i (by rw [hpl]; exact hlt2)
                  obtain ⟨h2, _⟩ := X9.look q (by rw [hpl]; exact hqL)
                  obtain ⟨a1, a2, a3, a4⟩ := X9.lookIn i (by rw [hpl]; exact hlt2) t y1 (by rw [eXi]; exact hn1) (by rw [eXi, ← hy1]; unfold keyOf; rw [Int.toNat_natCast])
                  obtain ⟨b1, b2, b3, b4⟩ := X9.lookIn q (by rw [hpl]; exact hqL) t y2 (by rw [eXq]; exact hn2) (by rw [eXq, ← hy2]; unfold keyOf; rw [Int.toNat_natCast])
                  unfold headOf at h1 h2
                  rw [eXi] at h1
                  rw [eXq] at h2
                  clear eXi eXq hy1 hy2
                  generalize (L.getD (p'.getD i 0) []).length = z1 at hn1 h1
                  generalize (L.getD (p'.getD q 0) []).length = z2 at hn2 h2
                  have j1 : (t : Int) < (z1 : Int) := by omega
                  have j2 : (t : Int) < (z2 : Int) := by omega
                  clear hq X9
                  cases down
                  · have hless0 : lessB y1.1 y1.2.1 y1.2.2 y2.1 y2.2.1 y2.2.2 = false := by simpa [lessC] using hside
                    have hless : Hid (lessB y1.1 y1.2.1 y1.2.2 y2.1 y2.2.1 y2.2.2 = false) := hless0
                    clear hside hless0
                    as_aux_lemma =>
                      refine wp_region_held_drew (S := (fun w' => w'.cell? ⟨gx, i, none⟩ = some (.slice (some ⟨GX i, 0, none⟩) z1 (CX i)) ∧ w'.cell? ⟨gx, q, none⟩ = some (.slice (some ⟨GX q, 0, none⟩) z2 (CX q)) ∧ w'.cell? ⟨GX i, t * 3, none⟩ = some (.int .i64 y1.1) ∧ w'.cell? ⟨GX i, t * 3 + 1, none⟩ = some (.int .i64 y1.2.1) ∧ w'.cell? ⟨GX i, t * 3 + 2, none⟩ = some (.string y1.2.2) ∧ w'.cell? ⟨GX q, t * 3, none⟩ = some (.int .i64 y2.1) ∧ w'.cell? ⟨GX q, t * 3 + 1, none⟩ = some (.int .i64 y2.2.1) ∧ w'.cell? ⟨GX q, t * 3 + 2, none⟩ = some (.string y2.2.2))) (by kernel_rfl) ?_ (fun hHeld => ?_)
                      · (((try dsimp only); (repeat' apply And.intro) <;> first | (go_keep; done) | (simp (disch := first | omega | (simp <;> omega) | fail) [*]; done) | fail))
                      refine wpAnyH_take (i := 0) (by simp only [List.getElem?_toArray, List.getElem?_cons_zero]; rfl) (by kernel_rfl) (by kernel_rfl) (by kernel_rfl) (by intro _ _ _ h; exact h) (Or.inl ⟨by rfl, fun w hSw => by (dsimp only at hSw; go_simp; (try with_reducible rfl))⟩) (by assumption) ?_
                      simp only [Act.put, List.setIfInBounds_toArray, List.set_cons_zero, List.set_cons_succ]
                      refine wpAnyH_take (i := 1) (by simp only [List.getElem?_toArray, List.getElem?_cons_zero, List.getElem?_cons_succ]; rfl) (by kernel_rfl) (by kernel_rfl) (by kernel_rfl) (by intro _ _ _ h; exact h) (Or.inl ⟨by rfl, fun w hSw => by (dsimp only at hSw; go_simp; (try with_reducible rfl))⟩) (by assumption) ?_
                      simp only [Act.put, List.setIfInBounds_toArray, List.set_cons_zero, List.set_cons_succ]
                      refine wpAnyH_ready (rs := [2]) (by kernel_rfl) (by simp) ?_
                      refine AllReadyH.cons (by simp only [List.getElem?_toArray, List.getElem?_cons_zero, List.getElem?_cons_succ]; rfl) ?_ AllReadyH.nil
                      intro K hK
                      go_simp
                      refine (like_rowsN n _ _ _ _ _ hnl _ (RS.out.below (Below.refl wr.heap.size wr).drew) (RO.out.below (Below.refl wr.heap.size wr).drew) hnM).mono ?_
                      rintro e wa ⟨rfl, hbA⟩
                      obtain ⟨hca, hfa⟩ := bcell hbA
                      have hza := hbA.size
                      try simp at hza
                      have hxa : Below wr.heap.size wr wa := undrew hbA
                      have yg : gx < wa.heap.size := by omega
                      have y0 : GX i < wa.heap.size := by omega
                      have y3 : GX q < wa.heap.size := by omega
                      go_wp2_with fail
                      refine hK.out _ _ ?_ (fun hHeld => ?_)
                      · (((try dsimp only); (repeat' apply And.intro) <;> first | (go_keep; done) | (simp (disch := first | omega | (simp <;> omega) | fail) [*]; done) | fail))
                      clear hK K
                      try simp only [Act.put, List.setIfInBounds_toArray, List.set_cons_zero, List.set_cons_succ]
                      refine wpAnyH_take (i := 3) (by simp only [List.getElem?_toArray, List.getElem?_cons_zero, List.getElem?_cons_succ]; rfl) (by kernel_rfl) (by kernel_rfl) (by kernel_rfl) (by intro _ _ _ h; exact h) (Or.inl ⟨by rfl, fun w hSw => by (dsimp only at hSw; go_simp; (try with_reducible rfl))⟩) (by assumption) ?_
                      simp only [Act.put, List.setIfInBounds_toArray, List.set_cons_zero, List.set_cons_succ]
                      refine wpAnyH_take (i := 4) (by simp only [List.getElem?_toArray, List.getElem?_cons_zero, List.getElem?_cons_succ]; rfl) (by kernel_rfl) (by kernel_rfl) (by kernel_rfl) (by intro _ _ _ h; exact h) (Or.inl ⟨by rfl, fun w hSw => by (dsimp only at hSw; go_simp; (try with_reducible rfl))⟩) (by assumption) ?_
                      simp only [Act.put, List.setIfInBounds_toArray, List.set_cons_zero, List.set_cons_succ]
                      refine wpAnyH_take (i := 5) (by simp only [List.getElem?_toArray, List.getElem?_cons_zero, List.getElem?_cons_succ]; rfl) (by kernel_rfl) (by kernel_rfl) (by kernel_rfl) (by intro _ _ _ h; exact h) (Or.inl ⟨by rfl, fun w hSw => by (dsimp only at hSw; go_simp; (try with_reducible rfl))⟩) (by assumption) ?_
                      simp only [Act.put, List.setIfInBounds_toArray, List.set_cons_zero, List.set_cons_succ]
                      refine wpAnyH_take (i := 6) (by simp only [List.getElem?_toArray, List.getElem?_cons_zero, List.getElem?_cons_succ]; rfl) (by kernel_rfl) (by kernel_rfl) (by kernel_rfl) (by intro _ _ _ h; exact h) (Or.inl ⟨by rfl, fun w hSw => by (dsimp only at hSw; go_simp; (try with_reducible rfl))⟩) (by assumption) ?_
                      simp only [Act.put, List.setIfInBounds_toArray, List.set_cons_zero, List.set_cons_succ]
                      refine wpAnyH_take (i := 7) (by simp only [List.getElem?_toArray, List.getElem?_cons_zero, List.getElem?_cons_succ]; rfl) (by kernel_rfl) (by kernel_rfl) (by kernel_rfl) (by intro _ _ _ h; exact h) (Or.inl ⟨by rfl, fun w hSw => by (dsimp only at hSw; go_simp; (try with_reducible rfl))⟩) (by assumption) ?_
                      simp only [Act.put, List.setIfInBounds_toArray, List.set_cons_zero, List.set_cons_succ]
                      refine wpAnyH_take (i := 8) (by simp only [List.getElem?_toArray, List.getElem?_cons_zero, List.getElem?_cons_succ]; rfl) (by kernel_rfl) (by kernel_rfl) (by kernel_rfl) (by intro _ _ _ h; exact h) (Or.inl ⟨by rfl, fun w hSw => by (dsimp only at hSw; go_simp; (try with_reducible rfl))⟩) (by assumption) ?_
                      simp only [Act.put, List.setIfInBounds_toArray, List.set_cons_zero, List.set_cons_succ]
                      refine wpAnyH_take (i := 9) (by simp only [List.getElem?_toArray, List.getElem?_cons_zero, List.getElem?_cons_succ]; rfl) (by kernel_rfl) (by kernel_rfl) (by kernel_rfl) (by intro _ _ _ h; exact h) (Or.inl ⟨by rfl, fun w hSw => by (dsimp only at hSw; go_simp; (try with_reducible rfl))⟩) (by assumption) ?_
                      simp only [Act.put, List.setIfInBounds_toArray, List.set_cons_zero, List.set_cons_succ]
                      refine wpAnyH_take (i := 10) (by simp only [List.getElem?_toArray, List.getElem?_cons_zero, List.getElem?_cons_succ]; rfl) (by kernel_rfl) (by kernel_rfl) (by kernel_rfl) (by intro _ _ _ h; exact h) (Or.inl ⟨by rfl, fun w hSw => by (dsimp only at hSw; go_simp; (try with_reducible rfl))⟩) (by assumption) ?_
                      simp only [Act.put, List.setIfInBounds_toArray, List.set_cons_zero, List.set_cons_succ]
                      refine wpAnyH_take (i := 11) (by simp only [List.getElem?_toArray, List.getElem?_cons_zero, List.getElem?_cons_succ]; rfl) (by kernel_rfl) (by kernel_rfl) (by kernel_rfl) (by intro _ _ _ h; exact h) (Or.inl ⟨by rfl, fun w hSw => by (dsimp only at hSw; go_simp; (try with_reducible rfl))⟩) (by assumption) ?_
                      simp only [Act.put, List.setIfInBounds_toArray, List.set_cons_zero, List.set_cons_succ]
                      refine wpAnyH_take (i := 12) (by simp only [List.getElem?_toArray, List.getElem?_cons_zero, List.getElem?_cons_succ]; rfl) (by kernel_rfl) (by kernel_rfl) (by kernel_rfl) (by intro _ _ _ h; exact h) (Or.inl ⟨by rfl, fun w hSw => by (dsimp only at hSw; go_simp; (try with_reducible rfl))⟩) (by assumption) ?_
                      simp only [Act.put, List.setIfInBounds_toArray, List.set_cons_zero, List.set_cons_succ]
                      refine wpAnyH_take (i := 13) (by simp only [List.getElem?_toArray, List.getElem?_cons_zero, List.getElem?_cons_succ]; rfl) (by kernel_rfl) (by kernel_rfl) (by kernel_rfl) (by intro _ _ _ h; exact h) (Or.inl ⟨by rfl, fun w hSw => by (dsimp only at hSw; go_simp; (try with_reducible rfl))⟩) (by assumption) ?_
                      simp only [Act.put, List.setIfInBounds_toArray, List.set_cons_zero, List.set_cons_succ]
                      refine wpAnyH_take (i := 14) (by simp only [List.getElem?_toArray, List.getElem?_cons_zero, List.getElem?_cons_succ]; rfl) (by kernel_rfl) (by kernel_rfl) (by kernel_rfl) (by intro _ _ _ h; exact h) (Or.inl ⟨by rfl, fun w hSw => by (dsimp only at hSw; go_simp; (try with_reducible rfl))⟩) (by assumption) ?_
                      simp only [Act.put, List.setIfInBounds_toArray, List.set_cons_zero, List.set_cons_succ]
                      refine wpAnyH_take (i := 15) (by simp only [List.getElem?_toArray, List.getElem?_cons_zero, List.getElem?_cons_succ]; rfl) (by kernel_rfl) (by kernel_rfl) (by kernel_rfl) (by intro _ _ _ h; exact h) (Or.inl ⟨by rfl, fun w hSw => by (dsimp only at hSw; go_simp; (try with_reducible rfl))⟩) (by assumption) ?_
                      simp only [Act.put, List.setIfInBounds_toArray, List.set_cons_zero, List.set_cons_succ]
                      refine wpAnyH_take (i := 16) (by simp only [List.getElem?_toArray, List.getElem?_cons_zero, List.getElem?_cons_succ]; rfl) (by kernel_rfl) (by kernel_rfl) (by kernel_rfl) (by intro _ _ _ h; exact h) (Or.inl ⟨by rfl, fun w hSw => by (dsimp only at hSw; go_simp; (try with_reducible rfl))⟩) (by assumption) ?_
                      simp only [Act.put, List.setIfInBounds_toArray, List.set_cons_zero, List.set_cons_succ]
                      refine wpAnyH_take (i := 17) (by simp only [List.getElem?_toArray, List.getElem?_cons_zero, List.getElem?_cons_succ]; rfl) (by kernel_rfl) (by kernel_rfl) (by kernel_rfl) (by intro _ _ _ h; exact h) (Or.inl ⟨by rfl, fun w hSw => by (dsimp only at hSw; go_simp; (try with_reducible rfl))⟩) (by assumption) ?_
                      simp only [Act.put, List.setIfInBounds_toArray, List.set_cons_zero, List.set_cons_succ]
                      refine wpAnyH_take (i := 18) (by simp only [List.getElem?_toArray, List.getElem?_cons_zero, List.getElem?_cons_succ]; rfl) (by kernel_rfl) (by kernel_rfl) (by kernel_rfl) (by intro _ _ _ h; exact h) (Or.inl ⟨by rfl, fun w hSw => by (dsimp only at hSw; go_simp; (try with_reducible rfl))⟩) (by assumption) ?_
                      simp only [Act.put, List.setIfInBounds_toArray, List.set_cons_zero, List.set_cons_succ]
                      refine wpAnyH_take (i := 19) (by simp only [List.getElem?_toArray, List.getElem?_cons_zero, List.getElem?_cons_succ]; rfl) (by kernel_rfl) (by kernel_rfl) (by kernel_rfl) (by intro _ _ _ h; exact h) (Or.inl ⟨by rfl, fun w hSw => by (dsimp only at hSw; go_simp; (try with_reducible rfl))⟩) (by assumption) ?_
                      simp only [Act.put, List.setIfInBounds_toArray, List.set_cons_zero, List.set_cons_succ]
                      refine wpAnyH_take (i := 20) (by simp only [List.getElem?_toArray, List.getElem?_cons_zero, List.getElem?_cons_succ]; rfl) (by kernel_rfl) (by kernel_rfl) (by kernel_rfl) (by intro _ _ _ h; exact h) (Or.inl ⟨by rfl, fun w hSw => by (dsimp only at hSw; go_simp; (try with_reducible rfl))⟩) (by assumption) ?_
                      simp only [Act.put, List.setIfInBounds_toArray, List.set_cons_zero, List.set_cons_succ]
                      refine wpAnyH_take (i := 21) (by simp only [List.getElem?_toArray, List.getElem?_cons_zero, List.getElem?_cons_succ]; rfl) (by kernel_rfl) (by kernel_rfl) (by kernel_rfl) (by intro _ _ _ h; exact h) (Or.inl ⟨by rfl, fun w hSw => by (dsimp only at hSw; go_simp; (try with_reducible rfl))⟩) (by assumption) ?_
                      simp only [Act.put, List.setIfInBounds_toArray, List.set_cons_zero, List.set_cons_succ]
                      refine wpAnyH_take (i := 22) (by simp only [List.getElem?_toArray, List.getElem?_cons_zero, List.getElem?_cons_succ]; rfl) (by kernel_rfl) (by kernel_rfl) (by kernel_rfl) (by intro _ _ _ h; exact h) (Or.inl ⟨by rfl, fun w hSw => by (dsimp only at hSw; go_simp; (try with_reducible rfl))⟩) (by assumption) ?_
                      simp only [Act.put, List.setIfInBounds_toArray, List.set_cons_zero, List.set_cons_succ]
                      refine wpAnyH_take (i := 23) (by simp only [List.getElem?_toArray, List.getElem?_cons_zero, List.getElem?_cons_succ]; rfl) (by kernel_rfl) (by kernel_rfl) (by kernel_rfl) (by intro _ _ _ h; exact h) (Or.inl ⟨by rfl, fun w hSw => by (dsimp only at hSw; go_simp; (try with_reducible rfl))⟩) (by assumption) ?_
                      simp only [Act.put, List.setIfInBounds_toArray, List.set_cons_zero, List.set_cons_succ]
                      refine wpAnyH_take (i := 24) (by simp only [List.getElem?_toArray, List.getElem?_cons_zero, List.getElem?_cons_succ]; rfl) (by kernel_rfl) (by kernel_rfl) (by kernel_rfl) (by intro _ _ _ h; exact h) (Or.inl ⟨by rfl, fun w hSw => by (dsimp only at hSw; go_simp; (try with_reducible rfl))⟩) (by assumption) ?_
                      simp only [Act.put, List.setIfInBounds_toArray, List.set_cons_zero, List.set_cons_succ]
                      refine wpAnyH_take (i := 25) (by simp only [List.getElem?_toArray, List.getElem?_cons_zero, List.getElem?_cons_succ]; rfl) (by kernel_rfl) (by kernel_rfl) (by kernel_rfl) (by intro _ _ _ h; exact h) (Or.inl ⟨by rfl, fun w hSw => by (dsimp only at hSw; go_simp; (try with_reducible rfl))⟩) (by assumption) ?_
                      simp only [Act.put, List.setIfInBounds_toArray, List.set_cons_zero, List.set_cons_succ]
                      refine wpAnyH_ready (rs := [26]) (by kernel_rfl) (by simp) ?_
                      refine AllReadyH.cons (by simp only [List.getElem?_toArray, List.getElem?_cons_zero, List.getElem?_cons_succ]; rfl) ?_ AllReadyH.nil
                      intro K hK
                      go_simp
                      refine (cless_implb _ _ _ _ _ _ false hless.out _).mono ?_
                      rintro e wb ⟨rfl, hbB⟩
                      obtain ⟨hcb, hfb⟩ := bcell hbB
                      have hzb := hbB.size
                      try simp at hzb
                      have hxb : Below wr.heap.size wr wb := chain hxa hbB
                      have ygb : gx < wb.heap.size := by omega
                      have y0b : GX i < wb.heap.size := by omega
                      have y3b : GX q < wb.heap.size := by omega
                      go_wp2_with fail
                      refine hK.out _ _ ?_ (fun hHeld => ?_)
                      · (((try dsimp only); (repeat' apply And.intro) <;> first | (go_keep; done) | (simp (disch := first | omega | (simp <;> omega) | fail) [*]; done) | fail))
                      clear hK K
                      try simp only [Act.put, List.setIfInBounds_toArray, List.set_cons_zero, List.set_cons_succ]
                      refine wpAnyH_take (i := 27) (by simp only [List.getElem?_toArray, List.getElem?_cons_zero, List.getElem?_cons_succ]; rfl) (by kernel_rfl) (by kernel_rfl) (by kernel_rfl) (by intro _ _ _ h; exact h) (Or.inl ⟨by rfl, fun w hSw => by (dsimp only at hSw; go_simp; (try with_reducible rfl))⟩) (by assumption) ?_
                      simp only [Act.put, List.setIfInBounds_toArray, List.set_cons_zero, List.set_cons_succ]
                      refine wpAnyH_take (i := 28) (by simp only [List.getElem?_toArray, List.getElem?_cons_zero, List.getElem?_cons_succ]; rfl) (by kernel_rfl) (by kernel_rfl) (by kernel_rfl) (by intro _ _ _ h; exact h) (Or.inl ⟨by rfl, fun w hSw => by (dsimp only at hSw; go_simp; (try with_reducible rfl))⟩) (by assumption) ?_
                      simp only [Act.put, List.setIfInBounds_toArray, List.set_cons_zero, List.set_cons_succ]
                      refine wpAnyH_take (i := 29) (by simp only [List.getElem?_toArray, List.getElem?_cons_zero, List.getElem?_cons_succ]; rfl) (by kernel_rfl) (by kernel_rfl) (by kernel_rfl) (by intro _ _ _ h; exact h) (Or.inl ⟨by rfl, fun w hSw => by (dsimp only at hSw; go_simp; (try with_reducible rfl))⟩) (by assumption) ?_
                      simp only [Act.put, List.setIfInBounds_toArray, List.set_cons_zero, List.set_cons_succ]
                      refine wpAnyH_take (i := 30) (by simp only [List.getElem?_toArray, List.getElem?_cons_zero, List.getElem?_cons_succ]; rfl) (by kernel_rfl) (by kernel_rfl) (by kernel_rfl) (by intro _ _ _ h; exact h) (Or.inl ⟨by rfl, fun w hSw => by (dsimp only at hSw; go_simp; (try with_reducible rfl))⟩) (by assumption) ?_
                      simp only [Act.put, List.setIfInBounds_toArray, List.set_cons_zero, List.set_cons_succ]
                      refine wpAnyH_take (i := 31) (v := undef) (by simp only [List.getElem?_toArray, List.getElem?_cons_zero, List.getElem?_cons_succ]; rfl) (by kernel_rfl) (by kernel_rfl) (by kernel_rfl) (by intro _ _ _ h; exact h) (Or.inr ⟨by rfl, rfl⟩) (by assumption) ?_
                      simp only [Act.put, List.setIfInBounds_toArray, List.set_cons_zero, List.set_cons_succ]
                      refine wpAnyH_take (i := 32) (v := undef) (by simp only [List.getElem?_toArray, List.getElem?_cons_zero, List.getElem?_cons_succ]; rfl) (by kernel_rfl) (by kernel_rfl) (by kernel_rfl) (by intro _ _ _ h; exact h) (Or.inr ⟨by rfl, rfl⟩) (by assumption) ?_
                      simp only [Act.put, List.setIfInBounds_toArray, List.set_cons_zero, List.set_cons_succ]
                      refine wpAnyH_take (i := 33) (v := undef) (by simp only [List.getElem?_toArray, List.getElem?_cons_zero, List.getElem?_cons_succ]; rfl) (by kernel_rfl) (by kernel_rfl) (by kernel_rfl) (by intro _ _ _ h; exact h) (Or.inr ⟨by rfl, rfl⟩) (by assumption) ?_
                      simp only [Act.put, List.setIfInBounds_toArray, List.set_cons_zero, List.set_cons_succ]
                      refine wpAnyH_take (i := 34) (v := undef) (by simp only [List.getElem?_toArray, List.getElem?_cons_zero, List.getElem?_cons_succ]; rfl) (by kernel_rfl) (by kernel_rfl) (by kernel_rfl) (by intro _ _ _ h; exact h) (Or.inr ⟨by rfl, rfl⟩) (by assumption) ?_
                      simp only [Act.put, List.setIfInBounds_toArray, List.set_cons_zero, List.set_cons_succ]
                      refine wpAnyH_take (i := 35) (v := undef) (by simp only [List.getElem?_toArray, List.getElem?_cons_zero, List.getElem?_cons_succ]; rfl) (by kernel_rfl) (by kernel_rfl) (by kernel_rfl) (by intro _ _ _ h; exact h) (Or.inr ⟨by rfl, rfl⟩) (by assumption) ?_
                      simp only [Act.put, List.setIfInBounds_toArray, List.set_cons_zero, List.set_cons_succ]
                      refine wpAnyH_take (i := 36) (v := undef) (by simp only [List.getElem?_toArray, List.getElem?_cons_zero, List.getElem?_cons_succ]; rfl) (by kernel_rfl) (by kernel_rfl) (by kernel_rfl) (by intro _ _ _ h; exact h) (Or.inr ⟨by rfl, rfl⟩) (by assumption) ?_
                      simp only [Act.put, List.setIfInBounds_toArray, List.set_cons_zero, List.set_cons_succ]
                      refine wpAnyH_take (i := 37) (v := undef) (by simp only [List.getElem?_toArray, List.getElem?_cons_zero, List.getElem?_cons_succ]; rfl) (by kernel_rfl) (by kernel_rfl) (by kernel_rfl) (by intro _ _ _ h; exact h) (Or.inr ⟨by rfl, rfl⟩) (by assumption) ?_
                      simp only [Act.put, List.setIfInBounds_toArray, List.set_cons_zero, List.set_cons_succ]
                      refine wpAnyH_take (i := 38) (v := undef) (by simp only [List.getElem?_toArray, List.getElem?_cons_zero, List.getElem?_cons_succ]; rfl) (by kernel_rfl) (by kernel_rfl) (by kernel_rfl) (by intro _ _ _ h; exact h) (Or.inr ⟨by rfl, rfl⟩) (by assumption) ?_
                      simp only [Act.put, List.setIfInBounds_toArray, List.set_cons_zero, List.set_cons_succ]
                      refine wpAnyH_take (i := 39) (v := undef) (by simp only [List.getElem?_toArray, List.getElem?_cons_zero, List.getElem?_cons_succ]; rfl) (by kernel_rfl) (by kernel_rfl) (by kernel_rfl) (by intro _ _ _ h; exact h) (Or.inr ⟨by rfl, rfl⟩) (by assumption) ?_
                      simp only [Act.put, List.setIfInBounds_toArray, List.set_cons_zero, List.set_cons_succ]
                      refine wpAnyH_take (i := 40) (v := undef) (by simp only [List.getElem?_toArray, List.getElem?_cons_zero, List.getElem?_cons_succ]; rfl) (by kernel_rfl) (by kernel_rfl) (by kernel_rfl) (by intro _ _ _ h; exact h) (Or.inr ⟨by rfl, rfl⟩) (by assumption) ?_
                      simp only [Act.put, List.setIfInBounds_toArray, List.set_cons_zero, List.set_cons_succ]
                      refine wpAnyH_take (i := 41) (v := undef) (by simp only [List.getElem?_toArray, List.getElem?_cons_zero, List.getElem?_cons_succ]; rfl) (by kernel_rfl) (by kernel_rfl) (by kernel_rfl) (by intro _ _ _ h; exact h) (Or.inr ⟨by rfl, rfl⟩) (by assumption) ?_
                      simp only [Act.put, List.setIfInBounds_toArray, List.set_cons_zero, List.set_cons_succ]
                      refine wpAnyH_take (i := 42) (v := undef) (by simp only [List.getElem?_toArray, List.getElem?_cons_zero, List.getElem?_cons_succ]; rfl) (by kernel_rfl) (by kernel_rfl) (by kernel_rfl) (by intro _ _ _ h; exact h) (Or.inr ⟨by rfl, rfl⟩) (by assumption) ?_
                      simp only [Act.put, List.setIfInBounds_toArray, List.set_cons_zero, List.set_cons_succ]
                      refine wpAnyH_take (i := 43) (v := undef) (by simp only [List.getElem?_toArray, List.getElem?_cons_zero, List.getElem?_cons_succ]; rfl) (by kernel_rfl) (by kernel_rfl) (by kernel_rfl) (by intro _ _ _ h; exact h) (Or.inr ⟨by rfl, rfl⟩) (by assumption) ?_
                      simp only [Act.put, List.setIfInBounds_toArray, List.set_cons_zero, List.set_cons_succ]
                      refine wpAnyH_take (i := 44) (v := undef) (by simp only [List.getElem?_toArray, List.getElem?_cons_zero, List.getElem?_cons_succ]; rfl) (by kernel_rfl) (by kernel_rfl) (by kernel_rfl) (by intro _ _ _ h; exact h) (Or.inr ⟨by rfl, rfl⟩) (by assumption) ?_
                      simp only [Act.put, List.setIfInBounds_toArray, List.set_cons_zero, List.set_cons_succ]
                      refine wpAnyH_take (i := 45) (v := undef) (by simp only [List.getElem?_toArray, List.getElem?_cons_zero, List.getElem?_cons_succ]; rfl) (by kernel_rfl) (by kernel_rfl) (by kernel_rfl) (by intro _ _ _ h; exact h) (Or.inr ⟨by rfl, rfl⟩) (by assumption) ?_
                      simp only [Act.put, List.setIfInBounds_toArray, List.set_cons_zero, List.set_cons_succ]
                      refine wpAnyH_take (i := 46) (v := undef) (by simp only [List.getElem?_toArray, List.getElem?_cons_zero, List.getElem?_cons_succ]; rfl) (by kernel_rfl) (by kernel_rfl) (by kernel_rfl) (by intro _ _ _ h; exact h) (Or.inr ⟨by rfl, rfl⟩) (by assumption) ?_
                      simp only [Act.put, List.setIfInBounds_toArray, List.set_cons_zero, List.set_cons_succ]
                      refine wpAnyH_take (i := 47) (by simp only [List.getElem?_toArray, List.getElem?_cons_zero, List.getElem?_cons_succ]; rfl) (by kernel_rfl) (by kernel_rfl) (by kernel_rfl) (by intro _ _ _ h; exact h) (Or.inl ⟨by rfl, fun w hSw => by (dsimp only at hSw; go_simp; (try with_reducible rfl))⟩) (by assumption) ?_
                      simp only [Act.put, List.setIfInBounds_toArray, List.set_cons_zero, List.set_cons_succ]
                      refine wpAnyH_take (i := 48) (by simp only [List.getElem?_toArray, List.getElem?_cons_zero, List.getElem?_cons_succ]; rfl) (by kernel_rfl) (by kernel_rfl) (by kernel_rfl) (by intro _ _ _ h; exact h) (Or.inl ⟨by rfl, fun w hSw => by (dsimp only at hSw; go_simp; (try with_reducible rfl))⟩) (by assumption) ?_
                      simp only [Act.put, List.setIfInBounds_toArray, List.set_cons_zero, List.set_cons_succ]
                      refine wpAnyH_take (i := 49) (by simp only [List.getElem?_toArray, List.getElem?_cons_zero, List.getElem?_cons_succ]; rfl) (by kernel_rfl) (by kernel_rfl) (by kernel_rfl) (by intro _ _ _ h; exact h) (Or.inl ⟨by rfl, fun w hSw => by (dsimp only at hSw; go_simp; (try with_reducible rfl))⟩) (by assumption) ?_
                      simp only [Act.put, List.setIfInBounds_toArray, List.set_cons_zero, List.set_cons_succ]
                      refine wpAnyH_take (i := 50) (by simp only [List.getElem?_toArray, List.getElem?_cons_zero, List.getElem?_cons_succ]; rfl) (by kernel_rfl) (by kernel_rfl) (by kernel_rfl) (by intro _ _ _ h; exact h) (Or.inl ⟨by rfl, fun w hSw => by (dsimp only at hSw; go_simp; (try with_reducible rfl))⟩) (by assumption) ?_
                      simp only [Act.put, List.setIfInBounds_toArray, List.set_cons_zero, List.set_cons_succ]
                      refine wpAnyH_done (by kernel_rfl) ?_ _
                      go_wp2_with fail
                      go_meet
                      case rel => exact ⟨rfl, hxb⟩
                  · have hless0 : lessB y2.1 y2.2.1 y2.2.2 y1.1 y1.2.1 y1.2.2 = false := by simpa [lessC] using hside
                    have hless : Hid (lessB y2.1 y2.2.1 y2.2.2 y1.1 y1.2.1 y1.2.2 = false) := hless0
                    clear hside hless0
                    as_aux_lemma =>
                      refine wp_region_held_drew (S := (fun w' => w'.cell? ⟨gx, i, none⟩ = some (.slice (some ⟨GX i, 0, none⟩) z1 (CX i)) ∧ w'.cell? ⟨gx, q, none⟩ = some (.slice (some ⟨GX q, 0, none⟩) z2 (CX q)) ∧ w'.cell? ⟨GX i, t * 3, none⟩ = some (.int .i64 y1.1) ∧ w'.cell? ⟨GX i, t * 3 + 1, none⟩ = some (.int .i64 y1.2.1) ∧ w'.cell? ⟨GX i, t * 3 + 2, none⟩ = some (.string y1.2.2) ∧ w'.cell? ⟨GX q, t * 3, none⟩ = some (.int .i64 y2.1) ∧ w'.cell? ⟨GX q, t * 3 + 1, none⟩ = some (.int .i64 y2.2.1) ∧ w'.cell? ⟨GX q, t * 3 + 2, none⟩ = some (.string y2.2.2))) (by kernel_rfl) ?_ (fun hHeld => ?_)
                      · (((try dsimp only); (repeat' apply And.intro) <;> first | (go_keep; done) | (simp (disch := first | omega | (simp <;> omega) | fail) [*]; done) | fail))
                      refine wpAnyH_take (i := 0) (by simp only [List.getElem?_toArray, List.getElem?_cons_zero]; rfl) (by kernel_rfl) (by kernel_rfl) (by kernel_rfl) (by intro _ _ _ h; exact h) (Or.inl ⟨by rfl, fun w hSw => by (dsimp only at hSw; go_simp; (try with_reducible rfl))⟩) (by assumption) ?_
                      simp only [Act.put, List.setIfInBounds_toArray, List.set_cons_zero, List.set_cons_succ]
                      refine wpAnyH_take (i := 1) (by simp only [List.getElem?_toArray, List.getElem?_cons_zero, List.getElem?_cons_succ]; rfl) (by kernel_rfl) (by kernel_rfl) (by kernel_rfl) (by intro _ _ _ h; exact h) (Or.inl ⟨by rfl, fun w hSw => by (dsimp only at hSw; go_simp; (try with_reducible rfl))⟩) (by assumption) ?_
                      simp only [Act.put, List.setIfInBounds_toArray, List.set_cons_zero, List.set_cons_succ]
                      refine wpAnyH_ready (rs := [2]) (by kernel_rfl) (by simp) ?_
                      refine AllReadyH.cons (by simp only [List.getElem?_toArray, List.getElem?_cons_zero, List.getElem?_cons_succ]; rfl) ?_ AllReadyH.nil
                      intro K hK
                      go_simp
                      refine (like_rowsN n _ _ _ _ _ hnl _ (RS.out.below (Below.refl wr.heap.size wr).drew) (RO.out.below (Below.refl wr.heap.size wr).drew) hnM).mono ?_
                      rintro e wa ⟨rfl, hbA⟩
                      obtain ⟨hca, hfa⟩ := bcell hbA
                      have hza := hbA.size
                      try simp at hza
                      have hxa : Below wr.heap.size wr wa := undrew hbA
                      have yg : gx < wa.heap.size := by omega
                      have y0 : GX i < wa.heap.size := by omega
                      have y3 : GX q < wa.heap.size := by omega
                      go_wp2_with fail
                      refine hK.out _ _ ?_ (fun hHeld => ?_)
                      · (((try dsimp only); (repeat' apply And.intro) <;> first | (go_keep; done) | (simp (disch := first | omega | (simp <;> omega) | fail) [*]; done) | fail))
                      clear hK K
                      try simp only [Act.put, List.setIfInBounds_toArray, List.set_cons_zero, List.set_cons_succ]
                      refine wpAnyH_take (i := 3) (by simp only [List.getElem?_toArray, List.getElem?_cons_zero, List.getElem?_cons_succ]; rfl) (by kernel_rfl) (by kernel_rfl) (by kernel_rfl) (by intro _ _ _ h; exact h) (Or.inl ⟨by rfl, fun w hSw => by (dsimp only at hSw; go_simp; (try with_reducible rfl))⟩) (by assumption) ?_
                      simp only [Act.put, List.setIfInBounds_toArray, List.set_cons_zero, List.set_cons_succ]
                      refine wpAnyH_take (i := 4) (by simp only [List.getElem?_toArray, List.getElem?_cons_zero, List.getElem?_cons_succ]; rfl) (by kernel_rfl) (by kernel_rfl) (by kernel_rfl) (by intro _ _ _ h; exact h) (Or.inl ⟨by rfl, fun w hSw => by (dsimp only at hSw; go_simp; (try with_reducible rfl))⟩) (by assumption) ?_
                      simp only [Act.put, List.setIfInBounds_toArray, List.set_cons_zero, List.set_cons_succ]
                      refine wpAnyH_take (i := 5) (by simp only [List.getElem?_toArray, List.getElem?_cons_zero, List.getElem?_cons_succ]; rfl) (by kernel_rfl) (by kernel_rfl) (by kernel_rfl) (by intro _ _ _ h; exact h) (Or.inl ⟨by rfl, fun w hSw => by (dsimp only at hSw; go_simp; (try with_reducible rfl))⟩) (by assumption) ?_
                      simp only [Act.put, List.setIfInBounds_toArray, List.set_cons_zero, List.set_cons_succ]
                      refine wpAnyH_take (i := 6) (by simp only [List.getElem?_toArray, List.getElem?_cons_zero, List.getElem?_cons_succ]; rfl) (by kernel_rfl) (by kernel_rfl) (by kernel_rfl) (by intro _ _ _ h; exact h) (Or.inl ⟨by rfl, fun w hSw => by (dsimp only at hSw; go_simp; (try with_reducible rfl))⟩) (by assumption) ?_
                      simp only [Act.put, List.setIfInBounds_toArray, List.set_cons_zero, List.set_cons_succ]
                      refine wpAnyH_take (i := 7) (by simp only [List.getElem?_toArray, List.getElem?_cons_zero, List.getElem?_cons_succ]; rfl) (by kernel_rfl) (by kernel_rfl) (by kernel_rfl) (by intro _ _ _ h; exact h) (Or.inl ⟨by rfl, fun w hSw => by (dsimp only at hSw; go_simp; (try with_reducible rfl))⟩) (by assumption) ?_
                      simp only [Act.put, List.setIfInBounds_toArray, List.set_cons_zero, List.set_cons_succ]
                      refine wpAnyH_take (i := 8) (by simp only [List.getElem?_toArray, List.getElem?_cons_zero, List.getElem?_cons_succ]; rfl) (by kernel_rfl) (by kernel_rfl) (by kernel_rfl) (by intro _ _ _ h; exact h) (Or.inl ⟨by rfl, fun w hSw => by (dsimp only at hSw; go_simp; (try with_reducible rfl))⟩) (by assumption) ?_
                      simp only [Act.put, List.setIfInBounds_toArray, List.set_cons_zero, List.set_cons_succ]
                      refine wpAnyH_take (i := 9) (by simp only [List.getElem?_toArray, List.getElem?_cons_zero, List.getElem?_cons_succ]; rfl) (by kernel_rfl) (by kernel_rfl) (by kernel_rfl) (by intro _ _ _ h; exact h) (Or.inl ⟨by rfl, fun w hSw => by (dsimp only at hSw; go_simp; (try with_reducible rfl))⟩) (by assumption) ?_
                      simp only [Act.put, List.setIfInBounds_toArray, List.set_cons_zero, List.set_cons_succ]
                      refine wpAnyH_take (i := 10) (by simp only [List.getElem?_toArray, List.getElem?_cons_zero, List.getElem?_cons_succ]; rfl) (by kernel_rfl) (by kernel_rfl) (by kernel_rfl) (by intro _ _ _ h; exact h) (Or.inl ⟨by rfl, fun w hSw => by (dsimp only at hSw; go_simp; (try with_reducible rfl))⟩) (by assumption) ?_
                      simp only [Act.put, List.setIfInBounds_toArray, List.set_cons_zero, List.set_cons_succ]
                      refine wpAnyH_take (i := 11) (v := undef) (by simp only [List.getElem?_toArray, List.getElem?_cons_zero, List.getElem?_cons_succ]; rfl) (by kernel_rfl) (by kernel_rfl) (by kernel_rfl) (by intro _ _ _ h; exact h) (Or.inr ⟨by rfl, rfl⟩) (by assumption) ?_
                      simp only [Act.put, List.setIfInBounds_toArray, List.set_cons_zero, List.set_cons_succ]
                      refine wpAnyH_take (i := 12) (v := undef) (by simp only [List.getElem?_toArray, List.getElem?_cons_zero, List.getElem?_cons_succ]; rfl) (by kernel_rfl) (by kernel_rfl) (by kernel_rfl) (by intro _ _ _ h; exact h) (Or.inr ⟨by rfl, rfl⟩) (by assumption) ?_
                      simp only [Act.put, List.setIfInBounds_toArray, List.set_cons_zero, List.set_cons_succ]
                      refine wpAnyH_take (i := 13) (v := undef) (by simp only [List.getElem?_toArray, List.getElem?_cons_zero, List.getElem?_cons_succ]; rfl) (by kernel_rfl) (by kernel_rfl) (by kernel_rfl) (by intro _ _ _ h; exact h) (Or.inr ⟨by rfl, rfl⟩) (by assumption) ?_
                      simp only [Act.put, List.setIfInBounds_toArray, List.set_cons_zero, List.set_cons_succ]
                      refine wpAnyH_take (i := 14) (v := undef) (by simp only [List.getElem?_toArray, List.getElem?_cons_zero, List.getElem?_cons_succ]; rfl) (by kernel_rfl) (by kernel_rfl) (by kernel_rfl) (by intro _ _ _ h; exact h) (Or.inr ⟨by rfl, rfl⟩) (by assumption) ?_
                      simp only [Act.put, List.setIfInBounds_toArray, List.set_cons_zero, List.set_cons_succ]
                      refine wpAnyH_take (i := 15) (v := undef) (by simp only [List.getElem?_toArray, List.getElem?_cons_zero, List.getElem?_cons_succ]; rfl) (by kernel_rfl) (by kernel_rfl) (by kernel_rfl) (by intro _ _ _ h; exact h) (Or.inr ⟨by rfl, rfl⟩) (by assumption) ?_
                      simp only [Act.put, List.setIfInBounds_toArray, List.set_cons_zero, List.set_cons_succ]
                      refine wpAnyH_take (i := 16) (v := undef) (by simp only [List.getElem?_toArray, List.getElem?_cons_zero, List.getElem?_cons_succ]; rfl) (by kernel_rfl) (by kernel_rfl) (by kernel_rfl) (by intro _ _ _ h; exact h) (Or.inr ⟨by rfl, rfl⟩) (by assumption) ?_
                      simp only [Act.put, List.setIfInBounds_toArray, List.set_cons_zero, List.set_cons_succ]
                      refine wpAnyH_take (i := 17) (v := undef) (by simp only [List.getElem?_toArray, List.getElem?_cons_zero, List.getElem?_cons_succ]; rfl) (by kernel_rfl) (by kernel_rfl) (by kernel_rfl) (by intro _ _ _ h; exact h) (Or.inr ⟨by rfl, rfl⟩) (by assumption) ?_
                      simp only [Act.put, List.setIfInBounds_toArray, List.set_cons_zero, List.set_cons_succ]
                      refine wpAnyH_take (i := 18) (v := undef) (by simp only [List.getElem?_toArray, List.getElem?_cons_zero, List.getElem?_cons_succ]; rfl) (by kernel_rfl) (by kernel_rfl) (by kernel_rfl) (by intro _ _ _ h; exact h) (Or.inr ⟨by rfl, rfl⟩) (by assumption) ?_
                      simp only [Act.put, List.setIfInBounds_toArray, List.set_cons_zero, List.set_cons_succ]
                      refine wpAnyH_take (i := 19) (v := undef) (by simp only [List.getElem?_toArray, List.getElem?_cons_zero, List.getElem?_cons_succ]; rfl) (by kernel_rfl) (by kernel_rfl) (by kernel_rfl) (by intro _ _ _ h; exact h) (Or.inr ⟨by rfl, rfl⟩) (by assumption) ?_
                      simp only [Act.put, List.setIfInBounds_toArray, List.set_cons_zero, List.set_cons_succ]
                      refine wpAnyH_take (i := 20) (v := undef) (by simp only [List.getElem?_toArray, List.getElem?_cons_zero, List.getElem?_cons_succ]; rfl) (by kernel_rfl) (by kernel_rfl) (by kernel_rfl) (by intro _ _ _ h; exact h) (Or.inr ⟨by rfl, rfl⟩) (by assumption) ?_
                      simp only [Act.put, List.setIfInBounds_toArray, List.set_cons_zero, List.set_cons_succ]
                      refine wpAnyH_take (i := 21) (v := undef) (by simp only [List.getElem?_toArray, List.getElem?_cons_zero, List.getElem?_cons_succ]; rfl) (by kernel_rfl) (by kernel_rfl) (by kernel_rfl) (by intro _ _ _ h; exact h) (Or.inr ⟨by rfl, rfl⟩) (by assumption) ?_
                      simp only [Act.put, List.setIfInBounds_toArray, List.set_cons_zero, List.set_cons_succ]
                      refine wpAnyH_take (i := 22) (v := undef) (by simp only [List.getElem?_toArray, List.getElem?_cons_zero, List.getElem?_cons_succ]; rfl) (by kernel_rfl) (by kernel_rfl) (by kernel_rfl) (by intro _ _ _ h; exact h) (Or.inr ⟨by rfl, rfl⟩) (by assumption) ?_
                      simp only [Act.put, List.setIfInBounds_toArray, List.set_cons_zero, List.set_cons_succ]
                      refine wpAnyH_take (i := 23) (v := undef) (by simp only [List.getElem?_toArray, List.getElem?_cons_zero, List.getElem?_cons_succ]; rfl) (by kernel_rfl) (by kernel_rfl) (by kernel_rfl) (by intro _ _ _ h; exact h) (Or.inr ⟨by rfl, rfl⟩) (by assumption) ?_
                      simp only [Act.put, List.setIfInBounds_toArray, List.set_cons_zero, List.set_cons_succ]
                      refine wpAnyH_take (i := 24) (v := undef) (by simp only [List.getElem?_toArray, List.getElem?_cons_zero, List.getElem?_cons_succ]; rfl) (by kernel_rfl) (by kernel_rfl) (by kernel_rfl) (by intro _ _ _ h; exact h) (Or.inr ⟨by rfl, rfl⟩) (by assumption) ?_
                      simp only [Act.put, List.setIfInBounds_toArray, List.set_cons_zero, List.set_cons_succ]
                      refine wpAnyH_take (i := 25) (v := undef) (by simp only [List.getElem?_toArray, List.getElem?_cons_zero, List.getElem?_cons_succ]; rfl) (by kernel_rfl) (by kernel_rfl) (by kernel_rfl) (by intro _ _ _ h; exact h) (Or.inr ⟨by rfl, rfl⟩) (by assumption) ?_
                      simp only [Act.put, List.setIfInBounds_toArray, List.set_cons_zero, List.set_cons_succ]
                      refine wpAnyH_take (i := 26) (v := undef) (by simp only [List.getElem?_toArray, List.getElem?_cons_zero, List.getElem?_cons_succ]; rfl) (by kernel_rfl) (by kernel_rfl) (by kernel_rfl) (by intro _ _ _ h; exact h) (Or.inr ⟨by rfl, rfl⟩) (by assumption) ?_
                      simp only [Act.put, List.setIfInBounds_toArray, List.set_cons_zero, List.set_cons_succ]
                      refine wpAnyH_take (i := 27) (by simp only [List.getElem?_toArray, List.getElem?_cons_zero, List.getElem?_cons_succ]; rfl) (by kernel_rfl) (by kernel_rfl) (by kernel_rfl) (by intro _ _ _ h; exact h) (Or.inl ⟨by rfl, fun w hSw => by (dsimp only at hSw; go_simp; (try with_reducible rfl))⟩) (by assumption) ?_
                      simp only [Act.put, List.setIfInBounds_toArray, List.set_cons_zero, List.set_cons_succ]
                      refine wpAnyH_take (i := 28) (by simp only [List.getElem?_toArray, List.getElem?_cons_zero, List.getElem?_cons_succ]; rfl) (by kernel_rfl) (by kernel_rfl) (by kernel_rfl) (by intro _ _ _ h; exact h) (Or.inl ⟨by rfl, fun w hSw => by (dsimp only at hSw; go_simp; (try with_reducible rfl))⟩) (by assumption) ?_
                      simp only [Act.put, List.setIfInBounds_toArray, List.set_cons_zero, List.set_cons_succ]
                      refine wpAnyH_take (i := 29) (by simp only [List.getElem?_toArray, List.getElem?_cons_zero, List.getElem?_cons_succ]; rfl) (by kernel_rfl) (by kernel_rfl) (by kernel_rfl) (by intro _ _ _ h; exact h) (Or.inl ⟨by rfl, fun w hSw => by (dsimp only at hSw; go_simp; (try with_reducible rfl))⟩) (by assumption) ?_
                      simp only [Act.put, List.setIfInBounds_toArray, List.set_cons_zero, List.set_cons_succ]
                      refine wpAnyH_take (i := 30) (by simp only [List.getElem?_toArray, List.getElem?_cons_zero, List.getElem?_cons_succ]; rfl) (by kernel_rfl) (by kernel_rfl) (by kernel_rfl) (by intro _ _ _ h; exact h) (Or.inl ⟨by rfl, fun w hSw => by (dsimp only at hSw; go_simp; (try with_reducible rfl))⟩) (by assumption) ?_
                      simp only [Act.put, List.setIfInBounds_toArray, List.set_cons_zero, List.set_cons_succ]
                      refine wpAnyH_take (i := 31) (by simp only [List.getElem?_toArray, List.getElem?_cons_zero, List.getElem?_cons_succ]; rfl) (by kernel_rfl) (by kernel_rfl) (by kernel_rfl) (by intro _ _ _ h; exact h) (Or.inl ⟨by rfl, fun w hSw => by (dsimp only at hSw; go_simp; (try with_reducible rfl))⟩) (by assumption) ?_
                      simp only [Act.put, List.setIfInBounds_toArray, List.set_cons_zero, List.set_cons_succ]
                      refine wpAnyH_take (i := 32) (by simp only [List.getElem?_toArray, List.getElem?_cons_zero, List.getElem?_cons_succ]; rfl) (by kernel_rfl) (by kernel_rfl) (by kernel_rfl) (by intro _ _ _ h; exact h) (Or.inl ⟨by rfl, fun w hSw => by (dsimp only at hSw; go_simp; (try with_reducible rfl))⟩) (by assumption) ?_
                      simp only [Act.put, List.setIfInBounds_toArray, List.set_cons_zero, List.set_cons_succ]
                      refine wpAnyH_take (i := 33) (by simp only [List.getElem?_toArray, List.getElem?_cons_zero, List.getElem?_cons_succ]; rfl) (by kernel_rfl) (by kernel_rfl) (by kernel_rfl) (by intro _ _ _ h; exact h) (Or.inl ⟨by rfl, fun w hSw => by (dsimp only at hSw; go_simp; (try with_reducible rfl))⟩) (by assumption) ?_
                      simp only [Act.put, List.setIfInBounds_toArray, List.set_cons_zero, List.set_cons_succ]
                      refine wpAnyH_take (i := 34) (by simp only [List.getElem?_toArray, List.getElem?_cons_zero, List.getElem?_cons_succ]; rfl) (by kernel_rfl) (by kernel_rfl) (by kernel_rfl) (by intro _ _ _ h; exact h) (Or.inl ⟨by rfl, fun w hSw => by (dsimp only at hSw; go_simp; (try with_reducible rfl))⟩) (by assumption) ?_
                      simp only [Act.put, List.setIfInBounds_toArray, List.set_cons_zero, List.set_cons_succ]
                      refine wpAnyH_take (i := 35) (by simp only [List.getElem?_toArray, List.getElem?_cons_zero, List.getElem?_cons_succ]; rfl) (by kernel_rfl) (by kernel_rfl) (by kernel_rfl) (by intro _ _ _ h; exact h) (Or.inl ⟨by rfl, fun w hSw => by (dsimp only at hSw; go_simp; (try with_reducible rfl))⟩) (by assumption) ?_
                      simp only [Act.put, List.setIfInBounds_toArray, List.set_cons_zero, List.set_cons_succ]
                      refine wpAnyH_take (i := 36) (by simp only [List.getElem?_toArray, List.getElem?_cons_zero, List.getElem?_cons_succ]; rfl) (by kernel_rfl) (by kernel_rfl) (by kernel_rfl) (by intro _ _ _ h; exact h) (Or.inl ⟨by rfl, fun w hSw => by (dsimp only at hSw; go_simp; (try with_reducible rfl))⟩) (by assumption) ?_
                      simp only [Act.put, List.setIfInBounds_toArray, List.set_cons_zero, List.set_cons_succ]
                      refine wpAnyH_take (i := 37) (by simp only [List.getElem?_toArray, List.getElem?_cons_zero, List.getElem?_cons_succ]; rfl) (by kernel_rfl) (by kernel_rfl) (by kernel_rfl) (by intro _ _ _ h; exact h) (Or.inl ⟨by rfl, fun w hSw => by (dsimp only at hSw; go_simp; (try with_reducible rfl))⟩) (by assumption) ?_
                      simp only [Act.put, List.setIfInBounds_toArray, List.set_cons_zero, List.set_cons_succ]
                      refine wpAnyH_take (i := 38) (by simp only [List.getElem?_toArray, List.getElem?_cons_zero, List.getElem?_cons_succ]; rfl) (by kernel_rfl) (by kernel_rfl) (by kernel_rfl) (by intro _ _ _ h; exact h) (Or.inl ⟨by rfl, fun w hSw => by (dsimp only at hSw; go_simp; (try with_reducible rfl))⟩) (by assumption) ?_
                      simp only [Act.put, List.setIfInBounds_toArray, List.set_cons_zero, List.set_cons_succ]
                      refine wpAnyH_take (i := 39) (by simp only [List.getElem?_toArray, List.getElem?_cons_zero, List.getElem?_cons_succ]; rfl) (by kernel_rfl) (by kernel_rfl) (by kernel_rfl) (by intro _ _ _ h; exact h) (Or.inl ⟨by rfl, fun w hSw => by (dsimp only at hSw; go_simp; (try with_reducible rfl))⟩) (by assumption) ?_
                      simp only [Act.put, List.setIfInBounds_toArray, List.set_cons_zero, List.set_cons_succ]
                      refine wpAnyH_take (i := 40) (by simp only [List.getElem?_toArray, List.getElem?_cons_zero, List.getElem?_cons_succ]; rfl) (by kernel_rfl) (by kernel_rfl) (by kernel_rfl) (by intro _ _ _ h; exact h) (Or.inl ⟨by rfl, fun w hSw => by (dsimp only at hSw; go_simp; (try with_reducible rfl))⟩) (by assumption) ?_
                      simp only [Act.put, List.setIfInBounds_toArray, List.set_cons_zero, List.set_cons_succ]
                      refine wpAnyH_take (i := 41) (by simp only [List.getElem?_toArray, List.getElem?_cons_zero, List.getElem?_cons_succ]; rfl) (by kernel_rfl) (by kernel_rfl) (by kernel_rfl) (by intro _ _ _ h; exact h) (Or.inl ⟨by rfl, fun w hSw => by (dsimp only at hSw; go_simp; (try with_reducible rfl))⟩) (by assumption) ?_
                      simp only [Act.put, List.setIfInBounds_toArray, List.set_cons_zero, List.set_cons_succ]
                      refine wpAnyH_take (i := 42) (by simp only [List.getElem?_toArray, List.getElem?_cons_zero, List.getElem?_cons_succ]; rfl) (by kernel_rfl) (by kernel_rfl) (by kernel_rfl) (by intro _ _ _ h; exact h) (Or.inl ⟨by rfl, fun w hSw => by (dsimp only at hSw; go_simp; (try with_reducible rfl))⟩) (by assumption) ?_
                      simp only [Act.put, List.setIfInBounds_toArray, List.set_cons_zero, List.set_cons_succ]
                      refine wpAnyH_take (i := 43) (by simp only [List.getElem?_toArray, List.getElem?_cons_zero, List.getElem?_cons_succ]; rfl) (by kernel_rfl) (by kernel_rfl) (by kernel_rfl) (by intro _ _ _ h; exact h) (Or.inl ⟨by rfl, fun w hSw => by (dsimp only at hSw; go_simp; (try with_reducible rfl))⟩) (by assumption) ?_
                      simp only [Act.put, List.setIfInBounds_toArray, List.set_cons_zero, List.set_cons_succ]
                      refine wpAnyH_take (i := 44) (by simp only [List.getElem?_toArray, List.getElem?_cons_zero, List.getElem?_cons_succ]; rfl) (by kernel_rfl) (by kernel_rfl) (by kernel_rfl) (by intro _ _ _ h; exact h) (Or.inl ⟨by rfl, fun w hSw => by (dsimp only at hSw; go_simp; (try with_reducible rfl))⟩) (by assumption) ?_
                      simp only [Act.put, List.setIfInBounds_toArray, List.set_cons_zero, List.set_cons_succ]
                      refine wpAnyH_take (i := 45) (by simp only [List.getElem?_toArray, List.getElem?_cons_zero, List.getElem?_cons_succ]; rfl) (by kernel_rfl) (by kernel_rfl) (by kernel_rfl) (by intro _ _ _ h; exact h) (Or.inl ⟨by rfl, fun w hSw => by (dsimp only at hSw; go_simp; (try with_reducible rfl))⟩) (by assumption) ?_
                      simp only [Act.put, List.setIfInBounds_toArray, List.set_cons_zero, List.set_cons_succ]
                      refine wpAnyH_ready (rs := [46]) (by kernel_rfl) (by simp) ?_
                      refine AllReadyH.cons (by simp only [List.getElem?_toArray, List.getElem?_cons_zero, List.getElem?_cons_succ]; rfl) ?_ AllReadyH.nil
                      intro K hK
                      go_simp
                      refine (cless_implb _ _ _ _ _ _ false hless.out _).mono ?_
                      rintro e wb ⟨rfl, hbB⟩
                      obtain ⟨hcb, hfb⟩ := bcell hbB
                      have hzb := hbB.size
                      try simp at hzb
                      have hxb : Below wr.heap.size wr wb := chain hxa hbB
                      have ygb : gx < wb.heap.size := by omega
                      have y0b : GX i < wb.heap.size := by omega
                      have y3b : GX q < wb.heap.size := by omega
                      go_wp2_with fail
                      refine hK.out _ _ ?_ (fun hHeld => ?_)
                      · (((try dsimp only); (repeat' apply And.intro) <;> first | (go_keep; done) | (simp (disch := first | omega | (simp <;> omega) | fail) [*]; done) | fail))
                      clear hK K
                      try simp only [Act.put, List.setIfInBounds_toArray, List.set_cons_zero, List.set_cons_succ]
                      refine wpAnyH_take (i := 47) (by simp only [List.getElem?_toArray, List.getElem?_cons_zero, List.getElem?_cons_succ]; rfl) (by kernel_rfl) (by kernel_rfl) (by kernel_rfl) (by intro _ _ _ h; exact h) (Or.inl ⟨by rfl, fun w hSw => by (dsimp only at hSw; go_simp; (try with_reducible rfl))⟩) (by assumption) ?_
                      simp only [Act.put, List.setIfInBounds_toArray, List.set_cons_zero, List.set_cons_succ]
                      refine wpAnyH_take (i := 48) (by simp only [List.getElem?_toArray, List.getElem?_cons_zero, List.getElem?_cons_succ]; rfl) (by kernel_rfl) (by kernel_rfl) (by kernel_rfl) (by intro _ _ _ h; exact h) (Or.inl ⟨by rfl, fun w hSw => by (dsimp only at hSw; go_simp; (try with_reducible rfl))⟩) (by assumption) ?_
                      simp only [Act.put, List.setIfInBounds_toArray, List.set_cons_zero, List.set_cons_succ]
                      refine wpAnyH_take (i := 49) (by simp only [List.getElem?_toArray, List.getElem?_cons_zero, List.getElem?_cons_succ]; rfl) (by kernel_rfl) (by kernel_rfl) (by kernel_rfl) (by intro _ _ _ h; exact h) (Or.inl ⟨by rfl, fun w hSw => by (dsimp only at hSw; go_simp; (try with_reducible rfl))⟩) (by assumption) ?_
                      simp only [Act.put, List.setIfInBounds_toArray, List.set_cons_zero, List.set_cons_succ]
                      refine wpAnyH_take (i := 50) (by simp only [List.getElem?_toArray, List.getElem?_cons_zero, List.getElem?_cons_succ]; rfl) (by kernel_rfl) (by kernel_rfl) (by kernel_rfl) (by intro _ _ _ h; exact h) (Or.inl ⟨by rfl, fun w hSw => by (dsimp only at hSw; go_simp; (try with_reducible rfl))⟩) (by assumption) ?_
                      simp only [Act.put, List.setIfInBounds_toArray, List.set_cons_zero, List.set_cons_succ]
                      refine wpAnyH_done (by kernel_rfl) ?_ _
                      go_wp2_with fail
                      go_meet
                      case rel => exact ⟨rfl, hxb⟩
                case rest =>
                  obtain ⟨rfl, hb6⟩ := hcut
                  go_wp2
                  go_roundw
                  case rel => exact ⟨i + 1, by omega, by go_num, hb5.trans (hb6.mono hb5.size)⟩
                  case measure => simp [intOf]; omega
        · have hi1 : ¬ (i : Int) < (L.length : Int) := by omega
          go_wp2
          go_ret
          exact ⟨rfl, chain hx hb4⟩

end sortLaw

end Go.Proofs.Ytgeipficjfaocaa
