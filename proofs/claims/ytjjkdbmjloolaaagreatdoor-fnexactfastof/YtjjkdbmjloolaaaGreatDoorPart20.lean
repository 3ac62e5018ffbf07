/-
  A part of the proof: KeyVar, KeyI, ReadS, ReadS2, ReadI.
-/
import Derived.Test.YtjjkdbmjloolaaaGreatDoorPart2
import Derived.Test.YtjjkdbmjloolaaaGreatDoorShelf
import Derived.Test.YtjjkdbmjloolaaaGreatDoorPart1
import Derived.Test.YtjjkdbmjloolaaaGreatDoorPart5
import Derived.Laws.DeepStrings4
import Derived.Test.YtjjkdbmjloolaaaGreatDoorPart11

namespace Go.Proofs.YtjjkdbmjloolaaaGreatDoor
open Go.ChangeShapes Go.WideShapes Go.ChangeAt Go.RowKit
theorem var_below {P : Program} {w w' : World} {name : String} {v : Array Value} (h : w.var? P name = some v) (hb : Below w.heap.size w w') : w'.var? P name = some v := by
 unfold World.var? at h ⊢
 cases hg : P.globalNamed name with
 | none => rw [hg] at h; cases h
 | some g =>
  rw [hg] at h
  have h2 : (match w.heap[g]? with | some (.cells cs _ _) => some cs | _ => none) = some v := h
  have hlt : g < w.heap.size := by
   by_cases hl : g < w.heap.size
   · exact hl
   · rw [Array.getElem?_eq_none (by omega)] at h2; cases h2
  show (match w'.heap[g]? with | some (.cells cs _ _) => some cs | _ => none) = some v
  rw [hb.block g hlt]; exact h2
def PowAt (w : World) : Prop := Lib.TabIs Tryz.prog w "internal/strconv.uint64pow10" .u64 Lib.pow10Tab
theorem PowAt.below {w w' : World} (h : PowAt w) (hb : Below w.heap.size w w') : PowAt w' := var_below h hb
def ErrAt (w : World) : Prop := (∃ tp p, w.var? Tryz.prog "strconv.ErrSyntax" = some #[.iface tp p]) ∧ (∃ tp p, w.var? Tryz.prog "strconv.ErrRange" = some #[.iface tp p])
theorem ErrAt.below {w w' : World} (h : ErrAt w) (hb : Below w.heap.size w w') : ErrAt w' := by
 obtain ⟨⟨a, b, h1⟩, ⟨c, d, h2⟩⟩ := h
 exact ⟨⟨a, b, var_below h1 hb⟩, ⟨c, d, var_below h2 hb⟩⟩
theorem grow_below (w : World) (os : Array Obj) : Below w.heap.size w (Sort.grow w os) :=
 ⟨rfl, rfl, rfl, by unfold Sort.grow; simp, fun k hk => by
  unfold Sort.grow
  show (w.heap ++ os)[k]? = w.heap[k]?
  rw [Array.getElem?_append_left hk]⟩
theorem format_lib (n : Int) (h0 : -9223372036854775808 ≤ n) (h1 : n ≤ 9223372036854775807) (w : World) (hp : PowAt w) :
  Calls Tryz.prog 190 #[.int .i64 n, .int .i64 10] w fun e w' => e = .returned (.string ⟨(Lib.itoa n).toArray⟩) ∧ Below w.heap.size w w' := by
 refine (Tryz.strconv_FormatInt_10 n h0 h1 w hp).mono ?_
 rintro e w' ⟨rfl, k, os, rfl⟩
 exact ⟨rfl, (belowN (Below.refl _ _) k).trans (grow_below (w.drewN k) os)⟩
theorem joined_impl (bk c : Nat) (xs : List ByteArray) (sep : ByteArray) (w : World) (hcells : ∀ (j : Nat) x, xs[j]? = some x → w.cell? ⟨bk, 0 + j, none⟩ = some (.string x)) (hbk : bk < w.heap.size) (hN : xs.length ≤ 140737488355328) (hcap : xs.length ≤ c) (hlen : (Lib.join (xs.map (·.data.toList)) sep.data.toList).length ≤ 140737488355328) (y : ByteArray) (hy : (⟨(Lib.join (xs.map (·.data.toList)) sep.data.toList).toArray⟩ : ByteArray) = y) :
  Calls Tryz.prog 191 #[.string sep, .slice (some ⟨bk, 0, none⟩) xs.length c] w fun e w' => e = .returned (.string y) ∧ Below w.heap.size w w' := by
 subst hy
 go_enter Tryz.func191, Tryz.ntmps191
 go_wp2_with fail
 refine (Tryz.strings_Join bk 0 c xs sep _ hcells hbk hN hcap hlen).mono ?_
 rintro e w1 ⟨rfl, hb⟩
 go_wp2
 go_ret
 exact ⟨rfl, hb⟩
theorem st0 (w : World) :
  Calls Tryz.prog 181 #[.iface 249 (.agg #[])] w fun e w' => e = .returned (.string ⟨wNone.toArray⟩) ∧ Below w.heap.size w w' := by
 have h1 := asserts_noneShape
 go_enter Tryz.func181, Tryz.ntmps181
 go_wp2
 go_ret
 exact ⟨rfl, by go_grown⟩
theorem st1 (n : Int) (h0 : -9223372036854775808 ≤ n) (h1 : n ≤ 9223372036854775807) (w : World) (hp : PowAt w) :
  Calls Tryz.prog 181 #[.iface 251 (.agg #[.int .i64 n])] w fun e w' => e = .returned (.string ⟨(Lib.itoa n).toArray⟩) ∧ Below w.heap.size w w' := by
 obtain ⟨a1, a2⟩ := asserts_numberShape
 have HP := hid hp
 clear hp
 go_enter Tryz.func181, Tryz.ntmps181
 go_wp2_with fail
 refine (format_lib n h0 h1 _ (HP.out.below (by go_grown))).mono ?_
 rintro e w1 ⟨rfl, hb⟩
 go_wp2
 go_ret
 exact ⟨rfl, chainA hb⟩
theorem st3 (n : Int) (w : World) :
  Calls Tryz.prog 181 #[.iface 254 (.agg #[.int .i64 n])] w fun e w' => e = .returned (.string ⟨(if n = 1 then wYes else wNo).toArray⟩) ∧ Below w.heap.size w w' := by
 obtain ⟨a1, a2, a3, a4⟩ := asserts_truthShape
 by_cases hn : n = 1
 · subst hn
  go_enter Tryz.func181, Tryz.ntmps181
  go_wp2
  go_ret
  exact ⟨rfl, by go_grown⟩
 · rw [if_neg hn]
  go_enter Tryz.func181, Tryz.ntmps181
  go_wp2
  go_ret
  exact ⟨rfl, by go_grown⟩
theorem st3b (n : Int) (y : ByteArray) (hy : (⟨(if n = 1 then wYes else wNo).toArray⟩ : ByteArray) = y) (w : World) :
  Calls Tryz.prog 181 #[.iface 254 (.agg #[.int .i64 n])] w fun e w' => e = .returned (.string y) ∧ Below w.heap.size w w' := by
 subst hy; exact st3 n w
theorem st2 (t : ByteArray) (ht : t.size ≤ 1000) (w : World) :
  Calls Tryz.prog 181 #[.iface 253 (.agg #[.string t])] w fun e w' => e = .returned (.string ⟨(39 :: (t.data.toList ++ [39])).toArray⟩) ∧ Below w.heap.size w w' := by
 obtain ⟨a1, a2, a3⟩ := asserts_textShape
 obtain ⟨y, hy⟩ : ∃ y : ByteArray, (⟨(39 :: (t.data.toList ++ [39])).toArray⟩ : ByteArray) = y := ⟨_, rfl⟩
 rw [hy]
 go_enter Tryz.func181, Tryz.ntmps181
 go_wp2_with fail
 refine (joined_impl _ _ [⟨#[39]⟩, t, ⟨#[39]⟩] ⟨#[]⟩ _ ?_ (by simp) (by simp) (by simp) ?_ y (by rw [← hy]; simp [Lib.join_cons, Lib.joinTail])).mono ?_
 · intro j x hj
  match j, hj with
  | 0, hj => simp at hj; subst hj; simp [go_sem]
  | 1, hj => simp at hj; subst hj; simp [go_sem]
  | 2, hj => simp at hj; subst hj; simp [go_sem]
 · have hsz := Lib.size_eq t
  simp [Lib.join_cons, Lib.joinTail]
  omega
 rintro e w1 ⟨rfl, hb⟩
 go_wp2
 go_ret
 exact ⟨rfl, chainAA hb⟩
theorem ctext_impl (k n : Int) (t : ByteArray) (w : World) (ht : t.size ≤ maxLen) (hp : PowAt w) :
  Calls Tryz.prog 161 #[.agg #[.int .i64 k, .int .i64 n, .string t]] w fun e w' => e = .returned (.string (cellT k n t)) ∧ Below w.heap.size w w' := by
 have HP := hid hp
 clear hp
 cases ho : okB k n t with
 | false =>
  rw [cellT_no ho]
  go_enter Tryz.func161, Tryz.ntmps161
  go_wp2_with fail
  refine (ok_implb _ _ _ _ ho _ ht).mono ?_
  rintro e w1 ⟨rfl, hb⟩
  go_wp2
  go_ret
  exact ⟨rfl, by first | exact hb | exact chainA hb⟩
 | true =>
  have hc : cellT k n t = ⟨(l4T k n t.data.toList).toArray⟩ := by unfold cellT; rw [if_pos ho]
  rw [hc]
  clear hc
  rcases okB_kind ho with rfl | rfl | rfl | rfl
  · go_enter Tryz.func161, Tryz.ntmps161
   go_wp2_with fail
   refine (ok_implb _ _ _ _ ho _ ht).mono ?_
   rintro e w1 ⟨rfl, hb⟩
   obtain ⟨a1, b1, c1, d1⟩ := box3 hb
   go_wp2_with fail
   refine (shape0 _ _ _).mono ?_
   rintro e w2 ⟨rfl, hb2⟩
   go_wp2_with fail
   refine (st0 _).mono ?_
   rintro e w3 ⟨rfl, hb3⟩
   go_wp2
   go_ret
   exact ⟨rfl, chain (chain (chainA hb) hb2) hb3⟩
  · have hb := numB_iff.1 (okB_1 ho).1
   go_enter Tryz.func161, Tryz.ntmps161
   go_wp2_with fail
   refine (ok_implb _ _ _ _ ho _ ht).mono ?_
   rintro e w1 ⟨rfl, hb1⟩
   obtain ⟨a1, b1, c1, d1⟩ := box3 hb1
   go_wp2_with fail
   refine (shape1 _ _ _).mono ?_
   rintro e w2 ⟨rfl, hb2⟩
   go_wp2_with fail
   refine (st1 n (by omega) (by omega) _ (HP.out.below (chain (chainA hb1) hb2))).mono ?_
   rintro e w3 ⟨rfl, hb3⟩
   go_wp2
   go_ret
   exact ⟨rfl, chain (chain (chainA hb1) hb2) hb3⟩
  · have h12 : t.size ≤ 1000 := by
    have := (okB_2 ho).2
    unfold textB at this
    rw [Bool.and_eq_true, decide_eq_true_eq] at this
    omega
   go_enter Tryz.func161, Tryz.ntmps161
   go_wp2_with fail
   refine (ok_implb _ _ _ _ ho _ ht).mono ?_
   rintro e w1 ⟨rfl, hb1⟩
   obtain ⟨a1, b1, c1, d1⟩ := box3 hb1
   go_wp2_with fail
   refine (shape2 _ _ _).mono ?_
   rintro e w2 ⟨rfl, hb2⟩
   go_wp2_with fail
   refine (st2 t h12 _).mono ?_
   rintro e w3 ⟨rfl, hb3⟩
   go_wp2
   go_ret
   exact ⟨rfl, chain (chain (chainA hb1) hb2) hb3⟩
  · obtain ⟨y, hy⟩ : ∃ y : ByteArray, (⟨(l4T 3 n t.data.toList).toArray⟩ : ByteArray) = y := ⟨_, rfl⟩
   rw [hy]
   go_enter Tryz.func161, Tryz.ntmps161
   go_wp2_with fail
   refine (ok_implb _ _ _ _ ho _ ht).mono ?_
   rintro e w1 ⟨rfl, hb1⟩
   obtain ⟨a1, b1, c1, d1⟩ := box3 hb1
   go_wp2_with fail
   refine (shape3 _ _ _).mono ?_
   rintro e w2 ⟨rfl, hb2⟩
   go_wp2_with fail
   refine (st3b n y hy _).mono ?_
   rintro e w3 ⟨rfl, hb3⟩
   go_wp2
   go_ret
   exact ⟨rfl, chain (chain (chainA hb1) hb2) hb3⟩
theorem ctext_implb (k n : Int) (t : ByteArray) (y : ByteArray) (hy : cellT k n t = y) (w : World) (ht : t.size ≤ maxLen) (hp : PowAt w) :
  Calls Tryz.prog 161 #[.agg #[.int .i64 k, .int .i64 n, .string t]] w fun e w' => e = .returned (.string y) ∧ Below w.heap.size w w' := by
 subst hy; exact ctext_impl k n t w ht hp
end Go.Proofs.YtjjkdbmjloolaaaGreatDoor
namespace Go.Proofs.YtjjkdbmjloolaaaGreatDoor
open Go.ChangeShapes Go.WideShapes Go.ChangeAt Go.RowKit
attribute [local go_sem ↓] Go.wp_at_zero Go.wp_at_succ
def readR (s : ByteArray) : Int × Int × ByteArray × Bool := match readB s with
 | some (k, n, t) => (k, n, t, true)
 | none => (0, 0, ⟨#[]⟩, false)
theorem set3 {w W : World} {B : Nat} {x y z p q r : Value} (hW : W = ((w.setCell ⟨B, 0, none⟩ x).setCell ⟨B, 1, none⟩ y).setCell ⟨B, 2, none⟩ z) (h : w.cell? ⟨B, 0, none⟩ = some p ∧ w.cell? ⟨B, 1, none⟩ = some q ∧ w.cell? ⟨B, 2, none⟩ = some r) :
  (W.cell? ⟨B, 0, none⟩ = some x ∧ W.cell? ⟨B, 1, none⟩ = some y ∧ W.cell? ⟨B, 2, none⟩ = some z) ∧ W.heap.size = w.heap.size ∧ (∀ D o, D ≠ B → W.cell? ⟨D, o, none⟩ = w.cell? ⟨D, o, none⟩) ∧ (∀ D o, W.frozen? ⟨D, o, none⟩ = w.frozen? ⟨D, o, none⟩) := by
 obtain ⟨h0, h1, h2⟩ := h
 have c1 : ((w.setCell ⟨B, 0, none⟩ x).cell? ⟨B, 1, none⟩) = some q := by rw [cell_off _ _ _ _ _ (by decide)]; exact h1
 have c2 : (((w.setCell ⟨B, 0, none⟩ x).setCell ⟨B, 1, none⟩ y).cell? ⟨B, 2, none⟩) = some r := by rw [cell_off _ _ _ _ _ (by decide), cell_off _ _ _ _ _ (by decide)]; exact h2
 subst hW
 refine ⟨⟨?_, ?_, ?_⟩, by simp, ?_, ?_⟩
 · rw [cell_off _ _ _ _ _ (by decide), cell_off _ _ _ _ _ (by decide), cell_here _ _ _ _ (by rw [h0]; rfl)]
 · rw [cell_off _ _ _ _ _ (by decide), cell_here _ _ _ _ (by rw [c1]; rfl)]
 · rw [cell_here _ _ _ _ (by rw [c2]; rfl)]
 · intro D o hD
  rw [cell_far _ _ _ _ _ _ hD, cell_far _ _ _ _ _ _ hD, cell_far _ _ _ _ _ _ hD]
 · intro D o
  simp
theorem err_some (v : Value) (w : World) : (binOp .eql 84 (.iface 271 v) .nilIface).run Tryz.prog w = .ok (.bool false) w := by kernel_rfl
theorem err_none (w : World) : (binOp .eql 84 .nilIface .nilIface).run Tryz.prog w = .ok (.bool true) w := by kernel_rfl
theorem parse_ok (s : ByteArray) (hs : s.size ≤ 1048576) (v : Int) (h : Lib.parseIntB 64 s.data.toList = .ok v) (w : World) :
  Calls Tryz.prog 179 #[.string s, .int .i64 10, .int .i64 64] w fun e w' => e = .returned (.tuple #[.int .i64 v, .nilIface]) ∧ Below w.heap.size w w' := by
 refine (Tryz.strconv_ParseInt_10_at64_ok s (by omega) v h w).mono ?_
 rintro e w' ⟨rfl, h⟩
 refine ⟨rfl, ?_⟩
 rcases h with rfl | ⟨t, rfl⟩
 · exact Below.refl _ _
 · exact Lib.bytesWorld_below _ _ _
theorem parse_no (s : ByteArray) (hs : s.size ≤ 1048576) (h : ∀ v, Lib.parseIntB 64 s.data.toList ≠ .ok v) (w : World) (he : ErrAt w) :
  Calls Tryz.prog 179 #[.string s, .int .i64 10, .int .i64 64] w fun e w' => ∃ x N, e = .returned (.tuple #[.int .i64 x, .iface 271 (.pointer (some ⟨N, 0, none⟩))]) ∧ Below w.heap.size w w' := by
 obtain ⟨⟨tp, p, h1⟩, ⟨tq, q, h2⟩⟩ := he
 cases hp : Lib.parseIntB 64 s.data.toList with
 | ok v => exact absurd hp (h v)
 | «syntax» =>
  refine (Tryz.strconv_ParseInt_10_at64_syntax_var s (by omega) hp tp p w h1).mono ?_
  rintro e w' ⟨N, rfl, _, _, hb⟩
  exact ⟨_, N, rfl, hb⟩
 | range =>
  refine (Tryz.strconv_ParseInt_10_at64_range_var s (by omega) hp tq q w h2).mono ?_
  rintro e w' ⟨N, rfl, _, _, hb⟩
  exact ⟨_, N, rfl, hb⟩
set_option maxRecDepth 100000 in
set_option maxHeartbeats 4000000 in
theorem guess_num (s : ByteArray) (hs : s.size ≤ 1048576) (w : World) (h1 : ¬ s.data.toList = wNone) (h2 : ¬ s.data.toList = wYes) (h3 : ¬ s.data.toList = wNo) (h4 : s.data.toList.head? ≠ some 39) (v : Int) (hv : Lib.parseIntB 64 s.data.toList = .ok v) :
  Calls Tryz.prog 160 #[.string s] w fun e w' => e = .returned (.tuple #[.agg #[.int .i64 1, .int .i64 v, .string ⟨#[]⟩], .bool true]) ∧ Below w.heap.size w w' := by
 have q1 : (s.toList == [110, 111, 110, 101]) = false := by rw [Lib.toList_data]; exact beq_eq_false_iff_ne.2 h1
 have q2 : (s.toList == [121, 101, 115]) = false := by rw [Lib.toList_data]; exact beq_eq_false_iff_ne.2 h2
 have q3 : (s.toList == [110, 111]) = false := by rw [Lib.toList_data]; exact beq_eq_false_iff_ne.2 h3
 have hpre : Lib.hasPrefix s.data.toList [39] = false := by
  unfold Lib.hasPrefix
  cases hd : s.data.toList with
  | nil => rfl
  | cons c r =>
   rw [hd] at h4
   have : (39 : UInt8) ≠ c := fun e => h4 (by simp [e])
   simp [List.isPrefixOf, this]
 have hV := hid hv
 clear h1 h2 h3 h4 hv
 have hen := err_none
 go_enter Tryz.func160, Tryz.ntmps160
 go_wp2_with fail
 refine (Tryz.strings_HasPrefix _ _ _).mono ?_
 rintro e w1 ⟨rfl, rfl⟩
 rw [show (⟨#[39]⟩ : ByteArray).data.toList = [39] from rfl, hpre]
 go_wp2_with fail
 refine (parse_ok s hs v hV.out _).mono ?_
 rintro e w2 ⟨rfl, hb2⟩
 obtain ⟨⟨a1, b1, c1, d1⟩, f1, f2, f3⟩ := box3F hb2
 go_wp2_with fail
 refine wp_region_any (by kernel_rfl) (show wpAny _ _ _ _ _ _ _ w2.drew from ?_)
 refine tkW 0 ?_
 simp only [Act.put, ptT, ptZ, ptS]
 refine tkW 1 ?_
 simp only [Act.put, ptT, ptZ, ptS]
 refine tkW 3 ?_
 simp only [Act.put, ptT, ptZ, ptS]
 refine tkW 4 ?_
 simp only [Act.put, ptT, ptZ, ptS]
 refine wpAny_ready (rs := [2]) (by kernel_rfl) (by simp) ?_
 refine AllReady.cons (by simp only [List.getElem?_toArray, List.getElem?_cons_zero, List.getElem?_cons_succ]; rfl) ?_ AllReady.nil
 intro K hK
 go_simp
 refine (cell1 _ _).mono ?_
 rintro e w3 ⟨rfl, hb3⟩
 have hb3' := undrew hb3
 obtain ⟨x1, x2, x3, x4⟩ := later3 (B := w.heap.size) hb3' ⟨a1, b1, c1, d1⟩
 obtain ⟨y1, y2, y3⟩ := frozen3 (B := w.heap.size) hb3' d1 ⟨f1, f2, f3⟩
 clear a1 b1 c1 f1 f2 f3 hb3
 refine hK _ _ ?_
 clear hK K
 try simp only [Act.put, ptT, ptZ, ptS]
 refine wpAny_ready (rs := [5]) (by kernel_rfl) (by simp) ?_
 refine AllReady.cons (by simp only [List.getElem?_toArray, List.getElem?_cons_zero, List.getElem?_cons_succ]; rfl) ?_ AllReady.nil
 intro K hK
 go_simp
 refine hK _ _ ?_
 clear hK K
 try simp only [Act.put, ptT, ptZ, ptS]
 refine tkW 6 ?_
 simp only [Act.put, ptT, ptZ, ptS]
 refine wpAny_done (by kernel_rfl) ?_ _
 go_wp2_with fail
 generalize hZ : ((w3.setCell ⟨w.heap.size, 0, none⟩ _).setCell ⟨w.heap.size, 1, none⟩ _).setCell ⟨w.heap.size, 2, none⟩ _ = Z
 obtain ⟨⟨z1, z2, z3⟩, _, _, _⟩ := set3 hZ.symm ⟨x1, x2, x3⟩
 refine bodyPost_ret (by simp [results, Tryz.results160, go_sem, z1, z2, z3]; try rfl) rfl ?_
 exact ⟨rfl, by rw [← hZ]; exact (((chain (chainA hb2) hb3').setCell (Nat.le_refl _) _).setCell (Nat.le_refl _) _).setCell (Nat.le_refl _) _⟩
set_option maxRecDepth 100000 in
set_option maxHeartbeats 4000000 in
theorem guess_none (s : ByteArray) (hs : s.size ≤ 1048576) (w : World) (h1 : ¬ s.data.toList = wNone) (h2 : ¬ s.data.toList = wYes) (h3 : ¬ s.data.toList = wNo) (h4 : s.data.toList.head? ≠ some 39) (hv : ∀ v, Lib.parseIntB 64 s.data.toList ≠ .ok v) (he : ErrAt w) :
  Calls Tryz.prog 160 #[.string s] w fun e w' => ∃ x, e = .returned (.tuple #[.agg #[.int .i64 1, .int .i64 x, .string ⟨#[]⟩], .bool false]) ∧ Below w.heap.size w w' := by
 have q1 : (s.toList == [110, 111, 110, 101]) = false := by rw [Lib.toList_data]; exact beq_eq_false_iff_ne.2 h1
 have q2 : (s.toList == [121, 101, 115]) = false := by rw [Lib.toList_data]; exact beq_eq_false_iff_ne.2 h2
 have q3 : (s.toList == [110, 111]) = false := by rw [Lib.toList_data]; exact beq_eq_false_iff_ne.2 h3
 have hpre : Lib.hasPrefix s.data.toList [39] = false := by
  unfold Lib.hasPrefix
  cases hd : s.data.toList with
  | nil => rfl
  | cons c r =>
   rw [hd] at h4
   have : (39 : UInt8) ≠ c := fun e => h4 (by simp [e])
   simp [List.isPrefixOf, this]
 have hV := hid hv
 have hE := hid he
 clear h1 h2 h3 h4 hv he
 have hen := err_some
 go_enter Tryz.func160, Tryz.ntmps160
 go_wp2_with fail
 refine (Tryz.strings_HasPrefix _ _ _).mono ?_
 rintro e w1 ⟨rfl, rfl⟩
 rw [show (⟨#[39]⟩ : ByteArray).data.toList = [39] from rfl, hpre]
 go_wp2_with fail
 refine (parse_no s hs hV.out _ (hE.out.below ((Below.refl _ _).alloc (Nat.le_refl _) _))).mono ?_
 rintro e w2 ⟨x, N, rfl, hb2⟩
 obtain ⟨⟨a1, b1, c1, d1⟩, f1, f2, f3⟩ := box3F hb2
 go_wp2_with fail
 refine wp_region_any (by kernel_rfl) (show wpAny _ _ _ _ _ _ _ w2.drew from ?_)
 refine tkW 0 ?_
 simp only [Act.put, ptT, ptZ, ptS]
 refine tkW 1 ?_
 simp only [Act.put, ptT, ptZ, ptS]
 refine tkW 3 ?_
 simp only [Act.put, ptT, ptZ, ptS]
 refine tkW 4 ?_
 simp only [Act.put, ptT, ptZ, ptS]
 refine wpAny_ready (rs := [2]) (by kernel_rfl) (by simp) ?_
 refine AllReady.cons (by simp only [List.getElem?_toArray, List.getElem?_cons_zero, List.getElem?_cons_succ]; rfl) ?_ AllReady.nil
 intro K hK
 go_simp
 refine (cell1 _ _).mono ?_
 rintro e w3 ⟨rfl, hb3⟩
 have hb3' := undrew hb3
 obtain ⟨x1, x2, x3, x4⟩ := later3 (B := w.heap.size) hb3' ⟨a1, b1, c1, d1⟩
 obtain ⟨y1, y2, y3⟩ := frozen3 (B := w.heap.size) hb3' d1 ⟨f1, f2, f3⟩
 clear a1 b1 c1 f1 f2 f3 hb3
 refine hK _ _ ?_
 clear hK K
 try simp only [Act.put, ptT, ptZ, ptS]
 refine wpAny_ready (rs := [5]) (by kernel_rfl) (by simp) ?_
 refine AllReady.cons (by simp only [List.getElem?_toArray, List.getElem?_cons_zero, List.getElem?_cons_succ]; rfl) ?_ AllReady.nil
 intro K hK
 go_simp
 refine hK _ _ ?_
 clear hK K
 try simp only [Act.put, ptT, ptZ, ptS]
 refine tkW 6 ?_
 simp only [Act.put, ptT, ptZ, ptS]
 refine wpAny_done (by kernel_rfl) ?_ _
 go_wp2_with fail
 generalize hZ : ((w3.setCell ⟨w.heap.size, 0, none⟩ _).setCell ⟨w.heap.size, 1, none⟩ _).setCell ⟨w.heap.size, 2, none⟩ _ = Z
 obtain ⟨⟨z1, z2, z3⟩, _, _, _⟩ := set3 hZ.symm ⟨x1, x2, x3⟩
 refine bodyPost_ret (by simp [results, Tryz.results160, go_sem, z1, z2, z3]; try rfl) rfl ?_
 exact ⟨x, rfl, by rw [← hZ]; exact (((chain (chainA hb2) hb3').setCell (Nat.le_refl _) _).setCell (Nat.le_refl _) _).setCell (Nat.le_refl _) _⟩
set_option maxRecDepth 100000 in
set_option maxHeartbeats 4000000 in
theorem guess_quote (s : ByteArray) (hs : s.size ≤ 1048576) (w : World) (h4 : s.data.toList.head? = some 39) (t : ByteArray) (ht : t.data.toList = innerL s.data.toList) :
  Calls Tryz.prog 160 #[.string s] w fun e w' => e = .returned (.tuple #[.agg #[.int .i64 2, .int .i64 0, .string t], .bool true]) ∧ Below w.heap.size w w' := by
 have h1 : ¬ s.data.toList = wNone := fun e => by rw [e] at h4; cases h4
 have h2 : ¬ s.data.toList = wYes := fun e => by rw [e] at h4; cases h4
 have h3 : ¬ s.data.toList = wNo := fun e => by rw [e] at h4; cases h4
 have q1 : (s.toList == [110, 111, 110, 101]) = false := by rw [Lib.toList_data]; exact beq_eq_false_iff_ne.2 h1
 have q2 : (s.toList == [121, 101, 115]) = false := by rw [Lib.toList_data]; exact beq_eq_false_iff_ne.2 h2
 have q3 : (s.toList == [110, 111]) = false := by rw [Lib.toList_data]; exact beq_eq_false_iff_ne.2 h3
 have hpre : Lib.hasPrefix s.data.toList [39] = true := by
  unfold Lib.hasPrefix
  cases hd : s.data.toList with
  | nil => rw [hd] at h4; cases h4
  | cons c r =>
   rw [hd] at h4
   have : c = 39 := by simpa using h4
   simp [List.isPrefixOf, this]
 obtain ⟨u, hu⟩ : ∃ u : ByteArray, (⟨(Lib.trimPrefix s.data.toList [39]).toArray⟩ : ByteArray) = u := ⟨_, rfl⟩
 have hul : u.data.toList = Lib.trimPrefix s.data.toList [39] := by rw [← hu]
 have hus : u.size ≤ 9223372036854775807 := by
  have hle : (Lib.trimPrefix s.data.toList [39]).length ≤ s.data.toList.length := by unfold Lib.trimPrefix; split <;> simp
  rw [Lib.size_eq, hul]
  rw [Lib.size_eq] at hs
  omega
 have hut : (⟨(Lib.trimSuffix u.data.toList [39]).toArray⟩ : ByteArray) = t := bytes_ext (by rw [bytes_mk, hul, ht]; rfl)
 have HU := hid hu
 have HT := hid hut
 clear h1 h2 h3 h4 ht hul hu hut
 go_enter Tryz.func160, Tryz.ntmps160
 go_wp2_with fail
 refine (Tryz.strings_HasPrefix _ _ _).mono ?_
 rintro e w1 ⟨rfl, rfl⟩
 rw [show (⟨#[39]⟩ : ByteArray).data.toList = [39] from rfl, hpre]
 go_wp2_with fail
 refine (Tryz.strings_TrimPrefix _ _ _).mono ?_
 rintro e w2 ⟨rfl, rfl⟩
 rw [show (⟨#[39]⟩ : ByteArray).data.toList = [39] from rfl, HU.out]
 go_wp2_with fail
 refine (Tryz.strings_TrimSuffix _ _ _ hus).mono ?_
 rintro e w3 ⟨rfl, rfl⟩
 rw [show (⟨#[39]⟩ : ByteArray).data.toList = [39] from rfl, HT.out]
 go_wp2_with fail
 refine (cell2 _ _).mono ?_
 rintro e w4 ⟨rfl, hb4⟩
 obtain ⟨⟨a1, b1, c1, d1⟩, f1, f2, f3⟩ := box3F hb4
 go_wp2
 generalize hZ : ((w4.setCell ⟨w.heap.size, 0, none⟩ _).setCell ⟨w.heap.size, 1, none⟩ _).setCell ⟨w.heap.size, 2, none⟩ _ = Z
 obtain ⟨⟨z1, z2, z3⟩, _, _, _⟩ := set3 hZ.symm ⟨a1, b1, c1⟩
 refine bodyPost_ret (by simp [results, Tryz.results160, go_sem, z1, z2, z3]; try rfl) rfl ?_
 exact ⟨rfl, by rw [← hZ]; exact (((chainA hb4).setCell (Nat.le_refl _) _).setCell (Nat.le_refl _) _).setCell (Nat.le_refl _) _⟩
set_option maxRecDepth 100000 in
set_option maxHeartbeats 4000000 in
theorem guess_word (s : ByteArray) (w : World) (k n : Int) (h : (s.data.toList = wNone ∧ k = 0 ∧ n = 0) ∨ (s.data.toList = wYes ∧ k = 3 ∧ n = 1) ∨ (s.data.toList = wNo ∧ k = 3 ∧ n = 0)) :
  Calls Tryz.prog 160 #[.string s] w fun e w' => e = .returned (.tuple #[.agg #[.int .i64 k, .int .i64 n, .string ⟨#[]⟩], .bool true]) ∧ Below w.heap.size w w' := by
 rcases h with ⟨h, rfl, rfl⟩ | ⟨h, rfl, rfl⟩ | ⟨h, rfl, rfl⟩
 · have e : s = ⟨wNone.toArray⟩ := bytes_ext h
  subst e
  go_enter Tryz.func160, Tryz.ntmps160
  go_wp2_with fail
  refine (cell0 _).mono ?_
  rintro e w4 ⟨rfl, hb4⟩
  obtain ⟨⟨a1, b1, c1, d1⟩, f1, f2, f3⟩ := box3F hb4
  go_wp2
  generalize hZ : ((w4.setCell ⟨w.heap.size, 0, none⟩ _).setCell ⟨w.heap.size, 1, none⟩ _).setCell ⟨w.heap.size, 2, none⟩ _ = Z
  obtain ⟨⟨z1, z2, z3⟩, _, _, _⟩ := set3 hZ.symm ⟨a1, b1, c1⟩
  refine bodyPost_ret (by simp [results, Tryz.results160, go_sem, z1, z2, z3]; try rfl) rfl ?_
  exact ⟨rfl, by rw [← hZ]; exact (((chainA hb4).setCell (Nat.le_refl _) _).setCell (Nat.le_refl _) _).setCell (Nat.le_refl _) _⟩
 · have e : s = ⟨wYes.toArray⟩ := bytes_ext h
  subst e
  go_enter Tryz.func160, Tryz.ntmps160
  go_wp2_with fail
  refine (truth_implb _ 1 rfl _).mono ?_
  rintro e w4 ⟨rfl, hb4⟩
  obtain ⟨⟨a1, b1, c1, d1⟩, f1, f2, f3⟩ := box3F hb4
  go_wp2
  generalize hZ : ((w4.setCell ⟨w.heap.size, 0, none⟩ _).setCell ⟨w.heap.size, 1, none⟩ _).setCell ⟨w.heap.size, 2, none⟩ _ = Z
  obtain ⟨⟨z1, z2, z3⟩, _, _, _⟩ := set3 hZ.symm ⟨a1, b1, c1⟩
  refine bodyPost_ret (by simp [results, Tryz.results160, go_sem, z1, z2, z3]; try rfl) rfl ?_
  exact ⟨rfl, by rw [← hZ]; exact (((chainA hb4).setCell (Nat.le_refl _) _).setCell (Nat.le_refl _) _).setCell (Nat.le_refl _) _⟩
 · have e : s = ⟨wNo.toArray⟩ := bytes_ext h
  subst e
  go_enter Tryz.func160, Tryz.ntmps160
  go_wp2_with fail
  refine (truth_implb _ 0 rfl _).mono ?_
  rintro e w4 ⟨rfl, hb4⟩
  obtain ⟨⟨a1, b1, c1, d1⟩, f1, f2, f3⟩ := box3F hb4
  go_wp2
  generalize hZ : ((w4.setCell ⟨w.heap.size, 0, none⟩ _).setCell ⟨w.heap.size, 1, none⟩ _).setCell ⟨w.heap.size, 2, none⟩ _ = Z
  obtain ⟨⟨z1, z2, z3⟩, _, _, _⟩ := set3 hZ.symm ⟨a1, b1, c1⟩
  refine bodyPost_ret (by simp [results, Tryz.results160, go_sem, z1, z2, z3]; try rfl) rfl ?_
  exact ⟨rfl, by rw [← hZ]; exact (((chainA hb4).setCell (Nat.le_refl _) _).setCell (Nat.le_refl _) _).setCell (Nat.le_refl _) _⟩
set_option maxRecDepth 100000 in
set_option maxHeartbeats 4000000 in
theorem read_by (s : ByteArray) (w : World) (k n : Int) (t : ByteArray) (ht : t.size ≤ maxLen) (hp : PowAt w) (same : Bool) (hsame : ((cellT k n t).toList == s.toList) = same)
  (hg : ∀ w', Below w.heap.size w w' → Calls Tryz.prog 160 #[.string s] w' fun e w'' => e = .returned (.tuple #[.agg #[.int .i64 k, .int .i64 n, .string t], .bool true]) ∧ Below w'.heap.size w' w'') :
  Calls Tryz.prog 139 #[.string s] w fun e w' => e = .returned (.tuple #[.agg #[.int .i64 (if same = true then k else 0), .int .i64 (if same = true then n else 0), .string (if same = true then t else ⟨#[]⟩)], .bool same]) ∧ Below w.heap.size w w' := by
 obtain ⟨y, hy⟩ : ∃ y, cellT k n t = y := ⟨_, rfl⟩
 rw [hy] at hsame
 have HP := hid hp
 have HY := hid hy
 have HG := hid hg
 clear hp hy hg
 cases same
 · rw [if_neg (by decide), if_neg (by decide), if_neg (by decide)]
  go_enter Tryz.func139, Tryz.ntmps139
  go_wp2_with fail
  refine (HG.out _ ((Below.refl _ _).alloc (Nat.le_refl _) _)).mono ?_
  rintro e w1 ⟨rfl, hb1⟩
  obtain ⟨⟨a1, b1, c1, d1⟩, f1, f2, f3⟩ := box3F hb1
  go_wp2_with fail
  refine (ctext_implb _ _ _ y HY.out _ ht (HP.out.below (chain (chainA hb1) ((Below.refl _ _).alloc (Nat.le_refl _) _)))).mono ?_
  rintro e w2 ⟨rfl, hb2⟩
  obtain ⟨p1, p2, p3, p4⟩ := box3 hb2
  obtain ⟨x1, x2, x3, x4⟩ := later3 (B := w.heap.size) (chainA hb2) ⟨a1, b1, c1, d1⟩
  obtain ⟨y1, y2, y3⟩ := frozen3 (B := w.heap.size) (chainA hb2) d1 ⟨f1, f2, f3⟩
  clear a1 b1 c1 f1 f2 f3
  go_wp2
  generalize hZ : ((w2.setCell ⟨w.heap.size, 0, none⟩ _).setCell ⟨w.heap.size, 1, none⟩ _).setCell ⟨w.heap.size, 2, none⟩ _ = Z
  obtain ⟨⟨z1, z2, z3⟩, _, _, _⟩ := set3 hZ.symm ⟨x1, x2, x3⟩
  refine bodyPost_ret (by simp [results, Tryz.results139, go_sem, z1, z2, z3]; try rfl) rfl ?_
  exact ⟨rfl, by rw [← hZ]; exact (((chain (chainA hb1) (chainA hb2)).setCell (Nat.le_refl _) _).setCell (Nat.le_refl _) _).setCell (Nat.le_refl _) _⟩
 · rw [if_pos rfl, if_pos rfl, if_pos rfl]
  go_enter Tryz.func139, Tryz.ntmps139
  go_wp2_with fail
  refine (HG.out _ ((Below.refl _ _).alloc (Nat.le_refl _) _)).mono ?_
  rintro e w1 ⟨rfl, hb1⟩
  obtain ⟨⟨a1, b1, c1, d1⟩, f1, f2, f3⟩ := box3F hb1
  go_wp2_with fail
  refine (ctext_implb _ _ _ y HY.out _ ht (HP.out.below (chain (chainA hb1) ((Below.refl _ _).alloc (Nat.le_refl _) _)))).mono ?_
  rintro e w2 ⟨rfl, hb2⟩
  obtain ⟨p1, p2, p3, p4⟩ := box3 hb2
  obtain ⟨x1, x2, x3, x4⟩ := later3 (B := w.heap.size) (chainA hb2) ⟨a1, b1, c1, d1⟩
  obtain ⟨y1, y2, y3⟩ := frozen3 (B := w.heap.size) (chainA hb2) d1 ⟨f1, f2, f3⟩
  clear a1 b1 c1 f1 f2 f3
  go_wp2
  generalize hZ : ((w2.setCell ⟨w.heap.size, 0, none⟩ _).setCell ⟨w.heap.size, 1, none⟩ _).setCell ⟨w.heap.size, 2, none⟩ _ = Z
  obtain ⟨⟨z1, z2, z3⟩, _, _, _⟩ := set3 hZ.symm ⟨x1, x2, x3⟩
  refine bodyPost_ret (by simp [results, Tryz.results139, go_sem, z1, z2, z3]; try rfl) rfl ?_
  exact ⟨rfl, by rw [← hZ]; exact (((chain (chainA hb1) (chainA hb2)).setCell (Nat.le_refl _) _).setCell (Nat.le_refl _) _).setCell (Nat.le_refl _) _⟩
set_option maxRecDepth 100000 in
set_option maxHeartbeats 4000000 in
theorem read_not (s : ByteArray) (w : World)
  (hg : ∀ w', Below w.heap.size w w' → Calls Tryz.prog 160 #[.string s] w' fun e w'' => ∃ x, e = .returned (.tuple #[.agg #[.int .i64 1, .int .i64 x, .string ⟨#[]⟩], .bool false]) ∧ Below w'.heap.size w' w'') :
  Calls Tryz.prog 139 #[.string s] w fun e w' => e = .returned (.tuple #[.agg #[.int .i64 0, .int .i64 0, .string ⟨#[]⟩], .bool false]) ∧ Below w.heap.size w w' := by
 have HG := hid hg
 clear hg
 go_enter Tryz.func139, Tryz.ntmps139
 go_wp2_with fail
 refine (HG.out _ ((Below.refl _ _).alloc (Nat.le_refl _) _)).mono ?_
 rintro e w1 ⟨x, rfl, hb1⟩
 obtain ⟨⟨a1, b1, c1, d1⟩, f1, f2, f3⟩ := box3F hb1
 go_wp2
 generalize hZ : ((w1.setCell ⟨w.heap.size, 0, none⟩ _).setCell ⟨w.heap.size, 1, none⟩ _).setCell ⟨w.heap.size, 2, none⟩ _ = Z
 obtain ⟨⟨z1, z2, z3⟩, z4, _, _⟩ := set3 hZ.symm ⟨a1, b1, c1⟩
 have hbZ : Below w.heap.size w Z := by rw [← hZ]; exact (((chainA hb1).setCell (Nat.le_refl _) _).setCell (Nat.le_refl _) _).setCell (Nat.le_refl _) _
 have hbA : Below Z.heap.size Z (Z.alloc (.cells #[.int .i64 1, .int .i64 x, .string ⟨#[]⟩] 95)) := (Below.refl _ _).alloc (Nat.le_refl _) _
 obtain ⟨u1, u2, u3, _⟩ := later3 (B := w.heap.size) hbA ⟨z1, z2, z3, by omega⟩
 have hbY := chain hbZ hbA
 generalize Z.alloc (.cells #[.int .i64 1, .int .i64 x, .string ⟨#[]⟩] 95) = Y at u1 u2 u3 hbY ⊢
 refine bodyPost_ret (by simp [results, Tryz.results139, go_sem, u1, u2, u3]; try rfl) rfl ?_
 exact ⟨rfl, hbY⟩
theorem same_bytes {y s : ByteArray} (h : y = s) : (y.toList == s.toList) = true := by rw [h]; simp
theorem other_bytes {y s : ByteArray} (h : y ≠ s) : (y.toList == s.toList) = false := by
 rw [beq_eq_false_iff_ne]
 intro e
 exact h (bytes_eq e)
theorem innerL_len (l : List UInt8) : (innerL l).length ≤ l.length := by
 unfold innerL Lib.trimSuffix Lib.trimPrefix
 split <;> split <;> simp <;> omega
theorem readcell_impl (s : ByteArray) (hs : s.size ≤ 1048576) (w : World) (hp : PowAt w) (he : ErrAt w) (k n : Int) (t : ByteArray) (b : Bool) (hR : readR s = (k, n, t, b)) :
  Calls Tryz.prog 139 #[.string s] w fun e w' => e = .returned (.tuple #[.agg #[.int .i64 k, .int .i64 n, .string t], .bool b]) ∧ Below w.heap.size w w' := by
 unfold readR at hR
 cases hB : readB s with
 | some c =>
  obtain ⟨k', n', t'⟩ := c
  rw [hB] at hR
  injection hR with e1 hR; injection hR with e2 hR; injection hR with e3 e4
  subst e1 e2 e3 e4
  obtain ⟨ho, hcs⟩ := readB_some hB
  have ht : t'.size ≤ maxLen := by
   have hl := l4T_len ho
   have e := cellT_ok ho
   rcases okB_kind ho with rfl | rfl | rfl | rfl
   · rw [(okB_0 ho).2]; exact Nat.zero_le _
   · rw [(okB_1 ho).2]; exact Nat.zero_le _
   · have := (okB_2 ho).2
    unfold textB at this
    rw [Bool.and_eq_true, decide_eq_true_eq] at this
    unfold maxLen; omega
   · rw [(okB_3 ho).2]; exact Nat.zero_le _
  have fin := fun hg => read_by s w k' n' t' ht hp true (same_bytes hcs) hg
  rw [if_pos rfl, if_pos rfl, if_pos rfl] at fin
  refine fin ?_
  intro w' _
  rcases guess_text hB with ⟨rfl, rfl, rfl, h⟩ | ⟨rfl, rfl, rfl, h⟩ | ⟨rfl, rfl, rfl, h⟩ | ⟨rfl, rfl, h, hh⟩ | ⟨rfl, rfl, h, hh⟩
  · exact guess_word s w' 0 0 (.inl ⟨h, rfl, rfl⟩)
  · exact guess_word s w' 3 1 (.inr (.inl ⟨h, rfl, rfl⟩))
  · exact guess_word s w' 3 0 (.inr (.inr ⟨h, rfl, rfl⟩))
  · exact guess_quote s hs w' hh t' h
  · have hne : ∀ l : List UInt8, l.head? = some 110 ∨ l.head? = some 121 → ¬ s.data.toList = l := by
    intro l hl e
    rw [← hcs, cellT_ok ho, l4T_1] at e
    obtain ⟨c, r, hc, hx⟩ := itoa_head n'
    rw [← e, hc] at hl
    have : c = 110 ∨ c = 121 := by simpa using hl
    rcases this with rfl | rfl <;> rcases hx with hx | hx <;> exact absurd hx (by decide)
   exact guess_num s hs w' (hne _ (.inl rfl)) (hne _ (.inr rfl)) (hne _ (.inl rfl)) hh n' h
 | none =>
  rw [hB] at hR
  injection hR with e1 hR; injection hR with e2 hR; injection hR with e3 e4
  subst e1 e2 e3 e4
  have hw : ∀ l : List UInt8, (l = wNone ∨ l = wYes ∨ l = wNo) → ¬ s.data.toList = l := by
   intro l hl e
   unfold readB at hB
   rcases hl with rfl | rfl | rfl
   · rw [if_pos e] at hB; cases hB
   · rw [if_neg (by rw [e]; decide), if_pos e] at hB; cases hB
   · rw [if_neg (by rw [e]; decide), if_neg (by rw [e]; decide), if_pos e] at hB; cases hB
  by_cases hq : s.data.toList.head? = some 39
  · have hs0 : s ≠ ⟨#[]⟩ := fun e => by rw [e] at hq; cases hq
   obtain ⟨t', ht'⟩ : ∃ t' : ByteArray, t'.data.toList = innerL s.data.toList := ⟨⟨(innerL s.data.toList).toArray⟩, rfl⟩
   have htl : t'.size ≤ maxLen := by
    rw [Lib.size_eq, ht']
    have := innerL_len s.data.toList
    rw [Lib.size_eq] at hs
    unfold maxLen; omega
   have fin := fun hg => read_by s w 2 0 t' htl hp false (other_bytes (guess_no hB hs0 2 0 t')) hg
   rw [if_neg (by decide), if_neg (by decide), if_neg (by decide)] at fin
   exact fin (fun w' _ => guess_quote s hs w' hq t' ht')
  · cases hv : Lib.parseIntB 64 s.data.toList with
   | ok v =>
    have hs0 : s ≠ ⟨#[]⟩ := fun e => by rw [e] at hv; cases hv
    have fin := fun hg => read_by s w 1 v ⟨#[]⟩ (Nat.zero_le _) hp false (other_bytes (guess_no hB hs0 1 v ⟨#[]⟩)) hg
    rw [if_neg (by decide), if_neg (by decide), if_neg (by decide)] at fin
    exact fin (fun w' _ => guess_num s hs w' (hw _ (.inl rfl)) (hw _ (.inr (.inl rfl))) (hw _ (.inr (.inr rfl))) hq v hv)
   | «syntax» => exact read_not s w (fun w' hb => guess_none s hs w' (hw _ (.inl rfl)) (hw _ (.inr (.inl rfl))) (hw _ (.inr (.inr rfl))) hq (fun v e => by rw [hv] at e; cases e) (he.below hb))
   | range => exact read_not s w (fun w' hb => guess_none s hs w' (hw _ (.inl rfl)) (hw _ (.inr (.inl rfl))) (hw _ (.inr (.inr rfl))) hq (fun v e => by rw [hv] at e; cases e) (he.below hb))
end Go.Proofs.YtjjkdbmjloolaaaGreatDoor
