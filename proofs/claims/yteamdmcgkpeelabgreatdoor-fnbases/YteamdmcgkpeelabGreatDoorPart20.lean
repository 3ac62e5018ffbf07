/-
  A part of the proof: ShowMath, KeyVar, KeyI, RowI, ShowI.
-/
import Derived.Test.YteamdmcgkpeelabGreatDoorPart3
import Derived.Test.YteamdmcgkpeelabGreatDoorPart11
import Derived.Test.YteamdmcgkpeelabGreatDoorPart1
import Derived.Test.YteamdmcgkpeelabGreatDoorShelf
import Derived.Test.YteamdmcgkpeelabGreatDoorPart2
import Derived.Test.YteamdmcgkpeelabGreatDoorPart15

/-
  The text of a base, without any program.
-/
namespace Go.Proofs.YteamdmcgkpeelabGreatDoor

/-- The text of a table, byte by byte. -/
def rowTx (r : List CT) : List UInt8 := [10, 32] ++ (rowT r).data.toList
def headTx (t : TB) : List UInt8 := Lib.join (t.1.data.toList :: rawT t.2.1) [32]
def tabTx (t : TB) : List UInt8 := headTx t ++ [58] ++ t.2.2.flatMap rowTx ++ [10]
def showTx (T : List TB) : List UInt8 := T.flatMap tabTx
/-- The text of a base; empty where it is none. -/
def showB (T : List TB) : ByteArray := if baseB T = true then ⟨(showTx T).toArray⟩ else ⟨#[]⟩
theorem rowTx_take (L : List (List CT)) (k : Nat) (h : k < L.length) : (L.take (k + 1)).flatMap rowTx = (L.take k).flatMap rowTx ++ rowTx L[k] := by
  rw [List.take_succ_eq_append_getElem h, List.flatMap_append]; simp
theorem showTx_take (T : List TB) (k : Nat) (h : k < T.length) : showTx (T.take (k + 1)) = showTx (T.take k) ++ tabTx T[k] := by
  unfold showTx
  rw [List.take_succ_eq_append_getElem h, List.flatMap_append]; simp
theorem flatMap_len {α : Type} (f : α → List UInt8) (c : Nat) (l : List α) (h : ∀ x, x ∈ l → (f x).length ≤ c) : (l.flatMap f).length ≤ l.length * c := by
  induction l with
  | nil => simp
  | cons x l ih =>
    have h1 := h x (by simp)
    have h2 := ih (fun y hy => h y (by simp [hy]))
    rw [List.flatMap_cons, List.length_append, List.length_cons, Nat.add_mul]
    omega
theorem name_len {s : ByteArray} (h : nameB s = true) : s.size ≤ 6 := by
  unfold nameB at h
  simp only [Bool.and_eq_true, decide_eq_true_eq] at h
  have := h.2.2
  omega
theorem tableB_parts {t : TB} (h : tableB t = true) : t.1.size ≤ 6 ∧ t.2.1.length ≤ 6 ∧ (∀ x, x ∈ t.2.1 → x.size ≤ 6) ∧ t.2.2.length ≤ 60 ∧ ∀ r, r ∈ t.2.2 → r.all okC = true ∧ r.length ≤ 6 := by
  have h0 := h
  unfold tableB at h
  simp only [Bool.and_eq_true, decide_eq_true_eq] at h
  obtain ⟨⟨h1, h2, h3⟩, h4⟩ := h
  unfold namesB at h2
  simp only [Bool.and_eq_true, decide_eq_true_eq] at h2
  have hc : t.2.1.length ≤ 6 := by
    have := h2.2
    omega
  refine ⟨name_len h1, hc, ?_, by omega, fun r hr => ?_⟩
  · intro x hx
    have hd := h2.1
    unfold namesD at hd
    rw [Bool.and_eq_true] at hd
    exact name_len (List.all_eq_true.1 hd.1 x hx)
  · have := List.all_eq_true.1 h4 _ hr
    unfold rowOk at this
    simp only [Bool.and_eq_true, decide_eq_true_eq] at this
    exact ⟨this.2, by omega⟩
theorem rowT_len {r : List CT} (h : r.all okC = true) (hl : r.length ≤ 6) : (rowT r).data.toList.length ≤ 90 := by
  rw [rowT_texts h]
  have h14 := texts_14 h
  have := join_len (rawT (textsC r)) (by
    intro z hz
    unfold rawT at hz
    obtain ⟨u, hu, rfl⟩ := List.mem_map.1 hz
    have := h14 u hu
    rw [Lib.size_eq] at this
    exact this)
  have hrl : (rawT (textsC r)).length = r.length := by unfold rawT; rw [List.length_map, textsC_length]
  rw [hrl] at this
  show (Lib.join (rawT (textsC r)) [32]).toArray.toList.length ≤ 90
  rw [List.toList_toArray]
  omega
theorem headTx_len {t : TB} (h : tableB t = true) : (headTx t).length ≤ 105 := by
  obtain ⟨p1, p2, p3, _, _⟩ := tableB_parts h
  unfold headTx
  have := join_len (t.1.data.toList :: rawT t.2.1) (by
    intro z hz
    rcases List.mem_cons.1 hz with rfl | hz
    · rw [← Lib.size_eq]; omega
    · unfold rawT at hz
      obtain ⟨u, hu, rfl⟩ := List.mem_map.1 hz
      have := p3 u hu
      rw [Lib.size_eq] at this
      omega)
  have hl : (rawT t.2.1).length = t.2.1.length := by unfold rawT; rw [List.length_map]
  rw [List.length_cons, hl] at this
  omega
theorem rowsTx_len {t : TB} (h : tableB t = true) (k : Nat) : ((t.2.2.take k).flatMap rowTx).length ≤ 5520 := by
  obtain ⟨_, _, _, p4, p5⟩ := tableB_parts h
  have := flatMap_len rowTx 92 (t.2.2.take k) (fun r hr => by
    obtain ⟨h1, h2⟩ := p5 r (List.mem_of_mem_take hr)
    have := rowT_len h1 h2
    unfold rowTx
    rw [List.length_append]
    simp only [List.length_cons, List.length_nil]
    omega)
  have hl : (t.2.2.take k).length ≤ 60 := by rw [List.length_take]; omega
  omega
theorem tabTx_len {t : TB} (h : tableB t = true) : (tabTx t).length ≤ 5627 := by
  have h1 := headTx_len h
  have h2 := rowsTx_len h t.2.2.length
  rw [List.take_length] at h2
  unfold tabTx
  simp only [List.length_append, List.length_cons, List.length_nil]
  omega
theorem showTx_len {T : List TB} (h : ∀ t, t ∈ T → tableB t = true) (h5 : T.length ≤ 5) (k : Nat) : (showTx (T.take k)).length ≤ 28135 := by
  have := flatMap_len tabTx 5627 (T.take k) (fun t ht => tabTx_len (h t (List.mem_of_mem_take ht)))
  have hl : (T.take k).length ≤ 5 := by rw [List.length_take]; omega
  unfold showTx
  omega
end Go.Proofs.YteamdmcgkpeelabGreatDoor

/-
  Package-level variables of the library in later worlds: the table of powers of ten, the two sentinels.
-/
namespace Go.Proofs.YteamdmcgkpeelabGreatDoor
open Go.ChangeShapes Go.WideShapes Go.ChangeAt Go.RowKit

theorem var_below {P : Program} {w w' : World} {name : String} {v : Array Value} (h : w.var? P name = some v) (hb : Below w.heap.size w w') : w'.var? P name = some v := by
  unfold World.var? at h ⊢
  cases hg : P.globalNamed name with
  | none => rw [hg] at h; cases h
  | some g =>
    rw [hg] at h
    have h2 : (match w.heap[g]? with | some (.cells cs _ _) => some cs | _ => none) = some v := h
    have hlt : g < w.heap.size := by
      by_cases hl : g < w.heap.size
      · exact hl
      · rw [Array.getElem?_eq_none (by omega)] at h2; cases h2
    show (match w'.heap[g]? with | some (.cells cs _ _) => some cs | _ => none) = some v
    rw [hb.block g hlt]; exact h2
/-- The table of powers of ten holds them. -/
def PowAt (w : World) : Prop := Lib.TabIs Tryz.prog w "internal/strconv.uint64pow10" .u64 Lib.pow10Tab
theorem PowAt.below {w w' : World} (h : PowAt w) (hb : Below w.heap.size w w') : PowAt w' := var_below h hb
/-- The two sentinels hold something. -/
def ErrAt (w : World) : Prop := (∃ tp p, w.var? Tryz.prog "strconv.ErrSyntax" = some #[.iface tp p]) ∧ (∃ tp p, w.var? Tryz.prog "strconv.ErrRange" = some #[.iface tp p])
theorem ErrAt.below {w w' : World} (h : ErrAt w) (hb : Below w.heap.size w w') : ErrAt w' := by
  obtain ⟨⟨a, b, h1⟩, ⟨c, d, h2⟩⟩ := h
  exact ⟨⟨a, b, var_below h1 hb⟩, ⟨c, d, var_below h2 hb⟩⟩
theorem grow_below (w : World) (os : Array Obj) : Below w.heap.size w (Sort.grow w os) :=
  ⟨rfl, rfl, rfl, by unfold Sort.grow; simp, fun k hk => by
    unfold Sort.grow
    show (w.heap ++ os)[k]? = w.heap[k]?
    rw [Array.getElem?_append_left hk]⟩

theorem format_lib (n : Int) (h0 : -9223372036854775808 ≤ n) (h1 : n ≤ 9223372036854775807) (w : World) (hp : PowAt w) :
    Calls Tryz.prog 117 #[.int .i64 n, .int .i64 10] w fun e w' => e = .returned (.string ⟨(Lib.itoa n).toArray⟩) ∧ Below w.heap.size w w' := by
  refine (Tryz.strconv_FormatInt_10 n h0 h1 w hp).mono ?_
  rintro e w' ⟨rfl, k, os, rfl⟩
  exact ⟨rfl, (belowN (Below.refl _ _) k).trans (grow_below (w.drewN k) os)⟩

end Go.Proofs.YteamdmcgkpeelabGreatDoor

/-
  The contracts of the program's texts of cells.
-/
namespace Go.Proofs.YteamdmcgkpeelabGreatDoor
open Go.ChangeShapes Go.WideShapes Go.ChangeAt Go.RowKit

theorem joined_impl (bk c : Nat) (xs : List ByteArray) (sep : ByteArray) (w : World) (hcells : ∀ (j : Nat) x, xs[j]? = some x → w.cell? ⟨bk, 0 + j, none⟩ = some (.string x)) (hbk : bk < w.heap.size) (hN : xs.length ≤ 140737488355328) (hcap : xs.length ≤ c) (hlen : (Lib.join (xs.map (·.data.toList)) sep.data.toList).length ≤ 140737488355328) (y : ByteArray) (hy : (⟨(Lib.join (xs.map (·.data.toList)) sep.data.toList).toArray⟩ : ByteArray) = y) :
    Calls Tryz.prog 39 #[.string sep, .slice (some ⟨bk, 0, none⟩) xs.length c] w fun e w' => e = .returned (.string y) ∧ Below w.heap.size w w' := by
  subst hy
  go_enter Tryz.func39, Tryz.ntmps39
  go_wp2_with fail
  refine (Tryz.strings_Join bk 0 c xs sep _ hcells hbk hN hcap hlen).mono ?_
  rintro e w1 ⟨rfl, hb⟩
  go_wp2
  go_ret
  exact ⟨rfl, hb⟩

theorem joined_none (a : Option Addr) (c : Nat) (sep : ByteArray) (w : World) :
    Calls Tryz.prog 39 #[.string sep, .slice a 0 c] w fun e w' => e = .returned (.string ⟨#[]⟩) ∧ w' = w := by
  go_enter Tryz.func39, Tryz.ntmps39
  go_wp2_with fail
  refine (Tryz.strings_Join_none a c sep _).mono ?_
  rintro e w1 ⟨rfl, rfl⟩
  go_wp2
  go_ret
  exact ⟨rfl, rfl⟩

theorem st0 (w : World) :
    Calls Tryz.prog 101 #[.iface 142 (.agg #[])] w fun e w' => e = .returned (.string ⟨wNone.toArray⟩) ∧ Below w.heap.size w w' := by
  have h1 := asserts_noneShape
  go_enter Tryz.func101, Tryz.ntmps101
  go_wp2
  go_ret
  exact ⟨rfl, by go_grown⟩
theorem st1 (n : Int) (h0 : -9223372036854775808 ≤ n) (h1 : n ≤ 9223372036854775807) (w : World) (hp : PowAt w) :
    Calls Tryz.prog 101 #[.iface 144 (.agg #[.int .i64 n])] w fun e w' => e = .returned (.string ⟨(Lib.itoa n).toArray⟩) ∧ Below w.heap.size w w' := by
  obtain ⟨a1, a2⟩ := asserts_numberShape
  have HP : Hid (PowAt w) := hp
  clear hp
  go_enter Tryz.func101, Tryz.ntmps101
  go_wp2_with fail
  refine (format_lib n h0 h1 _ (HP.out.below (by go_grown))).mono ?_
  rintro e w1 ⟨rfl, hb⟩
  go_wp2
  go_ret
  exact ⟨rfl, chainA hb⟩
theorem st3 (n : Int) (w : World) :
    Calls Tryz.prog 101 #[.iface 147 (.agg #[.int .i64 n])] w fun e w' => e = .returned (.string ⟨(if n = 1 then wYes else wNo).toArray⟩) ∧ Below w.heap.size w w' := by
  obtain ⟨a1, a2, a3, a4⟩ := asserts_truthShape
  by_cases hn : n = 1
  · subst hn
    go_enter Tryz.func101, Tryz.ntmps101
    go_wp2
    go_ret
    exact ⟨rfl, by go_grown⟩
  · rw [if_neg hn]
    go_enter Tryz.func101, Tryz.ntmps101
    go_wp2
    go_ret
    exact ⟨rfl, by go_grown⟩
theorem st3b (n : Int) (y : ByteArray) (hy : (⟨(if n = 1 then wYes else wNo).toArray⟩ : ByteArray) = y) (w : World) :
    Calls Tryz.prog 101 #[.iface 147 (.agg #[.int .i64 n])] w fun e w' => e = .returned (.string y) ∧ Below w.heap.size w w' := by
  subst hy; exact st3 n w
theorem st2 (t : ByteArray) (ht : t.size ≤ 1000) (w : World) :
    Calls Tryz.prog 101 #[.iface 146 (.agg #[.string t])] w fun e w' => e = .returned (.string ⟨(39 :: (t.data.toList ++ [39])).toArray⟩) ∧ Below w.heap.size w w' := by
  obtain ⟨a1, a2, a3⟩ := asserts_textShape
  obtain ⟨y, hy⟩ : ∃ y : ByteArray, (⟨(39 :: (t.data.toList ++ [39])).toArray⟩ : ByteArray) = y := ⟨_, rfl⟩
  rw [hy]
  go_enter Tryz.func101, Tryz.ntmps101
  go_wp2_with fail
  refine (joined_impl _ _ [⟨#[39]⟩, t, ⟨#[39]⟩] ⟨#[]⟩ _ ?_ (by simp) (by simp) (by simp) ?_ y (by rw [← hy]; simp [Lib.join_cons, Lib.joinTail])).mono ?_
  · intro j x hj
    match j, hj with
    | 0, hj => simp at hj; subst hj; simp [go_sem]
    | 1, hj => simp at hj; subst hj; simp [go_sem]
    | 2, hj => simp at hj; subst hj; simp [go_sem]
  · have hsz := Lib.size_eq t
    simp [Lib.join_cons, Lib.joinTail]
    omega
  rintro e w1 ⟨rfl, hb⟩
  go_wp2
  go_ret
  exact ⟨rfl, chainAA hb⟩

theorem ctext_impl (k n : Int) (t : ByteArray) (w : World) (ht : t.size ≤ maxLen) (hp : PowAt w) :
    Calls Tryz.prog 87 #[.agg #[.int .i64 k, .int .i64 n, .string t]] w fun e w' => e = .returned (.string (cellT k n t)) ∧ Below w.heap.size w w' := by
  have HP : Hid (PowAt w) := hp
  clear hp
  cases ho : okB k n t with
  | false =>
    rw [cellT_no ho]
    go_enter Tryz.func87, Tryz.ntmps87
    go_wp2_with fail
    refine (ok_implb _ _ _ _ ho _ ht).mono ?_
    rintro e w1 ⟨rfl, hb⟩
    go_wp2
    go_ret
    exact ⟨rfl, by first | exact hb | exact chainA hb⟩
  | true =>
    have hc : cellT k n t = ⟨(l4T k n t.data.toList).toArray⟩ := by unfold cellT; rw [if_pos ho]
    rw [hc]
    clear hc
    rcases okB_kind ho with rfl | rfl | rfl | rfl
    · go_enter Tryz.func87, Tryz.ntmps87
      go_wp2_with fail
      refine (ok_implb _ _ _ _ ho _ ht).mono ?_
      rintro e w1 ⟨rfl, hb⟩
      obtain ⟨a1, b1, c1, d1⟩ := box3 hb
      go_wp2_with fail
      refine (shape0 _ _ _).mono ?_
      rintro e w2 ⟨rfl, hb2⟩
      go_wp2_with fail
      refine (st0 _).mono ?_
      rintro e w3 ⟨rfl, hb3⟩
      go_wp2
      go_ret
      exact ⟨rfl, chain (chain (chainA hb) hb2) hb3⟩
    · have hb := numB_iff.1 (okB_1 ho).1
      go_enter Tryz.func87, Tryz.ntmps87
      go_wp2_with fail
      refine (ok_implb _ _ _ _ ho _ ht).mono ?_
      rintro e w1 ⟨rfl, hb1⟩
      obtain ⟨a1, b1, c1, d1⟩ := box3 hb1
      go_wp2_with fail
      refine (shape1 _ _ _).mono ?_
      rintro e w2 ⟨rfl, hb2⟩
      go_wp2_with fail
      refine (st1 n (by omega) (by omega) _ (HP.out.below (chain (chainA hb1) hb2))).mono ?_
      rintro e w3 ⟨rfl, hb3⟩
      go_wp2
      go_ret
      exact ⟨rfl, chain (chain (chainA hb1) hb2) hb3⟩
    · have h12 : t.size ≤ 1000 := by
        have := (okB_2 ho).2
        unfold textB at this
        rw [Bool.and_eq_true, decide_eq_true_eq] at this
        omega
      go_enter Tryz.func87, Tryz.ntmps87
      go_wp2_with fail
      refine (ok_implb _ _ _ _ ho _ ht).mono ?_
      rintro e w1 ⟨rfl, hb1⟩
      obtain ⟨a1, b1, c1, d1⟩ := box3 hb1
      go_wp2_with fail
      refine (shape2 _ _ _).mono ?_
      rintro e w2 ⟨rfl, hb2⟩
      go_wp2_with fail
      refine (st2 t h12 _).mono ?_
      rintro e w3 ⟨rfl, hb3⟩
      go_wp2
      go_ret
      exact ⟨rfl, chain (chain (chainA hb1) hb2) hb3⟩
    · obtain ⟨y, hy⟩ : ∃ y : ByteArray, (⟨(l4T 3 n t.data.toList).toArray⟩ : ByteArray) = y := ⟨_, rfl⟩
      rw [hy]
      go_enter Tryz.func87, Tryz.ntmps87
      go_wp2_with fail
      refine (ok_implb _ _ _ _ ho _ ht).mono ?_
      rintro e w1 ⟨rfl, hb1⟩
      obtain ⟨a1, b1, c1, d1⟩ := box3 hb1
      go_wp2_with fail
      refine (shape3 _ _ _).mono ?_
      rintro e w2 ⟨rfl, hb2⟩
      go_wp2_with fail
      refine (st3b n y hy _).mono ?_
      rintro e w3 ⟨rfl, hb3⟩
      go_wp2
      go_ret
      exact ⟨rfl, chain (chain (chainA hb1) hb2) hb3⟩

theorem ctext_implb (k n : Int) (t : ByteArray) (y : ByteArray) (hy : cellT k n t = y) (w : World) (ht : t.size ≤ maxLen) (hp : PowAt w) :
    Calls Tryz.prog 87 #[.agg #[.int .i64 k, .int .i64 n, .string t]] w fun e w' => e = .returned (.string y) ∧ Below w.heap.size w w' := by
  subst hy; exact ctext_impl k n t w ht hp

end Go.Proofs.YteamdmcgkpeelabGreatDoor

/-
  The contract of the program's text of a row.
-/
namespace Go.Proofs.YteamdmcgkpeelabGreatDoor
open Go.ChangeShapes Go.WideShapes Go.ChangeAt Go.RowKit
attribute [local go_sem ↓] Go.wp_at_zero Go.wp_at_succ

theorem rowT_no {l : List CT} {k : Nat} (h : k < l.length) (ho : okC l[k] = false) : rowT l = ⟨#[]⟩ := by
  unfold rowT
  rw [if_neg]
  intro e
  rw [List.all_eq_true.1 e _ (List.getElem_mem h)] at ho
  cases ho

set_option maxRecDepth 100000 in
set_option maxHeartbeats 2000000 in
theorem rowtext_impl (a : Option Addr) (cap : Nat) (l : List CT) (w : World) (hrow : RowAt w a l) (hfit : Fit l) (hm : l.length ≤ 1048576) (hp : PowAt w) (y : ByteArray) (hy : rowT l = y) :
    Calls Tryz.prog 65 #[.slice a l.length cap] w fun e w' => e = .returned (.string y) ∧ Below w.heap.size w w' := by
  obtain ⟨i0, hti, hz0, hz1, hz2⟩ := info_parts infoStr
  have HR : Hid (RowAt w a l) := hrow
  have HF : Hid (Fit l) := hfit
  have HY : Hid (rowT l = y) := hy
  have HP : Hid (PowAt w) := hp
  clear hrow hfit hy hp
  go_enter Tryz.func65, Tryz.ntmps65
  go_wp2_with (at_make; refine wpList_make_own _ rfl _ _ 25 rfl w.heap.size 9 i0 (.string ⟨#[]⟩) 1 Tryz.underlying25 hti hz0 hz1 .i64 .i64 _ l.length rfl rfl rfl (by rw [hz2]; omega) (by unfold maxLen; omega) (Nat.le_refl _) ?_)
  intro w0 hown0 hgrow0
  have hb0 : Below w.heap.size w w0 := (Below.refl _ _).grown hgrow0 (Nat.le_refl _) (by intro k h; cases h)
  have own0 : Hid (w0.ownsRow w.heap.size 9 1 (.slice (some ⟨w.heap.size, 0, none⟩) 0 l.length) (textsC (l.take 0)).length ((textsC (l.take 0)).map Value.string)) := hown0
  clear hown0 hgrow0
  go_wp2
  go_loopw [3, 11] (fun v kk wr => ∃ k : Nat, k ≤ l.length ∧ kk = .int .i64 k ∧ Hid ((l.take k).all okC = true) ∧ Hid (wr.ownsRow w.heap.size 9 1 v (textsC (l.take k)).length ((textsC (l.take k)).map Value.string)) ∧ Below w.heap.size w wr ∧ v ≠ .slice none 0 0) (fun _ kk _ => l.length - (intOf kk).toNat)
  case atStart => exact ⟨0, Nat.zero_le _, rfl, rfl, own0, hb0, by simp⟩
  case round =>
    obtain ⟨k, hk, rfl, hall, hO, hb, hvn⟩ := hrel
    by_cases hlt : k < l.length
    · obtain ⟨g, o, rfl, hgw, c0, c1, c2⟩ := HR.out.below hb k hlt
      have hi0 : (0 : Int) ≤ (k : Int) := by omega
      have hi1 : (k : Int) < (l.length : Int) := by omega
      have hft := HF.out k hlt
      have hsa := all_snoc l k hlt
      rw [hall.out, Bool.true_and] at hsa
      have HS0 : Hid ((l.take (k + 1)).all okC = okC l[k]) := hsa
      obtain ⟨r, hr⟩ : ∃ r, okB l[k].1 l[k].2.1 l[k].2.2 = r := ⟨_, rfl⟩
      have HRR : Hid (okC l[k] = r) := hr
      have hno : Hid (okC l[k] = false → y = ⟨#[]⟩) := by
        have : okC l[k] = false → y = ⟨#[]⟩ := fun e => by rw [← HY.out]; exact rowT_no hlt e
        exact this
      have hsn := textsC_snoc l k hlt
      have hlen : (textsC (l.take k)).length = k := by rw [textsC_length, List.length_take]; omega
      obtain ⟨z, hz⟩ : ∃ z : ByteArray, cellT l[k].1 l[k].2.1 l[k].2.2 = z := ⟨_, rfl⟩
      have hsn2 : r = true → textsC (l.take (k + 1)) = textsC (l.take k) ++ [z] := by
        intro e
        subst e
        rw [hsn, ← hz]
        congr 2
        exact bytes_ext (by rw [cellT_ok hr]; rfl)
      have HS : Hid (r = true → textsC (l.take (k + 1)) = textsC (l.take k) ++ [z]) := hsn2
      clear hsn hsn2 hsa
      have hOO := hO.out
      rw [hlen] at hOO
      generalize textsC (l.take k) = xs at HS hOO hlen
      generalize l[k] = x at c0 c1 c2 hr hz hft HS0 HRR hno
      go_wp2_with fail
      refine (ok_implb _ _ _ _ hr _ hft).mono ?_
      rintro e w1 ⟨rfl, hb1⟩
      obtain ⟨a1, b1, d1, e1⟩ := box3 hb1
      clear c0 c1 c2
      cases r
      · have e := hno.out HRR.out
        subst e
        go_wp2
        go_ret
        exact ⟨rfl, chain hb (chainA hb1)⟩
      · have hbx := chain hb (chainA hb1)
        go_wp2_with fail
        refine (ctext_implb _ _ _ z hz _ hft (HP.out.below hbx)).mono ?_
        rintro e w2 ⟨rfl, hb2⟩
        clear hz hr
        have O1 := own_below hOO (chain (chainA hb1) hb2)
        have hx := chain hbx hb2
        clear a1 b1 d1
        go_wp2_with (at_builtin; refine wpList_append_own _ rfl _ _ 25 rfl w.heap.size 9 i0 (.string ⟨#[]⟩) 1 16 Tryz.underlying25 hti hz0 hz1 hz2 rfl (by decide) _ _ _ rfl (O1.alloc _) ⟨w2.heap.size, 0, none⟩ 1 1 [.string z] rfl rfl ?c1 ?c2 ?c3 ?c4 ?c5 ?_)
        case c1 =>
          intro j u hj
          match j, hj with
          | 0, hj => simp at hj; subst hj; simp [Addr.add]
        case c2 => intro u hu; simp at hu; subst hu; rfl
        case c3 => unfold maxLen; omega
        case c4 => omega
        case c5 => have := hx.size; simp; omega
        intro v' w3 own2 hgrow hnn
        have hx2 : Below w.heap.size w w3 := by
          refine (hx.alloc hx.size _).grown hgrow (by have := hx.size; simp; omega) ?_
          intro kk hkk
          exact (O1.lt kk hkk).1
        have hvn2 : v' ≠ .slice none 0 0 := by first | exact hnn | exact fun e => hvn (hnn.1 e).1
        have SS : Hid (w3.ownsRow w.heap.size 9 1 v' (textsC (l.take (k + 1))).length ((textsC (l.take (k + 1))).map Value.string)) := by
          have : w3.ownsRow w.heap.size 9 1 v' (textsC (l.take (k + 1))).length ((textsC (l.take (k + 1))).map Value.string) := by
            rw [HS.out (by trivial), List.length_append, hlen, List.map_append]; exact own2
          exact this
        clear own2 hgrow hnn O1 hOO hO
        go_wp2
        go_roundw
        case rel => exact ⟨k + 1, by omega, by go_num, HS0.out.trans HRR.out, SS, hx2, hvn2⟩
        case measure => simp [intOf]; omega
    · have hkl : k = l.length := by omega
      subst hkl
      have hi1 : ¬ (l.length : Int) < (l.length : Int) := by omega
      have hAll : l.all okC = true := by have := hall.out; rwa [List.take_length] at this
      have hOO := hO.out
      rw [List.take_length] at hOO
      rcases hOO.2 with ⟨h', _⟩ | ⟨g, c, cur, h', hbg, _, hcap, _⟩
      · exact absurd h' hvn
      subst h'
      have hT := texts_own hOO
      have h14 := texts_14 hAll
      have hl2 := textsC_length l
      have hjl := join_len (rawT (textsC l)) (by
        intro z hz
        unfold rawT at hz
        obtain ⟨u, hu, rfl⟩ := List.mem_map.1 hz
        have := h14 u hu
        rw [Lib.size_eq] at this
        exact this)
      have hrl : (rawT (textsC l)).length = l.length := by unfold rawT; rw [List.length_map, hl2]
      have HY2 : Hid ((⟨(Lib.join (rawT (textsC l)) [32]).toArray⟩ : ByteArray) = y) := by
        have : (⟨(Lib.join (rawT (textsC l)) [32]).toArray⟩ : ByteArray) = y := by rw [← HY.out, rowT_texts hAll]
        exact this
      have HT : Hid (TextsAt wr g (textsC l)) := hT
      by_cases hn0 : (textsC l).length = 0
      · have hl0 : l = [] := List.length_eq_zero_iff.1 (by omega)
        subst hl0
        have e : y = ⟨#[]⟩ := by rw [← HY.out]; rfl
        subst e
        clear hT h14 hl2 hjl hrl hOO hO hn0 hcap HT HY2 hAll
        go_wp2_with fail
        refine (joined_none _ _ _ _).mono ?_
        rintro e w2 ⟨rfl, rfl⟩
        go_wp2
        go_ret
        exact ⟨rfl, hb⟩
      · have hg : g < wr.heap.size := (hT 0 (by omega)).2
        have HJ : Hid ((Lib.join (rawT (textsC l)) [32]).length ≤ 140737488355328) := by
          have : (Lib.join (rawT (textsC l)) [32]).length ≤ 140737488355328 := by omega
          exact this
        have HL : Hid ((textsC l).length ≤ 140737488355328) := by
          have : (textsC l).length ≤ 140737488355328 := by omega
          exact this
        have HC : Hid ((textsC l).length ≤ c) := hcap
        clear hT h14 hl2 hjl hrl hOO hO hn0 hcap
        go_wp2_with fail
        refine (joined_impl g c (textsC l) ⟨#[32]⟩ _ (fun j x hj => ?_) hg HL.out HC.out HJ.out y HY2.out).mono ?_
        · obtain ⟨hlt, rfl⟩ := List.getElem?_eq_some_iff.1 hj
          rw [Nat.zero_add]
          exact (HT.out j hlt).1
        rintro e w2 ⟨rfl, hb2⟩
        go_wp2
        go_ret
        exact ⟨rfl, chain hb hb2⟩

end Go.Proofs.YteamdmcgkpeelabGreatDoor

/-
  The contracts of the program's text of a table, and of a base.
-/
namespace Go.Proofs.YteamdmcgkpeelabGreatDoor
open Go.ChangeShapes Go.WideShapes Go.ChangeAt Go.RowKit Go.Maps
attribute [local go_sem ↓] Go.wp_at_zero Go.wp_at_succ
attribute [local simp] World.cell?_alloc_past World.cell?_alloc_at World.frozen?_alloc_at cell_far cell_off cell_here World.frozen?_alloc_past

theorem join_none (xs : List (List UInt8)) : Lib.join xs [] = xs.flatten := by
  cases xs with
  | nil => rfl
  | cons x r =>
    rw [Lib.join_cons]
    simp [Lib.joinTail]
theorem joinedN (n bk c : Nat) (xs : List ByteArray) (hn : xs.length = n) (sep : ByteArray) (w : World) (base : Nat) (hown : w.ownsRow base 9 1 (.slice (some ⟨bk, 0, none⟩) n c) n (strV xs)) (hN : n ≤ 4096) (hlen : (Lib.join (rawT xs) sep.data.toList).length ≤ 140737488355328) (y : ByteArray) (hy : (⟨(Lib.join (rawT xs) sep.data.toList).toArray⟩ : ByteArray) = y) :
    Calls Tryz.prog 39 #[.string sep, .slice (some ⟨bk, 0, none⟩) n c] w fun e w' => e = .returned (.string y) ∧ Below w.heap.size w w' := by
  subst hn
  have hc : xs.length ≤ c := by
    rcases hown.2 with ⟨e, _⟩ | ⟨g, cap, cur, e, _, _, hc, _⟩
    · simp at e
    · simp only [Value.slice.injEq] at e
      omega
  refine joined_impl bk c xs sep w (fun j x hj => ?_) (hown.lt bk rfl).2 (by omega) hc hlen y hy
  obtain ⟨hlt, rfl⟩ := List.getElem?_eq_some_iff.1 hj
  rw [Nat.zero_add, hown.cellAt j (by omega)]
  unfold strV
  rw [List.getElem?_map, List.getElem?_eq_getElem hlt]; rfl
theorem rowtextN (n : Nat) (a : Option Addr) (cap : Nat) (l : List CT) (hn : l.length = n) (w : World) (hrow : RowAt w a l) (hfit : Fit l) (hm : n ≤ 1048576) (hp : PowAt w) (y : ByteArray) (hy : rowT l = y) :
    Calls Tryz.prog 65 #[.slice a n cap] w fun e w' => e = .returned (.string y) ∧ Below w.heap.size w w' := by
  subst hn; exact rowtext_impl a cap l w hrow hfit hm hp y hy
/-- The pieces of a table's text. -/
def pcsT (hd : ByteArray) (L : List (List CT)) : Nat → List ByteArray
  | 0 => [hd, ⟨#[58]⟩]
  | k + 1 => pcsT hd L k ++ [⟨#[10]⟩, ⟨#[32]⟩, rowT (L.getD k [])]
theorem pcsT_length (hd : ByteArray) (L : List (List CT)) (k : Nat) : (pcsT hd L k).length = 2 + 3 * k := by
  induction k with
  | zero => rfl
  | succ k ih => rw [pcsT, List.length_append, ih]; simp; omega
theorem pcsT_flat (hd : ByteArray) (L : List (List CT)) (k : Nat) (hk : k ≤ L.length) : (rawT (pcsT hd L k)).flatten = hd.data.toList ++ [58] ++ (L.take k).flatMap rowTx := by
  induction k with
  | zero => simp [pcsT, rawT]
  | succ k ih =>
    have hlt : k < L.length := by omega
    have e : rawT (pcsT hd L (k + 1)) = rawT (pcsT hd L k) ++ [[10], [32], (rowT L[k]).data.toList] := by
      rw [pcsT]
      have : L.getD k [] = L[k] := by simp [List.getD, List.getElem?_eq_getElem hlt]
      rw [this]
      simp [rawT]
    rw [e, List.flatten_append, ih (by omega), rowTx_take L k hlt]
    simp [rowTx]
theorem own_one (w : World) (s : ByteArray) : (w.alloc (.cells #[.string s] 9)).ownsRow w.heap.size 9 1 (.slice (some ⟨w.heap.size, 0, none⟩) 1 1) 1 [.string s] :=
  ⟨rfl, .inr ⟨w.heap.size, 1, #[.string s], rfl, Nat.le_refl _, by show (w.heap.push _)[w.heap.size]? = _; simp, Nat.le_refl _, by unfold maxLen; omega, rfl, rfl⟩⟩
theorem own_oneA (w : World) (ob : Obj) (s : ByteArray) : ((w.alloc ob).alloc (.cells #[.string s] 9)).ownsRow (w.heap.size + 1) 9 1 (.slice (some ⟨w.heap.size + 1, 0, none⟩) 1 1) 1 [.string s] := by
  have h := own_one (w.alloc ob) s
  have e : (w.alloc ob).heap.size = w.heap.size + 1 := by simp
  rw [e] at h
  exact h
theorem own_two (w : World) (s u : ByteArray) : (w.alloc (.cells #[.string s, .string u] 9)).ownsRow w.heap.size 9 1 (.slice (some ⟨w.heap.size, 0, none⟩) 2 2) 2 [.string s, .string u] :=
  ⟨rfl, .inr ⟨w.heap.size, 2, #[.string s, .string u], rfl, Nat.le_refl _, by show (w.heap.push _)[w.heap.size]? = _; simp, Nat.le_refl _, by unfold maxLen; omega, rfl, rfl⟩⟩
theorem ownsRow_lower {w : World} {base base' n size : Nat} {e : TypeId} {v : Value} {xs : List Value} (h : w.ownsRow base e size v n xs) (hb : base' ≤ base) : w.ownsRow base' e size v n xs := by
  refine ⟨h.1, ?_⟩
  rcases h.2 with h' | ⟨g, cap, cur, h', hbg, hr⟩
  · exact .inl h'
  · exact .inr ⟨g, cap, cur, h', Nat.le_trans hb hbg, hr⟩

set_option maxRecDepth 100000 in
set_option maxHeartbeats 4000000 in
theorem tabletext_impl (ca : Option Addr) (cc : Nat) (ra : Option Addr) (cr : Nat) (t : TB) (nc nr : Nat) (hnc : t.2.1.length = nc) (hnr : t.2.2.length = nr) (w : World) (ht : TabAt w ca cc ra t) (hp : PowAt w) (hok : tableB t = true) (y : ByteArray) (hy : (⟨(tabTx t).toArray⟩ : ByteArray) = y) :
    Calls Tryz.prog 38 #[.agg #[.string t.1, .slice ca nc cc, .slice ra nr cr]] w fun e w' => e = .returned (.string y) ∧ Below w.heap.size w w' := by
  obtain ⟨i0, hti, hz0, hz1, hz2⟩ := info_parts infoStr
  have HOK : Hid (tableB t = true) := hok
  obtain ⟨q1, q2, q3, q4, q5⟩ := tableB_parts hok
  have HQ5 : Hid (∀ r, r ∈ t.2.2 → r.all okC = true ∧ r.length ≤ 6) := q5
  have hnc6 : nc ≤ 6 := by rw [← hnc]; exact q2
  have hnr60 : nr ≤ 60 := by rw [← hnr]; exact q4
  have hnc1 : 0 < t.2.1.length := by
    have h := hok
    unfold tableB namesB at h
    simp only [Bool.and_eq_true, decide_eq_true_eq] at h
    have := h.1.2.1.2.1
    omega
  obtain ⟨bC, oC, eC, hbC, hcc⟩ := ht.cols 0 hnc1
  subst eC
  clear hcc
  have HT : Hid (TabAt w (some ⟨bC, oC, none⟩) cc ra t) := ht
  have HNC : Hid (t.2.1.length = nc) := hnc
  have HNR : Hid (t.2.2.length = nr) := hnr
  have HP : Hid (PowAt w) := hp
  have HY : Hid ((⟨(tabTx t).toArray⟩ : ByteArray) = y) := hy
  obtain ⟨nm, hnm⟩ : ∃ s, t.1 = s := ⟨_, rfl⟩
  have HNM : Hid (t.1 = nm) := hnm
  obtain ⟨hd, hhd⟩ : ∃ h : ByteArray, (⟨(headTx t).toArray⟩ : ByteArray) = h := ⟨_, rfl⟩
  have HHD : Hid ((⟨(headTx t).toArray⟩ : ByteArray) = hd) := hhd
  rw [hnm]
  have hA : Below w.heap.size w (w.alloc (.cells #[.string nm, .slice (some ⟨bC, oC, none⟩) nc cc, .slice ra nr cr] 35)) := (Below.refl _ _).alloc (Nat.le_refl _) _
  have hAN : Below w.heap.size w ((w.alloc (.cells #[.string nm, .slice (some ⟨bC, oC, none⟩) nc cc, .slice ra nr cr] 35)).alloc (.cells #[.string nm] 9)) := hA.alloc (by simp) _
  have HSRC : Hid (∀ j u, (strV t.2.1)[j]? = some u → ((w.alloc (.cells #[.string nm, .slice (some ⟨bC, oC, none⟩) nc cc, .slice ra nr cr] 35)).alloc (.cells #[.string nm] 9)).cell? ((⟨bC, oC, none⟩ : Addr).add j) = some u) := by
    have : ∀ j u, (strV t.2.1)[j]? = some u → ((w.alloc (.cells #[.string nm, .slice (some ⟨bC, oC, none⟩) nc cc, .slice ra nr cr] 35)).alloc (.cells #[.string nm] 9)).cell? ((⟨bC, oC, none⟩ : Addr).add j) = some u := strV_cells (HT.out.cols.below hAN)
    exact this
  have HSL : Hid ((strV t.2.1).length = nc * 1) := by
    have : (strV t.2.1).length = nc * 1 := by rw [strV_length, HNC.out]; omega
    exact this
  have HS1 : Hid (∀ u, u ∈ strV t.2.1 → u.oneCell' = true) := by
    have : ∀ u, u ∈ strV t.2.1 → u.oneCell' = true := fun u hu => by obtain ⟨b, _, rfl⟩ := List.mem_map.1 hu; rfl
    exact this
  clear ht hnc hnr hp hy hok q1 q2 q3 q4 q5 hnc1 hnm hhd
  go_enter Tryz.func38, Tryz.ntmps38
  go_wp2_with (at_builtin; refine wpList_append_own _ rfl _ _ 25 rfl (w.heap.size + 1) 9 i0 (.string ⟨#[]⟩) 1 16 Tryz.underlying25 hti hz0 hz1 hz2 rfl (by decide) _ _ _ rfl (own_oneA w _ nm) ⟨bC, oC, none⟩ nc cc (strV t.2.1) rfl HSL.out HSRC.out HS1.out (by unfold maxLen; omega) (by omega) (by simp) ?_)
  intro v2 w2 own2 hgrow2 hnn2
  have hx2 : Below w.heap.size w w2 := hAN.grown hgrow2 (by simp; omega) (fun j hj => by simp [Value.ownBlock] at hj; omega)
  have hblk : w2.heap[w.heap.size]? = (w.alloc (.cells #[.string nm, .slice (some ⟨bC, oC, none⟩) nc cc, .slice ra nr cr] 35)).heap[w.heap.size]? := (hgrow2.block w.heap.size (by simp; omega) (by simp [Value.ownBlock])).trans (Below.heap_alloc _ _ _ (by simp))
  have p0 : w2.cell? ⟨w.heap.size, 0, none⟩ = some (.string nm) := (World.cell?_of_block (w := (w.alloc (.cells #[.string nm, .slice (some ⟨bC, oC, none⟩) nc cc, .slice ra nr cr] 35))) hblk).trans (by simp)
  have p1 : w2.cell? ⟨w.heap.size, 1, none⟩ = some (.slice (some ⟨bC, oC, none⟩) nc cc) := (World.cell?_of_block (w := (w.alloc (.cells #[.string nm, .slice (some ⟨bC, oC, none⟩) nc cc, .slice ra nr cr] 35))) hblk).trans (by simp)
  have p2 : w2.cell? ⟨w.heap.size, 2, none⟩ = some (.slice ra nr cr) := (World.cell?_of_block (w := (w.alloc (.cells #[.string nm, .slice (some ⟨bC, oC, none⟩) nc cc, .slice ra nr cr] 35))) hblk).trans (by simp)
  have p3 : w.heap.size < w2.heap.size := by have := hgrow2.size; simp at this; omega
  have hv2 : v2 ≠ .slice none 0 0 := by first | exact hnn2 | exact fun e => absurd (hnn2.1 e).1 (by simp)
  replace own2 : w2.ownsRow (w.heap.size + 1) 9 1 v2 (1 + nc) (strV (nm :: t.2.1)) := own2
  rcases own2.2 with ⟨e, _⟩ | ⟨g2, c2, cur2, e, _⟩
  · exact absurd e hv2
  subst e
  have HO2 : Hid (w2.ownsRow (w.heap.size + 1) 9 1 (.slice (some ⟨g2, 0, none⟩) (1 + nc) c2) (1 + nc) (strV (nm :: t.2.1))) := own2
  have HJ2 : Hid ((Lib.join (rawT (nm :: t.2.1)) [32]).length ≤ 140737488355328 ∧ (⟨(Lib.join (rawT (nm :: t.2.1)) [32]).toArray⟩ : ByteArray) = hd) := by
    have e : Lib.join (rawT (nm :: t.2.1)) [32] = headTx t := by unfold headTx rawT; rw [HNM.out]; rfl
    have : (Lib.join (rawT (nm :: t.2.1)) [32]).length ≤ 140737488355328 ∧ (⟨(Lib.join (rawT (nm :: t.2.1)) [32]).toArray⟩ : ByteArray) = hd := by
      rw [e]
      exact ⟨by have := headTx_len HOK.out; omega, HHD.out⟩
    exact this
  have HLN : Hid ((nm :: t.2.1).length = 1 + nc) := by
    have : (nm :: t.2.1).length = 1 + nc := by rw [List.length_cons, HNC.out]; omega
    exact this
  clear own2 hgrow2 hnn2 hv2 HSRC HSL HS1 hblk
  go_wp2_with fail
  refine (joinedN (1 + nc) g2 c2 (nm :: t.2.1) HLN.out ⟨#[32]⟩ _ (w.heap.size + 1) HO2.out (by omega) HJ2.out.1 hd HJ2.out.2).mono ?_
  rintro e w3 ⟨rfl, hb3⟩
  obtain ⟨p0, p1, p2, p3⟩ := later3 hb3 ⟨p0, p1, p2, p3⟩
  have hx3 := chain hx2 hb3
  have hx3a : Below w.heap.size w (w3.alloc (.cells #[.string hd, .string ⟨#[58]⟩] 9)) := hx3.alloc hx3.size _
  have own3 : Hid ((w3.alloc (.cells #[.string hd, .string ⟨#[58]⟩] 9)).ownsRow w3.heap.size 9 1 (.slice (some ⟨w3.heap.size, 0, none⟩) 2 2) (2 + 3 * 0) (strV (pcsT hd t.2.2 0))) := own_two w3 hd ⟨#[58]⟩
  have hs3 : w.heap.size ≤ w3.heap.size := hx3.size
  clear HO2 HJ2 HLN hb3 hx2
  go_wp2
  go_loopw [4, 19] (fun v kk wr => ∃ k m : Nat, k ≤ nr ∧ kk = .int .i64 k ∧ Hid (2 + 3 * k = m) ∧ m ≤ 182 ∧ Hid (wr.ownsRow w3.heap.size 9 1 v m (strV (pcsT hd t.2.2 k))) ∧ Below w.heap.size w wr ∧ w3.heap.size ≤ wr.heap.size ∧ v ≠ .slice none 0 0) (fun _ kk _ => nr - (intOf kk).toNat)
  case atStart => exact ⟨0, 2, Nat.zero_le _, rfl, rfl, by omega, own3, hx3a, by simp, by simp⟩
  case round =>
    obtain ⟨k, m, hk, rfl, HM, hm182, hO, hbw, hsw, hvn⟩ := hrel
    by_cases hlt : k < nr
    · have hlt' : Hid (k < t.2.2.length) := by have := HNR.out; exact show k < t.2.2.length by omega
      obtain ⟨gr, or_, ai, ci, rfl, hgw, c0, hrow, hfit, hlen, _⟩ := (HT.out.rows.below hbw) k hlt'.out
      have hi0 : (0 : Int) ≤ (k : Int) := by omega
      have hi1 : (k : Int) < (nr : Int) := by omega
      obtain ⟨hro, hr6⟩ := HQ5.out _ (List.getElem_mem hlt'.out)
      have HRW : Hid (RowAt wr ai (t.2.2[k]'hlt'.out) ∧ Fit (t.2.2[k]'hlt'.out)) := ⟨hrow, hfit⟩
      obtain ⟨row, hrw⟩ : ∃ x, (t.2.2[k]'hlt'.out) = x := ⟨_, rfl⟩
      have HGD : Hid (t.2.2.getD k [] = row) := by
        have : t.2.2.getD k [] = row := by rw [← hrw]; simp [List.getD, List.getElem?_eq_getElem hlt'.out]
        exact this
      rw [hrw] at c0 HRW hr6
      obtain ⟨nl, hnl⟩ : ∃ x, row.length = x := ⟨_, rfl⟩
      rw [hnl] at c0
      have HNL : Hid (row.length = nl) := hnl
      have hnl6 : nl ≤ 6 := by rw [← hnl]; exact hr6
      obtain ⟨z, hz⟩ : ∃ z, rowT row = z := ⟨_, rfl⟩
      have HZ : Hid (rowT row = z) := hz
      clear hrow hfit hlen hro hrw hnl hz hr6
      go_wp2_with fail
      refine (rowtextN nl ai ci row HNL.out _ HRW.out.1 HRW.out.2 (by omega) (HP.out.below hbw) z HZ.out).mono ?_
      rintro e w4 ⟨rfl, hb4⟩
      have O4 := own_below hO.out hb4
      have hx4 := chain hbw hb4
      have hs4 : w3.heap.size ≤ w4.heap.size := by have := hb4.size; omega
      clear hb4 hO c0 HRW
      go_wp2_with (at_builtin; refine wpList_append_own _ rfl _ _ 25 rfl w3.heap.size 9 i0 (.string ⟨#[]⟩) 1 16 Tryz.underlying25 hti hz0 hz1 hz2 rfl (by decide) _ _ _ rfl (O4.alloc _) ⟨w4.heap.size, 0, none⟩ 3 3 [.string ⟨#[10]⟩, .string ⟨#[32]⟩, .string z] rfl rfl ?c1 ?c2 ?c3 ?c4 ?c5 ?_)
      case c1 =>
        intro j u hj
        match j, hj with
        | 0, hj => simp at hj; subst hj; simp [Addr.add]
        | 1, hj => simp at hj; subst hj; simp [Addr.add]
        | 2, hj => simp at hj; subst hj; simp [Addr.add]
      case c2 => intro u hu; simp at hu; rcases hu with rfl | rfl | rfl <;> rfl
      case c3 => unfold maxLen; omega
      case c4 => omega
      case c5 => simp; omega
      intro v5 w5 own5 hgrow5 hnn5
      have hx5 : Below w.heap.size w w5 := by
        refine (hx4.alloc hx4.size _).grown hgrow5 (by have := hx4.size; simp; omega) ?_
        intro kk hkk
        have := (O4.lt kk hkk).1
        omega
      have hs5 : w3.heap.size ≤ w5.heap.size := by have := hgrow5.size; simp at this; omega
      have hvn5 : v5 ≠ .slice none 0 0 := by first | exact hnn5 | exact fun e => hvn (hnn5.1 e).1
      have SS : Hid (w5.ownsRow w3.heap.size 9 1 v5 (m + 3) (strV (pcsT hd t.2.2 (k + 1)))) := by
        have : w5.ownsRow w3.heap.size 9 1 v5 (m + 3) (strV (pcsT hd t.2.2 (k + 1))) := by
          rw [pcsT, HGD.out, HZ.out, show strV (pcsT hd t.2.2 k ++ [⟨#[10]⟩, ⟨#[32]⟩, z]) = strV (pcsT hd t.2.2 k) ++ [.string ⟨#[10]⟩, .string ⟨#[32]⟩, .string z] from List.map_append]; exact own5
        exact this
      clear own5 hgrow5 hnn5 O4
      go_wp2
      go_roundw
      case rel => exact ⟨k + 1, m + 3, by omega, by go_num, show 2 + 3 * (k + 1) = m + 3 by have := HM.out; omega, by have := HM.out; omega, SS, hx5, hs5, hvn5⟩
      case measure => simp [intOf]; omega
    · have hkl : k = nr := by omega
      subst hkl
      have hnn : ¬ (k : Int) < (k : Int) := by omega
      have O6 := hO.out
      go_wp2_with (at_builtin; refine wpList_append_own _ rfl _ _ 25 rfl w3.heap.size 9 i0 (.string ⟨#[]⟩) 1 16 Tryz.underlying25 hti hz0 hz1 hz2 rfl (by decide) _ _ _ rfl (O6.alloc _) ⟨wr.heap.size, 0, none⟩ 1 1 [.string ⟨#[10]⟩] rfl rfl (cell_one_new _ _ _) (by intro u hu; simp at hu; subst hu; rfl) (by unfold maxLen; omega) (by omega) (by simp; omega) ?_)
      intro v7 w7 own7 hgrow7 hnn7
      have hx7 : Below w.heap.size w w7 := by
        refine (hbw.alloc hbw.size _).grown hgrow7 (by have := hbw.size; simp; omega) ?_
        intro kk hkk
        have := (O6.lt kk hkk).1
        omega
      have hvn7 : v7 ≠ .slice none 0 0 := by first | exact hnn7 | exact fun e => hvn (hnn7.1 e).1
      replace own7 : w7.ownsRow w3.heap.size 9 1 v7 (m + 1) (strV (pcsT hd t.2.2 k ++ [⟨#[10]⟩])) := by
        rw [show strV (pcsT hd t.2.2 k ++ [⟨#[10]⟩]) = strV (pcsT hd t.2.2 k) ++ [.string ⟨#[10]⟩] from List.map_append]; exact own7
      rcases own7.2 with ⟨e, _⟩ | ⟨g7, c7, cur7, e, _⟩
      · exact absurd e hvn7
      subst e
      have HO7 : Hid (w7.ownsRow w3.heap.size 9 1 (.slice (some ⟨g7, 0, none⟩) (m + 1) c7) (m + 1) (strV (pcsT hd t.2.2 k ++ [⟨#[10]⟩]))) := own7
      have HJ7 : Hid ((Lib.join (rawT (pcsT hd t.2.2 k ++ [⟨#[10]⟩])) []).length ≤ 140737488355328 ∧ (⟨(Lib.join (rawT (pcsT hd t.2.2 k ++ [⟨#[10]⟩])) []).toArray⟩ : ByteArray) = y) := by
        have e : Lib.join (rawT (pcsT hd t.2.2 k ++ [⟨#[10]⟩])) [] = tabTx t := by
          rw [join_none, rawT_snoc, List.flatten_append, pcsT_flat hd t.2.2 k (by rw [HNR.out]; exact Nat.le_refl _), show t.2.2.take k = t.2.2 by rw [← HNR.out, List.take_length], ← HHD.out]
          unfold tabTx
          simp
        have : (Lib.join (rawT (pcsT hd t.2.2 k ++ [⟨#[10]⟩])) []).length ≤ 140737488355328 ∧ (⟨(Lib.join (rawT (pcsT hd t.2.2 k ++ [⟨#[10]⟩])) []).toArray⟩ : ByteArray) = y := by
          rw [e]
          exact ⟨by have := tabTx_len HOK.out; omega, HY.out⟩
        exact this
      have HL7 : Hid ((pcsT hd t.2.2 k ++ [(⟨#[10]⟩ : ByteArray)]).length = m + 1) := by
        have : (pcsT hd t.2.2 k ++ [(⟨#[10]⟩ : ByteArray)]).length = m + 1 := by rw [List.length_append, pcsT_length]; have := HM.out; simp; omega
        exact this
      clear own7 hgrow7 hnn7 O6 hO
      go_wp2_with fail
      refine (joinedN (m + 1) g7 c7 _ HL7.out ⟨#[]⟩ _ w3.heap.size HO7.out (by omega) HJ7.out.1 y HJ7.out.2).mono ?_
      rintro e w8 ⟨rfl, hb8⟩
      have hx8 := chain hx7 hb8
      clear HO7 HJ7 HL7 hb8
      go_wp2
      go_ret
      exact ⟨rfl, hx8⟩
def txsT (V : List TB) : List ByteArray := V.map (fun t => (⟨(tabTx t).toArray⟩ : ByteArray))
theorem txsT_length (V : List TB) : (txsT V).length = V.length := List.length_map _
theorem txsT_take (V : List TB) (k : Nat) (h : k < V.length) : txsT (V.take (k + 1)) = txsT (V.take k) ++ [⟨(tabTx V[k]).toArray⟩] := by
  unfold txsT
  rw [List.take_succ_eq_append_getElem h, List.map_append]; rfl
theorem txsT_flat (V : List TB) : (rawT (txsT V)).flatten = showTx V := by
  unfold rawT txsT showTx
  rw [List.map_map, List.flatMap_def]
  congr 1
set_option maxRecDepth 100000 in
set_option maxHeartbeats 4000000 in
theorem showbase_impl (a : Option Addr) (cap : Nat) (T : List TB) (n0 : Nat) (hn0 : T.length = n0) (w : World) (hrow : TabsAt w a T) (hm : n0 ≤ 1048576) (hp : PowAt w) (y : ByteArray) (hy : showB T = y) :
    Calls Tryz.prog 16 #[.slice a n0 cap] w fun e w' => e = .returned (.string y) ∧ Below w.heap.size w w' := by
  obtain ⟨i0, hti, hz0, hz1, hz2⟩ := info_parts infoStr
  obtain ⟨b, hb⟩ : ∃ b, baseB T = b := ⟨_, rfl⟩
  obtain ⟨V, hV⟩ : ∃ U, (if b then T else []) = U := ⟨_, rfl⟩
  have E : Hid (Calls Tryz.prog 27 #[.slice a n0 cap] w fun e w' => e = .returned (.tuple #[.map (some w.heap.size), .bool b]) ∧ ShelfT w w' w.heap.size n0 V ∧ Below w.heap.size w w') := by
    have := shelf_impl a cap T n0 hn0 w hrow hm b hb
    rw [hV] at this
    exact this
  have hUV : (⟨(showTx V).toArray⟩ : ByteArray) = y ∧ risesN (namesT V) = true ∧ (∀ t, t ∈ V → tableB t = true) ∧ V.length ≤ 5 := by
    unfold showB at hy
    rw [hb] at hy
    cases b
    · simp at hV hy
      subst hV hy
      exact ⟨rfl, rfl, fun t ht => (by cases ht), Nat.zero_le _⟩
    · simp at hV hy
      subst hV hy
      have h := hb
      unfold baseB at h
      simp only [Bool.and_eq_true, decide_eq_true_eq] at h
      exact ⟨rfl, h.1.2, fun t ht => List.all_eq_true.1 h.1.1 t ht, h.2⟩
  obtain ⟨hyV, hri, hok, h5⟩ := hUV
  obtain ⟨n, hn⟩ : ∃ n, V.length = n := ⟨_, rfl⟩
  have hn5 : n ≤ 5 := by rw [← hn]; exact h5
  have HYV : Hid ((⟨(showTx V).toArray⟩ : ByteArray) = y) := hyV
  have HRI : Hid (risesN (namesT V) = true) := hri
  have HOK : Hid (∀ t, t ∈ V → tableB t = true) := hok
  have HN : Hid (V.length = n) := hn
  have HV5 : Hid (V.length ≤ 5) := h5
  have HP : Hid (PowAt w) := hp
  clear hrow hn0 hb hV hy hyV hri hok h5 hn hp
  go_enter Tryz.func16, Tryz.ntmps16
  go_wp2_with fail
  refine E.out.mono ?_
  rintro e w1 ⟨rfl, hS1, hx1⟩
  obtain ⟨hnd, f, hSh, hH⟩ := hS1
  have HSh1 : Hid (ShelfAt w1 w.heap.size n0 (namesT V) f) := hSh
  have HH : Hid (∀ t, t ∈ V → HoldsT w f t) := hH
  have HLV : Hid ((namesT V).length = n) := by
    have : (namesT V).length = n := by rw [namesT_length]; exact HN.out
    exact this
  have hlen := fun ty => hSh.len ty
  rw [HLV.out] at hlen
  have hBw : w.heap.size < w1.heap.size := hSh.lt
  clear hSh hH hnd
  go_wp2_with (at_make; refine wpList_make_own _ rfl _ _ 25 rfl w1.heap.size 9 i0 (.string ⟨#[]⟩) 1 Tryz.underlying25 hti hz0 hz1 .i64 .i64 _ n rfl rfl rfl (by rw [hz2]; omega) (by unfold maxLen; omega) (by simp) ?_)
  intro w2 hown2 hgrow2
  have hb2 : Below w1.heap.size w1 w2 := (Below.refl _ _).grown hgrow2 (Nat.le_refl _) (by intro k h; cases h)
  have own2 : Hid (w2.ownsRow w1.heap.size 9 1 (.slice (some ⟨w1.heap.size, 0, none⟩) 0 n) 0 (strV (txsT (V.take 0)))) := hown2
  have HSh2 : Hid (ShelfAt w2 w.heap.size n0 (namesT V) f) := HSh1.out.below hb2
  have hx2 := chain hx1 hb2
  have hw12 : w1.heap.size < w2.heap.size := (own2.out.lt _ rfl).2
  clear hown2 hgrow2 hlen HSh1 hb2
  go_wp2_with fail
  refine (names_impl w.heap.size n0 (namesT V) f _ HSh2.out (by rw [HLV.out]; omega)).mono ?_
  rintro e w3 ⟨v3, rfl, own3, _, hb3⟩
  rw [srt_is HRI.out (List.Perm.refl _), HLV.out] at own3
  obtain ⟨ga, gc, hv3, hst, _, _⟩ := own_strsF own3 HLV.out
  subst hv3
  have hGN : ∀ b, inBlk ga (namesT V).length b → w2.heap.size ≤ b ∧ b < w3.heap.size := by
    rintro b ⟨_, o, rfl⟩
    exact own3.lt b rfl
  have HGN : Hid (∀ b, inBlk ga (namesT V).length b → w2.heap.size ≤ b ∧ b < w3.heap.size) := hGN
  have HST : Hid (StrsAt w3 ga (namesT V)) := hst
  have HSh3 : Hid (ShelfAt w3 w.heap.size n0 (namesT V) f) := HSh2.out.below hb3
  have own3' : Hid (w3.ownsRow w1.heap.size 9 1 (.slice (some ⟨w1.heap.size, 0, none⟩) 0 n) 0 (strV (txsT (V.take 0)))) := own_below own2.out hb3
  have hx3 := chain hx2 hb3
  have hs23 : w2.heap.size ≤ w3.heap.size := hb3.size
  clear own3 own2 HSh2 hst hb3 hGN hx2 hx1
  go_wp2
  go_loopw [5, 19] (fun v kk wr => ∃ k : Nat, k ≤ n ∧ kk = .int .i64 k ∧ Hid (wr.ownsRow w1.heap.size 9 1 v k (strV (txsT (V.take k)))) ∧ Hid (StrsAt wr ga (namesT V)) ∧ Hid (ShelfAt wr w.heap.size n0 (namesT V) f) ∧ Hid (∀ g, v.ownBlock = some g → g < w2.heap.size ∨ w3.heap.size ≤ g) ∧ Below w.heap.size w wr ∧ w3.heap.size ≤ wr.heap.size ∧ v ≠ .slice none 0 0) (fun _ kk _ => n - (intOf kk).toNat)
  case atStart =>
    have hg : ∀ g, (Value.slice (some ⟨w1.heap.size, 0, none⟩) 0 n).ownBlock = some g → g < w2.heap.size ∨ w3.heap.size ≤ g := by
      intro g hg
      simp [Value.ownBlock] at hg
      omega
    exact ⟨0, Nat.zero_le _, rfl, own3', HST, HSh3, hg, hx3, Nat.le_refl _, by simp⟩
  case round =>
    obtain ⟨k, hk, rfl, hO, hSt, hShr, hGv, hbw, hszr, hvn⟩ := hrel
    by_cases hlt : k < n
    · have hlt' : Hid (k < V.length) := by have := HN.out; exact show k < V.length by omega
      obtain ⟨gn, on, rfl, hgw, c0⟩ := hSt.out k (by rw [namesT_length]; exact hlt'.out)
      rw [namesT_at V k hlt'.out] at c0
      have hi0 : (0 : Int) ≤ (k : Int) := by omega
      have hi1 : (k : Int) < (n : Int) := by omega
      have hmem : (V[k]'hlt'.out) ∈ V := List.getElem_mem hlt'.out
      obtain ⟨ca, cc, ra, cr, hf, hta⟩ := HH.out _ hmem
      have hnmL := hta.name
      have hrun := (hShr.out.found _ hnmL (List.mem_map_of_mem hmem)).1
      rw [hf] at hrun
      have HTA : Hid (TabAt wr ca cc ra (V[k]'hlt'.out)) := hta.below hbw
      have HTK : Hid (tableB (V[k]'hlt'.out) = true) := HOK.out _ hmem
      have HTX : Hid (txsT (V.take (k + 1)) = txsT (V.take k) ++ [⟨(tabTx (V[k]'hlt'.out)).toArray⟩]) := txsT_take V k hlt'.out
      generalize (V[k]'hlt'.out) = t at c0 hrun HTA HTK HTX
      obtain ⟨z, hz⟩ : ∃ z : ByteArray, (⟨(tabTx t).toArray⟩ : ByteArray) = z := ⟨_, rfl⟩
      have HZ : Hid ((⟨(tabTx t).toArray⟩ : ByteArray) = z) := hz
      obtain ⟨nc, hnc⟩ : ∃ z, t.2.1.length = z := ⟨_, rfl⟩
      obtain ⟨nr, hnr⟩ : ∃ z, t.2.2.length = z := ⟨_, rfl⟩
      obtain ⟨nm, hnm⟩ : ∃ z, t.1 = z := ⟨_, rfl⟩
      rw [hnc, hnr, hnm] at hrun
      rw [hnm] at c0
      have HNC : Hid (t.2.1.length = nc) := hnc
      have HNR : Hid (t.2.2.length = nr) := hnr
      have HNM : Hid (t.1 = nm) := hnm
      clear hf hta hnmL hmem hz hnc hnr hnm
      go_wp2_with fail
      rw [← HNM.out]
      refine (tabletext_impl ca cc ra cr t nc nr HNC.out HNR.out _ HTA.out (HP.out.below hbw) HTK.out z HZ.out).mono ?_
      rintro e w4 ⟨rfl, hb4⟩
      have O4 := own_below hO.out hb4
      have hx4 := chain hbw hb4
      have hs4 : wr.heap.size ≤ w4.heap.size := hb4.size
      have hST4 := hSt.out.below hb4
      have hSH4 := hShr.out.below hb4
      clear hb4 hO c0 HTA hrun hSt hShr
      go_wp2_with (at_builtin; refine wpList_append_own_at _ rfl _ _ 25 rfl w1.heap.size 9 i0 (.string ⟨#[]⟩) 1 16 Tryz.underlying25 hti hz0 hz1 hz2 rfl (by decide) _ _ _ rfl (O4.alloc _) ⟨w4.heap.size, 0, none⟩ 1 1 [.string z] rfl rfl ?c1 ?c2 ?c3 ?c4 ?c5 ?_)
      try (case c1 =>
        intro j u hj
        match j, hj with
        | 0, hj => simp at hj; subst hj; simp [Addr.add])
      try (case c2 => intro u hu; simp at hu; subst hu; rfl)
      case c3 => unfold maxLen; omega
      case c4 => omega
      case c5 => simp; omega
      intro v5 w5 own5 hgrow5 hnn5 hloc5
      have hx5 : Below w.heap.size w w5 := by
        refine (hx4.alloc hx4.size _).grown hgrow5 (by have := hx4.size; simp; omega) ?_
        intro kk hkk
        have := (O4.lt kk hkk).1
        omega
      have hsa : (w4.alloc (.cells #[.string z] 9)).heap.size = w4.heap.size + 1 := by simp
      have hs5 : w3.heap.size ≤ w5.heap.size := by have := hgrow5.size; omega
      have hvn5 : v5 ≠ .slice none 0 0 := by first | exact hnn5 | exact fun e => hvn (hnn5.1 e).1
      have ST5 : Hid (StrsAt w5 (some ⟨gn, on, none⟩) (namesT V)) := by
        have h1 := hST4.below ((Below.refl _ _).alloc (Nat.le_refl _) (.cells #[.string z] 9))
        have : StrsAt w5 (some ⟨gn, on, none⟩) (namesT V) := h1.keepS (KeepS.grown hgrow5) (fun b hb e => by
          have h2 := HGN.out b hb
          have h3 := hGv.out b e.symm
          omega)
        exact this
      have SH5 : Hid (ShelfAt w5 w.heap.size n0 (namesT V) f) := by
        have : ShelfAt w5 w.heap.size n0 (namesT V) f := by
          have h1 := hSH4.below ((Below.refl _ _).alloc (Nat.le_refl _) (.cells #[.string z] 9))
          refine h1.block (hgrow5.block w.heap.size (by rw [hsa]; omega) (fun e => ?_))
          have := (O4.lt _ e.symm).1
          omega
        exact this
      have GV5 : Hid (∀ g, v5.ownBlock = some g → g < w2.heap.size ∨ w3.heap.size ≤ g) := by
        have : ∀ g, v5.ownBlock = some g → g < w2.heap.size ∨ w3.heap.size ≤ g := by
          intro g hg
          rcases hloc5 with e | e
          · rw [e] at hg; exact hGv.out g hg
          · rw [hg] at e
            injection e with e
            omega
        exact this
      have SS : Hid (w5.ownsRow w1.heap.size 9 1 v5 (k + 1) (strV (txsT (V.take (k + 1))))) := by
        have : w5.ownsRow w1.heap.size 9 1 v5 (k + 1) (strV (txsT (V.take (k + 1)))) := by
          rw [HTX.out, HZ.out, show strV (txsT (V.take k) ++ [z]) = strV (txsT (V.take k)) ++ [.string z] from List.map_append]; exact own5
        exact this
      clear own5 hgrow5 hnn5 hloc5 O4 hST4 hSH4 hGv hsa
      go_wp2
      go_roundw
      case rel => exact ⟨k + 1, by omega, by go_num, SS, ST5, SH5, GV5, hx5, hs5, hvn5⟩
      case measure => simp [intOf]; omega
    · have hkl : k = n := by omega
      subst hkl
      have hnn : ¬ (k : Int) < (k : Int) := by omega
      have hOO := hO.out
      rw [show V.take k = V by rw [← HN.out, List.take_length]] at hOO
      rcases hOO.2 with ⟨e, _⟩ | ⟨g7, c7, cur7, e, _⟩
      · exact absurd e hvn
      subst e
      have HO7 : Hid (wr.ownsRow w1.heap.size 9 1 (.slice (some ⟨g7, 0, none⟩) k c7) k (strV (txsT V))) := hOO
      have HJ7 : Hid ((Lib.join (rawT (txsT V)) []).length ≤ 140737488355328 ∧ (⟨(Lib.join (rawT (txsT V)) []).toArray⟩ : ByteArray) = y) := by
        have e : Lib.join (rawT (txsT V)) [] = showTx V := by rw [join_none, txsT_flat]
        have : (Lib.join (rawT (txsT V)) []).length ≤ 140737488355328 ∧ (⟨(Lib.join (rawT (txsT V)) []).toArray⟩ : ByteArray) = y := by
          rw [e]
          exact ⟨by have := showTx_len HOK.out HV5.out V.length; rw [List.take_length] at this; omega, HYV.out⟩
        exact this
      have HL7 : Hid ((txsT V).length = k) := by
        have : (txsT V).length = k := by rw [txsT_length]; exact HN.out
        exact this
      clear hOO hO hSt hShr hGv
      go_wp2_with fail
      refine (joinedN k g7 c7 _ HL7.out ⟨#[]⟩ _ w1.heap.size HO7.out (by omega) HJ7.out.1 y HJ7.out.2).mono ?_
      rintro e w8 ⟨rfl, hb8⟩
      have hx8 := chain hbw hb8
      clear HO7 HJ7 HL7 hb8
      go_wp2
      go_ret
      exact ⟨rfl, hx8⟩
end Go.Proofs.YteamdmcgkpeelabGreatDoor
