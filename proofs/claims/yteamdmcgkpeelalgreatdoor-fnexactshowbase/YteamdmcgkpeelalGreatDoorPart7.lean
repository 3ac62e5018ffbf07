/-
  A part of the proof: KeyVar, KeyI, RowI, Sh1, ShMath, ShI1, ShI2.
-/
import Derived.Test.YteamdmcgkpeelalGreatDoorPart1
import Derived.Test.YteamdmcgkpeelalGreatDoorShelf
import Derived.Test.YteamdmcgkpeelalGreatDoorPart2
import Derived.Test.YteamdmcgkpeelalGreatDoorPart3
import Derived.Maps.OwnSet
import Derived.Sort.KeysCollected
import Derived.Test.YteamdmcgkpeelalGreatDoorPart6
import Derived.Test.YteamdmcgkpeelalGreatDoorIter
import Derived.Laws.IdiomCopy

/-
  Package-level variables of the library in later worlds: the table of powers of ten, the two sentinels.
-/
namespace Go.Proofs.YteamdmcgkpeelalGreatDoor
open Go.ChangeShapes Go.WideShapes Go.ChangeAt Go.RowKit

theorem var_below {P : Program} {w w' : World} {name : String} {v : Array Value} (h : w.var? P name = some v) (hb : Below w.heap.size w w') : w'.var? P name = some v := by
  unfold World.var? at h ⊢
  cases hg : P.globalNamed name with
  | none => rw [hg] at h; cases h
  | some g =>
    rw [hg] at h
    have h2 : (match w.heap[g]? with | some (.cells cs _ _) => some cs | _ => none) = some v := h
    have hlt : g < w.heap.size := by
      by_cases hl : g < w.heap.size
      · exact hl
      · rw [Array.getElem?_eq_none (by omega)] at h2; cases h2
    show (match w'.heap[g]? with | some (.cells cs _ _) => some cs | _ => none) = some v
    rw [hb.block g hlt]; exact h2
/-- The table of powers of ten holds them. -/
def PowAt (w : World) : Prop := Lib.TabIs Tryz.prog w "internal/strconv.uint64pow10" .u64 Lib.pow10Tab
theorem PowAt.below {w w' : World} (h : PowAt w) (hb : Below w.heap.size w w') : PowAt w' := var_below h hb
/-- The two sentinels hold something. -/
def ErrAt (w : World) : Prop := (∃ tp p, w.var? Tryz.prog "strconv.ErrSyntax" = some #[.iface tp p]) ∧ (∃ tp p, w.var? Tryz.prog "strconv.ErrRange" = some #[.iface tp p])
theorem ErrAt.below {w w' : World} (h : ErrAt w) (hb : Below w.heap.size w w') : ErrAt w' := by
  obtain ⟨⟨a, b, h1⟩, ⟨c, d, h2⟩⟩ := h
  exact ⟨⟨a, b, var_below h1 hb⟩, ⟨c, d, var_below h2 hb⟩⟩
theorem grow_below (w : World) (os : Array Obj) : Below w.heap.size w (Sort.grow w os) :=
  ⟨rfl, rfl, rfl, by unfold Sort.grow; simp, fun k hk => by
    unfold Sort.grow
    show (w.heap ++ os)[k]? = w.heap[k]?
    rw [Array.getElem?_append_left hk]⟩

theorem format_lib (n : Int) (h0 : -9223372036854775808 ≤ n) (h1 : n ≤ 9223372036854775807) (w : World) (hp : PowAt w) :
    Calls Tryz.prog 90 #[.int .i64 n, .int .i64 10] w fun e w' => e = .returned (.string ⟨(Lib.itoa n).toArray⟩) ∧ Below w.heap.size w w' := by
  refine (Tryz.strconv_FormatInt_10 n h0 h1 w hp).mono ?_
  rintro e w' ⟨rfl, k, os, rfl⟩
  exact ⟨rfl, (belowN (Below.refl _ _) k).trans (grow_below (w.drewN k) os)⟩

end Go.Proofs.YteamdmcgkpeelalGreatDoor

/-
  The contracts of the program's texts of cells.
-/
namespace Go.Proofs.YteamdmcgkpeelalGreatDoor
open Go.ChangeShapes Go.WideShapes Go.ChangeAt Go.RowKit

theorem joined_impl (bk c : Nat) (xs : List ByteArray) (sep : ByteArray) (w : World) (hcells : ∀ (j : Nat) x, xs[j]? = some x → w.cell? ⟨bk, 0 + j, none⟩ = some (.string x)) (hbk : bk < w.heap.size) (hN : xs.length ≤ 140737488355328) (hcap : xs.length ≤ c) (hlen : (Lib.join (xs.map (·.data.toList)) sep.data.toList).length ≤ 140737488355328) (y : ByteArray) (hy : (⟨(Lib.join (xs.map (·.data.toList)) sep.data.toList).toArray⟩ : ByteArray) = y) :
    Calls Tryz.prog 17 #[.string sep, .slice (some ⟨bk, 0, none⟩) xs.length c] w fun e w' => e = .returned (.string y) ∧ Below w.heap.size w w' := by
  subst hy
  go_enter Tryz.func17, Tryz.ntmps17
  go_wp2_with fail
  refine (Tryz.strings_Join bk 0 c xs sep _ hcells hbk hN hcap hlen).mono ?_
  rintro e w1 ⟨rfl, hb⟩
  go_wp2
  go_ret
  exact ⟨rfl, hb⟩

theorem joined_none (a : Option Addr) (c : Nat) (sep : ByteArray) (w : World) :
    Calls Tryz.prog 17 #[.string sep, .slice a 0 c] w fun e w' => e = .returned (.string ⟨#[]⟩) ∧ w' = w := by
  go_enter Tryz.func17, Tryz.ntmps17
  go_wp2_with fail
  refine (Tryz.strings_Join_none a c sep _).mono ?_
  rintro e w1 ⟨rfl, rfl⟩
  go_wp2
  go_ret
  exact ⟨rfl, rfl⟩

theorem st0 (w : World) :
    Calls Tryz.prog 72 #[.iface 139 (.agg #[])] w fun e w' => e = .returned (.string ⟨wNone.toArray⟩) ∧ Below w.heap.size w w' := by
  have h1 := asserts_noneShape
  go_enter Tryz.func72, Tryz.ntmps72
  go_wp2
  go_ret
  exact ⟨rfl, by go_grown⟩
theorem st1 (n : Int) (h0 : -9223372036854775808 ≤ n) (h1 : n ≤ 9223372036854775807) (w : World) (hp : PowAt w) :
    Calls Tryz.prog 72 #[.iface 141 (.agg #[.int .i64 n])] w fun e w' => e = .returned (.string ⟨(Lib.itoa n).toArray⟩) ∧ Below w.heap.size w w' := by
  obtain ⟨a1, a2⟩ := asserts_numberShape
  have HP : Hid (PowAt w) := hp
  clear hp
  go_enter Tryz.func72, Tryz.ntmps72
  go_wp2_with fail
  refine (format_lib n h0 h1 _ (HP.out.below (by go_grown))).mono ?_
  rintro e w1 ⟨rfl, hb⟩
  go_wp2
  go_ret
  exact ⟨rfl, chainA hb⟩
theorem st3 (n : Int) (w : World) :
    Calls Tryz.prog 72 #[.iface 144 (.agg #[.int .i64 n])] w fun e w' => e = .returned (.string ⟨(if n = 1 then wYes else wNo).toArray⟩) ∧ Below w.heap.size w w' := by
  obtain ⟨a1, a2, a3, a4⟩ := asserts_truthShape
  by_cases hn : n = 1
  · subst hn
    go_enter Tryz.func72, Tryz.ntmps72
    go_wp2
    go_ret
    exact ⟨rfl, by go_grown⟩
  · rw [if_neg hn]
    go_enter Tryz.func72, Tryz.ntmps72
    go_wp2
    go_ret
    exact ⟨rfl, by go_grown⟩
theorem st3b (n : Int) (y : ByteArray) (hy : (⟨(if n = 1 then wYes else wNo).toArray⟩ : ByteArray) = y) (w : World) :
    Calls Tryz.prog 72 #[.iface 144 (.agg #[.int .i64 n])] w fun e w' => e = .returned (.string y) ∧ Below w.heap.size w w' := by
  subst hy; exact st3 n w
theorem st2 (t : ByteArray) (ht : t.size ≤ 1000) (w : World) :
    Calls Tryz.prog 72 #[.iface 143 (.agg #[.string t])] w fun e w' => e = .returned (.string ⟨(39 :: (t.data.toList ++ [39])).toArray⟩) ∧ Below w.heap.size w w' := by
  obtain ⟨a1, a2, a3⟩ := asserts_textShape
  obtain ⟨y, hy⟩ : ∃ y : ByteArray, (⟨(39 :: (t.data.toList ++ [39])).toArray⟩ : ByteArray) = y := ⟨_, rfl⟩
  rw [hy]
  go_enter Tryz.func72, Tryz.ntmps72
  go_wp2_with fail
  refine (joined_impl _ _ [⟨#[39]⟩, t, ⟨#[39]⟩] ⟨#[]⟩ _ ?_ (by simp) (by simp) (by simp) ?_ y (by rw [← hy]; simp [Lib.join_cons, Lib.joinTail])).mono ?_
  · intro j x hj
    match j, hj with
    | 0, hj => simp at hj; subst hj; simp [go_sem]
    | 1, hj => simp at hj; subst hj; simp [go_sem]
    | 2, hj => simp at hj; subst hj; simp [go_sem]
  · have hsz := Lib.size_eq t
    simp [Lib.join_cons, Lib.joinTail]
    omega
  rintro e w1 ⟨rfl, hb⟩
  go_wp2
  go_ret
  exact ⟨rfl, chainAA hb⟩

theorem ctext_impl (k n : Int) (t : ByteArray) (w : World) (ht : t.size ≤ maxLen) (hp : PowAt w) :
    Calls Tryz.prog 52 #[.agg #[.int .i64 k, .int .i64 n, .string t]] w fun e w' => e = .returned (.string (cellT k n t)) ∧ Below w.heap.size w w' := by
  have HP : Hid (PowAt w) := hp
  clear hp
  cases ho : okB k n t with
  | false =>
    rw [cellT_no ho]
    go_enter Tryz.func52, Tryz.ntmps52
    go_wp2_with fail
    refine (ok_implb _ _ _ _ ho _ ht).mono ?_
    rintro e w1 ⟨rfl, hb⟩
    go_wp2
    go_ret
    exact ⟨rfl, by first | exact hb | exact chainA hb⟩
  | true =>
    have hc : cellT k n t = ⟨(l4T k n t.data.toList).toArray⟩ := by unfold cellT; rw [if_pos ho]
    rw [hc]
    clear hc
    rcases okB_kind ho with rfl | rfl | rfl | rfl
    · go_enter Tryz.func52, Tryz.ntmps52
      go_wp2_with fail
      refine (ok_implb _ _ _ _ ho _ ht).mono ?_
      rintro e w1 ⟨rfl, hb⟩
      obtain ⟨a1, b1, c1, d1⟩ := box3 hb
      go_wp2_with fail
      refine (shape0 _ _ _).mono ?_
      rintro e w2 ⟨rfl, hb2⟩
      go_wp2_with fail
      refine (st0 _).mono ?_
      rintro e w3 ⟨rfl, hb3⟩
      go_wp2
      go_ret
      exact ⟨rfl, chain (chain (chainA hb) hb2) hb3⟩
    · have hb := numB_iff.1 (okB_1 ho).1
      go_enter Tryz.func52, Tryz.ntmps52
      go_wp2_with fail
      refine (ok_implb _ _ _ _ ho _ ht).mono ?_
      rintro e w1 ⟨rfl, hb1⟩
      obtain ⟨a1, b1, c1, d1⟩ := box3 hb1
      go_wp2_with fail
      refine (shape1 _ _ _).mono ?_
      rintro e w2 ⟨rfl, hb2⟩
      go_wp2_with fail
      refine (st1 n (by omega) (by omega) _ (HP.out.below (chain (chainA hb1) hb2))).mono ?_
      rintro e w3 ⟨rfl, hb3⟩
      go_wp2
      go_ret
      exact ⟨rfl, chain (chain (chainA hb1) hb2) hb3⟩
    · have h12 : t.size ≤ 1000 := by
        have := (okB_2 ho).2
        unfold textB at this
        rw [Bool.and_eq_true, decide_eq_true_eq] at this
        omega
      go_enter Tryz.func52, Tryz.ntmps52
      go_wp2_with fail
      refine (ok_implb _ _ _ _ ho _ ht).mono ?_
      rintro e w1 ⟨rfl, hb1⟩
      obtain ⟨a1, b1, c1, d1⟩ := box3 hb1
      go_wp2_with fail
      refine (shape2 _ _ _).mono ?_
      rintro e w2 ⟨rfl, hb2⟩
      go_wp2_with fail
      refine (st2 t h12 _).mono ?_
      rintro e w3 ⟨rfl, hb3⟩
      go_wp2
      go_ret
      exact ⟨rfl, chain (chain (chainA hb1) hb2) hb3⟩
    · obtain ⟨y, hy⟩ : ∃ y : ByteArray, (⟨(l4T 3 n t.data.toList).toArray⟩ : ByteArray) = y := ⟨_, rfl⟩
      rw [hy]
      go_enter Tryz.func52, Tryz.ntmps52
      go_wp2_with fail
      refine (ok_implb _ _ _ _ ho _ ht).mono ?_
      rintro e w1 ⟨rfl, hb1⟩
      obtain ⟨a1, b1, c1, d1⟩ := box3 hb1
      go_wp2_with fail
      refine (shape3 _ _ _).mono ?_
      rintro e w2 ⟨rfl, hb2⟩
      go_wp2_with fail
      refine (st3b n y hy _).mono ?_
      rintro e w3 ⟨rfl, hb3⟩
      go_wp2
      go_ret
      exact ⟨rfl, chain (chain (chainA hb1) hb2) hb3⟩

theorem ctext_implb (k n : Int) (t : ByteArray) (y : ByteArray) (hy : cellT k n t = y) (w : World) (ht : t.size ≤ maxLen) (hp : PowAt w) :
    Calls Tryz.prog 52 #[.agg #[.int .i64 k, .int .i64 n, .string t]] w fun e w' => e = .returned (.string y) ∧ Below w.heap.size w w' := by
  subst hy; exact ctext_impl k n t w ht hp

end Go.Proofs.YteamdmcgkpeelalGreatDoor

/-
  The contract of the program's text of a row.
-/
namespace Go.Proofs.YteamdmcgkpeelalGreatDoor
open Go.ChangeShapes Go.WideShapes Go.ChangeAt Go.RowKit
attribute [local go_sem ↓] Go.wp_at_zero Go.wp_at_succ

theorem rowT_no {l : List CT} {k : Nat} (h : k < l.length) (ho : okC l[k] = false) : rowT l = ⟨#[]⟩ := by
  unfold rowT
  rw [if_neg]
  intro e
  rw [List.all_eq_true.1 e _ (List.getElem_mem h)] at ho
  cases ho

set_option maxRecDepth 100000 in
set_option maxHeartbeats 2000000 in
theorem rowtext_impl (a : Option Addr) (cap : Nat) (l : List CT) (w : World) (hrow : RowAt w a l) (hfit : Fit l) (hm : l.length ≤ 1048576) (hp : PowAt w) (y : ByteArray) (hy : rowT l = y) :
    Calls Tryz.prog 31 #[.slice a l.length cap] w fun e w' => e = .returned (.string y) ∧ Below w.heap.size w w' := by
  obtain ⟨i0, hti, hz0, hz1, hz2⟩ := info_parts infoStr
  have HR : Hid (RowAt w a l) := hrow
  have HF : Hid (Fit l) := hfit
  have HY : Hid (rowT l = y) := hy
  have HP : Hid (PowAt w) := hp
  clear hrow hfit hy hp
  go_enter Tryz.func31, Tryz.ntmps31
  go_wp2_with (at_make; refine wpList_make_own _ rfl _ _ 30 rfl w.heap.size 9 i0 (.string ⟨#[]⟩) 1 Tryz.underlying30 hti hz0 hz1 .i64 .i64 _ l.length rfl rfl rfl (by rw [hz2]; omega) (by unfold maxLen; omega) (Nat.le_refl _) ?_)
  intro w0 hown0 hgrow0
  have hb0 : Below w.heap.size w w0 := (Below.refl _ _).grown hgrow0 (Nat.le_refl _) (by intro k h; cases h)
  have own0 : Hid (w0.ownsRow w.heap.size 9 1 (.slice (some ⟨w.heap.size, 0, none⟩) 0 l.length) (textsC (l.take 0)).length ((textsC (l.take 0)).map Value.string)) := hown0
  clear hown0 hgrow0
  go_wp2
  go_loopw [3, 11] (fun v kk wr => ∃ k : Nat, k ≤ l.length ∧ kk = .int .i64 k ∧ Hid ((l.take k).all okC = true) ∧ Hid (wr.ownsRow w.heap.size 9 1 v (textsC (l.take k)).length ((textsC (l.take k)).map Value.string)) ∧ Below w.heap.size w wr ∧ v ≠ .slice none 0 0) (fun _ kk _ => l.length - (intOf kk).toNat)
  case atStart => exact ⟨0, Nat.zero_le _, rfl, rfl, own0, hb0, by simp⟩
  case round =>
    obtain ⟨k, hk, rfl, hall, hO, hb, hvn⟩ := hrel
    by_cases hlt : k < l.length
    · obtain ⟨g, o, rfl, hgw, c0, c1, c2⟩ := HR.out.below hb k hlt
      have hi0 : (0 : Int) ≤ (k : Int) := by omega
      have hi1 : (k : Int) < (l.length : Int) := by omega
      have hft := HF.out k hlt
      have hsa := all_snoc l k hlt
      rw [hall.out, Bool.true_and] at hsa
      have HS0 : Hid ((l.take (k + 1)).all okC = okC l[k]) := hsa
      obtain ⟨r, hr⟩ : ∃ r, okB l[k].1 l[k].2.1 l[k].2.2 = r := ⟨_, rfl⟩
      have HRR : Hid (okC l[k] = r) := hr
      have hno : Hid (okC l[k] = false → y = ⟨#[]⟩) := by
        have : okC l[k] = false → y = ⟨#[]⟩ := fun e => by rw [← HY.out]; exact rowT_no hlt e
        exact this
      have hsn := textsC_snoc l k hlt
      have hlen : (textsC (l.take k)).length = k := by rw [textsC_length, List.length_take]; omega
      obtain ⟨z, hz⟩ : ∃ z : ByteArray, cellT l[k].1 l[k].2.1 l[k].2.2 = z := ⟨_, rfl⟩
      have hsn2 : r = true → textsC (l.take (k + 1)) = textsC (l.take k) ++ [z] := by
        intro e
        subst e
        rw [hsn, ← hz]
        congr 2
        exact bytes_ext (by rw [cellT_ok hr]; rfl)
      have HS : Hid (r = true → textsC (l.take (k + 1)) = textsC (l.take k) ++ [z]) := hsn2
      clear hsn hsn2 hsa
      have hOO := hO.out
      rw [hlen] at hOO
      generalize textsC (l.take k) = xs at HS hOO hlen
      generalize l[k] = x at c0 c1 c2 hr hz hft HS0 HRR hno
      go_wp2_with fail
      refine (ok_implb _ _ _ _ hr _ hft).mono ?_
      rintro e w1 ⟨rfl, hb1⟩
      obtain ⟨a1, b1, d1, e1⟩ := box3 hb1
      clear c0 c1 c2
      cases r
      · have e := hno.out HRR.out
        subst e
        go_wp2
        go_ret
        exact ⟨rfl, chain hb (chainA hb1)⟩
      · have hbx := chain hb (chainA hb1)
        go_wp2_with fail
        refine (ctext_implb _ _ _ z hz _ hft (HP.out.below hbx)).mono ?_
        rintro e w2 ⟨rfl, hb2⟩
        clear hz hr
        have O1 := own_below hOO (chain (chainA hb1) hb2)
        have hx := chain hbx hb2
        clear a1 b1 d1
        go_wp2_with (at_builtin; refine wpList_append_own _ rfl _ _ 30 rfl w.heap.size 9 i0 (.string ⟨#[]⟩) 1 16 Tryz.underlying30 hti hz0 hz1 hz2 rfl (by decide) _ _ _ rfl (O1.alloc _) ⟨w2.heap.size, 0, none⟩ 1 1 [.string z] rfl rfl ?c1 ?c2 ?c3 ?c4 ?c5 ?_)
        case c1 =>
          intro j u hj
          match j, hj with
          | 0, hj => simp at hj; subst hj; simp [Addr.add]
        case c2 => intro u hu; simp at hu; subst hu; rfl
        case c3 => unfold maxLen; omega
        case c4 => omega
        case c5 => have := hx.size; simp; omega
        intro v' w3 own2 hgrow hnn
        have hx2 : Below w.heap.size w w3 := by
          refine (hx.alloc hx.size _).grown hgrow (by have := hx.size; simp; omega) ?_
          intro kk hkk
          exact (O1.lt kk hkk).1
        have hvn2 : v' ≠ .slice none 0 0 := by first | exact hnn | exact fun e => hvn (hnn.1 e).1
        have SS : Hid (w3.ownsRow w.heap.size 9 1 v' (textsC (l.take (k + 1))).length ((textsC (l.take (k + 1))).map Value.string)) := by
          have : w3.ownsRow w.heap.size 9 1 v' (textsC (l.take (k + 1))).length ((textsC (l.take (k + 1))).map Value.string) := by
            rw [HS.out (by trivial), List.length_append, hlen, List.map_append]; exact own2
          exact this
        clear own2 hgrow hnn O1 hOO hO
        go_wp2
        go_roundw
        case rel => exact ⟨k + 1, by omega, by go_num, HS0.out.trans HRR.out, SS, hx2, hvn2⟩
        case measure => simp [intOf]; omega
    · have hkl : k = l.length := by omega
      subst hkl
      have hi1 : ¬ (l.length : Int) < (l.length : Int) := by omega
      have hAll : l.all okC = true := by have := hall.out; rwa [List.take_length] at this
      have hOO := hO.out
      rw [List.take_length] at hOO
      rcases hOO.2 with ⟨h', _⟩ | ⟨g, c, cur, h', hbg, _, hcap, _⟩
      · exact absurd h' hvn
      subst h'
      have hT := texts_own hOO
      have h14 := texts_14 hAll
      have hl2 := textsC_length l
      have hjl := join_len (rawT (textsC l)) (by
        intro z hz
        unfold rawT at hz
        obtain ⟨u, hu, rfl⟩ := List.mem_map.1 hz
        have := h14 u hu
        rw [Lib.size_eq] at this
        exact this)
      have hrl : (rawT (textsC l)).length = l.length := by unfold rawT; rw [List.length_map, hl2]
      have HY2 : Hid ((⟨(Lib.join (rawT (textsC l)) [32]).toArray⟩ : ByteArray) = y) := by
        have : (⟨(Lib.join (rawT (textsC l)) [32]).toArray⟩ : ByteArray) = y := by rw [← HY.out, rowT_texts hAll]
        exact this
      have HT : Hid (TextsAt wr g (textsC l)) := hT
      by_cases hn0 : (textsC l).length = 0
      · have hl0 : l = [] := List.length_eq_zero_iff.1 (by omega)
        subst hl0
        have e : y = ⟨#[]⟩ := by rw [← HY.out]; rfl
        subst e
        clear hT h14 hl2 hjl hrl hOO hO hn0 hcap HT HY2 hAll
        go_wp2_with fail
        refine (joined_none _ _ _ _).mono ?_
        rintro e w2 ⟨rfl, rfl⟩
        go_wp2
        go_ret
        exact ⟨rfl, hb⟩
      · have hg : g < wr.heap.size := (hT 0 (by omega)).2
        have HJ : Hid ((Lib.join (rawT (textsC l)) [32]).length ≤ 140737488355328) := by
          have : (Lib.join (rawT (textsC l)) [32]).length ≤ 140737488355328 := by omega
          exact this
        have HL : Hid ((textsC l).length ≤ 140737488355328) := by
          have : (textsC l).length ≤ 140737488355328 := by omega
          exact this
        have HC : Hid ((textsC l).length ≤ c) := hcap
        clear hT h14 hl2 hjl hrl hOO hO hn0 hcap
        go_wp2_with fail
        refine (joined_impl g c (textsC l) ⟨#[32]⟩ _ (fun j x hj => ?_) hg HL.out HC.out HJ.out y HY2.out).mono ?_
        · obtain ⟨hlt, rfl⟩ := List.getElem?_eq_some_iff.1 hj
          rw [Nat.zero_add]
          exact (HT.out j hlt).1
        rintro e w2 ⟨rfl, hb2⟩
        go_wp2
        go_ret
        exact ⟨rfl, chain hb hb2⟩

end Go.Proofs.YteamdmcgkpeelalGreatDoor

/-
  A map from names to values, as the program's shelf is one: what it holds, told by the list of its names and by what stands at each; made, written, asked, struck and cleared.
-/
namespace Go.Proofs.YteamdmcgkpeelalGreatDoor
open Go.ChangeShapes Go.WideShapes Go.ChangeAt Go.RowKit Go.Maps

/-- What stands in the map is told as it is. -/
def tokR (v : Value) : Option (DataW Value × List MemPlace) := some (.held v, [])
def keyL (s : ByteArray) : Lit := .string s.data.toList
theorem keyL_inj {s t : ByteArray} (h : keyL s = keyL t) : s = t := by
  unfold keyL at h
  injection h with h
  exact ByteArray.ext (Array.toList_inj.1 h)
instance decMemB (s : ByteArray) (ks : List ByteArray) : Decidable (s ∈ ks) :=
  decidable_of_iff (s.data.toList ∈ ks.map (fun x => x.data.toList)) ⟨fun h => by
    obtain ⟨x, hx, e⟩ := List.mem_map.1 h
    rw [← ByteArray.ext (Array.toList_inj.1 e)]; exact hx, fun h => List.mem_map.2 ⟨s, h, rfl⟩⟩
theorem keyL_key (s : ByteArray) : WideAt.IsKeyLit (keyL s) := True.intro
/-- The map holds these names, each once, and at each what f says. -/
structure Says (D : DataW Value) (ks : List ByteArray) (f : ByteArray → Value) : Prop where
  nodup : ks.Nodup
  has : ∀ s, Maps.has D (keyL s) = decide (s ∈ ks)
  holds : ∀ s, s ∈ ks → ∀ z, D.atKey (keyL s) z = .held (f s)
theorem says_none (f : ByteArray → Value) : Says (.map []) [] f := ⟨List.nodup_nil, fun s => by simp [Maps.has], fun s h => by cases h⟩
theorem Says.same {D : DataW Value} {ks : List ByteArray} {f g : ByteArray → Value} (h : Says D ks f) (e : ∀ s, s ∈ ks → f s = g s) : Says D ks g :=
  ⟨h.nodup, h.has, fun s hs z => by rw [h.holds s hs z, e s hs]⟩
/-- A name more, or another value at one that is there. -/
def putK (ks : List ByteArray) (s : ByteArray) : List ByteArray := if s ∈ ks then ks else ks ++ [s]
def putF (f : ByteArray → Value) (s : ByteArray) (v : Value) : ByteArray → Value := fun x => if x = s then v else f x
theorem mem_putK (ks : List ByteArray) (s x : ByteArray) : x ∈ putK ks s ↔ (x = s ∨ x ∈ ks) := by
  unfold putK
  split
  · rename_i h
    exact ⟨Or.inr, fun e => by rcases e with rfl | e <;> assumption⟩
  · simp only [List.mem_append, List.mem_singleton]
    exact Or.comm
theorem nodup_putK {ks : List ByteArray} (h : ks.Nodup) (s : ByteArray) : (putK ks s).Nodup := by
  unfold putK
  split
  · exact h
  · rename_i hn
    refine List.nodup_append.2 ⟨h, List.pairwise_singleton _ _, fun a ha b hb e => ?_⟩
    rw [List.mem_singleton] at hb
    subst hb; subst e; exact hn ha
theorem Says.put {D : DataW Value} {ks : List ByteArray} {f : ByteArray → Value} (h : Says D ks f) (hD : IsMap D) (s : ByteArray) (v : Value) : Says (D.put (keyL s) (.held v)) (putK ks s) (putF f s v) := by
  refine ⟨nodup_putK h.nodup s, fun x => ?_, fun x hx z => ?_⟩
  · by_cases e : x = s
    · subst e
      rw [has_put_same hD (keyL_key x)]
      exact (decide_eq_true ((mem_putK ks x x).2 (Or.inl rfl))).symm
    · rw [has_put_other (fun e' => e (keyL_inj e')), h.has x]
      have : (x ∈ putK ks s) ↔ x ∈ ks := by rw [mem_putK]; exact ⟨fun q => q.resolve_left e, Or.inr⟩
      rw [decide_eq_decide]; exact this.symm
  · by_cases e : x = s
    · subst e
      rw [atKey_put_same hD (keyL_key x)]
      simp [putF]
    · rw [atKey_put_other (fun e' => e (keyL_inj e')), h.holds x (((mem_putK ks s x).1 hx).resolve_left e)]
      simp [putF, e]
/-- Without a name. -/
def cutK (ks : List ByteArray) (s : ByteArray) : List ByteArray := ks.filter (fun x => decide (x ≠ s))
theorem Says.del {D : DataW Value} {ks : List ByteArray} {f : ByteArray → Value} (h : Says D ks f) (s : ByteArray) : Says (D.del (keyL s)) (cutK ks s) f := by
  refine ⟨h.nodup.filter _, fun x => ?_, fun x hx z => ?_⟩
  · by_cases e : x = s
    · subst e
      rw [has_del_same]
      symm
      rw [decide_eq_false_iff_not]
      intro hm
      have := (List.mem_filter.1 hm).2
      simp at this
    · rw [has_del_other (fun e' => e (keyL_inj e')), h.has x, decide_eq_decide]
      unfold cutK
      rw [List.mem_filter]
      exact ⟨fun q => ⟨q, by simpa using e⟩, fun q => q.1⟩
  · have hm := List.mem_filter.1 hx
    have e : x ≠ s := by simpa using hm.2
    rw [atKey_del_other (fun e' => e (keyL_inj e')), h.holds x hm.1]

theorem str_keyed : Keyed Tryz.prog 9 := string_keyed Tryz.underlying9
/-- Block B is a map of at most n names that holds these. -/
def ShelfAt (w : World) (B n : Nat) (ks : List ByteArray) (f : ByteArray → Value) : Prop :=
  ∃ D, w.ownsMap Tryz.prog 9 tokR B n D ∧ Says D ks f
theorem ShelfAt.lt {w : World} {B n : Nat} {ks : List ByteArray} {f : ByteArray → Value} (h : ShelfAt w B n ks f) : B < w.heap.size := by
  obtain ⟨D, h, _⟩ := h
  exact h.lt
theorem ShelfAt.block {w w' : World} {B n : Nat} {ks : List ByteArray} {f : ByteArray → Value} (h : ShelfAt w B n ks f) (hb : w'.heap[B]? = w.heap[B]?) : ShelfAt w' B n ks f := by
  obtain ⟨D, ⟨es, clock, he, F, hs, hD⟩, S⟩ := h
  exact ⟨D, ⟨es, clock, hb.trans he, F, hs, hD⟩, S⟩
theorem ShelfAt.below {w w' : World} {B n : Nat} {ks : List ByteArray} {f : ByteArray → Value} (h : ShelfAt w B n ks f) (hb : Below w.heap.size w w') : ShelfAt w' B n ks f :=
  h.block (hb.block B h.lt)
theorem ShelfAt.made (w : World) (f : ByteArray → Value) : ShelfAt (w.alloc (.map #[] 0)) w.heap.size 0 [] f := ⟨.map [], World.ownsMap_made w _ _ _, says_none f⟩
theorem strs_of_keys {w : World} {B n : Nat} {D : DataW Value} {ks : List ByteArray} {f : ByteArray → Value} (h : w.ownsMap Tryz.prog 9 tokR B n D) (S : Says D ks f) : (ks.map (fun s => s.data.toList)).Perm (strKeys D) := by
  obtain ⟨es, rfl, hk⟩ := h.keysOf
  obtain ⟨es', e, hp⟩ := h.tidy str_keyed
  injection e with e
  subst e
  refine perm_strKeys hp (fun p hpm => ?_) ?_ (fun x => ?_)
  · obtain ⟨v, hv⟩ := hk p hpm
    obtain ⟨x, _, e, _⟩ := Maps.keyOf_str Tryz.underlying9 hv
    exact ⟨x, e⟩
  · refine List.pairwise_map.2 (S.nodup.imp fun {a b} hne e => hne (ByteArray.ext (Array.toList_inj.1 e)))
  · have e := S.has ⟨x.toArray⟩
    have ek : keyL ⟨x.toArray⟩ = .string x := rfl
    rw [ek] at e
    rw [e, List.mem_map]
    rw [show (decide ((⟨x.toArray⟩ : ByteArray) ∈ ks) = true) = ((⟨x.toArray⟩ : ByteArray) ∈ ks) from propext decide_eq_true_iff]
    exact ⟨fun ⟨s, hs, e⟩ => by subst e; exact hs, fun hs => ⟨_, hs, rfl⟩⟩
theorem size_keys {w : World} {B n : Nat} {D : DataW Value} {ks : List ByteArray} {f : ByteArray → Value} (h : w.ownsMap Tryz.prog 9 tokR B n D) (S : Says D ks f) : Maps.size D = ks.length := by
  have p := (strs_of_keys h S).length_eq
  obtain ⟨es, rfl, _⟩ := h.keysOf
  rw [List.length_map] at p
  rw [p, size_eq]
  simp [strKeys]
/-- A map block that turned lies above what was there. -/
theorem below_turned {base B : Nat} {a w w' : World} (h : Below base a w) (t : w.mapTurned w' B) (hB : base ≤ B) : Below base a w' := by
  obtain ⟨es, clock, es', clock', hb, rfl⟩ := t
  refine ⟨h.os, h.tape, h.output, ?_, fun k hk => ?_⟩
  · have := h.size; simpa [ChangeMaps.setBlock] using this
  · rw [ChangeMaps.heap_setBlock_other hb _ (by omega)]; exact h.block k hk
theorem keyOf_txt (s : ByteArray) (h : s.size ≤ maxLen) : _root_.Go.keyOf Tryz.prog 9 (.string s) = some (keyL s) := WideMaps.keyOf_string_mk Tryz.underlying9 h
end Go.Proofs.YteamdmcgkpeelalGreatDoor

/-
  Names in their order, without any program: sorted there is but one list; a list of names is its own sorted one, each once, just where the names rise.
-/
namespace Go.Proofs.YteamdmcgkpeelalGreatDoor
open Go.Maps

abbrev leB2 : List UInt8 → List UInt8 → Bool := fun x y => decide (x ≤ y)
def ofB (x : List UInt8) : ByteArray := ⟨x.toArray⟩
theorem ofB_bytes (s : ByteArray) : ofB s.data.toList = s := rfl
theorem bytes_ofB (x : List UInt8) : (ofB x).data.toList = x := rfl
/-- The names, sorted. -/
def srt (ks : List ByteArray) : List ByteArray := ((ks.map (fun s => s.data.toList)).mergeSort leB2).map ofB
theorem map_bytes_srt (ks : List ByteArray) : (srt ks).map (fun s => s.data.toList) = (ks.map (fun s => s.data.toList)).mergeSort leB2 := by
  unfold srt
  rw [List.map_map]
  exact List.map_id _
theorem srt_perm (ks : List ByteArray) : (srt ks).Perm ks := by
  have h := (List.mergeSort_perm (ks.map (fun s => s.data.toList)) leB2).map ofB
  have e : (ks.map (fun s => s.data.toList)).map ofB = ks := by rw [List.map_map]; exact List.map_id _
  rw [e] at h
  exact h
theorem srt_length (ks : List ByteArray) : (srt ks).length = ks.length := (srt_perm ks).length_eq
def ltN (x y : ByteArray) : Prop := Op.bytesLess x.toList y.toList = true
theorem risesN_iff (l : List ByteArray) : risesN l = true ↔ l.Pairwise ltN := by
  induction l with
  | nil => exact ⟨fun _ => List.Pairwise.nil, fun _ => rfl⟩
  | cons x l ih =>
    cases l with
    | nil => exact ⟨fun _ => List.pairwise_singleton _ _, fun _ => rfl⟩
    | cons y l =>
      have e : risesN (x :: y :: l) = (Op.bytesLess x.toList y.toList && risesN (y :: l)) := rfl
      rw [e, Bool.and_eq_true, ih]
      constructor
      · intro ⟨h1, h2⟩
        refine List.pairwise_cons.2 ⟨fun z hz => ?_, h2⟩
        rcases List.mem_cons.1 hz with rfl | hz
        · exact h1
        · exact bl_trans h1 ((List.pairwise_cons.1 h2).1 z hz)
      · intro h
        obtain ⟨h1, h2⟩ := List.pairwise_cons.1 h
        exact ⟨h1 y (by simp), h2⟩
theorem lt_le {x y : ByteArray} (h : ltN x y) : leB2 x.data.toList y.data.toList = true := by
  unfold ltN at h
  rw [bytesLess_eq, decide_eq_true_iff, Lib.toList_data, Lib.toList_data] at h
  exact decide_eq_true (List.le_of_lt h)
theorem rises_nodup {l : List ByteArray} (h : risesN l = true) : l.Nodup := by
  refine ((risesN_iff l).1 h).imp fun {a b} hlt e => ?_
  subst e
  have := bl_irr a
  unfold ltN at hlt
  rw [hlt] at this
  cases this
theorem leB2_trans (a b c : List UInt8) (h1 : leB2 a b = true) (h2 : leB2 b c = true) : leB2 a c = true := by
  simp only [leB2, decide_eq_true_eq] at *; exact List.le_trans h1 h2
theorem leB2_total (a b : List UInt8) : (leB2 a b || leB2 b a) = true := by
  simp only [leB2, Bool.or_eq_true, decide_eq_true_eq]; exact List.le_total a b
/-- Sorted there is but one list. -/
theorem srt_is {ks V : List ByteArray} (hV : risesN V = true) (hp : V.Perm ks) : srt ks = V := by
  have e : (ks.map (fun s => s.data.toList)).mergeSort leB2 = V.map (fun s => s.data.toList) := by
    refine List.Perm.eq_of_pairwise (le := fun a b => leB2 a b = true) (fun a b _ _ h1 h2 => ?_) (List.pairwise_mergeSort leB2_trans leB2_total _) ?_ ((List.mergeSort_perm _ leB2).trans (hp.map _).symm)
    · simp only [leB2, decide_eq_true_eq] at h1 h2
      exact List.le_antisymm h1 h2
    · exact List.pairwise_map.2 (((risesN_iff V).1 hV).imp fun h => lt_le h)
  unfold srt
  rw [e, List.map_map]
  exact List.map_id _
theorem rises_srt {ks : List ByteArray} (h : ks.Nodup) : risesN (srt ks) = true := by
  rw [risesN_iff]
  have h1 : (srt ks).Nodup := (srt_perm ks).nodup_iff.2 h
  have h2 : (srt ks).Pairwise (fun x y => leB2 x.data.toList y.data.toList = true) := by
    have := List.pairwise_mergeSort leB2_trans leB2_total (ks.map (fun s => s.data.toList))
    rw [← map_bytes_srt] at this
    exact List.pairwise_map.1 this
  refine (h1.and h2).imp fun {a b} hh => ?_
  obtain ⟨hne, hle⟩ := hh
  unfold ltN
  rw [bytesLess_eq, decide_eq_true_iff, Lib.toList_data, Lib.toList_data]
  simp only [leB2, decide_eq_true_eq] at hle
  by_cases hlt : a.data.toList < b.data.toList
  · exact hlt
  · exact absurd (ByteArray.ext (Array.toList_inj.1 (List.le_antisymm hle (List.not_lt.1 hlt)))) hne
/-- The names of a list, each once, where it comes first. -/
def ksOf (l : List ByteArray) : List ByteArray := l.foldl putK []
theorem ksOf_snoc (l : List ByteArray) (x : ByteArray) : ksOf (l ++ [x]) = putK (ksOf l) x := by simp [ksOf, List.foldl_append]
theorem ksOf_nodup (l : List ByteArray) : (ksOf l).Nodup := by
  suffices ∀ (l acc : List ByteArray), acc.Nodup → (l.foldl putK acc).Nodup from this l [] List.nodup_nil
  intro l
  induction l with
  | nil => intro acc h; exact h
  | cons x l ih => intro acc h; exact ih _ (nodup_putK h x)
theorem putK_length (ks : List ByteArray) (s : ByteArray) : (putK ks s).length ≤ ks.length + 1 := by
  unfold putK; split <;> simp
theorem ksOf_length (l : List ByteArray) : (ksOf l).length ≤ l.length := by
  suffices ∀ (l acc : List ByteArray), (l.foldl putK acc).length ≤ acc.length + l.length by simpa [ksOf] using this l []
  intro l
  induction l with
  | nil => intro acc; exact Nat.le_refl _
  | cons x l ih =>
    intro acc
    have := ih (putK acc x)
    have := putK_length acc x
    simp only [List.foldl_cons, List.length_cons]
    omega
theorem ksOf_self {l : List ByteArray} (h : l.Nodup) : ksOf l = l := by
  suffices ∀ (l acc : List ByteArray), (acc ++ l).Nodup → l.foldl putK acc = acc ++ l by simpa [ksOf] using this l [] (by simpa using h)
  intro l
  induction l with
  | nil => intro acc _; simp
  | cons x l ih =>
    intro acc h
    have hx : x ∉ acc := by
      intro hm
      exact (List.nodup_append.1 h).2.2 x hm x (by simp) rfl
    rw [List.foldl_cons, show putK acc x = acc ++ [x] from if_neg hx, ih _ (by simpa using h)]
    simp
theorem mem_ksOf (l : List ByteArray) (s : ByteArray) : s ∈ ksOf l ↔ s ∈ l := by
  suffices ∀ (l acc : List ByteArray), s ∈ l.foldl putK acc ↔ (s ∈ acc ∨ s ∈ l) by simpa [ksOf] using this l []
  intro l
  induction l with
  | nil => intro acc; simp
  | cons x l ih =>
    intro acc
    rw [List.foldl_cons, ih, mem_putK, List.mem_cons]
    constructor
    · rintro ((h | h) | h)
      · exact .inr (.inl h)
      · exact .inl h
      · exact .inr (.inr h)
    · rintro (h | h | h)
      · exact .inl (.inr h)
      · exact .inl (.inl h)
      · exact .inr h
/-- Given as they are sorted, each once: that is where they rise. -/
theorem given_sorted (l : List ByteArray) : (l = srt (ksOf l)) ↔ risesN l = true := by
  constructor
  · intro e
    rw [e]; exact rises_srt (ksOf_nodup l)
  · intro h
    rw [ksOf_self (rises_nodup h), srt_is h (List.Perm.refl _)]
end Go.Proofs.YteamdmcgkpeelalGreatDoor

/-
  The contract of the program's shelf that tells its names in order.
-/
namespace Go.Proofs.YteamdmcgkpeelalGreatDoor
open Go.ChangeShapes Go.WideShapes Go.ChangeAt Go.RowKit Go.Maps Go.Sort Go.Shelf
attribute [local go_sem ↓] Go.wp_at_zero Go.wp_at_succ

theorem srt_perm_sort {ss : List (List UInt8)} {ks : List ByteArray} (h : ss.Perm (ks.map (fun s => s.data.toList))) : (ss.mergeSort (fun x y => decide (x ≤ y))).map encStr = strV (srt ks) := by
  have e : ss.mergeSort (fun x y => decide (x ≤ y)) = (ks.map (fun s => s.data.toList)).mergeSort leB2 := mergeSort_of_perm h
  rw [e]
  unfold srt strV
  rw [List.map_map]
  rfl

set_option maxHeartbeats 1000000 in
theorem names_impl (B n : Nat) (ks : List ByteArray) (f : ByteArray → Value) (w : World) (h : ShelfAt w B n ks f) (hm : ks.length ≤ 1048576) :
    Calls Tryz.prog 15 #[.map (some B)] w fun e w' => ∃ v, e = .returned v ∧ w'.ownsRow w.heap.size 9 1 v ks.length (strV (srt ks)) ∧ (v = .slice none 0 0 ↔ ks = []) ∧ Below w.heap.size w w' := by
  obtain ⟨D, hown, S⟩ := h
  have hz := size_keys hown S
  have hp := strs_of_keys hown S
  have hmax : Maps.size D ≤ maxLen := by rw [hz]; unfold maxLen; omega
  have hbytes : Maps.size D * 16 ≤ 140737488355328 := by rw [hz]; omega
  refine (callsIn_wide (n := 6)).1 ?_
  have hfK : Fence.wide.fn 30 := trivial
  have hfS : Fence.wide.fn 29 := trivial
  refine callsIn_of_wp Tryz.func15 rfl trivial ?_ rfl
  simp only [Tryz.ntmps15, List.size_toArray, List.length_cons, List.length_nil, Nat.reduceAdd, Nat.reduceSub, Array.replicate_succ, Array.replicate_zero, List.push_toArray, List.append_toArray, List.nil_append, List.cons_append]
  gi_wp2_with (first
    | (gi_at_call 30; refine (Tryz.maps_Keys_30 _ _).mono ?_; rintro e w' ⟨rfl, rfl⟩)
    | (gi_at_call 29; refine (Tryz.slices_Sorted_keys_29_30 B n D tokR w hown hmax hbytes).mono ?_; rintro e w' ⟨v, ss, rfl, hS, hrow, hnil, hb⟩))
  go_ret
  have hperm := hS.trans hp.symm
  have hlen : ss.length = ks.length := by rw [hperm.length_eq, List.length_map]
  refine ⟨v, rfl, ?_, ?_, ((Below.refl _ w).alloc (Nat.le_refl _) _).trans (hb.mono (by simp))⟩
  · rw [srt_perm_sort hperm, hlen] at hrow
    exact ownsRow_base_a hrow (by simp)
  · rw [hnil]
    constructor
    · intro e; subst e; exact List.eq_nil_of_length_eq_zero (by rw [← hlen]; rfl)
    · intro e; subst e; exact List.eq_nil_of_length_eq_zero (by rw [hlen]; rfl)

end Go.Proofs.YteamdmcgkpeelalGreatDoor

/-
  The contract of the program's order of names: a count and the first five of them, in a struct that can be held against another one.
-/
namespace Go.Proofs.YteamdmcgkpeelalGreatDoor
open Go.ChangeShapes Go.WideShapes Go.ChangeAt Go.RowKit
attribute [local go_sem ↓] Go.wp_at_zero Go.wp_at_succ
attribute [local simp] World.cell?_alloc_past World.cell?_alloc_at World.frozen?_alloc_at cell_far cell_off cell_here World.frozen?_alloc_past

def ordV (n : Int) (a b c d e : ByteArray) : Value := .agg #[.int .i64 n, .string a, .string b, .string c, .string d, .string e]
theorem info_str1 : (Tryz.prog.info? 9).map (fun i => i.size) = some 1 := by kernel_rfl
set_option maxRecDepth 100000 in
set_option maxHeartbeats 2000000 in
theorem order0 (a : Option Addr) (cap : Nat) (w : World) :
    Calls Tryz.prog 28 #[.slice a 0 cap] w fun e w' => e = .returned (ordV 0 ⟨#[]⟩ ⟨#[]⟩ ⟨#[]⟩ ⟨#[]⟩ ⟨#[]⟩) ∧ Below w.heap.size w w' := by
  have h2 : Below w.heap.size w ((w.alloc (.cells #[.int .i64 0, .string ⟨#[]⟩, .string ⟨#[]⟩, .string ⟨#[]⟩, .string ⟨#[]⟩, .string ⟨#[]⟩] 64)).alloc (.cells #[.int .i64 0, .string ⟨#[]⟩, .string ⟨#[]⟩, .string ⟨#[]⟩, .string ⟨#[]⟩, .string ⟨#[]⟩] 64)) := ((Below.refl _ _).alloc (Nat.le_refl _) _).alloc (by simp) _
  have hcp : ∀ ty, (Builtin.copy_ #[30, 30] ty #[.slice (some ⟨w.heap.size + 1, 1, none⟩) 5 5, .slice a 0 cap]).run Tryz.prog ((w.alloc (.cells #[.int .i64 0, .string ⟨#[]⟩, .string ⟨#[]⟩, .string ⟨#[]⟩, .string ⟨#[]⟩, .string ⟨#[]⟩] 64)).alloc (.cells #[.int .i64 0, .string ⟨#[]⟩, .string ⟨#[]⟩, .string ⟨#[]⟩, .string ⟨#[]⟩, .string ⟨#[]⟩] 64)) = .ok (goInt 0) ((w.alloc (.cells #[.int .i64 0, .string ⟨#[]⟩, .string ⟨#[]⟩, .string ⟨#[]⟩, .string ⟨#[]⟩, .string ⟨#[]⟩] 64)).alloc (.cells #[.int .i64 0, .string ⟨#[]⟩, .string ⟨#[]⟩, .string ⟨#[]⟩, .string ⟨#[]⟩, .string ⟨#[]⟩] 64)) := fun ty => run_copy_none _ 30 30 ty 9 _ _ 5 5 0 cap Tryz.underlying30 info_str1 rfl
  go_enter Tryz.func28, Tryz.ntmps28
  go_wp2
  exact bodyPost_ret (v := ordV 0 ⟨#[]⟩ ⟨#[]⟩ ⟨#[]⟩ ⟨#[]⟩ ⟨#[]⟩) (by simp [results, Tryz.results28, go_sem, ordV]) rfl ⟨rfl, ((Below.refl _ _).alloc (Nat.le_refl _) _).alloc (by simp) _⟩

set_option maxRecDepth 100000 in
set_option maxHeartbeats 2000000 in
theorem order1 (b o cap : Nat) (x0 : ByteArray) (w : World) (hb : b < w.heap.size) (c0 : w.cell? ⟨b, o, none⟩ = some (.string x0)) :
    Calls Tryz.prog 28 #[.slice (some ⟨b, o, none⟩) 1 cap] w fun e w' => e = .returned (ordV 1 x0 ⟨#[]⟩ ⟨#[]⟩ ⟨#[]⟩ ⟨#[]⟩) ∧ Below w.heap.size w w' := by
  have h2 : Below w.heap.size w ((w.alloc (.cells #[.int .i64 0, .string ⟨#[]⟩, .string ⟨#[]⟩, .string ⟨#[]⟩, .string ⟨#[]⟩, .string ⟨#[]⟩] 64)).alloc (.cells #[.int .i64 1, .string ⟨#[]⟩, .string ⟨#[]⟩, .string ⟨#[]⟩, .string ⟨#[]⟩, .string ⟨#[]⟩] 64)) := ((Below.refl _ _).alloc (Nat.le_refl _) _).alloc (by simp) _
  have hcp : ∀ ty, (Builtin.copy_ #[30, 30] ty #[.slice (some ⟨w.heap.size + 1, 1, none⟩) 5 5, .slice (some ⟨b, o, none⟩) 1 cap]).run Tryz.prog ((w.alloc (.cells #[.int .i64 0, .string ⟨#[]⟩, .string ⟨#[]⟩, .string ⟨#[]⟩, .string ⟨#[]⟩, .string ⟨#[]⟩] 64)).alloc (.cells #[.int .i64 1, .string ⟨#[]⟩, .string ⟨#[]⟩, .string ⟨#[]⟩, .string ⟨#[]⟩, .string ⟨#[]⟩] 64)) = .ok (goInt 1) (((w.alloc (.cells #[.int .i64 0, .string ⟨#[]⟩, .string ⟨#[]⟩, .string ⟨#[]⟩, .string ⟨#[]⟩, .string ⟨#[]⟩] 64)).alloc (.cells #[.int .i64 1, .string ⟨#[]⟩, .string ⟨#[]⟩, .string ⟨#[]⟩, .string ⟨#[]⟩, .string ⟨#[]⟩] 64)).setCells (w.heap.size + 1) 1 [.string x0]) := by
    intro ty
    refine run_copy_cells _ 30 30 ty 9 (w.heap.size + 1) 1 5 5 ⟨b, o, none⟩ 1 cap [.string x0] Tryz.underlying30 info_str1 rfl ?_ ?_ ?_ ?_
    · intro j v hj
      match j, hj with
      | 0, hj => simp at hj; subst hj; exact (h2.cell (p := ⟨b, o, none⟩) hb).trans c0
    · intro j hj
      match j, hj with
      | 0, _ => simp
    · intro j hj
      match j, hj with
      | 0, _ => simp
    · intro v hv; simp at hv; subst hv; rfl
  simp only [World.setCells] at hcp
  go_enter Tryz.func28, Tryz.ntmps28
  go_wp2
  exact bodyPost_ret (v := ordV 1 x0 ⟨#[]⟩ ⟨#[]⟩ ⟨#[]⟩ ⟨#[]⟩) (by simp [results, Tryz.results28, go_sem, ordV]) rfl ⟨rfl, ((Below.refl _ _).alloc (Nat.le_refl _) _).alloc (by simp) _⟩

set_option maxRecDepth 100000 in
set_option maxHeartbeats 2000000 in
theorem order2 (b o cap : Nat) (x0 x1 : ByteArray) (w : World) (hb : b < w.heap.size) (c0 : w.cell? ⟨b, o, none⟩ = some (.string x0)) (c1 : w.cell? ⟨b, o + 1, none⟩ = some (.string x1)) :
    Calls Tryz.prog 28 #[.slice (some ⟨b, o, none⟩) 2 cap] w fun e w' => e = .returned (ordV 2 x0 x1 ⟨#[]⟩ ⟨#[]⟩ ⟨#[]⟩) ∧ Below w.heap.size w w' := by
  have h2 : Below w.heap.size w ((w.alloc (.cells #[.int .i64 0, .string ⟨#[]⟩, .string ⟨#[]⟩, .string ⟨#[]⟩, .string ⟨#[]⟩, .string ⟨#[]⟩] 64)).alloc (.cells #[.int .i64 2, .string ⟨#[]⟩, .string ⟨#[]⟩, .string ⟨#[]⟩, .string ⟨#[]⟩, .string ⟨#[]⟩] 64)) := ((Below.refl _ _).alloc (Nat.le_refl _) _).alloc (by simp) _
  have hcp : ∀ ty, (Builtin.copy_ #[30, 30] ty #[.slice (some ⟨w.heap.size + 1, 1, none⟩) 5 5, .slice (some ⟨b, o, none⟩) 2 cap]).run Tryz.prog ((w.alloc (.cells #[.int .i64 0, .string ⟨#[]⟩, .string ⟨#[]⟩, .string ⟨#[]⟩, .string ⟨#[]⟩, .string ⟨#[]⟩] 64)).alloc (.cells #[.int .i64 2, .string ⟨#[]⟩, .string ⟨#[]⟩, .string ⟨#[]⟩, .string ⟨#[]⟩, .string ⟨#[]⟩] 64)) = .ok (goInt 2) (((w.alloc (.cells #[.int .i64 0, .string ⟨#[]⟩, .string ⟨#[]⟩, .string ⟨#[]⟩, .string ⟨#[]⟩, .string ⟨#[]⟩] 64)).alloc (.cells #[.int .i64 2, .string ⟨#[]⟩, .string ⟨#[]⟩, .string ⟨#[]⟩, .string ⟨#[]⟩, .string ⟨#[]⟩] 64)).setCells (w.heap.size + 1) 1 [.string x0, .string x1]) := by
    intro ty
    refine run_copy_cells _ 30 30 ty 9 (w.heap.size + 1) 1 5 5 ⟨b, o, none⟩ 2 cap [.string x0, .string x1] Tryz.underlying30 info_str1 rfl ?_ ?_ ?_ ?_
    · intro j v hj
      match j, hj with
      | 0, hj => simp at hj; subst hj; exact (h2.cell (p := ⟨b, o, none⟩) hb).trans c0
      | 1, hj => simp at hj; subst hj; exact (h2.cell (p := ⟨b, o + 1, none⟩) hb).trans c1
    · intro j hj
      match j, hj with
      | 0, _ => simp
      | 1, _ => simp
    · intro j hj
      match j, hj with
      | 0, _ => simp
      | 1, _ => simp
    · intro v hv; simp at hv; rcases hv with rfl | rfl <;> rfl
  simp only [World.setCells] at hcp
  go_enter Tryz.func28, Tryz.ntmps28
  go_wp2
  exact bodyPost_ret (v := ordV 2 x0 x1 ⟨#[]⟩ ⟨#[]⟩ ⟨#[]⟩) (by simp [results, Tryz.results28, go_sem, ordV]) rfl ⟨rfl, ((Below.refl _ _).alloc (Nat.le_refl _) _).alloc (by simp) _⟩

set_option maxRecDepth 100000 in
set_option maxHeartbeats 2000000 in
theorem order3 (b o cap : Nat) (x0 x1 x2 : ByteArray) (w : World) (hb : b < w.heap.size) (c0 : w.cell? ⟨b, o, none⟩ = some (.string x0)) (c1 : w.cell? ⟨b, o + 1, none⟩ = some (.string x1)) (c2 : w.cell? ⟨b, o + 2, none⟩ = some (.string x2)) :
    Calls Tryz.prog 28 #[.slice (some ⟨b, o, none⟩) 3 cap] w fun e w' => e = .returned (ordV 3 x0 x1 x2 ⟨#[]⟩ ⟨#[]⟩) ∧ Below w.heap.size w w' := by
  have h2 : Below w.heap.size w ((w.alloc (.cells #[.int .i64 0, .string ⟨#[]⟩, .string ⟨#[]⟩, .string ⟨#[]⟩, .string ⟨#[]⟩, .string ⟨#[]⟩] 64)).alloc (.cells #[.int .i64 3, .string ⟨#[]⟩, .string ⟨#[]⟩, .string ⟨#[]⟩, .string ⟨#[]⟩, .string ⟨#[]⟩] 64)) := ((Below.refl _ _).alloc (Nat.le_refl _) _).alloc (by simp) _
  have hcp : ∀ ty, (Builtin.copy_ #[30, 30] ty #[.slice (some ⟨w.heap.size + 1, 1, none⟩) 5 5, .slice (some ⟨b, o, none⟩) 3 cap]).run Tryz.prog ((w.alloc (.cells #[.int .i64 0, .string ⟨#[]⟩, .string ⟨#[]⟩, .string ⟨#[]⟩, .string ⟨#[]⟩, .string ⟨#[]⟩] 64)).alloc (.cells #[.int .i64 3, .string ⟨#[]⟩, .string ⟨#[]⟩, .string ⟨#[]⟩, .string ⟨#[]⟩, .string ⟨#[]⟩] 64)) = .ok (goInt 3) (((w.alloc (.cells #[.int .i64 0, .string ⟨#[]⟩, .string ⟨#[]⟩, .string ⟨#[]⟩, .string ⟨#[]⟩, .string ⟨#[]⟩] 64)).alloc (.cells #[.int .i64 3, .string ⟨#[]⟩, .string ⟨#[]⟩, .string ⟨#[]⟩, .string ⟨#[]⟩, .string ⟨#[]⟩] 64)).setCells (w.heap.size + 1) 1 [.string x0, .string x1, .string x2]) := by
    intro ty
    refine run_copy_cells _ 30 30 ty 9 (w.heap.size + 1) 1 5 5 ⟨b, o, none⟩ 3 cap [.string x0, .string x1, .string x2] Tryz.underlying30 info_str1 rfl ?_ ?_ ?_ ?_
    · intro j v hj
      match j, hj with
      | 0, hj => simp at hj; subst hj; exact (h2.cell (p := ⟨b, o, none⟩) hb).trans c0
      | 1, hj => simp at hj; subst hj; exact (h2.cell (p := ⟨b, o + 1, none⟩) hb).trans c1
      | 2, hj => simp at hj; subst hj; exact (h2.cell (p := ⟨b, o + 2, none⟩) hb).trans c2
    · intro j hj
      match j, hj with
      | 0, _ => simp
      | 1, _ => simp
      | 2, _ => simp
    · intro j hj
      match j, hj with
      | 0, _ => simp
      | 1, _ => simp
      | 2, _ => simp
    · intro v hv; simp at hv; rcases hv with rfl | rfl | rfl <;> rfl
  simp only [World.setCells] at hcp
  go_enter Tryz.func28, Tryz.ntmps28
  go_wp2
  exact bodyPost_ret (v := ordV 3 x0 x1 x2 ⟨#[]⟩ ⟨#[]⟩) (by simp [results, Tryz.results28, go_sem, ordV]) rfl ⟨rfl, ((Below.refl _ _).alloc (Nat.le_refl _) _).alloc (by simp) _⟩

set_option maxRecDepth 100000 in
set_option maxHeartbeats 2000000 in
theorem order4 (b o cap : Nat) (x0 x1 x2 x3 : ByteArray) (w : World) (hb : b < w.heap.size) (c0 : w.cell? ⟨b, o, none⟩ = some (.string x0)) (c1 : w.cell? ⟨b, o + 1, none⟩ = some (.string x1)) (c2 : w.cell? ⟨b, o + 2, none⟩ = some (.string x2)) (c3 : w.cell? ⟨b, o + 3, none⟩ = some (.string x3)) :
    Calls Tryz.prog 28 #[.slice (some ⟨b, o, none⟩) 4 cap] w fun e w' => e = .returned (ordV 4 x0 x1 x2 x3 ⟨#[]⟩) ∧ Below w.heap.size w w' := by
  have h2 : Below w.heap.size w ((w.alloc (.cells #[.int .i64 0, .string ⟨#[]⟩, .string ⟨#[]⟩, .string ⟨#[]⟩, .string ⟨#[]⟩, .string ⟨#[]⟩] 64)).alloc (.cells #[.int .i64 4, .string ⟨#[]⟩, .string ⟨#[]⟩, .string ⟨#[]⟩, .string ⟨#[]⟩, .string ⟨#[]⟩] 64)) := ((Below.refl _ _).alloc (Nat.le_refl _) _).alloc (by simp) _
  have hcp : ∀ ty, (Builtin.copy_ #[30, 30] ty #[.slice (some ⟨w.heap.size + 1, 1, none⟩) 5 5, .slice (some ⟨b, o, none⟩) 4 cap]).run Tryz.prog ((w.alloc (.cells #[.int .i64 0, .string ⟨#[]⟩, .string ⟨#[]⟩, .string ⟨#[]⟩, .string ⟨#[]⟩, .string ⟨#[]⟩] 64)).alloc (.cells #[.int .i64 4, .string ⟨#[]⟩, .string ⟨#[]⟩, .string ⟨#[]⟩, .string ⟨#[]⟩, .string ⟨#[]⟩] 64)) = .ok (goInt 4) (((w.alloc (.cells #[.int .i64 0, .string ⟨#[]⟩, .string ⟨#[]⟩, .string ⟨#[]⟩, .string ⟨#[]⟩, .string ⟨#[]⟩] 64)).alloc (.cells #[.int .i64 4, .string ⟨#[]⟩, .string ⟨#[]⟩, .string ⟨#[]⟩, .string ⟨#[]⟩, .string ⟨#[]⟩] 64)).setCells (w.heap.size + 1) 1 [.string x0, .string x1, .string x2, .string x3]) := by
    intro ty
    refine run_copy_cells _ 30 30 ty 9 (w.heap.size + 1) 1 5 5 ⟨b, o, none⟩ 4 cap [.string x0, .string x1, .string x2, .string x3] Tryz.underlying30 info_str1 rfl ?_ ?_ ?_ ?_
    · intro j v hj
      match j, hj with
      | 0, hj => simp at hj; subst hj; exact (h2.cell (p := ⟨b, o, none⟩) hb).trans c0
      | 1, hj => simp at hj; subst hj; exact (h2.cell (p := ⟨b, o + 1, none⟩) hb).trans c1
      | 2, hj => simp at hj; subst hj; exact (h2.cell (p := ⟨b, o + 2, none⟩) hb).trans c2
      | 3, hj => simp at hj; subst hj; exact (h2.cell (p := ⟨b, o + 3, none⟩) hb).trans c3
    · intro j hj
      match j, hj with
      | 0, _ => simp
      | 1, _ => simp
      | 2, _ => simp
      | 3, _ => simp
    · intro j hj
      match j, hj with
      | 0, _ => simp
      | 1, _ => simp
      | 2, _ => simp
      | 3, _ => simp
    · intro v hv; simp at hv; rcases hv with rfl | rfl | rfl | rfl <;> rfl
  simp only [World.setCells] at hcp
  go_enter Tryz.func28, Tryz.ntmps28
  go_wp2
  exact bodyPost_ret (v := ordV 4 x0 x1 x2 x3 ⟨#[]⟩) (by simp [results, Tryz.results28, go_sem, ordV]) rfl ⟨rfl, ((Below.refl _ _).alloc (Nat.le_refl _) _).alloc (by simp) _⟩

set_option maxRecDepth 100000 in
set_option maxHeartbeats 2000000 in
theorem order5 (b o cap : Nat) (x0 x1 x2 x3 x4 : ByteArray) (w : World) (hb : b < w.heap.size) (c0 : w.cell? ⟨b, o, none⟩ = some (.string x0)) (c1 : w.cell? ⟨b, o + 1, none⟩ = some (.string x1)) (c2 : w.cell? ⟨b, o + 2, none⟩ = some (.string x2)) (c3 : w.cell? ⟨b, o + 3, none⟩ = some (.string x3)) (c4 : w.cell? ⟨b, o + 4, none⟩ = some (.string x4)) :
    Calls Tryz.prog 28 #[.slice (some ⟨b, o, none⟩) 5 cap] w fun e w' => e = .returned (ordV 5 x0 x1 x2 x3 x4) ∧ Below w.heap.size w w' := by
  have h2 : Below w.heap.size w ((w.alloc (.cells #[.int .i64 0, .string ⟨#[]⟩, .string ⟨#[]⟩, .string ⟨#[]⟩, .string ⟨#[]⟩, .string ⟨#[]⟩] 64)).alloc (.cells #[.int .i64 5, .string ⟨#[]⟩, .string ⟨#[]⟩, .string ⟨#[]⟩, .string ⟨#[]⟩, .string ⟨#[]⟩] 64)) := ((Below.refl _ _).alloc (Nat.le_refl _) _).alloc (by simp) _
  have hcp : ∀ ty, (Builtin.copy_ #[30, 30] ty #[.slice (some ⟨w.heap.size + 1, 1, none⟩) 5 5, .slice (some ⟨b, o, none⟩) 5 cap]).run Tryz.prog ((w.alloc (.cells #[.int .i64 0, .string ⟨#[]⟩, .string ⟨#[]⟩, .string ⟨#[]⟩, .string ⟨#[]⟩, .string ⟨#[]⟩] 64)).alloc (.cells #[.int .i64 5, .string ⟨#[]⟩, .string ⟨#[]⟩, .string ⟨#[]⟩, .string ⟨#[]⟩, .string ⟨#[]⟩] 64)) = .ok (goInt 5) (((w.alloc (.cells #[.int .i64 0, .string ⟨#[]⟩, .string ⟨#[]⟩, .string ⟨#[]⟩, .string ⟨#[]⟩, .string ⟨#[]⟩] 64)).alloc (.cells #[.int .i64 5, .string ⟨#[]⟩, .string ⟨#[]⟩, .string ⟨#[]⟩, .string ⟨#[]⟩, .string ⟨#[]⟩] 64)).setCells (w.heap.size + 1) 1 [.string x0, .string x1, .string x2, .string x3, .string x4]) := by
    intro ty
    refine run_copy_cells _ 30 30 ty 9 (w.heap.size + 1) 1 5 5 ⟨b, o, none⟩ 5 cap [.string x0, .string x1, .string x2, .string x3, .string x4] Tryz.underlying30 info_str1 rfl ?_ ?_ ?_ ?_
    · intro j v hj
      match j, hj with
      | 0, hj => simp at hj; subst hj; exact (h2.cell (p := ⟨b, o, none⟩) hb).trans c0
      | 1, hj => simp at hj; subst hj; exact (h2.cell (p := ⟨b, o + 1, none⟩) hb).trans c1
      | 2, hj => simp at hj; subst hj; exact (h2.cell (p := ⟨b, o + 2, none⟩) hb).trans c2
      | 3, hj => simp at hj; subst hj; exact (h2.cell (p := ⟨b, o + 3, none⟩) hb).trans c3
      | 4, hj => simp at hj; subst hj; exact (h2.cell (p := ⟨b, o + 4, none⟩) hb).trans c4
    · intro j hj
      match j, hj with
      | 0, _ => simp
      | 1, _ => simp
      | 2, _ => simp
      | 3, _ => simp
      | 4, _ => simp
    · intro j hj
      match j, hj with
      | 0, _ => simp
      | 1, _ => simp
      | 2, _ => simp
      | 3, _ => simp
      | 4, _ => simp
    · intro v hv; simp at hv; rcases hv with rfl | rfl | rfl | rfl | rfl <;> rfl
  simp only [World.setCells] at hcp
  go_enter Tryz.func28, Tryz.ntmps28
  go_wp2
  exact bodyPost_ret (v := ordV 5 x0 x1 x2 x3 x4) (by simp [results, Tryz.results28, go_sem, ordV]) rfl ⟨rfl, ((Below.refl _ _).alloc (Nat.le_refl _) _).alloc (by simp) _⟩

def nthN (l : List ByteArray) (i : Nat) : ByteArray := l.getD i ⟨#[]⟩
def ordL (l : List ByteArray) : Value := ordV l.length (nthN l 0) (nthN l 1) (nthN l 2) (nthN l 3) (nthN l 4)
theorem order_impl (a : Option Addr) (cap : Nat) (l : List ByteArray) (n : Nat) (hn : l.length = n) (h5 : l.length ≤ 5) (w : World) (hrow : StrsAt w a l) :
    Calls Tryz.prog 28 #[.slice a n cap] w fun e w' => e = .returned (ordL l) ∧ Below w.heap.size w w' := by
  subst hn
  match l, h5, hrow with
  | [], _, _ => exact order0 a cap w
  | [x0], _, hrow =>
    obtain ⟨b, o, rfl, hb, c0⟩ := hrow 0 (by simp)
    exact order1 b o cap x0 w hb c0
  | [x0, x1], _, hrow =>
    obtain ⟨b, o, rfl, hb, c0⟩ := hrow 0 (by simp)
    obtain ⟨b1, o1, e1, _, c1⟩ := hrow 1 (by simp)
    cases e1
    exact order2 b o cap x0 x1 w hb c0 c1
  | [x0, x1, x2], _, hrow =>
    obtain ⟨b, o, rfl, hb, c0⟩ := hrow 0 (by simp)
    obtain ⟨b1, o1, e1, _, c1⟩ := hrow 1 (by simp)
    cases e1
    obtain ⟨b2, o2, e2, _, c2⟩ := hrow 2 (by simp)
    cases e2
    exact order3 b o cap x0 x1 x2 w hb c0 c1 c2
  | [x0, x1, x2, x3], _, hrow =>
    obtain ⟨b, o, rfl, hb, c0⟩ := hrow 0 (by simp)
    obtain ⟨b1, o1, e1, _, c1⟩ := hrow 1 (by simp)
    cases e1
    obtain ⟨b2, o2, e2, _, c2⟩ := hrow 2 (by simp)
    cases e2
    obtain ⟨b3, o3, e3, _, c3⟩ := hrow 3 (by simp)
    cases e3
    exact order4 b o cap x0 x1 x2 x3 w hb c0 c1 c2 c3
  | [x0, x1, x2, x3, x4], _, hrow =>
    obtain ⟨b, o, rfl, hb, c0⟩ := hrow 0 (by simp)
    obtain ⟨b1, o1, e1, _, c1⟩ := hrow 1 (by simp)
    cases e1
    obtain ⟨b2, o2, e2, _, c2⟩ := hrow 2 (by simp)
    cases e2
    obtain ⟨b3, o3, e3, _, c3⟩ := hrow 3 (by simp)
    cases e3
    obtain ⟨b4, o4, e4, _, c4⟩ := hrow 4 (by simp)
    cases e4
    exact order5 b o cap x0 x1 x2 x3 x4 w hb c0 c1 c2 c3 c4
  | _ :: _ :: _ :: _ :: _ :: _ :: _, h, _ => simp at h

def ordEq (n : Int) (a b c d e : ByteArray) (m : Int) (a' b' c' d' e' : ByteArray) : Bool :=
  n == m && (a.toList == a'.toList && (b.toList == b'.toList && (c.toList == c'.toList && (d.toList == d'.toList && e.toList == e'.toList))))
def arrEq (a b c d e a' b' c' d' e' : ByteArray) : Bool :=
  a.toList == a'.toList && (b.toList == b'.toList && (c.toList == c'.toList && (d.toList == d'.toList && e.toList == e'.toList)))
set_option maxRecDepth 100000 in
set_option maxHeartbeats 2000000 in
theorem run_arr (a b c d e a' b' c' d' e' : ByteArray) (w : World) :
    (Op.equalIn 9999 62 (.agg #[.string a, .string b, .string c, .string d, .string e]) (.agg #[.string a', .string b', .string c', .string d', .string e'])).run Tryz.prog w = .ok (arrEq a b c d e a' b' c' d' e') w := by
  have u9 := Tryz.underlying9
  have a9 := Tryz.isAgg9
  have z9 := Tryz.sizeOf9
  unfold arrEq
  rw [show (9999 : Nat) = 9998 + 1 from rfl, Op.equalIn]
  simp only [Sem.run_bind, run_underlying Tryz.underlying62, Result.andThen_ok]
  simp only [Std.Legacy.Range.forIn_eq_forIn_range', Std.Legacy.Range.size, Nat.sub_zero, Nat.add_sub_cancel, Nat.div_one, List.range'_succ, List.range'_zero, List.forIn_cons, List.forIn_nil]
  go_simp
  cases h1 : (a.toList == a'.toList) <;> cases h2 : (b.toList == b'.toList) <;> cases h3 : (c.toList == c'.toList) <;> cases h4 : (d.toList == d'.toList) <;> cases h5 : (e.toList == e'.toList) <;> simp_all
set_option maxHeartbeats 2000000 in
theorem run_ord_neq (n : Int) (a b c d e : ByteArray) (m : Int) (a' b' c' d' e' : ByteArray) (w : World) :
    (binOp .neq 64 (ordV n a b c d e) (ordV m a' b' c' d' e')).run Tryz.prog w = .ok (.bool !(ordEq n a b c d e m a' b' c' d' e')) w := by
  have ha := run_arr a b c d e a' b' c' d' e' w
  have ho : ordEq n a b c d e m a' b' c' d' e' = (n == m && arrEq a b c d e a' b' c' d' e') := rfl
  rw [ho]
  generalize arrEq a b c d e a' b' c' d' e' = r at ha
  unfold ordV
  by_cases h1 : n = m
  · subst h1
    go_simp
    cases r <;> simp
  · go_simp
    try simp [h1]
theorem bytes_eq2 {s u : ByteArray} (h : s.toList = u.toList) : s = u := by
  rw [ByteArray.toList_eq, ByteArray.toList_eq] at h
  exact ByteArray.ext (Array.toList_inj.1 h)
theorem ordEq_iff (l m : List ByteArray) (hl : l.length ≤ 5) (hm : m.length ≤ 5) : ordEq l.length (nthN l 0) (nthN l 1) (nthN l 2) (nthN l 3) (nthN l 4) m.length (nthN m 0) (nthN m 1) (nthN m 2) (nthN m 3) (nthN m 4) = true ↔ l = m := by
  constructor
  · intro h
    unfold ordEq at h
    simp only [Bool.and_eq_true, beq_iff_eq] at h
    obtain ⟨h0, h1, h2, h3, h4, h5⟩ := h
    have hlen : l.length = m.length := by omega
    have key : ∀ i, i < 5 → nthN l i = nthN m i := by
      intro i hi
      match i, hi with
      | 0, _ => exact bytes_eq2 h1
      | 1, _ => exact bytes_eq2 h2
      | 2, _ => exact bytes_eq2 h3
      | 3, _ => exact bytes_eq2 h4
      | 4, _ => exact bytes_eq2 h5
    refine List.ext_getElem hlen fun i h1 h2 => ?_
    have := key i (by omega)
    unfold nthN at this
    rw [← List.getElem_eq_getD (h := h1), ← List.getElem_eq_getD (h := h2)] at this
    exact this
  · intro h
    subst h
    unfold ordEq
    simp

end Go.Proofs.YteamdmcgkpeelalGreatDoor
