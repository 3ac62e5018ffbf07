/-
  A part of the proof: RowS, Strs1, Names1, Names2, Lists3.
-/
import Derived.Test.YteamdmcgkpeelalGreatDoorPart2

/-
  The contracts of the model's text of a row.
-/
namespace Go.Proofs.YteamdmcgkpeelalGreatDoor
open Go.ChangeShapes Go.WideShapes Go.ChangeAt Go.RowKit
attribute [local go_sem ↓] Go.wp_at_zero Go.wp_at_succ

theorem joinTail_snoc (sep : List UInt8) (r : List (List UInt8)) (x : List UInt8) : Lib.joinTail sep (r ++ [x]) = Lib.joinTail sep r ++ sep ++ x := by simp [Lib.joinTail]
theorem join_snoc (xs : List (List UInt8)) (x sep : List UInt8) (h : xs ≠ []) : Lib.join (xs ++ [x]) sep = Lib.join xs sep ++ sep ++ x := by
  cases xs with
  | nil => exact absurd rfl h
  | cons y r => rw [List.cons_append, Lib.join_cons, Lib.join_cons, joinTail_snoc]; simp
theorem join_len (xs : List (List UInt8)) (h : ∀ x ∈ xs, x.length ≤ 14) : (Lib.join xs [32]).length ≤ 15 * xs.length := by
  have key : ∀ r : List (List UInt8), (∀ x ∈ r, x.length ≤ 14) → (Lib.joinTail [32] r).length ≤ 15 * r.length := by
    intro r
    induction r with
    | nil => intro _; simp [Lib.joinTail]
    | cons y r ih =>
      intro hr
      have h1 := hr y (by simp)
      have h2 := ih (fun x hx => hr x (by simp [hx]))
      have e : Lib.joinTail [32] (y :: r) = 32 :: (y ++ Lib.joinTail [32] r) := by simp [Lib.joinTail]
      rw [e, List.length_cons, List.length_append, List.length_cons]
      omega
  cases xs with
  | nil => simp [Lib.join_nil]
  | cons y r =>
    have h1 := h y (by simp)
    have h2 := key r (fun x hx => h x (by simp [hx]))
    rw [Lib.join_cons, List.length_append, List.length_cons]
    omega
/-- The bytes of texts. -/
def rawT (xs : List ByteArray) : List (List UInt8) := xs.map (·.data.toList)
theorem rawT_snoc (xs : List ByteArray) (x : ByteArray) : rawT (xs ++ [x]) = rawT xs ++ [x.data.toList] := by simp [rawT]
theorem bytes_append (a b : ByteArray) : (a ++ b).data.toList = a.data.toList ++ b.data.toList := by simp
/-- The texts of a slice lie where it says. -/
def TextsAt (w : World) (g : Nat) (xs : List ByteArray) : Prop := ∀ j (h : j < xs.length), w.cell? ⟨g, j, none⟩ = some (.string xs[j]) ∧ g < w.heap.size
theorem texts_own {w : World} {B g c : Nat} {e : TypeId} {xs : List ByteArray} (h : w.ownsRow B e 1 (.slice (some ⟨g, 0, none⟩) xs.length c) xs.length (xs.map Value.string)) : TextsAt w g xs := by
  intro j hj
  have := h.cellAt j (by omega)
  rw [List.getElem?_map, List.getElem?_eq_getElem hj] at this
  exact ⟨this, World.block_lt_of_cell? w _ this⟩

set_option maxRecDepth 100000 in
set_option maxHeartbeats 1000000 in
theorem words_spec (g cap : Nat) (xs : List ByteArray) (w : World) (hx : TextsAt w g xs) (hm : xs.length ≤ 1048576) (h14 : ∀ x ∈ xs, x.size ≤ 14) (y : ByteArray) (hy : (⟨(Lib.join (rawT xs) [32]).toArray⟩ : ByteArray) = y) :
    Calls Tryz.prog 11 #[.slice (some ⟨g, 0, none⟩) xs.length cap, .string ⟨#[32]⟩] w fun e w' => e = .returned (.string y) ∧ w' = w := by
  have HX : Hid (TextsAt w g xs) := hx
  have HY : Hid ((⟨(Lib.join (rawT xs) [32]).toArray⟩ : ByteArray) = y) := hy
  have H14 : Hid (∀ x ∈ xs, x.size ≤ 14) := h14
  clear hx hy h14
  go_enter Tryz.func11, Tryz.ntmps11
  go_wp2
  go_loopw [5, 6] (fun s kk wr => ∃ (k : Nat) (b : ByteArray), k ≤ xs.length ∧ kk = .int .i64 k ∧ s = .string b ∧ Hid (b.data.toList = Lib.join (rawT (xs.take k)) [32]) ∧ w = wr) (fun _ kk _ => xs.length - (intOf kk).toNat)
  case atStart => exact ⟨0, _, Nat.zero_le _, rfl, rfl, rfl, rfl⟩
  case round =>
    obtain ⟨k, b, hk, rfl, rfl, hb, rfl⟩ := hrel
    by_cases hlt : k < xs.length
    · obtain ⟨c0, hg⟩ := HX.out k hlt
      have hi0 : (0 : Int) ≤ (k : Int) := by omega
      have hi1 : (k : Int) < (xs.length : Int) := by omega
      have hsz : b.size ≤ 15 * k := by
        rw [Lib.size_eq, hb.out]
        have := join_len (rawT (xs.take k)) (by
          intro z hz
          unfold rawT at hz
          obtain ⟨u, hu, rfl⟩ := List.mem_map.1 hz
          have := H14.out u (List.mem_of_mem_take hu)
          rw [Lib.size_eq] at this
          exact this)
        have hl : (rawT (xs.take k)).length = k := by unfold rawT; rw [List.length_map, List.length_take]; omega
        rw [hl] at this
        exact this
      have hxk : (xs[k]).size ≤ 14 := H14.out _ (List.getElem_mem hlt)
      have htk : rawT (xs.take (k + 1)) = rawT (xs.take k) ++ [(xs[k]).data.toList] := by rw [List.take_succ_eq_append_getElem hlt, rawT_snoc]
      have HT : Hid (rawT (xs.take (k + 1)) = rawT (xs.take k) ++ [(xs[k]).data.toList]) := htk
      clear htk
      by_cases hk0 : k = 0
      · subst hk0
        have hb0 : b = ⟨#[]⟩ := bytes_ext hb.out
        have hst : Hid ((⟨#[]⟩ ++ xs[0] : ByteArray).data.toList = Lib.join (rawT (xs.take (0 + 1))) [32]) := by
          have : (⟨#[]⟩ ++ xs[0] : ByteArray).data.toList = Lib.join (rawT (xs.take (0 + 1))) [32] := by
            rw [HT.out, bytes_append]
            show xs[0].data.toList = Lib.join [xs[0].data.toList] [32]
            rw [Lib.join_one]
          exact this
        subst hb0
        generalize xs[0] = x at c0 hxk hst
        have hz1 : ¬ (9223372036854775807 < x.size) := by omega
        clear HT hb
        go_wp2
        go_roundw
        case rel => exact ⟨0 + 1, _, by omega, by go_num, rfl, hst.out, by trivial⟩
        case measure => simp [intOf]; omega
      · have hk1 : 0 < k := by omega
        have hst : Hid ((b ++ ⟨#[32]⟩ ++ xs[k] : ByteArray).data.toList = Lib.join (rawT (xs.take (k + 1))) [32]) := by
          have : (b ++ ⟨#[32]⟩ ++ xs[k] : ByteArray).data.toList = Lib.join (rawT (xs.take (k + 1))) [32] := by
            rw [HT.out, join_snoc _ _ _ (List.ne_nil_of_length_pos (by unfold rawT; rw [List.length_map, List.length_take]; omega)), bytes_append, bytes_append, hb.out]
          exact this
        generalize xs[k] = x at c0 hxk hst
        have hz1 : ¬ (9223372036854775807 < b.size + 1) := by omega
        have hz2 : ¬ (9223372036854775807 < b.size + 1 + x.size) := by omega
        have hz3 : (b ++ ⟨#[32]⟩ : ByteArray).size = b.size + 1 := by rw [ByteArray.size_append]; rfl
        clear HT hb hk0
        go_wp2
        go_roundw
        case rel => exact ⟨k + 1, _, by omega, by go_num, rfl, hst.out, by trivial⟩
        case measure => simp [intOf]; omega
    · have hkl : k = xs.length := by omega
      subst hkl
      have hi1 : ¬ (xs.length : Int) < (xs.length : Int) := by omega
      have e : b = y := by
        rw [← HY.out]
        refine bytes_ext ?_
        rw [hb.out, List.take_length]
      subst e
      go_wp2
      go_ret
      exact ⟨rfl, rfl⟩

theorem infoStr : (Tryz.prog.info? 9).map (fun i => (i.zero, i.size, i.bytes)) = some (some (.string ⟨#[]⟩), 1, 16) := by kernel_rfl
theorem all_snoc (l : List CT) (k : Nat) (h : k < l.length) : (l.take (k + 1)).all okC = ((l.take k).all okC && okC l[k]) := by
  rw [List.take_succ_eq_append_getElem h, List.all_append]; simp
/-- The texts of a row's cells. -/
def textsC (l : List CT) : List ByteArray := l.map fun c => ⟨(textC c).toArray⟩
theorem textsC_snoc (l : List CT) (k : Nat) (h : k < l.length) : textsC (l.take (k + 1)) = textsC (l.take k) ++ [⟨(textC l[k]).toArray⟩] := by
  unfold textsC; rw [List.take_succ_eq_append_getElem h, List.map_append]; rfl
theorem rawT_texts (l : List CT) : rawT (textsC l) = l.map textC := by
  unfold rawT textsC; rw [List.map_map]; rfl
theorem rowT_texts {l : List CT} (h : l.all okC = true) : rowT l = ⟨(Lib.join (rawT (textsC l)) [32]).toArray⟩ := by
  unfold rowT; rw [if_pos h, rawT_texts]
theorem texts_14 {l : List CT} (h : l.all okC = true) : ∀ x ∈ textsC l, x.size ≤ 14 := by
  intro x hx
  unfold textsC at hx
  obtain ⟨c, hc, rfl⟩ := List.mem_map.1 hx
  rw [Lib.size_eq, bytes_mk]
  exact l4T_len (List.all_eq_true.1 h c hc)
theorem textsC_length (l : List CT) : (textsC l).length = l.length := by unfold textsC; rw [List.length_map]

set_option maxHeartbeats 1000000 in
theorem cells_spec (a : Option Addr) (cap : Nat) (l : List CT) (w : World) (hrow : RowAt w a l) (hfit : Fit l) (hm : l.length ≤ maxLen) (b : Bool) (hb : l.all okC = b) :
    Calls Tryz.prog 38 #[.slice a l.length cap] w fun e w' => e = .returned (.bool b) ∧ Below w.heap.size w w' := by
  have HR : Hid (RowAt w a l) := hrow
  have HF : Hid (Fit l) := hfit
  have HB : Hid (l.all okC = b) := hb
  clear hrow hfit hb
  unfold maxLen at hm
  go_enter Tryz.func38, Tryz.ntmps38
  go_wp2
  go_loopw [3] (fun kk wr => ∃ k : Nat, k ≤ l.length ∧ kk = .int .i64 k ∧ Hid ((l.take k).all okC = true) ∧ Below w.heap.size w wr) (fun kk _ => l.length - (intOf kk).toNat)
  case atStart => exact ⟨0, Nat.zero_le _, rfl, rfl, Below.refl _ _⟩
  case round =>
    obtain ⟨k, hk, rfl, hall, hbw⟩ := hrel
    by_cases hlt : k < l.length
    · obtain ⟨g, o, rfl, hgw, c0, c1, c2⟩ := HR.out.below hbw k hlt
      have hi0 : (0 : Int) ≤ (k : Int) := by omega
      have hi1 : (k : Int) < (l.length : Int) := by omega
      have hft := HF.out k hlt
      have hsn := all_snoc l k hlt
      rw [hall.out, Bool.true_and] at hsn
      have HS : Hid ((l.take (k + 1)).all okC = okC l[k]) := hsn
      have hno : Hid (okC l[k] = false → b = false) := by
        have : okC l[k] = false → b = false := by
          intro e
          rw [← HB.out, Bool.eq_false_iff]
          intro h
          rw [List.all_eq_true.1 h _ (List.getElem_mem hlt)] at e
          cases e
        exact this
      clear hsn
      obtain ⟨r, hr⟩ : ∃ r, okB l[k].1 l[k].2.1 l[k].2.2 = r := ⟨_, rfl⟩
      have HRR : Hid (okC l[k] = r) := hr
      generalize l[k] = x at c0 c1 c2 hft HS hno hr HRR
      go_wp2_with fail
      refine (ok_specb _ _ _ _ hr _ hft).mono ?_
      rintro e w1 ⟨rfl, hb1⟩
      clear hr c0 c1 c2
      cases r
      · have e := hno.out HRR.out
        subst e
        go_wp2
        go_ret
        exact ⟨rfl, chain hbw hb1⟩
      · go_wp2
        go_roundw
        case rel => exact ⟨k + 1, by omega, by go_num, HS.out.trans HRR.out, chain hbw hb1⟩
        case measure => simp [intOf]; omega
    · have hkl : k = l.length := by omega
      subst hkl
      have hi1 : ¬ (l.length : Int) < (l.length : Int) := by omega
      have e : b = true := by
        have := hall.out
        rw [List.take_length, HB.out] at this
        exact this
      subst e
      go_wp2
      go_ret
      exact ⟨rfl, hbw⟩

set_option maxRecDepth 100000 in
set_option maxHeartbeats 2000000 in
theorem l4row_spec (a : Option Addr) (cap : Nat) (l : List CT) (w : World) (hrow : RowAt w a l) (hall : l.all okC = true) (hm : l.length ≤ 1048576) (y : ByteArray) (hy : rowT l = y) :
    Calls Tryz.prog 12 #[.slice a l.length cap] w fun e w' => e = .returned (.string y) ∧ Below w.heap.size w w' := by
  obtain ⟨i0, hti, hz0, hz1, hz2⟩ := info_parts infoStr
  have HR : Hid (RowAt w a l) := hrow
  have HA : Hid (l.all okC = true) := hall
  have HY : Hid (rowT l = y) := hy
  clear hrow hall hy
  have own0 : Hid ((w.alloc (.cells #[] 9)).ownsRow w.heap.size 9 1 (.slice (some ⟨w.heap.size, 0, none⟩) 0 0) (textsC (l.take 0)).length ((textsC (l.take 0)).map Value.string)) :=
    ⟨rfl, .inr ⟨w.heap.size, 0, #[], rfl, Nat.le_refl _, by show (w.heap.push _)[w.heap.size]? = _; simp, Nat.le_refl _, by unfold maxLen; omega, rfl, rfl⟩⟩
  have hb0 : Below w.heap.size w (w.alloc (.cells #[] 9)) := (Below.refl _ _).alloc (Nat.le_refl _) _
  go_enter Tryz.func12, Tryz.ntmps12
  go_wp2
  go_loopw [3, 4] (fun v kk wr => ∃ k : Nat, k ≤ l.length ∧ kk = .int .i64 k ∧ Hid (wr.ownsRow w.heap.size 9 1 v (textsC (l.take k)).length ((textsC (l.take k)).map Value.string)) ∧ Below w.heap.size w wr ∧ v ≠ .slice none 0 0) (fun _ kk _ => l.length - (intOf kk).toNat)
  case atStart => exact ⟨0, Nat.zero_le _, rfl, own0, hb0, by simp⟩
  case round =>
    obtain ⟨k, hk, rfl, hO, hb, hvn⟩ := hrel
    by_cases hlt : k < l.length
    · obtain ⟨g, o, rfl, hgw, c0, c1, c2⟩ := HR.out.below hb k hlt
      have hi0 : (0 : Int) ≤ (k : Int) := by omega
      have hi1 : (k : Int) < (l.length : Int) := by omega
      have hok : okB l[k].1 l[k].2.1 l[k].2.2 = true := List.all_eq_true.1 HA.out _ (List.getElem_mem hlt)
      have hsn := textsC_snoc l k hlt
      have hlen : (textsC (l.take k)).length = k := by rw [textsC_length, List.length_take]; omega
      obtain ⟨z, hz⟩ : ∃ z : ByteArray, (⟨(l4T l[k].1 l[k].2.1 l[k].2.2.data.toList).toArray⟩ : ByteArray) = z := ⟨_, rfl⟩
      have hsn2 : textsC (l.take (k + 1)) = textsC (l.take k) ++ [z] := by rw [hsn, ← hz]; rfl
      have HS : Hid (textsC (l.take (k + 1)) = textsC (l.take k) ++ [z]) := hsn2
      clear hsn hsn2
      have hOO := hO.out
      rw [hlen] at hOO
      generalize textsC (l.take k) = xs at HS hOO hlen
      generalize l[k] = x at c0 c1 c2 hok hz
      go_wp2_with fail
      refine (l4_spec _ _ _ hok z hz _).mono ?_
      rintro e w1 ⟨rfl, hb1⟩
      clear hz c0 c1 c2
      have O1 := own_below hOO hb1
      have hx := chain hb hb1
      go_wp2_with (at_builtin; refine wpList_append_own _ rfl _ _ 30 rfl w.heap.size 9 i0 (.string ⟨#[]⟩) 1 16 Tryz.underlying30 hti hz0 hz1 hz2 rfl (by decide) _ _ _ rfl (O1.alloc _) ⟨w1.heap.size, 0, none⟩ 1 1 [.string z] rfl rfl ?c1 ?c2 ?c3 ?c4 ?c5 ?_)
      case c1 =>
        intro j u hj
        match j, hj with
        | 0, hj => simp at hj; subst hj; simp [Addr.add]
      case c2 => intro u hu; simp at hu; subst hu; rfl
      case c3 => unfold maxLen; omega
      case c4 => omega
      case c5 => have := hx.size; simp; omega
      intro v' w2 own2 hgrow hnn
      have hx2 : Below w.heap.size w w2 := by
        refine (hx.alloc hx.size _).grown hgrow (by have := hx.size; simp; omega) ?_
        intro kk hkk
        exact (O1.lt kk hkk).1
      have hvn2 : v' ≠ .slice none 0 0 := by first | exact hnn | exact fun e => hvn (hnn.1 e).1
      have SS : Hid (w2.ownsRow w.heap.size 9 1 v' (textsC (l.take (k + 1))).length ((textsC (l.take (k + 1))).map Value.string)) := by
        have : w2.ownsRow w.heap.size 9 1 v' (textsC (l.take (k + 1))).length ((textsC (l.take (k + 1))).map Value.string) := by
          rw [HS.out, List.length_append, hlen, List.map_append]; exact own2
        exact this
      clear own2 hgrow hnn O1 hOO hO
      go_wp2
      go_roundw
      case rel => exact ⟨k + 1, by omega, by go_num, SS, hx2, hvn2⟩
      case measure => simp [intOf]; omega
    · have hkl : k = l.length := by omega
      subst hkl
      have hi1 : ¬ (l.length : Int) < (l.length : Int) := by omega
      have hOO := hO.out
      rw [List.take_length] at hOO
      rcases hOO.2 with ⟨h', _⟩ | ⟨g, c, cur, h', hbg, _⟩
      · exact absurd h' hvn
      subst h'
      have hT := texts_own hOO
      have h14 := texts_14 HA.out
      have hl2 := textsC_length l
      have hy2 : (⟨(Lib.join (rawT (textsC l)) [32]).toArray⟩ : ByteArray) = y := by rw [← HY.out, rowT_texts HA.out]
      have HT : Hid (TextsAt wr g (textsC l)) := hT
      have H14 : Hid (∀ x ∈ textsC l, x.size ≤ 14) := h14
      have HY2 : Hid ((⟨(Lib.join (rawT (textsC l)) [32]).toArray⟩ : ByteArray) = y) := hy2
      have HL : Hid ((textsC l).length ≤ 1048576) := by
        have : (textsC l).length ≤ 1048576 := by omega
        exact this
      clear hT h14 hy2 hOO hO hl2
      go_wp2_with fail
      refine (words_spec g c (textsC l) _ HT.out HL.out H14.out y HY2.out).mono ?_
      rintro e w2 ⟨rfl, rfl⟩
      go_wp2
      go_ret
      exact ⟨rfl, hb⟩

end Go.Proofs.YteamdmcgkpeelalGreatDoor

/-
  Lists of texts: how a slice of texts lies in memory, and the contracts of the law's helpers that measure one, take one over and hold two against each other.
-/
namespace Go.Proofs.YteamdmcgkpeelalGreatDoor
open Go.ChangeShapes Go.WideShapes Go.ChangeAt Go.RowKit
attribute [local go_sem ↓] Go.wp_at_zero Go.wp_at_succ

/-- The texts of a slice lie where it says. -/
def StrsAt (w : World) (a : Option Addr) (l : List ByteArray) : Prop :=
  ∀ j (h : j < l.length), ∃ b o, a = some ⟨b, o, none⟩ ∧ b < w.heap.size ∧ w.cell? ⟨b, o + j, none⟩ = some (.string l[j])
theorem StrsAt.below {w w' : World} {a : Option Addr} {l : List ByteArray} (h : StrsAt w a l) (hb : Below w.heap.size w w') : StrsAt w' a l := by
  intro j hj
  obtain ⟨b, o, ha, hlt, h0⟩ := h j hj
  exact ⟨b, o, ha, Nat.lt_of_lt_of_le hlt hb.size, by rw [hb.cell (p := ⟨b, _, none⟩) hlt]; exact h0⟩
def FitS (l : List ByteArray) : Prop := ∀ j (h : j < l.length), (l[j]).size ≤ maxLen
def weightS (l : List ByteArray) : Nat := (l.map (·.size)).sum
theorem weightS_take (l : List ByteArray) (k : Nat) (h : k < l.length) : weightS (l.take (k + 1)) = weightS (l.take k) + (l[k]).size := by
  unfold weightS
  rw [List.take_succ_eq_append_getElem h, List.map_append, List.sum_append]; simp
theorem weightS_le (l : List ByteArray) (k : Nat) : weightS (l.take k) ≤ weightS l := by
  unfold weightS
  conv => rhs; rw [← List.take_append_drop k l, List.map_append, List.sum_append]
  omega
def strV (l : List ByteArray) : List Value := l.map Value.string
theorem strV_length (l : List ByteArray) : (strV l).length = l.length := List.length_map _
theorem strV_step (l : List ByteArray) (k : Nat) (h : k < l.length) (z : List Value) (hz : z.length = l.length) :
    (strV (l.take k) ++ z.drop k).set k (.string l[k]) = strV (l.take (k + 1)) ++ z.drop (k + 1) := by
  have hl : (strV (l.take k)).length = k := by rw [strV_length, List.length_take]; omega
  obtain ⟨a, r, hr⟩ : ∃ a r, z.drop k = a :: r := by
    have hd : (z.drop k).length ≥ 1 := by rw [List.length_drop]; omega
    match hm : z.drop k, hd with
    | a :: r, _ => exact ⟨a, r, rfl⟩
  have hr1 : z.drop (k + 1) = r := by rw [← List.drop_drop, hr]; rfl
  rw [List.take_succ_eq_append_getElem h, hr, hr1]
  rw [List.set_append_right _ _ (by omega), hl, Nat.sub_self, List.set_cons_zero, show strV (l.take k ++ [l[k]]) = strV (l.take k) ++ [.string l[k]] from List.map_append, List.append_assoc]
  rfl
theorem own_strs {w : World} {base g cap : Nat} {e : TypeId} {l : List ByteArray} (h : w.ownsRow base e 1 (.slice (some ⟨g, 0, none⟩) l.length cap) l.length (strV l)) : StrsAt w (some ⟨g, 0, none⟩) l := by
  have hlt : g < w.heap.size := (h.lt g rfl).2
  intro j hj
  refine ⟨g, 0, rfl, hlt, ?_⟩
  rw [Nat.zero_add, h.cellAt _ (by omega)]
  unfold strV
  rw [List.getElem?_map, List.getElem?_eq_getElem hj]; rfl

/-- What is left of a measure behind a list; -1 where it does not last. -/
def leftOfS (l : List ByteArray) (left : Int) : Int := if left < (l.length : Int) + (weightS l : Int) then -1 else left - l.length - weightS l

set_option maxHeartbeats 1000000 in
theorem szstr_laws (a : Option Addr) (cap : Nat) (l : List ByteArray) (left : Int) (w : World) (hrow : StrsAt w a l) (hfit : FitS l) (hm : l.length ≤ maxLen) (h0 : 0 ≤ left) (h1 : left ≤ 1048576) :
    Calls Tryz.prog 19 #[.slice a l.length cap, .int .i64 left] w fun e w' => e = .returned (.int .i64 (leftOfS l left)) ∧ Below w.heap.size w w' := by
  have hR : Hid (StrsAt w a l) := hrow
  have hF : Hid (FitS l) := hfit
  clear hrow hfit
  by_cases hlen : left < (l.length : Int)
  · have hneg : left - (l.length : Int) < 0 := by omega
    rw [show leftOfS l left = -1 from if_pos (by omega)]
    unfold maxLen at hm
    go_enter Tryz.func19, Tryz.ntmps19
    go_wp2
    go_ret
    exact ⟨rfl, Below.refl _ _⟩
  have hneg : 0 ≤ left - (l.length : Int) := by omega
  go_enter Tryz.func19, Tryz.ntmps19
  go_wp2
  go_loopw [1, 5] (fun s i wr => ∃ k : Nat, k ≤ l.length ∧ i = .int .i64 k ∧ s = .int .i64 (left - l.length - weightS (l.take k)) ∧ 0 ≤ left - l.length - weightS (l.take k) ∧ Below w.heap.size w wr)
    (fun _ i _ => l.length - (intOf i).toNat)
  case atStart => exact ⟨0, Nat.zero_le _, rfl, by simp [weightS], by simp [weightS]; omega, Below.refl _ _⟩
  case round =>
    obtain ⟨k, hk, rfl, rfl, hpos, hb⟩ := hrel
    by_cases hlt : k < l.length
    · obtain ⟨b, o, rfl, hbw, c0⟩ := hR.out.below hb k hlt
      have hi0 : (0 : Int) ≤ (k : Int) := by omega
      have hi1 : (k : Int) < (l.length : Int) := by omega
      have hwt := weightS_take l k hlt
      have hft := hF.out k hlt
      have hwl := weightS_le l (k + 1)
      unfold maxLen at hft
      generalize l[k] = x at c0 hwt hft
      generalize weightS (l.take k) = W at *
      by_cases hs : left - (l.length : Int) - (W : Int) < (x.size : Int)
      · have hp2 : left - (l.length : Int) - (W : Int) - (x.size : Int) < 0 := by omega
        go_wp2
        go_ret
        exact ⟨ret_int (by rw [leftOfS, if_pos (by omega)]), hb⟩
      · have hp2 : 0 ≤ left - (l.length : Int) - (W : Int) - (x.size : Int) := by omega
        go_wp2
        go_roundw
        case rel => exact ⟨k + 1, by omega, by go_num, by rw [hwt]; congr 1; omega, by rw [hwt]; omega, hb⟩
        case measure => simp [intOf]; omega
    · have hkl : k = l.length := by omega
      subst hkl
      rw [List.take_length] at hpos ⊢
      go_wp2
      go_ret
      exact ⟨ret_int (by rw [leftOfS, if_neg (by omega)]), hb⟩

theorem infoStrT : (Tryz.prog.info? 9).map (fun i => (i.zero, i.size, i.bytes)) = some (some (.string ⟨#[]⟩), 1, 16) := by kernel_rfl

set_option maxHeartbeats 1000000 in
theorem tostr_laws (a : Option Addr) (cap : Nat) (l : List ByteArray) (w : World) (hrow : StrsAt w a l) (hm : l.length ≤ 1048576) :
    Calls Tryz.prog 23 #[.slice a l.length cap] w fun e w' => e = .returned (.slice (some ⟨w.heap.size, 0, none⟩) l.length l.length) ∧
      w'.ownsRow w.heap.size 9 1 (.slice (some ⟨w.heap.size, 0, none⟩) l.length l.length) l.length (strV l) ∧ Below w.heap.size w w' := by
  obtain ⟨i0, hi, hz0, hz1, hz2⟩ := info_parts infoStrT
  have hR : Hid (StrsAt w a l) := hrow
  clear hrow
  go_enter Tryz.func23, Tryz.ntmps23
  go_wp2_with (at_make; refine wpList_make_full _ rfl _ _ 30 rfl w.heap.size 9 i0 (.string ⟨#[]⟩) 1 Tryz.underlying30 hi hz0 hz1 .i64 .i64 _ _ l.length rfl rfl rfl rfl ?b2 ?b3 (Nat.le_refl _) ?_)
  case b2 => rw [hz2]; omega
  case b3 => unfold maxLen; omega
  intro w1 hown hgrow
  have hb1 : Below w.heap.size w w1 := (Below.refl _ _).grown hgrow (Nat.le_refl _) (by intro k h; cases h)
  generalize (madeCells _ _).toList = z at hown
  have hzl : z.length = l.length := by have := hown.1; omega
  have hO : Hid (w1.ownsRow w.heap.size 9 1 (.slice (some ⟨w.heap.size, 0, none⟩) l.length l.length) l.length z) := hown
  clear hown hgrow
  go_wp2
  go_loopw [4] (fun i wr => ∃ k : Nat, k ≤ l.length ∧ i = .int .i64 k ∧ wr.ownsRow w.heap.size 9 1 (.slice (some ⟨w.heap.size, 0, none⟩) l.length l.length) l.length (strV (l.take k) ++ z.drop k) ∧ Below w.heap.size w wr)
    (fun i _ => l.length - (intOf i).toNat)
  case atStart => exact ⟨0, Nat.zero_le _, rfl, by simpa [strV] using hO.out, hb1⟩
  case round =>
    obtain ⟨k, hk, rfl, hown, hb⟩ := hrel
    by_cases hlt : k < l.length
    · obtain ⟨b, o, rfl, hbw, c0⟩ := hR.out.below hb k hlt
      have hi0 : (0 : Int) ≤ (k : Int) := by omega
      have hi1 : (k : Int) < (l.length : Int) := by omega
      have hst := strV_step l k hlt z hzl
      obtain ⟨u0, g0⟩ : ∃ u, wr.cell? ⟨w.heap.size, k, none⟩ = some u := ⟨_, (hown.cellAt k (by omega)).trans (List.getElem?_eq_getElem (by rw [hown.1]; omega))⟩
      have f0 := hown.frozenAt k
      have hO2 : Hid (wr.ownsRow w.heap.size 9 1 (.slice (some ⟨w.heap.size, 0, none⟩) l.length l.length) l.length (strV (l.take k) ++ z.drop k)) := hown
      clear hown
      generalize l[k] = x at c0 hst
      go_wp2
      go_roundw
      case rel =>
        refine ⟨k + 1, by omega, by go_num, ?_, ?_⟩
        · have r := hO2.out.stored k (.string x)
          rw [hst] at r; exact r.1
        · exact hb.setCell (Nat.le_refl _) _
      case measure => simp [intOf]; omega
    · have hkl : k = l.length := by omega
      subst hkl
      rw [List.take_length, List.drop_of_length_le (by omega), List.append_nil] at hown
      go_wp2
      go_ret
      exact ⟨rfl, hown, hb⟩

set_option maxHeartbeats 1000000 in
theorem eqstr_laws (a b : Option Addr) (ca cb : Nat) (l : List ByteArray) (w : World) (ha : StrsAt w a l) (hb : StrsAt w b l) (hm : l.length ≤ maxLen) :
    Calls Tryz.prog 33 #[.slice a l.length ca, .slice b l.length cb] w fun e w' => e = .returned (.bool true) ∧ Below w.heap.size w w' := by
  have hA : Hid (StrsAt w a l) := ha
  have hB : Hid (StrsAt w b l) := hb
  clear ha hb
  unfold maxLen at hm
  go_enter Tryz.func33, Tryz.ntmps33
  go_wp2
  go_loopw [5] (fun i wr => ∃ k : Nat, k ≤ l.length ∧ i = .int .i64 k ∧ Below w.heap.size w wr) (fun i _ => l.length - (intOf i).toNat)
  case atStart => exact ⟨0, Nat.zero_le _, rfl, Below.refl _ _⟩
  case round =>
    obtain ⟨k, hk, rfl, hx⟩ := hrel
    by_cases hlt : k < l.length
    · obtain ⟨b1, o1, rfl, hbw, c0⟩ := hA.out.below hx k hlt
      obtain ⟨b2, o2, rfl, hbw2, d0⟩ := hB.out.below hx k hlt
      have hi0 : (0 : Int) ≤ (k : Int) := by omega
      have hi1 : (k : Int) < (l.length : Int) := by omega
      generalize l[k] = x at c0 d0
      have hxx : (x.toList == x.toList) = true := by simp
      go_wp2_with fail
      go_quiet (fail)
      go_wp2
      go_roundw
      case rel => exact ⟨k + 1, by omega, by go_num, belowN hx _⟩
      case measure => simp [intOf]; omega
    · go_wp2
      go_ret
      exact ⟨rfl, hx⟩

end Go.Proofs.YteamdmcgkpeelalGreatDoor

/-
  Names: what a right list of names is, without any program; the contracts of the model's functions on them, and of the one that looks a text up.
-/
namespace Go.Proofs.YteamdmcgkpeelalGreatDoor
open Go.ChangeShapes Go.WideShapes Go.ChangeAt Go.RowKit
attribute [local go_sem ↓] Go.wp_at_zero Go.wp_at_succ
attribute [local simp] World.cell?_alloc_past World.cell?_alloc_at World.frozen?_alloc_at cell_far cell_off cell_here World.frozen?_alloc_past

theorem txt_same {y s : ByteArray} (h : y = s) : (y.toList == s.toList) = true := by rw [h]; simp
theorem txt_other {y s : ByteArray} (h : y ≠ s) : (y.toList == s.toList) = false := by
  rw [beq_eq_false_iff_ne]
  intro e
  rw [Lib.toList_data, Lib.toList_data] at e
  exact h (ByteArray.ext (Array.toList_inj.1 e))

/-- Is the text among them? -/
def inB (l : List ByteArray) (s : ByteArray) : Bool := l.any fun x => decide (x = s)
theorem inB_iff {l : List ByteArray} {s : ByteArray} : inB l s = true ↔ s ∈ l := by
  unfold inB
  rw [List.any_eq_true]
  constructor
  · rintro ⟨x, hx, e⟩
    rw [decide_eq_true_eq] at e
    rw [← e]; exact hx
  · intro h; exact ⟨s, h, by simp⟩
theorem inB_no {l : List ByteArray} {s : ByteArray} : inB l s = false ↔ s ∉ l := by
  rw [Bool.eq_false_iff]
  exact not_congr inB_iff
/-- Is it a name? -/
def nameB (s : ByteArray) : Bool := decide (s ≠ ⟨#[]⟩) && (lets s.data.toList && decide ((s.size : Int) ≤ 6))
/-- Names, no two alike. -/
def namesD (l : List ByteArray) : Bool := l.all nameB && decide l.Nodup
def namesB (l : List ByteArray) (least most : Int) : Bool := namesD l && (decide (least ≤ (l.length : Int)) && decide ((l.length : Int) ≤ most))
theorem namesD_snoc (l : List ByteArray) (k : Nat) (h : k < l.length) : namesD (l.take (k + 1)) = (namesD (l.take k) && (nameB l[k] && !inB (l.take k) l[k])) := by
  unfold namesD
  rw [List.take_succ_eq_append_getElem h, List.all_append]
  rw [Bool.eq_iff_iff]
  simp only [Bool.and_eq_true, decide_eq_true_eq, List.nodup_append, List.all_cons, List.all_nil, Bool.and_true, Bool.not_eq_true', inB_no, List.mem_singleton]
  constructor
  · rintro ⟨⟨h1, h2⟩, h3, _, h4⟩
    exact ⟨⟨h1, h3⟩, h2, fun hm => h4 _ hm _ rfl rfl⟩
  · rintro ⟨⟨h1, h3⟩, h2, h4⟩
    exact ⟨⟨h1, h2⟩, h3, by simp, fun a ha b hb e => h4 (by rw [← hb, ← e]; exact ha)⟩
theorem namesD_no (l : List ByteArray) (k : Nat) (h : namesD (l.take k) = false) : namesD l = false := by
  rw [Bool.eq_false_iff] at h ⊢
  intro e
  apply h
  unfold namesD at e ⊢
  simp only [Bool.and_eq_true, decide_eq_true_eq, List.all_eq_true] at e ⊢
  exact ⟨fun x hx => e.1 x (List.mem_of_mem_take hx), e.2.sublist (List.take_sublist _ _)⟩

/-- Where a text stands first; -1: nowhere. -/
def AtIs (l : List ByteArray) (s : ByteArray) (r : Int) : Prop := (r = -1 ∧ s ∉ l) ∨ ∃ (k : Nat) (h : k < l.length), r = (k : Int) ∧ l[k] = s ∧ ∀ j (hj : j < l.length), j < k → l[j] ≠ s
theorem AtIs.one {l : List ByteArray} {s : ByteArray} {r r' : Int} (h : AtIs l s r) (h' : AtIs l s r') : r = r' := by
  rcases h with ⟨rfl, hn⟩ | ⟨k, hk, rfl, he, hf⟩ <;> rcases h' with ⟨rfl, hn'⟩ | ⟨k', hk', rfl, he', hf'⟩
  · rfl
  · exact absurd (he' ▸ List.getElem_mem hk') hn
  · exact absurd (he ▸ List.getElem_mem hk) hn'
  · rcases Nat.lt_trichotomy k k' with h | h | h
    · exact absurd he (hf' k hk h)
    · rw [h]
    · exact absurd he' (hf k' hk' h)
theorem AtIs.neg {l : List ByteArray} {s : ByteArray} {r : Int} (h : AtIs l s r) : (0 ≤ r ↔ s ∈ l) := by
  rcases h with ⟨rfl, hn⟩ | ⟨k, hk, rfl, he, _⟩
  · constructor
    · intro h; omega
    · intro h; exact absurd h hn
  · exact ⟨fun _ => he ▸ List.getElem_mem hk, fun _ => by omega⟩
theorem AtIs.lt {l : List ByteArray} {s : ByteArray} {r : Int} (h : AtIs l s r) : -1 ≤ r ∧ r < (l.length : Int) := by
  rcases h with ⟨rfl, _⟩ | ⟨k, hk, rfl, _, _⟩ <;> omega

theorem name_spec (s : ByteArray) (w : World) (hs : s.size ≤ maxLen) (b : Bool) (hb : nameB s = b) :
    Calls Tryz.prog 36 #[.string s] w fun e w' => e = .returned (.bool b) ∧ w' = w := by
  by_cases h0 : s = ⟨#[]⟩
  · have e : b = false := by rw [← hb, h0]; rfl
    subst e h0
    clear hb
    go_enter Tryz.func36, Tryz.ntmps36
    go_wp2
    go_ret
    exact ⟨rfl, rfl⟩
  · have h1 : (s.toList == []) = false := by
      have := txt_other h0
      rw [show (⟨#[]⟩ : ByteArray).toList = [] from by rw [Lib.toList_data]] at this
      exact this
    have h2 : ¬ s.toList = [] := by intro e; rw [e] at h1; cases h1
    have e : (lets s.data.toList && decide ((s.size : Int) ≤ 6)) = b := by rw [← hb]; unfold nameB; rw [decide_eq_true h0, Bool.true_and]
    have HB : Hid ((lets s.data.toList && decide ((s.size : Int) ≤ 6)) = b) := e
    clear hb h0 e
    go_enter Tryz.func36, Tryz.ntmps36
    go_wp2_with fail
    refine (letters_spec s 6 _ hs).mono ?_
    rintro e w' ⟨rfl, rfl⟩
    rw [HB.out]
    go_wp2
    go_ret
    exact ⟨rfl, rfl⟩

set_option maxHeartbeats 1000000 in
theorem at_spec (a : Option Addr) (cap : Nat) (l : List ByteArray) (s : ByteArray) (w : World) (hrow : StrsAt w a l) (hm : l.length ≤ maxLen) :
    Calls Tryz.prog 59 #[.slice a l.length cap, .string s] w fun e w' => ∃ r, e = .returned (.int .i64 r) ∧ AtIs l s r ∧ Below w.heap.size w w' := by
  have HR : Hid (StrsAt w a l) := hrow
  clear hrow
  unfold maxLen at hm
  go_enter Tryz.func59, Tryz.ntmps59
  go_wp2
  go_loopw [5] (fun kk wr => ∃ k : Nat, k ≤ l.length ∧ kk = .int .i64 k ∧ Hid (∀ j (hj : j < l.length), j < k → l[j] ≠ s) ∧ Below w.heap.size w wr) (fun kk _ => l.length - (intOf kk).toNat)
  case atStart => exact ⟨0, Nat.zero_le _, rfl, fun j _ h => by omega, Below.refl _ _⟩
  case round =>
    obtain ⟨k, hk, rfl, hall, hbw⟩ := hrel
    by_cases hlt : k < l.length
    · obtain ⟨g, o, rfl, hgw, c0⟩ := HR.out.below hbw k hlt
      have hi0 : (0 : Int) ≤ (k : Int) := by omega
      have hi1 : (k : Int) < (l.length : Int) := by omega
      have HX : Hid (l[k] = l[k]) := rfl
      by_cases e : l[k] = s
      · have fin : Hid (AtIs l s (k : Int)) := Or.inr ⟨k, hlt, rfl, e, hall.out⟩
        have hq := txt_same e
        clear HX e
        generalize l[k] = x at c0 hq
        go_wp2
        go_ret
        exact ⟨_, rfl, fin.out, hbw⟩
      · have hall2 : Hid (∀ j (hj : j < l.length), j < k + 1 → l[j] ≠ s) := by
          have : ∀ j (hj : j < l.length), j < k + 1 → l[j] ≠ s := by
            intro j hj hjk
            by_cases ej : j = k
            · subst ej; exact e
            · exact hall.out j hj (by omega)
          exact this
        have hq := txt_other e
        clear HX e
        generalize l[k] = x at c0 hq
        go_wp2
        go_roundw
        case rel => exact ⟨k + 1, by omega, by go_num, hall2, hbw⟩
        case measure => simp [intOf]; omega
    · have fin : Hid (AtIs l s (-1)) := Or.inl ⟨rfl, fun hmem => by
        obtain ⟨j, hj, e⟩ := List.getElem_of_mem hmem
        exact hall.out j hj (by omega) e⟩
      go_wp2
      go_ret
      exact ⟨_, rfl, fin.out, hbw⟩

end Go.Proofs.YteamdmcgkpeelalGreatDoor

/-
  The contract of the model's question whether texts are names, no two alike, and not too many.
-/
namespace Go.Proofs.YteamdmcgkpeelalGreatDoor
open Go.ChangeShapes Go.WideShapes Go.ChangeAt Go.RowKit
attribute [local go_sem ↓] Go.wp_at_zero Go.wp_at_succ
attribute [local simp] World.cell?_alloc_past World.cell?_alloc_at World.frozen?_alloc_at cell_far cell_off cell_here World.frozen?_alloc_past

theorem StrsAt.take {w : World} {a : Option Addr} {l : List ByteArray} (h : StrsAt w a l) (k : Nat) : StrsAt w a (l.take k) := by
  intro j hj
  have hj' : j < l.length := by rw [List.length_take] at hj; omega
  rw [List.getElem_take]
  exact h j hj'
theorem at_specN (n : Nat) (a : Option Addr) (cap : Nat) (l : List ByteArray) (hn : l.length = n) (s : ByteArray) (w : World) (hrow : StrsAt w a l) (hm : n ≤ maxLen) :
    Calls Tryz.prog 59 #[.slice a n cap, .string s] w fun e w' => ∃ r, e = .returned (.int .i64 r) ∧ AtIs l s r ∧ Below w.heap.size w w' := by
  subst hn; exact at_spec a cap l s w hrow hm

set_option maxRecDepth 100000 in
set_option maxHeartbeats 2000000 in
theorem names_spec (a : Option Addr) (cap : Nat) (l : List ByteArray) (least most : Int) (w : World) (hrow : StrsAt w a l) (hfit : FitS l) (hm : l.length ≤ maxLen) (hcap : l.length ≤ cap) (b : Bool) (hb : namesB l least most = b) :
    Calls Tryz.prog 37 #[.slice a l.length cap, .int .i64 least, .int .i64 most] w fun e w' => e = .returned (.bool b) ∧ Below w.heap.size w w' := by
  have HR : Hid (StrsAt w a l) := hrow
  have HF : Hid (FitS l) := hfit
  have HB : Hid (namesB l least most = b) := hb
  clear hrow hfit hb
  have hmm := hm
  unfold maxLen at hm
  go_enter Tryz.func37, Tryz.ntmps37
  go_wp2
  go_loopw [7] (fun kk wr => ∃ k : Nat, k ≤ l.length ∧ kk = .int .i64 k ∧ Hid (namesD (l.take k) = true) ∧ Below w.heap.size w wr) (fun kk _ => l.length - (intOf kk).toNat)
  case atStart => exact ⟨0, Nat.zero_le _, rfl, rfl, Below.refl _ _⟩
  case round =>
    obtain ⟨k, hk, rfl, hall, hbw⟩ := hrel
    by_cases hlt : k < l.length
    · have HW : Hid (StrsAt wr a l) := HR.out.below hbw
      obtain ⟨g, o, rfl, hgw, c0⟩ := HW.out k hlt
      have hi0 : (0 : Int) ≤ (k : Int) := by omega
      have hi1 : (k : Int) < (l.length : Int) := by omega
      have hkc : (k : Int) ≤ (cap : Int) := by omega
      have hft := HF.out k hlt
      have hsn := namesD_snoc l k hlt
      rw [hall.out, Bool.true_and] at hsn
      have HS : Hid (namesD (l.take (k + 1)) = (nameB l[k] && !inB (l.take k) l[k])) := hsn
      have hno : Hid (namesD (l.take (k + 1)) = false → b = false) := by
        have : namesD (l.take (k + 1)) = false → b = false := by
          intro e
          rw [← HB.out]
          unfold namesB
          rw [namesD_no l (k + 1) e, Bool.false_and]
        exact this
      have HT : Hid ((l.take k).length = k) := by
        have : (l.take k).length = k := by rw [List.length_take]; omega
        exact this
      clear hsn
      obtain ⟨r, hr⟩ : ∃ r, nameB l[k] = r := ⟨_, rfl⟩
      generalize l[k] = x at c0 hft HS hr
      have HRR : Hid (nameB x = r) := hr
      clear hr
      go_wp2_with fail
      refine wp_region_held_drew (S := (fun w' => w'.cell? ⟨g, o + k, none⟩ = some (.string x))) (by kernel_rfl) ?_ (fun hHeld => ?_)
      · (((try dsimp only); (repeat' apply And.intro) <;> first | (go_keep; done) | (simp (disch := first | omega | (simp <;> omega) | fail) [*]; done) | fail))
      refine wpAnyH_take (i := 0) (by simp only [List.getElem?_toArray, List.getElem?_cons_zero]; rfl) (by kernel_rfl) (by kernel_rfl) (by kernel_rfl) (by intro _ _ _ h; exact h) (Or.inl ⟨by rfl, fun w hSw => by (dsimp only at hSw; go_simp; (try with_reducible rfl))⟩) (by assumption) ?_
      simp only [Act.put, List.setIfInBounds_toArray, List.set_cons_zero, List.set_cons_succ]
      refine wpAnyH_take (i := 1) (by simp only [List.getElem?_toArray, List.getElem?_cons_zero, List.getElem?_cons_succ]; rfl) (by kernel_rfl) (by kernel_rfl) (by kernel_rfl) (by intro _ _ _ h; exact h) (Or.inl ⟨by rfl, fun w hSw => by (dsimp only at hSw; go_simp; (try with_reducible rfl))⟩) (by assumption) ?_
      simp only [Act.put, List.setIfInBounds_toArray, List.set_cons_zero, List.set_cons_succ]
      refine wpAnyH_take (i := 2) (by simp only [List.getElem?_toArray, List.getElem?_cons_zero, List.getElem?_cons_succ]; rfl) (by kernel_rfl) (by kernel_rfl) (by kernel_rfl) (by intro _ _ _ h; exact h) (Or.inl ⟨by rfl, fun w hSw => by (dsimp only at hSw; go_simp; (try with_reducible rfl))⟩) (by assumption) ?_
      simp only [Act.put, List.setIfInBounds_toArray, List.set_cons_zero, List.set_cons_succ]
      refine wpAnyH_take (i := 3) (by simp only [List.getElem?_toArray, List.getElem?_cons_zero, List.getElem?_cons_succ]; rfl) (by kernel_rfl) (by kernel_rfl) (by kernel_rfl) (by intro _ _ _ h; exact h) (Or.inl ⟨by rfl, fun w hSw => by (dsimp only at hSw; go_simp; (try with_reducible rfl))⟩) (by assumption) ?_
      simp only [Act.put, List.setIfInBounds_toArray, List.set_cons_zero, List.set_cons_succ]
      refine wpAnyH_ready (rs := [4]) (by kernel_rfl) (by simp) ?_
      refine AllReadyH.cons (by simp only [List.getElem?_toArray, List.getElem?_cons_zero, List.getElem?_cons_succ]; rfl) ?_ AllReadyH.nil
      intro K hK
      go_simp
      refine (name_spec x _ hft r HRR.out).mono ?_
      rintro e wA ⟨rfl, rfl⟩
      cases r
      · go_wp2_with fail
        refine hK.out _ _ ?_ (fun hHeld => ?_)
        · (((try dsimp only); (repeat' apply And.intro) <;> first | (go_keep; done) | (simp (disch := first | omega | (simp <;> omega) | fail) [*]; done) | fail))
        clear hK K
        try simp only [Act.put, List.setIfInBounds_toArray, List.set_cons_zero, List.set_cons_succ]
        refine wpAnyH_take (i := 5) (by simp only [List.getElem?_toArray, List.getElem?_cons_zero, List.getElem?_cons_succ]; rfl) (by kernel_rfl) (by kernel_rfl) (by kernel_rfl) (by intro _ _ _ h; exact h) (Or.inl ⟨by rfl, fun w hSw => by (dsimp only at hSw; go_simp; (try with_reducible rfl))⟩) (by assumption) ?_
        simp only [Act.put, List.setIfInBounds_toArray, List.set_cons_zero, List.set_cons_succ]
        refine wpAnyH_take (i := 6) (by simp only [List.getElem?_toArray, List.getElem?_cons_zero, List.getElem?_cons_succ]; rfl) (by kernel_rfl) (by kernel_rfl) (by kernel_rfl) (by intro _ _ _ h; exact h) (Or.inl ⟨by rfl, fun w hSw => by (dsimp only at hSw; go_simp; (try with_reducible rfl))⟩) (by assumption) ?_
        simp only [Act.put, List.setIfInBounds_toArray, List.set_cons_zero, List.set_cons_succ]
        refine wpAnyH_take (i := 7) (v := undef) (by simp only [List.getElem?_toArray, List.getElem?_cons_zero, List.getElem?_cons_succ]; rfl) (by kernel_rfl) (by kernel_rfl) (by kernel_rfl) (by intro _ _ _ h; exact h) (Or.inr ⟨by rfl, rfl⟩) (by assumption) ?_
        simp only [Act.put, List.setIfInBounds_toArray, List.set_cons_zero, List.set_cons_succ]
        refine wpAnyH_take (i := 8) (v := undef) (by simp only [List.getElem?_toArray, List.getElem?_cons_zero, List.getElem?_cons_succ]; rfl) (by kernel_rfl) (by kernel_rfl) (by kernel_rfl) (by intro _ _ _ h; exact h) (Or.inr ⟨by rfl, rfl⟩) (by assumption) ?_
        simp only [Act.put, List.setIfInBounds_toArray, List.set_cons_zero, List.set_cons_succ]
        refine wpAnyH_take (i := 9) (v := undef) (by simp only [List.getElem?_toArray, List.getElem?_cons_zero, List.getElem?_cons_succ]; rfl) (by kernel_rfl) (by kernel_rfl) (by kernel_rfl) (by intro _ _ _ h; exact h) (Or.inr ⟨by rfl, rfl⟩) (by assumption) ?_
        simp only [Act.put, List.setIfInBounds_toArray, List.set_cons_zero, List.set_cons_succ]
        refine wpAnyH_take (i := 10) (v := undef) (by simp only [List.getElem?_toArray, List.getElem?_cons_zero, List.getElem?_cons_succ]; rfl) (by kernel_rfl) (by kernel_rfl) (by kernel_rfl) (by intro _ _ _ h; exact h) (Or.inr ⟨by rfl, rfl⟩) (by assumption) ?_
        simp only [Act.put, List.setIfInBounds_toArray, List.set_cons_zero, List.set_cons_succ]
        refine wpAnyH_take (i := 11) (v := undef) (by simp only [List.getElem?_toArray, List.getElem?_cons_zero, List.getElem?_cons_succ]; rfl) (by kernel_rfl) (by kernel_rfl) (by kernel_rfl) (by intro _ _ _ h; exact h) (Or.inr ⟨by rfl, rfl⟩) (by assumption) ?_
        simp only [Act.put, List.setIfInBounds_toArray, List.set_cons_zero, List.set_cons_succ]
        refine wpAnyH_take (i := 12) (v := undef) (by simp only [List.getElem?_toArray, List.getElem?_cons_zero, List.getElem?_cons_succ]; rfl) (by kernel_rfl) (by kernel_rfl) (by kernel_rfl) (by intro _ _ _ h; exact h) (Or.inr ⟨by rfl, rfl⟩) (by assumption) ?_
        simp only [Act.put, List.setIfInBounds_toArray, List.set_cons_zero, List.set_cons_succ]
        refine wpAnyH_take (i := 13) (v := undef) (by simp only [List.getElem?_toArray, List.getElem?_cons_zero, List.getElem?_cons_succ]; rfl) (by kernel_rfl) (by kernel_rfl) (by kernel_rfl) (by intro _ _ _ h; exact h) (Or.inr ⟨by rfl, rfl⟩) (by assumption) ?_
        simp only [Act.put, List.setIfInBounds_toArray, List.set_cons_zero, List.set_cons_succ]
        refine wpAnyH_take (i := 14) (v := undef) (by simp only [List.getElem?_toArray, List.getElem?_cons_zero, List.getElem?_cons_succ]; rfl) (by kernel_rfl) (by kernel_rfl) (by kernel_rfl) (by intro _ _ _ h; exact h) (Or.inr ⟨by rfl, rfl⟩) (by assumption) ?_
        simp only [Act.put, List.setIfInBounds_toArray, List.set_cons_zero, List.set_cons_succ]
        refine wpAnyH_take (i := 15) (v := undef) (by simp only [List.getElem?_toArray, List.getElem?_cons_zero, List.getElem?_cons_succ]; rfl) (by kernel_rfl) (by kernel_rfl) (by kernel_rfl) (by intro _ _ _ h; exact h) (Or.inr ⟨by rfl, rfl⟩) (by assumption) ?_
        simp only [Act.put, List.setIfInBounds_toArray, List.set_cons_zero, List.set_cons_succ]
        refine wpAnyH_take (i := 16) (by simp only [List.getElem?_toArray, List.getElem?_cons_zero, List.getElem?_cons_succ]; rfl) (by kernel_rfl) (by kernel_rfl) (by kernel_rfl) (by intro _ _ _ h; exact h) (Or.inl ⟨by rfl, fun w hSw => by (dsimp only at hSw; go_simp; (try with_reducible rfl))⟩) (by assumption) ?_
        simp only [Act.put, List.setIfInBounds_toArray, List.set_cons_zero, List.set_cons_succ]
        refine wpAnyH_done (by kernel_rfl) ?_ _
        have e := hno.out (by rw [HS.out, HRR.out]; rfl)
        subst e
        go_wp2
        go_ret
        exact ⟨rfl, hbw.drew⟩
      · go_wp2_with fail
        refine hK.out _ _ ?_ (fun hHeld => ?_)
        · (((try dsimp only); (repeat' apply And.intro) <;> first | (go_keep; done) | (simp (disch := first | omega | (simp <;> omega) | fail) [*]; done) | fail))
        clear hK K
        try simp only [Act.put, List.setIfInBounds_toArray, List.set_cons_zero, List.set_cons_succ]
        refine wpAnyH_take (i := 5) (by simp only [List.getElem?_toArray, List.getElem?_cons_zero, List.getElem?_cons_succ]; rfl) (by kernel_rfl) (by kernel_rfl) (by kernel_rfl) (by intro _ _ _ h; exact h) (Or.inl ⟨by rfl, fun w hSw => by (dsimp only at hSw; go_simp; (try with_reducible rfl))⟩) (by assumption) ?_
        simp only [Act.put, List.setIfInBounds_toArray, List.set_cons_zero, List.set_cons_succ]
        refine wpAnyH_take (i := 6) (by simp only [List.getElem?_toArray, List.getElem?_cons_zero, List.getElem?_cons_succ]; rfl) (by kernel_rfl) (by kernel_rfl) (by kernel_rfl) (by intro _ _ _ h; exact h) (Or.inl ⟨by rfl, fun w hSw => by (dsimp only at hSw; go_simp; (try with_reducible rfl))⟩) (by assumption) ?_
        simp only [Act.put, List.setIfInBounds_toArray, List.set_cons_zero, List.set_cons_succ]
        refine wpAnyH_take (i := 7) (by simp only [List.getElem?_toArray, List.getElem?_cons_zero, List.getElem?_cons_succ]; rfl) (by kernel_rfl) (by kernel_rfl) (by kernel_rfl) (by intro _ _ _ h; exact h) (Or.inl ⟨by rfl, fun w hSw => by (dsimp only at hSw; go_simp; (try with_reducible rfl))⟩) (by assumption) ?_
        simp only [Act.put, List.setIfInBounds_toArray, List.set_cons_zero, List.set_cons_succ]
        refine wpAnyH_take (i := 8) (by simp only [List.getElem?_toArray, List.getElem?_cons_zero, List.getElem?_cons_succ]; rfl) (by kernel_rfl) (by kernel_rfl) (by kernel_rfl) (by intro _ _ _ h; exact h) (Or.inl ⟨by rfl, fun w hSw => by (dsimp only at hSw; go_simp; (try with_reducible rfl))⟩) (by assumption) ?_
        simp only [Act.put, List.setIfInBounds_toArray, List.set_cons_zero, List.set_cons_succ]
        refine wpAnyH_take (i := 9) (by simp only [List.getElem?_toArray, List.getElem?_cons_zero, List.getElem?_cons_succ]; rfl) (by kernel_rfl) (by kernel_rfl) (by kernel_rfl) (by intro _ _ _ h; exact h) (Or.inl ⟨by rfl, fun w hSw => by (dsimp only at hSw; go_simp; (try with_reducible rfl))⟩) (by assumption) ?_
        simp only [Act.put, List.setIfInBounds_toArray, List.set_cons_zero, List.set_cons_succ]
        refine wpAnyH_take (i := 10) (by simp only [List.getElem?_toArray, List.getElem?_cons_zero, List.getElem?_cons_succ]; rfl) (by kernel_rfl) (by kernel_rfl) (by kernel_rfl) (by intro _ _ _ h; exact h) (Or.inl ⟨by rfl, fun w hSw => by (dsimp only at hSw; go_simp; (try with_reducible rfl))⟩) (by assumption) ?_
        simp only [Act.put, List.setIfInBounds_toArray, List.set_cons_zero, List.set_cons_succ]
        refine wpAnyH_take (i := 11) (by simp only [List.getElem?_toArray, List.getElem?_cons_zero, List.getElem?_cons_succ]; rfl) (by kernel_rfl) (by kernel_rfl) (by kernel_rfl) (by intro _ _ _ h; exact h) (Or.inl ⟨by rfl, fun w hSw => by (dsimp only at hSw; go_simp; (try with_reducible rfl))⟩) (by assumption) ?_
        simp only [Act.put, List.setIfInBounds_toArray, List.set_cons_zero, List.set_cons_succ]
        refine wpAnyH_take (i := 12) (by simp only [List.getElem?_toArray, List.getElem?_cons_zero, List.getElem?_cons_succ]; rfl) (by kernel_rfl) (by kernel_rfl) (by kernel_rfl) (by intro _ _ _ h; exact h) (Or.inl ⟨by rfl, fun w hSw => by (dsimp only at hSw; go_simp; (try with_reducible rfl))⟩) (by assumption) ?_
        simp only [Act.put, List.setIfInBounds_toArray, List.set_cons_zero, List.set_cons_succ]
        refine wpAnyH_take (i := 13) (by simp only [List.getElem?_toArray, List.getElem?_cons_zero, List.getElem?_cons_succ]; rfl) (by kernel_rfl) (by kernel_rfl) (by kernel_rfl) (by intro _ _ _ h; exact h) (Or.inl ⟨by rfl, fun w hSw => by (dsimp only at hSw; go_simp; (try with_reducible rfl))⟩) (by assumption) ?_
        simp only [Act.put, List.setIfInBounds_toArray, List.set_cons_zero, List.set_cons_succ]
        refine wpAnyH_ready (rs := [14]) (by kernel_rfl) (by simp) ?_
        refine AllReadyH.cons (by simp only [List.getElem?_toArray, List.getElem?_cons_zero, List.getElem?_cons_succ]; rfl) ?_ AllReadyH.nil
        intro K hK
        go_simp
        refine (at_specN k _ _ (l.take k) HT.out x _ ((HW.out.take k).below (Below.refl wr.heap.size wr).drew) (by unfold maxLen; omega)).mono ?_
        rintro e wA ⟨r, rfl, hat, hbA⟩
        have hat0 : Hid (AtIs (l.take k) x r) := hat
        clear hat
        obtain ⟨hca, hfa⟩ := bcell hbA
        have hza := hbA.size
        try simp at hza
        have hxA : Below w.heap.size w wA := chain hbw (undrew hbA)
        have yA : g < wA.heap.size := by omega
        go_wp2_with fail
        refine hK.out _ _ ?_ (fun hHeld => ?_)
        · (((try dsimp only); (repeat' apply And.intro) <;> first | (go_keep; done) | (simp (disch := first | omega | (simp <;> omega) | fail) [*]; done) | fail))
        clear hK K
        try simp only [Act.put, List.setIfInBounds_toArray, List.set_cons_zero, List.set_cons_succ]
        by_cases hr0 : 0 ≤ r
        · skip
          refine wpAnyH_take (i := 15) (by simp only [List.getElem?_toArray, List.getElem?_cons_zero, List.getElem?_cons_succ]; rfl) (by kernel_rfl) (by kernel_rfl) (by kernel_rfl) (by intro _ _ _ h; exact h) (Or.inl ⟨by rfl, fun w hSw => by (dsimp only at hSw; go_simp; (try with_reducible rfl))⟩) (by assumption) ?_
          simp only [Act.put, List.setIfInBounds_toArray, List.set_cons_zero, List.set_cons_succ]
          refine wpAnyH_take (i := 16) (by simp only [List.getElem?_toArray, List.getElem?_cons_zero, List.getElem?_cons_succ]; rfl) (by kernel_rfl) (by kernel_rfl) (by kernel_rfl) (by intro _ _ _ h; exact h) (Or.inl ⟨by rfl, fun w hSw => by (dsimp only at hSw; go_simp; (try with_reducible rfl))⟩) (by assumption) ?_
          simp only [Act.put, List.setIfInBounds_toArray, List.set_cons_zero, List.set_cons_succ]
          refine wpAnyH_done (by kernel_rfl) ?_ _
          have e := hno.out (by rw [HS.out, HRR.out, inB_iff.2 (hat0.out.neg.1 hr0)]; rfl)
          subst e
          go_wp2
          go_ret
          exact ⟨rfl, hxA⟩
        · have hr1 : r < 0 := by omega
          refine wpAnyH_take (i := 15) (by simp only [List.getElem?_toArray, List.getElem?_cons_zero, List.getElem?_cons_succ]; rfl) (by kernel_rfl) (by kernel_rfl) (by kernel_rfl) (by intro _ _ _ h; exact h) (Or.inl ⟨by rfl, fun w hSw => by (dsimp only at hSw; go_simp; (try with_reducible rfl))⟩) (by assumption) ?_
          simp only [Act.put, List.setIfInBounds_toArray, List.set_cons_zero, List.set_cons_succ]
          refine wpAnyH_take (i := 16) (by simp only [List.getElem?_toArray, List.getElem?_cons_zero, List.getElem?_cons_succ]; rfl) (by kernel_rfl) (by kernel_rfl) (by kernel_rfl) (by intro _ _ _ h; exact h) (Or.inl ⟨by rfl, fun w hSw => by (dsimp only at hSw; go_simp; (try with_reducible rfl))⟩) (by assumption) ?_
          simp only [Act.put, List.setIfInBounds_toArray, List.set_cons_zero, List.set_cons_succ]
          refine wpAnyH_done (by kernel_rfl) ?_ _
          have hall2 : Hid (namesD (l.take (k + 1)) = true) := by
            have : namesD (l.take (k + 1)) = true := by
              rw [HS.out, HRR.out, inB_no.2 (fun h => hr0 (hat0.out.neg.2 h))]; rfl
            exact this
          go_wp2
          go_roundw
          case rel => exact ⟨k + 1, by omega, by go_num, hall2, hxA⟩
          case measure => simp [intOf]; omega
    · have hkl : k = l.length := by omega
      subst hkl
      have fin : Hid ((decide (least ≤ (l.length : Int)) && decide ((l.length : Int) ≤ most)) = b) := by
        have : (decide (least ≤ (l.length : Int)) && decide ((l.length : Int) ≤ most)) = b := by
          rw [← HB.out]; unfold namesB
          have := hall.out
          rw [List.take_length] at this
          rw [this, Bool.true_and]
        exact this
      go_wp2_with fail
      refine (in_spec _ _ _ _).mono ?_
      rintro e w' ⟨rfl, rfl⟩
      rw [fin.out]
      go_wp2
      go_ret
      exact ⟨rfl, hbw⟩

end Go.Proofs.YteamdmcgkpeelalGreatDoor

/-
  The contract of the law's helper that holds two lists of cells against each other: of two that are one it answers true.
-/
namespace Go.Proofs.YteamdmcgkpeelalGreatDoor
open Go.ChangeShapes Go.WideShapes Go.ChangeAt Go.RowKit
attribute [local go_sem ↓] Go.wp_at_zero Go.wp_at_succ

set_option maxHeartbeats 1000000 in
theorem eqs_laws (a b : Option Addr) (ca cb : Nat) (l : List CT) (w : World) (ha : RowAt w a l) (hb : RowAt w b l) (hm : l.length ≤ maxLen) :
    Calls Tryz.prog 56 #[.slice a l.length ca, .slice b l.length cb] w fun e w' => e = .returned (.bool true) ∧ Below w.heap.size w w' := by
  have hA : Hid (RowAt w a l) := ha
  have hB : Hid (RowAt w b l) := hb
  clear ha hb
  unfold maxLen at hm
  go_enter Tryz.func56, Tryz.ntmps56
  go_wp2
  go_loopw [5] (fun i wr => ∃ k : Nat, k ≤ l.length ∧ i = .int .i64 k ∧ Below w.heap.size w wr) (fun i _ => l.length - (intOf i).toNat)
  case atStart => exact ⟨0, Nat.zero_le _, rfl, Below.refl _ _⟩
  case round =>
    obtain ⟨k, hk, rfl, hx⟩ := hrel
    by_cases hlt : k < l.length
    · obtain ⟨b1, o1, rfl, hbw, c0, c1, c2⟩ := hA.out.below hx k hlt
      obtain ⟨b2, o2, rfl, hbw2, d0, d1, d2⟩ := hB.out.below hx k hlt
      have hi0 : (0 : Int) ≤ (k : Int) := by omega
      have hi1 : (k : Int) < (l.length : Int) := by omega
      generalize l[k] = x at c0 c1 c2 d0 d1 d2
      go_wp2_with fail
      go_region_held3 (fun w' => w'.cell? ⟨b1, o1 + k * 3, none⟩ = some (.int .i64 x.1) ∧ w'.cell? ⟨b1, o1 + k * 3 + 1, none⟩ = some (.int .i64 x.2.1) ∧ w'.cell? ⟨b1, o1 + k * 3 + 2, none⟩ = some (.string x.2.2) ∧
          w'.cell? ⟨b2, o2 + k * 3, none⟩ = some (.int .i64 x.1) ∧ w'.cell? ⟨b2, o2 + k * 3 + 1, none⟩ = some (.int .i64 x.2.1) ∧ w'.cell? ⟨b2, o2 + k * 3 + 2, none⟩ = some (.string x.2.2))
        (((try dsimp only); (repeat' apply And.intro) <;> first | (go_keep; done) | (simp (disch := first | omega | (simp <;> omega) | fail) [*]; done) | fail))
        ((go_at_call 75; refine (eq_laws _ _ _ _).mono ?_; rintro e w1 ⟨rfl, hb1⟩; obtain ⟨hc, hf⟩ := bcell hb1))
      all_goals
        go_wp2
        go_roundw
        case rel => exact ⟨k + 1, by omega, by go_num, chain hx (undrew hb1)⟩
        case measure => simp [intOf]; omega
    · go_wp2
      go_ret
      exact ⟨rfl, hx⟩

end Go.Proofs.YteamdmcgkpeelalGreatDoor
