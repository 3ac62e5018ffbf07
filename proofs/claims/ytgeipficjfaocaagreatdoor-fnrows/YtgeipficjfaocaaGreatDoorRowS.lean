/-
  The contracts of the model's text of a row.
-/
import Derived.Test.YtgeipficjfaocaaGreatDoorKeyS
import Derived.Test.YtgeipficjfaocaaGreatDoorLists2
namespace Go.Proofs.YtgeipficjfaocaaGreatDoor
open Go.ChangeShapes Go.WideShapes Go.ChangeAt Go.RowKit
attribute [local go_sem ↓] Go.wp_at_zero Go.wp_at_succ

theorem joinTail_snoc (sep : List UInt8) (r : List (List UInt8)) (x : List UInt8) : Lib.joinTail sep (r ++ [x]) = Lib.joinTail sep r ++ sep ++ x := by simp [Lib.joinTail]
theorem join_snoc (xs : List (List UInt8)) (x sep : List UInt8) (h : xs ≠ []) : Lib.join (xs ++ [x]) sep = Lib.join xs sep ++ sep ++ x := by
  cases xs with
  | nil => exact absurd rfl h
  | cons y r => rw [List.cons_append, Lib.join_cons, Lib.join_cons, joinTail_snoc]; simp
theorem join_len (xs : List (List UInt8)) (h : ∀ x ∈ xs, x.length ≤ 14) : (Lib.join xs [32]).length ≤ 15 * xs.length := by
  have key : ∀ r : List (List UInt8), (∀ x ∈ r, x.length ≤ 14) → (Lib.joinTail [32] r).length ≤ 15 * r.length := by
    intro r
    induction r with
    | nil => intro _; simp [Lib.joinTail]
    | cons y r ih =>
      intro hr
      have h1 := hr y (by simp)
      have h2 := ih (fun x hx => hr x (by simp [hx]))
      have e : Lib.joinTail [32] (y :: r) = 32 :: (y ++ Lib.joinTail [32] r) := by simp [Lib.joinTail]
      rw [e, List.length_cons, List.length_append, List.length_cons]
      omega
  cases xs with
  | nil => simp [Lib.join_nil]
  | cons y r =>
    have h1 := h y (by simp)
    have h2 := key r (fun x hx => h x (by simp [hx]))
    rw [Lib.join_cons, List.length_append, List.length_cons]
    omega
/-- The bytes of texts. -/
def rawT (xs : List ByteArray) : List (List UInt8) := xs.map (·.data.toList)
theorem rawT_snoc (xs : List ByteArray) (x : ByteArray) : rawT (xs ++ [x]) = rawT xs ++ [x.data.toList] := by simp [rawT]
theorem bytes_append (a b : ByteArray) : (a ++ b).data.toList = a.data.toList ++ b.data.toList := by simp
/-- The texts of a slice lie where it says. -/
def TextsAt (w : World) (g : Nat) (xs : List ByteArray) : Prop := ∀ j (h : j < xs.length), w.cell? ⟨g, j, none⟩ = some (.string xs[j]) ∧ g < w.heap.size
theorem texts_own {w : World} {B g c : Nat} {e : TypeId} {xs : List ByteArray} (h : w.ownsRow B e 1 (.slice (some ⟨g, 0, none⟩) xs.length c) xs.length (xs.map Value.string)) : TextsAt w g xs := by
  intro j hj
  have := h.cellAt j (by omega)
  rw [List.getElem?_map, List.getElem?_eq_getElem hj] at this
  exact ⟨this, World.block_lt_of_cell? w _ this⟩

set_option maxRecDepth 100000 in
set_option maxHeartbeats 1000000 in
theorem words_spec (g cap : Nat) (xs : List ByteArray) (w : World) (hx : TextsAt w g xs) (hm : xs.length ≤ 1048576) (h14 : ∀ x ∈ xs, x.size ≤ 14) (y : ByteArray) (hy : (⟨(Lib.join (rawT xs) [32]).toArray⟩ : ByteArray) = y) :
    Calls Tryz.prog 55 #[.slice (some ⟨g, 0, none⟩) xs.length cap, .string ⟨#[32]⟩] w fun e w' => e = .returned (.string y) ∧ w' = w := by
  have HX : Hid (TextsAt w g xs) := hx
  have HY : Hid ((⟨(Lib.join (rawT xs) [32]).toArray⟩ : ByteArray) = y) := hy
  have H14 : Hid (∀ x ∈ xs, x.size ≤ 14) := h14
  clear hx hy h14
  go_enter Tryz.func55, Tryz.ntmps55
  go_wp2
  go_loopw [5, 6] (fun s kk wr => ∃ (k : Nat) (b : ByteArray), k ≤ xs.length ∧ kk = .int .i64 k ∧ s = .string b ∧ Hid (b.data.toList = Lib.join (rawT (xs.take k)) [32]) ∧ w = wr) (fun _ kk _ => xs.length - (intOf kk).toNat)
  case atStart => exact ⟨0, _, Nat.zero_le _, rfl, rfl, rfl, rfl⟩
  case round =>
    obtain ⟨k, b, hk, rfl, rfl, hb, rfl⟩ := hrel
    by_cases hlt : k < xs.length
    · obtain ⟨c0, hg⟩ := HX.out k hlt
      have hi0 : (0 : Int) ≤ (k : Int) := by omega
      have hi1 : (k : Int) < (xs.length : Int) := by omega
      have hsz : b.size ≤ 15 * k := by
        rw [Lib.size_eq, hb.out]
        have := join_len (rawT (xs.take k)) (by
          intro z hz
          unfold rawT at hz
          obtain ⟨u, hu, rfl⟩ := List.mem_map.1 hz
          have := H14.out u (List.mem_of_mem_take hu)
          rw [Lib.size_eq] at this
          exact this)
        have hl : (rawT (xs.take k)).length = k := by unfold rawT; rw [List.length_map, List.length_take]; omega
        rw [hl] at this
        exact this
      have hxk : (xs[k]).size ≤ 14 := H14.out _ (List.getElem_mem hlt)
      have htk : rawT (xs.take (k + 1)) = rawT (xs.take k) ++ [(xs[k]).data.toList] := by rw [List.take_succ_eq_append_getElem hlt, rawT_snoc]
      have HT : Hid (rawT (xs.take (k + 1)) = rawT (xs.take k) ++ [(xs[k]).data.toList]) := htk
      clear htk
      by_cases hk0 : k = 0
      · subst hk0
        have hb0 : b = ⟨#[]⟩ := bytes_ext hb.out
        have hst : Hid ((⟨#[]⟩ ++ xs[0] : ByteArray).data.toList = Lib.join (rawT (xs.take (0 + 1))) [32]) := by
          have : (⟨#[]⟩ ++ xs[0] : ByteArray).data.toList = Lib.join (rawT (xs.take (0 + 1))) [32] := by
            rw [HT.out, bytes_append]
            show xs[0].data.toList = Lib.join [xs[0].data.toList] [32]
            rw [Lib.join_one]
          exact this
        subst hb0
        generalize xs[0] = x at c0 hxk hst
        have hz1 : ¬ (9223372036854775807 < x.size) := by omega
        clear HT hb
        go_wp2
        go_roundw
        case rel => exact ⟨0 + 1, _, by omega, by go_num, rfl, hst.out, by trivial⟩
        case measure => simp [intOf]; omega
      · have hk1 : 0 < k := by omega
        have hst : Hid ((b ++ ⟨#[32]⟩ ++ xs[k] : ByteArray).data.toList = Lib.join (rawT (xs.take (k + 1))) [32]) := by
          have : (b ++ ⟨#[32]⟩ ++ xs[k] : ByteArray).data.toList = Lib.join (rawT (xs.take (k + 1))) [32] := by
            rw [HT.out, join_snoc _ _ _ (List.ne_nil_of_length_pos (by unfold rawT; rw [List.length_map, List.length_take]; omega)), bytes_append, bytes_append, hb.out]
          exact this
        generalize xs[k] = x at c0 hxk hst
        have hz1 : ¬ (9223372036854775807 < b.size + 1) := by omega
        have hz2 : ¬ (9223372036854775807 < b.size + 1 + x.size) := by omega
        have hz3 : (b ++ ⟨#[32]⟩ : ByteArray).size = b.size + 1 := by rw [ByteArray.size_append]; rfl
        clear HT hb hk0
        go_wp2
        go_roundw
        case rel => exact ⟨k + 1, _, by omega, by go_num, rfl, hst.out, by trivial⟩
        case measure => simp [intOf]; omega
    · have hkl : k = xs.length := by omega
      subst hkl
      have hi1 : ¬ (xs.length : Int) < (xs.length : Int) := by omega
      have e : b = y := by
        rw [← HY.out]
        refine bytes_ext ?_
        rw [hb.out, List.take_length]
      subst e
      go_wp2
      go_ret
      exact ⟨rfl, rfl⟩

theorem infoStr : (Tryz.prog.info? 9).map (fun i => (i.zero, i.size, i.bytes)) = some (some (.string ⟨#[]⟩), 1, 16) := by kernel_rfl
theorem all_snoc (l : List CT) (k : Nat) (h : k < l.length) : (l.take (k + 1)).all okC = ((l.take k).all okC && okC l[k]) := by
  rw [List.take_succ_eq_append_getElem h, List.all_append]; simp
/-- The texts of a row's cells. -/
def textsC (l : List CT) : List ByteArray := l.map fun c => ⟨(textC c).toArray⟩
theorem textsC_snoc (l : List CT) (k : Nat) (h : k < l.length) : textsC (l.take (k + 1)) = textsC (l.take k) ++ [⟨(textC l[k]).toArray⟩] := by
  unfold textsC; rw [List.take_succ_eq_append_getElem h, List.map_append]; rfl
theorem rawT_texts (l : List CT) : rawT (textsC l) = l.map textC := by
  unfold rawT textsC; rw [List.map_map]; rfl
theorem rowT_texts {l : List CT} (h : l.all okC = true) : rowT l = ⟨(Lib.join (rawT (textsC l)) [32]).toArray⟩ := by
  unfold rowT; rw [if_pos h, rawT_texts]
theorem texts_14 {l : List CT} (h : l.all okC = true) : ∀ x ∈ textsC l, x.size ≤ 14 := by
  intro x hx
  unfold textsC at hx
  obtain ⟨c, hc, rfl⟩ := List.mem_map.1 hx
  rw [Lib.size_eq, bytes_mk]
  exact l4T_len (List.all_eq_true.1 h c hc)
theorem textsC_length (l : List CT) : (textsC l).length = l.length := by unfold textsC; rw [List.length_map]

set_option maxHeartbeats 1000000 in
theorem cells_spec (a : Option Addr) (cap : Nat) (l : List CT) (w : World) (hrow : RowAt w a l) (hfit : Fit l) (hm : l.length ≤ maxLen) (b : Bool) (hb : l.all okC = b) :
    Calls Tryz.prog 31 #[.slice a l.length cap] w fun e w' => e = .returned (.bool b) ∧ Below w.heap.size w w' := by
  have HR : Hid (RowAt w a l) := hrow
  have HF : Hid (Fit l) := hfit
  have HB : Hid (l.all okC = b) := hb
  clear hrow hfit hb
  unfold maxLen at hm
  go_enter Tryz.func31, Tryz.ntmps31
  go_wp2
  go_loopw [3] (fun kk wr => ∃ k : Nat, k ≤ l.length ∧ kk = .int .i64 k ∧ Hid ((l.take k).all okC = true) ∧ Below w.heap.size w wr) (fun kk _ => l.length - (intOf kk).toNat)
  case atStart => exact ⟨0, Nat.zero_le _, rfl, rfl, Below.refl _ _⟩
  case round =>
    obtain ⟨k, hk, rfl, hall, hbw⟩ := hrel
    by_cases hlt : k < l.length
    · obtain ⟨g, o, rfl, hgw, c0, c1, c2⟩ := HR.out.below hbw k hlt
      have hi0 : (0 : Int) ≤ (k : Int) := by omega
      have hi1 : (k : Int) < (l.length : Int) := by omega
      have hft := HF.out k hlt
      have hsn := all_snoc l k hlt
      rw [hall.out, Bool.true_and] at hsn
      have HS : Hid ((l.take (k + 1)).all okC = okC l[k]) := hsn
      have hno : Hid (okC l[k] = false → b = false) := by
        have : okC l[k] = false → b = false := by
          intro e
          rw [← HB.out, Bool.eq_false_iff]
          intro h
          rw [List.all_eq_true.1 h _ (List.getElem_mem hlt)] at e
          cases e
        exact this
      clear hsn
      obtain ⟨r, hr⟩ : ∃ r, okB l[k].1 l[k].2.1 l[k].2.2 = r := ⟨_, rfl⟩
      have HRR : Hid (okC l[k] = r) := hr
      generalize l[k] = x at c0 c1 c2 hft HS hno hr HRR
      go_wp2_with fail
      refine (ok_specb _ _ _ _ hr _ hft).mono ?_
      rintro e w1 ⟨rfl, hb1⟩
      clear hr c0 c1 c2
      cases r
      · have e := hno.out HRR.out
        subst e
        go_wp2
        go_ret
        exact ⟨rfl, chain hbw hb1⟩
      · go_wp2
        go_roundw
        case rel => exact ⟨k + 1, by omega, by go_num, HS.out.trans HRR.out, chain hbw hb1⟩
        case measure => simp [intOf]; omega
    · have hkl : k = l.length := by omega
      subst hkl
      have hi1 : ¬ (l.length : Int) < (l.length : Int) := by omega
      have e : b = true := by
        have := hall.out
        rw [List.take_length, HB.out] at this
        exact this
      subst e
      go_wp2
      go_ret
      exact ⟨rfl, hbw⟩

set_option maxRecDepth 100000 in
set_option maxHeartbeats 2000000 in
theorem l4row_spec (a : Option Addr) (cap : Nat) (l : List CT) (w : World) (hrow : RowAt w a l) (hall : l.all okC = true) (hm : l.length ≤ 1048576) (y : ByteArray) (hy : rowT l = y) :
    Calls Tryz.prog 32 #[.slice a l.length cap] w fun e w' => e = .returned (.string y) ∧ Below w.heap.size w w' := by
  obtain ⟨i0, hti, hz0, hz1, hz2⟩ := info_parts infoStr
  have HR : Hid (RowAt w a l) := hrow
  have HA : Hid (l.all okC = true) := hall
  have HY : Hid (rowT l = y) := hy
  clear hrow hall hy
  have own0 : Hid ((w.alloc (.cells #[] 9)).ownsRow w.heap.size 9 1 (.slice (some ⟨w.heap.size, 0, none⟩) 0 0) (textsC (l.take 0)).length ((textsC (l.take 0)).map Value.string)) :=
    ⟨rfl, .inr ⟨w.heap.size, 0, #[], rfl, Nat.le_refl _, by show (w.heap.push _)[w.heap.size]? = _; simp, Nat.le_refl _, by unfold maxLen; omega, rfl, rfl⟩⟩
  have hb0 : Below w.heap.size w (w.alloc (.cells #[] 9)) := (Below.refl _ _).alloc (Nat.le_refl _) _
  go_enter Tryz.func32, Tryz.ntmps32
  go_wp2
  go_loopw [3, 4] (fun v kk wr => ∃ k : Nat, k ≤ l.length ∧ kk = .int .i64 k ∧ Hid (wr.ownsRow w.heap.size 9 1 v (textsC (l.take k)).length ((textsC (l.take k)).map Value.string)) ∧ Below w.heap.size w wr ∧ v ≠ .slice none 0 0) (fun _ kk _ => l.length - (intOf kk).toNat)
  case atStart => exact ⟨0, Nat.zero_le _, rfl, own0, hb0, by simp⟩
  case round =>
    obtain ⟨k, hk, rfl, hO, hb, hvn⟩ := hrel
    by_cases hlt : k < l.length
    · obtain ⟨g, o, rfl, hgw, c0, c1, c2⟩ := HR.out.below hb k hlt
      have hi0 : (0 : Int) ≤ (k : Int) := by omega
      have hi1 : (k : Int) < (l.length : Int) := by omega
      have hok : okB l[k].1 l[k].2.1 l[k].2.2 = true := List.all_eq_true.1 HA.out _ (List.getElem_mem hlt)
      have hsn := textsC_snoc l k hlt
      have hlen : (textsC (l.take k)).length = k := by rw [textsC_length, List.length_take]; omega
      obtain ⟨z, hz⟩ : ∃ z : ByteArray, (⟨(l4T l[k].1 l[k].2.1 l[k].2.2.data.toList).toArray⟩ : ByteArray) = z := ⟨_, rfl⟩
      have hsn2 : textsC (l.take (k + 1)) = textsC (l.take k) ++ [z] := by rw [hsn, ← hz]; rfl
      have HS : Hid (textsC (l.take (k + 1)) = textsC (l.take k) ++ [z]) := hsn2
      clear hsn hsn2
      have hOO := hO.out
      rw [hlen] at hOO
      generalize textsC (l.take k) = xs at HS hOO hlen
      generalize l[k] = x at c0 c1 c2 hok hz
      go_wp2_with fail
      refine (l4_spec _ _ _ hok z hz _).mono ?_
      rintro e w1 ⟨rfl, hb1⟩
      clear hz c0 c1 c2
      have O1 := own_below hOO hb1
      have hx := chain hb hb1
      go_wp2_with (at_builtin; refine wpList_append_own _ rfl _ _ 44 rfl w.heap.size 9 i0 (.string ⟨#[]⟩) 1 16 Tryz.underlying44 hti hz0 hz1 hz2 rfl (by decide) _ _ _ rfl (O1.alloc _) ⟨w1.heap.size, 0, none⟩ 1 1 [.string z] rfl rfl ?c1 ?c2 ?c3 ?c4 ?c5 ?_)
      case c1 =>
        intro j u hj
        match j, hj with
        | 0, hj => simp at hj; subst hj; simp [Addr.add]
      case c2 => intro u hu; simp at hu; subst hu; rfl
      case c3 => unfold maxLen; omega
      case c4 => omega
      case c5 => have := hx.size; simp; omega
      intro v' w2 own2 hgrow hnn
      have hx2 : Below w.heap.size w w2 := by
        refine (hx.alloc hx.size _).grown hgrow (by have := hx.size; simp; omega) ?_
        intro kk hkk
        exact (O1.lt kk hkk).1
      have hvn2 : v' ≠ .slice none 0 0 := by first | exact hnn | exact fun e => hvn (hnn.1 e).1
      have SS : Hid (w2.ownsRow w.heap.size 9 1 v' (textsC (l.take (k + 1))).length ((textsC (l.take (k + 1))).map Value.string)) := by
        have : w2.ownsRow w.heap.size 9 1 v' (textsC (l.take (k + 1))).length ((textsC (l.take (k + 1))).map Value.string) := by
          rw [HS.out, List.length_append, hlen, List.map_append]; exact own2
        exact this
      clear own2 hgrow hnn O1 hOO hO
      go_wp2
      go_roundw
      case rel => exact ⟨k + 1, by omega, by go_num, SS, hx2, hvn2⟩
      case measure => simp [intOf]; omega
    · have hkl : k = l.length := by omega
      subst hkl
      have hi1 : ¬ (l.length : Int) < (l.length : Int) := by omega
      have hOO := hO.out
      rw [List.take_length] at hOO
      rcases hOO.2 with ⟨h', _⟩ | ⟨g, c, cur, h', hbg, _⟩
      · exact absurd h' hvn
      subst h'
      have hT := texts_own hOO
      have h14 := texts_14 HA.out
      have hl2 := textsC_length l
      have hy2 : (⟨(Lib.join (rawT (textsC l)) [32]).toArray⟩ : ByteArray) = y := by rw [← HY.out, rowT_texts HA.out]
      have HT : Hid (TextsAt wr g (textsC l)) := hT
      have H14 : Hid (∀ x ∈ textsC l, x.size ≤ 14) := h14
      have HY2 : Hid ((⟨(Lib.join (rawT (textsC l)) [32]).toArray⟩ : ByteArray) = y) := hy2
      have HL : Hid ((textsC l).length ≤ 1048576) := by
        have : (textsC l).length ≤ 1048576 := by omega
        exact this
      clear hT h14 hy2 hOO hO hl2
      go_wp2_with fail
      refine (words_spec g c (textsC l) _ HT.out HL.out H14.out y HY2.out).mono ?_
      rintro e w2 ⟨rfl, rfl⟩
      go_wp2
      go_ret
      exact ⟨rfl, hb⟩

set_option maxHeartbeats 1000000 in
theorem rowtext_spec (a : Option Addr) (cap : Nat) (l : List CT) (w : World) (hrow : RowAt w a l) (hfit : Fit l) (hm : l.length ≤ 1048576) (y : ByteArray) (hy : rowT l = y) :
    Calls Tryz.prog 14 #[.slice a l.length cap] w fun e w' => e = .returned (.string y) ∧ Below w.heap.size w w' := by
  have HR : Hid (RowAt w a l) := hrow
  have HF : Hid (Fit l) := hfit
  have HY : Hid (rowT l = y) := hy
  clear hrow hfit hy
  obtain ⟨b, hall⟩ : ∃ b, l.all okC = b := ⟨_, rfl⟩
  have HA : Hid (l.all okC = b) := hall
  clear hall
  have hmM : l.length ≤ maxLen := by unfold maxLen; omega
  cases b
  · have e : y = ⟨#[]⟩ := by
      rw [← HY.out]
      unfold rowT
      rw [if_neg (by rw [HA.out]; decide)]
    subst e
    go_enter Tryz.func14, Tryz.ntmps14
    go_wp2_with fail
    refine (cells_spec _ _ l _ HR.out HF.out hmM _ HA.out).mono ?_
    rintro e w1 ⟨rfl, hb1⟩
    go_wp2
    go_ret
    exact ⟨rfl, hb1⟩
  · go_enter Tryz.func14, Tryz.ntmps14
    go_wp2_with fail
    refine (cells_spec _ _ l _ HR.out HF.out hmM _ HA.out).mono ?_
    rintro e w1 ⟨rfl, hb1⟩
    go_wp2_with fail
    refine (l4row_spec _ _ l _ (HR.out.below hb1) HA.out hm y HY.out).mono ?_
    rintro e w2 ⟨rfl, hb2⟩
    go_wp2
    go_ret
    exact ⟨rfl, chain hb1 hb2⟩

end Go.Proofs.YtgeipficjfaocaaGreatDoor
