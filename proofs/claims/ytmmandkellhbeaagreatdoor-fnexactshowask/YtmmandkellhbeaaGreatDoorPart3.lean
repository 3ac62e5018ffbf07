/-
  A part of the proof: KeyS, RowS, Names1, TokMath.
-/
import Derived.Test.YtmmandkellhbeaaGreatDoorPart1
import Derived.Test.YtmmandkellhbeaaGreatDoorPart2
import Derived.Laws.IdiomStrings

/-
  The contracts of the model's texts of cells.
-/
namespace Go.Proofs.YtmmandkellhbeaaGreatDoor
open Go.ChangeShapes Go.WideShapes Go.ChangeAt Go.RowKit
attribute [local go_sem ↓] Go.wp_at_zero Go.wp_at_succ

def strOf : Value → ByteArray
  | .string b => b
  | _ => ⟨#[]⟩
def emptyN : Value → Nat
  | .string b => if b.data.toList = [] then 1 else 0
  | _ => 0
theorem emptyN_no {b : ByteArray} (h : b.data.toList ≠ []) : emptyN (.string b) = 0 := if_neg h
theorem emptyN_nil : emptyN (.string ⟨#[]⟩) = 1 := rfl
/-- The digits of a number; none of 0. -/
def digsN (u : Nat) : List UInt8 := if u = 0 then [] else Lib.decDigits u
theorem decDigits_step (u : Nat) : Lib.decDigits u = digsN (u / 10) ++ [UInt8.ofNat (48 + u % 10)] := by
  by_cases h : u < 10
  · rw [Lib.decDigits_one h, show u / 10 = 0 by omega, show u % 10 = u by omega]; rfl
  · rw [Lib.decDigits, dif_neg h]
    unfold digsN
    rw [if_neg (by omega)]
/-- What the loop keeps: what is left of the number, and the digits behind. -/
def IntInv (n0 m : Int) (l : List UInt8) : Prop :=
  (l = [] ∧ m = n0) ∨ (l ≠ [] ∧ digsN m.natAbs ++ l = Lib.decDigits n0.natAbs ∧ (n0 < 0 → m ≤ 0) ∧ (0 ≤ n0 → 0 ≤ m) ∧ m.natAbs ≤ n0.natAbs)
theorem tdiv_sign (m : Int) : (0 ≤ m → 0 ≤ m.tdiv 10) ∧ (m ≤ 0 → m.tdiv 10 ≤ 0) := ⟨fun h => Int.tdiv_nonneg h (by decide), fun h => by
  have := Int.tdiv_nonneg (a := -m) (b := 10) (by omega) (by decide)
  rw [Int.neg_tdiv] at this; omega⟩
theorem IntInv.step {n0 m : Int} {l : List UInt8} (h : IntInv n0 m l) (hgo : l = [] ∨ m ≠ 0) : IntInv n0 (m.tdiv 10) (UInt8.ofNat (48 + m.natAbs % 10) :: l) := by
  have e : (m.tdiv 10).natAbs = m.natAbs / 10 := by rw [Int.natAbs_tdiv]; rfl
  obtain ⟨s1, s2⟩ := tdiv_sign m
  rcases h with ⟨rfl, rfl⟩ | ⟨hl, he, h1, h2, h3⟩
  · refine .inr ⟨by simp, ?_, ?_, ?_, ?_⟩
    · rw [e, decDigits_step]
    · intro h; exact s2 (by omega)
    · intro h; exact s1 h
    · rw [e]; omega
  · have hm : m ≠ 0 := by rcases hgo with h | h; exact absurd h hl; exact h
    refine .inr ⟨by simp, ?_, ?_, ?_, ?_⟩
    · rw [← he, e]
      unfold digsN
      rw [if_neg (show ¬ m.natAbs = 0 by omega), decDigits_step m.natAbs]
      unfold digsN
      simp
    · intro h; exact s2 (h1 h)
    · intro h; exact s1 (h2 h)
    · rw [e]; omega
theorem IntInv.out {n0 : Int} {l : List UInt8} (h : IntInv n0 0 l) (hl : l ≠ []) : l = Lib.decDigits n0.natAbs := by
  rcases h with ⟨rfl, _⟩ | ⟨_, he, _⟩
  · exact absurd rfl hl
  · simpa [digsN] using he

theorem conv_one (d : Nat) (hd : d < 10) (W : World) : (convert 109 9 (.slice (some ⟨W.heap.size, 0, none⟩) 1 1)).run Tryz.prog (W.alloc (.cells #[.int .u8 (48 + (d : Int))] 5)) = .ok (.string ⟨#[UInt8.ofNat (48 + d)]⟩) (W.alloc (.cells #[.int .u8 (48 + (d : Int))] 5)) := by
  refine run_convert_bytes_back _ 109 9 5 ⟨W.heap.size, 0, none⟩ 1 [UInt8.ofNat (48 + d)] Tryz.underlying109 Tryz.underlying5 Tryz.underlying9 ?_
  intro j hj
  match j, hj with
  | 0, _ =>
    rw [List.getElem_cons_zero, dig_toNat d hd]
    simp [Addr.add]
theorem tmod_digit (m : Int) : (0 ≤ m.tmod 10 ∧ m.tmod 10 = ((m.natAbs % 10 : Nat) : Int)) ∨ (m.tmod 10 < 0 ∧ m.tmod 10 = -((m.natAbs % 10 : Nat) : Int) ∧ 0 < m.natAbs % 10) := by
  have e : (m.tmod 10).natAbs = m.natAbs % 10 := by rw [Int.natAbs_tmod]; rfl
  by_cases h : 0 ≤ m.tmod 10
  · exact .inl ⟨h, by omega⟩
  · exact .inr ⟨by omega, by omega, by omega⟩

set_option maxRecDepth 100000 in
set_option maxHeartbeats 1000000 in
theorem int_spec (n0 : Int) (h0 : -1000000000 ≤ n0) (h1 : n0 ≤ 1000000000) (w : World) :
    Calls Tryz.prog 60 #[.int .i64 n0] w fun e w' => e = .returned (.string ⟨(Lib.itoa n0).toArray⟩) ∧ Below w.heap.size w w' := by
  obtain ⟨y, hy0⟩ : ∃ y : ByteArray, (⟨(Lib.itoa n0).toArray⟩ : ByteArray) = y := ⟨_, rfl⟩
  rw [hy0]
  have hy : Hid ((⟨(Lib.itoa n0).toArray⟩ : ByteArray) = y) := hy0
  clear hy0
  go_enter Tryz.func60, Tryz.ntmps60
  go_wp2
  go_loopw [0, 3] (fun n s wr => ∃ m b, n = .int .i64 m ∧ s = .string b ∧ Hid (IntInv n0 m b.data.toList) ∧ -1000000000 ≤ m ∧ m ≤ 1000000000 ∧ Below w.heap.size w wr)
    (fun n s _ => (intOf n).natAbs + emptyN s)
  case atStart => exact ⟨n0, _, rfl, rfl, .inl ⟨rfl, rfl⟩, h0, h1, Below.refl _ _⟩
  case round =>
    obtain ⟨m, b, rfl, rfl, hI, hm0, hm1, hb⟩ := hrel
    have hstep : Hid ((b.data.toList = [] ∨ m ≠ 0) → IntInv n0 (m.tdiv 10) (UInt8.ofNat (48 + m.natAbs % 10) :: b.data.toList)) := fun h => hI.out.step h
    have hd10 : m.natAbs % 10 < 10 := by omega
    have hdl : (m.tdiv 10).natAbs = m.natAbs / 10 := by rw [Int.natAbs_tdiv]; rfl
    have hcv := conv_one (m.natAbs % 10) hd10
    have hmod := tmod_digit m
    have hlen : b.data.toList.length ≤ 10 := by
      rcases hI.out with ⟨h, _⟩ | ⟨_, he, _⟩
      · rw [h]; simp
      · have h10 := decDigits_len n0.natAbs (by omega)
        rw [← he, List.length_append] at h10
        omega
    rw [← Lib.size_eq] at hlen
    have hz1 : ¬ (9223372036854775807 < 1 + b.size) := by omega
    generalize m.natAbs % 10 = d at hstep hd10 hcv hmod
    generalize UInt8.ofNat (48 + d) = c at hstep hcv
    have hap : (⟨#[c]⟩ ++ b : ByteArray).data.toList = c :: b.data.toList := by simp
    have hw1 : wrap64 (48 + (d : Int)) = 48 + (d : Int) := by unfold wrap64; omega
    have hw2 : (48 + (d : Int)) % 256 = 48 + (d : Int) := by omega
    have hw3 : wrap64 (d : Int) = (d : Int) := by unfold wrap64; omega
    by_cases hs : b.data.toList = []
    · have hb0 : b = ⟨#[]⟩ := bytes_ext hs
      have hst := hstep.out (.inl hs)
      rw [← hap] at hst
      subst hb0
      have hS : Hid (IntInv n0 (m.tdiv 10) (⟨#[c]⟩ ++ ⟨#[]⟩ : ByteArray).data.toList) := hst
      have hA0 : (⟨#[c]⟩ ++ ⟨#[]⟩ : ByteArray).data.toList ≠ [] := by rw [hap]; simp
      have hA : Hid ((⟨#[c]⟩ ++ ⟨#[]⟩ : ByteArray).data.toList ≠ []) := hA0
      clear hst hstep hap hA0
      rcases hmod with ⟨hp, hd⟩ | ⟨hp, hd, hd0⟩
      · have hd' : ¬ m.tmod 10 < 0 := by omega
        go_wp2
        go_roundw
        case rel => exact ⟨m.tdiv 10, _, rfl, rfl, hS.out, by omega, by omega, hb.alloc hb.size _⟩
        case measure =>
          rw [emptyN_no hA.out, emptyN_nil]
          simp only [intOf]
          rw [hdl]
          omega
      · have hd' : -(d : Int) < 0 := by omega
        go_wp2
        go_roundw
        case rel => exact ⟨m.tdiv 10, _, rfl, rfl, hS.out, by omega, by omega, hb.alloc hb.size _⟩
        case measure =>
          rw [emptyN_no hA.out, emptyN_nil]
          simp only [intOf]
          rw [hdl]
          omega
    · have hne : b.toList.isEmpty = false := by rw [Lib.toList_data]; simpa using hs
      by_cases hm : m = 0
      · subst hm
        have hout := hI.out.out hs
        clear hstep hmod hcv
        by_cases hn : n0 < 0
        · have e45 : (⟨#[45]⟩ : ByteArray) ++ b = y := by
            rw [← hy.out]
            refine bytes_ext ?_
            rw [itoa_neg n0 hn, bytes_mk]
            simp [hout]
          have hS : Hid ((⟨#[45]⟩ : ByteArray) ++ b = y) := e45
          clear hout hs hy hap e45
          go_wp2
          go_ret
          exact ⟨by rw [← hS.out]; rfl, hb⟩
        · have e0 : b = y := by
            rw [← hy.out]
            refine bytes_ext ?_
            rw [itoa_nonneg n0 (by omega), bytes_mk, hout]
            congr 1; omega
          subst e0
          clear hout hs hy hap
          go_wp2
          go_ret
          exact ⟨rfl, hb⟩
      · have hst := hstep.out (.inr hm)
        rw [← hap] at hst
        have hS : Hid (IntInv n0 (m.tdiv 10) (⟨#[c]⟩ ++ b : ByteArray).data.toList) := hst
        have hA0 : (⟨#[c]⟩ ++ b : ByteArray).data.toList ≠ [] := by rw [hap]; simp
        have hA : Hid ((⟨#[c]⟩ ++ b : ByteArray).data.toList ≠ []) := hA0
        have hs' : Hid (b.data.toList ≠ []) := hs
        clear hst hstep hap hs hA0
        rcases hmod with ⟨hp, hd⟩ | ⟨hp, hd, hd0⟩
        · have hd' : ¬ m.tmod 10 < 0 := by omega
          go_wp2
          go_roundw
          case rel => exact ⟨m.tdiv 10, _, rfl, rfl, hS.out, by omega, by omega, hb.alloc hb.size _⟩
          case measure =>
            rw [emptyN_no hA.out, emptyN_no hs'.out]
            simp only [intOf]
            rw [hdl]
            omega
        · have hd' : -(d : Int) < 0 := by omega
          go_wp2
          go_roundw
          case rel => exact ⟨m.tdiv 10, _, rfl, rfl, hS.out, by omega, by omega, hb.alloc hb.size _⟩
          case measure =>
            rw [emptyN_no hA.out, emptyN_no hs'.out]
            simp only [intOf]
            rw [hdl]
            omega

theorem int_specb (n : Int) (y : ByteArray) (hy : (⟨(Lib.itoa n).toArray⟩ : ByteArray) = y) (h0 : -1000000000 ≤ n) (h1 : n ≤ 1000000000) (w : World) :
    Calls Tryz.prog 60 #[.int .i64 n] w fun e w' => e = .returned (.string y) ∧ Below w.heap.size w w' := by
  subst hy; exact int_spec n h0 h1 w

set_option maxRecDepth 100000 in
theorem l4_spec (k n : Int) (t : ByteArray) (ho : okB k n t = true) (y : ByteArray) (hy : (⟨(l4T k n t.data.toList).toArray⟩ : ByteArray) = y) (w : World) :
    Calls Tryz.prog 90 #[.agg #[.int .i64 k, .int .i64 n, .string t]] w fun e w' => e = .returned (.string y) ∧ Below w.heap.size w w' := by
  rcases okB_kind ho with rfl | rfl | rfl | rfl
  · have hy' : y = ⟨wNone.toArray⟩ := by rw [← hy]; rfl
    subst hy'
    clear hy
    go_enter Tryz.func90, Tryz.ntmps90
    go_wp2
    go_ret
    exact ⟨rfl, by go_grown⟩
  · have hb := numB_iff.1 (okB_1 ho).1
    go_enter Tryz.func90, Tryz.ntmps90
    go_wp2_with fail
    refine (int_specb n y hy (by omega) (by omega) _).mono ?_
    rintro e w1 ⟨rfl, hb1⟩
    go_wp2
    go_ret
    exact ⟨rfl, chainA hb1⟩
  · have h12 : t.size ≤ 12 := by
      have := (okB_2 ho).2
      unfold textB at this
      rw [Bool.and_eq_true, decide_eq_true_eq] at this
      omega
    have e1 : Hid ((⟨#[39]⟩ ++ t ++ ⟨#[39]⟩ : ByteArray) = y) := by
      have : (⟨#[39]⟩ ++ t ++ ⟨#[39]⟩ : ByteArray) = y := by
        rw [← hy]
        refine bytes_ext ?_
        rw [bytes_mk, l4T_2]
        simp
      exact this
    clear hy
    have hz1 : ¬ (9223372036854775807 < 1 + t.size) := by omega
    have hz2 : ¬ (9223372036854775807 < 1 + t.size + 1) := by omega
    have hz3 : (⟨#[39]⟩ ++ t : ByteArray).size = 1 + t.size := by rw [ByteArray.size_append]; rfl
    go_enter Tryz.func90, Tryz.ntmps90
    go_wp2
    go_ret
    exact ⟨by rw [← e1.out]; rfl, by go_grown⟩
  · rcases (okB_3 ho).1 with rfl | rfl
    · have hy' : y = ⟨wNo.toArray⟩ := by rw [← hy]; rfl
      subst hy'
      clear hy
      go_enter Tryz.func90, Tryz.ntmps90
      go_wp2
      go_ret
      exact ⟨rfl, by go_grown⟩
    · have hy' : y = ⟨wYes.toArray⟩ := by rw [← hy]; rfl
      subst hy'
      clear hy
      go_enter Tryz.func90, Tryz.ntmps90
      go_wp2
      go_ret
      exact ⟨rfl, by go_grown⟩

end Go.Proofs.YtmmandkellhbeaaGreatDoor

/-
  The contracts of the model's text of a row.
-/
namespace Go.Proofs.YtmmandkellhbeaaGreatDoor
open Go.ChangeShapes Go.WideShapes Go.ChangeAt Go.RowKit
attribute [local go_sem ↓] Go.wp_at_zero Go.wp_at_succ

theorem joinTail_snoc (sep : List UInt8) (r : List (List UInt8)) (x : List UInt8) : Lib.joinTail sep (r ++ [x]) = Lib.joinTail sep r ++ sep ++ x := by simp [Lib.joinTail]
theorem join_snoc (xs : List (List UInt8)) (x sep : List UInt8) (h : xs ≠ []) : Lib.join (xs ++ [x]) sep = Lib.join xs sep ++ sep ++ x := by
  cases xs with
  | nil => exact absurd rfl h
  | cons y r => rw [List.cons_append, Lib.join_cons, Lib.join_cons, joinTail_snoc]; simp
theorem join_len (xs : List (List UInt8)) (h : ∀ x ∈ xs, x.length ≤ 14) : (Lib.join xs [32]).length ≤ 15 * xs.length := by
  have key : ∀ r : List (List UInt8), (∀ x ∈ r, x.length ≤ 14) → (Lib.joinTail [32] r).length ≤ 15 * r.length := by
    intro r
    induction r with
    | nil => intro _; simp [Lib.joinTail]
    | cons y r ih =>
      intro hr
      have h1 := hr y (by simp)
      have h2 := ih (fun x hx => hr x (by simp [hx]))
      have e : Lib.joinTail [32] (y :: r) = 32 :: (y ++ Lib.joinTail [32] r) := by simp [Lib.joinTail]
      rw [e, List.length_cons, List.length_append, List.length_cons]
      omega
  cases xs with
  | nil => simp [Lib.join_nil]
  | cons y r =>
    have h1 := h y (by simp)
    have h2 := key r (fun x hx => h x (by simp [hx]))
    rw [Lib.join_cons, List.length_append, List.length_cons]
    omega
/-- The bytes of texts. -/
def rawT (xs : List ByteArray) : List (List UInt8) := xs.map (·.data.toList)
theorem rawT_snoc (xs : List ByteArray) (x : ByteArray) : rawT (xs ++ [x]) = rawT xs ++ [x.data.toList] := by simp [rawT]
theorem bytes_append (a b : ByteArray) : (a ++ b).data.toList = a.data.toList ++ b.data.toList := by simp
/-- The texts of a slice lie where it says. -/
def TextsAt (w : World) (g : Nat) (xs : List ByteArray) : Prop := ∀ j (h : j < xs.length), w.cell? ⟨g, j, none⟩ = some (.string xs[j]) ∧ g < w.heap.size
theorem texts_own {w : World} {B g c : Nat} {e : TypeId} {xs : List ByteArray} (h : w.ownsRow B e 1 (.slice (some ⟨g, 0, none⟩) xs.length c) xs.length (xs.map Value.string)) : TextsAt w g xs := by
  intro j hj
  have := h.cellAt j (by omega)
  rw [List.getElem?_map, List.getElem?_eq_getElem hj] at this
  exact ⟨this, World.block_lt_of_cell? w _ this⟩

set_option maxRecDepth 100000 in
set_option maxHeartbeats 1000000 in
theorem words_spec (g cap : Nat) (xs : List ByteArray) (w : World) (hx : TextsAt w g xs) (hm : xs.length ≤ 1048576) (h14 : ∀ x ∈ xs, x.size ≤ 14) (y : ByteArray) (hy : (⟨(Lib.join (rawT xs) [32]).toArray⟩ : ByteArray) = y) :
    Calls Tryz.prog 35 #[.slice (some ⟨g, 0, none⟩) xs.length cap, .string ⟨#[32]⟩] w fun e w' => e = .returned (.string y) ∧ w' = w := by
  have HX : Hid (TextsAt w g xs) := hx
  have HY : Hid ((⟨(Lib.join (rawT xs) [32]).toArray⟩ : ByteArray) = y) := hy
  have H14 : Hid (∀ x ∈ xs, x.size ≤ 14) := h14
  clear hx hy h14
  go_enter Tryz.func35, Tryz.ntmps35
  go_wp2
  go_loopw [5, 6] (fun s kk wr => ∃ (k : Nat) (b : ByteArray), k ≤ xs.length ∧ kk = .int .i64 k ∧ s = .string b ∧ Hid (b.data.toList = Lib.join (rawT (xs.take k)) [32]) ∧ w = wr) (fun _ kk _ => xs.length - (intOf kk).toNat)
  case atStart => exact ⟨0, _, Nat.zero_le _, rfl, rfl, rfl, rfl⟩
  case round =>
    obtain ⟨k, b, hk, rfl, rfl, hb, rfl⟩ := hrel
    by_cases hlt : k < xs.length
    · obtain ⟨c0, hg⟩ := HX.out k hlt
      have hi0 : (0 : Int) ≤ (k : Int) := by omega
      have hi1 : (k : Int) < (xs.length : Int) := by omega
      have hsz : b.size ≤ 15 * k := by
        rw [Lib.size_eq, hb.out]
        have := join_len (rawT (xs.take k)) (by
          intro z hz
          unfold rawT at hz
          obtain ⟨u, hu, rfl⟩ := List.mem_map.1 hz
          have := H14.out u (List.mem_of_mem_take hu)
          rw [Lib.size_eq] at this
          exact this)
        have hl : (rawT (xs.take k)).length = k := by unfold rawT; rw [List.length_map, List.length_take]; omega
        rw [hl] at this
        exact this
      have hxk : (xs[k]).size ≤ 14 := H14.out _ (List.getElem_mem hlt)
      have htk : rawT (xs.take (k + 1)) = rawT (xs.take k) ++ [(xs[k]).data.toList] := by rw [List.take_succ_eq_append_getElem hlt, rawT_snoc]
      have HT : Hid (rawT (xs.take (k + 1)) = rawT (xs.take k) ++ [(xs[k]).data.toList]) := htk
      clear htk
      by_cases hk0 : k = 0
      · subst hk0
        have hb0 : b = ⟨#[]⟩ := bytes_ext hb.out
        have hst : Hid ((⟨#[]⟩ ++ xs[0] : ByteArray).data.toList = Lib.join (rawT (xs.take (0 + 1))) [32]) := by
          have : (⟨#[]⟩ ++ xs[0] : ByteArray).data.toList = Lib.join (rawT (xs.take (0 + 1))) [32] := by
            rw [HT.out, bytes_append]
            show xs[0].data.toList = Lib.join [xs[0].data.toList] [32]
            rw [Lib.join_one]
          exact this
        subst hb0
        generalize xs[0] = x at c0 hxk hst
        have hz1 : ¬ (9223372036854775807 < x.size) := by omega
        clear HT hb
        go_wp2
        go_roundw
        case rel => exact ⟨0 + 1, _, by omega, by go_num, rfl, hst.out, by trivial⟩
        case measure => simp [intOf]; omega
      · have hk1 : 0 < k := by omega
        have hst : Hid ((b ++ ⟨#[32]⟩ ++ xs[k] : ByteArray).data.toList = Lib.join (rawT (xs.take (k + 1))) [32]) := by
          have : (b ++ ⟨#[32]⟩ ++ xs[k] : ByteArray).data.toList = Lib.join (rawT (xs.take (k + 1))) [32] := by
            rw [HT.out, join_snoc _ _ _ (List.ne_nil_of_length_pos (by unfold rawT; rw [List.length_map, List.length_take]; omega)), bytes_append, bytes_append, hb.out]
          exact this
        generalize xs[k] = x at c0 hxk hst
        have hz1 : ¬ (9223372036854775807 < b.size + 1) := by omega
        have hz2 : ¬ (9223372036854775807 < b.size + 1 + x.size) := by omega
        have hz3 : (b ++ ⟨#[32]⟩ : ByteArray).size = b.size + 1 := by rw [ByteArray.size_append]; rfl
        clear HT hb hk0
        go_wp2
        go_roundw
        case rel => exact ⟨k + 1, _, by omega, by go_num, rfl, hst.out, by trivial⟩
        case measure => simp [intOf]; omega
    · have hkl : k = xs.length := by omega
      subst hkl
      have hi1 : ¬ (xs.length : Int) < (xs.length : Int) := by omega
      have e : b = y := by
        rw [← HY.out]
        refine bytes_ext ?_
        rw [hb.out, List.take_length]
      subst e
      go_wp2
      go_ret
      exact ⟨rfl, rfl⟩

theorem infoStr : (Tryz.prog.info? 9).map (fun i => (i.zero, i.size, i.bytes)) = some (some (.string ⟨#[]⟩), 1, 16) := by kernel_rfl
theorem all_snoc (l : List CT) (k : Nat) (h : k < l.length) : (l.take (k + 1)).all okC = ((l.take k).all okC && okC l[k]) := by
  rw [List.take_succ_eq_append_getElem h, List.all_append]; simp
/-- The texts of a row's cells. -/
def textsC (l : List CT) : List ByteArray := l.map fun c => ⟨(textC c).toArray⟩
theorem textsC_snoc (l : List CT) (k : Nat) (h : k < l.length) : textsC (l.take (k + 1)) = textsC (l.take k) ++ [⟨(textC l[k]).toArray⟩] := by
  unfold textsC; rw [List.take_succ_eq_append_getElem h, List.map_append]; rfl
theorem rawT_texts (l : List CT) : rawT (textsC l) = l.map textC := by
  unfold rawT textsC; rw [List.map_map]; rfl
theorem rowT_texts {l : List CT} (h : l.all okC = true) : rowT l = ⟨(Lib.join (rawT (textsC l)) [32]).toArray⟩ := by
  unfold rowT; rw [if_pos h, rawT_texts]
theorem texts_14 {l : List CT} (h : l.all okC = true) : ∀ x ∈ textsC l, x.size ≤ 14 := by
  intro x hx
  unfold textsC at hx
  obtain ⟨c, hc, rfl⟩ := List.mem_map.1 hx
  rw [Lib.size_eq, bytes_mk]
  exact l4T_len (List.all_eq_true.1 h c hc)
theorem textsC_length (l : List CT) : (textsC l).length = l.length := by unfold textsC; rw [List.length_map]

end Go.Proofs.YtmmandkellhbeaaGreatDoor

/-
  Names: what a right list of names is, without any program; the contracts of the model's functions on them, and of the one that looks a text up.
-/
namespace Go.Proofs.YtmmandkellhbeaaGreatDoor
open Go.ChangeShapes Go.WideShapes Go.ChangeAt Go.RowKit
attribute [local go_sem ↓] Go.wp_at_zero Go.wp_at_succ
attribute [local simp] World.cell?_alloc_past World.cell?_alloc_at World.frozen?_alloc_at cell_far cell_off cell_here World.frozen?_alloc_past

theorem txt_same {y s : ByteArray} (h : y = s) : (y.toList == s.toList) = true := by rw [h]; simp
theorem txt_other {y s : ByteArray} (h : y ≠ s) : (y.toList == s.toList) = false := by
  rw [beq_eq_false_iff_ne]
  intro e
  rw [Lib.toList_data, Lib.toList_data] at e
  exact h (ByteArray.ext (Array.toList_inj.1 e))

/-- Is the text among them? -/
def inB (l : List ByteArray) (s : ByteArray) : Bool := l.any fun x => decide (x = s)
theorem inB_iff {l : List ByteArray} {s : ByteArray} : inB l s = true ↔ s ∈ l := by
  unfold inB
  rw [List.any_eq_true]
  constructor
  · rintro ⟨x, hx, e⟩
    rw [decide_eq_true_eq] at e
    rw [← e]; exact hx
  · intro h; exact ⟨s, h, by simp⟩
theorem inB_no {l : List ByteArray} {s : ByteArray} : inB l s = false ↔ s ∉ l := by
  rw [Bool.eq_false_iff]
  exact not_congr inB_iff
/-- Is it a name? -/
def nameB (s : ByteArray) : Bool := decide (s ≠ ⟨#[]⟩) && (lets s.data.toList && decide ((s.size : Int) ≤ 6))
/-- Names, no two alike. -/
def namesD (l : List ByteArray) : Bool := l.all nameB && decide l.Nodup
def namesB (l : List ByteArray) (least most : Int) : Bool := namesD l && (decide (least ≤ (l.length : Int)) && decide ((l.length : Int) ≤ most))
theorem namesD_snoc (l : List ByteArray) (k : Nat) (h : k < l.length) : namesD (l.take (k + 1)) = (namesD (l.take k) && (nameB l[k] && !inB (l.take k) l[k])) := by
  unfold namesD
  rw [List.take_succ_eq_append_getElem h, List.all_append]
  rw [Bool.eq_iff_iff]
  simp only [Bool.and_eq_true, decide_eq_true_eq, List.nodup_append, List.all_cons, List.all_nil, Bool.and_true, Bool.not_eq_true', inB_no, List.mem_singleton]
  constructor
  · rintro ⟨⟨h1, h2⟩, h3, _, h4⟩
    exact ⟨⟨h1, h3⟩, h2, fun hm => h4 _ hm _ rfl rfl⟩
  · rintro ⟨⟨h1, h3⟩, h2, h4⟩
    exact ⟨⟨h1, h2⟩, h3, by simp, fun a ha b hb e => h4 (by rw [← hb, ← e]; exact ha)⟩
theorem namesD_no (l : List ByteArray) (k : Nat) (h : namesD (l.take k) = false) : namesD l = false := by
  rw [Bool.eq_false_iff] at h ⊢
  intro e
  apply h
  unfold namesD at e ⊢
  simp only [Bool.and_eq_true, decide_eq_true_eq, List.all_eq_true] at e ⊢
  exact ⟨fun x hx => e.1 x (List.mem_of_mem_take hx), e.2.sublist (List.take_sublist _ _)⟩

/-- Where a text stands first; -1: nowhere. -/
def AtIs (l : List ByteArray) (s : ByteArray) (r : Int) : Prop := (r = -1 ∧ s ∉ l) ∨ ∃ (k : Nat) (h : k < l.length), r = (k : Int) ∧ l[k] = s ∧ ∀ j (hj : j < l.length), j < k → l[j] ≠ s
theorem AtIs.one {l : List ByteArray} {s : ByteArray} {r r' : Int} (h : AtIs l s r) (h' : AtIs l s r') : r = r' := by
  rcases h with ⟨rfl, hn⟩ | ⟨k, hk, rfl, he, hf⟩ <;> rcases h' with ⟨rfl, hn'⟩ | ⟨k', hk', rfl, he', hf'⟩
  · rfl
  · exact absurd (he' ▸ List.getElem_mem hk') hn
  · exact absurd (he ▸ List.getElem_mem hk) hn'
  · rcases Nat.lt_trichotomy k k' with h | h | h
    · exact absurd he (hf' k hk h)
    · rw [h]
    · exact absurd he' (hf k' hk' h)
theorem AtIs.neg {l : List ByteArray} {s : ByteArray} {r : Int} (h : AtIs l s r) : (0 ≤ r ↔ s ∈ l) := by
  rcases h with ⟨rfl, hn⟩ | ⟨k, hk, rfl, he, _⟩
  · constructor
    · intro h; omega
    · intro h; exact absurd h hn
  · exact ⟨fun _ => he ▸ List.getElem_mem hk, fun _ => by omega⟩
theorem AtIs.lt {l : List ByteArray} {s : ByteArray} {r : Int} (h : AtIs l s r) : -1 ≤ r ∧ r < (l.length : Int) := by
  rcases h with ⟨rfl, _⟩ | ⟨k, hk, rfl, _, _⟩ <;> omega

theorem name_spec (s : ByteArray) (w : World) (hs : s.size ≤ maxLen) (b : Bool) (hb : nameB s = b) :
    Calls Tryz.prog 80 #[.string s] w fun e w' => e = .returned (.bool b) ∧ w' = w := by
  by_cases h0 : s = ⟨#[]⟩
  · have e : b = false := by rw [← hb, h0]; rfl
    subst e h0
    clear hb
    go_enter Tryz.func80, Tryz.ntmps80
    go_wp2
    go_ret
    exact ⟨rfl, rfl⟩
  · have h1 : (s.toList == []) = false := by
      have := txt_other h0
      rw [show (⟨#[]⟩ : ByteArray).toList = [] from by rw [Lib.toList_data]] at this
      exact this
    have h2 : ¬ s.toList = [] := by intro e; rw [e] at h1; cases h1
    have e : (lets s.data.toList && decide ((s.size : Int) ≤ 6)) = b := by rw [← hb]; unfold nameB; rw [decide_eq_true h0, Bool.true_and]
    have HB : Hid ((lets s.data.toList && decide ((s.size : Int) ≤ 6)) = b) := e
    clear hb h0 e
    go_enter Tryz.func80, Tryz.ntmps80
    go_wp2_with fail
    refine (letters_spec s 6 _ hs).mono ?_
    rintro e w' ⟨rfl, rfl⟩
    rw [HB.out]
    go_wp2
    go_ret
    exact ⟨rfl, rfl⟩

set_option maxHeartbeats 1000000 in
theorem at_spec (a : Option Addr) (cap : Nat) (l : List ByteArray) (s : ByteArray) (w : World) (hrow : StrsAt w a l) (hm : l.length ≤ maxLen) :
    Calls Tryz.prog 67 #[.slice a l.length cap, .string s] w fun e w' => ∃ r, e = .returned (.int .i64 r) ∧ AtIs l s r ∧ Below w.heap.size w w' := by
  have HR : Hid (StrsAt w a l) := hrow
  clear hrow
  unfold maxLen at hm
  go_enter Tryz.func67, Tryz.ntmps67
  go_wp2
  go_loopw [5] (fun kk wr => ∃ k : Nat, k ≤ l.length ∧ kk = .int .i64 k ∧ Hid (∀ j (hj : j < l.length), j < k → l[j] ≠ s) ∧ Below w.heap.size w wr) (fun kk _ => l.length - (intOf kk).toNat)
  case atStart => exact ⟨0, Nat.zero_le _, rfl, fun j _ h => by omega, Below.refl _ _⟩
  case round =>
    obtain ⟨k, hk, rfl, hall, hbw⟩ := hrel
    by_cases hlt : k < l.length
    · obtain ⟨g, o, rfl, hgw, c0⟩ := HR.out.below hbw k hlt
      have hi0 : (0 : Int) ≤ (k : Int) := by omega
      have hi1 : (k : Int) < (l.length : Int) := by omega
      have HX : Hid (l[k] = l[k]) := rfl
      by_cases e : l[k] = s
      · have fin : Hid (AtIs l s (k : Int)) := Or.inr ⟨k, hlt, rfl, e, hall.out⟩
        have hq := txt_same e
        clear HX e
        generalize l[k] = x at c0 hq
        go_wp2
        go_ret
        exact ⟨_, rfl, fin.out, hbw⟩
      · have hall2 : Hid (∀ j (hj : j < l.length), j < k + 1 → l[j] ≠ s) := by
          have : ∀ j (hj : j < l.length), j < k + 1 → l[j] ≠ s := by
            intro j hj hjk
            by_cases ej : j = k
            · subst ej; exact e
            · exact hall.out j hj (by omega)
          exact this
        have hq := txt_other e
        clear HX e
        generalize l[k] = x at c0 hq
        go_wp2
        go_roundw
        case rel => exact ⟨k + 1, by omega, by go_num, hall2, hbw⟩
        case measure => simp [intOf]; omega
    · have fin : Hid (AtIs l s (-1)) := Or.inl ⟨rfl, fun hmem => by
        obtain ⟨j, hj, e⟩ := List.getElem_of_mem hmem
        exact hall.out j hj (by omega) e⟩
      go_wp2
      go_ret
      exact ⟨_, rfl, fin.out, hbw⟩

end Go.Proofs.YtmmandkellhbeaaGreatDoor

/-
  Tokens without any program: what a right one is, the text of a list of them, what a text is read as, and that tokens are read from their text.
-/
namespace Go.Proofs.YtmmandkellhbeaaGreatDoor

def letB (c : UInt8) : Bool := decide (97 ≤ c.toNat) && decide (c.toNat ≤ 122)
/-- A token: kind, text, cell. -/
abbrev TT := Int × ByteArray × CK
def zeroC : CK := (0, 0, ⟨#[]⟩)
/-- The words that are signs: and, or, not, lacks. -/
def signW : List ByteArray := [⟨#[97, 110, 100]⟩, ⟨#[111, 114]⟩, ⟨#[110, 111, 116]⟩, ⟨#[108, 97, 99, 107, 115]⟩]
/-- The signs of one byte: + - * / = < ( ). -/
def signO : List ByteArray := [⟨#[43]⟩, ⟨#[45]⟩, ⟨#[42]⟩, ⟨#[47]⟩, ⟨#[61]⟩, ⟨#[60]⟩, ⟨#[40]⟩, ⟨#[41]⟩]
def signB (s : ByteArray) : Bool := inB signW s || inB signO s
/-- A name that is no other word. -/
def nameK (s : ByteArray) : Bool := nameB s && (!inB signW s && (decide (s.data.toList ≠ wNone) && (decide (s.data.toList ≠ wYes) && decide (s.data.toList ≠ wNo))))
/-- Is the token right? -/
def tokB (t : TT) : Bool :=
  if t.1 = 1 then nameK t.2.1 && decide (t.2.2 = zeroC) else if t.1 = 2 then okC t.2.2 && decide (t.2.1 = ⟨#[]⟩) else if t.1 = 3 then signB t.2.1 && decide (t.2.2 = zeroC) else false
/-- What it stands for. -/
def tokT (t : TT) : List UInt8 := if t.1 = 2 then textC t.2.2 else t.2.1.data.toList
theorem tokB_1 (s : ByteArray) (c : CK) : tokB (1, s, c) = (nameK s && decide (c = zeroC)) := if_pos rfl
theorem tokB_2 (s : ByteArray) (c : CK) : tokB (2, s, c) = (okC c && decide (s = ⟨#[]⟩)) := (if_neg (fun h => absurd h (by decide : ¬ (2 : Int) = 1))).trans (if_pos rfl)
theorem tokB_3 (s : ByteArray) (c : CK) : tokB (3, s, c) = (signB s && decide (c = zeroC)) := (if_neg (fun h => absurd h (by decide : ¬ (3 : Int) = 1))).trans ((if_neg (fun h => absurd h (by decide : ¬ (3 : Int) = 2))).trans (if_pos rfl))
theorem tokT_1 (s : ByteArray) (c : CK) : tokT (1, s, c) = s.data.toList := if_neg (fun h => absurd h (by decide : ¬ (1 : Int) = 2))
theorem tokT_2 (s : ByteArray) (c : CK) : tokT (2, s, c) = textC c := if_pos rfl
theorem tokT_3 (s : ByteArray) (c : CK) : tokT (3, s, c) = s.data.toList := if_neg (fun h => absurd h (by decide : ¬ (3 : Int) = 2))
theorem tokB_kind {t : TT} (h : tokB t = true) : (∃ s, t = (1, s, zeroC) ∧ nameK s = true) ∨ (∃ c, t = (2, ⟨#[]⟩, c) ∧ okC c = true) ∨ (∃ s, t = (3, s, zeroC) ∧ signB s = true) := by
  obtain ⟨k, s, c⟩ := t
  by_cases h1 : k = 1
  · subst h1
    rw [tokB_1, Bool.and_eq_true, decide_eq_true_eq] at h
    obtain ⟨h, rfl⟩ := h
    exact .inl ⟨s, rfl, h⟩
  by_cases h2 : k = 2
  · subst h2
    rw [tokB_2, Bool.and_eq_true, decide_eq_true_eq] at h
    obtain ⟨h, rfl⟩ := h
    exact .inr (.inl ⟨c, rfl, h⟩)
  by_cases h3 : k = 3
  · subst h3
    rw [tokB_3, Bool.and_eq_true, decide_eq_true_eq] at h
    obtain ⟨h, rfl⟩ := h
    exact .inr (.inr ⟨s, rfl, h⟩)
  · unfold tokB at h
    dsimp only at h
    rw [if_neg h1, if_neg h2, if_neg h3] at h
    cases h
/-- The text of tokens; empty where one is not right. -/
def toksT (l : List TT) : ByteArray := if l.all tokB = true then ⟨(Lib.join (l.map tokT) [32]).toArray⟩ else ⟨#[]⟩

/-- How many letters stand ahead. -/
def runL (l : List UInt8) : Nat := (l.takeWhile letB).length
/-- The longest cell that begins there, of at most e bytes. -/
def longC (l : List UInt8) : Nat → Option (CK × Nat)
  | 0 => none
  | e + 1 => match readB ⟨(l.take (e + 1)).toArray⟩ with
    | some c => some (c, e + 1)
    | none => longC l e
/-- What a run of letters is. -/
def wordT (w : ByteArray) : Option TT :=
  match readB w with
  | some c => some (2, ⟨#[]⟩, c)
  | none => if signB w = true then some (3, w, zeroC) else if nameK w = true then some (1, w, zeroC) else none
/-- The token that begins there, and how long it is. -/
def nextT (l : List UInt8) : Option (TT × Nat) :=
  if 0 < runL l then (wordT ⟨(l.take (runL l)).toArray⟩).map (fun t => (t, runL l))
  else match longC l (min 14 l.length) with
    | some (c, e) => some ((2, ⟨#[]⟩, c), e)
    | none => if signB ⟨(l.take 1).toArray⟩ = true then some ((3, ⟨(l.take 1).toArray⟩, zeroC), 1) else none
/-- All tokens of a text, in at most that many steps. -/
def toksF : Nat → List UInt8 → Option (List TT)
  | _, [] => some []
  | 0, _ :: _ => none
  | n + 1, c :: l => if c = 32 then toksF n l else match nextT (c :: l) with
    | none => none
    | some (t, e) => (toksF n ((c :: l).drop e)).map (t :: ·)
def toksB (s : ByteArray) : Option (List TT) := if s.size ≤ 2000 then toksF s.size s.data.toList else none

theorem letB_lets (l : List UInt8) : lets l = l.all letB := rfl
theorem runL_le (l : List UInt8) : runL l ≤ l.length := by
  unfold runL
  exact (List.takeWhile_sublist _).length_le
theorem longC_some {l : List UInt8} {e : Nat} {c : CK} {k : Nat} (h : longC l e = some (c, k)) : 0 < k ∧ k ≤ e ∧ readB ⟨(l.take k).toArray⟩ = some c ∧ ∀ j, k < j → j ≤ e → readB ⟨(l.take j).toArray⟩ = none := by
  induction e with
  | zero => simp [longC] at h
  | succ e ih =>
    unfold longC at h
    cases hr : readB ⟨(l.take (e + 1)).toArray⟩ with
    | some d =>
      rw [hr] at h
      simp only [Option.some.injEq, Prod.mk.injEq] at h
      obtain ⟨rfl, rfl⟩ := h
      exact ⟨by omega, Nat.le_refl _, hr, fun j h1 h2 => by omega⟩
    | none =>
      rw [hr] at h
      obtain ⟨h1, h2, h3, h4⟩ := ih h
      refine ⟨h1, by omega, h3, fun j hj1 hj2 => ?_⟩
      by_cases ej : j = e + 1
      · subst ej; exact hr
      · exact h4 j hj1 (by omega)
theorem longC_none {l : List UInt8} {e : Nat} (h : longC l e = none) : ∀ j, 0 < j → j ≤ e → readB ⟨(l.take j).toArray⟩ = none := by
  induction e with
  | zero => intro j h1 h2; omega
  | succ e ih =>
    unfold longC at h
    cases hr : readB ⟨(l.take (e + 1)).toArray⟩ with
    | some d => rw [hr] at h; cases h
    | none =>
      rw [hr] at h
      intro j h1 h2
      by_cases ej : j = e + 1
      · subst ej; exact hr
      · exact ih h j h1 (by omega)
theorem longC_at {l : List UInt8} {e k : Nat} {c : CK} (h0 : 0 < k) (hk : k ≤ e) (hr : readB ⟨(l.take k).toArray⟩ = some c) (hn : ∀ j, k < j → j ≤ e → readB ⟨(l.take j).toArray⟩ = none) : longC l e = some (c, k) := by
  induction e with
  | zero => omega
  | succ e ih =>
    unfold longC
    by_cases ek : k = e + 1
    · subst ek; rw [hr]
    · rw [hn (e + 1) (by omega) (Nat.le_refl _)]
      exact ih (by omega) (fun j h1 h2 => hn j h1 (by omega))
theorem longC_no {l : List UInt8} {e : Nat} (hn : ∀ j, 0 < j → j ≤ e → readB ⟨(l.take j).toArray⟩ = none) : longC l e = none := by
  induction e with
  | zero => rfl
  | succ e ih =>
    unfold longC
    rw [hn (e + 1) (by omega) (Nat.le_refl _)]
    exact ih (fun j h1 h2 => hn j h1 (by omega))
/-- The bytes of a right cell's text. -/
def cellByte (c : UInt8) : Bool := isDig c || (decide (c = 45) || (decide (c = 39) || letB c))
theorem l4T_bytes {k n : Int} {t : ByteArray} (h : okB k n t = true) : (l4T k n t.data.toList).all cellByte = true := by
  rcases okB_kind h with rfl | rfl | rfl | rfl
  · rw [l4T_0]; decide
  · rw [l4T_1]
    have key : ∀ u, (Lib.decDigits u).all cellByte = true := by
      intro u
      obtain ⟨_, p, _⟩ := decDigits_plain u
      refine List.all_eq_true.2 (fun c hc => ?_)
      unfold cellByte
      rw [p.2.1 c hc, Bool.true_or]
    by_cases hn : n < 0
    · rw [itoa_neg n hn, List.all_cons, key]; decide
    · rw [itoa_nonneg n (by omega)]; exact key _
  · obtain ⟨_, ht⟩ := okB_2 h
    rw [l4T_2, List.all_cons, List.all_append]
    unfold textB at ht
    rw [Bool.and_eq_true] at ht
    have : t.data.toList.all cellByte = true := by
      refine List.all_eq_true.2 (fun c hc => ?_)
      have := List.all_eq_true.1 ht.1 c hc
      unfold cellByte
      rw [show letB c = true from this]
      simp
    rw [this]; decide
  · obtain ⟨hn, _⟩ := okB_3 h
    rcases hn with rfl | rfl
    · rw [l4T_30]; decide
    · rw [l4T_31]; decide
/-- Nothing that has another byte is read as a cell. -/
theorem readB_other {l : List UInt8} {b : UInt8} (hb : cellByte b = false) (h : b ∈ l) : readB ⟨l.toArray⟩ = none := by
  cases hr : readB ⟨l.toArray⟩ with
  | none => rfl
  | some c =>
    obtain ⟨k, n, t⟩ := c
    obtain ⟨ho, e⟩ := readB_some hr
    have e' := cellT_ok ho
    rw [e] at e'
    have h2 := l4T_bytes ho
    rw [← e'] at h2
    have := List.all_eq_true.1 h2 b h
    rw [hb] at this
    cases this
theorem readB_blank {l : List UInt8} (h : (32 : UInt8) ∈ l) : readB ⟨l.toArray⟩ = none := readB_other (by decide) h
theorem readB_cell {c : CK} (h : okC c = true) : readB ⟨(textC c).toArray⟩ = some c := by
  obtain ⟨k, n, t⟩ := c
  have := readB_text (k := k) (n := n) (t := t) h
  unfold cellT at this
  rw [if_pos (show okB k n t = true from h)] at this
  exact this
/-- The head of what is read as a cell. -/
theorem readB_head {l : List UInt8} {c : CK} (h : readB ⟨l.toArray⟩ = some c) : l = wNone ∨ l = wYes ∨ l = wNo ∨ ∃ b r, l = b :: r ∧ (isDig b = true ∨ b = 45 ∨ b = 39) := by
  obtain ⟨k, n, t⟩ := c
  obtain ⟨ho, e⟩ := readB_some h
  have e' := cellT_ok ho
  rw [e] at e'
  change l = _ at e'
  rcases okB_kind ho with rfl | rfl | rfl | rfl
  · exact .inl e'
  · obtain ⟨b, r, hb, hx⟩ := itoa_head n
    refine .inr (.inr (.inr ⟨b, r, by rw [e', l4T_1, hb], ?_⟩))
    rcases hx with hx | hx
    · exact .inl hx
    · exact .inr (.inl hx)
  · exact .inr (.inr (.inr ⟨39, _, by rw [e', l4T_2], .inr (.inr rfl)⟩))
  · obtain ⟨hn, _⟩ := okB_3 ho
    rcases hn with rfl | rfl
    · exact .inr (.inr (.inl (by rw [e', l4T_30])))
    · exact .inr (.inl (by rw [e', l4T_31]))
theorem wordT_ok {w : ByteArray} {t : TT} (h : wordT w = some t) : tokB t = true ∧ tokT t = w.data.toList := by
  unfold wordT at h
  cases hr : readB w with
  | some c =>
    rw [hr] at h
    simp only [Option.some.injEq] at h
    subst h
    obtain ⟨k, n, x⟩ := c
    obtain ⟨ho, e⟩ := readB_some hr
    refine ⟨?_, ?_⟩
    · rw [tokB_2]
      simp only [okC, ho, Bool.true_and, decide_true]
    · have := cellT_ok ho
      rw [e] at this
      rw [tokT_2]
      exact this.symm
  | none =>
    rw [hr] at h
    simp only [] at h
    split at h
    · rename_i hs
      simp only [Option.some.injEq] at h
      subst h
      refine ⟨?_, tokT_3 _ _⟩
      rw [tokB_3]
      simp only [hs, Bool.true_and, decide_true]
    · split at h
      · rename_i hs
        simp only [Option.some.injEq] at h
        subst h
        refine ⟨?_, tokT_1 _ _⟩
        rw [tokB_1]
        simp only [hs, Bool.true_and, decide_true]
      · cases h
/-- What begins there is right, and it is what stands there. -/
theorem nextT_ok {l : List UInt8} {t : TT} {e : Nat} (hl : l ≠ []) (h : nextT l = some (t, e)) : tokB t = true ∧ 0 < e ∧ e ≤ l.length ∧ tokT t = l.take e := by
  unfold nextT at h
  split at h
  · rename_i hr
    cases hw : wordT ⟨(l.take (runL l)).toArray⟩ with
    | none => rw [hw] at h; cases h
    | some u =>
      rw [hw] at h
      simp only [Option.map_some, Option.some.injEq, Prod.mk.injEq] at h
      obtain ⟨rfl, rfl⟩ := h
      obtain ⟨h1, h2⟩ := wordT_ok hw
      exact ⟨h1, hr, runL_le l, h2⟩
  · cases hc : longC l (min 14 l.length) with
    | some p =>
      obtain ⟨c, k⟩ := p
      rw [hc] at h
      simp only [Option.some.injEq, Prod.mk.injEq] at h
      obtain ⟨rfl, rfl⟩ := h
      obtain ⟨h1, h2, h3, _⟩ := longC_some hc
      obtain ⟨a, n, x⟩ := c
      obtain ⟨ho, e1⟩ := readB_some h3
      refine ⟨?_, h1, by omega, ?_⟩
      · rw [tokB_2]
        simp only [okC, ho, Bool.true_and, decide_true]
      · have := cellT_ok ho
        rw [e1] at this
        rw [tokT_2]
        exact this.symm
    | none =>
      rw [hc] at h
      simp only [] at h
      split at h
      · rename_i hs
        simp only [Option.some.injEq, Prod.mk.injEq] at h
        obtain ⟨rfl, rfl⟩ := h
        refine ⟨?_, by omega, ?_, tokT_3 _ _⟩
        · rw [tokB_3]
          simp only [hs, Bool.true_and, decide_true]
        · cases l with
          | nil => exact absurd rfl hl
          | cons c l => simp
      · cases h
/-- What is read is right. -/
theorem toksF_ok : ∀ {n : Nat} {l : List UInt8} {ts : List TT}, toksF n l = some ts → ts.all tokB = true
  | _, [], ts, h => by
    simp only [toksF, Option.some.injEq] at h
    subst h; rfl
  | 0, c :: l, ts, h => by simp [toksF] at h
  | n + 1, c :: l, ts, h => by
    unfold toksF at h
    split at h
    · exact toksF_ok h
    · cases hn : nextT (c :: l) with
      | none => rw [hn] at h; cases h
      | some p =>
        obtain ⟨t, e⟩ := p
        rw [hn] at h
        simp only [] at h
        cases hr : toksF n ((c :: l).drop e) with
        | none => rw [hr] at h; cases h
        | some us =>
          rw [hr] at h
          simp only [Option.map_some, Option.some.injEq] at h
          subst h
          rw [List.all_cons, (nextT_ok (by simp) hn).1, toksF_ok hr]; rfl
/-- More steps say the same. -/
theorem toksF_more : ∀ {n m : Nat} {l : List UInt8}, l.length ≤ n → l.length ≤ m → toksF n l = toksF m l
  | _, _, [], _, _ => by simp [toksF]
  | 0, _, c :: l, h, _ => by simp at h
  | _, 0, c :: l, _, h => by simp at h
  | n + 1, m + 1, c :: l, h1, h2 => by
    simp only [List.length_cons] at h1 h2
    unfold toksF
    split
    · exact toksF_more (by omega) (by omega)
    · cases hn : nextT (c :: l) with
      | none => rfl
      | some p =>
        obtain ⟨t, e⟩ := p
        obtain ⟨_, he, _, _⟩ := nextT_ok (by simp) hn
        simp only []
        rw [toksF_more (n := n) (m := m) (by simp; omega) (by simp; omega)]

/-- Ahead of nothing, of a blank or of a parenthesis that ends. -/
def Ends (r : List UInt8) : Prop := r = [] ∨ ∃ b x, r = b :: x ∧ (b = 32 ∨ b = 41)
theorem Ends.blank (x : List UInt8) : Ends (32 :: x) := .inr ⟨32, x, rfl, .inl rfl⟩
theorem Ends.paren (x : List UInt8) : Ends (41 :: x) := .inr ⟨41, x, rfl, .inr rfl⟩
theorem runL_word {w r : List UInt8} (hw : w.all letB = true) (hr : Ends r) : runL (w ++ r) = w.length := by
  unfold runL
  have h0 : r.takeWhile letB = [] := by
    rcases hr with rfl | ⟨b, x, rfl, rfl | rfl⟩
    · rfl
    · rw [List.takeWhile_cons_of_neg (by decide)]
    · rw [List.takeWhile_cons_of_neg (by decide)]
  rw [List.takeWhile_append_of_pos (fun a ha => List.all_eq_true.1 hw a ha), h0, List.append_nil]
theorem runL_no {c : UInt8} {r : List UInt8} (hc : letB c = false) : runL (c :: r) = 0 := by
  unfold runL
  rw [List.takeWhile_cons_of_neg (by rw [hc]; decide)]; rfl
theorem letB_dig {c : UInt8} (h : isDig c = true) : letB c = false := by
  unfold isDig at h
  unfold letB
  simp only [Bool.and_eq_true, decide_eq_true_eq] at h
  rw [decide_eq_false (by omega)]; rfl
theorem take_blank {w r : List UInt8} (hr : Ends r) {j : Nat} (h1 : w.length < j) (h2 : j ≤ (w ++ r).length) : ∃ b, cellByte b = false ∧ b ∈ (w ++ r).take j := by
  rcases hr with rfl | ⟨b, x, rfl, hb⟩
  · rw [List.append_nil] at h2; omega
  · refine ⟨b, by rcases hb with rfl | rfl <;> decide, ?_⟩
    rw [List.take_append]
    refine List.mem_append.2 (.inr ?_)
    obtain ⟨m, hm⟩ : ∃ m, j - w.length = m + 1 := ⟨j - w.length - 1, by omega⟩
    rw [hm, List.take_succ_cons]; simp
theorem take_word (w r : List UInt8) : (w ++ r).take w.length = w := by simp
/-- A cell that is no word is read from its text, ahead of a blank. -/
theorem next_cell {c : CK} {r : List UInt8} (hc : okC c = true) (hr : Ends r) (hh : ∃ b x, textC c = b :: x ∧ letB b = false) : nextT (textC c ++ r) = some ((2, ⟨#[]⟩, c), (textC c).length) := by
  obtain ⟨b, x, hb, hl⟩ := hh
  have hlen : (textC c).length ≤ 14 := by obtain ⟨k, n, t⟩ := c; exact l4T_len hc
  have hpos : 0 < (textC c).length := by rw [hb]; simp
  have h0 : runL (textC c ++ r) = 0 := by rw [hb, List.cons_append]; exact runL_no hl
  unfold nextT
  rw [if_neg (by omega)]
  have : longC (textC c ++ r) (min 14 (textC c ++ r).length) = some (c, (textC c).length) := by
    refine longC_at hpos (by rw [List.length_append]; omega) (by rw [take_word]; exact readB_cell hc) (fun j h1 h2 => by obtain ⟨b, h3, h4⟩ := take_blank hr h1 (by omega); exact readB_other h3 h4)
  rw [this]
theorem next_word {w : List UInt8} {t : TT} {r : List UInt8} (hw : w.all letB = true) (h0 : w ≠ []) (hr : Ends r) (ht : wordT ⟨w.toArray⟩ = some t) : nextT (w ++ r) = some (t, w.length) := by
  have hl := runL_word hw hr
  have hpos : 0 < w.length := List.length_pos_iff.2 h0
  unfold nextT
  rw [hl, if_pos hpos, take_word, ht]; rfl
theorem next_sign {b : UInt8} {r : List UInt8} (hb : inB signO ⟨#[b]⟩ = true) (hr : Ends r) : nextT (b :: r) = some ((3, ⟨#[b]⟩, zeroC), 1) := by
  have hm := inB_iff.1 hb
  have hx : b = 43 ∨ b = 45 ∨ b = 42 ∨ b = 47 ∨ b = 61 ∨ b = 60 ∨ b = 40 ∨ b = 41 := by
    simp only [signO, List.mem_cons, List.not_mem_nil, or_false, ByteArray.mk.injEq, Array.mk.injEq, List.cons.injEq, and_true] at hm
    exact hm
  have hl : letB b = false := by rcases hx with rfl | rfl | rfl | rfl | rfl | rfl | rfl | rfl <;> decide
  have h1 : readB ⟨#[b]⟩ = none := by rcases hx with rfl | rfl | rfl | rfl | rfl | rfl | rfl | rfl <;> decide +kernel
  unfold nextT
  rw [runL_no hl, if_neg (by omega)]
  have : longC (b :: r) (min 14 (b :: r).length) = none := by
    refine longC_no (fun j h2 h3 => ?_)
    by_cases ej : j = 1
    · subst ej; exact h1
    · obtain ⟨c, h4, h5⟩ := take_blank (w := [b]) (r := r) hr (j := j) (by simp; omega) (by simp at h3 ⊢; omega)
      exact readB_other h4 h5
  rw [this]
  simp only []
  rw [if_pos (show signB ⟨((b :: r).take 1).toArray⟩ = true from by unfold signB; rw [show ((b :: r).take 1).toArray = #[b] from rfl, hb, Bool.or_true])]
  rfl
/-- A parenthesis that begins is read whatever follows. -/
theorem next_paren (r : List UInt8) : nextT (40 :: r) = some ((3, ⟨#[40]⟩, zeroC), 1) := by
  unfold nextT
  rw [runL_no (by decide), if_neg (by omega)]
  have : longC (40 :: r) (min 14 (40 :: r).length) = none := by
    refine longC_no (fun j h2 h3 => ?_)
    refine readB_other (b := 40) (by decide) ?_
    obtain ⟨m, rfl⟩ : ∃ m, j = m + 1 := ⟨j - 1, by omega⟩
    rw [List.take_succ_cons]; simp
  rw [this]
  rfl
/-- A right token is read from its text, ahead of a blank. -/
theorem next_tok {t : TT} {r : List UInt8} (ht : tokB t = true) (hr : Ends r) : nextT (tokT t ++ r) = some (t, (tokT t).length) := by
  rcases tokB_kind ht with ⟨s, rfl, hn⟩ | ⟨c, rfl, hc⟩ | ⟨s, rfl, hs⟩
  · have hn0 := hn
    unfold nameK nameB at hn
    simp only [Bool.and_eq_true, Bool.not_eq_true', decide_eq_true_eq] at hn
    obtain ⟨⟨h1, h2, h3⟩, h4, h5, h6, h7⟩ := hn
    rw [tokT_1]
    have hne : s.data.toList ≠ [] := fun e0 => h1 (bytes_ext (by rw [e0]))
    refine next_word h2 hne hr ?_
    have hrd : readB ⟨s.data.toList.toArray⟩ = none := by
      cases hq : readB ⟨s.data.toList.toArray⟩ with
      | none => rfl
      | some d =>
        exfalso
        rcases readB_head hq with q | q | q | ⟨b, x, q, hb⟩
        · exact h5 q
        · exact h6 q
        · exact h7 q
        · have hl : letB b = true := List.all_eq_true.1 h2 b (by rw [q]; simp)
          rcases hb with hb | rfl | rfl
          · rw [letB_dig hb] at hl; cases hl
          · exact absurd hl (by decide)
          · exact absurd hl (by decide)
    have hs1 : signB s = false := by
      unfold signB
      rw [h4, Bool.false_or]
      cases hq : inB signO s with
      | false => rfl
      | true =>
        exfalso
        have hm := inB_iff.1 hq
        have hall := List.all_eq_true.1 h2
        simp only [signO, List.mem_cons, List.not_mem_nil, or_false] at hm
        rcases hm with rfl | rfl | rfl | rfl | rfl | rfl | rfl | rfl <;> exact absurd (hall _ (List.mem_cons_self ..)) (by decide)
    have es : (⟨s.data.toList.toArray⟩ : ByteArray) = s := rfl
    unfold wordT
    rw [hrd]
    simp only []
    rw [es, hs1, if_neg (by decide), if_pos hn0]
  · rw [tokT_2]
    rcases readB_head (readB_cell hc) with q | q | q | ⟨b, x, q, hb⟩
    · refine next_word (by rw [q]; decide) (by rw [q]; decide) hr ?_
      unfold wordT; rw [readB_cell hc]
    · refine next_word (by rw [q]; decide) (by rw [q]; decide) hr ?_
      unfold wordT; rw [readB_cell hc]
    · refine next_word (by rw [q]; decide) (by rw [q]; decide) hr ?_
      unfold wordT; rw [readB_cell hc]
    · refine next_cell hc hr ⟨b, x, q, ?_⟩
      rcases hb with hb | rfl | rfl
      · exact letB_dig hb
      · decide
      · decide
  · rw [tokT_3]
    unfold signB at hs
    rw [Bool.or_eq_true] at hs
    rcases hs with hs | hs
    · have hm := inB_iff.1 hs
      simp only [signW, List.mem_cons, List.not_mem_nil, or_false] at hm
      rcases hm with rfl | rfl | rfl | rfl
      all_goals exact next_word (by decide) (by decide) hr (by decide +kernel)
    · have hm := inB_iff.1 hs
      simp only [signO, List.mem_cons, List.not_mem_nil, or_false] at hm
      rcases hm with rfl | rfl | rfl | rfl | rfl | rfl | rfl | rfl
      all_goals exact next_sign hs hr
/-- The text of a right token is not empty, and has no blank. -/
theorem tokT_some {t : TT} (ht : tokB t = true) : tokT t ≠ [] ∧ (32 : UInt8) ∉ tokT t := by
  rcases tokB_kind ht with ⟨s, rfl, hn⟩ | ⟨c, rfl, hc⟩ | ⟨s, rfl, hs⟩
  · unfold nameK nameB at hn
    simp only [Bool.and_eq_true, Bool.not_eq_true', decide_eq_true_eq] at hn
    obtain ⟨⟨h1, h2, h3⟩, _⟩ := hn
    rw [tokT_1]
    refine ⟨fun e0 => h1 (bytes_ext (by rw [e0])), fun hm => ?_⟩
    exact absurd (List.all_eq_true.1 h2 32 hm) (by decide)
  · rw [tokT_2]
    obtain ⟨k, n, x⟩ := c
    exact l4T_some hc
  · rw [tokT_3]
    unfold signB at hs
    rw [Bool.or_eq_true] at hs
    rcases hs with hs | hs
    · have hm := inB_iff.1 hs
      simp only [signW, List.mem_cons, List.not_mem_nil, or_false] at hm
      rcases hm with rfl | rfl | rfl | rfl <;> decide
    · have hm := inB_iff.1 hs
      simp only [signO, List.mem_cons, List.not_mem_nil, or_false] at hm
      rcases hm with rfl | rfl | rfl | rfl | rfl | rfl | rfl | rfl <;> decide
theorem tokT_head {t : TT} (ht : tokB t = true) : ∃ b x, tokT t = b :: x ∧ b ≠ 32 := by
  obtain ⟨h1, h2⟩ := tokT_some ht
  cases hq : tokT t with
  | nil => exact absurd hq h1
  | cons b x => exact ⟨b, x, rfl, fun e => h2 (by rw [hq, e]; simp)⟩
/-- Tokens are read from their text. -/
theorem toksF_text : ∀ (ts : List TT) (n : Nat), ts.all tokB = true → (Lib.join (ts.map tokT) [32]).length ≤ n → toksF n (Lib.join (ts.map tokT) [32]) = some ts
  | [], n, _, _ => by rw [show Lib.join (List.map tokT []) [32] = [] from rfl]; simp [toksF]
  | [t], n, h, hn => by
    have ht : tokB t = true := by rw [List.all_cons, Bool.and_eq_true] at h; exact h.1
    obtain ⟨b, x, hb, h32⟩ := tokT_head ht
    have hj : Lib.join (List.map tokT [t]) [32] = tokT t := by simp [Lib.join]
    have hx := next_tok ht (r := []) (.inl rfl)
    rw [List.append_nil] at hx
    rw [hj] at hn ⊢
    rw [hb] at hn hx ⊢
    obtain ⟨m, rfl⟩ : ∃ m, n = m + 1 := ⟨n - 1, by simp at hn; omega⟩
    unfold toksF
    rw [if_neg h32, hx]
    simp [toksF]
  | t :: u :: ts, n, h, hn => by
    have ht : tokB t = true := by rw [List.all_cons, Bool.and_eq_true] at h; exact h.1
    have hrest : (u :: ts).all tokB = true := by rw [List.all_cons, Bool.and_eq_true] at h; exact h.2
    obtain ⟨b, x, hb, h32⟩ := tokT_head ht
    have hj : Lib.join (List.map tokT (t :: u :: ts)) [32] = tokT t ++ (32 :: Lib.join (List.map tokT (u :: ts)) [32]) := by simp [Lib.join]
    rw [hj] at hn ⊢
    have hx := next_tok ht (r := 32 :: Lib.join (List.map tokT (u :: ts)) [32]) (Ends.blank _)
    have ih := fun m hm => toksF_text (u :: ts) m hrest hm
    generalize Lib.join (List.map tokT (u :: ts)) [32] = R at hn hx ih ⊢
    rw [hb] at hn hx ⊢
    obtain ⟨m, rfl⟩ : ∃ m, n = m + 1 + 1 := ⟨n - 2, by simp at hn; omega⟩
    rw [List.cons_append] at hx ⊢
    unfold toksF
    rw [if_neg h32, hx]
    simp only []
    rw [show ((b :: (x ++ 32 :: R)).drop (b :: x).length) = 32 :: R by simp]
    unfold toksF
    rw [if_pos rfl, ih m (by simp at hn; omega)]
    rfl
theorem toksB_text (ts : List TT) (h : ts.all tokB = true) (hs : (toksT ts).size ≤ 2000) : toksB (toksT ts) = some ts := by
  unfold toksB
  rw [if_pos hs]
  unfold toksT at hs ⊢
  rw [if_pos h] at hs ⊢
  exact toksF_text ts _ h (by rw [Lib.size_eq]; exact Nat.le_refl _)
theorem toksB_ok {s : ByteArray} {ts : List TT} (h : toksB s = some ts) : ts.all tokB = true := by
  unfold toksB at h
  split at h
  · exact toksF_ok h
  · cases h
end Go.Proofs.YtmmandkellhbeaaGreatDoor
