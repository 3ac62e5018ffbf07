/-
  Lists of texts: how a slice of texts lies in memory, and the contracts of the law's helpers that measure one, take one over and hold two against each other.
-/
import Derived.Test.YtbjpjhhdnbclbajLists2
namespace Go.Proofs.Ytbjpjhhdnbclbaj
open Go.ChangeShapes Go.WideShapes Go.ChangeAt Go.RowKit
attribute [local go_sem ↓] Go.wp_at_zero Go.wp_at_succ

/-- The texts of a slice lie where it says. -/
def StrsAt (w : World) (a : Option Addr) (l : List ByteArray) : Prop :=
  ∀ j (h : j < l.length), ∃ b o, a = some ⟨b, o, none⟩ ∧ b < w.heap.size ∧ w.cell? ⟨b, o + j, none⟩ = some (.string l[j])
theorem StrsAt.below {w w' : World} {a : Option Addr} {l : List ByteArray} (h : StrsAt w a l) (hb : Below w.heap.size w w') : StrsAt w' a l := by
  intro j hj
  obtain ⟨b, o, ha, hlt, h0⟩ := h j hj
  exact ⟨b, o, ha, Nat.lt_of_lt_of_le hlt hb.size, by rw [hb.cell (p := ⟨b, _, none⟩) hlt]; exact h0⟩
def FitS (l : List ByteArray) : Prop := ∀ j (h : j < l.length), (l[j]).size ≤ maxLen
def weightS (l : List ByteArray) : Nat := (l.map (·.size)).sum
theorem weightS_take (l : List ByteArray) (k : Nat) (h : k < l.length) : weightS (l.take (k + 1)) = weightS (l.take k) + (l[k]).size := by
  unfold weightS
  rw [List.take_succ_eq_append_getElem h, List.map_append, List.sum_append]; simp
theorem weightS_le (l : List ByteArray) (k : Nat) : weightS (l.take k) ≤ weightS l := by
  unfold weightS
  conv => rhs; rw [← List.take_append_drop k l, List.map_append, List.sum_append]
  omega
def strV (l : List ByteArray) : List Value := l.map Value.string
theorem strV_length (l : List ByteArray) : (strV l).length = l.length := List.length_map _
theorem strV_step (l : List ByteArray) (k : Nat) (h : k < l.length) (z : List Value) (hz : z.length = l.length) :
    (strV (l.take k) ++ z.drop k).set k (.string l[k]) = strV (l.take (k + 1)) ++ z.drop (k + 1) := by
  have hl : (strV (l.take k)).length = k := by rw [strV_length, List.length_take]; omega
  obtain ⟨a, r, hr⟩ : ∃ a r, z.drop k = a :: r := by
    have hd : (z.drop k).length ≥ 1 := by rw [List.length_drop]; omega
    match hm : z.drop k, hd with
    | a :: r, _ => exact ⟨a, r, rfl⟩
  have hr1 : z.drop (k + 1) = r := by rw [← List.drop_drop, hr]; rfl
  rw [List.take_succ_eq_append_getElem h, hr, hr1]
  rw [List.set_append_right _ _ (by omega), hl, Nat.sub_self, List.set_cons_zero, show strV (l.take k ++ [l[k]]) = strV (l.take k) ++ [.string l[k]] from List.map_append, List.append_assoc]
  rfl
theorem own_strs {w : World} {base g cap : Nat} {e : TypeId} {l : List ByteArray} (h : w.ownsRow base e 1 (.slice (some ⟨g, 0, none⟩) l.length cap) l.length (strV l)) : StrsAt w (some ⟨g, 0, none⟩) l := by
  have hlt : g < w.heap.size := (h.lt g rfl).2
  intro j hj
  refine ⟨g, 0, rfl, hlt, ?_⟩
  rw [Nat.zero_add, h.cellAt _ (by omega)]
  unfold strV
  rw [List.getElem?_map, List.getElem?_eq_getElem hj]; rfl

/-- What is left of a measure behind a list; -1 where it does not last. -/
def leftOfS (l : List ByteArray) (left : Int) : Int := if left < (l.length : Int) + (weightS l : Int) then -1 else left - l.length - weightS l

set_option maxHeartbeats 1000000 in
theorem szstr_laws (a : Option Addr) (cap : Nat) (l : List ByteArray) (left : Int) (w : World) (hrow : StrsAt w a l) (hfit : FitS l) (hm : l.length ≤ maxLen) (h0 : 0 ≤ left) (h1 : left ≤ 1048576) :
    Calls Try.prog 19 #[.slice a l.length cap, .int .i64 left] w fun e w' => e = .returned (.int .i64 (leftOfS l left)) ∧ Below w.heap.size w w' := by
  have hR : Hid (StrsAt w a l) := hrow
  have hF : Hid (FitS l) := hfit
  clear hrow hfit
  by_cases hlen : left < (l.length : Int)
  · have hneg : left - (l.length : Int) < 0 := by omega
    rw [show leftOfS l left = -1 from if_pos (by omega)]
    unfold maxLen at hm
    go_enter Try.func19, Try.ntmps19
    go_wp2
    go_ret
    exact ⟨rfl, Below.refl _ _⟩
  have hneg : 0 ≤ left - (l.length : Int) := by omega
  go_enter Try.func19, Try.ntmps19
  go_wp2
  go_loopw [1, 5] (fun s i wr => ∃ k : Nat, k ≤ l.length ∧ i = .int .i64 k ∧ s = .int .i64 (left - l.length - weightS (l.take k)) ∧ 0 ≤ left - l.length - weightS (l.take k) ∧ Below w.heap.size w wr)
    (fun _ i _ => l.length - (intOf i).toNat)
  case atStart => exact ⟨0, Nat.zero_le _, rfl, by simp [weightS], by simp [weightS]; omega, Below.refl _ _⟩
  case round =>
    obtain ⟨k, hk, rfl, rfl, hpos, hb⟩ := hrel
    by_cases hlt : k < l.length
    · obtain ⟨b, o, rfl, hbw, c0⟩ := hR.out.below hb k hlt
      have hi0 : (0 : Int) ≤ (k : Int) := by omega
      have hi1 : (k : Int) < (l.length : Int) := by omega
      have hwt := weightS_take l k hlt
      have hft := hF.out k hlt
      have hwl := weightS_le l (k + 1)
      unfold maxLen at hft
      generalize l[k] = x at c0 hwt hft
      generalize weightS (l.take k) = W at *
      by_cases hs : left - (l.length : Int) - (W : Int) < (x.size : Int)
      · have hp2 : left - (l.length : Int) - (W : Int) - (x.size : Int) < 0 := by omega
        go_wp2
        go_ret
        exact ⟨ret_int (by rw [leftOfS, if_pos (by omega)]), hb⟩
      · have hp2 : 0 ≤ left - (l.length : Int) - (W : Int) - (x.size : Int) := by omega
        go_wp2
        go_roundw
        case rel => exact ⟨k + 1, by omega, by go_num, by rw [hwt]; congr 1; omega, by rw [hwt]; omega, hb⟩
        case measure => simp [intOf]; omega
    · have hkl : k = l.length := by omega
      subst hkl
      rw [List.take_length] at hpos ⊢
      go_wp2
      go_ret
      exact ⟨ret_int (by rw [leftOfS, if_neg (by omega)]), hb⟩

theorem infoStrT : (Try.prog.info? 9).map (fun i => (i.zero, i.size, i.bytes)) = some (some (.string ⟨#[]⟩), 1, 16) := by kernel_rfl

set_option maxHeartbeats 1000000 in
theorem tostr_laws (a : Option Addr) (cap : Nat) (l : List ByteArray) (w : World) (hrow : StrsAt w a l) (hm : l.length ≤ 1048576) :
    Calls Try.prog 21 #[.slice a l.length cap] w fun e w' => e = .returned (.slice (some ⟨w.heap.size, 0, none⟩) l.length l.length) ∧
      w'.ownsRow w.heap.size 9 1 (.slice (some ⟨w.heap.size, 0, none⟩) l.length l.length) l.length (strV l) ∧ Below w.heap.size w w' := by
  obtain ⟨i0, hi, hz0, hz1, hz2⟩ := info_parts infoStrT
  have hR : Hid (StrsAt w a l) := hrow
  clear hrow
  go_enter Try.func21, Try.ntmps21
  go_wp2_with (at_make; refine wpList_make_full _ rfl _ _ 30 rfl w.heap.size 9 i0 (.string ⟨#[]⟩) 1 Try.underlying30 hi hz0 hz1 .i64 .i64 _ _ l.length rfl rfl rfl rfl ?b2 ?b3 (Nat.le_refl _) ?_)
  case b2 => rw [hz2]; omega
  case b3 => unfold maxLen; omega
  intro w1 hown hgrow
  have hb1 : Below w.heap.size w w1 := (Below.refl _ _).grown hgrow (Nat.le_refl _) (by intro k h; cases h)
  generalize (madeCells _ _).toList = z at hown
  have hzl : z.length = l.length := by have := hown.1; omega
  have hO : Hid (w1.ownsRow w.heap.size 9 1 (.slice (some ⟨w.heap.size, 0, none⟩) l.length l.length) l.length z) := hown
  clear hown hgrow
  go_wp2
  go_loopw [4] (fun i wr => ∃ k : Nat, k ≤ l.length ∧ i = .int .i64 k ∧ wr.ownsRow w.heap.size 9 1 (.slice (some ⟨w.heap.size, 0, none⟩) l.length l.length) l.length (strV (l.take k) ++ z.drop k) ∧ Below w.heap.size w wr)
    (fun i _ => l.length - (intOf i).toNat)
  case atStart => exact ⟨0, Nat.zero_le _, rfl, by simpa [strV] using hO.out, hb1⟩
  case round =>
    obtain ⟨k, hk, rfl, hown, hb⟩ := hrel
    by_cases hlt : k < l.length
    · obtain ⟨b, o, rfl, hbw, c0⟩ := hR.out.below hb k hlt
      have hi0 : (0 : Int) ≤ (k : Int) := by omega
      have hi1 : (k : Int) < (l.length : Int) := by omega
      have hst := strV_step l k hlt z hzl
      obtain ⟨u0, g0⟩ : ∃ u, wr.cell? ⟨w.heap.size, k, none⟩ = some u := ⟨_, (hown.cellAt k (by omega)).trans (List.getElem?_eq_getElem (by rw [hown.1]; omega))⟩
      have f0 := hown.frozenAt k
      have hO2 : Hid (wr.ownsRow w.heap.size 9 1 (.slice (some ⟨w.heap.size, 0, none⟩) l.length l.length) l.length (strV (l.take k) ++ z.drop k)) := hown
      clear hown
      generalize l[k] = x at c0 hst
      go_wp2
      go_roundw
      case rel =>
        refine ⟨k + 1, by omega, by go_num, ?_, ?_⟩
        · have r := hO2.out.stored k (.string x)
          rw [hst] at r; exact r.1
        · exact hb.setCell (Nat.le_refl _) _
      case measure => simp [intOf]; omega
    · have hkl : k = l.length := by omega
      subst hkl
      rw [List.take_length, List.drop_of_length_le (by omega), List.append_nil] at hown
      go_wp2
      go_ret
      exact ⟨rfl, hown, hb⟩

set_option maxHeartbeats 1000000 in
theorem eqstr_laws (a b : Option Addr) (ca cb : Nat) (l : List ByteArray) (w : World) (ha : StrsAt w a l) (hb : StrsAt w b l) (hm : l.length ≤ maxLen) :
    Calls Try.prog 23 #[.slice a l.length ca, .slice b l.length cb] w fun e w' => e = .returned (.bool true) ∧ Below w.heap.size w w' := by
  have hA : Hid (StrsAt w a l) := ha
  have hB : Hid (StrsAt w b l) := hb
  clear ha hb
  unfold maxLen at hm
  go_enter Try.func23, Try.ntmps23
  go_wp2
  go_loopw [5] (fun i wr => ∃ k : Nat, k ≤ l.length ∧ i = .int .i64 k ∧ Below w.heap.size w wr) (fun i _ => l.length - (intOf i).toNat)
  case atStart => exact ⟨0, Nat.zero_le _, rfl, Below.refl _ _⟩
  case round =>
    obtain ⟨k, hk, rfl, hx⟩ := hrel
    by_cases hlt : k < l.length
    · obtain ⟨b1, o1, rfl, hbw, c0⟩ := hA.out.below hx k hlt
      obtain ⟨b2, o2, rfl, hbw2, d0⟩ := hB.out.below hx k hlt
      have hi0 : (0 : Int) ≤ (k : Int) := by omega
      have hi1 : (k : Int) < (l.length : Int) := by omega
      generalize l[k] = x at c0 d0
      have hxx : (x.toList == x.toList) = true := by simp
      go_wp2_with fail
      go_quiet (fail)
      go_wp2
      go_roundw
      case rel => exact ⟨k + 1, by omega, by go_num, belowN hx _⟩
      case measure => simp [intOf]; omega
    · go_wp2
      go_ret
      exact ⟨rfl, hx⟩

end Go.Proofs.Ytbjpjhhdnbclbaj
