/-
  A part of the proof: Strs1, KeyMath, ReadMath, SplitMath, RowMath, KeyS, RowS, Names1.
-/
import Derived.Test.YtpggjgilklpncaaGreatPart2
import Derived.Lib.ItoaNum
import Derived.Lib.ParseIntB
import Derived.Test.YtpggjgilklpncaaGreatPart1
import Derived.Lib.Strings
import Derived.Lib.SplitLaws
import Derived.Lib.Join
import Derived.Laws.IdiomStrings

/-
  Lists of texts: how a slice of texts lies in memory, and the contracts of the law's helpers that measure one, take one over and hold two against each other.
-/
namespace Go.Proofs.YtpggjgilklpncaaGreat
open Go.ChangeShapes Go.WideShapes Go.ChangeAt Go.RowKit
attribute [local go_sem ↓] Go.wp_at_zero Go.wp_at_succ

/-- The texts of a slice lie where it says. -/
def StrsAt (w : World) (a : Option Addr) (l : List ByteArray) : Prop :=
  ∀ j (h : j < l.length), ∃ b o, a = some ⟨b, o, none⟩ ∧ b < w.heap.size ∧ w.cell? ⟨b, o + j, none⟩ = some (.string l[j])
theorem StrsAt.below {w w' : World} {a : Option Addr} {l : List ByteArray} (h : StrsAt w a l) (hb : Below w.heap.size w w') : StrsAt w' a l := by
  intro j hj
  obtain ⟨b, o, ha, hlt, h0⟩ := h j hj
  exact ⟨b, o, ha, Nat.lt_of_lt_of_le hlt hb.size, by rw [hb.cell (p := ⟨b, _, none⟩) hlt]; exact h0⟩
def FitS (l : List ByteArray) : Prop := ∀ j (h : j < l.length), (l[j]).size ≤ maxLen
def weightS (l : List ByteArray) : Nat := (l.map (·.size)).sum
theorem weightS_take (l : List ByteArray) (k : Nat) (h : k < l.length) : weightS (l.take (k + 1)) = weightS (l.take k) + (l[k]).size := by
  unfold weightS
  rw [List.take_succ_eq_append_getElem h, List.map_append, List.sum_append]; simp
theorem weightS_le (l : List ByteArray) (k : Nat) : weightS (l.take k) ≤ weightS l := by
  unfold weightS
  conv => rhs; rw [← List.take_append_drop k l, List.map_append, List.sum_append]
  omega
def strV (l : List ByteArray) : List Value := l.map Value.string
theorem strV_length (l : List ByteArray) : (strV l).length = l.length := List.length_map _
theorem strV_step (l : List ByteArray) (k : Nat) (h : k < l.length) (z : List Value) (hz : z.length = l.length) :
    (strV (l.take k) ++ z.drop k).set k (.string l[k]) = strV (l.take (k + 1)) ++ z.drop (k + 1) := by
  have hl : (strV (l.take k)).length = k := by rw [strV_length, List.length_take]; omega
  obtain ⟨a, r, hr⟩ : ∃ a r, z.drop k = a :: r := by
    have hd : (z.drop k).length ≥ 1 := by rw [List.length_drop]; omega
    match hm : z.drop k, hd with
    | a :: r, _ => exact ⟨a, r, rfl⟩
  have hr1 : z.drop (k + 1) = r := by rw [← List.drop_drop, hr]; rfl
  rw [List.take_succ_eq_append_getElem h, hr, hr1]
  rw [List.set_append_right _ _ (by omega), hl, Nat.sub_self, List.set_cons_zero, show strV (l.take k ++ [l[k]]) = strV (l.take k) ++ [.string l[k]] from List.map_append, List.append_assoc]
  rfl
theorem own_strs {w : World} {base g cap : Nat} {e : TypeId} {l : List ByteArray} (h : w.ownsRow base e 1 (.slice (some ⟨g, 0, none⟩) l.length cap) l.length (strV l)) : StrsAt w (some ⟨g, 0, none⟩) l := by
  have hlt : g < w.heap.size := (h.lt g rfl).2
  intro j hj
  refine ⟨g, 0, rfl, hlt, ?_⟩
  rw [Nat.zero_add, h.cellAt _ (by omega)]
  unfold strV
  rw [List.getElem?_map, List.getElem?_eq_getElem hj]; rfl

/-- What is left of a measure behind a list; -1 where it does not last. -/
def leftOfS (l : List ByteArray) (left : Int) : Int := if left < (l.length : Int) + (weightS l : Int) then -1 else left - l.length - weightS l

set_option maxHeartbeats 1000000 in
theorem szstr_laws (a : Option Addr) (cap : Nat) (l : List ByteArray) (left : Int) (w : World) (hrow : StrsAt w a l) (hfit : FitS l) (hm : l.length ≤ maxLen) (h0 : 0 ≤ left) (h1 : left ≤ 1048576) :
    Calls Tryz.prog 24 #[.slice a l.length cap, .int .i64 left] w fun e w' => e = .returned (.int .i64 (leftOfS l left)) ∧ Below w.heap.size w w' := by
  have hR : Hid (StrsAt w a l) := hrow
  have hF : Hid (FitS l) := hfit
  clear hrow hfit
  by_cases hlen : left < (l.length : Int)
  · have hneg : left - (l.length : Int) < 0 := by omega
    rw [show leftOfS l left = -1 from if_pos (by omega)]
    unfold maxLen at hm
    go_enter Tryz.func24, Tryz.ntmps24
    go_wp2
    go_ret
    exact ⟨rfl, Below.refl _ _⟩
  have hneg : 0 ≤ left - (l.length : Int) := by omega
  go_enter Tryz.func24, Tryz.ntmps24
  go_wp2
  go_loopw [1, 5] (fun s i wr => ∃ k : Nat, k ≤ l.length ∧ i = .int .i64 k ∧ s = .int .i64 (left - l.length - weightS (l.take k)) ∧ 0 ≤ left - l.length - weightS (l.take k) ∧ Below w.heap.size w wr)
    (fun _ i _ => l.length - (intOf i).toNat)
  case atStart => exact ⟨0, Nat.zero_le _, rfl, by simp [weightS], by simp [weightS]; omega, Below.refl _ _⟩
  case round =>
    obtain ⟨k, hk, rfl, rfl, hpos, hb⟩ := hrel
    by_cases hlt : k < l.length
    · obtain ⟨b, o, rfl, hbw, c0⟩ := hR.out.below hb k hlt
      have hi0 : (0 : Int) ≤ (k : Int) := by omega
      have hi1 : (k : Int) < (l.length : Int) := by omega
      have hwt := weightS_take l k hlt
      have hft := hF.out k hlt
      have hwl := weightS_le l (k + 1)
      unfold maxLen at hft
      generalize l[k] = x at c0 hwt hft
      generalize weightS (l.take k) = W at *
      by_cases hs : left - (l.length : Int) - (W : Int) < (x.size : Int)
      · have hp2 : left - (l.length : Int) - (W : Int) - (x.size : Int) < 0 := by omega
        go_wp2
        go_ret
        exact ⟨ret_int (by rw [leftOfS, if_pos (by omega)]), hb⟩
      · have hp2 : 0 ≤ left - (l.length : Int) - (W : Int) - (x.size : Int) := by omega
        go_wp2
        go_roundw
        case rel => exact ⟨k + 1, by omega, by go_num, by rw [hwt]; congr 1; omega, by rw [hwt]; omega, hb⟩
        case measure => simp [intOf]; omega
    · have hkl : k = l.length := by omega
      subst hkl
      rw [List.take_length] at hpos ⊢
      go_wp2
      go_ret
      exact ⟨ret_int (by rw [leftOfS, if_neg (by omega)]), hb⟩

theorem infoStrT : (Tryz.prog.info? 9).map (fun i => (i.zero, i.size, i.bytes)) = some (some (.string ⟨#[]⟩), 1, 16) := by kernel_rfl

set_option maxHeartbeats 1000000 in
theorem tostr_laws (a : Option Addr) (cap : Nat) (l : List ByteArray) (w : World) (hrow : StrsAt w a l) (hm : l.length ≤ 1048576) :
    Calls Tryz.prog 28 #[.slice a l.length cap] w fun e w' => e = .returned (.slice (some ⟨w.heap.size, 0, none⟩) l.length l.length) ∧
      w'.ownsRow w.heap.size 9 1 (.slice (some ⟨w.heap.size, 0, none⟩) l.length l.length) l.length (strV l) ∧ Below w.heap.size w w' := by
  obtain ⟨i0, hi, hz0, hz1, hz2⟩ := info_parts infoStrT
  have hR : Hid (StrsAt w a l) := hrow
  clear hrow
  go_enter Tryz.func28, Tryz.ntmps28
  go_wp2_with (at_make; refine wpList_make_full _ rfl _ _ 31 rfl w.heap.size 9 i0 (.string ⟨#[]⟩) 1 Tryz.underlying31 hi hz0 hz1 .i64 .i64 _ _ l.length rfl rfl rfl rfl ?b2 ?b3 (Nat.le_refl _) ?_)
  case b2 => rw [hz2]; omega
  case b3 => unfold maxLen; omega
  intro w1 hown hgrow
  have hb1 : Below w.heap.size w w1 := (Below.refl _ _).grown hgrow (Nat.le_refl _) (by intro k h; cases h)
  generalize (madeCells _ _).toList = z at hown
  have hzl : z.length = l.length := by have := hown.1; omega
  have hO : Hid (w1.ownsRow w.heap.size 9 1 (.slice (some ⟨w.heap.size, 0, none⟩) l.length l.length) l.length z) := hown
  clear hown hgrow
  go_wp2
  go_loopw [4] (fun i wr => ∃ k : Nat, k ≤ l.length ∧ i = .int .i64 k ∧ wr.ownsRow w.heap.size 9 1 (.slice (some ⟨w.heap.size, 0, none⟩) l.length l.length) l.length (strV (l.take k) ++ z.drop k) ∧ Below w.heap.size w wr)
    (fun i _ => l.length - (intOf i).toNat)
  case atStart => exact ⟨0, Nat.zero_le _, rfl, by simpa [strV] using hO.out, hb1⟩
  case round =>
    obtain ⟨k, hk, rfl, hown, hb⟩ := hrel
    by_cases hlt : k < l.length
    · obtain ⟨b, o, rfl, hbw, c0⟩ := hR.out.below hb k hlt
      have hi0 : (0 : Int) ≤ (k : Int) := by omega
      have hi1 : (k : Int) < (l.length : Int) := by omega
      have hst := strV_step l k hlt z hzl
      obtain ⟨u0, g0⟩ : ∃ u, wr.cell? ⟨w.heap.size, k, none⟩ = some u := ⟨_, (hown.cellAt k (by omega)).trans (List.getElem?_eq_getElem (by rw [hown.1]; omega))⟩
      have f0 := hown.frozenAt k
      have hO2 : Hid (wr.ownsRow w.heap.size 9 1 (.slice (some ⟨w.heap.size, 0, none⟩) l.length l.length) l.length (strV (l.take k) ++ z.drop k)) := hown
      clear hown
      generalize l[k] = x at c0 hst
      go_wp2
      go_roundw
      case rel =>
        refine ⟨k + 1, by omega, by go_num, ?_, ?_⟩
        · have r := hO2.out.stored k (.string x)
          rw [hst] at r; exact r.1
        · exact hb.setCell (Nat.le_refl _) _
      case measure => simp [intOf]; omega
    · have hkl : k = l.length := by omega
      subst hkl
      rw [List.take_length, List.drop_of_length_le (by omega), List.append_nil] at hown
      go_wp2
      go_ret
      exact ⟨rfl, hown, hb⟩

set_option maxHeartbeats 1000000 in
theorem eqstr_laws (a b : Option Addr) (ca cb : Nat) (l : List ByteArray) (w : World) (ha : StrsAt w a l) (hb : StrsAt w b l) (hm : l.length ≤ maxLen) :
    Calls Tryz.prog 36 #[.slice a l.length ca, .slice b l.length cb] w fun e w' => e = .returned (.bool true) ∧ Below w.heap.size w w' := by
  have hA : Hid (StrsAt w a l) := ha
  have hB : Hid (StrsAt w b l) := hb
  clear ha hb
  unfold maxLen at hm
  go_enter Tryz.func36, Tryz.ntmps36
  go_wp2
  go_loopw [5] (fun i wr => ∃ k : Nat, k ≤ l.length ∧ i = .int .i64 k ∧ Below w.heap.size w wr) (fun i _ => l.length - (intOf i).toNat)
  case atStart => exact ⟨0, Nat.zero_le _, rfl, Below.refl _ _⟩
  case round =>
    obtain ⟨k, hk, rfl, hx⟩ := hrel
    by_cases hlt : k < l.length
    · obtain ⟨b1, o1, rfl, hbw, c0⟩ := hA.out.below hx k hlt
      obtain ⟨b2, o2, rfl, hbw2, d0⟩ := hB.out.below hx k hlt
      have hi0 : (0 : Int) ≤ (k : Int) := by omega
      have hi1 : (k : Int) < (l.length : Int) := by omega
      generalize l[k] = x at c0 d0
      have hxx : (x.toList == x.toList) = true := by simp
      go_wp2_with fail
      go_quiet (fail)
      go_wp2
      go_roundw
      case rel => exact ⟨k + 1, by omega, by go_num, belowN hx _⟩
      case measure => simp [intOf]; omega
    · go_wp2
      go_ret
      exact ⟨rfl, hx⟩

end Go.Proofs.YtpggjgilklpncaaGreat

/-
  Numerals without any program: what a list of digits spells, and that a numeral without noughts ahead is the one of what it spells.
-/
namespace Go.Proofs.YtpggjgilklpncaaGreat

end Go.Proofs.YtpggjgilklpncaaGreat

/-
  Cells and their texts without any program: what a text is read as, what the program guesses, and that a cell is read from its own text alone.
-/
namespace Go.Proofs.YtpggjgilklpncaaGreat

def inner (s : ByteArray) : ByteArray := s.extract 1 (s.size - 1)
end Go.Proofs.YtpggjgilklpncaaGreat

/-
  Pieces of a text between the blanks, without any program: byte by byte, and as the library's own word has it.
-/
namespace Go.Proofs.YtpggjgilklpncaaGreat

end Go.Proofs.YtpggjgilklpncaaGreat

/-
  Rows and their texts without any program.
-/
namespace Go.Proofs.YtpggjgilklpncaaGreat

/-- A cell: kind, number, text. -/
abbrev CK := Int × Int × ByteArray
def okC (c : CK) : Bool := okB c.1 c.2.1 c.2.2
end Go.Proofs.YtpggjgilklpncaaGreat

/-
  The contracts of the model's texts of cells.
-/
namespace Go.Proofs.YtpggjgilklpncaaGreat
open Go.ChangeShapes Go.WideShapes Go.ChangeAt Go.RowKit
attribute [local go_sem ↓] Go.wp_at_zero Go.wp_at_succ

/-- The digits of a number; none of 0. -/
def digsN (u : Nat) : List UInt8 := if u = 0 then [] else Lib.decDigits u
theorem decDigits_step (u : Nat) : Lib.decDigits u = digsN (u / 10) ++ [UInt8.ofNat (48 + u % 10)] := by
  by_cases h : u < 10
  · rw [Lib.decDigits_one h, show u / 10 = 0 by omega, show u % 10 = u by omega]; rfl
  · rw [Lib.decDigits, dif_neg h]
    unfold digsN
    rw [if_neg (by omega)]
/-- What the loop keeps: what is left of the number, and the digits behind. -/
def IntInv (n0 m : Int) (l : List UInt8) : Prop :=
  (l = [] ∧ m = n0) ∨ (l ≠ [] ∧ digsN m.natAbs ++ l = Lib.decDigits n0.natAbs ∧ (n0 < 0 → m ≤ 0) ∧ (0 ≤ n0 → 0 ≤ m) ∧ m.natAbs ≤ n0.natAbs)
theorem tdiv_sign (m : Int) : (0 ≤ m → 0 ≤ m.tdiv 10) ∧ (m ≤ 0 → m.tdiv 10 ≤ 0) := ⟨fun h => Int.tdiv_nonneg h (by decide), fun h => by
  have := Int.tdiv_nonneg (a := -m) (b := 10) (by omega) (by decide)
  rw [Int.neg_tdiv] at this; omega⟩
theorem IntInv.step {n0 m : Int} {l : List UInt8} (h : IntInv n0 m l) (hgo : l = [] ∨ m ≠ 0) : IntInv n0 (m.tdiv 10) (UInt8.ofNat (48 + m.natAbs % 10) :: l) := by
  have e : (m.tdiv 10).natAbs = m.natAbs / 10 := by rw [Int.natAbs_tdiv]; rfl
  obtain ⟨s1, s2⟩ := tdiv_sign m
  rcases h with ⟨rfl, rfl⟩ | ⟨hl, he, h1, h2, h3⟩
  · refine .inr ⟨by simp, ?_, ?_, ?_, ?_⟩
    · rw [e, decDigits_step]
    · intro h; exact s2 (by omega)
    · intro h; exact s1 h
    · rw [e]; omega
  · have hm : m ≠ 0 := by rcases hgo with h | h; exact absurd h hl; exact h
    refine .inr ⟨by simp, ?_, ?_, ?_, ?_⟩
    · rw [← he, e]
      unfold digsN
      rw [if_neg (show ¬ m.natAbs = 0 by omega), decDigits_step m.natAbs]
      unfold digsN
      simp
    · intro h; exact s2 (h1 h)
    · intro h; exact s1 (h2 h)
    · rw [e]; omega
theorem IntInv.out {n0 : Int} {l : List UInt8} (h : IntInv n0 0 l) (hl : l ≠ []) : l = Lib.decDigits n0.natAbs := by
  rcases h with ⟨rfl, _⟩ | ⟨_, he, _⟩
  · exact absurd rfl hl
  · simpa [digsN] using he

end Go.Proofs.YtpggjgilklpncaaGreat

/-
  The contracts of the model's text of a row.
-/
namespace Go.Proofs.YtpggjgilklpncaaGreat
open Go.ChangeShapes Go.WideShapes Go.ChangeAt Go.RowKit
attribute [local go_sem ↓] Go.wp_at_zero Go.wp_at_succ

theorem all_snoc (l : List CT) (k : Nat) (h : k < l.length) : (l.take (k + 1)).all okC = ((l.take k).all okC && okC l[k]) := by
  rw [List.take_succ_eq_append_getElem h, List.all_append]; simp
set_option maxHeartbeats 1000000 in
theorem cells_spec (a : Option Addr) (cap : Nat) (l : List CT) (w : World) (hrow : RowAt w a l) (hfit : Fit l) (hm : l.length ≤ maxLen) (b : Bool) (hb : l.all okC = b) :
    Calls Tryz.prog 43 #[.slice a l.length cap] w fun e w' => e = .returned (.bool b) ∧ Below w.heap.size w w' := by
  have HR : Hid (RowAt w a l) := hrow
  have HF : Hid (Fit l) := hfit
  have HB : Hid (l.all okC = b) := hb
  clear hrow hfit hb
  unfold maxLen at hm
  go_enter Tryz.func43, Tryz.ntmps43
  go_wp2
  go_loopw [3] (fun kk wr => ∃ k : Nat, k ≤ l.length ∧ kk = .int .i64 k ∧ Hid ((l.take k).all okC = true) ∧ Below w.heap.size w wr) (fun kk _ => l.length - (intOf kk).toNat)
  case atStart => exact ⟨0, Nat.zero_le _, rfl, rfl, Below.refl _ _⟩
  case round =>
    obtain ⟨k, hk, rfl, hall, hbw⟩ := hrel
    by_cases hlt : k < l.length
    · obtain ⟨g, o, rfl, hgw, c0, c1, c2⟩ := HR.out.below hbw k hlt
      have hi0 : (0 : Int) ≤ (k : Int) := by omega
      have hi1 : (k : Int) < (l.length : Int) := by omega
      have hft := HF.out k hlt
      have hsn := all_snoc l k hlt
      rw [hall.out, Bool.true_and] at hsn
      have HS : Hid ((l.take (k + 1)).all okC = okC l[k]) := hsn
      have hno : Hid (okC l[k] = false → b = false) := by
        have : okC l[k] = false → b = false := by
          intro e
          rw [← HB.out, Bool.eq_false_iff]
          intro h
          rw [List.all_eq_true.1 h _ (List.getElem_mem hlt)] at e
          cases e
        exact this
      clear hsn
      obtain ⟨r, hr⟩ : ∃ r, okB l[k].1 l[k].2.1 l[k].2.2 = r := ⟨_, rfl⟩
      have HRR : Hid (okC l[k] = r) := hr
      generalize l[k] = x at c0 c1 c2 hft HS hno hr HRR
      go_wp2_with fail
      refine (ok_specb _ _ _ _ hr _ hft).mono ?_
      rintro e w1 ⟨rfl, hb1⟩
      clear hr c0 c1 c2
      cases r
      · have e := hno.out HRR.out
        subst e
        go_wp2
        go_ret
        exact ⟨rfl, chain hbw hb1⟩
      · go_wp2
        go_roundw
        case rel => exact ⟨k + 1, by omega, by go_num, HS.out.trans HRR.out, chain hbw hb1⟩
        case measure => simp [intOf]; omega
    · have hkl : k = l.length := by omega
      subst hkl
      have hi1 : ¬ (l.length : Int) < (l.length : Int) := by omega
      have e : b = true := by
        have := hall.out
        rw [List.take_length, HB.out] at this
        exact this
      subst e
      go_wp2
      go_ret
      exact ⟨rfl, hbw⟩

end Go.Proofs.YtpggjgilklpncaaGreat

/-
  Names: what a right list of names is, without any program; the contracts of the model's functions on them, and of the one that looks a text up.
-/
namespace Go.Proofs.YtpggjgilklpncaaGreat
open Go.ChangeShapes Go.WideShapes Go.ChangeAt Go.RowKit
attribute [local go_sem ↓] Go.wp_at_zero Go.wp_at_succ
attribute [local simp] World.cell?_alloc_past World.cell?_alloc_at World.frozen?_alloc_at cell_far cell_off cell_here World.frozen?_alloc_past

theorem txt_same {y s : ByteArray} (h : y = s) : (y.toList == s.toList) = true := by rw [h]; simp
theorem txt_other {y s : ByteArray} (h : y ≠ s) : (y.toList == s.toList) = false := by
  rw [beq_eq_false_iff_ne]
  intro e
  rw [Lib.toList_data, Lib.toList_data] at e
  exact h (ByteArray.ext (Array.toList_inj.1 e))

/-- Is the text among them? -/
def inB (l : List ByteArray) (s : ByteArray) : Bool := l.any fun x => decide (x = s)
theorem inB_iff {l : List ByteArray} {s : ByteArray} : inB l s = true ↔ s ∈ l := by
  unfold inB
  rw [List.any_eq_true]
  constructor
  · rintro ⟨x, hx, e⟩
    rw [decide_eq_true_eq] at e
    rw [← e]; exact hx
  · intro h; exact ⟨s, h, by simp⟩
theorem inB_no {l : List ByteArray} {s : ByteArray} : inB l s = false ↔ s ∉ l := by
  rw [Bool.eq_false_iff]
  exact not_congr inB_iff
/-- Is it a name? -/
def nameB (s : ByteArray) : Bool := decide (s ≠ ⟨#[]⟩) && (lets s.data.toList && decide ((s.size : Int) ≤ 6))
/-- Names, no two alike. -/
def namesD (l : List ByteArray) : Bool := l.all nameB && decide l.Nodup
def namesB (l : List ByteArray) (least most : Int) : Bool := namesD l && (decide (least ≤ (l.length : Int)) && decide ((l.length : Int) ≤ most))
theorem namesD_snoc (l : List ByteArray) (k : Nat) (h : k < l.length) : namesD (l.take (k + 1)) = (namesD (l.take k) && (nameB l[k] && !inB (l.take k) l[k])) := by
  unfold namesD
  rw [List.take_succ_eq_append_getElem h, List.all_append]
  rw [Bool.eq_iff_iff]
  simp only [Bool.and_eq_true, decide_eq_true_eq, List.nodup_append, List.all_cons, List.all_nil, Bool.and_true, Bool.not_eq_true', inB_no, List.mem_singleton]
  constructor
  · rintro ⟨⟨h1, h2⟩, h3, _, h4⟩
    exact ⟨⟨h1, h3⟩, h2, fun hm => h4 _ hm _ rfl rfl⟩
  · rintro ⟨⟨h1, h3⟩, h2, h4⟩
    exact ⟨⟨h1, h2⟩, h3, by simp, fun a ha b hb e => h4 (by rw [← hb, ← e]; exact ha)⟩
theorem namesD_no (l : List ByteArray) (k : Nat) (h : namesD (l.take k) = false) : namesD l = false := by
  rw [Bool.eq_false_iff] at h ⊢
  intro e
  apply h
  unfold namesD at e ⊢
  simp only [Bool.and_eq_true, decide_eq_true_eq, List.all_eq_true] at e ⊢
  exact ⟨fun x hx => e.1 x (List.mem_of_mem_take hx), e.2.sublist (List.take_sublist _ _)⟩

/-- Where a text stands first; -1: nowhere. -/
def AtIs (l : List ByteArray) (s : ByteArray) (r : Int) : Prop := (r = -1 ∧ s ∉ l) ∨ ∃ (k : Nat) (h : k < l.length), r = (k : Int) ∧ l[k] = s ∧ ∀ j (hj : j < l.length), j < k → l[j] ≠ s
theorem AtIs.neg {l : List ByteArray} {s : ByteArray} {r : Int} (h : AtIs l s r) : (0 ≤ r ↔ s ∈ l) := by
  rcases h with ⟨rfl, hn⟩ | ⟨k, hk, rfl, he, _⟩
  · constructor
    · intro h; omega
    · intro h; exact absurd h hn
  · exact ⟨fun _ => he ▸ List.getElem_mem hk, fun _ => by omega⟩
theorem AtIs.lt {l : List ByteArray} {s : ByteArray} {r : Int} (h : AtIs l s r) : -1 ≤ r ∧ r < (l.length : Int) := by
  rcases h with ⟨rfl, _⟩ | ⟨k, hk, rfl, _, _⟩ <;> omega

theorem name_spec (s : ByteArray) (w : World) (hs : s.size ≤ maxLen) (b : Bool) (hb : nameB s = b) :
    Calls Tryz.prog 41 #[.string s] w fun e w' => e = .returned (.bool b) ∧ w' = w := by
  by_cases h0 : s = ⟨#[]⟩
  · have e : b = false := by rw [← hb, h0]; rfl
    subst e h0
    clear hb
    go_enter Tryz.func41, Tryz.ntmps41
    go_wp2
    go_ret
    exact ⟨rfl, rfl⟩
  · have h1 : (s.toList == []) = false := by
      have := txt_other h0
      rw [show (⟨#[]⟩ : ByteArray).toList = [] from by rw [Lib.toList_data]] at this
      exact this
    have h2 : ¬ s.toList = [] := by intro e; rw [e] at h1; cases h1
    have e : (lets s.data.toList && decide ((s.size : Int) ≤ 6)) = b := by rw [← hb]; unfold nameB; rw [decide_eq_true h0, Bool.true_and]
    have HB : Hid ((lets s.data.toList && decide ((s.size : Int) ≤ 6)) = b) := e
    clear hb h0 e
    go_enter Tryz.func41, Tryz.ntmps41
    go_wp2_with fail
    refine (letters_spec s 6 _ hs).mono ?_
    rintro e w' ⟨rfl, rfl⟩
    rw [HB.out]
    go_wp2
    go_ret
    exact ⟨rfl, rfl⟩

set_option maxHeartbeats 1000000 in
theorem at_spec (a : Option Addr) (cap : Nat) (l : List ByteArray) (s : ByteArray) (w : World) (hrow : StrsAt w a l) (hm : l.length ≤ maxLen) :
    Calls Tryz.prog 60 #[.slice a l.length cap, .string s] w fun e w' => ∃ r, e = .returned (.int .i64 r) ∧ AtIs l s r ∧ Below w.heap.size w w' := by
  have HR : Hid (StrsAt w a l) := hrow
  clear hrow
  unfold maxLen at hm
  go_enter Tryz.func60, Tryz.ntmps60
  go_wp2
  go_loopw [5] (fun kk wr => ∃ k : Nat, k ≤ l.length ∧ kk = .int .i64 k ∧ Hid (∀ j (hj : j < l.length), j < k → l[j] ≠ s) ∧ Below w.heap.size w wr) (fun kk _ => l.length - (intOf kk).toNat)
  case atStart => exact ⟨0, Nat.zero_le _, rfl, fun j _ h => by omega, Below.refl _ _⟩
  case round =>
    obtain ⟨k, hk, rfl, hall, hbw⟩ := hrel
    by_cases hlt : k < l.length
    · obtain ⟨g, o, rfl, hgw, c0⟩ := HR.out.below hbw k hlt
      have hi0 : (0 : Int) ≤ (k : Int) := by omega
      have hi1 : (k : Int) < (l.length : Int) := by omega
      have HX : Hid (l[k] = l[k]) := rfl
      by_cases e : l[k] = s
      · have fin : Hid (AtIs l s (k : Int)) := Or.inr ⟨k, hlt, rfl, e, hall.out⟩
        have hq := txt_same e
        clear HX e
        generalize l[k] = x at c0 hq
        go_wp2
        go_ret
        exact ⟨_, rfl, fin.out, hbw⟩
      · have hall2 : Hid (∀ j (hj : j < l.length), j < k + 1 → l[j] ≠ s) := by
          have : ∀ j (hj : j < l.length), j < k + 1 → l[j] ≠ s := by
            intro j hj hjk
            by_cases ej : j = k
            · subst ej; exact e
            · exact hall.out j hj (by omega)
          exact this
        have hq := txt_other e
        clear HX e
        generalize l[k] = x at c0 hq
        go_wp2
        go_roundw
        case rel => exact ⟨k + 1, by omega, by go_num, hall2, hbw⟩
        case measure => simp [intOf]; omega
    · have fin : Hid (AtIs l s (-1)) := Or.inl ⟨rfl, fun hmem => by
        obtain ⟨j, hj, e⟩ := List.getElem_of_mem hmem
        exact hall.out j hj (by omega) e⟩
      go_wp2
      go_ret
      exact ⟨_, rfl, fin.out, hbw⟩

end Go.Proofs.YtpggjgilklpncaaGreat
