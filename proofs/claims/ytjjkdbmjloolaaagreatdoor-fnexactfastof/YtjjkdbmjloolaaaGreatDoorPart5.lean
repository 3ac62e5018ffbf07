/-
  A part of the proof: ReadMath, SplitMath, RowMath, KeyS, RowS, Names1, Names2, Box5, Rank1.
-/
import Derived.Test.YtjjkdbmjloolaaaGreatDoorPart1
import Derived.Test.YtjjkdbmjloolaaaGreatDoorPart4
import Derived.Lib.Strings
import Derived.Lib.SplitLaws
import Derived.Lib.Join
import Derived.Test.YtjjkdbmjloolaaaGreatDoorPart2
import Derived.Laws.IdiomStrings
import Derived.Test.YtjjkdbmjloolaaaGreatDoorPart3

namespace Go.Proofs.YtjjkdbmjloolaaaGreatDoor
theorem bytes_ext {s u : ByteArray} (h : s.data.toList = u.data.toList) : s = u := by
 obtain ⟨⟨a⟩⟩ := s
 obtain ⟨⟨b⟩⟩ := u
 simp at h
 rw [h]
theorem bytes_mk (l : List UInt8) : (⟨l.toArray⟩ : ByteArray).data.toList = l := rfl
theorem empty_bytes {t : ByteArray} (h : t.toList.isEmpty = true) : t = ⟨#[]⟩ := by
 rw [Lib.toList_data, List.isEmpty_iff] at h
 exact bytes_ext h
theorem bytes_empty : (⟨#[]⟩ : ByteArray).toList.isEmpty = true := by rw [Lib.toList_data]; rfl
def wNone : List UInt8 := [110, 111, 110, 101]
def wYes : List UInt8 := [121, 101, 115]
def wNo : List UInt8 := [110, 111]
def l4T (k n : Int) (t : List UInt8) : List UInt8 :=
 if k = 1 then Lib.itoa n else if k = 2 then 39 :: (t ++ [39]) else if k = 3 then (if n = 1 then wYes else wNo) else wNone
def cellT (k n : Int) (t : ByteArray) : ByteArray := if okB k n t = true then ⟨(l4T k n t.data.toList).toArray⟩ else ⟨#[]⟩
def inner (s : ByteArray) : ByteArray := s.extract 1 (s.size - 1)
def textB (t : ByteArray) : Bool := lets t.data.toList && decide ((t.size : Int) ≤ 12)
def readB (s : ByteArray) : Option (Int × Int × ByteArray) :=
 if s.data.toList = wNone then some (0, 0, ⟨#[]⟩)
 else if s.data.toList = wYes then some (3, 1, ⟨#[]⟩)
 else if s.data.toList = wNo then some (3, 0, ⟨#[]⟩)
 else match readMost s.data.toList with
  | some n => if numB n = true then some (1, n, ⟨#[]⟩) else none
  | none => if 1 < s.size ∧ s.data.toList.head? = some 39 ∧ s.data.toList.getLast? = some 39 then (if textB (inner s) = true then some (2, 0, inner s) else none) else none
theorem okB_0 {n : Int} {t : ByteArray} (h : okB 0 n t = true) : n = 0 ∧ t = ⟨#[]⟩ := by
 unfold okB at h
 rw [if_pos rfl, Bool.and_eq_true, beq_iff_eq] at h
 exact ⟨h.1, empty_bytes h.2⟩
theorem okB_1 {n : Int} {t : ByteArray} (h : okB 1 n t = true) : numB n = true ∧ t = ⟨#[]⟩ := by
 unfold okB at h
 rw [if_neg (by decide), if_pos rfl, Bool.and_eq_true] at h
 exact ⟨h.1, empty_bytes h.2⟩
theorem okB_2 {n : Int} {t : ByteArray} (h : okB 2 n t = true) : n = 0 ∧ textB t = true := by
 unfold okB at h
 rw [if_neg (by decide), if_neg (by decide), if_pos rfl, Bool.and_eq_true, beq_iff_eq] at h
 exact ⟨h.2, h.1⟩
theorem okB_3 {n : Int} {t : ByteArray} (h : okB 3 n t = true) : (n = 0 ∨ n = 1) ∧ t = ⟨#[]⟩ := by
 unfold okB at h
 rw [if_neg (by decide), if_neg (by decide), if_neg (by decide), if_pos rfl, Bool.and_eq_true, Bool.and_eq_true, decide_eq_true_eq, decide_eq_true_eq] at h
 exact ⟨by omega, empty_bytes h.2⟩
theorem okB_kind {k n : Int} {t : ByteArray} (h : okB k n t = true) : k = 0 ∨ k = 1 ∨ k = 2 ∨ k = 3 := by
 by_cases h0 : k = 0
 · exact .inl h0
 by_cases h1 : k = 1
 · exact .inr (.inl h1)
 by_cases h2 : k = 2
 · exact .inr (.inr (.inl h2))
 by_cases h3 : k = 3
 · exact .inr (.inr (.inr h3))
 unfold okB at h
 rw [if_neg h0, if_neg h1, if_neg h2, if_neg h3] at h
 cases h
theorem okB_0' : okB 0 0 ⟨#[]⟩ = true := by unfold okB; rw [if_pos rfl, bytes_empty]; rfl
theorem okB_1' {n : Int} : okB 1 n ⟨#[]⟩ = numB n := by unfold okB; rw [if_neg (by decide), if_pos rfl, bytes_empty, Bool.and_true]
theorem okB_2' {t : ByteArray} : okB 2 0 t = textB t := by unfold okB; rw [if_neg (by decide), if_neg (by decide), if_pos rfl]; simp [textB]
theorem okB_31 : okB 3 1 ⟨#[]⟩ = true := by unfold okB; rw [if_neg (by decide), if_neg (by decide), if_neg (by decide), if_pos rfl, bytes_empty]; rfl
theorem okB_30 : okB 3 0 ⟨#[]⟩ = true := by unfold okB; rw [if_neg (by decide), if_neg (by decide), if_neg (by decide), if_pos rfl, bytes_empty]; rfl
theorem l4T_0 (n : Int) (t : List UInt8) : l4T 0 n t = wNone := rfl
theorem l4T_1 (n : Int) (t : List UInt8) : l4T 1 n t = Lib.itoa n := rfl
theorem l4T_2 (n : Int) (t : List UInt8) : l4T 2 n t = 39 :: (t ++ [39]) := rfl
theorem l4T_31 (t : List UInt8) : l4T 3 1 t = wYes := rfl
theorem l4T_30 (t : List UInt8) : l4T 3 0 t = wNo := rfl
theorem cellT_ok {k n : Int} {t : ByteArray} (h : okB k n t = true) : (cellT k n t).data.toList = l4T k n t.data.toList := by unfold cellT; rw [if_pos h]
theorem cellT_no {k n : Int} {t : ByteArray} (h : okB k n t = false) : cellT k n t = ⟨#[]⟩ := by unfold cellT; rw [if_neg (by rw [h]; decide)]
theorem numB_iff {n : Int} : numB n = true ↔ -1000000000 ≤ n ∧ n ≤ 1000000000 := by unfold numB; rw [Bool.and_eq_true, decide_eq_true_eq, decide_eq_true_eq]
theorem itoa_head (n : Int) : ∃ c r, Lib.itoa n = c :: r ∧ (isDig c = true ∨ c = 45) := by
 by_cases hn : n < 0
 · exact ⟨45, _, itoa_neg n hn, .inr rfl⟩
 · obtain ⟨_, p, _⟩ := decDigits_plain n.toNat
  cases hD : Lib.decDigits n.toNat with
  | nil => exact absurd hD p.1
  | cons c r => rw [hD] at p; exact ⟨c, r, by rw [itoa_nonneg n (by omega), hD], .inl (p.2.1 c (by simp))⟩
theorem itoa_no (n : Int) (l : List UInt8) (c : UInt8) (h : l.head? = some c) (hc : isDig c = false) (h45 : c ≠ 45) : l ≠ Lib.itoa n := by
 intro e
 obtain ⟨d, r, hd, hx⟩ := itoa_head n
 rw [e, hd] at h
 have : d = c := by simpa using h
 subst this
 rcases hx with hx | hx
 · rw [hc] at hx; cases hx
 · exact h45 hx
theorem readMost_no {l : List UInt8} (c : UInt8) (h : l.head? = some c) (hc : isDig c = false) (h45 : c ≠ 45) : readMost l = none := by
 cases hr : readMost l with
 | none => rfl
 | some n => exact absurd (readMost_some hr) (itoa_no n l c h hc h45)
theorem inner_list {s : ByteArray} {l : List UInt8} (h : s.data.toList = 39 :: (l ++ [39])) : (inner s).data.toList = l := by
 unfold inner
 rw [Lib.extract_data, h, Lib.size_eq, h]
 simp
theorem readB_text {k n : Int} {t : ByteArray} (h : okB k n t = true) : readB (cellT k n t) = some (k, n, t) := by
 rcases okB_kind h with rfl | rfl | rfl | rfl
 · obtain ⟨rfl, rfl⟩ := okB_0 h
  unfold readB
  rw [cellT_ok h, l4T_0, if_pos rfl]
 · obtain ⟨hn, rfl⟩ := okB_1 h
  obtain ⟨c, r, he, hx⟩ := itoa_head n
  have hne : ∀ l : List UInt8, l.head? = some 110 ∨ l.head? = some 121 → Lib.itoa n ≠ l := by
   intro l hl e
   rw [← e, he] at hl
   have : c = 110 ∨ c = 121 := by simpa using hl
   rcases this with rfl | rfl <;> rcases hx with hx | hx <;> exact absurd hx (by decide)
  have hb := numB_iff.1 hn
  unfold readB
  rw [cellT_ok h, l4T_1, if_neg (hne _ (.inl rfl)), if_neg (hne _ (.inr rfl)), if_neg (hne _ (.inl rfl)), readMost_itoa n (by omega) (by omega)]
  simp only []
  rw [if_pos hn]
 · obtain ⟨rfl, ht⟩ := okB_2 h
  have e := cellT_ok h
  rw [l4T_2] at e
  have hi := inner_list e
  have hi' : inner (cellT 2 0 t) = t := bytes_ext hi
  have hs : 1 < (cellT 2 0 t).size := by rw [Lib.size_eq, e]; simp
  unfold readB
  rw [if_neg (by rw [e]; intro x; exact absurd x (by simp [wNone])), if_neg (by rw [e]; intro x; exact absurd x (by simp [wYes])), if_neg (by rw [e]; intro x; exact absurd x (by simp [wNo])),
   readMost_no 39 (by rw [e]; rfl) (by decide) (by decide)]
  simp only []
  rw [if_pos ⟨hs, by rw [e]; rfl, by rw [e, ← List.cons_append, List.getLast?_concat]⟩, hi', if_pos ht]
 · obtain ⟨hn, rfl⟩ := okB_3 h
  rcases hn with rfl | rfl
  · unfold readB
   rw [cellT_ok h, l4T_30, if_neg (by decide), if_neg (by decide), if_pos rfl]
  · unfold readB
   rw [cellT_ok h, l4T_31, if_neg (by decide), if_pos rfl]
theorem readB_some {s : ByteArray} {k n : Int} {t : ByteArray} (h : readB s = some (k, n, t)) : okB k n t = true ∧ cellT k n t = s := by
 have fin : ∀ {k n : Int} {t : ByteArray}, okB k n t = true → l4T k n t.data.toList = s.data.toList → okB k n t = true ∧ cellT k n t = s := fun ho hl => ⟨ho, bytes_ext (by rw [cellT_ok ho, hl])⟩
 unfold readB at h
 split at h
 · rename_i e
  injection h with h
  injection h with h1 h2
  injection h2 with h2 h3
  subst h1 h2 h3
  exact fin okB_0' e.symm
 · split at h
  · rename_i e
   injection h with h
   injection h with h1 h2
   injection h2 with h2 h3
   subst h1 h2 h3
   exact fin okB_31 e.symm
  · split at h
   · rename_i e
    injection h with h
    injection h with h1 h2
    injection h2 with h2 h3
    subst h1 h2 h3
    exact fin okB_30 e.symm
   · split at h
    · rename_i m hm
     split at h
     · rename_i hn
      injection h with h
      injection h with h1 h2
      injection h2 with h2 h3
      subst h1 h2 h3
      exact fin (okB_1'.trans hn) (readMost_some hm).symm
     · cases h
    · split at h
     · rename_i hq
      split at h
      · rename_i ht
       injection h with h
       injection h with h1 h2
       injection h2 with h2 h3
       subst h1 h2
       obtain ⟨hs, hh, hl⟩ := hq
       rw [← h3]
       refine fin (okB_2'.trans ht) ?_
       obtain ⟨m, he⟩ : ∃ m, s.data.toList = 39 :: (m ++ [39]) := by
        cases hd : s.data.toList with
        | nil => rw [hd] at hh; cases hh
        | cons c r =>
         rw [hd] at hh hl
         have : c = 39 := by simpa using hh
         subst this
         rcases List.eq_nil_or_concat r with rfl | ⟨r', d, hr⟩
         · rw [Lib.size_eq, hd] at hs; simp at hs
         · have hr : r = r' ++ [d] := by rw [hr, List.concat_eq_append]
          subst hr
          have : d = 39 := by
           rw [← List.cons_append, List.getLast?_concat] at hl
           simpa using hl
          subst this
          exact ⟨r', rfl⟩
       rw [inner_list he, he]; rfl
      · cases h
     · cases h
def innerL (l : List UInt8) : List UInt8 := Lib.trimSuffix (Lib.trimPrefix l [39]) [39]
theorem guess_text {s : ByteArray} {k n : Int} {t : ByteArray} (h : readB s = some (k, n, t)) :
  (k = 0 ∧ n = 0 ∧ t = ⟨#[]⟩ ∧ s.data.toList = wNone) ∨ (k = 3 ∧ n = 1 ∧ t = ⟨#[]⟩ ∧ s.data.toList = wYes) ∨ (k = 3 ∧ n = 0 ∧ t = ⟨#[]⟩ ∧ s.data.toList = wNo) ∨
  (k = 2 ∧ n = 0 ∧ t.data.toList = innerL s.data.toList ∧ s.data.toList.head? = some 39) ∨ (k = 1 ∧ t = ⟨#[]⟩ ∧ Lib.parseIntB 64 s.data.toList = .ok n ∧ s.data.toList.head? ≠ some 39) := by
 obtain ⟨ho, rfl⟩ := readB_some h
 have e := cellT_ok ho
 rcases okB_kind ho with rfl | rfl | rfl | rfl
 · obtain ⟨rfl, rfl⟩ := okB_0 ho
  exact .inl ⟨rfl, rfl, rfl, e⟩
 · obtain ⟨hn, rfl⟩ := okB_1 ho
  have hb := numB_iff.1 hn
  refine .inr (.inr (.inr (.inr ⟨rfl, rfl, ?_, ?_⟩)))
  · rw [e, l4T_1]; exact parse_itoa n hb.1 hb.2
  · rw [e, l4T_1]
   intro x
   exact itoa_no n _ 39 x (by decide) (by decide) rfl
 · obtain ⟨rfl, ht⟩ := okB_2 ho
  refine .inr (.inr (.inr (.inl ⟨rfl, rfl, ?_, ?_⟩)))
  · rw [e, l4T_2]
   unfold innerL Lib.trimPrefix Lib.hasPrefix
   rw [if_pos (by simp)]
   simp only [List.length_cons, List.length_nil, Nat.zero_add, List.drop_succ_cons, List.drop_zero]
   unfold Lib.trimSuffix Lib.hasSuffix
   rw [if_pos (by rw [List.isSuffixOf_iff_suffix]; exact List.suffix_append _ _)]
   simp
  · rw [e, l4T_2]; rfl
 · obtain ⟨hn, rfl⟩ := okB_3 ho
  rcases hn with rfl | rfl
  · exact .inr (.inr (.inl ⟨rfl, rfl, rfl, e⟩))
  · exact .inr (.inl ⟨rfl, rfl, rfl, e⟩)
theorem guess_no {s : ByteArray} (h : readB s = none) (hs : s ≠ ⟨#[]⟩) (k n : Int) (t : ByteArray) : cellT k n t ≠ s := by
 intro e
 cases ho : okB k n t with
 | true => rw [← e, readB_text ho] at h; cases h
 | false => rw [cellT_no ho] at e; exact hs e.symm
theorem l4T_len {k n : Int} {t : ByteArray} (h : okB k n t = true) : (l4T k n t.data.toList).length ≤ 14 := by
 rcases okB_kind h with rfl | rfl | rfl | rfl
 · rw [l4T_0]; decide
 · rw [l4T_1]
  have hb := numB_iff.1 (okB_1 h).1
  by_cases hn : n < 0
  · rw [itoa_neg n hn]
   have := decDigits_len n.natAbs (by omega)
   simp; omega
  · rw [itoa_nonneg n (by omega)]
   have := decDigits_len n.toNat (by omega)
   omega
 · obtain ⟨_, ht⟩ := okB_2 h
  unfold textB at ht
  rw [Bool.and_eq_true, decide_eq_true_eq, Lib.size_eq] at ht
  rw [l4T_2, List.length_cons, List.length_append, List.length_singleton]
  omega
 · obtain ⟨hn, _⟩ := okB_3 h
  rcases hn with rfl | rfl
  · rw [l4T_30]; decide
  · rw [l4T_31]; decide
abbrev CK := Int × Int × ByteArray
def okC (c : CK) : Bool := okB c.1 c.2.1 c.2.2
end Go.Proofs.YtjjkdbmjloolaaaGreatDoor
namespace Go.Proofs.YtjjkdbmjloolaaaGreatDoor
open Go.ChangeShapes Go.WideShapes Go.ChangeAt Go.RowKit
attribute [local go_sem ↓] Go.wp_at_zero Go.wp_at_succ
def digsN (u : Nat) : List UInt8 := if u = 0 then [] else Lib.decDigits u
theorem decDigits_step (u : Nat) : Lib.decDigits u = digsN (u / 10) ++ [UInt8.ofNat (48 + u % 10)] := by
 by_cases h : u < 10
 · rw [Lib.decDigits_one h, show u / 10 = 0 by omega, show u % 10 = u by omega]; rfl
 · rw [Lib.decDigits, dif_neg h]
  unfold digsN
  rw [if_neg (by omega)]
def IntInv (n0 m : Int) (l : List UInt8) : Prop :=
 (l = [] ∧ m = n0) ∨ (l ≠ [] ∧ digsN m.natAbs ++ l = Lib.decDigits n0.natAbs ∧ (n0 < 0 → m ≤ 0) ∧ (0 ≤ n0 → 0 ≤ m) ∧ m.natAbs ≤ n0.natAbs)
theorem tdiv_sign (m : Int) : (0 ≤ m → 0 ≤ m.tdiv 10) ∧ (m ≤ 0 → m.tdiv 10 ≤ 0) := ⟨fun h => Int.tdiv_nonneg h (by decide), fun h => by
 have := Int.tdiv_nonneg (a := -m) (b := 10) (by omega) (by decide)
 rw [Int.neg_tdiv] at this; omega⟩
theorem IntInv.step {n0 m : Int} {l : List UInt8} (h : IntInv n0 m l) (hgo : l = [] ∨ m ≠ 0) : IntInv n0 (m.tdiv 10) (UInt8.ofNat (48 + m.natAbs % 10) :: l) := by
 have e : (m.tdiv 10).natAbs = m.natAbs / 10 := by rw [Int.natAbs_tdiv]; rfl
 obtain ⟨s1, s2⟩ := tdiv_sign m
 rcases h with ⟨rfl, rfl⟩ | ⟨hl, he, h1, h2, h3⟩
 · refine .inr ⟨by simp, ?_, ?_, ?_, ?_⟩
  · rw [e, decDigits_step]
  · intro h; exact s2 (by omega)
  · intro h; exact s1 h
  · rw [e]; omega
 · have hm : m ≠ 0 := by rcases hgo with h | h; exact absurd h hl; exact h
  refine .inr ⟨by simp, ?_, ?_, ?_, ?_⟩
  · rw [← he, e]
   unfold digsN
   rw [if_neg (show ¬ m.natAbs = 0 by omega), decDigits_step m.natAbs]
   unfold digsN
   simp
  · intro h; exact s2 (h1 h)
  · intro h; exact s1 (h2 h)
  · rw [e]; omega
theorem IntInv.out {n0 : Int} {l : List UInt8} (h : IntInv n0 0 l) (hl : l ≠ []) : l = Lib.decDigits n0.natAbs := by
 rcases h with ⟨rfl, _⟩ | ⟨_, he, _⟩
 · exact absurd rfl hl
 · simpa [digsN] using he
theorem infoStr : (Tryz.prog.info? 9).map (fun i => (i.zero, i.size, i.bytes)) = some (some (.string ⟨#[]⟩), 1, 16) := by kernel_rfl
theorem all_snoc (l : List CT) (k : Nat) (h : k < l.length) : (l.take (k + 1)).all okC = ((l.take k).all okC && okC l[k]) := by
 rw [List.take_succ_eq_append_getElem h, List.all_append]; simp
set_option maxHeartbeats 1000000 in
theorem cells_spec (a : Option Addr) (cap : Nat) (l : List CT) (w : World) (hrow : RowAt w a l) (hfit : Fit l) (hm : l.length ≤ maxLen) (b : Bool) (hb : l.all okC = b) :
  Calls Tryz.prog 90 #[.slice a l.length cap] w fun e w' => e = .returned (.bool b) ∧ Below w.heap.size w w' := by
 have HR := hid hrow
 have HF := hid hfit
 have HB := hid hb
 clear hrow hfit hb
 unfold maxLen at hm
 go_enter Tryz.func90, Tryz.ntmps90
 go_wp2
 go_loopw [3] (fun kk wr => ∃ k : Nat, k ≤ l.length ∧ kk = .int .i64 k ∧ Hid ((l.take k).all okC = true) ∧ Below w.heap.size w wr) (fun kk _ => l.length - (intOf kk).toNat)
 case atStart => exact ⟨0, Nat.zero_le _, rfl, rfl, Below.refl _ _⟩
 case round =>
  obtain ⟨k, hk, rfl, hall, hbw⟩ := hrel
  by_cases hlt : k < l.length
  · obtain ⟨g, o, rfl, hgw, c0, c1, c2⟩ := HR.out.below hbw k hlt
   have hi0 : (0 : Int) ≤ (k : Int) := by omega
   have hi1 : (k : Int) < (l.length : Int) := by omega
   have hft := HF.out k hlt
   have hsn := all_snoc l k hlt
   rw [hall.out, Bool.true_and] at hsn
   have HS := hid hsn
   have hno : Hid (okC l[k] = false → b = false) := by
    have : okC l[k] = false → b = false := by
     intro e
     rw [← HB.out, Bool.eq_false_iff]
     intro h
     rw [List.all_eq_true.1 h _ (List.getElem_mem hlt)] at e
     cases e
    exact this
   clear hsn
   obtain ⟨r, hr⟩ : ∃ r, okB l[k].1 l[k].2.1 l[k].2.2 = r := ⟨_, rfl⟩
   have HRR := hid hr
   generalize l[k] = x at c0 c1 c2 hft HS hno hr HRR
   go_wp2_with fail
   refine (ok_specb _ _ _ _ hr _ hft).mono ?_
   rintro e w1 ⟨rfl, hb1⟩
   clear hr c0 c1 c2
   cases r
   · have e := hno.out HRR.out
    subst e
    go_wp2
    go_ret
    exact ⟨rfl, chain hbw hb1⟩
   · go_wp2
    go_roundw
    case rel => exact ⟨k + 1, by omega, by go_num, HS.out.trans HRR.out, chain hbw hb1⟩
    case measure => simp [intOf]; omega
  · have hkl : k = l.length := by omega
   subst hkl
   have hi1 : ¬ (l.length : Int) < (l.length : Int) := by omega
   have e : b = true := by
    have := hall.out
    rw [List.take_length, HB.out] at this
    exact this
   subst e
   go_wp2
   go_ret
   exact ⟨rfl, hbw⟩
end Go.Proofs.YtjjkdbmjloolaaaGreatDoor
namespace Go.Proofs.YtjjkdbmjloolaaaGreatDoor
open Go.ChangeShapes Go.WideShapes Go.ChangeAt Go.RowKit
attribute [local go_sem ↓] Go.wp_at_zero Go.wp_at_succ
attribute [local simp] World.cell?_alloc_past World.cell?_alloc_at World.frozen?_alloc_at cell_far cell_off cell_here World.frozen?_alloc_past
theorem txt_same {y s : ByteArray} (h : y = s) : (y.toList == s.toList) = true := by rw [h]; simp
theorem txt_other {y s : ByteArray} (h : y ≠ s) : (y.toList == s.toList) = false := by
 rw [beq_eq_false_iff_ne]
 intro e
 rw [Lib.toList_data, Lib.toList_data] at e
 exact h (ByteArray.ext (Array.toList_inj.1 e))
def inB (l : List ByteArray) (s : ByteArray) : Bool := l.any fun x => decide (x = s)
theorem inB_iff {l : List ByteArray} {s : ByteArray} : inB l s = true ↔ s ∈ l := by
 unfold inB
 rw [List.any_eq_true]
 constructor
 · rintro ⟨x, hx, e⟩
  rw [decide_eq_true_eq] at e
  rw [← e]; exact hx
 · intro h; exact ⟨s, h, by simp⟩
theorem inB_no {l : List ByteArray} {s : ByteArray} : inB l s = false ↔ s ∉ l := by
 rw [Bool.eq_false_iff]
 exact not_congr inB_iff
def nameB (s : ByteArray) : Bool := decide (s ≠ ⟨#[]⟩) && (lets s.data.toList && decide ((s.size : Int) ≤ 6))
def namesD (l : List ByteArray) : Bool := l.all nameB && decide l.Nodup
def namesB (l : List ByteArray) (least most : Int) : Bool := namesD l && (decide (least ≤ (l.length : Int)) && decide ((l.length : Int) ≤ most))
theorem namesD_snoc (l : List ByteArray) (k : Nat) (h : k < l.length) : namesD (l.take (k + 1)) = (namesD (l.take k) && (nameB l[k] && !inB (l.take k) l[k])) := by
 unfold namesD
 rw [List.take_succ_eq_append_getElem h, List.all_append]
 rw [Bool.eq_iff_iff]
 simp only [Bool.and_eq_true, decide_eq_true_eq, List.nodup_append, List.all_cons, List.all_nil, Bool.and_true, Bool.not_eq_true', inB_no, List.mem_singleton]
 constructor
 · rintro ⟨⟨h1, h2⟩, h3, _, h4⟩
  exact ⟨⟨h1, h3⟩, h2, fun hm => h4 _ hm _ rfl rfl⟩
 · rintro ⟨⟨h1, h3⟩, h2, h4⟩
  exact ⟨⟨h1, h2⟩, h3, by simp, fun a ha b hb e => h4 (by rw [← hb, ← e]; exact ha)⟩
theorem namesD_no (l : List ByteArray) (k : Nat) (h : namesD (l.take k) = false) : namesD l = false := by
 rw [Bool.eq_false_iff] at h ⊢
 intro e
 apply h
 unfold namesD at e ⊢
 simp only [Bool.and_eq_true, decide_eq_true_eq, List.all_eq_true] at e ⊢
 exact ⟨fun x hx => e.1 x (List.mem_of_mem_take hx), e.2.sublist (List.take_sublist _ _)⟩
def AtIs (l : List ByteArray) (s : ByteArray) (r : Int) : Prop := (r = -1 ∧ s ∉ l) ∨ ∃ (k : Nat) (h : k < l.length), r = (k : Int) ∧ l[k] = s ∧ ∀ j (hj : j < l.length), j < k → l[j] ≠ s
theorem AtIs.one {l : List ByteArray} {s : ByteArray} {r r' : Int} (h : AtIs l s r) (h' : AtIs l s r') : r = r' := by
 rcases h with ⟨rfl, hn⟩ | ⟨k, hk, rfl, he, hf⟩ <;> rcases h' with ⟨rfl, hn'⟩ | ⟨k', hk', rfl, he', hf'⟩
 · rfl
 · exact absurd (he' ▸ List.getElem_mem hk') hn
 · exact absurd (he ▸ List.getElem_mem hk) hn'
 · rcases Nat.lt_trichotomy k k' with h | h | h
  · exact absurd he (hf' k hk h)
  · rw [h]
  · exact absurd he' (hf k' hk' h)
theorem AtIs.neg {l : List ByteArray} {s : ByteArray} {r : Int} (h : AtIs l s r) : (0 ≤ r ↔ s ∈ l) := by
 rcases h with ⟨rfl, hn⟩ | ⟨k, hk, rfl, he, _⟩
 · constructor
  · intro h; omega
  · intro h; exact absurd h hn
 · exact ⟨fun _ => he ▸ List.getElem_mem hk, fun _ => by omega⟩
theorem AtIs.lt {l : List ByteArray} {s : ByteArray} {r : Int} (h : AtIs l s r) : -1 ≤ r ∧ r < (l.length : Int) := by
 rcases h with ⟨rfl, _⟩ | ⟨k, hk, rfl, _, _⟩ <;> omega
theorem name_spec (s : ByteArray) (w : World) (hs : s.size ≤ maxLen) (b : Bool) (hb : nameB s = b) :
  Calls Tryz.prog 51 #[.string s] w fun e w' => e = .returned (.bool b) ∧ w' = w := by
 by_cases h0 : s = ⟨#[]⟩
 · have e : b = false := by rw [← hb, h0]; rfl
  subst e h0
  clear hb
  go_enter Tryz.func51, Tryz.ntmps51
  go_wp2
  go_ret
  exact ⟨rfl, rfl⟩
 · have h1 : (s.toList == []) = false := by
   have := txt_other h0
   rw [show (⟨#[]⟩ : ByteArray).toList = [] from by rw [Lib.toList_data]] at this
   exact this
  have h2 : ¬ s.toList = [] := by intro e; rw [e] at h1; cases h1
  have e : (lets s.data.toList && decide ((s.size : Int) ≤ 6)) = b := by rw [← hb]; unfold nameB; rw [decide_eq_true h0, Bool.true_and]
  have HB := hid e
  clear hb h0 e
  go_enter Tryz.func51, Tryz.ntmps51
  go_wp2_with fail
  refine (letters_spec s 6 _ hs).mono ?_
  rintro e w' ⟨rfl, rfl⟩
  rw [HB.out]
  go_wp2
  go_ret
  exact ⟨rfl, rfl⟩
set_option maxHeartbeats 1000000 in
theorem at_spec (a : Option Addr) (cap : Nat) (l : List ByteArray) (s : ByteArray) (w : World) (hrow : StrsAt w a l) (hm : l.length ≤ maxLen) :
  Calls Tryz.prog 38 #[.slice a l.length cap, .string s] w fun e w' => ∃ r, e = .returned (.int .i64 r) ∧ AtIs l s r ∧ Below w.heap.size w w' := by
 have HR := hid hrow
 clear hrow
 unfold maxLen at hm
 go_enter Tryz.func38, Tryz.ntmps38
 go_wp2
 go_loopw [5] (fun kk wr => ∃ k : Nat, k ≤ l.length ∧ kk = .int .i64 k ∧ Hid (∀ j (hj : j < l.length), j < k → l[j] ≠ s) ∧ Below w.heap.size w wr) (fun kk _ => l.length - (intOf kk).toNat)
 case atStart => exact ⟨0, Nat.zero_le _, rfl, fun j _ h => by omega, Below.refl _ _⟩
 case round =>
  obtain ⟨k, hk, rfl, hall, hbw⟩ := hrel
  by_cases hlt : k < l.length
  · obtain ⟨g, o, rfl, hgw, c0⟩ := HR.out.below hbw k hlt
   have hi0 : (0 : Int) ≤ (k : Int) := by omega
   have hi1 : (k : Int) < (l.length : Int) := by omega
   have HX : Hid (l[k] = l[k]) := rfl
   by_cases e : l[k] = s
   · have fin : Hid (AtIs l s (k : Int)) := Or.inr ⟨k, hlt, rfl, e, hall.out⟩
    have hq := txt_same e
    clear HX e
    generalize l[k] = x at c0 hq
    go_wp2
    go_ret
    exact ⟨_, rfl, fin.out, hbw⟩
   · have hall2 : Hid (∀ j (hj : j < l.length), j < k + 1 → l[j] ≠ s) := by
     have : ∀ j (hj : j < l.length), j < k + 1 → l[j] ≠ s := by
      intro j hj hjk
      by_cases ej : j = k
      · subst ej; exact e
      · exact hall.out j hj (by omega)
     exact this
    have hq := txt_other e
    clear HX e
    generalize l[k] = x at c0 hq
    go_wp2
    go_roundw
    case rel => exact ⟨k + 1, by omega, by go_num, hall2, hbw⟩
    case measure => simp [intOf]; omega
  · have fin : Hid (AtIs l s (-1)) := Or.inl ⟨rfl, fun hmem => by
    obtain ⟨j, hj, e⟩ := List.getElem_of_mem hmem
    exact hall.out j hj (by omega) e⟩
   go_wp2
   go_ret
   exact ⟨_, rfl, fin.out, hbw⟩
theorem StrsAt.take {w : World} {a : Option Addr} {l : List ByteArray} (h : StrsAt w a l) (k : Nat) : StrsAt w a (l.take k) := by
 intro j hj
 have hj' : j < l.length := by rw [List.length_take] at hj; omega
 rw [List.getElem_take]
 exact h j hj'
theorem at_specN (n : Nat) (a : Option Addr) (cap : Nat) (l : List ByteArray) (hn : l.length = n) (s : ByteArray) (w : World) (hrow : StrsAt w a l) (hm : n ≤ maxLen) :
  Calls Tryz.prog 38 #[.slice a n cap, .string s] w fun e w' => ∃ r, e = .returned (.int .i64 r) ∧ AtIs l s r ∧ Below w.heap.size w w' := by
 subst hn; exact at_spec a cap l s w hrow hm
set_option maxRecDepth 100000 in
set_option maxHeartbeats 2000000 in
theorem names_spec (a : Option Addr) (cap : Nat) (l : List ByteArray) (least most : Int) (w : World) (hrow : StrsAt w a l) (hfit : FitS l) (hm : l.length ≤ maxLen) (hcap : l.length ≤ cap) (b : Bool) (hb : namesB l least most = b) :
  Calls Tryz.prog 34 #[.slice a l.length cap, .int .i64 least, .int .i64 most] w fun e w' => e = .returned (.bool b) ∧ Below w.heap.size w w' := by
 have HR := hid hrow
 have HF := hid hfit
 have HB := hid hb
 clear hrow hfit hb
 have hmm := hm
 unfold maxLen at hm
 go_enter Tryz.func34, Tryz.ntmps34
 go_wp2
 go_loopw [7] (fun kk wr => ∃ k : Nat, k ≤ l.length ∧ kk = .int .i64 k ∧ Hid (namesD (l.take k) = true) ∧ Below w.heap.size w wr) (fun kk _ => l.length - (intOf kk).toNat)
 case atStart => exact ⟨0, Nat.zero_le _, rfl, rfl, Below.refl _ _⟩
 case round =>
  obtain ⟨k, hk, rfl, hall, hbw⟩ := hrel
  by_cases hlt : k < l.length
  · have HW : Hid (StrsAt wr a l) := HR.out.below hbw
   obtain ⟨g, o, rfl, hgw, c0⟩ := HW.out k hlt
   have hi0 : (0 : Int) ≤ (k : Int) := by omega
   have hi1 : (k : Int) < (l.length : Int) := by omega
   have hkc : (k : Int) ≤ (cap : Int) := by omega
   have hft := HF.out k hlt
   have hsn := namesD_snoc l k hlt
   rw [hall.out, Bool.true_and] at hsn
   have HS := hid hsn
   have hno : Hid (namesD (l.take (k + 1)) = false → b = false) := by
    have : namesD (l.take (k + 1)) = false → b = false := by
     intro e
     rw [← HB.out]
     unfold namesB
     rw [namesD_no l (k + 1) e, Bool.false_and]
    exact this
   have HT : Hid ((l.take k).length = k) := by
    have : (l.take k).length = k := by rw [List.length_take]; omega
    exact this
   clear hsn
   obtain ⟨r, hr⟩ : ∃ r, nameB l[k] = r := ⟨_, rfl⟩
   generalize l[k] = x at c0 hft HS hr
   have HRR := hid hr
   clear hr
   go_wp2_with fail
   refine wp_region_held_drew (S := (fun w' => w'.cell? ⟨g, o + k, none⟩ = some (.string x))) (by kernel_rfl) ?_ (fun hHeld => ?_)
   · (((try dsimp only); (repeat' apply And.intro) <;> first | (go_keep; done) | (simp (disch := first | omega | (simp <;> omega) | fail) [*]; done) | fail))
   refine tkH 0 ?_
   simp only [Act.put, ptT, ptZ, ptS]
   refine tkH 1 ?_
   simp only [Act.put, ptT, ptZ, ptS]
   refine tkH 2 ?_
   simp only [Act.put, ptT, ptZ, ptS]
   refine tkH 3 ?_
   simp only [Act.put, ptT, ptZ, ptS]
   refine oneH 4 ?_
   intro K hK
   go_simp
   refine (name_spec x _ hft r HRR.out).mono ?_
   rintro e wA ⟨rfl, rfl⟩
   cases r
   · go_wp2_with fail
    refine hK.out _ _ ?_ (fun hHeld => ?_)
    · (((try dsimp only); (repeat' apply And.intro) <;> first | (go_keep; done) | (simp (disch := first | omega | (simp <;> omega) | fail) [*]; done) | fail))
    clear hK K
    try simp only [Act.put, ptT, ptZ, ptS]
    refine tkH 5 ?_
    simp only [Act.put, ptT, ptZ, ptS]
    refine tkH 6 ?_
    simp only [Act.put, ptT, ptZ, ptS]
    refine skH 7 ?_
    simp only [Act.put, ptT, ptZ, ptS]
    refine skH 8 ?_
    simp only [Act.put, ptT, ptZ, ptS]
    refine skH 9 ?_
    simp only [Act.put, ptT, ptZ, ptS]
    refine skH 10 ?_
    simp only [Act.put, ptT, ptZ, ptS]
    refine skH 11 ?_
    simp only [Act.put, ptT, ptZ, ptS]
    refine skH 12 ?_
    simp only [Act.put, ptT, ptZ, ptS]
    refine skH 13 ?_
    simp only [Act.put, ptT, ptZ, ptS]
    refine skH 14 ?_
    simp only [Act.put, ptT, ptZ, ptS]
    refine skH 15 ?_
    simp only [Act.put, ptT, ptZ, ptS]
    refine tkH 16 ?_
    simp only [Act.put, ptT, ptZ, ptS]
    refine wpAnyH_done (by kernel_rfl) ?_ _
    have e := hno.out (by rw [HS.out, HRR.out]; rfl)
    subst e
    go_wp2
    go_ret
    exact ⟨rfl, hbw.drew⟩
   · go_wp2_with fail
    refine hK.out _ _ ?_ (fun hHeld => ?_)
    · (((try dsimp only); (repeat' apply And.intro) <;> first | (go_keep; done) | (simp (disch := first | omega | (simp <;> omega) | fail) [*]; done) | fail))
    clear hK K
    try simp only [Act.put, ptT, ptZ, ptS]
    refine tkH 5 ?_
    simp only [Act.put, ptT, ptZ, ptS]
    refine tkH 6 ?_
    simp only [Act.put, ptT, ptZ, ptS]
    refine tkH 7 ?_
    simp only [Act.put, ptT, ptZ, ptS]
    refine tkH 8 ?_
    simp only [Act.put, ptT, ptZ, ptS]
    refine tkH 9 ?_
    simp only [Act.put, ptT, ptZ, ptS]
    refine tkH 10 ?_
    simp only [Act.put, ptT, ptZ, ptS]
    refine tkH 11 ?_
    simp only [Act.put, ptT, ptZ, ptS]
    refine tkH 12 ?_
    simp only [Act.put, ptT, ptZ, ptS]
    refine tkH 13 ?_
    simp only [Act.put, ptT, ptZ, ptS]
    refine oneH 14 ?_
    intro K hK
    go_simp
    refine (at_specN k _ _ (l.take k) HT.out x _ ((HW.out.take k).below (Below.refl wr.heap.size wr).drew) (by unfold maxLen; omega)).mono ?_
    rintro e wA ⟨r, rfl, hat, hbA⟩
    have hat0 := hid hat
    clear hat
    obtain ⟨hca, hfa⟩ := bcell hbA
    have hza := hbA.size
    try simp at hza
    have hxA : Below w.heap.size w wA := chain hbw (undrew hbA)
    have yA : g < wA.heap.size := by omega
    go_wp2_with fail
    refine hK.out _ _ ?_ (fun hHeld => ?_)
    · (((try dsimp only); (repeat' apply And.intro) <;> first | (go_keep; done) | (simp (disch := first | omega | (simp <;> omega) | fail) [*]; done) | fail))
    clear hK K
    try simp only [Act.put, ptT, ptZ, ptS]
    by_cases hr0 : 0 ≤ r
    · skip
     refine tkH 15 ?_
     simp only [Act.put, ptT, ptZ, ptS]
     refine tkH 16 ?_
     simp only [Act.put, ptT, ptZ, ptS]
     refine wpAnyH_done (by kernel_rfl) ?_ _
     have e := hno.out (by rw [HS.out, HRR.out, inB_iff.2 (hat0.out.neg.1 hr0)]; rfl)
     subst e
     go_wp2
     go_ret
     exact ⟨rfl, hxA⟩
    · have hr1 : r < 0 := by omega
     refine tkH 15 ?_
     simp only [Act.put, ptT, ptZ, ptS]
     refine tkH 16 ?_
     simp only [Act.put, ptT, ptZ, ptS]
     refine wpAnyH_done (by kernel_rfl) ?_ _
     have hall2 : Hid (namesD (l.take (k + 1)) = true) := by
      have : namesD (l.take (k + 1)) = true := by
       rw [HS.out, HRR.out, inB_no.2 (fun h => hr0 (hat0.out.neg.2 h))]; rfl
      exact this
     go_wp2
     go_roundw
     case rel => exact ⟨k + 1, by omega, by go_num, hall2, hxA⟩
     case measure => simp [intOf]; omega
  · have hkl : k = l.length := by omega
   subst hkl
   have fin : Hid ((decide (least ≤ (l.length : Int)) && decide ((l.length : Int) ≤ most)) = b) := by
    have : (decide (least ≤ (l.length : Int)) && decide ((l.length : Int) ≤ most)) = b := by
     rw [← HB.out]; unfold namesB
     have := hall.out
     rw [List.take_length] at this
     rw [this, Bool.true_and]
    exact this
   go_wp2_with fail
   refine (in_spec _ _ _ _).mono ?_
   rintro e w' ⟨rfl, rfl⟩
   rw [fin.out]
   go_wp2
   go_ret
   exact ⟨rfl, hbw⟩
end Go.Proofs.YtjjkdbmjloolaaaGreatDoor
namespace Go.Proofs.YtjjkdbmjloolaaaGreatDoor
open Go.ChangeShapes Go.WideShapes Go.ChangeAt Go.RowKit
theorem box5 {w w1 : World} {a b c d e : Value} {T : TypeId} (h : Below (w.alloc (.cells #[a, b, c, d, e] T)).heap.size (w.alloc (.cells #[a, b, c, d, e] T)) w1) :
  w1.cell? ⟨w.heap.size, 0, none⟩ = some a ∧ w1.cell? ⟨w.heap.size, 1, none⟩ = some b ∧ w1.cell? ⟨w.heap.size, 2, none⟩ = some c ∧ w1.cell? ⟨w.heap.size, 3, none⟩ = some d ∧ w1.cell? ⟨w.heap.size, 4, none⟩ = some e ∧ w.heap.size < w1.heap.size := by
 have hs := h.size
 have key : ∀ o, w1.cell? ⟨w.heap.size, o, none⟩ = (w.alloc (.cells #[a, b, c, d, e] T)).cell? ⟨w.heap.size, o, none⟩ := fun o => h.cell (p := ⟨w.heap.size, o, none⟩) (by simp)
 simp only [key]
 refine ⟨?_, ?_, ?_, ?_, ?_, by simp at hs; omega⟩ <;> simp [World.cell?_alloc_at]
end Go.Proofs.YtjjkdbmjloolaaaGreatDoor
namespace Go.Proofs.YtjjkdbmjloolaaaGreatDoor
open Go.ChangeShapes Go.WideShapes Go.ChangeAt Go.RowKit
attribute [local go_sem ↓] Go.wp_at_zero Go.wp_at_succ
def lessB (k1 n1 : Int) (t1 : ByteArray) (k2 n2 : Int) (t2 : ByteArray) : Bool :=
 if (k1 != k2) = true then decide (k1 < k2) else if (n1 != n2) = true then decide (n1 < n2) else Op.bytesLess t1.toList t2.toList
end Go.Proofs.YtjjkdbmjloolaaaGreatDoor
