/-
  A part of the proof: ShMath, ShI1, ShI2.
-/
import Derived.Test.YtjjkdbmjloolaaaGreatDoorPart10
import Derived.Test.YtjjkdbmjloolaaaGreatDoorPart24
import Derived.Test.YtjjkdbmjloolaaaGreatDoorIter
import Derived.Test.YtjjkdbmjloolaaaGreatDoorPart3
import Derived.Laws.IdiomCopy

namespace Go.Proofs.YtjjkdbmjloolaaaGreatDoor
open Go.Maps
abbrev leB2 : List UInt8 → List UInt8 → Bool := fun x y => decide (x ≤ y)
def ofB (x : List UInt8) : ByteArray := ⟨x.toArray⟩
def srt (ks : List ByteArray) : List ByteArray := ((ks.map (fun s => s.data.toList)).mergeSort leB2).map ofB
theorem map_bytes_srt (ks : List ByteArray) : (srt ks).map (fun s => s.data.toList) = (ks.map (fun s => s.data.toList)).mergeSort leB2 := by
 unfold srt
 rw [List.map_map]
 exact List.map_id _
theorem srt_perm (ks : List ByteArray) : (srt ks).Perm ks := by
 have h := (List.mergeSort_perm (ks.map (fun s => s.data.toList)) leB2).map ofB
 have e : (ks.map (fun s => s.data.toList)).map ofB = ks := by rw [List.map_map]; exact List.map_id _
 rw [e] at h
 exact h
theorem srt_length (ks : List ByteArray) : (srt ks).length = ks.length := (srt_perm ks).length_eq
def ltN (x y : ByteArray) : Prop := Op.bytesLess x.toList y.toList = true
theorem risesN_iff (l : List ByteArray) : risesN l = true ↔ l.Pairwise ltN := by
 induction l with
 | nil => exact ⟨fun _ => List.Pairwise.nil, fun _ => rfl⟩
 | cons x l ih =>
  cases l with
  | nil => exact ⟨fun _ => List.pairwise_singleton _ _, fun _ => rfl⟩
  | cons y l =>
   have e : risesN (x :: y :: l) = (Op.bytesLess x.toList y.toList && risesN (y :: l)) := rfl
   rw [e, Bool.and_eq_true, ih]
   constructor
   · intro ⟨h1, h2⟩
    refine List.pairwise_cons.2 ⟨fun z hz => ?_, h2⟩
    rcases List.mem_cons.1 hz with rfl | hz
    · exact h1
    · exact bl_trans h1 ((List.pairwise_cons.1 h2).1 z hz)
   · intro h
    obtain ⟨h1, h2⟩ := List.pairwise_cons.1 h
    exact ⟨h1 y (by simp), h2⟩
theorem lt_le {x y : ByteArray} (h : ltN x y) : leB2 x.data.toList y.data.toList = true := by
 unfold ltN at h
 rw [bytesLess_eq, decide_eq_true_iff, Lib.toList_data, Lib.toList_data] at h
 exact decide_eq_true (List.le_of_lt h)
theorem rises_nodup {l : List ByteArray} (h : risesN l = true) : l.Nodup := by
 refine ((risesN_iff l).1 h).imp fun {a b} hlt e => ?_
 subst e
 have := bl_irr a
 unfold ltN at hlt
 rw [hlt] at this
 cases this
theorem leB2_trans (a b c : List UInt8) (h1 : leB2 a b = true) (h2 : leB2 b c = true) : leB2 a c = true := by
 simp only [leB2, decide_eq_true_eq] at *; exact List.le_trans h1 h2
theorem leB2_total (a b : List UInt8) : (leB2 a b || leB2 b a) = true := by
 simp only [leB2, Bool.or_eq_true, decide_eq_true_eq]; exact List.le_total a b
theorem srt_is {ks V : List ByteArray} (hV : risesN V = true) (hp : V.Perm ks) : srt ks = V := by
 have e : (ks.map (fun s => s.data.toList)).mergeSort leB2 = V.map (fun s => s.data.toList) := by
  refine List.Perm.eq_of_pairwise (le := fun a b => leB2 a b = true) (fun a b _ _ h1 h2 => ?_) (List.pairwise_mergeSort leB2_trans leB2_total _) ?_ ((List.mergeSort_perm _ leB2).trans (hp.map _).symm)
  · simp only [leB2, decide_eq_true_eq] at h1 h2
   exact List.le_antisymm h1 h2
  · exact List.pairwise_map.2 (((risesN_iff V).1 hV).imp fun h => lt_le h)
 unfold srt
 rw [e, List.map_map]
 exact List.map_id _
theorem rises_srt {ks : List ByteArray} (h : ks.Nodup) : risesN (srt ks) = true := by
 rw [risesN_iff]
 have h1 : (srt ks).Nodup := (srt_perm ks).nodup_iff.2 h
 have h2 : (srt ks).Pairwise (fun x y => leB2 x.data.toList y.data.toList = true) := by
  have := List.pairwise_mergeSort leB2_trans leB2_total (ks.map (fun s => s.data.toList))
  rw [← map_bytes_srt] at this
  exact List.pairwise_map.1 this
 refine (h1.and h2).imp fun {a b} hh => ?_
 obtain ⟨hne, hle⟩ := hh
 unfold ltN
 rw [bytesLess_eq, decide_eq_true_iff, Lib.toList_data, Lib.toList_data]
 simp only [leB2, decide_eq_true_eq] at hle
 by_cases hlt : a.data.toList < b.data.toList
 · exact hlt
 · exact absurd (ByteArray.ext (Array.toList_inj.1 (List.le_antisymm hle (List.not_lt.1 hlt)))) hne
def ksOf (l : List ByteArray) : List ByteArray := l.foldl putK []
theorem ksOf_snoc (l : List ByteArray) (x : ByteArray) : ksOf (l ++ [x]) = putK (ksOf l) x := by simp [ksOf, List.foldl_append]
theorem ksOf_nodup (l : List ByteArray) : (ksOf l).Nodup := by
 suffices ∀ (l acc : List ByteArray), acc.Nodup → (l.foldl putK acc).Nodup from this l [] List.nodup_nil
 intro l
 induction l with
 | nil => intro acc h; exact h
 | cons x l ih => intro acc h; exact ih _ (nodup_putK h x)
theorem putK_length (ks : List ByteArray) (s : ByteArray) : (putK ks s).length ≤ ks.length + 1 := by
 unfold putK; split <;> simp
theorem ksOf_length (l : List ByteArray) : (ksOf l).length ≤ l.length := by
 suffices ∀ (l acc : List ByteArray), (l.foldl putK acc).length ≤ acc.length + l.length by simpa [ksOf] using this l []
 intro l
 induction l with
 | nil => intro acc; exact Nat.le_refl _
 | cons x l ih =>
  intro acc
  have := ih (putK acc x)
  have := putK_length acc x
  simp only [List.foldl_cons, List.length_cons]
  omega
theorem ksOf_self {l : List ByteArray} (h : l.Nodup) : ksOf l = l := by
 suffices ∀ (l acc : List ByteArray), (acc ++ l).Nodup → l.foldl putK acc = acc ++ l by simpa [ksOf] using this l [] (by simpa using h)
 intro l
 induction l with
 | nil => intro acc _; simp
 | cons x l ih =>
  intro acc h
  have hx : x ∉ acc := by
   intro hm
   exact (List.nodup_append.1 h).2.2 x hm x (by simp) rfl
  rw [List.foldl_cons, show putK acc x = acc ++ [x] from if_neg hx, ih _ (by simpa using h)]
  simp
theorem mem_ksOf (l : List ByteArray) (s : ByteArray) : s ∈ ksOf l ↔ s ∈ l := by
 suffices ∀ (l acc : List ByteArray), s ∈ l.foldl putK acc ↔ (s ∈ acc ∨ s ∈ l) by simpa [ksOf] using this l []
 intro l
 induction l with
 | nil => intro acc; simp
 | cons x l ih =>
  intro acc
  rw [List.foldl_cons, ih, mem_putK, List.mem_cons]
  constructor
  · rintro ((h | h) | h)
   · exact .inr (.inl h)
   · exact .inl h
   · exact .inr (.inr h)
  · rintro (h | h | h)
   · exact .inl (.inr h)
   · exact .inl (.inl h)
   · exact .inr h
theorem given_sorted (l : List ByteArray) : (l = srt (ksOf l)) ↔ risesN l = true := by
 constructor
 · intro e
  rw [e]; exact rises_srt (ksOf_nodup l)
 · intro h
  rw [ksOf_self (rises_nodup h), srt_is h (List.Perm.refl _)]
end Go.Proofs.YtjjkdbmjloolaaaGreatDoor
namespace Go.Proofs.YtjjkdbmjloolaaaGreatDoor
open Go.ChangeShapes Go.WideShapes Go.ChangeAt Go.RowKit Go.Maps Go.Sort Go.Shelf
attribute [local go_sem ↓] Go.wp_at_zero Go.wp_at_succ
theorem srt_perm_sort {ss : List (List UInt8)} {ks : List ByteArray} (h : ss.Perm (ks.map (fun s => s.data.toList))) : (ss.mergeSort (fun x y => decide (x ≤ y))).map encStr = strV (srt ks) := by
 have e : ss.mergeSort (fun x y => decide (x ≤ y)) = (ks.map (fun s => s.data.toList)).mergeSort leB2 := mergeSort_of_perm h
 rw [e]
 unfold srt strV
 rw [List.map_map]
 rfl
set_option maxHeartbeats 1000000 in
theorem names_impl (B n : Nat) (ks : List ByteArray) (f : ByteArray → Value) (w : World) (h : ShelfAt w B n ks f) (hm : ks.length ≤ 1048576) :
  Calls Tryz.prog 97 #[.map (some B)] w fun e w' => ∃ v, e = .returned v ∧ w'.ownsRow w.heap.size 9 1 v ks.length (strV (srt ks)) ∧ (v = .slice none 0 0 ↔ ks = []) ∧ Below w.heap.size w w' := by
 obtain ⟨D, hown, S⟩ := h
 have hz := size_keys hown S
 have hp := strs_of_keys hown S
 have hmax : Maps.size D ≤ maxLen := by rw [hz]; unfold maxLen; omega
 have hbytes : Maps.size D * 16 ≤ 140737488355328 := by rw [hz]; omega
 refine (callsIn_wide (n := 6)).1 ?_
 have hfK : Fence.wide.fn 124 := trivial
 have hfS : Fence.wide.fn 123 := trivial
 refine callsIn_of_wp Tryz.func97 rfl trivial ?_ rfl
 simp only [Tryz.ntmps97, List.size_toArray, List.length_cons, List.length_nil, Nat.reduceAdd, Nat.reduceSub, Array.replicate_succ, Array.replicate_zero, List.push_toArray, List.append_toArray, List.nil_append, List.cons_append]
 gi_wp2_with (first
  | (gi_at_call 124; refine (Tryz.maps_Keys_124 _ _).mono ?_; rintro e w' ⟨rfl, rfl⟩)
  | (gi_at_call 123; refine (Tryz.slices_Sorted_keys_123_124 B n D tokR w hown hmax hbytes).mono ?_; rintro e w' ⟨v, ss, rfl, hS, hrow, hnil, hb⟩))
 go_ret
 have hperm := hS.trans hp.symm
 have hlen : ss.length = ks.length := by rw [hperm.length_eq, List.length_map]
 refine ⟨v, rfl, ?_, ?_, ((Below.refl _ w).alloc (Nat.le_refl _) _).trans (hb.mono (by simp))⟩
 · rw [srt_perm_sort hperm, hlen] at hrow
  exact ownsRow_base_a hrow (by simp)
 · rw [hnil]
  constructor
  · intro e; subst e; exact List.eq_nil_of_length_eq_zero (by rw [← hlen]; rfl)
  · intro e; subst e; exact List.eq_nil_of_length_eq_zero (by rw [hlen]; rfl)
end Go.Proofs.YtjjkdbmjloolaaaGreatDoor
namespace Go.Proofs.YtjjkdbmjloolaaaGreatDoor
open Go.ChangeShapes Go.WideShapes Go.ChangeAt Go.RowKit
attribute [local go_sem ↓] Go.wp_at_zero Go.wp_at_succ
attribute [local simp] World.cell?_alloc_past World.cell?_alloc_at World.frozen?_alloc_at cell_far cell_off cell_here World.frozen?_alloc_past
def ordV (n : Int) (a b c d e : ByteArray) : Value := .agg #[.int .i64 n, .string a, .string b, .string c, .string d, .string e]
theorem info_str1 : (Tryz.prog.info? 9).map (fun i => i.size) = some 1 := by kernel_rfl
set_option maxRecDepth 100000 in
set_option maxHeartbeats 2000000 in
theorem order0 (a : Option Addr) (cap : Nat) (w : World) :
  Calls Tryz.prog 96 #[.slice a 0 cap] w fun e w' => e = .returned (ordV 0 ⟨#[]⟩ ⟨#[]⟩ ⟨#[]⟩ ⟨#[]⟩ ⟨#[]⟩) ∧ Below w.heap.size w w' := by
 have h2 : Below w.heap.size w ((w.alloc (.cells #[.int .i64 0, .string ⟨#[]⟩, .string ⟨#[]⟩, .string ⟨#[]⟩, .string ⟨#[]⟩, .string ⟨#[]⟩] 150)).alloc (.cells #[.int .i64 0, .string ⟨#[]⟩, .string ⟨#[]⟩, .string ⟨#[]⟩, .string ⟨#[]⟩, .string ⟨#[]⟩] 150)) := ((Below.refl _ _).alloc (Nat.le_refl _) _).alloc (by simp) _
 have hcp : ∀ ty, (Builtin.copy_ #[22, 22] ty #[.slice (some ⟨w.heap.size + 1, 1, none⟩) 5 5, .slice a 0 cap]).run Tryz.prog ((w.alloc (.cells #[.int .i64 0, .string ⟨#[]⟩, .string ⟨#[]⟩, .string ⟨#[]⟩, .string ⟨#[]⟩, .string ⟨#[]⟩] 150)).alloc (.cells #[.int .i64 0, .string ⟨#[]⟩, .string ⟨#[]⟩, .string ⟨#[]⟩, .string ⟨#[]⟩, .string ⟨#[]⟩] 150)) = .ok (goInt 0) ((w.alloc (.cells #[.int .i64 0, .string ⟨#[]⟩, .string ⟨#[]⟩, .string ⟨#[]⟩, .string ⟨#[]⟩, .string ⟨#[]⟩] 150)).alloc (.cells #[.int .i64 0, .string ⟨#[]⟩, .string ⟨#[]⟩, .string ⟨#[]⟩, .string ⟨#[]⟩, .string ⟨#[]⟩] 150)) := fun ty => run_copy_none _ 22 22 ty 9 _ _ 5 5 0 cap Tryz.underlying22 info_str1 rfl
 go_enter Tryz.func96, Tryz.ntmps96
 go_wp2
 exact bodyPost_ret (v := ordV 0 ⟨#[]⟩ ⟨#[]⟩ ⟨#[]⟩ ⟨#[]⟩ ⟨#[]⟩) (by simp [results, Tryz.results96, go_sem, ordV]) rfl ⟨rfl, ((Below.refl _ _).alloc (Nat.le_refl _) _).alloc (by simp) _⟩
set_option maxRecDepth 100000 in
set_option maxHeartbeats 2000000 in
theorem order1 (b o cap : Nat) (x0 : ByteArray) (w : World) (hb : b < w.heap.size) (c0 : w.cell? ⟨b, o, none⟩ = some (.string x0)) :
  Calls Tryz.prog 96 #[.slice (some ⟨b, o, none⟩) 1 cap] w fun e w' => e = .returned (ordV 1 x0 ⟨#[]⟩ ⟨#[]⟩ ⟨#[]⟩ ⟨#[]⟩) ∧ Below w.heap.size w w' := by
 have h2 : Below w.heap.size w ((w.alloc (.cells #[.int .i64 0, .string ⟨#[]⟩, .string ⟨#[]⟩, .string ⟨#[]⟩, .string ⟨#[]⟩, .string ⟨#[]⟩] 150)).alloc (.cells #[.int .i64 1, .string ⟨#[]⟩, .string ⟨#[]⟩, .string ⟨#[]⟩, .string ⟨#[]⟩, .string ⟨#[]⟩] 150)) := ((Below.refl _ _).alloc (Nat.le_refl _) _).alloc (by simp) _
 have hcp : ∀ ty, (Builtin.copy_ #[22, 22] ty #[.slice (some ⟨w.heap.size + 1, 1, none⟩) 5 5, .slice (some ⟨b, o, none⟩) 1 cap]).run Tryz.prog ((w.alloc (.cells #[.int .i64 0, .string ⟨#[]⟩, .string ⟨#[]⟩, .string ⟨#[]⟩, .string ⟨#[]⟩, .string ⟨#[]⟩] 150)).alloc (.cells #[.int .i64 1, .string ⟨#[]⟩, .string ⟨#[]⟩, .string ⟨#[]⟩, .string ⟨#[]⟩, .string ⟨#[]⟩] 150)) = .ok (goInt 1) (((w.alloc (.cells #[.int .i64 0, .string ⟨#[]⟩, .string ⟨#[]⟩, .string ⟨#[]⟩, .string ⟨#[]⟩, .string ⟨#[]⟩] 150)).alloc (.cells #[.int .i64 1, .string ⟨#[]⟩, .string ⟨#[]⟩, .string ⟨#[]⟩, .string ⟨#[]⟩, .string ⟨#[]⟩] 150)).setCells (w.heap.size + 1) 1 [.string x0]) := by
  intro ty
  refine run_copy_cells _ 22 22 ty 9 (w.heap.size + 1) 1 5 5 ⟨b, o, none⟩ 1 cap [.string x0] Tryz.underlying22 info_str1 rfl ?_ ?_ ?_ ?_
  · intro j v hj
   match j, hj with
   | 0, hj => simp at hj; subst hj; exact (h2.cell (p := ⟨b, o, none⟩) hb).trans c0
  · intro j hj
   match j, hj with
   | 0, _ => simp
  · intro j hj
   match j, hj with
   | 0, _ => simp
  · intro v hv; simp at hv; subst hv; rfl
 simp only [World.setCells] at hcp
 go_enter Tryz.func96, Tryz.ntmps96
 go_wp2
 exact bodyPost_ret (v := ordV 1 x0 ⟨#[]⟩ ⟨#[]⟩ ⟨#[]⟩ ⟨#[]⟩) (by simp [results, Tryz.results96, go_sem, ordV]) rfl ⟨rfl, ((Below.refl _ _).alloc (Nat.le_refl _) _).alloc (by simp) _⟩
set_option maxRecDepth 100000 in
set_option maxHeartbeats 2000000 in
theorem order2 (b o cap : Nat) (x0 x1 : ByteArray) (w : World) (hb : b < w.heap.size) (c0 : w.cell? ⟨b, o, none⟩ = some (.string x0)) (c1 : w.cell? ⟨b, o + 1, none⟩ = some (.string x1)) :
  Calls Tryz.prog 96 #[.slice (some ⟨b, o, none⟩) 2 cap] w fun e w' => e = .returned (ordV 2 x0 x1 ⟨#[]⟩ ⟨#[]⟩ ⟨#[]⟩) ∧ Below w.heap.size w w' := by
 have h2 : Below w.heap.size w ((w.alloc (.cells #[.int .i64 0, .string ⟨#[]⟩, .string ⟨#[]⟩, .string ⟨#[]⟩, .string ⟨#[]⟩, .string ⟨#[]⟩] 150)).alloc (.cells #[.int .i64 2, .string ⟨#[]⟩, .string ⟨#[]⟩, .string ⟨#[]⟩, .string ⟨#[]⟩, .string ⟨#[]⟩] 150)) := ((Below.refl _ _).alloc (Nat.le_refl _) _).alloc (by simp) _
 have hcp : ∀ ty, (Builtin.copy_ #[22, 22] ty #[.slice (some ⟨w.heap.size + 1, 1, none⟩) 5 5, .slice (some ⟨b, o, none⟩) 2 cap]).run Tryz.prog ((w.alloc (.cells #[.int .i64 0, .string ⟨#[]⟩, .string ⟨#[]⟩, .string ⟨#[]⟩, .string ⟨#[]⟩, .string ⟨#[]⟩] 150)).alloc (.cells #[.int .i64 2, .string ⟨#[]⟩, .string ⟨#[]⟩, .string ⟨#[]⟩, .string ⟨#[]⟩, .string ⟨#[]⟩] 150)) = .ok (goInt 2) (((w.alloc (.cells #[.int .i64 0, .string ⟨#[]⟩, .string ⟨#[]⟩, .string ⟨#[]⟩, .string ⟨#[]⟩, .string ⟨#[]⟩] 150)).alloc (.cells #[.int .i64 2, .string ⟨#[]⟩, .string ⟨#[]⟩, .string ⟨#[]⟩, .string ⟨#[]⟩, .string ⟨#[]⟩] 150)).setCells (w.heap.size + 1) 1 [.string x0, .string x1]) := by
  intro ty
  refine run_copy_cells _ 22 22 ty 9 (w.heap.size + 1) 1 5 5 ⟨b, o, none⟩ 2 cap [.string x0, .string x1] Tryz.underlying22 info_str1 rfl ?_ ?_ ?_ ?_
  · intro j v hj
   match j, hj with
   | 0, hj => simp at hj; subst hj; exact (h2.cell (p := ⟨b, o, none⟩) hb).trans c0
   | 1, hj => simp at hj; subst hj; exact (h2.cell (p := ⟨b, o + 1, none⟩) hb).trans c1
  · intro j hj
   match j, hj with
   | 0, _ => simp
   | 1, _ => simp
  · intro j hj
   match j, hj with
   | 0, _ => simp
   | 1, _ => simp
  · intro v hv; simp at hv; rcases hv with rfl | rfl <;> rfl
 simp only [World.setCells] at hcp
 go_enter Tryz.func96, Tryz.ntmps96
 go_wp2
 exact bodyPost_ret (v := ordV 2 x0 x1 ⟨#[]⟩ ⟨#[]⟩ ⟨#[]⟩) (by simp [results, Tryz.results96, go_sem, ordV]) rfl ⟨rfl, ((Below.refl _ _).alloc (Nat.le_refl _) _).alloc (by simp) _⟩
set_option maxRecDepth 100000 in
set_option maxHeartbeats 2000000 in
theorem order3 (b o cap : Nat) (x0 x1 x2 : ByteArray) (w : World) (hb : b < w.heap.size) (c0 : w.cell? ⟨b, o, none⟩ = some (.string x0)) (c1 : w.cell? ⟨b, o + 1, none⟩ = some (.string x1)) (c2 : w.cell? ⟨b, o + 2, none⟩ = some (.string x2)) :
  Calls Tryz.prog 96 #[.slice (some ⟨b, o, none⟩) 3 cap] w fun e w' => e = .returned (ordV 3 x0 x1 x2 ⟨#[]⟩ ⟨#[]⟩) ∧ Below w.heap.size w w' := by
 have h2 : Below w.heap.size w ((w.alloc (.cells #[.int .i64 0, .string ⟨#[]⟩, .string ⟨#[]⟩, .string ⟨#[]⟩, .string ⟨#[]⟩, .string ⟨#[]⟩] 150)).alloc (.cells #[.int .i64 3, .string ⟨#[]⟩, .string ⟨#[]⟩, .string ⟨#[]⟩, .string ⟨#[]⟩, .string ⟨#[]⟩] 150)) := ((Below.refl _ _).alloc (Nat.le_refl _) _).alloc (by simp) _
 have hcp : ∀ ty, (Builtin.copy_ #[22, 22] ty #[.slice (some ⟨w.heap.size + 1, 1, none⟩) 5 5, .slice (some ⟨b, o, none⟩) 3 cap]).run Tryz.prog ((w.alloc (.cells #[.int .i64 0, .string ⟨#[]⟩, .string ⟨#[]⟩, .string ⟨#[]⟩, .string ⟨#[]⟩, .string ⟨#[]⟩] 150)).alloc (.cells #[.int .i64 3, .string ⟨#[]⟩, .string ⟨#[]⟩, .string ⟨#[]⟩, .string ⟨#[]⟩, .string ⟨#[]⟩] 150)) = .ok (goInt 3) (((w.alloc (.cells #[.int .i64 0, .string ⟨#[]⟩, .string ⟨#[]⟩, .string ⟨#[]⟩, .string ⟨#[]⟩, .string ⟨#[]⟩] 150)).alloc (.cells #[.int .i64 3, .string ⟨#[]⟩, .string ⟨#[]⟩, .string ⟨#[]⟩, .string ⟨#[]⟩, .string ⟨#[]⟩] 150)).setCells (w.heap.size + 1) 1 [.string x0, .string x1, .string x2]) := by
  intro ty
  refine run_copy_cells _ 22 22 ty 9 (w.heap.size + 1) 1 5 5 ⟨b, o, none⟩ 3 cap [.string x0, .string x1, .string x2] Tryz.underlying22 info_str1 rfl ?_ ?_ ?_ ?_
  · intro j v hj
   match j, hj with
   | 0, hj => simp at hj; subst hj; exact (h2.cell (p := ⟨b, o, none⟩) hb).trans c0
   | 1, hj => simp at hj; subst hj; exact (h2.cell (p := ⟨b, o + 1, none⟩) hb).trans c1
   | 2, hj => simp at hj; subst hj; exact (h2.cell (p := ⟨b, o + 2, none⟩) hb).trans c2
  · intro j hj
   match j, hj with
   | 0, _ => simp
   | 1, _ => simp
   | 2, _ => simp
  · intro j hj
   match j, hj with
   | 0, _ => simp
   | 1, _ => simp
   | 2, _ => simp
  · intro v hv; simp at hv; rcases hv with rfl | rfl | rfl <;> rfl
 simp only [World.setCells] at hcp
 go_enter Tryz.func96, Tryz.ntmps96
 go_wp2
 exact bodyPost_ret (v := ordV 3 x0 x1 x2 ⟨#[]⟩ ⟨#[]⟩) (by simp [results, Tryz.results96, go_sem, ordV]) rfl ⟨rfl, ((Below.refl _ _).alloc (Nat.le_refl _) _).alloc (by simp) _⟩
set_option maxRecDepth 100000 in
set_option maxHeartbeats 2000000 in
theorem order4 (b o cap : Nat) (x0 x1 x2 x3 : ByteArray) (w : World) (hb : b < w.heap.size) (c0 : w.cell? ⟨b, o, none⟩ = some (.string x0)) (c1 : w.cell? ⟨b, o + 1, none⟩ = some (.string x1)) (c2 : w.cell? ⟨b, o + 2, none⟩ = some (.string x2)) (c3 : w.cell? ⟨b, o + 3, none⟩ = some (.string x3)) :
  Calls Tryz.prog 96 #[.slice (some ⟨b, o, none⟩) 4 cap] w fun e w' => e = .returned (ordV 4 x0 x1 x2 x3 ⟨#[]⟩) ∧ Below w.heap.size w w' := by
 have h2 : Below w.heap.size w ((w.alloc (.cells #[.int .i64 0, .string ⟨#[]⟩, .string ⟨#[]⟩, .string ⟨#[]⟩, .string ⟨#[]⟩, .string ⟨#[]⟩] 150)).alloc (.cells #[.int .i64 4, .string ⟨#[]⟩, .string ⟨#[]⟩, .string ⟨#[]⟩, .string ⟨#[]⟩, .string ⟨#[]⟩] 150)) := ((Below.refl _ _).alloc (Nat.le_refl _) _).alloc (by simp) _
 have hcp : ∀ ty, (Builtin.copy_ #[22, 22] ty #[.slice (some ⟨w.heap.size + 1, 1, none⟩) 5 5, .slice (some ⟨b, o, none⟩) 4 cap]).run Tryz.prog ((w.alloc (.cells #[.int .i64 0, .string ⟨#[]⟩, .string ⟨#[]⟩, .string ⟨#[]⟩, .string ⟨#[]⟩, .string ⟨#[]⟩] 150)).alloc (.cells #[.int .i64 4, .string ⟨#[]⟩, .string ⟨#[]⟩, .string ⟨#[]⟩, .string ⟨#[]⟩, .string ⟨#[]⟩] 150)) = .ok (goInt 4) (((w.alloc (.cells #[.int .i64 0, .string ⟨#[]⟩, .string ⟨#[]⟩, .string ⟨#[]⟩, .string ⟨#[]⟩, .string ⟨#[]⟩] 150)).alloc (.cells #[.int .i64 4, .string ⟨#[]⟩, .string ⟨#[]⟩, .string ⟨#[]⟩, .string ⟨#[]⟩, .string ⟨#[]⟩] 150)).setCells (w.heap.size + 1) 1 [.string x0, .string x1, .string x2, .string x3]) := by
  intro ty
  refine run_copy_cells _ 22 22 ty 9 (w.heap.size + 1) 1 5 5 ⟨b, o, none⟩ 4 cap [.string x0, .string x1, .string x2, .string x3] Tryz.underlying22 info_str1 rfl ?_ ?_ ?_ ?_
  · intro j v hj
   match j, hj with
   | 0, hj => simp at hj; subst hj; exact (h2.cell (p := ⟨b, o, none⟩) hb).trans c0
   | 1, hj => simp at hj; subst hj; exact (h2.cell (p := ⟨b, o + 1, none⟩) hb).trans c1
   | 2, hj => simp at hj; subst hj; exact (h2.cell (p := ⟨b, o + 2, none⟩) hb).trans c2
   | 3, hj => simp at hj; subst hj; exact (h2.cell (p := ⟨b, o + 3, none⟩) hb).trans c3
  · intro j hj
   match j, hj with
   | 0, _ => simp
   | 1, _ => simp
   | 2, _ => simp
   | 3, _ => simp
  · intro j hj
   match j, hj with
   | 0, _ => simp
   | 1, _ => simp
   | 2, _ => simp
   | 3, _ => simp
  · intro v hv; simp at hv; rcases hv with rfl | rfl | rfl | rfl <;> rfl
 simp only [World.setCells] at hcp
 go_enter Tryz.func96, Tryz.ntmps96
 go_wp2
 exact bodyPost_ret (v := ordV 4 x0 x1 x2 x3 ⟨#[]⟩) (by simp [results, Tryz.results96, go_sem, ordV]) rfl ⟨rfl, ((Below.refl _ _).alloc (Nat.le_refl _) _).alloc (by simp) _⟩
set_option maxRecDepth 100000 in
set_option maxHeartbeats 2000000 in
theorem order5 (b o cap : Nat) (x0 x1 x2 x3 x4 : ByteArray) (w : World) (hb : b < w.heap.size) (c0 : w.cell? ⟨b, o, none⟩ = some (.string x0)) (c1 : w.cell? ⟨b, o + 1, none⟩ = some (.string x1)) (c2 : w.cell? ⟨b, o + 2, none⟩ = some (.string x2)) (c3 : w.cell? ⟨b, o + 3, none⟩ = some (.string x3)) (c4 : w.cell? ⟨b, o + 4, none⟩ = some (.string x4)) :
  Calls Tryz.prog 96 #[.slice (some ⟨b, o, none⟩) 5 cap] w fun e w' => e = .returned (ordV 5 x0 x1 x2 x3 x4) ∧ Below w.heap.size w w' := by
 have h2 : Below w.heap.size w ((w.alloc (.cells #[.int .i64 0, .string ⟨#[]⟩, .string ⟨#[]⟩, .string ⟨#[]⟩, .string ⟨#[]⟩, .string ⟨#[]⟩] 150)).alloc (.cells #[.int .i64 5, .string ⟨#[]⟩, .string ⟨#[]⟩, .string ⟨#[]⟩, .string ⟨#[]⟩, .string ⟨#[]⟩] 150)) := ((Below.refl _ _).alloc (Nat.le_refl _) _).alloc (by simp) _
 have hcp : ∀ ty, (Builtin.copy_ #[22, 22] ty #[.slice (some ⟨w.heap.size + 1, 1, none⟩) 5 5, .slice (some ⟨b, o, none⟩) 5 cap]).run Tryz.prog ((w.alloc (.cells #[.int .i64 0, .string ⟨#[]⟩, .string ⟨#[]⟩, .string ⟨#[]⟩, .string ⟨#[]⟩, .string ⟨#[]⟩] 150)).alloc (.cells #[.int .i64 5, .string ⟨#[]⟩, .string ⟨#[]⟩, .string ⟨#[]⟩, .string ⟨#[]⟩, .string ⟨#[]⟩] 150)) = .ok (goInt 5) (((w.alloc (.cells #[.int .i64 0, .string ⟨#[]⟩, .string ⟨#[]⟩, .string ⟨#[]⟩, .string ⟨#[]⟩, .string ⟨#[]⟩] 150)).alloc (.cells #[.int .i64 5, .string ⟨#[]⟩, .string ⟨#[]⟩, .string ⟨#[]⟩, .string ⟨#[]⟩, .string ⟨#[]⟩] 150)).setCells (w.heap.size + 1) 1 [.string x0, .string x1, .string x2, .string x3, .string x4]) := by
  intro ty
  refine run_copy_cells _ 22 22 ty 9 (w.heap.size + 1) 1 5 5 ⟨b, o, none⟩ 5 cap [.string x0, .string x1, .string x2, .string x3, .string x4] Tryz.underlying22 info_str1 rfl ?_ ?_ ?_ ?_
  · intro j v hj
   match j, hj with
   | 0, hj => simp at hj; subst hj; exact (h2.cell (p := ⟨b, o, none⟩) hb).trans c0
   | 1, hj => simp at hj; subst hj; exact (h2.cell (p := ⟨b, o + 1, none⟩) hb).trans c1
   | 2, hj => simp at hj; subst hj; exact (h2.cell (p := ⟨b, o + 2, none⟩) hb).trans c2
   | 3, hj => simp at hj; subst hj; exact (h2.cell (p := ⟨b, o + 3, none⟩) hb).trans c3
   | 4, hj => simp at hj; subst hj; exact (h2.cell (p := ⟨b, o + 4, none⟩) hb).trans c4
  · intro j hj
   match j, hj with
   | 0, _ => simp
   | 1, _ => simp
   | 2, _ => simp
   | 3, _ => simp
   | 4, _ => simp
  · intro j hj
   match j, hj with
   | 0, _ => simp
   | 1, _ => simp
   | 2, _ => simp
   | 3, _ => simp
   | 4, _ => simp
  · intro v hv; simp at hv; rcases hv with rfl | rfl | rfl | rfl | rfl <;> rfl
 simp only [World.setCells] at hcp
 go_enter Tryz.func96, Tryz.ntmps96
 go_wp2
 exact bodyPost_ret (v := ordV 5 x0 x1 x2 x3 x4) (by simp [results, Tryz.results96, go_sem, ordV]) rfl ⟨rfl, ((Below.refl _ _).alloc (Nat.le_refl _) _).alloc (by simp) _⟩
def nthN (l : List ByteArray) (i : Nat) : ByteArray := l.getD i ⟨#[]⟩
def ordL (l : List ByteArray) : Value := ordV l.length (nthN l 0) (nthN l 1) (nthN l 2) (nthN l 3) (nthN l 4)
theorem order_impl (a : Option Addr) (cap : Nat) (l : List ByteArray) (n : Nat) (hn : l.length = n) (h5 : l.length ≤ 5) (w : World) (hrow : StrsAt w a l) :
  Calls Tryz.prog 96 #[.slice a n cap] w fun e w' => e = .returned (ordL l) ∧ Below w.heap.size w w' := by
 subst hn
 match l, h5, hrow with
 | [], _, _ => exact order0 a cap w
 | [x0], _, hrow =>
  obtain ⟨b, o, rfl, hb, c0⟩ := hrow 0 (by simp)
  exact order1 b o cap x0 w hb c0
 | [x0, x1], _, hrow =>
  obtain ⟨b, o, rfl, hb, c0⟩ := hrow 0 (by simp)
  obtain ⟨b1, o1, e1, _, c1⟩ := hrow 1 (by simp)
  cases e1
  exact order2 b o cap x0 x1 w hb c0 c1
 | [x0, x1, x2], _, hrow =>
  obtain ⟨b, o, rfl, hb, c0⟩ := hrow 0 (by simp)
  obtain ⟨b1, o1, e1, _, c1⟩ := hrow 1 (by simp)
  cases e1
  obtain ⟨b2, o2, e2, _, c2⟩ := hrow 2 (by simp)
  cases e2
  exact order3 b o cap x0 x1 x2 w hb c0 c1 c2
 | [x0, x1, x2, x3], _, hrow =>
  obtain ⟨b, o, rfl, hb, c0⟩ := hrow 0 (by simp)
  obtain ⟨b1, o1, e1, _, c1⟩ := hrow 1 (by simp)
  cases e1
  obtain ⟨b2, o2, e2, _, c2⟩ := hrow 2 (by simp)
  cases e2
  obtain ⟨b3, o3, e3, _, c3⟩ := hrow 3 (by simp)
  cases e3
  exact order4 b o cap x0 x1 x2 x3 w hb c0 c1 c2 c3
 | [x0, x1, x2, x3, x4], _, hrow =>
  obtain ⟨b, o, rfl, hb, c0⟩ := hrow 0 (by simp)
  obtain ⟨b1, o1, e1, _, c1⟩ := hrow 1 (by simp)
  cases e1
  obtain ⟨b2, o2, e2, _, c2⟩ := hrow 2 (by simp)
  cases e2
  obtain ⟨b3, o3, e3, _, c3⟩ := hrow 3 (by simp)
  cases e3
  obtain ⟨b4, o4, e4, _, c4⟩ := hrow 4 (by simp)
  cases e4
  exact order5 b o cap x0 x1 x2 x3 x4 w hb c0 c1 c2 c3 c4
 | _ :: _ :: _ :: _ :: _ :: _ :: _, h, _ => simp at h
def ordEq (n : Int) (a b c d e : ByteArray) (m : Int) (a' b' c' d' e' : ByteArray) : Bool :=
 n == m && (a.toList == a'.toList && (b.toList == b'.toList && (c.toList == c'.toList && (d.toList == d'.toList && e.toList == e'.toList))))
def arrEq (a b c d e a' b' c' d' e' : ByteArray) : Bool :=
 a.toList == a'.toList && (b.toList == b'.toList && (c.toList == c'.toList && (d.toList == d'.toList && e.toList == e'.toList)))
set_option maxRecDepth 100000 in
set_option maxHeartbeats 2000000 in
theorem run_arr (a b c d e a' b' c' d' e' : ByteArray) (w : World) :
  (Op.equalIn 9999 148 (.agg #[.string a, .string b, .string c, .string d, .string e]) (.agg #[.string a', .string b', .string c', .string d', .string e'])).run Tryz.prog w = .ok (arrEq a b c d e a' b' c' d' e') w := by
 have u9 := Tryz.underlying9
 have a9 := Tryz.isAgg9
 have z9 := Tryz.sizeOf9
 unfold arrEq
 rw [show (9999 : Nat) = 9998 + 1 from rfl, Op.equalIn]
 simp only [Sem.run_bind, run_underlying Tryz.underlying148, Result.andThen_ok]
 simp only [Std.Legacy.Range.forIn_eq_forIn_range', Std.Legacy.Range.size, Nat.sub_zero, Nat.add_sub_cancel, Nat.div_one, List.range'_succ, List.range'_zero, List.forIn_cons, List.forIn_nil]
 go_simp
 cases h1 : (a.toList == a'.toList) <;> cases h2 : (b.toList == b'.toList) <;> cases h3 : (c.toList == c'.toList) <;> cases h4 : (d.toList == d'.toList) <;> cases h5 : (e.toList == e'.toList) <;> simp_all
set_option maxHeartbeats 2000000 in
theorem run_ord_neq (n : Int) (a b c d e : ByteArray) (m : Int) (a' b' c' d' e' : ByteArray) (w : World) :
  (binOp .neq 150 (ordV n a b c d e) (ordV m a' b' c' d' e')).run Tryz.prog w = .ok (.bool !(ordEq n a b c d e m a' b' c' d' e')) w := by
 have ha := run_arr a b c d e a' b' c' d' e' w
 have ho : ordEq n a b c d e m a' b' c' d' e' = (n == m && arrEq a b c d e a' b' c' d' e') := rfl
 rw [ho]
 generalize arrEq a b c d e a' b' c' d' e' = r at ha
 unfold ordV
 by_cases h1 : n = m
 · subst h1
  go_simp
  cases r <;> simp
 · go_simp
  try simp [h1]
theorem bytes_eq2 {s u : ByteArray} (h : s.toList = u.toList) : s = u := by
 rw [ByteArray.toList_eq, ByteArray.toList_eq] at h
 exact ByteArray.ext (Array.toList_inj.1 h)
theorem ordEq_iff (l m : List ByteArray) (hl : l.length ≤ 5) (hm : m.length ≤ 5) : ordEq l.length (nthN l 0) (nthN l 1) (nthN l 2) (nthN l 3) (nthN l 4) m.length (nthN m 0) (nthN m 1) (nthN m 2) (nthN m 3) (nthN m 4) = true ↔ l = m := by
 constructor
 · intro h
  unfold ordEq at h
  simp only [Bool.and_eq_true, beq_iff_eq] at h
  obtain ⟨h0, h1, h2, h3, h4, h5⟩ := h
  have hlen : l.length = m.length := by omega
  have key : ∀ i, i < 5 → nthN l i = nthN m i := by
   intro i hi
   match i, hi with
   | 0, _ => exact bytes_eq2 h1
   | 1, _ => exact bytes_eq2 h2
   | 2, _ => exact bytes_eq2 h3
   | 3, _ => exact bytes_eq2 h4
   | 4, _ => exact bytes_eq2 h5
  refine List.ext_getElem hlen fun i h1 h2 => ?_
  have := key i (by omega)
  unfold nthN at this
  rw [← List.getElem_eq_getD (h := h1), ← List.getElem_eq_getD (h := h2)] at this
  exact this
 · intro h
  subst h
  unfold ordEq
  simp
end Go.Proofs.YtjjkdbmjloolaaaGreatDoor
