/-
  A part of the proof: Sh1, ShMath, ShI1, ShI2, TabI2, ShI3, Rank2, Rank3.
-/
import Derived.Test.YtjiaciikbnpicaaGreatDoorPart1
import Derived.Maps.OwnSet
import Derived.Sort.KeysCollected
import Derived.Test.YtjiaciikbnpicaaGreatDoorPart6
import Derived.Test.YtjiaciikbnpicaaGreatDoorIter
import Derived.Test.YtjiaciikbnpicaaGreatDoorPart2
import Derived.Laws.IdiomCopy
import Derived.Test.YtjiaciikbnpicaaGreatDoorPart4
import Derived.Test.YtjiaciikbnpicaaGreatDoorPart5
import Derived.Laws.AppendOwnNone

/-
  A map from names to values, as the program's shelf is one: what it holds, told by the list of its names and by what stands at each; made, written, asked, struck and cleared.
-/
namespace Go.Proofs.YtjiaciikbnpicaaGreatDoor
open Go.ChangeShapes Go.WideShapes Go.ChangeAt Go.RowKit Go.Maps

/-- What stands in the map is told as it is. -/
def tokR (v : Value) : Option (DataW Value × List MemPlace) := some (.held v, [])
def keyL (s : ByteArray) : Lit := .string s.data.toList
theorem keyL_inj {s t : ByteArray} (h : keyL s = keyL t) : s = t := by
  unfold keyL at h
  injection h with h
  exact ByteArray.ext (Array.toList_inj.1 h)
instance decMemB (s : ByteArray) (ks : List ByteArray) : Decidable (s ∈ ks) :=
  decidable_of_iff (s.data.toList ∈ ks.map (fun x => x.data.toList)) ⟨fun h => by
    obtain ⟨x, hx, e⟩ := List.mem_map.1 h
    rw [← ByteArray.ext (Array.toList_inj.1 e)]; exact hx, fun h => List.mem_map.2 ⟨s, h, rfl⟩⟩
theorem keyL_key (s : ByteArray) : WideAt.IsKeyLit (keyL s) := True.intro
/-- The map holds these names, each once, and at each what f says. -/
structure Says (D : DataW Value) (ks : List ByteArray) (f : ByteArray → Value) : Prop where
  nodup : ks.Nodup
  has : ∀ s, Maps.has D (keyL s) = decide (s ∈ ks)
  holds : ∀ s, s ∈ ks → ∀ z, D.atKey (keyL s) z = .held (f s)
theorem says_none (f : ByteArray → Value) : Says (.map []) [] f := ⟨List.nodup_nil, fun s => by simp [Maps.has], fun s h => by cases h⟩
theorem Says.same {D : DataW Value} {ks : List ByteArray} {f g : ByteArray → Value} (h : Says D ks f) (e : ∀ s, s ∈ ks → f s = g s) : Says D ks g :=
  ⟨h.nodup, h.has, fun s hs z => by rw [h.holds s hs z, e s hs]⟩
/-- A name more, or another value at one that is there. -/
def putK (ks : List ByteArray) (s : ByteArray) : List ByteArray := if s ∈ ks then ks else ks ++ [s]
def putF (f : ByteArray → Value) (s : ByteArray) (v : Value) : ByteArray → Value := fun x => if x = s then v else f x
theorem mem_putK (ks : List ByteArray) (s x : ByteArray) : x ∈ putK ks s ↔ (x = s ∨ x ∈ ks) := by
  unfold putK
  split
  · rename_i h
    exact ⟨Or.inr, fun e => by rcases e with rfl | e <;> assumption⟩
  · simp only [List.mem_append, List.mem_singleton]
    exact Or.comm
theorem nodup_putK {ks : List ByteArray} (h : ks.Nodup) (s : ByteArray) : (putK ks s).Nodup := by
  unfold putK
  split
  · exact h
  · rename_i hn
    refine List.nodup_append.2 ⟨h, List.pairwise_singleton _ _, fun a ha b hb e => ?_⟩
    rw [List.mem_singleton] at hb
    subst hb; subst e; exact hn ha
theorem Says.put {D : DataW Value} {ks : List ByteArray} {f : ByteArray → Value} (h : Says D ks f) (hD : IsMap D) (s : ByteArray) (v : Value) : Says (D.put (keyL s) (.held v)) (putK ks s) (putF f s v) := by
  refine ⟨nodup_putK h.nodup s, fun x => ?_, fun x hx z => ?_⟩
  · by_cases e : x = s
    · subst e
      rw [has_put_same hD (keyL_key x)]
      exact (decide_eq_true ((mem_putK ks x x).2 (Or.inl rfl))).symm
    · rw [has_put_other (fun e' => e (keyL_inj e')), h.has x]
      have : (x ∈ putK ks s) ↔ x ∈ ks := by rw [mem_putK]; exact ⟨fun q => q.resolve_left e, Or.inr⟩
      rw [decide_eq_decide]; exact this.symm
  · by_cases e : x = s
    · subst e
      rw [atKey_put_same hD (keyL_key x)]
      simp [putF]
    · rw [atKey_put_other (fun e' => e (keyL_inj e')), h.holds x (((mem_putK ks s x).1 hx).resolve_left e)]
      simp [putF, e]
theorem str_keyed : Keyed Tryz.prog 9 := string_keyed Tryz.underlying9
/-- Block B is a map of at most n names that holds these. -/
def ShelfAt (w : World) (B n : Nat) (ks : List ByteArray) (f : ByteArray → Value) : Prop :=
  ∃ D, w.ownsMap Tryz.prog 9 tokR B n D ∧ Says D ks f
theorem ShelfAt.lt {w : World} {B n : Nat} {ks : List ByteArray} {f : ByteArray → Value} (h : ShelfAt w B n ks f) : B < w.heap.size := by
  obtain ⟨D, h, _⟩ := h
  exact h.lt
theorem ShelfAt.block {w w' : World} {B n : Nat} {ks : List ByteArray} {f : ByteArray → Value} (h : ShelfAt w B n ks f) (hb : w'.heap[B]? = w.heap[B]?) : ShelfAt w' B n ks f := by
  obtain ⟨D, ⟨es, clock, he, F, hs, hD⟩, S⟩ := h
  exact ⟨D, ⟨es, clock, hb.trans he, F, hs, hD⟩, S⟩
theorem ShelfAt.below {w w' : World} {B n : Nat} {ks : List ByteArray} {f : ByteArray → Value} (h : ShelfAt w B n ks f) (hb : Below w.heap.size w w') : ShelfAt w' B n ks f :=
  h.block (hb.block B h.lt)
theorem ShelfAt.made (w : World) (f : ByteArray → Value) : ShelfAt (w.alloc (.map #[] 0)) w.heap.size 0 [] f := ⟨.map [], World.ownsMap_made w _ _ _, says_none f⟩
theorem strs_of_keys {w : World} {B n : Nat} {D : DataW Value} {ks : List ByteArray} {f : ByteArray → Value} (h : w.ownsMap Tryz.prog 9 tokR B n D) (S : Says D ks f) : (ks.map (fun s => s.data.toList)).Perm (strKeys D) := by
  obtain ⟨es, rfl, hk⟩ := h.keysOf
  obtain ⟨es', e, hp⟩ := h.tidy str_keyed
  injection e with e
  subst e
  refine perm_strKeys hp (fun p hpm => ?_) ?_ (fun x => ?_)
  · obtain ⟨v, hv⟩ := hk p hpm
    obtain ⟨x, _, e, _⟩ := Maps.keyOf_str Tryz.underlying9 hv
    exact ⟨x, e⟩
  · refine List.pairwise_map.2 (S.nodup.imp fun {a b} hne e => hne (ByteArray.ext (Array.toList_inj.1 e)))
  · have e := S.has ⟨x.toArray⟩
    have ek : keyL ⟨x.toArray⟩ = .string x := rfl
    rw [ek] at e
    rw [e, List.mem_map]
    rw [show (decide ((⟨x.toArray⟩ : ByteArray) ∈ ks) = true) = ((⟨x.toArray⟩ : ByteArray) ∈ ks) from propext decide_eq_true_iff]
    exact ⟨fun ⟨s, hs, e⟩ => by subst e; exact hs, fun hs => ⟨_, hs, rfl⟩⟩
theorem size_keys {w : World} {B n : Nat} {D : DataW Value} {ks : List ByteArray} {f : ByteArray → Value} (h : w.ownsMap Tryz.prog 9 tokR B n D) (S : Says D ks f) : Maps.size D = ks.length := by
  have p := (strs_of_keys h S).length_eq
  obtain ⟨es, rfl, _⟩ := h.keysOf
  rw [List.length_map] at p
  rw [p, size_eq]
  simp [strKeys]
/-- A map block that turned lies above what was there. -/
theorem below_turned {base B : Nat} {a w w' : World} (h : Below base a w) (t : w.mapTurned w' B) (hB : base ≤ B) : Below base a w' := by
  obtain ⟨es, clock, es', clock', hb, rfl⟩ := t
  refine ⟨h.os, h.tape, h.output, ?_, fun k hk => ?_⟩
  · have := h.size; simpa [ChangeMaps.setBlock] using this
  · rw [ChangeMaps.heap_setBlock_other hb _ (by omega)]; exact h.block k hk
theorem keyOf_txt (s : ByteArray) (h : s.size ≤ maxLen) : _root_.Go.keyOf Tryz.prog 9 (.string s) = some (keyL s) := WideMaps.keyOf_string_mk Tryz.underlying9 h
end Go.Proofs.YtjiaciikbnpicaaGreatDoor

/-
  Names in their order, without any program: sorted there is but one list; a list of names is its own sorted one, each once, just where the names rise.
-/
namespace Go.Proofs.YtjiaciikbnpicaaGreatDoor
open Go.Maps

abbrev leB2 : List UInt8 → List UInt8 → Bool := fun x y => decide (x ≤ y)
def ofB (x : List UInt8) : ByteArray := ⟨x.toArray⟩
/-- The names, sorted. -/
def srt (ks : List ByteArray) : List ByteArray := ((ks.map (fun s => s.data.toList)).mergeSort leB2).map ofB
theorem map_bytes_srt (ks : List ByteArray) : (srt ks).map (fun s => s.data.toList) = (ks.map (fun s => s.data.toList)).mergeSort leB2 := by
  unfold srt
  rw [List.map_map]
  exact List.map_id _
theorem srt_perm (ks : List ByteArray) : (srt ks).Perm ks := by
  have h := (List.mergeSort_perm (ks.map (fun s => s.data.toList)) leB2).map ofB
  have e : (ks.map (fun s => s.data.toList)).map ofB = ks := by rw [List.map_map]; exact List.map_id _
  rw [e] at h
  exact h
theorem srt_length (ks : List ByteArray) : (srt ks).length = ks.length := (srt_perm ks).length_eq
def ltN (x y : ByteArray) : Prop := Op.bytesLess x.toList y.toList = true
theorem risesN_iff (l : List ByteArray) : risesN l = true ↔ l.Pairwise ltN := by
  induction l with
  | nil => exact ⟨fun _ => List.Pairwise.nil, fun _ => rfl⟩
  | cons x l ih =>
    cases l with
    | nil => exact ⟨fun _ => List.pairwise_singleton _ _, fun _ => rfl⟩
    | cons y l =>
      have e : risesN (x :: y :: l) = (Op.bytesLess x.toList y.toList && risesN (y :: l)) := rfl
      rw [e, Bool.and_eq_true, ih]
      constructor
      · intro ⟨h1, h2⟩
        refine List.pairwise_cons.2 ⟨fun z hz => ?_, h2⟩
        rcases List.mem_cons.1 hz with rfl | hz
        · exact h1
        · exact bl_trans h1 ((List.pairwise_cons.1 h2).1 z hz)
      · intro h
        obtain ⟨h1, h2⟩ := List.pairwise_cons.1 h
        exact ⟨h1 y (by simp), h2⟩
theorem lt_le {x y : ByteArray} (h : ltN x y) : leB2 x.data.toList y.data.toList = true := by
  unfold ltN at h
  rw [bytesLess_eq, decide_eq_true_iff, Lib.toList_data, Lib.toList_data] at h
  exact decide_eq_true (List.le_of_lt h)
theorem rises_nodup {l : List ByteArray} (h : risesN l = true) : l.Nodup := by
  refine ((risesN_iff l).1 h).imp fun {a b} hlt e => ?_
  subst e
  have := bl_irr a
  unfold ltN at hlt
  rw [hlt] at this
  cases this
theorem leB2_trans (a b c : List UInt8) (h1 : leB2 a b = true) (h2 : leB2 b c = true) : leB2 a c = true := by
  simp only [leB2, decide_eq_true_eq] at *; exact List.le_trans h1 h2
theorem leB2_total (a b : List UInt8) : (leB2 a b || leB2 b a) = true := by
  simp only [leB2, Bool.or_eq_true, decide_eq_true_eq]; exact List.le_total a b
/-- Sorted there is but one list. -/
theorem srt_is {ks V : List ByteArray} (hV : risesN V = true) (hp : V.Perm ks) : srt ks = V := by
  have e : (ks.map (fun s => s.data.toList)).mergeSort leB2 = V.map (fun s => s.data.toList) := by
    refine List.Perm.eq_of_pairwise (le := fun a b => leB2 a b = true) (fun a b _ _ h1 h2 => ?_) (List.pairwise_mergeSort leB2_trans leB2_total _) ?_ ((List.mergeSort_perm _ leB2).trans (hp.map _).symm)
    · simp only [leB2, decide_eq_true_eq] at h1 h2
      exact List.le_antisymm h1 h2
    · exact List.pairwise_map.2 (((risesN_iff V).1 hV).imp fun h => lt_le h)
  unfold srt
  rw [e, List.map_map]
  exact List.map_id _
theorem rises_srt {ks : List ByteArray} (h : ks.Nodup) : risesN (srt ks) = true := by
  rw [risesN_iff]
  have h1 : (srt ks).Nodup := (srt_perm ks).nodup_iff.2 h
  have h2 : (srt ks).Pairwise (fun x y => leB2 x.data.toList y.data.toList = true) := by
    have := List.pairwise_mergeSort leB2_trans leB2_total (ks.map (fun s => s.data.toList))
    rw [← map_bytes_srt] at this
    exact List.pairwise_map.1 this
  refine (h1.and h2).imp fun {a b} hh => ?_
  obtain ⟨hne, hle⟩ := hh
  unfold ltN
  rw [bytesLess_eq, decide_eq_true_iff, Lib.toList_data, Lib.toList_data]
  simp only [leB2, decide_eq_true_eq] at hle
  by_cases hlt : a.data.toList < b.data.toList
  · exact hlt
  · exact absurd (ByteArray.ext (Array.toList_inj.1 (List.le_antisymm hle (List.not_lt.1 hlt)))) hne
/-- The names of a list, each once, where it comes first. -/
def ksOf (l : List ByteArray) : List ByteArray := l.foldl putK []
theorem ksOf_snoc (l : List ByteArray) (x : ByteArray) : ksOf (l ++ [x]) = putK (ksOf l) x := by simp [ksOf, List.foldl_append]
theorem ksOf_nodup (l : List ByteArray) : (ksOf l).Nodup := by
  suffices ∀ (l acc : List ByteArray), acc.Nodup → (l.foldl putK acc).Nodup from this l [] List.nodup_nil
  intro l
  induction l with
  | nil => intro acc h; exact h
  | cons x l ih => intro acc h; exact ih _ (nodup_putK h x)
theorem putK_length (ks : List ByteArray) (s : ByteArray) : (putK ks s).length ≤ ks.length + 1 := by
  unfold putK; split <;> simp
theorem ksOf_length (l : List ByteArray) : (ksOf l).length ≤ l.length := by
  suffices ∀ (l acc : List ByteArray), (l.foldl putK acc).length ≤ acc.length + l.length by simpa [ksOf] using this l []
  intro l
  induction l with
  | nil => intro acc; exact Nat.le_refl _
  | cons x l ih =>
    intro acc
    have := ih (putK acc x)
    have := putK_length acc x
    simp only [List.foldl_cons, List.length_cons]
    omega
theorem ksOf_self {l : List ByteArray} (h : l.Nodup) : ksOf l = l := by
  suffices ∀ (l acc : List ByteArray), (acc ++ l).Nodup → l.foldl putK acc = acc ++ l by simpa [ksOf] using this l [] (by simpa using h)
  intro l
  induction l with
  | nil => intro acc _; simp
  | cons x l ih =>
    intro acc h
    have hx : x ∉ acc := by
      intro hm
      exact (List.nodup_append.1 h).2.2 x hm x (by simp) rfl
    rw [List.foldl_cons, show putK acc x = acc ++ [x] from if_neg hx, ih _ (by simpa using h)]
    simp
theorem mem_ksOf (l : List ByteArray) (s : ByteArray) : s ∈ ksOf l ↔ s ∈ l := by
  suffices ∀ (l acc : List ByteArray), s ∈ l.foldl putK acc ↔ (s ∈ acc ∨ s ∈ l) by simpa [ksOf] using this l []
  intro l
  induction l with
  | nil => intro acc; simp
  | cons x l ih =>
    intro acc
    rw [List.foldl_cons, ih, mem_putK, List.mem_cons]
    constructor
    · rintro ((h | h) | h)
      · exact .inr (.inl h)
      · exact .inl h
      · exact .inr (.inr h)
    · rintro (h | h | h)
      · exact .inl (.inr h)
      · exact .inl (.inl h)
      · exact .inr h
/-- Given as they are sorted, each once: that is where they rise. -/
theorem given_sorted (l : List ByteArray) : (l = srt (ksOf l)) ↔ risesN l = true := by
  constructor
  · intro e
    rw [e]; exact rises_srt (ksOf_nodup l)
  · intro h
    rw [ksOf_self (rises_nodup h), srt_is h (List.Perm.refl _)]
end Go.Proofs.YtjiaciikbnpicaaGreatDoor

/-
  The contract of the program's shelf that tells its names in order.
-/
namespace Go.Proofs.YtjiaciikbnpicaaGreatDoor
open Go.ChangeShapes Go.WideShapes Go.ChangeAt Go.RowKit Go.Maps Go.Sort Go.Shelf
attribute [local go_sem ↓] Go.wp_at_zero Go.wp_at_succ

theorem srt_perm_sort {ss : List (List UInt8)} {ks : List ByteArray} (h : ss.Perm (ks.map (fun s => s.data.toList))) : (ss.mergeSort (fun x y => decide (x ≤ y))).map encStr = strV (srt ks) := by
  have e : ss.mergeSort (fun x y => decide (x ≤ y)) = (ks.map (fun s => s.data.toList)).mergeSort leB2 := mergeSort_of_perm h
  rw [e]
  unfold srt strV
  rw [List.map_map]
  rfl

set_option maxHeartbeats 1000000 in
theorem names_impl (B n : Nat) (ks : List ByteArray) (f : ByteArray → Value) (w : World) (h : ShelfAt w B n ks f) (hm : ks.length ≤ 1048576) :
    Calls Tryz.prog 126 #[.map (some B)] w fun e w' => ∃ v, e = .returned v ∧ w'.ownsRow w.heap.size 9 1 v ks.length (strV (srt ks)) ∧ (v = .slice none 0 0 ↔ ks = []) ∧ Below w.heap.size w w' := by
  obtain ⟨D, hown, S⟩ := h
  have hz := size_keys hown S
  have hp := strs_of_keys hown S
  have hmax : Maps.size D ≤ maxLen := by rw [hz]; unfold maxLen; omega
  have hbytes : Maps.size D * 16 ≤ 140737488355328 := by rw [hz]; omega
  refine (callsIn_wide (n := 6)).1 ?_
  have hfK : Fence.wide.fn 154 := trivial
  have hfS : Fence.wide.fn 153 := trivial
  refine callsIn_of_wp Tryz.func126 rfl trivial ?_ rfl
  simp only [Tryz.ntmps126, List.size_toArray, List.length_cons, List.length_nil, Nat.reduceAdd, Nat.reduceSub, Array.replicate_succ, Array.replicate_zero, List.push_toArray, List.append_toArray, List.nil_append, List.cons_append]
  gi_wp2_with (first
    | (gi_at_call 154; refine (Tryz.maps_Keys_154 _ _).mono ?_; rintro e w' ⟨rfl, rfl⟩)
    | (gi_at_call 153; refine (Tryz.slices_Sorted_keys_153_154 B n D tokR w hown hmax hbytes).mono ?_; rintro e w' ⟨v, ss, rfl, hS, hrow, hnil, hb⟩))
  go_ret
  have hperm := hS.trans hp.symm
  have hlen : ss.length = ks.length := by rw [hperm.length_eq, List.length_map]
  refine ⟨v, rfl, ?_, ?_, ((Below.refl _ w).alloc (Nat.le_refl _) _).trans (hb.mono (by simp))⟩
  · rw [srt_perm_sort hperm, hlen] at hrow
    exact ownsRow_base_a hrow (by simp)
  · rw [hnil]
    constructor
    · intro e; subst e; exact List.eq_nil_of_length_eq_zero (by rw [← hlen]; rfl)
    · intro e; subst e; exact List.eq_nil_of_length_eq_zero (by rw [hlen]; rfl)

end Go.Proofs.YtjiaciikbnpicaaGreatDoor

/-
  The contract of the program's order of names: a count and the first five of them, in a struct that can be held against another one.
-/
namespace Go.Proofs.YtjiaciikbnpicaaGreatDoor
open Go.ChangeShapes Go.WideShapes Go.ChangeAt Go.RowKit
attribute [local go_sem ↓] Go.wp_at_zero Go.wp_at_succ
attribute [local simp] World.cell?_alloc_past World.cell?_alloc_at World.frozen?_alloc_at cell_far cell_off cell_here World.frozen?_alloc_past

def ordV (n : Int) (a b c d e : ByteArray) : Value := .agg #[.int .i64 n, .string a, .string b, .string c, .string d, .string e]
theorem info_str1 : (Tryz.prog.info? 9).map (fun i => i.size) = some 1 := by kernel_rfl
set_option maxRecDepth 100000 in
set_option maxHeartbeats 2000000 in
theorem order0 (a : Option Addr) (cap : Nat) (w : World) :
    Calls Tryz.prog 125 #[.slice a 0 cap] w fun e w' => e = .returned (ordV 0 ⟨#[]⟩ ⟨#[]⟩ ⟨#[]⟩ ⟨#[]⟩ ⟨#[]⟩) ∧ Below w.heap.size w w' := by
  have h2 : Below w.heap.size w ((w.alloc (.cells #[.int .i64 0, .string ⟨#[]⟩, .string ⟨#[]⟩, .string ⟨#[]⟩, .string ⟨#[]⟩, .string ⟨#[]⟩] 175)).alloc (.cells #[.int .i64 0, .string ⟨#[]⟩, .string ⟨#[]⟩, .string ⟨#[]⟩, .string ⟨#[]⟩, .string ⟨#[]⟩] 175)) := ((Below.refl _ _).alloc (Nat.le_refl _) _).alloc (by simp) _
  have hcp : ∀ ty, (Builtin.copy_ #[28, 28] ty #[.slice (some ⟨w.heap.size + 1, 1, none⟩) 5 5, .slice a 0 cap]).run Tryz.prog ((w.alloc (.cells #[.int .i64 0, .string ⟨#[]⟩, .string ⟨#[]⟩, .string ⟨#[]⟩, .string ⟨#[]⟩, .string ⟨#[]⟩] 175)).alloc (.cells #[.int .i64 0, .string ⟨#[]⟩, .string ⟨#[]⟩, .string ⟨#[]⟩, .string ⟨#[]⟩, .string ⟨#[]⟩] 175)) = .ok (goInt 0) ((w.alloc (.cells #[.int .i64 0, .string ⟨#[]⟩, .string ⟨#[]⟩, .string ⟨#[]⟩, .string ⟨#[]⟩, .string ⟨#[]⟩] 175)).alloc (.cells #[.int .i64 0, .string ⟨#[]⟩, .string ⟨#[]⟩, .string ⟨#[]⟩, .string ⟨#[]⟩, .string ⟨#[]⟩] 175)) := fun ty => run_copy_none _ 28 28 ty 9 _ _ 5 5 0 cap Tryz.underlying28 info_str1 rfl
  go_enter Tryz.func125, Tryz.ntmps125
  go_wp2
  exact bodyPost_ret (v := ordV 0 ⟨#[]⟩ ⟨#[]⟩ ⟨#[]⟩ ⟨#[]⟩ ⟨#[]⟩) (by simp [results, Tryz.results125, go_sem, ordV]) rfl ⟨rfl, ((Below.refl _ _).alloc (Nat.le_refl _) _).alloc (by simp) _⟩

set_option maxRecDepth 100000 in
set_option maxHeartbeats 2000000 in
theorem order1 (b o cap : Nat) (x0 : ByteArray) (w : World) (hb : b < w.heap.size) (c0 : w.cell? ⟨b, o, none⟩ = some (.string x0)) :
    Calls Tryz.prog 125 #[.slice (some ⟨b, o, none⟩) 1 cap] w fun e w' => e = .returned (ordV 1 x0 ⟨#[]⟩ ⟨#[]⟩ ⟨#[]⟩ ⟨#[]⟩) ∧ Below w.heap.size w w' := by
  have h2 : Below w.heap.size w ((w.alloc (.cells #[.int .i64 0, .string ⟨#[]⟩, .string ⟨#[]⟩, .string ⟨#[]⟩, .string ⟨#[]⟩, .string ⟨#[]⟩] 175)).alloc (.cells #[.int .i64 1, .string ⟨#[]⟩, .string ⟨#[]⟩, .string ⟨#[]⟩, .string ⟨#[]⟩, .string ⟨#[]⟩] 175)) := ((Below.refl _ _).alloc (Nat.le_refl _) _).alloc (by simp) _
  have hcp : ∀ ty, (Builtin.copy_ #[28, 28] ty #[.slice (some ⟨w.heap.size + 1, 1, none⟩) 5 5, .slice (some ⟨b, o, none⟩) 1 cap]).run Tryz.prog ((w.alloc (.cells #[.int .i64 0, .string ⟨#[]⟩, .string ⟨#[]⟩, .string ⟨#[]⟩, .string ⟨#[]⟩, .string ⟨#[]⟩] 175)).alloc (.cells #[.int .i64 1, .string ⟨#[]⟩, .string ⟨#[]⟩, .string ⟨#[]⟩, .string ⟨#[]⟩, .string ⟨#[]⟩] 175)) = .ok (goInt 1) (((w.alloc (.cells #[.int .i64 0, .string ⟨#[]⟩, .string ⟨#[]⟩, .string ⟨#[]⟩, .string ⟨#[]⟩, .string ⟨#[]⟩] 175)).alloc (.cells #[.int .i64 1, .string ⟨#[]⟩, .string ⟨#[]⟩, .string ⟨#[]⟩, .string ⟨#[]⟩, .string ⟨#[]⟩] 175)).setCells (w.heap.size + 1) 1 [.string x0]) := by
    intro ty
    refine run_copy_cells _ 28 28 ty 9 (w.heap.size + 1) 1 5 5 ⟨b, o, none⟩ 1 cap [.string x0] Tryz.underlying28 info_str1 rfl ?_ ?_ ?_ ?_
    · intro j v hj
      match j, hj with
      | 0, hj => simp at hj; subst hj; exact (h2.cell (p := ⟨b, o, none⟩) hb).trans c0
    · intro j hj
      match j, hj with
      | 0, _ => simp
    · intro j hj
      match j, hj with
      | 0, _ => simp
    · intro v hv; simp at hv; subst hv; rfl
  simp only [World.setCells] at hcp
  go_enter Tryz.func125, Tryz.ntmps125
  go_wp2
  exact bodyPost_ret (v := ordV 1 x0 ⟨#[]⟩ ⟨#[]⟩ ⟨#[]⟩ ⟨#[]⟩) (by simp [results, Tryz.results125, go_sem, ordV]) rfl ⟨rfl, ((Below.refl _ _).alloc (Nat.le_refl _) _).alloc (by simp) _⟩

set_option maxRecDepth 100000 in
set_option maxHeartbeats 2000000 in
theorem order2 (b o cap : Nat) (x0 x1 : ByteArray) (w : World) (hb : b < w.heap.size) (c0 : w.cell? ⟨b, o, none⟩ = some (.string x0)) (c1 : w.cell? ⟨b, o + 1, none⟩ = some (.string x1)) :
    Calls Tryz.prog 125 #[.slice (some ⟨b, o, none⟩) 2 cap] w fun e w' => e = .returned (ordV 2 x0 x1 ⟨#[]⟩ ⟨#[]⟩ ⟨#[]⟩) ∧ Below w.heap.size w w' := by
  have h2 : Below w.heap.size w ((w.alloc (.cells #[.int .i64 0, .string ⟨#[]⟩, .string ⟨#[]⟩, .string ⟨#[]⟩, .string ⟨#[]⟩, .string ⟨#[]⟩] 175)).alloc (.cells #[.int .i64 2, .string ⟨#[]⟩, .string ⟨#[]⟩, .string ⟨#[]⟩, .string ⟨#[]⟩, .string ⟨#[]⟩] 175)) := ((Below.refl _ _).alloc (Nat.le_refl _) _).alloc (by simp) _
  have hcp : ∀ ty, (Builtin.copy_ #[28, 28] ty #[.slice (some ⟨w.heap.size + 1, 1, none⟩) 5 5, .slice (some ⟨b, o, none⟩) 2 cap]).run Tryz.prog ((w.alloc (.cells #[.int .i64 0, .string ⟨#[]⟩, .string ⟨#[]⟩, .string ⟨#[]⟩, .string ⟨#[]⟩, .string ⟨#[]⟩] 175)).alloc (.cells #[.int .i64 2, .string ⟨#[]⟩, .string ⟨#[]⟩, .string ⟨#[]⟩, .string ⟨#[]⟩, .string ⟨#[]⟩] 175)) = .ok (goInt 2) (((w.alloc (.cells #[.int .i64 0, .string ⟨#[]⟩, .string ⟨#[]⟩, .string ⟨#[]⟩, .string ⟨#[]⟩, .string ⟨#[]⟩] 175)).alloc (.cells #[.int .i64 2, .string ⟨#[]⟩, .string ⟨#[]⟩, .string ⟨#[]⟩, .string ⟨#[]⟩, .string ⟨#[]⟩] 175)).setCells (w.heap.size + 1) 1 [.string x0, .string x1]) := by
    intro ty
    refine run_copy_cells _ 28 28 ty 9 (w.heap.size + 1) 1 5 5 ⟨b, o, none⟩ 2 cap [.string x0, .string x1] Tryz.underlying28 info_str1 rfl ?_ ?_ ?_ ?_
    · intro j v hj
      match j, hj with
      | 0, hj => simp at hj; subst hj; exact (h2.cell (p := ⟨b, o, none⟩) hb).trans c0
      | 1, hj => simp at hj; subst hj; exact (h2.cell (p := ⟨b, o + 1, none⟩) hb).trans c1
    · intro j hj
      match j, hj with
      | 0, _ => simp
      | 1, _ => simp
    · intro j hj
      match j, hj with
      | 0, _ => simp
      | 1, _ => simp
    · intro v hv; simp at hv; rcases hv with rfl | rfl <;> rfl
  simp only [World.setCells] at hcp
  go_enter Tryz.func125, Tryz.ntmps125
  go_wp2
  exact bodyPost_ret (v := ordV 2 x0 x1 ⟨#[]⟩ ⟨#[]⟩ ⟨#[]⟩) (by simp [results, Tryz.results125, go_sem, ordV]) rfl ⟨rfl, ((Below.refl _ _).alloc (Nat.le_refl _) _).alloc (by simp) _⟩

set_option maxRecDepth 100000 in
set_option maxHeartbeats 2000000 in
theorem order3 (b o cap : Nat) (x0 x1 x2 : ByteArray) (w : World) (hb : b < w.heap.size) (c0 : w.cell? ⟨b, o, none⟩ = some (.string x0)) (c1 : w.cell? ⟨b, o + 1, none⟩ = some (.string x1)) (c2 : w.cell? ⟨b, o + 2, none⟩ = some (.string x2)) :
    Calls Tryz.prog 125 #[.slice (some ⟨b, o, none⟩) 3 cap] w fun e w' => e = .returned (ordV 3 x0 x1 x2 ⟨#[]⟩ ⟨#[]⟩) ∧ Below w.heap.size w w' := by
  have h2 : Below w.heap.size w ((w.alloc (.cells #[.int .i64 0, .string ⟨#[]⟩, .string ⟨#[]⟩, .string ⟨#[]⟩, .string ⟨#[]⟩, .string ⟨#[]⟩] 175)).alloc (.cells #[.int .i64 3, .string ⟨#[]⟩, .string ⟨#[]⟩, .string ⟨#[]⟩, .string ⟨#[]⟩, .string ⟨#[]⟩] 175)) := ((Below.refl _ _).alloc (Nat.le_refl _) _).alloc (by simp) _
  have hcp : ∀ ty, (Builtin.copy_ #[28, 28] ty #[.slice (some ⟨w.heap.size + 1, 1, none⟩) 5 5, .slice (some ⟨b, o, none⟩) 3 cap]).run Tryz.prog ((w.alloc (.cells #[.int .i64 0, .string ⟨#[]⟩, .string ⟨#[]⟩, .string ⟨#[]⟩, .string ⟨#[]⟩, .string ⟨#[]⟩] 175)).alloc (.cells #[.int .i64 3, .string ⟨#[]⟩, .string ⟨#[]⟩, .string ⟨#[]⟩, .string ⟨#[]⟩, .string ⟨#[]⟩] 175)) = .ok (goInt 3) (((w.alloc (.cells #[.int .i64 0, .string ⟨#[]⟩, .string ⟨#[]⟩, .string ⟨#[]⟩, .string ⟨#[]⟩, .string ⟨#[]⟩] 175)).alloc (.cells #[.int .i64 3, .string ⟨#[]⟩, .string ⟨#[]⟩, .string ⟨#[]⟩, .string ⟨#[]⟩, .string ⟨#[]⟩] 175)).setCells (w.heap.size + 1) 1 [.string x0, .string x1, .string x2]) := by
    intro ty
    refine run_copy_cells _ 28 28 ty 9 (w.heap.size + 1) 1 5 5 ⟨b, o, none⟩ 3 cap [.string x0, .string x1, .string x2] Tryz.underlying28 info_str1 rfl ?_ ?_ ?_ ?_
    · intro j v hj
      match j, hj with
      | 0, hj => simp at hj; subst hj; exact (h2.cell (p := ⟨b, o, none⟩) hb).trans c0
      | 1, hj => simp at hj; subst hj; exact (h2.cell (p := ⟨b, o + 1, none⟩) hb).trans c1
      | 2, hj => simp at hj; subst hj; exact (h2.cell (p := ⟨b, o + 2, none⟩) hb).trans c2
    · intro j hj
      match j, hj with
      | 0, _ => simp
      | 1, _ => simp
      | 2, _ => simp
    · intro j hj
      match j, hj with
      | 0, _ => simp
      | 1, _ => simp
      | 2, _ => simp
    · intro v hv; simp at hv; rcases hv with rfl | rfl | rfl <;> rfl
  simp only [World.setCells] at hcp
  go_enter Tryz.func125, Tryz.ntmps125
  go_wp2
  exact bodyPost_ret (v := ordV 3 x0 x1 x2 ⟨#[]⟩ ⟨#[]⟩) (by simp [results, Tryz.results125, go_sem, ordV]) rfl ⟨rfl, ((Below.refl _ _).alloc (Nat.le_refl _) _).alloc (by simp) _⟩

set_option maxRecDepth 100000 in
set_option maxHeartbeats 2000000 in
theorem order4 (b o cap : Nat) (x0 x1 x2 x3 : ByteArray) (w : World) (hb : b < w.heap.size) (c0 : w.cell? ⟨b, o, none⟩ = some (.string x0)) (c1 : w.cell? ⟨b, o + 1, none⟩ = some (.string x1)) (c2 : w.cell? ⟨b, o + 2, none⟩ = some (.string x2)) (c3 : w.cell? ⟨b, o + 3, none⟩ = some (.string x3)) :
    Calls Tryz.prog 125 #[.slice (some ⟨b, o, none⟩) 4 cap] w fun e w' => e = .returned (ordV 4 x0 x1 x2 x3 ⟨#[]⟩) ∧ Below w.heap.size w w' := by
  have h2 : Below w.heap.size w ((w.alloc (.cells #[.int .i64 0, .string ⟨#[]⟩, .string ⟨#[]⟩, .string ⟨#[]⟩, .string ⟨#[]⟩, .string ⟨#[]⟩] 175)).alloc (.cells #[.int .i64 4, .string ⟨#[]⟩, .string ⟨#[]⟩, .string ⟨#[]⟩, .string ⟨#[]⟩, .string ⟨#[]⟩] 175)) := ((Below.refl _ _).alloc (Nat.le_refl _) _).alloc (by simp) _
  have hcp : ∀ ty, (Builtin.copy_ #[28, 28] ty #[.slice (some ⟨w.heap.size + 1, 1, none⟩) 5 5, .slice (some ⟨b, o, none⟩) 4 cap]).run Tryz.prog ((w.alloc (.cells #[.int .i64 0, .string ⟨#[]⟩, .string ⟨#[]⟩, .string ⟨#[]⟩, .string ⟨#[]⟩, .string ⟨#[]⟩] 175)).alloc (.cells #[.int .i64 4, .string ⟨#[]⟩, .string ⟨#[]⟩, .string ⟨#[]⟩, .string ⟨#[]⟩, .string ⟨#[]⟩] 175)) = .ok (goInt 4) (((w.alloc (.cells #[.int .i64 0, .string ⟨#[]⟩, .string ⟨#[]⟩, .string ⟨#[]⟩, .string ⟨#[]⟩, .string ⟨#[]⟩] 175)).alloc (.cells #[.int .i64 4, .string ⟨#[]⟩, .string ⟨#[]⟩, .string ⟨#[]⟩, .string ⟨#[]⟩, .string ⟨#[]⟩] 175)).setCells (w.heap.size + 1) 1 [.string x0, .string x1, .string x2, .string x3]) := by
    intro ty
    refine run_copy_cells _ 28 28 ty 9 (w.heap.size + 1) 1 5 5 ⟨b, o, none⟩ 4 cap [.string x0, .string x1, .string x2, .string x3] Tryz.underlying28 info_str1 rfl ?_ ?_ ?_ ?_
    · intro j v hj
      match j, hj with
      | 0, hj => simp at hj; subst hj; exact (h2.cell (p := ⟨b, o, none⟩) hb).trans c0
      | 1, hj => simp at hj; subst hj; exact (h2.cell (p := ⟨b, o + 1, none⟩) hb).trans c1
      | 2, hj => simp at hj; subst hj; exact (h2.cell (p := ⟨b, o + 2, none⟩) hb).trans c2
      | 3, hj => simp at hj; subst hj; exact (h2.cell (p := ⟨b, o + 3, none⟩) hb).trans c3
    · intro j hj
      match j, hj with
      | 0, _ => simp
      | 1, _ => simp
      | 2, _ => simp
      | 3, _ => simp
    · intro j hj
      match j, hj with
      | 0, _ => simp
      | 1, _ => simp
      | 2, _ => simp
      | 3, _ => simp
    · intro v hv; simp at hv; rcases hv with rfl | rfl | rfl | rfl <;> rfl
  simp only [World.setCells] at hcp
  go_enter Tryz.func125, Tryz.ntmps125
  go_wp2
  exact bodyPost_ret (v := ordV 4 x0 x1 x2 x3 ⟨#[]⟩) (by simp [results, Tryz.results125, go_sem, ordV]) rfl ⟨rfl, ((Below.refl _ _).alloc (Nat.le_refl _) _).alloc (by simp) _⟩

set_option maxRecDepth 100000 in
set_option maxHeartbeats 2000000 in
theorem order5 (b o cap : Nat) (x0 x1 x2 x3 x4 : ByteArray) (w : World) (hb : b < w.heap.size) (c0 : w.cell? ⟨b, o, none⟩ = some (.string x0)) (c1 : w.cell? ⟨b, o + 1, none⟩ = some (.string x1)) (c2 : w.cell? ⟨b, o + 2, none⟩ = some (.string x2)) (c3 : w.cell? ⟨b, o + 3, none⟩ = some (.string x3)) (c4 : w.cell? ⟨b, o + 4, none⟩ = some (.string x4)) :
    Calls Tryz.prog 125 #[.slice (some ⟨b, o, none⟩) 5 cap] w fun e w' => e = .returned (ordV 5 x0 x1 x2 x3 x4) ∧ Below w.heap.size w w' := by
  have h2 : Below w.heap.size w ((w.alloc (.cells #[.int .i64 0, .string ⟨#[]⟩, .string ⟨#[]⟩, .string ⟨#[]⟩, .string ⟨#[]⟩, .string ⟨#[]⟩] 175)).alloc (.cells #[.int .i64 5, .string ⟨#[]⟩, .string ⟨#[]⟩, .string ⟨#[]⟩, .string ⟨#[]⟩, .string ⟨#[]⟩] 175)) := ((Below.refl _ _).alloc (Nat.le_refl _) _).alloc (by simp) _
  have hcp : ∀ ty, (Builtin.copy_ #[28, 28] ty #[.slice (some ⟨w.heap.size + 1, 1, none⟩) 5 5, .slice (some ⟨b, o, none⟩) 5 cap]).run Tryz.prog ((w.alloc (.cells #[.int .i64 0, .string ⟨#[]⟩, .string ⟨#[]⟩, .string ⟨#[]⟩, .string ⟨#[]⟩, .string ⟨#[]⟩] 175)).alloc (.cells #[.int .i64 5, .string ⟨#[]⟩, .string ⟨#[]⟩, .string ⟨#[]⟩, .string ⟨#[]⟩, .string ⟨#[]⟩] 175)) = .ok (goInt 5) (((w.alloc (.cells #[.int .i64 0, .string ⟨#[]⟩, .string ⟨#[]⟩, .string ⟨#[]⟩, .string ⟨#[]⟩, .string ⟨#[]⟩] 175)).alloc (.cells #[.int .i64 5, .string ⟨#[]⟩, .string ⟨#[]⟩, .string ⟨#[]⟩, .string ⟨#[]⟩, .string ⟨#[]⟩] 175)).setCells (w.heap.size + 1) 1 [.string x0, .string x1, .string x2, .string x3, .string x4]) := by
    intro ty
    refine run_copy_cells _ 28 28 ty 9 (w.heap.size + 1) 1 5 5 ⟨b, o, none⟩ 5 cap [.string x0, .string x1, .string x2, .string x3, .string x4] Tryz.underlying28 info_str1 rfl ?_ ?_ ?_ ?_
    · intro j v hj
      match j, hj with
      | 0, hj => simp at hj; subst hj; exact (h2.cell (p := ⟨b, o, none⟩) hb).trans c0
      | 1, hj => simp at hj; subst hj; exact (h2.cell (p := ⟨b, o + 1, none⟩) hb).trans c1
      | 2, hj => simp at hj; subst hj; exact (h2.cell (p := ⟨b, o + 2, none⟩) hb).trans c2
      | 3, hj => simp at hj; subst hj; exact (h2.cell (p := ⟨b, o + 3, none⟩) hb).trans c3
      | 4, hj => simp at hj; subst hj; exact (h2.cell (p := ⟨b, o + 4, none⟩) hb).trans c4
    · intro j hj
      match j, hj with
      | 0, _ => simp
      | 1, _ => simp
      | 2, _ => simp
      | 3, _ => simp
      | 4, _ => simp
    · intro j hj
      match j, hj with
      | 0, _ => simp
      | 1, _ => simp
      | 2, _ => simp
      | 3, _ => simp
      | 4, _ => simp
    · intro v hv; simp at hv; rcases hv with rfl | rfl | rfl | rfl | rfl <;> rfl
  simp only [World.setCells] at hcp
  go_enter Tryz.func125, Tryz.ntmps125
  go_wp2
  exact bodyPost_ret (v := ordV 5 x0 x1 x2 x3 x4) (by simp [results, Tryz.results125, go_sem, ordV]) rfl ⟨rfl, ((Below.refl _ _).alloc (Nat.le_refl _) _).alloc (by simp) _⟩

def nthN (l : List ByteArray) (i : Nat) : ByteArray := l.getD i ⟨#[]⟩
def ordL (l : List ByteArray) : Value := ordV l.length (nthN l 0) (nthN l 1) (nthN l 2) (nthN l 3) (nthN l 4)
theorem order_impl (a : Option Addr) (cap : Nat) (l : List ByteArray) (n : Nat) (hn : l.length = n) (h5 : l.length ≤ 5) (w : World) (hrow : StrsAt w a l) :
    Calls Tryz.prog 125 #[.slice a n cap] w fun e w' => e = .returned (ordL l) ∧ Below w.heap.size w w' := by
  subst hn
  match l, h5, hrow with
  | [], _, _ => exact order0 a cap w
  | [x0], _, hrow =>
    obtain ⟨b, o, rfl, hb, c0⟩ := hrow 0 (by simp)
    exact order1 b o cap x0 w hb c0
  | [x0, x1], _, hrow =>
    obtain ⟨b, o, rfl, hb, c0⟩ := hrow 0 (by simp)
    obtain ⟨b1, o1, e1, _, c1⟩ := hrow 1 (by simp)
    cases e1
    exact order2 b o cap x0 x1 w hb c0 c1
  | [x0, x1, x2], _, hrow =>
    obtain ⟨b, o, rfl, hb, c0⟩ := hrow 0 (by simp)
    obtain ⟨b1, o1, e1, _, c1⟩ := hrow 1 (by simp)
    cases e1
    obtain ⟨b2, o2, e2, _, c2⟩ := hrow 2 (by simp)
    cases e2
    exact order3 b o cap x0 x1 x2 w hb c0 c1 c2
  | [x0, x1, x2, x3], _, hrow =>
    obtain ⟨b, o, rfl, hb, c0⟩ := hrow 0 (by simp)
    obtain ⟨b1, o1, e1, _, c1⟩ := hrow 1 (by simp)
    cases e1
    obtain ⟨b2, o2, e2, _, c2⟩ := hrow 2 (by simp)
    cases e2
    obtain ⟨b3, o3, e3, _, c3⟩ := hrow 3 (by simp)
    cases e3
    exact order4 b o cap x0 x1 x2 x3 w hb c0 c1 c2 c3
  | [x0, x1, x2, x3, x4], _, hrow =>
    obtain ⟨b, o, rfl, hb, c0⟩ := hrow 0 (by simp)
    obtain ⟨b1, o1, e1, _, c1⟩ := hrow 1 (by simp)
    cases e1
    obtain ⟨b2, o2, e2, _, c2⟩ := hrow 2 (by simp)
    cases e2
    obtain ⟨b3, o3, e3, _, c3⟩ := hrow 3 (by simp)
    cases e3
    obtain ⟨b4, o4, e4, _, c4⟩ := hrow 4 (by simp)
    cases e4
    exact order5 b o cap x0 x1 x2 x3 x4 w hb c0 c1 c2 c3 c4
  | _ :: _ :: _ :: _ :: _ :: _ :: _, h, _ => simp at h

def ordEq (n : Int) (a b c d e : ByteArray) (m : Int) (a' b' c' d' e' : ByteArray) : Bool :=
  n == m && (a.toList == a'.toList && (b.toList == b'.toList && (c.toList == c'.toList && (d.toList == d'.toList && e.toList == e'.toList))))
def arrEq (a b c d e a' b' c' d' e' : ByteArray) : Bool :=
  a.toList == a'.toList && (b.toList == b'.toList && (c.toList == c'.toList && (d.toList == d'.toList && e.toList == e'.toList)))
set_option maxRecDepth 100000 in
set_option maxHeartbeats 2000000 in
theorem run_arr (a b c d e a' b' c' d' e' : ByteArray) (w : World) :
    (Op.equalIn 9999 173 (.agg #[.string a, .string b, .string c, .string d, .string e]) (.agg #[.string a', .string b', .string c', .string d', .string e'])).run Tryz.prog w = .ok (arrEq a b c d e a' b' c' d' e') w := by
  have u9 := Tryz.underlying9
  have a9 := Tryz.isAgg9
  have z9 := Tryz.sizeOf9
  unfold arrEq
  rw [show (9999 : Nat) = 9998 + 1 from rfl, Op.equalIn]
  simp only [Sem.run_bind, run_underlying Tryz.underlying173, Result.andThen_ok]
  simp only [Std.Legacy.Range.forIn_eq_forIn_range', Std.Legacy.Range.size, Nat.sub_zero, Nat.add_sub_cancel, Nat.div_one, List.range'_succ, List.range'_zero, List.forIn_cons, List.forIn_nil]
  go_simp
  cases h1 : (a.toList == a'.toList) <;> cases h2 : (b.toList == b'.toList) <;> cases h3 : (c.toList == c'.toList) <;> cases h4 : (d.toList == d'.toList) <;> cases h5 : (e.toList == e'.toList) <;> simp_all
set_option maxHeartbeats 2000000 in
theorem run_ord_neq (n : Int) (a b c d e : ByteArray) (m : Int) (a' b' c' d' e' : ByteArray) (w : World) :
    (binOp .neq 175 (ordV n a b c d e) (ordV m a' b' c' d' e')).run Tryz.prog w = .ok (.bool !(ordEq n a b c d e m a' b' c' d' e')) w := by
  have ha := run_arr a b c d e a' b' c' d' e' w
  have ho : ordEq n a b c d e m a' b' c' d' e' = (n == m && arrEq a b c d e a' b' c' d' e') := rfl
  rw [ho]
  generalize arrEq a b c d e a' b' c' d' e' = r at ha
  unfold ordV
  by_cases h1 : n = m
  · subst h1
    go_simp
    cases r <;> simp
  · go_simp
    try simp [h1]
theorem bytes_eq2 {s u : ByteArray} (h : s.toList = u.toList) : s = u := by
  rw [ByteArray.toList_eq, ByteArray.toList_eq] at h
  exact ByteArray.ext (Array.toList_inj.1 h)
theorem ordEq_iff (l m : List ByteArray) (hl : l.length ≤ 5) (hm : m.length ≤ 5) : ordEq l.length (nthN l 0) (nthN l 1) (nthN l 2) (nthN l 3) (nthN l 4) m.length (nthN m 0) (nthN m 1) (nthN m 2) (nthN m 3) (nthN m 4) = true ↔ l = m := by
  constructor
  · intro h
    unfold ordEq at h
    simp only [Bool.and_eq_true, beq_iff_eq] at h
    obtain ⟨h0, h1, h2, h3, h4, h5⟩ := h
    have hlen : l.length = m.length := by omega
    have key : ∀ i, i < 5 → nthN l i = nthN m i := by
      intro i hi
      match i, hi with
      | 0, _ => exact bytes_eq2 h1
      | 1, _ => exact bytes_eq2 h2
      | 2, _ => exact bytes_eq2 h3
      | 3, _ => exact bytes_eq2 h4
      | 4, _ => exact bytes_eq2 h5
    refine List.ext_getElem hlen fun i h1 h2 => ?_
    have := key i (by omega)
    unfold nthN at this
    rw [← List.getElem_eq_getD (h := h1), ← List.getElem_eq_getD (h := h2)] at this
    exact this
  · intro h
    subst h
    unfold ordEq
    simp

end Go.Proofs.YtjiaciikbnpicaaGreatDoor

/-
  The contracts of the program's questions whether a row fits, and whether a table is right.
-/
namespace Go.Proofs.YtjiaciikbnpicaaGreatDoor
open Go.ChangeShapes Go.WideShapes Go.ChangeAt Go.RowKit
attribute [local go_sem ↓] Go.wp_at_zero Go.wp_at_succ
attribute [local simp] World.cell?_alloc_past World.cell?_alloc_at World.frozen?_alloc_at cell_far cell_off cell_here World.frozen?_alloc_past

set_option maxHeartbeats 2000000 in
theorem every_cells (a : Option Addr) (cap : Nat) (l : List CT) (w : World) (hrow : RowAt w a l) (hfit : Fit l) (hm : l.length ≤ maxLen) (b : Bool) (hb : l.all okC = b) :
    Calls Tryz.prog 165 #[.agg #[.slice a l.length cap], .func (.func 166) #[] #[]] w fun e w' => e = .returned (.bool b) ∧ Below w.heap.size w w' := by
  have HR : Hid (RowAt w a l) := hrow
  have HF : Hid (Fit l) := hfit
  have HB : Hid (l.all okC = b) := hb
  clear hrow hfit hb
  unfold maxLen at hm
  go_enter Tryz.func165, Tryz.ntmps165
  have hA : Below w.heap.size w (w.alloc (.cells #[.slice a l.length cap] 216)) := (Below.refl _ _).alloc (Nat.le_refl _) _
  go_wp2
  go_loopw [10] (fun kk wr => ∃ k : Nat, k ≤ l.length ∧ kk = .int .i64 k ∧ Hid ((l.take k).all okC = true) ∧ Below w.heap.size w wr) (fun kk _ => l.length - (intOf kk).toNat)
  case atStart => exact ⟨0, Nat.zero_le _, rfl, rfl, hA⟩
  case round =>
    obtain ⟨k, hk, rfl, hall, hbw⟩ := hrel
    by_cases hlt : k < l.length
    · obtain ⟨g, o, rfl, hgw, c0, c1, c2⟩ := HR.out.below hbw k hlt
      have hi0 : (0 : Int) ≤ (k : Int) := by omega
      have hi1 : (k : Int) < (l.length : Int) := by omega
      have hft := HF.out k hlt
      have HS : Hid ((l.take (k + 1)).all okC = okC l[k]) := by
        have : (l.take (k + 1)).all okC = okC l[k] := by
          rw [List.take_succ_eq_append_getElem hlt, List.all_append, hall.out, Bool.true_and, List.all_cons, List.all_nil, Bool.and_true]
        exact this
      have hno : Hid (okC l[k] = false → b = false) := by
        have : okC l[k] = false → b = false := by
          intro e
          rw [← HB.out, Bool.eq_false_iff]
          intro h
          rw [List.all_eq_true.1 h _ (List.getElem_mem hlt)] at e
          cases e
        exact this
      obtain ⟨r, hr⟩ : ∃ r, okC l[k] = r := ⟨_, rfl⟩
      generalize l[k] = x at c0 c1 c2 hft HS hr hno
      obtain ⟨x0, x1, x2⟩ := x
      dsimp only at c0 c1 c2 hft
      have HRR : Hid (okC (x0, x1, x2) = r) := hr
      have HRB : Hid (okB x0 x1 x2 = r) := hr
      clear hr
      go_wp2_with fail
      refine (ok_implb x0 x1 x2 r HRB.out _ hft).mono ?_
      rintro e wA ⟨rfl, hbA⟩
      have hxA := chain hbw (chainA hbA)
      clear hbA
      cases r
      · have e := hno.out HRR.out
        subst e
        go_wp2
        go_ret
        exact ⟨rfl, hxA⟩
      · go_wp2
        go_roundw
        case rel => exact ⟨k + 1, by omega, by go_num, by rw [HS.out]; exact HRR.out, hxA⟩
        case measure => simp [intOf]; omega
    · have hkl : k = l.length := by omega
      subst hkl
      have hnn : ¬ (l.length : Int) < (l.length : Int) := by omega
      have e : b = true := by
        rw [← HB.out]
        have := hall.out
        rw [List.take_length] at this
        exact this
      subst e
      go_wp2
      go_ret
      exact ⟨rfl, hbw⟩

theorem rowfits_impl (n : Nat) (a : Option Addr) (cap : Nat) (l : List CT) (hn : l.length = n) (w : World) (hrow : RowAt w a l) (hfit : Fit l) (hm : n ≤ maxLen) (nc : Nat) (b : Bool) (hb : rowOk nc l = b) :
    Calls Tryz.prog 152 #[.slice a n cap, .int .i64 nc] w fun e w' => e = .returned (.bool b) ∧ Below w.heap.size w w' := by
  have hmm := hm
  unfold maxLen at hmm
  unfold rowOk at hb
  rw [hn] at hb
  by_cases he : n = nc
  · rw [decide_eq_true he, Bool.true_and] at hb
    have E : Hid (Calls Tryz.prog 165 #[.agg #[.slice a n cap], .func (.func 166) #[] #[]] w fun e w' => e = .returned (.bool b) ∧ Below w.heap.size w w') := by
      have : Calls Tryz.prog 165 #[.agg #[.slice a n cap], .func (.func 166) #[] #[]] w fun e w' => e = .returned (.bool b) ∧ Below w.heap.size w w' := by
        subst hn; exact every_cells a cap l w hrow hfit hm b hb
      exact this
    subst he
    clear hrow hfit hn hb
    go_enter Tryz.func152, Tryz.ntmps152
    go_wp2_with fail
    refine E.out.mono ?_
    rintro e w1 ⟨rfl, hb1⟩
    go_wp2
    go_ret
    exact ⟨rfl, hb1⟩
  · rw [decide_eq_false he, Bool.false_and] at hb
    subst hb
    have hne : ((n : Int) == (nc : Int)) = false := by rw [beq_eq_false_iff_ne]; omega
    have hne2 : ¬ (n : Int) = (nc : Int) := by omega
    clear hrow hfit hn
    go_enter Tryz.func152, Tryz.ntmps152
    go_wp2
    go_ret
    exact ⟨rfl, Below.refl _ _⟩

set_option maxHeartbeats 2000000 in
theorem every_rows (g : Nat) (hent : ∀ (xs : Array Value) (w : World), (callFunc g xs).run Tryz.prog w = .ok (.enter g xs) w) (ad : Addr) (p : List CT → Bool) (nr : Nat) (a : Option Addr) (cap : Nat) (L : List (List CT)) (hn : L.length = nr) (w : World) (hrow : RowsAt w a L) (hm : nr ≤ maxLen)
    (hg : ∀ k (hk : k < L.length) w' ai ci, Below w.heap.size w w' → RowAt w' ai L[k] → Calls Tryz.prog g #[.slice ai L[k].length ci, .pointer (some ad)] w' fun e w'' => e = .returned (.bool (p L[k])) ∧ Below w'.heap.size w' w'') (b : Bool) (hb : L.all p = b) :
    Calls Tryz.prog 150 #[.agg #[.slice a nr cap], .func (.func g) #[] #[.pointer (some ad)]] w fun e w' => e = .returned (.bool b) ∧ Below w.heap.size w w' := by
  have HR : Hid (RowsAt w a L) := hrow
  have HG : Hid (∀ k (hk : k < L.length) w' ai ci, Below w.heap.size w w' → RowAt w' ai L[k] → Calls Tryz.prog g #[.slice ai L[k].length ci, .pointer (some ad)] w' fun e w'' => e = .returned (.bool (p L[k])) ∧ Below w'.heap.size w' w'') := hg
  have HB : Hid (L.all p = b) := hb
  have HN : Hid (L.length = nr) := hn
  clear hrow hb hg hn
  unfold maxLen at hm
  go_enter Tryz.func150, Tryz.ntmps150
  have hA : Below w.heap.size w (w.alloc (.cells #[.slice a nr cap] 200)) := (Below.refl _ _).alloc (Nat.le_refl _) _
  go_wp2
  go_loopw [10] (fun kk wr => ∃ k : Nat, k ≤ nr ∧ kk = .int .i64 k ∧ Hid ((L.take k).all p = true) ∧ Below w.heap.size w wr) (fun kk _ => nr - (intOf kk).toNat)
  case atStart => exact ⟨0, Nat.zero_le _, rfl, rfl, hA⟩
  case round =>
    obtain ⟨k, hk, rfl, hall, hbw⟩ := hrel
    by_cases hlt : k < nr
    · have hlt' : k < L.length := by rw [HN.out]; exact hlt
      obtain ⟨g1, o, ai, ci, rfl, hgw, c0, hrow, hfit, hlen, _⟩ := HR.out.below hbw k hlt'
      have hi0 : (0 : Int) ≤ (k : Int) := by omega
      have hi1 : (k : Int) < (nr : Int) := by omega
      have HS : Hid ((L.take (k + 1)).all p = p L[k]) := by
        have : (L.take (k + 1)).all p = p L[k] := by
          rw [List.take_succ_eq_append_getElem hlt', List.all_append, hall.out, Bool.true_and, List.all_cons, List.all_nil, Bool.and_true]
        exact this
      have hno : Hid (p L[k] = false → b = false) := by
        have : p L[k] = false → b = false := by
          intro e
          rw [← HB.out, Bool.eq_false_iff]
          intro h
          rw [List.all_eq_true.1 h _ (List.getElem_mem hlt')] at e
          cases e
        exact this
      have HC : Hid (Calls Tryz.prog g #[.slice ai L[k].length ci, .pointer (some ad)] wr fun e w'' => e = .returned (.bool (p L[k])) ∧ Below wr.heap.size wr w'') := HG.out k hlt' wr ai ci hbw hrow
      clear hrow hfit
      obtain ⟨r, hr⟩ : ∃ r, p L[k] = r := ⟨_, rfl⟩
      rw [hr] at HS hno HC
      clear hr
      obtain ⟨n, hnn⟩ : ∃ n, L[k].length = n := ⟨_, rfl⟩
      rw [hnn] at c0 hlen HC
      clear hnn
      go_wp2_with fail
      refine HC.out.mono ?_
      rintro e wA ⟨rfl, hbA⟩
      have hxA := chain hbw hbA
      clear hbA HC
      cases r
      · have e := hno.out (by trivial)
        subst e
        go_wp2
        go_ret
        exact ⟨rfl, hxA⟩
      · go_wp2
        go_roundw
        case rel => exact ⟨k + 1, by omega, by go_num, HS, hxA⟩
        case measure => simp [intOf]; omega
    · have hkl : k = nr := by omega
      subst hkl
      have hnn : ¬ (k : Int) < (k : Int) := by omega
      have e : b = true := by
        rw [← HB.out]
        have := hall.out
        rw [← HN.out, List.take_length] at this
        exact this
      subst e
      go_wp2
      go_ret
      exact ⟨rfl, hbw⟩

theorem ent_tab1 : ∀ (xs : Array Value) (w : World), (callFunc 151 xs).run Tryz.prog w = .ok (.enter 151 xs) w := fun xs w => by kernel_rfl

theorem tab1_impl (n : Nat) (ai : Option Addr) (ci : Nat) (l : List CT) (hn : l.length = n) (w : World) (hrow : RowAt w ai l) (hfit : Fit l) (hm : n ≤ maxLen) (B : Nat) (ca : Option Addr) (nc cc : Nat) (hB : w.cell? ⟨B, 1, none⟩ = some (.slice ca nc cc)) (b : Bool) (hb : rowOk nc l = b) :
    Calls Tryz.prog 151 #[.slice ai n ci, .pointer (some ⟨B, 0, none⟩)] w fun e w' => e = .returned (.bool b) ∧ Below w.heap.size w w' := by
  have E : Hid (Calls Tryz.prog 152 #[.slice ai n ci, .int .i64 nc] w fun e w' => e = .returned (.bool b) ∧ Below w.heap.size w w') := rowfits_impl n ai ci l hn w hrow hfit hm nc b hb
  clear hrow hfit hn hb
  go_enter Tryz.func151, Tryz.ntmps151
  go_wp2_with fail
  refine E.out.mono ?_
  rintro e w1 ⟨rfl, hb1⟩
  go_wp2
  go_ret
  exact ⟨rfl, hb1⟩

theorem rowsof_impl (nm : ByteArray) (ca : Option Addr) (nc cc : Nat) (ra : Option Addr) (nr cr : Nat) (w : World) :
    Calls Tryz.prog 149 #[.agg #[.string nm, .slice ca nc cc, .slice ra nr cr]] w fun e w' => e = .returned (.agg #[.slice ra nr cr]) ∧ Below w.heap.size w w' := by
  go_enter Tryz.func149, Tryz.ntmps149
  go_wp2
  exact bodyPost_ret (v := .agg #[.slice ra nr cr]) (by simp [results, Tryz.results149, go_sem]) rfl ⟨rfl, ((Below.refl _ _).alloc (Nat.le_refl _) _).alloc (by simp) _⟩

set_option maxRecDepth 100000 in
set_option maxHeartbeats 4000000 in
theorem table_impl (ca : Option Addr) (cc : Nat) (ra : Option Addr) (cr : Nat) (t : TB) (nc nr : Nat) (hnc : t.2.1.length = nc) (hnr : t.2.2.length = nr) (w : World) (ht : TabAt w ca cc ra t) (b : Bool) (hb : tableB t = b) :
    Calls Tryz.prog 124 #[.agg #[.string t.1, .slice ca nc cc, .slice ra nr cr]] w fun e w' => e = .returned (.bool b) ∧ Below w.heap.size w w' := by
  obtain ⟨nm, C, L⟩ := t
  dsimp only at hnc hnr ⊢
  have HT : Hid (TabAt w ca cc ra (nm, C, L)) := ht
  have HNC : Hid (C.length = nc) := hnc
  have HNR : Hid (L.length = nr) := hnr
  have hncM : nc ≤ maxLen := by rw [← hnc]; exact ht.len
  have hnrM : nr ≤ maxLen := by rw [← hnr]; exact ht.lenR
  have hcap : nc ≤ cc := by rw [← hnc]; exact ht.cap
  have hnm : nm.size ≤ maxLen := ht.name
  obtain ⟨b1, h1⟩ : ∃ x, nameB nm = x := ⟨_, rfl⟩
  obtain ⟨b2, h2⟩ : ∃ x, namesB C 1 6 = x := ⟨_, rfl⟩
  have HB1 : Hid (nameB nm = b1) := h1
  have HB2 : Hid (namesB C 1 6 = b2) := h2
  have hb' : ((b1 && (b2 && decide (nr ≤ 60))) && L.all (rowOk nc)) = b := by rw [← hb, ← h1, ← h2, ← hnc, ← hnr]; rfl
  clear ht hb h1 h2 hnc hnr
  have hm1 := hncM
  have hm2 := hnrM
  unfold maxLen at hm1 hm2
  have HTA : Hid (TabAt (w.alloc (.cells #[.string nm, .slice ca nc cc, .slice ra nr cr] 40)) ca cc ra (nm, C, L)) := HT.out.below ((Below.refl _ _).alloc (Nat.le_refl _) _)
  cases b1
  · rw [Bool.false_and, Bool.false_and] at hb'
    subst hb'
    go_enter Tryz.func124, Tryz.ntmps124
    go_wp2_with fail
    refine (name_impl nm _ hnm false HB1.out).mono ?_
    rintro e w' ⟨rfl, rfl⟩
    go_wp2
    go_ret
    exact ⟨rfl, (Below.refl _ _).alloc (Nat.le_refl _) _⟩
  rw [Bool.true_and] at hb'
  go_enter Tryz.func124, Tryz.ntmps124
  go_wp2_with fail
  refine (name_impl nm _ hnm true HB1.out).mono ?_
  rintro e w' ⟨rfl, rfl⟩
  go_wp2_with fail
  refine (columns_impl nc ca cc C HNC.out _ HTA.out.cols HTA.out.fit hncM hcap b2 HB2.out).mono ?_
  rintro e w1 ⟨rfl, hbx⟩
  obtain ⟨p0, p1, p2, p3⟩ := box3 hbx
  have hx1 : Below w.heap.size w w1 := chainA hbx
  have H1 : Hid (TabAt w1 ca cc ra (nm, C, L)) := HTA.out.below hbx
  clear hbx HTA HT
  cases b2
  · rw [Bool.false_and, Bool.false_and] at hb'
    subst hb'
    go_wp2
    go_ret
    exact ⟨rfl, hx1⟩
  rw [Bool.true_and] at hb'
  by_cases h60 : (60 : Int) < (nr : Int)
  · rw [decide_eq_false (by omega), Bool.false_and] at hb'
    subst hb'
    go_wp2
    go_ret
    exact ⟨rfl, hx1⟩
  rw [decide_eq_true (by omega), Bool.true_and] at hb'
  have HB : Hid (L.all (rowOk nc) = b) := hb'
  clear hb'
  have E : Hid (∀ w', Below w1.heap.size w1 w' → Calls Tryz.prog 150 #[.agg #[.slice ra nr cr], .func (.func 151) #[] #[.pointer (some ⟨w.heap.size, 0, none⟩)]] w' fun e w'' => e = .returned (.bool b) ∧ Below w'.heap.size w' w'') := by
    have : ∀ w', Below w1.heap.size w1 w' → Calls Tryz.prog 150 #[.agg #[.slice ra nr cr], .func (.func 151) #[] #[.pointer (some ⟨w.heap.size, 0, none⟩)]] w' fun e w'' => e = .returned (.bool b) ∧ Below w'.heap.size w' w'' := by
      intro w' hw
      refine every_rows 151 ent_tab1 ⟨w.heap.size, 0, none⟩ (rowOk nc) nr ra cr L HNR.out w' (H1.out.rows.below hw) hnrM ?_ b HB.out
      intro k hk w2 ai ci hw2 hra
      obtain ⟨_, _, _, _, _, _, _, _, hfit, hlen, _⟩ := H1.out.rows k hk
      exact tab1_impl _ ai ci L[k] rfl w2 hra hfit hlen w.heap.size ca nc cc (by rw [(chain hw hw2).cell (p := ⟨w.heap.size, 1, none⟩) p3]; exact p1) _ rfl
    exact this
  go_wp2_with fail
  refine (rowsof_impl _ _ _ _ _ _ _ _).mono ?_
  rintro e w2 ⟨rfl, hb2⟩
  go_wp2_with fail
  refine (E.out _ hb2).mono ?_
  rintro e w3 ⟨rfl, hb3⟩
  go_wp2
  go_ret
  exact ⟨rfl, chain hx1 (chain hb2 hb3)⟩

end Go.Proofs.YtjiaciikbnpicaaGreatDoor

/-
  The contract of the program's question whether all tables of a list are right.
-/
namespace Go.Proofs.YtjiaciikbnpicaaGreatDoor
open Go.ChangeShapes Go.WideShapes Go.ChangeAt Go.RowKit
attribute [local go_sem ↓] Go.wp_at_zero Go.wp_at_succ
attribute [local simp] World.cell?_alloc_past World.cell?_alloc_at World.frozen?_alloc_at cell_far cell_off cell_here World.frozen?_alloc_past

set_option maxHeartbeats 2000000 in
theorem every_tables (a : Option Addr) (cap : Nat) (T : List TB) (n : Nat) (hn : T.length = n) (w : World) (hrow : TabsAt w a T) (hm : n ≤ maxLen) (b : Bool) (hb : T.all tableB = b) :
    Calls Tryz.prog 123 #[.agg #[.slice a n cap], .func (.func 124) #[] #[]] w fun e w' => e = .returned (.bool b) ∧ Below w.heap.size w w' := by
  have HR : Hid (TabsAt w a T) := hrow
  have HN : Hid (T.length = n) := hn
  have HB : Hid (T.all tableB = b) := hb
  clear hrow hn hb
  unfold maxLen at hm
  go_enter Tryz.func123, Tryz.ntmps123
  have hA : Below w.heap.size w (w.alloc (.cells #[.slice a n cap] 171)) := (Below.refl _ _).alloc (Nat.le_refl _) _
  go_wp2
  go_loopw [10] (fun kk wr => ∃ k : Nat, k ≤ n ∧ kk = .int .i64 k ∧ Hid ((T.take k).all tableB = true) ∧ Below w.heap.size w wr) (fun kk _ => n - (intOf kk).toNat)
  case atStart => exact ⟨0, Nat.zero_le _, rfl, rfl, hA⟩
  case round =>
    obtain ⟨k, hk, rfl, hall, hbw⟩ := hrel
    by_cases hlt : k < n
    · have hlt' : Hid (k < T.length) := by have := HN.out; exact show k < T.length by omega
      obtain ⟨g, o, ca, cc, ra, cr, rfl, hgw, c0, c1, c2, hta⟩ := HR.out.below hbw k hlt'.out
      have hi0 : (0 : Int) ≤ (k : Int) := by omega
      have hi1 : (k : Int) < (n : Int) := by omega
      have HTA : Hid (TabAt wr ca cc ra (T[k]'hlt'.out)) := hta
      have HS : Hid ((T.take (k + 1)).all tableB = tableB (T[k]'hlt'.out)) := by
        have : (T.take (k + 1)).all tableB = tableB (T[k]'hlt'.out) := by
          rw [List.take_succ_eq_append_getElem hlt'.out, List.all_append, hall.out, Bool.true_and, List.all_cons, List.all_nil, Bool.and_true]
        exact this
      have hno : Hid (tableB (T[k]'hlt'.out) = false → b = false) := by
        have : tableB (T[k]'hlt'.out) = false → b = false := by
          intro e
          rw [← HB.out, Bool.eq_false_iff]
          intro h
          rw [List.all_eq_true.1 h _ (List.getElem_mem hlt'.out)] at e
          cases e
        exact this
      clear hta
      obtain ⟨r, hr⟩ : ∃ r, tableB (T[k]'hlt'.out) = r := ⟨_, rfl⟩
      generalize (T[k]'hlt'.out) = t at c0 c1 c2 HTA HS hr hno
      have HRR : Hid (tableB t = r) := hr
      obtain ⟨nc, hnc⟩ : ∃ m, t.2.1.length = m := ⟨_, rfl⟩
      obtain ⟨nr, hnr⟩ : ∃ m, t.2.2.length = m := ⟨_, rfl⟩
      rw [hnc] at c1
      rw [hnr] at c2
      have HNC : Hid (t.2.1.length = nc) := hnc
      have HNR : Hid (t.2.2.length = nr) := hnr
      clear hnc hnr hr
      obtain ⟨nm, hnm⟩ : ∃ s, t.1 = s := ⟨_, rfl⟩
      rw [hnm] at c0
      have HNM : Hid (t.1 = nm) := hnm
      clear hnm
      go_wp2_with fail
      rw [← HNM.out]
      refine (table_impl ca cc ra cr t nc nr HNC.out HNR.out _ (HTA.out.below ((Below.refl _ _).alloc (Nat.le_refl _) _)) r HRR.out).mono ?_
      rintro e wA ⟨rfl, hbA⟩
      have hxA := chain hbw (chainA hbA)
      clear hbA
      cases r
      · have e := hno.out HRR.out
        subst e
        go_wp2
        go_ret
        exact ⟨rfl, hxA⟩
      · go_wp2
        go_roundw
        case rel => exact ⟨k + 1, by omega, by go_num, by rw [HS.out]; exact HRR.out, hxA⟩
        case measure => simp [intOf]; omega
    · have hkl : k = n := by omega
      subst hkl
      have hnn : ¬ (k : Int) < (k : Int) := by omega
      have e : b = true := by
        rw [← HB.out]
        have := hall.out
        rw [← HN.out, List.take_length] at this
        exact this
      subst e
      go_wp2
      go_ret
      exact ⟨rfl, hbw⟩

end Go.Proofs.YtjiaciikbnpicaaGreatDoor

/-
  The contracts of the model's SameAs and Below.
-/
namespace Go.Proofs.YtjiaciikbnpicaaGreatDoor
open Go.ChangeShapes Go.WideShapes Go.ChangeAt Go.RowKit
attribute [local go_sem ↓] Go.wp_at_zero Go.wp_at_succ

end Go.Proofs.YtjiaciikbnpicaaGreatDoor

/-
  The contract of the model's helper that takes a row over: new memory.
-/
namespace Go.Proofs.YtjiaciikbnpicaaGreatDoor
open Go.ChangeShapes Go.WideShapes Go.ChangeAt Go.RowKit
attribute [local go_sem ↓] Go.wp_at_zero Go.wp_at_succ

/-- The cells of a row, one behind the other, lie there. -/
theorem flat_cells {w : World} {ad : Addr} {l : List CT} (h : RowAt w (some ad) l) (j : Nat) (u : Value) (hj : (flat l)[j]? = some u) : w.cell? (ad.add j) = some u := by
  have hlt : j < l.length * 3 := by
    have := (List.getElem?_eq_some_iff.1 hj).1
    rwa [flat_length] at this
  obtain ⟨b, o, e, _, c0, c1, c2⟩ := h (j / 3) (by omega)
  cases e
  obtain ⟨f0, f1, f2⟩ := flat_at l (j / 3) (by omega)
  have hadd : ∀ q, ((⟨b, o, none⟩ : Addr).add q) = ⟨b, o + q, none⟩ := by
    intro q
    unfold Addr.add
    by_cases hq : q = 0 <;> simp [hq]
  rw [hadd]
  rcases (show j = j / 3 * 3 ∨ j = j / 3 * 3 + 1 ∨ j = j / 3 * 3 + 2 by omega) with e | e | e
  · rw [e] at hj ⊢
    rw [f0] at hj
    rw [← hj]; exact c0
  · rw [e] at hj
    rw [f1] at hj
    rw [e, ← hj, ← Nat.add_assoc]; exact c1
  · rw [e] at hj
    rw [f2] at hj
    rw [e, ← hj, ← Nat.add_assoc]; exact c2

theorem flat_one (l : List CT) : ∀ u ∈ flat l, u.oneCell' = true := by
  induction l with
  | nil => intro u hu; cases hu
  | cons x l ih =>
    intro u hu
    simp only [flat, List.mem_cons] at hu
    rcases hu with rfl | rfl | rfl | hu
    · rfl
    · rfl
    · rfl
    · exact ih u hu

end Go.Proofs.YtjiaciikbnpicaaGreatDoor
