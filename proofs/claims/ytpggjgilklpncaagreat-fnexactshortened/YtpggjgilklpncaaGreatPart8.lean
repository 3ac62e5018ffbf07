/-
  A part of the proof: Sh1, ShMath, ShI1.
-/
import Derived.Test.YtpggjgilklpncaaGreatPart1
import Derived.Maps.OwnSet
import Derived.Sort.KeysCollected
import Derived.Test.YtpggjgilklpncaaGreatPart7
import Derived.Test.YtpggjgilklpncaaGreatIter
import Derived.Test.YtpggjgilklpncaaGreatPart3

/-
  A map from names to values, as the program's shelf is one: what it holds, told by the list of its names and by what stands at each; made, written, asked, struck and cleared.
-/
namespace Go.Proofs.YtpggjgilklpncaaGreat
open Go.ChangeShapes Go.WideShapes Go.ChangeAt Go.RowKit Go.Maps

/-- What stands in the map is told as it is. -/
def tokR (v : Value) : Option (DataW Value × List MemPlace) := some (.held v, [])
def keyL (s : ByteArray) : Lit := .string s.data.toList
theorem keyL_inj {s t : ByteArray} (h : keyL s = keyL t) : s = t := by
  unfold keyL at h
  injection h with h
  exact ByteArray.ext (Array.toList_inj.1 h)
instance decMemB (s : ByteArray) (ks : List ByteArray) : Decidable (s ∈ ks) :=
  decidable_of_iff (s.data.toList ∈ ks.map (fun x => x.data.toList)) ⟨fun h => by
    obtain ⟨x, hx, e⟩ := List.mem_map.1 h
    rw [← ByteArray.ext (Array.toList_inj.1 e)]; exact hx, fun h => List.mem_map.2 ⟨s, h, rfl⟩⟩
theorem keyL_key (s : ByteArray) : WideAt.IsKeyLit (keyL s) := True.intro
/-- The map holds these names, each once, and at each what f says. -/
structure Says (D : DataW Value) (ks : List ByteArray) (f : ByteArray → Value) : Prop where
  nodup : ks.Nodup
  has : ∀ s, Maps.has D (keyL s) = decide (s ∈ ks)
  holds : ∀ s, s ∈ ks → ∀ z, D.atKey (keyL s) z = .held (f s)
theorem says_none (f : ByteArray → Value) : Says (.map []) [] f := ⟨List.nodup_nil, fun s => by simp [Maps.has], fun s h => by cases h⟩
/-- A name more, or another value at one that is there. -/
def putK (ks : List ByteArray) (s : ByteArray) : List ByteArray := if s ∈ ks then ks else ks ++ [s]
def putF (f : ByteArray → Value) (s : ByteArray) (v : Value) : ByteArray → Value := fun x => if x = s then v else f x
theorem mem_putK (ks : List ByteArray) (s x : ByteArray) : x ∈ putK ks s ↔ (x = s ∨ x ∈ ks) := by
  unfold putK
  split
  · rename_i h
    exact ⟨Or.inr, fun e => by rcases e with rfl | e <;> assumption⟩
  · simp only [List.mem_append, List.mem_singleton]
    exact Or.comm
theorem nodup_putK {ks : List ByteArray} (h : ks.Nodup) (s : ByteArray) : (putK ks s).Nodup := by
  unfold putK
  split
  · exact h
  · rename_i hn
    refine List.nodup_append.2 ⟨h, List.pairwise_singleton _ _, fun a ha b hb e => ?_⟩
    rw [List.mem_singleton] at hb
    subst hb; subst e; exact hn ha
theorem Says.put {D : DataW Value} {ks : List ByteArray} {f : ByteArray → Value} (h : Says D ks f) (hD : IsMap D) (s : ByteArray) (v : Value) : Says (D.put (keyL s) (.held v)) (putK ks s) (putF f s v) := by
  refine ⟨nodup_putK h.nodup s, fun x => ?_, fun x hx z => ?_⟩
  · by_cases e : x = s
    · subst e
      rw [has_put_same hD (keyL_key x)]
      exact (decide_eq_true ((mem_putK ks x x).2 (Or.inl rfl))).symm
    · rw [has_put_other (fun e' => e (keyL_inj e')), h.has x]
      have : (x ∈ putK ks s) ↔ x ∈ ks := by rw [mem_putK]; exact ⟨fun q => q.resolve_left e, Or.inr⟩
      rw [decide_eq_decide]; exact this.symm
  · by_cases e : x = s
    · subst e
      rw [atKey_put_same hD (keyL_key x)]
      simp [putF]
    · rw [atKey_put_other (fun e' => e (keyL_inj e')), h.holds x (((mem_putK ks s x).1 hx).resolve_left e)]
      simp [putF, e]
/-- Without a name. -/
def cutK (ks : List ByteArray) (s : ByteArray) : List ByteArray := ks.filter (fun x => decide (x ≠ s))
theorem Says.del {D : DataW Value} {ks : List ByteArray} {f : ByteArray → Value} (h : Says D ks f) (s : ByteArray) : Says (D.del (keyL s)) (cutK ks s) f := by
  refine ⟨h.nodup.filter _, fun x => ?_, fun x hx z => ?_⟩
  · by_cases e : x = s
    · subst e
      rw [has_del_same]
      symm
      rw [decide_eq_false_iff_not]
      intro hm
      have := (List.mem_filter.1 hm).2
      simp at this
    · rw [has_del_other (fun e' => e (keyL_inj e')), h.has x, decide_eq_decide]
      unfold cutK
      rw [List.mem_filter]
      exact ⟨fun q => ⟨q, by simpa using e⟩, fun q => q.1⟩
  · have hm := List.mem_filter.1 hx
    have e : x ≠ s := by simpa using hm.2
    rw [atKey_del_other (fun e' => e (keyL_inj e')), h.holds x hm.1]

theorem str_keyed : Keyed Tryz.prog 9 := string_keyed Tryz.underlying9
/-- Block B is a map of at most n names that holds these. -/
def ShelfAt (w : World) (B n : Nat) (ks : List ByteArray) (f : ByteArray → Value) : Prop :=
  ∃ D, w.ownsMap Tryz.prog 9 tokR B n D ∧ Says D ks f
theorem ShelfAt.lt {w : World} {B n : Nat} {ks : List ByteArray} {f : ByteArray → Value} (h : ShelfAt w B n ks f) : B < w.heap.size := by
  obtain ⟨D, h, _⟩ := h
  exact h.lt
theorem ShelfAt.block {w w' : World} {B n : Nat} {ks : List ByteArray} {f : ByteArray → Value} (h : ShelfAt w B n ks f) (hb : w'.heap[B]? = w.heap[B]?) : ShelfAt w' B n ks f := by
  obtain ⟨D, ⟨es, clock, he, F, hs, hD⟩, S⟩ := h
  exact ⟨D, ⟨es, clock, hb.trans he, F, hs, hD⟩, S⟩
theorem ShelfAt.below {w w' : World} {B n : Nat} {ks : List ByteArray} {f : ByteArray → Value} (h : ShelfAt w B n ks f) (hb : Below w.heap.size w w') : ShelfAt w' B n ks f :=
  h.block (hb.block B h.lt)
theorem ShelfAt.made (w : World) (f : ByteArray → Value) : ShelfAt (w.alloc (.map #[] 0)) w.heap.size 0 [] f := ⟨.map [], World.ownsMap_made w _ _ _, says_none f⟩
theorem strs_of_keys {w : World} {B n : Nat} {D : DataW Value} {ks : List ByteArray} {f : ByteArray → Value} (h : w.ownsMap Tryz.prog 9 tokR B n D) (S : Says D ks f) : (ks.map (fun s => s.data.toList)).Perm (strKeys D) := by
  obtain ⟨es, rfl, hk⟩ := h.keysOf
  obtain ⟨es', e, hp⟩ := h.tidy str_keyed
  injection e with e
  subst e
  refine perm_strKeys hp (fun p hpm => ?_) ?_ (fun x => ?_)
  · obtain ⟨v, hv⟩ := hk p hpm
    obtain ⟨x, _, e, _⟩ := Maps.keyOf_str Tryz.underlying9 hv
    exact ⟨x, e⟩
  · refine List.pairwise_map.2 (S.nodup.imp fun {a b} hne e => hne (ByteArray.ext (Array.toList_inj.1 e)))
  · have e := S.has ⟨x.toArray⟩
    have ek : keyL ⟨x.toArray⟩ = .string x := rfl
    rw [ek] at e
    rw [e, List.mem_map]
    rw [show (decide ((⟨x.toArray⟩ : ByteArray) ∈ ks) = true) = ((⟨x.toArray⟩ : ByteArray) ∈ ks) from propext decide_eq_true_iff]
    exact ⟨fun ⟨s, hs, e⟩ => by subst e; exact hs, fun hs => ⟨_, hs, rfl⟩⟩
theorem size_keys {w : World} {B n : Nat} {D : DataW Value} {ks : List ByteArray} {f : ByteArray → Value} (h : w.ownsMap Tryz.prog 9 tokR B n D) (S : Says D ks f) : Maps.size D = ks.length := by
  have p := (strs_of_keys h S).length_eq
  obtain ⟨es, rfl, _⟩ := h.keysOf
  rw [List.length_map] at p
  rw [p, size_eq]
  simp [strKeys]
/-- A map block that turned lies above what was there. -/
theorem below_turned {base B : Nat} {a w w' : World} (h : Below base a w) (t : w.mapTurned w' B) (hB : base ≤ B) : Below base a w' := by
  obtain ⟨es, clock, es', clock', hb, rfl⟩ := t
  refine ⟨h.os, h.tape, h.output, ?_, fun k hk => ?_⟩
  · have := h.size; simpa [ChangeMaps.setBlock] using this
  · rw [ChangeMaps.heap_setBlock_other hb _ (by omega)]; exact h.block k hk
theorem keyOf_txt (s : ByteArray) (h : s.size ≤ maxLen) : _root_.Go.keyOf Tryz.prog 9 (.string s) = some (keyL s) := WideMaps.keyOf_string_mk Tryz.underlying9 h
end Go.Proofs.YtpggjgilklpncaaGreat

/-
  Names in their order, without any program: sorted there is but one list; a list of names is its own sorted one, each once, just where the names rise.
-/
namespace Go.Proofs.YtpggjgilklpncaaGreat
open Go.Maps

abbrev leB2 : List UInt8 → List UInt8 → Bool := fun x y => decide (x ≤ y)
def ofB (x : List UInt8) : ByteArray := ⟨x.toArray⟩
/-- The names, sorted. -/
def srt (ks : List ByteArray) : List ByteArray := ((ks.map (fun s => s.data.toList)).mergeSort leB2).map ofB
theorem map_bytes_srt (ks : List ByteArray) : (srt ks).map (fun s => s.data.toList) = (ks.map (fun s => s.data.toList)).mergeSort leB2 := by
  unfold srt
  rw [List.map_map]
  exact List.map_id _
theorem srt_perm (ks : List ByteArray) : (srt ks).Perm ks := by
  have h := (List.mergeSort_perm (ks.map (fun s => s.data.toList)) leB2).map ofB
  have e : (ks.map (fun s => s.data.toList)).map ofB = ks := by rw [List.map_map]; exact List.map_id _
  rw [e] at h
  exact h
theorem srt_length (ks : List ByteArray) : (srt ks).length = ks.length := (srt_perm ks).length_eq
def ltN (x y : ByteArray) : Prop := Op.bytesLess x.toList y.toList = true
theorem risesN_iff (l : List ByteArray) : risesN l = true ↔ l.Pairwise ltN := by
  induction l with
  | nil => exact ⟨fun _ => List.Pairwise.nil, fun _ => rfl⟩
  | cons x l ih =>
    cases l with
    | nil => exact ⟨fun _ => List.pairwise_singleton _ _, fun _ => rfl⟩
    | cons y l =>
      have e : risesN (x :: y :: l) = (Op.bytesLess x.toList y.toList && risesN (y :: l)) := rfl
      rw [e, Bool.and_eq_true, ih]
      constructor
      · intro ⟨h1, h2⟩
        refine List.pairwise_cons.2 ⟨fun z hz => ?_, h2⟩
        rcases List.mem_cons.1 hz with rfl | hz
        · exact h1
        · exact bl_trans h1 ((List.pairwise_cons.1 h2).1 z hz)
      · intro h
        obtain ⟨h1, h2⟩ := List.pairwise_cons.1 h
        exact ⟨h1 y (by simp), h2⟩
theorem lt_le {x y : ByteArray} (h : ltN x y) : leB2 x.data.toList y.data.toList = true := by
  unfold ltN at h
  rw [bytesLess_eq, decide_eq_true_iff, Lib.toList_data, Lib.toList_data] at h
  exact decide_eq_true (List.le_of_lt h)
theorem rises_nodup {l : List ByteArray} (h : risesN l = true) : l.Nodup := by
  refine ((risesN_iff l).1 h).imp fun {a b} hlt e => ?_
  subst e
  have := bl_irr a
  unfold ltN at hlt
  rw [hlt] at this
  cases this
theorem leB2_trans (a b c : List UInt8) (h1 : leB2 a b = true) (h2 : leB2 b c = true) : leB2 a c = true := by
  simp only [leB2, decide_eq_true_eq] at *; exact List.le_trans h1 h2
theorem leB2_total (a b : List UInt8) : (leB2 a b || leB2 b a) = true := by
  simp only [leB2, Bool.or_eq_true, decide_eq_true_eq]; exact List.le_total a b
/-- Sorted there is but one list. -/
theorem srt_is {ks V : List ByteArray} (hV : risesN V = true) (hp : V.Perm ks) : srt ks = V := by
  have e : (ks.map (fun s => s.data.toList)).mergeSort leB2 = V.map (fun s => s.data.toList) := by
    refine List.Perm.eq_of_pairwise (le := fun a b => leB2 a b = true) (fun a b _ _ h1 h2 => ?_) (List.pairwise_mergeSort leB2_trans leB2_total _) ?_ ((List.mergeSort_perm _ leB2).trans (hp.map _).symm)
    · simp only [leB2, decide_eq_true_eq] at h1 h2
      exact List.le_antisymm h1 h2
    · exact List.pairwise_map.2 (((risesN_iff V).1 hV).imp fun h => lt_le h)
  unfold srt
  rw [e, List.map_map]
  exact List.map_id _
theorem rises_srt {ks : List ByteArray} (h : ks.Nodup) : risesN (srt ks) = true := by
  rw [risesN_iff]
  have h1 : (srt ks).Nodup := (srt_perm ks).nodup_iff.2 h
  have h2 : (srt ks).Pairwise (fun x y => leB2 x.data.toList y.data.toList = true) := by
    have := List.pairwise_mergeSort leB2_trans leB2_total (ks.map (fun s => s.data.toList))
    rw [← map_bytes_srt] at this
    exact List.pairwise_map.1 this
  refine (h1.and h2).imp fun {a b} hh => ?_
  obtain ⟨hne, hle⟩ := hh
  unfold ltN
  rw [bytesLess_eq, decide_eq_true_iff, Lib.toList_data, Lib.toList_data]
  simp only [leB2, decide_eq_true_eq] at hle
  by_cases hlt : a.data.toList < b.data.toList
  · exact hlt
  · exact absurd (ByteArray.ext (Array.toList_inj.1 (List.le_antisymm hle (List.not_lt.1 hlt)))) hne
/-- The names of a list, each once, where it comes first. -/
def ksOf (l : List ByteArray) : List ByteArray := l.foldl putK []
theorem ksOf_snoc (l : List ByteArray) (x : ByteArray) : ksOf (l ++ [x]) = putK (ksOf l) x := by simp [ksOf, List.foldl_append]
theorem ksOf_nodup (l : List ByteArray) : (ksOf l).Nodup := by
  suffices ∀ (l acc : List ByteArray), acc.Nodup → (l.foldl putK acc).Nodup from this l [] List.nodup_nil
  intro l
  induction l with
  | nil => intro acc h; exact h
  | cons x l ih => intro acc h; exact ih _ (nodup_putK h x)
theorem putK_length (ks : List ByteArray) (s : ByteArray) : (putK ks s).length ≤ ks.length + 1 := by
  unfold putK; split <;> simp
theorem ksOf_length (l : List ByteArray) : (ksOf l).length ≤ l.length := by
  suffices ∀ (l acc : List ByteArray), (l.foldl putK acc).length ≤ acc.length + l.length by simpa [ksOf] using this l []
  intro l
  induction l with
  | nil => intro acc; exact Nat.le_refl _
  | cons x l ih =>
    intro acc
    have := ih (putK acc x)
    have := putK_length acc x
    simp only [List.foldl_cons, List.length_cons]
    omega
theorem ksOf_self {l : List ByteArray} (h : l.Nodup) : ksOf l = l := by
  suffices ∀ (l acc : List ByteArray), (acc ++ l).Nodup → l.foldl putK acc = acc ++ l by simpa [ksOf] using this l [] (by simpa using h)
  intro l
  induction l with
  | nil => intro acc _; simp
  | cons x l ih =>
    intro acc h
    have hx : x ∉ acc := by
      intro hm
      exact (List.nodup_append.1 h).2.2 x hm x (by simp) rfl
    rw [List.foldl_cons, show putK acc x = acc ++ [x] from if_neg hx, ih _ (by simpa using h)]
    simp
theorem mem_ksOf (l : List ByteArray) (s : ByteArray) : s ∈ ksOf l ↔ s ∈ l := by
  suffices ∀ (l acc : List ByteArray), s ∈ l.foldl putK acc ↔ (s ∈ acc ∨ s ∈ l) by simpa [ksOf] using this l []
  intro l
  induction l with
  | nil => intro acc; simp
  | cons x l ih =>
    intro acc
    rw [List.foldl_cons, ih, mem_putK, List.mem_cons]
    constructor
    · rintro ((h | h) | h)
      · exact .inr (.inl h)
      · exact .inl h
      · exact .inr (.inr h)
    · rintro (h | h | h)
      · exact .inl (.inr h)
      · exact .inl (.inl h)
      · exact .inr h
/-- Given as they are sorted, each once: that is where they rise. -/
theorem given_sorted (l : List ByteArray) : (l = srt (ksOf l)) ↔ risesN l = true := by
  constructor
  · intro e
    rw [e]; exact rises_srt (ksOf_nodup l)
  · intro h
    rw [ksOf_self (rises_nodup h), srt_is h (List.Perm.refl _)]
end Go.Proofs.YtpggjgilklpncaaGreat

/-
  The contract of the program's shelf that tells its names in order.
-/
namespace Go.Proofs.YtpggjgilklpncaaGreat
open Go.ChangeShapes Go.WideShapes Go.ChangeAt Go.RowKit Go.Maps Go.Sort Go.Shelf
attribute [local go_sem ↓] Go.wp_at_zero Go.wp_at_succ

theorem srt_perm_sort {ss : List (List UInt8)} {ks : List ByteArray} (h : ss.Perm (ks.map (fun s => s.data.toList))) : (ss.mergeSort (fun x y => decide (x ≤ y))).map encStr = strV (srt ks) := by
  have e : ss.mergeSort (fun x y => decide (x ≤ y)) = (ks.map (fun s => s.data.toList)).mergeSort leB2 := mergeSort_of_perm h
  rw [e]
  unfold srt strV
  rw [List.map_map]
  rfl

set_option maxHeartbeats 1000000 in
theorem names_impl (B n : Nat) (ks : List ByteArray) (f : ByteArray → Value) (w : World) (h : ShelfAt w B n ks f) (hm : ks.length ≤ 1048576) :
    Calls Tryz.prog 50 #[.map (some B)] w fun e w' => ∃ v, e = .returned v ∧ w'.ownsRow w.heap.size 9 1 v ks.length (strV (srt ks)) ∧ (v = .slice none 0 0 ↔ ks = []) ∧ Below w.heap.size w w' := by
  obtain ⟨D, hown, S⟩ := h
  have hz := size_keys hown S
  have hp := strs_of_keys hown S
  have hmax : Maps.size D ≤ maxLen := by rw [hz]; unfold maxLen; omega
  have hbytes : Maps.size D * 16 ≤ 140737488355328 := by rw [hz]; omega
  refine (callsIn_wide (n := 6)).1 ?_
  have hfK : Fence.wide.fn 67 := trivial
  have hfS : Fence.wide.fn 66 := trivial
  refine callsIn_of_wp Tryz.func50 rfl trivial ?_ rfl
  simp only [Tryz.ntmps50, List.size_toArray, List.length_cons, List.length_nil, Nat.reduceAdd, Nat.reduceSub, Array.replicate_succ, Array.replicate_zero, List.push_toArray, List.append_toArray, List.nil_append, List.cons_append]
  gi_wp2_with (first
    | (gi_at_call 67; refine (Tryz.maps_Keys_67 _ _).mono ?_; rintro e w' ⟨rfl, rfl⟩)
    | (gi_at_call 66; refine (Tryz.slices_Sorted_keys_66_67 B n D tokR w hown hmax hbytes).mono ?_; rintro e w' ⟨v, ss, rfl, hS, hrow, hnil, hb⟩))
  go_ret
  have hperm := hS.trans hp.symm
  have hlen : ss.length = ks.length := by rw [hperm.length_eq, List.length_map]
  refine ⟨v, rfl, ?_, ?_, ((Below.refl _ w).alloc (Nat.le_refl _) _).trans (hb.mono (by simp))⟩
  · rw [srt_perm_sort hperm, hlen] at hrow
    exact ownsRow_base_a hrow (by simp)
  · rw [hnil]
    constructor
    · intro e; subst e; exact List.eq_nil_of_length_eq_zero (by rw [← hlen]; rfl)
    · intro e; subst e; exact List.eq_nil_of_length_eq_zero (by rw [hlen]; rfl)

end Go.Proofs.YtpggjgilklpncaaGreat
