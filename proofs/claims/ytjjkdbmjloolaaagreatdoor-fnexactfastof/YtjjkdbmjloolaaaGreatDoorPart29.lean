/-
  A part of the proof: TabsOwn, PutS, SortMath, SortedS, CopyI.
-/
import Derived.Test.YtjjkdbmjloolaaaGreatDoorPart28
import Derived.Maps.AppendAt
import Derived.Test.YtjjkdbmjloolaaaGreatDoorPart1
import Derived.Test.YtjjkdbmjloolaaaGreatDoorPart8
import Derived.Test.YtjjkdbmjloolaaaGreatDoorPart27
import Derived.Test.YtjjkdbmjloolaaaGreatDoorPart6

namespace Go.Proofs.YtjjkdbmjloolaaaGreatDoor
open Go.ChangeShapes Go.WideShapes Go.ChangeAt Go.RowKit
def zeroTB : TB := (⟨#[]⟩, [], [])
def headV (t : TB) (q : TAd) : List Value := [.string t.1, .slice q.ca t.2.1.length q.cc, .slice q.ra t.2.2.length q.cr]
def tabsV (V : List TB) (Q : Nat → TAd) : Nat → List Value
 | 0 => []
 | k + 1 => tabsV V Q k ++ headV (V.getD k zeroTB) (Q k)
theorem tabsV_length (V : List TB) (Q : Nat → TAd) (k : Nat) : (tabsV V Q k).length = k * 3 := by
 induction k with
 | zero => rfl
 | succ k ih => rw [tabsV, List.length_append, ih]; simp [headV]; omega
theorem tabsV_congr {V : List TB} {Q Q' : Nat → TAd} {k : Nat} (h : ∀ i, i < k → Q i = Q' i) : tabsV V Q k = tabsV V Q' k := by
 induction k with
 | zero => rfl
 | succ k ih => rw [tabsV, tabsV, ih (fun i hi => h i (by omega)), h k (by omega)]
theorem getD_tb {V : List TB} {k : Nat} (h : k < V.length) : V.getD k zeroTB = V[k] := by simp [List.getD, List.getElem?_eq_getElem h]
theorem tabsV_at {V : List TB} {Q : Nat → TAd} {k i j : Nat} (hi : i < k) (hj : j < 3) : (tabsV V Q k)[i * 3 + j]? = (headV (V.getD i zeroTB) (Q i))[j]? := by
 induction k with
 | zero => omega
 | succ k ih =>
  rw [tabsV]
  by_cases e : i = k
  · subst e
   rw [List.getElem?_append_right (by rw [tabsV_length]; omega), tabsV_length]
   congr 1
   omega
  · rw [List.getElem?_append_left (by rw [tabsV_length]; omega)]
   exact ih (by omega)
structure OwnTs (w : World) (base : Nat) (v : Value) (V : List TB) (Q : Nat → TAd) (k : Nat) : Prop where
 own : w.ownsRow base 117 3 v k (tabsV V Q k)
 tabs : ∀ i (_ : i < V.length), i < k → OutT w base (Q i) V[i]
 apart : ∀ i j (_ : i < V.length) (_ : j < V.length) b, i < k → j < k → i ≠ j → (Q i).blks V[i] b → ¬ (Q j).blks V[j] b
 head : ∀ g, v.ownBlock = some g → ∀ i (_ : i < V.length), i < k → ¬ (Q i).blks V[i] g
theorem KeepS.grown {w w' : World} {row : Option Nat} (h : w.grownBy w' row) : KeepS (fun b => some b = row) w w' := ⟨h.os, h.tape, h.output, h.size, fun k hk hn => h.block k hk hn⟩
theorem OwnTs.below {w w' : World} {base : Nat} {v : Value} {V : List TB} {Q : Nat → TAd} {k : Nat} (h : OwnTs w base v V Q k) (hb : Below w.heap.size w w') : OwnTs w' base v V Q k :=
 ⟨own_below h.own hb, fun i hi hk => (h.tabs i hi hk).below hb, h.apart, h.head⟩
theorem OwnTs.start {w : World} {base : Nat} {v : Value} {V : List TB} (Q : Nat → TAd) (h : w.ownsRow base 117 3 v 0 []) : OwnTs w base v V Q 0 :=
 ⟨h, fun i _ h => by omega, fun i j _ _ b h => by omega, fun g _ i _ h => by omega⟩
theorem OwnTs.snoc {wr w1 w3 : World} {base : Nat} {v v' : Value} {V : List TB} {Q : Nat → TAd} {k : Nat} {q : TAd} {ob : Obj} (h : OwnTs wr base v V Q k) (hk : k < V.length) (hbase : base ≤ wr.heap.size) (hb : Below wr.heap.size wr w1) (hq : OutT w1 wr.heap.size q V[k])
  (hown : w3.ownsRow base 117 3 v' (k + 1) (tabsV V Q k ++ headV V[k] q)) (hgrow : (w1.alloc ob).grownBy w3 v.ownBlock) (hloc : v'.ownBlock = v.ownBlock ∨ v'.ownBlock = some (w1.alloc ob).heap.size) : OwnTs w3 base v' V (setQ Q k q) (k + 1) := by
 have hA : Below w1.heap.size w1 (w1.alloc ob) := (Below.refl _ _).alloc (Nat.le_refl _) _
 have far : ∀ i (hi : i < V.length) b, i < k → (Q i).blks V[i] b → b < wr.heap.size := fun i hi b hik hb => (h.tabs i hi hik).lt b hb
 have near : ∀ b, q.blks V[k] b → wr.heap.size ≤ b ∧ b < w1.heap.size := fun b hb => ⟨hq.lo b hb, OutTab.lt hq b hb⟩
 have KG := KeepS.grown hgrow
 have hgl : ∀ g, v.ownBlock = some g → g < wr.heap.size := fun g hg => (h.own.lt g hg).2
 refine ⟨?_, ?_, ?_, ?_⟩
 · rw [show tabsV V (setQ Q k q) (k + 1) = tabsV V Q k ++ headV V[k] q by
   rw [tabsV, setQ_at, getD_tb hk, tabsV_congr (Q' := Q) (fun i hi => setQ_old Q q (by omega))]]
  exact hown
 · intro i hi hlt
  by_cases e : i = k
  · subst e
   rw [setQ_at]
   refine OutTab.keepS ((hq.below hA).lower hbase) KG (fun b hb e => ?_)
   have := (near b hb).1
   have := hgl b e.symm
   omega
  · rw [setQ_old Q q e]
   exact OutTab.keepS (((h.tabs i hi (by omega)).below hb).below hA) KG (fun b hb e => h.head b e.symm i hi (by omega) hb)
 · intro i j hi hj b hil hjl hij hbi hbj
  by_cases ei : i = k
  · subst ei
   rw [setQ_at] at hbi
   rw [setQ_old Q q (Ne.symm hij)] at hbj
   have := (near b hbi).1
   have := far j hj b (by omega) hbj
   omega
  · rw [setQ_old Q q ei] at hbi
   by_cases ej : j = k
   · subst ej
    rw [setQ_at] at hbj
    have := (near b hbj).1
    have := far i hi b (by omega) hbi
    omega
   · rw [setQ_old Q q ej] at hbj
    exact h.apart i j hi hj b (by omega) (by omega) hij hbi hbj
 · intro g hg i hi hlt hbi
  have hsz : (w1.alloc ob).heap.size = w1.heap.size + 1 := by simp
  have hs1 := hb.size
  rcases hloc with e | e
  · rw [e] at hg
   by_cases ei : i = k
   · subst ei
    rw [setQ_at] at hbi
    have := (near g hbi).1
    have := hgl g hg
    omega
   · rw [setQ_old Q q ei] at hbi
    exact h.head g hg i hi (by omega) hbi
  · rw [hg] at e
   injection e with e
   by_cases ei : i = k
   · subst ei
    rw [setQ_at] at hbi
    have := (near g hbi).2
    omega
   · rw [setQ_old Q q ei] at hbi
    have := far i hi g (by omega) hbi
    omega
theorem OwnTs.out {w : World} {base : Nat} {v : Value} {V : List TB} {Q : Nat → TAd} {n : Nat} (hn : V.length = n) (h : OwnTs w base v V Q n) : ∃ a cap, v = .slice a n cap ∧ OutTs w base a V Q ∧ n ≤ cap := by
 subst hn
 rcases h.own.2 with ⟨e, h0⟩ | ⟨g, cap, cur, e, hbg, hg, hc, _⟩
 · have hV : V = [] := List.eq_nil_of_length_eq_zero h0
  subst hV
  exact ⟨none, 0, e, ⟨fun i hi => by simp at hi, fun i hi => by simp at hi, fun i j hi => by simp at hi, fun i hi => by simp at hi, fun g o h => by simp at h⟩, Nat.le_refl _⟩
 · subst e
  have hgl : g < w.heap.size := (h.own.lt g rfl).2
  have cel : ∀ i (hi : i < V.length) j, j < 3 → w.cell? ⟨g, i * 3 + j, none⟩ = (headV V[i] (Q i))[j]? := by
   intro i hi j hj
   rw [h.own.cellAt _ (by omega), tabsV_at hi hj, getD_tb hi]
  refine ⟨some ⟨g, 0, none⟩, cap, rfl, ⟨?_, h.tabs, h.apart, fun i hi g' o hm e => by cases e; exact h.head g rfl i hi hm, fun g' o _ e => by cases e; exact hbg⟩, hc⟩
  intro i hi _
  refine ⟨g, 0, rfl, hgl, ?_, ?_, ?_, h.own.frozenAt _⟩
  · have := cel i hi 0 (by omega); simpa [headV] using this
  · have := cel i hi 1 (by omega); simpa [headV] using this
  · have := cel i hi 2 (by omega); simpa [headV] using this
end Go.Proofs.YtjjkdbmjloolaaaGreatDoor
namespace Go.Proofs.YtjjkdbmjloolaaaGreatDoor
open Go.ChangeShapes Go.WideShapes Go.ChangeAt Go.RowKit
attribute [local go_sem ↓] Go.wp_at_zero Go.wp_at_succ
attribute [local simp] World.cell?_alloc_past World.cell?_alloc_at World.frozen?_alloc_at cell_far cell_off cell_here World.frozen?_alloc_past
def zeroT : TB := (⟨#[]⟩, [], [])
theorem own_cap {w : World} {base n g c : Nat} {e : TypeId} {size m : Nat} {xs : List Value} (h : w.ownsRow base e size (.slice (some ⟨g, 0, none⟩) m c) n xs) : n ≤ c := by
 rcases h.2 with ⟨h1, _⟩ | ⟨g', c', cur, h', _, _, hle, _⟩
 · simp at h1
 · simp only [Value.slice.injEq] at h'
  omega
theorem out_zero (w : World) (base : Nat) : OutTab w base none 0 none zeroT (fun _ => none) (fun _ => 0) where
 cols := fun j hj => absurd hj (Nat.not_lt_zero _)
 fit := fun j hj => absurd hj (Nat.not_lt_zero _)
 len := Nat.zero_le _
 cap := Nat.le_refl _
 nilC := fun _ => rfl
 lenR := Nat.zero_le _
 name := Nat.zero_le _
 fitR := fun j hj => absurd hj (Nat.not_lt_zero _)
 lenL := fun j hj => absurd hj (Nat.not_lt_zero _)
 nilR := fun _ _ => rfl
 free := fun b o e => (by cases e)
 heads := fun j hj => absurd hj (Nat.not_lt_zero _)
 un := fun k j hj => absurd hj (Nat.not_lt_zero _)
 ap := ⟨fun j hj => absurd hj (Nat.not_lt_zero _), fun i j hi => absurd hi (Nat.not_lt_zero _)⟩
 colR := by rintro b ⟨_, o, e⟩; cases e
 colH := by rintro b ⟨_, o, e⟩; cases e
 lo := by
  rintro b (⟨_, o, e⟩ | ⟨i, hi, _⟩ | ⟨_, o, e⟩)
  · cases e
  · exact absurd hi (Nat.not_lt_zero _)
  · cases e
theorem OwnRows.base {w : World} {b1 b2 : Nat} {v : Value} {L : List (List CT)} {G C : Nat → Nat} (h : OwnRows w b1 v L G C) (hle : b2 ≤ b1) : OwnRows w b2 v L G C :=
 ⟨own_base h.outer hle, fun j hj => own_base (h.inner j hj) hle, h.apart⟩
theorem OutTab.base {w : World} {b1 b2 : Nat} {ca : Option Addr} {cc : Nat} {ra : Option Addr} {t : TB} {A : Nat → Option Addr} {C : Nat → Nat} (h : OutTab w b1 ca cc ra t A C) (hle : b2 ≤ b1) : OutTab w b2 ca cc ra t A C :=
 ⟨h.cols, h.fit, h.len, h.cap, h.nilC, h.lenR, h.name, h.fitR, h.lenL, h.nilR, h.free, h.heads, h.un, h.ap, h.colR, h.colH, fun b hb => Nat.le_trans hle (h.lo b hb)⟩
theorem OutTab.set3 {w : World} {base : Nat} {ca : Option Addr} {cc : Nat} {ra : Option Addr} {t : TB} {A : Nat → Option Addr} {C : Nat → Nat} (h : OutTab w base ca cc ra t A C) (c : Nat) (hc : c < base) (i j k : Nat) (x y z : Value) : OutTab (((w.setCell ⟨c, i, none⟩ x).setCell ⟨c, j, none⟩ y).setCell ⟨c, k, none⟩ z) base ca cc ra t A C := by
 refine h.keepS (P := fun b => b = c) ?_ (fun b hb e => by have := h.lo b hb; omega)
 exact (((KeepS.refl (fun b => b = c) w).setCell (p := ⟨c, i, none⟩) rfl x).setCell (p := ⟨c, j, none⟩) rfl y).setCell (p := ⟨c, k, none⟩) rfl z
end Go.Proofs.YtjjkdbmjloolaaaGreatDoor
namespace Go.Proofs.YtjjkdbmjloolaaaGreatDoor
def SortedTo (lt : Nat → Nat → Bool) (p : List Nat) (m : Nat) : Prop := ∀ x y, x < y → y < m → lt (p.getD y 0) (p.getD x 0) = false
def InsAt (lt : Nat → Nat → Bool) (p : List Nat) (i k : Nat) : Prop :=
 (∀ x y, x < y → y ≤ i → x ≠ k → y ≠ k → lt (p.getD y 0) (p.getD x 0) = false) ∧ (∀ y, k < y → y ≤ i → lt (p.getD y 0) (p.getD k 0) = false)
def PlAt (p : List Nat) (n i k : Nat) : Prop := p.getD k 0 = i ∧ (∀ x, x ≤ i → x ≠ k → p.getD x 0 < i) ∧ (∀ x, i < x → x < n → p.getD x 0 = x)
theorem InsAt.start {lt : Nat → Nat → Bool} {p : List Nat} {i : Nat} (h : SortedTo lt p i) : InsAt lt p i i :=
 ⟨fun x y hxy hy _ hyk => h x y hxy (by omega), fun y h1 h2 => by omega⟩
theorem InsAt.done {lt : Nat → Nat → Bool} {p : List Nat} {i k N : Nat} (S : Strict lt N) (hp : ∀ x ∈ p, x < N) (hi : i < p.length) (hk : k ≤ i) (h : InsAt lt p i k) (hd : k = 0 ∨ lt (p.getD k 0) (p.getD (k - 1) 0) = false) : SortedTo lt p (i + 1) := by
 intro x y hxy hy
 by_cases e1 : x = k
 · subst e1; exact h.2 y hxy (by omega)
 · by_cases e2 : y = k
  · subst e2
   rcases hd with rfl | hd
   · omega
   · by_cases e3 : x = y - 1
    · subst e3; exact hd
    · exact S.neg (mem_lt hp (by omega)) (mem_lt hp (by omega)) hd (h.1 x (y - 1) (by omega) (by omega) (by omega) (by omega))
  · exact h.1 x y hxy (by omega) e1 e2
theorem InsAt.step {lt : Nat → Nat → Bool} {p : List Nat} {i k N : Nat} (S : Strict lt N) (hi : i < p.length) (hk : k ≤ i) (h0 : 0 < k) (h : InsAt lt p i k) (hl : lt (p.getD k 0) (p.getD (k - 1) 0) = true) : InsAt lt (swap 0 p (k - 1) k) i (k - 1) := by
 have h1 : k - 1 < p.length := by omega
 have h2 : k < p.length := by omega
 refine ⟨fun x y hxy hy hx hyk => ?_, fun y hy hyi => ?_⟩
 · rw [swap_getD _ _ _ _ _ h1 h2, swap_getD _ _ _ _ _ h1 h2, if_neg hx, if_neg hyk]
  by_cases e1 : y = k
  · subst e1
   rw [if_pos rfl, if_neg (by omega)]
   exact h.1 x (y - 1) (by omega) (by omega) (by omega) (by omega)
  · rw [if_neg e1]
   by_cases e2 : x = k
   · subst e2
    rw [if_pos rfl]
    exact h.1 (x - 1) y (by omega) (by omega) (by omega) (by omega)
   · rw [if_neg e2]
    exact h.1 x y hxy hy e2 e1
 · rw [swap_getD _ _ _ _ _ h1 h2, swap_getD _ _ _ _ _ h1 h2, if_neg (by omega : ¬ k - 1 = k), if_pos rfl]
  by_cases e1 : y = k
  · subst e1
   rw [if_pos rfl]
   exact S.asym hl
  · rw [if_neg e1, if_neg (by omega)]
   exact h.2 y (by omega) hyi
theorem PlAt.step {p : List Nat} {n i k : Nat} (hi : i < p.length) (hk : k ≤ i) (h0 : 0 < k) (h : PlAt p n i k) : PlAt (swap 0 p (k - 1) k) n i (k - 1) := by
 have h1 : k - 1 < p.length := by omega
 have h2 : k < p.length := by omega
 refine ⟨?_, fun x hx hxk => ?_, fun x hx hxn => ?_⟩
 · rw [swap_getD _ _ _ _ _ h1 h2, if_neg (by omega), if_pos rfl]; exact h.1
 · rw [swap_getD _ _ _ _ _ h1 h2]
  by_cases e1 : x = k
  · rw [if_pos e1]; exact h.2.1 (k - 1) (by omega) (by omega)
  · rw [if_neg e1, if_neg hxk]; exact h.2.1 x hx e1
 · rw [swap_getD _ _ _ _ _ h1 h2, if_neg (by omega), if_neg (by omega)]; exact h.2.2 x hx hxn
def keyOf (L : List (List CT3)) (at_ : Int) (i : Nat) : CT3 := (L.getD i []).getD at_.toNat (0, 0, ⟨#[]⟩)
def Reach (L : List (List CT3)) (at_ : Int) : Prop := ∀ i (h : i < L.length), 0 ≤ at_ ∧ at_ < (L[i].length : Int)
structure IsOrder (L : List (List CT3)) (at_ : Int) (down : Bool) (p : List Nat) : Prop where
 perm : p.Perm (List.range L.length)
 inOrder : Reach L at_ → p.Pairwise (fun x y => placeLt (keyOf L at_) down y x = false)
 asTheyAre : ¬ Reach L at_ → p = List.range L.length
theorem IsOrder.one {L : List (List CT3)} {at_ : Int} {down : Bool} {p q : List Nat} (h : IsOrder L at_ down p) (k : IsOrder L at_ down q) : p = q := by
 by_cases hr : Reach L at_
 · exact one_order (placeLt_strict (keyOf L at_) down L.length) h.perm k.perm (h.inOrder hr) (k.inOrder hr)
 · rw [h.asTheyAre hr, k.asTheyAre hr]
def rowsOf (L : List (List CT3)) (p : List Nat) : List (List CT3) := p.map fun i => L.getD i []
end Go.Proofs.YtjjkdbmjloolaaaGreatDoor
namespace Go.Proofs.YtjjkdbmjloolaaaGreatDoor
open Go.ChangeShapes Go.WideShapes Go.ChangeAt Go.RowKit
attribute [local go_sem ↓] Go.wp_at_zero Go.wp_at_succ
def sw (i j k : Nat) : Nat := if k = j then i else if k = i then j else k
theorem sw_lt {i j k n : Nat} (hi : i < n) (hj : j < n) (hk : k < n) : sw i j k < n := by unfold sw; split <;> (try split) <;> omega
theorem sw_inj {i j a b : Nat} (h : sw i j a = sw i j b) : a = b := by
 unfold sw at h
 split at h <;> split at h <;> (try split at h) <;> (try split at h) <;> omega
theorem swap_sw {α : Type} (d : α) (s : List α) (i j k : Nat) (hi : i < s.length) (hj : j < s.length) : (swap d s i j).getD k d = s.getD (sw i j k) d := by
 rw [swap_getD _ _ _ _ _ hi hj]; unfold sw
 split
 · rfl
 · split <;> rfl
theorem OwnRows.swap {w : World} {base g c : Nat} {L : List (List CT)} {G C : Nat → Nat} (h : OwnRows w base (.slice (some ⟨g, 0, none⟩) L.length c) L G C) (i j : Nat) (hi : i < L.length) (hj : j < L.length) (hij : i ≠ j) :
  OwnRows ((w.setCell ⟨g, j, none⟩ (headOf G C L i)).setCell ⟨g, i, none⟩ (headOf G C L j)) base (.slice (some ⟨g, 0, none⟩) L.length c) (swap [] L i j) (fun k => G (sw i j k)) (fun k => C (sw i j k)) := by
 have s1 := h.outer.stored j (headOf G C L i)
 have s2 := s1.1.stored i (headOf G C L j)
 have hh : ∀ k, headOf (fun k => G (sw i j k)) (fun k => C (sw i j k)) (Go.Proofs.YtjjkdbmjloolaaaGreatDoor.swap [] L i j) k = headOf G C L (sw i j k) := by
  intro k; simp only [headOf, swap_sw [] L i j k hi hj]
 refine ⟨?_, ?_, ?_⟩
 · rw [swap_length]
  have e : ((List.range L.length).map (headOf (fun k => G (sw i j k)) (fun k => C (sw i j k)) (Go.Proofs.YtjjkdbmjloolaaaGreatDoor.swap [] L i j))) = (((List.range L.length).map (headOf G C L)).set j (headOf G C L i)).set i (headOf G C L j) := by
   apply List.ext_getElem
   · simp
   · intro k h1 h2
    have hk : k < L.length := by simpa using h1
    simp only [List.getElem_map, List.getElem_range, List.getElem_set]
    rw [hh]
    unfold sw
    by_cases e1 : k = j
    · subst e1; simp [hij]
    · by_cases e2 : k = i
     · subst e2; simp [e1]
     · simp [e1, e2, Ne.symm e1, Ne.symm e2]
  rw [e]; exact s2.1
 · intro k hk
  rw [swap_length] at hk
  rw [hh, swap_sw [] L i j k hi hj]
  have hin := h.inner (sw i j k) (sw_lt hi hj hk)
  have hne : (headOf G C L (sw i j k)).ownBlock ≠ some g := by
   simp only [headOf, Value.ownBlock]
   intro e
   exact own_other h.outer (h.inner (sw i j k) (sw_lt hi hj hk)) (by decide) (by simp only [Value.ownBlock]; exact e.symm)
  exact (hin.kept s1.2 (.inr hne)).kept s2.2 (.inr hne)
 · intro a b ha hb hab
  rw [swap_length] at ha hb
  exact h.apart _ _ (sw_lt hi hj ha) (sw_lt hi hj hb) (fun e => hab (sw_inj e))
def Laid (w : World) (base g c : Nat) (L : List (List CT)) (p : List Nat) : Prop := ∃ G C, OwnRows w base (.slice (some ⟨g, 0, none⟩) L.length c) (rowsOf L p) G C
theorem Laid.below {w w' : World} {base g c : Nat} {L : List (List CT)} {p : List Nat} (h : Laid w base g c L p) (hb : Below w.heap.size w w') : Laid w' base g c L p := by
 obtain ⟨G, C, h⟩ := h
 exact ⟨G, C, h.below hb⟩
theorem infoCellI : (Tryz.prog.info? 95).map (fun i => (i.zero, i.size, i.bytes)) = some (some (.agg #[.int .i64 0, .int .i64 0, .string ⟨#[]⟩]), 3, 32) := by kernel_rfl
theorem infoRowI : (Tryz.prog.info? 142).map (fun i => (i.zero, i.size, i.bytes)) = some (some (.slice none 0 0), 1, 24) := by kernel_rfl
set_option maxRecDepth 100000 in
set_option maxHeartbeats 1000000 in
theorem copied_row (a : Option Addr) (cap : Nat) (l : List CT) (w : World) (hrow : RowAt w a l) (hnil : a = none → cap = 0) (hm : l.length ≤ 1048576) :
  Calls Tryz.prog 183 #[.slice a l.length cap] w fun e w' => ∃ g c, e = .returned (.slice (some ⟨g, 0, none⟩) l.length c) ∧ w.heap.size ≤ g ∧
   w'.ownsRow w.heap.size 95 3 (.slice (some ⟨g, 0, none⟩) l.length c) l.length (flat l) ∧ Below w.heap.size w w' := by
 obtain ⟨i0, hi, hz0, hz1, hz2⟩ := info_parts infoCellI
 have hR := hid hrow
 clear hrow
 cases a with
 | none =>
  have hl : l = [] := by
   cases l with
   | nil => rfl
   | cons x l => obtain ⟨b, o, e, _⟩ := hR.out 0 (by simp); cases e
  subst hl
  have hc := hnil rfl
  subst hc
  go_enter Tryz.func183, Tryz.ntmps183
  go_wp2_with (at_make; refine wpList_make_own _ rfl _ _ 142 rfl w.heap.size 95 i0 (.agg #[.int .i64 0, .int .i64 0, .string ⟨#[]⟩]) 3 Tryz.underlying142 hi hz0 hz1 .i64 .i64 _ 0 rfl rfl rfl (by rw [hz2]; omega) (by unfold maxLen; omega) (Nat.le_refl _) ?_)
  intro w1 hown hgrow
  have hx : Below w.heap.size w w1 := (Below.refl _ _).grown hgrow (Nat.le_refl _) (by intro k h; cases h)
  have hO := hid hown
  clear hown
  go_wp2_with (at_builtin; refine wpList_append_own_none rfl _ _ 142 rfl w.heap.size 95 i0 3 Tryz.underlying142 hi (.slice (some ⟨w.heap.size, 0, none⟩) 0 0) 0 [] rfl hO.out rfl ?_)
  go_wp2
  go_ret
  exact ⟨w.heap.size, 0, rfl, Nat.le_refl _, hO.out, hx⟩
 | some ad =>
  go_enter Tryz.func183, Tryz.ntmps183
  go_wp2_with (at_make; refine wpList_make_own _ rfl _ _ 142 rfl w.heap.size 95 i0 (.agg #[.int .i64 0, .int .i64 0, .string ⟨#[]⟩]) 3 Tryz.underlying142 hi hz0 hz1 .i64 .i64 _ l.length rfl rfl rfl (by rw [hz2]; omega) (by unfold maxLen; omega) (Nat.le_refl _) ?_)
  intro w1 hown hgrow
  have hb0 : Below w.heap.size w w1 := (Below.refl _ _).grown hgrow (Nat.le_refl _) (by intro k h; cases h)
  have hO := hid hown
  clear hown hgrow
  go_wp2_with (at_builtin; refine wpList_append_own _ rfl _ _ 142 rfl w.heap.size 95 i0 (.agg #[.int .i64 0, .int .i64 0, .string ⟨#[]⟩]) 3 32 Tryz.underlying142 hi hz0 hz1 hz2 rfl (by decide) (.slice (some ⟨w.heap.size, 0, none⟩) 0 l.length) 0 [] rfl hO.out ad l.length cap (flat l) rfl (flat_length l) ?c1 (flat_one l) ?c3 ?c4 ?c5 ?_)
  case c1 => intro j u hj; exact flat_cells (hR.out.below hb0) j u hj
  case c3 => unfold maxLen; omega
  case c4 => omega
  case c5 => exact hb0.size
  intro v' w2 hown hgrow hnn
  have hx : Below w.heap.size w w2 := hb0.grown hgrow hb0.size (by intro k hk; simp [Value.ownBlock] at hk; omega)
  rcases hown.2 with ⟨h', _⟩ | ⟨g, c, cur, h', hbg, hr⟩
  · exact absurd h' hnn
  · subst h'
   go_wp2
   go_ret
   exact ⟨g, c, rfl, hbg, hown, hx⟩
set_option maxRecDepth 100000 in
set_option maxHeartbeats 2000000 in
theorem copied_rows (a : Option Addr) (cap : Nat) (L : List (List CT)) (w : World) (hrow : RowsAt w a L) (hm : L.length ≤ 1048576) (hms : ∀ i (h : i < L.length), L[i].length ≤ 1048576) :
  Calls Tryz.prog 171 #[.slice a L.length cap] w fun e w' => ∃ v G C, e = .returned v ∧ OwnRows w' w.heap.size v L G C ∧ Below w.heap.size w w' ∧ v ≠ .slice none 0 0 := by
 obtain ⟨i0, hi, hz0, hz1, hz2⟩ := info_parts infoRowI
 have hR := hid hrow
 have hMS := hid hms
 clear hrow hms
 go_enter Tryz.func171, Tryz.ntmps171
 go_wp2_with (at_make; refine wpList_make_own _ rfl _ _ 115 rfl w.heap.size 142 i0 (.slice none 0 0) 1 Tryz.underlying115 hi hz0 hz1 .i64 .i64 _ L.length rfl rfl rfl (by rw [hz2]; omega) (by unfold maxLen; omega) (Nat.le_refl _) ?_)
 intro w0 hown0 hgrow0
 have hb0 : Below w.heap.size w w0 := (Below.refl _ _).grown hgrow0 (Nat.le_refl _) (by intro k h; cases h)
 have own0 : Hid (∃ G C, OwnRows w0 w.heap.size (.slice (some ⟨w.heap.size, 0, none⟩) 0 L.length) (L.take 0) G C) := by
  refine ⟨fun _ => 0, fun _ => 0, hown0, ?_, ?_⟩
  · intro i hi; simp at hi
  · intro i j hi; simp at hi
 clear hown0 hgrow0
 go_wp2
 go_loopw [3, 11] (fun v i wr => ∃ m : Nat, m ≤ L.length ∧ i = .int .i64 m ∧ Hid (∃ G C, OwnRows wr w.heap.size v (L.take m) G C) ∧ Below w.heap.size w wr ∧ v ≠ .slice none 0 0)
  (fun _ i _ => L.length - (intOf i).toNat)
 case atStart => exact ⟨0, Nat.zero_le _, rfl, own0, hb0, by simp⟩
 case round =>
  obtain ⟨m, hmL, rfl, hO, hb, hvn⟩ := hrel
  by_cases hlt : m < L.length
  · obtain ⟨b, o, ai, ci, ha, hbw, c0, hra, _, _, hnil⟩ := hR.out.below hb m hlt
   have hi0 : (0 : Int) ≤ (m : Int) := by omega
   have hi1 : (m : Int) < (L.length : Int) := by omega
   have hRA := hid hra
   have hml := hMS.out m hlt
   have htk := List.take_succ_eq_append_getElem hlt
   clear hra
   generalize L[m] = x at c0 hRA hml htk
   subst ha
   obtain ⟨G, C, O⟩ := hO.out
   have hlen : (L.take m).length = m := by rw [List.length_take]; omega
   have hOO := hid O
   clear O hO
   go_wp2_with fail
   refine (copied_row _ _ _ _ hRA.out hnil hml).mono ?_
   rintro e w1 ⟨g, c, rfl, hg, own, hb1⟩
   have O1 := hOO.out.below hb1
   have hx := chain hb hb1
   go_wp2_with (at_builtin; refine wpList_append_own _ rfl _ _ 115 rfl w.heap.size 142 i0 (.slice none 0 0) 1 24 Tryz.underlying115 hi hz0 hz1 hz2 rfl (by decide) _ _ _ rfl (O1.outer.alloc _) ⟨w1.heap.size, 0, none⟩ 1 1 [.slice (some ⟨g, 0, none⟩) x.length c] rfl rfl ?c1 ?c2 ?c3 ?c4 ?c5 ?_)
   case c1 =>
    intro j u hj
    match j, hj with
    | 0, hj => simp at hj; subst hj; simp [Addr.add]
   case c2 => intro u hu; simp at hu; subst hu; rfl
   case c3 => rw [hlen]; unfold maxLen; omega
   case c4 => rw [hlen]; omega
   case c5 => have := hx.size; simp; omega
   intro v' w2 own2 hgrow hnn
   have S := hOO.out.step hb1 hg (own_base own hb.size) (by rw [hlen]; exact own2) hgrow
   rw [← htk] at S
   have hx2 : Below w.heap.size w w2 := by
    refine (hx.alloc hx.size _).grown hgrow (by have := hx.size; simp; omega) ?_
    intro k hk
    rcases O1.outer.2 with ⟨h, _⟩ | ⟨g', c', cur, h, hbg, _⟩
    · rw [h] at hk; simp [Value.ownBlock] at hk
    · rw [h] at hk; simp [Value.ownBlock] at hk; omega
   have hvn2 : v' ≠ .slice none 0 0 := by first | exact hnn | exact fun e => hvn (hnn.1 e).1
   have SS := hid S
   clear S own2 hgrow hnn own O1 hOO
   go_wp2
   go_roundw
   case rel => exact ⟨m + 1, by omega, by go_num, SS, hx2, hvn2⟩
   case measure => simp [intOf]; omega
  · have hkl : m = L.length := by omega
   subst hkl
   rw [List.take_length] at hO
   go_wp2
   go_ret
   obtain ⟨G, C, O⟩ := hO.out
   exact ⟨_, G, C, rfl, O, hb, hvn⟩
end Go.Proofs.YtjjkdbmjloolaaaGreatDoor
