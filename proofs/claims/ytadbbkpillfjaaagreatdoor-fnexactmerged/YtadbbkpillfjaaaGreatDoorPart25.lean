/-
  A part of the proof: PushMath, SpC3, SpC4, CopyT.
-/
import Derived.Test.YtadbbkpillfjaaaGreatDoorPart4
import Derived.Test.YtadbbkpillfjaaaGreatDoorPart24
import Derived.Test.YtadbbkpillfjaaaGreatDoorPart21
import Derived.Deep.RegionHeld3
import Derived.Laws.CopyOwn
import Derived.Laws.IdiomCopy

/-
  Two side by side rewritten, the first ones first, as often as there are any: what comes of it is but one.
-/
namespace Go.Proofs.YtadbbkpillfjaaaGreatDoor

/-- What is to stand in the place of two sieves side by side; none where they stay as they are. -/
abbrev Rule := SV → SV → Option (List SV)
/-- The first two side by side that the rule changes, changed. -/
def rwStep (r : Rule) : List SV → Option (List SV)
  | s :: t :: l => match r s t with
    | some x => some (x ++ l)
    | none => (rwStep r (t :: l)).map (s :: ·)
  | [_] => none
  | [] => none
/-- What comes of it in the end. -/
inductive Comes (r : Rule) : List SV → List SV → Prop
  | done {L : List SV} : rwStep r L = none → Comes r L L
  | step {L M K : List SV} : rwStep r L = some M → Comes r M K → Comes r L K
theorem Comes.one {r : Rule} {L K K' : List SV} (h : Comes r L K) (h' : Comes r L K') : K = K' := by
  induction h with
  | done h => cases h' with
    | done _ => rfl
    | step h2 _ => rw [h] at h2; cases h2
  | step h _ ih => cases h' with
    | done h2 => rw [h] at h2; cases h2
    | step h2 h3 => rw [h] at h2; injection h2 with h2; subst h2; exact ih h3
theorem rwStep_none {r : Rule} : ∀ {L : List SV}, (∀ j (h1 : j + 1 < L.length), r (L[j]'(by omega)) L[j + 1] = none) → rwStep r L = none
  | [], _ => rfl
  | [_], _ => rfl
  | s :: t :: l, h => by
    have h0 := h 0 (by simp)
    have ih : rwStep r (t :: l) = none := rwStep_none (fun j h1 => by
      have := h (j + 1) (by simp only [List.length_cons] at h1 ⊢; omega)
      simpa using this)
    unfold rwStep
    simp only [List.getElem_cons_zero, List.getElem_cons_succ, Nat.zero_add] at h0
    rw [h0, ih]
    rfl
theorem rwStep_at {r : Rule} : ∀ {L : List SV} (i : Nat) (hi : i + 1 < L.length) (_ : ∀ j (hj : j < i), r (L[j]'(by omega)) (L[j + 1]'(by omega)) = none) (x : List SV) (_ : r (L[i]'(by omega)) L[i + 1] = some x), rwStep r L = some (L.take i ++ x ++ L.drop (i + 2))
  | [], _, hi, _, _, _ => by simp at hi
  | [_], _, hi, _, _, _ => by simp at hi
  | s :: t :: l, 0, _, _, x, hx => by
    simp only [List.getElem_cons_zero, List.getElem_cons_succ, Nat.zero_add] at hx
    unfold rwStep
    rw [hx]
    simp
  | s :: t :: l, i + 1, hi, h, x, hx => by
    have h0 := h 0 (by omega)
    simp only [List.getElem_cons_zero, List.getElem_cons_succ, Nat.zero_add] at h0
    have hi2 : i + 1 < (t :: l).length := by simp only [List.length_cons] at hi ⊢; omega
    have ih := rwStep_at (r := r) (L := t :: l) i hi2 (fun j hj => by
      have := h (j + 1) (by omega)
      simpa using this) x (by simpa using hx)
    unfold rwStep
    rw [h0, ih]
    rfl
/-- How many sieves that are no where stand ahead of one that is. -/
def whereN (l : List SV) : Nat := l.countP (fun s => s.kind == 2)
def invN : List SV → Nat
  | [] => 0
  | s :: l => (if s.kind = 2 then 0 else whereN l) + invN l
theorem inv_swap : ∀ {L : List SV} (i : Nat) (hi : i + 1 < L.length), (L[i]'(by omega)).kind ≠ 2 → L[i + 1].kind = 2 → invN (L.take i ++ [L[i + 1], L[i]'(by omega)] ++ L.drop (i + 2)) + 1 = invN L ∧ whereN (L.take i ++ [L[i + 1], L[i]'(by omega)] ++ L.drop (i + 2)) = whereN L
  | [], _, hi, _, _ => by simp at hi
  | [_], _, hi, _, _ => by simp at hi
  | s :: t :: l, 0, _, hs, ht => by
    simp only [List.getElem_cons_zero, List.getElem_cons_succ, Nat.zero_add] at hs ht
    simp only [List.take_zero, List.nil_append, List.getElem_cons_zero, List.getElem_cons_succ, Nat.zero_add, List.cons_append, List.drop_succ_cons, List.drop_zero]
    have hsb : (s.kind == 2) = false := by simp [hs]
    have htb : (t.kind == 2) = true := by simp [ht]
    have c1 : whereN (t :: l) = whereN l + 1 := by unfold whereN; rw [List.countP_cons, htb]; rfl
    have c2 : whereN (s :: l) = whereN l := by unfold whereN; rw [List.countP_cons, hsb]; simp
    have c3 : whereN (t :: s :: l) = whereN l + 1 := by rw [← c2]; unfold whereN; rw [List.countP_cons, htb]; rfl
    have c4 : whereN (s :: t :: l) = whereN l + 1 := by rw [← c1]; unfold whereN; rw [List.countP_cons, hsb]; simp
    rw [c3, c4]
    refine ⟨?_, rfl⟩
    rw [invN, invN, invN, invN, if_pos ht, if_neg hs, if_neg hs, if_pos ht, c1]
    omega
  | s :: t :: l, i + 1, hi, hs, ht => by
    have hi2 : i + 1 < (t :: l).length := by simp only [List.length_cons] at hi ⊢; omega
    obtain ⟨h1, h2⟩ := inv_swap (L := t :: l) i hi2 (by simpa using hs) (by simpa using ht)
    have e : (s :: t :: l).take (i + 1) ++ [(s :: t :: l)[i + 1 + 1], (s :: t :: l)[i + 1]] ++ (s :: t :: l).drop (i + 1 + 2) = s :: ((t :: l).take i ++ [(t :: l)[i + 1], (t :: l)[i]] ++ (t :: l).drop (i + 2)) := by simp
    rw [e]
    constructor
    · rw [invN, invN, h2]
      omega
    · unfold whereN at h2 ⊢
      rw [List.countP_cons, List.countP_cons, h2]
end Go.Proofs.YtadbbkpillfjaaaGreatDoor

/-
  Heads of sieves that are written over, seven cells each; the kinds that stand in a row; the model's Pushed.
-/
namespace Go.Proofs.YtadbbkpillfjaaaGreatDoor
open Go.ChangeShapes Go.WideShapes Go.ChangeAt Go.RowKit
attribute [local go_sem ↓] Go.wp_at_zero Go.wp_at_succ
attribute [local simp] World.cell?_alloc_past World.cell?_alloc_at World.frozen?_alloc_at cell_far cell_off cell_here World.frozen?_alloc_past

def setH7 (xs : List Value) (p : Nat) (s : SV) (q : HAd) : List Value := ((((((xs.set p (.int .i64 s.kind)).set (p + 1) (.string s.name)).set (p + 2) (.slice q.na s.names.length q.nc)).set (p + 3) (.slice q.sa s.sum.length q.sc)).set (p + 4) (.bool s.down)).set (p + 5) (.int .i64 s.count)).set (p + 6) (.int .i64 s.skip)
theorem hvS_cons (p : SV × HAd) (P : List (SV × HAd)) : hvS (p :: P) = headSv p.1 p.2 ++ hvS P := by simp [hvS]
theorem hvS_set {P : List (SV × HAd)} {i : Nat} (h : i < P.length) (s : SV) (q : HAd) : setH7 (hvS P) (i * 7) s q = hvS (P.set i (s, q)) := by
  induction P generalizing i with
  | nil => simp at h
  | cons p P ih =>
    cases i with
    | zero =>
      rw [List.set_cons_zero, hvS_cons, hvS_cons]
      simp [setH7, headSv]
    | succ i =>
      have := ih (i := i) (by simpa using h)
      rw [List.set_cons_succ, hvS_cons, hvS_cons, ← this]
      unfold setH7
      have hl : (headSv p.1 p.2).length = 7 := rfl
      rw [show (i + 1) * 7 = 7 + i * 7 by omega]
      simp only [Nat.add_assoc]
      rw [List.set_append_right _ _ (by omega), List.set_append_right _ _ (by omega), List.set_append_right _ _ (by omega), List.set_append_right _ _ (by omega), List.set_append_right _ _ (by omega), List.set_append_right _ _ (by omega), List.set_append_right _ _ (by omega), hl]
      simp only [Nat.add_sub_cancel_left]
/-- Seven cells of a head written over. -/
def put7 (w : World) (g p : Nat) (s : SV) (q : HAd) : World := ((((((w.setCell ⟨g, p, none⟩ (.int .i64 s.kind)).setCell ⟨g, p + 1, none⟩ (.string s.name)).setCell ⟨g, p + 2, none⟩ (.slice q.na s.names.length q.nc)).setCell ⟨g, p + 3, none⟩ (.slice q.sa s.sum.length q.sc)).setCell ⟨g, p + 4, none⟩ (.bool s.down)).setCell ⟨g, p + 5, none⟩ (.int .i64 s.count)).setCell ⟨g, p + 6, none⟩ (.int .i64 s.skip)
theorem put7_own {w : World} {base g n c : Nat} {xs : List Value} (h : w.ownsRow base 38 7 (.slice (some ⟨g, 0, none⟩) n c) n xs) (p : Nat) (s : SV) (q : HAd) : (put7 w g p s q).ownsRow base 38 7 (.slice (some ⟨g, 0, none⟩) n c) n (setH7 xs p s q) :=
  ((((((h.stored p (.int .i64 s.kind)).1.stored (p + 1) (.string s.name)).1.stored (p + 2) (.slice q.na s.names.length q.nc)).1.stored (p + 3) (.slice q.sa s.sum.length q.sc)).1.stored (p + 4) (.bool s.down)).1.stored (p + 5) (.int .i64 s.count)).1.stored (p + 6) (.int .i64 s.skip) |>.1
theorem put7_keep (w : World) (g p : Nat) (s : SV) (q : HAd) : KeepS (fun b => b = g) w (put7 w g p s q) :=
  (((((((KeepS.refl (fun b => b = g) w).setCell (p := ⟨g, p, none⟩) rfl _).setCell (p := ⟨g, p + 1, none⟩) rfl _).setCell (p := ⟨g, p + 2, none⟩) rfl _).setCell (p := ⟨g, p + 3, none⟩) rfl _).setCell (p := ⟨g, p + 4, none⟩) rfl _).setCell (p := ⟨g, p + 5, none⟩) rfl _).setCell (p := ⟨g, p + 6, none⟩) rfl _
theorem set_two {α : Type} : ∀ (P : List α) (k : Nat) (y x : α) (_ : k + 1 < P.length), (P.set k y).set (k + 1) x = P.take k ++ [y, x] ++ P.drop (k + 2)
  | [], _, _, _, h => by simp at h
  | [_], k, _, _, h => by simp at h
  | a :: b :: l, 0, y, x, _ => rfl
  | a :: b :: l, k + 1, y, x, h => by
    have := set_two (b :: l) k y x (by simp only [List.length_cons] at h ⊢; omega)
    rw [List.set_cons_succ, List.set_cons_succ, this]
    rfl
/-- Two side by side change places. -/
theorem RowV.swap {w W : World} {base g n c : Nat} {P : List (SV × HAd)} (h : RowV w base (.slice (some ⟨g, 0, none⟩) n c) P n) (k : Nat) (hk : k + 1 < P.length) (hW : Below w.heap.size w W) :
    RowV (put7 (put7 W g (k * 7) P[k + 1].1 P[k + 1].2) g ((k + 1) * 7) (P[k]'(by omega)).1 (P[k]'(by omega)).2) base (.slice (some ⟨g, 0, none⟩) n c) (P.take k ++ [P[k + 1], P[k]'(by omega)] ++ P.drop (k + 2)) n := by
  have hl := h.len
  have h0 := h.below hW
  have e1 := put7_own h0.own (k * 7) P[k + 1].1 P[k + 1].2
  rw [hvS_set (by omega)] at e1
  have e2 := put7_own e1 ((k + 1) * 7) (P[k]'(by omega)).1 (P[k]'(by omega)).2
  rw [hvS_set (by rw [List.length_set]; omega)] at e2
  have eP : (P.set k (P[k + 1].1, P[k + 1].2)).set (k + 1) ((P[k]'(by omega)).1, (P[k]'(by omega)).2) = P.take k ++ [P[k + 1], P[k]'(by omega)] ++ P.drop (k + 2) := by
    exact set_two P k _ _ hk
  rw [eP] at e2
  have K := (put7_keep W g (k * 7) P[k + 1].1 P[k + 1].2).trans (put7_keep (put7 W g (k * 7) P[k + 1].1 P[k + 1].2) g ((k + 1) * 7) (P[k]'(by omega)).1 (P[k]'(by omega)).2)
  have mem : ∀ p, p ∈ P.take k ++ [P[k + 1], P[k]'(by omega)] ++ P.drop (k + 2) → p ∈ P := by
    intro x h
    rcases List.mem_append.1 h with h | h
    · rcases List.mem_append.1 h with h | h
      · exact List.mem_of_mem_take h
      · rcases List.mem_cons.1 h with rfl | h
        · exact List.getElem_mem _
        · rcases List.mem_cons.1 h with rfl | h
          · exact List.getElem_mem _
          · cases h
    · exact List.mem_of_mem_drop h
  refine ⟨e2, ?_, fun p hp => (h0.new p (mem p hp)).keepS K (fun b hb e => ?_), fun p hp b hb => h.far p (mem p hp) b hb, fun p hp => h.nilI p (mem p hp)⟩
  · simp only [List.length_append, List.length_take, List.length_drop, List.length_cons, List.length_nil]
    omega
  · subst e
    exact h.far p (mem p hp) b hb rfl
/-- The kinds that stand in a row of heads. -/
def kindsAt (w : World) (g n : Nat) : List Int := (List.range n).map fun j => match w.cell? ⟨g, j * 7, none⟩ with | some (.int _ k) => k | _ => 0
def invK : List Int → Nat
  | [] => 0
  | s :: l => (if s = 2 then 0 else l.countP (fun x => x == 2)) + invK l
theorem invK_map (L : List SV) : invK (L.map (·.kind)) = invN L := by
  induction L with
  | nil => rfl
  | cons s l ih =>
    rw [List.map_cons, invK, invN, ih]
    congr 2
    unfold whereN
    rw [List.countP_map]
    rfl
theorem RowV.kinds {w : World} {base g n c : Nat} {P : List (SV × HAd)} (h : RowV w base (.slice (some ⟨g, 0, none⟩) n c) P n) : invK (kindsAt w g n) = invN (P.map Prod.fst) := by
  rw [← invK_map]
  congr 1
  have hl := h.len
  apply List.ext_getElem
  · simp [kindsAt, hl]
  · intro i h1 h2
    have hi : i < P.length := by simp [kindsAt] at h1; omega
    have hc := h.own.cellAt (i * 7 + 0) (by omega)
    rw [hvS_at hi 0 (by omega)] at hc
    simp only [Nat.add_zero, headSv, List.getElem?_cons_zero] at hc
    simp [kindsAt, hc]
end Go.Proofs.YtadbbkpillfjaaaGreatDoor

/-
  The model's Pushed.
-/
namespace Go.Proofs.YtadbbkpillfjaaaGreatDoor
open Go.ChangeShapes Go.WideShapes Go.ChangeAt Go.RowKit
attribute [local go_sem ↓] Go.wp_at_zero Go.wp_at_succ
attribute [local simp] World.cell?_alloc_past World.cell?_alloc_at World.frozen?_alloc_at cell_far cell_off cell_here World.frozen?_alloc_past

/-- What Pushed rewrites. -/
def pushR : Rule := fun s t => if (decide (s.kind ≠ 2) && swapR s t) = true then some [t, s] else none
theorem swap_kind {s t : SV} (h : swapR s t = true) : t.kind = 2 := by
  unfold swapR at h
  simp only [Bool.and_eq_true, decide_eq_true_eq] at h
  exact h.2.2.1
/-- What is answered: what comes of the rewriting, or nothing. -/
structure PushAns (r : Rule) (T K : List SV) : Prop where
  yes : askB T = true → Comes r T K
  no : askB T = false → K = []
def PushOut (r : Rule) (w : World) (T : List SV) (e : Ending) (w' : World) : Prop := ∃ g n c K, e = .returned (.slice (some ⟨g, 0, none⟩) n c) ∧ PushAns r T (K.map Prod.fst) ∧ RowV w' w.heap.size (.slice (some ⟨g, 0, none⟩) n c) K n ∧ Below w.heap.size w w'
theorem HeadsIn.sivs {w : World} {a : Option Addr} {P : List (SV × HAd)} (h : HeadsIn w a P) : SivsAt w a (P.map Prod.fst) := by
  intro i hi
  have hi' : i < P.length := by simpa using hi
  obtain ⟨b, o, e, hlt, c⟩ := h.at i hi'
  have hf : (P.map Prod.fst)[i] = P[i].1 := by simp
  rw [hf]
  exact ⟨b, o, P[i].2.na, P[i].2.nc, P[i].2.sa, P[i].2.sc, e, hlt, c, h.siv _ (List.getElem_mem hi')⟩
theorem ask_len {T : List SV} (h : askB T = true) : T.length ≤ 8 := by
  unfold askB at h
  simp only [Bool.and_eq_true, decide_eq_true_eq] at h
  exact h.2
/-- What stands while the pairs are looked at. -/
def PushW (r : Rule) (w wr : World) (g n c : Nat) (T : List SV) (k : Nat) : Prop :=
  ∃ Q, RowV wr w.heap.size (.slice (some ⟨g, 0, none⟩) n c) Q n ∧ (∀ K, Comes r (Q.map Prod.fst) K → Comes r T K) ∧ (∀ j (h : j + 1 < (Q.map Prod.fst).length), j < k → r ((Q.map Prod.fst)[j]'(by omega)) (Q.map Prod.fst)[j + 1] = none)
theorem PushW.done {r : Rule} {w wr : World} {g n c : Nat} {T : List SV} {k : Nat} (h : PushW r w wr g n c T k) (hk : n ≤ k + 1) (ha : askB T = true) (hb : Below w.heap.size w wr) : PushOut r w T (.returned (.slice (some ⟨g, 0, none⟩) n c)) wr := by
  obtain ⟨Q, hR, hC, hN⟩ := h
  refine ⟨g, n, c, Q, rfl, ⟨fun _ => hC _ (.done (rwStep_none fun j hj => hN j hj ?_)), fun h => by rw [ha] at h; cases h⟩, hR, hb⟩
  have := hR.len
  rw [List.length_map] at hj
  omega
theorem own_lowV {w : World} {base base' : Nat} {e : TypeId} {size : Nat} {v : Value} {n : Nat} {xs : List Value} (h : w.ownsRow base e size v n xs) (hb : base' ≤ base) : w.ownsRow base' e size v n xs := by
  obtain ⟨h1, h2⟩ := h
  refine ⟨h1, ?_⟩
  rcases h2 with h2 | ⟨g, cap, cur, e, h3, h4⟩
  · exact .inl h2
  · exact .inr ⟨g, cap, cur, e, Nat.le_trans hb h3, h4⟩
theorem PushW.next {r : Rule} {w W : World} {g n c : Nat} {T : List SV} {k : Nat} {Q : List (SV × HAd)} (hR : RowV W w.heap.size (.slice (some ⟨g, 0, none⟩) n c) Q n) (hC : ∀ K, Comes r (Q.map Prod.fst) K → Comes r T K) (hN : ∀ j (h : j + 1 < (Q.map Prod.fst).length), j < k → r ((Q.map Prod.fst)[j]'(by omega)) (Q.map Prod.fst)[j + 1] = none) (hk : k + 1 < Q.length) (h0 : r (Q[k]'(by omega)).1 Q[k + 1].1 = none) : PushW r w W g n c T (k + 1) := by
  refine ⟨Q, hR, hC, fun j hj hjk => ?_⟩
  by_cases e : j < k
  · exact hN j hj e
  · obtain rfl : j = k := by omega
    simpa using h0
/-- The first pair that is changed, changed. -/
theorem PushW.swap {w W : World} {g n c : Nat} {T : List SV} {k : Nat} {Q : List (SV × HAd)} {ob : Obj} (hR : RowV W w.heap.size (.slice (some ⟨g, 0, none⟩) n c) Q n) (hC : ∀ K, Comes pushR (Q.map Prod.fst) K → Comes pushR T K) (hN : ∀ j (h : j + 1 < (Q.map Prod.fst).length), j < k → pushR ((Q.map Prod.fst)[j]'(by omega)) (Q.map Prod.fst)[j + 1] = none) (hk : k + 1 < Q.length) (h2 : (Q[k]'(by omega)).1.kind ≠ 2) (h0 : swapR (Q[k]'(by omega)).1 Q[k + 1].1 = true) (V : World) (hV : V = (put7 (put7 W g (k * 7) Q[k + 1].1 Q[k + 1].2) g ((k + 1) * 7) (Q[k]'(by omega)).1 (Q[k]'(by omega)).2).alloc ob) :
    PushW pushR w V g n c T 0 ∧ invK (kindsAt V g n) + 1 = invN (Q.map Prod.fst) := by
  have hl := hR.len
  have hS := (hR.swap k hk (Below.refl _ _)).below (show Below _ _ V by rw [hV]; exact (Below.refl _ _).alloc (Nat.le_refl _) ob)
  have hp : pushR (Q[k]'(by omega)).1 Q[k + 1].1 = some [Q[k + 1].1, (Q[k]'(by omega)).1] := by
    unfold pushR
    rw [if_pos (by simp [h2, h0])]
  have hk' : k + 1 < (Q.map Prod.fst).length := by rw [List.length_map]; exact hk
  have em : (Q.take k ++ [Q[k + 1], Q[k]'(by omega)] ++ Q.drop (k + 2)).map Prod.fst = (Q.map Prod.fst).take k ++ [(Q.map Prod.fst)[k + 1], (Q.map Prod.fst)[k]'(by omega)] ++ (Q.map Prod.fst).drop (k + 2) := by
    simp only [List.map_append, List.map_take, List.map_drop, List.map_cons, List.map_nil, List.getElem_map]
  have hst : rwStep pushR (Q.map Prod.fst) = some ((Q.take k ++ [Q[k + 1], Q[k]'(by omega)] ++ Q.drop (k + 2)).map Prod.fst) := by
    rw [em]
    refine rwStep_at k hk' (fun j hj => hN j (by omega) hj) _ ?_
    simpa using hp
  refine ⟨⟨_, hS, fun K h => hC K (.step hst h), fun j _ h => by omega⟩, ?_⟩
  rw [hS.kinds, em]
  exact (inv_swap k hk' (by simpa using h2) (by simpa using swap_kind h0)).1
end Go.Proofs.YtadbbkpillfjaaaGreatDoor

/-
  The builtin copy of elements of several cells into a row of the call's own, and the program's copied at texts, items and sieves.
-/
namespace Go.Proofs.YtadbbkpillfjaaaGreatDoor
open Go.ChangeShapes Go.WideShapes Go.ChangeAt Go.RowKit
attribute [local go_sem ↓] Go.wp_at_zero Go.wp_at_succ
attribute [local simp] World.cell?_alloc_past World.cell?_alloc_at World.frozen?_alloc_at cell_far cell_off cell_here World.frozen?_alloc_past

theorem run_copy_wide {P : Program} (w : World) (dT sT ty elem : TypeId) (sz g n dCap : Nat) (a : Addr) (sCap : Nat) (cur : Array Value) (t : TypeId) (cs : List Value)
    (hu : P.underlying dT = some (.slice elem)) (hs : (P.info? elem).map (·.size) = some sz)
    (hg : w.heap[g]? = some (.cells cur t (0, 0))) (hn : cs.length = n * sz)
    (hsrc : ∀ j v, cs[j]? = some v → w.cell? (a.add j) = some v) (hfit : cs.length ≤ cur.size) (h1 : ∀ v ∈ cs, v.oneCell' = true) :
    (Builtin.copy_ #[dT, sT] ty #[.slice (some ⟨g, 0, none⟩) n dCap, .slice (some a) n sCap]).run P w =
      .ok (goInt n) (w.setRow g (cs ++ cur.toList.drop cs.length).toArray) := by
  have hl := run_loadCells_list (P := P) w a cs hsrc
  have hst := run_storeCells_at P g 0 t cs 0 cur w hg (by simpa using hfit) h1
  simp only [Nat.zero_add, Nat.add_zero, List.take_zero, List.nil_append] at hst
  cases hq : P.info? elem with
  | none => simp [hq] at hs
  | some i =>
    have hi : i.size = sz := by simpa [hq] using hs
    simp [Builtin.copy_, run_underlying hu, Builtin.lenOf, Builtin.firstCells, sizeOf, typeInfo, hq, hi, ← hn, hl, hst]
/-- A row of one's own, copied over from another list. -/
theorem run_copy_over {P : Program} {w : World} (dT sT ty e : TypeId) (sz base g n c : Nat) (xs : List Value) (hown : w.ownsRow base e sz (.slice (some ⟨g, 0, none⟩) n c) n xs) (a : Addr) (sCap : Nat) (cs : List Value)
    (hu : P.underlying dT = some (.slice e)) (hs : (P.info? e).map (·.size) = some sz) (hn : cs.length = n * sz)
    (hsrc : ∀ j v, cs[j]? = some v → w.cell? (a.add j) = some v) (h1 : ∀ v ∈ cs, v.oneCell' = true) :
    ∃ w', (Builtin.copy_ #[dT, sT] ty #[.slice (some ⟨g, 0, none⟩) n c, .slice (some a) n sCap]).run P w = .ok (goInt n) w' ∧ w'.ownsRow base e sz (.slice (some ⟨g, 0, none⟩) n c) n cs ∧ KeepS (fun b => b = g) w w' := by
  rcases hown.2 with ⟨e0, _⟩ | ⟨g', c', cur, e0, hb, hg, hc, hM, hcs, htk⟩
  · cases e0
  injection e0 with e1 _ e2
  injection e1 with e1
  injection e1 with e1
  subst e1 e2
  have hfit : cs.length ≤ cur.size := by rw [hn, hcs]; exact Nat.mul_le_mul_right _ hc
  refine ⟨_, run_copy_wide w dT sT ty e sz g n c a sCap cur e cs hu hs hg hn hsrc hfit h1, ⟨hn, .inr ⟨g, c, (cs ++ cur.toList.drop cs.length).toArray, rfl, hb, setRow_heap w g cur _ e _ hg, hc, hM, ?_, ?_⟩⟩, ?_⟩
  · simp only [List.size_toArray, List.length_append, List.length_drop, Array.length_toList]
    omega
  · rw [List.toList_toArray, ← hn, List.take_left]
  · refine ⟨rfl, rfl, rfl, by simp [World.setRow], fun k hk hne => ?_⟩
    simp only [World.setRow, Array.getElem?_modify]
    rw [if_neg (fun h => hne h.symm)]
theorem wpList_call {P : Program} {w : World} {ops : Array Oper} {rest : List Oper} {o : Oper} {a : Act} {Q : Exit → Act → World → Prop} (hgd : o.guard = none) (d s : Operand) (t u : TypeId)
    (ho : o.op = .call { callee := .builtin .copy, args := #[d, s], argTypes := #[t, u] }) (vd vs : Value) (hd : a.eval d = vd) (hs : a.eval s = vs) (v' : Value) (w' : World)
    (hr : (Builtin.copy_ #[t, u] o.type #[vd, vs]).run P w = .ok v' w') (h : wpList P ops Q rest (a.put o.dst v') w') : wpList P ops Q (o :: rest) a w := by
  refine wpList_plain hgd fun K hK => ?_
  unfold Oper.wp execOp
  simp only [ho, resolve, invoke, builtin, Sem.run_bind, Sem.run_pure, Result.andThen_ok, List.map_toArray, List.map_cons, List.map_nil, hd, hs, hr]
  exact hK _ _ h

theorem strs_cells {w : World} {b o : Nat} {l : List ByteArray} (h : StrsAt w (some ⟨b, o, none⟩) l) : ∀ j u, (strV l)[j]? = some u → w.cell? ((⟨b, o, none⟩ : Addr).add j) = some u := by
  intro j u hj
  have hl : j < l.length := by
    have := (List.getElem?_eq_some_iff.1 hj).1
    simpa [strV] using this
  obtain ⟨b', o', e, _, c⟩ := h j hl
  injection e with e
  injection e with e1 e2
  subst e1 e2
  rw [addr_addS, c, ← hj]
  simp [strV, hl]
theorem strs_one {l : List ByteArray} {u : Value} (h : u ∈ strV l) : u.oneCell' = true := by
  unfold strV at h
  obtain ⟨x, _, rfl⟩ := List.mem_map.1 h
  rfl
theorem heads_cells {w : World} {b o : Nat} {P : List (SV × HAd)} (h : HeadsIn w (some ⟨b, o, none⟩) P) : ∀ j u, (hvS P)[j]? = some u → w.cell? ((⟨b, o, none⟩ : Addr).add j) = some u := by
  intro j u hj
  have hl : j < P.length * 7 := by
    have := (List.getElem?_eq_some_iff.1 hj).1
    rw [hvS_length] at this
    exact this
  have hi : j / 7 < P.length := by omega
  obtain ⟨b', o', e, _, c⟩ := h.cells (j / 7) hi
  injection e with e
  injection e with e1 e2
  subst e1 e2
  have hc := c (j % 7) (by omega)
  have hat := hvS_at hi (j % 7) (by omega)
  rw [show j / 7 * 7 + j % 7 = j by omega] at hat
  rw [addr_addS, ← show o + j / 7 * 7 + j % 7 = o + j by omega, hc, ← hat, hj]
theorem nil_list {α : Type} {l : List α} (h : ∀ j (_ : j < l.length), False) : l = [] := by
  cases l with
  | nil => rfl
  | cons x l => exact (h 0 (by simp)).elim

set_option maxRecDepth 100000 in
set_option maxHeartbeats 2000000 in
theorem copied_str (a : Option Addr) (cap : Nat) (l : List ByteArray) (n : Nat) (hn : l.length = n) (w : World) (hrow : StrsAt w a l) (hnil : a = none → cap = 0) (hm : n ≤ 1048576) :
    Calls Tryz.prog 49 #[.slice a n cap] w fun e w' => ∃ g, e = .returned (.slice (some ⟨g, 0, none⟩) n n) ∧ w'.ownsRow w.heap.size 9 1 (.slice (some ⟨g, 0, none⟩) n n) n (strV l) ∧ Below w.heap.size w w' := by
  obtain ⟨i0, hi, hz0, hz1, hz2⟩ := info_parts infoTx
  have HR : Hid (StrsAt w a l) := hrow
  have HN : Hid (l.length = n) := hn
  clear hrow hn
  go_enter Tryz.func49, Tryz.ntmps49
  go_wp2_with (at_make; refine wpList_make_full _ rfl _ _ 31 rfl w.heap.size 9 i0 (.string ⟨#[]⟩) 1 Tryz.underlying31 hi hz0 hz1 .i64 .i64 _ _ n rfl rfl rfl rfl ?b2 ?b3 (Nat.le_refl _) ?_)
  case b2 => rw [hz2]; omega
  case b3 => unfold maxLen; omega
  intro w1 hown hgrow
  have hb1 : Below w.heap.size w w1 := (Below.refl _ _).grown hgrow (Nat.le_refl _) (by intro k h; cases h)
  have hw1 := hb1.size
  generalize (madeCells _ _).toList = z at hown
  obtain ⟨w2, hrun, own2, hK⟩ : ∃ w2, (Builtin.copy_ #[31, 31] 3 #[.slice (some ⟨w.heap.size, 0, none⟩) n n, .slice a n cap]).run Tryz.prog w1 = .ok (goInt n) w2 ∧ w2.ownsRow w.heap.size 9 1 (.slice (some ⟨w.heap.size, 0, none⟩) n n) n (strV l) ∧ KeepS (fun b => b = w.heap.size) w1 w2 := by
    cases a with
    | none =>
      have hc := hnil rfl
      have hl : l = [] := nil_list fun j hj => by obtain ⟨b, o, e, _⟩ := HR.out j hj; cases e
      have h0 : n = 0 := by rw [← HN.out, hl]; rfl
      subst hc h0
      refine ⟨w1, run_copy_nil _ w1 _ _ _ _ _ _ _ Tryz.underlying31 (by rw [hi]; rfl), ?_, KeepS.refl _ _⟩
      rw [hl]
      have hz : z = [] := List.eq_nil_of_length_eq_zero (by have := hown.1; omega)
      rw [hz] at hown
      exact hown
    | some ad =>
      obtain ⟨b, o, t⟩ := ad
      have hr : StrsAt w1 (some ⟨b, o, t⟩) l := HR.out.below hb1
      exact run_copy_over _ _ _ _ 1 _ _ _ _ z hown ⟨b, o, t⟩ cap (strV l) Tryz.underlying31 (by rw [hi]; exact congrArg some hz1) (by rw [show (strV l).length = l.length by simp [strV], HN.out, Nat.mul_one]) (fun j u hj => by
        have ht : t = none := by
          have hlen : j < (strV l).length := (List.getElem?_eq_some_iff.1 hj).1
          have hlen2 : (strV l).length = l.length * 1 := by simp [strV]
          have h0 : 0 < l.length := by omega
          exact by obtain ⟨b', o', e, _⟩ := HR.out 0 (by omega); injection e with e; injection e
        subst ht
        exact strs_cells hr j u hj) (fun u hu => strs_one hu)
  have hx : Below w.heap.size w w2 := hb1.trans ⟨hK.os, hK.tape, hK.output, hK.size, fun k hk => hK.block k (by omega) (by omega)⟩
  have OWN : Hid (w2.ownsRow w.heap.size 9 1 (.slice (some ⟨w.heap.size, 0, none⟩) n n) n (strV l)) := own2
  clear hown own2 hK hgrow hb1 HR
  go_wp2_with (at_builtin; refine wpList_call rfl _ _ 31 31 rfl _ _ rfl rfl _ w2 hrun ?_)
  go_wp2
  go_ret
  exact ⟨_, rfl, OWN.out, hx⟩
set_option maxRecDepth 100000 in
set_option maxHeartbeats 2000000 in
theorem copied_itm (a : Option Addr) (cap : Nat) (l : List TI) (n : Nat) (hn : l.length = n) (w : World) (hrow : ItmAt w a l) (hnil : a = none → cap = 0) (hm : n ≤ 1048576) :
    Calls Tryz.prog 50 #[.slice a n cap] w fun e w' => ∃ g, e = .returned (.slice (some ⟨g, 0, none⟩) n n) ∧ w'.ownsRow w.heap.size 56 5 (.slice (some ⟨g, 0, none⟩) n n) n (flatItm l) ∧ Below w.heap.size w w' := by
  obtain ⟨i0, hi, hz0, hz1, hz2⟩ := info_parts infoItm5
  have HR : Hid (ItmAt w a l) := hrow
  have HN : Hid (l.length = n) := hn
  clear hrow hn
  go_enter Tryz.func50, Tryz.ntmps50
  go_wp2_with (at_make; refine wpList_make_full _ rfl _ _ 36 rfl w.heap.size 56 i0 (.agg #[.int .i64 0, .int .i64 0, .int .i64 0, .string ⟨#[]⟩, .string ⟨#[]⟩]) 5 Tryz.underlying36 hi hz0 hz1 .i64 .i64 _ _ n rfl rfl rfl rfl ?b2 ?b3 (Nat.le_refl _) ?_)
  case b2 => rw [hz2]; omega
  case b3 => unfold maxLen; omega
  intro w1 hown hgrow
  have hb1 : Below w.heap.size w w1 := (Below.refl _ _).grown hgrow (Nat.le_refl _) (by intro k h; cases h)
  have hw1 := hb1.size
  generalize (madeCells _ _).toList = z at hown
  obtain ⟨w2, hrun, own2, hK⟩ : ∃ w2, (Builtin.copy_ #[36, 36] 3 #[.slice (some ⟨w.heap.size, 0, none⟩) n n, .slice a n cap]).run Tryz.prog w1 = .ok (goInt n) w2 ∧ w2.ownsRow w.heap.size 56 5 (.slice (some ⟨w.heap.size, 0, none⟩) n n) n (flatItm l) ∧ KeepS (fun b => b = w.heap.size) w1 w2 := by
    cases a with
    | none =>
      have hc := hnil rfl
      have hl : l = [] := nil_list fun j hj => by obtain ⟨b, o, e, _⟩ := HR.out j hj; cases e
      have h0 : n = 0 := by rw [← HN.out, hl]; rfl
      subst hc h0
      refine ⟨w1, run_copy_nil _ w1 _ _ _ _ _ _ _ Tryz.underlying36 (by rw [hi]; rfl), ?_, KeepS.refl _ _⟩
      rw [hl]
      have hz : z = [] := List.eq_nil_of_length_eq_zero (by have := hown.1; omega)
      rw [hz] at hown
      exact hown
    | some ad =>
      obtain ⟨b, o, t⟩ := ad
      have hr : ItmAt w1 (some ⟨b, o, t⟩) l := HR.out.below hb1
      exact run_copy_over _ _ _ _ 5 _ _ _ _ z hown ⟨b, o, t⟩ cap (flatItm l) Tryz.underlying36 (by rw [hi]; exact congrArg some hz1) (by rw [flatItm_length, HN.out]) (fun j u hj => by
        have ht : t = none := by
          have hlen : j < (flatItm l).length := (List.getElem?_eq_some_iff.1 hj).1
          have hlen2 : (flatItm l).length = l.length * 5 := flatItm_length l
          have h0 : 0 < l.length := by omega
          exact by obtain ⟨b', o', e, _⟩ := HR.out 0 (by omega); injection e with e; injection e
        subst ht
        exact flat_itm_cells hr j u hj) (fun u hu => flat_itm_one hu)
  have hx : Below w.heap.size w w2 := hb1.trans ⟨hK.os, hK.tape, hK.output, hK.size, fun k hk => hK.block k (by omega) (by omega)⟩
  have OWN : Hid (w2.ownsRow w.heap.size 56 5 (.slice (some ⟨w.heap.size, 0, none⟩) n n) n (flatItm l)) := own2
  clear hown own2 hK hgrow hb1 HR
  go_wp2_with (at_builtin; refine wpList_call rfl _ _ 36 36 rfl _ _ rfl rfl _ w2 hrun ?_)
  go_wp2
  go_ret
  exact ⟨_, rfl, OWN.out, hx⟩
set_option maxRecDepth 100000 in
set_option maxHeartbeats 2000000 in
theorem copied_siv (a : Option Addr) (cap : Nat) (l : List (SV × HAd)) (n : Nat) (hn : l.length = n) (w : World) (hrow : HeadsIn w a l) (hnil : a = none → cap = 0) (hm : n ≤ 1048576) :
    Calls Tryz.prog 48 #[.slice a n cap] w fun e w' => ∃ g, e = .returned (.slice (some ⟨g, 0, none⟩) n n) ∧ w'.ownsRow w.heap.size 38 7 (.slice (some ⟨g, 0, none⟩) n n) n (hvS l) ∧ Below w.heap.size w w' := by
  obtain ⟨i0, hi, hz0, hz1, hz2⟩ := info_parts infoSV
  have HR : Hid (HeadsIn w a l) := hrow
  have HN : Hid (l.length = n) := hn
  clear hrow hn
  go_enter Tryz.func48, Tryz.ntmps48
  go_wp2_with (at_make; refine wpList_make_full _ rfl _ _ 24 rfl w.heap.size 38 i0 (.agg #[.int .i64 0, .string ⟨#[]⟩, .slice none 0 0, .slice none 0 0, .bool false, .int .i64 0, .int .i64 0]) 7 Tryz.underlying24 hi hz0 hz1 .i64 .i64 _ _ n rfl rfl rfl rfl ?b2 ?b3 (Nat.le_refl _) ?_)
  case b2 => rw [hz2]; omega
  case b3 => unfold maxLen; omega
  intro w1 hown hgrow
  have hb1 : Below w.heap.size w w1 := (Below.refl _ _).grown hgrow (Nat.le_refl _) (by intro k h; cases h)
  have hw1 := hb1.size
  generalize (madeCells _ _).toList = z at hown
  obtain ⟨w2, hrun, own2, hK⟩ : ∃ w2, (Builtin.copy_ #[24, 24] 3 #[.slice (some ⟨w.heap.size, 0, none⟩) n n, .slice a n cap]).run Tryz.prog w1 = .ok (goInt n) w2 ∧ w2.ownsRow w.heap.size 38 7 (.slice (some ⟨w.heap.size, 0, none⟩) n n) n (hvS l) ∧ KeepS (fun b => b = w.heap.size) w1 w2 := by
    cases a with
    | none =>
      have hc := hnil rfl
      have hl : l = [] := nil_list fun j hj => by obtain ⟨b, o, e, _⟩ := HR.out.cells j hj; cases e
      have h0 : n = 0 := by rw [← HN.out, hl]; rfl
      subst hc h0
      refine ⟨w1, run_copy_nil _ w1 _ _ _ _ _ _ _ Tryz.underlying24 (by rw [hi]; rfl), ?_, KeepS.refl _ _⟩
      rw [hl]
      have hz : z = [] := List.eq_nil_of_length_eq_zero (by have := hown.1; omega)
      rw [hz] at hown
      exact hown
    | some ad =>
      obtain ⟨b, o, t⟩ := ad
      have hr : HeadsIn w1 (some ⟨b, o, t⟩) l := HR.out.below hb1
      exact run_copy_over _ _ _ _ 7 _ _ _ _ z hown ⟨b, o, t⟩ cap (hvS l) Tryz.underlying24 (by rw [hi]; exact congrArg some hz1) (by rw [hvS_length, HN.out]) (fun j u hj => by
        have ht : t = none := by
          have hlen : j < (hvS l).length := (List.getElem?_eq_some_iff.1 hj).1
          have hlen2 : (hvS l).length = l.length * 7 := hvS_length l
          have h0 : 0 < l.length := by omega
          exact by obtain ⟨b', o', e, _⟩ := HR.out.cells 0 (by omega); injection e with e; injection e
        subst ht
        exact heads_cells hr j u hj) (fun u hu => hvS_one hu)
  have hx : Below w.heap.size w w2 := hb1.trans ⟨hK.os, hK.tape, hK.output, hK.size, fun k hk => hK.block k (by omega) (by omega)⟩
  have OWN : Hid (w2.ownsRow w.heap.size 38 7 (.slice (some ⟨w.heap.size, 0, none⟩) n n) n (hvS l)) := own2
  clear hown own2 hK hgrow hb1 HR
  go_wp2_with (at_builtin; refine wpList_call rfl _ _ 24 24 rfl _ _ rfl rfl _ w2 hrun ?_)
  go_wp2
  go_ret
  exact ⟨_, rfl, OWN.out, hx⟩
end Go.Proofs.YtadbbkpillfjaaaGreatDoor
