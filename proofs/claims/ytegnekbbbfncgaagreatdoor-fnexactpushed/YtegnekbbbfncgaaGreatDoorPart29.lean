/-
  A part of the proof: PushMath, SpC3.
-/
import Derived.Test.YtegnekbbbfncgaaGreatDoorPart4
import Derived.Test.YtegnekbbbfncgaaGreatDoorPart28
import Derived.Test.YtegnekbbbfncgaaGreatDoorPart24

/-
  Two side by side rewritten, the first ones first, as often as there are any: what comes of it is but one.
-/
namespace Go.Proofs.YtegnekbbbfncgaaGreatDoor

/-- What is to stand in the place of two sieves side by side; none where they stay as they are. -/
abbrev Rule := SV → SV → Option (List SV)
/-- The first two side by side that the rule changes, changed. -/
def rwStep (r : Rule) : List SV → Option (List SV)
  | s :: t :: l => match r s t with
    | some x => some (x ++ l)
    | none => (rwStep r (t :: l)).map (s :: ·)
  | [_] => none
  | [] => none
/-- What comes of it in the end. -/
inductive Comes (r : Rule) : List SV → List SV → Prop
  | done {L : List SV} : rwStep r L = none → Comes r L L
  | step {L M K : List SV} : rwStep r L = some M → Comes r M K → Comes r L K
theorem Comes.one {r : Rule} {L K K' : List SV} (h : Comes r L K) (h' : Comes r L K') : K = K' := by
  induction h with
  | done h => cases h' with
    | done _ => rfl
    | step h2 _ => rw [h] at h2; cases h2
  | step h _ ih => cases h' with
    | done h2 => rw [h] at h2; cases h2
    | step h2 h3 => rw [h] at h2; injection h2 with h2; subst h2; exact ih h3
theorem rwStep_none {r : Rule} : ∀ {L : List SV}, (∀ j (h1 : j + 1 < L.length), r (L[j]'(by omega)) L[j + 1] = none) → rwStep r L = none
  | [], _ => rfl
  | [_], _ => rfl
  | s :: t :: l, h => by
    have h0 := h 0 (by simp)
    have ih : rwStep r (t :: l) = none := rwStep_none (fun j h1 => by
      have := h (j + 1) (by simp only [List.length_cons] at h1 ⊢; omega)
      simpa using this)
    unfold rwStep
    simp only [List.getElem_cons_zero, List.getElem_cons_succ, Nat.zero_add] at h0
    rw [h0, ih]
    rfl
theorem rwStep_at {r : Rule} : ∀ {L : List SV} (i : Nat) (hi : i + 1 < L.length) (_ : ∀ j (hj : j < i), r (L[j]'(by omega)) (L[j + 1]'(by omega)) = none) (x : List SV) (_ : r (L[i]'(by omega)) L[i + 1] = some x), rwStep r L = some (L.take i ++ x ++ L.drop (i + 2))
  | [], _, hi, _, _, _ => by simp at hi
  | [_], _, hi, _, _, _ => by simp at hi
  | s :: t :: l, 0, _, _, x, hx => by
    simp only [List.getElem_cons_zero, List.getElem_cons_succ, Nat.zero_add] at hx
    unfold rwStep
    rw [hx]
    simp
  | s :: t :: l, i + 1, hi, h, x, hx => by
    have h0 := h 0 (by omega)
    simp only [List.getElem_cons_zero, List.getElem_cons_succ, Nat.zero_add] at h0
    have hi2 : i + 1 < (t :: l).length := by simp only [List.length_cons] at hi ⊢; omega
    have ih := rwStep_at (r := r) (L := t :: l) i hi2 (fun j hj => by
      have := h (j + 1) (by omega)
      simpa using this) x (by simpa using hx)
    unfold rwStep
    rw [h0, ih]
    rfl
/-- How many sieves that are no where stand ahead of one that is. -/
def whereN (l : List SV) : Nat := l.countP (fun s => s.kind == 2)
def invN : List SV → Nat
  | [] => 0
  | s :: l => (if s.kind = 2 then 0 else whereN l) + invN l
theorem inv_swap : ∀ {L : List SV} (i : Nat) (hi : i + 1 < L.length), (L[i]'(by omega)).kind ≠ 2 → L[i + 1].kind = 2 → invN (L.take i ++ [L[i + 1], L[i]'(by omega)] ++ L.drop (i + 2)) + 1 = invN L ∧ whereN (L.take i ++ [L[i + 1], L[i]'(by omega)] ++ L.drop (i + 2)) = whereN L
  | [], _, hi, _, _ => by simp at hi
  | [_], _, hi, _, _ => by simp at hi
  | s :: t :: l, 0, _, hs, ht => by
    simp only [List.getElem_cons_zero, List.getElem_cons_succ, Nat.zero_add] at hs ht
    simp only [List.take_zero, List.nil_append, List.getElem_cons_zero, List.getElem_cons_succ, Nat.zero_add, List.cons_append, List.drop_succ_cons, List.drop_zero]
    have hsb : (s.kind == 2) = false := by simp [hs]
    have htb : (t.kind == 2) = true := by simp [ht]
    have c1 : whereN (t :: l) = whereN l + 1 := by unfold whereN; rw [List.countP_cons, htb]; rfl
    have c2 : whereN (s :: l) = whereN l := by unfold whereN; rw [List.countP_cons, hsb]; simp
    have c3 : whereN (t :: s :: l) = whereN l + 1 := by rw [← c2]; unfold whereN; rw [List.countP_cons, htb]; rfl
    have c4 : whereN (s :: t :: l) = whereN l + 1 := by rw [← c1]; unfold whereN; rw [List.countP_cons, hsb]; simp
    rw [c3, c4]
    refine ⟨?_, rfl⟩
    rw [invN, invN, invN, invN, if_pos ht, if_neg hs, if_neg hs, if_pos ht, c1]
    omega
  | s :: t :: l, i + 1, hi, hs, ht => by
    have hi2 : i + 1 < (t :: l).length := by simp only [List.length_cons] at hi ⊢; omega
    obtain ⟨h1, h2⟩ := inv_swap (L := t :: l) i hi2 (by simpa using hs) (by simpa using ht)
    have e : (s :: t :: l).take (i + 1) ++ [(s :: t :: l)[i + 1 + 1], (s :: t :: l)[i + 1]] ++ (s :: t :: l).drop (i + 1 + 2) = s :: ((t :: l).take i ++ [(t :: l)[i + 1], (t :: l)[i]] ++ (t :: l).drop (i + 2)) := by simp
    rw [e]
    constructor
    · rw [invN, invN, h2]
      omega
    · unfold whereN at h2 ⊢
      rw [List.countP_cons, List.countP_cons, h2]
end Go.Proofs.YtegnekbbbfncgaaGreatDoor

/-
  Heads of sieves that are written over, seven cells each; the kinds that stand in a row; the model's Pushed.
-/
namespace Go.Proofs.YtegnekbbbfncgaaGreatDoor
open Go.ChangeShapes Go.WideShapes Go.ChangeAt Go.RowKit
attribute [local go_sem ↓] Go.wp_at_zero Go.wp_at_succ
attribute [local simp] World.cell?_alloc_past World.cell?_alloc_at World.frozen?_alloc_at cell_far cell_off cell_here World.frozen?_alloc_past

def setH7 (xs : List Value) (p : Nat) (s : SV) (q : HAd) : List Value := ((((((xs.set p (.int .i64 s.kind)).set (p + 1) (.string s.name)).set (p + 2) (.slice q.na s.names.length q.nc)).set (p + 3) (.slice q.sa s.sum.length q.sc)).set (p + 4) (.bool s.down)).set (p + 5) (.int .i64 s.count)).set (p + 6) (.int .i64 s.skip)
theorem hvS_cons (p : SV × HAd) (P : List (SV × HAd)) : hvS (p :: P) = headSv p.1 p.2 ++ hvS P := by simp [hvS]
theorem hvS_set {P : List (SV × HAd)} {i : Nat} (h : i < P.length) (s : SV) (q : HAd) : setH7 (hvS P) (i * 7) s q = hvS (P.set i (s, q)) := by
  induction P generalizing i with
  | nil => simp at h
  | cons p P ih =>
    cases i with
    | zero =>
      rw [List.set_cons_zero, hvS_cons, hvS_cons]
      simp [setH7, headSv]
    | succ i =>
      have := ih (i := i) (by simpa using h)
      rw [List.set_cons_succ, hvS_cons, hvS_cons, ← this]
      unfold setH7
      have hl : (headSv p.1 p.2).length = 7 := rfl
      rw [show (i + 1) * 7 = 7 + i * 7 by omega]
      simp only [Nat.add_assoc]
      rw [List.set_append_right _ _ (by omega), List.set_append_right _ _ (by omega), List.set_append_right _ _ (by omega), List.set_append_right _ _ (by omega), List.set_append_right _ _ (by omega), List.set_append_right _ _ (by omega), List.set_append_right _ _ (by omega), hl]
      simp only [Nat.add_sub_cancel_left]
/-- Seven cells of a head written over. -/
def put7 (w : World) (g p : Nat) (s : SV) (q : HAd) : World := ((((((w.setCell ⟨g, p, none⟩ (.int .i64 s.kind)).setCell ⟨g, p + 1, none⟩ (.string s.name)).setCell ⟨g, p + 2, none⟩ (.slice q.na s.names.length q.nc)).setCell ⟨g, p + 3, none⟩ (.slice q.sa s.sum.length q.sc)).setCell ⟨g, p + 4, none⟩ (.bool s.down)).setCell ⟨g, p + 5, none⟩ (.int .i64 s.count)).setCell ⟨g, p + 6, none⟩ (.int .i64 s.skip)
theorem put7_own {w : World} {base g n c : Nat} {xs : List Value} (h : w.ownsRow base 43 7 (.slice (some ⟨g, 0, none⟩) n c) n xs) (p : Nat) (s : SV) (q : HAd) : (put7 w g p s q).ownsRow base 43 7 (.slice (some ⟨g, 0, none⟩) n c) n (setH7 xs p s q) :=
  ((((((h.stored p (.int .i64 s.kind)).1.stored (p + 1) (.string s.name)).1.stored (p + 2) (.slice q.na s.names.length q.nc)).1.stored (p + 3) (.slice q.sa s.sum.length q.sc)).1.stored (p + 4) (.bool s.down)).1.stored (p + 5) (.int .i64 s.count)).1.stored (p + 6) (.int .i64 s.skip) |>.1
theorem put7_keep (w : World) (g p : Nat) (s : SV) (q : HAd) : KeepS (fun b => b = g) w (put7 w g p s q) :=
  (((((((KeepS.refl (fun b => b = g) w).setCell (p := ⟨g, p, none⟩) rfl _).setCell (p := ⟨g, p + 1, none⟩) rfl _).setCell (p := ⟨g, p + 2, none⟩) rfl _).setCell (p := ⟨g, p + 3, none⟩) rfl _).setCell (p := ⟨g, p + 4, none⟩) rfl _).setCell (p := ⟨g, p + 5, none⟩) rfl _).setCell (p := ⟨g, p + 6, none⟩) rfl _
theorem put7_below {B : Nat} {a w : World} (h : Below B a w) {g : Nat} (hg : B ≤ g) (p : Nat) (s : SV) (q : HAd) : Below B a (put7 w g p s q) :=
  ((((((h.setCell (p := ⟨g, p, none⟩) hg _).setCell (p := ⟨g, p + 1, none⟩) hg _).setCell (p := ⟨g, p + 2, none⟩) hg _).setCell (p := ⟨g, p + 3, none⟩) hg _).setCell (p := ⟨g, p + 4, none⟩) hg _).setCell (p := ⟨g, p + 5, none⟩) hg _).setCell (p := ⟨g, p + 6, none⟩) hg _
theorem set_two {α : Type} : ∀ (P : List α) (k : Nat) (y x : α) (_ : k + 1 < P.length), (P.set k y).set (k + 1) x = P.take k ++ [y, x] ++ P.drop (k + 2)
  | [], _, _, _, h => by simp at h
  | [_], k, _, _, h => by simp at h
  | a :: b :: l, 0, y, x, _ => rfl
  | a :: b :: l, k + 1, y, x, h => by
    have := set_two (b :: l) k y x (by simp only [List.length_cons] at h ⊢; omega)
    rw [List.set_cons_succ, List.set_cons_succ, this]
    rfl
/-- Two side by side change places. -/
theorem RowV.swap {w W : World} {base g n c : Nat} {P : List (SV × HAd)} (h : RowV w base (.slice (some ⟨g, 0, none⟩) n c) P n) (k : Nat) (hk : k + 1 < P.length) (hW : Below w.heap.size w W) :
    RowV (put7 (put7 W g (k * 7) P[k + 1].1 P[k + 1].2) g ((k + 1) * 7) (P[k]'(by omega)).1 (P[k]'(by omega)).2) base (.slice (some ⟨g, 0, none⟩) n c) (P.take k ++ [P[k + 1], P[k]'(by omega)] ++ P.drop (k + 2)) n := by
  have hl := h.len
  have h0 := h.below hW
  have e1 := put7_own h0.own (k * 7) P[k + 1].1 P[k + 1].2
  rw [hvS_set (by omega)] at e1
  have e2 := put7_own e1 ((k + 1) * 7) (P[k]'(by omega)).1 (P[k]'(by omega)).2
  rw [hvS_set (by rw [List.length_set]; omega)] at e2
  have eP : (P.set k (P[k + 1].1, P[k + 1].2)).set (k + 1) ((P[k]'(by omega)).1, (P[k]'(by omega)).2) = P.take k ++ [P[k + 1], P[k]'(by omega)] ++ P.drop (k + 2) := by
    exact set_two P k _ _ hk
  rw [eP] at e2
  have K := (put7_keep W g (k * 7) P[k + 1].1 P[k + 1].2).trans (put7_keep (put7 W g (k * 7) P[k + 1].1 P[k + 1].2) g ((k + 1) * 7) (P[k]'(by omega)).1 (P[k]'(by omega)).2)
  have mem : ∀ p, p ∈ P.take k ++ [P[k + 1], P[k]'(by omega)] ++ P.drop (k + 2) → p ∈ P := by
    intro x h
    rcases List.mem_append.1 h with h | h
    · rcases List.mem_append.1 h with h | h
      · exact List.mem_of_mem_take h
      · rcases List.mem_cons.1 h with rfl | h
        · exact List.getElem_mem _
        · rcases List.mem_cons.1 h with rfl | h
          · exact List.getElem_mem _
          · cases h
    · exact List.mem_of_mem_drop h
  refine ⟨e2, ?_, fun p hp => (h0.new p (mem p hp)).keepS K (fun b hb e => ?_), fun p hp b hb => h.far p (mem p hp) b hb, fun p hp => h.nilI p (mem p hp)⟩
  · simp only [List.length_append, List.length_take, List.length_drop, List.length_cons, List.length_nil]
    omega
  · subst e
    exact h.far p (mem p hp) b hb rfl
/-- The kinds that stand in a row of heads. -/
def kindsAt (w : World) (g n : Nat) : List Int := (List.range n).map fun j => match w.cell? ⟨g, j * 7, none⟩ with | some (.int _ k) => k | _ => 0
def invK : List Int → Nat
  | [] => 0
  | s :: l => (if s = 2 then 0 else l.countP (fun x => x == 2)) + invK l
theorem invK_map (L : List SV) : invK (L.map (·.kind)) = invN L := by
  induction L with
  | nil => rfl
  | cons s l ih =>
    rw [List.map_cons, invK, invN, ih]
    congr 2
    unfold whereN
    rw [List.countP_map]
    rfl
theorem RowV.kinds {w : World} {base g n c : Nat} {P : List (SV × HAd)} (h : RowV w base (.slice (some ⟨g, 0, none⟩) n c) P n) : invK (kindsAt w g n) = invN (P.map Prod.fst) := by
  rw [← invK_map]
  congr 1
  have hl := h.len
  apply List.ext_getElem
  · simp [kindsAt, hl]
  · intro i h1 h2
    have hi : i < P.length := by simp [kindsAt] at h1; omega
    have hc := h.own.cellAt (i * 7 + 0) (by omega)
    rw [hvS_at hi 0 (by omega)] at hc
    simp only [Nat.add_zero, headSv, List.getElem?_cons_zero] at hc
    simp [kindsAt, hc]
end Go.Proofs.YtegnekbbbfncgaaGreatDoor
