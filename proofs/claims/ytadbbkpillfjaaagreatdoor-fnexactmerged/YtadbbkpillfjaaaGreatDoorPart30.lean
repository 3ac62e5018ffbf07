/-
  A part of the proof: PushFacts, MrgMath.
-/
import Derived.Test.YtadbbkpillfjaaaGreatDoorPart28
import Derived.Test.YtadbbkpillfjaaaGreatDoorPart29
import Derived.Test.YtadbbkpillfjaaaGreatDoorPart25
import Derived.Test.YtadbbkpillfjaaaGreatDoorPart17
import Derived.Test.YtadbbkpillfjaaaGreatDoorPart24

/-
  What the laws of Pushed and Merged need of a list of sieves: how many numbers it holds; that there is but one answer.
-/
namespace Go.Proofs.YtadbbkpillfjaaaGreatDoor
open Go.ChangeShapes Go.WideShapes Go.ChangeAt Go.RowKit

theorem sivN_leftP {s : SV} {x : Int} (h : 0 ≤ leftV s x) : (sivN s : Int) ≤ 5 + 5 * (x - leftV s x) := by
  unfold leftV at h ⊢
  by_cases h1 : x < (s.name.size : Int)
  · rw [if_pos h1] at h; omega
  rw [if_neg h1] at h ⊢
  by_cases h2 : leftOfS s.names (x - s.name.size) < 0
  · rw [if_pos h2] at h; omega
  rw [if_neg h2] at h ⊢
  by_cases h3 : leftOfItm s.sum (leftOfS s.names (x - s.name.size)) < 0
  · rw [if_pos h3] at h; omega
  rw [if_neg h3] at h ⊢
  unfold leftOfItm at h3 ⊢
  split at h3
  · omega
  rename_i h4
  rw [if_neg h4]
  unfold leftOfS at h2 h4 ⊢
  split at h2
  · omega
  rename_i h5
  rw [if_neg h5] at h4 ⊢
  unfold sivN
  omega
theorem offV_leftVsP {T : List SV} {x : Int} (h : 0 ≤ leftVs T x) : (((T.map sivN).sum : Nat) : Int) ≤ 5 * T.length + 5 * (x - leftVs T x) := by
  induction T generalizing x with
  | nil => simp [leftVs]
  | cons t T ih =>
    unfold leftVs at h ⊢
    split at h
    · omega
    rename_i hn
    rw [if_neg hn]
    have h1 := sivN_leftP (s := t) (x := x) (by omega)
    have h2 := ih h
    rw [List.map_cons, List.sum_cons, List.length_cons]
    omega
theorem offV_leftVSP {T : List SV} {x : Int} (h1 : x ≤ 1048576) (h : 0 ≤ leftVS T x) : offV T T.length ≤ 8388608 := by
  unfold leftVS at h
  split at h
  · omega
  rename_i hn
  have := offV_leftVsP (T := T) (x := x - T.length) h
  unfold offV
  rw [List.take_length]
  omega
theorem keep_belowP {P : Nat → Prop} {B : Nat} {a w w' : World} (h : Below B a w) (hk : KeepS P w w') (hB : B ≤ w.heap.size) (hP : ∀ b, P b → B ≤ b) : Below B a w' :=
  h.trans ⟨hk.os, hk.tape, hk.output, hk.size, fun k hkB => hk.block k (by omega) (fun hp => by have := hP k hp; omega)⟩
theorem PushAns.eq {r : Rule} {T K K' : List SV} (h : PushAns r T K) (h' : PushAns r T K') : K = K' := by
  cases hb : askB T with
  | false => rw [h.no hb, h'.no hb]
  | true => exact (h.yes hb).one (h'.yes hb)
end Go.Proofs.YtadbbkpillfjaaaGreatDoor

/-
  What Merged rewrites, without any program: the rule; it makes the list shorter; what stays bounded; how many marks.
-/
namespace Go.Proofs.YtadbbkpillfjaaaGreatDoor

/-- Two sieves made one. -/
def mergeR : Rule := fun s t =>
  if (decide (s.kind = 2) && (decide (t.kind = 2) && (sureR s.sum && (sureR t.sum && decide (s.sum.length + t.sum.length < 40))))) = true then some [⟨2, ⟨#[]⟩, [], s.sum ++ t.sum ++ [opI 9], false, 0, 0⟩]
  else if (decide (s.kind = 9) && (decide (t.kind = 9) && (decide (s.skip + t.skip ≤ 1000) && decide (t.skip < s.count)))) = true then some [⟨9, ⟨#[]⟩, [], [], false, min t.count (s.count - t.skip), s.skip + t.skip⟩]
  else none
theorem merge_one {s t : SV} {x : List SV} (h : mergeR s t = some x) : x.length = 1 := by
  unfold mergeR at h
  split at h
  · injection h with h; rw [← h]; rfl
  · split at h
    · injection h with h; rw [← h]; rfl
    · cases h
theorem merge_less : ∀ {L L' : List SV}, rwStep mergeR L = some L' → L'.length + 1 = L.length
  | [], _, h => by simp [rwStep] at h
  | [_], _, h => by simp [rwStep] at h
  | s :: t :: l, L', h => by
    unfold rwStep at h
    cases hp : mergeR s t with
    | some x =>
      rw [hp] at h
      injection h with h
      have := merge_one hp
      rw [← h]
      simp only [List.length_append, List.length_cons, this]
      omega
    | none =>
      rw [hp] at h
      cases hr : rwStep mergeR (t :: l) with
      | none =>
        rw [hr] at h
        cases h
      | some L1 =>
        rw [hr] at h
        injection h with h
        have := merge_less hr
        rw [← h]
        simp only [List.length_cons] at this ⊢
        omega
/-- What stays of every sieve while they are merged. -/
def OkM (s : SV) : Prop := FitI s.sum ∧ MildS s ∧ (s.kind = 2 → s.sum.length ≤ 40) ∧ (s.kind = 9 → (0 ≤ s.count ∧ s.count ≤ 1000) ∧ 0 ≤ s.skip ∧ s.skip ≤ 1000)
theorem fit_appI {A B : List TI} (h1 : FitI A) (h2 : FitI B) : FitI (A ++ B) := by
  intro x hx
  rcases List.mem_append.1 hx with h | h
  · exact h1 x h
  · exact h2 x h
theorem fit_appItm {A B : List TI} (h1 : FitItm A) (h2 : FitItm B) : FitItm (A ++ B) := by
  intro j hj
  by_cases e : j < A.length
  · simp only [List.getElem_append_left e]
    exact h1 j e
  · simp only [List.getElem_append_right (show A.length ≤ j by omega)]
    exact h2 _ _
theorem merge_ok {s t : SV} {x : List SV} (hs : OkM s) (ht : OkM t) (h : mergeR s t = some x) : ∀ y ∈ x, OkM y := by
  unfold mergeR at h
  split at h
  · rename_i hc
    simp only [Bool.and_eq_true, decide_eq_true_eq] at hc
    injection h with h
    rw [← h]
    intro y hy
    rcases List.mem_cons.1 hy with rfl | hy
    · refine ⟨fit_appI (fit_appI hs.1 ht.1) ?_, ⟨by simp, ?_⟩, fun _ => ?_, fun h => ?_⟩
      · intro x hx
        rcases List.mem_cons.1 hx with rfl | hx
        · exact ⟨Nat.zero_le _, Nat.zero_le _⟩
        · cases hx
      · simp only [List.length_append, List.length_cons, List.length_nil]; omega
      · simp only [List.length_append, List.length_cons, List.length_nil]; omega
      · cases h
    · cases hy
  · split at h
    · rename_i hc
      simp only [Bool.and_eq_true, decide_eq_true_eq] at hc
      injection h with h
      rw [← h]
      have h1 := hs.2.2.2 hc.1
      have h2 := ht.2.2.2 hc.2.1
      intro y hy
      rcases List.mem_cons.1 hy with rfl | hy
      · refine ⟨(fun x hx => by cases hx), ⟨by simp, by simp⟩, (fun h => by cases h), (fun _ => ?_)⟩
        simp only
        omega
      · cases hy
    · cases h
end Go.Proofs.YtadbbkpillfjaaaGreatDoor
