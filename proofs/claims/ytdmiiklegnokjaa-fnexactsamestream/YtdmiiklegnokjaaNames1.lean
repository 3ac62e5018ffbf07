/-
  Names: what a right list of names is, without any program; the contracts of the model's functions on them, and of the one that looks a text up.
-/
import Derived.Test.YtdmiiklegnokjaaStrs1
import Derived.Test.YtdmiiklegnokjaaRowS
namespace Go.Proofs.Ytdmiiklegnokjaa
open Go.ChangeShapes Go.WideShapes Go.ChangeAt Go.RowKit
attribute [local go_sem ↓] Go.wp_at_zero Go.wp_at_succ
attribute [local simp] World.cell?_alloc_past World.cell?_alloc_at World.frozen?_alloc_at cell_far cell_off cell_here World.frozen?_alloc_past

theorem txt_same {y s : ByteArray} (h : y = s) : (y.toList == s.toList) = true := by rw [h]; simp
theorem txt_other {y s : ByteArray} (h : y ≠ s) : (y.toList == s.toList) = false := by
  rw [beq_eq_false_iff_ne]
  intro e
  rw [Lib.toList_data, Lib.toList_data] at e
  exact h (ByteArray.ext (Array.toList_inj.1 e))

/-- Is the text among them? -/
def inB (l : List ByteArray) (s : ByteArray) : Bool := l.any fun x => decide (x = s)
theorem inB_iff {l : List ByteArray} {s : ByteArray} : inB l s = true ↔ s ∈ l := by
  unfold inB
  rw [List.any_eq_true]
  constructor
  · rintro ⟨x, hx, e⟩
    rw [decide_eq_true_eq] at e
    rw [← e]; exact hx
  · intro h; exact ⟨s, h, by simp⟩
theorem inB_no {l : List ByteArray} {s : ByteArray} : inB l s = false ↔ s ∉ l := by
  rw [Bool.eq_false_iff]
  exact not_congr inB_iff
/-- Is it a name? -/
def nameB (s : ByteArray) : Bool := decide (s ≠ ⟨#[]⟩) && (lets s.data.toList && decide ((s.size : Int) ≤ 6))
/-- Names, no two alike. -/
def namesD (l : List ByteArray) : Bool := l.all nameB && decide l.Nodup
def namesB (l : List ByteArray) (least most : Int) : Bool := namesD l && (decide (least ≤ (l.length : Int)) && decide ((l.length : Int) ≤ most))
theorem namesD_snoc (l : List ByteArray) (k : Nat) (h : k < l.length) : namesD (l.take (k + 1)) = (namesD (l.take k) && (nameB l[k] && !inB (l.take k) l[k])) := by
  unfold namesD
  rw [List.take_succ_eq_append_getElem h, List.all_append]
  rw [Bool.eq_iff_iff]
  simp only [Bool.and_eq_true, decide_eq_true_eq, List.nodup_append, List.all_cons, List.all_nil, Bool.and_true, Bool.not_eq_true', inB_no, List.mem_singleton]
  constructor
  · rintro ⟨⟨h1, h2⟩, h3, _, h4⟩
    exact ⟨⟨h1, h3⟩, h2, fun hm => h4 _ hm _ rfl rfl⟩
  · rintro ⟨⟨h1, h3⟩, h2, h4⟩
    exact ⟨⟨h1, h2⟩, h3, by simp, fun a ha b hb e => h4 (by rw [← hb, ← e]; exact ha)⟩
theorem namesD_no (l : List ByteArray) (k : Nat) (h : namesD (l.take k) = false) : namesD l = false := by
  rw [Bool.eq_false_iff] at h ⊢
  intro e
  apply h
  unfold namesD at e ⊢
  simp only [Bool.and_eq_true, decide_eq_true_eq, List.all_eq_true] at e ⊢
  exact ⟨fun x hx => e.1 x (List.mem_of_mem_take hx), e.2.sublist (List.take_sublist _ _)⟩

/-- Where a text stands first; -1: nowhere. -/
def AtIs (l : List ByteArray) (s : ByteArray) (r : Int) : Prop := (r = -1 ∧ s ∉ l) ∨ ∃ (k : Nat) (h : k < l.length), r = (k : Int) ∧ l[k] = s ∧ ∀ j (hj : j < l.length), j < k → l[j] ≠ s
theorem AtIs.one {l : List ByteArray} {s : ByteArray} {r r' : Int} (h : AtIs l s r) (h' : AtIs l s r') : r = r' := by
  rcases h with ⟨rfl, hn⟩ | ⟨k, hk, rfl, he, hf⟩ <;> rcases h' with ⟨rfl, hn'⟩ | ⟨k', hk', rfl, he', hf'⟩
  · rfl
  · exact absurd (he' ▸ List.getElem_mem hk') hn
  · exact absurd (he ▸ List.getElem_mem hk) hn'
  · rcases Nat.lt_trichotomy k k' with h | h | h
    · exact absurd he (hf' k hk h)
    · rw [h]
    · exact absurd he' (hf k' hk' h)
theorem AtIs.neg {l : List ByteArray} {s : ByteArray} {r : Int} (h : AtIs l s r) : (0 ≤ r ↔ s ∈ l) := by
  rcases h with ⟨rfl, hn⟩ | ⟨k, hk, rfl, he, _⟩
  · constructor
    · intro h; omega
    · intro h; exact absurd h hn
  · exact ⟨fun _ => he ▸ List.getElem_mem hk, fun _ => by omega⟩
theorem AtIs.lt {l : List ByteArray} {s : ByteArray} {r : Int} (h : AtIs l s r) : -1 ≤ r ∧ r < (l.length : Int) := by
  rcases h with ⟨rfl, _⟩ | ⟨k, hk, rfl, _, _⟩ <;> omega

end Go.Proofs.Ytdmiiklegnokjaa
