/-
  Names: what a right list of names is, without any program; the contracts of the model's functions on them, and of the one that looks a text up.
-/
import Derived.Test.YtgiknjlifocioaaDoorStrs1
import Derived.Test.YtgiknjlifocioaaDoorRowS
namespace Go.Proofs.YtgiknjlifocioaaDoor
open Go.ChangeShapes Go.WideShapes Go.ChangeAt Go.RowKit
attribute [local go_sem ↓] Go.wp_at_zero Go.wp_at_succ
attribute [local simp] World.cell?_alloc_past World.cell?_alloc_at World.frozen?_alloc_at cell_far cell_off cell_here World.frozen?_alloc_past

theorem txt_same {y s : ByteArray} (h : y = s) : (y.toList == s.toList) = true := by rw [h]; simp
theorem txt_other {y s : ByteArray} (h : y ≠ s) : (y.toList == s.toList) = false := by
  rw [beq_eq_false_iff_ne]
  intro e
  rw [Lib.toList_data, Lib.toList_data] at e
  exact h (ByteArray.ext (Array.toList_inj.1 e))

/-- Is the text among them? -/
def inB (l : List ByteArray) (s : ByteArray) : Bool := l.any fun x => decide (x = s)
theorem inB_iff {l : List ByteArray} {s : ByteArray} : inB l s = true ↔ s ∈ l := by
  unfold inB
  rw [List.any_eq_true]
  constructor
  · rintro ⟨x, hx, e⟩
    rw [decide_eq_true_eq] at e
    rw [← e]; exact hx
  · intro h; exact ⟨s, h, by simp⟩
theorem inB_no {l : List ByteArray} {s : ByteArray} : inB l s = false ↔ s ∉ l := by
  rw [Bool.eq_false_iff]
  exact not_congr inB_iff
/-- Is it a name? -/
def nameB (s : ByteArray) : Bool := decide (s ≠ ⟨#[]⟩) && (lets s.data.toList && decide ((s.size : Int) ≤ 6))
/-- Names, no two alike. -/
def namesD (l : List ByteArray) : Bool := l.all nameB && decide l.Nodup
def namesB (l : List ByteArray) (least most : Int) : Bool := namesD l && (decide (least ≤ (l.length : Int)) && decide ((l.length : Int) ≤ most))
theorem namesD_snoc (l : List ByteArray) (k : Nat) (h : k < l.length) : namesD (l.take (k + 1)) = (namesD (l.take k) && (nameB l[k] && !inB (l.take k) l[k])) := by
  unfold namesD
  rw [List.take_succ_eq_append_getElem h, List.all_append]
  rw [Bool.eq_iff_iff]
  simp only [Bool.and_eq_true, decide_eq_true_eq, List.nodup_append, List.all_cons, List.all_nil, Bool.and_true, Bool.not_eq_true', inB_no, List.mem_singleton]
  constructor
  · rintro ⟨⟨h1, h2⟩, h3, _, h4⟩
    exact ⟨⟨h1, h3⟩, h2, fun hm => h4 _ hm _ rfl rfl⟩
  · rintro ⟨⟨h1, h3⟩, h2, h4⟩
    exact ⟨⟨h1, h2⟩, h3, by simp, fun a ha b hb e => h4 (by rw [← hb, ← e]; exact ha)⟩
theorem namesD_no (l : List ByteArray) (k : Nat) (h : namesD (l.take k) = false) : namesD l = false := by
  rw [Bool.eq_false_iff] at h ⊢
  intro e
  apply h
  unfold namesD at e ⊢
  simp only [Bool.and_eq_true, decide_eq_true_eq, List.all_eq_true] at e ⊢
  exact ⟨fun x hx => e.1 x (List.mem_of_mem_take hx), e.2.sublist (List.take_sublist _ _)⟩

/-- Where a text stands first; -1: nowhere. -/
def AtIs (l : List ByteArray) (s : ByteArray) (r : Int) : Prop := (r = -1 ∧ s ∉ l) ∨ ∃ (k : Nat) (h : k < l.length), r = (k : Int) ∧ l[k] = s ∧ ∀ j (hj : j < l.length), j < k → l[j] ≠ s
theorem AtIs.one {l : List ByteArray} {s : ByteArray} {r r' : Int} (h : AtIs l s r) (h' : AtIs l s r') : r = r' := by
  rcases h with ⟨rfl, hn⟩ | ⟨k, hk, rfl, he, hf⟩ <;> rcases h' with ⟨rfl, hn'⟩ | ⟨k', hk', rfl, he', hf'⟩
  · rfl
  · exact absurd (he' ▸ List.getElem_mem hk') hn
  · exact absurd (he ▸ List.getElem_mem hk) hn'
  · rcases Nat.lt_trichotomy k k' with h | h | h
    · exact absurd he (hf' k hk h)
    · rw [h]
    · exact absurd he' (hf k' hk' h)
theorem AtIs.neg {l : List ByteArray} {s : ByteArray} {r : Int} (h : AtIs l s r) : (0 ≤ r ↔ s ∈ l) := by
  rcases h with ⟨rfl, hn⟩ | ⟨k, hk, rfl, he, _⟩
  · constructor
    · intro h; omega
    · intro h; exact absurd h hn
  · exact ⟨fun _ => he ▸ List.getElem_mem hk, fun _ => by omega⟩
theorem AtIs.lt {l : List ByteArray} {s : ByteArray} {r : Int} (h : AtIs l s r) : -1 ≤ r ∧ r < (l.length : Int) := by
  rcases h with ⟨rfl, _⟩ | ⟨k, hk, rfl, _, _⟩ <;> omega

theorem name_spec (s : ByteArray) (w : World) (hs : s.size ≤ maxLen) (b : Bool) (hb : nameB s = b) :
    Calls Tryd.prog 25 #[.string s] w fun e w' => e = .returned (.bool b) ∧ w' = w := by
  by_cases h0 : s = ⟨#[]⟩
  · have e : b = false := by rw [← hb, h0]; rfl
    subst e h0
    clear hb
    go_enter Tryd.func25, Tryd.ntmps25
    go_wp2
    go_ret
    exact ⟨rfl, rfl⟩
  · have h1 : (s.toList == []) = false := by
      have := txt_other h0
      rw [show (⟨#[]⟩ : ByteArray).toList = [] from by rw [Lib.toList_data]] at this
      exact this
    have h2 : ¬ s.toList = [] := by intro e; rw [e] at h1; cases h1
    have e : (lets s.data.toList && decide ((s.size : Int) ≤ 6)) = b := by rw [← hb]; unfold nameB; rw [decide_eq_true h0, Bool.true_and]
    have HB : Hid ((lets s.data.toList && decide ((s.size : Int) ≤ 6)) = b) := e
    clear hb h0 e
    go_enter Tryd.func25, Tryd.ntmps25
    go_wp2_with fail
    refine (letters_spec s 6 _ hs).mono ?_
    rintro e w' ⟨rfl, rfl⟩
    rw [HB.out]
    go_wp2
    go_ret
    exact ⟨rfl, rfl⟩

set_option maxHeartbeats 1000000 in
theorem at_spec (a : Option Addr) (cap : Nat) (l : List ByteArray) (s : ByteArray) (w : World) (hrow : StrsAt w a l) (hm : l.length ≤ maxLen) :
    Calls Tryd.prog 23 #[.slice a l.length cap, .string s] w fun e w' => ∃ r, e = .returned (.int .i64 r) ∧ AtIs l s r ∧ Below w.heap.size w w' := by
  have HR : Hid (StrsAt w a l) := hrow
  clear hrow
  unfold maxLen at hm
  go_enter Tryd.func23, Tryd.ntmps23
  go_wp2
  go_loopw [5] (fun kk wr => ∃ k : Nat, k ≤ l.length ∧ kk = .int .i64 k ∧ Hid (∀ j (hj : j < l.length), j < k → l[j] ≠ s) ∧ Below w.heap.size w wr) (fun kk _ => l.length - (intOf kk).toNat)
  case atStart => exact ⟨0, Nat.zero_le _, rfl, fun j _ h => by omega, Below.refl _ _⟩
  case round =>
    obtain ⟨k, hk, rfl, hall, hbw⟩ := hrel
    by_cases hlt : k < l.length
    · obtain ⟨g, o, rfl, hgw, c0⟩ := HR.out.below hbw k hlt
      have hi0 : (0 : Int) ≤ (k : Int) := by omega
      have hi1 : (k : Int) < (l.length : Int) := by omega
      have HX : Hid (l[k] = l[k]) := rfl
      by_cases e : l[k] = s
      · have fin : Hid (AtIs l s (k : Int)) := Or.inr ⟨k, hlt, rfl, e, hall.out⟩
        have hq := txt_same e
        clear HX e
        generalize l[k] = x at c0 hq
        go_wp2
        go_ret
        exact ⟨_, rfl, fin.out, hbw⟩
      · have hall2 : Hid (∀ j (hj : j < l.length), j < k + 1 → l[j] ≠ s) := by
          have : ∀ j (hj : j < l.length), j < k + 1 → l[j] ≠ s := by
            intro j hj hjk
            by_cases ej : j = k
            · subst ej; exact e
            · exact hall.out j hj (by omega)
          exact this
        have hq := txt_other e
        clear HX e
        generalize l[k] = x at c0 hq
        go_wp2
        go_roundw
        case rel => exact ⟨k + 1, by omega, by go_num, hall2, hbw⟩
        case measure => simp [intOf]; omega
    · have fin : Hid (AtIs l s (-1)) := Or.inl ⟨rfl, fun hmem => by
        obtain ⟨j, hj, e⟩ := List.getElem_of_mem hmem
        exact hall.out j hj (by omega) e⟩
      go_wp2
      go_ret
      exact ⟨_, rfl, fin.out, hbw⟩

end Go.Proofs.YtgiknjlifocioaaDoor
