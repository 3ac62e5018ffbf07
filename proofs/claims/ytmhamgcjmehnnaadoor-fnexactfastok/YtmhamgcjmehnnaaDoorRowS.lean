/-
  The contracts of the model's text of a row.
-/
import Derived.Test.YtmhamgcjmehnnaaDoorHd
import Derived.Test.YtmhamgcjmehnnaaDoorKeyS
import Derived.Test.YtmhamgcjmehnnaaDoorLists2
namespace Go.Proofs.YtmhamgcjmehnnaaDoor
open Go.ChangeShapes Go.WideShapes Go.ChangeAt Go.RowKit
attribute [local go_sem ↓] Go.wp_at_zero Go.wp_at_succ

theorem joinTail_snoc (sep : List UInt8) (r : List (List UInt8)) (x : List UInt8) : Lib.joinTail sep (r ++ [x]) = Lib.joinTail sep r ++ sep ++ x := by simp [Lib.joinTail]
theorem join_snoc (xs : List (List UInt8)) (x sep : List UInt8) (h : xs ≠ []) : Lib.join (xs ++ [x]) sep = Lib.join xs sep ++ sep ++ x := by
  cases xs with
  | nil => exact absurd rfl h
  | cons y r => rw [List.cons_append, Lib.join_cons, Lib.join_cons, joinTail_snoc]; simp
theorem join_len (xs : List (List UInt8)) (h : ∀ x ∈ xs, x.length ≤ 14) : (Lib.join xs [32]).length ≤ 15 * xs.length := by
  have key : ∀ r : List (List UInt8), (∀ x ∈ r, x.length ≤ 14) → (Lib.joinTail [32] r).length ≤ 15 * r.length := by
    intro r
    induction r with
    | nil => intro _; simp [Lib.joinTail]
    | cons y r ih =>
      intro hr
      have h1 := hr y (by simp)
      have h2 := ih (fun x hx => hr x (by simp [hx]))
      have e : Lib.joinTail [32] (y :: r) = 32 :: (y ++ Lib.joinTail [32] r) := by simp [Lib.joinTail]
      rw [e, List.length_cons, List.length_append, List.length_cons]
      omega
  cases xs with
  | nil => simp [Lib.join_nil]
  | cons y r =>
    have h1 := h y (by simp)
    have h2 := key r (fun x hx => h x (by simp [hx]))
    rw [Lib.join_cons, List.length_append, List.length_cons]
    omega
/-- The bytes of texts. -/
def rawT (xs : List ByteArray) : List (List UInt8) := xs.map (·.data.toList)
theorem rawT_snoc (xs : List ByteArray) (x : ByteArray) : rawT (xs ++ [x]) = rawT xs ++ [x.data.toList] := by simp [rawT]
theorem bytes_append (a b : ByteArray) : (a ++ b).data.toList = a.data.toList ++ b.data.toList := by simp
/-- The texts of a slice lie where it says. -/
def TextsAt (w : World) (g : Nat) (xs : List ByteArray) : Prop := ∀ j (h : j < xs.length), w.cell? ⟨g, j, none⟩ = some (.string xs[j]) ∧ g < w.heap.size
theorem texts_own {w : World} {B g c : Nat} {e : TypeId} {xs : List ByteArray} (h : w.ownsRow B e 1 (.slice (some ⟨g, 0, none⟩) xs.length c) xs.length (xs.map Value.string)) : TextsAt w g xs := by
  intro j hj
  have := h.cellAt j (by omega)
  rw [List.getElem?_map, List.getElem?_eq_getElem hj] at this
  exact ⟨this, World.block_lt_of_cell? w _ this⟩

theorem infoStr : (Tryd.prog.info? 9).map (fun i => (i.zero, i.size, i.bytes)) = some (some (.string ⟨#[]⟩), 1, 16) := by kernel_rfl
theorem all_snoc (l : List CT) (k : Nat) (h : k < l.length) : (l.take (k + 1)).all okC = ((l.take k).all okC && okC l[k]) := by
  rw [List.take_succ_eq_append_getElem h, List.all_append]; simp
/-- The texts of a row's cells. -/
def textsC (l : List CT) : List ByteArray := l.map fun c => ⟨(textC c).toArray⟩
theorem textsC_snoc (l : List CT) (k : Nat) (h : k < l.length) : textsC (l.take (k + 1)) = textsC (l.take k) ++ [⟨(textC l[k]).toArray⟩] := by
  unfold textsC; rw [List.take_succ_eq_append_getElem h, List.map_append]; rfl
theorem rawT_texts (l : List CT) : rawT (textsC l) = l.map textC := by
  unfold rawT textsC; rw [List.map_map]; rfl
theorem rowT_texts {l : List CT} (h : l.all okC = true) : rowT l = ⟨(Lib.join (rawT (textsC l)) [32]).toArray⟩ := by
  unfold rowT; rw [if_pos h, rawT_texts]
theorem texts_14 {l : List CT} (h : l.all okC = true) : ∀ x ∈ textsC l, x.size ≤ 14 := by
  intro x hx
  unfold textsC at hx
  obtain ⟨c, hc, rfl⟩ := List.mem_map.1 hx
  rw [Lib.size_eq, bytes_mk]
  exact l4T_len (List.all_eq_true.1 h c hc)
theorem textsC_length (l : List CT) : (textsC l).length = l.length := by unfold textsC; rw [List.length_map]

end Go.Proofs.YtmhamgcjmehnnaaDoor
