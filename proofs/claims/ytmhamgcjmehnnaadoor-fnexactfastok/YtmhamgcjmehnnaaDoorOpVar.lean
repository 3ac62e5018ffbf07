/-
  The program's own table of steps' words, a package variable, in later worlds.
-/
import Derived.Test.YtmhamgcjmehnnaaDoorHd
import Derived.Test.YtmhamgcjmehnnaaDoorLists6
namespace Go.Proofs.YtmhamgcjmehnnaaDoor
open Go.ChangeShapes Go.WideShapes Go.ChangeAt Go.RowKit

def opWs : List (Array UInt8) := [#[], #[99, 111, 108, 117, 109, 110], #[110, 117, 109, 98, 101, 114], #[112, 108, 117, 115], #[108, 101, 115, 115], #[116, 105, 109, 101, 115], #[98, 121], #[115, 97, 109, 101], #[98, 101, 108, 111, 119], #[98, 111, 116, 104], #[101, 105, 116, 104, 101, 114], #[110, 111, 116], #[116, 101, 115, 116]]
/-- The word at each kind of step; at 0 there is none. -/
def opW0 (k : Nat) : ByteArray := ⟨opWs.getD k #[]⟩
def opArr : Array Value := ((List.range 13).map (fun k => Value.string (opW0 k))).toArray
theorem opW0_size (k : Nat) (h : k < 13) : ((opW0 k).size = 0) ↔ k = 0 := by
  have : ∀ k, k < 13 → (((opW0 k).size = 0) ↔ k = 0) := by decide
  exact this k h
theorem var_belowO {P : Program} {w w' : World} {name : String} {v : Array Value} (h : w.var? P name = some v) (hb : Below w.heap.size w w') : w'.var? P name = some v := by
  unfold World.var? at h ⊢
  cases hg : P.globalNamed name with
  | none => rw [hg] at h; cases h
  | some g =>
    rw [hg] at h
    have h2 : (match w.heap[g]? with | some (.cells cs _ _) => some cs | _ => none) = some v := h
    have hlt : g < w.heap.size := by
      by_cases hl : g < w.heap.size
      · exact hl
      · rw [Array.getElem?_eq_none (by omega)] at h2; cases h2
    show (match w'.heap[g]? with | some (.cells cs _ _) => some cs | _ => none) = some v
    rw [hb.block g hlt]; exact h2
theorem gOpw : Tryd.prog.globalNamed "loop.example/g00536/impl.opWords" = some 0 := by kernel_rfl
/-- The table of words holds them. -/
def OpwAt (w : World) : Prop := w.var? Tryd.prog "loop.example/g00536/impl.opWords" = some opArr
theorem OpwAt.below {w w' : World} (h : OpwAt w) (hb : Below w.heap.size w w') : OpwAt w' := var_belowO h hb
theorem OpwAt.cell {w : World} (h : OpwAt w) (k : Nat) (hk : k < 13) : w.cell? ⟨0, k, none⟩ = some (.string (opW0 k)) := by
  rw [World.var?_cell gOpw h k]
  unfold opArr
  simp [hk]
theorem OpwAt.lt {w : World} (h : OpwAt w) : 0 < w.heap.size := World.block_lt_of_cell? w _ (h.cell 0 (by omega))
end Go.Proofs.YtmhamgcjmehnnaaDoor
