/-
  A law's argument that is a stream, opened: which rows it has, and where they lie.
-/
import Derived.Test.YtdmiiklegnokjaaOpen1
import Derived.Lib.SmallJoins
namespace Go.Proofs.Ytdmiiklegnokjaa
open Go.ChangeShapes Go.WideShapes Go.ChangeAt Go.RowKit Go.Deep Go.Joins

theorem array2 {cs : Array Value} (h : cs.size = 2) : ∃ a b, cs = #[a, b] := by
  obtain ⟨l⟩ := cs
  match l, h with
  | [a, b], _ => exact ⟨a, b, rfl⟩
set_option maxRecDepth 100000 in
theorem open_stream {H : Type} {enc : TypeId × Value → H} {w : World} {r : _root_.Go.Reach} {b0 base : Nat} {spare : Nat → Bool} {held : Bool} {v : Value} {d : DataW H} {p : List MemPlace}
    (hv : Value.okWide Try.prog w r b0 24 v) (h : DataW.Trod enc Try.prog w base spare held 24 v d p) :
    ∃ (L : List (List CT)) (n : Nat) (a : Option Addr) (c : Nat) (f : Int), v = .agg #[.slice a n c, .int .i64 f] ∧ L.length = n ∧ RowsAt w a L ∧ n ≤ maxLen ∧ (a = none → c = 0) := by
  have he := Try.underlying24
  obtain ⟨cs, rfl, hsz⟩ := okWide_struct he hv
  obtain ⟨w0, w1, rfl⟩ := array2 (hsz.trans (by kernel_rfl))
  obtain ⟨fuel, hf⟩ := h
  obtain ⟨xs, k, hk, hxy, _, hxl, hf⟩ := DataW.trod_struct he hf
  match xs, hxl with
  | [y0, y1], _ =>
      have q0 := hf 0 _ rfl
      have q1 := hf 1 _ rfl
      have k0 : Try.prog.cellsOf 22 = 1 := by kernel_rfl
      have k1 : Try.prog.cellsOf 2 = 1 := by kernel_rfl
      simp [Value.cells, k0, k1] at q0 q1
      clear k0 k1
      obtain ⟨ft, ef, _, _⟩ := DataW.trod_int Try.underlying2 q1
      simp at ef
      subst ef
      obtain ⟨a, n, c, rfl⟩ : ∃ ai li ci, w0 = .slice ai li ci := by
        rcases open_slice Try.underlying22 q0 with ⟨hv, _⟩ | ⟨a', l', c', _, _, _, _, hv, _⟩
        · simp at hv; exact ⟨_, _, _, hv⟩
        · simp at hv; exact ⟨_, _, _, hv⟩
      obtain ⟨L, hl, hR, hM, hN⟩ := open_rows Try.underlying22 (by kernel_rfl) Try.underlying41 Try.underlying44 (by kernel_rfl) rfl rfl rfl (by kernel_rfl) (by kernel_rfl) (by kernel_rfl) Try.underlying2 Try.underlying2 Try.underlying9 q0
      exact ⟨L, n, a, c, ft, rfl, hl, hR, hM, hN⟩
end Go.Proofs.Ytdmiiklegnokjaa
