/-
  A part of the proof: OpenV, Laid.
-/
import Derived.Test.YtegnekbbbfncgaaGreatDoorPart15
import Derived.Test.YtegnekbbbfncgaaGreatDoorPart21
import Derived.Lib.SmallJoins
import Derived.Test.YtegnekbbbfncgaaGreatDoorRows
import Derived.Test.YtegnekbbbfncgaaGreatDoorPart2
import Derived.LaidMore
import Derived.Stop.LaidErr
import Derived.Lib.LaidTab
import Derived.Stop.Joined
import Derived.ProofKit
import Derived.LaidLaws

/-
  A law's argument that is a sieve, or a slice of sieves, opened: which they are, and where they lie.
-/
namespace Go.Proofs.YtegnekbbbfncgaaGreatDoor
open Go.ChangeShapes Go.WideShapes Go.ChangeAt Go.RowKit Go.Deep Go.Joins

theorem array7 {cs : Array Value} (h : cs.size = 7) : ∃ a b c d e f g, cs = #[a, b, c, d, e, f, g] := by
  obtain ⟨l⟩ := cs
  match l, h with
  | [a, b, c, d, e, f, g], _ => exact ⟨a, b, c, d, e, f, g, rfl⟩
set_option maxRecDepth 100000 in
theorem open_sieve {H : Type} {enc : TypeId × Value → H} {w : World} {r : _root_.Go.Reach} {b0 base : Nat} {spare : Nat → Bool} {held : Bool} {v : Value} {d : DataW H} {p : List MemPlace}
    (hv : Value.okWide Tryz.prog w r b0 26 v) (h : DataW.Trod enc Tryz.prog w base spare held 26 v d p) :
    ∃ (q : SV) (nn sn : Nat) (na : Option Addr) (nc : Nat) (sa : Option Addr) (sc : Nat), v = .agg #[.int .i64 q.kind, .string q.name, .slice na nn nc, .slice sa sn sc, .bool q.down, .int .i64 q.count, .int .i64 q.skip] ∧ q.names.length = nn ∧ q.sum.length = sn ∧ SivAt w na nc sa q := by
  have he := Tryz.underlying26
  obtain ⟨cs, rfl, hsz⟩ := okWide_struct he hv
  obtain ⟨w0, w1, w2, w3, w4, w5, w6, rfl⟩ := array7 (hsz.trans (by kernel_rfl))
  obtain ⟨fuel, hf⟩ := h
  obtain ⟨xs, k, hk, hxy, _, hxl, hf⟩ := DataW.trod_struct he hf
  match xs, hxl with
  | [y0, y1, y2, y3, y4, y5, y6], _ =>
      have q0 := hf 0 _ rfl
      have q1 := hf 1 _ rfl
      have q2 := hf 2 _ rfl
      have q3 := hf 3 _ rfl
      have q4 := hf 4 _ rfl
      have q5 := hf 5 _ rfl
      have q6 := hf 6 _ rfl
      have k0 : Tryz.prog.cellsOf 2 = 1 := by kernel_rfl
      have k1 : Tryz.prog.cellsOf 9 = 1 := by kernel_rfl
      have k2 : Tryz.prog.cellsOf 23 = 1 := by kernel_rfl
      have k3 : Tryz.prog.cellsOf 24 = 1 := by kernel_rfl
      have k4 : Tryz.prog.cellsOf 4 = 1 := by kernel_rfl
      simp [Value.cells, k0, k1, k2, k3, k4] at q0 q1 q2 q3 q4 q5 q6
      clear k0 k1 k2 k3 k4
      obtain ⟨k0, ek0, _, _⟩ := DataW.trod_int Tryz.underlying2 q0
      obtain ⟨nm, enm, _, hnm⟩ := DataW.trod_string Tryz.underlying9 q1
      obtain ⟨dn, edn, _⟩ := DataW.trod_bool Tryz.underlying4 q4
      obtain ⟨ct, ect, _, _⟩ := DataW.trod_int Tryz.underlying2 q5
      obtain ⟨sk, esk, _, _⟩ := DataW.trod_int Tryz.underlying2 q6
      simp at ek0 enm edn ect esk
      subst ek0 enm edn ect esk
      obtain ⟨na, nn, nc, rfl⟩ : ∃ ai li ci, w2 = .slice ai li ci := by
        rcases open_slice Tryz.underlying23 q2 with ⟨hv, _⟩ | ⟨a', l', c', _, _, _, _, hv, _⟩
        · simp at hv; exact ⟨_, _, _, hv⟩
        · simp at hv; exact ⟨_, _, _, hv⟩
      obtain ⟨sa, sn, sc, rfl⟩ : ∃ ai li ci, w3 = .slice ai li ci := by
        rcases open_slice Tryz.underlying24 q3 with ⟨hv, _⟩ | ⟨a', l', c', _, _, _, _, hv, _⟩
        · simp at hv; exact ⟨_, _, _, hv⟩
        · simp at hv; exact ⟨_, _, _, hv⟩
      obtain ⟨N, hN, hs, hft, hlc, hcap, hnil⟩ := open_strs Tryz.underlying23 Tryz.underlying9 (by kernel_rfl) q2
      obtain ⟨S, hS, hK, hF, hM, _⟩ := open_itms Tryz.underlying24 Tryz.underlying110 Tryz.underlying108 (by kernel_rfl) rfl rfl rfl rfl rfl rfl (by kernel_rfl) (by kernel_rfl) (by kernel_rfl) (by kernel_rfl) (by kernel_rfl) (by kernel_rfl) Tryz.underlying2 Tryz.underlying9 Tryz.underlying2 Tryz.underlying2 Tryz.underlying9 q3
      subst hN hS
      exact ⟨⟨k0, nm, N, S, dn, ct, sk⟩, _, _, na, nc, sa, sc, rfl, rfl, rfl, hs, hft, hlc, hcap, hnil, hK, hF, hM, hnm⟩
end Go.Proofs.YtegnekbbbfncgaaGreatDoor

/-
  From the row's condition on the listed variables to what the walks ask of them.
-/
namespace Go.Proofs.YtegnekbbbfncgaaGreatDoor
open Go.ChangeShapes Go.WideShapes Go.ChangeAt Go.RowKit

theorem gPow : (Tryz.prog.globalNamed "internal/strconv.uint64pow10").bind (fun g => (Tryz.prog.globals[g]?).map (·.type)) = some 403 := by kernel_rfl
theorem pow_data : (Rows.laid_internal_strconv_uint64pow10 : DataW Unit) = Lib.tabData .u64 Lib.pow10Tab := by kernel_rfl
theorem pow_of {W : World} {rest : List (String × DataW Unit)} (h : laidMet Tryz.prog (("internal/strconv.uint64pow10", Rows.laid_internal_strconv_uint64pow10) :: rest) W) : PowAt W := by
  rw [pow_data] at h
  obtain ⟨g, hg, ht⟩ := Option.bind_eq_some_iff.1 gPow
  exact Lib.tabIs_of_head hg ht Tryz.underlying403 Tryz.underlying264 (by kernel_rfl) (by kernel_rfl) h

theorem star_name : "*" ++ "errors.errorString" = "*errors.errorString" := by decide
theorem row_err (u : TypeId) (h : Tryz.prog.typeName? 3 u = some "*errors.errorString") : u = 398 :=
  typeName_ptr_named (nm := "errors.errorString") (by rw [star_name]; kernel_rfl) (by kernel_rfl) (by decide) u (by rw [star_name]; exact h)
theorem gRange : (Tryz.prog.globalNamed "strconv.ErrRange").bind (fun g => (Tryz.prog.globals[g]?).map (·.type)) = some 99 := by kernel_rfl
theorem gSyntax : (Tryz.prog.globalNamed "strconv.ErrSyntax").bind (fun g => (Tryz.prog.globals[g]?).map (·.type)) = some 99 := by kernel_rfl
theorem err_of {W : World} {rest : List (String × DataW Unit)} (h : laidMet Tryz.prog (("strconv.ErrRange", Rows.laid_strconv_ErrRange) :: ("strconv.ErrSyntax", Rows.laid_strconv_ErrSyntax) :: rest) W) : ErrAt W := by
  obtain ⟨g, hg, ht⟩ := Option.bind_eq_some_iff.1 gRange
  obtain ⟨g2, hg2, ht2⟩ := Option.bind_eq_some_iff.1 gSyntax
  have h2 := h.tail
  unfold Rows.laid_strconv_ErrRange at h
  unfold Rows.laid_strconv_ErrSyntax at h2
  obtain ⟨a, s, hv, _⟩ := laid_sentinel h hg ht Tryz.underlying99 row_err Tryz.underlying398 Tryz.underlying400 rfl rfl Tryz.underlying9 (by kernel_rfl) (by kernel_rfl)
  obtain ⟨a2, s2, hv2, _⟩ := laid_sentinel h2 hg2 ht2 Tryz.underlying99 row_err Tryz.underlying398 Tryz.underlying400 rfl rfl Tryz.underlying9 (by kernel_rfl) (by kernel_rfl)
  exact ⟨⟨_, _, hv2⟩, ⟨_, _, hv⟩⟩

end Go.Proofs.YtegnekbbbfncgaaGreatDoor
