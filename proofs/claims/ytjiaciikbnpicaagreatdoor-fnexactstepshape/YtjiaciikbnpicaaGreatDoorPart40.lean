/-
  A part of the proof: ErrVar, ErrIs, ErrAs.
-/
import Derived.Test.YtjiaciikbnpicaaGreatDoorPart2
import Derived.WalkKit
import Derived.LaidEql
import Derived.Stop.Asserts
import Derived.RowKitTokens

/-
  The program's five sentinels, errors' own handle and the library's variables in later worlds; what an error of the program is.
-/
namespace Go.Proofs.YtjiaciikbnpicaaGreatDoor
open Go.ChangeShapes Go.WideShapes Go.ChangeAt Go.RowKit

/-- Where the sentinels lie: no table, twice, no column, too many, not right. -/
structure Sen where
  e1 : Addr
  e2 : Addr
  e3 : Addr
  e4 : Addr
  e5 : Addr
/-- A block that is a variable's. -/
def Blk (w : World) (a : Addr) : Prop := ∃ c t, w.heap[a.block]? = some (.cells c t (0, 0))
theorem Blk.below {w w' : World} {a : Addr} (h : Blk w a) (hb : Below w.heap.size w w') : Blk w' a := by
  obtain ⟨c, t, h⟩ := h
  have hl : a.block < w.heap.size := by
    by_cases hl : a.block < w.heap.size
    · exact hl
    · rw [Array.getElem?_eq_none (by omega)] at h; cases h
  exact ⟨c, t, by rw [hb.block _ hl]; exact h⟩
structure SenAt (w : World) (A : Sen) : Prop where
  lt : 1 < w.heap.size ∧ 2 < w.heap.size ∧ 3 < w.heap.size ∧ 4 < w.heap.size ∧ 0 < w.heap.size ∧ 5 < w.heap.size
  v1 : w.cell? ⟨1, 0, none⟩ = some (.iface 304 (.pointer (some A.e1)))
  v2 : w.cell? ⟨2, 0, none⟩ = some (.iface 304 (.pointer (some A.e2)))
  v3 : w.cell? ⟨3, 0, none⟩ = some (.iface 304 (.pointer (some A.e3)))
  v4 : w.cell? ⟨4, 0, none⟩ = some (.iface 304 (.pointer (some A.e4)))
  v5 : w.cell? ⟨0, 0, none⟩ = some (.iface 304 (.pointer (some A.e5)))
  b1 : Blk w A.e1
  b2 : Blk w A.e2
  b3 : Blk w A.e3
  b4 : Blk w A.e4
  b5 : Blk w A.e5
  n12 : A.e1 ≠ A.e2
  n13 : A.e1 ≠ A.e3
  n14 : A.e1 ≠ A.e4
  n15 : A.e1 ≠ A.e5
  n23 : A.e2 ≠ A.e3
  n24 : A.e2 ≠ A.e4
  n25 : A.e2 ≠ A.e5
  n34 : A.e3 ≠ A.e4
  n35 : A.e3 ≠ A.e5
  n45 : A.e4 ≠ A.e5
  et : w.cell? ⟨5, 0, none⟩ = some (.iface 189 (.agg #[.pointer (some ⟨12, 70, none⟩)]))
  pow : PowAt w
  err : ErrAt w
theorem SenAt.below {w w' : World} {A : Sen} (h : SenAt w A) (hb : Below w.heap.size w w') : SenAt w' A := by
  obtain ⟨l1, l2, l3, l4, l5, l6⟩ := h.lt
  have hs := hb.size
  exact ⟨⟨by omega, by omega, by omega, by omega, by omega, by omega⟩,
    by rw [hb.cell (p := ⟨_, _, none⟩) l1]; exact h.v1, by rw [hb.cell (p := ⟨_, _, none⟩) l2]; exact h.v2, by rw [hb.cell (p := ⟨_, _, none⟩) l3]; exact h.v3,
    by rw [hb.cell (p := ⟨_, _, none⟩) l4]; exact h.v4, by rw [hb.cell (p := ⟨_, _, none⟩) l5]; exact h.v5,
    h.b1.below hb, h.b2.below hb, h.b3.below hb, h.b4.below hb, h.b5.below hb, h.n12, h.n13, h.n14, h.n15, h.n23, h.n24, h.n25, h.n34, h.n35, h.n45,
    by rw [hb.cell (p := ⟨_, _, none⟩) l6]; exact h.et, h.pow.below hb, h.err.below hb⟩

/-- The error of a code. -/
def ErrV (A : Sen) (k : Int) (v : Value) : Prop :=
  (k = 0 ∧ v = .nilIface) ∨ (k = 1 ∧ ∃ nm, v = .iface 133 (.agg #[.string nm, .iface 304 (.pointer (some A.e1))])) ∨ (k = 2 ∧ v = .iface 304 (.pointer (some A.e2))) ∨
  (k = 3 ∧ ∃ nm, v = .iface 133 (.agg #[.string nm, .iface 304 (.pointer (some A.e3))])) ∨ (k = 4 ∧ v = .iface 304 (.pointer (some A.e4))) ∨ (k = 5 ∧ v = .iface 304 (.pointer (some A.e5)))
theorem errV_0 {A : Sen} : ErrV A 0 .nilIface := .inl ⟨rfl, rfl⟩
theorem errV_1 {A : Sen} (nm : ByteArray) : ErrV A 1 (.iface 133 (.agg #[.string nm, .iface 304 (.pointer (some A.e1))])) := .inr (.inl ⟨rfl, nm, rfl⟩)
theorem errV_2 {A : Sen} : ErrV A 2 (.iface 304 (.pointer (some A.e2))) := .inr (.inr (.inl ⟨rfl, rfl⟩))
theorem errV_3 {A : Sen} (nm : ByteArray) : ErrV A 3 (.iface 133 (.agg #[.string nm, .iface 304 (.pointer (some A.e3))])) := .inr (.inr (.inr (.inl ⟨rfl, nm, rfl⟩)))
theorem errV_4 {A : Sen} : ErrV A 4 (.iface 304 (.pointer (some A.e4))) := .inr (.inr (.inr (.inr (.inl ⟨rfl, rfl⟩))))
theorem errV_5 {A : Sen} : ErrV A 5 (.iface 304 (.pointer (some A.e5))) := .inr (.inr (.inr (.inr (.inr ⟨rfl, rfl⟩))))
/-- Nil, or an interface value. -/
theorem ErrV.shape {A : Sen} {k : Int} {v : Value} (h : ErrV A k v) : (k = 0 ∧ v = .nilIface) ∨ (k ≠ 0 ∧ ∃ t x, v = .iface t x) := by
  rcases h with ⟨rfl, rfl⟩ | ⟨rfl, nm, rfl⟩ | ⟨rfl, rfl⟩ | ⟨rfl, nm, rfl⟩ | ⟨rfl, rfl⟩ | ⟨rfl, rfl⟩
  · exact .inl ⟨rfl, rfl⟩
  all_goals exact .inr ⟨by decide, _, _, rfl⟩
end Go.Proofs.YtjiaciikbnpicaaGreatDoor

/-
  The library's errors.Is at the program's errors: Go's own text is walked.
-/
namespace Go.Proofs.YtjiaciikbnpicaaGreatDoor
open Go.ChangeShapes Go.WideShapes Go.ChangeAt Go.RowKit Go.Extern.Stop Go.Stop Go.Extern
attribute [local simp] World.cell?_alloc_past World.cell?_alloc_at World.frozen?_alloc_at World.frozen?_alloc_past

theorem isTypeOf (v : Value) (w : World) : (Extern.ReflectliteType.typeOf #[.iface 304 v]).run Tryz.prog w = .ok (.iface 189 (.agg #[.pointer (some ⟨12, 304, none⟩)])) w := by kernel_rfl
theorem isComparableC (w : World) : (callFunc 272 #[.agg #[.pointer (some ⟨12, 304, none⟩)]]).run Tryz.prog w = .ok (Next.value (.bool true)) w := by
  rw [@run_callFunc_extern Tryz.prog 272 _ (Extern.ReflectliteType.method fun t => do Go.Extern.Rtype.noPackHeld "Comparable" t; pure (.bool (← typeInfo t).comparable)) Tryz.func272 (by kernel_rfl) (by kernel_rfl) (by kernel_rfl) (by kernel_rfl)]
  kernel_rfl
theorem isMethodComparable (v : Value) (w : World) : (Go.method 443 189 v "Comparable").run Tryz.prog w = .ok (272, v) w := by kernel_rfl
theorem isComp : (Tryz.prog.info? 304).map (·.comparable) = some true := by kernel_rfl
theorem isSize : (Tryz.prog.info? 306).map (·.size) = some 1 := by kernel_rfl
theorem noIsE (v : Value) (xT : TypeId) (w : World) : (Instr.typeAssert (.iface 304 v) xT 191 true).run Tryz.prog w = .ok (.tuple #[.nilIface, .bool false]) w := run_typeAssert_lacksB Tryz.underlying191 (by kernel_rfl) (by kernel_rfl) v xT w
theorem noUnwrapE (v : Value) (xT : TypeId) (w : World) : (Instr.typeAssert (.iface 304 v) xT 194 true).run Tryz.prog w = .ok (.tuple #[.nilIface, .bool false]) w := run_typeAssert_lacksB Tryz.underlying194 (by kernel_rfl) (by kernel_rfl) v xT w
theorem noUnwrapsE (v : Value) (xT : TypeId) (w : World) : (Instr.typeAssert (.iface 304 v) xT 196 true).run Tryz.prog w = .ok (.tuple #[.nilIface, .bool false]) w := run_typeAssert_lacksB Tryz.underlying196 (by kernel_rfl) (by kernel_rfl) v xT w
theorem noIsN (v : Value) (xT : TypeId) (w : World) : (Instr.typeAssert (.iface 133 v) xT 191 true).run Tryz.prog w = .ok (.tuple #[.nilIface, .bool false]) w := run_typeAssert_lacksB Tryz.underlying191 (by kernel_rfl) (by kernel_rfl) v xT w
theorem hasUnwrapN (v : Value) (xT : TypeId) (w : World) : (Instr.typeAssert (.iface 133 v) xT 194 true).run Tryz.prog w = .ok (.tuple #[.iface 133 v, .bool true]) w := run_typeAssert_hasB Tryz.underlying194 (by kernel_rfl) v xT w
theorem methodUnwrapN (x y : Value) (w : World) : (Go.method 443 133 (.agg #[x, y]) "Unwrap").run Tryz.prog w = .ok (268, .agg #[x, y]) w := by kernel_rfl
/-- What a notThere wraps. -/
theorem unwrap_impl (nm : ByteArray) (x : Value) (w : World) :
    Calls Tryz.prog 268 #[.agg #[.string nm, x]] w fun e w' => e = .returned x ∧ Below w.heap.size w w' := by
  go_enter Tryz.func268, Tryz.ntmps268
  go_wp2
  go_ret
  first
    | exact ⟨rfl, Below.refl _ _⟩
    | exact ⟨rfl, (Below.refl _ _).alloc (Nat.le_refl _) _⟩

theorem is_same (a : Addr) (w : World) :
    Calls Tryz.prog 88 #[.iface 304 (.pointer (some a)), .iface 304 (.pointer (some a))] w fun e w' => e = .returned (.bool true) ∧ Below w.heap.size w w' := by
  obtain ⟨i, hi, hcmp⟩ := Option.map_eq_some_iff.1 isComp
  obtain ⟨j, hj, hjs⟩ := Option.map_eq_some_iff.1 isSize
  have h8 := @run_callFunc_extern Tryz.prog 120 _ Extern.ReflectliteType.typeOf Tryz.func120 (by kernel_rfl) (by kernel_rfl) (by kernel_rfl) (by kernel_rfl)
  have tT := isTypeOf
  have cT := isComparableC
  have mR := isMethodComparable
  have heq := run_eql_iface_ptr_same (P := Tryz.prog) w a Tryz.underlying70 Tryz.underlying304 hi hcmp hj
  go_enter Tryz.func88, Tryz.ntmps88
  go_wp2
  refine wp_loop_rounds 1 ?_
  rw [rounds_succ]
  go_wp2
  go_ret
  exact ⟨rfl, Below.refl _ _⟩

theorem is_other (a b : Addr) (w : World) (hne : a ≠ b) (ha : Blk w a) (hb : Blk w b) :
    Calls Tryz.prog 88 #[.iface 304 (.pointer (some a)), .iface 304 (.pointer (some b))] w fun e w' => e = .returned (.bool false) ∧ Below w.heap.size w w' := by
  obtain ⟨ca, ta, ha⟩ := ha
  obtain ⟨cb, tb, hb⟩ := hb
  obtain ⟨i, hi, hcmp⟩ := Option.map_eq_some_iff.1 isComp
  obtain ⟨j, hj, hjs⟩ := Option.map_eq_some_iff.1 isSize
  have h8 := @run_callFunc_extern Tryz.prog 120 _ Extern.ReflectliteType.typeOf Tryz.func120 (by kernel_rfl) (by kernel_rfl) (by kernel_rfl) (by kernel_rfl)
  have tT := isTypeOf
  have cT := isComparableC
  have mR := isMethodComparable
  have nE := noIsE
  have uE := noUnwrapE
  have vE := noUnwrapsE
  have heq := run_eql_iface_ptr_other (P := Tryz.prog) w Tryz.underlying70 Tryz.underlying304 hi hcmp hj (by rw [hjs]; decide) hne ha hb
  go_enter Tryz.func88, Tryz.ntmps88
  go_wp2
  refine wp_loop_rounds 1 ?_
  rw [rounds_succ]
  go_wp2
  go_ret
  exact ⟨rfl, Below.refl _ _⟩

theorem is_wrap_same (nm : ByteArray) (b : Addr) (w : World) :
    Calls Tryz.prog 88 #[.iface 133 (.agg #[.string nm, .iface 304 (.pointer (some b))]), .iface 304 (.pointer (some b))] w fun e w' => e = .returned (.bool true) ∧ Below w.heap.size w w' := by
  obtain ⟨i, hi, hcmp⟩ := Option.map_eq_some_iff.1 isComp
  obtain ⟨j, hj, hjs⟩ := Option.map_eq_some_iff.1 isSize
  have h8 := @run_callFunc_extern Tryz.prog 120 _ Extern.ReflectliteType.typeOf Tryz.func120 (by kernel_rfl) (by kernel_rfl) (by kernel_rfl) (by kernel_rfl)
  have tT := isTypeOf
  have cT := isComparableC
  have mR := isMethodComparable
  have nN := noIsN
  have uN := hasUnwrapN
  have mU := methodUnwrapN
  have hty : ∀ w : World, _ := fun w => run_eql_iface_types (P := Tryz.prog) 133 304 (.agg #[.string nm, .iface 304 (.pointer (some b))]) (.pointer (some b)) Tryz.underlying70 (by decide) w
  have heq : ∀ w : World, _ := fun w => run_eql_iface_ptr_same (P := Tryz.prog) w b Tryz.underlying70 Tryz.underlying304 hi hcmp hj
  go_enter Tryz.func88, Tryz.ntmps88
  go_wp2
  refine wp_loop_rounds 2 ?_
  rw [rounds_succ]
  go_wp2_with (go_at_call 268; refine (unwrap_impl nm _ _).mono ?_; rintro e w1 ⟨rfl, hb1⟩)
  rw [rounds_succ]
  go_wp2
  go_ret
  exact ⟨rfl, hb1⟩

theorem is_wrap_other (nm : ByteArray) (a b : Addr) (w : World) (hne : a ≠ b) (ha : Blk w a) (hb : Blk w b) :
    Calls Tryz.prog 88 #[.iface 133 (.agg #[.string nm, .iface 304 (.pointer (some a))]), .iface 304 (.pointer (some b))] w fun e w' => e = .returned (.bool false) ∧ Below w.heap.size w w' := by
  obtain ⟨i, hi, hcmp⟩ := Option.map_eq_some_iff.1 isComp
  obtain ⟨j, hj, hjs⟩ := Option.map_eq_some_iff.1 isSize
  have h8 := @run_callFunc_extern Tryz.prog 120 _ Extern.ReflectliteType.typeOf Tryz.func120 (by kernel_rfl) (by kernel_rfl) (by kernel_rfl) (by kernel_rfl)
  have tT := isTypeOf
  have cT := isComparableC
  have mR := isMethodComparable
  have nE := noIsE
  have uE := noUnwrapE
  have vE := noUnwrapsE
  have nN := noIsN
  have uN := hasUnwrapN
  have mU := methodUnwrapN
  have hty : ∀ w : World, _ := fun w => run_eql_iface_types (P := Tryz.prog) 133 304 (.agg #[.string nm, .iface 304 (.pointer (some a))]) (.pointer (some b)) Tryz.underlying70 (by decide) w
  go_enter Tryz.func88, Tryz.ntmps88
  go_wp2
  refine wp_loop_rounds 2 ?_
  rw [rounds_succ]
  go_wp2_with (go_at_call 268; refine (unwrap_impl nm _ _).mono ?_; rintro e w1 ⟨rfl, hb1⟩)
  obtain ⟨ca, ta, ha⟩ := ha.below hb1
  obtain ⟨cb, tb, hb⟩ := hb.below hb1
  have heq := run_eql_iface_ptr_other (P := Tryz.prog) w1 Tryz.underlying70 Tryz.underlying304 hi hcmp hj (by rw [hjs]; decide) hne ha hb
  rw [rounds_succ]
  go_wp2
  go_ret
  exact ⟨rfl, hb1⟩
end Go.Proofs.YtjiaciikbnpicaaGreatDoor

/-
  The library's errors.As at a nil error and at a notThere, the target a notThere: Go's own text is walked.
-/
namespace Go.Proofs.YtjiaciikbnpicaaGreatDoor
open Go.ChangeShapes Go.WideShapes Go.ChangeAt Go.RowKit Go.Extern.Stop Go.Stop Go.Extern

theorem as_nil (t : Value) (w : World) :
    Calls Tryz.prog 160 #[.nilIface, t] w fun e w' => e = .returned (.bool false) ∧ w' = w := by
  go_enter Tryz.func160, Tryz.ntmps160
  go_wp2
  go_ret
  exact ⟨rfl, rfl⟩

theorem asValueP (t : Addr) (w : World) : (ReflectliteValue.unpack (.iface 211 (.pointer (some t)))).run Tryz.prog w
    = .ok (.agg #[.pointer (some ⟨12, 211, none⟩), .pointer (some ⟨w.heap.size, 0, none⟩), .int .u64 150]) (w.alloc (.cells #[.pointer (some t)] 211)) := by kernel_rfl
theorem asTypeP (a : Addr) (w : World) : (ReflectliteValue.methodAny (ReflectliteValue.valueError "reflectlite.Value.Type" 0) (fun t _ _ _ => ReflectliteType.toType t) #[.agg #[.pointer (some ⟨12, 211, none⟩), .pointer (some a), .int .u64 150]]).run Tryz.prog w
    = .ok (.iface 189 (.agg #[.pointer (some ⟨12, 211, none⟩)])) w := by kernel_rfl
theorem asMethodKind (h : Value) (w : World) : (Go.method 443 189 (.agg #[h]) "Kind").run Tryz.prog w = .ok (264, h) w := by kernel_rfl
theorem asKindP (w : World) : ((ReflectliteType.abiMethod fun t => (fun a : Nat => Value.int IntKind.u8 (a : Int)) <$> Rtype.kind t) #[.pointer (some ⟨12, 211, none⟩)]).run Tryz.prog w = .ok (.int .u8 22) w := by kernel_rfl
theorem asKindN (w : World) : ((ReflectliteType.abiMethod fun t => (fun a : Nat => Value.int IntKind.u8 (a : Int)) <$> Rtype.kind t) #[.pointer (some ⟨12, 133, none⟩)]).run Tryz.prog w = .ok (.int .u8 25) w := by kernel_rfl
theorem rlm (z : Sem Value) (f : TypeId → Addr → Nat → Nat → Sem Value) (v : Value) :
    ReflectliteValue.method z f #[v] = (do match ← ReflectliteValue.parts v with | none => z | some (t, a, fl) => f t a fl (fl % 32)) := rfl
theorem asPartsP (a : Addr) (w : World) : (ReflectliteValue.parts (.agg #[.pointer (some ⟨12, 211, none⟩), .pointer (some a), .int .u64 150])).run Tryz.prog w = .ok (some (211, a, 150)) w := by kernel_rfl
theorem asIsNilP (a p : Addr) (W : World) (ha : W.cell? a = some (.pointer (some p))) :
    (ReflectliteValue.method (ReflectliteValue.valueError "reflectlite.Value.IsNil" 0) ReflectliteValue.isNil #[.agg #[.pointer (some ⟨12, 211, none⟩), .pointer (some a), .int .u64 150]]).run Tryz.prog W = .ok (.bool false) W := by
  rw [rlm]
  simp only [Sem.run_bind, asPartsP, Result.andThen]
  simp [ReflectliteValue.isNil, loadVar, isAgg, underlying, Tryz.underlying211, ha, Result.andThen]
theorem asMethodElem (h : Value) (w : World) : (Go.method 443 189 (.agg #[h]) "Elem").run Tryz.prog w = .ok (273, .agg #[h]) w := by kernel_rfl
theorem asMethodImplements (h : Value) (w : World) : (Go.method 443 189 (.agg #[h]) "Implements").run Tryz.prog w = .ok (274, .agg #[h]) w := by kernel_rfl
theorem asMethodAssignableTo (h : Value) (w : World) : (Go.method 443 189 (.agg #[h]) "AssignableTo").run Tryz.prog w = .ok (271, .agg #[h]) w := by kernel_rfl
theorem asElemP (w : World) : (ReflectliteType.method ReflectliteType.elem #[.agg #[.pointer (some ⟨12, 211, none⟩)]]).run Tryz.prog w = .ok (.iface 189 (.agg #[.pointer (some ⟨12, 133, none⟩)])) w := by kernel_rfl
theorem asImplementsN (w : World) : (ReflectliteType.relation "Implements" ReflectliteType.implements_ #[.agg #[.pointer (some ⟨12, 133, none⟩)], .iface 189 (.agg #[.pointer (some ⟨12, 70, none⟩)])]).run Tryz.prog w = .ok (.bool true) w := by kernel_rfl
theorem asTypeOfN (v : Value) (w : World) : (ReflectliteType.typeOf #[.iface 133 v]).run Tryz.prog w = .ok (.iface 189 (.agg #[.pointer (some ⟨12, 133, none⟩)])) w := by kernel_rfl
theorem asAssignableN (w : World) : (ReflectliteType.relation "AssignableTo" ReflectliteType.assignableTo #[.agg #[.pointer (some ⟨12, 133, none⟩)], .iface 189 (.agg #[.pointer (some ⟨12, 133, none⟩)])]).run Tryz.prog w = .ok (.bool true) w := by kernel_rfl
theorem asValueN (x y : Value) (w : World) : (ReflectliteValue.unpack (.iface 133 (.agg #[x, y]))).run Tryz.prog w
    = .ok (.agg #[.pointer (some ⟨12, 133, none⟩), .pointer (some ⟨w.heap.size, 0, none⟩), .int .u64 153]) (w.alloc (.cells #[x, y] 133)) := by kernel_rfl
theorem asElemOfP (w : World) : (Rtype.elem? 211).run Tryz.prog w = .ok (some 133) w := by kernel_rfl
theorem asMkN (p : Addr) (w : World) : (ReflectliteValue.mk 133 p ReflectliteValue.flagAddr).run Tryz.prog w = .ok (.agg #[.pointer (some ⟨12, 133, none⟩), .pointer (some p), .int .u64 409]) w := by kernel_rfl
theorem asElemVP (a p : Addr) (W : World) (ha : W.cell? a = some (.pointer (some p))) :
    (ReflectliteValue.method (ReflectliteValue.valueError "reflectlite.Value.Elem" 0) ReflectliteValue.elem #[.agg #[.pointer (some ⟨12, 211, none⟩), .pointer (some a), .int .u64 150]]).run Tryz.prog W
      = .ok (.agg #[.pointer (some ⟨12, 133, none⟩), .pointer (some p), .int .u64 409]) W := by
  rw [rlm]
  simp only [Sem.run_bind, asPartsP, Result.andThen]
  simp [ReflectliteValue.elem, loadVar, isAgg, underlying, Tryz.underlying211, ha, Result.andThen, asElemOfP, asMkN]
theorem rls (v x : Value) : ReflectliteValue.set #[v, x] = (do
    let (some (dst, a, fl), some (src, b, _)) := (← ReflectliteValue.parts v, ← ReflectliteValue.parts x)
      | unsupported (.noEntry "extern/(internal/reflectlite.Value).Set.zeroValue")
    if fl / ReflectliteValue.flagAddr % 2 == 0 then unsupported (.noEntry "extern/(internal/reflectlite.Value).Set.unaddressable")
    let val ← loadVar src b
    if ← Rtype.directlyAssignable dst src then storeVar dst a val
    else if ← Rtype.implements dst src then
      if (← Rtype.kind src) == 20 then
        match val with
        | .nilIface => unsupported (.noEntry "extern/reflectlite: a nil value of one interface type handed on as a value of another")
        | _ => storeVar dst a val
      else storeVar dst a (.iface src val)
    else panicString ("reflectlite.Set: value of type " ++ (← Rtype.spelt src) ++ " is not assignable to type " ++ (← Rtype.spelt dst))
    pure (.tuple #[])) := rfl
theorem asPartsA (a : Addr) (w : World) : (ReflectliteValue.parts (.agg #[.pointer (some ⟨12, 133, none⟩), .pointer (some a), .int .u64 409])).run Tryz.prog w = .ok (some (133, a, 409)) w := by kernel_rfl
theorem asPartsN (a : Addr) (w : World) : (ReflectliteValue.parts (.agg #[.pointer (some ⟨12, 133, none⟩), .pointer (some a), .int .u64 153])).run Tryz.prog w = .ok (some (133, a, 153)) w := by kernel_rfl
theorem asDirectN (w : World) : (Rtype.directlyAssignable 133 133).run Tryz.prog w = .ok true w := by kernel_rfl
theorem asLoad (B : Nat) (x y : Value) (W : World) (h0 : W.cell? ⟨B, 0, none⟩ = some x) (h1 : W.cell? ⟨B, 1, none⟩ = some y) : (loadVar 133 ⟨B, 0, none⟩).run Tryz.prog W = .ok (.agg #[x, y]) W := by
  simp [loadVar, loadCells, loadCellsFrom, Addr.add, h0, h1, Result.andThen]
theorem asStore (tb : Nat) (x y o0 o1 : Value) (W : World) (hx : x.oneCell' = true) (hy : y.oneCell' = true) (h0 : W.cell? ⟨tb, 0, none⟩ = some o0) (h1 : W.cell? ⟨tb, 1, none⟩ = some o1) (f0 : W.frozen? ⟨tb, 0, none⟩ = false) (f1 : W.frozen? ⟨tb, 1, none⟩ = false) :
    (storeVar 133 ⟨tb, 0, none⟩ (.agg #[x, y])).run Tryz.prog W = .ok () ((W.setCell ⟨tb, 0, none⟩ x).setCell ⟨tb, 1, none⟩ y) := by
  have g1 : (W.setCell ⟨tb, 0, none⟩ x).cell? ⟨tb, 1, none⟩ = some o1 := by rw [cell_off _ _ _ _ _ (by decide)]; exact h1
  have g2 : (W.setCell ⟨tb, 0, none⟩ x).frozen? ⟨tb, 1, none⟩ = false := by simpa using f1
  have s0 : (store ⟨tb, 0, none⟩ x).run Tryz.prog W = .ok () (W.setCell ⟨tb, 0, none⟩ x) := by
    rw [run_store Tryz.prog W ⟨tb, 0, none⟩ _ _ hx]
    simp [h0, f0]
  have s1 : (store ⟨tb, 1, none⟩ y).run Tryz.prog (W.setCell ⟨tb, 0, none⟩ x) = .ok () ((W.setCell ⟨tb, 0, none⟩ x).setCell ⟨tb, 1, none⟩ y) := by
    rw [run_store Tryz.prog _ ⟨tb, 1, none⟩ _ _ hy]
    simp [g1, g2]
  simp [storeVar, Value.cells, storeCells, Addr.add, Result.andThen, s0, s1]
theorem asSet (tb B : Nat) (x y o0 o1 : Value) (W : World) (hx : x.oneCell' = true) (hy : y.oneCell' = true) (hb0 : W.cell? ⟨B, 0, none⟩ = some x) (hb1 : W.cell? ⟨B, 1, none⟩ = some y) (h0 : W.cell? ⟨tb, 0, none⟩ = some o0) (h1 : W.cell? ⟨tb, 1, none⟩ = some o1) (f0 : W.frozen? ⟨tb, 0, none⟩ = false) (f1 : W.frozen? ⟨tb, 1, none⟩ = false) :
    (ReflectliteValue.set #[.agg #[.pointer (some ⟨12, 133, none⟩), .pointer (some ⟨tb, 0, none⟩), .int .u64 409], .agg #[.pointer (some ⟨12, 133, none⟩), .pointer (some ⟨B, 0, none⟩), .int .u64 153]]).run Tryz.prog W
      = .ok (.tuple #[]) ((W.setCell ⟨tb, 0, none⟩ x).setCell ⟨tb, 1, none⟩ y) := by
  rw [rls]
  simp only [Sem.run_bind, asPartsA, asPartsN, Result.andThen]
  simp [ReflectliteValue.flagAddr, asLoad B x y W hb0 hb1, Result.andThen, asDirectN, asStore tb x y o0 o1 W hx hy h0 h1 f0 f1]

set_option maxHeartbeats 4000000 in
theorem as_hit (nm : ByteArray) (x o0 o1 : Value) (tb : Nat) (w : World) (A : Sen) (hS : SenAt w A) (hx : x.oneCell' = true) (h0 : w.cell? ⟨tb, 0, none⟩ = some o0) (h1 : w.cell? ⟨tb, 1, none⟩ = some o1) (f0 : w.frozen? ⟨tb, 0, none⟩ = false) (f1 : w.frozen? ⟨tb, 1, none⟩ = false) (htb : tb < w.heap.size) :
    Calls Tryz.prog 160 #[.iface 133 (.agg #[.string nm, x]), .iface 211 (.pointer (some ⟨tb, 0, none⟩))] w fun ev w' => ev = .returned (.bool true) ∧ Keep tb w w' := by
  have hg := hS.et
  have hlt := hS.lt.2.2.2.2.2
  clear hS
  have h6 := @run_callFunc_extern Tryz.prog 181 _ (fun args => ReflectliteValue.unpack (args.getD 0 (.tuple #[]))) Tryz.func181 (by kernel_rfl) (by kernel_rfl) (by kernel_rfl) (by kernel_rfl)
  have h7 := @run_callFunc_extern Tryz.prog 182 _ (ReflectliteValue.methodAny (ReflectliteValue.valueError "reflectlite.Value.Type" 0) (fun t _ _ _ => ReflectliteType.toType t)) Tryz.func182 (by kernel_rfl) (by kernel_rfl) (by kernel_rfl) (by kernel_rfl)
  have h8 := @run_callFunc_extern Tryz.prog 183 _ (ReflectliteValue.method (ReflectliteValue.valueError "reflectlite.Value.IsNil" 0) ReflectliteValue.isNil) Tryz.func183 (by kernel_rfl) (by kernel_rfl) (by kernel_rfl) (by kernel_rfl)
  have h27 := @run_callFunc_extern Tryz.prog 264 _ (ReflectliteType.abiMethod fun t => do pure (.int .u8 (← Rtype.kind t))) Tryz.func264 (by kernel_rfl) (by kernel_rfl) (by kernel_rfl) (by kernel_rfl)
  have h37 := @run_callFunc_extern Tryz.prog 273 _ (ReflectliteType.method ReflectliteType.elem) Tryz.func273 (by kernel_rfl) (by kernel_rfl) (by kernel_rfl) (by kernel_rfl)
  have h38 := @run_callFunc_extern Tryz.prog 274 _ (ReflectliteType.relation "Implements" ReflectliteType.implements_) Tryz.func274 (by kernel_rfl) (by kernel_rfl) (by kernel_rfl) (by kernel_rfl)
  have h10 := @run_callFunc_extern Tryz.prog 120 _ ReflectliteType.typeOf Tryz.func120 (by kernel_rfl) (by kernel_rfl) (by kernel_rfl) (by kernel_rfl)
  have h35 := @run_callFunc_extern Tryz.prog 271 _ (ReflectliteType.relation "AssignableTo" ReflectliteType.assignableTo) Tryz.func271 (by kernel_rfl) (by kernel_rfl) (by kernel_rfl) (by kernel_rfl)
  have h11 := @run_callFunc_extern Tryz.prog 196 _ (ReflectliteValue.method (ReflectliteValue.valueError "reflectlite.Value.Elem" 0) ReflectliteValue.elem) Tryz.func196 (by kernel_rfl) (by kernel_rfl) (by kernel_rfl) (by kernel_rfl)
  have h12 := @run_callFunc_extern Tryz.prog 197 _ ReflectliteValue.set Tryz.func197 (by kernel_rfl) (by kernel_rfl) (by kernel_rfl) (by kernel_rfl)
  have tO := asTypeOfN
  have mA := asMethodAssignableTo
  have a25 := asAssignableN
  have v25 := asValueN
  have f6 := asValueP
  have f7 := asTypeP
  have mK := asMethodKind
  have mE := asMethodElem
  have mI := asMethodImplements
  have k27 := asKindP
  have k25 := asKindN
  have e27 := asElemP
  have i25 := asImplementsN
  have n8 := asIsNilP ⟨w.heap.size, 0, none⟩ ⟨tb, 0, none⟩ ((w.alloc (.cells #[.pointer (some ⟨tb, 0, none⟩)] 211)).alloc (.cells #[.pointer (some ⟨12, 211, none⟩), .pointer (some ⟨w.heap.size, 0, none⟩), .int .u64 150] 234)) (by simp)
  have hg2 : ((w.alloc (.cells #[.pointer (some ⟨tb, 0, none⟩)] 211)).alloc (.cells #[.pointer (some ⟨12, 211, none⟩), .pointer (some ⟨w.heap.size, 0, none⟩), .int .u64 150] 234)).cell? ⟨5, 0, none⟩ = some (.iface 189 (.agg #[.pointer (some ⟨12, 70, none⟩)])) := by
    rw [World.cell?_alloc_lt _ _ ⟨5, 0, none⟩ (by simp; omega), World.cell?_alloc_lt _ _ ⟨5, 0, none⟩ hlt]; exact hg
  have el := asElemVP ⟨w.heap.size, 0, none⟩ ⟨tb, 0, none⟩ (((w.alloc (.cells #[.pointer (some ⟨tb, 0, none⟩)] 211)).alloc (.cells #[.pointer (some ⟨12, 211, none⟩), .pointer (some ⟨w.heap.size, 0, none⟩), .int .u64 150] 234)).alloc (.cells #[.pointer (some ⟨12, 211, none⟩), .pointer (some ⟨w.heap.size, 0, none⟩), .int .u64 150] 234)) (by rw [World.cell?_alloc_lt _ _ ⟨w.heap.size, 0, none⟩ (by simp; omega)]; simp)
  have st := asSet tb (w.heap.size + 1 + 1 + 1) (.string nm) x o0 o1 ((((w.alloc (.cells #[.pointer (some ⟨tb, 0, none⟩)] 211)).alloc (.cells #[.pointer (some ⟨12, 211, none⟩), .pointer (some ⟨w.heap.size, 0, none⟩), .int .u64 150] 234)).alloc (.cells #[.pointer (some ⟨12, 211, none⟩), .pointer (some ⟨w.heap.size, 0, none⟩), .int .u64 150] 234)).alloc (.cells #[.string nm, x] 133)) rfl hx
    (by rw [World.cell?_alloc_at _ _ _ _ (by simp)]; rfl)
    (by rw [World.cell?_alloc_at _ _ _ _ (by simp)]; rfl)
    (by rw [World.cell?_alloc_lt _ _ _ (by simp; omega), World.cell?_alloc_lt _ _ _ (by simp; omega), World.cell?_alloc_lt _ _ _ (by simp; omega), World.cell?_alloc_lt _ _ _ htb]; exact h0)
    (by rw [World.cell?_alloc_lt _ _ _ (by simp; omega), World.cell?_alloc_lt _ _ _ (by simp; omega), World.cell?_alloc_lt _ _ _ (by simp; omega), World.cell?_alloc_lt _ _ _ htb]; exact h1)
    (by rw [World.frozen?_alloc_old _ _ _ (by simp; omega), World.frozen?_alloc_old _ _ _ (by simp; omega), World.frozen?_alloc_old _ _ _ (by simp; omega), World.frozen?_alloc_old _ _ _ (Nat.ne_of_lt htb)]; exact f0)
    (by rw [World.frozen?_alloc_old _ _ _ (by simp; omega), World.frozen?_alloc_old _ _ _ (by simp; omega), World.frozen?_alloc_old _ _ _ (by simp; omega), World.frozen?_alloc_old _ _ _ (Nat.ne_of_lt htb)]; exact f1)
  go_enter Tryz.func160, Tryz.ntmps160
  go_wp2
  refine wp_loop_rounds 1 ?_
  rw [rounds_succ]
  go_wp2
  go_ret
  exact ⟨rfl, (((((Keep.refl tb w).alloc _).alloc _).alloc _).alloc _ |>.setCell (.inl rfl) _).setCell (.inl rfl) _⟩
end Go.Proofs.YtjiaciikbnpicaaGreatDoor
