/-
  A part of the proof: ErrVar, ErrIs, ErrAs, ConcatI, Sh1.
-/
import Derived.Test.YtjjkdbmjloolaaaGreatDoorPart20
import Derived.WalkKit
import Derived.LaidEql
import Derived.Stop.Asserts
import Derived.RowKitTokens
import Derived.Test.YtjjkdbmjloolaaaGreatDoorPart1
import Derived.Test.YtjjkdbmjloolaaaGreatDoorPart3
import Derived.Maps.OwnSet
import Derived.Sort.KeysCollected

namespace Go.Proofs.YtjjkdbmjloolaaaGreatDoor
open Go.ChangeShapes Go.WideShapes Go.ChangeAt Go.RowKit
structure Sen where
 e1 : Addr
 e2 : Addr
 e3 : Addr
 e4 : Addr
 e5 : Addr
def Blk (w : World) (a : Addr) : Prop := ∃ c t, w.heap[a.block]? = some (.cells c t (0, 0))
theorem Blk.below {w w' : World} {a : Addr} (h : Blk w a) (hb : Below w.heap.size w w') : Blk w' a := by
 obtain ⟨c, t, h⟩ := h
 have hl : a.block < w.heap.size := by
  by_cases hl : a.block < w.heap.size
  · exact hl
  · rw [Array.getElem?_eq_none (by omega)] at h; cases h
 exact ⟨c, t, by rw [hb.block _ hl]; exact h⟩
structure SenAt (w : World) (A : Sen) : Prop where
 lt : 4 < w.heap.size ∧ 1 < w.heap.size ∧ 3 < w.heap.size ∧ 2 < w.heap.size ∧ 0 < w.heap.size ∧ 5 < w.heap.size
 v1 : w.cell? ⟨4, 0, none⟩ = some (.iface 292 (.pointer (some A.e1)))
 v2 : w.cell? ⟨1, 0, none⟩ = some (.iface 292 (.pointer (some A.e2)))
 v3 : w.cell? ⟨3, 0, none⟩ = some (.iface 292 (.pointer (some A.e3)))
 v4 : w.cell? ⟨2, 0, none⟩ = some (.iface 292 (.pointer (some A.e4)))
 v5 : w.cell? ⟨0, 0, none⟩ = some (.iface 292 (.pointer (some A.e5)))
 b1 : Blk w A.e1
 b2 : Blk w A.e2
 b3 : Blk w A.e3
 b4 : Blk w A.e4
 b5 : Blk w A.e5
 n12 : A.e1 ≠ A.e2
 n13 : A.e1 ≠ A.e3
 n14 : A.e1 ≠ A.e4
 n15 : A.e1 ≠ A.e5
 n23 : A.e2 ≠ A.e3
 n24 : A.e2 ≠ A.e4
 n25 : A.e2 ≠ A.e5
 n34 : A.e3 ≠ A.e4
 n35 : A.e3 ≠ A.e5
 n45 : A.e4 ≠ A.e5
 et : w.cell? ⟨5, 0, none⟩ = some (.iface 234 (.agg #[.pointer (some ⟨12, 84, none⟩)]))
 pow : PowAt w
 err : ErrAt w
theorem SenAt.below {w w' : World} {A : Sen} (h : SenAt w A) (hb : Below w.heap.size w w') : SenAt w' A := by
 obtain ⟨l1, l2, l3, l4, l5, l6⟩ := h.lt
 have hs := hb.size
 exact ⟨⟨by omega, by omega, by omega, by omega, by omega, by omega⟩,
  by rw [hb.cell (p := ⟨_, _, none⟩) l1]; exact h.v1, by rw [hb.cell (p := ⟨_, _, none⟩) l2]; exact h.v2, by rw [hb.cell (p := ⟨_, _, none⟩) l3]; exact h.v3,
  by rw [hb.cell (p := ⟨_, _, none⟩) l4]; exact h.v4, by rw [hb.cell (p := ⟨_, _, none⟩) l5]; exact h.v5,
  h.b1.below hb, h.b2.below hb, h.b3.below hb, h.b4.below hb, h.b5.below hb, h.n12, h.n13, h.n14, h.n15, h.n23, h.n24, h.n25, h.n34, h.n35, h.n45,
  by rw [hb.cell (p := ⟨_, _, none⟩) l6]; exact h.et, h.pow.below hb, h.err.below hb⟩
def ErrV (A : Sen) (k : Int) (v : Value) : Prop :=
 (k = 0 ∧ v = .nilIface) ∨ (k = 1 ∧ ∃ nm, v = .iface 159 (.agg #[.string nm, .iface 292 (.pointer (some A.e1))])) ∨ (k = 2 ∧ v = .iface 292 (.pointer (some A.e2))) ∨
 (k = 3 ∧ ∃ nm, v = .iface 159 (.agg #[.string nm, .iface 292 (.pointer (some A.e3))])) ∨ (k = 4 ∧ v = .iface 292 (.pointer (some A.e4))) ∨ (k = 5 ∧ v = .iface 292 (.pointer (some A.e5)))
theorem errV_0 {A : Sen} : ErrV A 0 .nilIface := .inl ⟨rfl, rfl⟩
theorem errV_1 {A : Sen} (nm : ByteArray) : ErrV A 1 (.iface 159 (.agg #[.string nm, .iface 292 (.pointer (some A.e1))])) := .inr (.inl ⟨rfl, nm, rfl⟩)
theorem errV_2 {A : Sen} : ErrV A 2 (.iface 292 (.pointer (some A.e2))) := .inr (.inr (.inl ⟨rfl, rfl⟩))
theorem errV_3 {A : Sen} (nm : ByteArray) : ErrV A 3 (.iface 159 (.agg #[.string nm, .iface 292 (.pointer (some A.e3))])) := .inr (.inr (.inr (.inl ⟨rfl, nm, rfl⟩)))
theorem errV_4 {A : Sen} : ErrV A 4 (.iface 292 (.pointer (some A.e4))) := .inr (.inr (.inr (.inr (.inl ⟨rfl, rfl⟩))))
theorem errV_5 {A : Sen} : ErrV A 5 (.iface 292 (.pointer (some A.e5))) := .inr (.inr (.inr (.inr (.inr ⟨rfl, rfl⟩))))
theorem ErrV.shape {A : Sen} {k : Int} {v : Value} (h : ErrV A k v) : (k = 0 ∧ v = .nilIface) ∨ (k ≠ 0 ∧ ∃ t x, v = .iface t x) := by
 rcases h with ⟨rfl, rfl⟩ | ⟨rfl, nm, rfl⟩ | ⟨rfl, rfl⟩ | ⟨rfl, nm, rfl⟩ | ⟨rfl, rfl⟩ | ⟨rfl, rfl⟩
 · exact .inl ⟨rfl, rfl⟩
 all_goals exact .inr ⟨by decide, _, _, rfl⟩
end Go.Proofs.YtjjkdbmjloolaaaGreatDoor
namespace Go.Proofs.YtjjkdbmjloolaaaGreatDoor
open Go.ChangeShapes Go.WideShapes Go.ChangeAt Go.RowKit Go.Extern.Stop Go.Stop Go.Extern
attribute [local simp] World.cell?_alloc_past World.cell?_alloc_at World.frozen?_alloc_at World.frozen?_alloc_past
end Go.Proofs.YtjjkdbmjloolaaaGreatDoor
namespace Go.Proofs.YtjjkdbmjloolaaaGreatDoor
open Go.ChangeShapes Go.WideShapes Go.ChangeAt Go.RowKit Go.Extern.Stop Go.Stop Go.Extern
theorem as_nil (t : Value) (w : World) :
  Calls Tryz.prog 129 #[.nilIface, t] w fun e w' => e = .returned (.bool false) ∧ w' = w := by
 go_enter Tryz.func129, Tryz.ntmps129
 go_wp2
 go_ret
 exact ⟨rfl, rfl⟩
theorem asValueP (t : Addr) (w : World) : (ReflectliteValue.unpack (.iface 180 (.pointer (some t)))).run Tryz.prog w
  = .ok (.agg #[.pointer (some ⟨12, 180, none⟩), .pointer (some ⟨w.heap.size, 0, none⟩), .int .u64 150]) (w.alloc (.cells #[.pointer (some t)] 180)) := by kernel_rfl
theorem asTypeP (a : Addr) (w : World) : (ReflectliteValue.methodAny (ReflectliteValue.valueError "reflectlite.Value.Type" 0) (fun t _ _ _ => ReflectliteType.toType t) #[.agg #[.pointer (some ⟨12, 180, none⟩), .pointer (some a), .int .u64 150]]).run Tryz.prog w
  = .ok (.iface 234 (.agg #[.pointer (some ⟨12, 180, none⟩)])) w := by kernel_rfl
theorem asMethodKind (h : Value) (w : World) : (Go.method 431 234 (.agg #[h]) "Kind").run Tryz.prog w = .ok (237, h) w := by kernel_rfl
theorem asKindP (w : World) : ((ReflectliteType.abiMethod fun t => (fun a : Nat => Value.int IntKind.u8 (a : Int)) <$> Rtype.kind t) #[.pointer (some ⟨12, 180, none⟩)]).run Tryz.prog w = .ok (.int .u8 22) w := by kernel_rfl
theorem asKindN (w : World) : ((ReflectliteType.abiMethod fun t => (fun a : Nat => Value.int IntKind.u8 (a : Int)) <$> Rtype.kind t) #[.pointer (some ⟨12, 159, none⟩)]).run Tryz.prog w = .ok (.int .u8 25) w := by kernel_rfl
theorem rlm (z : Sem Value) (f : TypeId → Addr → Nat → Nat → Sem Value) (v : Value) :
  ReflectliteValue.method z f #[v] = (do match ← ReflectliteValue.parts v with | none => z | some (t, a, fl) => f t a fl (fl % 32)) := rfl
theorem asPartsP (a : Addr) (w : World) : (ReflectliteValue.parts (.agg #[.pointer (some ⟨12, 180, none⟩), .pointer (some a), .int .u64 150])).run Tryz.prog w = .ok (some (180, a, 150)) w := by kernel_rfl
theorem asIsNilP (a p : Addr) (W : World) (ha : W.cell? a = some (.pointer (some p))) :
  (ReflectliteValue.method (ReflectliteValue.valueError "reflectlite.Value.IsNil" 0) ReflectliteValue.isNil #[.agg #[.pointer (some ⟨12, 180, none⟩), .pointer (some a), .int .u64 150]]).run Tryz.prog W = .ok (.bool false) W := by
 rw [rlm]
 simp only [Sem.run_bind, asPartsP, Result.andThen]
 simp [ReflectliteValue.isNil, loadVar, isAgg, underlying, Tryz.underlying180, ha, Result.andThen]
theorem asMethodElem (h : Value) (w : World) : (Go.method 431 234 (.agg #[h]) "Elem").run Tryz.prog w = .ok (249, .agg #[h]) w := by kernel_rfl
theorem asMethodImplements (h : Value) (w : World) : (Go.method 431 234 (.agg #[h]) "Implements").run Tryz.prog w = .ok (250, .agg #[h]) w := by kernel_rfl
theorem asMethodAssignableTo (h : Value) (w : World) : (Go.method 431 234 (.agg #[h]) "AssignableTo").run Tryz.prog w = .ok (247, .agg #[h]) w := by kernel_rfl
theorem asElemP (w : World) : (ReflectliteType.method ReflectliteType.elem #[.agg #[.pointer (some ⟨12, 180, none⟩)]]).run Tryz.prog w = .ok (.iface 234 (.agg #[.pointer (some ⟨12, 159, none⟩)])) w := by kernel_rfl
theorem asImplementsN (w : World) : (ReflectliteType.relation "Implements" ReflectliteType.implements_ #[.agg #[.pointer (some ⟨12, 159, none⟩)], .iface 234 (.agg #[.pointer (some ⟨12, 84, none⟩)])]).run Tryz.prog w = .ok (.bool true) w := by kernel_rfl
theorem asTypeOfN (v : Value) (w : World) : (ReflectliteType.typeOf #[.iface 159 v]).run Tryz.prog w = .ok (.iface 234 (.agg #[.pointer (some ⟨12, 159, none⟩)])) w := by kernel_rfl
theorem asAssignableN (w : World) : (ReflectliteType.relation "AssignableTo" ReflectliteType.assignableTo #[.agg #[.pointer (some ⟨12, 159, none⟩)], .iface 234 (.agg #[.pointer (some ⟨12, 159, none⟩)])]).run Tryz.prog w = .ok (.bool true) w := by kernel_rfl
theorem asValueN (x y : Value) (w : World) : (ReflectliteValue.unpack (.iface 159 (.agg #[x, y]))).run Tryz.prog w
  = .ok (.agg #[.pointer (some ⟨12, 159, none⟩), .pointer (some ⟨w.heap.size, 0, none⟩), .int .u64 153]) (w.alloc (.cells #[x, y] 159)) := by kernel_rfl
theorem asElemOfP (w : World) : (Rtype.elem? 180).run Tryz.prog w = .ok (some 159) w := by kernel_rfl
theorem asMkN (p : Addr) (w : World) : (ReflectliteValue.mk 159 p ReflectliteValue.flagAddr).run Tryz.prog w = .ok (.agg #[.pointer (some ⟨12, 159, none⟩), .pointer (some p), .int .u64 409]) w := by kernel_rfl
theorem asElemVP (a p : Addr) (W : World) (ha : W.cell? a = some (.pointer (some p))) :
  (ReflectliteValue.method (ReflectliteValue.valueError "reflectlite.Value.Elem" 0) ReflectliteValue.elem #[.agg #[.pointer (some ⟨12, 180, none⟩), .pointer (some a), .int .u64 150]]).run Tryz.prog W
   = .ok (.agg #[.pointer (some ⟨12, 159, none⟩), .pointer (some p), .int .u64 409]) W := by
 rw [rlm]
 simp only [Sem.run_bind, asPartsP, Result.andThen]
 simp [ReflectliteValue.elem, loadVar, isAgg, underlying, Tryz.underlying180, ha, Result.andThen, asElemOfP, asMkN]
theorem rls (v x : Value) : ReflectliteValue.set #[v, x] = (do
  let (some (dst, a, fl), some (src, b, _)) := (← ReflectliteValue.parts v, ← ReflectliteValue.parts x)
   | unsupported (.noEntry "extern/(internal/reflectlite.Value).Set.zeroValue")
  if fl / ReflectliteValue.flagAddr % 2 == 0 then unsupported (.noEntry "extern/(internal/reflectlite.Value).Set.unaddressable")
  let val ← loadVar src b
  if ← Rtype.directlyAssignable dst src then storeVar dst a val
  else if ← Rtype.implements dst src then
   if (← Rtype.kind src) == 20 then
    match val with
    | .nilIface => unsupported (.noEntry "extern/reflectlite: a nil value of one interface type handed on as a value of another")
    | _ => storeVar dst a val
   else storeVar dst a (.iface src val)
  else panicString ("reflectlite.Set: value of type " ++ (← Rtype.spelt src) ++ " is not assignable to type " ++ (← Rtype.spelt dst))
  pure (.tuple #[])) := rfl
theorem asPartsA (a : Addr) (w : World) : (ReflectliteValue.parts (.agg #[.pointer (some ⟨12, 159, none⟩), .pointer (some a), .int .u64 409])).run Tryz.prog w = .ok (some (159, a, 409)) w := by kernel_rfl
theorem asPartsN (a : Addr) (w : World) : (ReflectliteValue.parts (.agg #[.pointer (some ⟨12, 159, none⟩), .pointer (some a), .int .u64 153])).run Tryz.prog w = .ok (some (159, a, 153)) w := by kernel_rfl
theorem asDirectN (w : World) : (Rtype.directlyAssignable 159 159).run Tryz.prog w = .ok true w := by kernel_rfl
theorem asLoad (B : Nat) (x y : Value) (W : World) (h0 : W.cell? ⟨B, 0, none⟩ = some x) (h1 : W.cell? ⟨B, 1, none⟩ = some y) : (loadVar 159 ⟨B, 0, none⟩).run Tryz.prog W = .ok (.agg #[x, y]) W := by
 simp [loadVar, loadCells, loadCellsFrom, Addr.add, h0, h1, Result.andThen]
theorem asStore (tb : Nat) (x y o0 o1 : Value) (W : World) (hx : x.oneCell' = true) (hy : y.oneCell' = true) (h0 : W.cell? ⟨tb, 0, none⟩ = some o0) (h1 : W.cell? ⟨tb, 1, none⟩ = some o1) (f0 : W.frozen? ⟨tb, 0, none⟩ = false) (f1 : W.frozen? ⟨tb, 1, none⟩ = false) :
  (storeVar 159 ⟨tb, 0, none⟩ (.agg #[x, y])).run Tryz.prog W = .ok () ((W.setCell ⟨tb, 0, none⟩ x).setCell ⟨tb, 1, none⟩ y) := by
 have g1 : (W.setCell ⟨tb, 0, none⟩ x).cell? ⟨tb, 1, none⟩ = some o1 := by rw [cell_off _ _ _ _ _ (by decide)]; exact h1
 have g2 : (W.setCell ⟨tb, 0, none⟩ x).frozen? ⟨tb, 1, none⟩ = false := by simpa using f1
 have s0 : (store ⟨tb, 0, none⟩ x).run Tryz.prog W = .ok () (W.setCell ⟨tb, 0, none⟩ x) := by
  rw [run_store Tryz.prog W ⟨tb, 0, none⟩ _ _ hx]
  simp [h0, f0]
 have s1 : (store ⟨tb, 1, none⟩ y).run Tryz.prog (W.setCell ⟨tb, 0, none⟩ x) = .ok () ((W.setCell ⟨tb, 0, none⟩ x).setCell ⟨tb, 1, none⟩ y) := by
  rw [run_store Tryz.prog _ ⟨tb, 1, none⟩ _ _ hy]
  simp [g1, g2]
 simp [storeVar, Value.cells, storeCells, Addr.add, Result.andThen, s0, s1]
theorem asSet (tb B : Nat) (x y o0 o1 : Value) (W : World) (hx : x.oneCell' = true) (hy : y.oneCell' = true) (hb0 : W.cell? ⟨B, 0, none⟩ = some x) (hb1 : W.cell? ⟨B, 1, none⟩ = some y) (h0 : W.cell? ⟨tb, 0, none⟩ = some o0) (h1 : W.cell? ⟨tb, 1, none⟩ = some o1) (f0 : W.frozen? ⟨tb, 0, none⟩ = false) (f1 : W.frozen? ⟨tb, 1, none⟩ = false) :
  (ReflectliteValue.set #[.agg #[.pointer (some ⟨12, 159, none⟩), .pointer (some ⟨tb, 0, none⟩), .int .u64 409], .agg #[.pointer (some ⟨12, 159, none⟩), .pointer (some ⟨B, 0, none⟩), .int .u64 153]]).run Tryz.prog W
   = .ok (.tuple #[]) ((W.setCell ⟨tb, 0, none⟩ x).setCell ⟨tb, 1, none⟩ y) := by
 rw [rls]
 simp only [Sem.run_bind, asPartsA, asPartsN, Result.andThen]
 simp [ReflectliteValue.flagAddr, asLoad B x y W hb0 hb1, Result.andThen, asDirectN, asStore tb x y o0 o1 W hx hy h0 h1 f0 f1]
set_option maxHeartbeats 4000000 in
theorem as_hit (nm : ByteArray) (x o0 o1 : Value) (tb : Nat) (w : World) (A : Sen) (hS : SenAt w A) (hx : x.oneCell' = true) (h0 : w.cell? ⟨tb, 0, none⟩ = some o0) (h1 : w.cell? ⟨tb, 1, none⟩ = some o1) (f0 : w.frozen? ⟨tb, 0, none⟩ = false) (f1 : w.frozen? ⟨tb, 1, none⟩ = false) (htb : tb < w.heap.size) :
  Calls Tryz.prog 129 #[.iface 159 (.agg #[.string nm, x]), .iface 180 (.pointer (some ⟨tb, 0, none⟩))] w fun ev w' => ev = .returned (.bool true) ∧ Keep tb w w' := by
 have hg := hS.et
 have hlt := hS.lt.2.2.2.2.2
 clear hS
 have h6 := @run_callFunc_extern Tryz.prog 152 _ (fun args => ReflectliteValue.unpack (args.getD 0 (.tuple #[]))) Tryz.func152 (by kernel_rfl) (by kernel_rfl) (by kernel_rfl) (by kernel_rfl)
 have h7 := @run_callFunc_extern Tryz.prog 153 _ (ReflectliteValue.methodAny (ReflectliteValue.valueError "reflectlite.Value.Type" 0) (fun t _ _ _ => ReflectliteType.toType t)) Tryz.func153 (by kernel_rfl) (by kernel_rfl) (by kernel_rfl) (by kernel_rfl)
 have h8 := @run_callFunc_extern Tryz.prog 154 _ (ReflectliteValue.method (ReflectliteValue.valueError "reflectlite.Value.IsNil" 0) ReflectliteValue.isNil) Tryz.func154 (by kernel_rfl) (by kernel_rfl) (by kernel_rfl) (by kernel_rfl)
 have h27 := @run_callFunc_extern Tryz.prog 237 _ (ReflectliteType.abiMethod fun t => do pure (.int .u8 (← Rtype.kind t))) Tryz.func237 (by kernel_rfl) (by kernel_rfl) (by kernel_rfl) (by kernel_rfl)
 have h37 := @run_callFunc_extern Tryz.prog 249 _ (ReflectliteType.method ReflectliteType.elem) Tryz.func249 (by kernel_rfl) (by kernel_rfl) (by kernel_rfl) (by kernel_rfl)
 have h38 := @run_callFunc_extern Tryz.prog 250 _ (ReflectliteType.relation "Implements" ReflectliteType.implements_) Tryz.func250 (by kernel_rfl) (by kernel_rfl) (by kernel_rfl) (by kernel_rfl)
 have h10 := @run_callFunc_extern Tryz.prog 168 _ ReflectliteType.typeOf Tryz.func168 (by kernel_rfl) (by kernel_rfl) (by kernel_rfl) (by kernel_rfl)
 have h35 := @run_callFunc_extern Tryz.prog 247 _ (ReflectliteType.relation "AssignableTo" ReflectliteType.assignableTo) Tryz.func247 (by kernel_rfl) (by kernel_rfl) (by kernel_rfl) (by kernel_rfl)
 have h11 := @run_callFunc_extern Tryz.prog 169 _ (ReflectliteValue.method (ReflectliteValue.valueError "reflectlite.Value.Elem" 0) ReflectliteValue.elem) Tryz.func169 (by kernel_rfl) (by kernel_rfl) (by kernel_rfl) (by kernel_rfl)
 have h12 := @run_callFunc_extern Tryz.prog 170 _ ReflectliteValue.set Tryz.func170 (by kernel_rfl) (by kernel_rfl) (by kernel_rfl) (by kernel_rfl)
 have tO := asTypeOfN
 have mA := asMethodAssignableTo
 have a25 := asAssignableN
 have v25 := asValueN
 have f6 := asValueP
 have f7 := asTypeP
 have mK := asMethodKind
 have mE := asMethodElem
 have mI := asMethodImplements
 have k27 := asKindP
 have k25 := asKindN
 have e27 := asElemP
 have i25 := asImplementsN
 have n8 := asIsNilP ⟨w.heap.size, 0, none⟩ ⟨tb, 0, none⟩ ((w.alloc (.cells #[.pointer (some ⟨tb, 0, none⟩)] 180)).alloc (.cells #[.pointer (some ⟨12, 180, none⟩), .pointer (some ⟨w.heap.size, 0, none⟩), .int .u64 150] 210)) (by simp)
 have hg2 : ((w.alloc (.cells #[.pointer (some ⟨tb, 0, none⟩)] 180)).alloc (.cells #[.pointer (some ⟨12, 180, none⟩), .pointer (some ⟨w.heap.size, 0, none⟩), .int .u64 150] 210)).cell? ⟨5, 0, none⟩ = some (.iface 234 (.agg #[.pointer (some ⟨12, 84, none⟩)])) := by
  rw [World.cell?_alloc_lt _ _ ⟨5, 0, none⟩ (by simp; omega), World.cell?_alloc_lt _ _ ⟨5, 0, none⟩ hlt]; exact hg
 have el := asElemVP ⟨w.heap.size, 0, none⟩ ⟨tb, 0, none⟩ (((w.alloc (.cells #[.pointer (some ⟨tb, 0, none⟩)] 180)).alloc (.cells #[.pointer (some ⟨12, 180, none⟩), .pointer (some ⟨w.heap.size, 0, none⟩), .int .u64 150] 210)).alloc (.cells #[.pointer (some ⟨12, 180, none⟩), .pointer (some ⟨w.heap.size, 0, none⟩), .int .u64 150] 210)) (by rw [World.cell?_alloc_lt _ _ ⟨w.heap.size, 0, none⟩ (by simp; omega)]; simp)
 have st := asSet tb (w.heap.size + 1 + 1 + 1) (.string nm) x o0 o1 ((((w.alloc (.cells #[.pointer (some ⟨tb, 0, none⟩)] 180)).alloc (.cells #[.pointer (some ⟨12, 180, none⟩), .pointer (some ⟨w.heap.size, 0, none⟩), .int .u64 150] 210)).alloc (.cells #[.pointer (some ⟨12, 180, none⟩), .pointer (some ⟨w.heap.size, 0, none⟩), .int .u64 150] 210)).alloc (.cells #[.string nm, x] 159)) rfl hx
  (by rw [World.cell?_alloc_at _ _ _ _ (by simp)]; rfl)
  (by rw [World.cell?_alloc_at _ _ _ _ (by simp)]; rfl)
  (by rw [World.cell?_alloc_lt _ _ _ (by simp; omega), World.cell?_alloc_lt _ _ _ (by simp; omega), World.cell?_alloc_lt _ _ _ (by simp; omega), World.cell?_alloc_lt _ _ _ htb]; exact h0)
  (by rw [World.cell?_alloc_lt _ _ _ (by simp; omega), World.cell?_alloc_lt _ _ _ (by simp; omega), World.cell?_alloc_lt _ _ _ (by simp; omega), World.cell?_alloc_lt _ _ _ htb]; exact h1)
  (by rw [World.frozen?_alloc_old _ _ _ (by simp; omega), World.frozen?_alloc_old _ _ _ (by simp; omega), World.frozen?_alloc_old _ _ _ (by simp; omega), World.frozen?_alloc_old _ _ _ (Nat.ne_of_lt htb)]; exact f0)
  (by rw [World.frozen?_alloc_old _ _ _ (by simp; omega), World.frozen?_alloc_old _ _ _ (by simp; omega), World.frozen?_alloc_old _ _ _ (by simp; omega), World.frozen?_alloc_old _ _ _ (Nat.ne_of_lt htb)]; exact f1)
 go_enter Tryz.func129, Tryz.ntmps129
 go_wp2
 refine wp_loop_rounds 1 ?_
 rw [rounds_succ]
 go_wp2
 go_ret
 exact ⟨rfl, (((((Keep.refl tb w).alloc _).alloc _).alloc _).alloc _ |>.setCell (.inl rfl) _).setCell (.inl rfl) _⟩
end Go.Proofs.YtjjkdbmjloolaaaGreatDoor
namespace Go.Proofs.YtjjkdbmjloolaaaGreatDoor
open Go.ChangeShapes Go.WideShapes Go.ChangeAt Go.RowKit
attribute [local go_sem ↓] Go.wp_at_zero Go.wp_at_succ
theorem wpList_app {P : Program} {w : World} {ops : Array Oper} {rest : List Oper} {o : Oper} {a : Act} {Q : Exit → Act → World → Prop} (hgd : o.guard = none) (s x : Operand) (t u : TypeId)
  (ho : o.op = .call { callee := .builtin .append, args := #[s, x], argTypes := #[t, u] }) (vs vx : Value) (hs : a.eval s = vs) (hx : a.eval x = vx) (v' : Value) (w' : World)
  (hr : (Builtin.append_ #[t, u] o.type #[vs, vx]).run P w = .ok v' w') (h : wpList P ops Q rest (a.put o.dst v') w') : wpList P ops Q (o :: rest) a w := by
 refine wpList_plain hgd fun K hK => ?_
 unfold Oper.wp execOp
 simp only [ho, resolve, invoke, builtin, Sem.run_bind, Sem.run_pure, Result.andThen_ok, List.map_toArray, List.map_cons, List.map_nil, hs, hx, hr]
 exact hK _ _ h
theorem run_append_make {P : Program} (w : World) (t u ty e : TypeId) (k : IntKind) (i : TypeInfo) (z : Value) (ht : P.underlying t = some (.slice e)) (hu : P.underlying u = some (.int k)) (hi : P.info? e = some i) (hz : i.zero = some z) (hz1 : i.size = 1) (hz2 : i.bytes = 16)
  (n : Nat) (h0 : 0 < n) (hn : n ≤ 1048576) :
  (Builtin.append_ #[t, u] ty #[.slice none 0 0, .int .i64 n]).run P w = .ok (.slice (some ⟨w.heap.size, 0, none⟩) n (grownCap w n 0 e)) (w.drew.alloc (.cells (Builtin.zeroCells z.cells n ++ Builtin.zeroCells z.cells (grownCap w n 0 e - n)) e)) := by
 have hn0 : n ≠ 0 := by omega
 have h63' : ¬ (9223372036854775807 < (n : Int)) := by omega
 have h48' : ¬ (281474976710656 < Builtin.nextslicecap n 0 * 16) := by rw [nextslicecap_zero h0]; omega
 have hw : IntKind.i64.wrap (n : Int) = (n : Int) := IntWalk.i64_in _ ⟨by omega, by omega⟩
 have hneg : ¬ ((n : Int) < 0) := by omega
 have h48 : ¬ (281474976710656 < (n : Int) * 16) := by omega
 have hmx : max (n : Int) 0 = (n : Int) := by omega
 simp [Builtin.append_, run_underlying ht, run_underlying hu, sizeOf, typeInfo, zeroValue, hi, hz, hz1, hz2, hw, hneg, h48, asInt, asIntOf, hmx, hn0, h63', h48', Question.forced, run_firstCells_none, newRow, grownCap]
theorem strV_cellsC {w : World} {ad : Addr} {l : List ByteArray} (h : StrsAt w (some ad) l) : ∀ j v, (strV l)[j]? = some v → w.cell? (ad.add j) = some v := by
 intro j v hj
 have hl : j < l.length := by
  by_cases hl : j < l.length
  · exact hl
  · rw [List.getElem?_eq_none (by rw [strV_length]; omega)] at hj; cases hj
 obtain ⟨b, o, e, _, hc⟩ := h j hl
 cases e
 have : v = .string l[j] := by
  simp [strV, hl] at hj
  exact hj.symm
 subst this
 have hadd : (⟨b, o, none⟩ : Addr).add j = ⟨b, o + j, none⟩ := by simp [Addr.add]
 rw [hadd]; exact hc
theorem infoStrC : (Tryz.prog.info? 9).map (fun i => (i.zero, i.size, i.bytes)) = some (some (.string ⟨#[]⟩), 1, 16) := by kernel_rfl
theorem run_append_strs (w : World) (ty : TypeId) (base : Nat) (v : Value) (n : Nat) (xs : List ByteArray) (hown : w.ownsRow base 9 1 v n (strV xs)) (a : Option Addr) (m c : Nat) (l : List ByteArray) (hl : l.length = m) (hs : StrsAt w a l) (hnil : a = none → c = 0) (hm : n + m ≤ 1048576) (hbase : base ≤ w.heap.size) :
  ∃ v' w', (Builtin.append_ #[22, 22] ty #[v, .slice a m c]).run Tryz.prog w = .ok v' w' ∧ w'.ownsRow base 9 1 v' (n + m) (strV (xs ++ l)) ∧ w.grownBy w' v.ownBlock ∧ (v' = .slice none 0 0 ↔ v = .slice none 0 0 ∧ m = 0) := by
 obtain ⟨i0, hi, hz0, hz1, hz2⟩ := info_parts infoStrC
 cases a with
 | none =>
  have hl0 : l = [] := by
   cases l with
   | nil => rfl
   | cons x r =>
    obtain ⟨b, o, e, _⟩ := hs 0 (by simp)
    cases e
  subst hl0
  obtain rfl : m = 0 := by simpa using hl.symm
  obtain rfl := hnil rfl
  refine ⟨v, w, run_append_owned_none (P := Tryz.prog) (w := w) base 22 ty 9 i0 1 Tryz.underlying22 hi v n (strV xs) hown, by simpa using hown, ⟨rfl, rfl, rfl, Nat.le_refl _, fun _ _ _ => rfl⟩, by simp⟩
 | some ad =>
  have := run_append_own (P := Tryz.prog) w base 22 ty 9 i0 (.string ⟨#[]⟩) 1 16 Tryz.underlying22 hi hz0 hz1 hz2 rfl (by decide) v n (strV xs) hown ad m c (strV l) (by rw [strV_length]; omega) (strV_cellsC hs) (fun u hu => by
   obtain ⟨b, _, rfl⟩ := List.mem_map.1 hu
   rfl) (by unfold maxLen; omega) (by omega) hbase
  simpa [strV, List.map_append] using this
set_option maxRecDepth 100000 in
set_option maxHeartbeats 4000000 in
theorem grow_impl (k : Int) (n : Nat) (hk : k = (n : Int)) (h0 : 0 < n) (hm : n ≤ 1048576) (w : World) :
  Calls Tryz.prog 130 #[.slice none 0 0, .int .i64 k] w fun e w' => ∃ c, e = .returned (.slice (some ⟨w.heap.size, 0, none⟩) 0 c) ∧ w'.ownsRow w.heap.size 9 1 (.slice (some ⟨w.heap.size, 0, none⟩) 0 c) 0 (strV []) ∧ Below w.heap.size w w' := by
 subst hk
 obtain ⟨i0, hi, hz0, hz1, hz2⟩ := info_parts infoStrC
 have hr := run_append_make (P := Tryz.prog) w 22 3 22 9 .i64 i0 (.string ⟨#[]⟩) Tryz.underlying22 Tryz.underlying3 hi hz0 hz1 hz2 n h0 hm
 have hge := grownCap_ge w n 0 9
 have hle := grownCap_le_maxLen w n 0 9 (by unfold maxLen; omega)
 generalize grownCap w n 0 9 = c at hr hge hle
 have HR : Hid _ := hr
 have HC := hid hle
 clear hr hle hi hz0 hz1 hz2
 go_enter Tryz.func130, Tryz.ntmps130
 go_wp2_with (at_builtin; refine wpList_app rfl _ _ 22 3 rfl _ _ rfl rfl _ _ HR.out ?_)
 go_ret
 refine ⟨c, rfl, ⟨rfl, .inr ⟨w.heap.size, c, _, rfl, Nat.le_refl _, heap_alloc_new w.drew _, Nat.zero_le _, HC.out, ?_, rfl⟩⟩, ((Below.refl _ _).drew).alloc (by simp) _⟩
 simp [Builtin.zeroCells]
 omega
set_option maxRecDepth 100000 in
set_option maxHeartbeats 4000000 in
theorem concat_impl (B cb : Nat) (a : Option Addr) (n c : Nat) (la : List ByteArray) (b : Option Addr) (m d : Nat) (lb : List ByteArray) (hn : la.length = n) (hm : lb.length = m) (w : World) (hB : B < w.heap.size) (h0 : w.cell? ⟨B, 0, none⟩ = some (.slice a n c)) (h1 : w.cell? ⟨B, 1, none⟩ = some (.slice b m d)) (ha : StrsAt w a la) (hb : StrsAt w b lb) (hna : a = none → c = 0) (hnb : b = none → d = 0) (hpos : 0 < n + m) (hmax : n + m ≤ 1048576) :
  Calls Tryz.prog 107 #[.slice (some ⟨B, 0, none⟩) 2 cb] w fun e w' => ∃ g k, e = .returned (.slice (some ⟨g, 0, none⟩) (n + m) k) ∧ n + m ≤ k ∧ w'.ownsRow w.heap.size 9 1 (.slice (some ⟨g, 0, none⟩) (n + m) k) (n + m) (strV (la ++ lb)) ∧ Below w.heap.size w w' := by
 have HA := hid ha
 have HB := hid hb
 have HN := hid hn
 have HM := hid hm
 clear ha hb hn hm
 go_enter Tryz.func107, Tryz.ntmps107
 go_wp2
 refine wp_loop_rounds 3 ?_
 rw [rounds_succ]
 go_wp2
 rw [rounds_succ]
 go_wp2
 rw [rounds_succ]
 go_wp2_with fail
 refine (grow_impl _ (n + m) (by push_cast; omega) hpos hmax w).mono ?_
 rintro e w1 ⟨k, rfl, own1, hb1⟩
 obtain ⟨v2, w2, hr2, own2, hg2, hn2⟩ := run_append_strs w1 22 w.heap.size _ 0 [] own1 a n c la HN.out (HA.out.below hb1) hna (by omega) hb1.size
 have hb2 : Below w.heap.size w w2 := hb1.grown hg2 hb1.size (by intro k hk; simp [Value.ownBlock] at hk; omega)
 obtain ⟨g2, c2, rfl⟩ : ∃ g c, v2 = .slice (some ⟨g, 0, none⟩) (0 + n) c := by
  rcases own2.2 with ⟨e', _⟩ | ⟨g, cap, cur, e', _⟩
  · exact absurd ((hn2.1 e').1) (by simp)
  · exact ⟨g, cap, e'⟩
 obtain ⟨v3, w3, hr3, own3, hg3, hn3⟩ := run_append_strs w2 22 w.heap.size _ (0 + n) ([] ++ la) own2 b m d lb HM.out (HB.out.below hb2) hnb (by omega) hb2.size
 have hgb := own2.lt g2 rfl
 have hb3 : Below w.heap.size w w3 := hb2.grown hg3 hb2.size (by intro k hk; simp [Value.ownBlock] at hk; omega)
 obtain ⟨g3, c3, rfl, hc3⟩ : ∃ g c, v3 = .slice (some ⟨g, 0, none⟩) (0 + n + m) c ∧ 0 + n + m ≤ c := by
  rcases own3.2 with ⟨e', _⟩ | ⟨g, cap, cur, e', _, _, hle, _⟩
  · exact absurd ((hn3.1 e').1) (by simp)
  · exact ⟨g, cap, e', hle⟩
 simp only [Nat.zero_add, List.nil_append] at hr2 hr3 own3 hc3
 have p0 : w1.cell? ⟨B, 0, none⟩ = some (.slice a n c) := by rw [hb1.cell (p := ⟨B, 0, none⟩) hB]; exact h0
 have p1 : w2.cell? ⟨B, 1, none⟩ = some (.slice b m d) := by rw [hb2.cell (p := ⟨B, 1, none⟩) hB]; exact h1
 have R2 : Hid _ := hr2
 have R3 : Hid _ := hr3
 have O3 : Hid _ := own3
 have X3 := hid hb3
 clear hr2 hr3 own3 own2 own1 hb1 hb2 hb3 hg2 hg3 hn2 hn3 hgb HA HB h0 h1
 go_wp2
 refine wp_loop_rounds 3 ?_
 rw [rounds_succ]
 go_wp2_with (at_builtin; refine wpList_app rfl _ _ 22 22 rfl _ _ rfl rfl _ _ R2.out ?_)
 rw [rounds_succ]
 go_wp2_with (at_builtin; refine wpList_app rfl _ _ 22 22 rfl _ _ rfl rfl _ _ R3.out ?_)
 rw [rounds_succ]
 go_wp2
 go_ret
 exact ⟨g3, c3, rfl, hc3, O3.out, X3.out⟩
end Go.Proofs.YtjjkdbmjloolaaaGreatDoor
namespace Go.Proofs.YtjjkdbmjloolaaaGreatDoor
open Go.ChangeShapes Go.WideShapes Go.ChangeAt Go.RowKit Go.Maps
def tokR (v : Value) : Option (DataW Value × List MemPlace) := some (.held v, [])
def keyL (s : ByteArray) : Lit := .string s.data.toList
theorem keyL_inj {s t : ByteArray} (h : keyL s = keyL t) : s = t := by
 unfold keyL at h
 injection h with h
 exact ByteArray.ext (Array.toList_inj.1 h)
instance decMemB (s : ByteArray) (ks : List ByteArray) : Decidable (s ∈ ks) :=
 decidable_of_iff (s.data.toList ∈ ks.map (fun x => x.data.toList)) ⟨fun h => by
  obtain ⟨x, hx, e⟩ := List.mem_map.1 h
  rw [← ByteArray.ext (Array.toList_inj.1 e)]; exact hx, fun h => List.mem_map.2 ⟨s, h, rfl⟩⟩
theorem keyL_key (s : ByteArray) : WideAt.IsKeyLit (keyL s) := True.intro
structure Says (D : DataW Value) (ks : List ByteArray) (f : ByteArray → Value) : Prop where
 nodup : ks.Nodup
 has : ∀ s, Maps.has D (keyL s) = decide (s ∈ ks)
 holds : ∀ s, s ∈ ks → ∀ z, D.atKey (keyL s) z = .held (f s)
theorem says_none (f : ByteArray → Value) : Says (.map []) [] f := ⟨List.nodup_nil, fun s => by simp [Maps.has], fun s h => by cases h⟩
theorem Says.same {D : DataW Value} {ks : List ByteArray} {f g : ByteArray → Value} (h : Says D ks f) (e : ∀ s, s ∈ ks → f s = g s) : Says D ks g :=
 ⟨h.nodup, h.has, fun s hs z => by rw [h.holds s hs z, e s hs]⟩
def putK (ks : List ByteArray) (s : ByteArray) : List ByteArray := if s ∈ ks then ks else ks ++ [s]
def putF (f : ByteArray → Value) (s : ByteArray) (v : Value) : ByteArray → Value := fun x => if x = s then v else f x
theorem mem_putK (ks : List ByteArray) (s x : ByteArray) : x ∈ putK ks s ↔ (x = s ∨ x ∈ ks) := by
 unfold putK
 split
 · rename_i h
  exact ⟨Or.inr, fun e => by rcases e with rfl | e <;> assumption⟩
 · simp only [List.mem_append, List.mem_singleton]
  exact Or.comm
theorem nodup_putK {ks : List ByteArray} (h : ks.Nodup) (s : ByteArray) : (putK ks s).Nodup := by
 unfold putK
 split
 · exact h
 · rename_i hn
  refine List.nodup_append.2 ⟨h, List.pairwise_singleton _ _, fun a ha b hb e => ?_⟩
  rw [List.mem_singleton] at hb
  subst hb; subst e; exact hn ha
theorem Says.put {D : DataW Value} {ks : List ByteArray} {f : ByteArray → Value} (h : Says D ks f) (hD : IsMap D) (s : ByteArray) (v : Value) : Says (D.put (keyL s) (.held v)) (putK ks s) (putF f s v) := by
 refine ⟨nodup_putK h.nodup s, fun x => ?_, fun x hx z => ?_⟩
 · by_cases e : x = s
  · subst e
   rw [has_put_same hD (keyL_key x)]
   exact (decide_eq_true ((mem_putK ks x x).2 (Or.inl rfl))).symm
  · rw [has_put_other (fun e' => e (keyL_inj e')), h.has x]
   have : (x ∈ putK ks s) ↔ x ∈ ks := by rw [mem_putK]; exact ⟨fun q => q.resolve_left e, Or.inr⟩
   rw [decide_eq_decide]; exact this.symm
 · by_cases e : x = s
  · subst e
   rw [atKey_put_same hD (keyL_key x)]
   simp [putF]
  · rw [atKey_put_other (fun e' => e (keyL_inj e')), h.holds x (((mem_putK ks s x).1 hx).resolve_left e)]
   simp [putF, e]
theorem str_keyed : Keyed Tryz.prog 9 := string_keyed Tryz.underlying9
def ShelfAt (w : World) (B n : Nat) (ks : List ByteArray) (f : ByteArray → Value) : Prop :=
 ∃ D, w.ownsMap Tryz.prog 9 tokR B n D ∧ Says D ks f
theorem ShelfAt.lt {w : World} {B n : Nat} {ks : List ByteArray} {f : ByteArray → Value} (h : ShelfAt w B n ks f) : B < w.heap.size := by
 obtain ⟨D, h, _⟩ := h
 exact h.lt
theorem ShelfAt.block {w w' : World} {B n : Nat} {ks : List ByteArray} {f : ByteArray → Value} (h : ShelfAt w B n ks f) (hb : w'.heap[B]? = w.heap[B]?) : ShelfAt w' B n ks f := by
 obtain ⟨D, ⟨es, clock, he, F, hs, hD⟩, S⟩ := h
 exact ⟨D, ⟨es, clock, hb.trans he, F, hs, hD⟩, S⟩
theorem ShelfAt.below {w w' : World} {B n : Nat} {ks : List ByteArray} {f : ByteArray → Value} (h : ShelfAt w B n ks f) (hb : Below w.heap.size w w') : ShelfAt w' B n ks f :=
 h.block (hb.block B h.lt)
theorem ShelfAt.made (w : World) (f : ByteArray → Value) : ShelfAt (w.alloc (.map #[] 0)) w.heap.size 0 [] f := ⟨.map [], World.ownsMap_made w _ _ _, says_none f⟩
theorem strs_of_keys {w : World} {B n : Nat} {D : DataW Value} {ks : List ByteArray} {f : ByteArray → Value} (h : w.ownsMap Tryz.prog 9 tokR B n D) (S : Says D ks f) : (ks.map (fun s => s.data.toList)).Perm (strKeys D) := by
 obtain ⟨es, rfl, hk⟩ := h.keysOf
 obtain ⟨es', e, hp⟩ := h.tidy str_keyed
 injection e with e
 subst e
 refine perm_strKeys hp (fun p hpm => ?_) ?_ (fun x => ?_)
 · obtain ⟨v, hv⟩ := hk p hpm
  obtain ⟨x, _, e, _⟩ := Maps.keyOf_str Tryz.underlying9 hv
  exact ⟨x, e⟩
 · refine List.pairwise_map.2 (S.nodup.imp fun {a b} hne e => hne (ByteArray.ext (Array.toList_inj.1 e)))
 · have e := S.has ⟨x.toArray⟩
  have ek : keyL ⟨x.toArray⟩ = .string x := rfl
  rw [ek] at e
  rw [e, List.mem_map]
  rw [show (decide ((⟨x.toArray⟩ : ByteArray) ∈ ks) = true) = ((⟨x.toArray⟩ : ByteArray) ∈ ks) from propext decide_eq_true_iff]
  exact ⟨fun ⟨s, hs, e⟩ => by subst e; exact hs, fun hs => ⟨_, hs, rfl⟩⟩
theorem size_keys {w : World} {B n : Nat} {D : DataW Value} {ks : List ByteArray} {f : ByteArray → Value} (h : w.ownsMap Tryz.prog 9 tokR B n D) (S : Says D ks f) : Maps.size D = ks.length := by
 have p := (strs_of_keys h S).length_eq
 obtain ⟨es, rfl, _⟩ := h.keysOf
 rw [List.length_map] at p
 rw [p, size_eq]
 simp [strKeys]
theorem below_turned {base B : Nat} {a w w' : World} (h : Below base a w) (t : w.mapTurned w' B) (hB : base ≤ B) : Below base a w' := by
 obtain ⟨es, clock, es', clock', hb, rfl⟩ := t
 refine ⟨h.os, h.tape, h.output, ?_, fun k hk => ?_⟩
 · have := h.size; simpa [ChangeMaps.setBlock] using this
 · rw [ChangeMaps.heap_setBlock_other hb _ (by omega)]; exact h.block k hk
theorem keyOf_txt (s : ByteArray) (h : s.size ≤ maxLen) : _root_.Go.keyOf Tryz.prog 9 (.string s) = some (keyL s) := WideMaps.keyOf_string_mk Tryz.underlying9 h
end Go.Proofs.YtjjkdbmjloolaaaGreatDoor
