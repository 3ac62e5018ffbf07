/-
  The registers as an array: some more, are they there, is there room.
-/
import Derived.Test.YtmhamgcjmehnnaaDoorFoI1
import Derived.Test.YtmhamgcjmehnnaaDoorRegEq
import Derived.Test.YtmhamgcjmehnnaaDoorOpVar
import Derived.Test.YtmhamgcjmehnnaaDoorInts1
import Derived.Test.YtmhamgcjmehnnaaDoorKept
import Derived.Laws.Tables
import Derived.Laws.Rows
import Derived.Laws.CopyOwn
namespace Go.Proofs.YtmhamgcjmehnnaaDoor
open Go.ChangeShapes Go.WideShapes Go.ChangeAt Go.RowKit
attribute [local go_sem ↓] Go.wp_at_zero Go.wp_at_succ
attribute [local simp] World.cell?_alloc_past World.cell?_alloc_at World.frozen?_alloc_at cell_far cell_off cell_here World.frozen?_alloc_past

/-- The flags with some more. -/
def addP (p : Nat → Bool) (l : List Int) (k : Nat) : Bool := p k || l.any fun x => decide (x = (k : Int))
theorem addP_nil (p : Nat → Bool) : addP p [] = p := by funext k; simp [addP]
theorem addP_snoc (p : Nat → Bool) (l : List Int) (x : Int) (k : Nat) : addP p (l ++ [x]) k = (addP p l k || decide (x = (k : Int))) := by simp [addP, Bool.or_assoc]
theorem infoRg : (Tryd.prog.info? 47).map (·.size) = some 30 := by kernel_rfl
/-- Thirty flags in a block. -/
def RBox (w : World) (B : Nat) (p : Nat → Bool) : Prop := w.heap[B]? = some (.cells (regL p).toArray 47 (0, 0))
theorem RBox.cell {w : World} {B : Nat} {p : Nat → Bool} (h : RBox w B p) (k : Nat) (hk : k < 30) : w.cell? ⟨B, k, none⟩ = some (.bool (p k)) ∧ w.frozen? ⟨B, k, none⟩ = false := by
  unfold RBox at h
  constructor
  · rw [cell_of_row w B k _ _ _ h]
    simp [regL, hk]
  · simp [World.frozen?, h]
theorem RBox.below {w w' : World} {B : Nat} {p : Nat → Bool} (h : RBox w B p) (hB : B < w.heap.size) (hb : Below w.heap.size w w') : RBox w' B p := (hb.block B hB).trans h
theorem rbox_new (w : World) (p : Nat → Bool) : RBox (w.alloc (.cells (regL p).toArray 47)) w.heap.size p := _root_.Go.heap_alloc_new w _
theorem regL_set (p q : Nat → Bool) (i : Nat) (hi : i < 30) (hq : ∀ k, k < 30 → q k = (p k || decide (k = i))) : (regL p).toArray.setIfInBounds i (.bool true) = (regL q).toArray := by
  apply Array.ext_getElem?
  intro k
  rw [Array.getElem?_setIfInBounds]
  by_cases hk : k < 30
  · by_cases e : i = k
    · subst e
      simp [regL, hk, hq i hk]
    · have e' : ¬ k = i := fun h => e h.symm
      simp [regL, hk, hq k hk, e, e']
  · have hk' : ¬ i = k := by omega
    simp [regL, hk', hk]
theorem RBox.set {w : World} {B : Nat} {p : Nat → Bool} (h : RBox w B p) (i : Nat) (hi : i < 30) (q : Nat → Bool) (hq : ∀ k, k < 30 → q k = (p k || decide (k = i))) : RBox (w.setCell ⟨B, i, none⟩ (.bool true)) B q := by
  unfold RBox
  rw [setCell_eq_setRow w B i _ _ _ _ h, setRow_heap w B _ _ _ _ h, regL_set p q i hi hq]
theorem wpList_load_row {P : Program} {ops : Array Oper} {rest : List Oper} {o : Oper} {a : Act} {w : World} {Q : Exit → Act → World → Prop} (hg : o.guard = none) (ty : TypeId) (x : Operand) (ho : o.op = .load ty x)
    (g : Nat) (hx : a.eval x = .pointer (some ⟨g, 0, none⟩)) (t : TypeId) (cs : Array Value) (fr : Nat × Nat) (d : TypeDesc) (hh : w.heap[g]? = some (.cells cs t fr))
    (hu : P.underlying ty = some d) (hd : (match d with | .struct _ | .array _ _ => true | _ => false) = true) (hi : (P.info? ty).map (·.size) = some cs.size)
    (h : wpList P ops Q rest (a.put o.dst (.agg cs)) w) : wpList P ops Q (o :: rest) a w :=
  wpList_plain hg fun _ hK => wp_load_row ty x ho g hx t cs fr d hh hu hd hi (hK _ _ h)
theorem wpList_store_row {P : Program} {ops : Array Oper} {rest : List Oper} {o : Oper} {a : Act} {w : World} {Q : Exit → Act → World → Prop} (hg : o.guard = none) (ty : TypeId) (x y : Operand) (ho : o.op = .store ty x y)
    (g : Nat) (cells : Array Value) (hx : a.eval x = .pointer (some ⟨g, 0, none⟩)) (hy : a.eval y = .agg cells)
    (t : TypeId) (old : Array Value) (hh : w.heap[g]? = some (.cells old t (0, 0))) (hi : (P.info? ty).map (·.size) = some cells.size)
    (hold : old.size = cells.size) (h1 : cells.all (·.oneCell') = true)
    (h : wpList P ops Q rest (a.put o.dst undef) (w.setRow g cells)) : wpList P ops Q (o :: rest) a w :=
  wpList_plain hg fun _ hK => wp_store_row ty x y ho g cells hx hy t old hh hi hold h1 (hK _ _ h)
theorem regL_size (p : Nat → Bool) : (regL p).toArray.size = 30 := by simp [regL]
theorem regL_one (p : Nat → Bool) : (regL p).toArray.all (·.oneCell') = true := by
  rw [Array.all_eq_true_iff_forall_mem]
  intro v hv
  simp [regL] at hv
  obtain ⟨k, _, rfl⟩ := hv
  rfl
set_option maxRecDepth 100000 in
set_option maxHeartbeats 2000000 in
theorem with_impl (p : Nat → Bool) (a : Option Addr) (cap : Nat) (l : List Int) (n : Nat) (hn : l.length = n) (w : World) (hrow : IntsAt w a l) (hm : n ≤ maxLen) (hr : l.all regB = true) :
    Calls Tryd.prog 20 #[regV p, .slice a n cap] w fun e w' => e = .returned (regV (addP p l)) ∧ Below w.heap.size w w' := by
  subst hn
  have HR := hid hrow
  have HB := hid hr
  clear hrow hr
  unfold maxLen at hm
  have H0 := hid (p := RBox ((w.alloc (.cells (regL p).toArray 47)).alloc (.cells (regL fun _ => false).toArray 47)) w.heap.size p) ((rbox_new w p).below (by simp) ((Below.refl _ _).alloc (Nat.le_refl _) _))
  have H1 := hid (p := RBox ((w.alloc (.cells (regL p).toArray 47)).alloc (.cells (regL fun _ => false).toArray 47)) (w.heap.size + 1) fun _ => false) (by have := rbox_new (w.alloc (.cells (regL p).toArray 47)) (fun _ => false); simpa using this)
  have hA : Below w.heap.size w ((w.alloc (.cells (regL p).toArray 47)).alloc (.cells (regL fun _ => false).toArray 47)) := ((Below.refl _ _).alloc (Nat.le_refl _) _).alloc (by simp) _
  have hsz : w.heap.size + 1 < ((w.alloc (.cells (regL p).toArray 47)).alloc (.cells (regL fun _ => false).toArray 47)).heap.size := by simp
  have hZ : (regL fun _ => false).toArray = #[Value.bool false, Value.bool false, Value.bool false, Value.bool false, Value.bool false, Value.bool false, Value.bool false, Value.bool false, Value.bool false, Value.bool false, Value.bool false, Value.bool false, Value.bool false, Value.bool false, Value.bool false, Value.bool false, Value.bool false, Value.bool false, Value.bool false, Value.bool false, Value.bool false, Value.bool false, Value.bool false, Value.bool false, Value.bool false, Value.bool false, Value.bool false, Value.bool false, Value.bool false, Value.bool false] := by kernel_rfl
  obtain ⟨W0, hW0⟩ : ∃ W, W = (w.alloc (.cells (regL p).toArray 47)).alloc (.cells (regL fun _ => false).toArray 47) := ⟨_, rfl⟩
  rw [← hW0] at H0 H1 hA hsz
  unfold regV
  rw [hZ] at hW0
  clear hZ
  generalize hX : (regL p).toArray = X at hW0
  go_enter Tryd.func20, Tryd.ntmps20
  go_wp2
  rw [← hW0]
  clear hW0 hX
  go_loopw [9] (fun kk wr => ∃ k : Nat, k ≤ l.length ∧ kk = .int .i64 k ∧ Hid (RBox wr w.heap.size (addP p (l.take k))) ∧ Hid (RBox wr (w.heap.size + 1) fun _ => false) ∧ w.heap.size + 1 < wr.heap.size ∧ Below w.heap.size w wr) (fun kk _ => l.length - (intOf kk).toNat)
  case atStart => exact ⟨0, Nat.zero_le _, rfl, by rw [List.take_zero, addP_nil]; exact H0, H1, hsz, hA⟩
  case round =>
    obtain ⟨k, hk, rfl, hp, hq, hs, hbw⟩ := hrel
    by_cases hlt : k < l.length
    · obtain ⟨g, o, rfl, hgw, c0⟩ := HR.out.below hbw k hlt
      have hi0 : (0 : Int) ≤ (k : Int) := by omega
      have hi1 : (k : Int) < (l.length : Int) := by omega
      have hx : regB l[k] = true := List.all_eq_true.1 HB.out _ (List.getElem_mem hlt)
      have hT : ∀ j, addP p (l.take (k + 1)) j = (addP p (l.take k) j || decide (l[k] = (j : Int))) := by
        intro j
        rw [List.take_succ_eq_append_getElem hlt, addP_snoc]
      have HT := hid hT
      clear hT
      generalize l[k] = x at c0 hx HT
      unfold regB at hx
      obtain ⟨i, rfl⟩ : ∃ i : Nat, x = i := ⟨x.toNat, by simp at hx; omega⟩
      have hi : i < 30 := by simp at hx; omega
      have hj0 : (0 : Int) ≤ (i : Int) := by omega
      have hj1 : (i : Int) < 30 := by omega
      clear hx
      obtain ⟨d0, d1⟩ := hp.out.cell i hi
      go_wp2
      go_roundw
      case rel => exact ⟨k + 1, by omega, by go_num, hid (hp.out.set i hi _ (fun j hj => by rw [HT.out]; congr 1; simp only [decide_eq_decide]; omega)), hid (by have h2 := hq.out; unfold RBox at h2 ⊢; rw [setCell_eq_setRow wr w.heap.size i _ _ _ _ hp.out, setRow_other _ _ _ _ (by omega)]; exact h2), by simpa using hs, hbw.setCell (p := ⟨w.heap.size, i, none⟩) (Nat.le_refl _) _⟩
      case measure => simp [intOf]; omega
    · have hkl : k = l.length := by omega
      subst hkl
      have hnn : ¬ (l.length : Int) < (l.length : Int) := by omega
      rw [List.take_length] at hp
      have e1 : wr.heap[w.heap.size]? = some (.cells (regL (addP p l)).toArray 47 (0, 0)) := hp.out
      have e2 : wr.heap[w.heap.size + 1]? = some (.cells (regL fun _ => false).toArray 47 (0, 0)) := hq.out
      have e3 := setRow_heap wr (w.heap.size + 1) _ (regL (addP p l)).toArray _ _ e2
      have E1 := hid e1
      have E2 := hid e2
      have E3 := hid e3
      have E4 := hid (below_setRow hbw (Nat.le_succ _) (regL (addP p l)).toArray)
      have z1 := regL_size (addP p l)
      have z2 := regL_size fun _ => false
      have o1 := regL_one (addP p l)
      clear e1 e2 e3
      generalize hY : (regL (addP p l)).toArray = Y at E1 E3 E4 z1 o1
      generalize (regL fun _ => false).toArray = Z at E2 z2
      go_wp2_with (first
        | refine wpList_load_row rfl 47 _ rfl w.heap.size rfl 47 Y (0, 0) _ E1.out Tryd.underlying47 rfl (infoRg.trans (congrArg some z1.symm)) ?_
        | refine wpList_store_row rfl 47 _ _ rfl (w.heap.size + 1) Y rfl rfl 47 Z E2.out (infoRg.trans (congrArg some z1.symm)) (z2.trans z1.symm) o1 ?_
        | fail)
      refine bodyPost_ret (v := .agg Y) ?_ rfl ⟨rfl, E4.out⟩
      exact results_cell_row Tryd.results20 _ (wr.setRow (w.heap.size + 1) Y) (w.heap.size + 1) 47 Y (0, 0) _ rfl E3.out Tryd.underlying47 rfl (infoRg.trans (congrArg some z1.symm))

end Go.Proofs.YtmhamgcjmehnnaaDoor
