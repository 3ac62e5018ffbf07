/-
  A part of the proof: YardI, Until, YardI2.
-/
import Derived.Test.YtfokdblojlmnlabDoorPart8
import Derived.Test.YtfokdblojlmnlabDoorPart4
import Derived.Deep.RegionHeld3

/-
  The program's reader of sums: where its lists lie, and its small steps.
-/
namespace Go.Proofs.YtfokdblojlmnlabDoor
open Go.ChangeShapes Go.WideShapes Go.ChangeAt Go.RowKit
attribute [local go_sem ↓] Go.wp_at_zero Go.wp_at_succ
attribute [local simp] World.cell?_alloc_past World.cell?_alloc_at World.frozen?_alloc_at cell_far cell_off cell_here World.frozen?_alloc_past

/-- The three fields of a reader in block R. -/
def YBox (w : World) (R : Nat) (vi vw : Value) (wh : Bool) : Prop := w.heap[R]? = some (.cells #[vi, vw, .bool wh] 41 (0, 0))
theorem YBox.lt {w : World} {R : Nat} {vi vw : Value} {wh : Bool} (h : YBox w R vi vw wh) : R < w.heap.size := by
  by_cases hl : R < w.heap.size
  · exact hl
  · unfold YBox at h; rw [Array.getElem?_eq_none (by omega)] at h; cases h
theorem YBox.cells {w : World} {R : Nat} {vi vw : Value} {wh : Bool} (h : YBox w R vi vw wh) : w.cell? ⟨R, 0, none⟩ = some vi ∧ w.cell? ⟨R, 1, none⟩ = some vw ∧ w.cell? ⟨R, 2, none⟩ = some (.bool wh) := by
  unfold YBox at h
  refine ⟨?_, ?_, ?_⟩ <;> simp [World.cell?, h]
theorem YBox.free {w : World} {R : Nat} {vi vw : Value} {wh : Bool} (h : YBox w R vi vw wh) : w.frozen? ⟨R, 0, none⟩ = false ∧ w.frozen? ⟨R, 1, none⟩ = false ∧ w.frozen? ⟨R, 2, none⟩ = false := by
  unfold YBox at h
  refine ⟨?_, ?_, ?_⟩ <;> simp [World.frozen?, h]
theorem YBox.of {w w' : World} {R : Nat} {vi vw : Value} {wh : Bool} (h : YBox w R vi vw wh) (e : w'.heap[R]? = w.heap[R]?) : YBox w' R vi vw wh := by unfold YBox at h ⊢; rw [e]; exact h
theorem YBox.below {w w' : World} {R : Nat} {vi vw : Value} {wh : Bool} (h : YBox w R vi vw wh) (hb : Below w.heap.size w w') : YBox w' R vi vw wh := h.of (hb.block R h.lt)
theorem YBox.set0 {w : World} {R : Nat} {vi vw : Value} {wh : Bool} (h : YBox w R vi vw wh) (u : Value) : YBox (w.setCell ⟨R, 0, none⟩ u) R u vw wh := by
  have := heap_setCell_same w R 0 #[vi, vw, .bool wh] 41 u h
  unfold YBox; rw [this]; rfl
theorem YBox.set1 {w : World} {R : Nat} {vi vw : Value} {wh : Bool} (h : YBox w R vi vw wh) (u : Value) : YBox (w.setCell ⟨R, 1, none⟩ u) R vi u wh := by
  have := heap_setCell_same w R 1 #[vi, vw, .bool wh] 41 u h
  unfold YBox; rw [this]; rfl
theorem YBox.set2 {w : World} {R : Nat} {vi vw : Value} {wh : Bool} (h : YBox w R vi vw wh) (u : Bool) : YBox (w.setCell ⟨R, 2, none⟩ (.bool u)) R vi vw u := by
  have := heap_setCell_same w R 2 #[vi, vw, .bool wh] 41 (.bool u) h
  unfold YBox; rw [this]; rfl
theorem YBox.notOwn {w : World} {R : Nat} {vi vw : Value} {wh : Bool} (h : YBox w R vi vw wh) {base : Nat} {size n : Nat} {v : Value} {xs : List Value} {e : TypeId} (he : e ≠ 41) (ho : w.ownsRow base e size v n xs) : v.ownBlock ≠ some R := by
  rcases ho.2 with ⟨rfl, _⟩ | ⟨g, cap, cur, rfl, _, hg, _⟩
  · simp [Value.ownBlock]
  · intro hh
    simp only [Value.ownBlock, Option.some.injEq] at hh
    subst hh
    unfold YBox at h
    rw [h] at hg
    simp only [Option.some.injEq, Obj.cells.injEq] at hg
    exact he hg.2.1.symm
theorem own_same {w w' : World} {base : Nat} {e : TypeId} {size n : Nat} {v : Value} {xs : List Value} (h : w.ownsRow base e size v n xs) (hb : ∀ g, v.ownBlock = some g → w'.heap[g]? = w.heap[g]?) : w'.ownsRow base e size v n xs := by
  refine ⟨h.1, ?_⟩
  rcases h.2 with h' | ⟨g, cap, cur, rfl, hbg, hg, hr⟩
  · exact .inl h'
  · exact .inr ⟨g, cap, cur, rfl, hbg, by rw [hb g rfl]; exact hg, hr⟩
theorem own_ne {w : World} {b1 b2 n m s1 s2 : Nat} {e1 e2 : TypeId} {v1 v2 : Value} {xs ys : List Value} (h : w.ownsRow b1 e1 s1 v1 n xs) (k : w.ownsRow b2 e2 s2 v2 m ys) (he : e1 ≠ e2) (g : Nat) (hg : v1.ownBlock = some g) : v2.ownBlock ≠ some g := by
  rcases h.2 with ⟨rfl, _⟩ | ⟨g1, c1, cur, rfl, _, hg1, _⟩
  · simp [Value.ownBlock] at hg
  · rcases k.2 with ⟨rfl, _⟩ | ⟨g2, c2, cur2, rfl, _, hg2, _⟩
    · simp [Value.ownBlock]
    · intro hh
      simp only [Value.ownBlock, Option.some.injEq] at hg hh
      subst hg hh
      rw [hg1] at hg2
      simp only [Option.some.injEq, Obj.cells.injEq] at hg2
      exact he hg2.2.1
theorem own_cut {w : World} {base g c n : Nat} {e : TypeId} {xs : List Value} (h : w.ownsRow base e 1 (.slice (some ⟨g, 0, none⟩) n c) n xs) (m : Nat) (hm : m ≤ n) : w.ownsRow base e 1 (.slice (some ⟨g, 0, none⟩) m c) m (xs.take m) := by
  have hl : xs.length = n := by have := h.1; rwa [Nat.mul_one] at this
  rcases h.2 with ⟨h', _⟩ | ⟨g', c', cur, h', hb', hg', hc', hm', hz', ht'⟩
  · simp at h'
  · simp only [Value.slice.injEq, Option.some.injEq, Addr.mk.injEq, and_true, true_and] at h'
    obtain ⟨rfl, rfl⟩ := h'
    refine ⟨by rw [List.length_take]; omega, .inr ⟨g, c, cur, rfl, hb', hg', by omega, hm', hz', ?_⟩⟩
    have e2 : cur.toList.take (m * 1) = (cur.toList.take (n * 1)).take (m * 1) := by rw [List.take_take]; congr 1; omega
    rw [e2, ht', Nat.mul_one]
/-- The kinds that wait, as they lie: the last one at the end. -/
def ksV (W : List Int) : List Value := W.reverse.map (Value.int .i64)
theorem ksV_cons (k : Int) (W : List Int) : ksV (k :: W) = ksV W ++ [.int .i64 k] := by simp [ksV]
theorem ksV_len (W : List Int) : (ksV W).length = W.length := by simp [ksV]
/-- A reader: its items, what waits, whether one is whole; all that was there before w0 is as it was. -/
structure Yd (w0 w : World) (R : Nat) (vi vw : Value) (o : List TI) (W : List Int) (wh : Bool) : Prop where
  box : YBox w R vi vw wh
  ownI : w.ownsRow w0.heap.size 46 5 vi o.length (flatItm o)
  ownW : w.ownsRow w0.heap.size 2 1 vw W.length (ksV W)
  kept : Below w0.heap.size w0 w
  hR : w0.heap.size ≤ R
theorem Yd.below {w0 w w' : World} {R : Nat} {vi vw : Value} {o : List TI} {W : List Int} {wh : Bool} (h : Yd w0 w R vi vw o W wh) (hb : Below w.heap.size w w') : Yd w0 w' R vi vw o W wh :=
  ⟨h.box.below hb, own_below h.ownI hb, own_below h.ownW hb, chain h.kept hb, h.hR⟩
theorem Yd.whole {w0 w : World} {R : Nat} {vi vw : Value} {o : List TI} {W : List Int} {wh : Bool} (h : Yd w0 w R vi vw o W wh) (b : Bool) : Yd w0 (w.setCell ⟨R, 2, none⟩ (.bool b)) R vi vw o W b :=
  ⟨h.box.set2 b, ownsRow_setCell_other h.ownI (h.box.notOwn (by decide) h.ownI) _, ownsRow_setCell_other h.ownW (h.box.notOwn (by decide) h.ownW) _, h.kept.setCell h.hR _, h.hR⟩
theorem Yd.formW {w0 w : World} {R : Nat} {vi vw : Value} {o : List TI} {W : List Int} {wh : Bool} (h : Yd w0 w R vi vw o W wh) : ∃ ga c, vw = .slice ga W.length c ∧ W.length ≤ c ∧ c ≤ maxLen ∧ (0 < W.length → ∃ g, ga = some ⟨g, 0, none⟩) := by
  rcases h.ownW.2 with ⟨h1, h2⟩ | ⟨g, c, cur, h1, _, _, h3, h4, _⟩
  · exact ⟨none, 0, by rw [h1, h2], by omega, by unfold maxLen; omega, fun h => by omega⟩
  · exact ⟨some ⟨g, 0, none⟩, c, h1, h3, h4, fun _ => ⟨g, rfl⟩⟩
theorem Yd.formI {w0 w : World} {R : Nat} {vi vw : Value} {o : List TI} {W : List Int} {wh : Bool} (h : Yd w0 w R vi vw o W wh) : ∃ ga c, vi = .slice ga o.length c := by
  rcases h.ownI.2 with ⟨h1, h2⟩ | ⟨g, c, cur, h1, _⟩
  · exact ⟨none, 0, by rw [h1, h2]⟩
  · exact ⟨some ⟨g, 0, none⟩, c, h1⟩
/-- What waits last is taken off. -/
theorem Yd.cut {w0 w : World} {R : Nat} {vi : Value} {g c : Nat} {o : List TI} {k : Int} {W : List Int} {wh : Bool} (h : Yd w0 w R vi (.slice (some ⟨g, 0, none⟩) (k :: W).length c) o (k :: W) wh) : Yd w0 (w.setCell ⟨R, 1, none⟩ (.slice (some ⟨g, 0, none⟩) W.length c)) R vi (.slice (some ⟨g, 0, none⟩) W.length c) o W wh := by
  have h2 : w.ownsRow w0.heap.size 2 1 (.slice (some ⟨g, 0, none⟩) W.length c) W.length (ksV W) := by
    have := own_cut h.ownW W.length (by simp)
    rw [ksV_cons, List.take_left' (ksV_len W)] at this
    exact this
  exact ⟨h.box.set1 _, ownsRow_setCell_other h.ownI (h.box.notOwn (by decide) h.ownI) _, ownsRow_setCell_other h2 (h.box.notOwn (by decide) h2) _, h.kept.setCell h.hR _, h.hR⟩
/-- An item more, in the world behind the append and behind the store. -/
theorem Yd.pushI {w0 w w2 : World} {R : Nat} {vi vw : Value} {o : List TI} {W : List Int} {wh : Bool} (h : Yd w0 w R vi vw o W wh) (ob : Obj) (x : TI) {v' : Value}
    (own2 : w2.ownsRow w0.heap.size 46 5 v' (o.length + 1) (flatItm o ++ [.int .i64 x.1, .int .i64 x.2.1.1, .int .i64 x.2.1.2.1, .string x.2.1.2.2, .string x.2.2])) (hgrow : (w.alloc ob).grownBy w2 vi.ownBlock) :
    ∃ gv cv, v' = .slice (some ⟨gv, 0, none⟩) (o.length + 1) cv ∧ YBox w2 R vi vw wh ∧ Yd w0 (w2.setCell ⟨R, 0, none⟩ v') R v' vw (o ++ [x]) W wh := by
  have hA : Yd w0 (w.alloc ob) R vi vw o W wh := h.below ((Below.refl _ _).alloc (Nat.le_refl _) _)
  have hbox2 : YBox w2 R vi vw wh := hA.box.of (hgrow.block R hA.box.lt (fun e => hA.box.notOwn (by decide) hA.ownI e.symm))
  have hk2 : Below w0.heap.size w0 w2 := by
    refine hA.kept.grown hgrow hA.kept.size ?_
    intro kk hkk
    exact (h.ownI.lt kk hkk).1
  have own3 : w2.ownsRow w0.heap.size 46 5 v' (o ++ [x]).length (flatItm (o ++ [x])) := by
    rw [flatItm_append, List.length_append]
    exact own2
  have ownw : w2.ownsRow w0.heap.size 2 1 vw W.length (ksV W) := own_same hA.ownW (fun g hg => hgrow.block g (hA.ownW.lt g hg).2 (fun e => own_ne hA.ownW hA.ownI (by decide) g hg e.symm))
  obtain ⟨gv, cv, hv⟩ : ∃ gv cv, v' = .slice (some ⟨gv, 0, none⟩) (o.length + 1) cv := by
    rcases own2.2 with ⟨h', h''⟩ | ⟨gv, cv, cur, h', _⟩
    · exfalso; simp at h''
    · exact ⟨gv, cv, h'⟩
  exact ⟨gv, cv, hv, hbox2, hbox2.set0 _, ownsRow_setCell_other own3 (hbox2.notOwn (by decide) own3) _, ownsRow_setCell_other ownw (hbox2.notOwn (by decide) ownw) _, hk2.setCell h.hR _, h.hR⟩
/-- A kind more that waits. -/
theorem Yd.pushW {w0 w w2 : World} {R : Nat} {vi vw : Value} {o : List TI} {W : List Int} {wh : Bool} (h : Yd w0 w R vi vw o W wh) (ob : Obj) (k : Int) {v' : Value}
    (own2 : w2.ownsRow w0.heap.size 2 1 v' (W.length + 1) (ksV W ++ [.int .i64 k])) (hgrow : (w.alloc ob).grownBy w2 vw.ownBlock) :
    ∃ gv cv, v' = .slice (some ⟨gv, 0, none⟩) (W.length + 1) cv ∧ YBox w2 R vi vw wh ∧ Yd w0 (w2.setCell ⟨R, 1, none⟩ v') R vi v' o (k :: W) wh := by
  have hA : Yd w0 (w.alloc ob) R vi vw o W wh := h.below ((Below.refl _ _).alloc (Nat.le_refl _) _)
  have hbox2 : YBox w2 R vi vw wh := hA.box.of (hgrow.block R hA.box.lt (fun e => hA.box.notOwn (by decide) hA.ownW e.symm))
  have hk2 : Below w0.heap.size w0 w2 := by
    refine hA.kept.grown hgrow hA.kept.size ?_
    intro kk hkk
    exact (h.ownW.lt kk hkk).1
  have own3 : w2.ownsRow w0.heap.size 2 1 v' (k :: W).length (ksV (k :: W)) := by
    rw [ksV_cons]
    exact own2
  have owni : w2.ownsRow w0.heap.size 46 5 vi o.length (flatItm o) := own_same hA.ownI (fun g hg => hgrow.block g (hA.ownI.lt g hg).2 (fun e => own_ne hA.ownI hA.ownW (by decide) g hg e.symm))
  obtain ⟨gv, cv, hv⟩ : ∃ gv cv, v' = .slice (some ⟨gv, 0, none⟩) (W.length + 1) cv := by
    rcases own2.2 with ⟨h', h''⟩ | ⟨gv, cv, cur, h', _⟩
    · exfalso; simp at h''
    · exact ⟨gv, cv, h'⟩
  exact ⟨gv, cv, hv, hbox2, hbox2.set1 _, ownsRow_setCell_other owni (hbox2.notOwn (by decide) owni) _, ownsRow_setCell_other own3 (hbox2.notOwn (by decide) own3) _, hk2.setCell h.hR _, h.hR⟩
/-- How many wait, off the memory. -/
def waitOf (R : Nat) (w : World) : Nat := match w.cell? ⟨R, 1, none⟩ with
  | some (.slice _ n _) => n
  | _ => 0
theorem Yd.waitOf {w0 w : World} {R : Nat} {vi vw : Value} {o : List TI} {W : List Int} {wh : Bool} (h : Yd w0 w R vi vw o W wh) : waitOf R w = W.length := by
  obtain ⟨ga, c, rfl, _⟩ := h.formW
  unfold Go.Proofs.YtfokdblojlmnlabDoor.waitOf
  rw [h.box.cells.2.1]
theorem infoInt : (Tryd.prog.info? 2).map (fun i => (i.zero, i.size, i.bytes)) = some (some (.int .i64 0), 1, 8) := by kernel_rfl
theorem cells1K (w : World) (x : Value) : ∀ j u, [x][j]? = some u → (w.alloc (.cells #[x] 2)).cell? ((⟨w.heap.size, 0, none⟩ : Addr).add j) = some u := by
  intro j u hj
  match j, hj with
  | 0, hj => simp at hj; subst hj; simp [Addr.add]
end Go.Proofs.YtfokdblojlmnlabDoor

/-
  A region that draws its order and whose last operation writes what the others read: a condition on the world that holds until that one comes up.
-/
namespace Go.Proofs.YtfokdblojlmnlabDoor

section
variable {P : Program} {ops : Array Oper} {Q : Exit → Act → World → Prop} {md : Region.Mode} {S : World → Prop} {z : Nat}

/-- Whatever order is picked: behind each operation but z the condition S holds. -/
def wpAnyU (P : Program) (md : Region.Mode) (ops : Array Oper) (Q : Exit → Act → World → Prop) (S : World → Prop) (z : Nat) : Nat → Array Bool → Act → World → Prop
  | 0, listed, a, w => Region.ready md ops listed = [] ∧ Q .normal a w
  | n + 1, listed, a, w => (Region.ready md ops listed = [] → Q .normal a w) ∧ ∀ i ∈ Region.ready md ops listed, wpOp P ops Q i (fun a' w' => (i = z ∨ S w') ∧ wpAnyU P md ops Q S z n (listed.setIfInBounds i true) a' w') a w

theorem wpAnyU.any : ∀ {n : Nat} {listed : Array Bool} {a : Act} {w : World}, wpAnyU P md ops Q S z n listed a w → wpAny P md ops Q n listed a w
  | 0, _, _, _, h => h
  | _ + 1, _, _, _, h => ⟨h.1, fun i hi => wpOp_mono (fun _ _ h' => wpAnyU.any h'.2) (h.2 i hi)⟩

/-- Does z wait for i? -/
def waits (md : Region.Mode) (ops : Array Oper) (z i : Nat) : Bool := match ops[z]? with
  | some o => o.after.any (fun e => Region.binds md e && e.on == i)
  | none => false
theorem waits_some {i : Nat} {o : Oper} (h : waits md ops z i = true) (ho : ops[z]? = some o) : ∃ e ∈ o.after, Region.binds md e = true ∧ e.on = i := by
  unfold waits at h
  rw [ho] at h
  obtain ⟨k, hk, he⟩ := Array.any_eq_true.1 h
  simp only [Bool.and_eq_true, beq_iff_eq] at he
  exact ⟨o.after[k], Array.getElem_mem hk, he.1, he.2⟩

theorem wpAnyU_first {i : Nat} {oi : Oper} {v : Value} (hi : ops[i]? = some oi) (hz : waits md ops z i = true) (hsel : ∀ (j : Nat) (o : Oper) cs b, ops[j]? = some o → o.op ≠ .select cs b)
    (hQ : ∀ c a w, Q (.panic c) (a.put oi.dst v) w → Q (.panic c) a w) : ∀ (n : Nat) (listed : Array Bool) (a : Act) (w : World),
      (∀ j oj, ops[j]? = some oj → j ≠ i → listed.getD j true = false → (∀ e ∈ oj.after, Region.binds md e = true → e.on ≠ i) → oi.apart ops oj = true) →
      i ∈ Region.ready md ops listed → YieldsIf P ops S oi v a → S w →
      wpAnyU P md ops Q S z n (listed.setIfInBounds i true) (a.put oi.dst v) w → wpAnyU P md ops Q S z (n + 1) listed a w
  | 0, listed, a, w, _, hr, hy, hS, H => ⟨fun h => (by rw [h] at hr; cases hr), fun j hj => by
      by_cases e : j = i
      · subst e; exact hy.wpOp hi hS ⟨.inr hS, H⟩
      · have := ready_mono hj e
        rw [H.1] at this
        cases this⟩
  | n + 1, listed, a, w, hfree, hr, hy, hS, H => ⟨fun h => (by rw [h] at hr; cases hr), fun j hj => by
      by_cases e : j = i
      · subst e; exact hy.wpOp hi hS ⟨.inr hS, H⟩
      · have h1 := H.2 j (ready_mono hj e)
        obtain ⟨hun, oj, hoj, hall⟩ := mem_ready.1 hj
        have hnot : ∀ x ∈ oj.after, Region.binds md x = true → x.on ≠ i := by
          intro x hx hb heq
          have k1 := hall x hx hb
          have k0 := (mem_ready.1 hr).1
          rw [heq] at k1
          rcases Nat.lt_or_ge i listed.size with h' | h'
          · simp [h'] at k0 k1; rw [k0] at k1; cases k1
          · simp [Array.getElem?_eq_none h'] at k1
        have hjz : j ≠ z := by
          intro ez
          subst ez
          obtain ⟨x, hx, hb, heq⟩ := waits_some hz hoj
          exact hnot x hx hb heq
        have h2 := wpOp_putIf hoj (hfree j oj hoj e hun hnot) (fun cs b => hsel i oi cs b hi) (fun cs b => hsel j oj cs b hoj) hQ hy h1
        refine wpOp_mono (fun a' w' h3 => ?_) h2
        have hSw : S w' := by rcases h3.2.1 with h4 | h4; exact absurd h4 hjz; exact h4
        refine ⟨.inr hSw, wpAnyU_first hi hz hsel hQ n (listed.setIfInBounds j true) a' w' ?_ (ready_mono hr (Ne.symm e)) h3.1 hSw ?_⟩
        · intro k ok hk hki hku hno
          refine hfree k ok hk hki ?_ hno
          by_cases hjk : j = k
          · subst hjk; exact hun
          · rw [getD_set_ne true hjk] at hku; exact hku
        · rw [Array.setIfInBounds_comm _ _ e]; exact h3.2.2⟩
theorem wpAnyU_take {i : Nat} {oi : Oper} {v : Value} {n : Nat} {listed : Array Bool} {a : Act} {w : World} (hi : ops[i]? = some oi) (hz : waits md ops z i = true)
    (hs : Region.noSelect ops = true) (hf : Region.free md ops listed i = true) (hr : (Region.ready md ops listed).contains i = true)
    (hQ : ∀ c a w, Q (.panic c) (a.put oi.dst v) w → Q (.panic c) a w) (hy : YieldsIf P ops S oi v a) (hS : S w)
    (h : wpAnyU P md ops Q S z n (listed.setIfInBounds i true) (a.put oi.dst v) w) : wpAnyU P md ops Q S z (n + 1) listed a w :=
  wpAnyU_first hi hz (Region.noSelect_spec hs) hQ n listed a w (Region.free_spec hi hf) (by simpa using hr) hy hS h
/-- The one that is ready is carried out; behind it S is shown anew. -/
theorem wpAnyU_one {i : Nat} {o : Oper} {n : Nat} {listed : Array Bool} {a : Act} {w : World} (hr : Region.ready md ops listed = [i]) (ho : ops[i]? = some o)
    (h : ∀ K' : Act → World → Prop, Shut (∀ a w, S w → (S w → wpAnyU P md ops Q S z n (listed.setIfInBounds i true) a w) → K' a w) → if Region.wanted o (yielded ops a.tmps) = true then Oper.wp P o a w K' Q else K' (a.put o.dst undef) w) :
    wpAnyU P md ops Q S z (n + 1) listed a w :=
  ⟨fun h0 => (by rw [hr] at h0; cases h0), fun j hj => by
    rw [hr] at hj
    obtain rfl : j = i := by simpa using hj
    exact wpOp_step ho (fun K' hK => h K' (fun a w hS hW => hK a w ⟨.inr hS, hW hS⟩))⟩
/-- The last one is carried out: S is asked no more. -/
theorem wpAnyU_last {o : Oper} {n : Nat} {listed : Array Bool} {a : Act} {w : World} (hr : Region.ready md ops listed = [z]) (ho : ops[z]? = some o)
    (h : ∀ K' : Act → World → Prop, Shut (∀ a w, wpAnyU P md ops Q S z n (listed.setIfInBounds z true) a w → K' a w) → if Region.wanted o (yielded ops a.tmps) = true then Oper.wp P o a w K' Q else K' (a.put o.dst undef) w) :
    wpAnyU P md ops Q S z (n + 1) listed a w :=
  ⟨fun h0 => (by rw [hr] at h0; cases h0), fun j hj => by
    rw [hr] at hj
    obtain rfl : j = z := by simpa using hj
    exact wpOp_step ho (fun K' hK => h K' (fun a w hW => hK a w ⟨.inl rfl, hW⟩))⟩
theorem wp_region_until {id : Nat} {a : Act} {w : World} (hm : P.follows .mixedOrders = true) (hS : S w.drew)
    (h : S w.drew → wpAnyU P .any ops Q S z ops.size (Array.replicate ops.size false) a w.drew) : (Code.region id ops true).wp P Q a w :=
  wp_region_any hm (h hS).any
theorem wpAnyU_done {listed : Array Bool} {a : Act} {w : World} (hr : Region.ready md ops listed = []) (h : Q .normal a w) : ∀ n, wpAnyU P md ops Q S z n listed a w
  | 0 => ⟨hr, h⟩
  | _ + 1 => ⟨fun _ => h, by rw [hr]; simp⟩
end
end Go.Proofs.YtfokdblojlmnlabDoor

/-
  The contracts of the program's reader of sums: what waits last, which kind a sign is, signs that become items.
-/
namespace Go.Proofs.YtfokdblojlmnlabDoor
open Go.ChangeShapes Go.WideShapes Go.ChangeAt Go.RowKit
attribute [local go_sem ↓] Go.wp_at_zero Go.wp_at_succ
attribute [local simp] World.cell?_alloc_past World.cell?_alloc_at World.frozen?_alloc_at cell_far cell_off cell_here World.frozen?_alloc_past

set_option maxRecDepth 100000 in
set_option maxHeartbeats 4000000 in
theorem last_impl {w0 w : World} {R : Nat} {vi vw : Value} {o : List TI} {W : List Int} {wh : Bool} (h : Yd w0 w R vi vw o W wh) (t : Int) (ht : topK W = t) :
    Calls Tryd.prog 41 #[.pointer (some ⟨R, 0, none⟩)] w fun e w' => e = .returned (.int .i64 t) ∧ Below w.heap.size w w' := by
  obtain ⟨r0, r1, r2⟩ := h.box.cells
  obtain ⟨ga, c, rfl, hwc, hcm, hg⟩ := h.formW
  have hlt := h.box.lt
  cases W with
  | nil =>
    obtain rfl : 0 = t := ht
    clear h
    simp only [List.length_nil] at r1
    go_enter Tryd.func41, Tryd.ntmps41
    go_wp2
    go_ret
    exact ⟨rfl, Below.refl _ _⟩
  | cons k W =>
    obtain rfl : k = t := ht
    obtain ⟨g, rfl⟩ := hg (by simp)
    have hc := h.ownW.cellAt W.length (by simp)
    rw [ksV_cons, List.getElem?_append_right (by rw [ksV_len]; exact Nat.le_refl _), ksV_len, Nat.sub_self, List.getElem?_cons_zero] at hc
    obtain ⟨m, hm⟩ : ∃ m, (k :: W).length = m := ⟨_, rfl⟩
    have hm1 : W.length = m - 1 := by rw [← hm]; simp
    rw [hm] at r1 hwc
    rw [hm1] at hc
    have hm0 : 0 < m := by rw [← hm]; simp
    unfold maxLen at hcm
    obtain ⟨j, rfl⟩ : ∃ j, m = j + 1 := ⟨m - 1, by omega⟩
    rw [Nat.add_sub_cancel] at hc
    have hj1 : ((j + 1 : Nat) : Int) - 1 = (j : Int) := by omega
    have hj2 : (((j + 1 : Nat) : Int) == 0) = false := by simpa using (show ¬ ((j + 1 : Nat) : Int) = 0 by omega)
    have hj3 : (j : Int) < ((j + 1 : Nat) : Int) := by omega
    have hj4 : (0 : Int) ≤ (j : Int) := by omega
    clear h hm hm1 hg
    go_enter Tryd.func41, Tryd.ntmps41
    go_wp2_with fail
    go_quiet (fail)
    rename_i nq _
    go_wp2
    go_ret
    exact ⟨rfl, belowN (Below.refl _ _) nq⟩
theorem kindS_first {s : ByteArray} {k : Int} (hk : 3 ≤ k ∧ k ≤ 12) (h : s = sgn k) : kindS s = k := by subst h; exact kindS_sgn hk
theorem kindS_none {s : ByteArray} (h : ∀ j : Int, 3 ≤ j → j ≤ 12 → s ≠ sgn j) : kindS s = 0 := by
  unfold kindS
  rw [if_neg (h 3 (by omega) (by omega)), if_neg (h 4 (by omega) (by omega)), if_neg (h 5 (by omega) (by omega)), if_neg (h 6 (by omega) (by omega)), if_neg (h 7 (by omega) (by omega)), if_neg (h 8 (by omega) (by omega)), if_neg (h 9 (by omega) (by omega)), if_neg (h 10 (by omega) (by omega)), if_neg (h 11 (by omega) (by omega)), if_neg (h 12 (by omega) (by omega))]
set_option maxRecDepth 100000 in
set_option maxHeartbeats 4000000 in
theorem kind_impl (s : ByteArray) (kd : Int) (hk : kindS s = kd) (w : World) (hs : SgnAt w) :
    Calls Tryd.prog 24 #[.string s] w fun e w' => e = .returned (.int .i64 kd) ∧ w' = w := by
  have HS : Hid (SgnAt w) := hs
  have HK : Hid (kindS s = kd) := hk
  clear hs hk
  go_enter Tryd.func24, Tryd.ntmps24
  go_wp2
  go_loopw [3] (fun kk wr => ∃ k : Nat, 3 ≤ k ∧ k ≤ 13 ∧ kk = .int .i64 k ∧ Hid (∀ j : Int, 3 ≤ j → j < k → s ≠ sgn j) ∧ wr = w) (fun kk _ => 13 - (intOf kk).toNat)
  case atStart => exact ⟨3, by omega, by omega, rfl, fun j h1 h2 => by omega, rfl⟩
  case round =>
    obtain ⟨k, h3, h13, rfl, hno, hwr⟩ := hrel
    obtain rfl : w = wr := hwr.symm
    by_cases hlt : k ≤ 12
    · have hi1 : (k : Int) ≤ 12 := by omega
      have hi0 : (0 : Int) ≤ (k : Int) := by omega
      have hi2 : (k : Int) < 13 := by omega
      have hc := HS.out.cell k (by omega)
      have hsg : sgn0 k = sgn (k : Int) := by unfold sgn0; rw [if_neg (by omega)]
      rw [hsg] at hc
      have hg0 := HS.out.lt
      by_cases he : s = sgn (k : Int)
      · obtain rfl : (k : Int) = kd := by rw [← HK.out]; exact (kindS_first (by omega) he).symm
        rw [← he] at hc
        have hee : (s.toList == s.toList) = true := by simp
        clear hno he
        go_wp2
        go_ret
        exact ⟨rfl, rfl⟩
      · obtain ⟨q, hq⟩ : ∃ q, sgn (k : Int) = q := ⟨_, rfl⟩
        rw [hq] at hc
        have hee : (q.toList == s.toList) = false := by
          rw [Lib.toList_data, Lib.toList_data, beq_eq_false_iff_ne]
          exact fun e => he (by rw [hq]; exact (bytes_ext e).symm)
        have HNo : Hid (∀ j : Int, 3 ≤ j → j < ((k + 1 : Nat) : Int) → s ≠ sgn j) := by
          have : ∀ j : Int, 3 ≤ j → j < ((k + 1 : Nat) : Int) → s ≠ sgn j := fun j h1 h2 => by
            by_cases e : j = (k : Int)
            · rw [e]; exact he
            · exact hno.out j h1 (by omega)
          exact this
        clear hno he hq
        go_wp2
        go_roundw
        case rel => exact ⟨k + 1, by omega, by omega, by go_num, HNo, by first | rfl | trivial⟩
        case measure => simp [intOf]; omega
    · have hi1 : ¬ (k : Int) ≤ 12 := by omega
      obtain rfl : (0 : Int) = kd := by
        rw [← HK.out]
        exact (kindS_none (fun j h1 h2 => hno.out j h1 (by omega))).symm
      clear hno
      go_wp2
      go_ret
      exact ⟨rfl, rfl⟩
def SetRel (w0 : World) (R g : Nat) (o : List TI) (W : List Int) (wh : Bool) (wr : World) : Prop := ∃ v1 v2 o1 W1, Yd w0 wr R v1 v2 o1 W1 wh ∧ o1.length + W1.length ≤ 1048576 ∧ settleW g o1 W1 = settleW g o W
set_option maxRecDepth 100000 in
set_option maxHeartbeats 4000000 in
theorem settle_impl {w0 w : World} {R : Nat} {vi vw : Value} {o : List TI} {W : List Int} {wh : Bool} (h : Yd w0 w R vi vw o W wh) (hm : o.length + W.length ≤ 1048576) (g : Nat) (hg : 1 ≤ g ∧ g ≤ 8) :
    Calls Tryd.prog 28 #[.pointer (some ⟨R, 0, none⟩), .int .i64 (g : Int)] w fun e w' => e = .returned (.tuple #[]) ∧ ∃ vi' vw', Yd w0 w' R vi' vw' (settleW g o W).1 (settleW g o W).2 wh := by
  obtain ⟨i0, hti, hz0, hz1, hz2⟩ := info_parts infoItm5
  have H : Hid (Yd w0 w R vi vw o W wh) := h
  clear h
  go_enter Tryd.func28, Tryd.ntmps28
  go_wp2_with fail
  go_loopw [] (fun wr => SetRel w0 R g o W wh wr) (fun wr => waitOf R wr)
  case atStart => exact ⟨vi, vw, o, W, H.out, hm, rfl⟩
  case round =>
    clear H
    obtain ⟨v1, v2, o1, W1, hY, hm1, hset⟩ := hrel
    have Y1 : Hid (Yd w0 wr R v1 v2 o1 W1 wh) := hY
    have HSet : Hid (settleW g o1 W1 = settleW g o W) := hset
    have HW : Hid (waitOf R wr = W1.length) := hY.waitOf
    obtain ⟨t, ht⟩ : ∃ t, topK W1 = t := ⟨_, rfl⟩
    have HT : Hid (topK W1 = t) := ht
    obtain ⟨b, hb⟩ : ∃ b, bindK t = b := ⟨_, rfl⟩
    have HB : Hid (bindK t = b) := hb
    clear hY hset ht hb
    go_wp2_with fail
    refine (last_impl Y1.out t HT.out).mono ?_
    rintro e w1 ⟨rfl, hb1⟩
    have Y2 : Hid (Yd w0 w1 R v1 v2 o1 W1 wh) := Y1.out.below hb1
    clear Y1 hb1
    go_wp2_with fail
    refine (binding_impl t b HB.out _).mono ?_
    rintro e w2 ⟨rfl, hw2⟩
    obtain rfl : w1 = w2 := hw2.symm
    by_cases hgb : g ≤ b
    · have hgb2 : (g : Int) ≤ (b : Int) := by omega
      cases W1 with
      | nil =>
        exfalso
        have h1 : t = 0 := HT.out.symm
        have h2 := HB.out
        rw [h1] at h2
        have h3 : bindK 0 = 0 := rfl
        omega
      | cons k W2 =>
        obtain rfl : k = t := HT.out
        have HSet2 : Hid (settleW g (o1 ++ [opI k]) W2 = settleW g o W) := by
          have : settleW g (o1 ++ [opI k]) W2 = settleW g o W := by rw [← HSet.out, settle_cons (by rw [HB.out]; exact hgb)]
          exact this
        have hm2 : o1.length + (W2.length + 1) ≤ 1048576 := by simpa using hm1
        obtain ⟨r0, r1, r2⟩ := Y2.out.box.cells
        have hR1 := Y2.out.box.lt
        have hn1 : w1.heap.size ≠ R := by omega
        clear HSet HT
        go_wp2_with fail
        refine wp_region_until (z := 12) (S := (fun w' => w'.cell? ⟨R, 0, none⟩ = some v1)) (by kernel_rfl) ?_ (fun hHeld => ?_)
        · (((try dsimp only); (repeat' apply And.intro) <;> first | (go_keep; done) | (simp (disch := first | omega | (simp <;> omega) | fail) [*]; done) | fail))
        refine wpAnyU_take (i := 0) (by simp only [List.getElem?_toArray, List.getElem?_cons_zero]; rfl) (by kernel_rfl) (by kernel_rfl) (by kernel_rfl) (by kernel_rfl) (by intro _ _ _ h; exact h) (Or.inl ⟨by rfl, fun w hSw => by (dsimp only at hSw; go_simp; (try with_reducible rfl))⟩) (by assumption) ?_
        simp only [Act.put, List.setIfInBounds_toArray, List.set_cons_zero, List.set_cons_succ]
        refine wpAnyU_take (i := 1) (by simp only [List.getElem?_toArray, List.getElem?_cons_zero, List.getElem?_cons_succ]; rfl) (by kernel_rfl) (by kernel_rfl) (by kernel_rfl) (by kernel_rfl) (by intro _ _ _ h; exact h) (Or.inl ⟨by rfl, fun w hSw => by (dsimp only at hSw; go_simp; (try with_reducible rfl))⟩) (by assumption) ?_
        simp only [Act.put, List.setIfInBounds_toArray, List.set_cons_zero, List.set_cons_succ]
        refine wpAnyU_take (i := 2) (by simp only [List.getElem?_toArray, List.getElem?_cons_zero, List.getElem?_cons_succ]; rfl) (by kernel_rfl) (by kernel_rfl) (by kernel_rfl) (by kernel_rfl) (by intro _ _ _ h; exact h) (Or.inl ⟨by rfl, fun w hSw => by (dsimp only at hSw; go_simp; (try with_reducible rfl))⟩) (by assumption) ?_
        simp only [Act.put, List.setIfInBounds_toArray, List.set_cons_zero, List.set_cons_succ]
        refine wpAnyU_take (i := 3) (by simp only [List.getElem?_toArray, List.getElem?_cons_zero, List.getElem?_cons_succ]; rfl) (by kernel_rfl) (by kernel_rfl) (by kernel_rfl) (by kernel_rfl) (by intro _ _ _ h; exact h) (Or.inl ⟨by rfl, fun w hSw => by (dsimp only at hSw; go_simp; (try with_reducible rfl))⟩) (by assumption) ?_
        simp only [Act.put, List.setIfInBounds_toArray, List.set_cons_zero, List.set_cons_succ]
        refine wpAnyU_take (i := 4) (by simp only [List.getElem?_toArray, List.getElem?_cons_zero, List.getElem?_cons_succ]; rfl) (by kernel_rfl) (by kernel_rfl) (by kernel_rfl) (by kernel_rfl) (by intro _ _ _ h; exact h) (Or.inl ⟨by rfl, fun w hSw => by (dsimp only at hSw; go_simp; (try with_reducible rfl))⟩) (by assumption) ?_
        simp only [Act.put, List.setIfInBounds_toArray, List.set_cons_zero, List.set_cons_succ]
        refine wpAnyU_take (i := 5) (by simp only [List.getElem?_toArray, List.getElem?_cons_zero, List.getElem?_cons_succ]; rfl) (by kernel_rfl) (by kernel_rfl) (by kernel_rfl) (by kernel_rfl) (by intro _ _ _ h; exact h) (Or.inl ⟨by rfl, fun w hSw => by (dsimp only at hSw; go_simp; (try with_reducible rfl))⟩) (by assumption) ?_
        simp only [Act.put, List.setIfInBounds_toArray, List.set_cons_zero, List.set_cons_succ]
        refine wpAnyU_one (i := 6) (by kernel_rfl) (by simp only [List.getElem?_toArray, List.getElem?_cons_zero, List.getElem?_cons_succ]; rfl) ?_
        intro K hK
        go_simp
        refine (last_impl (Y2.out.below (Below.refl _ _).drew) k rfl).mono ?_
        rintro e w3 ⟨rfl, hb3⟩
        have Y3 : Hid (Yd w0 w3 R v1 v2 o1 (k :: W2) wh) := (Y2.out.below (Below.refl _ _).drew).below hb3
        clear Y2 hb3 r0 r1 r2 hR1 hn1 hHeld
        obtain ⟨r0, r1, r2⟩ := Y3.out.box.cells
        have hR3 := Y3.out.box.lt
        have hn3 : w3.heap.size ≠ R := by omega
        go_wp2_with fail
        refine hK.out _ _ ?_ (fun hHeld => ?_)
        · (((try dsimp only); (repeat' apply And.intro) <;> first | assumption | (simp (disch := first | omega | (simp <;> omega) | fail) [*]; done) | fail))
        clear hK K
        try simp only [Act.put, List.setIfInBounds_toArray, List.set_cons_zero, List.set_cons_succ]
        refine wpAnyU_take (i := 7) (by simp only [List.getElem?_toArray, List.getElem?_cons_zero, List.getElem?_cons_succ]; rfl) (by kernel_rfl) (by kernel_rfl) (by kernel_rfl) (by kernel_rfl) (by intro _ _ _ h; exact h) (Or.inl ⟨by rfl, fun w hSw => by (dsimp only at hSw; go_simp; (try with_reducible rfl))⟩) (by assumption) ?_
        simp only [Act.put, List.setIfInBounds_toArray, List.set_cons_zero, List.set_cons_succ]
        refine wpAnyU_one (i := 8) (by kernel_rfl) (by simp only [List.getElem?_toArray, List.getElem?_cons_zero, List.getElem?_cons_succ]; rfl) ?_
        intro K hK
        go_simp
        refine hK.out _ _ ?_ (fun hHeld => ?_)
        · (((try dsimp only); (repeat' apply And.intro) <;> first | (go_keep; done) | (simp (disch := first | omega | (simp <;> omega) | fail) [*]; done) | fail))
        clear hK K
        try simp only [Act.put, List.setIfInBounds_toArray, List.set_cons_zero, List.set_cons_succ]
        refine wpAnyU_one (i := 9) (by kernel_rfl) (by simp only [List.getElem?_toArray, List.getElem?_cons_zero, List.getElem?_cons_succ]; rfl) ?_
        intro K hK
        rw [if_pos (by rfl)]
        refine wp_append_own _ _ _ 29 rfl w0.heap.size 46 i0 (.agg #[.int .i64 0, .int .i64 0, .int .i64 0, .string ⟨#[]⟩, .string ⟨#[]⟩]) 5 56 Tryd.underlying29 hti hz0 hz1 hz2 rfl (by decide) v1 o1.length (flatItm o1) rfl (Y3.out.ownI.alloc _) ⟨w3.heap.size, 0, none⟩ 1 1 [.int .i64 k, .int .i64 0, .int .i64 0, .string ⟨#[]⟩, .string ⟨#[]⟩] rfl rfl (cells5I w3 _ _ _ _ _) (by intro u hu; simp at hu; rcases hu with rfl | rfl | rfl | rfl | rfl <;> rfl) (by unfold maxLen; omega) (by omega) (by have := Y3.out.kept.size; simp; omega) ?_
        intro v' w5 own5 hgrow hnn
        obtain ⟨gv, cv, hv', hbx, hfin⟩ := Y3.out.pushI _ (opI k) own5 hgrow
        subst hv'
        obtain ⟨L, hL⟩ : ∃ L, o1.length + 1 = L := ⟨_, rfl⟩
        rw [hL] at hfin
        have Y4 : Hid (Yd w0 (w5.setCell ⟨R, 0, none⟩ (.slice (some ⟨gv, 0, none⟩) L cv)) R (.slice (some ⟨gv, 0, none⟩) L cv) v2 (o1 ++ [opI k]) (k :: W2) wh) := hfin
        clear r0 r1 r2 hR3 hn3 hHeld
        obtain ⟨s0, s1, s2⟩ := hbx.cells
        obtain ⟨g1, g2, g3⟩ := hbx.free
        rw [hL]
        clear own5 hgrow hnn hbx hfin hL Y3
        refine hK.out _ _ ?_ (fun hHeld => ?_)
        · (((try dsimp only); (repeat' apply And.intro) <;> first | assumption | (simp (disch := first | omega | (simp <;> omega) | fail) [*]; done) | fail))
        clear hK K
        try simp only [Act.put, List.setIfInBounds_toArray, List.set_cons_zero, List.set_cons_succ]
        refine wpAnyU_one (i := 10) (by kernel_rfl) (by simp only [List.getElem?_toArray, List.getElem?_cons_zero, List.getElem?_cons_succ]; rfl) ?_
        intro K hK
        go_simp
        refine hK.out _ _ ?_ (fun hHeld => ?_)
        · (((try dsimp only); (repeat' apply And.intro) <;> first | (go_keep; done) | (simp (disch := first | omega | (simp <;> omega) | fail) [*]; done) | fail))
        clear hK K
        try simp only [Act.put, List.setIfInBounds_toArray, List.set_cons_zero, List.set_cons_succ]
        refine wpAnyU_take (i := 11) (by simp only [List.getElem?_toArray, List.getElem?_cons_zero, List.getElem?_cons_succ]; rfl) (by kernel_rfl) (by kernel_rfl) (by kernel_rfl) (by kernel_rfl) (by intro _ _ _ h; exact h) (Or.inl ⟨by rfl, fun w hSw => by (dsimp only at hSw; go_simp; (try with_reducible rfl))⟩) (by assumption) ?_
        simp only [Act.put, List.setIfInBounds_toArray, List.set_cons_zero, List.set_cons_succ]
        refine wpAnyU_last (by kernel_rfl) (by simp only [List.getElem?_toArray, List.getElem?_cons_zero, List.getElem?_cons_succ]; rfl) ?_
        intro K hK
        go_simp
        refine hK.out _ _ ?_
        clear hK K
        try simp only [Act.put, List.setIfInBounds_toArray, List.set_cons_zero, List.set_cons_succ]
        refine wpAnyU_done (by kernel_rfl) ?_ _
        obtain ⟨V, hV⟩ : ∃ V, V = w5.setCell ⟨R, 0, none⟩ (.slice (some ⟨gv, 0, none⟩) L cv) := ⟨_, rfl⟩
        rw [← hV] at Y4 ⊢
        clear hV s0 s1 s2 g1 g2 g3
        obtain ⟨r0, r1, r2⟩ := Y4.out.box.cells
        obtain ⟨f0, f1, f2⟩ := Y4.out.box.free
        obtain ⟨ga, c, rfl, hwc, hcm, hgs⟩ := Y4.out.formW
        obtain ⟨gw, rfl⟩ := hgs (by simp)
        have Y5 : Hid (Yd w0 (V.setCell ⟨R, 1, none⟩ (.slice (some ⟨gw, 0, none⟩) W2.length c)).drew R (.slice (some ⟨gv, 0, none⟩) L cv) (.slice (some ⟨gw, 0, none⟩) W2.length c) (o1 ++ [opI k]) W2 wh) := (Y4.out.cut).below (Below.refl _ _).drew
        unfold maxLen at hcm
        simp only [List.length_cons] at r1 hwc
        obtain ⟨m, hm⟩ : ∃ m, W2.length = m := ⟨_, rfl⟩
        have HM : Hid (W2.length = m) := hm
        rw [hm] at r1 hwc hm2 Y5
        have hj1 : ((m + 1 : Nat) : Int) - 1 = (m : Int) := by omega
        have hj3 : (m : Int) ≤ ((m + 1 : Nat) : Int) := by omega
        have hj4 : (0 : Int) ≤ (m : Int) := by omega
        have hj5 : (m : Int) ≤ (c : Int) := by omega
        have hRV := Y4.out.box.lt
        have hwk : IntKind.i64.wrap (m : Int) = (m : Int) := by rw [IntKind.wrap_i64]; omega
        clear hm hgs Y4
        go_wp2_with fail
        refine wp_region_until (z := 14) (S := (fun w' => w'.cell? ⟨R, 1, none⟩ = some (.slice (some ⟨gw, 0, none⟩) (m + 1) c))) (by kernel_rfl) ?_ (fun hHeld => ?_)
        · (((try dsimp only); (repeat' apply And.intro) <;> first | (go_keep; done) | (simp (disch := first | omega | (simp <;> omega) | fail) [*]; done) | fail))
        refine wpAnyU_take (i := 0) (by simp only [List.getElem?_toArray, List.getElem?_cons_zero]; rfl) (by kernel_rfl) (by kernel_rfl) (by kernel_rfl) (by kernel_rfl) (by intro _ _ _ h; exact h) (Or.inl ⟨by rfl, fun w hSw => by (dsimp only at hSw; go_simp; (try with_reducible rfl))⟩) (by assumption) ?_
        simp only [Act.put, List.setIfInBounds_toArray, List.set_cons_zero, List.set_cons_succ]
        refine wpAnyU_take (i := 1) (by simp only [List.getElem?_toArray, List.getElem?_cons_zero, List.getElem?_cons_succ]; rfl) (by kernel_rfl) (by kernel_rfl) (by kernel_rfl) (by kernel_rfl) (by intro _ _ _ h; exact h) (Or.inl ⟨by rfl, fun w hSw => by (dsimp only at hSw; go_simp; (try with_reducible rfl))⟩) (by assumption) ?_
        simp only [Act.put, List.setIfInBounds_toArray, List.set_cons_zero, List.set_cons_succ]
        refine wpAnyU_take (i := 2) (by simp only [List.getElem?_toArray, List.getElem?_cons_zero, List.getElem?_cons_succ]; rfl) (by kernel_rfl) (by kernel_rfl) (by kernel_rfl) (by kernel_rfl) (by intro _ _ _ h; exact h) (Or.inl ⟨by rfl, fun w hSw => by (dsimp only at hSw; go_simp; (try with_reducible rfl))⟩) (by assumption) ?_
        simp only [Act.put, List.setIfInBounds_toArray, List.set_cons_zero, List.set_cons_succ]
        refine wpAnyU_take (i := 3) (by simp only [List.getElem?_toArray, List.getElem?_cons_zero, List.getElem?_cons_succ]; rfl) (by kernel_rfl) (by kernel_rfl) (by kernel_rfl) (by kernel_rfl) (by intro _ _ _ h; exact h) (Or.inl ⟨by rfl, fun w hSw => by (dsimp only at hSw; go_simp; (try with_reducible rfl))⟩) (by assumption) ?_
        simp only [Act.put, List.setIfInBounds_toArray, List.set_cons_zero, List.set_cons_succ]
        refine wpAnyU_take (i := 4) (by simp only [List.getElem?_toArray, List.getElem?_cons_zero, List.getElem?_cons_succ]; rfl) (by kernel_rfl) (by kernel_rfl) (by kernel_rfl) (by kernel_rfl) (by intro _ _ _ h; exact h) (Or.inl ⟨by rfl, fun w hSw => by (dsimp only at hSw; go_simp; (try with_reducible rfl))⟩) (by assumption) ?_
        simp only [Act.put, List.setIfInBounds_toArray, List.set_cons_zero, List.set_cons_succ]
        refine wpAnyU_take (i := 5) (by simp only [List.getElem?_toArray, List.getElem?_cons_zero, List.getElem?_cons_succ]; rfl) (by kernel_rfl) (by kernel_rfl) (by kernel_rfl) (by kernel_rfl) (by intro _ _ _ h; exact h) (Or.inl ⟨by rfl, fun w hSw => by (dsimp only at hSw; go_simp; (try with_reducible rfl))⟩) (by assumption) ?_
        simp only [Act.put, List.setIfInBounds_toArray, List.set_cons_zero, List.set_cons_succ]
        refine wpAnyU_take (i := 6) (by simp only [List.getElem?_toArray, List.getElem?_cons_zero, List.getElem?_cons_succ]; rfl) (by kernel_rfl) (by kernel_rfl) (by kernel_rfl) (by kernel_rfl) (by intro _ _ _ h; exact h) (Or.inl ⟨by rfl, fun w hSw => by (dsimp only at hSw; go_simp; (try with_reducible rfl))⟩) (by assumption) ?_
        simp only [Act.put, List.setIfInBounds_toArray, List.set_cons_zero, List.set_cons_succ]
        refine wpAnyU_take (i := 7) (by simp only [List.getElem?_toArray, List.getElem?_cons_zero, List.getElem?_cons_succ]; rfl) (by kernel_rfl) (by kernel_rfl) (by kernel_rfl) (by kernel_rfl) (by intro _ _ _ h; exact h) (Or.inl ⟨by rfl, fun w hSw => by (dsimp only at hSw; go_simp; (try with_reducible rfl))⟩) (by assumption) ?_
        simp only [Act.put, List.setIfInBounds_toArray, List.set_cons_zero, List.set_cons_succ]
        refine wpAnyU_take (i := 8) (by simp only [List.getElem?_toArray, List.getElem?_cons_zero, List.getElem?_cons_succ]; rfl) (by kernel_rfl) (by kernel_rfl) (by kernel_rfl) (by kernel_rfl) (by intro _ _ _ h; exact h) (Or.inl ⟨by rfl, fun w hSw => by (dsimp only at hSw; go_simp; (try with_reducible rfl))⟩) (by assumption) ?_
        simp only [Act.put, List.setIfInBounds_toArray, List.set_cons_zero, List.set_cons_succ]
        refine wpAnyU_take (i := 9) (by simp only [List.getElem?_toArray, List.getElem?_cons_zero, List.getElem?_cons_succ]; rfl) (by kernel_rfl) (by kernel_rfl) (by kernel_rfl) (by kernel_rfl) (by intro _ _ _ h; exact h) (Or.inl ⟨by rfl, fun w hSw => by (dsimp only at hSw; go_simp; (try with_reducible rfl))⟩) (by assumption) ?_
        simp only [Act.put, List.setIfInBounds_toArray, List.set_cons_zero, List.set_cons_succ]
        refine wpAnyU_take (i := 10) (by simp only [List.getElem?_toArray, List.getElem?_cons_zero, List.getElem?_cons_succ]; rfl) (by kernel_rfl) (by kernel_rfl) (by kernel_rfl) (by kernel_rfl) (by intro _ _ _ h; exact h) (Or.inl ⟨by rfl, fun w hSw => by (dsimp only at hSw; go_simp; (try with_reducible rfl))⟩) (by assumption) ?_
        simp only [Act.put, List.setIfInBounds_toArray, List.set_cons_zero, List.set_cons_succ]
        refine wpAnyU_take (i := 11) (by simp only [List.getElem?_toArray, List.getElem?_cons_zero, List.getElem?_cons_succ]; rfl) (by kernel_rfl) (by kernel_rfl) (by kernel_rfl) (by kernel_rfl) (by intro _ _ _ h; exact h) (Or.inl ⟨by rfl, fun w hSw => by (dsimp only at hSw; go_simp; (try with_reducible rfl))⟩) (by assumption) ?_
        simp only [Act.put, List.setIfInBounds_toArray, List.set_cons_zero, List.set_cons_succ]
        refine wpAnyU_one (i := 12) (by kernel_rfl) (by simp only [List.getElem?_toArray, List.getElem?_cons_zero, List.getElem?_cons_succ]; rfl) ?_
        intro K hK
        go_simp
        refine hK.out _ _ ?_ (fun hHeld => ?_)
        · (((try dsimp only); (repeat' apply And.intro) <;> first | (go_keep; done) | (simp (disch := first | omega | (simp <;> omega) | fail) [*]; done) | fail))
        clear hK K
        try simp only [Act.put, List.setIfInBounds_toArray, List.set_cons_zero, List.set_cons_succ]
        refine wpAnyU_take (i := 13) (by simp only [List.getElem?_toArray, List.getElem?_cons_zero, List.getElem?_cons_succ]; rfl) (by kernel_rfl) (by kernel_rfl) (by kernel_rfl) (by kernel_rfl) (by intro _ _ _ h; exact h) (Or.inl ⟨by rfl, fun w hSw => by (dsimp only at hSw; go_simp; (try with_reducible rfl))⟩) (by assumption) ?_
        simp only [Act.put, List.setIfInBounds_toArray, List.set_cons_zero, List.set_cons_succ]
        refine wpAnyU_last (by kernel_rfl) (by simp only [List.getElem?_toArray, List.getElem?_cons_zero, List.getElem?_cons_succ]; rfl) ?_
        intro K hK
        go_simp
        refine hK.out _ _ ?_
        clear hK K
        try simp only [Act.put, List.setIfInBounds_toArray, List.set_cons_zero, List.set_cons_succ]
        refine wpAnyU_done (by kernel_rfl) ?_ _
        obtain ⟨V6, hV6⟩ : ∃ V6, V6 = (V.setCell ⟨R, 1, none⟩ (.slice (some ⟨gw, 0, none⟩) m c)).drew := ⟨_, rfl⟩
        rw [← hV6] at Y5 ⊢
        have HMes : Hid (waitOf R V6 < waitOf R wr) := by
          have : waitOf R V6 < waitOf R wr := by
            rw [Y5.out.waitOf, HW.out]; simp
          exact this
        have HRel : Hid (SetRel w0 R g o W wh V6) := ⟨_, _, _, _, Y5.out, by rw [List.length_append, HM.out]; simp; omega, HSet2.out⟩
        clear hV6 r0 r1 r2 f0 f1 f2 Y5 hHeld
        go_wp2_with fail
        go_roundw
        case rel => exact HRel.out
        case measure => exact HMes.out
    · have hgb2 : ¬ (g : Int) ≤ (b : Int) := by omega
      have fin : Hid (∃ vi' vw', Yd w0 w1 R vi' vw' (settleW g o W).1 (settleW g o W).2 wh) := by
        have : ∃ vi' vw', Yd w0 w1 R vi' vw' (settleW g o W).1 (settleW g o W).2 wh := by
          rw [← HSet.out, settle_none (by rw [HT.out, HB.out]; omega)]
          exact ⟨v1, v2, Y2.out⟩
        exact this
      clear Y2 HSet HT HW HB
      go_wp2_with fail
      exact bodyPost_end (v := .tuple #[]) (by first | rfl | kernel_rfl) rfl ⟨rfl, fin.out⟩
end Go.Proofs.YtfokdblojlmnlabDoor
