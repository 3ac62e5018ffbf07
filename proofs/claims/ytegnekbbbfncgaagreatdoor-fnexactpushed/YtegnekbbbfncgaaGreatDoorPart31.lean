/-
  A part of the proof: CopyT.
-/
import Derived.Test.YtegnekbbbfncgaaGreatDoorPart28
import Derived.Laws.CopyOwn
import Derived.Laws.IdiomCopy

/-
  The builtin copy of elements of several cells into a row of the call's own, and the program's copied at texts, items and sieves.
-/
namespace Go.Proofs.YtegnekbbbfncgaaGreatDoor
open Go.ChangeShapes Go.WideShapes Go.ChangeAt Go.RowKit
attribute [local go_sem ↓] Go.wp_at_zero Go.wp_at_succ
attribute [local simp] World.cell?_alloc_past World.cell?_alloc_at World.frozen?_alloc_at cell_far cell_off cell_here World.frozen?_alloc_past

theorem run_copy_wide {P : Program} (w : World) (dT sT ty elem : TypeId) (sz g n dCap : Nat) (a : Addr) (sCap : Nat) (cur : Array Value) (t : TypeId) (cs : List Value)
    (hu : P.underlying dT = some (.slice elem)) (hs : (P.info? elem).map (·.size) = some sz)
    (hg : w.heap[g]? = some (.cells cur t (0, 0))) (hn : cs.length = n * sz)
    (hsrc : ∀ j v, cs[j]? = some v → w.cell? (a.add j) = some v) (hfit : cs.length ≤ cur.size) (h1 : ∀ v ∈ cs, v.oneCell' = true) :
    (Builtin.copy_ #[dT, sT] ty #[.slice (some ⟨g, 0, none⟩) n dCap, .slice (some a) n sCap]).run P w =
      .ok (goInt n) (w.setRow g (cs ++ cur.toList.drop cs.length).toArray) := by
  have hl := run_loadCells_list (P := P) w a cs hsrc
  have hst := run_storeCells_at P g 0 t cs 0 cur w hg (by simpa using hfit) h1
  simp only [Nat.zero_add, Nat.add_zero, List.take_zero, List.nil_append] at hst
  cases hq : P.info? elem with
  | none => simp [hq] at hs
  | some i =>
    have hi : i.size = sz := by simpa [hq] using hs
    simp [Builtin.copy_, run_underlying hu, Builtin.lenOf, Builtin.firstCells, sizeOf, typeInfo, hq, hi, ← hn, hl, hst]
/-- A row of one's own, copied over from another list. -/
theorem run_copy_over {P : Program} {w : World} (dT sT ty e : TypeId) (sz base g n c : Nat) (xs : List Value) (hown : w.ownsRow base e sz (.slice (some ⟨g, 0, none⟩) n c) n xs) (a : Addr) (sCap : Nat) (cs : List Value)
    (hu : P.underlying dT = some (.slice e)) (hs : (P.info? e).map (·.size) = some sz) (hn : cs.length = n * sz)
    (hsrc : ∀ j v, cs[j]? = some v → w.cell? (a.add j) = some v) (h1 : ∀ v ∈ cs, v.oneCell' = true) :
    ∃ w', (Builtin.copy_ #[dT, sT] ty #[.slice (some ⟨g, 0, none⟩) n c, .slice (some a) n sCap]).run P w = .ok (goInt n) w' ∧ w'.ownsRow base e sz (.slice (some ⟨g, 0, none⟩) n c) n cs ∧ KeepS (fun b => b = g) w w' := by
  rcases hown.2 with ⟨e0, _⟩ | ⟨g', c', cur, e0, hb, hg, hc, hM, hcs, htk⟩
  · cases e0
  injection e0 with e1 _ e2
  injection e1 with e1
  injection e1 with e1
  subst e1 e2
  have hfit : cs.length ≤ cur.size := by rw [hn, hcs]; exact Nat.mul_le_mul_right _ hc
  refine ⟨_, run_copy_wide w dT sT ty e sz g n c a sCap cur e cs hu hs hg hn hsrc hfit h1, ⟨hn, .inr ⟨g, c, (cs ++ cur.toList.drop cs.length).toArray, rfl, hb, setRow_heap w g cur _ e _ hg, hc, hM, ?_, ?_⟩⟩, ?_⟩
  · simp only [List.size_toArray, List.length_append, List.length_drop, Array.length_toList]
    omega
  · rw [List.toList_toArray, ← hn, List.take_left]
  · refine ⟨rfl, rfl, rfl, by simp [World.setRow], fun k hk hne => ?_⟩
    simp only [World.setRow, Array.getElem?_modify]
    rw [if_neg (fun h => hne h.symm)]
theorem wpList_call {P : Program} {w : World} {ops : Array Oper} {rest : List Oper} {o : Oper} {a : Act} {Q : Exit → Act → World → Prop} (hgd : o.guard = none) (d s : Operand) (t u : TypeId)
    (ho : o.op = .call { callee := .builtin .copy, args := #[d, s], argTypes := #[t, u] }) (vd vs : Value) (hd : a.eval d = vd) (hs : a.eval s = vs) (v' : Value) (w' : World)
    (hr : (Builtin.copy_ #[t, u] o.type #[vd, vs]).run P w = .ok v' w') (h : wpList P ops Q rest (a.put o.dst v') w') : wpList P ops Q (o :: rest) a w := by
  refine wpList_plain hgd fun K hK => ?_
  unfold Oper.wp execOp
  simp only [ho, resolve, invoke, builtin, Sem.run_bind, Sem.run_pure, Result.andThen_ok, List.map_toArray, List.map_cons, List.map_nil, hd, hs, hr]
  exact hK _ _ h

theorem strs_cells {w : World} {b o : Nat} {l : List ByteArray} (h : StrsAt w (some ⟨b, o, none⟩) l) : ∀ j u, (strV l)[j]? = some u → w.cell? ((⟨b, o, none⟩ : Addr).add j) = some u := by
  intro j u hj
  have hl : j < l.length := by
    have := (List.getElem?_eq_some_iff.1 hj).1
    simpa [strV] using this
  obtain ⟨b', o', e, _, c⟩ := h j hl
  injection e with e
  injection e with e1 e2
  subst e1 e2
  rw [addr_addS, c, ← hj]
  simp [strV, hl]
theorem strs_one {l : List ByteArray} {u : Value} (h : u ∈ strV l) : u.oneCell' = true := by
  unfold strV at h
  obtain ⟨x, _, rfl⟩ := List.mem_map.1 h
  rfl
theorem heads_cells {w : World} {b o : Nat} {P : List (SV × HAd)} (h : HeadsIn w (some ⟨b, o, none⟩) P) : ∀ j u, (hvS P)[j]? = some u → w.cell? ((⟨b, o, none⟩ : Addr).add j) = some u := by
  intro j u hj
  have hl : j < P.length * 7 := by
    have := (List.getElem?_eq_some_iff.1 hj).1
    rw [hvS_length] at this
    exact this
  have hi : j / 7 < P.length := by omega
  obtain ⟨b', o', e, _, c⟩ := h.cells (j / 7) hi
  injection e with e
  injection e with e1 e2
  subst e1 e2
  have hc := c (j % 7) (by omega)
  have hat := hvS_at hi (j % 7) (by omega)
  rw [show j / 7 * 7 + j % 7 = j by omega] at hat
  rw [addr_addS, ← show o + j / 7 * 7 + j % 7 = o + j by omega, hc, ← hat, hj]
theorem nil_list {α : Type} {l : List α} (h : ∀ j (_ : j < l.length), False) : l = [] := by
  cases l with
  | nil => rfl
  | cons x l => exact (h 0 (by simp)).elim

set_option maxRecDepth 100000 in
set_option maxHeartbeats 2000000 in
theorem copied_str (a : Option Addr) (cap : Nat) (l : List ByteArray) (n : Nat) (hn : l.length = n) (w : World) (hrow : StrsAt w a l) (hnil : a = none → cap = 0) (hm : n ≤ 1048576) :
    Calls Tryz.prog 206 #[.slice a n cap] w fun e w' => ∃ g, e = .returned (.slice (some ⟨g, 0, none⟩) n n) ∧ w'.ownsRow w.heap.size 9 1 (.slice (some ⟨g, 0, none⟩) n n) n (strV l) ∧ Below w.heap.size w w' := by
  obtain ⟨i0, hi, hz0, hz1, hz2⟩ := info_parts infoTx
  have HR : Hid (StrsAt w a l) := hrow
  have HN : Hid (l.length = n) := hn
  clear hrow hn
  go_enter Tryz.func206, Tryz.ntmps206
  go_wp2_with (at_make; refine wpList_make_full _ rfl _ _ 23 rfl w.heap.size 9 i0 (.string ⟨#[]⟩) 1 Tryz.underlying23 hi hz0 hz1 .i64 .i64 _ _ n rfl rfl rfl rfl ?b2 ?b3 (Nat.le_refl _) ?_)
  case b2 => rw [hz2]; omega
  case b3 => unfold maxLen; omega
  intro w1 hown hgrow
  have hb1 : Below w.heap.size w w1 := (Below.refl _ _).grown hgrow (Nat.le_refl _) (by intro k h; cases h)
  have hw1 := hb1.size
  generalize (madeCells _ _).toList = z at hown
  obtain ⟨w2, hrun, own2, hK⟩ : ∃ w2, (Builtin.copy_ #[23, 23] 3 #[.slice (some ⟨w.heap.size, 0, none⟩) n n, .slice a n cap]).run Tryz.prog w1 = .ok (goInt n) w2 ∧ w2.ownsRow w.heap.size 9 1 (.slice (some ⟨w.heap.size, 0, none⟩) n n) n (strV l) ∧ KeepS (fun b => b = w.heap.size) w1 w2 := by
    cases a with
    | none =>
      have hc := hnil rfl
      have hl : l = [] := nil_list fun j hj => by obtain ⟨b, o, e, _⟩ := HR.out j hj; cases e
      have h0 : n = 0 := by rw [← HN.out, hl]; rfl
      subst hc h0
      refine ⟨w1, run_copy_nil _ w1 _ _ _ _ _ _ _ Tryz.underlying23 (by rw [hi]; rfl), ?_, KeepS.refl _ _⟩
      rw [hl]
      have hz : z = [] := List.eq_nil_of_length_eq_zero (by have := hown.1; omega)
      rw [hz] at hown
      exact hown
    | some ad =>
      obtain ⟨b, o, t⟩ := ad
      have hr : StrsAt w1 (some ⟨b, o, t⟩) l := HR.out.below hb1
      exact run_copy_over _ _ _ _ 1 _ _ _ _ z hown ⟨b, o, t⟩ cap (strV l) Tryz.underlying23 (by rw [hi]; exact congrArg some hz1) (by rw [show (strV l).length = l.length by simp [strV], HN.out, Nat.mul_one]) (fun j u hj => by
        have ht : t = none := by
          have hlen : j < (strV l).length := (List.getElem?_eq_some_iff.1 hj).1
          have hlen2 : (strV l).length = l.length * 1 := by simp [strV]
          have h0 : 0 < l.length := by omega
          exact by obtain ⟨b', o', e, _⟩ := HR.out 0 (by omega); injection e with e; injection e
        subst ht
        exact strs_cells hr j u hj) (fun u hu => strs_one hu)
  have hx : Below w.heap.size w w2 := hb1.trans ⟨hK.os, hK.tape, hK.output, hK.size, fun k hk => hK.block k (by omega) (by omega)⟩
  have OWN : Hid (w2.ownsRow w.heap.size 9 1 (.slice (some ⟨w.heap.size, 0, none⟩) n n) n (strV l)) := own2
  clear hown own2 hK hgrow hb1 HR
  go_wp2_with (at_builtin; refine wpList_call rfl _ _ 23 23 rfl _ _ rfl rfl _ w2 hrun ?_)
  go_wp2
  go_ret
  exact ⟨_, rfl, OWN.out, hx⟩
set_option maxRecDepth 100000 in
set_option maxHeartbeats 2000000 in
theorem copied_itm (a : Option Addr) (cap : Nat) (l : List TI) (n : Nat) (hn : l.length = n) (w : World) (hrow : ItmAt w a l) (hnil : a = none → cap = 0) (hm : n ≤ 1048576) :
    Calls Tryz.prog 207 #[.slice a n cap] w fun e w' => ∃ g, e = .returned (.slice (some ⟨g, 0, none⟩) n n) ∧ w'.ownsRow w.heap.size 124 5 (.slice (some ⟨g, 0, none⟩) n n) n (flatItm l) ∧ Below w.heap.size w w' := by
  obtain ⟨i0, hi, hz0, hz1, hz2⟩ := info_parts infoItm5
  have HR : Hid (ItmAt w a l) := hrow
  have HN : Hid (l.length = n) := hn
  clear hrow hn
  go_enter Tryz.func207, Tryz.ntmps207
  go_wp2_with (at_make; refine wpList_make_full _ rfl _ _ 41 rfl w.heap.size 124 i0 (.agg #[.int .i64 0, .int .i64 0, .int .i64 0, .string ⟨#[]⟩, .string ⟨#[]⟩]) 5 Tryz.underlying41 hi hz0 hz1 .i64 .i64 _ _ n rfl rfl rfl rfl ?b2 ?b3 (Nat.le_refl _) ?_)
  case b2 => rw [hz2]; omega
  case b3 => unfold maxLen; omega
  intro w1 hown hgrow
  have hb1 : Below w.heap.size w w1 := (Below.refl _ _).grown hgrow (Nat.le_refl _) (by intro k h; cases h)
  have hw1 := hb1.size
  generalize (madeCells _ _).toList = z at hown
  obtain ⟨w2, hrun, own2, hK⟩ : ∃ w2, (Builtin.copy_ #[41, 41] 3 #[.slice (some ⟨w.heap.size, 0, none⟩) n n, .slice a n cap]).run Tryz.prog w1 = .ok (goInt n) w2 ∧ w2.ownsRow w.heap.size 124 5 (.slice (some ⟨w.heap.size, 0, none⟩) n n) n (flatItm l) ∧ KeepS (fun b => b = w.heap.size) w1 w2 := by
    cases a with
    | none =>
      have hc := hnil rfl
      have hl : l = [] := nil_list fun j hj => by obtain ⟨b, o, e, _⟩ := HR.out j hj; cases e
      have h0 : n = 0 := by rw [← HN.out, hl]; rfl
      subst hc h0
      refine ⟨w1, run_copy_nil _ w1 _ _ _ _ _ _ _ Tryz.underlying41 (by rw [hi]; rfl), ?_, KeepS.refl _ _⟩
      rw [hl]
      have hz : z = [] := List.eq_nil_of_length_eq_zero (by have := hown.1; omega)
      rw [hz] at hown
      exact hown
    | some ad =>
      obtain ⟨b, o, t⟩ := ad
      have hr : ItmAt w1 (some ⟨b, o, t⟩) l := HR.out.below hb1
      exact run_copy_over _ _ _ _ 5 _ _ _ _ z hown ⟨b, o, t⟩ cap (flatItm l) Tryz.underlying41 (by rw [hi]; exact congrArg some hz1) (by rw [flatItm_length, HN.out]) (fun j u hj => by
        have ht : t = none := by
          have hlen : j < (flatItm l).length := (List.getElem?_eq_some_iff.1 hj).1
          have hlen2 : (flatItm l).length = l.length * 5 := flatItm_length l
          have h0 : 0 < l.length := by omega
          exact by obtain ⟨b', o', e, _⟩ := HR.out 0 (by omega); injection e with e; injection e
        subst ht
        exact flat_itm_cells hr j u hj) (fun u hu => flat_itm_one hu)
  have hx : Below w.heap.size w w2 := hb1.trans ⟨hK.os, hK.tape, hK.output, hK.size, fun k hk => hK.block k (by omega) (by omega)⟩
  have OWN : Hid (w2.ownsRow w.heap.size 124 5 (.slice (some ⟨w.heap.size, 0, none⟩) n n) n (flatItm l)) := own2
  clear hown own2 hK hgrow hb1 HR
  go_wp2_with (at_builtin; refine wpList_call rfl _ _ 41 41 rfl _ _ rfl rfl _ w2 hrun ?_)
  go_wp2
  go_ret
  exact ⟨_, rfl, OWN.out, hx⟩
set_option maxRecDepth 100000 in
set_option maxHeartbeats 2000000 in
theorem copied_siv (a : Option Addr) (cap : Nat) (l : List (SV × HAd)) (n : Nat) (hn : l.length = n) (w : World) (hrow : HeadsIn w a l) (hnil : a = none → cap = 0) (hm : n ≤ 1048576) :
    Calls Tryz.prog 205 #[.slice a n cap] w fun e w' => ∃ g, e = .returned (.slice (some ⟨g, 0, none⟩) n n) ∧ w'.ownsRow w.heap.size 43 7 (.slice (some ⟨g, 0, none⟩) n n) n (hvS l) ∧ Below w.heap.size w w' := by
  obtain ⟨i0, hi, hz0, hz1, hz2⟩ := info_parts infoSV
  have HR : Hid (HeadsIn w a l) := hrow
  have HN : Hid (l.length = n) := hn
  clear hrow hn
  go_enter Tryz.func205, Tryz.ntmps205
  go_wp2_with (at_make; refine wpList_make_full _ rfl _ _ 57 rfl w.heap.size 43 i0 (.agg #[.int .i64 0, .string ⟨#[]⟩, .slice none 0 0, .slice none 0 0, .bool false, .int .i64 0, .int .i64 0]) 7 Tryz.underlying57 hi hz0 hz1 .i64 .i64 _ _ n rfl rfl rfl rfl ?b2 ?b3 (Nat.le_refl _) ?_)
  case b2 => rw [hz2]; omega
  case b3 => unfold maxLen; omega
  intro w1 hown hgrow
  have hb1 : Below w.heap.size w w1 := (Below.refl _ _).grown hgrow (Nat.le_refl _) (by intro k h; cases h)
  have hw1 := hb1.size
  generalize (madeCells _ _).toList = z at hown
  obtain ⟨w2, hrun, own2, hK⟩ : ∃ w2, (Builtin.copy_ #[57, 57] 3 #[.slice (some ⟨w.heap.size, 0, none⟩) n n, .slice a n cap]).run Tryz.prog w1 = .ok (goInt n) w2 ∧ w2.ownsRow w.heap.size 43 7 (.slice (some ⟨w.heap.size, 0, none⟩) n n) n (hvS l) ∧ KeepS (fun b => b = w.heap.size) w1 w2 := by
    cases a with
    | none =>
      have hc := hnil rfl
      have hl : l = [] := nil_list fun j hj => by obtain ⟨b, o, e, _⟩ := HR.out.cells j hj; cases e
      have h0 : n = 0 := by rw [← HN.out, hl]; rfl
      subst hc h0
      refine ⟨w1, run_copy_nil _ w1 _ _ _ _ _ _ _ Tryz.underlying57 (by rw [hi]; rfl), ?_, KeepS.refl _ _⟩
      rw [hl]
      have hz : z = [] := List.eq_nil_of_length_eq_zero (by have := hown.1; omega)
      rw [hz] at hown
      exact hown
    | some ad =>
      obtain ⟨b, o, t⟩ := ad
      have hr : HeadsIn w1 (some ⟨b, o, t⟩) l := HR.out.below hb1
      exact run_copy_over _ _ _ _ 7 _ _ _ _ z hown ⟨b, o, t⟩ cap (hvS l) Tryz.underlying57 (by rw [hi]; exact congrArg some hz1) (by rw [hvS_length, HN.out]) (fun j u hj => by
        have ht : t = none := by
          have hlen : j < (hvS l).length := (List.getElem?_eq_some_iff.1 hj).1
          have hlen2 : (hvS l).length = l.length * 7 := hvS_length l
          have h0 : 0 < l.length := by omega
          exact by obtain ⟨b', o', e, _⟩ := HR.out.cells 0 (by omega); injection e with e; injection e
        subst ht
        exact heads_cells hr j u hj) (fun u hu => hvS_one hu)
  have hx : Below w.heap.size w w2 := hb1.trans ⟨hK.os, hK.tape, hK.output, hK.size, fun k hk => hK.block k (by omega) (by omega)⟩
  have OWN : Hid (w2.ownsRow w.heap.size 43 7 (.slice (some ⟨w.heap.size, 0, none⟩) n n) n (hvS l)) := own2
  clear hown own2 hK hgrow hb1 HR
  go_wp2_with (at_builtin; refine wpList_call rfl _ _ 57 57 rfl _ _ rfl rfl _ w2 hrun ?_)
  go_wp2
  go_ret
  exact ⟨_, rfl, OWN.out, hx⟩
end Go.Proofs.YtegnekbbbfncgaaGreatDoor
