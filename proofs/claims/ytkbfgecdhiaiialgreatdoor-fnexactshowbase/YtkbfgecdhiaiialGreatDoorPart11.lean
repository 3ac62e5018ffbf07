/-
  A part of the proof: SortedS, CopyI, PutI, ShI5, ShowI.
-/
import Derived.Test.YtkbfgecdhiaiialGreatDoorPart10
import Derived.Test.YtkbfgecdhiaiialGreatDoorPart8
import Derived.Maps.AppendAt
import Derived.Test.YtkbfgecdhiaiialGreatDoorPart9
import Derived.Test.YtkbfgecdhiaiialGreatDoorPart6
import Derived.Test.YtkbfgecdhiaiialGreatDoorPart7

/-
  The contract of the model's Sorted: rows in new memory, in the order of their places that is asked for.
-/
namespace Go.Proofs.YtkbfgecdhiaiialGreatDoor
open Go.ChangeShapes Go.WideShapes Go.ChangeAt Go.RowKit
attribute [local go_sem ↓] Go.wp_at_zero Go.wp_at_succ

/-- Where one comes from when two change places. -/
def sw (i j k : Nat) : Nat := if k = j then i else if k = i then j else k
theorem sw_lt {i j k n : Nat} (hi : i < n) (hj : j < n) (hk : k < n) : sw i j k < n := by unfold sw; split <;> (try split) <;> omega
theorem sw_inj {i j a b : Nat} (h : sw i j a = sw i j b) : a = b := by
  unfold sw at h
  split at h <;> split at h <;> (try split at h) <;> (try split at h) <;> omega
theorem swap_sw {α : Type} (d : α) (s : List α) (i j k : Nat) (hi : i < s.length) (hj : j < s.length) : (swap d s i j).getD k d = s.getD (sw i j k) d := by
  rw [swap_getD _ _ _ _ _ hi hj]; unfold sw
  split
  · rfl
  · split <;> rfl

/-- Two heads change places. -/
theorem OwnRows.swap {w : World} {base g c : Nat} {L : List (List CT)} {G C : Nat → Nat} (h : OwnRows w base (.slice (some ⟨g, 0, none⟩) L.length c) L G C) (i j : Nat) (hi : i < L.length) (hj : j < L.length) (hij : i ≠ j) :
    OwnRows ((w.setCell ⟨g, j, none⟩ (headOf G C L i)).setCell ⟨g, i, none⟩ (headOf G C L j)) base (.slice (some ⟨g, 0, none⟩) L.length c) (swap [] L i j) (fun k => G (sw i j k)) (fun k => C (sw i j k)) := by
  have s1 := h.outer.stored j (headOf G C L i)
  have s2 := s1.1.stored i (headOf G C L j)
  have hh : ∀ k, headOf (fun k => G (sw i j k)) (fun k => C (sw i j k)) (Go.Proofs.YtkbfgecdhiaiialGreatDoor.swap [] L i j) k = headOf G C L (sw i j k) := by
    intro k; simp only [headOf, swap_sw [] L i j k hi hj]
  refine ⟨?_, ?_, ?_⟩
  · rw [swap_length]
    have e : ((List.range L.length).map (headOf (fun k => G (sw i j k)) (fun k => C (sw i j k)) (Go.Proofs.YtkbfgecdhiaiialGreatDoor.swap [] L i j))) = (((List.range L.length).map (headOf G C L)).set j (headOf G C L i)).set i (headOf G C L j) := by
      apply List.ext_getElem
      · simp
      · intro k h1 h2
        have hk : k < L.length := by simpa using h1
        simp only [List.getElem_map, List.getElem_range, List.getElem_set]
        rw [hh]
        unfold sw
        by_cases e1 : k = j
        · subst e1; simp [hij]
        · by_cases e2 : k = i
          · subst e2; simp [e1]
          · simp [e1, e2, Ne.symm e1, Ne.symm e2]
    rw [e]; exact s2.1
  · intro k hk
    rw [swap_length] at hk
    rw [hh, swap_sw [] L i j k hi hj]
    have hin := h.inner (sw i j k) (sw_lt hi hj hk)
    have hne : (headOf G C L (sw i j k)).ownBlock ≠ some g := by
      simp only [headOf, Value.ownBlock]
      intro e
      exact own_other h.outer (h.inner (sw i j k) (sw_lt hi hj hk)) (by decide) (by simp only [Value.ownBlock]; exact e.symm)
    exact (hin.kept s1.2 (.inr hne)).kept s2.2 (.inr hne)
  · intro a b ha hb hab
    rw [swap_length] at ha hb
    exact h.apart _ _ (sw_lt hi hj ha) (sw_lt hi hj hb) (fun e => hab (sw_inj e))

theorem getD_get {α : Type} (d : α) (l : List α) (j : Nat) (h : j < l.length) : l.getD j d = l[j] := by simp [List.getD, List.getElem?_eq_getElem h]
/-- The head of a row, and a cell of it. -/
theorem OwnRows.look {w : World} {base g c : Nat} {L : List (List CT)} {G C : Nat → Nat} (h : OwnRows w base (.slice (some ⟨g, 0, none⟩) L.length c) L G C) (i : Nat) (hi : i < L.length) : w.cell? ⟨g, i, none⟩ = some (headOf G C L i) ∧ w.frozen? ⟨g, i, none⟩ = false := by
  refine ⟨?_, h.outer.frozenAt i⟩
  rw [h.outer.cellAt i (by omega), List.getElem?_map, List.getElem?_range hi]; rfl
theorem OwnRows.lookIn {w : World} {base g c : Nat} {L : List (List CT)} {G C : Nat → Nat} (h : OwnRows w base (.slice (some ⟨g, 0, none⟩) L.length c) L G C) (i : Nat) (hi : i < L.length) (j : Nat) (x : CT) (hj : j < (L.getD i []).length) (hx : (L.getD i []).getD j (0, 0, ⟨#[]⟩) = x) :
    w.cell? ⟨G i, j * 3, none⟩ = some (.int .i64 x.1) ∧ w.cell? ⟨G i, j * 3 + 1, none⟩ = some (.int .i64 x.2.1) ∧ w.cell? ⟨G i, j * 3 + 2, none⟩ = some (.string x.2.2) ∧ G i < w.heap.size := by
  have hin := h.inner i hi
  unfold headOf at hin
  obtain ⟨b, o, e, hlt, c0, c1, c2⟩ := own_row hin j hj
  cases e
  have ex : (L.getD i [])[j] = x := by rw [← hx, getD_get _ _ _ hj]
  rw [ex] at c0 c1 c2
  rw [show 0 + j * 3 = j * 3 by omega] at c0 c1 c2
  exact ⟨c0, c1, c2, hlt⟩

/-- Rows in the order of these places, in memory of their own. -/
def Laid (w : World) (base g c : Nat) (L : List (List CT)) (p : List Nat) : Prop := ∃ G C, OwnRows w base (.slice (some ⟨g, 0, none⟩) L.length c) (rowsOf L p) G C
theorem Laid.below {w w' : World} {base g c : Nat} {L : List (List CT)} {p : List Nat} (h : Laid w base g c L p) (hb : Below w.heap.size w w') : Laid w' base g c L p := by
  obtain ⟨G, C, h⟩ := h
  exact ⟨G, C, h.below hb⟩

theorem reach_key {L : List (List CT)} {at_ : Int} (hr : Reach L at_) (q : Nat) (hq : q < L.length) : 0 ≤ at_ ∧ at_.toNat < (L.getD q []).length ∧ (at_.toNat : Int) = at_ := by
  have := hr q hq
  rw [show L.getD q [] = L[q] from by simp [List.getD, List.getElem?_eq_getElem hq]]
  omega

end Go.Proofs.YtkbfgecdhiaiialGreatDoor

/-
  The contracts of the program's helpers that take rows over into new memory, and of the question whether each row has a place.
-/
namespace Go.Proofs.YtkbfgecdhiaiialGreatDoor
open Go.ChangeShapes Go.WideShapes Go.ChangeAt Go.RowKit
attribute [local go_sem ↓] Go.wp_at_zero Go.wp_at_succ

theorem infoCellI : (Tryz.prog.info? 55).map (fun i => (i.zero, i.size, i.bytes)) = some (some (.agg #[.int .i64 0, .int .i64 0, .string ⟨#[]⟩]), 3, 32) := by kernel_rfl
theorem infoRowI : (Tryz.prog.info? 40).map (fun i => (i.zero, i.size, i.bytes)) = some (some (.slice none 0 0), 1, 24) := by kernel_rfl

end Go.Proofs.YtkbfgecdhiaiialGreatDoor

/-
  The contract of the program's Put.
-/
namespace Go.Proofs.YtkbfgecdhiaiialGreatDoor
open Go.ChangeShapes Go.WideShapes Go.ChangeAt Go.RowKit
attribute [local go_sem ↓] Go.wp_at_zero Go.wp_at_succ
attribute [local simp] World.cell?_alloc_past World.cell?_alloc_at World.frozen?_alloc_at cell_far cell_off cell_here World.frozen?_alloc_past

theorem own_keepB {w w' : World} {base base' g c : Nat} {e : TypeId} {size n : Nat} {xs : List Value} (h : w.ownsRow base e size (.slice (some ⟨g, 0, none⟩) n c) n xs) (hb : base' ≤ base) (hk : w'.heap[g]? = w.heap[g]?) : w'.ownsRow base' e size (.slice (some ⟨g, 0, none⟩) n c) n xs := by
  refine ⟨h.1, ?_⟩
  rcases h.2 with h' | ⟨g', cap, cur, h', hbg, hg, hr⟩
  · exact .inl h'
  · refine .inr ⟨g', cap, cur, h', by omega, ?_, hr⟩
    simp only [Value.slice.injEq, Option.some.injEq, Addr.mk.injEq, and_true, true_and] at h'
    obtain ⟨rfl, _⟩ := h'
    rw [hk]; exact hg
/-- The heads of rows, by their places. -/
def HK (w : World) (ra : Option Addr) (L : List (List CT)) (A : Nat → Option Addr) (K : Nat → Nat) : Prop :=
  ∀ i, (hi : i < L.length) → ∃ b o, ra = some ⟨b, o, none⟩ ∧ b < w.heap.size ∧ w.cell? ⟨b, o + i, none⟩ = some (.slice (A i) L[i].length (K i)) ∧ RowAt w (A i) L[i] ∧ Fit L[i] ∧ L[i].length ≤ maxLen ∧ (A i = none → K i = 0)
theorem HK.below {w w' : World} {ra : Option Addr} {L : List (List CT)} {A : Nat → Option Addr} {K : Nat → Nat} (h : HK w ra L A K) (hb : Below w.heap.size w w') : HK w' ra L A K := by
  intro i hi
  obtain ⟨b, o, e, hlt, h0, h1, h2, h3, h4⟩ := h i hi
  exact ⟨b, o, e, Nat.lt_of_lt_of_le hlt hb.size, by rw [hb.cell (p := ⟨b, _, none⟩) hlt]; exact h0, h1.below hb, h2, h3, h4⟩
theorem headsP {w : World} {a : Option Addr} {L : List (List CT)} (h : RowsAt w a L) : ∃ A K, HK w a L A K := by
  have hx : ∀ i, ∃ p : Option Addr × Nat, (hi : i < L.length) → ∃ b o, a = some ⟨b, o, none⟩ ∧ b < w.heap.size ∧ w.cell? ⟨b, o + i, none⟩ = some (.slice p.1 L[i].length p.2) ∧ RowAt w p.1 L[i] ∧ Fit L[i] ∧ L[i].length ≤ maxLen ∧ (p.1 = none → p.2 = 0) := by
    intro i
    by_cases hi : i < L.length
    · obtain ⟨b, o, ai, ci, ha, hlt, h0, h1, h2, h3, h4⟩ := h i hi
      exact ⟨(ai, ci), fun _ => ⟨b, o, ha, hlt, h0, h1, h2, h3, h4⟩⟩
    · exact ⟨(none, 0), fun hi' => absurd hi' hi⟩
  obtain ⟨f, hf⟩ := Classical.axiomOfChoice hx
  exact ⟨fun i => (f i).1, fun i => (f i).2, fun i hi => hf i hi⟩
def headsV (A : Nat → Option Addr) (K : Nat → Nat) (L : List (List CT)) : List Value := (List.range L.length).map fun i => .slice (A i) (L.getD i []).length (K i)
theorem headsV_length (A : Nat → Option Addr) (K : Nat → Nat) (L : List (List CT)) : (headsV A K L).length = L.length := by simp [headsV]
theorem headsV_at (A : Nat → Option Addr) (K : Nat → Nat) (L : List (List CT)) (i : Nat) (h : i < L.length) : (headsV A K L)[i]? = some (.slice (A i) L[i].length (K i)) := by
  unfold headsV
  rw [List.getElem?_map, List.getElem?_range h, Option.map_some, getD_at h]
/-- Heads behind each other, and one more, are rows. -/
theorem rows_more {w w' : World} {ra : Option Addr} {L : List (List CT)} {r : List CT} {a : Option Addr} {n cap : Nat} {A : Nat → Option Addr} {K : Nat → Nat} {base g c : Nat} {e : TypeId} (hA : HK w ra L A K)
    (hn : r.length = n) (hr : RowAt w a r) (hf : Fit r) (hm : n ≤ maxLen) (hnil : a = none → cap = 0) (hb : Below w.heap.size w w') (own : w'.ownsRow base e 1 (.slice (some ⟨g, 0, none⟩) (L.length + 1) c) (L.length + 1) (headsV A K L ++ [.slice a n cap])) : RowsAt w' (some ⟨g, 0, none⟩) (L ++ [r]) := by
  have hlt := (own.lt g rfl).2
  intro i hi
  have hi2 : i < L.length + 1 := by simpa using hi
  have hc := own.cellAt i (by omega)
  by_cases hl : i < L.length
  · obtain ⟨b, o, _, _, _, h1, h2, h3, h4⟩ := hA i hl
    rw [List.getElem?_append_left (by rw [headsV_length]; exact hl), headsV_at A K L i hl] at hc
    rw [List.getElem_append_left hl]
    exact ⟨g, 0, A i, K i, rfl, hlt, by rw [Nat.zero_add]; exact hc, h1.below hb, h2, h3, h4⟩
  · have : i = L.length := by omega
    subst this
    rw [List.getElem?_append_right (by rw [headsV_length]; exact Nat.le_refl _), headsV_length, Nat.sub_self] at hc
    simp only [List.getElem_append_right (Nat.le_refl _), Nat.sub_self, List.getElem_cons_zero]
    subst hn
    exact ⟨g, 0, a, cap, rfl, hlt, by rw [Nat.zero_add]; exact hc, hr.below hb, hf, hm, hnil⟩

/-- 'make([]T, 0, n)' as one operation of a region that draws. -/
theorem wp_make_own' {P : Program} (w : World) {o : Oper} {a : Act} {K : Act → World → Prop} {Q : Exit → Act → World → Prop} (l c : Operand) (t : TypeId) (hop : o.op = Op.makeSlice t l c)
    (base : Nat) (e : TypeId) (i : TypeInfo) (z : Value) (size : Nat) (h1 : P.underlying t = some (.slice e)) (h2 : P.info? e = some i) (h3 : i.zero = some z) (h4 : i.size = size)
    (kl kc : IntKind) (C : Int) (n : Nat) (hl : a.eval l = .int kl 0) (hc : a.eval c = .int kc C) (hC : C = (n : Int)) (b2 : i.bytes * n ≤ 281474976710656) (b3 : n ≤ maxLen) (b4 : base ≤ w.heap.size)
    (hK : ∀ w', w'.ownsRow base e size (.slice (some ⟨w.heap.size, 0, none⟩) 0 n) 0 [] → w.grownBy w' none → K (a.put o.dst (.slice (some ⟨w.heap.size, 0, none⟩) 0 n)) w') : o.wp P a w K Q := by
  obtain ⟨w', hrun, r1, r2⟩ := run_make_own (P := P) w base t e i z size h1 h2 h3 h4 kl kc n b2 b3 b4
  subst hC
  unfold Oper.wp
  simp [execOp, hop, hl, hc, hrun, Result.andThen]
  exact hK w' r1 r2
/-- Nothing is appended to a list of the call's own. -/
theorem wp_append_none' {P : Program} {w : World} {o : Oper} {a : Act} {K : Act → World → Prop} {Q : Exit → Act → World → Prop} (s x : Operand) (t : TypeId) (ho : o.op = .call { callee := .builtin .append, args := #[s, x], argTypes := #[t, t] })
    (base : Nat) (e : TypeId) (i : TypeInfo) (size : Nat) (ht : P.underlying t = some (.slice e)) (hi : P.info? e = some i)
    (v : Value) (n : Nat) (xs : List Value) (hs : a.eval s = v) (hown : w.ownsRow base e size v n xs) (hx : a.eval x = .slice none 0 0) (h : K (a.put o.dst v) w) : o.wp P a w K Q := by
  have hrun := run_append_owned_none (P := P) (w := w) base t o.type e i size ht hi v n xs hown
  unfold Oper.wp
  simp [execOp, ho, resolve, invoke, builtin, hs, hx, hrun, Result.andThen]
  exact h

end Go.Proofs.YtkbfgecdhiaiialGreatDoor

/-
  The contracts of the program's shelf: asked for a name, and told as a list of tables in memory of its own.
-/
namespace Go.Proofs.YtkbfgecdhiaiialGreatDoor
open Go.ChangeShapes Go.WideShapes Go.ChangeAt Go.RowKit Go.Maps
attribute [local go_sem ↓] Go.wp_at_zero Go.wp_at_succ
attribute [local simp] World.cell?_alloc_past World.cell?_alloc_at World.frozen?_alloc_at cell_far cell_off cell_here World.frozen?_alloc_past

/-- Tables that can be copied. -/
def Small (t : TB) : Prop := t.2.1.length ≤ 1048576 ∧ t.2.2.length ≤ 1048576 ∧ ∀ i (h : i < t.2.2.length), t.2.2[i].length ≤ 1048576
theorem zeroTab (w : World) : (zeroValue 37).run Tryz.prog w = .ok (.agg #[.string ⟨#[]⟩, .slice none 0 0, .slice none 0 0]) w := by kernel_rfl
/-- A name that is there: what stands at it. -/
theorem ShelfAt.found {w : World} {B n : Nat} {ks : List ByteArray} {f : ByteArray → Value} (h : ShelfAt w B n ks f) (s : ByteArray) (hs : s.size ≤ maxLen) (hm : s ∈ ks) :
    (Instr.lookup 43 (.map (some B)) (.string s) false).run Tryz.prog w = .ok (f s) w ∧ (Instr.lookup 43 (.map (some B)) (.string s) true).run Tryz.prog w = .ok (.tuple #[f s, .bool true]) w := by
  obtain ⟨D, hown, S⟩ := h
  constructor
  · obtain ⟨v, ps, hrun, hv⟩ := hown.lookup str_keyed Tryz.underlying43 (zeroTab w) (zd := .held (.agg #[.string ⟨#[]⟩, .slice none 0 0, .slice none 0 0])) rfl (keyOf_txt s hs)
    rw [S.holds s hm] at hv
    simp only [tokR, Option.some.injEq, Prod.mk.injEq, DataW.held.injEq] at hv
    rw [← hv.1]; exact hrun
  · obtain ⟨v, ps, hrun, hv⟩ := hown.look_ok str_keyed Tryz.underlying43 (zeroTab w) (zd := .held (.agg #[.string ⟨#[]⟩, .slice none 0 0, .slice none 0 0])) rfl (keyOf_txt s hs)
    rw [S.holds s hm] at hv
    simp only [tokR, Option.some.injEq, Prod.mk.injEq, DataW.held.injEq] at hv
    rw [S.has s, decide_eq_true hm] at hrun
    rw [← hv.1]; exact hrun
/-- A name that is not there. -/
theorem ShelfAt.lacks {w : World} {B n : Nat} {ks : List ByteArray} {f : ByteArray → Value} (h : ShelfAt w B n ks f) (s : ByteArray) (hs : s.size ≤ maxLen) (hm : s ∉ ks) :
    (Instr.lookup 43 (.map (some B)) (.string s) true).run Tryz.prog w = .ok (.tuple #[.agg #[.string ⟨#[]⟩, .slice none 0 0, .slice none 0 0], .bool false]) w := by
  obtain ⟨D, hown, S⟩ := h
  obtain ⟨v, ps, hrun, hv⟩ := hown.look_ok str_keyed Tryz.underlying43 (zeroTab w) (zd := .held (.agg #[.string ⟨#[]⟩, .slice none 0 0, .slice none 0 0])) rfl (keyOf_txt s hs)
  have hh := S.has s
  rw [decide_eq_false hm] at hh
  rw [atKey_of_not_has hh] at hv
  simp only [tokR, Option.some.injEq, Prod.mk.injEq, DataW.held.injEq] at hv
  rw [hh] at hrun
  rw [← hv.1]; exact hrun
theorem ShelfAt.len {w : World} {B n : Nat} {ks : List ByteArray} {f : ByteArray → Value} (h : ShelfAt w B n ks f) (ty : TypeId) : (Builtin.len_ #[43] ty #[.map (some B)]).run Tryz.prog w = .ok (.int .i64 ks.length) w := by
  obtain ⟨D, hown, S⟩ := h
  rw [hown.len Tryz.underlying43 ty, size_keys hown S]

end Go.Proofs.YtkbfgecdhiaiialGreatDoor

/-
  The contracts of the program's text of a table, and of a base.
-/
namespace Go.Proofs.YtkbfgecdhiaiialGreatDoor
open Go.ChangeShapes Go.WideShapes Go.ChangeAt Go.RowKit Go.Maps
attribute [local go_sem ↓] Go.wp_at_zero Go.wp_at_succ
attribute [local simp] World.cell?_alloc_past World.cell?_alloc_at World.frozen?_alloc_at cell_far cell_off cell_here World.frozen?_alloc_past

theorem join_none (xs : List (List UInt8)) : Lib.join xs [] = xs.flatten := by
  cases xs with
  | nil => rfl
  | cons x r =>
    rw [Lib.join_cons]
    simp [Lib.joinTail]
theorem joinedN (n bk c : Nat) (xs : List ByteArray) (hn : xs.length = n) (sep : ByteArray) (w : World) (base : Nat) (hown : w.ownsRow base 9 1 (.slice (some ⟨bk, 0, none⟩) n c) n (strV xs)) (hN : n ≤ 4096) (hlen : (Lib.join (rawT xs) sep.data.toList).length ≤ 140737488355328) (y : ByteArray) (hy : (⟨(Lib.join (rawT xs) sep.data.toList).toArray⟩ : ByteArray) = y) :
    Calls Tryz.prog 17 #[.string sep, .slice (some ⟨bk, 0, none⟩) n c] w fun e w' => e = .returned (.string y) ∧ Below w.heap.size w w' := by
  subst hn
  have hc : xs.length ≤ c := by
    rcases hown.2 with ⟨e, _⟩ | ⟨g, cap, cur, e, _, _, hc, _⟩
    · simp at e
    · simp only [Value.slice.injEq] at e
      omega
  refine joined_impl bk c xs sep w (fun j x hj => ?_) (hown.lt bk rfl).2 (by omega) hc hlen y hy
  obtain ⟨hlt, rfl⟩ := List.getElem?_eq_some_iff.1 hj
  rw [Nat.zero_add, hown.cellAt j (by omega)]
  unfold strV
  rw [List.getElem?_map, List.getElem?_eq_getElem hlt]; rfl
theorem rowtextN (n : Nat) (a : Option Addr) (cap : Nat) (l : List CT) (hn : l.length = n) (w : World) (hrow : RowAt w a l) (hfit : Fit l) (hm : n ≤ 1048576) (hp : PowAt w) (y : ByteArray) (hy : rowT l = y) :
    Calls Tryz.prog 30 #[.slice a n cap] w fun e w' => e = .returned (.string y) ∧ Below w.heap.size w w' := by
  subst hn; exact rowtext_impl a cap l w hrow hfit hm hp y hy
/-- The pieces of a table's text. -/
def pcsT (hd : ByteArray) (L : List (List CT)) : Nat → List ByteArray
  | 0 => [hd, ⟨#[58]⟩]
  | k + 1 => pcsT hd L k ++ [⟨#[10]⟩, ⟨#[32]⟩, rowT (L.getD k [])]
theorem pcsT_length (hd : ByteArray) (L : List (List CT)) (k : Nat) : (pcsT hd L k).length = 2 + 3 * k := by
  induction k with
  | zero => rfl
  | succ k ih => rw [pcsT, List.length_append, ih]; simp; omega
theorem pcsT_flat (hd : ByteArray) (L : List (List CT)) (k : Nat) (hk : k ≤ L.length) : (rawT (pcsT hd L k)).flatten = hd.data.toList ++ [58] ++ (L.take k).flatMap rowTx := by
  induction k with
  | zero => simp [pcsT, rawT]
  | succ k ih =>
    have hlt : k < L.length := by omega
    have e : rawT (pcsT hd L (k + 1)) = rawT (pcsT hd L k) ++ [[10], [32], (rowT L[k]).data.toList] := by
      rw [pcsT]
      have : L.getD k [] = L[k] := by simp [List.getD, List.getElem?_eq_getElem hlt]
      rw [this]
      simp [rawT]
    rw [e, List.flatten_append, ih (by omega), rowTx_take L k hlt]
    simp [rowTx]
theorem own_one (w : World) (s : ByteArray) : (w.alloc (.cells #[.string s] 9)).ownsRow w.heap.size 9 1 (.slice (some ⟨w.heap.size, 0, none⟩) 1 1) 1 [.string s] :=
  ⟨rfl, .inr ⟨w.heap.size, 1, #[.string s], rfl, Nat.le_refl _, by show (w.heap.push _)[w.heap.size]? = _; simp, Nat.le_refl _, by unfold maxLen; omega, rfl, rfl⟩⟩
theorem own_oneA (w : World) (ob : Obj) (s : ByteArray) : ((w.alloc ob).alloc (.cells #[.string s] 9)).ownsRow (w.heap.size + 1) 9 1 (.slice (some ⟨w.heap.size + 1, 0, none⟩) 1 1) 1 [.string s] := by
  have h := own_one (w.alloc ob) s
  have e : (w.alloc ob).heap.size = w.heap.size + 1 := by simp
  rw [e] at h
  exact h
theorem own_two (w : World) (s u : ByteArray) : (w.alloc (.cells #[.string s, .string u] 9)).ownsRow w.heap.size 9 1 (.slice (some ⟨w.heap.size, 0, none⟩) 2 2) 2 [.string s, .string u] :=
  ⟨rfl, .inr ⟨w.heap.size, 2, #[.string s, .string u], rfl, Nat.le_refl _, by show (w.heap.push _)[w.heap.size]? = _; simp, Nat.le_refl _, by unfold maxLen; omega, rfl, rfl⟩⟩
theorem ownsRow_lower {w : World} {base base' n size : Nat} {e : TypeId} {v : Value} {xs : List Value} (h : w.ownsRow base e size v n xs) (hb : base' ≤ base) : w.ownsRow base' e size v n xs := by
  refine ⟨h.1, ?_⟩
  rcases h.2 with h' | ⟨g, cap, cur, h', hbg, hr⟩
  · exact .inl h'
  · exact .inr ⟨g, cap, cur, h', Nat.le_trans hb hbg, hr⟩

set_option maxRecDepth 100000 in
set_option maxHeartbeats 4000000 in
theorem tabletext_impl (ca : Option Addr) (cc : Nat) (ra : Option Addr) (cr : Nat) (t : TB) (nc nr : Nat) (hnc : t.2.1.length = nc) (hnr : t.2.2.length = nr) (w : World) (ht : TabAt w ca cc ra t) (hp : PowAt w) (hok : tableB t = true) (y : ByteArray) (hy : (⟨(tabTx t).toArray⟩ : ByteArray) = y) :
    Calls Tryz.prog 16 #[.agg #[.string t.1, .slice ca nc cc, .slice ra nr cr]] w fun e w' => e = .returned (.string y) ∧ Below w.heap.size w w' := by
  obtain ⟨i0, hti, hz0, hz1, hz2⟩ := info_parts infoStr
  have HOK : Hid (tableB t = true) := hok
  obtain ⟨q1, q2, q3, q4, q5⟩ := tableB_parts hok
  have HQ5 : Hid (∀ r, r ∈ t.2.2 → r.all okC = true ∧ r.length ≤ 6) := q5
  have hnc6 : nc ≤ 6 := by rw [← hnc]; exact q2
  have hnr60 : nr ≤ 60 := by rw [← hnr]; exact q4
  have hnc1 : 0 < t.2.1.length := by
    have h := hok
    unfold tableB namesB at h
    simp only [Bool.and_eq_true, decide_eq_true_eq] at h
    have := h.1.2.1.2.1
    omega
  obtain ⟨bC, oC, eC, hbC, hcc⟩ := ht.cols 0 hnc1
  subst eC
  clear hcc
  have HT : Hid (TabAt w (some ⟨bC, oC, none⟩) cc ra t) := ht
  have HNC : Hid (t.2.1.length = nc) := hnc
  have HNR : Hid (t.2.2.length = nr) := hnr
  have HP : Hid (PowAt w) := hp
  have HY : Hid ((⟨(tabTx t).toArray⟩ : ByteArray) = y) := hy
  obtain ⟨nm, hnm⟩ : ∃ s, t.1 = s := ⟨_, rfl⟩
  have HNM : Hid (t.1 = nm) := hnm
  obtain ⟨hd, hhd⟩ : ∃ h : ByteArray, (⟨(headTx t).toArray⟩ : ByteArray) = h := ⟨_, rfl⟩
  have HHD : Hid ((⟨(headTx t).toArray⟩ : ByteArray) = hd) := hhd
  rw [hnm]
  have hA : Below w.heap.size w (w.alloc (.cells #[.string nm, .slice (some ⟨bC, oC, none⟩) nc cc, .slice ra nr cr] 37)) := (Below.refl _ _).alloc (Nat.le_refl _) _
  have hAN : Below w.heap.size w ((w.alloc (.cells #[.string nm, .slice (some ⟨bC, oC, none⟩) nc cc, .slice ra nr cr] 37)).alloc (.cells #[.string nm] 9)) := hA.alloc (by simp) _
  have HSRC : Hid (∀ j u, (strV t.2.1)[j]? = some u → ((w.alloc (.cells #[.string nm, .slice (some ⟨bC, oC, none⟩) nc cc, .slice ra nr cr] 37)).alloc (.cells #[.string nm] 9)).cell? ((⟨bC, oC, none⟩ : Addr).add j) = some u) := by
    have : ∀ j u, (strV t.2.1)[j]? = some u → ((w.alloc (.cells #[.string nm, .slice (some ⟨bC, oC, none⟩) nc cc, .slice ra nr cr] 37)).alloc (.cells #[.string nm] 9)).cell? ((⟨bC, oC, none⟩ : Addr).add j) = some u := strV_cells (HT.out.cols.below hAN)
    exact this
  have HSL : Hid ((strV t.2.1).length = nc * 1) := by
    have : (strV t.2.1).length = nc * 1 := by rw [strV_length, HNC.out]; omega
    exact this
  have HS1 : Hid (∀ u, u ∈ strV t.2.1 → u.oneCell' = true) := by
    have : ∀ u, u ∈ strV t.2.1 → u.oneCell' = true := fun u hu => by obtain ⟨b, _, rfl⟩ := List.mem_map.1 hu; rfl
    exact this
  clear ht hnc hnr hp hy hok q1 q2 q3 q4 q5 hnc1 hnm hhd
  go_enter Tryz.func16, Tryz.ntmps16
  go_wp2_with (at_builtin; refine wpList_append_own _ rfl _ _ 30 rfl (w.heap.size + 1) 9 i0 (.string ⟨#[]⟩) 1 16 Tryz.underlying30 hti hz0 hz1 hz2 rfl (by decide) _ _ _ rfl (own_oneA w _ nm) ⟨bC, oC, none⟩ nc cc (strV t.2.1) rfl HSL.out HSRC.out HS1.out (by unfold maxLen; omega) (by omega) (by simp) ?_)
  intro v2 w2 own2 hgrow2 hnn2
  have hx2 : Below w.heap.size w w2 := hAN.grown hgrow2 (by simp; omega) (fun j hj => by simp [Value.ownBlock] at hj; omega)
  have hblk : w2.heap[w.heap.size]? = (w.alloc (.cells #[.string nm, .slice (some ⟨bC, oC, none⟩) nc cc, .slice ra nr cr] 37)).heap[w.heap.size]? := (hgrow2.block w.heap.size (by simp; omega) (by simp [Value.ownBlock])).trans (Below.heap_alloc _ _ _ (by simp))
  have p0 : w2.cell? ⟨w.heap.size, 0, none⟩ = some (.string nm) := (World.cell?_of_block (w := (w.alloc (.cells #[.string nm, .slice (some ⟨bC, oC, none⟩) nc cc, .slice ra nr cr] 37))) hblk).trans (by simp)
  have p1 : w2.cell? ⟨w.heap.size, 1, none⟩ = some (.slice (some ⟨bC, oC, none⟩) nc cc) := (World.cell?_of_block (w := (w.alloc (.cells #[.string nm, .slice (some ⟨bC, oC, none⟩) nc cc, .slice ra nr cr] 37))) hblk).trans (by simp)
  have p2 : w2.cell? ⟨w.heap.size, 2, none⟩ = some (.slice ra nr cr) := (World.cell?_of_block (w := (w.alloc (.cells #[.string nm, .slice (some ⟨bC, oC, none⟩) nc cc, .slice ra nr cr] 37))) hblk).trans (by simp)
  have p3 : w.heap.size < w2.heap.size := by have := hgrow2.size; simp at this; omega
  have hv2 : v2 ≠ .slice none 0 0 := by first | exact hnn2 | exact fun e => absurd (hnn2.1 e).1 (by simp)
  replace own2 : w2.ownsRow (w.heap.size + 1) 9 1 v2 (1 + nc) (strV (nm :: t.2.1)) := own2
  rcases own2.2 with ⟨e, _⟩ | ⟨g2, c2, cur2, e, _⟩
  · exact absurd e hv2
  subst e
  have HO2 : Hid (w2.ownsRow (w.heap.size + 1) 9 1 (.slice (some ⟨g2, 0, none⟩) (1 + nc) c2) (1 + nc) (strV (nm :: t.2.1))) := own2
  have HJ2 : Hid ((Lib.join (rawT (nm :: t.2.1)) [32]).length ≤ 140737488355328 ∧ (⟨(Lib.join (rawT (nm :: t.2.1)) [32]).toArray⟩ : ByteArray) = hd) := by
    have e : Lib.join (rawT (nm :: t.2.1)) [32] = headTx t := by unfold headTx rawT; rw [HNM.out]; rfl
    have : (Lib.join (rawT (nm :: t.2.1)) [32]).length ≤ 140737488355328 ∧ (⟨(Lib.join (rawT (nm :: t.2.1)) [32]).toArray⟩ : ByteArray) = hd := by
      rw [e]
      exact ⟨by have := headTx_len HOK.out; omega, HHD.out⟩
    exact this
  have HLN : Hid ((nm :: t.2.1).length = 1 + nc) := by
    have : (nm :: t.2.1).length = 1 + nc := by rw [List.length_cons, HNC.out]; omega
    exact this
  clear own2 hgrow2 hnn2 hv2 HSRC HSL HS1 hblk
  go_wp2_with fail
  refine (joinedN (1 + nc) g2 c2 (nm :: t.2.1) HLN.out ⟨#[32]⟩ _ (w.heap.size + 1) HO2.out (by omega) HJ2.out.1 hd HJ2.out.2).mono ?_
  rintro e w3 ⟨rfl, hb3⟩
  obtain ⟨p0, p1, p2, p3⟩ := later3 hb3 ⟨p0, p1, p2, p3⟩
  have hx3 := chain hx2 hb3
  have hx3a : Below w.heap.size w (w3.alloc (.cells #[.string hd, .string ⟨#[58]⟩] 9)) := hx3.alloc hx3.size _
  have own3 : Hid ((w3.alloc (.cells #[.string hd, .string ⟨#[58]⟩] 9)).ownsRow w3.heap.size 9 1 (.slice (some ⟨w3.heap.size, 0, none⟩) 2 2) (2 + 3 * 0) (strV (pcsT hd t.2.2 0))) := own_two w3 hd ⟨#[58]⟩
  have hs3 : w.heap.size ≤ w3.heap.size := hx3.size
  clear HO2 HJ2 HLN hb3 hx2
  go_wp2
  go_loopw [4, 19] (fun v kk wr => ∃ k m : Nat, k ≤ nr ∧ kk = .int .i64 k ∧ Hid (2 + 3 * k = m) ∧ m ≤ 182 ∧ Hid (wr.ownsRow w3.heap.size 9 1 v m (strV (pcsT hd t.2.2 k))) ∧ Below w.heap.size w wr ∧ w3.heap.size ≤ wr.heap.size ∧ v ≠ .slice none 0 0) (fun _ kk _ => nr - (intOf kk).toNat)
  case atStart => exact ⟨0, 2, Nat.zero_le _, rfl, rfl, by omega, own3, hx3a, by simp, by simp⟩
  case round =>
    obtain ⟨k, m, hk, rfl, HM, hm182, hO, hbw, hsw, hvn⟩ := hrel
    by_cases hlt : k < nr
    · have hlt' : Hid (k < t.2.2.length) := by have := HNR.out; exact show k < t.2.2.length by omega
      obtain ⟨gr, or_, ai, ci, rfl, hgw, c0, hrow, hfit, hlen, _⟩ := (HT.out.rows.below hbw) k hlt'.out
      have hi0 : (0 : Int) ≤ (k : Int) := by omega
      have hi1 : (k : Int) < (nr : Int) := by omega
      obtain ⟨hro, hr6⟩ := HQ5.out _ (List.getElem_mem hlt'.out)
      have HRW : Hid (RowAt wr ai (t.2.2[k]'hlt'.out) ∧ Fit (t.2.2[k]'hlt'.out)) := ⟨hrow, hfit⟩
      obtain ⟨row, hrw⟩ : ∃ x, (t.2.2[k]'hlt'.out) = x := ⟨_, rfl⟩
      have HGD : Hid (t.2.2.getD k [] = row) := by
        have : t.2.2.getD k [] = row := by rw [← hrw]; simp [List.getD, List.getElem?_eq_getElem hlt'.out]
        exact this
      rw [hrw] at c0 HRW hr6
      obtain ⟨nl, hnl⟩ : ∃ x, row.length = x := ⟨_, rfl⟩
      rw [hnl] at c0
      have HNL : Hid (row.length = nl) := hnl
      have hnl6 : nl ≤ 6 := by rw [← hnl]; exact hr6
      obtain ⟨z, hz⟩ : ∃ z, rowT row = z := ⟨_, rfl⟩
      have HZ : Hid (rowT row = z) := hz
      clear hrow hfit hlen hro hrw hnl hz hr6
      go_wp2_with fail
      refine (rowtextN nl ai ci row HNL.out _ HRW.out.1 HRW.out.2 (by omega) (HP.out.below hbw) z HZ.out).mono ?_
      rintro e w4 ⟨rfl, hb4⟩
      have O4 := own_below hO.out hb4
      have hx4 := chain hbw hb4
      have hs4 : w3.heap.size ≤ w4.heap.size := by have := hb4.size; omega
      clear hb4 hO c0 HRW
      go_wp2_with (at_builtin; refine wpList_append_own _ rfl _ _ 30 rfl w3.heap.size 9 i0 (.string ⟨#[]⟩) 1 16 Tryz.underlying30 hti hz0 hz1 hz2 rfl (by decide) _ _ _ rfl (O4.alloc _) ⟨w4.heap.size, 0, none⟩ 3 3 [.string ⟨#[10]⟩, .string ⟨#[32]⟩, .string z] rfl rfl ?c1 ?c2 ?c3 ?c4 ?c5 ?_)
      case c1 =>
        intro j u hj
        match j, hj with
        | 0, hj => simp at hj; subst hj; simp [Addr.add]
        | 1, hj => simp at hj; subst hj; simp [Addr.add]
        | 2, hj => simp at hj; subst hj; simp [Addr.add]
      case c2 => intro u hu; simp at hu; rcases hu with rfl | rfl | rfl <;> rfl
      case c3 => unfold maxLen; omega
      case c4 => omega
      case c5 => simp; omega
      intro v5 w5 own5 hgrow5 hnn5
      have hx5 : Below w.heap.size w w5 := by
        refine (hx4.alloc hx4.size _).grown hgrow5 (by have := hx4.size; simp; omega) ?_
        intro kk hkk
        have := (O4.lt kk hkk).1
        omega
      have hs5 : w3.heap.size ≤ w5.heap.size := by have := hgrow5.size; simp at this; omega
      have hvn5 : v5 ≠ .slice none 0 0 := by first | exact hnn5 | exact fun e => hvn (hnn5.1 e).1
      have SS : Hid (w5.ownsRow w3.heap.size 9 1 v5 (m + 3) (strV (pcsT hd t.2.2 (k + 1)))) := by
        have : w5.ownsRow w3.heap.size 9 1 v5 (m + 3) (strV (pcsT hd t.2.2 (k + 1))) := by
          rw [pcsT, HGD.out, HZ.out, show strV (pcsT hd t.2.2 k ++ [⟨#[10]⟩, ⟨#[32]⟩, z]) = strV (pcsT hd t.2.2 k) ++ [.string ⟨#[10]⟩, .string ⟨#[32]⟩, .string z] from List.map_append]; exact own5
        exact this
      clear own5 hgrow5 hnn5 O4
      go_wp2
      go_roundw
      case rel => exact ⟨k + 1, m + 3, by omega, by go_num, show 2 + 3 * (k + 1) = m + 3 by have := HM.out; omega, by have := HM.out; omega, SS, hx5, hs5, hvn5⟩
      case measure => simp [intOf]; omega
    · have hkl : k = nr := by omega
      subst hkl
      have hnn : ¬ (k : Int) < (k : Int) := by omega
      have O6 := hO.out
      go_wp2_with (at_builtin; refine wpList_append_own _ rfl _ _ 30 rfl w3.heap.size 9 i0 (.string ⟨#[]⟩) 1 16 Tryz.underlying30 hti hz0 hz1 hz2 rfl (by decide) _ _ _ rfl (O6.alloc _) ⟨wr.heap.size, 0, none⟩ 1 1 [.string ⟨#[10]⟩] rfl rfl (cell_one_new _ _ _) (by intro u hu; simp at hu; subst hu; rfl) (by unfold maxLen; omega) (by omega) (by simp; omega) ?_)
      intro v7 w7 own7 hgrow7 hnn7
      have hx7 : Below w.heap.size w w7 := by
        refine (hbw.alloc hbw.size _).grown hgrow7 (by have := hbw.size; simp; omega) ?_
        intro kk hkk
        have := (O6.lt kk hkk).1
        omega
      have hvn7 : v7 ≠ .slice none 0 0 := by first | exact hnn7 | exact fun e => hvn (hnn7.1 e).1
      replace own7 : w7.ownsRow w3.heap.size 9 1 v7 (m + 1) (strV (pcsT hd t.2.2 k ++ [⟨#[10]⟩])) := by
        rw [show strV (pcsT hd t.2.2 k ++ [⟨#[10]⟩]) = strV (pcsT hd t.2.2 k) ++ [.string ⟨#[10]⟩] from List.map_append]; exact own7
      rcases own7.2 with ⟨e, _⟩ | ⟨g7, c7, cur7, e, _⟩
      · exact absurd e hvn7
      subst e
      have HO7 : Hid (w7.ownsRow w3.heap.size 9 1 (.slice (some ⟨g7, 0, none⟩) (m + 1) c7) (m + 1) (strV (pcsT hd t.2.2 k ++ [⟨#[10]⟩]))) := own7
      have HJ7 : Hid ((Lib.join (rawT (pcsT hd t.2.2 k ++ [⟨#[10]⟩])) []).length ≤ 140737488355328 ∧ (⟨(Lib.join (rawT (pcsT hd t.2.2 k ++ [⟨#[10]⟩])) []).toArray⟩ : ByteArray) = y) := by
        have e : Lib.join (rawT (pcsT hd t.2.2 k ++ [⟨#[10]⟩])) [] = tabTx t := by
          rw [join_none, rawT_snoc, List.flatten_append, pcsT_flat hd t.2.2 k (by rw [HNR.out]; exact Nat.le_refl _), show t.2.2.take k = t.2.2 by rw [← HNR.out, List.take_length], ← HHD.out]
          unfold tabTx
          simp
        have : (Lib.join (rawT (pcsT hd t.2.2 k ++ [⟨#[10]⟩])) []).length ≤ 140737488355328 ∧ (⟨(Lib.join (rawT (pcsT hd t.2.2 k ++ [⟨#[10]⟩])) []).toArray⟩ : ByteArray) = y := by
          rw [e]
          exact ⟨by have := tabTx_len HOK.out; omega, HY.out⟩
        exact this
      have HL7 : Hid ((pcsT hd t.2.2 k ++ [(⟨#[10]⟩ : ByteArray)]).length = m + 1) := by
        have : (pcsT hd t.2.2 k ++ [(⟨#[10]⟩ : ByteArray)]).length = m + 1 := by rw [List.length_append, pcsT_length]; have := HM.out; simp; omega
        exact this
      clear own7 hgrow7 hnn7 O6 hO
      go_wp2_with fail
      refine (joinedN (m + 1) g7 c7 _ HL7.out ⟨#[]⟩ _ w3.heap.size HO7.out (by omega) HJ7.out.1 y HJ7.out.2).mono ?_
      rintro e w8 ⟨rfl, hb8⟩
      have hx8 := chain hx7 hb8
      clear HO7 HJ7 HL7 hb8
      go_wp2
      go_ret
      exact ⟨rfl, hx8⟩
def txsT (V : List TB) : List ByteArray := V.map (fun t => (⟨(tabTx t).toArray⟩ : ByteArray))
theorem txsT_length (V : List TB) : (txsT V).length = V.length := List.length_map _
theorem txsT_take (V : List TB) (k : Nat) (h : k < V.length) : txsT (V.take (k + 1)) = txsT (V.take k) ++ [⟨(tabTx V[k]).toArray⟩] := by
  unfold txsT
  rw [List.take_succ_eq_append_getElem h, List.map_append]; rfl
theorem txsT_flat (V : List TB) : (rawT (txsT V)).flatten = showTx V := by
  unfold rawT txsT showTx
  rw [List.map_map, List.flatMap_def]
  congr 1
set_option maxRecDepth 100000 in
set_option maxHeartbeats 4000000 in
theorem showbase_impl (a : Option Addr) (cap : Nat) (T : List TB) (n0 : Nat) (hn0 : T.length = n0) (w : World) (hrow : TabsAt w a T) (hm : n0 ≤ 1048576) (hp : PowAt w) (y : ByteArray) (hy : showB T = y) :
    Calls Tryz.prog 7 #[.slice a n0 cap] w fun e w' => e = .returned (.string y) ∧ Below w.heap.size w w' := by
  obtain ⟨i0, hti, hz0, hz1, hz2⟩ := info_parts infoStr
  obtain ⟨b, hb⟩ : ∃ b, baseB T = b := ⟨_, rfl⟩
  obtain ⟨V, hV⟩ : ∃ U, (if b then T else []) = U := ⟨_, rfl⟩
  have E : Hid (Calls Tryz.prog 14 #[.slice a n0 cap] w fun e w' => e = .returned (.tuple #[.map (some w.heap.size), .bool b]) ∧ ShelfT w w' w.heap.size n0 V ∧ Below w.heap.size w w') := by
    have := shelf_impl a cap T n0 hn0 w hrow hm b hb
    rw [hV] at this
    exact this
  have hUV : (⟨(showTx V).toArray⟩ : ByteArray) = y ∧ risesN (namesT V) = true ∧ (∀ t, t ∈ V → tableB t = true) ∧ V.length ≤ 5 := by
    unfold showB at hy
    rw [hb] at hy
    cases b
    · simp at hV hy
      subst hV hy
      exact ⟨rfl, rfl, fun t ht => (by cases ht), Nat.zero_le _⟩
    · simp at hV hy
      subst hV hy
      have h := hb
      unfold baseB at h
      simp only [Bool.and_eq_true, decide_eq_true_eq] at h
      exact ⟨rfl, h.1.2, fun t ht => List.all_eq_true.1 h.1.1 t ht, h.2⟩
  obtain ⟨hyV, hri, hok, h5⟩ := hUV
  obtain ⟨n, hn⟩ : ∃ n, V.length = n := ⟨_, rfl⟩
  have hn5 : n ≤ 5 := by rw [← hn]; exact h5
  have HYV : Hid ((⟨(showTx V).toArray⟩ : ByteArray) = y) := hyV
  have HRI : Hid (risesN (namesT V) = true) := hri
  have HOK : Hid (∀ t, t ∈ V → tableB t = true) := hok
  have HN : Hid (V.length = n) := hn
  have HV5 : Hid (V.length ≤ 5) := h5
  have HP : Hid (PowAt w) := hp
  clear hrow hn0 hb hV hy hyV hri hok h5 hn hp
  go_enter Tryz.func7, Tryz.ntmps7
  go_wp2_with fail
  refine E.out.mono ?_
  rintro e w1 ⟨rfl, hS1, hx1⟩
  obtain ⟨hnd, f, hSh, hH⟩ := hS1
  have HSh1 : Hid (ShelfAt w1 w.heap.size n0 (namesT V) f) := hSh
  have HH : Hid (∀ t, t ∈ V → HoldsT w f t) := hH
  have HLV : Hid ((namesT V).length = n) := by
    have : (namesT V).length = n := by rw [namesT_length]; exact HN.out
    exact this
  have hlen := fun ty => hSh.len ty
  rw [HLV.out] at hlen
  have hBw : w.heap.size < w1.heap.size := hSh.lt
  clear hSh hH hnd
  go_wp2_with (at_make; refine wpList_make_own _ rfl _ _ 30 rfl w1.heap.size 9 i0 (.string ⟨#[]⟩) 1 Tryz.underlying30 hti hz0 hz1 .i64 .i64 _ n rfl rfl rfl (by rw [hz2]; omega) (by unfold maxLen; omega) (by simp) ?_)
  intro w2 hown2 hgrow2
  have hb2 : Below w1.heap.size w1 w2 := (Below.refl _ _).grown hgrow2 (Nat.le_refl _) (by intro k h; cases h)
  have own2 : Hid (w2.ownsRow w1.heap.size 9 1 (.slice (some ⟨w1.heap.size, 0, none⟩) 0 n) 0 (strV (txsT (V.take 0)))) := hown2
  have HSh2 : Hid (ShelfAt w2 w.heap.size n0 (namesT V) f) := HSh1.out.below hb2
  have hx2 := chain hx1 hb2
  have hw12 : w1.heap.size < w2.heap.size := (own2.out.lt _ rfl).2
  clear hown2 hgrow2 hlen HSh1 hb2
  go_wp2_with fail
  refine (names_impl w.heap.size n0 (namesT V) f _ HSh2.out (by rw [HLV.out]; omega)).mono ?_
  rintro e w3 ⟨v3, rfl, own3, _, hb3⟩
  rw [srt_is HRI.out (List.Perm.refl _), HLV.out] at own3
  obtain ⟨ga, gc, hv3, hst, _, _⟩ := own_strsV own3 HLV.out
  subst hv3
  have hGN : ∀ b, inBlk ga (namesT V).length b → w2.heap.size ≤ b ∧ b < w3.heap.size := by
    rintro b ⟨_, o, rfl⟩
    exact own3.lt b rfl
  have HGN : Hid (∀ b, inBlk ga (namesT V).length b → w2.heap.size ≤ b ∧ b < w3.heap.size) := hGN
  have HST : Hid (StrsAt w3 ga (namesT V)) := hst
  have HSh3 : Hid (ShelfAt w3 w.heap.size n0 (namesT V) f) := HSh2.out.below hb3
  have own3' : Hid (w3.ownsRow w1.heap.size 9 1 (.slice (some ⟨w1.heap.size, 0, none⟩) 0 n) 0 (strV (txsT (V.take 0)))) := own_below own2.out hb3
  have hx3 := chain hx2 hb3
  have hs23 : w2.heap.size ≤ w3.heap.size := hb3.size
  clear own3 own2 HSh2 hst hb3 hGN hx2 hx1
  go_wp2
  go_loopw [5, 19] (fun v kk wr => ∃ k : Nat, k ≤ n ∧ kk = .int .i64 k ∧ Hid (wr.ownsRow w1.heap.size 9 1 v k (strV (txsT (V.take k)))) ∧ Hid (StrsAt wr ga (namesT V)) ∧ Hid (ShelfAt wr w.heap.size n0 (namesT V) f) ∧ Hid (∀ g, v.ownBlock = some g → g < w2.heap.size ∨ w3.heap.size ≤ g) ∧ Below w.heap.size w wr ∧ w3.heap.size ≤ wr.heap.size ∧ v ≠ .slice none 0 0) (fun _ kk _ => n - (intOf kk).toNat)
  case atStart =>
    have hg : ∀ g, (Value.slice (some ⟨w1.heap.size, 0, none⟩) 0 n).ownBlock = some g → g < w2.heap.size ∨ w3.heap.size ≤ g := by
      intro g hg
      simp [Value.ownBlock] at hg
      omega
    exact ⟨0, Nat.zero_le _, rfl, own3', HST, HSh3, hg, hx3, Nat.le_refl _, by simp⟩
  case round =>
    obtain ⟨k, hk, rfl, hO, hSt, hShr, hGv, hbw, hszr, hvn⟩ := hrel
    by_cases hlt : k < n
    · have hlt' : Hid (k < V.length) := by have := HN.out; exact show k < V.length by omega
      obtain ⟨gn, on, rfl, hgw, c0⟩ := hSt.out k (by rw [namesT_length]; exact hlt'.out)
      rw [namesT_at V k hlt'.out] at c0
      have hi0 : (0 : Int) ≤ (k : Int) := by omega
      have hi1 : (k : Int) < (n : Int) := by omega
      have hmem : (V[k]'hlt'.out) ∈ V := List.getElem_mem hlt'.out
      obtain ⟨ca, cc, ra, cr, hf, hta⟩ := HH.out _ hmem
      have hnmL := hta.name
      have hrun := (hShr.out.found _ hnmL (List.mem_map_of_mem hmem)).1
      rw [hf] at hrun
      have HTA : Hid (TabAt wr ca cc ra (V[k]'hlt'.out)) := hta.below hbw
      have HTK : Hid (tableB (V[k]'hlt'.out) = true) := HOK.out _ hmem
      have HTX : Hid (txsT (V.take (k + 1)) = txsT (V.take k) ++ [⟨(tabTx (V[k]'hlt'.out)).toArray⟩]) := txsT_take V k hlt'.out
      generalize (V[k]'hlt'.out) = t at c0 hrun HTA HTK HTX
      obtain ⟨z, hz⟩ : ∃ z : ByteArray, (⟨(tabTx t).toArray⟩ : ByteArray) = z := ⟨_, rfl⟩
      have HZ : Hid ((⟨(tabTx t).toArray⟩ : ByteArray) = z) := hz
      obtain ⟨nc, hnc⟩ : ∃ z, t.2.1.length = z := ⟨_, rfl⟩
      obtain ⟨nr, hnr⟩ : ∃ z, t.2.2.length = z := ⟨_, rfl⟩
      obtain ⟨nm, hnm⟩ : ∃ z, t.1 = z := ⟨_, rfl⟩
      rw [hnc, hnr, hnm] at hrun
      rw [hnm] at c0
      have HNC : Hid (t.2.1.length = nc) := hnc
      have HNR : Hid (t.2.2.length = nr) := hnr
      have HNM : Hid (t.1 = nm) := hnm
      clear hf hta hnmL hmem hz hnc hnr hnm
      go_wp2_with fail
      rw [← HNM.out]
      refine (tabletext_impl ca cc ra cr t nc nr HNC.out HNR.out _ HTA.out (HP.out.below hbw) HTK.out z HZ.out).mono ?_
      rintro e w4 ⟨rfl, hb4⟩
      have O4 := own_below hO.out hb4
      have hx4 := chain hbw hb4
      have hs4 : wr.heap.size ≤ w4.heap.size := hb4.size
      have hST4 := hSt.out.below hb4
      have hSH4 := hShr.out.below hb4
      clear hb4 hO c0 HTA hrun hSt hShr
      go_wp2_with (at_builtin; refine wpList_append_own_at _ rfl _ _ 30 rfl w1.heap.size 9 i0 (.string ⟨#[]⟩) 1 16 Tryz.underlying30 hti hz0 hz1 hz2 rfl (by decide) _ _ _ rfl (O4.alloc _) ⟨w4.heap.size, 0, none⟩ 1 1 [.string z] rfl rfl ?c1 ?c2 ?c3 ?c4 ?c5 ?_)
      try (case c1 =>
        intro j u hj
        match j, hj with
        | 0, hj => simp at hj; subst hj; simp [Addr.add])
      try (case c2 => intro u hu; simp at hu; subst hu; rfl)
      case c3 => unfold maxLen; omega
      case c4 => omega
      case c5 => simp; omega
      intro v5 w5 own5 hgrow5 hnn5 hloc5
      have hx5 : Below w.heap.size w w5 := by
        refine (hx4.alloc hx4.size _).grown hgrow5 (by have := hx4.size; simp; omega) ?_
        intro kk hkk
        have := (O4.lt kk hkk).1
        omega
      have hsa : (w4.alloc (.cells #[.string z] 9)).heap.size = w4.heap.size + 1 := by simp
      have hs5 : w3.heap.size ≤ w5.heap.size := by have := hgrow5.size; omega
      have hvn5 : v5 ≠ .slice none 0 0 := by first | exact hnn5 | exact fun e => hvn (hnn5.1 e).1
      have ST5 : Hid (StrsAt w5 (some ⟨gn, on, none⟩) (namesT V)) := by
        have h1 := hST4.below ((Below.refl _ _).alloc (Nat.le_refl _) (.cells #[.string z] 9))
        have : StrsAt w5 (some ⟨gn, on, none⟩) (namesT V) := h1.keepS (KeepS.grown hgrow5) (fun b hb e => by
          have h2 := HGN.out b hb
          have h3 := hGv.out b e.symm
          omega)
        exact this
      have SH5 : Hid (ShelfAt w5 w.heap.size n0 (namesT V) f) := by
        have : ShelfAt w5 w.heap.size n0 (namesT V) f := by
          have h1 := hSH4.below ((Below.refl _ _).alloc (Nat.le_refl _) (.cells #[.string z] 9))
          refine h1.block (hgrow5.block w.heap.size (by rw [hsa]; omega) (fun e => ?_))
          have := (O4.lt _ e.symm).1
          omega
        exact this
      have GV5 : Hid (∀ g, v5.ownBlock = some g → g < w2.heap.size ∨ w3.heap.size ≤ g) := by
        have : ∀ g, v5.ownBlock = some g → g < w2.heap.size ∨ w3.heap.size ≤ g := by
          intro g hg
          rcases hloc5 with e | e
          · rw [e] at hg; exact hGv.out g hg
          · rw [hg] at e
            injection e with e
            omega
        exact this
      have SS : Hid (w5.ownsRow w1.heap.size 9 1 v5 (k + 1) (strV (txsT (V.take (k + 1))))) := by
        have : w5.ownsRow w1.heap.size 9 1 v5 (k + 1) (strV (txsT (V.take (k + 1)))) := by
          rw [HTX.out, HZ.out, show strV (txsT (V.take k) ++ [z]) = strV (txsT (V.take k)) ++ [.string z] from List.map_append]; exact own5
        exact this
      clear own5 hgrow5 hnn5 hloc5 O4 hST4 hSH4 hGv hsa
      go_wp2
      go_roundw
      case rel => exact ⟨k + 1, by omega, by go_num, SS, ST5, SH5, GV5, hx5, hs5, hvn5⟩
      case measure => simp [intOf]; omega
    · have hkl : k = n := by omega
      subst hkl
      have hnn : ¬ (k : Int) < (k : Int) := by omega
      have hOO := hO.out
      rw [show V.take k = V by rw [← HN.out, List.take_length]] at hOO
      rcases hOO.2 with ⟨e, _⟩ | ⟨g7, c7, cur7, e, _⟩
      · exact absurd e hvn
      subst e
      have HO7 : Hid (wr.ownsRow w1.heap.size 9 1 (.slice (some ⟨g7, 0, none⟩) k c7) k (strV (txsT V))) := hOO
      have HJ7 : Hid ((Lib.join (rawT (txsT V)) []).length ≤ 140737488355328 ∧ (⟨(Lib.join (rawT (txsT V)) []).toArray⟩ : ByteArray) = y) := by
        have e : Lib.join (rawT (txsT V)) [] = showTx V := by rw [join_none, txsT_flat]
        have : (Lib.join (rawT (txsT V)) []).length ≤ 140737488355328 ∧ (⟨(Lib.join (rawT (txsT V)) []).toArray⟩ : ByteArray) = y := by
          rw [e]
          exact ⟨by have := showTx_len HOK.out HV5.out V.length; rw [List.take_length] at this; omega, HYV.out⟩
        exact this
      have HL7 : Hid ((txsT V).length = k) := by
        have : (txsT V).length = k := by rw [txsT_length]; exact HN.out
        exact this
      clear hOO hO hSt hShr hGv
      go_wp2_with fail
      refine (joinedN k g7 c7 _ HL7.out ⟨#[]⟩ _ w1.heap.size HO7.out (by omega) HJ7.out.1 y HJ7.out.2).mono ?_
      rintro e w8 ⟨rfl, hb8⟩
      have hx8 := chain hbw hb8
      clear HO7 HJ7 HL7 hb8
      go_wp2
      go_ret
      exact ⟨rfl, hx8⟩
end Go.Proofs.YtkbfgecdhiaiialGreatDoor
