/-
  A part of the proof: PutI.
-/
import Derived.Test.YtbjpjhhdnbclbabPart5
import Derived.Test.YtbjpjhhdnbclbabPart11
import Derived.Test.YtbjpjhhdnbclbabPart12
import Derived.Maps.AppendAt

/-
  The contract of the program's Put.
-/
namespace Go.Proofs.Ytbjpjhhdnbclbab
open Go.ChangeShapes Go.WideShapes Go.ChangeAt Go.RowKit
attribute [local go_sem ↓] Go.wp_at_zero Go.wp_at_succ
attribute [local simp] World.cell?_alloc_past World.cell?_alloc_at World.frozen?_alloc_at cell_far cell_off cell_here World.frozen?_alloc_past

theorem own_keepB {w w' : World} {base base' g c : Nat} {e : TypeId} {size n : Nat} {xs : List Value} (h : w.ownsRow base e size (.slice (some ⟨g, 0, none⟩) n c) n xs) (hb : base' ≤ base) (hk : w'.heap[g]? = w.heap[g]?) : w'.ownsRow base' e size (.slice (some ⟨g, 0, none⟩) n c) n xs := by
  refine ⟨h.1, ?_⟩
  rcases h.2 with h' | ⟨g', cap, cur, h', hbg, hg, hr⟩
  · exact .inl h'
  · refine .inr ⟨g', cap, cur, h', by omega, ?_, hr⟩
    simp only [Value.slice.injEq, Option.some.injEq, Addr.mk.injEq, and_true, true_and] at h'
    obtain ⟨rfl, _⟩ := h'
    rw [hk]; exact hg
/-- The heads of rows, by their places. -/
def HK (w : World) (ra : Option Addr) (L : List (List CT)) (A : Nat → Option Addr) (K : Nat → Nat) : Prop :=
  ∀ i, (hi : i < L.length) → ∃ b o, ra = some ⟨b, o, none⟩ ∧ b < w.heap.size ∧ w.cell? ⟨b, o + i, none⟩ = some (.slice (A i) L[i].length (K i)) ∧ RowAt w (A i) L[i] ∧ Fit L[i] ∧ L[i].length ≤ maxLen ∧ (A i = none → K i = 0)
theorem HK.below {w w' : World} {ra : Option Addr} {L : List (List CT)} {A : Nat → Option Addr} {K : Nat → Nat} (h : HK w ra L A K) (hb : Below w.heap.size w w') : HK w' ra L A K := by
  intro i hi
  obtain ⟨b, o, e, hlt, h0, h1, h2, h3, h4⟩ := h i hi
  exact ⟨b, o, e, Nat.lt_of_lt_of_le hlt hb.size, by rw [hb.cell (p := ⟨b, _, none⟩) hlt]; exact h0, h1.below hb, h2, h3, h4⟩
theorem headsP {w : World} {a : Option Addr} {L : List (List CT)} (h : RowsAt w a L) : ∃ A K, HK w a L A K := by
  have hx : ∀ i, ∃ p : Option Addr × Nat, (hi : i < L.length) → ∃ b o, a = some ⟨b, o, none⟩ ∧ b < w.heap.size ∧ w.cell? ⟨b, o + i, none⟩ = some (.slice p.1 L[i].length p.2) ∧ RowAt w p.1 L[i] ∧ Fit L[i] ∧ L[i].length ≤ maxLen ∧ (p.1 = none → p.2 = 0) := by
    intro i
    by_cases hi : i < L.length
    · obtain ⟨b, o, ai, ci, ha, hlt, h0, h1, h2, h3, h4⟩ := h i hi
      exact ⟨(ai, ci), fun _ => ⟨b, o, ha, hlt, h0, h1, h2, h3, h4⟩⟩
    · exact ⟨(none, 0), fun hi' => absurd hi' hi⟩
  obtain ⟨f, hf⟩ := Classical.axiomOfChoice hx
  exact ⟨fun i => (f i).1, fun i => (f i).2, fun i hi => hf i hi⟩
def headsV (A : Nat → Option Addr) (K : Nat → Nat) (L : List (List CT)) : List Value := (List.range L.length).map fun i => .slice (A i) (L.getD i []).length (K i)
theorem headsV_length (A : Nat → Option Addr) (K : Nat → Nat) (L : List (List CT)) : (headsV A K L).length = L.length := by simp [headsV]
theorem headsV_at (A : Nat → Option Addr) (K : Nat → Nat) (L : List (List CT)) (i : Nat) (h : i < L.length) : (headsV A K L)[i]? = some (.slice (A i) L[i].length (K i)) := by
  unfold headsV
  rw [List.getElem?_map, List.getElem?_range h, Option.map_some, getD_at h]
/-- Heads behind each other, and one more, are rows. -/
theorem rows_more {w w' : World} {ra : Option Addr} {L : List (List CT)} {r : List CT} {a : Option Addr} {n cap : Nat} {A : Nat → Option Addr} {K : Nat → Nat} {base g c : Nat} {e : TypeId} (hA : HK w ra L A K)
    (hn : r.length = n) (hr : RowAt w a r) (hf : Fit r) (hm : n ≤ maxLen) (hnil : a = none → cap = 0) (hb : Below w.heap.size w w') (own : w'.ownsRow base e 1 (.slice (some ⟨g, 0, none⟩) (L.length + 1) c) (L.length + 1) (headsV A K L ++ [.slice a n cap])) : RowsAt w' (some ⟨g, 0, none⟩) (L ++ [r]) := by
  have hlt := (own.lt g rfl).2
  intro i hi
  have hi2 : i < L.length + 1 := by simpa using hi
  have hc := own.cellAt i (by omega)
  by_cases hl : i < L.length
  · obtain ⟨b, o, _, _, _, h1, h2, h3, h4⟩ := hA i hl
    rw [List.getElem?_append_left (by rw [headsV_length]; exact hl), headsV_at A K L i hl] at hc
    rw [List.getElem_append_left hl]
    exact ⟨g, 0, A i, K i, rfl, hlt, by rw [Nat.zero_add]; exact hc, h1.below hb, h2, h3, h4⟩
  · have : i = L.length := by omega
    subst this
    rw [List.getElem?_append_right (by rw [headsV_length]; exact Nat.le_refl _), headsV_length, Nat.sub_self] at hc
    simp only [List.getElem_append_right (Nat.le_refl _), Nat.sub_self, List.getElem_cons_zero]
    subst hn
    exact ⟨g, 0, a, cap, rfl, hlt, by rw [Nat.zero_add]; exact hc, hr.below hb, hf, hm, hnil⟩

/-- 'make([]T, 0, n)' as one operation of a region that draws. -/
theorem wp_make_own' {P : Program} (w : World) {o : Oper} {a : Act} {K : Act → World → Prop} {Q : Exit → Act → World → Prop} (l c : Operand) (t : TypeId) (hop : o.op = Op.makeSlice t l c)
    (base : Nat) (e : TypeId) (i : TypeInfo) (z : Value) (size : Nat) (h1 : P.underlying t = some (.slice e)) (h2 : P.info? e = some i) (h3 : i.zero = some z) (h4 : i.size = size)
    (kl kc : IntKind) (C : Int) (n : Nat) (hl : a.eval l = .int kl 0) (hc : a.eval c = .int kc C) (hC : C = (n : Int)) (b2 : i.bytes * n ≤ 281474976710656) (b3 : n ≤ maxLen) (b4 : base ≤ w.heap.size)
    (hK : ∀ w', w'.ownsRow base e size (.slice (some ⟨w.heap.size, 0, none⟩) 0 n) 0 [] → w.grownBy w' none → K (a.put o.dst (.slice (some ⟨w.heap.size, 0, none⟩) 0 n)) w') : o.wp P a w K Q := by
  obtain ⟨w', hrun, r1, r2⟩ := run_make_own (P := P) w base t e i z size h1 h2 h3 h4 kl kc n b2 b3 b4
  subst hC
  unfold Oper.wp
  simp [execOp, hop, hl, hc, hrun, Result.andThen]
  exact hK w' r1 r2
/-- Nothing is appended to a list of the call's own. -/
theorem wp_append_none' {P : Program} {w : World} {o : Oper} {a : Act} {K : Act → World → Prop} {Q : Exit → Act → World → Prop} (s x : Operand) (t : TypeId) (ho : o.op = .call { callee := .builtin .append, args := #[s, x], argTypes := #[t, t] })
    (base : Nat) (e : TypeId) (i : TypeInfo) (size : Nat) (ht : P.underlying t = some (.slice e)) (hi : P.info? e = some i)
    (v : Value) (n : Nat) (xs : List Value) (hs : a.eval s = v) (hown : w.ownsRow base e size v n xs) (hx : a.eval x = .slice none 0 0) (h : K (a.put o.dst v) w) : o.wp P a w K Q := by
  have hrun := run_append_owned_none (P := P) (w := w) base t o.type e i size ht hi v n xs hown
  unfold Oper.wp
  simp [execOp, ho, resolve, invoke, builtin, hs, hx, hrun, Result.andThen]
  exact h

theorem infoRowW : (Try.prog.info? 29).map (fun i => (i.zero, i.size, i.bytes)) = some (some (.slice none 0 0), 1, 24) := by kernel_rfl

set_option maxRecDepth 100000 in
set_option maxHeartbeats 2000000 in
theorem with_impl (ra : Option Addr) (cr nr : Nat) (L : List (List CT)) (hnr : L.length = nr) (A : Nat → Option Addr) (K : Nat → Nat) (a : Option Addr) (cap n : Nat) (w : World) (hAK : HK w ra L A K) (hnilR : ra = none → cr = 0) (hm : nr ≤ 1048576) :
    Calls Try.prog 38 #[.agg #[.slice ra nr cr], .slice a n cap] w fun e w' => ∃ g c, e = .returned (.agg #[.slice (some ⟨g, 0, none⟩) (nr + 1) c]) ∧ w'.ownsRow w.heap.size 29 1 (.slice (some ⟨g, 0, none⟩) (nr + 1) c) (nr + 1) (headsV A K L ++ [.slice a n cap]) ∧ Below w.heap.size w w' := by
  obtain ⟨i0, hi, hz0, hz1, hz2⟩ := info_parts infoRowW
  have HA : Hid (HK w ra L A K) := hAK
  have HNR : Hid (L.length = nr) := hnr
  clear hAK hnr
  cases ra with
  | none =>
    have hl : L = [] := by
      cases L with
      | nil => rfl
      | cons x l => obtain ⟨b, o, e, _⟩ := HA.out 0 (by simp); cases e
    subst hl
    have hc := hnilR rfl
    subst hc
    have h0 : nr = 0 := HNR.out.symm
    subst h0
    go_enter Try.func38, Try.ntmps38
    have hA : Below w.heap.size w ((w.alloc (.cells #[.slice none 0 0] 62)).alloc (.cells #[.slice none 0 0] 62)) := ((Below.refl _ _).alloc (Nat.le_refl _) _).alloc (by simp) _
    go_wp2_with (at_make; refine wpList_make_own _ rfl _ _ 24 rfl (w.heap.size + 1 + 1) 29 i0 (.slice none 0 0) 1 Try.underlying24 hi hz0 hz1 .i64 .i64 _ (0 + 1) rfl rfl rfl (by rw [hz2]; omega) (by unfold maxLen; omega) (by simp) ?_)
    intro w1 hown hgrow
    have hb1 := (Below.refl _ _).grown hgrow (Nat.le_refl _) (by intro k h; cases h)
    obtain ⟨hc, hf⟩ := bcell hb1
    have c0 : w1.cell? ⟨w.heap.size, 0, none⟩ = some (.slice none 0 0) := by rw [hc _ _ (by simp; omega)]; simp
    have d0 : w1.cell? ⟨w.heap.size + 1, 0, none⟩ = some (.slice none 0 0) := by rw [hc _ _ (by simp)]; simp
    have e0 : w1.frozen? ⟨w.heap.size + 1, 0, none⟩ = false := by rw [hf _ _ (by simp)]; simp
    have hx1 : Below w.heap.size w w1 := chain hA hb1
    have hs1 : w.heap.size + 1 + 1 ≤ w1.heap.size := by have := hb1.size; simp at this; exact this
    have O1 : Hid (w1.ownsRow (w.heap.size + 1 + 1) 29 1 (.slice (some ⟨w.heap.size + 1 + 1, 0, none⟩) 0 (0 + 1)) 0 []) := by
      have h9 := hown
      first | exact h9 | (simp at h9; exact h9)
    clear hown hgrow hb1 hc hf hA
    go_wp2_with (first
      | (at_builtin; refine wpList_append_own_none rfl _ _ 24 rfl (w.heap.size + 1 + 1) 29 i0 1 Try.underlying24 hi (.slice (some ⟨w.heap.size + 1 + 1, 0, none⟩) 0 1) 0 [] rfl O1.out rfl ?_)
      | (at_builtin; refine wpList_append_own _ rfl _ _ 24 rfl (w.heap.size + 1 + 1) 29 i0 (.slice none 0 0) 1 24 Try.underlying24 hi hz0 hz1 hz2 rfl (by decide) (.slice (some ⟨w.heap.size + 1 + 1, 0, none⟩) 0 1) 0 [] rfl (O1.out.alloc _) ⟨w1.heap.size, 0, none⟩ 1 1 [.slice a n cap] rfl rfl ?c1 ?c2 ?c3 ?c4 ?c5 ?_))
    case c1 =>
      intro j u hj
      match j, hj with
      | 0, hj => simp at hj; subst hj; simp [Addr.add]
    case c2 => intro u hu; simp at hu; subst hu; rfl
    case c3 => unfold maxLen; omega
    case c4 => omega
    case c5 => have := hx1.size; simp; omega
    intro v3 w3 own3 hgrow3 hnn3
    obtain ⟨g3, c3, rfl⟩ : ∃ g3 c3, v3 = .slice (some ⟨g3, 0, none⟩) (0 + 1) c3 := by
      rcases own3.2 with ⟨_, h0⟩ | ⟨g3, c3, cur, h', _⟩
      · omega
      · exact ⟨g3, c3, by rw [h', Nat.zero_add]⟩
    have hk3 : ∀ k, k < w1.heap.size + 1 → some k ≠ some (w.heap.size + 1 + 1) → w3.heap[k]? = (w1.alloc (.cells #[.slice a n cap] 29)).heap[k]? := fun k h1 h2 => hgrow3.block k (by simpa using h1) h2
    have d3 : w3.cell? ⟨w.heap.size + 1, 0, none⟩ = some (.slice none 0 0) := by
      rw [World.cell?_of_block (a := ⟨w.heap.size + 1, 0, none⟩) (hk3 _ (by show w.heap.size + 1 < _; omega) (by simp))]
      rw [World.cell?_alloc_past _ _ _ (by omega)]; exact d0
    have e3 : w3.frozen? ⟨w.heap.size + 1, 0, none⟩ = false := by
      rw [World.frozen?_of_block (a := ⟨w.heap.size + 1, 0, none⟩) (hk3 _ (by show w.heap.size + 1 < _; omega) (by simp))]
      rw [World.frozen?_alloc_past _ _ _ (by omega)]; exact e0
    have hx3 : Below w.heap.size w w3 := (hx1.alloc (by have := hx1.size; omega) _).grown hgrow3 (by have := hx1.size; simp; omega) (by intro k hk; simp [Value.ownBlock] at hk; omega)
    have fin : Hid (∀ u, (w3.setCell ⟨w.heap.size + 1, 0, none⟩ u).ownsRow w.heap.size 29 1 (.slice (some ⟨g3, 0, none⟩) (0 + 1) c3) (0 + 1) (headsV A K [] ++ [.slice a n cap]) ∧ Below w.heap.size w (w3.setCell ⟨w.heap.size + 1, 0, none⟩ u)) := by
      have : ∀ u, (w3.setCell ⟨w.heap.size + 1, 0, none⟩ u).ownsRow w.heap.size 29 1 (.slice (some ⟨g3, 0, none⟩) (0 + 1) c3) (0 + 1) (headsV A K [] ++ [.slice a n cap]) ∧ Below w.heap.size w (w3.setCell ⟨w.heap.size + 1, 0, none⟩ u) := by
        intro u
        exact ⟨own_keepC (c := w.heap.size + 1) own3 ((Keep.refl (w.heap.size + 1) w3).setCell (p := ⟨w.heap.size + 1, 0, none⟩) (Or.inl rfl) u) (by omega) (by omega), hx3.setCell (p := ⟨w.heap.size + 1, 0, none⟩) (by show _ ≤ w.heap.size + 1; omega) _⟩
      exact this
    clear own3 hgrow3 hnn3 hk3
    go_wp2
    exact bodyPost_ret (v := .agg #[.slice (some ⟨g3, 0, none⟩) (0 + 1) c3]) (by simp [results, Try.results38, go_sem, d3]) rfl ⟨_, _, rfl, (fin.out _).1, (fin.out _).2⟩
  | some ad =>
    go_enter Try.func38, Try.ntmps38
    have hA : Below w.heap.size w ((w.alloc (.cells #[.slice (some ad) nr cr] 62)).alloc (.cells #[.slice none 0 0] 62)) := ((Below.refl _ _).alloc (Nat.le_refl _) _).alloc (by simp) _
    go_wp2_with (at_make; refine wpList_make_own _ rfl _ _ 24 rfl (w.heap.size + 1 + 1) 29 i0 (.slice none 0 0) 1 Try.underlying24 hi hz0 hz1 .i64 .i64 _ (nr + 1) rfl rfl rfl (by rw [hz2]; omega) (by unfold maxLen; omega) (by simp) ?_)
    intro w1 hown hgrow
    have hb1 := (Below.refl _ _).grown hgrow (Nat.le_refl _) (by intro k h; cases h)
    obtain ⟨hc, hf⟩ := bcell hb1
    have c0 : w1.cell? ⟨w.heap.size, 0, none⟩ = some (.slice (some ad) nr cr) := by rw [hc _ _ (by simp; omega)]; simp
    have d0 : w1.cell? ⟨w.heap.size + 1, 0, none⟩ = some (.slice none 0 0) := by rw [hc _ _ (by simp)]; simp
    have e0 : w1.frozen? ⟨w.heap.size + 1, 0, none⟩ = false := by rw [hf _ _ (by simp)]; simp
    have hx1 : Below w.heap.size w w1 := chain hA hb1
    have hs1 : w.heap.size + 1 + 1 ≤ w1.heap.size := by have := hb1.size; simp at this; exact this
    have O1 : Hid (w1.ownsRow (w.heap.size + 1 + 1) 29 1 (.slice (some ⟨w.heap.size + 1 + 1, 0, none⟩) 0 (nr + 1)) 0 []) := by
      have h9 := hown
      first | exact h9 | (simp at h9; exact h9)
    clear hown hgrow hb1 hc hf hA
    go_wp2_with (at_builtin; refine wpList_append_own _ rfl _ _ 24 rfl (w.heap.size + 1 + 1) 29 i0 (.slice none 0 0) 1 24 Try.underlying24 hi hz0 hz1 hz2 rfl (by decide) (.slice (some ⟨w.heap.size + 1 + 1, 0, none⟩) 0 (nr + 1)) 0 [] rfl O1.out ad nr cr (headsV A K L) rfl (by rw [headsV_length, HNR.out]; omega) ?c1 ?c2 ?c3 ?c4 ?c5 ?_)
    case c1 =>
      intro j u hj
      have hjl : j < L.length := by have := (List.getElem?_eq_some_iff.1 hj).1; rw [headsV_length] at this; exact this
      rw [headsV_at A K L j hjl] at hj
      obtain ⟨b, o, e, hlt, h0, _⟩ := HA.out j hjl
      cases e
      have hadd : (⟨b, o, none⟩ : Addr).add j = ⟨b, o + j, none⟩ := by unfold Addr.add; split <;> simp_all
      rw [hadd, hx1.cell (p := ⟨b, o + j, none⟩) hlt, h0]; exact hj
    case c2 =>
      intro u hu
      obtain ⟨b, _, rfl⟩ := List.mem_map.1 hu
      rfl
    case c3 => unfold maxLen; omega
    case c4 => omega
    case c5 => omega
    intro v2 w2 own2 hgrow2 hnn2
    try rw [List.nil_append, Nat.zero_add] at own2
    have hx2 : Below w.heap.size w w2 := hx1.grown hgrow2 (by omega) (by intro k hk; simp [Value.ownBlock] at hk; omega)
    have hs2 : w.heap.size + 1 + 1 ≤ w2.heap.size := Nat.le_trans hs1 hgrow2.size
    have d2 : w2.cell? ⟨w.heap.size + 1, 0, none⟩ = some (.slice none 0 0) := (World.cell?_of_block (a := ⟨w.heap.size + 1, 0, none⟩) (hgrow2.block _ (by show w.heap.size + 1 < _; omega) (by simp [Value.ownBlock]))).trans d0
    have e2 : w2.frozen? ⟨w.heap.size + 1, 0, none⟩ = false := (World.frozen?_of_block (a := ⟨w.heap.size + 1, 0, none⟩) (hgrow2.block _ (by show w.heap.size + 1 < _; omega) (by simp [Value.ownBlock]))).trans e0
    have hob2 := own2.lt
    have O2 : Hid (w2.ownsRow (w.heap.size + 1 + 1) 29 1 v2 nr (headsV A K L)) := own2
    obtain ⟨a2, c2, rfl⟩ : ∃ a2 c2, v2 = .slice a2 nr c2 := by
      rcases own2.2 with ⟨h0, h1⟩ | ⟨g2, c2, cur, h', _⟩
      · exact ⟨none, 0, by rw [h0, h1]⟩
      · exact ⟨_, _, h'⟩
    clear own2 hgrow2 hnn2 d0 e0 O1 c0
    go_wp2_with (at_builtin; refine wpList_append_own _ rfl _ _ 24 rfl (w.heap.size + 1 + 1) 29 i0 (.slice none 0 0) 1 24 Try.underlying24 hi hz0 hz1 hz2 rfl (by decide) _ _ _ rfl (O2.out.alloc _) ⟨w2.heap.size, 0, none⟩ 1 1 [.slice a n cap] rfl rfl ?c1 ?c2 ?c3 ?c4 ?c5 ?_)
    case c1 =>
      intro j u hj
      match j, hj with
      | 0, hj => simp at hj; subst hj; simp [Addr.add]
    case c2 => intro u hu; simp at hu; subst hu; rfl
    case c3 => unfold maxLen; omega
    case c4 => omega
    case c5 => have := hx2.size; simp; omega
    intro v3 w3 own3 hgrow3 hnn3
    obtain ⟨g3, c3, rfl⟩ : ∃ g3 c3, v3 = .slice (some ⟨g3, 0, none⟩) (nr + 1) c3 := by
      rcases own3.2 with ⟨_, h0⟩ | ⟨g3, c3, cur, h', _⟩
      · omega
      · exact ⟨g3, c3, by rw [h']⟩
    have hk3 : ∀ k, k < w2.heap.size + 1 → some k ≠ (Value.slice a2 nr c2).ownBlock → w3.heap[k]? = (w2.alloc (.cells #[.slice a n cap] 29)).heap[k]? := fun k h1 h2 => hgrow3.block k (by simpa using h1) h2
    have d3 : w3.cell? ⟨w.heap.size + 1, 0, none⟩ = some (.slice none 0 0) := by
      rw [World.cell?_of_block (a := ⟨w.heap.size + 1, 0, none⟩) (hk3 _ (by show w.heap.size + 1 < _; omega) (by intro hh; have h7 : w.heap.size + 1 + 1 ≤ w.heap.size + 1 := (hob2 _ hh.symm).1; omega))]
      rw [World.cell?_alloc_past _ _ _ (by omega)]; exact d2
    have e3 : w3.frozen? ⟨w.heap.size + 1, 0, none⟩ = false := by
      rw [World.frozen?_of_block (a := ⟨w.heap.size + 1, 0, none⟩) (hk3 _ (by show w.heap.size + 1 < _; omega) (by intro hh; have h7 : w.heap.size + 1 + 1 ≤ w.heap.size + 1 := (hob2 _ hh.symm).1; omega))]
      rw [World.frozen?_alloc_past _ _ _ (by omega)]; exact e2
    have hx3 : Below w.heap.size w w3 := (hx2.alloc (by have := hx2.size; omega) _).grown hgrow3 (by have := hx2.size; simp; omega) (by intro k hk; have := (hob2 k hk).1; omega)
    have fin : Hid (∀ u, (w3.setCell ⟨w.heap.size + 1, 0, none⟩ u).ownsRow w.heap.size 29 1 (.slice (some ⟨g3, 0, none⟩) (nr + 1) c3) (nr + 1) (headsV A K L ++ [.slice a n cap]) ∧ Below w.heap.size w (w3.setCell ⟨w.heap.size + 1, 0, none⟩ u)) := by
      have : ∀ u, (w3.setCell ⟨w.heap.size + 1, 0, none⟩ u).ownsRow w.heap.size 29 1 (.slice (some ⟨g3, 0, none⟩) (nr + 1) c3) (nr + 1) (headsV A K L ++ [.slice a n cap]) ∧ Below w.heap.size w (w3.setCell ⟨w.heap.size + 1, 0, none⟩ u) := by
        intro u
        exact ⟨own_keepC (c := w.heap.size + 1) own3 ((Keep.refl (w.heap.size + 1) w3).setCell (p := ⟨w.heap.size + 1, 0, none⟩) (Or.inl rfl) u) (by omega) (by omega), hx3.setCell (p := ⟨w.heap.size + 1, 0, none⟩) (by show _ ≤ w.heap.size + 1; omega) _⟩
      exact this
    clear own3 hgrow3 hnn3 hk3
    go_wp2
    exact bodyPost_ret (v := .agg #[.slice (some ⟨g3, 0, none⟩) (nr + 1) c3]) (by simp [results, Try.results38, go_sem, d3]) rfl ⟨_, _, rfl, (fin.out _).1, (fin.out _).2⟩

theorem infoTxI : (Try.prog.info? 9).map (fun i => (i.zero, i.size, i.bytes)) = some (some (.string ⟨#[]⟩), 1, 16) := by kernel_rfl
theorem copied_rowsN (a : Option Addr) (cap : Nat) (L : List (List CT)) (n : Nat) (hn : L.length = n) (w : World) (hrow : RowsAt w a L) (hm : n ≤ 1048576) (hms : ∀ i (h : i < L.length), L[i].length ≤ 1048576) :
    Calls Try.prog 64 #[.slice a n cap] w fun e w' => ∃ v G C, e = .returned v ∧ OwnRows w' w.heap.size v L G C ∧ Below w.heap.size w w' ∧ v ≠ .slice none 0 0 := by
  subst hn; exact copied_rows a cap L w hrow hm hms

set_option maxRecDepth 100000 in
set_option maxHeartbeats 4000000 in
theorem copied_table (ca : Option Addr) (cc : Nat) (ra : Option Addr) (cr : Nat) (t : TB) (nc nr : Nat) (hnc : t.2.1.length = nc) (hnr : t.2.2.length = nr) (w : World) (ht : TabAt w ca cc ra t) (hc1 : nc ≤ 1048576) (hr1 : nr ≤ 1048576) (hms : ∀ i (h : i < t.2.2.length), t.2.2[i].length ≤ 1048576) :
    Calls Try.prog 39 #[.agg #[.string t.1, .slice ca nc cc, .slice ra nr cr]] w fun e w' => ∃ g c g2 c2 A D, e = .returned (.agg #[.string t.1, .slice (some ⟨g, 0, none⟩) nc c, .slice (some ⟨g2, 0, none⟩) nr c2]) ∧ OutTab w' w.heap.size (some ⟨g, 0, none⟩) c (some ⟨g2, 0, none⟩) t A D ∧ Below w.heap.size w w' ∧ nr ≤ c2 := by
  obtain ⟨i0, hi, hz0, hz1, hz2⟩ := info_parts infoTxI
  obtain ⟨nm, C, L⟩ := t
  dsimp only at hnc hnr hms ⊢
  have HT : Hid (TabAt w ca cc ra (nm, C, L)) := ht
  have HNC : Hid (C.length = nc) := hnc
  have HNR : Hid (L.length = nr) := hnr
  have HMS : Hid (∀ i (h : i < L.length), L[i].length ≤ 1048576) := hms
  have hnil := ht.nilC
  clear ht hnc hnr hms
  cases ca with
  | none =>
    have hl : C = [] := by
      cases C with
      | nil => rfl
      | cons x l => obtain ⟨b, o, e, _⟩ := HT.out.cols 0 (by simp); cases e
    subst hl
    have hc := hnil rfl
    subst hc
    have h0 : nc = 0 := HNC.out.symm
    subst h0
    go_enter Try.func39, Try.ntmps39
    go_wp2_with fail
    obtain ⟨W, hW⟩ : ∃ W, W = ((w.alloc (.cells #[.string nm, .slice none 0 0, .slice ra nr cr] 32)).alloc (.cells #[.string ⟨#[]⟩, .slice none 0 0, .slice none 0 0] 32)) := ⟨_, rfl⟩
    rw [← hW]
    have hA : Below w.heap.size w W := by rw [hW]; exact ((Below.refl _ _).alloc (Nat.le_refl _) _).alloc (by simp) _
    have hWs : W.heap.size = w.heap.size + 1 + 1 := by rw [hW]; simp
    have p0 : W.cell? ⟨w.heap.size, 0, none⟩ = some (.string nm) := by rw [hW]; simp
    have p1 : W.cell? ⟨w.heap.size, 1, none⟩ = some (.slice none 0 0) := by rw [hW]; simp
    have p2 : W.cell? ⟨w.heap.size, 2, none⟩ = some (.slice ra nr cr) := by rw [hW]; simp
    have dd : Hid ((W.cell? ⟨w.heap.size + 1, 0, none⟩ = some (.string ⟨#[]⟩) ∧ W.cell? ⟨w.heap.size + 1, 1, none⟩ = some (.slice none 0 0) ∧ W.cell? ⟨w.heap.size + 1, 2, none⟩ = some (.slice none 0 0)) ∧ W.frozen? ⟨w.heap.size + 1, 0, none⟩ = false ∧ W.frozen? ⟨w.heap.size + 1, 1, none⟩ = false ∧ W.frozen? ⟨w.heap.size + 1, 2, none⟩ = false) := by
      have : (W.cell? ⟨w.heap.size + 1, 0, none⟩ = some (.string ⟨#[]⟩) ∧ W.cell? ⟨w.heap.size + 1, 1, none⟩ = some (.slice none 0 0) ∧ W.cell? ⟨w.heap.size + 1, 2, none⟩ = some (.slice none 0 0)) ∧ W.frozen? ⟨w.heap.size + 1, 0, none⟩ = false ∧ W.frozen? ⟨w.heap.size + 1, 1, none⟩ = false ∧ W.frozen? ⟨w.heap.size + 1, 2, none⟩ = false := by
        rw [hW]; refine ⟨⟨?_, ?_, ?_⟩, ?_, ?_, ?_⟩ <;> simp
      exact this
    have HWS : Hid (W.heap.size = w.heap.size + 1 + 1) := hWs
    have hlw : w.heap.size + 1 < W.heap.size := by omega
    clear hW hWs
    refine wp_region_held_drew (S := (fun w' => w'.cell? ⟨w.heap.size, 1, none⟩ = some (.slice none 0 0))) (by kernel_rfl) ?_ (fun hHeld => ?_)
    · (((try dsimp only); (repeat' apply And.intro) <;> first | (go_keep; done) | (simp (disch := first | omega | (simp <;> omega) | fail) [*]; done) | fail))
    refine wpAnyH_take (i := 0) (by simp only [List.getElem?_toArray, List.getElem?_cons_zero]; rfl) (by kernel_rfl) (by kernel_rfl) (by kernel_rfl) (by intro _ _ _ h; exact h) (Or.inl ⟨by rfl, fun w hSw => by (dsimp only at hSw; go_simp; (try with_reducible rfl))⟩) (by assumption) ?_
    simp only [Act.put, List.setIfInBounds_toArray, List.set_cons_zero, List.set_cons_succ]
    refine wpAnyH_take (i := 1) (by simp only [List.getElem?_toArray, List.getElem?_cons_zero, List.getElem?_cons_succ]; rfl) (by kernel_rfl) (by kernel_rfl) (by kernel_rfl) (by intro _ _ _ h; exact h) (Or.inl ⟨by rfl, fun w hSw => by (dsimp only at hSw; go_simp; (try with_reducible rfl))⟩) (by assumption) ?_
    simp only [Act.put, List.setIfInBounds_toArray, List.set_cons_zero, List.set_cons_succ]
    refine wpAnyH_take (i := 2) (by simp only [List.getElem?_toArray, List.getElem?_cons_zero, List.getElem?_cons_succ]; rfl) (by kernel_rfl) (by kernel_rfl) (by kernel_rfl) (by intro _ _ _ h; exact h) (Or.inl ⟨by rfl, fun w hSw => by (dsimp only at hSw; go_simp; (try with_reducible rfl))⟩) (by assumption) ?_
    simp only [Act.put, List.setIfInBounds_toArray, List.set_cons_zero, List.set_cons_succ]
    refine wpAnyH_take (i := 4) (by simp only [List.getElem?_toArray, List.getElem?_cons_zero, List.getElem?_cons_succ]; rfl) (by kernel_rfl) (by kernel_rfl) (by kernel_rfl) (by intro _ _ _ h; exact h) (Or.inl ⟨by rfl, fun w hSw => by (dsimp only at hSw; go_simp; (try with_reducible rfl))⟩) (by assumption) ?_
    simp only [Act.put, List.setIfInBounds_toArray, List.set_cons_zero, List.set_cons_succ]
    refine wpAnyH_take (i := 5) (by simp only [List.getElem?_toArray, List.getElem?_cons_zero, List.getElem?_cons_succ]; rfl) (by kernel_rfl) (by kernel_rfl) (by kernel_rfl) (by intro _ _ _ h; exact h) (Or.inl ⟨by rfl, fun w hSw => by (dsimp only at hSw; go_simp; (try with_reducible rfl))⟩) (by assumption) ?_
    simp only [Act.put, List.setIfInBounds_toArray, List.set_cons_zero, List.set_cons_succ]
    refine wpAnyH_ready (rs := [3]) (by kernel_rfl) (by simp) ?_
    refine AllReadyH.cons (by simp only [List.getElem?_toArray, List.getElem?_cons_zero, List.getElem?_cons_succ]; rfl) ?_ AllReadyH.nil
    intro K hK
    rw [if_pos (by rfl)]
    refine wp_make_own' _ _ _ 30 rfl W.heap.size 9 i0 (.string ⟨#[]⟩) 1 Try.underlying30 hi hz0 hz1 .i64 .i64 _ 0 rfl rfl rfl (by rw [hz2]; omega) (by unfold maxLen; omega) (Nat.le_refl _) ?_
    intro w1 hown hgrow
    have hb1 : Below W.heap.size W w1 := ((Below.refl _ _).drew).grown hgrow (Nat.le_refl _) (by intro k h; cases h)
    have O1 : Hid (w1.ownsRow W.heap.size 9 1 (.slice (some ⟨W.heap.size, 0, none⟩) 0 0) 0 []) := hown
    have hs1 := hb1.size
    have k1 : w1.cell? ⟨w.heap.size, 1, none⟩ = some (.slice none 0 0) := by rw [hb1.cell (p := ⟨w.heap.size, 1, none⟩) (by show w.heap.size < _; omega)]; exact p1
    clear hown hgrow
    refine hK.out _ _ k1 (fun hHeld => ?_)
    clear hK K
    try simp only [Act.put, List.setIfInBounds_toArray, List.set_cons_zero, List.set_cons_succ]
    refine wpAnyH_ready (rs := [6]) (by kernel_rfl) (by simp) ?_
    refine AllReadyH.cons (by simp only [List.getElem?_toArray, List.getElem?_cons_zero, List.getElem?_cons_succ]; rfl) ?_ AllReadyH.nil
    intro K hK
    rw [if_pos (by rfl)]
    refine wp_append_none' _ _ 30 rfl W.heap.size 9 i0 1 Try.underlying30 hi (.slice (some ⟨W.heap.size, 0, none⟩) 0 0) 0 [] rfl O1.out rfl ?_
    refine hK.out _ _ k1 (fun hHeld => ?_)
    clear hK K
    try simp only [Act.put, List.setIfInBounds_toArray, List.set_cons_zero, List.set_cons_succ]
    refine wpAnyH_take (i := 7) (by simp only [List.getElem?_toArray, List.getElem?_cons_zero, List.getElem?_cons_succ]; rfl) (by kernel_rfl) (by kernel_rfl) (by kernel_rfl) (by intro _ _ _ h; exact h) (Or.inl ⟨by rfl, fun w hSw => by (dsimp only at hSw; go_simp; (try with_reducible rfl))⟩) (by assumption) ?_
    simp only [Act.put, List.setIfInBounds_toArray, List.set_cons_zero, List.set_cons_succ]
    refine wpAnyH_done (by kernel_rfl) ?_ _
    clear hHeld
    obtain ⟨hc2, hf2⟩ := bcell hb1
    have hsz2 := (hb1).size
    have p0' : w1.cell? ⟨w.heap.size, 0, none⟩ = some (.string nm) := by rw [hc2 _ _ (by omega)]; exact p0
    have p1' : w1.cell? ⟨w.heap.size, 1, none⟩ = some (.slice none 0 0) := by rw [hc2 _ _ (by omega)]; exact p1
    have p2' : w1.cell? ⟨w.heap.size, 2, none⟩ = some (.slice ra nr cr) := by rw [hc2 _ _ (by omega)]; exact p2
    have hxw : Below w.heap.size w w1 := chain hA hb1
    clear hc2 hf2
    go_wp2_with fail
    refine wp_region_held_drew (S := (fun w' => w'.cell? ⟨w.heap.size, 0, none⟩ = some (.string nm) ∧ w'.cell? ⟨w.heap.size, 2, none⟩ = some (.slice ra nr cr))) (by kernel_rfl) ?_ (fun hHeld => ?_)
    · (((try dsimp only); (repeat' apply And.intro) <;> first | (go_keep; done) | (simp (disch := first | omega | (simp <;> omega) | fail) [*]; done) | fail))
    refine wpAnyH_take (i := 0) (by simp only [List.getElem?_toArray, List.getElem?_cons_zero]; rfl) (by kernel_rfl) (by kernel_rfl) (by kernel_rfl) (by intro _ _ _ h; exact h) (Or.inl ⟨by rfl, fun w hSw => by (dsimp only at hSw; go_simp; (try with_reducible rfl))⟩) (by assumption) ?_
    simp only [Act.put, List.setIfInBounds_toArray, List.set_cons_zero, List.set_cons_succ]
    refine wpAnyH_take (i := 1) (by simp only [List.getElem?_toArray, List.getElem?_cons_zero, List.getElem?_cons_succ]; rfl) (by kernel_rfl) (by kernel_rfl) (by kernel_rfl) (by intro _ _ _ h; exact h) (Or.inl ⟨by rfl, fun w hSw => by (dsimp only at hSw; go_simp; (try with_reducible rfl))⟩) (by assumption) ?_
    simp only [Act.put, List.setIfInBounds_toArray, List.set_cons_zero, List.set_cons_succ]
    refine wpAnyH_take (i := 2) (by simp only [List.getElem?_toArray, List.getElem?_cons_zero, List.getElem?_cons_succ]; rfl) (by kernel_rfl) (by kernel_rfl) (by kernel_rfl) (by intro _ _ _ h; exact h) (Or.inl ⟨by rfl, fun w hSw => by (dsimp only at hSw; go_simp; (try with_reducible rfl))⟩) (by assumption) ?_
    simp only [Act.put, List.setIfInBounds_toArray, List.set_cons_zero, List.set_cons_succ]
    refine wpAnyH_take (i := 3) (by simp only [List.getElem?_toArray, List.getElem?_cons_zero, List.getElem?_cons_succ]; rfl) (by kernel_rfl) (by kernel_rfl) (by kernel_rfl) (by intro _ _ _ h; exact h) (Or.inl ⟨by rfl, fun w hSw => by (dsimp only at hSw; go_simp; (try with_reducible rfl))⟩) (by assumption) ?_
    simp only [Act.put, List.setIfInBounds_toArray, List.set_cons_zero, List.set_cons_succ]
    refine wpAnyH_take (i := 4) (by simp only [List.getElem?_toArray, List.getElem?_cons_zero, List.getElem?_cons_succ]; rfl) (by kernel_rfl) (by kernel_rfl) (by kernel_rfl) (by intro _ _ _ h; exact h) (Or.inl ⟨by rfl, fun w hSw => by (dsimp only at hSw; go_simp; (try with_reducible rfl))⟩) (by assumption) ?_
    simp only [Act.put, List.setIfInBounds_toArray, List.set_cons_zero, List.set_cons_succ]
    refine wpAnyH_ready (rs := [5]) (by kernel_rfl) (by simp) ?_
    refine AllReadyH.cons (by simp only [List.getElem?_toArray, List.getElem?_cons_zero, List.getElem?_cons_succ]; rfl) ?_ AllReadyH.nil
    intro K hK
    go_simp
    refine (copied_rowsN ra cr L nr HNR.out _ ((HT.out.below hxw).rows.below (Below.refl _ _).drew) hr1 HMS.out).mono ?_
    rintro e wB ⟨vr, G, D, rfl, own2, hbB, hvr⟩
    obtain ⟨g2, c2, rfl⟩ : ∃ g2 c2, vr = .slice (some ⟨g2, 0, none⟩) nr c2 := by
      rcases own2.outer.2 with ⟨h', _⟩ | ⟨g2, c2, cur, h', _⟩
      · exact absurd h' hvr
      · exact ⟨g2, c2, by rw [h', HNR.out]⟩
    have hxB : Below w1.heap.size w1 wB := undrew hbB
    have hsB := hxB.size
    have hWB : Below W.heap.size W wB := hb1.trans (hxB.mono hsz2)
    obtain ⟨hca, hfa⟩ := bcell hWB
    have OT : Hid (OutTab wB W.heap.size (some ⟨W.heap.size, 0, none⟩) 0 (some ⟨g2, 0, none⟩) (nm, [], L) (fun i => some ⟨G i, 0, none⟩) D) := by
      have : OutTab wB W.heap.size (some ⟨W.heap.size, 0, none⟩) 0 (some ⟨g2, 0, none⟩) (nm, [], L) (fun i => some ⟨G i, 0, none⟩) D :=
        out_of_own (S := 9) (t := (nm, [], L)) (by decide) (by decide) (own_below O1.out hxB) (by rw [show (nm, [], L).2.2.length = nr from HNR.out]; exact own2.base hsz2) (Nat.le_refl _) HT.out.fit HT.out.name HT.out.len HT.out.lenR (fun i hi => by obtain ⟨_, _, _, _, _, _, _, _, h, _⟩ := HT.out.rows i hi; exact h) (fun i hi => by obtain ⟨_, _, _, _, _, _, _, _, _, h, _⟩ := HT.out.rows i hi; exact h)
      exact this
    obtain ⟨⟨q0, q1, q2⟩, e0, e1, e2⟩ := dd.out
    have t0 : wB.cell? ⟨w.heap.size + 1, 0, none⟩ = some (.string ⟨#[]⟩) := by rw [hca _ _ (by omega)]; exact q0
    have t1 : wB.cell? ⟨w.heap.size + 1, 1, none⟩ = some (.slice none 0 0) := by rw [hca _ _ (by omega)]; exact q1
    have t2 : wB.cell? ⟨w.heap.size + 1, 2, none⟩ = some (.slice none 0 0) := by rw [hca _ _ (by omega)]; exact q2
    have h0 : wB.frozen? ⟨w.heap.size + 1, 0, none⟩ = false := by rw [hfa _ _ (by omega)]; exact e0
    have h1 : wB.frozen? ⟨w.heap.size + 1, 1, none⟩ = false := by rw [hfa _ _ (by omega)]; exact e1
    have h2 : wB.frozen? ⟨w.heap.size + 1, 2, none⟩ = false := by rw [hfa _ _ (by omega)]; exact e2
    have s0 : wB.cell? ⟨w.heap.size, 0, none⟩ = some (.string nm) := by rw [hca _ _ (by omega)]; exact p0
    have s2 : wB.cell? ⟨w.heap.size, 2, none⟩ = some (.slice ra nr cr) := by rw [hca _ _ (by omega)]; exact p2
    have hxf : Below w.heap.size w wB := chain hA hWB
    have hcap2' : nr ≤ c2 := by have := own_cap own2.outer; rw [HNR.out] at this; exact this
    clear own2 hca hfa q0 q1 q2 e0 e1 e2
    go_wp2_with fail
    refine hK.out _ _ ⟨s0, s2⟩ (fun hHeld => ?_)
    clear hK K
    try simp only [Act.put, List.setIfInBounds_toArray, List.set_cons_zero, List.set_cons_succ]
    refine wpAnyH_take (i := 6) (by simp only [List.getElem?_toArray, List.getElem?_cons_zero, List.getElem?_cons_succ]; rfl) (by kernel_rfl) (by kernel_rfl) (by kernel_rfl) (by intro _ _ _ h; exact h) (Or.inl ⟨by rfl, fun w hSw => by (dsimp only at hSw; go_simp; (try with_reducible rfl))⟩) (by assumption) ?_
    simp only [Act.put, List.setIfInBounds_toArray, List.set_cons_zero, List.set_cons_succ]
    refine wpAnyH_ready (rs := [7]) (by kernel_rfl) (by simp) ?_
    refine AllReadyH.cons (by simp only [List.getElem?_toArray, List.getElem?_cons_zero, List.getElem?_cons_succ]; rfl) ?_ AllReadyH.nil
    intro K hK
    go_simp
    refine hK.out _ _ ?_ (fun hHeld => ?_)
    · (((try dsimp only); (repeat' apply And.intro) <;> first | (go_keep; done) | (simp (disch := first | omega | (simp <;> omega) | fail) [*]; done) | fail))
    clear hK K
    try simp only [Act.put, List.setIfInBounds_toArray, List.set_cons_zero, List.set_cons_succ]
    refine wpAnyH_done (by kernel_rfl) ?_ _
    go_wp2_with fail
    have hs9 := HWS.out
    refine bodyPost_ret (v := .agg #[.string nm, .slice (some ⟨W.heap.size, 0, none⟩) 0 0, .slice (some ⟨g2, 0, none⟩) nr c2]) (by simp [results, Try.results39, go_sem, t0, t1, t2]) rfl ⟨_, _, g2, c2, _, _, rfl, (OT.out.set3 (w.heap.size + 1) (by omega) _ _ _ _ _ _).base (by omega), ?_, hcap2'⟩
    repeat (first | exact hxf | refine Below.setCell ?_ (by first | (simp; done) | (simp; omega)) _)
  | some ad =>
    go_enter Try.func39, Try.ntmps39
    go_wp2_with fail
    obtain ⟨W, hW⟩ : ∃ W, W = ((w.alloc (.cells #[.string nm, .slice (some ad) nc cc, .slice ra nr cr] 32)).alloc (.cells #[.string ⟨#[]⟩, .slice none 0 0, .slice none 0 0] 32)) := ⟨_, rfl⟩
    rw [← hW]
    have hA : Below w.heap.size w W := by rw [hW]; exact ((Below.refl _ _).alloc (Nat.le_refl _) _).alloc (by simp) _
    have hWs : W.heap.size = w.heap.size + 1 + 1 := by rw [hW]; simp
    have p0 : W.cell? ⟨w.heap.size, 0, none⟩ = some (.string nm) := by rw [hW]; simp
    have p1 : W.cell? ⟨w.heap.size, 1, none⟩ = some (.slice (some ad) nc cc) := by rw [hW]; simp
    have p2 : W.cell? ⟨w.heap.size, 2, none⟩ = some (.slice ra nr cr) := by rw [hW]; simp
    have dd : Hid ((W.cell? ⟨w.heap.size + 1, 0, none⟩ = some (.string ⟨#[]⟩) ∧ W.cell? ⟨w.heap.size + 1, 1, none⟩ = some (.slice none 0 0) ∧ W.cell? ⟨w.heap.size + 1, 2, none⟩ = some (.slice none 0 0)) ∧ W.frozen? ⟨w.heap.size + 1, 0, none⟩ = false ∧ W.frozen? ⟨w.heap.size + 1, 1, none⟩ = false ∧ W.frozen? ⟨w.heap.size + 1, 2, none⟩ = false) := by
      have : (W.cell? ⟨w.heap.size + 1, 0, none⟩ = some (.string ⟨#[]⟩) ∧ W.cell? ⟨w.heap.size + 1, 1, none⟩ = some (.slice none 0 0) ∧ W.cell? ⟨w.heap.size + 1, 2, none⟩ = some (.slice none 0 0)) ∧ W.frozen? ⟨w.heap.size + 1, 0, none⟩ = false ∧ W.frozen? ⟨w.heap.size + 1, 1, none⟩ = false ∧ W.frozen? ⟨w.heap.size + 1, 2, none⟩ = false := by
        rw [hW]; refine ⟨⟨?_, ?_, ?_⟩, ?_, ?_, ?_⟩ <;> simp
      exact this
    have HWS : Hid (W.heap.size = w.heap.size + 1 + 1) := hWs
    have hlw : w.heap.size + 1 < W.heap.size := by omega
    clear hW hWs
    refine wp_region_held_drew (S := (fun w' => w'.cell? ⟨w.heap.size, 1, none⟩ = some (.slice (some ad) nc cc))) (by kernel_rfl) ?_ (fun hHeld => ?_)
    · (((try dsimp only); (repeat' apply And.intro) <;> first | (go_keep; done) | (simp (disch := first | omega | (simp <;> omega) | fail) [*]; done) | fail))
    refine wpAnyH_take (i := 0) (by simp only [List.getElem?_toArray, List.getElem?_cons_zero]; rfl) (by kernel_rfl) (by kernel_rfl) (by kernel_rfl) (by intro _ _ _ h; exact h) (Or.inl ⟨by rfl, fun w hSw => by (dsimp only at hSw; go_simp; (try with_reducible rfl))⟩) (by assumption) ?_
    simp only [Act.put, List.setIfInBounds_toArray, List.set_cons_zero, List.set_cons_succ]
    refine wpAnyH_take (i := 1) (by simp only [List.getElem?_toArray, List.getElem?_cons_zero, List.getElem?_cons_succ]; rfl) (by kernel_rfl) (by kernel_rfl) (by kernel_rfl) (by intro _ _ _ h; exact h) (Or.inl ⟨by rfl, fun w hSw => by (dsimp only at hSw; go_simp; (try with_reducible rfl))⟩) (by assumption) ?_
    simp only [Act.put, List.setIfInBounds_toArray, List.set_cons_zero, List.set_cons_succ]
    refine wpAnyH_take (i := 2) (by simp only [List.getElem?_toArray, List.getElem?_cons_zero, List.getElem?_cons_succ]; rfl) (by kernel_rfl) (by kernel_rfl) (by kernel_rfl) (by intro _ _ _ h; exact h) (Or.inl ⟨by rfl, fun w hSw => by (dsimp only at hSw; go_simp; (try with_reducible rfl))⟩) (by assumption) ?_
    simp only [Act.put, List.setIfInBounds_toArray, List.set_cons_zero, List.set_cons_succ]
    refine wpAnyH_take (i := 4) (by simp only [List.getElem?_toArray, List.getElem?_cons_zero, List.getElem?_cons_succ]; rfl) (by kernel_rfl) (by kernel_rfl) (by kernel_rfl) (by intro _ _ _ h; exact h) (Or.inl ⟨by rfl, fun w hSw => by (dsimp only at hSw; go_simp; (try with_reducible rfl))⟩) (by assumption) ?_
    simp only [Act.put, List.setIfInBounds_toArray, List.set_cons_zero, List.set_cons_succ]
    refine wpAnyH_take (i := 5) (by simp only [List.getElem?_toArray, List.getElem?_cons_zero, List.getElem?_cons_succ]; rfl) (by kernel_rfl) (by kernel_rfl) (by kernel_rfl) (by intro _ _ _ h; exact h) (Or.inl ⟨by rfl, fun w hSw => by (dsimp only at hSw; go_simp; (try with_reducible rfl))⟩) (by assumption) ?_
    simp only [Act.put, List.setIfInBounds_toArray, List.set_cons_zero, List.set_cons_succ]
    refine wpAnyH_ready (rs := [3]) (by kernel_rfl) (by simp) ?_
    refine AllReadyH.cons (by simp only [List.getElem?_toArray, List.getElem?_cons_zero, List.getElem?_cons_succ]; rfl) ?_ AllReadyH.nil
    intro K hK
    rw [if_pos (by rfl)]
    refine wp_make_own' _ _ _ 30 rfl W.heap.size 9 i0 (.string ⟨#[]⟩) 1 Try.underlying30 hi hz0 hz1 .i64 .i64 _ nc rfl rfl rfl (by rw [hz2]; omega) (by unfold maxLen; omega) (Nat.le_refl _) ?_
    intro w1 hown hgrow
    have hb1 : Below W.heap.size W w1 := ((Below.refl _ _).drew).grown hgrow (Nat.le_refl _) (by intro k h; cases h)
    have O1 : Hid (w1.ownsRow W.heap.size 9 1 (.slice (some ⟨W.heap.size, 0, none⟩) 0 nc) 0 []) := hown
    have hs1 := hb1.size
    have k1 : w1.cell? ⟨w.heap.size, 1, none⟩ = some (.slice (some ad) nc cc) := by rw [hb1.cell (p := ⟨w.heap.size, 1, none⟩) (by show w.heap.size < _; omega)]; exact p1
    clear hown hgrow
    refine hK.out _ _ k1 (fun hHeld => ?_)
    clear hK K
    try simp only [Act.put, List.setIfInBounds_toArray, List.set_cons_zero, List.set_cons_succ]
    refine wpAnyH_ready (rs := [6]) (by kernel_rfl) (by simp) ?_
    refine AllReadyH.cons (by simp only [List.getElem?_toArray, List.getElem?_cons_zero, List.getElem?_cons_succ]; rfl) ?_ AllReadyH.nil
    intro K hK
    rw [if_pos (by rfl)]
    refine wp_append_own _ _ _ 30 rfl W.heap.size 9 i0 (.string ⟨#[]⟩) 1 16 Try.underlying30 hi hz0 hz1 hz2 rfl (by decide) (.slice (some ⟨W.heap.size, 0, none⟩) 0 nc) 0 [] rfl O1.out ad nc cc (strV C) rfl (by rw [strV_length, HNC.out]; omega) ?_ ?_ ?_ ?_ ?_ ?_
    · exact strV_cells ((HT.out.below (chain hA hb1)).cols)
    · intro u hu
      obtain ⟨b, _, rfl⟩ := List.mem_map.1 hu
      rfl
    · unfold maxLen; omega
    · omega
    · exact hs1
    intro v2 w2 own2 hgrow2 hnn2
    try rw [List.nil_append, Nat.zero_add] at own2
    obtain ⟨g, c, rfl⟩ : ∃ g c, v2 = .slice (some ⟨g, 0, none⟩) nc c := by
      rcases own2.2 with ⟨h', _⟩ | ⟨g, c, cur, h', _⟩
      · exact absurd ((hnn2.1 h').1) (by simp)
      · exact ⟨g, c, h'⟩
    have hb2 : Below W.heap.size W w2 := hb1.grown hgrow2 hs1 (by intro k hk; simp [Value.ownBlock] at hk; omega)
    have k2 : w2.cell? ⟨w.heap.size, 1, none⟩ = some (.slice (some ad) nc cc) := by rw [hb2.cell (p := ⟨w.heap.size, 1, none⟩) (by show w.heap.size < _; omega)]; exact p1
    have O2 : Hid (w2.ownsRow W.heap.size 9 1 (.slice (some ⟨g, 0, none⟩) nc c) nc (strV C)) := own2
    have hcap2 : nc ≤ c := by
      rcases O2.out.2 with ⟨h', _⟩ | ⟨g', c', cur, h', _, _, hle, _⟩
      · simp at h'
      · simp at h'; omega
    clear own2 hgrow2 hnn2
    refine hK.out _ _ k2 (fun hHeld => ?_)
    clear hK K
    try simp only [Act.put, List.setIfInBounds_toArray, List.set_cons_zero, List.set_cons_succ]
    refine wpAnyH_take (i := 7) (by simp only [List.getElem?_toArray, List.getElem?_cons_zero, List.getElem?_cons_succ]; rfl) (by kernel_rfl) (by kernel_rfl) (by kernel_rfl) (by intro _ _ _ h; exact h) (Or.inl ⟨by rfl, fun w hSw => by (dsimp only at hSw; go_simp; (try with_reducible rfl))⟩) (by assumption) ?_
    simp only [Act.put, List.setIfInBounds_toArray, List.set_cons_zero, List.set_cons_succ]
    refine wpAnyH_done (by kernel_rfl) ?_ _
    clear hHeld
    obtain ⟨hc2, hf2⟩ := bcell hb2
    have hsz2 := (hb2).size
    have p0' : w2.cell? ⟨w.heap.size, 0, none⟩ = some (.string nm) := by rw [hc2 _ _ (by omega)]; exact p0
    have p1' : w2.cell? ⟨w.heap.size, 1, none⟩ = some (.slice (some ad) nc cc) := by rw [hc2 _ _ (by omega)]; exact p1
    have p2' : w2.cell? ⟨w.heap.size, 2, none⟩ = some (.slice ra nr cr) := by rw [hc2 _ _ (by omega)]; exact p2
    have hxw : Below w.heap.size w w2 := chain hA hb2
    clear hc2 hf2
    go_wp2_with fail
    refine wp_region_held_drew (S := (fun w' => w'.cell? ⟨w.heap.size, 0, none⟩ = some (.string nm) ∧ w'.cell? ⟨w.heap.size, 2, none⟩ = some (.slice ra nr cr))) (by kernel_rfl) ?_ (fun hHeld => ?_)
    · (((try dsimp only); (repeat' apply And.intro) <;> first | (go_keep; done) | (simp (disch := first | omega | (simp <;> omega) | fail) [*]; done) | fail))
    refine wpAnyH_take (i := 0) (by simp only [List.getElem?_toArray, List.getElem?_cons_zero]; rfl) (by kernel_rfl) (by kernel_rfl) (by kernel_rfl) (by intro _ _ _ h; exact h) (Or.inl ⟨by rfl, fun w hSw => by (dsimp only at hSw; go_simp; (try with_reducible rfl))⟩) (by assumption) ?_
    simp only [Act.put, List.setIfInBounds_toArray, List.set_cons_zero, List.set_cons_succ]
    refine wpAnyH_take (i := 1) (by simp only [List.getElem?_toArray, List.getElem?_cons_zero, List.getElem?_cons_succ]; rfl) (by kernel_rfl) (by kernel_rfl) (by kernel_rfl) (by intro _ _ _ h; exact h) (Or.inl ⟨by rfl, fun w hSw => by (dsimp only at hSw; go_simp; (try with_reducible rfl))⟩) (by assumption) ?_
    simp only [Act.put, List.setIfInBounds_toArray, List.set_cons_zero, List.set_cons_succ]
    refine wpAnyH_take (i := 2) (by simp only [List.getElem?_toArray, List.getElem?_cons_zero, List.getElem?_cons_succ]; rfl) (by kernel_rfl) (by kernel_rfl) (by kernel_rfl) (by intro _ _ _ h; exact h) (Or.inl ⟨by rfl, fun w hSw => by (dsimp only at hSw; go_simp; (try with_reducible rfl))⟩) (by assumption) ?_
    simp only [Act.put, List.setIfInBounds_toArray, List.set_cons_zero, List.set_cons_succ]
    refine wpAnyH_take (i := 3) (by simp only [List.getElem?_toArray, List.getElem?_cons_zero, List.getElem?_cons_succ]; rfl) (by kernel_rfl) (by kernel_rfl) (by kernel_rfl) (by intro _ _ _ h; exact h) (Or.inl ⟨by rfl, fun w hSw => by (dsimp only at hSw; go_simp; (try with_reducible rfl))⟩) (by assumption) ?_
    simp only [Act.put, List.setIfInBounds_toArray, List.set_cons_zero, List.set_cons_succ]
    refine wpAnyH_take (i := 4) (by simp only [List.getElem?_toArray, List.getElem?_cons_zero, List.getElem?_cons_succ]; rfl) (by kernel_rfl) (by kernel_rfl) (by kernel_rfl) (by intro _ _ _ h; exact h) (Or.inl ⟨by rfl, fun w hSw => by (dsimp only at hSw; go_simp; (try with_reducible rfl))⟩) (by assumption) ?_
    simp only [Act.put, List.setIfInBounds_toArray, List.set_cons_zero, List.set_cons_succ]
    refine wpAnyH_ready (rs := [5]) (by kernel_rfl) (by simp) ?_
    refine AllReadyH.cons (by simp only [List.getElem?_toArray, List.getElem?_cons_zero, List.getElem?_cons_succ]; rfl) ?_ AllReadyH.nil
    intro K hK
    go_simp
    refine (copied_rowsN ra cr L nr HNR.out _ ((HT.out.below hxw).rows.below (Below.refl _ _).drew) hr1 HMS.out).mono ?_
    rintro e wB ⟨vr, G, D, rfl, own2, hbB, hvr⟩
    obtain ⟨g2, c2, rfl⟩ : ∃ g2 c2, vr = .slice (some ⟨g2, 0, none⟩) nr c2 := by
      rcases own2.outer.2 with ⟨h', _⟩ | ⟨g2, c2, cur, h', _⟩
      · exact absurd h' hvr
      · exact ⟨g2, c2, by rw [h', HNR.out]⟩
    have hxB : Below w2.heap.size w2 wB := undrew hbB
    have hsB := hxB.size
    have hWB : Below W.heap.size W wB := hb2.trans (hxB.mono hsz2)
    obtain ⟨hca, hfa⟩ := bcell hWB
    have OT : Hid (OutTab wB W.heap.size (some ⟨g, 0, none⟩) c (some ⟨g2, 0, none⟩) (nm, C, L) (fun i => some ⟨G i, 0, none⟩) D) := by
      have : OutTab wB W.heap.size (some ⟨g, 0, none⟩) c (some ⟨g2, 0, none⟩) (nm, C, L) (fun i => some ⟨G i, 0, none⟩) D :=
        out_of_own (S := 9) (t := (nm, C, L)) (by decide) (by decide) (by rw [show (nm, C, L).2.1.length = nc from HNC.out]; exact own_below O2.out hxB) (by rw [show (nm, C, L).2.2.length = nr from HNR.out]; exact own2.base hsz2) (by rw [show (nm, C, L).2.1.length = nc from HNC.out]; exact hcap2) HT.out.fit HT.out.name HT.out.len HT.out.lenR (fun i hi => by obtain ⟨_, _, _, _, _, _, _, _, h, _⟩ := HT.out.rows i hi; exact h) (fun i hi => by obtain ⟨_, _, _, _, _, _, _, _, _, h, _⟩ := HT.out.rows i hi; exact h)
      exact this
    obtain ⟨⟨q0, q1, q2⟩, e0, e1, e2⟩ := dd.out
    have t0 : wB.cell? ⟨w.heap.size + 1, 0, none⟩ = some (.string ⟨#[]⟩) := by rw [hca _ _ (by omega)]; exact q0
    have t1 : wB.cell? ⟨w.heap.size + 1, 1, none⟩ = some (.slice none 0 0) := by rw [hca _ _ (by omega)]; exact q1
    have t2 : wB.cell? ⟨w.heap.size + 1, 2, none⟩ = some (.slice none 0 0) := by rw [hca _ _ (by omega)]; exact q2
    have h0 : wB.frozen? ⟨w.heap.size + 1, 0, none⟩ = false := by rw [hfa _ _ (by omega)]; exact e0
    have h1 : wB.frozen? ⟨w.heap.size + 1, 1, none⟩ = false := by rw [hfa _ _ (by omega)]; exact e1
    have h2 : wB.frozen? ⟨w.heap.size + 1, 2, none⟩ = false := by rw [hfa _ _ (by omega)]; exact e2
    have s0 : wB.cell? ⟨w.heap.size, 0, none⟩ = some (.string nm) := by rw [hca _ _ (by omega)]; exact p0
    have s2 : wB.cell? ⟨w.heap.size, 2, none⟩ = some (.slice ra nr cr) := by rw [hca _ _ (by omega)]; exact p2
    have hxf : Below w.heap.size w wB := chain hA hWB
    have hcap2' : nr ≤ c2 := by have := own_cap own2.outer; rw [HNR.out] at this; exact this
    clear own2 hca hfa q0 q1 q2 e0 e1 e2
    go_wp2_with fail
    refine hK.out _ _ ⟨s0, s2⟩ (fun hHeld => ?_)
    clear hK K
    try simp only [Act.put, List.setIfInBounds_toArray, List.set_cons_zero, List.set_cons_succ]
    refine wpAnyH_take (i := 6) (by simp only [List.getElem?_toArray, List.getElem?_cons_zero, List.getElem?_cons_succ]; rfl) (by kernel_rfl) (by kernel_rfl) (by kernel_rfl) (by intro _ _ _ h; exact h) (Or.inl ⟨by rfl, fun w hSw => by (dsimp only at hSw; go_simp; (try with_reducible rfl))⟩) (by assumption) ?_
    simp only [Act.put, List.setIfInBounds_toArray, List.set_cons_zero, List.set_cons_succ]
    refine wpAnyH_ready (rs := [7]) (by kernel_rfl) (by simp) ?_
    refine AllReadyH.cons (by simp only [List.getElem?_toArray, List.getElem?_cons_zero, List.getElem?_cons_succ]; rfl) ?_ AllReadyH.nil
    intro K hK
    go_simp
    refine hK.out _ _ ?_ (fun hHeld => ?_)
    · (((try dsimp only); (repeat' apply And.intro) <;> first | (go_keep; done) | (simp (disch := first | omega | (simp <;> omega) | fail) [*]; done) | fail))
    clear hK K
    try simp only [Act.put, List.setIfInBounds_toArray, List.set_cons_zero, List.set_cons_succ]
    refine wpAnyH_done (by kernel_rfl) ?_ _
    go_wp2_with fail
    have hs9 := HWS.out
    refine bodyPost_ret (v := .agg #[.string nm, .slice (some ⟨g, 0, none⟩) nc c, .slice (some ⟨g2, 0, none⟩) nr c2]) (by simp [results, Try.results39, go_sem, t0, t1, t2]) rfl ⟨_, _, g2, c2, _, _, rfl, (OT.out.set3 (w.heap.size + 1) (by omega) _ _ _ _ _ _).base (by omega), ?_, hcap2'⟩
    repeat (first | exact hxf | refine Below.setCell ?_ (by first | (simp; done) | (simp; omega)) _)

theorem field_rows : ∀ (v : Value) (w : World), (Instr.field 62 (.agg #[v]) 0).run Try.prog w = .ok v w := fun v w => by kernel_rfl

set_option maxRecDepth 100000 in
set_option maxHeartbeats 4000000 in
theorem put_impl (ca : Option Addr) (cc : Nat) (ra : Option Addr) (cr : Nat) (t : TB) (nc nr : Nat) (hnc : t.2.1.length = nc) (hnr : t.2.2.length = nr) (a : Option Addr) (cap : Nat) (r : List CT) (n : Nat) (hn : r.length = n) (w : World) (ht : TabAt w ca cc ra t) (hnilR : ra = none → cr = 0) (hrow : RowAt w a r) (hfit : Fit r) (hnil : a = none → cap = 0) (hm : n ≤ 1048576) (T : TB) (b : Bool) (hT : putR t r = (T, b)) :
    Calls Try.prog 12 #[.agg #[.string t.1, .slice ca nc cc, .slice ra nr cr], .slice a n cap] w fun e w' => PutOut w T b e w' := by
  obtain ⟨nm, C, L⟩ := t
  dsimp only at hnc hnr ⊢
  have HT : Hid (TabAt w ca cc ra (nm, C, L)) := ht
  have HR : Hid (RowAt w a r) := hrow
  have HF : Hid (Fit r) := hfit
  have HNC : Hid (C.length = nc) := hnc
  have HNR : Hid (L.length = nr) := hnr
  have HN : Hid (r.length = n) := hn
  obtain ⟨W, hW⟩ : ∃ W, W = ((w.alloc (.cells #[.string nm, .slice ca nc cc, .slice ra nr cr] 32)).alloc (.cells #[.string ⟨#[]⟩, .slice none 0 0, .slice none 0 0] 32)) := ⟨_, rfl⟩
  have hA : Below w.heap.size w W := by rw [hW]; exact ((Below.refl _ _).alloc (Nat.le_refl _) _).alloc (by simp) _
  unfold putR at hT
  obtain ⟨q, hq⟩ : ∃ q, tableB (nm, C, L) = q := ⟨_, rfl⟩
  have HQ : Hid (tableB (nm, C, L) = q) := hq
  rw [hq] at hT
  clear ht hrow hfit hnc hnr hn hq
  cases q
  · rw [if_neg (by simp)] at hT
    obtain ⟨rfl, rfl⟩ := Prod.mk.inj hT
    clear hT
    go_enter Try.func12, Try.ntmps12
    go_wp2_with fail
    rw [← hW]
    refine (table_impl ca cc ra cr (nm, C, L) nc nr HNC.out HNR.out _ (HT.out.below hA) false HQ.out).mono ?_
    rintro e w1 ⟨rfl, hb1⟩
    have hx := chain hA hb1
    obtain ⟨hc, hf⟩ := bcell hb1
    have hs : W.heap.size = w.heap.size + 1 + 1 := by rw [hW]; simp
    have q0 : w1.cell? ⟨w.heap.size + 1, 0, none⟩ = some (.string ⟨#[]⟩) := by rw [hc _ _ (by omega), hW]; simp
    have q1 : w1.cell? ⟨w.heap.size + 1, 1, none⟩ = some (.slice none 0 0) := by rw [hc _ _ (by omega), hW]; simp
    have q2 : w1.cell? ⟨w.heap.size + 1, 2, none⟩ = some (.slice none 0 0) := by rw [hc _ _ (by omega), hW]; simp
    have f0 : w1.frozen? ⟨w.heap.size + 1, 0, none⟩ = false := by rw [hf _ _ (by omega), hW]; simp
    have f1 : w1.frozen? ⟨w.heap.size + 1, 1, none⟩ = false := by rw [hf _ _ (by omega), hW]; simp
    have f2 : w1.frozen? ⟨w.heap.size + 1, 2, none⟩ = false := by rw [hf _ _ (by omega), hW]; simp
    clear hc hf hb1 hW hA hs
    go_wp2
    refine bodyPost_ret (v := .tuple #[.agg #[.string ⟨#[]⟩, .slice none 0 0, .slice none 0 0], .bool false]) (by simp [results, Try.results12, go_sem, q0, q1, q2]) rfl ⟨none, 0, none, 0, _, _, rfl, out_zero _ _, ?_, Nat.le_refl _⟩
    repeat (first | exact hx | refine Below.setCell ?_ (by first | (simp; done) | (simp; omega)) _)
  rw [if_pos rfl] at hT
  have h60 := table_len' HQ.out
  have hcl : nc ≤ 6 := by have := h60.1; rw [show (nm, C, L).2.1.length = nc from HNC.out] at this; omega
  have hrl : nr ≤ 60 := by have := h60.2; rw [show (nm, C, L).2.2.length = nr from HNR.out] at this; omega
  have HMS : Hid (∀ i (h : i < L.length), L[i].length ≤ 1048576) := by
    have : ∀ i (h : i < L.length), L[i].length ≤ 1048576 := fun i hi => by
      have h1 := (table_row' HQ.out i hi).1
      have h2 := h60.1
      have e : (nm, C, L).2.2[i].length = L[i].length := rfl
      omega
    exact this
  have HTT : Hid ((if tableB (putT (nm, C, L) r) = true then (putT (nm, C, L) r, true) else ((nm, C, L), false)) = (T, b)) := hT
  clear hT h60
  have qf := field_rows
  go_enter Try.func12, Try.ntmps12
  go_wp2_with fail
  rw [← hW]
  refine (table_impl ca cc ra cr (nm, C, L) nc nr HNC.out HNR.out _ (HT.out.below hA) true HQ.out).mono ?_
  rintro e w1 ⟨rfl, hb1⟩
  have hx := chain hA hb1
  obtain ⟨hc, hf⟩ := bcell hb1
  have hs : W.heap.size = w.heap.size + 1 + 1 := by rw [hW]; simp
  have hs1 := hb1.size
  have p0 : w1.cell? ⟨w.heap.size, 0, none⟩ = some (.string nm) := by rw [hc _ _ (by omega), hW]; simp
  have p1 : w1.cell? ⟨w.heap.size, 1, none⟩ = some (.slice ca nc cc) := by rw [hc _ _ (by omega), hW]; simp
  have p2 : w1.cell? ⟨w.heap.size, 2, none⟩ = some (.slice ra nr cr) := by rw [hc _ _ (by omega), hW]; simp
  have q0 : w1.cell? ⟨w.heap.size + 1, 0, none⟩ = some (.string ⟨#[]⟩) := by rw [hc _ _ (by omega), hW]; simp
  have q1 : w1.cell? ⟨w.heap.size + 1, 1, none⟩ = some (.slice none 0 0) := by rw [hc _ _ (by omega), hW]; simp
  have q2 : w1.cell? ⟨w.heap.size + 1, 2, none⟩ = some (.slice none 0 0) := by rw [hc _ _ (by omega), hW]; simp
  have f0 : w1.frozen? ⟨w.heap.size + 1, 0, none⟩ = false := by rw [hf _ _ (by omega), hW]; simp
  have f1 : w1.frozen? ⟨w.heap.size + 1, 1, none⟩ = false := by rw [hf _ _ (by omega), hW]; simp
  have f2 : w1.frozen? ⟨w.heap.size + 1, 2, none⟩ = false := by rw [hf _ _ (by omega), hW]; simp
  have QQ : Hid ((w1.cell? ⟨w.heap.size, 0, none⟩ = some (.string nm) ∧ w1.cell? ⟨w.heap.size, 1, none⟩ = some (.slice ca nc cc) ∧ w1.cell? ⟨w.heap.size, 2, none⟩ = some (.slice ra nr cr)) ∧ (w1.cell? ⟨w.heap.size + 1, 0, none⟩ = some (.string ⟨#[]⟩) ∧ w1.cell? ⟨w.heap.size + 1, 1, none⟩ = some (.slice none 0 0) ∧ w1.cell? ⟨w.heap.size + 1, 2, none⟩ = some (.slice none 0 0)) ∧ (w1.frozen? ⟨w.heap.size + 1, 0, none⟩ = false ∧ w1.frozen? ⟨w.heap.size + 1, 1, none⟩ = false ∧ w1.frozen? ⟨w.heap.size + 1, 2, none⟩ = false)) := ⟨⟨p0, p1, p2⟩, ⟨q0, q1, q2⟩, f0, f1, f2⟩
  have hw1 : w.heap.size + 1 < w1.heap.size := by omega
  have H1 : Hid (TabAt w1 ca cc ra (nm, C, L)) := HT.out.below hx
  have R1 : Hid (RowAt w1 a r) := HR.out.below hx
  clear hc hf hb1 hW hA hs hs1 HT HR q0 q1 q2 f0 f1 f2
  obtain ⟨A, K9, hAK⟩ := headsP H1.out.rows
  have HA : Hid (HK w1 ra L A K9) := hAK
  clear hAK
  go_wp2_with fail
  refine wp_region_held_drew (S := (fun w' => w'.cell? ⟨w.heap.size, 0, none⟩ = some (.string nm) ∧ w'.cell? ⟨w.heap.size, 1, none⟩ = some (.slice ca nc cc) ∧ w'.cell? ⟨w.heap.size, 2, none⟩ = some (.slice ra nr cr))) (by kernel_rfl) ?_ (fun hHeld => ?_)
  · (((try dsimp only); (repeat' apply And.intro) <;> first | (go_keep; done) | (simp (disch := first | omega | (simp <;> omega) | fail) [*]; done) | fail))
  refine wpAnyH_take (i := 0) (by simp only [List.getElem?_toArray, List.getElem?_cons_zero]; rfl) (by kernel_rfl) (by kernel_rfl) (by kernel_rfl) (by intro _ _ _ h; exact h) (Or.inl ⟨by rfl, fun w hSw => by (dsimp only at hSw; go_simp; (try with_reducible rfl))⟩) (by assumption) ?_
  simp only [Act.put, List.setIfInBounds_toArray, List.set_cons_zero, List.set_cons_succ]
  refine wpAnyH_take (i := 1) (by simp only [List.getElem?_toArray, List.getElem?_cons_zero, List.getElem?_cons_succ]; rfl) (by kernel_rfl) (by kernel_rfl) (by kernel_rfl) (by intro _ _ _ h; exact h) (Or.inl ⟨by rfl, fun w hSw => by (dsimp only at hSw; go_simp; (try with_reducible rfl))⟩) (by assumption) ?_
  simp only [Act.put, List.setIfInBounds_toArray, List.set_cons_zero, List.set_cons_succ]
  refine wpAnyH_take (i := 2) (by simp only [List.getElem?_toArray, List.getElem?_cons_zero, List.getElem?_cons_succ]; rfl) (by kernel_rfl) (by kernel_rfl) (by kernel_rfl) (by intro _ _ _ h; exact h) (Or.inl ⟨by rfl, fun w hSw => by (dsimp only at hSw; go_simp; (try with_reducible rfl))⟩) (by assumption) ?_
  simp only [Act.put, List.setIfInBounds_toArray, List.set_cons_zero, List.set_cons_succ]
  refine wpAnyH_take (i := 3) (by simp only [List.getElem?_toArray, List.getElem?_cons_zero, List.getElem?_cons_succ]; rfl) (by kernel_rfl) (by kernel_rfl) (by kernel_rfl) (by intro _ _ _ h; exact h) (Or.inl ⟨by rfl, fun w hSw => by (dsimp only at hSw; go_simp; (try with_reducible rfl))⟩) (by assumption) ?_
  simp only [Act.put, List.setIfInBounds_toArray, List.set_cons_zero, List.set_cons_succ]
  refine wpAnyH_take (i := 4) (by simp only [List.getElem?_toArray, List.getElem?_cons_zero, List.getElem?_cons_succ]; rfl) (by kernel_rfl) (by kernel_rfl) (by kernel_rfl) (by intro _ _ _ h; exact h) (Or.inl ⟨by rfl, fun w hSw => by (dsimp only at hSw; go_simp; (try with_reducible rfl))⟩) (by assumption) ?_
  simp only [Act.put, List.setIfInBounds_toArray, List.set_cons_zero, List.set_cons_succ]
  refine wpAnyH_take (i := 6) (by simp only [List.getElem?_toArray, List.getElem?_cons_zero, List.getElem?_cons_succ]; rfl) (by kernel_rfl) (by kernel_rfl) (by kernel_rfl) (by intro _ _ _ h; exact h) (Or.inl ⟨by rfl, fun w hSw => by (dsimp only at hSw; go_simp; (try with_reducible rfl))⟩) (by assumption) ?_
  simp only [Act.put, List.setIfInBounds_toArray, List.set_cons_zero, List.set_cons_succ]
  refine wpAnyH_ready (rs := [5, 10]) (by kernel_rfl) (by simp) ?_
  refine AllReadyH.cons (by simp only [List.getElem?_toArray, List.getElem?_cons_zero, List.getElem?_cons_succ]; rfl) ?_ (AllReadyH.cons (by simp only [List.getElem?_toArray, List.getElem?_cons_zero, List.getElem?_cons_succ]; rfl) ?_ AllReadyH.nil)
  · intro K hK
    go_simp
    refine (rowsof_impl _ _ _ _ _ _ _ _).mono ?_
    rintro e w2 ⟨rfl, hb2⟩
    have hx2 : Below w1.heap.size w1 w2 := undrew hb2
    obtain ⟨hca, hfa⟩ := bcell hx2
    have hs2 := hx2.size
    have s0 : w2.cell? ⟨w.heap.size, 0, none⟩ = some (.string nm) := by rw [hca _ _ (by omega)]; exact p0
    have s1 : w2.cell? ⟨w.heap.size, 1, none⟩ = some (.slice ca nc cc) := by rw [hca _ _ (by omega)]; exact p1
    have s2 : w2.cell? ⟨w.heap.size, 2, none⟩ = some (.slice ra nr cr) := by rw [hca _ _ (by omega)]; exact p2
    clear hca hfa hb2
    go_wp2_with fail
    refine hK.out _ _ ⟨s0, s1, s2⟩ (fun hHeld => ?_)
    clear hK K
    try simp only [Act.put, List.setIfInBounds_toArray, List.set_cons_zero, List.set_cons_succ]
    have hxw2 : Below w1.heap.size w1 w2 := hx2
    refine wpAnyH_ready (rs := [7, 10]) (by kernel_rfl) (by simp) ?_
    refine AllReadyH.cons (by simp only [List.getElem?_toArray, List.getElem?_cons_zero, List.getElem?_cons_succ]; rfl) ?_ (AllReadyH.cons (by simp only [List.getElem?_toArray, List.getElem?_cons_zero, List.getElem?_cons_succ]; rfl) ?_ AllReadyH.nil)
    · intro K hK
      go_simp
      refine (with_impl ra cr nr L HNR.out A K9 a cap n _ (HA.out.below hxw2) hnilR (by omega)).mono ?_
      rintro e w3 ⟨g, c, rfl, own3, hb3⟩
      obtain ⟨hca, hfa⟩ := bcell hb3
      have hs3 := hb3.size
      have r0 : w3.cell? ⟨w.heap.size, 0, none⟩ = some (.string nm) := by rw [hca _ _ (by omega)]; exact s0
      have r1 : w3.cell? ⟨w.heap.size, 1, none⟩ = some (.slice ca nc cc) := by rw [hca _ _ (by omega)]; exact s1
      have r2 : w3.cell? ⟨w.heap.size, 2, none⟩ = some (.slice ra nr cr) := by rw [hca _ _ (by omega)]; exact s2
      clear hca hfa
      go_wp2_with fail
      refine hK.out _ _ ⟨r0, r1, r2⟩ (fun hHeld => ?_)
      clear hK K
      try simp only [Act.put, List.setIfInBounds_toArray, List.set_cons_zero, List.set_cons_succ]
      refine wpAnyH_take (i := 8) (by simp only [List.getElem?_toArray, List.getElem?_cons_zero, List.getElem?_cons_succ]; rfl) (by kernel_rfl) (by kernel_rfl) (by kernel_rfl) (by intro _ _ _ h; exact h) (Or.inl ⟨by rfl, fun w hSw => by (dsimp only at hSw; go_simp; (try with_reducible rfl))⟩) (by assumption) ?_
      simp only [Act.put, List.setIfInBounds_toArray, List.set_cons_zero, List.set_cons_succ]
      refine wpAnyH_take (i := 9) (by simp only [List.getElem?_toArray, List.getElem?_cons_zero, List.getElem?_cons_succ]; rfl) (by kernel_rfl) (by kernel_rfl) (by kernel_rfl) (by intro _ _ _ h; exact h) (Or.inl ⟨by rfl, fun w hSw => by (dsimp only at hSw; go_simp; (try with_reducible rfl))⟩) (by assumption) ?_
      simp only [Act.put, List.setIfInBounds_toArray, List.set_cons_zero, List.set_cons_succ]
      refine wpAnyH_ready (rs := [10]) (by kernel_rfl) (by simp) ?_
      refine AllReadyH.cons (by simp only [List.getElem?_toArray, List.getElem?_cons_zero, List.getElem?_cons_succ]; rfl) ?_ AllReadyH.nil
      intro K hK
      go_simp
      refine hK.out _ _ ?_ (fun hHeld => ?_)
      · (((try dsimp only); (repeat' apply And.intro) <;> first | (go_keep; done) | (simp (disch := first | omega | (simp <;> omega) | fail) [*]; done) | fail))
      clear hK K
      try simp only [Act.put, List.setIfInBounds_toArray, List.set_cons_zero, List.set_cons_succ]
      obtain ⟨B, hB⟩ : ∃ B, w3.heap.size = B := ⟨_, rfl⟩
      obtain ⟨X, hX⟩ : ∃ X, X = w3.alloc (.cells #[.string ⟨#[]⟩, .slice none 0 0, .slice none 0 0] 32) := ⟨_, rfl⟩
      have hxX : Below w1.heap.size w1 X := by rw [hX]; exact (hxw2.trans (hb3.mono hxw2.size)).alloc (by have := hxw2.size; omega) _
      have z0 : X.cell? ⟨B, 0, none⟩ = some (.string ⟨#[]⟩) := by rw [hX, ← hB]; simp
      have z1 : X.cell? ⟨B, 1, none⟩ = some (.slice none 0 0) := by rw [hX, ← hB]; simp
      have z2 : X.cell? ⟨B, 2, none⟩ = some (.slice none 0 0) := by rw [hX, ← hB]; simp
      have zf0 : X.frozen? ⟨B, 0, none⟩ = false := by rw [hX, ← hB]; simp
      have zf1 : X.frozen? ⟨B, 1, none⟩ = false := by rw [hX, ← hB]; simp
      have zf2 : X.frozen? ⟨B, 2, none⟩ = false := by rw [hX, ← hB]; simp
      have hBl : w1.heap.size ≤ B := by have := hxw2.size; omega
      have hgB : g ≠ B := by have := (own3.lt g rfl).2; omega
      have OX : Hid (X.ownsRow w1.heap.size 29 1 (.slice (some ⟨g, 0, none⟩) (nr + 1) c) (nr + 1) (headsV A K9 L ++ [.slice a n cap])) := by
        have : X.ownsRow w1.heap.size 29 1 (.slice (some ⟨g, 0, none⟩) (nr + 1) c) (nr + 1) (headsV A K9 L ++ [.slice a n cap]) := by rw [hX]; exact (own_base own3 hxw2.size).alloc _
        exact this
      rw [← hX]
      try simp only [hB]
      clear hX own3 hb3 hs3 hB
      have hBx : B < X.heap.size := World.block_lt_of_cell? X ⟨B, 0, none⟩ z0
      clear hHeld
      have HX0 : X.cell? ⟨w.heap.size, 0, none⟩ = some (.string nm) := by rw [hxX.cell (p := ⟨w.heap.size, 0, none⟩) (by show w.heap.size < _; omega)]; exact p0
      have HX1 : X.cell? ⟨w.heap.size, 1, none⟩ = some (.slice ca nc cc) := by rw [hxX.cell (p := ⟨w.heap.size, 1, none⟩) (by show w.heap.size < _; omega)]; exact p1
      have HX2 : X.cell? ⟨w.heap.size, 2, none⟩ = some (.slice ra nr cr) := by rw [hxX.cell (p := ⟨w.heap.size, 2, none⟩) (by show w.heap.size < _; omega)]; exact p2
      have hne : w.heap.size ≠ B := by omega
      refine wpAnyH_ready (rs := [11]) (by kernel_rfl) (by simp) ?_
      refine AllReadyH.cons (by simp only [List.getElem?_toArray, List.getElem?_cons_zero, List.getElem?_cons_succ]; rfl) ?_ AllReadyH.nil
      intro K hK
      go_simp
      refine hK.out _ _ ?_ (fun hHeld => ?_)
      · try dsimp only
        refine ⟨?_, ?_, ?_⟩
        · rw [cell_far _ _ _ _ _ _ hne, cell_far _ _ _ _ _ _ hne, cell_far _ _ _ _ _ _ hne]; exact HX0
        · rw [cell_far _ _ _ _ _ _ hne, cell_far _ _ _ _ _ _ hne, cell_far _ _ _ _ _ _ hne]; exact HX1
        · rw [cell_far _ _ _ _ _ _ hne, cell_far _ _ _ _ _ _ hne, cell_far _ _ _ _ _ _ hne]; exact HX2
      clear hK K
      try simp only [Act.put, List.setIfInBounds_toArray, List.set_cons_zero, List.set_cons_succ]
      refine wpAnyH_done (by kernel_rfl) ?_ _
      clear hHeld
      obtain ⟨w5, hw5⟩ : ∃ w5, w5 = ((X.setCell ⟨B, 0, none⟩ (.string nm)).setCell ⟨B, 1, none⟩ (.slice ca nc cc)).setCell ⟨B, 2, none⟩ (.slice (some ⟨g, 0, none⟩) (nr + 1) c) := ⟨_, rfl⟩
      rw [← hw5]
      have hx5 : Below w1.heap.size w1 w5 := by rw [hw5]; exact ((hxX.setCell (p := ⟨B, 0, none⟩) hBl _).setCell (p := ⟨B, 1, none⟩) hBl _).setCell (p := ⟨B, 2, none⟩) hBl _
      have y0 : w5.cell? ⟨B, 0, none⟩ = some (.string nm) := by
        rw [hw5, cell_off _ _ _ _ _ (by omega), cell_off _ _ _ _ _ (by omega), cell_here _ _ _ _ (by rw [z0]; rfl)]
      have y1 : w5.cell? ⟨B, 1, none⟩ = some (.slice ca nc cc) := by
        rw [hw5, cell_off _ _ _ _ _ (by omega), cell_here _ _ _ _ (by rw [cell_off _ _ _ _ _ (by omega), z1]; rfl)]
      have y2 : w5.cell? ⟨B, 2, none⟩ = some (.slice (some ⟨g, 0, none⟩) (nr + 1) c) := by
        rw [hw5, cell_here _ _ _ _ (by rw [cell_off _ _ _ _ _ (by omega), cell_off _ _ _ _ _ (by omega), z2]; rfl)]
      have hl5 : B < w5.heap.size := World.block_lt_of_cell? w5 ⟨B, 0, none⟩ y0
      have own5 : w5.ownsRow w1.heap.size 29 1 (.slice (some ⟨g, 0, none⟩) (nr + 1) c) (nr + 1) (headsV A K9 L ++ [.slice a n cap]) := by
        rw [hw5]
        refine own_keepB OX.out (Nat.le_refl _) ?_
        have hk : Keep B X (((X.setCell ⟨B, 0, none⟩ (.string nm)).setCell ⟨B, 1, none⟩ (.slice ca nc cc)).setCell ⟨B, 2, none⟩ (.slice (some ⟨g, 0, none⟩) (nr + 1) c)) := (((Keep.refl B X).setCell (p := ⟨B, 0, none⟩) (Or.inl rfl) _).setCell (p := ⟨B, 1, none⟩) (Or.inl rfl) _).setCell (p := ⟨B, 2, none⟩) (Or.inl rfl) _
        exact hk.block g (OX.out.lt g rfl).2 hgB
      have T5 : Hid (TabAt w5 ca cc (some ⟨g, 0, none⟩) (putT (nm, C, L) r)) := by
        have h5 := H1.out.below hx5
        have : TabAt w5 ca cc (some ⟨g, 0, none⟩) (putT (nm, C, L) r) := ⟨h5.cols, h5.fit, h5.len, h5.cap, h5.nilC, rows_more HA.out HN.out R1.out HF.out (by unfold maxLen; omega) hnil hx5 (by rw [HNR.out]; exact own5), by
          have : (putT (nm, C, L) r).2.2.length = nr + 1 := by rw [← HNR.out]; exact List.length_append
          rw [this]; unfold maxLen; omega, h5.name⟩
        exact this
      obtain ⟨q, hq⟩ : ∃ q, tableB (putT (nm, C, L) r) = q := ⟨_, rfl⟩
      have HQ5 : Hid (tableB (putT (nm, C, L) r) = q) := hq
      have hT := HTT.out
      rw [hq] at hT
      have hnc5 : Hid ((putT (nm, C, L) r).2.1.length = nc) := HNC.out
      have hnr5 : Hid ((putT (nm, C, L) r).2.2.length = nr + 1) := by
        have : (putT (nm, C, L) r).2.2.length = nr + 1 := by rw [← HNR.out]; exact List.length_append
        exact this
      clear hq hw5 z0 z1 z2 zf0 zf1 zf2 OX own5 HX0 HX1 HX2 p0 p1 p2
      go_wp2_with fail
      refine (table_impl _ _ _ _ (putT (nm, C, L) r) nc (nr + 1) hnc5.out hnr5.out _ T5.out q HQ5.out).mono ?_
      rintro e w6 ⟨rfl, hb6⟩
      obtain ⟨y0, y1, y2, y3⟩ := later3 hb6 ⟨y0, y1, y2, hl5⟩
      have hx6 : Below w1.heap.size w1 w6 := hx5.trans (hb6.mono hx5.size)
      have T6 : Hid (TabAt w6 ca cc (some ⟨g, 0, none⟩) (putT (nm, C, L) r)) := T5.out.below hb6
      have hs6 := hx6.size
      obtain ⟨hc6, hf6⟩ := bcell hx6
      obtain ⟨⟨p0, p1, p2⟩, ⟨q0, q1, q2⟩, f0, f1, f2⟩ := QQ.out
      rw [← hc6 _ _ (by omega)] at p0 p1 p2 q0 q1 q2
      rw [← hf6 _ _ (by omega)] at f0 f1 f2
      clear hc6 hf6 hb6 T5 hx5 hl5 QQ
      cases q
      · rw [if_neg (by simp)] at hT
        obtain ⟨rfl, rfl⟩ := Prod.mk.inj hT
        clear hT
        go_wp2_with fail
        refine (copied_table ca cc ra cr (nm, C, L) nc nr HNC.out HNR.out _ (H1.out.below hx6) (by omega) (by omega) HMS.out).mono ?_
        rintro e w7 ⟨g7, c7, g8, c8, A7, D7, rfl, ot7, hb7, hcap8⟩
        obtain ⟨hc, hf⟩ := bcell hb7
        rw [← hc _ _ (by omega)] at q0 q1 q2
        rw [← hf _ _ (by omega)] at f0 f1 f2
        have hx7 : Below w.heap.size w w7 := chain hx (hx6.trans (hb7.mono hs6))
        have OT : Hid (OutTab w7 w6.heap.size (some ⟨g7, 0, none⟩) c7 (some ⟨g8, 0, none⟩) (nm, C, L) A7 D7) := ot7
        clear ot7 hb7 hc hf
        go_wp2_with fail
        refine bodyPost_ret (v := .tuple #[.agg #[.string nm, .slice (some ⟨g7, 0, none⟩) nc c7, .slice (some ⟨g8, 0, none⟩) nr c8], .bool false]) (by simp [results, Try.results12, go_sem, q0, q1, q2]) rfl ⟨_, c7, _, c8, _, _, by rw [show (nm, C, L).2.1.length = nc from HNC.out, show (nm, C, L).2.2.length = nr from HNR.out], (OT.out.set3 (w.heap.size + 1) (by omega) _ _ _ _ _ _).base (by omega), ?_, by rw [show (nm, C, L).2.2.length = nr from HNR.out]; exact hcap8⟩
        repeat (first | exact hx7 | refine Below.setCell ?_ (by first | (simp; done) | (simp; omega)) _)
      · rw [if_pos (by simp)] at hT
        obtain ⟨rfl, rfl⟩ := Prod.mk.inj hT
        clear hT
        have HM5 : Hid (∀ i (h : i < (putT (nm, C, L) r).2.2.length), (putT (nm, C, L) r).2.2[i].length ≤ 1048576) := by
          have : ∀ i (h : i < (putT (nm, C, L) r).2.2.length), (putT (nm, C, L) r).2.2[i].length ≤ 1048576 := fun i hi => by
            have h1 := (table_row' HQ5.out i hi).1
            have h2 := (table_len' HQ5.out).1
            omega
          exact this
        go_wp2_with fail
        refine (copied_table _ _ _ _ (putT (nm, C, L) r) nc (nr + 1) hnc5.out hnr5.out _ T6.out (by omega) (by omega) HM5.out).mono ?_
        rintro e w7 ⟨g7, c7, g8, c8, A7, D7, rfl, ot7, hb7, hcap8⟩
        obtain ⟨hc, hf⟩ := bcell hb7
        rw [← hc _ _ (by omega)] at q0 q1 q2
        rw [← hf _ _ (by omega)] at f0 f1 f2
        have hx7 : Below w.heap.size w w7 := chain hx (hx6.trans (hb7.mono hs6))
        have OT : Hid (OutTab w7 w6.heap.size (some ⟨g7, 0, none⟩) c7 (some ⟨g8, 0, none⟩) (putT (nm, C, L) r) A7 D7) := ot7
        clear ot7 hb7 hc hf
        go_wp2_with fail
        refine bodyPost_ret (v := .tuple #[.agg #[.string nm, .slice (some ⟨g7, 0, none⟩) nc c7, .slice (some ⟨g8, 0, none⟩) (nr + 1) c8], .bool true]) (by simp [results, Try.results12, go_sem, q0, q1, q2]; rfl) rfl ⟨_, c7, _, c8, _, _, by rw [hnc5.out, hnr5.out]; rfl, (OT.out.set3 (w.heap.size + 1) (by omega) _ _ _ _ _ _).base (by omega), ?_, by rw [hnr5.out]; exact hcap8⟩
        repeat (first | exact hx7 | refine Below.setCell ?_ (by first | (simp; done) | (simp; omega)) _)
    · intro K hK
      go_simp
      refine hK.out _ _ ?_ (fun hHeld => ?_)
      · (((try dsimp only); (repeat' apply And.intro) <;> first | (go_keep; done) | (simp (disch := first | omega | (simp <;> omega) | fail) [*]; done) | fail))
      clear hK K
      try simp only [Act.put, List.setIfInBounds_toArray, List.set_cons_zero, List.set_cons_succ]
      obtain ⟨B, hB⟩ : ∃ B, w2.heap.size = B := ⟨_, rfl⟩
      obtain ⟨Y, hY⟩ : ∃ Y, Y = w2.alloc (.cells #[.string ⟨#[]⟩, .slice none 0 0, .slice none 0 0] 32) := ⟨_, rfl⟩
      have hxY : Below w1.heap.size w1 Y := by rw [hY]; exact hxw2.alloc hxw2.size _
      rw [← hY]
      try simp only [hB]
      have hYs : Y.heap.size = B + 1 := by rw [hY, ← hB]; simp
      have y0 : Y.cell? ⟨B, 0, none⟩ = some (.string ⟨#[]⟩) ∧ Y.cell? ⟨B, 1, none⟩ = some (.slice none 0 0) ∧ Y.cell? ⟨B, 2, none⟩ = some (.slice none 0 0) ∧ Y.frozen? ⟨B, 0, none⟩ = false ∧ Y.frozen? ⟨B, 1, none⟩ = false ∧ Y.frozen? ⟨B, 2, none⟩ = false := by rw [hY, ← hB]; simp
      have YY : Hid (Y.cell? ⟨B, 0, none⟩ = some (.string ⟨#[]⟩) ∧ Y.cell? ⟨B, 1, none⟩ = some (.slice none 0 0) ∧ Y.cell? ⟨B, 2, none⟩ = some (.slice none 0 0) ∧ Y.frozen? ⟨B, 0, none⟩ = false ∧ Y.frozen? ⟨B, 1, none⟩ = false ∧ Y.frozen? ⟨B, 2, none⟩ = false) := y0
      have hBl : w1.heap.size ≤ B := by have := hxw2.size; omega
      have HYS : Hid (Y.heap.size = B + 1) := hYs
      have t0 : Y.cell? ⟨w.heap.size, 0, none⟩ = some (.string nm) := by rw [hxY.cell (p := ⟨w.heap.size, 0, none⟩) (by show w.heap.size < _; omega)]; exact p0
      have t1 : Y.cell? ⟨w.heap.size, 1, none⟩ = some (.slice ca nc cc) := by rw [hxY.cell (p := ⟨w.heap.size, 1, none⟩) (by show w.heap.size < _; omega)]; exact p1
      have t2 : Y.cell? ⟨w.heap.size, 2, none⟩ = some (.slice ra nr cr) := by rw [hxY.cell (p := ⟨w.heap.size, 2, none⟩) (by show w.heap.size < _; omega)]; exact p2
      clear hY hYs y0 hB
      refine wpAnyH_ready (rs := [7]) (by kernel_rfl) (by simp) ?_
      refine AllReadyH.cons (by simp only [List.getElem?_toArray, List.getElem?_cons_zero, List.getElem?_cons_succ]; rfl) ?_ AllReadyH.nil
      intro K hK
      go_simp
      refine (with_impl ra cr nr L HNR.out A K9 a cap n _ (HA.out.below hxY) hnilR (by omega)).mono ?_
      rintro e w3 ⟨g, c, rfl, own3, hb3⟩
      obtain ⟨hca, hfa⟩ := bcell hb3
      have hs3 := hb3.size
      have r0 : w3.cell? ⟨w.heap.size, 0, none⟩ = some (.string nm) := by rw [hca _ _ (by have := hxY.size; omega)]; exact t0
      have r1 : w3.cell? ⟨w.heap.size, 1, none⟩ = some (.slice ca nc cc) := by rw [hca _ _ (by have := hxY.size; omega)]; exact t1
      have r2 : w3.cell? ⟨w.heap.size, 2, none⟩ = some (.slice ra nr cr) := by rw [hca _ _ (by have := hxY.size; omega)]; exact t2
      clear hca hfa
      go_wp2_with fail
      refine hK.out _ _ ⟨r0, r1, r2⟩ (fun hHeld => ?_)
      clear hK K
      try simp only [Act.put, List.setIfInBounds_toArray, List.set_cons_zero, List.set_cons_succ]
      refine wpAnyH_take (i := 8) (by simp only [List.getElem?_toArray, List.getElem?_cons_zero, List.getElem?_cons_succ]; rfl) (by kernel_rfl) (by kernel_rfl) (by kernel_rfl) (by intro _ _ _ h; exact h) (Or.inl ⟨by rfl, fun w hSw => by (dsimp only at hSw; go_simp; (try with_reducible rfl))⟩) (by assumption) ?_
      simp only [Act.put, List.setIfInBounds_toArray, List.set_cons_zero, List.set_cons_succ]
      refine wpAnyH_take (i := 9) (by simp only [List.getElem?_toArray, List.getElem?_cons_zero, List.getElem?_cons_succ]; rfl) (by kernel_rfl) (by kernel_rfl) (by kernel_rfl) (by intro _ _ _ h; exact h) (Or.inl ⟨by rfl, fun w hSw => by (dsimp only at hSw; go_simp; (try with_reducible rfl))⟩) (by assumption) ?_
      simp only [Act.put, List.setIfInBounds_toArray, List.set_cons_zero, List.set_cons_succ]
      have hsY := hxY.size
      obtain ⟨hca, hfa⟩ := bcell hb3
      obtain ⟨X, hX⟩ : ∃ X, X = w3 := ⟨_, rfl⟩
      subst hX
      have hxX : Below w1.heap.size w1 X := hxY.trans (hb3.mono hsY)
      have hBY2 : B < Y.heap.size := by have := HYS.out; omega
      obtain ⟨a0, a1, a2, b0, b1, b2⟩ := YY.out
      have z0 : X.cell? ⟨B, 0, none⟩ = some (.string ⟨#[]⟩) := (hca _ _ hBY2).trans a0
      have z1 : X.cell? ⟨B, 1, none⟩ = some (.slice none 0 0) := (hca _ _ hBY2).trans a1
      have z2 : X.cell? ⟨B, 2, none⟩ = some (.slice none 0 0) := (hca _ _ hBY2).trans a2
      have zf0 : X.frozen? ⟨B, 0, none⟩ = false := (hfa _ _ hBY2).trans b0
      have zf1 : X.frozen? ⟨B, 1, none⟩ = false := (hfa _ _ hBY2).trans b1
      have zf2 : X.frozen? ⟨B, 2, none⟩ = false := (hfa _ _ hBY2).trans b2
      have hgB : g ≠ B := by have := (own3.lt g rfl).1; omega
      have OX : Hid (X.ownsRow w1.heap.size 29 1 (.slice (some ⟨g, 0, none⟩) (nr + 1) c) (nr + 1) (headsV A K9 L ++ [.slice a n cap])) := by
        have : X.ownsRow w1.heap.size 29 1 (.slice (some ⟨g, 0, none⟩) (nr + 1) c) (nr + 1) (headsV A K9 L ++ [.slice a n cap]) := own_base own3 hsY
        exact this
      clear hca hfa a0 a1 a2 b0 b1 b2 own3 hb3 hs3
      have hBx : B < X.heap.size := World.block_lt_of_cell? X ⟨B, 0, none⟩ z0
      clear hHeld
      have HX0 : X.cell? ⟨w.heap.size, 0, none⟩ = some (.string nm) := by rw [hxX.cell (p := ⟨w.heap.size, 0, none⟩) (by show w.heap.size < _; omega)]; exact p0
      have HX1 : X.cell? ⟨w.heap.size, 1, none⟩ = some (.slice ca nc cc) := by rw [hxX.cell (p := ⟨w.heap.size, 1, none⟩) (by show w.heap.size < _; omega)]; exact p1
      have HX2 : X.cell? ⟨w.heap.size, 2, none⟩ = some (.slice ra nr cr) := by rw [hxX.cell (p := ⟨w.heap.size, 2, none⟩) (by show w.heap.size < _; omega)]; exact p2
      have hne : w.heap.size ≠ B := by omega
      refine wpAnyH_ready (rs := [11]) (by kernel_rfl) (by simp) ?_
      refine AllReadyH.cons (by simp only [List.getElem?_toArray, List.getElem?_cons_zero, List.getElem?_cons_succ]; rfl) ?_ AllReadyH.nil
      intro K hK
      go_simp
      refine hK.out _ _ ?_ (fun hHeld => ?_)
      · try dsimp only
        refine ⟨?_, ?_, ?_⟩
        · rw [cell_far _ _ _ _ _ _ hne, cell_far _ _ _ _ _ _ hne, cell_far _ _ _ _ _ _ hne]; exact HX0
        · rw [cell_far _ _ _ _ _ _ hne, cell_far _ _ _ _ _ _ hne, cell_far _ _ _ _ _ _ hne]; exact HX1
        · rw [cell_far _ _ _ _ _ _ hne, cell_far _ _ _ _ _ _ hne, cell_far _ _ _ _ _ _ hne]; exact HX2
      clear hK K
      try simp only [Act.put, List.setIfInBounds_toArray, List.set_cons_zero, List.set_cons_succ]
      refine wpAnyH_done (by kernel_rfl) ?_ _
      clear hHeld
      obtain ⟨w5, hw5⟩ : ∃ w5, w5 = ((X.setCell ⟨B, 0, none⟩ (.string nm)).setCell ⟨B, 1, none⟩ (.slice ca nc cc)).setCell ⟨B, 2, none⟩ (.slice (some ⟨g, 0, none⟩) (nr + 1) c) := ⟨_, rfl⟩
      rw [← hw5]
      have hx5 : Below w1.heap.size w1 w5 := by rw [hw5]; exact ((hxX.setCell (p := ⟨B, 0, none⟩) hBl _).setCell (p := ⟨B, 1, none⟩) hBl _).setCell (p := ⟨B, 2, none⟩) hBl _
      have y0 : w5.cell? ⟨B, 0, none⟩ = some (.string nm) := by
        rw [hw5, cell_off _ _ _ _ _ (by omega), cell_off _ _ _ _ _ (by omega), cell_here _ _ _ _ (by rw [z0]; rfl)]
      have y1 : w5.cell? ⟨B, 1, none⟩ = some (.slice ca nc cc) := by
        rw [hw5, cell_off _ _ _ _ _ (by omega), cell_here _ _ _ _ (by rw [cell_off _ _ _ _ _ (by omega), z1]; rfl)]
      have y2 : w5.cell? ⟨B, 2, none⟩ = some (.slice (some ⟨g, 0, none⟩) (nr + 1) c) := by
        rw [hw5, cell_here _ _ _ _ (by rw [cell_off _ _ _ _ _ (by omega), cell_off _ _ _ _ _ (by omega), z2]; rfl)]
      have hl5 : B < w5.heap.size := World.block_lt_of_cell? w5 ⟨B, 0, none⟩ y0
      have own5 : w5.ownsRow w1.heap.size 29 1 (.slice (some ⟨g, 0, none⟩) (nr + 1) c) (nr + 1) (headsV A K9 L ++ [.slice a n cap]) := by
        rw [hw5]
        refine own_keepB OX.out (Nat.le_refl _) ?_
        have hk : Keep B X (((X.setCell ⟨B, 0, none⟩ (.string nm)).setCell ⟨B, 1, none⟩ (.slice ca nc cc)).setCell ⟨B, 2, none⟩ (.slice (some ⟨g, 0, none⟩) (nr + 1) c)) := (((Keep.refl B X).setCell (p := ⟨B, 0, none⟩) (Or.inl rfl) _).setCell (p := ⟨B, 1, none⟩) (Or.inl rfl) _).setCell (p := ⟨B, 2, none⟩) (Or.inl rfl) _
        exact hk.block g (OX.out.lt g rfl).2 hgB
      have T5 : Hid (TabAt w5 ca cc (some ⟨g, 0, none⟩) (putT (nm, C, L) r)) := by
        have h5 := H1.out.below hx5
        have : TabAt w5 ca cc (some ⟨g, 0, none⟩) (putT (nm, C, L) r) := ⟨h5.cols, h5.fit, h5.len, h5.cap, h5.nilC, rows_more HA.out HN.out R1.out HF.out (by unfold maxLen; omega) hnil hx5 (by rw [HNR.out]; exact own5), by
          have : (putT (nm, C, L) r).2.2.length = nr + 1 := by rw [← HNR.out]; exact List.length_append
          rw [this]; unfold maxLen; omega, h5.name⟩
        exact this
      obtain ⟨q, hq⟩ : ∃ q, tableB (putT (nm, C, L) r) = q := ⟨_, rfl⟩
      have HQ5 : Hid (tableB (putT (nm, C, L) r) = q) := hq
      have hT := HTT.out
      rw [hq] at hT
      have hnc5 : Hid ((putT (nm, C, L) r).2.1.length = nc) := HNC.out
      have hnr5 : Hid ((putT (nm, C, L) r).2.2.length = nr + 1) := by
        have : (putT (nm, C, L) r).2.2.length = nr + 1 := by rw [← HNR.out]; exact List.length_append
        exact this
      clear hq hw5 z0 z1 z2 zf0 zf1 zf2 OX own5 HX0 HX1 HX2 p0 p1 p2
      go_wp2_with fail
      refine (table_impl _ _ _ _ (putT (nm, C, L) r) nc (nr + 1) hnc5.out hnr5.out _ T5.out q HQ5.out).mono ?_
      rintro e w6 ⟨rfl, hb6⟩
      obtain ⟨y0, y1, y2, y3⟩ := later3 hb6 ⟨y0, y1, y2, hl5⟩
      have hx6 : Below w1.heap.size w1 w6 := hx5.trans (hb6.mono hx5.size)
      have T6 : Hid (TabAt w6 ca cc (some ⟨g, 0, none⟩) (putT (nm, C, L) r)) := T5.out.below hb6
      have hs6 := hx6.size
      obtain ⟨hc6, hf6⟩ := bcell hx6
      obtain ⟨⟨p0, p1, p2⟩, ⟨q0, q1, q2⟩, f0, f1, f2⟩ := QQ.out
      rw [← hc6 _ _ (by omega)] at p0 p1 p2 q0 q1 q2
      rw [← hf6 _ _ (by omega)] at f0 f1 f2
      clear hc6 hf6 hb6 T5 hx5 hl5 QQ
      cases q
      · rw [if_neg (by simp)] at hT
        obtain ⟨rfl, rfl⟩ := Prod.mk.inj hT
        clear hT
        go_wp2_with fail
        refine (copied_table ca cc ra cr (nm, C, L) nc nr HNC.out HNR.out _ (H1.out.below hx6) (by omega) (by omega) HMS.out).mono ?_
        rintro e w7 ⟨g7, c7, g8, c8, A7, D7, rfl, ot7, hb7, hcap8⟩
        obtain ⟨hc, hf⟩ := bcell hb7
        rw [← hc _ _ (by omega)] at q0 q1 q2
        rw [← hf _ _ (by omega)] at f0 f1 f2
        have hx7 : Below w.heap.size w w7 := chain hx (hx6.trans (hb7.mono hs6))
        have OT : Hid (OutTab w7 w6.heap.size (some ⟨g7, 0, none⟩) c7 (some ⟨g8, 0, none⟩) (nm, C, L) A7 D7) := ot7
        clear ot7 hb7 hc hf
        go_wp2_with fail
        refine bodyPost_ret (v := .tuple #[.agg #[.string nm, .slice (some ⟨g7, 0, none⟩) nc c7, .slice (some ⟨g8, 0, none⟩) nr c8], .bool false]) (by simp [results, Try.results12, go_sem, q0, q1, q2]) rfl ⟨_, c7, _, c8, _, _, by rw [show (nm, C, L).2.1.length = nc from HNC.out, show (nm, C, L).2.2.length = nr from HNR.out], (OT.out.set3 (w.heap.size + 1) (by omega) _ _ _ _ _ _).base (by omega), ?_, by rw [show (nm, C, L).2.2.length = nr from HNR.out]; exact hcap8⟩
        repeat (first | exact hx7 | refine Below.setCell ?_ (by first | (simp; done) | (simp; omega)) _)
      · rw [if_pos (by simp)] at hT
        obtain ⟨rfl, rfl⟩ := Prod.mk.inj hT
        clear hT
        have HM5 : Hid (∀ i (h : i < (putT (nm, C, L) r).2.2.length), (putT (nm, C, L) r).2.2[i].length ≤ 1048576) := by
          have : ∀ i (h : i < (putT (nm, C, L) r).2.2.length), (putT (nm, C, L) r).2.2[i].length ≤ 1048576 := fun i hi => by
            have h1 := (table_row' HQ5.out i hi).1
            have h2 := (table_len' HQ5.out).1
            omega
          exact this
        go_wp2_with fail
        refine (copied_table _ _ _ _ (putT (nm, C, L) r) nc (nr + 1) hnc5.out hnr5.out _ T6.out (by omega) (by omega) HM5.out).mono ?_
        rintro e w7 ⟨g7, c7, g8, c8, A7, D7, rfl, ot7, hb7, hcap8⟩
        obtain ⟨hc, hf⟩ := bcell hb7
        rw [← hc _ _ (by omega)] at q0 q1 q2
        rw [← hf _ _ (by omega)] at f0 f1 f2
        have hx7 : Below w.heap.size w w7 := chain hx (hx6.trans (hb7.mono hs6))
        have OT : Hid (OutTab w7 w6.heap.size (some ⟨g7, 0, none⟩) c7 (some ⟨g8, 0, none⟩) (putT (nm, C, L) r) A7 D7) := ot7
        clear ot7 hb7 hc hf
        go_wp2_with fail
        refine bodyPost_ret (v := .tuple #[.agg #[.string nm, .slice (some ⟨g7, 0, none⟩) nc c7, .slice (some ⟨g8, 0, none⟩) (nr + 1) c8], .bool true]) (by simp [results, Try.results12, go_sem, q0, q1, q2]; rfl) rfl ⟨_, c7, _, c8, _, _, by rw [hnc5.out, hnr5.out]; rfl, (OT.out.set3 (w.heap.size + 1) (by omega) _ _ _ _ _ _).base (by omega), ?_, by rw [hnr5.out]; exact hcap8⟩
        repeat (first | exact hx7 | refine Below.setCell ?_ (by first | (simp; done) | (simp; omega)) _)
  · intro K hK
    go_simp
    refine hK.out _ _ ?_ (fun hHeld => ?_)
    · (((try dsimp only); (repeat' apply And.intro) <;> first | (go_keep; done) | (simp (disch := first | omega | (simp <;> omega) | fail) [*]; done) | fail))
    clear hK K
    try simp only [Act.put, List.setIfInBounds_toArray, List.set_cons_zero, List.set_cons_succ]
    obtain ⟨B, hB⟩ : ∃ B, w1.heap.size = B := ⟨_, rfl⟩
    obtain ⟨Z, hZ⟩ : ∃ Z, Z = (w1.alloc (.cells #[.string ⟨#[]⟩, .slice none 0 0, .slice none 0 0] 32)).drew := ⟨_, rfl⟩
    have hxZ : Below w1.heap.size w1 Z := by rw [hZ]; exact ((Below.refl _ _).alloc (Nat.le_refl _) _).drew
    rw [← hZ]
    have hZs : Z.heap.size = w1.heap.size + 1 := by rw [hZ]; simp
    have zz : Z.cell? ⟨w1.heap.size, 0, none⟩ = some (.string ⟨#[]⟩) ∧ Z.cell? ⟨w1.heap.size, 1, none⟩ = some (.slice none 0 0) ∧ Z.cell? ⟨w1.heap.size, 2, none⟩ = some (.slice none 0 0) ∧ Z.frozen? ⟨w1.heap.size, 0, none⟩ = false ∧ Z.frozen? ⟨w1.heap.size, 1, none⟩ = false ∧ Z.frozen? ⟨w1.heap.size, 2, none⟩ = false := by
      rw [hZ]; simp
    have ZZ : Hid (Z.cell? ⟨B, 0, none⟩ = some (.string ⟨#[]⟩) ∧ Z.cell? ⟨B, 1, none⟩ = some (.slice none 0 0) ∧ Z.cell? ⟨B, 2, none⟩ = some (.slice none 0 0) ∧ Z.frozen? ⟨B, 0, none⟩ = false ∧ Z.frozen? ⟨B, 1, none⟩ = false ∧ Z.frozen? ⟨B, 2, none⟩ = false) := by rw [← hB]; exact zz
    have hBl : w1.heap.size ≤ B := by omega
    have HZS : Hid (Z.heap.size = B + 1) := by
      have : Z.heap.size = B + 1 := by omega
      exact this
    try simp only [hB]
    have m0 : Z.cell? ⟨w.heap.size, 0, none⟩ = some (.string nm) := by rw [hxZ.cell (p := ⟨w.heap.size, 0, none⟩) (by show w.heap.size < _; omega)]; exact p0
    have m1 : Z.cell? ⟨w.heap.size, 1, none⟩ = some (.slice ca nc cc) := by rw [hxZ.cell (p := ⟨w.heap.size, 1, none⟩) (by show w.heap.size < _; omega)]; exact p1
    have m2 : Z.cell? ⟨w.heap.size, 2, none⟩ = some (.slice ra nr cr) := by rw [hxZ.cell (p := ⟨w.heap.size, 2, none⟩) (by show w.heap.size < _; omega)]; exact p2
    have hZ1 : w.heap.size < Z.heap.size := by omega
    clear hZ hZs zz hB
    refine wpAnyH_ready (rs := [5]) (by kernel_rfl) (by simp) ?_
    refine AllReadyH.cons (by simp only [List.getElem?_toArray, List.getElem?_cons_zero, List.getElem?_cons_succ]; rfl) ?_ AllReadyH.nil
    intro K hK
    go_simp
    refine (rowsof_impl _ _ _ _ _ _ _ _).mono ?_
    rintro e w2 ⟨rfl, hb2⟩
    have hx2 : Below Z.heap.size Z w2 := hb2
    obtain ⟨hca, hfa⟩ := bcell hx2
    have hs2 := hx2.size
    have s0 : w2.cell? ⟨w.heap.size, 0, none⟩ = some (.string nm) := by rw [hca _ _ (by omega)]; exact m0
    have s1 : w2.cell? ⟨w.heap.size, 1, none⟩ = some (.slice ca nc cc) := by rw [hca _ _ (by omega)]; exact m1
    have s2 : w2.cell? ⟨w.heap.size, 2, none⟩ = some (.slice ra nr cr) := by rw [hca _ _ (by omega)]; exact m2
    clear hca hfa hb2
    go_wp2_with fail
    refine hK.out _ _ ⟨s0, s1, s2⟩ (fun hHeld => ?_)
    clear hK K
    try simp only [Act.put, List.setIfInBounds_toArray, List.set_cons_zero, List.set_cons_succ]
    have hxw2 : Below w1.heap.size w1 w2 := hxZ.trans (hx2.mono hxZ.size)
    obtain ⟨Y, hY⟩ : ∃ Y, Y = w2 := ⟨_, rfl⟩
    subst hY
    have YY : Hid (Y.cell? ⟨B, 0, none⟩ = some (.string ⟨#[]⟩) ∧ Y.cell? ⟨B, 1, none⟩ = some (.slice none 0 0) ∧ Y.cell? ⟨B, 2, none⟩ = some (.slice none 0 0) ∧ Y.frozen? ⟨B, 0, none⟩ = false ∧ Y.frozen? ⟨B, 1, none⟩ = false ∧ Y.frozen? ⟨B, 2, none⟩ = false) := by
      obtain ⟨a0, a1, a2, b0, b1, b2⟩ := ZZ.out
      obtain ⟨hca, hfa⟩ := bcell hx2
      have hl : B < Z.heap.size := by have := HZS.out; omega
      exact ⟨(hca _ _ hl).trans a0, (hca _ _ hl).trans a1, (hca _ _ hl).trans a2, (hfa _ _ hl).trans b0, (hfa _ _ hl).trans b1, (hfa _ _ hl).trans b2⟩
    have hBY : B < Y.heap.size := by have := HZS.out; omega
    have t0 := s0
    have t1 := s1
    have t2 := s2
    have hxY := hxw2
    refine wpAnyH_ready (rs := [7]) (by kernel_rfl) (by simp) ?_
    refine AllReadyH.cons (by simp only [List.getElem?_toArray, List.getElem?_cons_zero, List.getElem?_cons_succ]; rfl) ?_ AllReadyH.nil
    intro K hK
    go_simp
    refine (with_impl ra cr nr L HNR.out A K9 a cap n _ (HA.out.below hxY) hnilR (by omega)).mono ?_
    rintro e w3 ⟨g, c, rfl, own3, hb3⟩
    obtain ⟨hca, hfa⟩ := bcell hb3
    have hs3 := hb3.size
    have r0 : w3.cell? ⟨w.heap.size, 0, none⟩ = some (.string nm) := by rw [hca _ _ (by have := hxY.size; omega)]; exact t0
    have r1 : w3.cell? ⟨w.heap.size, 1, none⟩ = some (.slice ca nc cc) := by rw [hca _ _ (by have := hxY.size; omega)]; exact t1
    have r2 : w3.cell? ⟨w.heap.size, 2, none⟩ = some (.slice ra nr cr) := by rw [hca _ _ (by have := hxY.size; omega)]; exact t2
    clear hca hfa
    go_wp2_with fail
    refine hK.out _ _ ⟨r0, r1, r2⟩ (fun hHeld => ?_)
    clear hK K
    try simp only [Act.put, List.setIfInBounds_toArray, List.set_cons_zero, List.set_cons_succ]
    refine wpAnyH_take (i := 8) (by simp only [List.getElem?_toArray, List.getElem?_cons_zero, List.getElem?_cons_succ]; rfl) (by kernel_rfl) (by kernel_rfl) (by kernel_rfl) (by intro _ _ _ h; exact h) (Or.inl ⟨by rfl, fun w hSw => by (dsimp only at hSw; go_simp; (try with_reducible rfl))⟩) (by assumption) ?_
    simp only [Act.put, List.setIfInBounds_toArray, List.set_cons_zero, List.set_cons_succ]
    refine wpAnyH_take (i := 9) (by simp only [List.getElem?_toArray, List.getElem?_cons_zero, List.getElem?_cons_succ]; rfl) (by kernel_rfl) (by kernel_rfl) (by kernel_rfl) (by intro _ _ _ h; exact h) (Or.inl ⟨by rfl, fun w hSw => by (dsimp only at hSw; go_simp; (try with_reducible rfl))⟩) (by assumption) ?_
    simp only [Act.put, List.setIfInBounds_toArray, List.set_cons_zero, List.set_cons_succ]
    have hsY := hxY.size
    obtain ⟨hca, hfa⟩ := bcell hb3
    obtain ⟨X, hX⟩ : ∃ X, X = w3 := ⟨_, rfl⟩
    subst hX
    have hxX : Below w1.heap.size w1 X := hxY.trans (hb3.mono hsY)
    have hBY2 : B < Y.heap.size := hBY
    obtain ⟨a0, a1, a2, b0, b1, b2⟩ := YY.out
    have z0 : X.cell? ⟨B, 0, none⟩ = some (.string ⟨#[]⟩) := (hca _ _ hBY2).trans a0
    have z1 : X.cell? ⟨B, 1, none⟩ = some (.slice none 0 0) := (hca _ _ hBY2).trans a1
    have z2 : X.cell? ⟨B, 2, none⟩ = some (.slice none 0 0) := (hca _ _ hBY2).trans a2
    have zf0 : X.frozen? ⟨B, 0, none⟩ = false := (hfa _ _ hBY2).trans b0
    have zf1 : X.frozen? ⟨B, 1, none⟩ = false := (hfa _ _ hBY2).trans b1
    have zf2 : X.frozen? ⟨B, 2, none⟩ = false := (hfa _ _ hBY2).trans b2
    have hgB : g ≠ B := by have := (own3.lt g rfl).1; omega
    have OX : Hid (X.ownsRow w1.heap.size 29 1 (.slice (some ⟨g, 0, none⟩) (nr + 1) c) (nr + 1) (headsV A K9 L ++ [.slice a n cap])) := by
      have : X.ownsRow w1.heap.size 29 1 (.slice (some ⟨g, 0, none⟩) (nr + 1) c) (nr + 1) (headsV A K9 L ++ [.slice a n cap]) := own_base own3 hsY
      exact this
    clear hca hfa a0 a1 a2 b0 b1 b2 own3 hb3 hs3
    have hBx : B < X.heap.size := World.block_lt_of_cell? X ⟨B, 0, none⟩ z0
    clear hHeld
    have HX0 : X.cell? ⟨w.heap.size, 0, none⟩ = some (.string nm) := by rw [hxX.cell (p := ⟨w.heap.size, 0, none⟩) (by show w.heap.size < _; omega)]; exact p0
    have HX1 : X.cell? ⟨w.heap.size, 1, none⟩ = some (.slice ca nc cc) := by rw [hxX.cell (p := ⟨w.heap.size, 1, none⟩) (by show w.heap.size < _; omega)]; exact p1
    have HX2 : X.cell? ⟨w.heap.size, 2, none⟩ = some (.slice ra nr cr) := by rw [hxX.cell (p := ⟨w.heap.size, 2, none⟩) (by show w.heap.size < _; omega)]; exact p2
    have hne : w.heap.size ≠ B := by omega
    refine wpAnyH_ready (rs := [11]) (by kernel_rfl) (by simp) ?_
    refine AllReadyH.cons (by simp only [List.getElem?_toArray, List.getElem?_cons_zero, List.getElem?_cons_succ]; rfl) ?_ AllReadyH.nil
    intro K hK
    go_simp
    refine hK.out _ _ ?_ (fun hHeld => ?_)
    · try dsimp only
      refine ⟨?_, ?_, ?_⟩
      · rw [cell_far _ _ _ _ _ _ hne, cell_far _ _ _ _ _ _ hne, cell_far _ _ _ _ _ _ hne]; exact HX0
      · rw [cell_far _ _ _ _ _ _ hne, cell_far _ _ _ _ _ _ hne, cell_far _ _ _ _ _ _ hne]; exact HX1
      · rw [cell_far _ _ _ _ _ _ hne, cell_far _ _ _ _ _ _ hne, cell_far _ _ _ _ _ _ hne]; exact HX2
    clear hK K
    try simp only [Act.put, List.setIfInBounds_toArray, List.set_cons_zero, List.set_cons_succ]
    refine wpAnyH_done (by kernel_rfl) ?_ _
    clear hHeld
    obtain ⟨w5, hw5⟩ : ∃ w5, w5 = ((X.setCell ⟨B, 0, none⟩ (.string nm)).setCell ⟨B, 1, none⟩ (.slice ca nc cc)).setCell ⟨B, 2, none⟩ (.slice (some ⟨g, 0, none⟩) (nr + 1) c) := ⟨_, rfl⟩
    rw [← hw5]
    have hx5 : Below w1.heap.size w1 w5 := by rw [hw5]; exact ((hxX.setCell (p := ⟨B, 0, none⟩) hBl _).setCell (p := ⟨B, 1, none⟩) hBl _).setCell (p := ⟨B, 2, none⟩) hBl _
    have y0 : w5.cell? ⟨B, 0, none⟩ = some (.string nm) := by
      rw [hw5, cell_off _ _ _ _ _ (by omega), cell_off _ _ _ _ _ (by omega), cell_here _ _ _ _ (by rw [z0]; rfl)]
    have y1 : w5.cell? ⟨B, 1, none⟩ = some (.slice ca nc cc) := by
      rw [hw5, cell_off _ _ _ _ _ (by omega), cell_here _ _ _ _ (by rw [cell_off _ _ _ _ _ (by omega), z1]; rfl)]
    have y2 : w5.cell? ⟨B, 2, none⟩ = some (.slice (some ⟨g, 0, none⟩) (nr + 1) c) := by
      rw [hw5, cell_here _ _ _ _ (by rw [cell_off _ _ _ _ _ (by omega), cell_off _ _ _ _ _ (by omega), z2]; rfl)]
    have hl5 : B < w5.heap.size := World.block_lt_of_cell? w5 ⟨B, 0, none⟩ y0
    have own5 : w5.ownsRow w1.heap.size 29 1 (.slice (some ⟨g, 0, none⟩) (nr + 1) c) (nr + 1) (headsV A K9 L ++ [.slice a n cap]) := by
      rw [hw5]
      refine own_keepB OX.out (Nat.le_refl _) ?_
      have hk : Keep B X (((X.setCell ⟨B, 0, none⟩ (.string nm)).setCell ⟨B, 1, none⟩ (.slice ca nc cc)).setCell ⟨B, 2, none⟩ (.slice (some ⟨g, 0, none⟩) (nr + 1) c)) := (((Keep.refl B X).setCell (p := ⟨B, 0, none⟩) (Or.inl rfl) _).setCell (p := ⟨B, 1, none⟩) (Or.inl rfl) _).setCell (p := ⟨B, 2, none⟩) (Or.inl rfl) _
      exact hk.block g (OX.out.lt g rfl).2 hgB
    have T5 : Hid (TabAt w5 ca cc (some ⟨g, 0, none⟩) (putT (nm, C, L) r)) := by
      have h5 := H1.out.below hx5
      have : TabAt w5 ca cc (some ⟨g, 0, none⟩) (putT (nm, C, L) r) := ⟨h5.cols, h5.fit, h5.len, h5.cap, h5.nilC, rows_more HA.out HN.out R1.out HF.out (by unfold maxLen; omega) hnil hx5 (by rw [HNR.out]; exact own5), by
        have : (putT (nm, C, L) r).2.2.length = nr + 1 := by rw [← HNR.out]; exact List.length_append
        rw [this]; unfold maxLen; omega, h5.name⟩
      exact this
    obtain ⟨q, hq⟩ : ∃ q, tableB (putT (nm, C, L) r) = q := ⟨_, rfl⟩
    have HQ5 : Hid (tableB (putT (nm, C, L) r) = q) := hq
    have hT := HTT.out
    rw [hq] at hT
    have hnc5 : Hid ((putT (nm, C, L) r).2.1.length = nc) := HNC.out
    have hnr5 : Hid ((putT (nm, C, L) r).2.2.length = nr + 1) := by
      have : (putT (nm, C, L) r).2.2.length = nr + 1 := by rw [← HNR.out]; exact List.length_append
      exact this
    clear hq hw5 z0 z1 z2 zf0 zf1 zf2 OX own5 HX0 HX1 HX2 p0 p1 p2
    go_wp2_with fail
    refine (table_impl _ _ _ _ (putT (nm, C, L) r) nc (nr + 1) hnc5.out hnr5.out _ T5.out q HQ5.out).mono ?_
    rintro e w6 ⟨rfl, hb6⟩
    obtain ⟨y0, y1, y2, y3⟩ := later3 hb6 ⟨y0, y1, y2, hl5⟩
    have hx6 : Below w1.heap.size w1 w6 := hx5.trans (hb6.mono hx5.size)
    have T6 : Hid (TabAt w6 ca cc (some ⟨g, 0, none⟩) (putT (nm, C, L) r)) := T5.out.below hb6
    have hs6 := hx6.size
    obtain ⟨hc6, hf6⟩ := bcell hx6
    obtain ⟨⟨p0, p1, p2⟩, ⟨q0, q1, q2⟩, f0, f1, f2⟩ := QQ.out
    rw [← hc6 _ _ (by omega)] at p0 p1 p2 q0 q1 q2
    rw [← hf6 _ _ (by omega)] at f0 f1 f2
    clear hc6 hf6 hb6 T5 hx5 hl5 QQ
    cases q
    · rw [if_neg (by simp)] at hT
      obtain ⟨rfl, rfl⟩ := Prod.mk.inj hT
      clear hT
      go_wp2_with fail
      refine (copied_table ca cc ra cr (nm, C, L) nc nr HNC.out HNR.out _ (H1.out.below hx6) (by omega) (by omega) HMS.out).mono ?_
      rintro e w7 ⟨g7, c7, g8, c8, A7, D7, rfl, ot7, hb7, hcap8⟩
      obtain ⟨hc, hf⟩ := bcell hb7
      rw [← hc _ _ (by omega)] at q0 q1 q2
      rw [← hf _ _ (by omega)] at f0 f1 f2
      have hx7 : Below w.heap.size w w7 := chain hx (hx6.trans (hb7.mono hs6))
      have OT : Hid (OutTab w7 w6.heap.size (some ⟨g7, 0, none⟩) c7 (some ⟨g8, 0, none⟩) (nm, C, L) A7 D7) := ot7
      clear ot7 hb7 hc hf
      go_wp2_with fail
      refine bodyPost_ret (v := .tuple #[.agg #[.string nm, .slice (some ⟨g7, 0, none⟩) nc c7, .slice (some ⟨g8, 0, none⟩) nr c8], .bool false]) (by simp [results, Try.results12, go_sem, q0, q1, q2]) rfl ⟨_, c7, _, c8, _, _, by rw [show (nm, C, L).2.1.length = nc from HNC.out, show (nm, C, L).2.2.length = nr from HNR.out], (OT.out.set3 (w.heap.size + 1) (by omega) _ _ _ _ _ _).base (by omega), ?_, by rw [show (nm, C, L).2.2.length = nr from HNR.out]; exact hcap8⟩
      repeat (first | exact hx7 | refine Below.setCell ?_ (by first | (simp; done) | (simp; omega)) _)
    · rw [if_pos (by simp)] at hT
      obtain ⟨rfl, rfl⟩ := Prod.mk.inj hT
      clear hT
      have HM5 : Hid (∀ i (h : i < (putT (nm, C, L) r).2.2.length), (putT (nm, C, L) r).2.2[i].length ≤ 1048576) := by
        have : ∀ i (h : i < (putT (nm, C, L) r).2.2.length), (putT (nm, C, L) r).2.2[i].length ≤ 1048576 := fun i hi => by
          have h1 := (table_row' HQ5.out i hi).1
          have h2 := (table_len' HQ5.out).1
          omega
        exact this
      go_wp2_with fail
      refine (copied_table _ _ _ _ (putT (nm, C, L) r) nc (nr + 1) hnc5.out hnr5.out _ T6.out (by omega) (by omega) HM5.out).mono ?_
      rintro e w7 ⟨g7, c7, g8, c8, A7, D7, rfl, ot7, hb7, hcap8⟩
      obtain ⟨hc, hf⟩ := bcell hb7
      rw [← hc _ _ (by omega)] at q0 q1 q2
      rw [← hf _ _ (by omega)] at f0 f1 f2
      have hx7 : Below w.heap.size w w7 := chain hx (hx6.trans (hb7.mono hs6))
      have OT : Hid (OutTab w7 w6.heap.size (some ⟨g7, 0, none⟩) c7 (some ⟨g8, 0, none⟩) (putT (nm, C, L) r) A7 D7) := ot7
      clear ot7 hb7 hc hf
      go_wp2_with fail
      refine bodyPost_ret (v := .tuple #[.agg #[.string nm, .slice (some ⟨g7, 0, none⟩) nc c7, .slice (some ⟨g8, 0, none⟩) (nr + 1) c8], .bool true]) (by simp [results, Try.results12, go_sem, q0, q1, q2]; rfl) rfl ⟨_, c7, _, c8, _, _, by rw [hnc5.out, hnr5.out]; rfl, (OT.out.set3 (w.heap.size + 1) (by omega) _ _ _ _ _ _).base (by omega), ?_, by rw [hnr5.out]; exact hcap8⟩
      repeat (first | exact hx7 | refine Below.setCell ?_ (by first | (simp; done) | (simp; omega)) _)

end Go.Proofs.Ytbjpjhhdnbclbab
