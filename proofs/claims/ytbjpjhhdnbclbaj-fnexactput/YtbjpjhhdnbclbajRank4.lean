/-
  The contract of the model's helper that takes rows over: new memory, a block for each row.
-/
import Derived.Test.YtbjpjhhdnbclbajRank3
import Derived.Test.YtbjpjhhdnbclbajLists4
namespace Go.Proofs.Ytbjpjhhdnbclbaj
open Go.ChangeShapes Go.WideShapes Go.ChangeAt Go.RowKit
attribute [local go_sem ↓] Go.wp_at_zero Go.wp_at_succ

/-- The head of the i-th row. -/
def headOf (G C : Nat → Nat) (L : List (List CT)) (i : Nat) : Value := .slice (some ⟨G i, 0, none⟩) (L.getD i []).length (C i)
/-- Rows that lie in memory of their own: the heads in one block, each row in another. -/
structure OwnRows (w : World) (base : Nat) (v : Value) (L : List (List CT)) (G C : Nat → Nat) : Prop where
  outer : w.ownsRow base 49 1 v L.length ((List.range L.length).map (headOf G C L))
  inner : ∀ i, i < L.length → w.ownsRow base 72 3 (headOf G C L i) (L.getD i []).length (flat (L.getD i []))
  apart : ∀ i j, i < L.length → j < L.length → i ≠ j → G i ≠ G j

theorem OwnRows.below {w w' : World} {base : Nat} {v : Value} {L : List (List CT)} {G C : Nat → Nat} (h : OwnRows w base v L G C) (hb : Below w.heap.size w w') : OwnRows w' base v L G C :=
  ⟨own_below h.outer hb, fun i hi => own_below (h.inner i hi) hb, h.apart⟩

/-- The block of a row is none of the heads'. -/
theorem own_other {w : World} {base b2 n m sz sz2 : Nat} {e e2 : TypeId} {v : Value} {g c : Nat} {xs ys : List Value} (h : w.ownsRow base e sz v n xs) (k : w.ownsRow b2 e2 sz2 (.slice (some ⟨g, 0, none⟩) m c) m ys) (he : e ≠ e2) : v.ownBlock ≠ some g := by
  rcases h.2 with ⟨rfl, _⟩ | ⟨g1, c1, cur, rfl, _, hg, _⟩
  · simp [Value.ownBlock]
  · rcases k.2 with ⟨h', _⟩ | ⟨g2, c2, cur2, h', _, hg2, _⟩
    · simp at h'
    · simp only [Value.slice.injEq, Option.some.injEq, Addr.mk.injEq, and_true, true_and] at h'
      obtain ⟨rfl, rfl⟩ := h'
      intro hh
      simp only [Value.ownBlock, Option.some.injEq] at hh
      subst hh
      rw [hg] at hg2
      simp at hg2
      exact he hg2.2

theorem own_base {w : World} {b1 b2 n sz : Nat} {e : TypeId} {v : Value} {xs : List Value} (h : w.ownsRow b1 e sz v n xs) (hle : b2 ≤ b1) : w.ownsRow b2 e sz v n xs := by
  refine ⟨h.1, ?_⟩
  rcases h.2 with h' | ⟨g, cap, cur, h', hbg, hr⟩
  · exact .inl h'
  · exact .inr ⟨g, cap, cur, h', Nat.le_trans hle hbg, hr⟩

/-- One row more: its head is appended. -/
theorem OwnRows.step {w w1 w2 : World} {base : Nat} {v v' : Value} {L : List (List CT)} {G C : Nat → Nat} {x : List CT} {g c : Nat} {o : Obj} (h : OwnRows w base v L G C) (hb : Below w.heap.size w w1) (hg : w.heap.size ≤ g)
    (own : w1.ownsRow base 72 3 (.slice (some ⟨g, 0, none⟩) x.length c) x.length (flat x))
    (own2 : w2.ownsRow base 49 1 v' (L.length + 1) ((List.range L.length).map (headOf G C L) ++ [.slice (some ⟨g, 0, none⟩) x.length c])) (hgr : (w1.alloc o).grownBy w2 v.ownBlock) :
    ∃ G' C', OwnRows w2 base v' (L ++ [x]) G' C' := by
  have h1 := h.below hb
  have hlt : ∀ i, i < L.length → G i < w.heap.size := by
    intro i hi
    rcases (h.inner i hi).2 with ⟨h', _⟩ | ⟨g2, c2, cur2, h', _, hg2, _⟩
    · simp [headOf] at h'
    · simp only [headOf, Value.slice.injEq, Option.some.injEq, Addr.mk.injEq, and_true, true_and] at h'
      obtain ⟨rfl, rfl⟩ := h'
      by_cases hl : G i < w.heap.size
      · exact hl
      · rw [Array.getElem?_eq_none (by omega)] at hg2; cases hg2
  have he : (49 : TypeId) ≠ 72 := by decide
  have hd : ∀ i, i < L.length → (L ++ [x]).getD i [] = L.getD i [] := by
    intro i hi
    simp [List.getD, List.getElem?_append_left hi]
  have hdl : (L ++ [x]).getD L.length [] = x := by simp [List.getD]
  refine ⟨fun i => if i = L.length then g else G i, fun i => if i = L.length then c else C i, ?_, ?_, ?_⟩
  · have e1 : (L ++ [x]).length = L.length + 1 := by simp
    rw [e1, List.range_succ, List.map_append]
    have e2 : (List.range L.length).map (headOf (fun i => if i = L.length then g else G i) (fun i => if i = L.length then c else C i) (L ++ [x])) = (List.range L.length).map (headOf G C L) := by
      refine List.map_congr_left fun i hi => ?_
      have hi' : i < L.length := by simpa using hi
      have hne : i ≠ L.length := by omega
      simp only [headOf, if_neg hne, hd i hi']
    have e3 : [L.length].map (headOf (fun i => if i = L.length then g else G i) (fun i => if i = L.length then c else C i) (L ++ [x])) = [.slice (some ⟨g, 0, none⟩) x.length c] := by
      simp only [List.map_cons, List.map_nil, headOf, if_true, hdl]
    rw [e2, e3]; exact own2
  · intro i hi
    by_cases hil : i = L.length
    · subst hil
      rw [hdl]
      have := own.alloc o
      have k := this.kept hgr (.inr (by simp only [Value.ownBlock]; exact (own_other (h1.outer.alloc o) this he).symm))
      simpa only [headOf, if_true, hdl] using k
    · have hi' : i < L.length := by simp at hi; omega
      rw [hd i hi']
      have := (h1.inner i hi').alloc o
      have k := this.kept hgr (.inr (by simp only [headOf, Value.ownBlock]; exact (own_other (h1.outer.alloc o) this he).symm))
      simpa only [headOf, if_neg hil, hd i hi'] using k
  · intro i j hi hj hij
    have hi2 : i < L.length + 1 := by simpa using hi
    have hj2 : j < L.length + 1 := by simpa using hj
    by_cases e1 : i = L.length
    · have e2 : j ≠ L.length := by omega
      have := hlt j (by omega)
      simp only [if_pos e1, if_neg e2]; omega
    · by_cases e2 : j = L.length
      · have := hlt i (by omega)
        simp only [if_neg e1, if_pos e2]; omega
      · simp only [if_neg e1, if_neg e2]; exact h.apart i j (by omega) (by omega) hij

theorem infoRow : (Try.prog.info? 49).map (fun i => (i.zero, i.size, i.bytes)) = some (some (.slice none 0 0), 1, 24) := by kernel_rfl

set_option maxRecDepth 100000 in
set_option maxHeartbeats 2000000 in
theorem rows_spec (a : Option Addr) (cap : Nat) (L : List (List CT)) (w : World) (hrow : RowsAt w a L) (hm : L.length ≤ 1048576) (hms : ∀ i (h : i < L.length), L[i].length ≤ 1048576) :
    Calls Try.prog 70 #[.slice a L.length cap] w fun e w' => ∃ v G C, e = .returned v ∧ OwnRows w' w.heap.size v L G C ∧ Below w.heap.size w w' ∧ v ≠ .slice none 0 0 := by
  obtain ⟨i0, hi, hz0, hz1, hz2⟩ := info_parts infoRow
  have hR : Hid (RowsAt w a L) := hrow
  have hMS : Hid (∀ i (h : i < L.length), L[i].length ≤ 1048576) := hms
  clear hrow hms
  have own0 : Hid (∃ G C, OwnRows (w.alloc (.cells #[] 49)) w.heap.size (.slice (some ⟨w.heap.size, 0, none⟩) 0 0) (L.take 0) G C) := by
    refine ⟨fun _ => 0, fun _ => 0, ⟨rfl, .inr ⟨w.heap.size, 0, #[], rfl, Nat.le_refl _, by show (w.heap.push _)[w.heap.size]? = _; simp, Nat.le_refl _, by unfold maxLen; omega, rfl, rfl⟩⟩, ?_, ?_⟩
    · intro i hi; simp at hi
    · intro i j hi; simp at hi
  have hb0 : Below w.heap.size w (w.alloc (.cells #[] 49)) := (Below.refl _ _).alloc (Nat.le_refl _) _
  go_enter Try.func70, Try.ntmps70
  go_wp2
  go_loopw [3, 4] (fun v i wr => ∃ m : Nat, m ≤ L.length ∧ i = .int .i64 m ∧ Hid (∃ G C, OwnRows wr w.heap.size v (L.take m) G C) ∧ Below w.heap.size w wr ∧ v ≠ .slice none 0 0)
    (fun _ i _ => L.length - (intOf i).toNat)
  case atStart => exact ⟨0, Nat.zero_le _, rfl, own0, hb0, by simp⟩
  case round =>
    obtain ⟨m, hmL, rfl, hO, hb, hvn⟩ := hrel
    by_cases hlt : m < L.length
    · obtain ⟨b, o, ai, ci, ha, hbw, c0, hra, _, _, hnil⟩ := hR.out.below hb m hlt
      have hi0 : (0 : Int) ≤ (m : Int) := by omega
      have hi1 : (m : Int) < (L.length : Int) := by omega
      have hRA : Hid (RowAt wr ai L[m]) := hra
      have hml := hMS.out m hlt
      have htk := List.take_succ_eq_append_getElem hlt
      clear hra
      generalize L[m] = x at c0 hRA hml htk
      subst ha
      obtain ⟨G, C, O⟩ := hO.out
      have hlen : (L.take m).length = m := by rw [List.length_take]; omega
      have hOO : Hid (OwnRows wr w.heap.size _ (L.take m) G C) := O
      clear O hO
      go_wp2_with fail
      refine (row_spec _ _ _ _ hRA.out hnil hml).mono ?_
      rintro e w1 ⟨g, c, rfl, hg, own, hb1⟩
      have O1 := hOO.out.below hb1
      have hx := chain hb hb1
      go_wp2_with (at_builtin; refine wpList_append_own _ rfl _ _ 24 rfl w.heap.size 49 i0 (.slice none 0 0) 1 24 Try.underlying24 hi hz0 hz1 hz2 rfl (by decide) _ _ _ rfl (O1.outer.alloc _) ⟨w1.heap.size, 0, none⟩ 1 1 [.slice (some ⟨g, 0, none⟩) x.length c] rfl rfl ?c1 ?c2 ?c3 ?c4 ?c5 ?_)
      case c1 =>
        intro j u hj
        match j, hj with
        | 0, hj => simp at hj; subst hj; simp [Addr.add]
      case c2 => intro u hu; simp at hu; subst hu; rfl
      case c3 => rw [hlen]; unfold maxLen; omega
      case c4 => rw [hlen]; omega
      case c5 => have := hx.size; simp; omega
      intro v' w2 own2 hgrow hnn
      have S := hOO.out.step hb1 hg (own_base own hb.size) (by rw [hlen]; exact own2) hgrow
      rw [← htk] at S
      have hx2 : Below w.heap.size w w2 := by
        refine (hx.alloc hx.size _).grown hgrow (by have := hx.size; simp; omega) ?_
        intro k hk
        rcases O1.outer.2 with ⟨h, _⟩ | ⟨g', c', cur, h, hbg, _⟩
        · rw [h] at hk; simp [Value.ownBlock] at hk
        · rw [h] at hk; simp [Value.ownBlock] at hk; omega
      have hvn2 : v' ≠ .slice none 0 0 := by first | exact hnn | exact fun e => hvn (hnn.1 e).1
      have SS : Hid (∃ G C, OwnRows w2 w.heap.size v' (L.take (m + 1)) G C) := S
      clear S own2 hgrow hnn own O1 hOO
      go_wp2
      go_roundw
      case rel => exact ⟨m + 1, by omega, by go_num, SS, hx2, hvn2⟩
      case measure => simp [intOf]; omega
    · have hkl : m = L.length := by omega
      subst hkl
      rw [List.take_length] at hO
      go_wp2
      go_ret
      obtain ⟨G, C, O⟩ := hO.out
      exact ⟨_, G, C, rfl, O, hb, hvn⟩

end Go.Proofs.Ytbjpjhhdnbclbaj
