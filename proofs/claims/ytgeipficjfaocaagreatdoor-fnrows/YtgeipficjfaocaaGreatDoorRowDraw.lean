/-
  Rows that are drawn: the contracts of the model's draws of a row, and of two rows that are held against each other.
-/
import Derived.Test.YtgeipficjfaocaaGreatDoorDraw5
import Derived.Test.YtgeipficjfaocaaGreatDoorRank3
namespace Go.Proofs.YtgeipficjfaocaaGreatDoor
open Go.ChangeShapes Go.WideShapes Go.ChangeAt Go.RowKit
attribute [local go_sem ↓] Go.wp_at_zero Go.wp_at_succ
attribute [local simp] World.cell?_alloc_past World.cell?_alloc_at World.frozen?_alloc_at cell_far cell_off cell_here World.frozen?_alloc_past

theorem Cur.far {w w' : World} {c B : Nat} {a : Option Addr} {len cap : Nat} (h : Cur w c a len cap) (hb : Below B w w') (hB : c < B) : Cur w' c a len cap := by
  refine ⟨?_, ?_, ?_, ?_, ?_, ?_, Nat.lt_of_lt_of_le h.lt hb.size, h.hlen, ?_⟩
  · rw [hb.cell (p := ⟨c, 0, none⟩) hB]; exact h.c0
  · rw [hb.cell (p := ⟨c, 1, none⟩) hB]; exact h.c1
  · rw [hb.cell (p := ⟨c, 2, none⟩) hB]; exact h.c2
  · rw [hb.frozen (p := ⟨c, 0, none⟩) hB]; exact h.f0
  · rw [hb.frozen (p := ⟨c, 1, none⟩) hB]; exact h.f1
  · rw [hb.frozen (p := ⟨c, 2, none⟩) hB]; exact h.f2
  · intro j hj
    obtain ⟨rb, ro, v, ha, hrb, hc, hv⟩ := h.row j hj
    exact ⟨rb, ro, v, ha, hrb, by rw [hb.cell (p := ⟨rb, _, none⟩) (by show rb < B; omega)]; exact hc, hv⟩
theorem Keep.far {c B : Nat} {w w1 w2 : World} (h : Keep c w w1) (hb : Below B w1 w2) (hB : w.heap.size ≤ B) : Keep c w w2 :=
  ⟨hb.os.trans h.os, hb.tape.trans h.tape, hb.output.trans h.output, Nat.le_trans h.size hb.size, fun k hk hc => (hb.block k (by omega)).trans (h.block k hk hc)⟩
theorem own_keep {w w' : World} {c base : Nat} {e : TypeId} {size n : Nat} {v : Value} {xs : List Value} (h : w.ownsRow base e size v n xs) (hk : Keep c w w') (hc : c < base) : w'.ownsRow base e size v n xs := by
  refine ⟨h.1, ?_⟩
  rcases h.2 with h' | ⟨g, cap, cur, h', hbg, hg, hr⟩
  · exact .inl h'
  · refine .inr ⟨g, cap, cur, h', hbg, ?_, hr⟩
    have hlt : g < w.heap.size := by
      by_cases hl : g < w.heap.size
      · exact hl
      · rw [Array.getElem?_eq_none (by omega)] at hg; cases hg
    rw [hk.block g hlt (by omega)]; exact hg
theorem Fit.append {l : List CT} {x : CT} (h : Fit l) (hx : x.2.2.size ≤ maxLen) : Fit (l ++ [x]) := by
  intro j hj
  by_cases e : j < l.length
  · rw [List.getElem_append_left e]; exact h j e
  · rw [List.getElem_append_right (by omega)]; simpa using hx

theorem infoCellD : (Tryz.prog.info? 31).map (fun i => (i.zero, i.size, i.bytes)) = some (some (.agg #[.int .i64 0, .int .i64 0, .string ⟨#[]⟩]), 3, 32) := by kernel_rfl

set_option maxRecDepth 100000 in
set_option maxHeartbeats 2000000 in
theorem row_draw {w : World} {c : Nat} {a : Option Addr} {len cap : Nat} (h : Cur w c a len cap) (n : Nat) (hn : n ≤ 1000) :
    Calls Tryz.prog 20 #[.pointer (some ⟨c, 0, none⟩), .int .i64 n] w fun e w' => ∃ v l, e = .returned v ∧ l.length = n ∧ Fit l ∧ v ≠ .slice none 0 0 ∧ w'.ownsRow w.heap.size 31 3 v l.length (flat l) ∧ Cur w' c a len cap ∧ Keep c w w' := by
  obtain ⟨i0, hi, hz0, hz1, hz2⟩ := info_parts infoCellD
  have hcw := h.lt
  have own0 : Hid ((w.alloc (.cells #[] 31)).ownsRow w.heap.size 31 3 (.slice (some ⟨w.heap.size, 0, none⟩) 0 0) 0 [] ∧ Cur (w.alloc (.cells #[] 31)) c a len cap) :=
    ⟨⟨rfl, .inr ⟨w.heap.size, 0, #[], rfl, Nat.le_refl _, by show (w.heap.push _)[w.heap.size]? = _; simp, Nat.le_refl _, by unfold maxLen; omega, rfl, rfl⟩⟩, h.alloc _⟩
  clear h
  go_enter Tryz.func20, Tryz.ntmps20
  go_wp2
  go_loopw [1, 5] (fun x v wr => ∃ m : Nat, x = .int .i64 m ∧ m ≤ n ∧ v ≠ .slice none 0 0 ∧ Hid (∃ l : List CT, l.length + m = n ∧ Fit l ∧ wr.ownsRow w.heap.size 31 3 v l.length (flat l) ∧ Cur wr c a len cap) ∧ Keep c w wr) (fun x _ _ => (intOf x).toNat)
  case atStart => exact ⟨n, rfl, Nat.le_refl _, by simp, ⟨[], by simp, fun j hj => by simp at hj, own0.out.1, own0.out.2⟩, (Keep.refl c w).alloc _⟩
  case round =>
    obtain ⟨m, rfl, hmn, hvn, hP, hk⟩ := hrel
    obtain ⟨l, hl, hfit, own, hcur⟩ := hP.out
    have hF : Hid (Fit l) := hfit
    have OW : Hid (wr.ownsRow w.heap.size 31 3 _ l.length (flat l)) := own
    have CU : Hid (Cur wr c a len cap) := hcur
    have hsz := hk.size
    clear own hcur hP hfit
    by_cases hm0 : m = 0
    · subst hm0
      go_wp2
      go_ret
      exact ⟨_, l, rfl, by omega, hF.out, hvn, OW.out, CU.out, hk⟩
    · obtain ⟨j, rfl⟩ : ∃ j, m = j + 1 := ⟨m - 1, by omega⟩
      have q3 : (0 : Int) < ((j + 1 : Nat) : Int) := by omega
      have q4 : ((j + 1 : Nat) : Int) - 1 = (j : Int) := by omega
      go_wp2_with fail
      refine (cell_draw CU.out).mono ?_
      rintro e w1 ⟨k1, n1, t1, rfl, ht1, hc1, hk1⟩
      have own1 := own_keep OW.out hk1 hcw
      have hk1' := hk.trans hk1
      have hsz1 := hk1'.size
      have C1 : Hid (Cur w1 c a len cap) := hc1
      go_wp2_with (at_builtin; refine wpList_append_own _ rfl _ _ 24 rfl w.heap.size 31 i0 (.agg #[.int .i64 0, .int .i64 0, .string ⟨#[]⟩]) 3 32 Tryz.underlying24 hi hz0 hz1 hz2 rfl (by decide) _ _ _ rfl (own1.alloc _) ⟨w1.heap.size, 0, none⟩ 1 1 [.int .i64 k1, .int .i64 n1, .string t1] rfl rfl ?c1 ?c2 ?c3 ?c4 ?c5 ?_)
      case c1 =>
        intro j u hj
        match j, hj with
        | 0, hj => simp at hj; subst hj; simp [Addr.add]
        | 1, hj => simp at hj; subst hj; simp [Addr.add]
        | 2, hj => simp at hj; subst hj; simp [Addr.add]
      case c2 => intro u hu; simp at hu; rcases hu with rfl | rfl | rfl <;> rfl
      case c3 => unfold maxLen; omega
      case c4 => omega
      case c5 => simp; omega
      intro v' w2 own2 hgrow hnn
      have hb2 : Below w.heap.size w1 w2 := by
        refine (((Below.refl w.heap.size w1).alloc hsz1 _).grown hgrow (by simp; omega) ?_)
        intro k hkk
        exact (own1.lt k hkk).1
      have hv2 : v' ≠ .slice none 0 0 := by first | exact hnn | exact fun e => hvn (hnn.1 e).1
      have fin : Hid (∃ l : List CT, l.length + j = n ∧ Fit l ∧ w2.ownsRow w.heap.size 31 3 v' l.length (flat l) ∧ Cur w2 c a len cap) := by
        refine ⟨l ++ [(k1, n1, t1)], by simp; omega, hF.out.append ht1, ?_, C1.out.far hb2 hcw⟩
        rw [flat_append, List.length_append]
        exact own2
      have hk2 : Keep c w w2 := hk1'.far hb2 (Nat.le_refl _)
      clear own2 hgrow hnn own1 C1 OW CU hc1 hk1
      go_wp2
      go_roundw
      case rel => exact ⟨j, rfl, by omega, hv2, fin, hk2⟩
      case measure => simp [intOf]

end Go.Proofs.YtgeipficjfaocaaGreatDoor
