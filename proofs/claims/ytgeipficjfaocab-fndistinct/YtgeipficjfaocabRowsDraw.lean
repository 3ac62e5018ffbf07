/-
  The contract of the model's draw of several rows.
-/
import Derived.Test.YtgeipficjfaocabRowDraw2
import Derived.Test.YtgeipficjfaocabSortedS
namespace Go.Proofs.Ytgeipficjfaocab
open Go.ChangeShapes Go.WideShapes Go.ChangeAt Go.RowKit
attribute [local go_sem ↓] Go.wp_at_zero Go.wp_at_succ
attribute [local simp] World.cell?_alloc_past World.cell?_alloc_at World.frozen?_alloc_at cell_far cell_off cell_here World.frozen?_alloc_past

theorem OwnRows.keep {w w' : World} {c base : Nat} {v : Value} {L : List (List CT)} {G C : Nat → Nat} (h : OwnRows w base v L G C) (hk : Keep c w w') (hc : c < base) : OwnRows w' base v L G C :=
  ⟨own_keep h.outer hk hc, fun i hi => own_keep (h.inner i hi) hk hc, h.apart⟩
theorem OwnRows.lt {w : World} {base : Nat} {v : Value} {L : List (List CT)} {G C : Nat → Nat} (h : OwnRows w base v L G C) (i : Nat) (hi : i < L.length) : G i < w.heap.size := by
  rcases (h.inner i hi).2 with ⟨h', _⟩ | ⟨g2, c2, cur2, h', _, hg2, _⟩
  · simp [headOf] at h'
  · simp only [headOf, Value.slice.injEq, Option.some.injEq, Addr.mk.injEq, and_true, true_and] at h'
    obtain ⟨rfl, rfl⟩ := h'
    by_cases hl : G i < w.heap.size
    · exact hl
    · rw [Array.getElem?_eq_none (by omega)] at hg2; cases hg2

/-- One row more, in a block that none of them has: its head is appended. -/
theorem OwnRows.stepG {w1 w2 : World} {base : Nat} {v v' : Value} {L : List (List CT)} {G C : Nat → Nat} {x : List CT} {g c : Nat} {o : Obj} (h1 : OwnRows w1 base v L G C) (hg : ∀ i, i < L.length → G i ≠ g)
    (own : w1.ownsRow base 37 3 (.slice (some ⟨g, 0, none⟩) x.length c) x.length (flat x))
    (own2 : w2.ownsRow base 29 1 v' (L.length + 1) ((List.range L.length).map (headOf G C L) ++ [.slice (some ⟨g, 0, none⟩) x.length c])) (hgr : (w1.alloc o).grownBy w2 v.ownBlock) :
    ∃ G' C', OwnRows w2 base v' (L ++ [x]) G' C' := by
  have he : (29 : TypeId) ≠ 37 := by decide
  have hd : ∀ i, i < L.length → (L ++ [x]).getD i [] = L.getD i [] := by
    intro i hi
    simp [List.getD, List.getElem?_append_left hi]
  have hdl : (L ++ [x]).getD L.length [] = x := by simp [List.getD]
  refine ⟨fun i => if i = L.length then g else G i, fun i => if i = L.length then c else C i, ?_, ?_, ?_⟩
  · have e1 : (L ++ [x]).length = L.length + 1 := by simp
    rw [e1, List.range_succ, List.map_append]
    have e2 : (List.range L.length).map (headOf (fun i => if i = L.length then g else G i) (fun i => if i = L.length then c else C i) (L ++ [x])) = (List.range L.length).map (headOf G C L) := by
      refine List.map_congr_left fun i hi => ?_
      have hi' : i < L.length := by simpa using hi
      have hne : i ≠ L.length := by omega
      simp only [headOf, if_neg hne, hd i hi']
    have e3 : [L.length].map (headOf (fun i => if i = L.length then g else G i) (fun i => if i = L.length then c else C i) (L ++ [x])) = [.slice (some ⟨g, 0, none⟩) x.length c] := by
      simp only [List.map_cons, List.map_nil, headOf, if_true, hdl]
    rw [e2, e3]; exact own2
  · intro i hi
    by_cases hil : i = L.length
    · subst hil
      rw [hdl]
      have := own.alloc o
      have k := this.kept hgr (.inr (by simp only [Value.ownBlock]; exact (own_other (h1.outer.alloc o) this he).symm))
      simpa only [headOf, if_true, hdl] using k
    · have hi' : i < L.length := by simp at hi; omega
      rw [hd i hi']
      have := (h1.inner i hi').alloc o
      have k := this.kept hgr (.inr (by simp only [headOf, Value.ownBlock]; exact (own_other (h1.outer.alloc o) this he).symm))
      simpa only [headOf, if_neg hil, hd i hi'] using k
  · intro i j hi hj hij
    have hi2 : i < L.length + 1 := by simpa using hi
    have hj2 : j < L.length + 1 := by simpa using hj
    by_cases e1 : i = L.length
    · have e2 : j ≠ L.length := by omega
      have := hg j (by omega)
      simp only [if_pos e1, if_neg e2]; omega
    · by_cases e2 : j = L.length
      · have := hg i (by omega)
        simp only [if_neg e1, if_pos e2]; omega
      · simp only [if_neg e1, if_neg e2]; exact h1.apart i j (by omega) (by omega) hij

theorem cells1w (w : World) (T : TypeId) (x : Value) : ∀ j u, [x][j]? = some u → (w.alloc (.cells #[x] T)).cell? ((⟨w.heap.size, 0, none⟩ : Addr).add j) = some u := by
  intro j u hj
  match j, hj with
  | 0, hj => simp at hj; subst hj; simp [Addr.add]
theorem row_drawI {w : World} {c : Nat} {a : Option Addr} {len cap : Nat} (h : Cur w c a len cap) (n : Nat) (hn : n ≤ 1000) (y : Int) (hy : y = (n : Int)) :
    Calls Try.prog 18 #[.pointer (some ⟨c, 0, none⟩), .int .i64 y] w fun e w' => ∃ v l, e = .returned v ∧ l.length = n ∧ Fit l ∧ v ≠ .slice none 0 0 ∧ w'.ownsRow w.heap.size 37 3 v l.length (flat l) ∧ Cur w' c a len cap ∧ Keep c w w' := by
  subst hy; exact row_draw h n hn
/-- Rows that were drawn: few, short, and their texts fit. -/
def Drawn (L : List (List CT)) (n : Nat) : Prop := L.length ≤ n ∧ ∀ i (h : i < L.length), Fit L[i] ∧ L[i].length ≤ 1000
theorem Drawn.append {L : List (List CT)} {n : Nat} {x : List CT} (h : Drawn L n) (hf : Fit x) (hx : x.length ≤ 1000) : Drawn (L ++ [x]) (n + 1) := by
  refine ⟨by have := h.1; simp; omega, fun i hi => ?_⟩
  by_cases e : i < L.length
  · rw [List.getElem_append_left e]; exact h.2 i e
  · rw [List.getElem_append_right (by omega)]; simpa using ⟨hf, hx⟩
theorem infoRowD : (Try.prog.info? 29).map (fun i => (i.zero, i.size, i.bytes)) = some (some (.slice none 0 0), 1, 24) := by kernel_rfl

/-- The state of the draw: the rows so far, the cursor. -/
def RowsSoFar (wr : World) (base c : Nat) (a : Option Addr) (len cap : Nat) (v : Value) (n : Nat) : Prop := ∃ L G C, OwnRows wr base v L G C ∧ Drawn L n ∧ Cur wr c a len cap

set_option maxRecDepth 100000 in
set_option maxHeartbeats 4000000 in
theorem rows_draw {w : World} {c : Nat} {a : Option Addr} {len cap : Nat} (h : Cur w c a len cap) :
    Calls Try.prog 11 #[.pointer (some ⟨c, 0, none⟩)] w fun e w' => ∃ v L G C, e = .returned v ∧ v ≠ .slice none 0 0 ∧ OwnRows w' w.heap.size v L G C ∧ Drawn L 7 ∧ Cur w' c a len cap ∧ Keep c w w' := by
  obtain ⟨i0, hi, hz0, hz1, hz2⟩ := info_parts infoRowD
  have hcw := h.lt
  have own0 : Hid (RowsSoFar (w.alloc (.cells #[] 29)) w.heap.size c a len cap (.slice (some ⟨w.heap.size, 0, none⟩) 0 0) 0) := by
    refine ⟨[], fun _ => 0, fun _ => 0, ⟨⟨rfl, .inr ⟨w.heap.size, 0, #[], rfl, Nat.le_refl _, by show (w.heap.push _)[w.heap.size]? = _; simp, Nat.le_refl _, by unfold maxLen; omega, rfl, rfl⟩⟩, fun i hi => by simp at hi, fun i j hi => by simp at hi⟩, ⟨by simp, fun i hi => by simp at hi⟩, h.alloc _⟩
  have C0 : Hid (Cur (w.alloc (.cells #[] 29)) c a len cap) := h.alloc _
  clear h
  go_enter Try.func11, Try.ntmps11
  go_wp2_with fail
  refine (below_draw C0.out 3 (by omega) (by omega)).mono ?_
  rintro e w1 ⟨x, rfl, hx0, hx1, hc1, hk1⟩
  obtain ⟨x, rfl⟩ : ∃ n : Nat, x = n := ⟨x.toNat, by omega⟩
  have C1 : Hid (Cur w1 c a len cap) := hc1
  clear hc1
  have qx : (x : Int) ≤ 3 := by omega
  go_wp2_with fail
  refine (below_draw C1.out 7 (by omega) (by omega)).mono ?_
  rintro e w2 ⟨y, rfl, hy0, hy1, hc2, hk2⟩
  obtain ⟨y, rfl⟩ : ∃ n : Nat, y = n := ⟨y.toNat, by omega⟩
  have hk02 : Keep c w w2 := (((Keep.refl c w).alloc _).trans hk1).trans hk2
  have own2 : Hid (RowsSoFar w2 w.heap.size c a len cap (.slice (some ⟨w.heap.size, 0, none⟩) 0 0) 0) := by
    obtain ⟨L, G, C, O, D, _⟩ := own0.out
    exact ⟨L, G, C, O.keep (hk1.trans hk2) hcw, D, hc2⟩
  have hy6 : y ≤ 6 := by omega
  clear hk1 hk2 hc2 own0 C0 C1
  go_wp2_with fail
  go_loopw [3, 5] (fun v x wr => ∃ m n : Nat, x = .int .i64 m ∧ n + m ≤ 6 ∧ v ≠ .slice none 0 0 ∧ Hid (RowsSoFar wr w.heap.size c a len cap v n) ∧ Keep c w wr) (fun _ x _ => (intOf x).toNat)
  case atStart => exact ⟨y, 0, rfl, by omega, by simp, own2, hk02⟩
  case round =>
    obtain ⟨m, n, rfl, hmn, hvn, hP, hkA⟩ := hrel
    clear own2 hk02
    obtain ⟨L, G, C, O, D, CU⟩ := hP.out
    obtain ⟨av, cv, hv⟩ := (show ∃ a c, _ = Value.slice a L.length c from by
      rcases O.outer.2 with ⟨h1, h2⟩ | ⟨g, k, cur, h1, _⟩
      · exact absurd h1 hvn
      · exact ⟨_, k, h1⟩)
    subst hv
    have OOA : Hid (OwnRows wr w.heap.size (.slice av L.length cv) L G C) := O
    have CCA : Hid (Cur wr c a len cap) := CU
    have hszA := hkA.size
    clear hP O CU
    by_cases hm0 : m = 0
    · subst hm0
      go_wp2_with fail
      refine (once_draw CCA.out 10 (by omega) (by omega)).mono ?_
      rintro e w4 ⟨bb, rfl, hc4, hk4⟩
      have OOB : Hid (OwnRows w4 w.heap.size (.slice av L.length cv) L G C) := OOA.out.keep hk4 hcw
      have CCB : Hid (Cur w4 c a len cap) := hc4
      have hkB := hkA.trans hk4
      clear hc4 hk4 OOA CCA hkA
      cases bb
      · go_wp2
        go_ret
        exact ⟨_, L, G, C, rfl, hvn, OOB.out, ⟨by have := D.1; omega, D.2⟩, CCB.out, hkB⟩
      · go_wp2_with fail
        refine (below_draw CCB.out 4 (by omega) (by omega)).mono ?_
        rintro e w6 ⟨x2, rfl, hx20, hx21, hc6, hk6⟩
        obtain ⟨x2, rfl⟩ : ∃ n : Nat, x2 = n := ⟨x2.toNat, by omega⟩
        have OOC : Hid (OwnRows w6 w.heap.size (.slice av L.length cv) L G C) := OOB.out.keep hk6 hcw
        have CCC : Hid (Cur w6 c a len cap) := hc6
        have hkC := hkB.trans hk6
        clear hc6 hk6 OOB CCB hkB
        go_wp2_with fail
        refine (row_drawI CCC.out x2 (by omega) _ (by omega)).mono ?_
        rintro e w5 ⟨vz, z, rfl, hzn, hzf, hvz, own0, hc5, hk5⟩
        obtain ⟨g, k, rfl, hgg, _⟩ := own_form own0 hvz
        have hzl : z.length ≤ 1000 := by omega
        clear hzn
        have OK := OOC.out.keep hk5 hcw
        have hgz : ∀ i, i < L.length → G i ≠ g := fun i hi => by have := OOC.out.lt i hi; omega
        have hsw := hkC.size
        have own := own_base own0 hsw
        have hkK := hkC.trans hk5
        have hsK := hkK.size
        have CK : Hid (Cur w5 c a len cap) := hc5
        clear own0 hc5 hk5 hvz
        have hrl := D.1
        go_wp2_with (at_builtin; refine wpList_append_own _ rfl _ _ 24 rfl w.heap.size 29 i0 (.slice none 0 0) 1 24 Try.underlying24 hi hz0 hz1 hz2 rfl (by decide) _ _ _ rfl (OK.outer.alloc _) ⟨w5.heap.size, 0, none⟩ 1 1 [.slice (some ⟨g, 0, none⟩) z.length k] rfl rfl (cells1w w5 _ _) (by intro u hu; simp at hu; subst hu; rfl) (by unfold maxLen; omega) (by omega) (by simp; omega) ?_)
        intro v' w9 own9 hgrow hnn
        obtain ⟨G', C', O9⟩ := OK.stepG hgz own own9 hgrow
        have hb9 : Below w.heap.size w5 w9 := by
          refine (((Below.refl w.heap.size w5).alloc (by omega) _).grown hgrow (by simp; omega) ?_)
          intro kk hkk
          exact (OK.outer.lt kk hkk).1
        have hv9 : v' ≠ .slice none 0 0 := by first | exact hnn | exact fun e => hvn (hnn.1 e).1
        have fin : Hid (RowsSoFar w9 w.heap.size c a len cap v' (n + 1)) := ⟨_, G', C', O9, D.append hzf hzl, CK.out.far hb9 hcw⟩
        have hk9 : Keep c w w9 := hkK.far hb9 (Nat.le_refl _)
        clear own9 hgrow hnn O9 own hb9 OK CK
        go_wp2
        go_ret
        obtain ⟨L', G2, C2, O2, D2, CU2⟩ := fin.out
        exact ⟨_, L', G2, C2, rfl, hv9, O2, ⟨by have := D2.1; omega, D2.2⟩, CU2, hk9⟩
    · obtain ⟨j, rfl⟩ : ∃ j, m = j + 1 := ⟨m - 1, by omega⟩
      have q3 : (0 : Int) < ((j + 1 : Nat) : Int) := by omega
      have q4 : ((j + 1 : Nat) : Int) - 1 = (j : Int) := by omega
      by_cases hL0 : L.length = 0
      · have q5 : ¬ (0 : Int) < (L.length : Int) := by omega
        have hL0' : Hid (L.length = 0) := hL0
        clear hL0
        go_wp2_with fail
        refine (row_drawI CCA.out (x + 1) (by omega) _ (by omega)).mono ?_
        rintro e w5 ⟨vz, z, rfl, hzn, hzf, hvz, own0, hc5, hk5⟩
        obtain ⟨g, k, rfl, hgg, _⟩ := own_form own0 hvz
        have hzl : z.length ≤ 1000 := by omega
        clear hzn
        have OK := OOA.out.keep hk5 hcw
        have hgz : ∀ i, i < L.length → G i ≠ g := fun i hi => by have := OOA.out.lt i hi; omega
        have hsw := hkA.size
        have own := own_base own0 hsw
        have hkK := hkA.trans hk5
        have hsK := hkK.size
        have CK : Hid (Cur w5 c a len cap) := hc5
        clear own0 hc5 hk5 hvz
        have hrl := D.1
        go_wp2_with (at_builtin; refine wpList_append_own _ rfl _ _ 24 rfl w.heap.size 29 i0 (.slice none 0 0) 1 24 Try.underlying24 hi hz0 hz1 hz2 rfl (by decide) _ _ _ rfl (OK.outer.alloc _) ⟨w5.heap.size, 0, none⟩ 1 1 [.slice (some ⟨g, 0, none⟩) z.length k] rfl rfl (cells1w w5 _ _) (by intro u hu; simp at hu; subst hu; rfl) (by unfold maxLen; omega) (by omega) (by simp; omega) ?_)
        intro v' w9 own9 hgrow hnn
        obtain ⟨G', C', O9⟩ := OK.stepG hgz own own9 hgrow
        have hb9 : Below w.heap.size w5 w9 := by
          refine (((Below.refl w.heap.size w5).alloc (by omega) _).grown hgrow (by simp; omega) ?_)
          intro kk hkk
          exact (OK.outer.lt kk hkk).1
        have hv9 : v' ≠ .slice none 0 0 := by first | exact hnn | exact fun e => hvn (hnn.1 e).1
        have fin : Hid (RowsSoFar w9 w.heap.size c a len cap v' (n + 1)) := ⟨_, G', C', O9, D.append hzf hzl, CK.out.far hb9 hcw⟩
        have hk9 : Keep c w w9 := hkK.far hb9 (Nat.le_refl _)
        clear own9 hgrow hnn O9 own hb9 OK CK
        go_wp2
        go_roundw
        case rel => exact ⟨j, n + 1, rfl, by omega, hv9, fin, hk9⟩
        case measure => simp [intOf]
      · have q5 : (0 : Int) < (L.length : Int) := by omega
        go_wp2_with fail
        refine (once_draw CCA.out 3 (by omega) (by omega)).mono ?_
        rintro e w4 ⟨bb, rfl, hc4, hk4⟩
        have OOB : Hid (OwnRows w4 w.heap.size (.slice av L.length cv) L G C) := OOA.out.keep hk4 hcw
        have CCB : Hid (Cur w4 c a len cap) := hc4
        have hkB := hkA.trans hk4
        clear hc4 hk4 OOA CCA hkA
        cases bb
        · go_wp2_with fail
          refine (row_drawI CCB.out (x + 1) (by omega) _ (by omega)).mono ?_
          rintro e w5 ⟨vz, z, rfl, hzn, hzf, hvz, own0, hc5, hk5⟩
          obtain ⟨g, k, rfl, hgg, _⟩ := own_form own0 hvz
          have hzl : z.length ≤ 1000 := by omega
          clear hzn
          have OK := OOB.out.keep hk5 hcw
          have hgz : ∀ i, i < L.length → G i ≠ g := fun i hi => by have := OOB.out.lt i hi; omega
          have hsw := hkB.size
          have own := own_base own0 hsw
          have hkK := hkB.trans hk5
          have hsK := hkK.size
          have CK : Hid (Cur w5 c a len cap) := hc5
          clear own0 hc5 hk5 hvz
          have hrl := D.1
          go_wp2_with (at_builtin; refine wpList_append_own _ rfl _ _ 24 rfl w.heap.size 29 i0 (.slice none 0 0) 1 24 Try.underlying24 hi hz0 hz1 hz2 rfl (by decide) _ _ _ rfl (OK.outer.alloc _) ⟨w5.heap.size, 0, none⟩ 1 1 [.slice (some ⟨g, 0, none⟩) z.length k] rfl rfl (cells1w w5 _ _) (by intro u hu; simp at hu; subst hu; rfl) (by unfold maxLen; omega) (by omega) (by simp; omega) ?_)
          intro v' w9 own9 hgrow hnn
          obtain ⟨G', C', O9⟩ := OK.stepG hgz own own9 hgrow
          have hb9 : Below w.heap.size w5 w9 := by
            refine (((Below.refl w.heap.size w5).alloc (by omega) _).grown hgrow (by simp; omega) ?_)
            intro kk hkk
            exact (OK.outer.lt kk hkk).1
          have hv9 : v' ≠ .slice none 0 0 := by first | exact hnn | exact fun e => hvn (hnn.1 e).1
          have fin : Hid (RowsSoFar w9 w.heap.size c a len cap v' (n + 1)) := ⟨_, G', C', O9, D.append hzf hzl, CK.out.far hb9 hcw⟩
          have hk9 : Keep c w w9 := hkK.far hb9 (Nat.le_refl _)
          clear own9 hgrow hnn O9 own hb9 OK CK
          go_wp2
          go_roundw
          case rel => exact ⟨j, n + 1, rfl, by omega, hv9, fin, hk9⟩
          case measure => simp [intOf]
        · have hd1 := D.1
          go_wp2_with fail
          refine (below_draw CCB.out (L.length : Int) (by omega) (by omega)).mono ?_
          rintro e w6 ⟨x2, rfl, hx20, hx21, hc6, hk6⟩
          obtain ⟨x2, rfl⟩ : ∃ n : Nat, x2 = n := ⟨x2.toNat, by omega⟩
          have OC := OOB.out.keep hk6 hcw
          have CCC : Hid (Cur w6 c a len cap) := hc6
          have hkC := hkB.trans hk6
          have hx2L : x2 < L.length := by omega
          obtain ⟨gv, hav⟩ : ∃ gv, av = some ⟨gv, 0, none⟩ := by
            rcases OC.outer.2 with ⟨h1, h2⟩ | ⟨g, k, cur, h1, _⟩
            · exact absurd h1 hvn
            · simp only [Value.slice.injEq] at h1; exact ⟨g, h1.1⟩
          subst hav
          obtain ⟨l1, _⟩ := OC.look x2 hx2L
          have hin := OC.inner x2 hx2L
          unfold headOf at l1 hin
          obtain ⟨z, hz⟩ : ∃ z, L.getD x2 [] = z := ⟨_, rfl⟩
          rw [hz] at l1 hin
          have hzz : L[x2] = z := by rw [← hz, getD_get _ _ _ hx2L]
          have hzf : Fit z := by rw [← hzz]; exact (D.2 x2 hx2L).1
          have hzl : z.length ≤ 1000 := by rw [← hzz]; exact (D.2 x2 hx2L).2
          have HIN : Hid (RowAt w6 (some ⟨G x2, 0, none⟩) z) := own_row hin
          have OOC : Hid (OwnRows w6 w.heap.size (.slice (some ⟨gv, 0, none⟩) L.length cv) L G C) := OC
          have HZF : Hid (Fit z) := hzf
          clear hc6 hk6 OOB CCB hkB OC hin hz hzz hzf
          go_wp2_with fail
          refine (row_spec _ _ z _ HIN.out (fun e => by cases e) (by omega)).mono ?_
          rintro e w5 ⟨g, k, rfl, hgg, own0, hb5⟩
          have hzf := HZF.out
          have OK := OOC.out.below hb5
          have hgz : ∀ i, i < L.length → G i ≠ g := fun i hi => by have := OOC.out.lt i hi; omega
          have hsw := hkC.size
          have own := own_base own0 hsw
          have hkK := hkC.trans (Keep.ofBelow hb5)
          have hsK := hkK.size
          have CK : Hid (Cur w5 c a len cap) := CCC.out.below hb5
          clear own0 hb5
          have hrl := D.1
          go_wp2_with (at_builtin; refine wpList_append_own _ rfl _ _ 24 rfl w.heap.size 29 i0 (.slice none 0 0) 1 24 Try.underlying24 hi hz0 hz1 hz2 rfl (by decide) _ _ _ rfl (OK.outer.alloc _) ⟨w5.heap.size, 0, none⟩ 1 1 [.slice (some ⟨g, 0, none⟩) z.length k] rfl rfl (cells1w w5 _ _) (by intro u hu; simp at hu; subst hu; rfl) (by unfold maxLen; omega) (by omega) (by simp; omega) ?_)
          intro v' w9 own9 hgrow hnn
          obtain ⟨G', C', O9⟩ := OK.stepG hgz own own9 hgrow
          have hb9 : Below w.heap.size w5 w9 := by
            refine (((Below.refl w.heap.size w5).alloc (by omega) _).grown hgrow (by simp; omega) ?_)
            intro kk hkk
            exact (OK.outer.lt kk hkk).1
          have hv9 : v' ≠ .slice none 0 0 := by first | exact hnn | exact fun e => hvn (hnn.1 e).1
          have fin : Hid (RowsSoFar w9 w.heap.size c a len cap v' (n + 1)) := ⟨_, G', C', O9, D.append hzf hzl, CK.out.far hb9 hcw⟩
          have hk9 : Keep c w w9 := hkK.far hb9 (Nat.le_refl _)
          clear own9 hgrow hnn O9 own hb9 OK CK
          go_wp2
          go_roundw
          case rel => exact ⟨j, n + 1, rfl, by omega, hv9, fin, hk9⟩
          case measure => simp [intOf]

end Go.Proofs.Ytgeipficjfaocab
