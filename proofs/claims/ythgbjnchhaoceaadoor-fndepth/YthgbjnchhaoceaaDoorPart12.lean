/-
  A part of the proof: DepWalk, Laid.
-/
import Derived.Test.YthgbjnchhaoceaaDoorPart8
import Derived.Test.YthgbjnchhaoceaaDoorPart11
import Derived.Deep.RegionHeld3
import Derived.Test.YthgbjnchhaoceaaDoorPart9
import Derived.LaidMore
import Derived.Stop.LaidErr
import Derived.Lib.LaidTab
import Derived.Stop.Joined
import Derived.ProofKit
import Derived.LaidLaws

/-
  The walk of the law FnDepth.
-/
namespace Go.Proofs.YthgbjnchhaoceaaDoor
open Go.ChangeShapes Go.WideShapes Go.ChangeAt Go.RowKit
attribute [local go_sem ↓] Go.wp_at_zero Go.wp_at_succ
attribute [local simp] World.cell?_alloc_past World.cell?_alloc_at World.frozen?_alloc_at cell_far cell_off cell_here World.frozen?_alloc_past

theorem depthof_draw {w : World} {a : Option Addr} {len cap : Nat} (hlen : len ≤ 4096)
    (row : ∀ j, j < len → ∃ (rb ro : Nat) (v : Int), a = some ⟨rb, ro, none⟩ ∧ rb < w.heap.size ∧ w.cell? ⟨rb, ro + j, none⟩ = some (.int .u8 v) ∧ 0 ≤ v ∧ v ≤ 255) :
    Calls Tryd.prog 6 #[.slice a len cap] w fun e w' => ∃ g n cc l, e = .returned (.slice (some ⟨g, 0, none⟩) n cc) ∧ l.length = n ∧ ItmAt w' (some ⟨g, 0, none⟩) l ∧ n ≤ 16 ∧ FitD l ∧ Below w.heap.size w w' := by
  go_enter Tryd.func6, Tryd.ntmps6
  go_wp2_with fail
  refine (sumok_draw hlen row).mono ?_
  rintro e w1 ⟨g, n, cc, l, rfl, h1, h2, h3, h4, h5⟩
  have H1 : Hid (l.length = n) := h1
  have H2 : Hid (ItmAt w1 (some ⟨g, 0, none⟩) l) := h2
  clear h1 h2 row
  go_wp2
  go_ret
  exact ⟨g, n, cc, l, rfl, H1.out, H2.out, h3, h4, h5⟩
theorem itm_cells {w : World} {g : Nat} {l : List TI} (h : ItmAt w (some ⟨g, 0, none⟩) l) : ∀ (j : Nat) u, (flatItm l)[j]? = some u → w.cell? ((⟨g, 0, none⟩ : Addr).add j) = some u := by
  intro j u hj
  have hlt : j < l.length * 5 := by
    by_cases hl : j < (flatItm l).length
    · rw [flatItm_length] at hl; exact hl
    · rw [List.getElem?_eq_none (by omega)] at hj; cases hj
  obtain ⟨q, r, rfl, hr⟩ : ∃ q r, j = q * 5 + r ∧ r < 5 := ⟨j / 5, j % 5, by omega, by omega⟩
  have hq : q < l.length := by omega
  obtain ⟨h0, h1, h2, h3, h4⟩ := flatItm_at l q hq
  obtain ⟨b, o, e, _, c0, c1, c2, c3, c4⟩ := h q hq
  simp only [Option.some.injEq, Addr.mk.injEq, and_true] at e
  obtain ⟨rfl, rfl⟩ := e
  rw [addN]
  rcases (by omega : r = 0 ∨ r = 1 ∨ r = 2 ∨ r = 3 ∨ r = 4) with rfl | rfl | rfl | rfl | rfl
  · rw [Nat.add_zero, h0] at hj; cases hj; exact c0
  · rw [h1] at hj; cases hj; exact c1
  · rw [h2] at hj; cases hj; exact c2
  · rw [h3] at hj; cases hj; exact c3
  · rw [h4] at hj; cases hj; exact c4
theorem own_formN {w : World} {base n k : Nat} {e : TypeId} {v : Value} {xs : List Value} (h : w.ownsRow base e k v n xs) (hn : v ≠ .slice none 0 0) : ∃ g c, v = .slice (some ⟨g, 0, none⟩) n c := by
  rcases h.2 with ⟨h', _⟩ | ⟨g, c, _, h', _⟩
  · exact absurd h' hn
  · exact ⟨g, c, h'⟩
theorem own_none (w : World) : (w.alloc (.cells #[] 31)).ownsRow w.heap.size 31 5 (.slice (some ⟨w.heap.size, 0, none⟩) 0 0) 0 [] :=
  ⟨rfl, .inr ⟨w.heap.size, 0, #[], rfl, Nat.le_refl _, by show (w.heap.push _)[w.heap.size]? = _; simp, Nat.le_refl _, by unfold maxLen; omega, rfl, rfl⟩⟩
theorem wpList_unguard {P : Program} {ops : Array Oper} {Q : Exit → Act → World → Prop} {a : Act} {w : World} {rest : List Oper} {d : Option Tmp} {op : Op} {ty : TypeId} {ps : String} {af : Array Edge} {g : Option (Nat × Bool)}
    (hw : Region.wanted { dst := d, op := op, type := ty, pos := ps, after := af, guard := g } (yielded ops a.tmps) = true)
    (h : wpList P ops Q ({ dst := d, op := op, type := ty, pos := ps, after := af, guard := none } :: rest) a w) : wpList P ops Q ({ dst := d, op := op, type := ty, pos := ps, after := af, guard := g } :: rest) a w := by
  unfold wpList at h ⊢
  rw [if_pos hw]
  rw [if_pos (by simp [Region.wanted])] at h
  exact h
namespace depthLaw
theorem fitI_few {l : List TI} (h : FitD l) : FitItm l := fun j hj => by
  have := h _ (List.getElem_mem hj)
  unfold maxLen at this ⊢
  omega
set_option maxRecDepth 100000 in
set_option maxHeartbeats 8000000 in
theorem walk (a : Option Addr) (len cap : Nat) (w : World) (hc : Code0 w a len) (hp : PowAt w) (he : ErrAt w) :
    Calls Tryd.prog 3 #[.slice a len cap] w fun e w' => e = .returned (.bool true) ∧ Below w.heap.size w w' := by
  obtain ⟨i0, hti, hz0, hz1, hz2⟩ := info_parts infoItm5
  have HC : Hid (Code0 w a len) := hc
  have HP : Hid (PowAt w) := hp
  have HE : Hid (ErrAt w) := he
  clear hc hp he
  by_cases hbig : (4096 : Int) < (len : Int)
  · go_enter Tryd.func3, Tryd.ntmps3
    go_wp2_with fail
    refine (big_laws a len cap _).mono ?_
    rintro e w1 ⟨rfl, rfl⟩
    rw [decide_eq_true hbig]
    go_wp2
    go_ret
    exact ⟨rfl, Below.refl _ _⟩
  have hlen : len ≤ 4096 := by omega
  go_enter Tryd.func3, Tryd.ntmps3
  go_wp2_with fail
  refine (big_laws a len cap _).mono ?_
  rintro e w1 ⟨rfl, rfl⟩
  rw [decide_eq_false (by omega)]
  go_wp2_with fail
  refine (depthof_draw hlen HC.out).mono ?_
  rintro e w1 ⟨gl, n, cl, l, rfl, hn, hA, hn16, hF, hb1⟩
  have HN : Hid (l.length = n) := hn
  have A1 : Hid (ItmAt w1 (some ⟨gl, 0, none⟩) l) := hA
  have FD : Hid (FitI l) := hF
  have FI : Hid (FitItm l) := fitI_few hF
  obtain ⟨d, hd⟩ : ∃ d, depthR l = d := ⟨_, rfl⟩
  have HD : Hid (depthR l = d) := hd
  have hnM : n ≤ maxLen := by unfold maxLen; omega
  clear hA hF hd hn
  go_wp2_with fail
  refine (depth_impl _ _ l n HN.out _ A1.out FD.out hnM (HP.out.below hb1) (HE.out.below hb1) d HD.out).mono ?_
  rintro e w2 ⟨rfl, hb2⟩
  have hx2 := chain hb1 hb2
  have A2 : Hid (ItmAt w2 (some ⟨gl, 0, none⟩) l) := A1.out.below hb2
  clear A1 hb2 hb1
  go_wp2_with fail
  refine (sumok_draw hlen (HC.out.below hx2)).mono ?_
  rintro e w3 ⟨gm, nm, cm, m, rfl, hnm, hAm, hn16m, hFm, hb3⟩
  have HNM : Hid (m.length = nm) := hnm
  have M3 : Hid (ItmAt w3 (some ⟨gm, 0, none⟩) m) := hAm
  have FDM : Hid (FitI m) := hFm
  have FIM : Hid (FitItm m) := fitI_few hFm
  have hx3 := chain hx2 hb3
  have A3 : Hid (ItmAt w3 (some ⟨gl, 0, none⟩) l) := A2.out.below hb3
  have hnmM : nm ≤ maxLen := by unfold maxLen; omega
  clear hAm hFm hb3 hx2 A2 hnm
  go_wp2_with fail
  refine (depth_spec _ _ l n HN.out _ A3.out FI.out hnM d HD.out).mono ?_
  rintro e w4 ⟨rfl, hb4⟩
  have hx4 := chain hx3 hb4
  have A4 : Hid (ItmAt w4 (some ⟨gl, 0, none⟩) l) := A3.out.below hb4
  have M4 : Hid (ItmAt w4 (some ⟨gm, 0, none⟩) m) := M3.out.below hb4
  clear hb4 hx3 A3 M3
  obtain ⟨bl, hbl⟩ : ∃ b, sumB l = b := ⟨_, rfl⟩
  have HBL : Hid (sumB l = bl) := hbl
  clear hbl
  go_wp2_with fail
  refine (sum_spec _ _ l n HN.out _ A4.out FI.out hnM bl HBL.out).mono ?_
  rintro e w5 ⟨rfl, hb5⟩
  have hx5 := chain hx4 hb5
  have A5 : Hid (ItmAt w5 (some ⟨gl, 0, none⟩) l) := A4.out.below hb5
  have M5 : Hid (ItmAt w5 (some ⟨gm, 0, none⟩) m) := M4.out.below hb5
  clear hb5 hx4 A4 M4
  cases bl
  · obtain rfl : 0 = d := by rw [← HD.out]; unfold depthR; rw [if_neg (by rw [HBL.out]; decide)]
    go_wp2
    go_ret
    exact ⟨rfl, hx5⟩
  have hd1 : 1 ≤ d := by rw [← HD.out]; exact depth_pos HBL.out
  have hd1' : (1 : Int) ≤ (d : Int) := by omega
  obtain ⟨bm, hbm⟩ : ∃ b, sumB m = b := ⟨_, rfl⟩
  have HBM : Hid (sumB m = bm) := hbm
  clear hbm
  go_wp2_with fail
  refine (sum_spec _ _ m nm HNM.out _ M5.out FIM.out hnmM bm HBM.out).mono ?_
  rintro e w6 ⟨rfl, hb6⟩
  have hx6 := chain hx5 hb6
  have A6 : Hid (ItmAt w6 (some ⟨gl, 0, none⟩) l) := A5.out.below hb6
  have M6 : Hid (ItmAt w6 (some ⟨gm, 0, none⟩) m) := M5.out.below hb6
  clear hb6 hx5 A5 M5
  cases bm
  · go_wp2
    go_ret
    exact ⟨rfl, hx6⟩
  have hsum : ¬ (40 : Int) ≤ (n : Int) + (nm : Int) := by omega
  obtain ⟨e1, he1⟩ : ∃ e1, depthR m = e1 := ⟨_, rfl⟩
  have HE1 : Hid (depthR m = e1) := he1
  have hdB : depthR (l ++ m ++ [opI 3]) = max d (e1 + 1) := by
    rw [depth_both HBL.out HBM.out (by rw [HN.out, HNM.out]; omega), HD.out, he1]
  have HDB : Hid (depthR (l ++ m ++ [opI 3]) = max d (e1 + 1)) := hdB
  have HDN : Hid (depthR (l ++ [opI 11]) = d) := by
    have : depthR (l ++ [opI 11]) = d := by rw [depth_not HBL.out (by rw [HN.out]; omega), HD.out]
    exact this
  have he40 : e1 ≤ 40 := by rw [← he1]; exact depth_le
  clear he1 hdB
  have hq0 : Below w6.heap.size w6 (w6.alloc (.cells #[] 31)) := (Below.refl _ _).alloc (Nat.le_refl _) _
  have E0 : Hid ((w6.alloc (.cells #[] 31)).ownsRow w6.heap.size 31 5 (.slice (some ⟨w6.heap.size, 0, none⟩) 0 0) 0 []) := own_none w6
  go_wp2_with (at_builtin; refine wpList_append_own _ rfl _ _ 24 rfl w6.heap.size 31 i0 (.agg #[.int .i64 0, .int .i64 0, .int .i64 0, .string ⟨#[]⟩, .string ⟨#[]⟩]) 5 56 Tryd.underlying24 hti hz0 hz1 hz2 rfl (by decide) (.slice (some ⟨w6.heap.size, 0, none⟩) 0 0) 0 [] rfl E0.out ⟨gl, 0, none⟩ n cl (flatItm l) rfl (by rw [flatItm_length, HN.out]) (itm_cells (A6.out.below hq0)) flat_oneI (by unfold maxLen; omega) (by omega) hq0.size ?_)
  intro v1 W1 own1 hgrow1 hnn1
  have O1 : Hid (W1.ownsRow w6.heap.size 31 5 v1 n (flatItm l)) := by
    exact own1
  have N1 : v1 ≠ .slice none 0 0 := by first | exact hnn1 | exact fun e => by simp at e hnn1
  have hq1 : Below w6.heap.size w6 W1 := hq0.grown hgrow1 hq0.size (fun kk hkk => (E0.out.lt kk hkk).1)
  obtain ⟨g1, c1, hv1⟩ := own_formN O1.out N1
  subst hv1
  clear own1 hgrow1 hnn1 E0 N1 hq0
  go_wp2_with (at_builtin; refine wpList_append_own _ rfl _ _ 24 rfl w6.heap.size 31 i0 (.agg #[.int .i64 0, .int .i64 0, .int .i64 0, .string ⟨#[]⟩, .string ⟨#[]⟩]) 5 56 Tryd.underlying24 hti hz0 hz1 hz2 rfl (by decide) (.slice (some ⟨g1, 0, none⟩) n c1) n (flatItm l) rfl O1.out ⟨gm, 0, none⟩ nm cm (flatItm m) rfl (by rw [flatItm_length, HNM.out]) (itm_cells (M6.out.below hq1)) flat_oneI (by unfold maxLen; omega) (by omega) hq1.size ?_)
  intro v2 W2 own2 hgrow2 hnn2
  have O2 : Hid (W2.ownsRow w6.heap.size 31 5 v2 (n + nm) (flatItm l ++ flatItm m)) := own2
  have N2 : v2 ≠ .slice none 0 0 := by first | exact hnn2 | exact fun e => by simp at e hnn2
  have hq2 : Below w6.heap.size w6 W2 := hq1.grown hgrow2 hq1.size (fun kk hkk => (O1.out.lt kk hkk).1)
  obtain ⟨g2, c2, hv2⟩ := own_formN O2.out N2
  subst hv2
  clear own2 hgrow2 hnn2 N2 O1 hq1
  have hqA : Below w6.heap.size w6 (W2.alloc (.cells #[.int .i64 3, .int .i64 0, .int .i64 0, .string ⟨#[]⟩, .string ⟨#[]⟩] 31)) := hq2.alloc hq2.size _
  go_wp2_with (at_builtin; refine wpList_append_own _ rfl _ _ 24 rfl w6.heap.size 31 i0 (.agg #[.int .i64 0, .int .i64 0, .int .i64 0, .string ⟨#[]⟩, .string ⟨#[]⟩]) 5 56 Tryd.underlying24 hti hz0 hz1 hz2 rfl (by decide) (.slice (some ⟨g2, 0, none⟩) (n + nm) c2) (n + nm) (flatItm l ++ flatItm m) rfl (O2.out.alloc _) ⟨W2.heap.size, 0, none⟩ 1 1 [.int .i64 3, .int .i64 0, .int .i64 0, .string ⟨#[]⟩, .string ⟨#[]⟩] rfl rfl (cells5I W2 _ _ _ _ _) (by intro u hu; simp at hu; rcases hu with rfl | rfl | rfl | rfl | rfl <;> rfl) (by unfold maxLen; omega) (by omega) hqA.size ?_)
  intro v3 W3 own3 hgrow3 hnn3
  have N3 : v3 ≠ .slice none 0 0 := by first | exact hnn3 | exact fun e => by simp at e hnn3
  have hq3 : Below w6.heap.size w6 W3 := hqA.grown hgrow3 hqA.size (fun kk hkk => (O2.out.lt kk hkk).1)
  have O3 : Hid (W3.ownsRow w6.heap.size 31 5 v3 (n + nm + 1) (flatItm (l ++ m ++ [opI 3]))) := by
    rw [flatItm_append, flatItm_append, List.append_assoc]; exact own3
  obtain ⟨g3, c3, hv3⟩ := own_formN O3.out N3
  subst hv3
  have HNB : Hid ((l ++ m ++ [opI 3]).length = n + nm + 1) := by
    have : (l ++ m ++ [opI 3]).length = n + nm + 1 := by simp [HN.out, HNM.out]; omega
    exact this
  have B3 : Hid (ItmAt W3 (some ⟨g3, 0, none⟩) (l ++ m ++ [opI 3])) := ownItm (cap := c3) (base := w6.heap.size) (e := 31) (by rw [HNB.out]; exact O3.out)
  have FB : Hid (FitI (l ++ m ++ [opI 3])) := FitD.app (FitD.app FD.out FDM.out) (fitD_op 3)
  obtain ⟨nb, hnb⟩ : ∃ nb, n + nm + 1 = nb := ⟨_, rfl⟩
  rw [hnb] at HNB ⊢
  have hnbM : nb ≤ maxLen := by unfold maxLen; omega
  have hx7 := chain hx6 hq3
  generalize l ++ m ++ [opI 3] = lb at B3 FB HNB HDB
  clear own3 hgrow3 hnn3 N3 O2 O3 hqA hq2
  go_wp2_with fail
  refine (depth_impl _ _ m nm HNM.out _ (M6.out.below hq3) FDM.out hnmM (HP.out.below hx7) (HE.out.below hx7) e1 HE1.out).mono ?_
  rintro e w8 ⟨rfl, hb8⟩
  have hq8 := chain hq3 hb8
  have hx8 := chain hx6 hq8
  have B8 : Hid (ItmAt w8 (some ⟨g3, 0, none⟩) lb) := B3.out.below hb8
  clear hb8 hx7 hq3 B3
  obtain ⟨mx, hmx⟩ : ∃ x, max d (e1 + 1) = x := ⟨_, rfl⟩
  rw [hmx] at HDB
  by_cases hgt : (d : Int) < (e1 : Int) + 1
  · have hmx' : (e1 : Int) + 1 = (mx : Int) := by omega
    go_wp2_with fail
    refine (depth_impl _ _ lb nb HNB.out _ B8.out FB.out hnbM (HP.out.below hx8) (HE.out.below hx8) mx HDB.out).mono ?_
    rintro e w9 ⟨rfl, hb9⟩
    have hq9 := chain hq8 hb9
    have hx9 := chain hx6 hq9
    have A9 : Hid (ItmAt w9 (some ⟨gl, 0, none⟩) l) := A6.out.below hq9
    clear hb9 hx8 hq8 B8 hgt
    have hr0 : Below w9.heap.size w9 (w9.alloc (.cells #[] 31)) := (Below.refl _ _).alloc (Nat.le_refl _) _
    have E0 : Hid ((w9.alloc (.cells #[] 31)).ownsRow w9.heap.size 31 5 (.slice (some ⟨w9.heap.size, 0, none⟩) 0 0) 0 []) := own_none w9
    go_wp2_with (at_builtin; refine wpList_unguard (by first | rfl | simp [Region.wanted, yielded]) ?_; refine wpList_append_own _ rfl _ _ 24 rfl w9.heap.size 31 i0 (.agg #[.int .i64 0, .int .i64 0, .int .i64 0, .string ⟨#[]⟩, .string ⟨#[]⟩]) 5 56 Tryd.underlying24 hti hz0 hz1 hz2 rfl (by decide) (.slice (some ⟨w9.heap.size, 0, none⟩) 0 0) 0 [] rfl E0.out ⟨gl, 0, none⟩ n cl (flatItm l) rfl (by rw [flatItm_length, HN.out]) (itm_cells (A9.out.below hr0)) flat_oneI (by unfold maxLen; omega) (by omega) hr0.size ?_)
    intro v1 W4 own1 hgrow1 hnn1
    have O1 : Hid (W4.ownsRow w9.heap.size 31 5 v1 n (flatItm l)) := by
      exact own1
    have N1 : v1 ≠ .slice none 0 0 := by first | exact hnn1 | exact fun e => by simp at e hnn1
    have hr1 : Below w9.heap.size w9 W4 := hr0.grown hgrow1 hr0.size (fun kk hkk => (E0.out.lt kk hkk).1)
    obtain ⟨g4, c4, hv1⟩ := own_formN O1.out N1
    subst hv1
    clear own1 hgrow1 hnn1 E0 N1 hr0
    have hrA : Below w9.heap.size w9 (W4.alloc (.cells #[.int .i64 11, .int .i64 0, .int .i64 0, .string ⟨#[]⟩, .string ⟨#[]⟩] 31)) := hr1.alloc hr1.size _
    go_wp2_with (at_builtin; refine wpList_unguard (by first | rfl | simp [Region.wanted, yielded]) ?_; refine wpList_append_own _ rfl _ _ 24 rfl w9.heap.size 31 i0 (.agg #[.int .i64 0, .int .i64 0, .int .i64 0, .string ⟨#[]⟩, .string ⟨#[]⟩]) 5 56 Tryd.underlying24 hti hz0 hz1 hz2 rfl (by decide) (.slice (some ⟨g4, 0, none⟩) n c4) n (flatItm l) rfl (O1.out.alloc _) ⟨W4.heap.size, 0, none⟩ 1 1 [.int .i64 11, .int .i64 0, .int .i64 0, .string ⟨#[]⟩, .string ⟨#[]⟩] rfl rfl (cells5I W4 _ _ _ _ _) (by intro u hu; simp at hu; rcases hu with rfl | rfl | rfl | rfl | rfl <;> rfl) (by unfold maxLen; omega) (by omega) hrA.size ?_)
    intro v5 W5 own5 hgrow5 hnn5
    have N5 : v5 ≠ .slice none 0 0 := by first | exact hnn5 | exact fun e => by simp at e hnn5
    have hr5 : Below w9.heap.size w9 W5 := hrA.grown hgrow5 hrA.size (fun kk hkk => (O1.out.lt kk hkk).1)
    have O5 : Hid (W5.ownsRow w9.heap.size 31 5 v5 (n + 1) (flatItm (l ++ [opI 11]))) := by
      rw [flatItm_append]; exact own5
    obtain ⟨g5, c5, hv5⟩ := own_formN O5.out N5
    subst hv5
    have HNN : Hid ((l ++ [opI 11]).length = n + 1) := by
      have : (l ++ [opI 11]).length = n + 1 := by simp [HN.out]
      exact this
    have B5 : Hid (ItmAt W5 (some ⟨g5, 0, none⟩) (l ++ [opI 11])) := ownItm (cap := c5) (base := w9.heap.size) (e := 31) (by rw [HNN.out]; exact O5.out)
    have FN : Hid (FitI (l ++ [opI 11])) := FitD.app FD.out (fitD_op 11)
    obtain ⟨n1, hn1⟩ : ∃ n1, n + 1 = n1 := ⟨_, rfl⟩
    rw [hn1] at HNN ⊢
    have hn1M : n1 ≤ maxLen := by unfold maxLen; omega
    have hx10 := chain hx9 hr5
    generalize l ++ [opI 11] = ln at B5 FN HNN HDN
    clear own5 hgrow5 hnn5 N5 O1 O5 hrA hr1
    go_wp2_with fail
    refine (depth_impl _ _ ln n1 HNN.out _ B5.out FN.out hn1M (HP.out.below hx10) (HE.out.below hx10) d HDN.out).mono ?_
    rintro e w10 ⟨rfl, hb10⟩
    have hx11 := chain hx10 hb10
    go_wp2
    go_ret
    exact ⟨rfl, hx11⟩
  · obtain rfl : d = mx := by omega
    go_wp2_with fail
    refine (depth_impl _ _ lb nb HNB.out _ B8.out FB.out hnbM (HP.out.below hx8) (HE.out.below hx8) d HDB.out).mono ?_
    rintro e w9 ⟨rfl, hb9⟩
    have hq9 := chain hq8 hb9
    have hx9 := chain hx6 hq9
    have A9 : Hid (ItmAt w9 (some ⟨gl, 0, none⟩) l) := A6.out.below hq9
    clear hb9 hx8 hq8 B8 hgt
    have hr0 : Below w9.heap.size w9 (w9.alloc (.cells #[] 31)) := (Below.refl _ _).alloc (Nat.le_refl _) _
    have E0 : Hid ((w9.alloc (.cells #[] 31)).ownsRow w9.heap.size 31 5 (.slice (some ⟨w9.heap.size, 0, none⟩) 0 0) 0 []) := own_none w9
    go_wp2_with (at_builtin; refine wpList_unguard (by first | rfl | simp [Region.wanted, yielded]) ?_; refine wpList_append_own _ rfl _ _ 24 rfl w9.heap.size 31 i0 (.agg #[.int .i64 0, .int .i64 0, .int .i64 0, .string ⟨#[]⟩, .string ⟨#[]⟩]) 5 56 Tryd.underlying24 hti hz0 hz1 hz2 rfl (by decide) (.slice (some ⟨w9.heap.size, 0, none⟩) 0 0) 0 [] rfl E0.out ⟨gl, 0, none⟩ n cl (flatItm l) rfl (by rw [flatItm_length, HN.out]) (itm_cells (A9.out.below hr0)) flat_oneI (by unfold maxLen; omega) (by omega) hr0.size ?_)
    intro v1 W4 own1 hgrow1 hnn1
    have O1 : Hid (W4.ownsRow w9.heap.size 31 5 v1 n (flatItm l)) := by
      exact own1
    have N1 : v1 ≠ .slice none 0 0 := by first | exact hnn1 | exact fun e => by simp at e hnn1
    have hr1 : Below w9.heap.size w9 W4 := hr0.grown hgrow1 hr0.size (fun kk hkk => (E0.out.lt kk hkk).1)
    obtain ⟨g4, c4, hv1⟩ := own_formN O1.out N1
    subst hv1
    clear own1 hgrow1 hnn1 E0 N1 hr0
    have hrA : Below w9.heap.size w9 (W4.alloc (.cells #[.int .i64 11, .int .i64 0, .int .i64 0, .string ⟨#[]⟩, .string ⟨#[]⟩] 31)) := hr1.alloc hr1.size _
    go_wp2_with (at_builtin; refine wpList_unguard (by first | rfl | simp [Region.wanted, yielded]) ?_; refine wpList_append_own _ rfl _ _ 24 rfl w9.heap.size 31 i0 (.agg #[.int .i64 0, .int .i64 0, .int .i64 0, .string ⟨#[]⟩, .string ⟨#[]⟩]) 5 56 Tryd.underlying24 hti hz0 hz1 hz2 rfl (by decide) (.slice (some ⟨g4, 0, none⟩) n c4) n (flatItm l) rfl (O1.out.alloc _) ⟨W4.heap.size, 0, none⟩ 1 1 [.int .i64 11, .int .i64 0, .int .i64 0, .string ⟨#[]⟩, .string ⟨#[]⟩] rfl rfl (cells5I W4 _ _ _ _ _) (by intro u hu; simp at hu; rcases hu with rfl | rfl | rfl | rfl | rfl <;> rfl) (by unfold maxLen; omega) (by omega) hrA.size ?_)
    intro v5 W5 own5 hgrow5 hnn5
    have N5 : v5 ≠ .slice none 0 0 := by first | exact hnn5 | exact fun e => by simp at e hnn5
    have hr5 : Below w9.heap.size w9 W5 := hrA.grown hgrow5 hrA.size (fun kk hkk => (O1.out.lt kk hkk).1)
    have O5 : Hid (W5.ownsRow w9.heap.size 31 5 v5 (n + 1) (flatItm (l ++ [opI 11]))) := by
      rw [flatItm_append]; exact own5
    obtain ⟨g5, c5, hv5⟩ := own_formN O5.out N5
    subst hv5
    have HNN : Hid ((l ++ [opI 11]).length = n + 1) := by
      have : (l ++ [opI 11]).length = n + 1 := by simp [HN.out]
      exact this
    have B5 : Hid (ItmAt W5 (some ⟨g5, 0, none⟩) (l ++ [opI 11])) := ownItm (cap := c5) (base := w9.heap.size) (e := 31) (by rw [HNN.out]; exact O5.out)
    have FN : Hid (FitI (l ++ [opI 11])) := FitD.app FD.out (fitD_op 11)
    obtain ⟨n1, hn1⟩ : ∃ n1, n + 1 = n1 := ⟨_, rfl⟩
    rw [hn1] at HNN ⊢
    have hn1M : n1 ≤ maxLen := by unfold maxLen; omega
    have hx10 := chain hx9 hr5
    generalize l ++ [opI 11] = ln at B5 FN HNN HDN
    clear own5 hgrow5 hnn5 N5 O1 O5 hrA hr1
    go_wp2_with fail
    refine (depth_impl _ _ ln n1 HNN.out _ B5.out FN.out hn1M (HP.out.below hx10) (HE.out.below hx10) d HDN.out).mono ?_
    rintro e w10 ⟨rfl, hb10⟩
    have hx11 := chain hx10 hb10
    go_wp2
    go_ret
    exact ⟨rfl, hx11⟩
end depthLaw
end Go.Proofs.YthgbjnchhaoceaaDoor

/-
  From the row's condition on the listed variables to what the walks ask of them.
-/
namespace Go.Proofs.YthgbjnchhaoceaaDoor
open Go.ChangeShapes Go.WideShapes Go.ChangeAt Go.RowKit

theorem gPow : (Tryd.prog.globalNamed "internal/strconv.uint64pow10").bind (fun g => (Tryd.prog.globals[g]?).map (·.type)) = some 129 := by kernel_rfl
theorem pow_data : (Rows.laid_internal_strconv_uint64pow10 : DataW Unit) = Lib.tabData .u64 Lib.pow10Tab := by kernel_rfl
theorem pow_of {W : World} {rest : List (String × DataW Unit)} (h : laidMet Tryd.prog (("internal/strconv.uint64pow10", Rows.laid_internal_strconv_uint64pow10) :: rest) W) : PowAt W := by
  rw [pow_data] at h
  obtain ⟨g, hg, ht⟩ := Option.bind_eq_some_iff.1 gPow
  exact Lib.tabIs_of_head hg ht Tryd.underlying129 Tryd.underlying98 (by kernel_rfl) (by kernel_rfl) h

theorem star_name : "*" ++ "errors.errorString" = "*errors.errorString" := by decide
theorem row_err (u : TypeId) (h : Tryd.prog.typeName? 3 u = some "*errors.errorString") : u = 124 :=
  typeName_ptr_named (nm := "errors.errorString") (by rw [star_name]; kernel_rfl) (by kernel_rfl) (by decide) u (by rw [star_name]; exact h)
theorem gRange : (Tryd.prog.globalNamed "strconv.ErrRange").bind (fun g => (Tryd.prog.globals[g]?).map (·.type)) = some 90 := by kernel_rfl
theorem gSyntax : (Tryd.prog.globalNamed "strconv.ErrSyntax").bind (fun g => (Tryd.prog.globals[g]?).map (·.type)) = some 90 := by kernel_rfl
theorem err_of {W : World} {rest : List (String × DataW Unit)} (h : laidMet Tryd.prog (("strconv.ErrRange", Rows.laid_strconv_ErrRange) :: ("strconv.ErrSyntax", Rows.laid_strconv_ErrSyntax) :: rest) W) : ErrAt W := by
  obtain ⟨g, hg, ht⟩ := Option.bind_eq_some_iff.1 gRange
  obtain ⟨g2, hg2, ht2⟩ := Option.bind_eq_some_iff.1 gSyntax
  have h2 := h.tail
  unfold Rows.laid_strconv_ErrRange at h
  unfold Rows.laid_strconv_ErrSyntax at h2
  obtain ⟨a, s, hv, _⟩ := laid_sentinel h hg ht Tryd.underlying90 row_err Tryd.underlying124 Tryd.underlying126 rfl rfl Tryd.underlying9 (by kernel_rfl) (by kernel_rfl)
  obtain ⟨a2, s2, hv2, _⟩ := laid_sentinel h2 hg2 ht2 Tryd.underlying90 row_err Tryd.underlying124 Tryd.underlying126 rfl rfl Tryd.underlying9 (by kernel_rfl) (by kernel_rfl)
  exact ⟨⟨_, _, hv2⟩, ⟨_, _, hv⟩⟩

end Go.Proofs.YthgbjnchhaoceaaDoor
