/-
  A part of the proof: ShowI, ShowS.
-/
import Derived.Test.YteamdmcgkpeelalGreatDoorPart6
import Derived.Test.YteamdmcgkpeelalGreatDoorPart7
import Derived.Test.YteamdmcgkpeelalGreatDoorPart11

/-
  The contracts of the program's text of a table, and of a base.
-/
namespace Go.Proofs.YteamdmcgkpeelalGreatDoor
open Go.ChangeShapes Go.WideShapes Go.ChangeAt Go.RowKit Go.Maps
attribute [local go_sem ↓] Go.wp_at_zero Go.wp_at_succ
attribute [local simp] World.cell?_alloc_past World.cell?_alloc_at World.frozen?_alloc_at cell_far cell_off cell_here World.frozen?_alloc_past

theorem join_none (xs : List (List UInt8)) : Lib.join xs [] = xs.flatten := by
  cases xs with
  | nil => rfl
  | cons x r =>
    rw [Lib.join_cons]
    simp [Lib.joinTail]
theorem joinedN (n bk c : Nat) (xs : List ByteArray) (hn : xs.length = n) (sep : ByteArray) (w : World) (base : Nat) (hown : w.ownsRow base 9 1 (.slice (some ⟨bk, 0, none⟩) n c) n (strV xs)) (hN : n ≤ 4096) (hlen : (Lib.join (rawT xs) sep.data.toList).length ≤ 140737488355328) (y : ByteArray) (hy : (⟨(Lib.join (rawT xs) sep.data.toList).toArray⟩ : ByteArray) = y) :
    Calls Tryz.prog 17 #[.string sep, .slice (some ⟨bk, 0, none⟩) n c] w fun e w' => e = .returned (.string y) ∧ Below w.heap.size w w' := by
  subst hn
  have hc : xs.length ≤ c := by
    rcases hown.2 with ⟨e, _⟩ | ⟨g, cap, cur, e, _, _, hc, _⟩
    · simp at e
    · simp only [Value.slice.injEq] at e
      omega
  refine joined_impl bk c xs sep w (fun j x hj => ?_) (hown.lt bk rfl).2 (by omega) hc hlen y hy
  obtain ⟨hlt, rfl⟩ := List.getElem?_eq_some_iff.1 hj
  rw [Nat.zero_add, hown.cellAt j (by omega)]
  unfold strV
  rw [List.getElem?_map, List.getElem?_eq_getElem hlt]; rfl
theorem rowtextN (n : Nat) (a : Option Addr) (cap : Nat) (l : List CT) (hn : l.length = n) (w : World) (hrow : RowAt w a l) (hfit : Fit l) (hm : n ≤ 1048576) (hp : PowAt w) (y : ByteArray) (hy : rowT l = y) :
    Calls Tryz.prog 31 #[.slice a n cap] w fun e w' => e = .returned (.string y) ∧ Below w.heap.size w w' := by
  subst hn; exact rowtext_impl a cap l w hrow hfit hm hp y hy
/-- The pieces of a table's text. -/
def pcsT (hd : ByteArray) (L : List (List CT)) : Nat → List ByteArray
  | 0 => [hd, ⟨#[58]⟩]
  | k + 1 => pcsT hd L k ++ [⟨#[10]⟩, ⟨#[32]⟩, rowT (L.getD k [])]
theorem pcsT_length (hd : ByteArray) (L : List (List CT)) (k : Nat) : (pcsT hd L k).length = 2 + 3 * k := by
  induction k with
  | zero => rfl
  | succ k ih => rw [pcsT, List.length_append, ih]; simp; omega
theorem pcsT_flat (hd : ByteArray) (L : List (List CT)) (k : Nat) (hk : k ≤ L.length) : (rawT (pcsT hd L k)).flatten = hd.data.toList ++ [58] ++ (L.take k).flatMap rowTx := by
  induction k with
  | zero => simp [pcsT, rawT]
  | succ k ih =>
    have hlt : k < L.length := by omega
    have e : rawT (pcsT hd L (k + 1)) = rawT (pcsT hd L k) ++ [[10], [32], (rowT L[k]).data.toList] := by
      rw [pcsT]
      have : L.getD k [] = L[k] := by simp [List.getD, List.getElem?_eq_getElem hlt]
      rw [this]
      simp [rawT]
    rw [e, List.flatten_append, ih (by omega), rowTx_take L k hlt]
    simp [rowTx]
theorem own_one (w : World) (s : ByteArray) : (w.alloc (.cells #[.string s] 9)).ownsRow w.heap.size 9 1 (.slice (some ⟨w.heap.size, 0, none⟩) 1 1) 1 [.string s] :=
  ⟨rfl, .inr ⟨w.heap.size, 1, #[.string s], rfl, Nat.le_refl _, by show (w.heap.push _)[w.heap.size]? = _; simp, Nat.le_refl _, by unfold maxLen; omega, rfl, rfl⟩⟩
theorem own_oneA (w : World) (ob : Obj) (s : ByteArray) : ((w.alloc ob).alloc (.cells #[.string s] 9)).ownsRow (w.heap.size + 1) 9 1 (.slice (some ⟨w.heap.size + 1, 0, none⟩) 1 1) 1 [.string s] := by
  have h := own_one (w.alloc ob) s
  have e : (w.alloc ob).heap.size = w.heap.size + 1 := by simp
  rw [e] at h
  exact h
theorem own_two (w : World) (s u : ByteArray) : (w.alloc (.cells #[.string s, .string u] 9)).ownsRow w.heap.size 9 1 (.slice (some ⟨w.heap.size, 0, none⟩) 2 2) 2 [.string s, .string u] :=
  ⟨rfl, .inr ⟨w.heap.size, 2, #[.string s, .string u], rfl, Nat.le_refl _, by show (w.heap.push _)[w.heap.size]? = _; simp, Nat.le_refl _, by unfold maxLen; omega, rfl, rfl⟩⟩
theorem ownsRow_lower {w : World} {base base' n size : Nat} {e : TypeId} {v : Value} {xs : List Value} (h : w.ownsRow base e size v n xs) (hb : base' ≤ base) : w.ownsRow base' e size v n xs := by
  refine ⟨h.1, ?_⟩
  rcases h.2 with h' | ⟨g, cap, cur, h', hbg, hr⟩
  · exact .inl h'
  · exact .inr ⟨g, cap, cur, h', Nat.le_trans hb hbg, hr⟩

set_option maxRecDepth 100000 in
set_option maxHeartbeats 4000000 in
theorem tabletext_impl (ca : Option Addr) (cc : Nat) (ra : Option Addr) (cr : Nat) (t : TB) (nc nr : Nat) (hnc : t.2.1.length = nc) (hnr : t.2.2.length = nr) (w : World) (ht : TabAt w ca cc ra t) (hp : PowAt w) (hok : tableB t = true) (y : ByteArray) (hy : (⟨(tabTx t).toArray⟩ : ByteArray) = y) :
    Calls Tryz.prog 16 #[.agg #[.string t.1, .slice ca nc cc, .slice ra nr cr]] w fun e w' => e = .returned (.string y) ∧ Below w.heap.size w w' := by
  obtain ⟨i0, hti, hz0, hz1, hz2⟩ := info_parts infoStr
  have HOK : Hid (tableB t = true) := hok
  obtain ⟨q1, q2, q3, q4, q5⟩ := tableB_parts hok
  have HQ5 : Hid (∀ r, r ∈ t.2.2 → r.all okC = true ∧ r.length ≤ 6) := q5
  have hnc6 : nc ≤ 6 := by rw [← hnc]; exact q2
  have hnr60 : nr ≤ 60 := by rw [← hnr]; exact q4
  have hnc1 : 0 < t.2.1.length := by
    have h := hok
    unfold tableB namesB at h
    simp only [Bool.and_eq_true, decide_eq_true_eq] at h
    have := h.1.2.1.2.1
    omega
  obtain ⟨bC, oC, eC, hbC, hcc⟩ := ht.cols 0 hnc1
  subst eC
  clear hcc
  have HT : Hid (TabAt w (some ⟨bC, oC, none⟩) cc ra t) := ht
  have HNC : Hid (t.2.1.length = nc) := hnc
  have HNR : Hid (t.2.2.length = nr) := hnr
  have HP : Hid (PowAt w) := hp
  have HY : Hid ((⟨(tabTx t).toArray⟩ : ByteArray) = y) := hy
  obtain ⟨nm, hnm⟩ : ∃ s, t.1 = s := ⟨_, rfl⟩
  have HNM : Hid (t.1 = nm) := hnm
  obtain ⟨hd, hhd⟩ : ∃ h : ByteArray, (⟨(headTx t).toArray⟩ : ByteArray) = h := ⟨_, rfl⟩
  have HHD : Hid ((⟨(headTx t).toArray⟩ : ByteArray) = hd) := hhd
  rw [hnm]
  have hA : Below w.heap.size w (w.alloc (.cells #[.string nm, .slice (some ⟨bC, oC, none⟩) nc cc, .slice ra nr cr] 37)) := (Below.refl _ _).alloc (Nat.le_refl _) _
  have hAN : Below w.heap.size w ((w.alloc (.cells #[.string nm, .slice (some ⟨bC, oC, none⟩) nc cc, .slice ra nr cr] 37)).alloc (.cells #[.string nm] 9)) := hA.alloc (by simp) _
  have HSRC : Hid (∀ j u, (strV t.2.1)[j]? = some u → ((w.alloc (.cells #[.string nm, .slice (some ⟨bC, oC, none⟩) nc cc, .slice ra nr cr] 37)).alloc (.cells #[.string nm] 9)).cell? ((⟨bC, oC, none⟩ : Addr).add j) = some u) := by
    have : ∀ j u, (strV t.2.1)[j]? = some u → ((w.alloc (.cells #[.string nm, .slice (some ⟨bC, oC, none⟩) nc cc, .slice ra nr cr] 37)).alloc (.cells #[.string nm] 9)).cell? ((⟨bC, oC, none⟩ : Addr).add j) = some u := strV_cells (HT.out.cols.below hAN)
    exact this
  have HSL : Hid ((strV t.2.1).length = nc * 1) := by
    have : (strV t.2.1).length = nc * 1 := by rw [strV_length, HNC.out]; omega
    exact this
  have HS1 : Hid (∀ u, u ∈ strV t.2.1 → u.oneCell' = true) := by
    have : ∀ u, u ∈ strV t.2.1 → u.oneCell' = true := fun u hu => by obtain ⟨b, _, rfl⟩ := List.mem_map.1 hu; rfl
    exact this
  clear ht hnc hnr hp hy hok q1 q2 q3 q4 q5 hnc1 hnm hhd
  go_enter Tryz.func16, Tryz.ntmps16
  go_wp2_with (at_builtin; refine wpList_append_own _ rfl _ _ 30 rfl (w.heap.size + 1) 9 i0 (.string ⟨#[]⟩) 1 16 Tryz.underlying30 hti hz0 hz1 hz2 rfl (by decide) _ _ _ rfl (own_oneA w _ nm) ⟨bC, oC, none⟩ nc cc (strV t.2.1) rfl HSL.out HSRC.out HS1.out (by unfold maxLen; omega) (by omega) (by simp) ?_)
  intro v2 w2 own2 hgrow2 hnn2
  have hx2 : Below w.heap.size w w2 := hAN.grown hgrow2 (by simp; omega) (fun j hj => by simp [Value.ownBlock] at hj; omega)
  have hblk : w2.heap[w.heap.size]? = (w.alloc (.cells #[.string nm, .slice (some ⟨bC, oC, none⟩) nc cc, .slice ra nr cr] 37)).heap[w.heap.size]? := (hgrow2.block w.heap.size (by simp; omega) (by simp [Value.ownBlock])).trans (Below.heap_alloc _ _ _ (by simp))
  have p0 : w2.cell? ⟨w.heap.size, 0, none⟩ = some (.string nm) := (World.cell?_of_block (w := (w.alloc (.cells #[.string nm, .slice (some ⟨bC, oC, none⟩) nc cc, .slice ra nr cr] 37))) hblk).trans (by simp)
  have p1 : w2.cell? ⟨w.heap.size, 1, none⟩ = some (.slice (some ⟨bC, oC, none⟩) nc cc) := (World.cell?_of_block (w := (w.alloc (.cells #[.string nm, .slice (some ⟨bC, oC, none⟩) nc cc, .slice ra nr cr] 37))) hblk).trans (by simp)
  have p2 : w2.cell? ⟨w.heap.size, 2, none⟩ = some (.slice ra nr cr) := (World.cell?_of_block (w := (w.alloc (.cells #[.string nm, .slice (some ⟨bC, oC, none⟩) nc cc, .slice ra nr cr] 37))) hblk).trans (by simp)
  have p3 : w.heap.size < w2.heap.size := by have := hgrow2.size; simp at this; omega
  have hv2 : v2 ≠ .slice none 0 0 := by first | exact hnn2 | exact fun e => absurd (hnn2.1 e).1 (by simp)
  replace own2 : w2.ownsRow (w.heap.size + 1) 9 1 v2 (1 + nc) (strV (nm :: t.2.1)) := own2
  rcases own2.2 with ⟨e, _⟩ | ⟨g2, c2, cur2, e, _⟩
  · exact absurd e hv2
  subst e
  have HO2 : Hid (w2.ownsRow (w.heap.size + 1) 9 1 (.slice (some ⟨g2, 0, none⟩) (1 + nc) c2) (1 + nc) (strV (nm :: t.2.1))) := own2
  have HJ2 : Hid ((Lib.join (rawT (nm :: t.2.1)) [32]).length ≤ 140737488355328 ∧ (⟨(Lib.join (rawT (nm :: t.2.1)) [32]).toArray⟩ : ByteArray) = hd) := by
    have e : Lib.join (rawT (nm :: t.2.1)) [32] = headTx t := by unfold headTx rawT; rw [HNM.out]; rfl
    have : (Lib.join (rawT (nm :: t.2.1)) [32]).length ≤ 140737488355328 ∧ (⟨(Lib.join (rawT (nm :: t.2.1)) [32]).toArray⟩ : ByteArray) = hd := by
      rw [e]
      exact ⟨by have := headTx_len HOK.out; omega, HHD.out⟩
    exact this
  have HLN : Hid ((nm :: t.2.1).length = 1 + nc) := by
    have : (nm :: t.2.1).length = 1 + nc := by rw [List.length_cons, HNC.out]; omega
    exact this
  clear own2 hgrow2 hnn2 hv2 HSRC HSL HS1 hblk
  go_wp2_with fail
  refine (joinedN (1 + nc) g2 c2 (nm :: t.2.1) HLN.out ⟨#[32]⟩ _ (w.heap.size + 1) HO2.out (by omega) HJ2.out.1 hd HJ2.out.2).mono ?_
  rintro e w3 ⟨rfl, hb3⟩
  obtain ⟨p0, p1, p2, p3⟩ := later3 hb3 ⟨p0, p1, p2, p3⟩
  have hx3 := chain hx2 hb3
  have hx3a : Below w.heap.size w (w3.alloc (.cells #[.string hd, .string ⟨#[58]⟩] 9)) := hx3.alloc hx3.size _
  have own3 : Hid ((w3.alloc (.cells #[.string hd, .string ⟨#[58]⟩] 9)).ownsRow w3.heap.size 9 1 (.slice (some ⟨w3.heap.size, 0, none⟩) 2 2) (2 + 3 * 0) (strV (pcsT hd t.2.2 0))) := own_two w3 hd ⟨#[58]⟩
  have hs3 : w.heap.size ≤ w3.heap.size := hx3.size
  clear HO2 HJ2 HLN hb3 hx2
  go_wp2
  go_loopw [4, 19] (fun v kk wr => ∃ k m : Nat, k ≤ nr ∧ kk = .int .i64 k ∧ Hid (2 + 3 * k = m) ∧ m ≤ 182 ∧ Hid (wr.ownsRow w3.heap.size 9 1 v m (strV (pcsT hd t.2.2 k))) ∧ Below w.heap.size w wr ∧ w3.heap.size ≤ wr.heap.size ∧ v ≠ .slice none 0 0) (fun _ kk _ => nr - (intOf kk).toNat)
  case atStart => exact ⟨0, 2, Nat.zero_le _, rfl, rfl, by omega, own3, hx3a, by simp, by simp⟩
  case round =>
    obtain ⟨k, m, hk, rfl, HM, hm182, hO, hbw, hsw, hvn⟩ := hrel
    by_cases hlt : k < nr
    · have hlt' : Hid (k < t.2.2.length) := by have := HNR.out; exact show k < t.2.2.length by omega
      obtain ⟨gr, or_, ai, ci, rfl, hgw, c0, hrow, hfit, hlen, _⟩ := (HT.out.rows.below hbw) k hlt'.out
      have hi0 : (0 : Int) ≤ (k : Int) := by omega
      have hi1 : (k : Int) < (nr : Int) := by omega
      obtain ⟨hro, hr6⟩ := HQ5.out _ (List.getElem_mem hlt'.out)
      have HRW : Hid (RowAt wr ai (t.2.2[k]'hlt'.out) ∧ Fit (t.2.2[k]'hlt'.out)) := ⟨hrow, hfit⟩
      obtain ⟨row, hrw⟩ : ∃ x, (t.2.2[k]'hlt'.out) = x := ⟨_, rfl⟩
      have HGD : Hid (t.2.2.getD k [] = row) := by
        have : t.2.2.getD k [] = row := by rw [← hrw]; simp [List.getD, List.getElem?_eq_getElem hlt'.out]
        exact this
      rw [hrw] at c0 HRW hr6
      obtain ⟨nl, hnl⟩ : ∃ x, row.length = x := ⟨_, rfl⟩
      rw [hnl] at c0
      have HNL : Hid (row.length = nl) := hnl
      have hnl6 : nl ≤ 6 := by rw [← hnl]; exact hr6
      obtain ⟨z, hz⟩ : ∃ z, rowT row = z := ⟨_, rfl⟩
      have HZ : Hid (rowT row = z) := hz
      clear hrow hfit hlen hro hrw hnl hz hr6
      go_wp2_with fail
      refine (rowtextN nl ai ci row HNL.out _ HRW.out.1 HRW.out.2 (by omega) (HP.out.below hbw) z HZ.out).mono ?_
      rintro e w4 ⟨rfl, hb4⟩
      have O4 := own_below hO.out hb4
      have hx4 := chain hbw hb4
      have hs4 : w3.heap.size ≤ w4.heap.size := by have := hb4.size; omega
      clear hb4 hO c0 HRW
      go_wp2_with (at_builtin; refine wpList_append_own _ rfl _ _ 30 rfl w3.heap.size 9 i0 (.string ⟨#[]⟩) 1 16 Tryz.underlying30 hti hz0 hz1 hz2 rfl (by decide) _ _ _ rfl (O4.alloc _) ⟨w4.heap.size, 0, none⟩ 3 3 [.string ⟨#[10]⟩, .string ⟨#[32]⟩, .string z] rfl rfl ?c1 ?c2 ?c3 ?c4 ?c5 ?_)
      case c1 =>
        intro j u hj
        match j, hj with
        | 0, hj => simp at hj; subst hj; simp [Addr.add]
        | 1, hj => simp at hj; subst hj; simp [Addr.add]
        | 2, hj => simp at hj; subst hj; simp [Addr.add]
      case c2 => intro u hu; simp at hu; rcases hu with rfl | rfl | rfl <;> rfl
      case c3 => unfold maxLen; omega
      case c4 => omega
      case c5 => simp; omega
      intro v5 w5 own5 hgrow5 hnn5
      have hx5 : Below w.heap.size w w5 := by
        refine (hx4.alloc hx4.size _).grown hgrow5 (by have := hx4.size; simp; omega) ?_
        intro kk hkk
        have := (O4.lt kk hkk).1
        omega
      have hs5 : w3.heap.size ≤ w5.heap.size := by have := hgrow5.size; simp at this; omega
      have hvn5 : v5 ≠ .slice none 0 0 := by first | exact hnn5 | exact fun e => hvn (hnn5.1 e).1
      have SS : Hid (w5.ownsRow w3.heap.size 9 1 v5 (m + 3) (strV (pcsT hd t.2.2 (k + 1)))) := by
        have : w5.ownsRow w3.heap.size 9 1 v5 (m + 3) (strV (pcsT hd t.2.2 (k + 1))) := by
          rw [pcsT, HGD.out, HZ.out, show strV (pcsT hd t.2.2 k ++ [⟨#[10]⟩, ⟨#[32]⟩, z]) = strV (pcsT hd t.2.2 k) ++ [.string ⟨#[10]⟩, .string ⟨#[32]⟩, .string z] from List.map_append]; exact own5
        exact this
      clear own5 hgrow5 hnn5 O4
      go_wp2
      go_roundw
      case rel => exact ⟨k + 1, m + 3, by omega, by go_num, show 2 + 3 * (k + 1) = m + 3 by have := HM.out; omega, by have := HM.out; omega, SS, hx5, hs5, hvn5⟩
      case measure => simp [intOf]; omega
    · have hkl : k = nr := by omega
      subst hkl
      have hnn : ¬ (k : Int) < (k : Int) := by omega
      have O6 := hO.out
      go_wp2_with (at_builtin; refine wpList_append_own _ rfl _ _ 30 rfl w3.heap.size 9 i0 (.string ⟨#[]⟩) 1 16 Tryz.underlying30 hti hz0 hz1 hz2 rfl (by decide) _ _ _ rfl (O6.alloc _) ⟨wr.heap.size, 0, none⟩ 1 1 [.string ⟨#[10]⟩] rfl rfl (cell_one_new _ _ _) (by intro u hu; simp at hu; subst hu; rfl) (by unfold maxLen; omega) (by omega) (by simp; omega) ?_)
      intro v7 w7 own7 hgrow7 hnn7
      have hx7 : Below w.heap.size w w7 := by
        refine (hbw.alloc hbw.size _).grown hgrow7 (by have := hbw.size; simp; omega) ?_
        intro kk hkk
        have := (O6.lt kk hkk).1
        omega
      have hvn7 : v7 ≠ .slice none 0 0 := by first | exact hnn7 | exact fun e => hvn (hnn7.1 e).1
      replace own7 : w7.ownsRow w3.heap.size 9 1 v7 (m + 1) (strV (pcsT hd t.2.2 k ++ [⟨#[10]⟩])) := by
        rw [show strV (pcsT hd t.2.2 k ++ [⟨#[10]⟩]) = strV (pcsT hd t.2.2 k) ++ [.string ⟨#[10]⟩] from List.map_append]; exact own7
      rcases own7.2 with ⟨e, _⟩ | ⟨g7, c7, cur7, e, _⟩
      · exact absurd e hvn7
      subst e
      have HO7 : Hid (w7.ownsRow w3.heap.size 9 1 (.slice (some ⟨g7, 0, none⟩) (m + 1) c7) (m + 1) (strV (pcsT hd t.2.2 k ++ [⟨#[10]⟩]))) := own7
      have HJ7 : Hid ((Lib.join (rawT (pcsT hd t.2.2 k ++ [⟨#[10]⟩])) []).length ≤ 140737488355328 ∧ (⟨(Lib.join (rawT (pcsT hd t.2.2 k ++ [⟨#[10]⟩])) []).toArray⟩ : ByteArray) = y) := by
        have e : Lib.join (rawT (pcsT hd t.2.2 k ++ [⟨#[10]⟩])) [] = tabTx t := by
          rw [join_none, rawT_snoc, List.flatten_append, pcsT_flat hd t.2.2 k (by rw [HNR.out]; exact Nat.le_refl _), show t.2.2.take k = t.2.2 by rw [← HNR.out, List.take_length], ← HHD.out]
          unfold tabTx
          simp
        have : (Lib.join (rawT (pcsT hd t.2.2 k ++ [⟨#[10]⟩])) []).length ≤ 140737488355328 ∧ (⟨(Lib.join (rawT (pcsT hd t.2.2 k ++ [⟨#[10]⟩])) []).toArray⟩ : ByteArray) = y := by
          rw [e]
          exact ⟨by have := tabTx_len HOK.out; omega, HY.out⟩
        exact this
      have HL7 : Hid ((pcsT hd t.2.2 k ++ [(⟨#[10]⟩ : ByteArray)]).length = m + 1) := by
        have : (pcsT hd t.2.2 k ++ [(⟨#[10]⟩ : ByteArray)]).length = m + 1 := by rw [List.length_append, pcsT_length]; have := HM.out; simp; omega
        exact this
      clear own7 hgrow7 hnn7 O6 hO
      go_wp2_with fail
      refine (joinedN (m + 1) g7 c7 _ HL7.out ⟨#[]⟩ _ w3.heap.size HO7.out (by omega) HJ7.out.1 y HJ7.out.2).mono ?_
      rintro e w8 ⟨rfl, hb8⟩
      have hx8 := chain hx7 hb8
      clear HO7 HJ7 HL7 hb8
      go_wp2
      go_ret
      exact ⟨rfl, hx8⟩
def txsT (V : List TB) : List ByteArray := V.map (fun t => (⟨(tabTx t).toArray⟩ : ByteArray))
theorem txsT_length (V : List TB) : (txsT V).length = V.length := List.length_map _
theorem txsT_take (V : List TB) (k : Nat) (h : k < V.length) : txsT (V.take (k + 1)) = txsT (V.take k) ++ [⟨(tabTx V[k]).toArray⟩] := by
  unfold txsT
  rw [List.take_succ_eq_append_getElem h, List.map_append]; rfl
theorem txsT_flat (V : List TB) : (rawT (txsT V)).flatten = showTx V := by
  unfold rawT txsT showTx
  rw [List.map_map, List.flatMap_def]
  congr 1
set_option maxRecDepth 100000 in
set_option maxHeartbeats 4000000 in
theorem showbase_impl (a : Option Addr) (cap : Nat) (T : List TB) (n0 : Nat) (hn0 : T.length = n0) (w : World) (hrow : TabsAt w a T) (hm : n0 ≤ 1048576) (hp : PowAt w) (y : ByteArray) (hy : showB T = y) :
    Calls Tryz.prog 7 #[.slice a n0 cap] w fun e w' => e = .returned (.string y) ∧ Below w.heap.size w w' := by
  obtain ⟨i0, hti, hz0, hz1, hz2⟩ := info_parts infoStr
  obtain ⟨b, hb⟩ : ∃ b, baseB T = b := ⟨_, rfl⟩
  obtain ⟨V, hV⟩ : ∃ U, (if b then T else []) = U := ⟨_, rfl⟩
  have E : Hid (Calls Tryz.prog 14 #[.slice a n0 cap] w fun e w' => e = .returned (.tuple #[.map (some w.heap.size), .bool b]) ∧ ShelfT w w' w.heap.size n0 V ∧ Below w.heap.size w w') := by
    have := shelf_impl a cap T n0 hn0 w hrow hm b hb
    rw [hV] at this
    exact this
  have hUV : (⟨(showTx V).toArray⟩ : ByteArray) = y ∧ risesN (namesT V) = true ∧ (∀ t, t ∈ V → tableB t = true) ∧ V.length ≤ 5 := by
    unfold showB at hy
    rw [hb] at hy
    cases b
    · simp at hV hy
      subst hV hy
      exact ⟨rfl, rfl, fun t ht => (by cases ht), Nat.zero_le _⟩
    · simp at hV hy
      subst hV hy
      have h := hb
      unfold baseB at h
      simp only [Bool.and_eq_true, decide_eq_true_eq] at h
      exact ⟨rfl, h.1.2, fun t ht => List.all_eq_true.1 h.1.1 t ht, h.2⟩
  obtain ⟨hyV, hri, hok, h5⟩ := hUV
  obtain ⟨n, hn⟩ : ∃ n, V.length = n := ⟨_, rfl⟩
  have hn5 : n ≤ 5 := by rw [← hn]; exact h5
  have HYV : Hid ((⟨(showTx V).toArray⟩ : ByteArray) = y) := hyV
  have HRI : Hid (risesN (namesT V) = true) := hri
  have HOK : Hid (∀ t, t ∈ V → tableB t = true) := hok
  have HN : Hid (V.length = n) := hn
  have HV5 : Hid (V.length ≤ 5) := h5
  have HP : Hid (PowAt w) := hp
  clear hrow hn0 hb hV hy hyV hri hok h5 hn hp
  go_enter Tryz.func7, Tryz.ntmps7
  go_wp2_with fail
  refine E.out.mono ?_
  rintro e w1 ⟨rfl, hS1, hx1⟩
  obtain ⟨hnd, f, hSh, hH⟩ := hS1
  have HSh1 : Hid (ShelfAt w1 w.heap.size n0 (namesT V) f) := hSh
  have HH : Hid (∀ t, t ∈ V → HoldsT w f t) := hH
  have HLV : Hid ((namesT V).length = n) := by
    have : (namesT V).length = n := by rw [namesT_length]; exact HN.out
    exact this
  have hlen := fun ty => hSh.len ty
  rw [HLV.out] at hlen
  have hBw : w.heap.size < w1.heap.size := hSh.lt
  clear hSh hH hnd
  go_wp2_with (at_make; refine wpList_make_own _ rfl _ _ 30 rfl w1.heap.size 9 i0 (.string ⟨#[]⟩) 1 Tryz.underlying30 hti hz0 hz1 .i64 .i64 _ n rfl rfl rfl (by rw [hz2]; omega) (by unfold maxLen; omega) (by simp) ?_)
  intro w2 hown2 hgrow2
  have hb2 : Below w1.heap.size w1 w2 := (Below.refl _ _).grown hgrow2 (Nat.le_refl _) (by intro k h; cases h)
  have own2 : Hid (w2.ownsRow w1.heap.size 9 1 (.slice (some ⟨w1.heap.size, 0, none⟩) 0 n) 0 (strV (txsT (V.take 0)))) := hown2
  have HSh2 : Hid (ShelfAt w2 w.heap.size n0 (namesT V) f) := HSh1.out.below hb2
  have hx2 := chain hx1 hb2
  have hw12 : w1.heap.size < w2.heap.size := (own2.out.lt _ rfl).2
  clear hown2 hgrow2 hlen HSh1 hb2
  go_wp2_with fail
  refine (names_impl w.heap.size n0 (namesT V) f _ HSh2.out (by rw [HLV.out]; omega)).mono ?_
  rintro e w3 ⟨v3, rfl, own3, _, hb3⟩
  rw [srt_is HRI.out (List.Perm.refl _), HLV.out] at own3
  obtain ⟨ga, gc, hv3, hst, _, _⟩ := own_strsF own3 HLV.out
  subst hv3
  have hGN : ∀ b, inBlk ga (namesT V).length b → w2.heap.size ≤ b ∧ b < w3.heap.size := by
    rintro b ⟨_, o, rfl⟩
    exact own3.lt b rfl
  have HGN : Hid (∀ b, inBlk ga (namesT V).length b → w2.heap.size ≤ b ∧ b < w3.heap.size) := hGN
  have HST : Hid (StrsAt w3 ga (namesT V)) := hst
  have HSh3 : Hid (ShelfAt w3 w.heap.size n0 (namesT V) f) := HSh2.out.below hb3
  have own3' : Hid (w3.ownsRow w1.heap.size 9 1 (.slice (some ⟨w1.heap.size, 0, none⟩) 0 n) 0 (strV (txsT (V.take 0)))) := own_below own2.out hb3
  have hx3 := chain hx2 hb3
  have hs23 : w2.heap.size ≤ w3.heap.size := hb3.size
  clear own3 own2 HSh2 hst hb3 hGN hx2 hx1
  go_wp2
  go_loopw [5, 19] (fun v kk wr => ∃ k : Nat, k ≤ n ∧ kk = .int .i64 k ∧ Hid (wr.ownsRow w1.heap.size 9 1 v k (strV (txsT (V.take k)))) ∧ Hid (StrsAt wr ga (namesT V)) ∧ Hid (ShelfAt wr w.heap.size n0 (namesT V) f) ∧ Hid (∀ g, v.ownBlock = some g → g < w2.heap.size ∨ w3.heap.size ≤ g) ∧ Below w.heap.size w wr ∧ w3.heap.size ≤ wr.heap.size ∧ v ≠ .slice none 0 0) (fun _ kk _ => n - (intOf kk).toNat)
  case atStart =>
    have hg : ∀ g, (Value.slice (some ⟨w1.heap.size, 0, none⟩) 0 n).ownBlock = some g → g < w2.heap.size ∨ w3.heap.size ≤ g := by
      intro g hg
      simp [Value.ownBlock] at hg
      omega
    exact ⟨0, Nat.zero_le _, rfl, own3', HST, HSh3, hg, hx3, Nat.le_refl _, by simp⟩
  case round =>
    obtain ⟨k, hk, rfl, hO, hSt, hShr, hGv, hbw, hszr, hvn⟩ := hrel
    by_cases hlt : k < n
    · have hlt' : Hid (k < V.length) := by have := HN.out; exact show k < V.length by omega
      obtain ⟨gn, on, rfl, hgw, c0⟩ := hSt.out k (by rw [namesT_length]; exact hlt'.out)
      rw [namesT_at V k hlt'.out] at c0
      have hi0 : (0 : Int) ≤ (k : Int) := by omega
      have hi1 : (k : Int) < (n : Int) := by omega
      have hmem : (V[k]'hlt'.out) ∈ V := List.getElem_mem hlt'.out
      obtain ⟨ca, cc, ra, cr, hf, hta⟩ := HH.out _ hmem
      have hnmL := hta.name
      have hrun := (hShr.out.found _ hnmL (List.mem_map_of_mem hmem)).1
      rw [hf] at hrun
      have HTA : Hid (TabAt wr ca cc ra (V[k]'hlt'.out)) := hta.below hbw
      have HTK : Hid (tableB (V[k]'hlt'.out) = true) := HOK.out _ hmem
      have HTX : Hid (txsT (V.take (k + 1)) = txsT (V.take k) ++ [⟨(tabTx (V[k]'hlt'.out)).toArray⟩]) := txsT_take V k hlt'.out
      generalize (V[k]'hlt'.out) = t at c0 hrun HTA HTK HTX
      obtain ⟨z, hz⟩ : ∃ z : ByteArray, (⟨(tabTx t).toArray⟩ : ByteArray) = z := ⟨_, rfl⟩
      have HZ : Hid ((⟨(tabTx t).toArray⟩ : ByteArray) = z) := hz
      obtain ⟨nc, hnc⟩ : ∃ z, t.2.1.length = z := ⟨_, rfl⟩
      obtain ⟨nr, hnr⟩ : ∃ z, t.2.2.length = z := ⟨_, rfl⟩
      obtain ⟨nm, hnm⟩ : ∃ z, t.1 = z := ⟨_, rfl⟩
      rw [hnc, hnr, hnm] at hrun
      rw [hnm] at c0
      have HNC : Hid (t.2.1.length = nc) := hnc
      have HNR : Hid (t.2.2.length = nr) := hnr
      have HNM : Hid (t.1 = nm) := hnm
      clear hf hta hnmL hmem hz hnc hnr hnm
      go_wp2_with fail
      rw [← HNM.out]
      refine (tabletext_impl ca cc ra cr t nc nr HNC.out HNR.out _ HTA.out (HP.out.below hbw) HTK.out z HZ.out).mono ?_
      rintro e w4 ⟨rfl, hb4⟩
      have O4 := own_below hO.out hb4
      have hx4 := chain hbw hb4
      have hs4 : wr.heap.size ≤ w4.heap.size := hb4.size
      have hST4 := hSt.out.below hb4
      have hSH4 := hShr.out.below hb4
      clear hb4 hO c0 HTA hrun hSt hShr
      go_wp2_with (at_builtin; refine wpList_append_own_at _ rfl _ _ 30 rfl w1.heap.size 9 i0 (.string ⟨#[]⟩) 1 16 Tryz.underlying30 hti hz0 hz1 hz2 rfl (by decide) _ _ _ rfl (O4.alloc _) ⟨w4.heap.size, 0, none⟩ 1 1 [.string z] rfl rfl ?c1 ?c2 ?c3 ?c4 ?c5 ?_)
      try (case c1 =>
        intro j u hj
        match j, hj with
        | 0, hj => simp at hj; subst hj; simp [Addr.add])
      try (case c2 => intro u hu; simp at hu; subst hu; rfl)
      case c3 => unfold maxLen; omega
      case c4 => omega
      case c5 => simp; omega
      intro v5 w5 own5 hgrow5 hnn5 hloc5
      have hx5 : Below w.heap.size w w5 := by
        refine (hx4.alloc hx4.size _).grown hgrow5 (by have := hx4.size; simp; omega) ?_
        intro kk hkk
        have := (O4.lt kk hkk).1
        omega
      have hsa : (w4.alloc (.cells #[.string z] 9)).heap.size = w4.heap.size + 1 := by simp
      have hs5 : w3.heap.size ≤ w5.heap.size := by have := hgrow5.size; omega
      have hvn5 : v5 ≠ .slice none 0 0 := by first | exact hnn5 | exact fun e => hvn (hnn5.1 e).1
      have ST5 : Hid (StrsAt w5 (some ⟨gn, on, none⟩) (namesT V)) := by
        have h1 := hST4.below ((Below.refl _ _).alloc (Nat.le_refl _) (.cells #[.string z] 9))
        have : StrsAt w5 (some ⟨gn, on, none⟩) (namesT V) := h1.keepS (KeepS.grown hgrow5) (fun b hb e => by
          have h2 := HGN.out b hb
          have h3 := hGv.out b e.symm
          omega)
        exact this
      have SH5 : Hid (ShelfAt w5 w.heap.size n0 (namesT V) f) := by
        have : ShelfAt w5 w.heap.size n0 (namesT V) f := by
          have h1 := hSH4.below ((Below.refl _ _).alloc (Nat.le_refl _) (.cells #[.string z] 9))
          refine h1.block (hgrow5.block w.heap.size (by rw [hsa]; omega) (fun e => ?_))
          have := (O4.lt _ e.symm).1
          omega
        exact this
      have GV5 : Hid (∀ g, v5.ownBlock = some g → g < w2.heap.size ∨ w3.heap.size ≤ g) := by
        have : ∀ g, v5.ownBlock = some g → g < w2.heap.size ∨ w3.heap.size ≤ g := by
          intro g hg
          rcases hloc5 with e | e
          · rw [e] at hg; exact hGv.out g hg
          · rw [hg] at e
            injection e with e
            omega
        exact this
      have SS : Hid (w5.ownsRow w1.heap.size 9 1 v5 (k + 1) (strV (txsT (V.take (k + 1))))) := by
        have : w5.ownsRow w1.heap.size 9 1 v5 (k + 1) (strV (txsT (V.take (k + 1)))) := by
          rw [HTX.out, HZ.out, show strV (txsT (V.take k) ++ [z]) = strV (txsT (V.take k)) ++ [.string z] from List.map_append]; exact own5
        exact this
      clear own5 hgrow5 hnn5 hloc5 O4 hST4 hSH4 hGv hsa
      go_wp2
      go_roundw
      case rel => exact ⟨k + 1, by omega, by go_num, SS, ST5, SH5, GV5, hx5, hs5, hvn5⟩
      case measure => simp [intOf]; omega
    · have hkl : k = n := by omega
      subst hkl
      have hnn : ¬ (k : Int) < (k : Int) := by omega
      have hOO := hO.out
      rw [show V.take k = V by rw [← HN.out, List.take_length]] at hOO
      rcases hOO.2 with ⟨e, _⟩ | ⟨g7, c7, cur7, e, _⟩
      · exact absurd e hvn
      subst e
      have HO7 : Hid (wr.ownsRow w1.heap.size 9 1 (.slice (some ⟨g7, 0, none⟩) k c7) k (strV (txsT V))) := hOO
      have HJ7 : Hid ((Lib.join (rawT (txsT V)) []).length ≤ 140737488355328 ∧ (⟨(Lib.join (rawT (txsT V)) []).toArray⟩ : ByteArray) = y) := by
        have e : Lib.join (rawT (txsT V)) [] = showTx V := by rw [join_none, txsT_flat]
        have : (Lib.join (rawT (txsT V)) []).length ≤ 140737488355328 ∧ (⟨(Lib.join (rawT (txsT V)) []).toArray⟩ : ByteArray) = y := by
          rw [e]
          exact ⟨by have := showTx_len HOK.out HV5.out V.length; rw [List.take_length] at this; omega, HYV.out⟩
        exact this
      have HL7 : Hid ((txsT V).length = k) := by
        have : (txsT V).length = k := by rw [txsT_length]; exact HN.out
        exact this
      clear hOO hO hSt hShr hGv
      go_wp2_with fail
      refine (joinedN k g7 c7 _ HL7.out ⟨#[]⟩ _ w1.heap.size HO7.out (by omega) HJ7.out.1 y HJ7.out.2).mono ?_
      rintro e w8 ⟨rfl, hb8⟩
      have hx8 := chain hbw hb8
      clear HO7 HJ7 HL7 hb8
      go_wp2
      go_ret
      exact ⟨rfl, hx8⟩
end Go.Proofs.YteamdmcgkpeelalGreatDoor

/-
  The contract of the model's text of a base.
-/
namespace Go.Proofs.YteamdmcgkpeelalGreatDoor
open Go.ChangeShapes Go.WideShapes Go.ChangeAt Go.RowKit
attribute [local go_sem ↓] Go.wp_at_zero Go.wp_at_succ
attribute [local simp] World.cell?_alloc_past World.cell?_alloc_at World.frozen?_alloc_at cell_far cell_off cell_here World.frozen?_alloc_past

set_option maxRecDepth 100000 in
set_option maxHeartbeats 1000000 in
theorem words_specO (n b0 o cap : Nat) (xs : List ByteArray) (hn : xs.length = n) (w : World) (hx : StrsAt w (some ⟨b0, o, none⟩) xs) (hm : xs.length ≤ 1048576) (h14 : ∀ x ∈ xs, x.size ≤ 14) (y : ByteArray) (hy : (⟨(Lib.join (rawT xs) [32]).toArray⟩ : ByteArray) = y) :
    Calls Tryz.prog 11 #[.slice (some ⟨b0, o, none⟩) n cap, .string ⟨#[32]⟩] w fun e w' => e = .returned (.string y) ∧ w' = w := by
  subst hn
  have HX : Hid (StrsAt w (some ⟨b0, o, none⟩) xs) := hx
  have HY : Hid ((⟨(Lib.join (rawT xs) [32]).toArray⟩ : ByteArray) = y) := hy
  have H14 : Hid (∀ x ∈ xs, x.size ≤ 14) := h14
  clear hx hy h14
  go_enter Tryz.func11, Tryz.ntmps11
  go_wp2
  go_loopw [5, 6] (fun s kk wr => ∃ (k : Nat) (b : ByteArray), k ≤ xs.length ∧ kk = .int .i64 k ∧ s = .string b ∧ Hid (b.data.toList = Lib.join (rawT (xs.take k)) [32]) ∧ w = wr) (fun _ kk _ => xs.length - (intOf kk).toNat)
  case atStart => exact ⟨0, _, Nat.zero_le _, rfl, rfl, rfl, rfl⟩
  case round =>
    obtain ⟨k, b, hk, rfl, rfl, hb, rfl⟩ := hrel
    by_cases hlt : k < xs.length
    · obtain ⟨b1, o1, e1, hg, c0⟩ := HX.out k hlt
      cases e1
      have hi0 : (0 : Int) ≤ (k : Int) := by omega
      have hi1 : (k : Int) < (xs.length : Int) := by omega
      have hsz : b.size ≤ 15 * k := by
        rw [Lib.size_eq, hb.out]
        have := join_len (rawT (xs.take k)) (by
          intro z hz
          unfold rawT at hz
          obtain ⟨u, hu, rfl⟩ := List.mem_map.1 hz
          have := H14.out u (List.mem_of_mem_take hu)
          rw [Lib.size_eq] at this
          exact this)
        have hl : (rawT (xs.take k)).length = k := by unfold rawT; rw [List.length_map, List.length_take]; omega
        rw [hl] at this
        exact this
      have hxk : (xs[k]).size ≤ 14 := H14.out _ (List.getElem_mem hlt)
      have htk : rawT (xs.take (k + 1)) = rawT (xs.take k) ++ [(xs[k]).data.toList] := by rw [List.take_succ_eq_append_getElem hlt, rawT_snoc]
      have HT : Hid (rawT (xs.take (k + 1)) = rawT (xs.take k) ++ [(xs[k]).data.toList]) := htk
      clear htk
      by_cases hk0 : k = 0
      · subst hk0
        rw [Nat.add_zero] at c0
        have hb0 : b = ⟨#[]⟩ := bytes_ext hb.out
        have hst : Hid ((⟨#[]⟩ ++ xs[0] : ByteArray).data.toList = Lib.join (rawT (xs.take (0 + 1))) [32]) := by
          have : (⟨#[]⟩ ++ xs[0] : ByteArray).data.toList = Lib.join (rawT (xs.take (0 + 1))) [32] := by
            rw [HT.out, bytes_append]
            show xs[0].data.toList = Lib.join [xs[0].data.toList] [32]
            rw [Lib.join_one]
          exact this
        subst hb0
        generalize xs[0] = x at c0 hxk hst
        have hz1 : ¬ (9223372036854775807 < x.size) := by omega
        clear HT hb
        go_wp2
        go_roundw
        case rel => exact ⟨0 + 1, _, by omega, by go_num, rfl, hst.out, by trivial⟩
        case measure => simp [intOf]; omega
      · have hk1 : 0 < k := by omega
        have hst : Hid ((b ++ ⟨#[32]⟩ ++ xs[k] : ByteArray).data.toList = Lib.join (rawT (xs.take (k + 1))) [32]) := by
          have : (b ++ ⟨#[32]⟩ ++ xs[k] : ByteArray).data.toList = Lib.join (rawT (xs.take (k + 1))) [32] := by
            rw [HT.out, join_snoc _ _ _ (List.ne_nil_of_length_pos (by unfold rawT; rw [List.length_map, List.length_take]; omega)), bytes_append, bytes_append, hb.out]
          exact this
        generalize xs[k] = x at c0 hxk hst
        have hz1 : ¬ (9223372036854775807 < b.size + 1) := by omega
        have hz2 : ¬ (9223372036854775807 < b.size + 1 + x.size) := by omega
        have hz3 : (b ++ ⟨#[32]⟩ : ByteArray).size = b.size + 1 := by rw [ByteArray.size_append]; rfl
        clear HT hb hk0
        go_wp2
        go_roundw
        case rel => exact ⟨k + 1, _, by omega, by go_num, rfl, hst.out, by trivial⟩
        case measure => simp [intOf]; omega
    · have hkl : k = xs.length := by omega
      subst hkl
      have hi1 : ¬ (xs.length : Int) < (xs.length : Int) := by omega
      have e : b = y := by
        rw [← HY.out]
        refine bytes_ext ?_
        rw [hb.out, List.take_length]
      subst e
      go_wp2
      go_ret
      exact ⟨rfl, rfl⟩

theorem add_txt (x y z : ByteArray) (h : x ++ y = z) (hx : x.size ≤ 100000) (hy : y.size ≤ 100000) (w : World) : (binOp .add 9 (.string x) (.string y)).run Tryz.prog w = .ok (.string z) w := by
  have h1 : ¬ (9223372036854775807 < x.size + y.size) := by omega
  subst h
  go_simp
theorem head_split {t : TB} (h : 0 < t.2.1.length) : headTx t = t.1.data.toList ++ [32] ++ Lib.join (rawT t.2.1) [32] := by
  unfold headTx rawT
  cases hc : t.2.1 with
  | nil => rw [hc] at h; simp at h
  | cons x C =>
    rw [List.map_cons, Lib.join_cons, Lib.join_cons]
    simp [Lib.joinTail]
theorem l4rowN (n : Nat) (a : Option Addr) (cap : Nat) (l : List CT) (hn : l.length = n) (w : World) (hrow : RowAt w a l) (hall : l.all okC = true) (hm : n ≤ 1048576) (y : ByteArray) (hy : rowT l = y) :
    Calls Tryz.prog 12 #[.slice a n cap] w fun e w' => e = .returned (.string y) ∧ Below w.heap.size w w' := by
  subst hn; exact l4row_spec a cap l w hrow hall hm y hy
theorem size_of {x : ByteArray} {l : List UInt8} (h : x.data.toList = l) : x.size = l.length := by rw [Lib.size_eq, h]

set_option maxRecDepth 100000 in
set_option maxHeartbeats 8000000 in
theorem showbase_spec (a : Option Addr) (cap : Nat) (T : List TB) (n : Nat) (hn : T.length = n) (w : World) (hrow : TabsAt w a T) (hm : n ≤ 1048576) (y : ByteArray) (hy : showB T = y) :
    Calls Tryz.prog 5 #[.slice a n cap] w fun e w' => e = .returned (.string y) ∧ Below w.heap.size w w' := by
  have HR : Hid (TabsAt w a T) := hrow
  have HN : Hid (T.length = n) := hn
  have HY : Hid (showB T = y) := hy
  obtain ⟨b, hb⟩ : ∃ b, baseB T = b := ⟨_, rfl⟩
  have HB : Hid (baseB T = b) := hb
  have hmL : n ≤ maxLen := by unfold maxLen; omega
  have HOK : Hid (b = true → (∀ t, t ∈ T → tableB t = true) ∧ T.length ≤ 5) := by
    have : b = true → (∀ t, t ∈ T → tableB t = true) ∧ T.length ≤ 5 := by
      intro e
      have h := hb
      rw [e] at h
      unfold baseB at h
      simp only [Bool.and_eq_true, decide_eq_true_eq] at h
      exact ⟨fun t ht => List.all_eq_true.1 h.1.1 t ht, h.2⟩
    exact this
  clear hrow hn hy hb
  go_enter Tryz.func5, Tryz.ntmps5
  go_wp2
  go_loopw [3, 4] (fun s ii wr => ∃ (i : Nat) (bt : ByteArray), i ≤ n ∧ ii = .int .i64 i ∧ s = .string bt ∧ Hid (bt.data.toList = showTx (T.take i)) ∧ Hid (b = false → i = 0) ∧ Below w.heap.size w wr) (fun _ ii _ => n - (intOf ii).toNat)
  case atStart => exact ⟨0, _, Nat.zero_le _, rfl, rfl, rfl, fun _ => rfl, Below.refl _ _⟩
  case round =>
    obtain ⟨i, bt, hi, rfl, rfl, HBT, HI0, hbw⟩ := hrel
    by_cases hlt : i < n
    · have hi0 : (0 : Int) ≤ (i : Int) := by omega
      have hi1 : (i : Int) < (n : Int) := by omega
      cases b
      · have e0 := HI0.out rfl
        have ey : bt = y := by
          rw [← HY.out]
          unfold showB
          rw [if_neg (by rw [HB.out]; simp)]
          have h := HBT.out
          rw [e0] at h
          exact bytes_ext h
        subst ey
        clear e0
        go_wp2_with fail
        refine (base_spec a cap T n HN.out _ (HR.out.below hbw) hmL false HB.out).mono ?_
        rintro e w1 ⟨rfl, hb1⟩
        have hx1 := chain hbw hb1
        go_wp2
        go_ret
        exact ⟨rfl, hx1⟩
      · obtain ⟨hok, h5⟩ := HOK.out rfl
        have hlt' : Hid (i < T.length) := by have := HN.out; exact show i < T.length by omega
        have HTK : Hid (tableB (T[i]'hlt'.out) = true) := hok _ (List.getElem_mem hlt'.out)
        have HTX : Hid (showTx (T.take (i + 1)) = showTx (T.take i) ++ tabTx (T[i]'hlt'.out)) := showTx_take T i hlt'.out
        have hbtS : bt.size ≤ 28135 := by rw [size_of HBT.out]; exact showTx_len hok h5 i
        go_wp2_with fail
        refine (base_spec a cap T n HN.out _ (HR.out.below hbw) hmL true HB.out).mono ?_
        rintro e w1 ⟨rfl, hb1⟩
        have hx1 := chain hbw hb1
        obtain ⟨g, o, ca, cc, ra, cr, rfl, hgw, c0, c1, c2, hta⟩ := HR.out.below hx1 i hlt'.out
        generalize (T[i]'hlt'.out) = t at c0 c1 c2 hta HTK HTX
        obtain ⟨q1, q2, q3, q4, q5⟩ := tableB_parts HTK.out
        have hnc1 : 0 < t.2.1.length := by
          have h := HTK.out
          unfold tableB namesB at h
          simp only [Bool.and_eq_true, decide_eq_true_eq] at h
          have := h.1.2.1.2.1
          omega
        obtain ⟨bC, oC, eC, hbC, hcc⟩ := hta.cols 0 hnc1
        subst eC
        clear hcc
        have HTA : Hid (TabAt w1 (some ⟨bC, oC, none⟩) cc ra t) := hta
        have HQ5 : Hid (∀ r, r ∈ t.2.2 → r.all okC = true ∧ r.length ≤ 6) := q5
        have HHS : Hid (headTx t = t.1.data.toList ++ [32] ++ Lib.join (rawT t.2.1) [32]) := head_split hnc1
        obtain ⟨nc, hnc⟩ : ∃ z, t.2.1.length = z := ⟨_, rfl⟩
        obtain ⟨nr, hnr⟩ : ∃ z, t.2.2.length = z := ⟨_, rfl⟩
        obtain ⟨nm, hnm⟩ : ∃ z, t.1 = z := ⟨_, rfl⟩
        rw [hnm] at c0 q1 HHS
        rw [hnc] at c1 q2
        rw [hnr] at c2 q4
        have HNC : Hid (t.2.1.length = nc) := hnc
        have HNR : Hid (t.2.2.length = nr) := hnr
        have H14 : Hid (∀ x ∈ t.2.1, x.size ≤ 14) := by
          have : ∀ x ∈ t.2.1, x.size ≤ 14 := fun x hx => by have := q3 x hx; omega
          exact this
        obtain ⟨wd, hwd⟩ : ∃ z : ByteArray, (⟨(Lib.join (rawT t.2.1) [32]).toArray⟩ : ByteArray) = z := ⟨_, rfl⟩
        have HWD : Hid ((⟨(Lib.join (rawT t.2.1) [32]).toArray⟩ : ByteArray) = wd) := hwd
        have hwdL : wd.data.toList = Lib.join (rawT t.2.1) [32] := by rw [← hwd]
        have hwdS : wd.size ≤ 105 := by
          have h := headTx_len HTK.out
          rw [HHS.out] at h
          rw [size_of hwdL]
          simp only [List.length_append] at h
          omega
        have z32 : (⟨#[32]⟩ : ByteArray).size = 1 := rfl
        have m1 : (bt ++ nm : ByteArray).size = bt.size + nm.size := by rw [ByteArray.size_append]
        have m2 : (bt ++ nm ++ ⟨#[32]⟩ : ByteArray).size = bt.size + nm.size + 1 := by rw [ByteArray.size_append, m1, z32]
        have m3 : (bt ++ nm ++ ⟨#[32]⟩ ++ wd : ByteArray).size = bt.size + nm.size + 1 + wd.size := by rw [ByteArray.size_append, m2]
        have n1 : ¬ (9223372036854775807 < bt.size + nm.size) := by omega
        have n2 : ¬ (9223372036854775807 < bt.size + nm.size + 1) := by omega
        have n3 : ¬ (9223372036854775807 < bt.size + nm.size + 1 + wd.size) := by omega
        have n4 : ¬ (9223372036854775807 < bt.size + nm.size + 1 + wd.size + 1) := by omega
        have HS4 : Hid ((bt ++ nm ++ ⟨#[32]⟩ ++ wd ++ ⟨#[58]⟩ : ByteArray).data.toList = showTx (T.take i) ++ headTx t ++ [58] ++ (t.2.2.take 0).flatMap rowTx) := by
          have : (bt ++ nm ++ ⟨#[32]⟩ ++ wd ++ ⟨#[58]⟩ : ByteArray).data.toList = showTx (T.take i) ++ headTx t ++ [58] ++ (t.2.2.take 0).flatMap rowTx := by
            rw [HHS.out, bytes_append, bytes_append, bytes_append, bytes_append, HBT.out, hwdL]
            simp
          exact this
        have HRL : Hid (∀ k, (showTx (T.take i) ++ headTx t ++ [58] ++ (t.2.2.take k).flatMap rowTx).length ≤ 33762) := by
          have : ∀ k, (showTx (T.take i) ++ headTx t ++ [58] ++ (t.2.2.take k).flatMap rowTx).length ≤ 33762 := fun k => by
            have g1 := showTx_len hok h5 i
            have g2 := headTx_len HTK.out
            have g3 := rowsTx_len HTK.out k
            simp only [List.length_append, List.length_cons, List.length_nil]
            omega
          exact this
        clear hta hok h5 q1 q3 q5 hnc1 hnc hnr hnm hwd hwdL hb1 hbw HBT z32
        go_wp2_with fail
        refine wp_region_held_drew (S := (fun w' => w'.cell? ⟨g, o + i * 3, none⟩ = some (.string nm) ∧ w'.cell? ⟨g, o + i * 3 + 1, none⟩ = some (.slice (some ⟨bC, oC, none⟩) nc cc))) (by kernel_rfl) ?_ (fun hHeld => ?_)
        · exact ⟨c0, c1⟩
        refine wpAnyH_take (i := 0) (by simp only [List.getElem?_toArray, List.getElem?_cons_zero]; rfl) (by kernel_rfl) (by kernel_rfl) (by kernel_rfl) (by intro _ _ _ h; exact h) (Or.inl ⟨by rfl, fun w hSw => by (dsimp only at hSw; go_simp; (try with_reducible rfl))⟩) (by assumption) ?_
        simp only [Act.put, List.setIfInBounds_toArray, List.set_cons_zero, List.set_cons_succ]
        refine wpAnyH_take (i := 1) (by simp only [List.getElem?_toArray, List.getElem?_cons_zero, List.getElem?_cons_succ]; rfl) (by kernel_rfl) (by kernel_rfl) (by kernel_rfl) (by intro _ _ _ h; exact h) (Or.inl ⟨by rfl, fun w hSw => by (dsimp only at hSw; go_simp; (try with_reducible rfl))⟩) (by assumption) ?_
        simp only [Act.put, List.setIfInBounds_toArray, List.set_cons_zero, List.set_cons_succ]
        refine wpAnyH_take (i := 2) (by simp only [List.getElem?_toArray, List.getElem?_cons_zero, List.getElem?_cons_succ]; rfl) (by kernel_rfl) (by kernel_rfl) (by kernel_rfl) (by intro _ _ _ h; exact h) (Or.inl ⟨by rfl, fun w hSw => by (dsimp only at hSw; go_simp; (try with_reducible rfl))⟩) (by assumption) ?_
        simp only [Act.put, List.setIfInBounds_toArray, List.set_cons_zero, List.set_cons_succ]
        refine wpAnyH_take (i := 3) (by simp only [List.getElem?_toArray, List.getElem?_cons_zero, List.getElem?_cons_succ]; rfl) (by kernel_rfl) (by kernel_rfl) (by kernel_rfl) (by intro _ _ _ h; exact h) (Or.inl ⟨by rfl, fun w hSw => by (dsimp only at hSw; go_simp; (try with_reducible rfl))⟩) (by assumption) ?_
        simp only [Act.put, List.setIfInBounds_toArray, List.set_cons_zero, List.set_cons_succ]
        refine wpAnyH_take (i := 4) (by simp only [List.getElem?_toArray, List.getElem?_cons_zero, List.getElem?_cons_succ]; rfl) (by kernel_rfl) (by kernel_rfl) (by kernel_rfl) (by intro _ _ _ h; exact h) (Or.inl ⟨by rfl, fun w hSw => by (dsimp only at hSw; go_simp; (try with_reducible rfl))⟩) (by assumption) ?_
        simp only [Act.put, List.setIfInBounds_toArray, List.set_cons_zero, List.set_cons_succ]
        refine wpAnyH_take (i := 5) (by simp only [List.getElem?_toArray, List.getElem?_cons_zero, List.getElem?_cons_succ]; rfl) (by kernel_rfl) (by kernel_rfl) (by kernel_rfl) (by intro _ _ _ h; exact h) (Or.inl ⟨by rfl, fun w hSw => by (dsimp only at hSw; go_simp; (try with_reducible rfl))⟩) (by assumption) ?_
        simp only [Act.put, List.setIfInBounds_toArray, List.set_cons_zero, List.set_cons_succ]
        refine wpAnyH_take (i := 6) (by simp only [List.getElem?_toArray, List.getElem?_cons_zero, List.getElem?_cons_succ]; rfl) (by kernel_rfl) (by kernel_rfl) (by kernel_rfl) (by intro _ _ _ h; exact h) (Or.inl ⟨by rfl, fun w hSw => by (dsimp only at hSw; go_simp; (try with_reducible rfl))⟩) (by assumption) ?_
        simp only [Act.put, List.setIfInBounds_toArray, List.set_cons_zero, List.set_cons_succ]
        refine wpAnyH_take (i := 7) (by simp only [List.getElem?_toArray, List.getElem?_cons_zero, List.getElem?_cons_succ]; rfl) (by kernel_rfl) (by kernel_rfl) (by kernel_rfl) (by intro _ _ _ h; exact h) (Or.inl ⟨by rfl, fun w hSw => by (dsimp only at hSw; go_simp; (try with_reducible rfl))⟩) (by assumption) ?_
        simp only [Act.put, List.setIfInBounds_toArray, List.set_cons_zero, List.set_cons_succ]
        refine wpAnyH_take (i := 8) (by simp only [List.getElem?_toArray, List.getElem?_cons_zero, List.getElem?_cons_succ]; rfl) (by kernel_rfl) (by kernel_rfl) (by kernel_rfl) (by intro _ _ _ h; exact h) (Or.inl ⟨by rfl, fun w hSw => by (dsimp only at hSw; go_simp; (try with_reducible rfl))⟩) (by assumption) ?_
        simp only [Act.put, List.setIfInBounds_toArray, List.set_cons_zero, List.set_cons_succ]
        refine wpAnyH_take (i := 9) (by simp only [List.getElem?_toArray, List.getElem?_cons_zero, List.getElem?_cons_succ]; rfl) (by kernel_rfl) (by kernel_rfl) (by kernel_rfl) (by intro _ _ _ h; exact h) (Or.inl ⟨by rfl, fun w hSw => by (dsimp only at hSw; go_simp; (try with_reducible rfl))⟩) (by assumption) ?_
        simp only [Act.put, List.setIfInBounds_toArray, List.set_cons_zero, List.set_cons_succ]
        refine wpAnyH_take (i := 10) (by simp only [List.getElem?_toArray, List.getElem?_cons_zero, List.getElem?_cons_succ]; rfl) (by kernel_rfl) (by kernel_rfl) (by kernel_rfl) (by intro _ _ _ h; exact h) (Or.inl ⟨by rfl, fun w hSw => by (dsimp only at hSw; go_simp; (try with_reducible rfl))⟩) (by assumption) ?_
        simp only [Act.put, List.setIfInBounds_toArray, List.set_cons_zero, List.set_cons_succ]
        refine wpAnyH_take (i := 11) (by simp only [List.getElem?_toArray, List.getElem?_cons_zero, List.getElem?_cons_succ]; rfl) (by kernel_rfl) (by kernel_rfl) (by kernel_rfl) (by intro _ _ _ h; exact h) (Or.inl ⟨by rfl, fun w hSw => by (dsimp only at hSw; go_simp; (try with_reducible rfl))⟩) (by assumption) ?_
        simp only [Act.put, List.setIfInBounds_toArray, List.set_cons_zero, List.set_cons_succ]
        refine wpAnyH_take (i := 12) (by simp only [List.getElem?_toArray, List.getElem?_cons_zero, List.getElem?_cons_succ]; rfl) (by kernel_rfl) (by kernel_rfl) (by kernel_rfl) (by intro _ _ _ h; exact h) (Or.inl ⟨by rfl, fun w hSw => by (dsimp only at hSw; go_simp; (try with_reducible rfl))⟩) (by assumption) ?_
        simp only [Act.put, List.setIfInBounds_toArray, List.set_cons_zero, List.set_cons_succ]
        refine wpAnyH_ready (rs := [13]) (by kernel_rfl) (by simp) ?_
        refine AllReadyH.cons (by simp only [List.getElem?_toArray, List.getElem?_cons_zero, List.getElem?_cons_succ]; rfl) ?_ AllReadyH.nil
        intro K hK
        go_simp
        refine (words_specO nc bC oC cc t.2.1 HNC.out _ (HTA.out.cols.below (Below.refl _ _).drew) (by rw [HNC.out]; omega) H14.out wd HWD.out).mono ?_
        rintro e w2 ⟨rfl, rfl⟩
        go_wp2_with fail
        refine hK.out _ _ ⟨c0, c1⟩ (fun hHeld => ?_)
        clear hK K
        try simp only [Act.put, List.setIfInBounds_toArray, List.set_cons_zero, List.set_cons_succ]
        refine wpAnyH_take (i := 14) (by simp only [List.getElem?_toArray, List.getElem?_cons_zero, List.getElem?_cons_succ]; rfl) (by kernel_rfl) (by kernel_rfl) (by kernel_rfl) (by intro _ _ _ h; exact h) (Or.inl ⟨by rfl, fun w hSw => by (dsimp only at hSw; go_simp; (try with_reducible rfl))⟩) (by assumption) ?_
        simp only [Act.put, List.setIfInBounds_toArray, List.set_cons_zero, List.set_cons_succ]
        refine wpAnyH_take (i := 15) (by simp only [List.getElem?_toArray, List.getElem?_cons_zero, List.getElem?_cons_succ]; rfl) (by kernel_rfl) (by kernel_rfl) (by kernel_rfl) (by intro _ _ _ h; exact h) (Or.inl ⟨by rfl, fun w hSw => by (dsimp only at hSw; go_simp; (try with_reducible rfl))⟩) (by assumption) ?_
        simp only [Act.put, List.setIfInBounds_toArray, List.set_cons_zero, List.set_cons_succ]
        refine wpAnyH_take (i := 16) (by simp only [List.getElem?_toArray, List.getElem?_cons_zero, List.getElem?_cons_succ]; rfl) (by kernel_rfl) (by kernel_rfl) (by kernel_rfl) (by intro _ _ _ h; exact h) (Or.inl ⟨by rfl, fun w hSw => by (dsimp only at hSw; go_simp; (try with_reducible rfl))⟩) (by assumption) ?_
        simp only [Act.put, List.setIfInBounds_toArray, List.set_cons_zero, List.set_cons_succ]
        refine wpAnyH_done (by kernel_rfl) ?_ _
        have hx1d : Below w.heap.size w w1.drew := hx1.drew
        have HTA1 : Hid (TabAt w1.drew (some ⟨bC, oC, none⟩) cc ra t) := HTA.out.below (Below.refl _ _).drew
        have c2' : w1.drew.cell? ⟨g, o + i * 3 + 2, none⟩ = some (.slice ra nr cr) := c2
        have hgw' : g < w1.drew.heap.size := hgw
        generalize w1.drew = w3 at hx1d HTA1 c2' hgw' ⊢
        clear c0 c1 c2 m1 m2 m3 n1 n2 n3 n4 HTA hx1 hgw
        go_wp2
        go_loopw [3, 5] (fun s kk wr => ∃ (k : Nat) (b2 : ByteArray), k ≤ nr ∧ kk = .int .i64 k ∧ s = .string b2 ∧ Hid (b2.data.toList = showTx (T.take i) ++ headTx t ++ [58] ++ (t.2.2.take k).flatMap rowTx) ∧ Below w3.heap.size w3 wr) (fun _ kk _ => nr - (intOf kk).toNat)
        case atStart => exact ⟨0, _, Nat.zero_le _, rfl, rfl, HS4, Below.refl _ _⟩
        case round =>
          obtain ⟨k, b2, hk, rfl, rfl, HB2, hbr⟩ := hrel
          have d2 : wr.cell? ⟨g, o + i * 3 + 2, none⟩ = some (.slice ra nr cr) := by rw [hbr.cell (p := ⟨g, _, none⟩) hgw']; exact c2'
          have hb2S : b2.size ≤ 33762 := by rw [size_of HB2.out]; exact HRL.out k
          by_cases hltk : k < nr
          · have hltk' : Hid (k < t.2.2.length) := by have := HNR.out; exact show k < t.2.2.length by omega
            obtain ⟨gr, or_, ai, ci, rfl, hgrw, d0, hrow, hfit, hlen, _⟩ := (HTA1.out.rows.below hbr) k hltk'.out
            have hk0 : (0 : Int) ≤ (k : Int) := by omega
            have hk1 : (k : Int) < (nr : Int) := by omega
            obtain ⟨hro, hr6⟩ := HQ5.out _ (List.getElem_mem hltk'.out)
            have HRT : Hid ((t.2.2.take (k + 1)).flatMap rowTx = (t.2.2.take k).flatMap rowTx ++ rowTx (t.2.2[k]'hltk'.out)) := rowTx_take t.2.2 k hltk'.out
            have HRW : Hid (RowAt wr ai (t.2.2[k]'hltk'.out) ∧ (t.2.2[k]'hltk'.out).all okC = true) := ⟨hrow, hro⟩
            have hz90 := rowT_len hro hr6
            generalize (t.2.2[k]'hltk'.out) = row at d0 HRT HRW hr6 hz90
            obtain ⟨nl, hnl⟩ : ∃ x, row.length = x := ⟨_, rfl⟩
            rw [hnl] at d0
            have HNL : Hid (row.length = nl) := hnl
            have hnl6 : nl ≤ 6 := by rw [← hnl]; exact hr6
            obtain ⟨z, hz⟩ : ∃ z, rowT row = z := ⟨_, rfl⟩
            have HZ : Hid (rowT row = z) := hz
            have hzS : z.size ≤ 90 := by rw [← hz, Lib.size_eq]; exact hz90
            have m5 : (b2 ++ ⟨#[10, 32]⟩ : ByteArray).size = b2.size + 2 := by rw [ByteArray.size_append]; rfl
            have n5 : ¬ (9223372036854775807 < b2.size + 2) := by omega
            have n6 : ¬ (9223372036854775807 < b2.size + 2 + z.size) := by omega
            have HB3 : Hid ((b2 ++ ⟨#[10, 32]⟩ ++ z : ByteArray).data.toList = showTx (T.take i) ++ headTx t ++ [58] ++ (t.2.2.take (k + 1)).flatMap rowTx) := by
              have : (b2 ++ ⟨#[10, 32]⟩ ++ z : ByteArray).data.toList = showTx (T.take i) ++ headTx t ++ [58] ++ (t.2.2.take (k + 1)).flatMap rowTx := by
                rw [bytes_append, bytes_append, HB2.out, HRT.out, ← hz]
                unfold rowTx
                simp
              exact this
            clear hrow hfit hlen hro hr6 hz90 hnl hz HB2
            go_wp2_with fail
            refine (l4rowN nl ai ci row HNL.out _ HRW.out.1 HRW.out.2 (by omega) z HZ.out).mono ?_
            rintro e w4 ⟨rfl, hb4⟩
            have hbr4 := chain hbr hb4
            clear hb4 hbr d0 d2 HRW
            go_wp2
            go_roundw
            case rel => exact ⟨k + 1, _, by omega, by go_num, rfl, HB3, hbr4⟩
            case measure => simp [intOf]; omega
          · have hkl : k = nr := by omega
            subst hkl
            have hnk : ¬ (k : Int) < (k : Int) := by omega
            have n7 : ¬ (9223372036854775807 < b2.size + 1) := by omega
            have HB5 : Hid ((b2 ++ ⟨#[10]⟩ : ByteArray).data.toList = showTx (T.take (i + 1))) := by
              have : (b2 ++ ⟨#[10]⟩ : ByteArray).data.toList = showTx (T.take (i + 1)) := by
                rw [bytes_append, HB2.out, HTX.out, show t.2.2.take k = t.2.2 by rw [← HNR.out, List.take_length]]
                unfold tabTx
                simp
              exact this
            have hx9 := chain hx1d hbr
            clear HB2 hbr
            go_wp2
            go_roundw
            case rel => exact ⟨i + 1, _, by omega, by go_num, rfl, HB5, fun e => (by cases e), hx9⟩
            case measure => simp [intOf]; omega
    · have hkl : i = n := by omega
      subst hkl
      have hnn : ¬ (i : Int) < (i : Int) := by omega
      have ey : bt = y := by
        rw [← HY.out]
        unfold showB
        refine bytes_ext ?_
        rw [HBT.out, show T.take i = T by rw [← HN.out, List.take_length]]
        cases b
        · have e0 := HI0.out rfl
          have hT : T = [] := List.eq_nil_of_length_eq_zero (by rw [HN.out]; exact e0)
          subst hT
          rfl
        · rw [if_pos HB.out]
      subst ey
      go_wp2
      go_ret
      exact ⟨rfl, hbw⟩
end Go.Proofs.YteamdmcgkpeelalGreatDoor
