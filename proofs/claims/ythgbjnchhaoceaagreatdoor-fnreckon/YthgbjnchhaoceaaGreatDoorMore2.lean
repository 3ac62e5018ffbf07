/-
  A part of the proof: SumDraw1.
-/
import Derived.Test.YthgbjnchhaoceaaGreatDoorMore1
import Derived.Test.YthgbjnchhaoceaaGreatDoorPart2

/-
  The contracts of the model's draws of sums: lists of items in new memory, the cursor as it lay.
-/
namespace Go.Proofs.YthgbjnchhaoceaaGreatDoor
open Go.ChangeShapes Go.WideShapes Go.ChangeAt Go.RowKit
attribute [local go_sem ↓] Go.wp_at_zero Go.wp_at_succ
attribute [local simp] World.cell?_alloc_past World.cell?_alloc_at World.frozen?_alloc_at cell_far cell_off cell_here World.frozen?_alloc_past

theorem cell8_draw {w : World} {c : Nat} {a : Option Addr} {len cap : Nat} (h : Cur w c a len cap) :
    Calls Tryz.prog 68 #[.pointer (some ⟨c, 0, none⟩)] w fun e w' => ∃ (k n : Int) (t : ByteArray), e = .returned (.agg #[.int .i64 k, .int .i64 n, .string t]) ∧ t.size ≤ maxLen ∧ Cur w' c a len cap ∧ Keep c w w' := by
  have hcw := h.lt
  have HC : Hid (Cur w c a len cap) := h
  clear h
  go_enter Tryz.func68, Tryz.ntmps68
  go_wp2_with fail
  refine (once_draw (HC.out.alloc _) 8 (by omega) (by omega)).mono ?_
  rintro e w1 ⟨bb, rfl, hc1, hk1⟩
  have B1 : Hid (Has3 w1 w.heap.size (.int .i64 0) (.int .i64 0) (.string ⟨#[]⟩)) := (Has3.new w _ _ _ _).keep hk1 (by omega)
  have K1 : Hid (Keep c w w1) := ((Keep.refl c w).alloc _).trans hk1
  have C1 : Hid (Cur w1 c a len cap) := hc1
  clear hc1 hk1
  cases bb
  · go_wp2_with fail
    refine (below_draw C1.out 9 (by omega) (by omega)).mono ?_
    rintro e w2 ⟨x, rfl, hx0, hx1, hc2, hk2⟩
    obtain ⟨⟨p0, p1, p2, p3⟩, f0, f1, f2⟩ := B1.out.keep hk2 (by omega)
    have K2 : Hid (Keep c w w2) := K1.out.trans hk2
    have C2 : Hid (Cur w2 c a len cap) := hc2
    clear hc2 hk2 B1 C1 K1
    go_wp2
    refine bodyPost_ret (v := .agg #[.int .i64 1, .int .i64 (x - 2), .string ⟨#[]⟩]) (by simp [results, Tryz.results68, go_sem, p0, p1, p2]) rfl ⟨1, x - 2, ⟨#[]⟩, rfl, by decide, ?_, ?_⟩
    · repeat (first | exact C2.out | refine Cur.setAbove ?_ (by omega) _)
    · repeat (first | exact K2.out | refine Keep.setCell ?_ (Or.inr (Nat.le_refl _)) _)
  · go_wp2_with fail
    refine (cell_draw C1.out).mono ?_
    rintro e w2 ⟨k, n, t, rfl, ht, hc2, hk2⟩
    obtain ⟨⟨p0, p1, p2, p3⟩, f0, f1, f2⟩ := B1.out.keep hk2 (by omega)
    have K2 : Hid (Keep c w w2) := K1.out.trans hk2
    have C2 : Hid (Cur w2 c a len cap) := hc2
    clear hc2 hk2 B1 C1 K1
    go_wp2
    refine bodyPost_ret (v := .agg #[.int .i64 k, .int .i64 n, .string t]) (by simp [results, Tryz.results68, go_sem, p0, p1, p2]) rfl ⟨k, n, t, rfl, ht, ?_, ?_⟩
    · repeat (first | exact C2.out | refine Cur.setAbove ?_ (by omega) _)
    · repeat (first | exact K2.out | refine Keep.setCell ?_ (Or.inr (Nat.le_refl _)) _)

/-- Items that were drawn: their texts are short. -/
def FitD (l : List TI) : Prop := ∀ x ∈ l, x.2.1.2.2.size ≤ maxLen ∧ x.2.2.size ≤ 1048576
/-- A list of items in memory of its own, from that place on. -/
def DrawnI (w : World) (B : Nat) (v : Value) (l : List TI) : Prop := w.ownsRow B 69 5 v l.length (flatItm l) ∧ v ≠ .slice none 0 0
theorem own_keepI {w w' : World} {c base : Nat} {e : TypeId} {size n : Nat} {v : Value} {xs : List Value} (h : w.ownsRow base e size v n xs) (hk : Keep c w w') (hc : c < base) : w'.ownsRow base e size v n xs := by
  refine ⟨h.1, ?_⟩
  rcases h.2 with h' | ⟨g, cap, cur, rfl, hbg, hg, hr⟩
  · exact .inl h'
  · have hlt : g < w.heap.size := (h.lt g rfl).2
    exact .inr ⟨g, cap, cur, rfl, hbg, by rw [hk.block g hlt (by omega)]; exact hg, hr⟩
theorem DrawnI.keep {w w' : World} {c B : Nat} {v : Value} {l : List TI} (h : DrawnI w B v l) (hk : Keep c w w') (hc : c < B) : DrawnI w' B v l := ⟨own_keepI h.1 hk hc, h.2⟩
theorem DrawnI.form {w : World} {B : Nat} {v : Value} {l : List TI} (h : DrawnI w B v l) : ∃ g c, v = .slice (some ⟨g, 0, none⟩) l.length c := by
  rcases h.1.2 with ⟨h', _⟩ | ⟨g, c, cur, h', _⟩
  · exact absurd h' h.2
  · exact ⟨g, c, h'⟩
theorem drawn_one {w : World} {B : Nat} (x : TI) (hB : B ≤ w.heap.size) : DrawnI (w.alloc (.cells #[.int .i64 x.1, .int .i64 x.2.1.1, .int .i64 x.2.1.2.1, .string x.2.1.2.2, .string x.2.2] 69)) B (.slice (some ⟨w.heap.size, 0, none⟩) 1 1) [x] :=
  ⟨⟨rfl, .inr ⟨w.heap.size, 1, _, rfl, hB, by show (w.heap.push _)[w.heap.size]? = _; simp; rfl, Nat.le_refl _, by unfold maxLen; omega, rfl, rfl⟩⟩, by simp⟩
theorem DrawnI.mono {w : World} {B B' : Nat} {v : Value} {l : List TI} (h : DrawnI w B v l) (hB : B' ≤ B) : DrawnI w B' v l := by
  refine ⟨⟨h.1.1, ?_⟩, h.2⟩
  rcases h.1.2 with h' | ⟨g, cap, cur, h1, hb, h2⟩
  · exact .inl h'
  · exact .inr ⟨g, cap, cur, h1, by omega, h2⟩
theorem DrawnI.app {w : World} {B n : Nat} {v : Value} {l m : List TI} (h : w.ownsRow B 69 5 v n (flatItm l ++ flatItm m)) (hn : l.length + m.length = n) (h0 : 0 < n) : DrawnI w B v (l ++ m) := by
  refine ⟨by rw [List.length_append, hn, flatItm_append]; exact h, ?_⟩
  rintro rfl
  rcases h.2 with ⟨_, h'⟩ | ⟨g, cap, cur, h', _⟩
  · omega
  · cases h'
theorem FitD.app {l m : List TI} (h : FitD l) (k : FitD m) : FitD (l ++ m) := fun x hx => by
  rcases List.mem_append.1 hx with hx | hx
  · exact h x hx
  · exact k x hx
theorem fitD_op (k : Int) : FitD [opI k] := fun x hx => by
  rw [List.mem_singleton] at hx
  subst hx
  exact ⟨Nat.zero_le _, Nat.zero_le _⟩
theorem flat_cellsI {w : World} {B g c : Nat} {l : List TI} (h : DrawnI w B (.slice (some ⟨g, 0, none⟩) l.length c) l) : ∀ (j : Nat) u, (flatItm l)[j]? = some u → w.cell? ((⟨g, 0, none⟩ : Addr).add j) = some u := fun j u hj => by
  have hlt : j < (flatItm l).length := by
    by_cases hl : j < (flatItm l).length
    · exact hl
    · rw [List.getElem?_eq_none (by omega)] at hj; cases hj
  rw [flatItm_length] at hlt
  have := h.1.cellAt j hlt
  have e : (⟨g, 0, none⟩ : Addr).add j = ⟨g, j, none⟩ := by
    unfold Addr.add
    by_cases hj0 : j = 0 <;> simp [hj0]
  rw [e, this, hj]
theorem flat_oneI {l : List TI} : ∀ u ∈ flatItm l, u.oneCell' = true := by
  induction l with
  | nil => intro u hu; simp [flatItm] at hu
  | cons x l ih =>
    intro u hu
    unfold flatItm at hu
    simp only [List.mem_cons] at hu
    rcases hu with rfl | rfl | rfl | rfl | rfl | hu
    all_goals first | rfl | exact ih u hu
theorem strs_keepC {w w' : World} {c : Nat} {a : Option Addr} {l : List ByteArray} (h : StrsAt w a l) (hk : Keep c w w') (hne : ∀ b o, a = some ⟨b, o, none⟩ → b ≠ c) : StrsAt w' a l := by
  intro j hj
  obtain ⟨b, o, ha, hlt, h0⟩ := h j hj
  exact ⟨b, o, ha, Nat.lt_of_lt_of_le hlt hk.size, by rw [hk.cell hlt (hne b o ha)]; exact h0⟩
def DrawnSum (w : World) (c : Nat) (a : Option Addr) (len cap m : Nat) (e : Ending) (w' : World) : Prop := ∃ v l, e = .returned v ∧ DrawnI w' w.heap.size v l ∧ 1 ≤ l.length ∧ l.length ≤ m ∧ FitD l ∧ Cur w' c a len cap ∧ Keep c w w'
set_option maxRecDepth 100000 in
set_option maxHeartbeats 8000000 in
theorem sum_draw {a : Option Addr} {len cap : Nat} {c : Nat} (d : Nat) : ∀ (truth : Bool) (w : World) (names : List ByteArray) (na : Option Addr) (nn nc : Nat), names.length = nn → 0 < nn → nn ≤ 200 → (∀ x ∈ names, x.size ≤ 1048576) → StrsAt w na names → (∀ b o, na = some ⟨b, o, none⟩ → b ≠ c) → (truth = true → 1 ≤ d) → d ≤ 3 → Cur w c a len cap →
    Calls Tryz.prog 65 #[.pointer (some ⟨c, 0, none⟩), .slice na nn nc, .bool truth, .int .i64 (d : Int)] w (DrawnSum w c a len cap (2 ^ (d + 1) - 1)) := by
  obtain ⟨i0, hti, hz0, hz1, hz2⟩ := info_parts infoItm5
  induction d with
  | zero =>
    intro truth w names na nn nc hnn hn0 hn2 hsz hS hne ht hd hcur
    obtain rfl : truth = false := by cases truth with | true => exact absurd (ht rfl) (by omega) | false => rfl
    have HC : Hid (Cur w c a len cap) := hcur
    have HS : Hid (StrsAt w na names) := hS
    have HNN : Hid (names.length = nn) := hnn
    have HSZ : Hid (∀ x ∈ names, x.size ≤ 1048576) := hsz
    have HNE : Hid (∀ b o, na = some ⟨b, o, none⟩ → b ≠ c) := hne
    have hcw := hcur.lt
    clear hcur hS hnn hsz hne
    go_enter Tryz.func65, Tryz.ntmps65
    go_wp2_with fail
    refine (below_draw HC.out (nn : Int) (by omega) (by omega)).mono ?_
    rintro e w1 ⟨x, rfl, hx0, hx1, hc1, hk1⟩
    obtain ⟨i, rfl⟩ : ∃ i : Nat, x = (i : Int) := ⟨x.toNat, by omega⟩
    have hin : i < names.length := by rw [HNN.out]; omega
    obtain ⟨nb, no, hna, hnb, cn⟩ := HS.out i hin
    have hnz := HSZ.out _ (List.getElem_mem hin)
    rw [← hk1.cell hnb (HNE.out _ _ hna)] at cn
    generalize names[i] = nm at cn hnz
    subst hna
    have C1 : Hid (Cur w1 c a len cap) := hc1
    have hcw1 := hc1.lt
    clear hc1
    obtain ⟨V1, hV1⟩ : ∃ V, V = w1.alloc (.cells #[.int .i64 2, .int .i64 0, .int .i64 0, .string ⟨#[]⟩, .string nm] 69) := ⟨_, rfl⟩
    have D1 : Hid (DrawnI V1 w.heap.size (.slice (some ⟨w1.heap.size, 0, none⟩) 1 1) [(2, zeroC, nm)]) := by
      have : DrawnI V1 w.heap.size (.slice (some ⟨w1.heap.size, 0, none⟩) 1 1) [(2, zeroC, nm)] := by rw [hV1]; exact drawn_one (2, zeroC, nm) hk1.size
      exact this
    have C2 : Hid (Cur V1 c a len cap) := by
      have : Cur V1 c a len cap := by rw [hV1]; exact C1.out.alloc _
      exact this
    have hkV : Keep c w V1 := by rw [hV1]; exact hk1.alloc _
    have F1 : Hid (FitD [((2, zeroC, nm) : TI)]) := by
      have : FitD [((2, zeroC, nm) : TI)] := fun x hx => by
        rw [List.mem_singleton] at hx
        subst hx
        exact ⟨Nat.zero_le _, hnz⟩
      exact this
    go_wp2_with fail
    rw [← hV1]
    obtain ⟨gl, hgl⟩ : ∃ g, w1.heap.size = g := ⟨_, rfl⟩
    simp only [hgl] at D1 ⊢
    clear hV1 hk1 C1 cn hgl hcw1 hnb
    refine (once_draw C2.out 3 (by omega) (by omega)).mono ?_
    rintro e w2 ⟨b1, rfl, hc2, hk2⟩
    have C3 : Hid (Cur w2 c a len cap) := hc2
    have D2 : Hid (DrawnI w2 w.heap.size (.slice (some ⟨gl, 0, none⟩) 1 1) [(2, zeroC, nm)]) := D1.out.keep hk2 hcw
    have hkW := hkV.trans hk2
    clear hc2 hk2 D1 C2 hkV
    cases b1
    · obtain ⟨xl, hxl⟩ : ∃ xl : TI, xl = (2, zeroC, nm) := ⟨_, rfl⟩
      rw [← hxl] at D2 F1
      clear hxl hnz
      have DL : Hid (DrawnI w2 w.heap.size (.slice (some ⟨gl, 0, none⟩) 1 1) [xl]) := D2
      have CL : Hid (Cur w2 c a len cap) := C3
      have hkL : Keep c w w2 := hkW
      have FL : Hid (FitD [xl]) := F1
      clear D2 C3 hkW F1
      obtain ⟨gL, rfl⟩ : ∃ g, g = gl := ⟨_, rfl⟩
      obtain ⟨wL, rfl⟩ : ∃ x, x = w2 := ⟨_, rfl⟩
      go_upto_region 4 with fail
      go_wp2
      go_ret
      exact ⟨_, [xl], rfl, DL.out, Nat.le_refl _, Nat.le_refl _, FL.out, CL.out, hkL⟩
    · go_wp2_with fail
      refine (cell8_draw C3.out).mono ?_
      rintro e w3 ⟨ck, cn, ct, rfl, hct, hc4, hk4⟩
      have C4 : Hid (Cur w3 c a len cap) := hc4
      have hk5 := hkW.trans hk4
      have hs5 := hk5.size
      clear D2 C3 F1 hkW hk4 hc4 hnz
      obtain ⟨V4, hV4⟩ : ∃ V, V = w3.alloc (.cells #[.int .i64 1, .int .i64 ck, .int .i64 cn, .string ct, .string ⟨#[]⟩] 69) := ⟨_, rfl⟩
      have DL' : Hid (DrawnI V4 w.heap.size (.slice (some ⟨w3.heap.size, 0, none⟩) 1 1) [(1, (ck, cn, ct), ⟨#[]⟩)]) := by
        have : DrawnI V4 w.heap.size (.slice (some ⟨w3.heap.size, 0, none⟩) 1 1) [(1, (ck, cn, ct), ⟨#[]⟩)] := by rw [hV4]; exact drawn_one (1, (ck, cn, ct), ⟨#[]⟩) hs5
        exact this
      have CL' : Hid (Cur V4 c a len cap) := by
        have : Cur V4 c a len cap := by rw [hV4]; exact C4.out.alloc _
        exact this
      have hkL' : Keep c w V4 := by rw [hV4]; exact hk5.alloc _
      obtain ⟨xl, hxl⟩ : ∃ xl : TI, xl = (1, (ck, cn, ct), ⟨#[]⟩) := ⟨_, rfl⟩
      have FL : Hid (FitD [xl]) := by
        have : FitD [xl] := fun x hx => by
          rw [List.mem_singleton] at hx
          subst hx
          rw [hxl]
          exact ⟨hct, Nat.zero_le _⟩
        exact this
      rw [← hxl] at DL'
      go_upto_region 4 with fail
      rw [← hV4]
      clear hV4 hxl hct C4 hk5 hs5
      obtain ⟨gL, hgL⟩ : ∃ g, w3.heap.size = g := ⟨_, rfl⟩
      simp only [hgL] at DL' ⊢
      clear hgL
      obtain ⟨wL, rfl⟩ : ∃ x, x = V4 := ⟨_, rfl⟩
      have DL : Hid (DrawnI wL w.heap.size (.slice (some ⟨gL, 0, none⟩) 1 1) [xl]) := DL'
      have CL : Hid (Cur wL c a len cap) := CL'
      have hkL : Keep c w wL := hkL'
      clear DL' CL' hkL'
      go_wp2
      go_ret
      exact ⟨_, [xl], rfl, DL.out, Nat.le_refl _, Nat.le_refl _, FL.out, CL.out, hkL⟩
  | succ d ih =>
    intro truth w names na nn nc hnn hn0 hn2 hsz hS hne ht hd hcur
    have hd1 : ((d + 1 : Nat) : Int) - 1 = (d : Int) := by omega
    have hd0 : ¬ ((d + 1 : Nat) : Int) ≤ 0 := by omega
    have hdp : 2 ^ (d + 1 + 1) - 1 = 2 * (2 ^ (d + 1) - 1) + 1 := by
      have : 2 ^ (d + 1 + 1) = 2 * 2 ^ (d + 1) := by rw [Nat.pow_succ 2 (d + 1)]; omega
      have h2 : 1 ≤ 2 ^ (d + 1) := Nat.one_le_two_pow
      omega
    obtain ⟨P, hP⟩ : ∃ P, 2 ^ (d + 1) - 1 = P := ⟨_, rfl⟩
    have hP15 : 1 ≤ P ∧ P ≤ 15 := by
      have : d = 0 ∨ d = 1 ∨ d = 2 := by omega
      rcases this with rfl | rfl | rfl <;> omega
    rw [hdp, hP]
    simp only [hP] at ih
    clear hdp hP
    obtain ⟨D, hD⟩ : ∃ D : Int, ((d + 1 : Nat) : Int) = D := ⟨_, rfl⟩
    rw [hD] at hd1 hd0 ⊢
    cases truth
    · clear ht
      have HC : Hid (Cur w c a len cap) := hcur
      have HS : Hid (StrsAt w na names) := hS
      have HNN : Hid (names.length = nn) := hnn
      have HSZ : Hid (∀ x ∈ names, x.size ≤ 1048576) := hsz
      have HNE : Hid (∀ b o, na = some ⟨b, o, none⟩ → b ≠ c) := hne
      have hcw := hcur.lt
      clear hcur hS hnn hsz hne
      go_enter Tryz.func65, Tryz.ntmps65
      go_wp2_with fail
      refine (below_draw HC.out (nn : Int) (by omega) (by omega)).mono ?_
      rintro e w1 ⟨x, rfl, hx0, hx1, hc1, hk1⟩
      obtain ⟨i, rfl⟩ : ∃ i : Nat, x = (i : Int) := ⟨x.toNat, by omega⟩
      have hin : i < names.length := by rw [HNN.out]; omega
      obtain ⟨nb, no, hna, hnb, cn⟩ := HS.out i hin
      have hnz := HSZ.out _ (List.getElem_mem hin)
      rw [← hk1.cell hnb (HNE.out _ _ hna)] at cn
      generalize names[i] = nm at cn hnz
      subst hna
      have C1 : Hid (Cur w1 c a len cap) := hc1
      have hcw1 := hc1.lt
      clear hc1
      obtain ⟨V1, hV1⟩ : ∃ V, V = w1.alloc (.cells #[.int .i64 2, .int .i64 0, .int .i64 0, .string ⟨#[]⟩, .string nm] 69) := ⟨_, rfl⟩
      have D1 : Hid (DrawnI V1 w.heap.size (.slice (some ⟨w1.heap.size, 0, none⟩) 1 1) [(2, zeroC, nm)]) := by
        have : DrawnI V1 w.heap.size (.slice (some ⟨w1.heap.size, 0, none⟩) 1 1) [(2, zeroC, nm)] := by rw [hV1]; exact drawn_one (2, zeroC, nm) hk1.size
        exact this
      have C2 : Hid (Cur V1 c a len cap) := by
        have : Cur V1 c a len cap := by rw [hV1]; exact C1.out.alloc _
        exact this
      have hkV : Keep c w V1 := by rw [hV1]; exact hk1.alloc _
      have F1 : Hid (FitD [((2, zeroC, nm) : TI)]) := by
        have : FitD [((2, zeroC, nm) : TI)] := fun x hx => by
          rw [List.mem_singleton] at hx
          subst hx
          exact ⟨Nat.zero_le _, hnz⟩
        exact this
      go_wp2_with fail
      rw [← hV1]
      obtain ⟨gl, hgl⟩ : ∃ g, w1.heap.size = g := ⟨_, rfl⟩
      simp only [hgl] at D1 ⊢
      clear hV1 hk1 C1 cn hgl hcw1 hnb
      refine (once_draw C2.out 3 (by omega) (by omega)).mono ?_
      rintro e w2 ⟨b1, rfl, hc2, hk2⟩
      have C3 : Hid (Cur w2 c a len cap) := hc2
      have D2 : Hid (DrawnI w2 w.heap.size (.slice (some ⟨gl, 0, none⟩) 1 1) [(2, zeroC, nm)]) := D1.out.keep hk2 hcw
      have hkW := hkV.trans hk2
      clear hc2 hk2 D1 C2 hkV
      cases b1
      · obtain ⟨xl, hxl⟩ : ∃ xl : TI, xl = (2, zeroC, nm) := ⟨_, rfl⟩
        rw [← hxl] at D2 F1
        clear hxl hnz
        have DL : Hid (DrawnI w2 w.heap.size (.slice (some ⟨gl, 0, none⟩) 1 1) [xl]) := D2
        have CL : Hid (Cur w2 c a len cap) := C3
        have hkL : Keep c w w2 := hkW
        have FL : Hid (FitD [xl]) := F1
        clear D2 C3 hkW F1
        obtain ⟨gL, rfl⟩ : ∃ g, g = gl := ⟨_, rfl⟩
        obtain ⟨wL, rfl⟩ : ∃ x, x = w2 := ⟨_, rfl⟩
        go_upto_region 4 with fail
        go_wp2_with fail
        refine (once_draw CL.out 2 (by omega) (by omega)).mono ?_
        rintro e w4 ⟨b2, rfl, hc4, hk4⟩
        have Cw4 : Hid (Cur w4 c a len cap) := hc4
        have DL4 : Hid (DrawnI w4 w.heap.size (.slice (some ⟨gL, 0, none⟩) 1 1) [xl]) := DL.out.keep hk4 hcw
        have hkw4 := hkL.trans hk4
        clear hc4 hk4 DL CL hkL
        cases b2
        · have S5 := strs_keepC HS.out hkw4 HNE.out
          go_wp2_with fail
          refine (ih false w4 names _ nn nc HNN.out hn0 hn2 HSZ.out S5 HNE.out (fun h => by cases h) (by omega) Cw4.out).mono ?_
          rintro e w5 ⟨v5, l5, rfl, hD5, h5a, h5b, hF5, hc5, hk5⟩
          have D5 : Hid (DrawnI w5 w.heap.size v5 l5) := hD5.mono hkw4.size
          have C5 : Hid (Cur w5 c a len cap) := hc5
          have F5 : Hid (FitD l5) := hF5
          have hkB := hkw4.trans hk5
          have S6 := strs_keepC HS.out hkB HNE.out
          clear hD5 hc5 hF5 hk5 S5
          go_wp2_with fail
          refine (ih false w5 names _ nn nc HNN.out hn0 hn2 HSZ.out S6 HNE.out (fun h => by cases h) (by omega) C5.out).mono ?_
          rintro e w6 ⟨v6, l6, rfl, hD6, h6a, h6b, hF6, hc6, hk6⟩
          have D56 : Hid (DrawnI w6 w.heap.size v5 l5) := D5.out.keep hk6 hcw
          have D6 : Hid (DrawnI w6 w.heap.size v6 l6) := hD6.mono hkB.size
          have C6 : Hid (Cur w6 c a len cap) := hc6
          have F6 : Hid (FitD l6) := hF6
          have hkC := hkB.trans hk6
          obtain ⟨g5, c5, rfl⟩ := D56.out.form
          obtain ⟨g6, c6, rfl⟩ := D6.out.form
          clear hD6 hc6 hF6 hk6 S6 D5 C5 hkB
          obtain ⟨n5, hn5⟩ : ∃ n, l5.length = n := ⟨_, rfl⟩
          obtain ⟨n6, hn6⟩ : ∃ n, l6.length = n := ⟨_, rfl⟩
          have HN5 : Hid (l5.length = n5) := hn5
          have HN6 : Hid (l6.length = n6) := hn6
          have O5 : Hid (w6.ownsRow w.heap.size 69 5 (.slice (some ⟨g5, 0, none⟩) n5 c5) n5 (flatItm l5)) := by
            have := D56.out.1; rw [hn5] at this; exact this
          have O6 : Hid (w6.ownsRow w.heap.size 69 5 (.slice (some ⟨g6, 0, none⟩) n6 c6) n6 (flatItm l6)) := by
            have := D6.out.1; rw [hn6] at this; exact this
          have FC6 : Hid (∀ (j : Nat) u, (flatItm l6)[j]? = some u → w6.cell? ((⟨g6, 0, none⟩ : Addr).add j) = some u) := flat_cellsI D6.out
          have hc65 : n6 ≤ c6 := by
            rcases O6.out.2 with ⟨h', _⟩ | ⟨_, _, _, h', _, _, h3, _⟩
            · cases h'
            · cases h'; exact h3
          rw [hn5] at h5a h5b ⊢
          rw [hn6] at h6a h6b ⊢
          have hsz6 := hkC.size
          clear hn5 hn6 D56 D6
          go_wp2_with (at_builtin; refine wpList_append_own _ rfl _ _ 24 rfl w.heap.size 69 i0 (.agg #[.int .i64 0, .int .i64 0, .int .i64 0, .string ⟨#[]⟩, .string ⟨#[]⟩]) 5 56 Tryz.underlying24 hti hz0 hz1 hz2 rfl (by decide) _ _ _ rfl O5.out ⟨g6, 0, none⟩ n6 c6 (flatItm l6) rfl (by rw [flatItm_length, HN6.out]) FC6.out flat_oneI (by unfold maxLen; omega) (by omega) hsz6 ?_)
          intro v7 w7 own7 hgrow hnn
          have D7 : Hid (DrawnI w7 w.heap.size v7 (l5 ++ l6)) := DrawnI.app own7 (by rw [HN5.out, HN6.out]) (by omega)
          have hb67 : Below w.heap.size w6 w7 := (Below.refl _ _).grown hgrow hsz6 (fun kk hkk => (O5.out.lt kk hkk).1)
          have C7 : Hid (Cur w7 c a len cap) := C6.out.far hb67 hcw
          have hk7 : Keep c w w7 := hkC.far hb67 (Nat.le_refl _)
          have F7 : Hid (FitD (l5 ++ l6)) := FitD.app F5.out F6.out
          obtain ⟨gq, cq, hv7⟩ := D7.out.form
          subst hv7
          obtain ⟨nq, hnq⟩ : ∃ n, (l5 ++ l6).length = n := ⟨_, rfl⟩
          have hnq2 : nq ≤ 2 * P := by rw [← hnq, List.length_append, HN5.out, HN6.out]; omega
          have HNQ : Hid ((l5 ++ l6).length = nq) := hnq
          rw [hnq] at D7 ⊢
          obtain ⟨lq, hlq⟩ : ∃ l, l5 ++ l6 = l := ⟨_, rfl⟩
          rw [hlq] at D7 F7 HNQ
          clear own7 hgrow hnn O5 O6 FC6 C6 hkC hb67 hnq hlq F5 F6 HN5 HN6 hsz6 hc65
          go_wp2_with fail
          refine (below_draw C7.out 4 (by omega) (by omega)).mono ?_
          rintro e w8 ⟨x, rfl, hx0, hx1, hc8, hk8⟩
          have D8 : Hid (DrawnI w8 w.heap.size (.slice (some ⟨gq, 0, none⟩) nq cq) lq) := D7.out.keep hk8 hcw
          have C8 : Hid (Cur w8 c a len cap) := hc8
          have hkD := hk7.trans hk8
          clear D7 C7 hk7 hc8 hk8
          have OQ : Hid (w8.ownsRow w.heap.size 69 5 (.slice (some ⟨gq, 0, none⟩) nq cq) nq (flatItm (lq))) := by
            have := D8.out.1; rw [HNQ.out] at this; exact this
          have hszq := hkD.size
          go_wp2_with (at_builtin; refine wpList_append_own _ rfl _ _ 24 rfl w.heap.size 69 i0 (.agg #[.int .i64 0, .int .i64 0, .int .i64 0, .string ⟨#[]⟩, .string ⟨#[]⟩]) 5 56 Tryz.underlying24 hti hz0 hz1 hz2 rfl (by decide) _ _ _ rfl (OQ.out.alloc _) ⟨w8.heap.size, 0, none⟩ 1 1 [.int .i64 (3 + x), .int .i64 0, .int .i64 0, .string ⟨#[]⟩, .string ⟨#[]⟩] rfl rfl (cells5I w8 _ _ _ _ _) (by intro u hu; simp at hu; rcases hu with rfl | rfl | rfl | rfl | rfl <;> rfl) (by unfold maxLen; omega) (by omega) (by simp; omega) ?_)
          intro v9 w9 own9 hgrow9 hnn9
          have D9 : Hid (DrawnI w9 w.heap.size v9 ((lq) ++ [opI (3 + x)])) := DrawnI.app (m := [opI (3 + x)]) own9 (by rw [HNQ.out]; rfl) (by omega)
          have hb9 : Below w.heap.size (w8.alloc (.cells #[.int .i64 (3 + x), .int .i64 0, .int .i64 0, .string ⟨#[]⟩, .string ⟨#[]⟩] 69)) w9 := (Below.refl _ _).grown hgrow9 (by simp; omega) (fun kk hkk => (OQ.out.lt kk hkk).1)
          have C9 : Hid (Cur w9 c a len cap) := (C8.out.alloc _).far hb9 hcw
          have hk9 : Keep c w w9 := (hkD.alloc _).far hb9 (Nat.le_refl _)
          have F9 : Hid (FitD ((lq) ++ [opI (3 + x)])) := FitD.app F7.out (fitD_op _)
          have L9 : Hid (1 ≤ ((lq) ++ [opI (3 + x)]).length ∧ ((lq) ++ [opI (3 + x)]).length ≤ 2 * P + 1) := by
            have e : ((lq) ++ [opI (3 + x)]).length = nq + 1 := by rw [List.length_append, HNQ.out]; rfl
            have : 1 ≤ ((lq) ++ [opI (3 + x)]).length ∧ ((lq) ++ [opI (3 + x)]).length ≤ 2 * P + 1 := by rw [e]; omega
            exact this
          obtain ⟨g9, c9, hv9⟩ := D9.out.form
          subst hv9
          clear own9 hgrow9 hnn9 hb9 OQ
          go_wp2
          go_ret
          exact ⟨_, _, rfl, D9.out, L9.out.1, L9.out.2, F9.out, C9.out, hk9⟩
        · go_wp2
          go_ret
          exact ⟨_, [xl], rfl, DL4.out, Nat.le_refl _, by simp <;> omega, FL.out, Cw4.out, hkw4⟩
      · go_wp2_with fail
        refine (cell8_draw C3.out).mono ?_
        rintro e w3 ⟨ck, cn, ct, rfl, hct, hc4, hk4⟩
        have C4 : Hid (Cur w3 c a len cap) := hc4
        have hk5 := hkW.trans hk4
        have hs5 := hk5.size
        clear D2 C3 F1 hkW hk4 hc4 hnz
        obtain ⟨V4, hV4⟩ : ∃ V, V = w3.alloc (.cells #[.int .i64 1, .int .i64 ck, .int .i64 cn, .string ct, .string ⟨#[]⟩] 69) := ⟨_, rfl⟩
        have DL' : Hid (DrawnI V4 w.heap.size (.slice (some ⟨w3.heap.size, 0, none⟩) 1 1) [(1, (ck, cn, ct), ⟨#[]⟩)]) := by
          have : DrawnI V4 w.heap.size (.slice (some ⟨w3.heap.size, 0, none⟩) 1 1) [(1, (ck, cn, ct), ⟨#[]⟩)] := by rw [hV4]; exact drawn_one (1, (ck, cn, ct), ⟨#[]⟩) hs5
          exact this
        have CL' : Hid (Cur V4 c a len cap) := by
          have : Cur V4 c a len cap := by rw [hV4]; exact C4.out.alloc _
          exact this
        have hkL' : Keep c w V4 := by rw [hV4]; exact hk5.alloc _
        obtain ⟨xl, hxl⟩ : ∃ xl : TI, xl = (1, (ck, cn, ct), ⟨#[]⟩) := ⟨_, rfl⟩
        have FL : Hid (FitD [xl]) := by
          have : FitD [xl] := fun x hx => by
            rw [List.mem_singleton] at hx
            subst hx
            rw [hxl]
            exact ⟨hct, Nat.zero_le _⟩
          exact this
        rw [← hxl] at DL'
        go_upto_region 4 with fail
        rw [← hV4]
        clear hV4 hxl hct C4 hk5 hs5
        obtain ⟨gL, hgL⟩ : ∃ g, w3.heap.size = g := ⟨_, rfl⟩
        simp only [hgL] at DL' ⊢
        clear hgL
        obtain ⟨wL, rfl⟩ : ∃ x, x = V4 := ⟨_, rfl⟩
        have DL : Hid (DrawnI wL w.heap.size (.slice (some ⟨gL, 0, none⟩) 1 1) [xl]) := DL'
        have CL : Hid (Cur wL c a len cap) := CL'
        have hkL : Keep c w wL := hkL'
        clear DL' CL' hkL'
        go_wp2_with fail
        refine (once_draw CL.out 2 (by omega) (by omega)).mono ?_
        rintro e w4 ⟨b2, rfl, hc4, hk4⟩
        have Cw4 : Hid (Cur w4 c a len cap) := hc4
        have DL4 : Hid (DrawnI w4 w.heap.size (.slice (some ⟨gL, 0, none⟩) 1 1) [xl]) := DL.out.keep hk4 hcw
        have hkw4 := hkL.trans hk4
        clear hc4 hk4 DL CL hkL
        cases b2
        · have S5 := strs_keepC HS.out hkw4 HNE.out
          go_wp2_with fail
          refine (ih false w4 names _ nn nc HNN.out hn0 hn2 HSZ.out S5 HNE.out (fun h => by cases h) (by omega) Cw4.out).mono ?_
          rintro e w5 ⟨v5, l5, rfl, hD5, h5a, h5b, hF5, hc5, hk5⟩
          have D5 : Hid (DrawnI w5 w.heap.size v5 l5) := hD5.mono hkw4.size
          have C5 : Hid (Cur w5 c a len cap) := hc5
          have F5 : Hid (FitD l5) := hF5
          have hkB := hkw4.trans hk5
          have S6 := strs_keepC HS.out hkB HNE.out
          clear hD5 hc5 hF5 hk5 S5
          go_wp2_with fail
          refine (ih false w5 names _ nn nc HNN.out hn0 hn2 HSZ.out S6 HNE.out (fun h => by cases h) (by omega) C5.out).mono ?_
          rintro e w6 ⟨v6, l6, rfl, hD6, h6a, h6b, hF6, hc6, hk6⟩
          have D56 : Hid (DrawnI w6 w.heap.size v5 l5) := D5.out.keep hk6 hcw
          have D6 : Hid (DrawnI w6 w.heap.size v6 l6) := hD6.mono hkB.size
          have C6 : Hid (Cur w6 c a len cap) := hc6
          have F6 : Hid (FitD l6) := hF6
          have hkC := hkB.trans hk6
          obtain ⟨g5, c5, rfl⟩ := D56.out.form
          obtain ⟨g6, c6, rfl⟩ := D6.out.form
          clear hD6 hc6 hF6 hk6 S6 D5 C5 hkB
          obtain ⟨n5, hn5⟩ : ∃ n, l5.length = n := ⟨_, rfl⟩
          obtain ⟨n6, hn6⟩ : ∃ n, l6.length = n := ⟨_, rfl⟩
          have HN5 : Hid (l5.length = n5) := hn5
          have HN6 : Hid (l6.length = n6) := hn6
          have O5 : Hid (w6.ownsRow w.heap.size 69 5 (.slice (some ⟨g5, 0, none⟩) n5 c5) n5 (flatItm l5)) := by
            have := D56.out.1; rw [hn5] at this; exact this
          have O6 : Hid (w6.ownsRow w.heap.size 69 5 (.slice (some ⟨g6, 0, none⟩) n6 c6) n6 (flatItm l6)) := by
            have := D6.out.1; rw [hn6] at this; exact this
          have FC6 : Hid (∀ (j : Nat) u, (flatItm l6)[j]? = some u → w6.cell? ((⟨g6, 0, none⟩ : Addr).add j) = some u) := flat_cellsI D6.out
          have hc65 : n6 ≤ c6 := by
            rcases O6.out.2 with ⟨h', _⟩ | ⟨_, _, _, h', _, _, h3, _⟩
            · cases h'
            · cases h'; exact h3
          rw [hn5] at h5a h5b ⊢
          rw [hn6] at h6a h6b ⊢
          have hsz6 := hkC.size
          clear hn5 hn6 D56 D6
          go_wp2_with (at_builtin; refine wpList_append_own _ rfl _ _ 24 rfl w.heap.size 69 i0 (.agg #[.int .i64 0, .int .i64 0, .int .i64 0, .string ⟨#[]⟩, .string ⟨#[]⟩]) 5 56 Tryz.underlying24 hti hz0 hz1 hz2 rfl (by decide) _ _ _ rfl O5.out ⟨g6, 0, none⟩ n6 c6 (flatItm l6) rfl (by rw [flatItm_length, HN6.out]) FC6.out flat_oneI (by unfold maxLen; omega) (by omega) hsz6 ?_)
          intro v7 w7 own7 hgrow hnn
          have D7 : Hid (DrawnI w7 w.heap.size v7 (l5 ++ l6)) := DrawnI.app own7 (by rw [HN5.out, HN6.out]) (by omega)
          have hb67 : Below w.heap.size w6 w7 := (Below.refl _ _).grown hgrow hsz6 (fun kk hkk => (O5.out.lt kk hkk).1)
          have C7 : Hid (Cur w7 c a len cap) := C6.out.far hb67 hcw
          have hk7 : Keep c w w7 := hkC.far hb67 (Nat.le_refl _)
          have F7 : Hid (FitD (l5 ++ l6)) := FitD.app F5.out F6.out
          obtain ⟨gq, cq, hv7⟩ := D7.out.form
          subst hv7
          obtain ⟨nq, hnq⟩ : ∃ n, (l5 ++ l6).length = n := ⟨_, rfl⟩
          have hnq2 : nq ≤ 2 * P := by rw [← hnq, List.length_append, HN5.out, HN6.out]; omega
          have HNQ : Hid ((l5 ++ l6).length = nq) := hnq
          rw [hnq] at D7 ⊢
          obtain ⟨lq, hlq⟩ : ∃ l, l5 ++ l6 = l := ⟨_, rfl⟩
          rw [hlq] at D7 F7 HNQ
          clear own7 hgrow hnn O5 O6 FC6 C6 hkC hb67 hnq hlq F5 F6 HN5 HN6 hsz6 hc65
          go_wp2_with fail
          refine (below_draw C7.out 4 (by omega) (by omega)).mono ?_
          rintro e w8 ⟨x, rfl, hx0, hx1, hc8, hk8⟩
          have D8 : Hid (DrawnI w8 w.heap.size (.slice (some ⟨gq, 0, none⟩) nq cq) lq) := D7.out.keep hk8 hcw
          have C8 : Hid (Cur w8 c a len cap) := hc8
          have hkD := hk7.trans hk8
          clear D7 C7 hk7 hc8 hk8
          have OQ : Hid (w8.ownsRow w.heap.size 69 5 (.slice (some ⟨gq, 0, none⟩) nq cq) nq (flatItm (lq))) := by
            have := D8.out.1; rw [HNQ.out] at this; exact this
          have hszq := hkD.size
          go_wp2_with (at_builtin; refine wpList_append_own _ rfl _ _ 24 rfl w.heap.size 69 i0 (.agg #[.int .i64 0, .int .i64 0, .int .i64 0, .string ⟨#[]⟩, .string ⟨#[]⟩]) 5 56 Tryz.underlying24 hti hz0 hz1 hz2 rfl (by decide) _ _ _ rfl (OQ.out.alloc _) ⟨w8.heap.size, 0, none⟩ 1 1 [.int .i64 (3 + x), .int .i64 0, .int .i64 0, .string ⟨#[]⟩, .string ⟨#[]⟩] rfl rfl (cells5I w8 _ _ _ _ _) (by intro u hu; simp at hu; rcases hu with rfl | rfl | rfl | rfl | rfl <;> rfl) (by unfold maxLen; omega) (by omega) (by simp; omega) ?_)
          intro v9 w9 own9 hgrow9 hnn9
          have D9 : Hid (DrawnI w9 w.heap.size v9 ((lq) ++ [opI (3 + x)])) := DrawnI.app (m := [opI (3 + x)]) own9 (by rw [HNQ.out]; rfl) (by omega)
          have hb9 : Below w.heap.size (w8.alloc (.cells #[.int .i64 (3 + x), .int .i64 0, .int .i64 0, .string ⟨#[]⟩, .string ⟨#[]⟩] 69)) w9 := (Below.refl _ _).grown hgrow9 (by simp; omega) (fun kk hkk => (OQ.out.lt kk hkk).1)
          have C9 : Hid (Cur w9 c a len cap) := (C8.out.alloc _).far hb9 hcw
          have hk9 : Keep c w w9 := (hkD.alloc _).far hb9 (Nat.le_refl _)
          have F9 : Hid (FitD ((lq) ++ [opI (3 + x)])) := FitD.app F7.out (fitD_op _)
          have L9 : Hid (1 ≤ ((lq) ++ [opI (3 + x)]).length ∧ ((lq) ++ [opI (3 + x)]).length ≤ 2 * P + 1) := by
            have e : ((lq) ++ [opI (3 + x)]).length = nq + 1 := by rw [List.length_append, HNQ.out]; rfl
            have : 1 ≤ ((lq) ++ [opI (3 + x)]).length ∧ ((lq) ++ [opI (3 + x)]).length ≤ 2 * P + 1 := by rw [e]; omega
            exact this
          obtain ⟨g9, c9, hv9⟩ := D9.out.form
          subst hv9
          clear own9 hgrow9 hnn9 hb9 OQ
          go_wp2
          go_ret
          exact ⟨_, _, rfl, D9.out, L9.out.1, L9.out.2, F9.out, C9.out, hk9⟩
        · go_wp2
          go_ret
          exact ⟨_, [xl], rfl, DL4.out, Nat.le_refl _, by simp <;> omega, FL.out, Cw4.out, hkw4⟩
    · have ht1 : 1 ≤ d + 1 := ht rfl
      clear ht
      have HC : Hid (Cur w c a len cap) := hcur
      have HS : Hid (StrsAt w na names) := hS
      have HNN : Hid (names.length = nn) := hnn
      have HSZ : Hid (∀ x ∈ names, x.size ≤ 1048576) := hsz
      have HNE : Hid (∀ b o, na = some ⟨b, o, none⟩ → b ≠ c) := hne
      have hcw := hcur.lt
      clear hcur hS hnn hsz hne
      go_enter Tryz.func65, Tryz.ntmps65
      go_wp2_with fail
      refine (below_draw HC.out (nn : Int) (by omega) (by omega)).mono ?_
      rintro e w1 ⟨x, rfl, hx0, hx1, hc1, hk1⟩
      obtain ⟨i, rfl⟩ : ∃ i : Nat, x = (i : Int) := ⟨x.toNat, by omega⟩
      have hin : i < names.length := by rw [HNN.out]; omega
      obtain ⟨nb, no, hna, hnb, cn⟩ := HS.out i hin
      have hnz := HSZ.out _ (List.getElem_mem hin)
      rw [← hk1.cell hnb (HNE.out _ _ hna)] at cn
      generalize names[i] = nm at cn hnz
      subst hna
      have C1 : Hid (Cur w1 c a len cap) := hc1
      have hcw1 := hc1.lt
      clear hc1
      obtain ⟨V1, hV1⟩ : ∃ V, V = w1.alloc (.cells #[.int .i64 2, .int .i64 0, .int .i64 0, .string ⟨#[]⟩, .string nm] 69) := ⟨_, rfl⟩
      have D1 : Hid (DrawnI V1 w.heap.size (.slice (some ⟨w1.heap.size, 0, none⟩) 1 1) [(2, zeroC, nm)]) := by
        have : DrawnI V1 w.heap.size (.slice (some ⟨w1.heap.size, 0, none⟩) 1 1) [(2, zeroC, nm)] := by rw [hV1]; exact drawn_one (2, zeroC, nm) hk1.size
        exact this
      have C2 : Hid (Cur V1 c a len cap) := by
        have : Cur V1 c a len cap := by rw [hV1]; exact C1.out.alloc _
        exact this
      have hkV : Keep c w V1 := by rw [hV1]; exact hk1.alloc _
      have F1 : Hid (FitD [((2, zeroC, nm) : TI)]) := by
        have : FitD [((2, zeroC, nm) : TI)] := fun x hx => by
          rw [List.mem_singleton] at hx
          subst hx
          exact ⟨Nat.zero_le _, hnz⟩
        exact this
      go_wp2_with fail
      rw [← hV1]
      obtain ⟨gl, hgl⟩ : ∃ g, w1.heap.size = g := ⟨_, rfl⟩
      simp only [hgl] at D1 ⊢
      clear hV1 hk1 C1 cn hgl hcw1 hnb
      refine (once_draw C2.out 3 (by omega) (by omega)).mono ?_
      rintro e w2 ⟨b1, rfl, hc2, hk2⟩
      have C3 : Hid (Cur w2 c a len cap) := hc2
      have D2 : Hid (DrawnI w2 w.heap.size (.slice (some ⟨gl, 0, none⟩) 1 1) [(2, zeroC, nm)]) := D1.out.keep hk2 hcw
      have hkW := hkV.trans hk2
      clear hc2 hk2 D1 C2 hkV
      cases b1
      · obtain ⟨xl, hxl⟩ : ∃ xl : TI, xl = (2, zeroC, nm) := ⟨_, rfl⟩
        rw [← hxl] at D2 F1
        clear hxl hnz
        have DL : Hid (DrawnI w2 w.heap.size (.slice (some ⟨gl, 0, none⟩) 1 1) [xl]) := D2
        have CL : Hid (Cur w2 c a len cap) := C3
        have hkL : Keep c w w2 := hkW
        have FL : Hid (FitD [xl]) := F1
        clear D2 C3 hkW F1
        obtain ⟨gL, rfl⟩ : ∃ g, g = gl := ⟨_, rfl⟩
        obtain ⟨wL, rfl⟩ : ∃ x, x = w2 := ⟨_, rfl⟩
        go_upto_region 4 with fail
        by_cases hdd : 1 < d + 1
        · have hdI : (1 : Int) < D := by omega
          go_wp2_with fail
          refine (once_draw CL.out 3 (by omega) (by omega)).mono ?_
          rintro e w4 ⟨b2, rfl, hc4, hk4⟩
          have Cw4 : Hid (Cur w4 c a len cap) := hc4
          have DLw4 : Hid (DrawnI w4 w.heap.size (.slice (some ⟨gL, 0, none⟩) 1 1) [xl]) := DL.out.keep hk4 hcw
          have hkw4 := hkL.trans hk4
          clear hc4 hk4 DL CL hkL
          cases b2
          · go_wp2_with fail
            refine (once_draw Cw4.out 4 (by omega) (by omega)).mono ?_
            rintro e w10 ⟨b3, rfl, hc10, hk10⟩
            have Cw10 : Hid (Cur w10 c a len cap) := hc10
            have DLw10 : Hid (DrawnI w10 w.heap.size (.slice (some ⟨gL, 0, none⟩) 1 1) [xl]) := DLw4.out.keep hk10 hcw
            have hkw10 := hkw4.trans hk10
            clear hc10 hk10 DLw4 Cw4 hkw4
            cases b3
            · go_wp2_with fail
              refine (once_draw Cw10.out 6 (by omega) (by omega)).mono ?_
              rintro e w14 ⟨b5, rfl, hc14, hk14⟩
              have Cw14 : Hid (Cur w14 c a len cap) := hc14
              have DL14 : Hid (DrawnI w14 w.heap.size (.slice (some ⟨gL, 0, none⟩) 1 1) [xl]) := DLw10.out.keep hk14 hcw
              have hkw14 := hkw10.trans hk14
              clear hc14 hk14 DLw10 Cw10 hkw10
              cases b5
              · have S5 := strs_keepC HS.out hkw14 HNE.out
                go_wp2_with fail
                refine (ih false w14 names _ nn nc HNN.out hn0 hn2 HSZ.out S5 HNE.out (fun h => by cases h) (by omega) Cw14.out).mono ?_
                rintro e w5 ⟨v5, l5, rfl, hD5, h5a, h5b, hF5, hc5, hk5⟩
                have D5 : Hid (DrawnI w5 w.heap.size v5 l5) := hD5.mono hkw14.size
                have C5 : Hid (Cur w5 c a len cap) := hc5
                have F5 : Hid (FitD l5) := hF5
                have hkB := hkw14.trans hk5
                have S6 := strs_keepC HS.out hkB HNE.out
                clear hD5 hc5 hF5 hk5 S5
                go_wp2_with fail
                refine (ih false w5 names _ nn nc HNN.out hn0 hn2 HSZ.out S6 HNE.out (fun h => by cases h) (by omega) C5.out).mono ?_
                rintro e w6 ⟨v6, l6, rfl, hD6, h6a, h6b, hF6, hc6, hk6⟩
                have D56 : Hid (DrawnI w6 w.heap.size v5 l5) := D5.out.keep hk6 hcw
                have D6 : Hid (DrawnI w6 w.heap.size v6 l6) := hD6.mono hkB.size
                have C6 : Hid (Cur w6 c a len cap) := hc6
                have F6 : Hid (FitD l6) := hF6
                have hkC := hkB.trans hk6
                obtain ⟨g5, c5, rfl⟩ := D56.out.form
                obtain ⟨g6, c6, rfl⟩ := D6.out.form
                clear hD6 hc6 hF6 hk6 S6 D5 C5 hkB
                obtain ⟨n5, hn5⟩ : ∃ n, l5.length = n := ⟨_, rfl⟩
                obtain ⟨n6, hn6⟩ : ∃ n, l6.length = n := ⟨_, rfl⟩
                have HN5 : Hid (l5.length = n5) := hn5
                have HN6 : Hid (l6.length = n6) := hn6
                have O5 : Hid (w6.ownsRow w.heap.size 69 5 (.slice (some ⟨g5, 0, none⟩) n5 c5) n5 (flatItm l5)) := by
                  have := D56.out.1; rw [hn5] at this; exact this
                have O6 : Hid (w6.ownsRow w.heap.size 69 5 (.slice (some ⟨g6, 0, none⟩) n6 c6) n6 (flatItm l6)) := by
                  have := D6.out.1; rw [hn6] at this; exact this
                have FC6 : Hid (∀ (j : Nat) u, (flatItm l6)[j]? = some u → w6.cell? ((⟨g6, 0, none⟩ : Addr).add j) = some u) := flat_cellsI D6.out
                have hc65 : n6 ≤ c6 := by
                  rcases O6.out.2 with ⟨h', _⟩ | ⟨_, _, _, h', _, _, h3, _⟩
                  · cases h'
                  · cases h'; exact h3
                rw [hn5] at h5a h5b ⊢
                rw [hn6] at h6a h6b ⊢
                have hsz6 := hkC.size
                clear hn5 hn6 D56 D6
                go_wp2_with (at_builtin; refine wpList_append_own _ rfl _ _ 24 rfl w.heap.size 69 i0 (.agg #[.int .i64 0, .int .i64 0, .int .i64 0, .string ⟨#[]⟩, .string ⟨#[]⟩]) 5 56 Tryz.underlying24 hti hz0 hz1 hz2 rfl (by decide) _ _ _ rfl O5.out ⟨g6, 0, none⟩ n6 c6 (flatItm l6) rfl (by rw [flatItm_length, HN6.out]) FC6.out flat_oneI (by unfold maxLen; omega) (by omega) hsz6 ?_)
                intro v7 w7 own7 hgrow hnn
                have D7 : Hid (DrawnI w7 w.heap.size v7 (l5 ++ l6)) := DrawnI.app own7 (by rw [HN5.out, HN6.out]) (by omega)
                have hb67 : Below w.heap.size w6 w7 := (Below.refl _ _).grown hgrow hsz6 (fun kk hkk => (O5.out.lt kk hkk).1)
                have C7 : Hid (Cur w7 c a len cap) := C6.out.far hb67 hcw
                have hk7 : Keep c w w7 := hkC.far hb67 (Nat.le_refl _)
                have F7 : Hid (FitD (l5 ++ l6)) := FitD.app F5.out F6.out
                obtain ⟨gq, cq, hv7⟩ := D7.out.form
                subst hv7
                obtain ⟨nq, hnq⟩ : ∃ n, (l5 ++ l6).length = n := ⟨_, rfl⟩
                have hnq2 : nq ≤ 2 * P := by rw [← hnq, List.length_append, HN5.out, HN6.out]; omega
                have HNQ : Hid ((l5 ++ l6).length = nq) := hnq
                rw [hnq] at D7 ⊢
                obtain ⟨lq, hlq⟩ : ∃ l, l5 ++ l6 = l := ⟨_, rfl⟩
                rw [hlq] at D7 F7 HNQ
                clear own7 hgrow hnn O5 O6 FC6 C6 hkC hb67 hnq hlq F5 F6 HN5 HN6 hsz6 hc65
                go_wp2_with fail
                refine (below_draw C7.out 2 (by omega) (by omega)).mono ?_
                rintro e w8 ⟨x, rfl, hx0, hx1, hc8, hk8⟩
                have D8 : Hid (DrawnI w8 w.heap.size (.slice (some ⟨gq, 0, none⟩) nq cq) lq) := D7.out.keep hk8 hcw
                have C8 : Hid (Cur w8 c a len cap) := hc8
                have hkD := hk7.trans hk8
                clear D7 C7 hk7 hc8 hk8
                have OQ : Hid (w8.ownsRow w.heap.size 69 5 (.slice (some ⟨gq, 0, none⟩) nq cq) nq (flatItm (lq))) := by
                  have := D8.out.1; rw [HNQ.out] at this; exact this
                have hszq := hkD.size
                go_wp2_with (at_builtin; refine wpList_append_own _ rfl _ _ 24 rfl w.heap.size 69 i0 (.agg #[.int .i64 0, .int .i64 0, .int .i64 0, .string ⟨#[]⟩, .string ⟨#[]⟩]) 5 56 Tryz.underlying24 hti hz0 hz1 hz2 rfl (by decide) _ _ _ rfl (OQ.out.alloc _) ⟨w8.heap.size, 0, none⟩ 1 1 [.int .i64 (7 + x), .int .i64 0, .int .i64 0, .string ⟨#[]⟩, .string ⟨#[]⟩] rfl rfl (cells5I w8 _ _ _ _ _) (by intro u hu; simp at hu; rcases hu with rfl | rfl | rfl | rfl | rfl <;> rfl) (by unfold maxLen; omega) (by omega) (by simp; omega) ?_)
                intro v9 w9 own9 hgrow9 hnn9
                have D9 : Hid (DrawnI w9 w.heap.size v9 ((lq) ++ [opI (7 + x)])) := DrawnI.app (m := [opI (7 + x)]) own9 (by rw [HNQ.out]; rfl) (by omega)
                have hb9 : Below w.heap.size (w8.alloc (.cells #[.int .i64 (7 + x), .int .i64 0, .int .i64 0, .string ⟨#[]⟩, .string ⟨#[]⟩] 69)) w9 := (Below.refl _ _).grown hgrow9 (by simp; omega) (fun kk hkk => (OQ.out.lt kk hkk).1)
                have C9 : Hid (Cur w9 c a len cap) := (C8.out.alloc _).far hb9 hcw
                have hk9 : Keep c w w9 := (hkD.alloc _).far hb9 (Nat.le_refl _)
                have F9 : Hid (FitD ((lq) ++ [opI (7 + x)])) := FitD.app F7.out (fitD_op _)
                have L9 : Hid (1 ≤ ((lq) ++ [opI (7 + x)]).length ∧ ((lq) ++ [opI (7 + x)]).length ≤ 2 * P + 1) := by
                  have e : ((lq) ++ [opI (7 + x)]).length = nq + 1 := by rw [List.length_append, HNQ.out]; rfl
                  have : 1 ≤ ((lq) ++ [opI (7 + x)]).length ∧ ((lq) ++ [opI (7 + x)]).length ≤ 2 * P + 1 := by rw [e]; omega
                  exact this
                obtain ⟨g9, c9, hv9⟩ := D9.out.form
                subst hv9
                clear own9 hgrow9 hnn9 hb9 OQ
                go_wp2
                go_ret
                exact ⟨_, _, rfl, D9.out, L9.out.1, L9.out.2, F9.out, C9.out, hk9⟩
              · obtain ⟨gq, hgq⟩ : ∃ g, g = gL := ⟨_, rfl⟩
                obtain ⟨lq, hlq⟩ : ∃ l, l = [xl] := ⟨_, rfl⟩
                have HNQ : Hid (lq.length = 1) := by rw [hlq]; exact (rfl : [xl].length = 1)
                rw [← hlq] at DL14 FL
                rw [← hgq] at DL14 ⊢
                clear hlq hgq
                have OQ : Hid (w14.ownsRow w.heap.size 69 5 (.slice (some ⟨gq, 0, none⟩) 1 1) 1 (flatItm (lq))) := by
                  have := DL14.out.1; rw [HNQ.out] at this; exact this
                have hszq := hkw14.size
                go_wp2_with (at_builtin; refine wpList_append_own _ rfl _ _ 24 rfl w.heap.size 69 i0 (.agg #[.int .i64 0, .int .i64 0, .int .i64 0, .string ⟨#[]⟩, .string ⟨#[]⟩]) 5 56 Tryz.underlying24 hti hz0 hz1 hz2 rfl (by decide) _ _ _ rfl (OQ.out.alloc _) ⟨w14.heap.size, 0, none⟩ 1 1 [.int .i64 12, .int .i64 0, .int .i64 0, .string ⟨#[]⟩, .string ⟨#[]⟩] rfl rfl (cells5I w14 _ _ _ _ _) (by intro u hu; simp at hu; rcases hu with rfl | rfl | rfl | rfl | rfl <;> rfl) (by unfold maxLen; omega) (by omega) (by simp; omega) ?_)
                intro v9 w9 own9 hgrow9 hnn9
                have D9 : Hid (DrawnI w9 w.heap.size v9 ((lq) ++ [opI 12])) := DrawnI.app (m := [opI 12]) own9 (by rw [HNQ.out]; rfl) (by omega)
                have hb9 : Below w.heap.size (w14.alloc (.cells #[.int .i64 12, .int .i64 0, .int .i64 0, .string ⟨#[]⟩, .string ⟨#[]⟩] 69)) w9 := (Below.refl _ _).grown hgrow9 (by simp; omega) (fun kk hkk => (OQ.out.lt kk hkk).1)
                have C9 : Hid (Cur w9 c a len cap) := (Cw14.out.alloc _).far hb9 hcw
                have hk9 : Keep c w w9 := (hkw14.alloc _).far hb9 (Nat.le_refl _)
                have F9 : Hid (FitD ((lq) ++ [opI 12])) := FitD.app FL.out (fitD_op _)
                have L9 : Hid (1 ≤ ((lq) ++ [opI 12]).length ∧ ((lq) ++ [opI 12]).length ≤ 2 * P + 1) := by
                  have e : ((lq) ++ [opI 12]).length = 1 + 1 := by rw [List.length_append, HNQ.out]; rfl
                  have : 1 ≤ ((lq) ++ [opI 12]).length ∧ ((lq) ++ [opI 12]).length ≤ 2 * P + 1 := by rw [e]; omega
                  exact this
                obtain ⟨g9, c9, hv9⟩ := D9.out.form
                subst hv9
                clear own9 hgrow9 hnn9 hb9 OQ
                go_wp2
                go_ret
                exact ⟨_, _, rfl, D9.out, L9.out.1, L9.out.2, F9.out, C9.out, hk9⟩
            · have S5 := strs_keepC HS.out hkw10 HNE.out
              go_wp2_with fail
              refine (ih true w10 names _ nn nc HNN.out hn0 hn2 HSZ.out S5 HNE.out (fun _ => by omega) (by omega) Cw10.out).mono ?_
              rintro e w5 ⟨v5, lq, rfl, hD5, h5a, h5b, hF5, hc5, hk5⟩
              have D5 : Hid (DrawnI w5 w.heap.size v5 lq) := hD5.mono hkw10.size
              have C5 : Hid (Cur w5 c a len cap) := hc5
              have F5 : Hid (FitD lq) := hF5
              have hkB := hkw10.trans hk5
              obtain ⟨gq, cq, hv5⟩ := D5.out.form
              subst hv5
              obtain ⟨nq, hnq⟩ : ∃ n, lq.length = n := ⟨_, rfl⟩
              have HNQ : Hid (lq.length = nq) := hnq
              rw [hnq] at D5 h5a h5b ⊢
              clear hD5 hc5 hF5 hk5 S5 hnq DLw10
              have OQ : Hid (w5.ownsRow w.heap.size 69 5 (.slice (some ⟨gq, 0, none⟩) nq cq) nq (flatItm (lq))) := by
                have := D5.out.1; rw [HNQ.out] at this; exact this
              have hszq := hkB.size
              go_wp2_with (at_builtin; refine wpList_append_own _ rfl _ _ 24 rfl w.heap.size 69 i0 (.agg #[.int .i64 0, .int .i64 0, .int .i64 0, .string ⟨#[]⟩, .string ⟨#[]⟩]) 5 56 Tryz.underlying24 hti hz0 hz1 hz2 rfl (by decide) _ _ _ rfl (OQ.out.alloc _) ⟨w5.heap.size, 0, none⟩ 1 1 [.int .i64 11, .int .i64 0, .int .i64 0, .string ⟨#[]⟩, .string ⟨#[]⟩] rfl rfl (cells5I w5 _ _ _ _ _) (by intro u hu; simp at hu; rcases hu with rfl | rfl | rfl | rfl | rfl <;> rfl) (by unfold maxLen; omega) (by omega) (by simp; omega) ?_)
              intro v9 w9 own9 hgrow9 hnn9
              have D9 : Hid (DrawnI w9 w.heap.size v9 ((lq) ++ [opI 11])) := DrawnI.app (m := [opI 11]) own9 (by rw [HNQ.out]; rfl) (by omega)
              have hb9 : Below w.heap.size (w5.alloc (.cells #[.int .i64 11, .int .i64 0, .int .i64 0, .string ⟨#[]⟩, .string ⟨#[]⟩] 69)) w9 := (Below.refl _ _).grown hgrow9 (by simp; omega) (fun kk hkk => (OQ.out.lt kk hkk).1)
              have C9 : Hid (Cur w9 c a len cap) := (C5.out.alloc _).far hb9 hcw
              have hk9 : Keep c w w9 := (hkB.alloc _).far hb9 (Nat.le_refl _)
              have F9 : Hid (FitD ((lq) ++ [opI 11])) := FitD.app F5.out (fitD_op _)
              have L9 : Hid (1 ≤ ((lq) ++ [opI 11]).length ∧ ((lq) ++ [opI 11]).length ≤ 2 * P + 1) := by
                have e : ((lq) ++ [opI 11]).length = nq + 1 := by rw [List.length_append, HNQ.out]; rfl
                have : 1 ≤ ((lq) ++ [opI 11]).length ∧ ((lq) ++ [opI 11]).length ≤ 2 * P + 1 := by rw [e]; omega
                exact this
              obtain ⟨g9, c9, hv9⟩ := D9.out.form
              subst hv9
              clear own9 hgrow9 hnn9 hb9 OQ
              go_wp2
              go_ret
              exact ⟨_, _, rfl, D9.out, L9.out.1, L9.out.2, F9.out, C9.out, hk9⟩
          · have S5 := strs_keepC HS.out hkw4 HNE.out
            go_wp2_with fail
            refine (ih true w4 names _ nn nc HNN.out hn0 hn2 HSZ.out S5 HNE.out (fun _ => by omega) (by omega) Cw4.out).mono ?_
            rintro e w5 ⟨v5, l5, rfl, hD5, h5a, h5b, hF5, hc5, hk5⟩
            have D5 : Hid (DrawnI w5 w.heap.size v5 l5) := hD5.mono hkw4.size
            have C5 : Hid (Cur w5 c a len cap) := hc5
            have F5 : Hid (FitD l5) := hF5
            have hkB := hkw4.trans hk5
            have S6 := strs_keepC HS.out hkB HNE.out
            clear hD5 hc5 hF5 hk5 S5
            go_wp2_with fail
            refine (ih true w5 names _ nn nc HNN.out hn0 hn2 HSZ.out S6 HNE.out (fun _ => by omega) (by omega) C5.out).mono ?_
            rintro e w6 ⟨v6, l6, rfl, hD6, h6a, h6b, hF6, hc6, hk6⟩
            have D56 : Hid (DrawnI w6 w.heap.size v5 l5) := D5.out.keep hk6 hcw
            have D6 : Hid (DrawnI w6 w.heap.size v6 l6) := hD6.mono hkB.size
            have C6 : Hid (Cur w6 c a len cap) := hc6
            have F6 : Hid (FitD l6) := hF6
            have hkC := hkB.trans hk6
            obtain ⟨g5, c5, rfl⟩ := D56.out.form
            obtain ⟨g6, c6, rfl⟩ := D6.out.form
            clear hD6 hc6 hF6 hk6 S6 D5 C5 hkB
            obtain ⟨n5, hn5⟩ : ∃ n, l5.length = n := ⟨_, rfl⟩
            obtain ⟨n6, hn6⟩ : ∃ n, l6.length = n := ⟨_, rfl⟩
            have HN5 : Hid (l5.length = n5) := hn5
            have HN6 : Hid (l6.length = n6) := hn6
            have O5 : Hid (w6.ownsRow w.heap.size 69 5 (.slice (some ⟨g5, 0, none⟩) n5 c5) n5 (flatItm l5)) := by
              have := D56.out.1; rw [hn5] at this; exact this
            have O6 : Hid (w6.ownsRow w.heap.size 69 5 (.slice (some ⟨g6, 0, none⟩) n6 c6) n6 (flatItm l6)) := by
              have := D6.out.1; rw [hn6] at this; exact this
            have FC6 : Hid (∀ (j : Nat) u, (flatItm l6)[j]? = some u → w6.cell? ((⟨g6, 0, none⟩ : Addr).add j) = some u) := flat_cellsI D6.out
            have hc65 : n6 ≤ c6 := by
              rcases O6.out.2 with ⟨h', _⟩ | ⟨_, _, _, h', _, _, h3, _⟩
              · cases h'
              · cases h'; exact h3
            rw [hn5] at h5a h5b ⊢
            rw [hn6] at h6a h6b ⊢
            have hsz6 := hkC.size
            clear hn5 hn6 D56 D6
            go_wp2_with (at_builtin; refine wpList_append_own _ rfl _ _ 24 rfl w.heap.size 69 i0 (.agg #[.int .i64 0, .int .i64 0, .int .i64 0, .string ⟨#[]⟩, .string ⟨#[]⟩]) 5 56 Tryz.underlying24 hti hz0 hz1 hz2 rfl (by decide) _ _ _ rfl O5.out ⟨g6, 0, none⟩ n6 c6 (flatItm l6) rfl (by rw [flatItm_length, HN6.out]) FC6.out flat_oneI (by unfold maxLen; omega) (by omega) hsz6 ?_)
            intro v7 w7 own7 hgrow hnn
            have D7 : Hid (DrawnI w7 w.heap.size v7 (l5 ++ l6)) := DrawnI.app own7 (by rw [HN5.out, HN6.out]) (by omega)
            have hb67 : Below w.heap.size w6 w7 := (Below.refl _ _).grown hgrow hsz6 (fun kk hkk => (O5.out.lt kk hkk).1)
            have C7 : Hid (Cur w7 c a len cap) := C6.out.far hb67 hcw
            have hk7 : Keep c w w7 := hkC.far hb67 (Nat.le_refl _)
            have F7 : Hid (FitD (l5 ++ l6)) := FitD.app F5.out F6.out
            obtain ⟨gq, cq, hv7⟩ := D7.out.form
            subst hv7
            obtain ⟨nq, hnq⟩ : ∃ n, (l5 ++ l6).length = n := ⟨_, rfl⟩
            have hnq2 : nq ≤ 2 * P := by rw [← hnq, List.length_append, HN5.out, HN6.out]; omega
            have HNQ : Hid ((l5 ++ l6).length = nq) := hnq
            rw [hnq] at D7 ⊢
            obtain ⟨lq, hlq⟩ : ∃ l, l5 ++ l6 = l := ⟨_, rfl⟩
            rw [hlq] at D7 F7 HNQ
            clear own7 hgrow hnn O5 O6 FC6 C6 hkC hb67 hnq hlq F5 F6 HN5 HN6 hsz6 hc65
            go_wp2_with fail
            refine (below_draw C7.out 2 (by omega) (by omega)).mono ?_
            rintro e w8 ⟨x, rfl, hx0, hx1, hc8, hk8⟩
            have D8 : Hid (DrawnI w8 w.heap.size (.slice (some ⟨gq, 0, none⟩) nq cq) lq) := D7.out.keep hk8 hcw
            have C8 : Hid (Cur w8 c a len cap) := hc8
            have hkD := hk7.trans hk8
            clear D7 C7 hk7 hc8 hk8
            have OQ : Hid (w8.ownsRow w.heap.size 69 5 (.slice (some ⟨gq, 0, none⟩) nq cq) nq (flatItm (lq))) := by
              have := D8.out.1; rw [HNQ.out] at this; exact this
            have hszq := hkD.size
            go_wp2_with (at_builtin; refine wpList_append_own _ rfl _ _ 24 rfl w.heap.size 69 i0 (.agg #[.int .i64 0, .int .i64 0, .int .i64 0, .string ⟨#[]⟩, .string ⟨#[]⟩]) 5 56 Tryz.underlying24 hti hz0 hz1 hz2 rfl (by decide) _ _ _ rfl (OQ.out.alloc _) ⟨w8.heap.size, 0, none⟩ 1 1 [.int .i64 (9 + x), .int .i64 0, .int .i64 0, .string ⟨#[]⟩, .string ⟨#[]⟩] rfl rfl (cells5I w8 _ _ _ _ _) (by intro u hu; simp at hu; rcases hu with rfl | rfl | rfl | rfl | rfl <;> rfl) (by unfold maxLen; omega) (by omega) (by simp; omega) ?_)
            intro v9 w9 own9 hgrow9 hnn9
            have D9 : Hid (DrawnI w9 w.heap.size v9 ((lq) ++ [opI (9 + x)])) := DrawnI.app (m := [opI (9 + x)]) own9 (by rw [HNQ.out]; rfl) (by omega)
            have hb9 : Below w.heap.size (w8.alloc (.cells #[.int .i64 (9 + x), .int .i64 0, .int .i64 0, .string ⟨#[]⟩, .string ⟨#[]⟩] 69)) w9 := (Below.refl _ _).grown hgrow9 (by simp; omega) (fun kk hkk => (OQ.out.lt kk hkk).1)
            have C9 : Hid (Cur w9 c a len cap) := (C8.out.alloc _).far hb9 hcw
            have hk9 : Keep c w w9 := (hkD.alloc _).far hb9 (Nat.le_refl _)
            have F9 : Hid (FitD ((lq) ++ [opI (9 + x)])) := FitD.app F7.out (fitD_op _)
            have L9 : Hid (1 ≤ ((lq) ++ [opI (9 + x)]).length ∧ ((lq) ++ [opI (9 + x)]).length ≤ 2 * P + 1) := by
              have e : ((lq) ++ [opI (9 + x)]).length = nq + 1 := by rw [List.length_append, HNQ.out]; rfl
              have : 1 ≤ ((lq) ++ [opI (9 + x)]).length ∧ ((lq) ++ [opI (9 + x)]).length ≤ 2 * P + 1 := by rw [e]; omega
              exact this
            obtain ⟨g9, c9, hv9⟩ := D9.out.form
            subst hv9
            clear own9 hgrow9 hnn9 hb9 OQ
            go_wp2
            go_ret
            exact ⟨_, _, rfl, D9.out, L9.out.1, L9.out.2, F9.out, C9.out, hk9⟩
        · have hdI : ¬ (1 : Int) < D := by omega
          obtain ⟨w10, rfl⟩ : ∃ x, x = wL := ⟨_, rfl⟩
          have Cw10 : Hid (Cur w10 c a len cap) := CL
          have DLw10 : Hid (DrawnI w10 w.heap.size (.slice (some ⟨gL, 0, none⟩) 1 1) [xl]) := DL
          have hkw10 : Keep c w w10 := hkL
          clear CL DL hkL
          go_wp2_with fail
          refine (once_draw Cw10.out 6 (by omega) (by omega)).mono ?_
          rintro e w14 ⟨b5, rfl, hc14, hk14⟩
          have Cw14 : Hid (Cur w14 c a len cap) := hc14
          have DL14 : Hid (DrawnI w14 w.heap.size (.slice (some ⟨gL, 0, none⟩) 1 1) [xl]) := DLw10.out.keep hk14 hcw
          have hkw14 := hkw10.trans hk14
          clear hc14 hk14 DLw10 Cw10 hkw10
          cases b5
          · have S5 := strs_keepC HS.out hkw14 HNE.out
            go_wp2_with fail
            refine (ih false w14 names _ nn nc HNN.out hn0 hn2 HSZ.out S5 HNE.out (fun h => by cases h) (by omega) Cw14.out).mono ?_
            rintro e w5 ⟨v5, l5, rfl, hD5, h5a, h5b, hF5, hc5, hk5⟩
            have D5 : Hid (DrawnI w5 w.heap.size v5 l5) := hD5.mono hkw14.size
            have C5 : Hid (Cur w5 c a len cap) := hc5
            have F5 : Hid (FitD l5) := hF5
            have hkB := hkw14.trans hk5
            have S6 := strs_keepC HS.out hkB HNE.out
            clear hD5 hc5 hF5 hk5 S5
            go_wp2_with fail
            refine (ih false w5 names _ nn nc HNN.out hn0 hn2 HSZ.out S6 HNE.out (fun h => by cases h) (by omega) C5.out).mono ?_
            rintro e w6 ⟨v6, l6, rfl, hD6, h6a, h6b, hF6, hc6, hk6⟩
            have D56 : Hid (DrawnI w6 w.heap.size v5 l5) := D5.out.keep hk6 hcw
            have D6 : Hid (DrawnI w6 w.heap.size v6 l6) := hD6.mono hkB.size
            have C6 : Hid (Cur w6 c a len cap) := hc6
            have F6 : Hid (FitD l6) := hF6
            have hkC := hkB.trans hk6
            obtain ⟨g5, c5, rfl⟩ := D56.out.form
            obtain ⟨g6, c6, rfl⟩ := D6.out.form
            clear hD6 hc6 hF6 hk6 S6 D5 C5 hkB
            obtain ⟨n5, hn5⟩ : ∃ n, l5.length = n := ⟨_, rfl⟩
            obtain ⟨n6, hn6⟩ : ∃ n, l6.length = n := ⟨_, rfl⟩
            have HN5 : Hid (l5.length = n5) := hn5
            have HN6 : Hid (l6.length = n6) := hn6
            have O5 : Hid (w6.ownsRow w.heap.size 69 5 (.slice (some ⟨g5, 0, none⟩) n5 c5) n5 (flatItm l5)) := by
              have := D56.out.1; rw [hn5] at this; exact this
            have O6 : Hid (w6.ownsRow w.heap.size 69 5 (.slice (some ⟨g6, 0, none⟩) n6 c6) n6 (flatItm l6)) := by
              have := D6.out.1; rw [hn6] at this; exact this
            have FC6 : Hid (∀ (j : Nat) u, (flatItm l6)[j]? = some u → w6.cell? ((⟨g6, 0, none⟩ : Addr).add j) = some u) := flat_cellsI D6.out
            have hc65 : n6 ≤ c6 := by
              rcases O6.out.2 with ⟨h', _⟩ | ⟨_, _, _, h', _, _, h3, _⟩
              · cases h'
              · cases h'; exact h3
            rw [hn5] at h5a h5b ⊢
            rw [hn6] at h6a h6b ⊢
            have hsz6 := hkC.size
            clear hn5 hn6 D56 D6
            go_wp2_with (at_builtin; refine wpList_append_own _ rfl _ _ 24 rfl w.heap.size 69 i0 (.agg #[.int .i64 0, .int .i64 0, .int .i64 0, .string ⟨#[]⟩, .string ⟨#[]⟩]) 5 56 Tryz.underlying24 hti hz0 hz1 hz2 rfl (by decide) _ _ _ rfl O5.out ⟨g6, 0, none⟩ n6 c6 (flatItm l6) rfl (by rw [flatItm_length, HN6.out]) FC6.out flat_oneI (by unfold maxLen; omega) (by omega) hsz6 ?_)
            intro v7 w7 own7 hgrow hnn
            have D7 : Hid (DrawnI w7 w.heap.size v7 (l5 ++ l6)) := DrawnI.app own7 (by rw [HN5.out, HN6.out]) (by omega)
            have hb67 : Below w.heap.size w6 w7 := (Below.refl _ _).grown hgrow hsz6 (fun kk hkk => (O5.out.lt kk hkk).1)
            have C7 : Hid (Cur w7 c a len cap) := C6.out.far hb67 hcw
            have hk7 : Keep c w w7 := hkC.far hb67 (Nat.le_refl _)
            have F7 : Hid (FitD (l5 ++ l6)) := FitD.app F5.out F6.out
            obtain ⟨gq, cq, hv7⟩ := D7.out.form
            subst hv7
            obtain ⟨nq, hnq⟩ : ∃ n, (l5 ++ l6).length = n := ⟨_, rfl⟩
            have hnq2 : nq ≤ 2 * P := by rw [← hnq, List.length_append, HN5.out, HN6.out]; omega
            have HNQ : Hid ((l5 ++ l6).length = nq) := hnq
            rw [hnq] at D7 ⊢
            obtain ⟨lq, hlq⟩ : ∃ l, l5 ++ l6 = l := ⟨_, rfl⟩
            rw [hlq] at D7 F7 HNQ
            clear own7 hgrow hnn O5 O6 FC6 C6 hkC hb67 hnq hlq F5 F6 HN5 HN6 hsz6 hc65
            go_wp2_with fail
            refine (below_draw C7.out 2 (by omega) (by omega)).mono ?_
            rintro e w8 ⟨x, rfl, hx0, hx1, hc8, hk8⟩
            have D8 : Hid (DrawnI w8 w.heap.size (.slice (some ⟨gq, 0, none⟩) nq cq) lq) := D7.out.keep hk8 hcw
            have C8 : Hid (Cur w8 c a len cap) := hc8
            have hkD := hk7.trans hk8
            clear D7 C7 hk7 hc8 hk8
            have OQ : Hid (w8.ownsRow w.heap.size 69 5 (.slice (some ⟨gq, 0, none⟩) nq cq) nq (flatItm (lq))) := by
              have := D8.out.1; rw [HNQ.out] at this; exact this
            have hszq := hkD.size
            go_wp2_with (at_builtin; refine wpList_append_own _ rfl _ _ 24 rfl w.heap.size 69 i0 (.agg #[.int .i64 0, .int .i64 0, .int .i64 0, .string ⟨#[]⟩, .string ⟨#[]⟩]) 5 56 Tryz.underlying24 hti hz0 hz1 hz2 rfl (by decide) _ _ _ rfl (OQ.out.alloc _) ⟨w8.heap.size, 0, none⟩ 1 1 [.int .i64 (7 + x), .int .i64 0, .int .i64 0, .string ⟨#[]⟩, .string ⟨#[]⟩] rfl rfl (cells5I w8 _ _ _ _ _) (by intro u hu; simp at hu; rcases hu with rfl | rfl | rfl | rfl | rfl <;> rfl) (by unfold maxLen; omega) (by omega) (by simp; omega) ?_)
            intro v9 w9 own9 hgrow9 hnn9
            have D9 : Hid (DrawnI w9 w.heap.size v9 ((lq) ++ [opI (7 + x)])) := DrawnI.app (m := [opI (7 + x)]) own9 (by rw [HNQ.out]; rfl) (by omega)
            have hb9 : Below w.heap.size (w8.alloc (.cells #[.int .i64 (7 + x), .int .i64 0, .int .i64 0, .string ⟨#[]⟩, .string ⟨#[]⟩] 69)) w9 := (Below.refl _ _).grown hgrow9 (by simp; omega) (fun kk hkk => (OQ.out.lt kk hkk).1)
            have C9 : Hid (Cur w9 c a len cap) := (C8.out.alloc _).far hb9 hcw
            have hk9 : Keep c w w9 := (hkD.alloc _).far hb9 (Nat.le_refl _)
            have F9 : Hid (FitD ((lq) ++ [opI (7 + x)])) := FitD.app F7.out (fitD_op _)
            have L9 : Hid (1 ≤ ((lq) ++ [opI (7 + x)]).length ∧ ((lq) ++ [opI (7 + x)]).length ≤ 2 * P + 1) := by
              have e : ((lq) ++ [opI (7 + x)]).length = nq + 1 := by rw [List.length_append, HNQ.out]; rfl
              have : 1 ≤ ((lq) ++ [opI (7 + x)]).length ∧ ((lq) ++ [opI (7 + x)]).length ≤ 2 * P + 1 := by rw [e]; omega
              exact this
            obtain ⟨g9, c9, hv9⟩ := D9.out.form
            subst hv9
            clear own9 hgrow9 hnn9 hb9 OQ
            go_wp2
            go_ret
            exact ⟨_, _, rfl, D9.out, L9.out.1, L9.out.2, F9.out, C9.out, hk9⟩
          · obtain ⟨gq, hgq⟩ : ∃ g, g = gL := ⟨_, rfl⟩
            obtain ⟨lq, hlq⟩ : ∃ l, l = [xl] := ⟨_, rfl⟩
            have HNQ : Hid (lq.length = 1) := by rw [hlq]; exact (rfl : [xl].length = 1)
            rw [← hlq] at DL14 FL
            rw [← hgq] at DL14 ⊢
            clear hlq hgq
            have OQ : Hid (w14.ownsRow w.heap.size 69 5 (.slice (some ⟨gq, 0, none⟩) 1 1) 1 (flatItm (lq))) := by
              have := DL14.out.1; rw [HNQ.out] at this; exact this
            have hszq := hkw14.size
            go_wp2_with (at_builtin; refine wpList_append_own _ rfl _ _ 24 rfl w.heap.size 69 i0 (.agg #[.int .i64 0, .int .i64 0, .int .i64 0, .string ⟨#[]⟩, .string ⟨#[]⟩]) 5 56 Tryz.underlying24 hti hz0 hz1 hz2 rfl (by decide) _ _ _ rfl (OQ.out.alloc _) ⟨w14.heap.size, 0, none⟩ 1 1 [.int .i64 12, .int .i64 0, .int .i64 0, .string ⟨#[]⟩, .string ⟨#[]⟩] rfl rfl (cells5I w14 _ _ _ _ _) (by intro u hu; simp at hu; rcases hu with rfl | rfl | rfl | rfl | rfl <;> rfl) (by unfold maxLen; omega) (by omega) (by simp; omega) ?_)
            intro v9 w9 own9 hgrow9 hnn9
            have D9 : Hid (DrawnI w9 w.heap.size v9 ((lq) ++ [opI 12])) := DrawnI.app (m := [opI 12]) own9 (by rw [HNQ.out]; rfl) (by omega)
            have hb9 : Below w.heap.size (w14.alloc (.cells #[.int .i64 12, .int .i64 0, .int .i64 0, .string ⟨#[]⟩, .string ⟨#[]⟩] 69)) w9 := (Below.refl _ _).grown hgrow9 (by simp; omega) (fun kk hkk => (OQ.out.lt kk hkk).1)
            have C9 : Hid (Cur w9 c a len cap) := (Cw14.out.alloc _).far hb9 hcw
            have hk9 : Keep c w w9 := (hkw14.alloc _).far hb9 (Nat.le_refl _)
            have F9 : Hid (FitD ((lq) ++ [opI 12])) := FitD.app FL.out (fitD_op _)
            have L9 : Hid (1 ≤ ((lq) ++ [opI 12]).length ∧ ((lq) ++ [opI 12]).length ≤ 2 * P + 1) := by
              have e : ((lq) ++ [opI 12]).length = 1 + 1 := by rw [List.length_append, HNQ.out]; rfl
              have : 1 ≤ ((lq) ++ [opI 12]).length ∧ ((lq) ++ [opI 12]).length ≤ 2 * P + 1 := by rw [e]; omega
              exact this
            obtain ⟨g9, c9, hv9⟩ := D9.out.form
            subst hv9
            clear own9 hgrow9 hnn9 hb9 OQ
            go_wp2
            go_ret
            exact ⟨_, _, rfl, D9.out, L9.out.1, L9.out.2, F9.out, C9.out, hk9⟩
      · go_wp2_with fail
        refine (cell8_draw C3.out).mono ?_
        rintro e w3 ⟨ck, cn, ct, rfl, hct, hc4, hk4⟩
        have C4 : Hid (Cur w3 c a len cap) := hc4
        have hk5 := hkW.trans hk4
        have hs5 := hk5.size
        clear D2 C3 F1 hkW hk4 hc4 hnz
        obtain ⟨V4, hV4⟩ : ∃ V, V = w3.alloc (.cells #[.int .i64 1, .int .i64 ck, .int .i64 cn, .string ct, .string ⟨#[]⟩] 69) := ⟨_, rfl⟩
        have DL' : Hid (DrawnI V4 w.heap.size (.slice (some ⟨w3.heap.size, 0, none⟩) 1 1) [(1, (ck, cn, ct), ⟨#[]⟩)]) := by
          have : DrawnI V4 w.heap.size (.slice (some ⟨w3.heap.size, 0, none⟩) 1 1) [(1, (ck, cn, ct), ⟨#[]⟩)] := by rw [hV4]; exact drawn_one (1, (ck, cn, ct), ⟨#[]⟩) hs5
          exact this
        have CL' : Hid (Cur V4 c a len cap) := by
          have : Cur V4 c a len cap := by rw [hV4]; exact C4.out.alloc _
          exact this
        have hkL' : Keep c w V4 := by rw [hV4]; exact hk5.alloc _
        obtain ⟨xl, hxl⟩ : ∃ xl : TI, xl = (1, (ck, cn, ct), ⟨#[]⟩) := ⟨_, rfl⟩
        have FL : Hid (FitD [xl]) := by
          have : FitD [xl] := fun x hx => by
            rw [List.mem_singleton] at hx
            subst hx
            rw [hxl]
            exact ⟨hct, Nat.zero_le _⟩
          exact this
        rw [← hxl] at DL'
        go_upto_region 4 with fail
        rw [← hV4]
        clear hV4 hxl hct C4 hk5 hs5
        obtain ⟨gL, hgL⟩ : ∃ g, w3.heap.size = g := ⟨_, rfl⟩
        simp only [hgL] at DL' ⊢
        clear hgL
        obtain ⟨wL, rfl⟩ : ∃ x, x = V4 := ⟨_, rfl⟩
        have DL : Hid (DrawnI wL w.heap.size (.slice (some ⟨gL, 0, none⟩) 1 1) [xl]) := DL'
        have CL : Hid (Cur wL c a len cap) := CL'
        have hkL : Keep c w wL := hkL'
        clear DL' CL' hkL'
        by_cases hdd : 1 < d + 1
        · have hdI : (1 : Int) < D := by omega
          go_wp2_with fail
          refine (once_draw CL.out 3 (by omega) (by omega)).mono ?_
          rintro e w4 ⟨b2, rfl, hc4, hk4⟩
          have Cw4 : Hid (Cur w4 c a len cap) := hc4
          have DLw4 : Hid (DrawnI w4 w.heap.size (.slice (some ⟨gL, 0, none⟩) 1 1) [xl]) := DL.out.keep hk4 hcw
          have hkw4 := hkL.trans hk4
          clear hc4 hk4 DL CL hkL
          cases b2
          · go_wp2_with fail
            refine (once_draw Cw4.out 4 (by omega) (by omega)).mono ?_
            rintro e w10 ⟨b3, rfl, hc10, hk10⟩
            have Cw10 : Hid (Cur w10 c a len cap) := hc10
            have DLw10 : Hid (DrawnI w10 w.heap.size (.slice (some ⟨gL, 0, none⟩) 1 1) [xl]) := DLw4.out.keep hk10 hcw
            have hkw10 := hkw4.trans hk10
            clear hc10 hk10 DLw4 Cw4 hkw4
            cases b3
            · go_wp2_with fail
              refine (once_draw Cw10.out 6 (by omega) (by omega)).mono ?_
              rintro e w14 ⟨b5, rfl, hc14, hk14⟩
              have Cw14 : Hid (Cur w14 c a len cap) := hc14
              have DL14 : Hid (DrawnI w14 w.heap.size (.slice (some ⟨gL, 0, none⟩) 1 1) [xl]) := DLw10.out.keep hk14 hcw
              have hkw14 := hkw10.trans hk14
              clear hc14 hk14 DLw10 Cw10 hkw10
              cases b5
              · have S5 := strs_keepC HS.out hkw14 HNE.out
                go_wp2_with fail
                refine (ih false w14 names _ nn nc HNN.out hn0 hn2 HSZ.out S5 HNE.out (fun h => by cases h) (by omega) Cw14.out).mono ?_
                rintro e w5 ⟨v5, l5, rfl, hD5, h5a, h5b, hF5, hc5, hk5⟩
                have D5 : Hid (DrawnI w5 w.heap.size v5 l5) := hD5.mono hkw14.size
                have C5 : Hid (Cur w5 c a len cap) := hc5
                have F5 : Hid (FitD l5) := hF5
                have hkB := hkw14.trans hk5
                have S6 := strs_keepC HS.out hkB HNE.out
                clear hD5 hc5 hF5 hk5 S5
                go_wp2_with fail
                refine (ih false w5 names _ nn nc HNN.out hn0 hn2 HSZ.out S6 HNE.out (fun h => by cases h) (by omega) C5.out).mono ?_
                rintro e w6 ⟨v6, l6, rfl, hD6, h6a, h6b, hF6, hc6, hk6⟩
                have D56 : Hid (DrawnI w6 w.heap.size v5 l5) := D5.out.keep hk6 hcw
                have D6 : Hid (DrawnI w6 w.heap.size v6 l6) := hD6.mono hkB.size
                have C6 : Hid (Cur w6 c a len cap) := hc6
                have F6 : Hid (FitD l6) := hF6
                have hkC := hkB.trans hk6
                obtain ⟨g5, c5, rfl⟩ := D56.out.form
                obtain ⟨g6, c6, rfl⟩ := D6.out.form
                clear hD6 hc6 hF6 hk6 S6 D5 C5 hkB
                obtain ⟨n5, hn5⟩ : ∃ n, l5.length = n := ⟨_, rfl⟩
                obtain ⟨n6, hn6⟩ : ∃ n, l6.length = n := ⟨_, rfl⟩
                have HN5 : Hid (l5.length = n5) := hn5
                have HN6 : Hid (l6.length = n6) := hn6
                have O5 : Hid (w6.ownsRow w.heap.size 69 5 (.slice (some ⟨g5, 0, none⟩) n5 c5) n5 (flatItm l5)) := by
                  have := D56.out.1; rw [hn5] at this; exact this
                have O6 : Hid (w6.ownsRow w.heap.size 69 5 (.slice (some ⟨g6, 0, none⟩) n6 c6) n6 (flatItm l6)) := by
                  have := D6.out.1; rw [hn6] at this; exact this
                have FC6 : Hid (∀ (j : Nat) u, (flatItm l6)[j]? = some u → w6.cell? ((⟨g6, 0, none⟩ : Addr).add j) = some u) := flat_cellsI D6.out
                have hc65 : n6 ≤ c6 := by
                  rcases O6.out.2 with ⟨h', _⟩ | ⟨_, _, _, h', _, _, h3, _⟩
                  · cases h'
                  · cases h'; exact h3
                rw [hn5] at h5a h5b ⊢
                rw [hn6] at h6a h6b ⊢
                have hsz6 := hkC.size
                clear hn5 hn6 D56 D6
                go_wp2_with (at_builtin; refine wpList_append_own _ rfl _ _ 24 rfl w.heap.size 69 i0 (.agg #[.int .i64 0, .int .i64 0, .int .i64 0, .string ⟨#[]⟩, .string ⟨#[]⟩]) 5 56 Tryz.underlying24 hti hz0 hz1 hz2 rfl (by decide) _ _ _ rfl O5.out ⟨g6, 0, none⟩ n6 c6 (flatItm l6) rfl (by rw [flatItm_length, HN6.out]) FC6.out flat_oneI (by unfold maxLen; omega) (by omega) hsz6 ?_)
                intro v7 w7 own7 hgrow hnn
                have D7 : Hid (DrawnI w7 w.heap.size v7 (l5 ++ l6)) := DrawnI.app own7 (by rw [HN5.out, HN6.out]) (by omega)
                have hb67 : Below w.heap.size w6 w7 := (Below.refl _ _).grown hgrow hsz6 (fun kk hkk => (O5.out.lt kk hkk).1)
                have C7 : Hid (Cur w7 c a len cap) := C6.out.far hb67 hcw
                have hk7 : Keep c w w7 := hkC.far hb67 (Nat.le_refl _)
                have F7 : Hid (FitD (l5 ++ l6)) := FitD.app F5.out F6.out
                obtain ⟨gq, cq, hv7⟩ := D7.out.form
                subst hv7
                obtain ⟨nq, hnq⟩ : ∃ n, (l5 ++ l6).length = n := ⟨_, rfl⟩
                have hnq2 : nq ≤ 2 * P := by rw [← hnq, List.length_append, HN5.out, HN6.out]; omega
                have HNQ : Hid ((l5 ++ l6).length = nq) := hnq
                rw [hnq] at D7 ⊢
                obtain ⟨lq, hlq⟩ : ∃ l, l5 ++ l6 = l := ⟨_, rfl⟩
                rw [hlq] at D7 F7 HNQ
                clear own7 hgrow hnn O5 O6 FC6 C6 hkC hb67 hnq hlq F5 F6 HN5 HN6 hsz6 hc65
                go_wp2_with fail
                refine (below_draw C7.out 2 (by omega) (by omega)).mono ?_
                rintro e w8 ⟨x, rfl, hx0, hx1, hc8, hk8⟩
                have D8 : Hid (DrawnI w8 w.heap.size (.slice (some ⟨gq, 0, none⟩) nq cq) lq) := D7.out.keep hk8 hcw
                have C8 : Hid (Cur w8 c a len cap) := hc8
                have hkD := hk7.trans hk8
                clear D7 C7 hk7 hc8 hk8
                have OQ : Hid (w8.ownsRow w.heap.size 69 5 (.slice (some ⟨gq, 0, none⟩) nq cq) nq (flatItm (lq))) := by
                  have := D8.out.1; rw [HNQ.out] at this; exact this
                have hszq := hkD.size
                go_wp2_with (at_builtin; refine wpList_append_own _ rfl _ _ 24 rfl w.heap.size 69 i0 (.agg #[.int .i64 0, .int .i64 0, .int .i64 0, .string ⟨#[]⟩, .string ⟨#[]⟩]) 5 56 Tryz.underlying24 hti hz0 hz1 hz2 rfl (by decide) _ _ _ rfl (OQ.out.alloc _) ⟨w8.heap.size, 0, none⟩ 1 1 [.int .i64 (7 + x), .int .i64 0, .int .i64 0, .string ⟨#[]⟩, .string ⟨#[]⟩] rfl rfl (cells5I w8 _ _ _ _ _) (by intro u hu; simp at hu; rcases hu with rfl | rfl | rfl | rfl | rfl <;> rfl) (by unfold maxLen; omega) (by omega) (by simp; omega) ?_)
                intro v9 w9 own9 hgrow9 hnn9
                have D9 : Hid (DrawnI w9 w.heap.size v9 ((lq) ++ [opI (7 + x)])) := DrawnI.app (m := [opI (7 + x)]) own9 (by rw [HNQ.out]; rfl) (by omega)
                have hb9 : Below w.heap.size (w8.alloc (.cells #[.int .i64 (7 + x), .int .i64 0, .int .i64 0, .string ⟨#[]⟩, .string ⟨#[]⟩] 69)) w9 := (Below.refl _ _).grown hgrow9 (by simp; omega) (fun kk hkk => (OQ.out.lt kk hkk).1)
                have C9 : Hid (Cur w9 c a len cap) := (C8.out.alloc _).far hb9 hcw
                have hk9 : Keep c w w9 := (hkD.alloc _).far hb9 (Nat.le_refl _)
                have F9 : Hid (FitD ((lq) ++ [opI (7 + x)])) := FitD.app F7.out (fitD_op _)
                have L9 : Hid (1 ≤ ((lq) ++ [opI (7 + x)]).length ∧ ((lq) ++ [opI (7 + x)]).length ≤ 2 * P + 1) := by
                  have e : ((lq) ++ [opI (7 + x)]).length = nq + 1 := by rw [List.length_append, HNQ.out]; rfl
                  have : 1 ≤ ((lq) ++ [opI (7 + x)]).length ∧ ((lq) ++ [opI (7 + x)]).length ≤ 2 * P + 1 := by rw [e]; omega
                  exact this
                obtain ⟨g9, c9, hv9⟩ := D9.out.form
                subst hv9
                clear own9 hgrow9 hnn9 hb9 OQ
                go_wp2
                go_ret
                exact ⟨_, _, rfl, D9.out, L9.out.1, L9.out.2, F9.out, C9.out, hk9⟩
              · obtain ⟨gq, hgq⟩ : ∃ g, g = gL := ⟨_, rfl⟩
                obtain ⟨lq, hlq⟩ : ∃ l, l = [xl] := ⟨_, rfl⟩
                have HNQ : Hid (lq.length = 1) := by rw [hlq]; exact (rfl : [xl].length = 1)
                rw [← hlq] at DL14 FL
                rw [← hgq] at DL14 ⊢
                clear hlq hgq
                have OQ : Hid (w14.ownsRow w.heap.size 69 5 (.slice (some ⟨gq, 0, none⟩) 1 1) 1 (flatItm (lq))) := by
                  have := DL14.out.1; rw [HNQ.out] at this; exact this
                have hszq := hkw14.size
                go_wp2_with (at_builtin; refine wpList_append_own _ rfl _ _ 24 rfl w.heap.size 69 i0 (.agg #[.int .i64 0, .int .i64 0, .int .i64 0, .string ⟨#[]⟩, .string ⟨#[]⟩]) 5 56 Tryz.underlying24 hti hz0 hz1 hz2 rfl (by decide) _ _ _ rfl (OQ.out.alloc _) ⟨w14.heap.size, 0, none⟩ 1 1 [.int .i64 12, .int .i64 0, .int .i64 0, .string ⟨#[]⟩, .string ⟨#[]⟩] rfl rfl (cells5I w14 _ _ _ _ _) (by intro u hu; simp at hu; rcases hu with rfl | rfl | rfl | rfl | rfl <;> rfl) (by unfold maxLen; omega) (by omega) (by simp; omega) ?_)
                intro v9 w9 own9 hgrow9 hnn9
                have D9 : Hid (DrawnI w9 w.heap.size v9 ((lq) ++ [opI 12])) := DrawnI.app (m := [opI 12]) own9 (by rw [HNQ.out]; rfl) (by omega)
                have hb9 : Below w.heap.size (w14.alloc (.cells #[.int .i64 12, .int .i64 0, .int .i64 0, .string ⟨#[]⟩, .string ⟨#[]⟩] 69)) w9 := (Below.refl _ _).grown hgrow9 (by simp; omega) (fun kk hkk => (OQ.out.lt kk hkk).1)
                have C9 : Hid (Cur w9 c a len cap) := (Cw14.out.alloc _).far hb9 hcw
                have hk9 : Keep c w w9 := (hkw14.alloc _).far hb9 (Nat.le_refl _)
                have F9 : Hid (FitD ((lq) ++ [opI 12])) := FitD.app FL.out (fitD_op _)
                have L9 : Hid (1 ≤ ((lq) ++ [opI 12]).length ∧ ((lq) ++ [opI 12]).length ≤ 2 * P + 1) := by
                  have e : ((lq) ++ [opI 12]).length = 1 + 1 := by rw [List.length_append, HNQ.out]; rfl
                  have : 1 ≤ ((lq) ++ [opI 12]).length ∧ ((lq) ++ [opI 12]).length ≤ 2 * P + 1 := by rw [e]; omega
                  exact this
                obtain ⟨g9, c9, hv9⟩ := D9.out.form
                subst hv9
                clear own9 hgrow9 hnn9 hb9 OQ
                go_wp2
                go_ret
                exact ⟨_, _, rfl, D9.out, L9.out.1, L9.out.2, F9.out, C9.out, hk9⟩
            · have S5 := strs_keepC HS.out hkw10 HNE.out
              go_wp2_with fail
              refine (ih true w10 names _ nn nc HNN.out hn0 hn2 HSZ.out S5 HNE.out (fun _ => by omega) (by omega) Cw10.out).mono ?_
              rintro e w5 ⟨v5, lq, rfl, hD5, h5a, h5b, hF5, hc5, hk5⟩
              have D5 : Hid (DrawnI w5 w.heap.size v5 lq) := hD5.mono hkw10.size
              have C5 : Hid (Cur w5 c a len cap) := hc5
              have F5 : Hid (FitD lq) := hF5
              have hkB := hkw10.trans hk5
              obtain ⟨gq, cq, hv5⟩ := D5.out.form
              subst hv5
              obtain ⟨nq, hnq⟩ : ∃ n, lq.length = n := ⟨_, rfl⟩
              have HNQ : Hid (lq.length = nq) := hnq
              rw [hnq] at D5 h5a h5b ⊢
              clear hD5 hc5 hF5 hk5 S5 hnq DLw10
              have OQ : Hid (w5.ownsRow w.heap.size 69 5 (.slice (some ⟨gq, 0, none⟩) nq cq) nq (flatItm (lq))) := by
                have := D5.out.1; rw [HNQ.out] at this; exact this
              have hszq := hkB.size
              go_wp2_with (at_builtin; refine wpList_append_own _ rfl _ _ 24 rfl w.heap.size 69 i0 (.agg #[.int .i64 0, .int .i64 0, .int .i64 0, .string ⟨#[]⟩, .string ⟨#[]⟩]) 5 56 Tryz.underlying24 hti hz0 hz1 hz2 rfl (by decide) _ _ _ rfl (OQ.out.alloc _) ⟨w5.heap.size, 0, none⟩ 1 1 [.int .i64 11, .int .i64 0, .int .i64 0, .string ⟨#[]⟩, .string ⟨#[]⟩] rfl rfl (cells5I w5 _ _ _ _ _) (by intro u hu; simp at hu; rcases hu with rfl | rfl | rfl | rfl | rfl <;> rfl) (by unfold maxLen; omega) (by omega) (by simp; omega) ?_)
              intro v9 w9 own9 hgrow9 hnn9
              have D9 : Hid (DrawnI w9 w.heap.size v9 ((lq) ++ [opI 11])) := DrawnI.app (m := [opI 11]) own9 (by rw [HNQ.out]; rfl) (by omega)
              have hb9 : Below w.heap.size (w5.alloc (.cells #[.int .i64 11, .int .i64 0, .int .i64 0, .string ⟨#[]⟩, .string ⟨#[]⟩] 69)) w9 := (Below.refl _ _).grown hgrow9 (by simp; omega) (fun kk hkk => (OQ.out.lt kk hkk).1)
              have C9 : Hid (Cur w9 c a len cap) := (C5.out.alloc _).far hb9 hcw
              have hk9 : Keep c w w9 := (hkB.alloc _).far hb9 (Nat.le_refl _)
              have F9 : Hid (FitD ((lq) ++ [opI 11])) := FitD.app F5.out (fitD_op _)
              have L9 : Hid (1 ≤ ((lq) ++ [opI 11]).length ∧ ((lq) ++ [opI 11]).length ≤ 2 * P + 1) := by
                have e : ((lq) ++ [opI 11]).length = nq + 1 := by rw [List.length_append, HNQ.out]; rfl
                have : 1 ≤ ((lq) ++ [opI 11]).length ∧ ((lq) ++ [opI 11]).length ≤ 2 * P + 1 := by rw [e]; omega
                exact this
              obtain ⟨g9, c9, hv9⟩ := D9.out.form
              subst hv9
              clear own9 hgrow9 hnn9 hb9 OQ
              go_wp2
              go_ret
              exact ⟨_, _, rfl, D9.out, L9.out.1, L9.out.2, F9.out, C9.out, hk9⟩
          · have S5 := strs_keepC HS.out hkw4 HNE.out
            go_wp2_with fail
            refine (ih true w4 names _ nn nc HNN.out hn0 hn2 HSZ.out S5 HNE.out (fun _ => by omega) (by omega) Cw4.out).mono ?_
            rintro e w5 ⟨v5, l5, rfl, hD5, h5a, h5b, hF5, hc5, hk5⟩
            have D5 : Hid (DrawnI w5 w.heap.size v5 l5) := hD5.mono hkw4.size
            have C5 : Hid (Cur w5 c a len cap) := hc5
            have F5 : Hid (FitD l5) := hF5
            have hkB := hkw4.trans hk5
            have S6 := strs_keepC HS.out hkB HNE.out
            clear hD5 hc5 hF5 hk5 S5
            go_wp2_with fail
            refine (ih true w5 names _ nn nc HNN.out hn0 hn2 HSZ.out S6 HNE.out (fun _ => by omega) (by omega) C5.out).mono ?_
            rintro e w6 ⟨v6, l6, rfl, hD6, h6a, h6b, hF6, hc6, hk6⟩
            have D56 : Hid (DrawnI w6 w.heap.size v5 l5) := D5.out.keep hk6 hcw
            have D6 : Hid (DrawnI w6 w.heap.size v6 l6) := hD6.mono hkB.size
            have C6 : Hid (Cur w6 c a len cap) := hc6
            have F6 : Hid (FitD l6) := hF6
            have hkC := hkB.trans hk6
            obtain ⟨g5, c5, rfl⟩ := D56.out.form
            obtain ⟨g6, c6, rfl⟩ := D6.out.form
            clear hD6 hc6 hF6 hk6 S6 D5 C5 hkB
            obtain ⟨n5, hn5⟩ : ∃ n, l5.length = n := ⟨_, rfl⟩
            obtain ⟨n6, hn6⟩ : ∃ n, l6.length = n := ⟨_, rfl⟩
            have HN5 : Hid (l5.length = n5) := hn5
            have HN6 : Hid (l6.length = n6) := hn6
            have O5 : Hid (w6.ownsRow w.heap.size 69 5 (.slice (some ⟨g5, 0, none⟩) n5 c5) n5 (flatItm l5)) := by
              have := D56.out.1; rw [hn5] at this; exact this
            have O6 : Hid (w6.ownsRow w.heap.size 69 5 (.slice (some ⟨g6, 0, none⟩) n6 c6) n6 (flatItm l6)) := by
              have := D6.out.1; rw [hn6] at this; exact this
            have FC6 : Hid (∀ (j : Nat) u, (flatItm l6)[j]? = some u → w6.cell? ((⟨g6, 0, none⟩ : Addr).add j) = some u) := flat_cellsI D6.out
            have hc65 : n6 ≤ c6 := by
              rcases O6.out.2 with ⟨h', _⟩ | ⟨_, _, _, h', _, _, h3, _⟩
              · cases h'
              · cases h'; exact h3
            rw [hn5] at h5a h5b ⊢
            rw [hn6] at h6a h6b ⊢
            have hsz6 := hkC.size
            clear hn5 hn6 D56 D6
            go_wp2_with (at_builtin; refine wpList_append_own _ rfl _ _ 24 rfl w.heap.size 69 i0 (.agg #[.int .i64 0, .int .i64 0, .int .i64 0, .string ⟨#[]⟩, .string ⟨#[]⟩]) 5 56 Tryz.underlying24 hti hz0 hz1 hz2 rfl (by decide) _ _ _ rfl O5.out ⟨g6, 0, none⟩ n6 c6 (flatItm l6) rfl (by rw [flatItm_length, HN6.out]) FC6.out flat_oneI (by unfold maxLen; omega) (by omega) hsz6 ?_)
            intro v7 w7 own7 hgrow hnn
            have D7 : Hid (DrawnI w7 w.heap.size v7 (l5 ++ l6)) := DrawnI.app own7 (by rw [HN5.out, HN6.out]) (by omega)
            have hb67 : Below w.heap.size w6 w7 := (Below.refl _ _).grown hgrow hsz6 (fun kk hkk => (O5.out.lt kk hkk).1)
            have C7 : Hid (Cur w7 c a len cap) := C6.out.far hb67 hcw
            have hk7 : Keep c w w7 := hkC.far hb67 (Nat.le_refl _)
            have F7 : Hid (FitD (l5 ++ l6)) := FitD.app F5.out F6.out
            obtain ⟨gq, cq, hv7⟩ := D7.out.form
            subst hv7
            obtain ⟨nq, hnq⟩ : ∃ n, (l5 ++ l6).length = n := ⟨_, rfl⟩
            have hnq2 : nq ≤ 2 * P := by rw [← hnq, List.length_append, HN5.out, HN6.out]; omega
            have HNQ : Hid ((l5 ++ l6).length = nq) := hnq
            rw [hnq] at D7 ⊢
            obtain ⟨lq, hlq⟩ : ∃ l, l5 ++ l6 = l := ⟨_, rfl⟩
            rw [hlq] at D7 F7 HNQ
            clear own7 hgrow hnn O5 O6 FC6 C6 hkC hb67 hnq hlq F5 F6 HN5 HN6 hsz6 hc65
            go_wp2_with fail
            refine (below_draw C7.out 2 (by omega) (by omega)).mono ?_
            rintro e w8 ⟨x, rfl, hx0, hx1, hc8, hk8⟩
            have D8 : Hid (DrawnI w8 w.heap.size (.slice (some ⟨gq, 0, none⟩) nq cq) lq) := D7.out.keep hk8 hcw
            have C8 : Hid (Cur w8 c a len cap) := hc8
            have hkD := hk7.trans hk8
            clear D7 C7 hk7 hc8 hk8
            have OQ : Hid (w8.ownsRow w.heap.size 69 5 (.slice (some ⟨gq, 0, none⟩) nq cq) nq (flatItm (lq))) := by
              have := D8.out.1; rw [HNQ.out] at this; exact this
            have hszq := hkD.size
            go_wp2_with (at_builtin; refine wpList_append_own _ rfl _ _ 24 rfl w.heap.size 69 i0 (.agg #[.int .i64 0, .int .i64 0, .int .i64 0, .string ⟨#[]⟩, .string ⟨#[]⟩]) 5 56 Tryz.underlying24 hti hz0 hz1 hz2 rfl (by decide) _ _ _ rfl (OQ.out.alloc _) ⟨w8.heap.size, 0, none⟩ 1 1 [.int .i64 (9 + x), .int .i64 0, .int .i64 0, .string ⟨#[]⟩, .string ⟨#[]⟩] rfl rfl (cells5I w8 _ _ _ _ _) (by intro u hu; simp at hu; rcases hu with rfl | rfl | rfl | rfl | rfl <;> rfl) (by unfold maxLen; omega) (by omega) (by simp; omega) ?_)
            intro v9 w9 own9 hgrow9 hnn9
            have D9 : Hid (DrawnI w9 w.heap.size v9 ((lq) ++ [opI (9 + x)])) := DrawnI.app (m := [opI (9 + x)]) own9 (by rw [HNQ.out]; rfl) (by omega)
            have hb9 : Below w.heap.size (w8.alloc (.cells #[.int .i64 (9 + x), .int .i64 0, .int .i64 0, .string ⟨#[]⟩, .string ⟨#[]⟩] 69)) w9 := (Below.refl _ _).grown hgrow9 (by simp; omega) (fun kk hkk => (OQ.out.lt kk hkk).1)
            have C9 : Hid (Cur w9 c a len cap) := (C8.out.alloc _).far hb9 hcw
            have hk9 : Keep c w w9 := (hkD.alloc _).far hb9 (Nat.le_refl _)
            have F9 : Hid (FitD ((lq) ++ [opI (9 + x)])) := FitD.app F7.out (fitD_op _)
            have L9 : Hid (1 ≤ ((lq) ++ [opI (9 + x)]).length ∧ ((lq) ++ [opI (9 + x)]).length ≤ 2 * P + 1) := by
              have e : ((lq) ++ [opI (9 + x)]).length = nq + 1 := by rw [List.length_append, HNQ.out]; rfl
              have : 1 ≤ ((lq) ++ [opI (9 + x)]).length ∧ ((lq) ++ [opI (9 + x)]).length ≤ 2 * P + 1 := by rw [e]; omega
              exact this
            obtain ⟨g9, c9, hv9⟩ := D9.out.form
            subst hv9
            clear own9 hgrow9 hnn9 hb9 OQ
            go_wp2
            go_ret
            exact ⟨_, _, rfl, D9.out, L9.out.1, L9.out.2, F9.out, C9.out, hk9⟩
        · have hdI : ¬ (1 : Int) < D := by omega
          obtain ⟨w10, rfl⟩ : ∃ x, x = wL := ⟨_, rfl⟩
          have Cw10 : Hid (Cur w10 c a len cap) := CL
          have DLw10 : Hid (DrawnI w10 w.heap.size (.slice (some ⟨gL, 0, none⟩) 1 1) [xl]) := DL
          have hkw10 : Keep c w w10 := hkL
          clear CL DL hkL
          go_wp2_with fail
          refine (once_draw Cw10.out 6 (by omega) (by omega)).mono ?_
          rintro e w14 ⟨b5, rfl, hc14, hk14⟩
          have Cw14 : Hid (Cur w14 c a len cap) := hc14
          have DL14 : Hid (DrawnI w14 w.heap.size (.slice (some ⟨gL, 0, none⟩) 1 1) [xl]) := DLw10.out.keep hk14 hcw
          have hkw14 := hkw10.trans hk14
          clear hc14 hk14 DLw10 Cw10 hkw10
          cases b5
          · have S5 := strs_keepC HS.out hkw14 HNE.out
            go_wp2_with fail
            refine (ih false w14 names _ nn nc HNN.out hn0 hn2 HSZ.out S5 HNE.out (fun h => by cases h) (by omega) Cw14.out).mono ?_
            rintro e w5 ⟨v5, l5, rfl, hD5, h5a, h5b, hF5, hc5, hk5⟩
            have D5 : Hid (DrawnI w5 w.heap.size v5 l5) := hD5.mono hkw14.size
            have C5 : Hid (Cur w5 c a len cap) := hc5
            have F5 : Hid (FitD l5) := hF5
            have hkB := hkw14.trans hk5
            have S6 := strs_keepC HS.out hkB HNE.out
            clear hD5 hc5 hF5 hk5 S5
            go_wp2_with fail
            refine (ih false w5 names _ nn nc HNN.out hn0 hn2 HSZ.out S6 HNE.out (fun h => by cases h) (by omega) C5.out).mono ?_
            rintro e w6 ⟨v6, l6, rfl, hD6, h6a, h6b, hF6, hc6, hk6⟩
            have D56 : Hid (DrawnI w6 w.heap.size v5 l5) := D5.out.keep hk6 hcw
            have D6 : Hid (DrawnI w6 w.heap.size v6 l6) := hD6.mono hkB.size
            have C6 : Hid (Cur w6 c a len cap) := hc6
            have F6 : Hid (FitD l6) := hF6
            have hkC := hkB.trans hk6
            obtain ⟨g5, c5, rfl⟩ := D56.out.form
            obtain ⟨g6, c6, rfl⟩ := D6.out.form
            clear hD6 hc6 hF6 hk6 S6 D5 C5 hkB
            obtain ⟨n5, hn5⟩ : ∃ n, l5.length = n := ⟨_, rfl⟩
            obtain ⟨n6, hn6⟩ : ∃ n, l6.length = n := ⟨_, rfl⟩
            have HN5 : Hid (l5.length = n5) := hn5
            have HN6 : Hid (l6.length = n6) := hn6
            have O5 : Hid (w6.ownsRow w.heap.size 69 5 (.slice (some ⟨g5, 0, none⟩) n5 c5) n5 (flatItm l5)) := by
              have := D56.out.1; rw [hn5] at this; exact this
            have O6 : Hid (w6.ownsRow w.heap.size 69 5 (.slice (some ⟨g6, 0, none⟩) n6 c6) n6 (flatItm l6)) := by
              have := D6.out.1; rw [hn6] at this; exact this
            have FC6 : Hid (∀ (j : Nat) u, (flatItm l6)[j]? = some u → w6.cell? ((⟨g6, 0, none⟩ : Addr).add j) = some u) := flat_cellsI D6.out
            have hc65 : n6 ≤ c6 := by
              rcases O6.out.2 with ⟨h', _⟩ | ⟨_, _, _, h', _, _, h3, _⟩
              · cases h'
              · cases h'; exact h3
            rw [hn5] at h5a h5b ⊢
            rw [hn6] at h6a h6b ⊢
            have hsz6 := hkC.size
            clear hn5 hn6 D56 D6
            go_wp2_with (at_builtin; refine wpList_append_own _ rfl _ _ 24 rfl w.heap.size 69 i0 (.agg #[.int .i64 0, .int .i64 0, .int .i64 0, .string ⟨#[]⟩, .string ⟨#[]⟩]) 5 56 Tryz.underlying24 hti hz0 hz1 hz2 rfl (by decide) _ _ _ rfl O5.out ⟨g6, 0, none⟩ n6 c6 (flatItm l6) rfl (by rw [flatItm_length, HN6.out]) FC6.out flat_oneI (by unfold maxLen; omega) (by omega) hsz6 ?_)
            intro v7 w7 own7 hgrow hnn
            have D7 : Hid (DrawnI w7 w.heap.size v7 (l5 ++ l6)) := DrawnI.app own7 (by rw [HN5.out, HN6.out]) (by omega)
            have hb67 : Below w.heap.size w6 w7 := (Below.refl _ _).grown hgrow hsz6 (fun kk hkk => (O5.out.lt kk hkk).1)
            have C7 : Hid (Cur w7 c a len cap) := C6.out.far hb67 hcw
            have hk7 : Keep c w w7 := hkC.far hb67 (Nat.le_refl _)
            have F7 : Hid (FitD (l5 ++ l6)) := FitD.app F5.out F6.out
            obtain ⟨gq, cq, hv7⟩ := D7.out.form
            subst hv7
            obtain ⟨nq, hnq⟩ : ∃ n, (l5 ++ l6).length = n := ⟨_, rfl⟩
            have hnq2 : nq ≤ 2 * P := by rw [← hnq, List.length_append, HN5.out, HN6.out]; omega
            have HNQ : Hid ((l5 ++ l6).length = nq) := hnq
            rw [hnq] at D7 ⊢
            obtain ⟨lq, hlq⟩ : ∃ l, l5 ++ l6 = l := ⟨_, rfl⟩
            rw [hlq] at D7 F7 HNQ
            clear own7 hgrow hnn O5 O6 FC6 C6 hkC hb67 hnq hlq F5 F6 HN5 HN6 hsz6 hc65
            go_wp2_with fail
            refine (below_draw C7.out 2 (by omega) (by omega)).mono ?_
            rintro e w8 ⟨x, rfl, hx0, hx1, hc8, hk8⟩
            have D8 : Hid (DrawnI w8 w.heap.size (.slice (some ⟨gq, 0, none⟩) nq cq) lq) := D7.out.keep hk8 hcw
            have C8 : Hid (Cur w8 c a len cap) := hc8
            have hkD := hk7.trans hk8
            clear D7 C7 hk7 hc8 hk8
            have OQ : Hid (w8.ownsRow w.heap.size 69 5 (.slice (some ⟨gq, 0, none⟩) nq cq) nq (flatItm (lq))) := by
              have := D8.out.1; rw [HNQ.out] at this; exact this
            have hszq := hkD.size
            go_wp2_with (at_builtin; refine wpList_append_own _ rfl _ _ 24 rfl w.heap.size 69 i0 (.agg #[.int .i64 0, .int .i64 0, .int .i64 0, .string ⟨#[]⟩, .string ⟨#[]⟩]) 5 56 Tryz.underlying24 hti hz0 hz1 hz2 rfl (by decide) _ _ _ rfl (OQ.out.alloc _) ⟨w8.heap.size, 0, none⟩ 1 1 [.int .i64 (7 + x), .int .i64 0, .int .i64 0, .string ⟨#[]⟩, .string ⟨#[]⟩] rfl rfl (cells5I w8 _ _ _ _ _) (by intro u hu; simp at hu; rcases hu with rfl | rfl | rfl | rfl | rfl <;> rfl) (by unfold maxLen; omega) (by omega) (by simp; omega) ?_)
            intro v9 w9 own9 hgrow9 hnn9
            have D9 : Hid (DrawnI w9 w.heap.size v9 ((lq) ++ [opI (7 + x)])) := DrawnI.app (m := [opI (7 + x)]) own9 (by rw [HNQ.out]; rfl) (by omega)
            have hb9 : Below w.heap.size (w8.alloc (.cells #[.int .i64 (7 + x), .int .i64 0, .int .i64 0, .string ⟨#[]⟩, .string ⟨#[]⟩] 69)) w9 := (Below.refl _ _).grown hgrow9 (by simp; omega) (fun kk hkk => (OQ.out.lt kk hkk).1)
            have C9 : Hid (Cur w9 c a len cap) := (C8.out.alloc _).far hb9 hcw
            have hk9 : Keep c w w9 := (hkD.alloc _).far hb9 (Nat.le_refl _)
            have F9 : Hid (FitD ((lq) ++ [opI (7 + x)])) := FitD.app F7.out (fitD_op _)
            have L9 : Hid (1 ≤ ((lq) ++ [opI (7 + x)]).length ∧ ((lq) ++ [opI (7 + x)]).length ≤ 2 * P + 1) := by
              have e : ((lq) ++ [opI (7 + x)]).length = nq + 1 := by rw [List.length_append, HNQ.out]; rfl
              have : 1 ≤ ((lq) ++ [opI (7 + x)]).length ∧ ((lq) ++ [opI (7 + x)]).length ≤ 2 * P + 1 := by rw [e]; omega
              exact this
            obtain ⟨g9, c9, hv9⟩ := D9.out.form
            subst hv9
            clear own9 hgrow9 hnn9 hb9 OQ
            go_wp2
            go_ret
            exact ⟨_, _, rfl, D9.out, L9.out.1, L9.out.2, F9.out, C9.out, hk9⟩
          · obtain ⟨gq, hgq⟩ : ∃ g, g = gL := ⟨_, rfl⟩
            obtain ⟨lq, hlq⟩ : ∃ l, l = [xl] := ⟨_, rfl⟩
            have HNQ : Hid (lq.length = 1) := by rw [hlq]; exact (rfl : [xl].length = 1)
            rw [← hlq] at DL14 FL
            rw [← hgq] at DL14 ⊢
            clear hlq hgq
            have OQ : Hid (w14.ownsRow w.heap.size 69 5 (.slice (some ⟨gq, 0, none⟩) 1 1) 1 (flatItm (lq))) := by
              have := DL14.out.1; rw [HNQ.out] at this; exact this
            have hszq := hkw14.size
            go_wp2_with (at_builtin; refine wpList_append_own _ rfl _ _ 24 rfl w.heap.size 69 i0 (.agg #[.int .i64 0, .int .i64 0, .int .i64 0, .string ⟨#[]⟩, .string ⟨#[]⟩]) 5 56 Tryz.underlying24 hti hz0 hz1 hz2 rfl (by decide) _ _ _ rfl (OQ.out.alloc _) ⟨w14.heap.size, 0, none⟩ 1 1 [.int .i64 12, .int .i64 0, .int .i64 0, .string ⟨#[]⟩, .string ⟨#[]⟩] rfl rfl (cells5I w14 _ _ _ _ _) (by intro u hu; simp at hu; rcases hu with rfl | rfl | rfl | rfl | rfl <;> rfl) (by unfold maxLen; omega) (by omega) (by simp; omega) ?_)
            intro v9 w9 own9 hgrow9 hnn9
            have D9 : Hid (DrawnI w9 w.heap.size v9 ((lq) ++ [opI 12])) := DrawnI.app (m := [opI 12]) own9 (by rw [HNQ.out]; rfl) (by omega)
            have hb9 : Below w.heap.size (w14.alloc (.cells #[.int .i64 12, .int .i64 0, .int .i64 0, .string ⟨#[]⟩, .string ⟨#[]⟩] 69)) w9 := (Below.refl _ _).grown hgrow9 (by simp; omega) (fun kk hkk => (OQ.out.lt kk hkk).1)
            have C9 : Hid (Cur w9 c a len cap) := (Cw14.out.alloc _).far hb9 hcw
            have hk9 : Keep c w w9 := (hkw14.alloc _).far hb9 (Nat.le_refl _)
            have F9 : Hid (FitD ((lq) ++ [opI 12])) := FitD.app FL.out (fitD_op _)
            have L9 : Hid (1 ≤ ((lq) ++ [opI 12]).length ∧ ((lq) ++ [opI 12]).length ≤ 2 * P + 1) := by
              have e : ((lq) ++ [opI 12]).length = 1 + 1 := by rw [List.length_append, HNQ.out]; rfl
              have : 1 ≤ ((lq) ++ [opI 12]).length ∧ ((lq) ++ [opI 12]).length ≤ 2 * P + 1 := by rw [e]; omega
              exact this
            obtain ⟨g9, c9, hv9⟩ := D9.out.form
            subst hv9
            clear own9 hgrow9 hnn9 hb9 OQ
            go_wp2
            go_ret
            exact ⟨_, _, rfl, D9.out, L9.out.1, L9.out.2, F9.out, C9.out, hk9⟩
end Go.Proofs.YthgbjnchhaoceaaGreatDoor
