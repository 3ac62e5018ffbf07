/-
  A part of the proof: ShowS, Draw6, Law1.
-/
import Derived.Test.YteamdmcgkpeelabGreatDoorPart20
import Derived.Test.YteamdmcgkpeelabGreatDoorPart6

/-
  The contract of the model's text of a base.
-/
namespace Go.Proofs.YteamdmcgkpeelabGreatDoor
open Go.ChangeShapes Go.WideShapes Go.ChangeAt Go.RowKit
attribute [local go_sem ↓] Go.wp_at_zero Go.wp_at_succ
attribute [local simp] World.cell?_alloc_past World.cell?_alloc_at World.frozen?_alloc_at cell_far cell_off cell_here World.frozen?_alloc_past

set_option maxRecDepth 100000 in
set_option maxHeartbeats 1000000 in
theorem words_specO (n b0 o cap : Nat) (xs : List ByteArray) (hn : xs.length = n) (w : World) (hx : StrsAt w (some ⟨b0, o, none⟩) xs) (hm : xs.length ≤ 1048576) (h14 : ∀ x ∈ xs, x.size ≤ 14) (y : ByteArray) (hy : (⟨(Lib.join (rawT xs) [32]).toArray⟩ : ByteArray) = y) :
    Calls Tryz.prog 40 #[.slice (some ⟨b0, o, none⟩) n cap, .string ⟨#[32]⟩] w fun e w' => e = .returned (.string y) ∧ w' = w := by
  subst hn
  have HX : Hid (StrsAt w (some ⟨b0, o, none⟩) xs) := hx
  have HY : Hid ((⟨(Lib.join (rawT xs) [32]).toArray⟩ : ByteArray) = y) := hy
  have H14 : Hid (∀ x ∈ xs, x.size ≤ 14) := h14
  clear hx hy h14
  go_enter Tryz.func40, Tryz.ntmps40
  go_wp2
  go_loopw [5, 6] (fun s kk wr => ∃ (k : Nat) (b : ByteArray), k ≤ xs.length ∧ kk = .int .i64 k ∧ s = .string b ∧ Hid (b.data.toList = Lib.join (rawT (xs.take k)) [32]) ∧ w = wr) (fun _ kk _ => xs.length - (intOf kk).toNat)
  case atStart => exact ⟨0, _, Nat.zero_le _, rfl, rfl, rfl, rfl⟩
  case round =>
    obtain ⟨k, b, hk, rfl, rfl, hb, rfl⟩ := hrel
    by_cases hlt : k < xs.length
    · obtain ⟨b1, o1, e1, hg, c0⟩ := HX.out k hlt
      cases e1
      have hi0 : (0 : Int) ≤ (k : Int) := by omega
      have hi1 : (k : Int) < (xs.length : Int) := by omega
      have hsz : b.size ≤ 15 * k := by
        rw [Lib.size_eq, hb.out]
        have := join_len (rawT (xs.take k)) (by
          intro z hz
          unfold rawT at hz
          obtain ⟨u, hu, rfl⟩ := List.mem_map.1 hz
          have := H14.out u (List.mem_of_mem_take hu)
          rw [Lib.size_eq] at this
          exact this)
        have hl : (rawT (xs.take k)).length = k := by unfold rawT; rw [List.length_map, List.length_take]; omega
        rw [hl] at this
        exact this
      have hxk : (xs[k]).size ≤ 14 := H14.out _ (List.getElem_mem hlt)
      have htk : rawT (xs.take (k + 1)) = rawT (xs.take k) ++ [(xs[k]).data.toList] := by rw [List.take_succ_eq_append_getElem hlt, rawT_snoc]
      have HT : Hid (rawT (xs.take (k + 1)) = rawT (xs.take k) ++ [(xs[k]).data.toList]) := htk
      clear htk
      by_cases hk0 : k = 0
      · subst hk0
        rw [Nat.add_zero] at c0
        have hb0 : b = ⟨#[]⟩ := bytes_ext hb.out
        have hst : Hid ((⟨#[]⟩ ++ xs[0] : ByteArray).data.toList = Lib.join (rawT (xs.take (0 + 1))) [32]) := by
          have : (⟨#[]⟩ ++ xs[0] : ByteArray).data.toList = Lib.join (rawT (xs.take (0 + 1))) [32] := by
            rw [HT.out, bytes_append]
            show xs[0].data.toList = Lib.join [xs[0].data.toList] [32]
            rw [Lib.join_one]
          exact this
        subst hb0
        generalize xs[0] = x at c0 hxk hst
        have hz1 : ¬ (9223372036854775807 < x.size) := by omega
        clear HT hb
        go_wp2
        go_roundw
        case rel => exact ⟨0 + 1, _, by omega, by go_num, rfl, hst.out, by trivial⟩
        case measure => simp [intOf]; omega
      · have hk1 : 0 < k := by omega
        have hst : Hid ((b ++ ⟨#[32]⟩ ++ xs[k] : ByteArray).data.toList = Lib.join (rawT (xs.take (k + 1))) [32]) := by
          have : (b ++ ⟨#[32]⟩ ++ xs[k] : ByteArray).data.toList = Lib.join (rawT (xs.take (k + 1))) [32] := by
            rw [HT.out, join_snoc _ _ _ (List.ne_nil_of_length_pos (by unfold rawT; rw [List.length_map, List.length_take]; omega)), bytes_append, bytes_append, hb.out]
          exact this
        generalize xs[k] = x at c0 hxk hst
        have hz1 : ¬ (9223372036854775807 < b.size + 1) := by omega
        have hz2 : ¬ (9223372036854775807 < b.size + 1 + x.size) := by omega
        have hz3 : (b ++ ⟨#[32]⟩ : ByteArray).size = b.size + 1 := by rw [ByteArray.size_append]; rfl
        clear HT hb hk0
        go_wp2
        go_roundw
        case rel => exact ⟨k + 1, _, by omega, by go_num, rfl, hst.out, by trivial⟩
        case measure => simp [intOf]; omega
    · have hkl : k = xs.length := by omega
      subst hkl
      have hi1 : ¬ (xs.length : Int) < (xs.length : Int) := by omega
      have e : b = y := by
        rw [← HY.out]
        refine bytes_ext ?_
        rw [hb.out, List.take_length]
      subst e
      go_wp2
      go_ret
      exact ⟨rfl, rfl⟩

theorem add_txt (x y z : ByteArray) (h : x ++ y = z) (hx : x.size ≤ 100000) (hy : y.size ≤ 100000) (w : World) : (binOp .add 9 (.string x) (.string y)).run Tryz.prog w = .ok (.string z) w := by
  have h1 : ¬ (9223372036854775807 < x.size + y.size) := by omega
  subst h
  go_simp
theorem head_split {t : TB} (h : 0 < t.2.1.length) : headTx t = t.1.data.toList ++ [32] ++ Lib.join (rawT t.2.1) [32] := by
  unfold headTx rawT
  cases hc : t.2.1 with
  | nil => rw [hc] at h; simp at h
  | cons x C =>
    rw [List.map_cons, Lib.join_cons, Lib.join_cons]
    simp [Lib.joinTail]
theorem l4rowN (n : Nat) (a : Option Addr) (cap : Nat) (l : List CT) (hn : l.length = n) (w : World) (hrow : RowAt w a l) (hall : l.all okC = true) (hm : n ≤ 1048576) (y : ByteArray) (hy : rowT l = y) :
    Calls Tryz.prog 41 #[.slice a n cap] w fun e w' => e = .returned (.string y) ∧ Below w.heap.size w w' := by
  subst hn; exact l4row_spec a cap l w hrow hall hm y hy
theorem size_of {x : ByteArray} {l : List UInt8} (h : x.data.toList = l) : x.size = l.length := by rw [Lib.size_eq, h]

set_option maxRecDepth 100000 in
set_option maxHeartbeats 8000000 in
theorem showbase_spec (a : Option Addr) (cap : Nat) (T : List TB) (n : Nat) (hn : T.length = n) (w : World) (hrow : TabsAt w a T) (hm : n ≤ 1048576) (y : ByteArray) (hy : showB T = y) :
    Calls Tryz.prog 17 #[.slice a n cap] w fun e w' => e = .returned (.string y) ∧ Below w.heap.size w w' := by
  have HR : Hid (TabsAt w a T) := hrow
  have HN : Hid (T.length = n) := hn
  have HY : Hid (showB T = y) := hy
  obtain ⟨b, hb⟩ : ∃ b, baseB T = b := ⟨_, rfl⟩
  have HB : Hid (baseB T = b) := hb
  have hmL : n ≤ maxLen := by unfold maxLen; omega
  have HOK : Hid (b = true → (∀ t, t ∈ T → tableB t = true) ∧ T.length ≤ 5) := by
    have : b = true → (∀ t, t ∈ T → tableB t = true) ∧ T.length ≤ 5 := by
      intro e
      have h := hb
      rw [e] at h
      unfold baseB at h
      simp only [Bool.and_eq_true, decide_eq_true_eq] at h
      exact ⟨fun t ht => List.all_eq_true.1 h.1.1 t ht, h.2⟩
    exact this
  clear hrow hn hy hb
  go_enter Tryz.func17, Tryz.ntmps17
  go_wp2
  go_loopw [3, 4] (fun s ii wr => ∃ (i : Nat) (bt : ByteArray), i ≤ n ∧ ii = .int .i64 i ∧ s = .string bt ∧ Hid (bt.data.toList = showTx (T.take i)) ∧ Hid (b = false → i = 0) ∧ Below w.heap.size w wr) (fun _ ii _ => n - (intOf ii).toNat)
  case atStart => exact ⟨0, _, Nat.zero_le _, rfl, rfl, rfl, fun _ => rfl, Below.refl _ _⟩
  case round =>
    obtain ⟨i, bt, hi, rfl, rfl, HBT, HI0, hbw⟩ := hrel
    by_cases hlt : i < n
    · have hi0 : (0 : Int) ≤ (i : Int) := by omega
      have hi1 : (i : Int) < (n : Int) := by omega
      cases b
      · have e0 := HI0.out rfl
        have ey : bt = y := by
          rw [← HY.out]
          unfold showB
          rw [if_neg (by rw [HB.out]; simp)]
          have h := HBT.out
          rw [e0] at h
          exact bytes_ext h
        subst ey
        clear e0
        go_wp2_with fail
        refine (base_spec a cap T n HN.out _ (HR.out.below hbw) hmL false HB.out).mono ?_
        rintro e w1 ⟨rfl, hb1⟩
        have hx1 := chain hbw hb1
        go_wp2
        go_ret
        exact ⟨rfl, hx1⟩
      · obtain ⟨hok, h5⟩ := HOK.out rfl
        have hlt' : Hid (i < T.length) := by have := HN.out; exact show i < T.length by omega
        have HTK : Hid (tableB (T[i]'hlt'.out) = true) := hok _ (List.getElem_mem hlt'.out)
        have HTX : Hid (showTx (T.take (i + 1)) = showTx (T.take i) ++ tabTx (T[i]'hlt'.out)) := showTx_take T i hlt'.out
        have hbtS : bt.size ≤ 28135 := by rw [size_of HBT.out]; exact showTx_len hok h5 i
        go_wp2_with fail
        refine (base_spec a cap T n HN.out _ (HR.out.below hbw) hmL true HB.out).mono ?_
        rintro e w1 ⟨rfl, hb1⟩
        have hx1 := chain hbw hb1
        obtain ⟨g, o, ca, cc, ra, cr, rfl, hgw, c0, c1, c2, hta⟩ := HR.out.below hx1 i hlt'.out
        generalize (T[i]'hlt'.out) = t at c0 c1 c2 hta HTK HTX
        obtain ⟨q1, q2, q3, q4, q5⟩ := tableB_parts HTK.out
        have hnc1 : 0 < t.2.1.length := by
          have h := HTK.out
          unfold tableB namesB at h
          simp only [Bool.and_eq_true, decide_eq_true_eq] at h
          have := h.1.2.1.2.1
          omega
        obtain ⟨bC, oC, eC, hbC, hcc⟩ := hta.cols 0 hnc1
        subst eC
        clear hcc
        have HTA : Hid (TabAt w1 (some ⟨bC, oC, none⟩) cc ra t) := hta
        have HQ5 : Hid (∀ r, r ∈ t.2.2 → r.all okC = true ∧ r.length ≤ 6) := q5
        have HHS : Hid (headTx t = t.1.data.toList ++ [32] ++ Lib.join (rawT t.2.1) [32]) := head_split hnc1
        obtain ⟨nc, hnc⟩ : ∃ z, t.2.1.length = z := ⟨_, rfl⟩
        obtain ⟨nr, hnr⟩ : ∃ z, t.2.2.length = z := ⟨_, rfl⟩
        obtain ⟨nm, hnm⟩ : ∃ z, t.1 = z := ⟨_, rfl⟩
        rw [hnm] at c0 q1 HHS
        rw [hnc] at c1 q2
        rw [hnr] at c2 q4
        have HNC : Hid (t.2.1.length = nc) := hnc
        have HNR : Hid (t.2.2.length = nr) := hnr
        have H14 : Hid (∀ x ∈ t.2.1, x.size ≤ 14) := by
          have : ∀ x ∈ t.2.1, x.size ≤ 14 := fun x hx => by have := q3 x hx; omega
          exact this
        obtain ⟨wd, hwd⟩ : ∃ z : ByteArray, (⟨(Lib.join (rawT t.2.1) [32]).toArray⟩ : ByteArray) = z := ⟨_, rfl⟩
        have HWD : Hid ((⟨(Lib.join (rawT t.2.1) [32]).toArray⟩ : ByteArray) = wd) := hwd
        have hwdL : wd.data.toList = Lib.join (rawT t.2.1) [32] := by rw [← hwd]
        have hwdS : wd.size ≤ 105 := by
          have h := headTx_len HTK.out
          rw [HHS.out] at h
          rw [size_of hwdL]
          simp only [List.length_append] at h
          omega
        have z32 : (⟨#[32]⟩ : ByteArray).size = 1 := rfl
        have m1 : (bt ++ nm : ByteArray).size = bt.size + nm.size := by rw [ByteArray.size_append]
        have m2 : (bt ++ nm ++ ⟨#[32]⟩ : ByteArray).size = bt.size + nm.size + 1 := by rw [ByteArray.size_append, m1, z32]
        have m3 : (bt ++ nm ++ ⟨#[32]⟩ ++ wd : ByteArray).size = bt.size + nm.size + 1 + wd.size := by rw [ByteArray.size_append, m2]
        have n1 : ¬ (9223372036854775807 < bt.size + nm.size) := by omega
        have n2 : ¬ (9223372036854775807 < bt.size + nm.size + 1) := by omega
        have n3 : ¬ (9223372036854775807 < bt.size + nm.size + 1 + wd.size) := by omega
        have n4 : ¬ (9223372036854775807 < bt.size + nm.size + 1 + wd.size + 1) := by omega
        have HS4 : Hid ((bt ++ nm ++ ⟨#[32]⟩ ++ wd ++ ⟨#[58]⟩ : ByteArray).data.toList = showTx (T.take i) ++ headTx t ++ [58] ++ (t.2.2.take 0).flatMap rowTx) := by
          have : (bt ++ nm ++ ⟨#[32]⟩ ++ wd ++ ⟨#[58]⟩ : ByteArray).data.toList = showTx (T.take i) ++ headTx t ++ [58] ++ (t.2.2.take 0).flatMap rowTx := by
            rw [HHS.out, bytes_append, bytes_append, bytes_append, bytes_append, HBT.out, hwdL]
            simp
          exact this
        have HRL : Hid (∀ k, (showTx (T.take i) ++ headTx t ++ [58] ++ (t.2.2.take k).flatMap rowTx).length ≤ 33762) := by
          have : ∀ k, (showTx (T.take i) ++ headTx t ++ [58] ++ (t.2.2.take k).flatMap rowTx).length ≤ 33762 := fun k => by
            have g1 := showTx_len hok h5 i
            have g2 := headTx_len HTK.out
            have g3 := rowsTx_len HTK.out k
            simp only [List.length_append, List.length_cons, List.length_nil]
            omega
          exact this
        clear hta hok h5 q1 q3 q5 hnc1 hnc hnr hnm hwd hwdL hb1 hbw HBT z32
        go_wp2_with fail
        refine wp_region_held_drew (S := (fun w' => w'.cell? ⟨g, o + i * 3, none⟩ = some (.string nm) ∧ w'.cell? ⟨g, o + i * 3 + 1, none⟩ = some (.slice (some ⟨bC, oC, none⟩) nc cc))) (by kernel_rfl) ?_ (fun hHeld => ?_)
        · exact ⟨c0, c1⟩
        refine wpAnyH_take (i := 0) (by simp only [List.getElem?_toArray, List.getElem?_cons_zero]; rfl) (by kernel_rfl) (by kernel_rfl) (by kernel_rfl) (by intro _ _ _ h; exact h) (Or.inl ⟨by rfl, fun w hSw => by (dsimp only at hSw; go_simp; (try with_reducible rfl))⟩) (by assumption) ?_
        simp only [Act.put, List.setIfInBounds_toArray, List.set_cons_zero, List.set_cons_succ]
        refine wpAnyH_take (i := 1) (by simp only [List.getElem?_toArray, List.getElem?_cons_zero, List.getElem?_cons_succ]; rfl) (by kernel_rfl) (by kernel_rfl) (by kernel_rfl) (by intro _ _ _ h; exact h) (Or.inl ⟨by rfl, fun w hSw => by (dsimp only at hSw; go_simp; (try with_reducible rfl))⟩) (by assumption) ?_
        simp only [Act.put, List.setIfInBounds_toArray, List.set_cons_zero, List.set_cons_succ]
        refine wpAnyH_take (i := 2) (by simp only [List.getElem?_toArray, List.getElem?_cons_zero, List.getElem?_cons_succ]; rfl) (by kernel_rfl) (by kernel_rfl) (by kernel_rfl) (by intro _ _ _ h; exact h) (Or.inl ⟨by rfl, fun w hSw => by (dsimp only at hSw; go_simp; (try with_reducible rfl))⟩) (by assumption) ?_
        simp only [Act.put, List.setIfInBounds_toArray, List.set_cons_zero, List.set_cons_succ]
        refine wpAnyH_take (i := 3) (by simp only [List.getElem?_toArray, List.getElem?_cons_zero, List.getElem?_cons_succ]; rfl) (by kernel_rfl) (by kernel_rfl) (by kernel_rfl) (by intro _ _ _ h; exact h) (Or.inl ⟨by rfl, fun w hSw => by (dsimp only at hSw; go_simp; (try with_reducible rfl))⟩) (by assumption) ?_
        simp only [Act.put, List.setIfInBounds_toArray, List.set_cons_zero, List.set_cons_succ]
        refine wpAnyH_take (i := 4) (by simp only [List.getElem?_toArray, List.getElem?_cons_zero, List.getElem?_cons_succ]; rfl) (by kernel_rfl) (by kernel_rfl) (by kernel_rfl) (by intro _ _ _ h; exact h) (Or.inl ⟨by rfl, fun w hSw => by (dsimp only at hSw; go_simp; (try with_reducible rfl))⟩) (by assumption) ?_
        simp only [Act.put, List.setIfInBounds_toArray, List.set_cons_zero, List.set_cons_succ]
        refine wpAnyH_take (i := 5) (by simp only [List.getElem?_toArray, List.getElem?_cons_zero, List.getElem?_cons_succ]; rfl) (by kernel_rfl) (by kernel_rfl) (by kernel_rfl) (by intro _ _ _ h; exact h) (Or.inl ⟨by rfl, fun w hSw => by (dsimp only at hSw; go_simp; (try with_reducible rfl))⟩) (by assumption) ?_
        simp only [Act.put, List.setIfInBounds_toArray, List.set_cons_zero, List.set_cons_succ]
        refine wpAnyH_take (i := 6) (by simp only [List.getElem?_toArray, List.getElem?_cons_zero, List.getElem?_cons_succ]; rfl) (by kernel_rfl) (by kernel_rfl) (by kernel_rfl) (by intro _ _ _ h; exact h) (Or.inl ⟨by rfl, fun w hSw => by (dsimp only at hSw; go_simp; (try with_reducible rfl))⟩) (by assumption) ?_
        simp only [Act.put, List.setIfInBounds_toArray, List.set_cons_zero, List.set_cons_succ]
        refine wpAnyH_take (i := 7) (by simp only [List.getElem?_toArray, List.getElem?_cons_zero, List.getElem?_cons_succ]; rfl) (by kernel_rfl) (by kernel_rfl) (by kernel_rfl) (by intro _ _ _ h; exact h) (Or.inl ⟨by rfl, fun w hSw => by (dsimp only at hSw; go_simp; (try with_reducible rfl))⟩) (by assumption) ?_
        simp only [Act.put, List.setIfInBounds_toArray, List.set_cons_zero, List.set_cons_succ]
        refine wpAnyH_take (i := 8) (by simp only [List.getElem?_toArray, List.getElem?_cons_zero, List.getElem?_cons_succ]; rfl) (by kernel_rfl) (by kernel_rfl) (by kernel_rfl) (by intro _ _ _ h; exact h) (Or.inl ⟨by rfl, fun w hSw => by (dsimp only at hSw; go_simp; (try with_reducible rfl))⟩) (by assumption) ?_
        simp only [Act.put, List.setIfInBounds_toArray, List.set_cons_zero, List.set_cons_succ]
        refine wpAnyH_take (i := 9) (by simp only [List.getElem?_toArray, List.getElem?_cons_zero, List.getElem?_cons_succ]; rfl) (by kernel_rfl) (by kernel_rfl) (by kernel_rfl) (by intro _ _ _ h; exact h) (Or.inl ⟨by rfl, fun w hSw => by (dsimp only at hSw; go_simp; (try with_reducible rfl))⟩) (by assumption) ?_
        simp only [Act.put, List.setIfInBounds_toArray, List.set_cons_zero, List.set_cons_succ]
        refine wpAnyH_take (i := 10) (by simp only [List.getElem?_toArray, List.getElem?_cons_zero, List.getElem?_cons_succ]; rfl) (by kernel_rfl) (by kernel_rfl) (by kernel_rfl) (by intro _ _ _ h; exact h) (Or.inl ⟨by rfl, fun w hSw => by (dsimp only at hSw; go_simp; (try with_reducible rfl))⟩) (by assumption) ?_
        simp only [Act.put, List.setIfInBounds_toArray, List.set_cons_zero, List.set_cons_succ]
        refine wpAnyH_take (i := 11) (by simp only [List.getElem?_toArray, List.getElem?_cons_zero, List.getElem?_cons_succ]; rfl) (by kernel_rfl) (by kernel_rfl) (by kernel_rfl) (by intro _ _ _ h; exact h) (Or.inl ⟨by rfl, fun w hSw => by (dsimp only at hSw; go_simp; (try with_reducible rfl))⟩) (by assumption) ?_
        simp only [Act.put, List.setIfInBounds_toArray, List.set_cons_zero, List.set_cons_succ]
        refine wpAnyH_take (i := 12) (by simp only [List.getElem?_toArray, List.getElem?_cons_zero, List.getElem?_cons_succ]; rfl) (by kernel_rfl) (by kernel_rfl) (by kernel_rfl) (by intro _ _ _ h; exact h) (Or.inl ⟨by rfl, fun w hSw => by (dsimp only at hSw; go_simp; (try with_reducible rfl))⟩) (by assumption) ?_
        simp only [Act.put, List.setIfInBounds_toArray, List.set_cons_zero, List.set_cons_succ]
        refine wpAnyH_ready (rs := [13]) (by kernel_rfl) (by simp) ?_
        refine AllReadyH.cons (by simp only [List.getElem?_toArray, List.getElem?_cons_zero, List.getElem?_cons_succ]; rfl) ?_ AllReadyH.nil
        intro K hK
        go_simp
        refine (words_specO nc bC oC cc t.2.1 HNC.out _ (HTA.out.cols.below (Below.refl _ _).drew) (by rw [HNC.out]; omega) H14.out wd HWD.out).mono ?_
        rintro e w2 ⟨rfl, rfl⟩
        go_wp2_with fail
        refine hK.out _ _ ⟨c0, c1⟩ (fun hHeld => ?_)
        clear hK K
        try simp only [Act.put, List.setIfInBounds_toArray, List.set_cons_zero, List.set_cons_succ]
        refine wpAnyH_take (i := 14) (by simp only [List.getElem?_toArray, List.getElem?_cons_zero, List.getElem?_cons_succ]; rfl) (by kernel_rfl) (by kernel_rfl) (by kernel_rfl) (by intro _ _ _ h; exact h) (Or.inl ⟨by rfl, fun w hSw => by (dsimp only at hSw; go_simp; (try with_reducible rfl))⟩) (by assumption) ?_
        simp only [Act.put, List.setIfInBounds_toArray, List.set_cons_zero, List.set_cons_succ]
        refine wpAnyH_take (i := 15) (by simp only [List.getElem?_toArray, List.getElem?_cons_zero, List.getElem?_cons_succ]; rfl) (by kernel_rfl) (by kernel_rfl) (by kernel_rfl) (by intro _ _ _ h; exact h) (Or.inl ⟨by rfl, fun w hSw => by (dsimp only at hSw; go_simp; (try with_reducible rfl))⟩) (by assumption) ?_
        simp only [Act.put, List.setIfInBounds_toArray, List.set_cons_zero, List.set_cons_succ]
        refine wpAnyH_take (i := 16) (by simp only [List.getElem?_toArray, List.getElem?_cons_zero, List.getElem?_cons_succ]; rfl) (by kernel_rfl) (by kernel_rfl) (by kernel_rfl) (by intro _ _ _ h; exact h) (Or.inl ⟨by rfl, fun w hSw => by (dsimp only at hSw; go_simp; (try with_reducible rfl))⟩) (by assumption) ?_
        simp only [Act.put, List.setIfInBounds_toArray, List.set_cons_zero, List.set_cons_succ]
        refine wpAnyH_done (by kernel_rfl) ?_ _
        have hx1d : Below w.heap.size w w1.drew := hx1.drew
        have HTA1 : Hid (TabAt w1.drew (some ⟨bC, oC, none⟩) cc ra t) := HTA.out.below (Below.refl _ _).drew
        have c2' : w1.drew.cell? ⟨g, o + i * 3 + 2, none⟩ = some (.slice ra nr cr) := c2
        have hgw' : g < w1.drew.heap.size := hgw
        generalize w1.drew = w3 at hx1d HTA1 c2' hgw' ⊢
        clear c0 c1 c2 m1 m2 m3 n1 n2 n3 n4 HTA hx1 hgw
        go_wp2
        go_loopw [3, 5] (fun s kk wr => ∃ (k : Nat) (b2 : ByteArray), k ≤ nr ∧ kk = .int .i64 k ∧ s = .string b2 ∧ Hid (b2.data.toList = showTx (T.take i) ++ headTx t ++ [58] ++ (t.2.2.take k).flatMap rowTx) ∧ Below w3.heap.size w3 wr) (fun _ kk _ => nr - (intOf kk).toNat)
        case atStart => exact ⟨0, _, Nat.zero_le _, rfl, rfl, HS4, Below.refl _ _⟩
        case round =>
          obtain ⟨k, b2, hk, rfl, rfl, HB2, hbr⟩ := hrel
          have d2 : wr.cell? ⟨g, o + i * 3 + 2, none⟩ = some (.slice ra nr cr) := by rw [hbr.cell (p := ⟨g, _, none⟩) hgw']; exact c2'
          have hb2S : b2.size ≤ 33762 := by rw [size_of HB2.out]; exact HRL.out k
          by_cases hltk : k < nr
          · have hltk' : Hid (k < t.2.2.length) := by have := HNR.out; exact show k < t.2.2.length by omega
            obtain ⟨gr, or_, ai, ci, rfl, hgrw, d0, hrow, hfit, hlen, _⟩ := (HTA1.out.rows.below hbr) k hltk'.out
            have hk0 : (0 : Int) ≤ (k : Int) := by omega
            have hk1 : (k : Int) < (nr : Int) := by omega
            obtain ⟨hro, hr6⟩ := HQ5.out _ (List.getElem_mem hltk'.out)
            have HRT : Hid ((t.2.2.take (k + 1)).flatMap rowTx = (t.2.2.take k).flatMap rowTx ++ rowTx (t.2.2[k]'hltk'.out)) := rowTx_take t.2.2 k hltk'.out
            have HRW : Hid (RowAt wr ai (t.2.2[k]'hltk'.out) ∧ (t.2.2[k]'hltk'.out).all okC = true) := ⟨hrow, hro⟩
            have hz90 := rowT_len hro hr6
            generalize (t.2.2[k]'hltk'.out) = row at d0 HRT HRW hr6 hz90
            obtain ⟨nl, hnl⟩ : ∃ x, row.length = x := ⟨_, rfl⟩
            rw [hnl] at d0
            have HNL : Hid (row.length = nl) := hnl
            have hnl6 : nl ≤ 6 := by rw [← hnl]; exact hr6
            obtain ⟨z, hz⟩ : ∃ z, rowT row = z := ⟨_, rfl⟩
            have HZ : Hid (rowT row = z) := hz
            have hzS : z.size ≤ 90 := by rw [← hz, Lib.size_eq]; exact hz90
            have m5 : (b2 ++ ⟨#[10, 32]⟩ : ByteArray).size = b2.size + 2 := by rw [ByteArray.size_append]; rfl
            have n5 : ¬ (9223372036854775807 < b2.size + 2) := by omega
            have n6 : ¬ (9223372036854775807 < b2.size + 2 + z.size) := by omega
            have HB3 : Hid ((b2 ++ ⟨#[10, 32]⟩ ++ z : ByteArray).data.toList = showTx (T.take i) ++ headTx t ++ [58] ++ (t.2.2.take (k + 1)).flatMap rowTx) := by
              have : (b2 ++ ⟨#[10, 32]⟩ ++ z : ByteArray).data.toList = showTx (T.take i) ++ headTx t ++ [58] ++ (t.2.2.take (k + 1)).flatMap rowTx := by
                rw [bytes_append, bytes_append, HB2.out, HRT.out, ← hz]
                unfold rowTx
                simp
              exact this
            clear hrow hfit hlen hro hr6 hz90 hnl hz HB2
            go_wp2_with fail
            refine (l4rowN nl ai ci row HNL.out _ HRW.out.1 HRW.out.2 (by omega) z HZ.out).mono ?_
            rintro e w4 ⟨rfl, hb4⟩
            have hbr4 := chain hbr hb4
            clear hb4 hbr d0 d2 HRW
            go_wp2
            go_roundw
            case rel => exact ⟨k + 1, _, by omega, by go_num, rfl, HB3, hbr4⟩
            case measure => simp [intOf]; omega
          · have hkl : k = nr := by omega
            subst hkl
            have hnk : ¬ (k : Int) < (k : Int) := by omega
            have n7 : ¬ (9223372036854775807 < b2.size + 1) := by omega
            have HB5 : Hid ((b2 ++ ⟨#[10]⟩ : ByteArray).data.toList = showTx (T.take (i + 1))) := by
              have : (b2 ++ ⟨#[10]⟩ : ByteArray).data.toList = showTx (T.take (i + 1)) := by
                rw [bytes_append, HB2.out, HTX.out, show t.2.2.take k = t.2.2 by rw [← HNR.out, List.take_length]]
                unfold tabTx
                simp
              exact this
            have hx9 := chain hx1d hbr
            clear HB2 hbr
            go_wp2
            go_roundw
            case rel => exact ⟨i + 1, _, by omega, by go_num, rfl, HB5, fun e => (by cases e), hx9⟩
            case measure => simp [intOf]; omega
    · have hkl : i = n := by omega
      subst hkl
      have hnn : ¬ (i : Int) < (i : Int) := by omega
      have ey : bt = y := by
        rw [← HY.out]
        unfold showB
        refine bytes_ext ?_
        rw [HBT.out, show T.take i = T by rw [← HN.out, List.take_length]]
        cases b
        · have e0 := HI0.out rfl
          have hT : T = [] := List.eq_nil_of_length_eq_zero (by rw [HN.out]; exact e0)
          subst hT
          rfl
        · rw [if_pos HB.out]
      subst ey
      go_wp2
      go_ret
      exact ⟨rfl, hbw⟩
end Go.Proofs.YteamdmcgkpeelabGreatDoor

/-
  The contracts of a drawn answer, of two drawn answers and of one drawn cell: of every code that is not too long.
-/
namespace Go.Proofs.YteamdmcgkpeelabGreatDoor
open Go.ChangeShapes Go.WideShapes Go.ChangeAt Go.RowKit
attribute [local go_sem ↓] Go.wp_at_zero Go.wp_at_succ

theorem keep9 {c : Nat} {w1 w2 : World} {v0 v1 v2 v3 v4 v5 v6 v7 v8 : Value} {T : TypeId} (hk : Keep c (w1.alloc (.cells #[v0, v1, v2, v3, v4, v5, v6, v7, v8] T)) w2) (hne : w1.heap.size ≠ c) :
    (w2.cell? ⟨w1.heap.size, 0, none⟩ = some v0 ∧ w2.cell? ⟨w1.heap.size, 1, none⟩ = some v1 ∧ w2.cell? ⟨w1.heap.size, 2, none⟩ = some v2) ∧
    (w2.cell? ⟨w1.heap.size, 3, none⟩ = some v3 ∧ w2.cell? ⟨w1.heap.size, 4, none⟩ = some v4 ∧ w2.cell? ⟨w1.heap.size, 5, none⟩ = some v5) ∧
    (w2.cell? ⟨w1.heap.size, 6, none⟩ = some v6 ∧ w2.cell? ⟨w1.heap.size, 7, none⟩ = some v7 ∧ w2.cell? ⟨w1.heap.size, 8, none⟩ = some v8) := by
  refine ⟨⟨?_, ?_, ?_⟩, ⟨?_, ?_, ?_⟩, ⟨?_, ?_, ?_⟩⟩
  all_goals (rw [hk.cell (by simp) hne]; simp [go_sem])

end Go.Proofs.YteamdmcgkpeelabGreatDoor

/-
  What every law over a drawn code uses: cells that lie in blocks, from world to world; a code that reads the same later; a cell held against itself.
-/
namespace Go.Proofs.YteamdmcgkpeelabGreatDoor
open Go.ChangeShapes Go.WideShapes Go.ChangeAt Go.RowKit

/-- A cell lies in block B. -/
def C3 (w : World) (B : Nat) (k n : Int) (t : ByteArray) : Prop :=
  w.cell? ⟨B, 0, none⟩ = some (.int .i64 k) ∧ w.cell? ⟨B, 1, none⟩ = some (.int .i64 n) ∧ w.cell? ⟨B, 2, none⟩ = some (.string t) ∧ B < w.heap.size
theorem C3.below {w w' : World} {B : Nat} {k n : Int} {t : ByteArray} (h : C3 w B k n t) (hb : Below w.heap.size w w') : C3 w' B k n t := later3 hb h
theorem C3.step {w w' : World} {B : Nat} {k n : Int} {t : ByteArray} {o : Obj} (h : C3 w B k n t) (hb : Below (w.alloc o).heap.size (w.alloc o) w') : C3 w' B k n t := h.below (chainA hb)
theorem C3.fresh {w w' : World} {k n : Int} {t : ByteArray} {T : TypeId} (hb : Below (w.alloc (.cells #[.int .i64 k, .int .i64 n, .string t] T)).heap.size (w.alloc (.cells #[.int .i64 k, .int .i64 n, .string t] T)) w') : C3 w' w.heap.size k n t := box3 hb

/-- The code that a law is handed, byte by byte. -/
def Code0 (w : World) (a : Option Addr) (len : Nat) : Prop :=
  ∀ j, j < len → ∃ (rb ro : Nat) (v : Int), a = some ⟨rb, ro, none⟩ ∧ rb < w.heap.size ∧ w.cell? ⟨rb, ro + j, none⟩ = some (.int .u8 v) ∧ 0 ≤ v ∧ v ≤ 255
theorem Code0.below {w w' : World} {a : Option Addr} {len : Nat} (h : Code0 w a len) (hb : Below w.heap.size w w') : Code0 w' a len := by
  intro j hj
  obtain ⟨rb, ro, v, ha, hrb, hcell, hv⟩ := h j hj
  exact ⟨rb, ro, v, ha, Nat.lt_of_lt_of_le hrb hb.size, by rw [hb.cell (p := ⟨rb, ro + j, none⟩) hrb]; exact hcell, hv⟩
theorem Code0.alloc {w : World} {a : Option Addr} {len : Nat} (h : Code0 w a len) (o : Obj) : Code0 (w.alloc o) a len := h.below ((Below.refl _ _).alloc (Nat.le_refl _) o)

theorem neq_same (a b : Int) (s : ByteArray) (w : World) :
    (binOp .neq 78 (.agg #[.int .i64 a, .int .i64 b, .string s]) (.agg #[.int .i64 a, .int .i64 b, .string s])).run Tryz.prog w = .ok (.bool false) w := by
  rw [run_neq, sameB_refl]; rfl
theorem eql_same (a b : Int) (s : ByteArray) (w : World) :
    (binOp .eql 78 (.agg #[.int .i64 a, .int .i64 b, .string s]) (.agg #[.int .i64 a, .int .i64 b, .string s])).run Tryz.prog w = .ok (.bool true) w := by
  rw [run_eql, sameB_refl]

theorem big_laws (a : Option Addr) (len cap : Nat) (w : World) :
    Calls Tryz.prog 4 #[.slice a len cap] w fun e w' => e = .returned (.bool (decide (4096 < (len : Int)))) ∧ w = w' := by
  go_enter Tryz.func4, Tryz.ntmps4
  go_wp2
  go_ret
  exact ⟨rfl, rfl⟩

end Go.Proofs.YteamdmcgkpeelabGreatDoor
