/-
  A part of the proof: ShowS, Open1, Open2, Open3, Laid.
-/
import Derived.Test.YtkbfgecdhiaiialGreatDoorPart6
import Derived.Test.YtkbfgecdhiaiialGreatDoorPart4
import Derived.Deep.SlicePairs
import Derived.Lib.SmallJoins
import Derived.Test.YtkbfgecdhiaiialGreatDoorPart7
import Derived.LaidMore
import Derived.Stop.LaidErr
import Derived.Lib.LaidTab
import Derived.Stop.Joined
import Derived.ProofKit
import Derived.LaidLaws

/-
  The contract of the model's text of a base.
-/
namespace Go.Proofs.YtkbfgecdhiaiialGreatDoor
open Go.ChangeShapes Go.WideShapes Go.ChangeAt Go.RowKit
attribute [local go_sem ↓] Go.wp_at_zero Go.wp_at_succ
attribute [local simp] World.cell?_alloc_past World.cell?_alloc_at World.frozen?_alloc_at cell_far cell_off cell_here World.frozen?_alloc_past

set_option maxRecDepth 100000 in
set_option maxHeartbeats 1000000 in
theorem words_specO (n b0 o cap : Nat) (xs : List ByteArray) (hn : xs.length = n) (w : World) (hx : StrsAt w (some ⟨b0, o, none⟩) xs) (hm : xs.length ≤ 1048576) (h14 : ∀ x ∈ xs, x.size ≤ 14) (y : ByteArray) (hy : (⟨(Lib.join (rawT xs) [32]).toArray⟩ : ByteArray) = y) :
    Calls Tryz.prog 11 #[.slice (some ⟨b0, o, none⟩) n cap, .string ⟨#[32]⟩] w fun e w' => e = .returned (.string y) ∧ w' = w := by
  subst hn
  have HX : Hid (StrsAt w (some ⟨b0, o, none⟩) xs) := hx
  have HY : Hid ((⟨(Lib.join (rawT xs) [32]).toArray⟩ : ByteArray) = y) := hy
  have H14 : Hid (∀ x ∈ xs, x.size ≤ 14) := h14
  clear hx hy h14
  go_enter Tryz.func11, Tryz.ntmps11
  go_wp2
  go_loopw [5, 6] (fun s kk wr => ∃ (k : Nat) (b : ByteArray), k ≤ xs.length ∧ kk = .int .i64 k ∧ s = .string b ∧ Hid (b.data.toList = Lib.join (rawT (xs.take k)) [32]) ∧ w = wr) (fun _ kk _ => xs.length - (intOf kk).toNat)
  case atStart => exact ⟨0, _, Nat.zero_le _, rfl, rfl, rfl, rfl⟩
  case round =>
    obtain ⟨k, b, hk, rfl, rfl, hb, rfl⟩ := hrel
    by_cases hlt : k < xs.length
    · obtain ⟨b1, o1, e1, hg, c0⟩ := HX.out k hlt
      cases e1
      have hi0 : (0 : Int) ≤ (k : Int) := by omega
      have hi1 : (k : Int) < (xs.length : Int) := by omega
      have hsz : b.size ≤ 15 * k := by
        rw [Lib.size_eq, hb.out]
        have := join_len (rawT (xs.take k)) (by
          intro z hz
          unfold rawT at hz
          obtain ⟨u, hu, rfl⟩ := List.mem_map.1 hz
          have := H14.out u (List.mem_of_mem_take hu)
          rw [Lib.size_eq] at this
          exact this)
        have hl : (rawT (xs.take k)).length = k := by unfold rawT; rw [List.length_map, List.length_take]; omega
        rw [hl] at this
        exact this
      have hxk : (xs[k]).size ≤ 14 := H14.out _ (List.getElem_mem hlt)
      have htk : rawT (xs.take (k + 1)) = rawT (xs.take k) ++ [(xs[k]).data.toList] := by rw [List.take_succ_eq_append_getElem hlt, rawT_snoc]
      have HT : Hid (rawT (xs.take (k + 1)) = rawT (xs.take k) ++ [(xs[k]).data.toList]) := htk
      clear htk
      by_cases hk0 : k = 0
      · subst hk0
        rw [Nat.add_zero] at c0
        have hb0 : b = ⟨#[]⟩ := bytes_ext hb.out
        have hst : Hid ((⟨#[]⟩ ++ xs[0] : ByteArray).data.toList = Lib.join (rawT (xs.take (0 + 1))) [32]) := by
          have : (⟨#[]⟩ ++ xs[0] : ByteArray).data.toList = Lib.join (rawT (xs.take (0 + 1))) [32] := by
            rw [HT.out, bytes_append]
            show xs[0].data.toList = Lib.join [xs[0].data.toList] [32]
            rw [Lib.join_one]
          exact this
        subst hb0
        generalize xs[0] = x at c0 hxk hst
        have hz1 : ¬ (9223372036854775807 < x.size) := by omega
        clear HT hb
        go_wp2
        go_roundw
        case rel => exact ⟨0 + 1, _, by omega, by go_num, rfl, hst.out, by trivial⟩
        case measure => simp [intOf]; omega
      · have hk1 : 0 < k := by omega
        have hst : Hid ((b ++ ⟨#[32]⟩ ++ xs[k] : ByteArray).data.toList = Lib.join (rawT (xs.take (k + 1))) [32]) := by
          have : (b ++ ⟨#[32]⟩ ++ xs[k] : ByteArray).data.toList = Lib.join (rawT (xs.take (k + 1))) [32] := by
            rw [HT.out, join_snoc _ _ _ (List.ne_nil_of_length_pos (by unfold rawT; rw [List.length_map, List.length_take]; omega)), bytes_append, bytes_append, hb.out]
          exact this
        generalize xs[k] = x at c0 hxk hst
        have hz1 : ¬ (9223372036854775807 < b.size + 1) := by omega
        have hz2 : ¬ (9223372036854775807 < b.size + 1 + x.size) := by omega
        have hz3 : (b ++ ⟨#[32]⟩ : ByteArray).size = b.size + 1 := by rw [ByteArray.size_append]; rfl
        clear HT hb hk0
        go_wp2
        go_roundw
        case rel => exact ⟨k + 1, _, by omega, by go_num, rfl, hst.out, by trivial⟩
        case measure => simp [intOf]; omega
    · have hkl : k = xs.length := by omega
      subst hkl
      have hi1 : ¬ (xs.length : Int) < (xs.length : Int) := by omega
      have e : b = y := by
        rw [← HY.out]
        refine bytes_ext ?_
        rw [hb.out, List.take_length]
      subst e
      go_wp2
      go_ret
      exact ⟨rfl, rfl⟩

theorem add_txt (x y z : ByteArray) (h : x ++ y = z) (hx : x.size ≤ 100000) (hy : y.size ≤ 100000) (w : World) : (binOp .add 9 (.string x) (.string y)).run Tryz.prog w = .ok (.string z) w := by
  have h1 : ¬ (9223372036854775807 < x.size + y.size) := by omega
  subst h
  go_simp
theorem head_split {t : TB} (h : 0 < t.2.1.length) : headTx t = t.1.data.toList ++ [32] ++ Lib.join (rawT t.2.1) [32] := by
  unfold headTx rawT
  cases hc : t.2.1 with
  | nil => rw [hc] at h; simp at h
  | cons x C =>
    rw [List.map_cons, Lib.join_cons, Lib.join_cons]
    simp [Lib.joinTail]
theorem l4rowN (n : Nat) (a : Option Addr) (cap : Nat) (l : List CT) (hn : l.length = n) (w : World) (hrow : RowAt w a l) (hall : l.all okC = true) (hm : n ≤ 1048576) (y : ByteArray) (hy : rowT l = y) :
    Calls Tryz.prog 12 #[.slice a n cap] w fun e w' => e = .returned (.string y) ∧ Below w.heap.size w w' := by
  subst hn; exact l4row_spec a cap l w hrow hall hm y hy
theorem size_of {x : ByteArray} {l : List UInt8} (h : x.data.toList = l) : x.size = l.length := by rw [Lib.size_eq, h]

set_option maxRecDepth 100000 in
set_option maxHeartbeats 8000000 in
theorem showbase_spec (a : Option Addr) (cap : Nat) (T : List TB) (n : Nat) (hn : T.length = n) (w : World) (hrow : TabsAt w a T) (hm : n ≤ 1048576) (y : ByteArray) (hy : showB T = y) :
    Calls Tryz.prog 5 #[.slice a n cap] w fun e w' => e = .returned (.string y) ∧ Below w.heap.size w w' := by
  have HR : Hid (TabsAt w a T) := hrow
  have HN : Hid (T.length = n) := hn
  have HY : Hid (showB T = y) := hy
  obtain ⟨b, hb⟩ : ∃ b, baseB T = b := ⟨_, rfl⟩
  have HB : Hid (baseB T = b) := hb
  have hmL : n ≤ maxLen := by unfold maxLen; omega
  have HOK : Hid (b = true → (∀ t, t ∈ T → tableB t = true) ∧ T.length ≤ 5) := by
    have : b = true → (∀ t, t ∈ T → tableB t = true) ∧ T.length ≤ 5 := by
      intro e
      have h := hb
      rw [e] at h
      unfold baseB at h
      simp only [Bool.and_eq_true, decide_eq_true_eq] at h
      exact ⟨fun t ht => List.all_eq_true.1 h.1.1 t ht, h.2⟩
    exact this
  clear hrow hn hy hb
  go_enter Tryz.func5, Tryz.ntmps5
  go_wp2
  go_loopw [3, 4] (fun s ii wr => ∃ (i : Nat) (bt : ByteArray), i ≤ n ∧ ii = .int .i64 i ∧ s = .string bt ∧ Hid (bt.data.toList = showTx (T.take i)) ∧ Hid (b = false → i = 0) ∧ Below w.heap.size w wr) (fun _ ii _ => n - (intOf ii).toNat)
  case atStart => exact ⟨0, _, Nat.zero_le _, rfl, rfl, rfl, fun _ => rfl, Below.refl _ _⟩
  case round =>
    obtain ⟨i, bt, hi, rfl, rfl, HBT, HI0, hbw⟩ := hrel
    by_cases hlt : i < n
    · have hi0 : (0 : Int) ≤ (i : Int) := by omega
      have hi1 : (i : Int) < (n : Int) := by omega
      cases b
      · have e0 := HI0.out rfl
        have ey : bt = y := by
          rw [← HY.out]
          unfold showB
          rw [if_neg (by rw [HB.out]; simp)]
          have h := HBT.out
          rw [e0] at h
          exact bytes_ext h
        subst ey
        clear e0
        go_wp2_with fail
        refine (base_spec a cap T n HN.out _ (HR.out.below hbw) hmL false HB.out).mono ?_
        rintro e w1 ⟨rfl, hb1⟩
        have hx1 := chain hbw hb1
        go_wp2
        go_ret
        exact ⟨rfl, hx1⟩
      · obtain ⟨hok, h5⟩ := HOK.out rfl
        have hlt' : Hid (i < T.length) := by have := HN.out; exact show i < T.length by omega
        have HTK : Hid (tableB (T[i]'hlt'.out) = true) := hok _ (List.getElem_mem hlt'.out)
        have HTX : Hid (showTx (T.take (i + 1)) = showTx (T.take i) ++ tabTx (T[i]'hlt'.out)) := showTx_take T i hlt'.out
        have hbtS : bt.size ≤ 28135 := by rw [size_of HBT.out]; exact showTx_len hok h5 i
        go_wp2_with fail
        refine (base_spec a cap T n HN.out _ (HR.out.below hbw) hmL true HB.out).mono ?_
        rintro e w1 ⟨rfl, hb1⟩
        have hx1 := chain hbw hb1
        obtain ⟨g, o, ca, cc, ra, cr, rfl, hgw, c0, c1, c2, hta⟩ := HR.out.below hx1 i hlt'.out
        generalize (T[i]'hlt'.out) = t at c0 c1 c2 hta HTK HTX
        obtain ⟨q1, q2, q3, q4, q5⟩ := tableB_parts HTK.out
        have hnc1 : 0 < t.2.1.length := by
          have h := HTK.out
          unfold tableB namesB at h
          simp only [Bool.and_eq_true, decide_eq_true_eq] at h
          have := h.1.2.1.2.1
          omega
        obtain ⟨bC, oC, eC, hbC, hcc⟩ := hta.cols 0 hnc1
        subst eC
        clear hcc
        have HTA : Hid (TabAt w1 (some ⟨bC, oC, none⟩) cc ra t) := hta
        have HQ5 : Hid (∀ r, r ∈ t.2.2 → r.all okC = true ∧ r.length ≤ 6) := q5
        have HHS : Hid (headTx t = t.1.data.toList ++ [32] ++ Lib.join (rawT t.2.1) [32]) := head_split hnc1
        obtain ⟨nc, hnc⟩ : ∃ z, t.2.1.length = z := ⟨_, rfl⟩
        obtain ⟨nr, hnr⟩ : ∃ z, t.2.2.length = z := ⟨_, rfl⟩
        obtain ⟨nm, hnm⟩ : ∃ z, t.1 = z := ⟨_, rfl⟩
        rw [hnm] at c0 q1 HHS
        rw [hnc] at c1 q2
        rw [hnr] at c2 q4
        have HNC : Hid (t.2.1.length = nc) := hnc
        have HNR : Hid (t.2.2.length = nr) := hnr
        have H14 : Hid (∀ x ∈ t.2.1, x.size ≤ 14) := by
          have : ∀ x ∈ t.2.1, x.size ≤ 14 := fun x hx => by have := q3 x hx; omega
          exact this
        obtain ⟨wd, hwd⟩ : ∃ z : ByteArray, (⟨(Lib.join (rawT t.2.1) [32]).toArray⟩ : ByteArray) = z := ⟨_, rfl⟩
        have HWD : Hid ((⟨(Lib.join (rawT t.2.1) [32]).toArray⟩ : ByteArray) = wd) := hwd
        have hwdL : wd.data.toList = Lib.join (rawT t.2.1) [32] := by rw [← hwd]
        have hwdS : wd.size ≤ 105 := by
          have h := headTx_len HTK.out
          rw [HHS.out] at h
          rw [size_of hwdL]
          simp only [List.length_append] at h
          omega
        have z32 : (⟨#[32]⟩ : ByteArray).size = 1 := rfl
        have m1 : (bt ++ nm : ByteArray).size = bt.size + nm.size := by rw [ByteArray.size_append]
        have m2 : (bt ++ nm ++ ⟨#[32]⟩ : ByteArray).size = bt.size + nm.size + 1 := by rw [ByteArray.size_append, m1, z32]
        have m3 : (bt ++ nm ++ ⟨#[32]⟩ ++ wd : ByteArray).size = bt.size + nm.size + 1 + wd.size := by rw [ByteArray.size_append, m2]
        have n1 : ¬ (9223372036854775807 < bt.size + nm.size) := by omega
        have n2 : ¬ (9223372036854775807 < bt.size + nm.size + 1) := by omega
        have n3 : ¬ (9223372036854775807 < bt.size + nm.size + 1 + wd.size) := by omega
        have n4 : ¬ (9223372036854775807 < bt.size + nm.size + 1 + wd.size + 1) := by omega
        have HS4 : Hid ((bt ++ nm ++ ⟨#[32]⟩ ++ wd ++ ⟨#[58]⟩ : ByteArray).data.toList = showTx (T.take i) ++ headTx t ++ [58] ++ (t.2.2.take 0).flatMap rowTx) := by
          have : (bt ++ nm ++ ⟨#[32]⟩ ++ wd ++ ⟨#[58]⟩ : ByteArray).data.toList = showTx (T.take i) ++ headTx t ++ [58] ++ (t.2.2.take 0).flatMap rowTx := by
            rw [HHS.out, bytes_append, bytes_append, bytes_append, bytes_append, HBT.out, hwdL]
            simp
          exact this
        have HRL : Hid (∀ k, (showTx (T.take i) ++ headTx t ++ [58] ++ (t.2.2.take k).flatMap rowTx).length ≤ 33762) := by
          have : ∀ k, (showTx (T.take i) ++ headTx t ++ [58] ++ (t.2.2.take k).flatMap rowTx).length ≤ 33762 := fun k => by
            have g1 := showTx_len hok h5 i
            have g2 := headTx_len HTK.out
            have g3 := rowsTx_len HTK.out k
            simp only [List.length_append, List.length_cons, List.length_nil]
            omega
          exact this
        clear hta hok h5 q1 q3 q5 hnc1 hnc hnr hnm hwd hwdL hb1 hbw HBT z32
        go_wp2_with fail
        refine wp_region_held_drew (S := (fun w' => w'.cell? ⟨g, o + i * 3, none⟩ = some (.string nm) ∧ w'.cell? ⟨g, o + i * 3 + 1, none⟩ = some (.slice (some ⟨bC, oC, none⟩) nc cc))) (by kernel_rfl) ?_ (fun hHeld => ?_)
        · exact ⟨c0, c1⟩
        refine wpAnyH_take (i := 0) (by simp only [List.getElem?_toArray, List.getElem?_cons_zero]; rfl) (by kernel_rfl) (by kernel_rfl) (by kernel_rfl) (by intro _ _ _ h; exact h) (Or.inl ⟨by rfl, fun w hSw => by (dsimp only at hSw; go_simp; (try with_reducible rfl))⟩) (by assumption) ?_
        simp only [Act.put, List.setIfInBounds_toArray, List.set_cons_zero, List.set_cons_succ]
        refine wpAnyH_take (i := 1) (by simp only [List.getElem?_toArray, List.getElem?_cons_zero, List.getElem?_cons_succ]; rfl) (by kernel_rfl) (by kernel_rfl) (by kernel_rfl) (by intro _ _ _ h; exact h) (Or.inl ⟨by rfl, fun w hSw => by (dsimp only at hSw; go_simp; (try with_reducible rfl))⟩) (by assumption) ?_
        simp only [Act.put, List.setIfInBounds_toArray, List.set_cons_zero, List.set_cons_succ]
        refine wpAnyH_take (i := 2) (by simp only [List.getElem?_toArray, List.getElem?_cons_zero, List.getElem?_cons_succ]; rfl) (by kernel_rfl) (by kernel_rfl) (by kernel_rfl) (by intro _ _ _ h; exact h) (Or.inl ⟨by rfl, fun w hSw => by (dsimp only at hSw; go_simp; (try with_reducible rfl))⟩) (by assumption) ?_
        simp only [Act.put, List.setIfInBounds_toArray, List.set_cons_zero, List.set_cons_succ]
        refine wpAnyH_take (i := 3) (by simp only [List.getElem?_toArray, List.getElem?_cons_zero, List.getElem?_cons_succ]; rfl) (by kernel_rfl) (by kernel_rfl) (by kernel_rfl) (by intro _ _ _ h; exact h) (Or.inl ⟨by rfl, fun w hSw => by (dsimp only at hSw; go_simp; (try with_reducible rfl))⟩) (by assumption) ?_
        simp only [Act.put, List.setIfInBounds_toArray, List.set_cons_zero, List.set_cons_succ]
        refine wpAnyH_take (i := 4) (by simp only [List.getElem?_toArray, List.getElem?_cons_zero, List.getElem?_cons_succ]; rfl) (by kernel_rfl) (by kernel_rfl) (by kernel_rfl) (by intro _ _ _ h; exact h) (Or.inl ⟨by rfl, fun w hSw => by (dsimp only at hSw; go_simp; (try with_reducible rfl))⟩) (by assumption) ?_
        simp only [Act.put, List.setIfInBounds_toArray, List.set_cons_zero, List.set_cons_succ]
        refine wpAnyH_take (i := 5) (by simp only [List.getElem?_toArray, List.getElem?_cons_zero, List.getElem?_cons_succ]; rfl) (by kernel_rfl) (by kernel_rfl) (by kernel_rfl) (by intro _ _ _ h; exact h) (Or.inl ⟨by rfl, fun w hSw => by (dsimp only at hSw; go_simp; (try with_reducible rfl))⟩) (by assumption) ?_
        simp only [Act.put, List.setIfInBounds_toArray, List.set_cons_zero, List.set_cons_succ]
        refine wpAnyH_take (i := 6) (by simp only [List.getElem?_toArray, List.getElem?_cons_zero, List.getElem?_cons_succ]; rfl) (by kernel_rfl) (by kernel_rfl) (by kernel_rfl) (by intro _ _ _ h; exact h) (Or.inl ⟨by rfl, fun w hSw => by (dsimp only at hSw; go_simp; (try with_reducible rfl))⟩) (by assumption) ?_
        simp only [Act.put, List.setIfInBounds_toArray, List.set_cons_zero, List.set_cons_succ]
        refine wpAnyH_take (i := 7) (by simp only [List.getElem?_toArray, List.getElem?_cons_zero, List.getElem?_cons_succ]; rfl) (by kernel_rfl) (by kernel_rfl) (by kernel_rfl) (by intro _ _ _ h; exact h) (Or.inl ⟨by rfl, fun w hSw => by (dsimp only at hSw; go_simp; (try with_reducible rfl))⟩) (by assumption) ?_
        simp only [Act.put, List.setIfInBounds_toArray, List.set_cons_zero, List.set_cons_succ]
        refine wpAnyH_take (i := 8) (by simp only [List.getElem?_toArray, List.getElem?_cons_zero, List.getElem?_cons_succ]; rfl) (by kernel_rfl) (by kernel_rfl) (by kernel_rfl) (by intro _ _ _ h; exact h) (Or.inl ⟨by rfl, fun w hSw => by (dsimp only at hSw; go_simp; (try with_reducible rfl))⟩) (by assumption) ?_
        simp only [Act.put, List.setIfInBounds_toArray, List.set_cons_zero, List.set_cons_succ]
        refine wpAnyH_take (i := 9) (by simp only [List.getElem?_toArray, List.getElem?_cons_zero, List.getElem?_cons_succ]; rfl) (by kernel_rfl) (by kernel_rfl) (by kernel_rfl) (by intro _ _ _ h; exact h) (Or.inl ⟨by rfl, fun w hSw => by (dsimp only at hSw; go_simp; (try with_reducible rfl))⟩) (by assumption) ?_
        simp only [Act.put, List.setIfInBounds_toArray, List.set_cons_zero, List.set_cons_succ]
        refine wpAnyH_take (i := 10) (by simp only [List.getElem?_toArray, List.getElem?_cons_zero, List.getElem?_cons_succ]; rfl) (by kernel_rfl) (by kernel_rfl) (by kernel_rfl) (by intro _ _ _ h; exact h) (Or.inl ⟨by rfl, fun w hSw => by (dsimp only at hSw; go_simp; (try with_reducible rfl))⟩) (by assumption) ?_
        simp only [Act.put, List.setIfInBounds_toArray, List.set_cons_zero, List.set_cons_succ]
        refine wpAnyH_take (i := 11) (by simp only [List.getElem?_toArray, List.getElem?_cons_zero, List.getElem?_cons_succ]; rfl) (by kernel_rfl) (by kernel_rfl) (by kernel_rfl) (by intro _ _ _ h; exact h) (Or.inl ⟨by rfl, fun w hSw => by (dsimp only at hSw; go_simp; (try with_reducible rfl))⟩) (by assumption) ?_
        simp only [Act.put, List.setIfInBounds_toArray, List.set_cons_zero, List.set_cons_succ]
        refine wpAnyH_take (i := 12) (by simp only [List.getElem?_toArray, List.getElem?_cons_zero, List.getElem?_cons_succ]; rfl) (by kernel_rfl) (by kernel_rfl) (by kernel_rfl) (by intro _ _ _ h; exact h) (Or.inl ⟨by rfl, fun w hSw => by (dsimp only at hSw; go_simp; (try with_reducible rfl))⟩) (by assumption) ?_
        simp only [Act.put, List.setIfInBounds_toArray, List.set_cons_zero, List.set_cons_succ]
        refine wpAnyH_ready (rs := [13]) (by kernel_rfl) (by simp) ?_
        refine AllReadyH.cons (by simp only [List.getElem?_toArray, List.getElem?_cons_zero, List.getElem?_cons_succ]; rfl) ?_ AllReadyH.nil
        intro K hK
        go_simp
        refine (words_specO nc bC oC cc t.2.1 HNC.out _ (HTA.out.cols.below (Below.refl _ _).drew) (by rw [HNC.out]; omega) H14.out wd HWD.out).mono ?_
        rintro e w2 ⟨rfl, rfl⟩
        go_wp2_with fail
        refine hK.out _ _ ⟨c0, c1⟩ (fun hHeld => ?_)
        clear hK K
        try simp only [Act.put, List.setIfInBounds_toArray, List.set_cons_zero, List.set_cons_succ]
        refine wpAnyH_take (i := 14) (by simp only [List.getElem?_toArray, List.getElem?_cons_zero, List.getElem?_cons_succ]; rfl) (by kernel_rfl) (by kernel_rfl) (by kernel_rfl) (by intro _ _ _ h; exact h) (Or.inl ⟨by rfl, fun w hSw => by (dsimp only at hSw; go_simp; (try with_reducible rfl))⟩) (by assumption) ?_
        simp only [Act.put, List.setIfInBounds_toArray, List.set_cons_zero, List.set_cons_succ]
        refine wpAnyH_take (i := 15) (by simp only [List.getElem?_toArray, List.getElem?_cons_zero, List.getElem?_cons_succ]; rfl) (by kernel_rfl) (by kernel_rfl) (by kernel_rfl) (by intro _ _ _ h; exact h) (Or.inl ⟨by rfl, fun w hSw => by (dsimp only at hSw; go_simp; (try with_reducible rfl))⟩) (by assumption) ?_
        simp only [Act.put, List.setIfInBounds_toArray, List.set_cons_zero, List.set_cons_succ]
        refine wpAnyH_take (i := 16) (by simp only [List.getElem?_toArray, List.getElem?_cons_zero, List.getElem?_cons_succ]; rfl) (by kernel_rfl) (by kernel_rfl) (by kernel_rfl) (by intro _ _ _ h; exact h) (Or.inl ⟨by rfl, fun w hSw => by (dsimp only at hSw; go_simp; (try with_reducible rfl))⟩) (by assumption) ?_
        simp only [Act.put, List.setIfInBounds_toArray, List.set_cons_zero, List.set_cons_succ]
        refine wpAnyH_done (by kernel_rfl) ?_ _
        have hx1d : Below w.heap.size w w1.drew := hx1.drew
        have HTA1 : Hid (TabAt w1.drew (some ⟨bC, oC, none⟩) cc ra t) := HTA.out.below (Below.refl _ _).drew
        have c2' : w1.drew.cell? ⟨g, o + i * 3 + 2, none⟩ = some (.slice ra nr cr) := c2
        have hgw' : g < w1.drew.heap.size := hgw
        generalize w1.drew = w3 at hx1d HTA1 c2' hgw' ⊢
        clear c0 c1 c2 m1 m2 m3 n1 n2 n3 n4 HTA hx1 hgw
        go_wp2
        go_loopw [3, 5] (fun s kk wr => ∃ (k : Nat) (b2 : ByteArray), k ≤ nr ∧ kk = .int .i64 k ∧ s = .string b2 ∧ Hid (b2.data.toList = showTx (T.take i) ++ headTx t ++ [58] ++ (t.2.2.take k).flatMap rowTx) ∧ Below w3.heap.size w3 wr) (fun _ kk _ => nr - (intOf kk).toNat)
        case atStart => exact ⟨0, _, Nat.zero_le _, rfl, rfl, HS4, Below.refl _ _⟩
        case round =>
          obtain ⟨k, b2, hk, rfl, rfl, HB2, hbr⟩ := hrel
          have d2 : wr.cell? ⟨g, o + i * 3 + 2, none⟩ = some (.slice ra nr cr) := by rw [hbr.cell (p := ⟨g, _, none⟩) hgw']; exact c2'
          have hb2S : b2.size ≤ 33762 := by rw [size_of HB2.out]; exact HRL.out k
          by_cases hltk : k < nr
          · have hltk' : Hid (k < t.2.2.length) := by have := HNR.out; exact show k < t.2.2.length by omega
            obtain ⟨gr, or_, ai, ci, rfl, hgrw, d0, hrow, hfit, hlen, _⟩ := (HTA1.out.rows.below hbr) k hltk'.out
            have hk0 : (0 : Int) ≤ (k : Int) := by omega
            have hk1 : (k : Int) < (nr : Int) := by omega
            obtain ⟨hro, hr6⟩ := HQ5.out _ (List.getElem_mem hltk'.out)
            have HRT : Hid ((t.2.2.take (k + 1)).flatMap rowTx = (t.2.2.take k).flatMap rowTx ++ rowTx (t.2.2[k]'hltk'.out)) := rowTx_take t.2.2 k hltk'.out
            have HRW : Hid (RowAt wr ai (t.2.2[k]'hltk'.out) ∧ (t.2.2[k]'hltk'.out).all okC = true) := ⟨hrow, hro⟩
            have hz90 := rowT_len hro hr6
            generalize (t.2.2[k]'hltk'.out) = row at d0 HRT HRW hr6 hz90
            obtain ⟨nl, hnl⟩ : ∃ x, row.length = x := ⟨_, rfl⟩
            rw [hnl] at d0
            have HNL : Hid (row.length = nl) := hnl
            have hnl6 : nl ≤ 6 := by rw [← hnl]; exact hr6
            obtain ⟨z, hz⟩ : ∃ z, rowT row = z := ⟨_, rfl⟩
            have HZ : Hid (rowT row = z) := hz
            have hzS : z.size ≤ 90 := by rw [← hz, Lib.size_eq]; exact hz90
            have m5 : (b2 ++ ⟨#[10, 32]⟩ : ByteArray).size = b2.size + 2 := by rw [ByteArray.size_append]; rfl
            have n5 : ¬ (9223372036854775807 < b2.size + 2) := by omega
            have n6 : ¬ (9223372036854775807 < b2.size + 2 + z.size) := by omega
            have HB3 : Hid ((b2 ++ ⟨#[10, 32]⟩ ++ z : ByteArray).data.toList = showTx (T.take i) ++ headTx t ++ [58] ++ (t.2.2.take (k + 1)).flatMap rowTx) := by
              have : (b2 ++ ⟨#[10, 32]⟩ ++ z : ByteArray).data.toList = showTx (T.take i) ++ headTx t ++ [58] ++ (t.2.2.take (k + 1)).flatMap rowTx := by
                rw [bytes_append, bytes_append, HB2.out, HRT.out, ← hz]
                unfold rowTx
                simp
              exact this
            clear hrow hfit hlen hro hr6 hz90 hnl hz HB2
            go_wp2_with fail
            refine (l4rowN nl ai ci row HNL.out _ HRW.out.1 HRW.out.2 (by omega) z HZ.out).mono ?_
            rintro e w4 ⟨rfl, hb4⟩
            have hbr4 := chain hbr hb4
            clear hb4 hbr d0 d2 HRW
            go_wp2
            go_roundw
            case rel => exact ⟨k + 1, _, by omega, by go_num, rfl, HB3, hbr4⟩
            case measure => simp [intOf]; omega
          · have hkl : k = nr := by omega
            subst hkl
            have hnk : ¬ (k : Int) < (k : Int) := by omega
            have n7 : ¬ (9223372036854775807 < b2.size + 1) := by omega
            have HB5 : Hid ((b2 ++ ⟨#[10]⟩ : ByteArray).data.toList = showTx (T.take (i + 1))) := by
              have : (b2 ++ ⟨#[10]⟩ : ByteArray).data.toList = showTx (T.take (i + 1)) := by
                rw [bytes_append, HB2.out, HTX.out, show t.2.2.take k = t.2.2 by rw [← HNR.out, List.take_length]]
                unfold tabTx
                simp
              exact this
            have hx9 := chain hx1d hbr
            clear HB2 hbr
            go_wp2
            go_roundw
            case rel => exact ⟨i + 1, _, by omega, by go_num, rfl, HB5, fun e => (by cases e), hx9⟩
            case measure => simp [intOf]; omega
    · have hkl : i = n := by omega
      subst hkl
      have hnn : ¬ (i : Int) < (i : Int) := by omega
      have ey : bt = y := by
        rw [← HY.out]
        unfold showB
        refine bytes_ext ?_
        rw [HBT.out, show T.take i = T by rw [← HN.out, List.take_length]]
        cases b
        · have e0 := HI0.out rfl
          have hT : T = [] := List.eq_nil_of_length_eq_zero (by rw [HN.out]; exact e0)
          subst hT
          rfl
        · rw [if_pos HB.out]
      subst ey
      go_wp2
      go_ret
      exact ⟨rfl, hbw⟩
end Go.Proofs.YtkbfgecdhiaiialGreatDoor

/-
  A law's argument that is a slice of cells, opened: which list of cells it is, and where they lie.
-/
namespace Go.Proofs.YtkbfgecdhiaiialGreatDoor
open Go.ChangeShapes Go.WideShapes Go.ChangeAt Go.RowKit Go.Deep

theorem open_cells {H : Type} {enc : TypeId × Value → H} {P : Program} {w : World} {base : Nat} {spare : Nat → Bool} {held : Bool} {t e : TypeId} {f0 f1 f2 : Field} {fuel : Nat} {a : Option Addr} {len cap : Nat} {x : DataW H × List MemPlace}
    (ht : P.underlying t = some (.slice e)) (he : P.underlying e = some (.struct #[f0, f1, f2])) (ce : P.cellsOf e = 3) (o0 : f0.offset = 0) (o1 : f1.offset = 1) (o2 : f2.offset = 2)
    (c0 : P.cellsOf f0.type = 1) (c1 : P.cellsOf f1.type = 1) (c2 : P.cellsOf f2.type = 1) (u0 : P.underlying f0.type = some (.int .i64)) (u1 : P.underlying f1.type = some (.int .i64)) (u2 : P.underlying f2.type = some .string)
    (h : DataW.trod enc P w base spare held fuel t [.slice a len cap] = some x) :
    ∃ l : List CT, l.length = len ∧ RowAt w a l ∧ Fit l ∧ len ≤ maxLen ∧ (a = none → cap = 0) := by
  rcases open_slice ht h with ⟨h0, _⟩ | ⟨ad, len', cap', m, n, D, Pl, hcs, hb, hl, hm, hmm, _, hx⟩
  · simp at h0
    obtain ⟨rfl, rfl, rfl⟩ := h0
    exact ⟨[], rfl, fun j hj => by simp at hj, fun j hj => by simp at hj, by unfold maxLen; omega, fun _ => rfl⟩
  simp at hcs
  obtain ⟨rfl, rfl, rfl⟩ := hcs
  have hlm : len ≤ m := by rw [hmm]; split <;> omega
  have each : ∀ i, i < len → ∃ q : CT, w.cell? (ad.add (i * 3)) = some (.int .i64 q.1) ∧ w.cell? (ad.add (i * 3 + 1)) = some (.int .i64 q.2.1) ∧ w.cell? (ad.add (i * 3 + 2)) = some (.string q.2.2) ∧ q.2.2.size ≤ maxLen := by
    intro i hi
    obtain ⟨cs', h1, h2⟩ := hx i (by omega)
    rw [ce] at h1
    obtain ⟨_, hlen, hcell⟩ := World.cells?_some h1
    obtain ⟨xs, k, hk, hxy, _, hxl, hf⟩ := DataW.trod_struct he h2
    match xs, hxl, cs', hlen with
    | [y0, y1, y2], _, [v0, v1, v2], _ =>
      have g0 := hf 0 f0 rfl
      have g1 := hf 1 f1 rfl
      have g2 := hf 2 f2 rfl
      simp [o0, o1, o2, c0, c1, c2] at g0 g1 g2
      have e0 := hcell 0 (by omega)
      have e1 := hcell 1 (by omega)
      have e2 := hcell 2 (by omega)
      rw [add_add] at e0 e1 e2
      obtain ⟨k0, ek, _, _⟩ := DataW.trod_int u0 g0
      obtain ⟨n0, en, _, _⟩ := DataW.trod_int u1 g1
      obtain ⟨s0, es, _, hs⟩ := DataW.trod_string u2 g2
      simp at ek en es
      subst ek en es
      exact ⟨(k0, n0, s0), by simpa using e0, by simpa using e1, by simpa using e2, hs⟩
  obtain ⟨q, hq⟩ := choose_lt each
  have spot : 0 < len → ad.spot = none := by
    intro h0
    obtain ⟨e0, _⟩ := hq 0 h0
    simpa [Addr.add] using World.cell?_spot e0
  refine ⟨(List.range len).map q, by simp, ?_, ?_, by omega, fun h => by cases h⟩
  · intro j hj
    have hj' : j < len := by simpa using hj
    obtain ⟨b, o, sp⟩ := ad
    have hsp := spot (by omega)
    simp at hsp
    subst hsp
    obtain ⟨e0, e1, e2, _⟩ := hq j hj'
    have hadd : ∀ q, ((⟨b, o, none⟩ : Addr).add q) = ⟨b, o + q, none⟩ := by
      intro q
      unfold Addr.add
      by_cases hq : q = 0 <;> simp [hq]
    rw [hadd] at e0 e1 e2
    refine ⟨b, o, rfl, World.block_lt_of_cell? w _ e0, ?_, ?_, ?_⟩
    · simpa using e0
    · simpa [Nat.add_assoc] using e1
    · simpa [Nat.add_assoc] using e2
  · intro j hj
    have hj' : j < len := by simpa using hj
    simpa using (hq j hj').2.2.2

theorem open_rows {H : Type} {enc : TypeId × Value → H} {P : Program} {w : World} {base : Nat} {spare : Nat → Bool} {held : Bool} {tt t e : TypeId} {f0 f1 f2 : Field} {fuel : Nat} {a : Option Addr} {len cap : Nat} {x : DataW H × List MemPlace}
    (htt : P.underlying tt = some (.slice t)) (ct : P.cellsOf t = 1) (ht : P.underlying t = some (.slice e)) (he : P.underlying e = some (.struct #[f0, f1, f2])) (ce : P.cellsOf e = 3) (o0 : f0.offset = 0) (o1 : f1.offset = 1) (o2 : f2.offset = 2)
    (c0 : P.cellsOf f0.type = 1) (c1 : P.cellsOf f1.type = 1) (c2 : P.cellsOf f2.type = 1) (u0 : P.underlying f0.type = some (.int .i64)) (u1 : P.underlying f1.type = some (.int .i64)) (u2 : P.underlying f2.type = some .string)
    (h : DataW.trod enc P w base spare held fuel tt [.slice a len cap] = some x) :
    ∃ L : List (List CT), L.length = len ∧ RowsAt w a L ∧ len ≤ maxLen ∧ (a = none → cap = 0) := by
  rcases open_slice htt h with ⟨h0, _⟩ | ⟨ad, len', cap', m, n, D, Pl, hcs, hb, hl, hm, hmm, _, hx⟩
  · simp at h0
    obtain ⟨rfl, rfl, rfl⟩ := h0
    exact ⟨[], rfl, fun j hj => by simp at hj, by unfold maxLen; omega, fun _ => rfl⟩
  simp at hcs
  obtain ⟨rfl, rfl, rfl⟩ := hcs
  have hlm : len ≤ m := by rw [hmm]; split <;> omega
  have each : ∀ i, i < len → ∃ l : List CT, ∃ ai ci, w.cell? (ad.add i) = some (.slice ai l.length ci) ∧ RowAt w ai l ∧ Fit l ∧ l.length ≤ maxLen ∧ (ai = none → ci = 0) := by
    intro i hi
    obtain ⟨cs', h1, h2⟩ := hx i (by omega)
    rw [ct, Nat.mul_one] at h1
    obtain ⟨_, hlen, hcell⟩ := World.cells?_some h1
    match cs', hlen with
    | [v], _ =>
      have e0 := hcell 0 (by omega)
      rw [add_add] at e0
      have e1 : w.cell? (ad.add i) = some v := by simpa using e0
      obtain ⟨ai, li, ci, rfl⟩ : ∃ ai li ci, v = .slice ai li ci := by
        rcases open_slice ht h2 with ⟨hv, _⟩ | ⟨a', l', c', _, _, _, _, hv, _⟩
        · simp at hv; exact ⟨_, _, _, hv⟩
        · simp at hv; exact ⟨_, _, _, hv⟩
      obtain ⟨l, hll, hr, hf, hml, hn⟩ := open_cells ht he ce o0 o1 o2 c0 c1 c2 u0 u1 u2 h2
      subst hll
      exact ⟨l, ai, ci, e1, hr, hf, hml, hn⟩
  obtain ⟨q, hq⟩ := choose_lt each
  have spot : 0 < len → ad.spot = none := by
    intro h0
    obtain ⟨ai, ci, e0, _⟩ := hq 0 h0
    simpa [Addr.add] using World.cell?_spot e0
  refine ⟨(List.range len).map q, by simp, ?_, by omega, fun h => by cases h⟩
  intro j hj
  have hj' : j < len := by simpa using hj
  obtain ⟨b, o, sp⟩ := ad
  have hsp := spot (by omega)
  simp at hsp
  subst hsp
  obtain ⟨ai, ci, e0, hr, hf, hml, hn⟩ := hq j hj'
  have hadd : ((⟨b, o, none⟩ : Addr).add j) = ⟨b, o + j, none⟩ := by
    unfold Addr.add
    by_cases hq : j = 0 <;> simp [hq]
  rw [hadd] at e0
  have hg : ((List.range len).map q)[j] = q j := by simp
  rw [hg]
  exact ⟨b, o, ai, ci, rfl, World.block_lt_of_cell? w _ e0, e0, hr, hf, hml, hn⟩

end Go.Proofs.YtkbfgecdhiaiialGreatDoor

/-
  A law's argument that is a slice of texts, or a table, opened: which one it is, and where it lies.
-/
namespace Go.Proofs.YtkbfgecdhiaiialGreatDoor
open Go.ChangeShapes Go.WideShapes Go.ChangeAt Go.RowKit Go.Deep Go.Joins

theorem open_strs {H : Type} {enc : TypeId × Value → H} {P : Program} {w : World} {base : Nat} {spare : Nat → Bool} {held : Bool} {t e : TypeId} {fuel : Nat} {a : Option Addr} {len cap : Nat} {x : DataW H × List MemPlace}
    (ht : P.underlying t = some (.slice e)) (he : P.underlying e = some .string) (ce : P.cellsOf e = 1)
    (h : DataW.trod enc P w base spare held fuel t [.slice a len cap] = some x) :
    ∃ l : List ByteArray, l.length = len ∧ StrsAt w a l ∧ FitS l ∧ len ≤ maxLen ∧ len ≤ cap ∧ (a = none → cap = 0) := by
  rcases open_slice ht h with ⟨h0, _⟩ | ⟨ad, len', cap', m, n, D, Pl, hcs, hb, hl, hm, hmm, _, hx⟩
  · simp at h0
    obtain ⟨rfl, rfl, rfl⟩ := h0
    exact ⟨[], rfl, fun j hj => by simp at hj, fun j hj => by simp at hj, by unfold maxLen; omega, Nat.le_refl _, fun _ => rfl⟩
  simp at hcs
  obtain ⟨rfl, rfl, rfl⟩ := hcs
  have hlm : len ≤ m := by rw [hmm]; split <;> omega
  have each : ∀ i, i < len → ∃ q : ByteArray, w.cell? (ad.add i) = some (.string q) ∧ q.size ≤ maxLen := by
    intro i hi
    obtain ⟨cs', h1, h2⟩ := hx i (by omega)
    rw [ce, Nat.mul_one] at h1
    obtain ⟨_, hlen, hcell⟩ := World.cells?_some h1
    match cs', hlen with
    | [v], _ =>
      have e0 := hcell 0 (by omega)
      rw [add_add] at e0
      obtain ⟨s0, es, _, hs⟩ := DataW.trod_string he h2
      simp at es
      subst es
      exact ⟨s0, by simpa using e0, hs⟩
  obtain ⟨q, hq⟩ := choose_lt each
  have spot : 0 < len → ad.spot = none := by
    intro h0
    obtain ⟨e0, _⟩ := hq 0 h0
    simpa [Addr.add] using World.cell?_spot e0
  refine ⟨(List.range len).map q, by simp, ?_, ?_, by omega, by omega, fun h => by cases h⟩
  · intro j hj
    have hj' : j < len := by simpa using hj
    obtain ⟨b, o, sp⟩ := ad
    have hsp := spot (by omega)
    simp at hsp
    subst hsp
    obtain ⟨e0, _⟩ := hq j hj'
    have hadd : ((⟨b, o, none⟩ : Addr).add j) = ⟨b, o + j, none⟩ := by
      unfold Addr.add
      by_cases hq : j = 0 <;> simp [hq]
    rw [hadd] at e0
    refine ⟨b, o, rfl, World.block_lt_of_cell? w _ e0, ?_⟩
    simpa using e0
  · intro j hj
    have hj' : j < len := by simpa using hj
    simpa using (hq j hj').2

theorem cellsTab : Tryz.prog.cellsOf 33 = 3 := by kernel_rfl

set_option maxRecDepth 100000 in
theorem open_table {H : Type} {enc : TypeId × Value → H} {w : World} {r : _root_.Go.Reach} {b0 base : Nat} {spare : Nat → Bool} {held : Bool} {v : Value} {d : DataW H} {p : List MemPlace}
    (hv : Value.okWide Tryz.prog w r b0 33 v) (h : DataW.Trod enc Tryz.prog w base spare held 33 v d p) :
    ∃ (t : TB) (nc nr : Nat) (ca : Option Addr) (cc : Nat) (ra : Option Addr) (cr : Nat), v = .agg #[.string t.1, .slice ca nc cc, .slice ra nr cr] ∧ t.2.1.length = nc ∧ t.2.2.length = nr ∧ TabAt w ca cc ra t := by
  obtain ⟨v0, v1, v2, y0, y1, y2, m, rfl, rfl, rfl, hy0, hy1, hy2⟩ := open_agg3 Tryz.underlying33 (by kernel_rfl) cellsTab hv h
  obtain ⟨nm, en, _, hn⟩ := DataW.trod_string Tryz.underlying9 hy0
  simp at en
  subst en
  obtain ⟨ca, nc, cc, rfl⟩ : ∃ ai li ci, v1 = .slice ai li ci := by
    rcases open_slice Tryz.underlying30 hy1 with ⟨hv, _⟩ | ⟨a', l', c', _, _, _, _, hv, _⟩
    · simp at hv; exact ⟨_, _, _, hv⟩
    · simp at hv; exact ⟨_, _, _, hv⟩
  obtain ⟨ra, nr, cr, rfl⟩ : ∃ ai li ci, v2 = .slice ai li ci := by
    rcases open_slice Tryz.underlying31 hy2 with ⟨hv, _⟩ | ⟨a', l', c', _, _, _, _, hv, _⟩
    · simp at hv; exact ⟨_, _, _, hv⟩
    · simp at hv; exact ⟨_, _, _, hv⟩
  obtain ⟨C, hC, hs, hf, hl, hcap, hnil⟩ := open_strs Tryz.underlying30 Tryz.underlying9 (by kernel_rfl) hy1
  obtain ⟨L, hL, hr, hlr, _⟩ := open_rows Tryz.underlying31 (by kernel_rfl) Tryz.underlying72 Tryz.underlying98 (by kernel_rfl) rfl rfl rfl (by kernel_rfl) (by kernel_rfl) (by kernel_rfl) Tryz.underlying2 Tryz.underlying2 Tryz.underlying9 hy2
  exact ⟨(nm, C, L), nc, nr, ca, cc, ra, cr, rfl, hC, hL, hs, hf, by rw [show (nm, C, L).2.1.length = nc from hC]; exact hl, by rw [show (nm, C, L).2.1.length = nc from hC]; exact hcap, hnil, hr, by rw [show (nm, C, L).2.2.length = nr from hL]; exact hlr, hn⟩

end Go.Proofs.YtkbfgecdhiaiialGreatDoor

/-
  A law's argument that is a slice of tables, opened: which tables they are, and where they lie.
-/
namespace Go.Proofs.YtkbfgecdhiaiialGreatDoor
open Go.ChangeShapes Go.WideShapes Go.ChangeAt Go.RowKit Go.Deep Go.Joins

set_option maxRecDepth 100000 in
theorem open_tabs {H : Type} {enc : TypeId × Value → H} {w : World} {base : Nat} {spare : Nat → Bool} {held : Bool} {fuel : Nat} {a : Option Addr} {len cap : Nat} {x : DataW H × List MemPlace}
    (h : DataW.trod enc Tryz.prog w base spare held fuel 22 [.slice a len cap] = some x) :
    ∃ T : List TB, T.length = len ∧ TabsAt w a T ∧ len ≤ maxLen ∧ len ≤ cap ∧ (a = none → cap = 0) := by
  rcases open_slice Tryz.underlying22 h with ⟨h0, _⟩ | ⟨ad, len', cap', m, n, D, Pl, hcs, hb, hl, hm, hmm, _, hx⟩
  · simp at h0
    obtain ⟨rfl, rfl, rfl⟩ := h0
    exact ⟨[], rfl, fun j hj => by simp at hj, by unfold maxLen; omega, Nat.le_refl _, fun _ => rfl⟩
  simp at hcs
  obtain ⟨rfl, rfl, rfl⟩ := hcs
  have hlm : len ≤ m := by rw [hmm]; split <;> omega
  have each : ∀ i, i < len → ∃ t : TB, ∃ ca cc ra cr, w.cell? (ad.add (i * 3)) = some (.string t.1) ∧ w.cell? (ad.add (i * 3 + 1)) = some (.slice ca t.2.1.length cc) ∧ w.cell? (ad.add (i * 3 + 2)) = some (.slice ra t.2.2.length cr) ∧ TabAt w ca cc ra t := by
    intro i hi
    obtain ⟨cs', h1, h2⟩ := hx i (by omega)
    rw [cellsTab] at h1
    obtain ⟨_, hlen, hcell⟩ := World.cells?_some h1
    obtain ⟨xs, k, hk, hxy, _, hxl, hf⟩ := DataW.trod_struct Tryz.underlying33 h2
    match xs, hxl, cs', hlen with
    | [y0, y1, y2], _, [v0, v1, v2], _ =>
      have g0 := hf 0 _ rfl
      have g1 := hf 1 _ rfl
      have g2 := hf 2 _ rfl
      have k0 : Tryz.prog.cellsOf 9 = 1 := by kernel_rfl
      have k1 : Tryz.prog.cellsOf 30 = 1 := by kernel_rfl
      have k2 : Tryz.prog.cellsOf 31 = 1 := by kernel_rfl
      simp [k0, k1, k2] at g0 g1 g2
      have e0 := hcell 0 (by omega)
      have e1 := hcell 1 (by omega)
      have e2 := hcell 2 (by omega)
      rw [add_add] at e0 e1 e2
      obtain ⟨nm, en, _, hn⟩ := DataW.trod_string Tryz.underlying9 g0
      simp at en
      subst en
      obtain ⟨ca, nc, cc, rfl⟩ : ∃ ai li ci, v1 = .slice ai li ci := by
        rcases open_slice Tryz.underlying30 g1 with ⟨hv, _⟩ | ⟨a', l', c', _, _, _, _, hv, _⟩
        · simp at hv; exact ⟨_, _, _, hv⟩
        · simp at hv; exact ⟨_, _, _, hv⟩
      obtain ⟨ra, nr, cr, rfl⟩ : ∃ ai li ci, v2 = .slice ai li ci := by
        rcases open_slice Tryz.underlying31 g2 with ⟨hv, _⟩ | ⟨a', l', c', _, _, _, _, hv, _⟩
        · simp at hv; exact ⟨_, _, _, hv⟩
        · simp at hv; exact ⟨_, _, _, hv⟩
      obtain ⟨C, hC, hs, hft, hlc, hcap, hnil⟩ := open_strs Tryz.underlying30 Tryz.underlying9 (by kernel_rfl) g1
      obtain ⟨L, hL, hr, hlr, _⟩ := open_rows Tryz.underlying31 (by kernel_rfl) Tryz.underlying72 Tryz.underlying98 (by kernel_rfl) rfl rfl rfl (by kernel_rfl) (by kernel_rfl) (by kernel_rfl) Tryz.underlying2 Tryz.underlying2 Tryz.underlying9 g2
      subst hC hL
      exact ⟨(nm, C, L), ca, cc, ra, cr, by simpa using e0, by simpa using e1, by simpa using e2, hs, hft, hlc, hcap, hnil, hr, hlr, hn⟩
  obtain ⟨q, hq⟩ := choose_lt each
  have spot : 0 < len → ad.spot = none := by
    intro h0
    obtain ⟨_, _, _, _, e0, _⟩ := hq 0 h0
    simpa [Addr.add] using World.cell?_spot e0
  refine ⟨(List.range len).map q, by simp, ?_, by omega, by omega, fun h => by cases h⟩
  intro j hj
  have hj' : j < len := by simpa using hj
  obtain ⟨b, o, sp⟩ := ad
  have hsp := spot (by omega)
  simp at hsp
  subst hsp
  obtain ⟨ca, cc, ra, cr, e0, e1, e2, ht⟩ := hq j hj'
  have hadd : ∀ q, ((⟨b, o, none⟩ : Addr).add q) = ⟨b, o + q, none⟩ := by
    intro q
    unfold Addr.add
    by_cases hq : q = 0 <;> simp [hq]
  rw [hadd] at e0 e1 e2
  have hg : ((List.range len).map q)[j] = q j := by simp
  rw [hg]
  exact ⟨b, o, ca, cc, ra, cr, rfl, World.block_lt_of_cell? w _ e0, e0, e1, e2, ht⟩

end Go.Proofs.YtkbfgecdhiaiialGreatDoor

/-
  From the row's condition on the listed variables to what the walks ask of them.
-/
namespace Go.Proofs.YtkbfgecdhiaiialGreatDoor
open Go.ChangeShapes Go.WideShapes Go.ChangeAt Go.RowKit

theorem gPow : (Tryz.prog.globalNamed "internal/strconv.uint64pow10").bind (fun g => (Tryz.prog.globals[g]?).map (·.type)) = some 165 := by kernel_rfl
theorem pow_data : (Rows.laid_internal_strconv_uint64pow10 : DataW Unit) = Lib.tabData .u64 Lib.pow10Tab := by kernel_rfl
theorem pow_of {W : World} {rest : List (String × DataW Unit)} (h : laidMet Tryz.prog (("internal/strconv.uint64pow10", Rows.laid_internal_strconv_uint64pow10) :: rest) W) : PowAt W := by
  rw [pow_data] at h
  obtain ⟨g, hg, ht⟩ := Option.bind_eq_some_iff.1 gPow
  exact Lib.tabIs_of_head hg ht Tryz.underlying165 Tryz.underlying135 (by kernel_rfl) (by kernel_rfl) h

end Go.Proofs.YtkbfgecdhiaiialGreatDoor
