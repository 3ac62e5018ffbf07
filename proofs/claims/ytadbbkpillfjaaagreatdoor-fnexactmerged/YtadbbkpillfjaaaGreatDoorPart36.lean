/-
  A part of the proof: MergeWalk.
-/
import Derived.Test.YtadbbkpillfjaaaGreatDoorPart30
import Derived.Test.YtadbbkpillfjaaaGreatDoorPart32
import Derived.Test.YtadbbkpillfjaaaGreatDoorPart35

/-
  The walk of the law of Merged.
-/
namespace Go.Proofs.YtadbbkpillfjaaaGreatDoor
open Go.ChangeShapes Go.WideShapes Go.ChangeAt Go.RowKit

theorem merge_sum : ∀ {L L' : List SV}, rwStep mergeR L = some L' → L'.length ≤ L.length ∧ (L'.map sivN).sum ≤ (L.map sivN).sum
  | [], _, h => by simp [rwStep] at h
  | [_], _, h => by simp [rwStep] at h
  | s :: t :: l, L', h => by
    unfold rwStep at h
    cases hp : mergeR s t with
    | some x =>
      rw [hp] at h
      injection h with h
      unfold mergeR at hp
      split at hp
      · injection hp with hp
        rw [← h, ← hp]
        simp [sivN]
        omega
      · split at hp
        · injection hp with hp
          rw [← h, ← hp]
          simp [sivN]
          omega
        · cases hp
    | none =>
      rw [hp] at h
      cases hr : rwStep mergeR (t :: l) with
      | none =>
        rw [hr] at h
        cases h
      | some L1 =>
        rw [hr] at h
        injection h with h
        obtain ⟨h1, h2⟩ := merge_sum hr
        rw [← h]
        simp only [List.length_cons, List.map_cons, List.sum_cons] at h1 h2 ⊢
        omega
theorem comes_sumM {L K : List SV} (h : Comes mergeR L K) : K.length ≤ L.length ∧ (K.map sivN).sum ≤ (L.map sivN).sum := by
  induction h with
  | done _ => exact ⟨Nat.le_refl _, Nat.le_refl _⟩
  | step h _ ih =>
    have := merge_sum h
    omega
theorem PushAns.sumM {T K : List SV} (h : PushAns mergeR T K) : K.length ≤ T.length ∧ offV K K.length ≤ offV T T.length := by
  unfold offV
  rw [List.take_length, List.take_length]
  cases hb : askB T with
  | false => rw [h.no hb]; simp
  | true => exact comes_sumM (h.yes hb)
theorem ask_okM {T : List SV} (hm : ∀ s ∈ T, MildV s) (h : askB T = true) : ∀ s ∈ T, OkM s := by
  intro s hs
  have h1 : sieveB s = true := by
    unfold askB at h
    simp only [Bool.and_eq_true, List.all_eq_true] at h
    exact h.1.1 s hs
  refine ⟨mild_fitI (hm s hs), mildS_of (hm s hs), fun k => ?_, fun k => ?_⟩
  · unfold sieveB at h1
    rw [if_neg (by rw [k]; decide), if_neg (by rw [k]; decide), if_neg (by rw [k]; decide)] at h1
    simp only [Bool.and_eq_true] at h1
    have h2 := h1.2
    unfold bareB at h2
    simp only [Bool.and_eq_true] at h2
    have h3 := h2.2.2
    rw [k] at h3
    have h4 : (nameS 2 = false ∨ nameK s.name = true) ∧ sumB s.sum = true := by simpa [sumS] using h3
    have h5 := h4.2
    unfold sumB at h5
    simp only [Bool.and_eq_true, decide_eq_true_eq] at h5
    exact h5.2
  · unfold sieveB at h1
    rw [if_neg (by rw [k]; decide), if_neg (by rw [k]; decide), if_pos k] at h1
    simp only [Bool.and_eq_true, in1000, decide_eq_true_eq] at h1
    exact h1.2
namespace exMerged
set_option maxRecDepth 100000 in
set_option maxHeartbeats 8000000 in
theorem walk (a : Option Addr) (cap : Nat) (L : List SV) (n : Nat) (hn : L.length = n) (w : World) (hl : SivsAt w a L) (hnM : n ≤ maxLen) (hp : PowAt w) (he : ErrAt w) :
    Calls Tryz.prog 3 #[.slice a n cap] w fun e w' => e = .returned (.bool true) ∧ Below w.heap.size w w' := by
  have HL : Hid (SivsAt w a L) := hl
  have HN : Hid (L.length = n) := hn
  have HP : Hid (PowAt w) := hp
  have HE : Hid (ErrAt w) := he
  obtain ⟨x, hx1⟩ : ∃ x, leftVS L 1048576 = x := ⟨_, rfl⟩
  have HX1 : Hid (leftVS L 1048576 = x) := hx1
  clear hl hn hp he
  by_cases hx0 : x < 0
  · clear hx1
    go_enter Tryz.func3, Tryz.ntmps3
    go_wp2_with fail
    refine (szsivs_laws a cap L n HN.out 1048576 _ HL.out hnM (by omega) (by omega)).mono ?_
    rw [HX1.out]
    rintro e w1 ⟨rfl, hb1⟩
    go_wp2
    go_ret
    exact ⟨rfl, hb1⟩
  have hx0' : 0 ≤ x := by omega
  have hqV := leftVS_fits (T := L) (x := 1048576) (by omega) (by rw [hx1]; exact hx0')
  have hnn : n ≤ 1048576 := by rw [← HN.out]; exact hqV.1
  have hofV := offV_leftVSP (T := L) (x := 1048576) (by omega) (by rw [hx1]; exact hx0')
  have HMI : Hid (∀ s ∈ L, MildV s) := by
    have h : ∀ s ∈ L, MildV s := fun s hs => by
      obtain ⟨i, hi, rfl⟩ := List.getElem_of_mem hs
      exact hqV.2 i hi
    exact h
  have Y : Hid (∀ w', Below w.heap.size w w' → Calls Tryz.prog 6 #[.slice a n cap] w' fun e w'' => ∃ g Q P, e = .returned (.slice (some ⟨g, 0, none⟩) n n) ∧ OutVs w'' w'.heap.size (some ⟨g, 0, none⟩) L Q ∧ P.map Prod.fst = L ∧ HeadsIn w'' (some ⟨g, 0, none⟩) P ∧ Below w'.heap.size w' w'') := by
    have h : ∀ w', Below w.heap.size w w' → Calls Tryz.prog 6 #[.slice a n cap] w' fun e w'' => ∃ g Q P, e = .returned (.slice (some ⟨g, 0, none⟩) n n) ∧ OutVs w'' w'.heap.size (some ⟨g, 0, none⟩) L Q ∧ P.map Prod.fst = L ∧ HeadsIn w'' (some ⟨g, 0, none⟩) P ∧ Below w'.heap.size w' w'' := fun w' hw => by
      refine (tosivs_some a cap L n HN.out w' (HL.out.below hw) hnn hqV.2).mono ?_
      rintro e w'' ⟨g, Q, rfl, hO, hs, hb⟩
      obtain ⟨P, h1, h2⟩ := out_heads hO (fun i hi => hs i (by have := HN.out; omega))
      exact ⟨g, Q, P, rfl, hO, h1, h2, hb⟩
    exact h
  have PI : Hid (∀ w', Below w.heap.size w w' → ∀ g (P : List (SV × HAd)), P.map Prod.fst = L → HeadsIn w' (some ⟨g, 0, none⟩) P → Calls Tryz.prog 7 #[.slice (some ⟨g, 0, none⟩) n n] w' fun e w'' => ∃ g m K Q, e = .returned (.slice (some ⟨g, 0, none⟩) m m) ∧ K.length = m ∧ PushAns mergeR L K ∧ OutVs w'' w'.heap.size (some ⟨g, 0, none⟩) K Q ∧ Below w'.heap.size w' w'') := by
    have h : ∀ w', Below w.heap.size w w' → ∀ g (P : List (SV × HAd)), P.map Prod.fst = L → HeadsIn w' (some ⟨g, 0, none⟩) P → Calls Tryz.prog 7 #[.slice (some ⟨g, 0, none⟩) n n] w' fun e w'' => ∃ g m K Q, e = .returned (.slice (some ⟨g, 0, none⟩) m m) ∧ K.length = m ∧ PushAns mergeR L K ∧ OutVs w'' w'.heap.size (some ⟨g, 0, none⟩) K Q ∧ Below w'.heap.size w' w'' := fun w' hw g P h1 h2 => by
      have h := merged_impl (some ⟨g, 0, none⟩) n P n (by rw [← HN.out, ← h1, List.length_map]) (Nat.le_refl _) (fun h => by cases h) w' h2 (fun ha p hp => ask_okM HMI.out (by rw [h1] at ha; exact ha) _ (by rw [← h1]; exact List.mem_map_of_mem hp)) (fun p hp => HMI.out _ (by rw [← h1]; exact List.mem_map_of_mem hp)) hnM (HP.out.below hw) (HE.out.below hw)
      rw [h1] at h
      exact h
    exact h
  have PSP : Hid (∀ w', Below w.heap.size w w' → ∀ g (P : List (SV × HAd)), P.map Prod.fst = L → HeadsIn w' (some ⟨g, 0, none⟩) P → Calls Tryz.prog 5 #[.slice (some ⟨g, 0, none⟩) n n] w' fun e w'' => ∃ g m c K, e = .returned (.slice (some ⟨g, 0, none⟩) m c) ∧ K.length = m ∧ PushAns mergeR L K ∧ SivsAt w'' (some ⟨g, 0, none⟩) K ∧ Below w'.heap.size w' w'') := by
    have h : ∀ w', Below w.heap.size w w' → ∀ g (P : List (SV × HAd)), P.map Prod.fst = L → HeadsIn w' (some ⟨g, 0, none⟩) P → Calls Tryz.prog 5 #[.slice (some ⟨g, 0, none⟩) n n] w' fun e w'' => ∃ g m c K, e = .returned (.slice (some ⟨g, 0, none⟩) m c) ∧ K.length = m ∧ PushAns mergeR L K ∧ SivsAt w'' (some ⟨g, 0, none⟩) K ∧ Below w'.heap.size w' w'' := fun w' hw g P h1 h2 => by
      refine (merged_spec (some ⟨g, 0, none⟩) n P n (by rw [← HN.out, ← h1, List.length_map]) w' h2 hnM (fun ha p hp => ask_okM HMI.out (by rw [h1] at ha; exact ha) _ (by rw [← h1]; exact List.mem_map_of_mem hp))).mono ?_
      rintro e w'' ⟨g', m, c, K, rfl, hA, hR, hb⟩
      rw [h1] at hA
      exact ⟨g', m, c, K.map Prod.fst, rfl, by rw [List.length_map]; exact hR.len, hA, hR.heads.sivs, hb⟩
    exact h
  obtain ⟨rX, hrX⟩ : ∃ rX, 1 + offV L L.length = rX := ⟨_, rfl⟩
  have HRX : Hid (1 + offV L L.length = rX) := hrX
  have hrX1 : rX ≤ 1099511627776 := by omega
  have hrX0 : ¬ (rX : Int) < 0 := by omega
  have HOF : Hid (offV L L.length ≤ 8388608) := hofV
  clear hrX hofV hx1 hqV
  go_enter Tryz.func3, Tryz.ntmps3
  go_wp2_with fail
  refine (szsivs_laws a cap L n HN.out 1048576 _ HL.out hnM (by omega) (by omega)).mono ?_
  rw [HX1.out]
  rintro e w1 ⟨rfl, hx⟩
  go_wp2_with fail
  refine (Y.out _ hx).mono ?_
  rintro e w2 ⟨g2, Q2, P2, rfl, _, hm2, h2, hb⟩
  replace hx := chain hx hb
  clear hb
  go_wp2_with fail
  refine (PSP.out _ hx g2 P2 hm2 h2).mono ?_
  rintro e w3 ⟨gS, m, cS, K, rfl, hKm, hKA, hKS, hb⟩
  replace hx := chain hx hb
  have HKM : Hid (K.length = m) := hKm
  have HKA : Hid (PushAns mergeR L K) := hKA
  have W3 : Hid (SivsAt w3 (some ⟨gS, 0, none⟩) K) := hKS
  have hmn : m ≤ n := by rw [← HKM.out, ← HN.out]; exact hKA.sumM.1
  have hmM : m ≤ maxLen := by omega
  obtain ⟨rK, hrK⟩ : ∃ rK, 1 + offV K K.length = rK := ⟨_, rfl⟩
  have HRK : Hid (1 + offV K K.length = rK) := hrK
  have hrK1 : rK ≤ 1099511627776 := by have h1 := hKA.sumM.2; have h2 := HOF.out; omega
  have hrK0 : ¬ (rK : Int) < 0 := by omega
  have hrKK : ((rK : Int) == (rK : Int)) = true := by simp
  have hz : Below w3.heap.size w3 w3 := Below.refl _ _
  have hw3 := hx.size
  clear hb hm2 h2 hKm hKA hKS hrK
  go_wp2_with fail
  refine (Y.out _ hx).mono ?_
  rintro e w4 ⟨gX, QX, PX, rfl, hO, hmX, hhX, hb⟩
  have X4 : Hid (OutVs w4 w3.heap.size (some ⟨gX, 0, none⟩) L QX) := hO
  have HXlt : Hid (∀ b, sivsBlks (some ⟨gX, 0, none⟩) L QX b → b < w4.heap.size) := hO.blks_lt
  replace hx := chain hx hb
  replace hz := chain hz hb
  clear hb hO
  go_wp2_with fail
  refine (PI.out _ hx gX PX hmX hhX).mono ?_
  rintro e w5 ⟨gG, m5, K5, QG, rfl, hK5, hA5, hO, hb⟩
  obtain rfl : K5 = K := hA5.eq HKA.out
  obtain rfl : m = m5 := HKM.out.symm.trans hK5
  have G5 : Hid (OutVs w5 w4.heap.size (some ⟨gG, 0, none⟩) K5 QG) := hO
  have X5 : Hid (OutVs w5 w3.heap.size (some ⟨gX, 0, none⟩) L QX) := X4.out.below hb
  have hw4 := hz.size
  replace hx := chain hx hb
  replace hz := chain hz hb
  clear hb hO hA5 hK5 X4 hmX hhX
  go_wp2_with fail
  refine (eqsivs_laws _ _ _ _ K5 m HKM.out _ G5.out.lies (W3.out.below hz) hmM).mono ?_
  rintro e w6 ⟨rfl, hb⟩
  have X6 : Hid (OutVs w6 w3.heap.size (some ⟨gX, 0, none⟩) L QX) := X5.out.below hb
  have G6 : Hid (OutVs w6 w4.heap.size (some ⟨gG, 0, none⟩) K5 QG) := G5.out.below hb
  replace hx := chain hx hb
  replace hz := chain hz hb
  clear hb X5 G5
  go_wp2_with fail
  refine (Y.out _ hx).mono ?_
  rintro e w7 ⟨g7, Q7, P7, rfl, O7, _, _, hb⟩
  have X7 : Hid (OutVs w7 w3.heap.size (some ⟨gX, 0, none⟩) L QX) := X6.out.below hb
  have G7 : Hid (OutVs w7 w4.heap.size (some ⟨gG, 0, none⟩) K5 QG) := G6.out.below hb
  replace hx := chain hx hb
  replace hz := chain hz hb
  clear hb X6 G6
  go_wp2_with fail
  refine (eqsivs_laws _ _ _ _ L n HN.out _ X7.out.lies O7.lies hnM).mono ?_
  rintro e w8 ⟨rfl, hb⟩
  have X8 : Hid (OutVs w8 w3.heap.size (some ⟨gX, 0, none⟩) L QX) := X7.out.below hb
  have G8 : Hid (OutVs w8 w4.heap.size (some ⟨gG, 0, none⟩) K5 QG) := G7.out.below hb
  replace hx := chain hx hb
  replace hz := chain hz hb
  clear hb X7 G7 O7
  go_wp2_with fail
  refine (marksivs_laws _ _ L n HN.out QX w3.heap.size 1 rX HRX.out _ X8.out (by omega) hrX1 hnM).mono ?_
  rintro e w9 ⟨rfl, _, K9⟩
  have G9 : Hid (OutVs w9 w4.heap.size (some ⟨gG, 0, none⟩) K5 QG) := G8.out.keepFar K9 HXlt.out
  replace hx := keep_belowP hx K9 hx.size (fun b hb => Nat.le_trans hw3 (X8.out.blks_lo b hb))
  replace hz := keep_belowP hz K9 hz.size (fun b hb => X8.out.blks_lo b hb)
  clear K9 X8 G8
  go_wp2_with fail
  refine (eqsivs_laws _ _ _ _ K5 m HKM.out _ G9.out.lies (W3.out.below hz) hmM).mono ?_
  rintro e w10 ⟨rfl, hb⟩
  have G10 : Hid (OutVs w10 w4.heap.size (some ⟨gG, 0, none⟩) K5 QG) := G9.out.below hb
  replace hx := chain hx hb
  replace hz := chain hz hb
  clear hb G9
  go_wp2_with fail
  refine (marksivs_laws _ _ K5 m HKM.out QG w4.heap.size 1 rK HRK.out _ G10.out (by omega) hrK1 hmM).mono ?_
  rintro e w11 ⟨rfl, hM, K11⟩
  have M11 : Hid (MVs w11 w4.heap.size (some ⟨gG, 0, none⟩) K5 QG 1 K5.length) := hM
  replace hx := keep_belowP hx K11 hx.size (fun b hb => Nat.le_trans hw3 (Nat.le_trans hw4 (G10.out.blks_lo b hb)))
  replace hz := keep_belowP hz K11 hz.size (fun b hb => Nat.le_trans hw4 (G10.out.blks_lo b hb))
  clear K11 hM G10
  go_wp2_with fail
  refine (heldsivs_laws _ _ K5 m HKM.out QG w4.heap.size 1 rK HRK.out _ M11.out (by omega) hrK1 hmM).mono ?_
  rintro e w12 ⟨rfl, hb⟩
  have M12 : Hid (MVs w12 w4.heap.size (some ⟨gG, 0, none⟩) K5 QG 1 K5.length) := M11.out.below hb
  replace hx := chain hx hb
  replace hz := chain hz hb
  clear hb M11
  go_wp2_with fail
  refine (Y.out _ hx).mono ?_
  rintro e w13 ⟨g13, Q13, P13, rfl, _, hm13, h13, hb⟩
  have M13 : Hid (MVs w13 w4.heap.size (some ⟨gG, 0, none⟩) K5 QG 1 K5.length) := M12.out.below hb
  replace hx := chain hx hb
  replace hz := chain hz hb
  clear hb M12
  go_wp2_with fail
  refine (PI.out _ hx g13 P13 hm13 h13).mono ?_
  rintro e w14 ⟨gH, m14, K14, QH, rfl, hK14, hA14, hO, hb⟩
  obtain rfl : K5 = K14 := HKA.out.eq hA14
  obtain rfl : m = m14 := HKM.out.symm.trans hK14
  have H14 : Hid (SivsAt w14 (some ⟨gH, 0, none⟩) K5) := hO.lies
  have M14 : Hid (MVs w14 w4.heap.size (some ⟨gG, 0, none⟩) K5 QG 1 K5.length) := M13.out.below hb
  replace hx := chain hx hb
  replace hz := chain hz hb
  clear hb hO hA14 hK14 M13 hm13 h13
  go_wp2_with fail
  refine (eqsivs_laws _ _ _ _ K5 m HKM.out _ H14.out (W3.out.below hz) hmM).mono ?_
  rintro e w15 ⟨rfl, hb⟩
  have M15 : Hid (MVs w15 w4.heap.size (some ⟨gG, 0, none⟩) K5 QG 1 K5.length) := M14.out.below hb
  replace hx := chain hx hb
  replace hz := chain hz hb
  clear hb M14 H14
  go_wp2_with fail
  refine (heldsivs_laws _ _ K5 m HKM.out QG w4.heap.size 1 rK HRK.out _ M15.out (by omega) hrK1 hmM).mono ?_
  rintro e w16 ⟨rfl, hb⟩
  replace hx := chain hx hb
  clear hb M15
  go_wp2
  go_ret
  exact ⟨rfl, hx⟩
end exMerged
end Go.Proofs.YtadbbkpillfjaaaGreatDoor
