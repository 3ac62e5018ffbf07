/-
  A part of the proof: ShpI5, ShpLaw, LaidEr.
-/
import Derived.Test.YtjiaciikbnpicaaGreatDoorPart43
import Derived.Test.YtjiaciikbnpicaaGreatDoorPart37
import Derived.Test.YtjiaciikbnpicaaGreatDoorPart38
import Derived.Test.YtjiaciikbnpicaaGreatDoorPart39
import Derived.Test.YtjiaciikbnpicaaGreatDoorPart40
import Derived.LaidHandle
import Derived.Stop.LaidTwo
import Derived.OpenVars
import Derived.ChangeVars

/-
  The program's askColumns and ShapeOf.
-/
namespace Go.Proofs.YtjiaciikbnpicaaGreatDoor
open Go.ChangeShapes Go.WideShapes Go.ChangeAt Go.RowKit
attribute [local go_sem ↓] Go.wp_at_zero Go.wp_at_succ
attribute [local simp] World.cell?_alloc_past World.cell?_alloc_at World.frozen?_alloc_at cell_far cell_off cell_here World.frozen?_alloc_past

set_option maxRecDepth 100000 in
set_option maxHeartbeats 8000000 in
theorem askcolumns_impl (ba : Option Addr) (bn bc : Nat) (T : List TB) (hbn : T.length = bn) (hbM : bn ≤ 1048576) (hsmT : ∀ t, t ∈ T → Small t) (a : Option Addr) (cap : Nat) (L : List SV) (n : Nat) (hn : L.length = n) (w : World) (hT : TabsAt w ba T) (hL : SivsAt w a L) (hmild : ∀ i (hi : i < L.length), MildV L[i]) (hnM : n ≤ maxLen) (hcap : n ≤ cap) (A : Sen) (hS : SenAt w A) (D : List ByteArray) (k0 : Int) (hD : shapeR T L = (D, k0)) :
    Calls Tryz.prog 36 #[.slice ba bn bc, .slice a n cap] w (ColOut w A D k0) := by
  obtain ⟨b1, hb1⟩ : ∃ b, baseB T = b := ⟨_, rfl⟩
  obtain ⟨b2, hb2⟩ : ∃ b, askB L = b := ⟨_, rfl⟩
  have CB : Hid (∀ w', Below w.heap.size w w' → Calls Tryz.prog 61 #[.slice ba bn bc] w' fun e w'' => e = .returned (.bool b1) ∧ Below w'.heap.size w' w'') := fun w' hw => baseok_impl ba bc T bn hbn w' (hT.below hw) hbM b1 hb1
  have CA : Hid (∀ w', Below w.heap.size w w' → Calls Tryz.prog 62 #[.slice a n cap] w' fun e w'' => e = .returned (.bool b2) ∧ Below w'.heap.size w' w'') := fun w' hw => ask_impl a cap L n hn w' (hL.below hw) hmild hnM (hS.below hw).pow (hS.below hw).err b2 hb2
  have BAD : Hid (¬ (b1 = true ∧ b2 = true) → k0 = 5) := by
    have h : ¬ (b1 = true ∧ b2 = true) → k0 = 5 := by
      intro hn
      have hD2 := hD
      rw [shapeR_q, if_neg (by rw [hb1, hb2, Bool.and_eq_true]; exact hn)] at hD2
      exact (congrArg Prod.snd hD2).symm
    exact h
  have HT : Hid (TabsAt w ba T) := hT
  have HL : Hid (SivsAt w a L) := hL
  have HN : Hid (L.length = n) := hn
  have HBN : Hid (T.length = bn) := hbn
  have HS : Hid (SenAt w A) := hS
  have HMI : Hid (∀ i (hi : i < L.length), MildV L[i]) := hmild
  have HSMT : Hid (∀ t, t ∈ T → Small t) := hsmT
  have HB1 : Hid (baseB T = b1) := hb1
  have HB2 : Hid (askB L = b2) := hb2
  have HDD : Hid (shapeR T L = (D, k0)) := hD
  clear hb1 hb2 hT hL hbn hn hD hS hmild hsmT
  go_enter Tryz.func36, Tryz.ntmps36
  go_wp2_with fail
  refine (CB.out _ (Below.refl _ _)).mono ?_
  rintro e w1 ⟨rfl, hx1⟩
  cases b1
  · obtain rfl := BAD.out (by simp)
    have hv := (HS.out.below hx1).v5
    clear BAD
    go_wp2_with fail
    go_quiet (fail)
    go_wp2
    refine bodyPost_ret (v := .tuple #[.slice none 0 0, .iface 304 (.pointer (some A.e5))]) (by simp [results, Tryz.results36, go_sem]) rfl ?_
    exact ⟨_, _, _, _, rfl, errV_5, fun h => absurd h (by decide), belowN hx1 _⟩
  go_wp2_with fail
  refine (CA.out _ hx1).mono ?_
  rintro e w2 ⟨rfl, hb2⟩
  have hx2 := chain hx1 hb2
  clear hb2
  cases b2
  · obtain rfl := BAD.out (by simp)
    have hv := (HS.out.below hx2).v5
    clear BAD
    go_wp2_with fail
    go_quiet (fail)
    go_wp2
    refine bodyPost_ret (v := .tuple #[.slice none 0 0, .iface 304 (.pointer (some A.e5))]) (by simp [results, Tryz.results36, go_sem]) rfl ?_
    exact ⟨_, _, _, _, rfl, errV_5, fun h => absurd h (by decide), belowN hx2 _⟩
  clear BAD CB CA hx1
  obtain ⟨hall, hn1, hn8⟩ := ask_all HB2.out
  have HAL : Hid (∀ i (hi : i < L.length), sieveB L[i] = true) := hall
  have HAF : Hid (∀ i (hi : i < L.length), i ≠ 0 → L[i].kind ≠ 1) := ask_first HB2.out
  rw [HN.out] at hn1 hn8
  obtain ⟨m, rfl⟩ : ∃ m, n = m + 1 := ⟨n - 1, by omega⟩
  have hl0 : 0 < L.length := by rw [HN.out]; omega
  obtain ⟨nm, hnm⟩ : ∃ z, L[0].name = z := ⟨_, rfl⟩
  obtain ⟨E, hE⟩ : ∃ E, colsOf T nm = E := ⟨_, rfl⟩
  obtain ⟨k1, hk1⟩ : ∃ k1 : Int, (if inB (namesT T) nm = true then (0 : Int) else 1) = k1 := ⟨_, rfl⟩
  have HD : Hid ((if inB (namesT T) nm = false then ([], 1) else shapeF T (colsOf T nm) (L.drop 1)) = (D, k0)) := by
    have h : (if inB (namesT T) nm = false then ([], 1) else shapeF T (colsOf T nm) (L.drop 1)) = (D, k0) := by
      have h0 : shapeQ T L = (D, k0) := by
        have h1 := HDD.out
        rw [shapeR_q, if_pos (by rw [HB1.out, HB2.out]; rfl)] at h1
        exact h1
      rw [← h0, ← hnm]
      unfold shapeQ
      cases L with
      | nil => simp at hl0
      | cons x l => rfl
    exact h
  have ST : Hid ((k1 = 0 → namesB E 1 6 = true ∧ shapeF T E (L.drop 1) = (D, k0)) ∧ (k1 ≠ 0 → k0 = k1)) := by
    have h : (k1 = 0 → namesB E 1 6 = true ∧ shapeF T E (L.drop 1) = (D, k0)) ∧ (k1 ≠ 0 → k0 = k1) := by
      have hd := HD.out
      by_cases hi : inB (namesT T) nm = true
      · rw [if_pos hi] at hk1
        rw [if_neg (by rw [hi]; decide), hE] at hd
        refine ⟨fun _ => ⟨?_, hd⟩, fun h => absurd hk1.symm h⟩
        rw [← hE]
        exact cols_names HB1.out (inB_iff.1 hi)
      · rw [if_neg hi] at hk1
        rw [if_pos (by simpa using hi)] at hd
        exact ⟨fun h => absurd (hk1.trans h) (by decide), fun _ => by rw [← hk1]; exact (congrArg Prod.snd hd).symm⟩
    exact h
  obtain ⟨g0, oo, na, nc, sa, sc, rfl, hgw, ⟨c0, c1, c2, c3, c4, c5, c6⟩, hs0⟩ := HL.out.below hx2 0 hl0
  have hnmz : nm.size ≤ maxLen := by rw [← hnm]; exact hs0.name
  have HC : Hid (Calls Tryz.prog 63 #[.slice ba bn bc, .string nm] w2 (ColOut w2 A E k1)) := tablecols_impl ba bc T bn HBN.out w2 (HT.out.below hx2) hbM HSMT.out nm hnmz A (HS.out.below hx2) E hE k1 hk1
  rw [hnm] at c1
  rw [Nat.zero_mul, Nat.add_zero] at c1
  have hi1 : (0 : Int) < ((m + 1 : Nat) : Int) := by omega
  clear hall hnm c0 c2 c3 c4 c5 c6 hs0 hl0 hE hk1 HD hnmz
  go_wp2_with fail
  refine HC.out.mono ?_
  rintro e w3 ⟨a3, n3, c3, v3, rfl, hv, hkk, hb3⟩
  have hx3 := chain hx2 hb3
  have I0 : Hid (ErrV A k1 v3 ∧ (k1 = 0 → (E.length = n3 ∧ StrsAt w3 a3 E ∧ (a3 = none → c3 = 0) ∧ n3 ≤ c3) ∧ namesB E 1 6 = true ∧ shapeF T E (L.drop (0 + 1)) = (D, k0)) ∧ (k1 ≠ 0 → k0 = k1)) := ⟨hv, fun h => ⟨hkk h, ST.out.1 h⟩, ST.out.2⟩
  clear hv hkk hb3 c1 HC ST hx2 hgw
  rcases Nat.eq_zero_or_pos m with hm0 | hmp
  · subst hm0
    have fin : Hid (ColOut w A D k0 (.returned (.tuple #[.slice a3 n3 c3, v3])) w3) := by
      have h : ColOut w A D k0 (.returned (.tuple #[.slice a3 n3 c3, v3])) w3 := by
        by_cases hq : k1 = 0
        · subst hq
          obtain ⟨hC, _, hst⟩ := I0.out.2.1 rfl
          rw [List.drop_eq_nil_of_le (by rw [HN.out]; exact Nat.le_refl _)] at hst
          injection hst with e1 e2
          subst e1 e2
          exact ⟨_, _, _, _, rfl, I0.out.1, fun _ => hC, hx3⟩
        · have e0 := I0.out.2.2 hq
          subst e0
          exact ⟨_, _, _, _, rfl, I0.out.1, fun h => absurd h hq, hx3⟩
      exact h
    clear I0
    go_wp2
    all_goals
      refine wp_loop_rounds 1 ?_
      rw [rounds_succ]
      go_wp2
      refine bodyPost_ret (v := .tuple #[.slice a3 n3 c3, v3]) (by simp [results, Tryz.results36, go_sem]) rfl ?_
      exact fin.out
  have hcp1 : ¬ cap = 1 := by omega
  go_wp2
  go_loopw [6, 7, 31] (fun s6 s7 kk wr => ∃ (j : Nat) (a' : Option Addr) (n' c' : Nat) (v : Value) (q : Int) (C : List ByteArray), j ≤ m ∧ kk = .int .i64 j ∧ s6 = .slice a' n' c' ∧ v = s7 ∧ Hid (ErrV A q v ∧ (q = 0 → (C.length = n' ∧ StrsAt wr a' C ∧ (a' = none → c' = 0) ∧ n' ≤ c') ∧ namesB C 1 6 = true ∧ shapeF T C (L.drop (j + 1)) = (D, k0)) ∧ (q ≠ 0 → k0 = q)) ∧ Below w.heap.size w wr) (fun _ _ kk _ => m - (intOf kk).toNat)
  case atStart => exact ⟨0, a3, n3, c3, v3, k1, E, Nat.zero_le _, rfl, rfl, rfl, I0, hx3⟩
  case round =>
    obtain ⟨j, a', n', c', v, q, C, hj, rfl, rfl, rfl, hI, hbw⟩ := hrel
    by_cases hlt : j < m
    · have hlk : j + 1 < L.length := by rw [HN.out]; omega
      obtain ⟨g1, o1, na1, nc1, sa1, sc1, e1, hgw1, ⟨c0, c1, c2, c3, c4, c5, c6⟩, hsv⟩ := HL.out.below hbw (j + 1) hlk
      injection e1 with e1
      injection e1 with e1 e2
      subst e1 e2
      have eo : oo + (j + 1) * 7 = oo + 7 + j * 7 := by omega
      rw [eo] at c0 c1 c2 c3 c4 c5 c6
      have hi0 : (0 : Int) ≤ (j : Int) := by omega
      have hi2 : (j : Int) < (m : Int) := by omega
      rcases hI.out.1.shape with ⟨hq, hvv⟩ | ⟨hq, t, x, hvv⟩
      · subst hq hvv
        obtain ⟨⟨hC1, hC2, hC3, hC4⟩, hCn, hst⟩ := hI.out.2.1 rfl
        have hok := HAL.out (j + 1) hlk
        have hkd := HAF.out (j + 1) hlk (by omega)
        have hml := HMI.out (j + 1) hlk
        rw [shapeF_drop T C L (j + 1) hlk] at hst
        generalize L[j + 1] = s at c0 c1 c2 c3 c4 c5 c6 hsv hok hkd hst hml
        obtain ⟨kd, nm1, N, S, dn, ct, sk⟩ := s
        dsimp only at c0 c1 c2 c3 c4 c5 c6 hkd
        obtain ⟨nn, hnn⟩ : ∃ m, N.length = m := ⟨_, rfl⟩
        obtain ⟨sn, hsn⟩ : ∃ m, S.length = m := ⟨_, rfl⟩
        rw [hnn] at c2
        rw [hsn] at c3
        obtain ⟨D1, k2, hD1⟩ : ∃ D1 k1, stepC T C ⟨kd, nm1, N, S, dn, ct, sk⟩ = (D1, k1) := ⟨_, _, rfl⟩
        rw [hD1] at hst
        dsimp only at hst
        have hA : Below wr.heap.size wr (wr.alloc (.cells #[.int .i64 kd, .string nm1, .slice na1 nn nc1, .slice sa1 sn sc1, .bool dn, .int .i64 ct, .int .i64 sk] 33)) := (Below.refl _ _).alloc (Nat.le_refl _) _
        have hxA := chain hbw hA
        have CC : Hid (Calls Tryz.prog 64 #[.slice ba bn bc, .slice a' n' c', .agg #[.int .i64 kd, .string nm1, .slice na1 nn nc1, .slice sa1 sn sc1, .bool dn, .int .i64 ct, .int .i64 sk]] (wr.alloc (.cells #[.int .i64 kd, .string nm1, .slice na1 nn nc1, .slice sa1 sn sc1, .bool dn, .int .i64 ct, .int .i64 sk] 33)) (ColOut (wr.alloc (.cells #[.int .i64 kd, .string nm1, .slice na1 nn nc1, .slice sa1 sn sc1, .bool dn, .int .i64 ct, .int .i64 sk] 33)) A D1 k2)) :=
          stepped_impl ba bn bc T HBN.out hbM HSMT.out a' n' c' C hC1 kd nm1 na1 nn nc1 N hnn sa1 sn sc1 S hsn dn ct sk _ (HT.out.below hxA) (hC2.below hA) hC3 hC4 (hsv.below hA) (mild_fitI hml) HB1.out hCn hok hkd A (HS.out.below hxA) D1 k2 hD1
        have NX : Hid ((k2 = 0 → namesB D1 1 6 = true ∧ shapeF T D1 (L.drop (j + 1 + 1)) = (D, k0)) ∧ (k2 ≠ 0 → k0 = k2)) := by
          have h : (k2 = 0 → namesB D1 1 6 = true ∧ shapeF T D1 (L.drop (j + 1 + 1)) = (D, k0)) ∧ (k2 ≠ 0 → k0 = k2) := by
            refine ⟨fun e => ?_, fun e => ?_⟩
            · subst e
              rw [if_pos rfl] at hst
              exact ⟨stepC_ok HB1.out hCn hok hD1, hst⟩
            · rw [if_neg e] at hst
              exact (congrArg Prod.snd hst).symm
          exact h
        clear hst hsv hok hkd hD1 hnn hsn hlk hI hml hC1 hC2 hC3 hC4 hCn eo
        go_wp2_with fail
        refine CC.out.mono ?_
        rintro e w4 ⟨a4, n4, d4, v4, rfl, hv, hkk, hb4⟩
        have hx4 := chain hxA hb4
        have I4 : Hid (ErrV A k2 v4 ∧ (k2 = 0 → (D1.length = n4 ∧ StrsAt w4 a4 D1 ∧ (a4 = none → d4 = 0) ∧ n4 ≤ d4) ∧ namesB D1 1 6 = true ∧ shapeF T D1 (L.drop (j + 1 + 1)) = (D, k0)) ∧ (k2 ≠ 0 → k0 = k2)) := ⟨hv, fun h => ⟨hkk h, NX.out.1 h⟩, NX.out.2⟩
        clear hv hkk hb4 c0 c1 c2 c3 c4 c5 c6 CC NX hA hxA
        go_wp2
        go_roundw
        case rel => exact ⟨j + 1, a4, n4, d4, v4, k2, D1, by omega, by go_num, rfl, rfl, I4, hx4⟩
        case measure => simp [intOf]; omega
      · subst hvv
        have e0 := hI.out.2.2 hq
        subst e0
        have HV : Hid (ErrV A k0 (.iface t x)) := hI.out.1
        have HQ : Hid (k0 ≠ 0) := hq
        generalize L[j + 1] = s at c0 c1 c2 c3 c4 c5 c6 hsv
        obtain ⟨kd, nm1, N, S, dn, ct, sk⟩ := s
        dsimp only at c0 c1 c2 c3 c4 c5 c6
        clear hI hq hsv hlk eo
        go_wp2
        refine bodyPost_ret (v := .tuple #[.slice none 0 0, .iface t x]) (by simp [results, Tryz.results36, go_sem]) rfl ?_
        exact ⟨_, _, _, _, rfl, HV.out, fun h => absurd h HQ.out, hbw.alloc hbw.size _⟩
    · have hkl : j = m := by omega
      subst hkl
      have hi2 : ¬ (j : Int) < (j : Int) := by omega
      have fin : Hid (ColOut w A D k0 (.returned (.tuple #[.slice a' n' c', v])) wr) := by
        have h : ColOut w A D k0 (.returned (.tuple #[.slice a' n' c', v])) wr := by
          by_cases hq : q = 0
          · subst hq
            obtain ⟨hC, _, hst⟩ := hI.out.2.1 rfl
            rw [List.drop_eq_nil_of_le (by rw [HN.out]; exact Nat.le_refl _)] at hst
            injection hst with e1 e2
            subst e1 e2
            exact ⟨_, _, _, _, rfl, hI.out.1, fun _ => hC, hbw⟩
          · have e0 := hI.out.2.2 hq
            subst e0
            exact ⟨_, _, _, _, rfl, hI.out.1, fun h => absurd h hq, hbw⟩
        exact h
      clear hI hlt
      go_wp2
      refine bodyPost_ret (v := .tuple #[.slice a' n' c', v]) (by simp [results, Tryz.results36, go_sem]) rfl ?_
      exact fin.out
theorem shapeR_none (T : List TB) (L : List SV) (D : List ByteArray) (k0 : Int) (hD : shapeR T L = (D, k0)) (hk : k0 ≠ 0) : D = [] := by
  rw [shapeR_q] at hD
  split at hD
  · unfold shapeQ at hD
    split at hD
    · exact (congrArg Prod.fst hD).symm
    · have := shapeF_none T _ _ (by rw [hD]; exact hk)
      rw [hD] at this
      exact this
  · exact (congrArg Prod.fst hD).symm
theorem shapeR_len (T : List TB) (L : List SV) (D : List ByteArray) (hD : shapeR T L = (D, 0)) : D.length ≤ 6 := by
  rw [shapeR_q] at hD
  split at hD
  · rename_i h
    rw [Bool.and_eq_true] at h
    unfold shapeQ at hD
    split at hD
    · exact absurd (show (1 : Int) = 0 from congrArg Prod.snd hD) (by decide)
    · rename_i hi
      have hin := inB_iff.1 (by simpa using hi)
      refine (cols_six (shapeF_ok h.1 _ (cols_names h.1 hin) ?_ hD)).1
      intro s hs
      obtain ⟨i, hi, rfl⟩ := List.getElem_of_mem (List.mem_of_mem_tail hs)
      exact (ask_all h.2).1 i hi
  · exact absurd (show (5 : Int) = 0 from congrArg Prod.snd hD) (by decide)
set_option maxRecDepth 100000 in
set_option maxHeartbeats 4000000 in
theorem shapeof_impl (ba : Option Addr) (bn bc : Nat) (T : List TB) (hbn : T.length = bn) (hbM : bn ≤ 1048576) (hsmT : ∀ t, t ∈ T → Small t) (a : Option Addr) (cap : Nat) (L : List SV) (n : Nat) (hn : L.length = n) (w : World) (hT : TabsAt w ba T) (hL : SivsAt w a L) (hmild : ∀ i (hi : i < L.length), MildV L[i]) (hnM : n ≤ maxLen) (hcap : n ≤ cap) (A : Sen) (hS : SenAt w A) (D : List ByteArray) (k0 : Int) (hD : shapeR T L = (D, k0)) :
    Calls Tryz.prog 8 #[.slice ba bn bc, .slice a n cap] w (ShpOut w D k0) := by
  have E : Hid (Calls Tryz.prog 36 #[.slice ba bn bc, .slice a n cap] w (ColOut w A D k0)) := askcolumns_impl ba bn bc T hbn hbM hsmT a cap L n hn w hT hL hmild hnM hcap A hS D k0 hD
  have HS : Hid (SenAt w A) := hS
  have HZ : Hid (k0 ≠ 0 → D = []) := shapeR_none T L D k0 hD
  have HL : Hid (k0 = 0 → D.length ≤ 6) := by
    have : k0 = 0 → D.length ≤ 6 := fun hk => by subst hk; exact shapeR_len T L D hD
    exact this
  clear hT hL hbn hn hD hS hmild hsmT hnM hcap
  go_enter Tryz.func8, Tryz.ntmps8
  go_wp2_with fail
  refine E.out.mono ?_
  rintro e w1 ⟨a', n', c', v', rfl, hv, hkk, hx1⟩
  have HV : Hid (ErrV A k0 v') := hv
  have HKK : Hid (k0 = 0 → D.length = n' ∧ StrsAt w1 a' D ∧ (a' = none → c' = 0) ∧ n' ≤ c') := hkk
  clear hv hkk E
  go_wp2_with fail
  refine (shape_impl a' n' c' v' w1 A (HS.out.below hx1) D k0 HV.out HKK.out (fun h => by have := HL.out h; have := (HKK.out h).1; omega) HZ.out).mono ?_
  rintro e w2 ⟨g, n, c, hn, rfl, hnc, ho, hb2⟩
  have fin : Hid (ShpOut w D k0 (.returned (.tuple #[.slice (some ⟨g, 0, none⟩) n c, .int .i64 k0])) w2) := ⟨g, n, c, hn, rfl, hnc, own_lowS ho hx1.size, chain hx1 hb2⟩
  clear hn hnc ho hb2 HV HKK
  go_wp2
  go_ret2
  exact fin.out
end Go.Proofs.YtjiaciikbnpicaaGreatDoor

/-
  What the exact laws of chapter 11 ask beside the walks: how many marks, the answer's list through marks and later worlds.
-/
namespace Go.Proofs.YtjiaciikbnpicaaGreatDoor
open Go.ChangeShapes Go.WideShapes Go.ChangeAt Go.RowKit

theorem sivN_left {s : SV} {x : Int} (h : 0 ≤ leftV s x) : (sivN s : Int) ≤ 5 + 5 * (x - leftV s x) := by
  unfold leftV at h ⊢
  by_cases h1 : x < (s.name.size : Int)
  · rw [if_pos h1] at h; omega
  rw [if_neg h1] at h ⊢
  by_cases h2 : leftOfS s.names (x - s.name.size) < 0
  · rw [if_pos h2] at h; omega
  rw [if_neg h2] at h ⊢
  by_cases h3 : leftOfItm s.sum (leftOfS s.names (x - s.name.size)) < 0
  · rw [if_pos h3] at h; omega
  rw [if_neg h3] at h ⊢
  unfold leftOfItm at h3 ⊢
  split at h3
  · omega
  rename_i h4
  rw [if_neg h4]
  unfold leftOfS at h2 h4 ⊢
  split at h2
  · omega
  rename_i h5
  rw [if_neg h5] at h4 ⊢
  unfold sivN
  omega
theorem offV_leftVs {T : List SV} {x : Int} (h : 0 ≤ leftVs T x) : (((T.map sivN).sum : Nat) : Int) ≤ 5 * T.length + 5 * (x - leftVs T x) := by
  induction T generalizing x with
  | nil => simp [leftVs]
  | cons t T ih =>
    unfold leftVs at h ⊢
    split at h
    · omega
    rename_i hn
    rw [if_neg hn]
    have h1 := sivN_left (s := t) (x := x) (by omega)
    have h2 := ih h
    rw [List.map_cons, List.sum_cons, List.length_cons]
    omega
theorem offV_leftVS {T : List SV} {x : Int} (h1 : x ≤ 1048576) (h : 0 ≤ leftVS T x) : offV T T.length ≤ 8388608 := by
  unfold leftVS at h
  split at h
  · omega
  rename_i hn
  have := offV_leftVs (T := T) (x := x - T.length) h
  unfold offV
  rw [List.take_length]
  omega
theorem heldstrD (n : Nat) (a : Option Addr) (cap : Nat) (k r : Nat) (z : Int) (hz : z = (k : Int)) (hr : k + n = r) (w : World) (hrow : StrsAt w a (marksS k n)) (h0 : 0 < k) (h1 : k + n ≤ 1099511627776) :
    Calls Tryz.prog 26 #[.slice a n cap, .int .i64 z] w fun e w' => e = .returned (.int .i64 (r : Int)) ∧ Below w.heap.size w w' := by
  subst hz hr
  exact heldstr_laws a cap n k w hrow h0 h1
/-- The answer: a list of texts in memory of its own. -/
def Own (w : World) (base g n c : Nat) (D : List ByteArray) : Prop := D.length = n ∧ w.ownsRow base 9 1 (.slice (some ⟨g, 0, none⟩) n c) n (strV D)
theorem Own.strs {w : World} {base g n c : Nat} {D : List ByteArray} (h : Own w base g n c D) : StrsAt w (some ⟨g, 0, none⟩) D := by
  obtain ⟨rfl, h⟩ := h
  exact own_strs h
theorem Own.free {w : World} {base g n c : Nat} {D : List ByteArray} (h : Own w base g n c D) : FreeS w (some ⟨g, 0, none⟩) D.length := by
  obtain ⟨rfl, h⟩ := h
  exact own_freeS h
theorem Own.below {w w' : World} {base g n c : Nat} {D : List ByteArray} (h : Own w base g n c D) (hb : Below w.heap.size w w') : Own w' base g n c D := ⟨h.1, own_below h.2 hb⟩
theorem Own.lo {w : World} {base g n c : Nat} {D : List ByteArray} (h : Own w base g n c D) : base ≤ g := (h.2.lt g rfl).1
theorem Own.keepS {P : Nat → Prop} {w w' : World} {base g n c : Nat} {D : List ByteArray} (h : Own w base g n c D) (hk : KeepS P w w') (hP : ∀ b, P b → b < base) : Own w' base g n c D := by
  have hg := h.2.lt g rfl
  exact ⟨h.1, own_keepW h.2 (Nat.le_refl _) (hk.block g hg.2 (fun hp => by have := hP g hp; omega))⟩
theorem Own.keepLo {P : Nat → Prop} {w w' : World} {base g n c B : Nat} {D : List ByteArray} (h : Own w base g n c D) (hk : KeepS P w w') (hg : g < B) (hP : ∀ b, P b → B ≤ b) : Own w' base g n c D := by
  have hg2 := h.2.lt g rfl
  exact ⟨h.1, own_keepW h.2 (Nat.le_refl _) (hk.block g hg2.2 (fun hp => by have := hP g hp; omega))⟩
theorem leftTs_le {T : List TB} {x : Int} (h : 0 ≤ leftTs T x) : leftTs T x ≤ x := by
  have := offT_leftTs h
  have h0 : (0 : Int) ≤ (((T.map tabN).sum : Nat) : Int) := by omega
  induction T generalizing x with
  | nil => simp [leftTs]
  | cons t T ih =>
    unfold leftTs at h ⊢
    split at h
    · omega
    rename_i hn
    rw [if_neg hn]
    have h1 := tabN_left (t := t) (x := x) (by omega)
    have h2 := ih h (offT_leftTs h) (by omega)
    have h3 : leftT t x ≤ x := by
      by_cases h4 : leftT t x ≤ x
      · exact h4
      · have h5 : (1 : Int) ≤ (tabN t : Int) := by unfold tabN; omega
        omega
    omega
theorem leftTS_le {T : List TB} {x y : Int} (hx : x ≤ 1048576) (h : leftTS T x = y) (hy : 0 ≤ y) : y ≤ 1048576 := by
  unfold leftTS at h
  split at h
  · omega
  · have := leftTs_le (T := T) (x := x - T.length) (by omega)
    omega
theorem ShpOut.own {w w' : World} {D : List ByteArray} {k : Int} {e : Ending} (h : ShpOut w D k e w') : ∃ g n c, e = .returned (.tuple #[.slice (some ⟨g, 0, none⟩) n c, .int .i64 k]) ∧ Own w' w.heap.size g n c D ∧ Below w.heap.size w w' := by
  obtain ⟨g, n, c, hn, he, _, ho, hb⟩ := h
  exact ⟨g, n, c, he, ⟨hn, ho⟩, hb⟩
end Go.Proofs.YtjiaciikbnpicaaGreatDoor

/-
  From the row's condition on the listed variables to what the walks ask of them, where the program's five sentinels and errors' own handle are listed too.
-/
namespace Go.Proofs.YtjiaciikbnpicaaGreatDoor
open Go.ChangeShapes Go.WideShapes Go.ChangeAt Go.RowKit

theorem laid_skip {P : Program} {x y : String × DataW Unit} {r : List (String × DataW Unit)} {W : World} (h : laidMet P (x :: y :: r) W) : laidMet P (x :: r) W := by
  obtain ⟨n0, d0⟩ := x
  obtain ⟨n1, d1⟩ := y
  obtain ⟨ps, ⟨g0, t0, cs0, f0, p0, q0, hg0, ht0, hv0, hd0, ⟨g1, t1, cs1, f1, p1, q1, hg1, ht1, hv1, hd1, hr, e1⟩, e0⟩, hnd, hrows⟩ := h
  subst e1
  subst e0
  refine ⟨_, ⟨g0, t0, cs0, f0, p0, q1, hg0, ht0, hv0, hd0, hr, rfl⟩, hnd.sublist (List.Sublist.append (List.Sublist.refl _) (List.sublist_append_right _ _)), fun b off hm => hrows b off ?_⟩
  rcases List.mem_append.1 hm with hm | hm
  · exact List.mem_append_left _ hm
  · exact List.mem_append_right _ (List.mem_append_right _ hm)
theorem trodVars_five {H : Type} {enc : TypeId × Value → H} {P : Program} {w : World} {spare : Nat → Bool} {n1 n2 n3 n4 n5 : String} {gs : List (DataW H)} {ps : List MemPlace} (h : DataW.TrodVars enc P w spare [n1, n2, n3, n4, n5] gs ps) : ∃ d1 d2 d3 d4 d5, gs = [d1, d2, d3, d4, d5] := by
  have key : ∀ (ns : List String) (gs : List (DataW H)) (ps : List MemPlace), DataW.TrodVars enc P w spare ns gs ps → gs.length = ns.length := by
    intro ns
    induction ns with
    | nil =>
      intro gs ps h
      cases gs with
      | nil => rfl
      | cons d ds => exact absurd h (by intro h; cases h)
    | cons n ns ih =>
      intro gs ps h
      cases gs with
      | nil => exact absurd h (by intro h; cases h)
      | cons d ds =>
        obtain ⟨_, _, _, _, _, _, _, _, _, _, hs, _⟩ := h
        simp [ih ds _ hs]
  have hl := key _ _ _ h
  match gs, hl with
  | [a, b, c, d, e], _ => exact ⟨a, b, c, d, e, rfl⟩
/-- What the rows list. -/
def lineup : List (String × DataW Unit) := [("math/bits.deBruijn32tab", Rows.laid_math_bits_deBruijn32tab), ("math/bits.deBruijn64tab", Rows.laid_math_bits_deBruijn64tab), ("internal/strconv.uint64pow10", Rows.laid_internal_strconv_uint64pow10), ("errors.errorType", Rows.laid_errors_errorType), ("strconv.ErrRange", Rows.laid_strconv_ErrRange), ("strconv.ErrSyntax", Rows.laid_strconv_ErrSyntax), ("loop.example/g00536/impl.errNoTable", Rows.laid_loop_example_g00536_impl_errNoTable), ("loop.example/g00536/impl.errTwice", Rows.laid_loop_example_g00536_impl_errTwice), ("loop.example/g00536/impl.errNoColumn", Rows.laid_loop_example_g00536_impl_errNoColumn), ("loop.example/g00536/impl.errTooMany", Rows.laid_loop_example_g00536_impl_errTooMany), ("loop.example/g00536/impl.errNotRight", Rows.laid_loop_example_g00536_impl_errNotRight)]
theorem lineup_h : (lineup.filter fun x => x.2.handleName?.isSome) = [("errors.errorType", Rows.laid_errors_errorType)] := by kernel_rfl
theorem lineup_d : (lineup.filter fun x => x.2.handleName?.isNone) = [("math/bits.deBruijn32tab", Rows.laid_math_bits_deBruijn32tab), ("math/bits.deBruijn64tab", Rows.laid_math_bits_deBruijn64tab), ("internal/strconv.uint64pow10", Rows.laid_internal_strconv_uint64pow10), ("strconv.ErrRange", Rows.laid_strconv_ErrRange), ("strconv.ErrSyntax", Rows.laid_strconv_ErrSyntax), ("loop.example/g00536/impl.errNoTable", Rows.laid_loop_example_g00536_impl_errNoTable), ("loop.example/g00536/impl.errTwice", Rows.laid_loop_example_g00536_impl_errTwice), ("loop.example/g00536/impl.errNoColumn", Rows.laid_loop_example_g00536_impl_errNoColumn), ("loop.example/g00536/impl.errTooMany", Rows.laid_loop_example_g00536_impl_errTooMany), ("loop.example/g00536/impl.errNotRight", Rows.laid_loop_example_g00536_impl_errNotRight)] := by kernel_rfl
theorem g1 : Tryz.prog.globalNamed "loop.example/g00536/impl.errNoTable" = some 1 := by kernel_rfl
theorem g2 : Tryz.prog.globalNamed "loop.example/g00536/impl.errTwice" = some 2 := by kernel_rfl
theorem g3 : Tryz.prog.globalNamed "loop.example/g00536/impl.errNoColumn" = some 3 := by kernel_rfl
theorem g4 : Tryz.prog.globalNamed "loop.example/g00536/impl.errTooMany" = some 4 := by kernel_rfl
theorem g5 : Tryz.prog.globalNamed "loop.example/g00536/impl.errNotRight" = some 0 := by kernel_rfl
theorem gE : Tryz.prog.globalNamed "errors.errorType" = some 5 := by kernel_rfl
theorem gT (g : Nat) (hg : g = 1 ∨ g = 2 ∨ g = 3 ∨ g = 4 ∨ g = 0) : (Tryz.prog.globals[g]?).map (·.type) = some 70 := by
  rcases hg with rfl | rfl | rfl | rfl | rfl <;> kernel_rfl
theorem rtT : (Tryz.prog.cutTypes.find? (·.1 == "internal/reflectlite.rtype")).map (·.2) = some 189 := by kernel_rfl
theorem typesN : Tryz.prog.types.size = 343 := by kernel_rfl
theorem oneError : ((List.range 343).filter fun t => Tryz.prog.rowNamed t [101, 114, 114, 111, 114]) = [70] := by kernel_rfl
theorem var_cellE {W : World} {n : String} {g : Nat} {x : Value} (hg : Tryz.prog.globalNamed n = some g) (h : W.var? Tryz.prog n = some #[x]) : W.cell? ⟨g, 0, none⟩ = some x ∧ g < W.heap.size := by
  have hc : W.cell? ⟨g, 0, none⟩ = some x := by simpa using World.var?_cell hg h 0
  refine ⟨hc, ?_⟩
  by_cases hl : g < W.heap.size
  · exact hl
  · simp [World.cell?, Array.getElem?_eq_none (Nat.le_of_not_lt hl)] at hc
/-- Two sentinels that stand first. -/
theorem two_sen {W : World} {r : List (String × DataW Unit)} {n0 n1 : String} {t0 t1 : List UInt8} {g0 g1 : Nat} (h : laidMet Tryz.prog ((n0, .iface "*errors.errorString" (.ptr (.agg [.lit (.string t0)]))) :: (n1, .iface "*errors.errorString" (.ptr (.agg [.lit (.string t1)]))) :: r) W)
    (h0 : Tryz.prog.globalNamed n0 = some g0) (k0 : g0 = 1 ∨ g0 = 2 ∨ g0 = 3 ∨ g0 = 4 ∨ g0 = 0) (h1 : Tryz.prog.globalNamed n1 = some g1) (k1 : g1 = 1 ∨ g1 = 2 ∨ g1 = 3 ∨ g1 = 4 ∨ g1 = 0) :
    ∃ a0 a1 : Addr, W.var? Tryz.prog n0 = some #[.iface 304 (.pointer (some a0))] ∧ W.var? Tryz.prog n1 = some #[.iface 304 (.pointer (some a1))] ∧ a0 ≠ a1 ∧ Blk W a0 ∧ Blk W a1 := by
  obtain ⟨a0, a1, s0, s1, c0, c1, u0, u1, hv0, hv1, _, _, _, _, _, _, hne, hb0, hb1⟩ := laid_sentinels2 h h0 (gT g0 k0) h1 (gT g1 k1) Tryz.underlying70 row_err Tryz.underlying304 Tryz.underlying306 rfl rfl Tryz.underlying9 (by kernel_rfl) (by kernel_rfl)
  exact ⟨a0, a1, hv0, hv1, hne, ⟨c0, u0, hb0⟩, ⟨c1, u1, hb1⟩⟩
theorem same_addr {W : World} {n : String} {a b : Addr} (h : W.var? Tryz.prog n = some #[.iface 304 (.pointer (some a))]) (h' : W.var? Tryz.prog n = some #[.iface 304 (.pointer (some b))]) : a = b := by
  rw [h] at h'
  simpa using h'
theorem sen_of {W : World} (h : laidMetH Tryz.prog lineup W) : ∃ A, SenAt W A := by
  have hh : laidMet Tryz.prog (lineup.filter fun x => x.2.handleName?.isNone) W ∧ handlesMet Tryz.prog [("errors.errorType", Rows.laid_errors_errorType)] W := by
    unfold laidMetH at h
    rw [lineup_h] at h
    exact h
  rw [lineup_d] at hh
  obtain ⟨hd, hm⟩ := hh
  have hE : W.cell? ⟨5, 0, none⟩ = some (.iface 189 (.agg #[.pointer (some ⟨12, 70, none⟩)])) ∧ 5 < W.heap.size := by
    have hx := hm _ (List.mem_singleton.2 rfl)
    have hx2 : ∃ name u ty, (Rows.laid_errors_errorType : DataW Unit).handleName? = some name ∧ (Tryz.prog.cutTypes.find? (·.1 == "internal/reflectlite.rtype")).map (·.2) = some u ∧ ty < Tryz.prog.types.size ∧ Tryz.prog.rowNamed ty name = true ∧ W.var? Tryz.prog "errors.errorType" = some #[.iface u (.agg #[typeHandle Tryz.prog ty])] := hx
    obtain ⟨name, u, ty, e1, e2, e3, e4, e5⟩ := hx2
    have en : name = [101, 114, 114, 111, 114] := by
      have e0 : (Rows.laid_errors_errorType : DataW Unit).handleName? = some [101, 114, 114, 111, 114] := by kernel_rfl
      exact Option.some.inj (e1.symm.trans e0)
    subst en
    obtain rfl := Option.some.inj (rtT.symm.trans e2)
    have hm : ty ∈ (List.range 343).filter fun t => Tryz.prog.rowNamed t [101, 114, 114, 111, 114] := List.mem_filter.2 ⟨List.mem_range.2 (by rw [← typesN]; exact e3), e4⟩
    rw [oneError] at hm
    obtain rfl := List.mem_singleton.1 hm
    have hh : typeHandle Tryz.prog 70 = .pointer (some ⟨12, 70, none⟩) := by kernel_rfl
    rw [hh] at e5
    exact var_cellE gE e5
  have h2 := laidMet.tail (laidMet.tail hd)
  have h5 := laidMet.tail (laidMet.tail (laidMet.tail h2))
  have hp := pow_of h2
  have he := err_of (laidMet.tail h2)
  unfold Rows.laid_loop_example_g00536_impl_errNoTable Rows.laid_loop_example_g00536_impl_errTwice Rows.laid_loop_example_g00536_impl_errNoColumn Rows.laid_loop_example_g00536_impl_errTooMany Rows.laid_loop_example_g00536_impl_errNotRight at h5
  have k1 : 1 = 1 ∨ 1 = 2 ∨ 1 = 3 ∨ 1 = 4 ∨ 1 = 0 := by decide
  have k2 : 2 = 1 ∨ 2 = 2 ∨ 2 = 3 ∨ 2 = 4 ∨ 2 = 0 := by decide
  have k3 : 3 = 1 ∨ 3 = 2 ∨ 3 = 3 ∨ 3 = 4 ∨ 3 = 0 := by decide
  have k4 : 4 = 1 ∨ 4 = 2 ∨ 4 = 3 ∨ 4 = 4 ∨ 4 = 0 := by decide
  have k5 : 0 = 1 ∨ 0 = 2 ∨ 0 = 3 ∨ 0 = 4 ∨ 0 = 0 := by decide
  obtain ⟨a1, a2, v1, v2, n12, b1, b2⟩ := two_sen h5 g1 k1 g2 k2
  obtain ⟨x1, a3, y1, v3, n13, _, b3⟩ := two_sen (laid_skip h5) g1 k1 g3 k3
  obtain rfl := same_addr v1 y1
  obtain ⟨x1, a4, y1, v4, n14, _, b4⟩ := two_sen (laid_skip (laid_skip h5)) g1 k1 g4 k4
  obtain rfl := same_addr v1 y1
  obtain ⟨x1, a5, y1, v5, n15, _, b5⟩ := two_sen (laid_skip (laid_skip (laid_skip h5))) g1 k1 g5 k5
  obtain rfl := same_addr v1 y1
  have h6 := laidMet.tail h5
  obtain ⟨x2, x3, y2, y3, n23, _, _⟩ := two_sen h6 g2 k2 g3 k3
  obtain rfl := same_addr v2 y2
  obtain rfl := same_addr v3 y3
  obtain ⟨x2, x4, y2, y4, n24, _, _⟩ := two_sen (laid_skip h6) g2 k2 g4 k4
  obtain rfl := same_addr v2 y2
  obtain rfl := same_addr v4 y4
  obtain ⟨x2, x5, y2, y5, n25, _, _⟩ := two_sen (laid_skip (laid_skip h6)) g2 k2 g5 k5
  obtain rfl := same_addr v2 y2
  obtain rfl := same_addr v5 y5
  have h7 := laidMet.tail h6
  obtain ⟨x3, x4, y3, y4, n34, _, _⟩ := two_sen h7 g3 k3 g4 k4
  obtain rfl := same_addr v3 y3
  obtain rfl := same_addr v4 y4
  obtain ⟨x3, x5, y3, y5, n35, _, _⟩ := two_sen (laid_skip h7) g3 k3 g5 k5
  obtain rfl := same_addr v3 y3
  obtain rfl := same_addr v5 y5
  have h8 := laidMet.tail h7
  obtain ⟨x4, x5, y4, y5, n45, _, _⟩ := two_sen h8 g4 k4 g5 k5
  obtain rfl := same_addr v4 y4
  obtain rfl := same_addr v5 y5
  obtain ⟨c1, l1⟩ := var_cellE g1 v1
  obtain ⟨c2, l2⟩ := var_cellE g2 v2
  obtain ⟨c3, l3⟩ := var_cellE g3 v3
  obtain ⟨c4, l4⟩ := var_cellE g4 v4
  obtain ⟨c5, l5⟩ := var_cellE g5 v5
  exact ⟨⟨a1, a2, a3, a4, a5⟩, ⟨l1, l2, l3, l4, l5, hE.2⟩, c1, c2, c3, c4, c5, b1, b2, b3, b4, b5, n12, n13, n14, n15, n23, n24, n25, n34, n35, n45, hE.1, hp, he⟩
end Go.Proofs.YtjiaciikbnpicaaGreatDoor
