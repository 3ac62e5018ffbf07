/-
  A part of the proof: ShpS2.
-/
import Derived.Test.YtjiaciikbnpicaaGreatDoorPart30
import Derived.Test.YtjiaciikbnpicaaGreatDoorPart32

/-
  The contracts of the model's StepShape and ShapeOf.
-/
namespace Go.Proofs.YtjiaciikbnpicaaGreatDoor
open Go.ChangeShapes Go.WideShapes Go.ChangeAt Go.RowKit
attribute [local go_sem ↓] Go.wp_at_zero Go.wp_at_succ
attribute [local simp] World.cell?_alloc_past World.cell?_alloc_at World.frozen?_alloc_at cell_far cell_off cell_here World.frozen?_alloc_past

theorem bad_out {w w1 : World} (k : Int) (hx : Below w.heap.size w w1) : ShpOut w [] k (.returned (.tuple #[.slice (some ⟨w1.heap.size, 0, none⟩) 0 0, .int .i64 k])) (w1.alloc (.cells #[] 9)) :=
  ⟨w1.heap.size, 0, 0, rfl, rfl, Nat.le_refl _, own_lowS (own_nilS w1) hx.size, hx.alloc hx.size _⟩
theorem step_spec (ba : Option Addr) (bn bc : Nat) (T : List TB) (hbn : T.length = bn) (ca : Option Addr) (cn cc : Nat) (C : List ByteArray) (hcn : C.length = cn) (kd : Int) (nm : ByteArray) (na : Option Addr) (nn nc : Nat) (N : List ByteArray) (hnn : N.length = nn) (sa : Option Addr) (sn sc : Nat) (S : List TI) (hsn : S.length = sn) (dn : Bool) (ct sk : Int) (w : World) (hT : TabsAt w ba T) (hC : StrsAt w ca C) (hnil : ca = none → cc = 0) (hV : SivAt w na nc sa ⟨kd, nm, N, S, dn, ct, sk⟩) (hb : baseB T = true) (hc : namesB C 1 6 = true) (hok : sieveB ⟨kd, nm, N, S, dn, ct, sk⟩ = true) (hk1 : kd ≠ 1) (D : List ByteArray) (k0 : Int) (hD : stepC T C ⟨kd, nm, N, S, dn, ct, sk⟩ = (D, k0)) :
    Calls Tryz.prog 47 #[.slice ba bn bc, .slice ca cn cc, .agg #[.int .i64 kd, .string nm, .slice na nn nc, .slice sa sn sc, .bool dn, .int .i64 ct, .int .i64 sk]] w (ShpOut w D k0) := by
  rcases sieve_kind hok with e | e | e | e | e | e | e | e | e | e <;> (dsimp only at e; subst e)
  · exact absurd rfl hk1
  · exact step_2 ba bn bc T hbn ca cn cc C hcn nm na nn nc N hnn sa sn sc S hsn dn ct sk w hT hC hnil hV hb hc hok D k0 hD
  · exact step_3 ba bn bc T hbn ca cn cc C hcn nm na nn nc N hnn sa sn sc S hsn dn ct sk w hT hC hnil hV hb hc hok D k0 hD
  · exact step_4 ba bn bc T hbn ca cn cc C hcn nm na nn nc N hnn sa sn sc S hsn dn ct sk w hT hC hnil hV hb hc hok D k0 hD
  · exact step_5 ba bn bc T hbn ca cn cc C hcn nm na nn nc N hnn sa sn sc S hsn dn ct sk w hT hC hnil hV hb hc hok D k0 hD
  · exact step_6 ba bn bc T hbn ca cn cc C hcn nm na nn nc N hnn sa sn sc S hsn dn ct sk w hT hC hnil hV hb hc hok D k0 hD
  · exact step_7 ba bn bc T hbn ca cn cc C hcn nm na nn nc N hnn sa sn sc S hsn dn ct sk w hT hC hnil hV hb hc hok D k0 hD
  · exact step_8 ba bn bc T hbn ca cn cc C hcn nm na nn nc N hnn sa sn sc S hsn dn ct sk w hT hC hnil hV hb hc hok D k0 hD
  · exact step_9 ba bn bc T hbn ca cn cc C hcn nm na nn nc N hnn sa sn sc S hsn dn ct sk w hT hC hnil hV hb hc hok D k0 hD
  · exact step_10 ba bn bc T hbn ca cn cc C hcn nm na nn nc N hnn sa sn sc S hsn dn ct sk w hT hC hnil hV hb hc hok D k0 hD
set_option maxRecDepth 100000 in
set_option maxHeartbeats 4000000 in
theorem stepshape_spec (ba : Option Addr) (bn bc : Nat) (T : List TB) (hbn : T.length = bn) (ca : Option Addr) (cn cc : Nat) (C : List ByteArray) (hcn : C.length = cn) (kd : Int) (nm : ByteArray) (na : Option Addr) (nn nc : Nat) (N : List ByteArray) (hnn : N.length = nn) (sa : Option Addr) (sn sc : Nat) (S : List TI) (hsn : S.length = sn) (dn : Bool) (ct sk : Int) (w : World) (hT : TabsAt w ba T) (hC : StrsAt w ca C) (hnil : ca = none → cc = 0) (hV : SivAt w na nc sa ⟨kd, nm, N, S, dn, ct, sk⟩) (hcF : FitS C) (hcM : cn ≤ maxLen) (hcC : cn ≤ cc) (hbM : bn ≤ maxLen) (D : List ByteArray) (k0 : Int) (hD : stepShapeR T C ⟨kd, nm, N, S, dn, ct, sk⟩ = (D, k0)) :
    Calls Tryz.prog 13 #[.slice ba bn bc, .slice ca cn cc, .agg #[.int .i64 kd, .string nm, .slice na nn nc, .slice sa sn sc, .bool dn, .int .i64 ct, .int .i64 sk]] w (ShpOut w D k0) := by
  obtain ⟨b1, hb1⟩ : ∃ b, baseB T = b := ⟨_, rfl⟩
  obtain ⟨b2, hb2⟩ : ∃ b, namesB C 1 6 = b := ⟨_, rfl⟩
  obtain ⟨b3, hb3⟩ : ∃ b, sieveB ⟨kd, nm, N, S, dn, ct, sk⟩ = b := ⟨_, rfl⟩
  have CB : Hid (∀ w', Below w.heap.size w w' → Calls Tryz.prog 42 #[.slice ba bn bc] w' fun e w'' => e = .returned (.bool b1) ∧ Below w'.heap.size w' w'') := fun w' hw => base_spec ba bc T bn hbn w' (hT.below hw) hbM b1 hb1
  have CN : Hid (∀ w', Below w.heap.size w w' → Calls Tryz.prog 45 #[.slice ca cn cc, .int .i64 1, .int .i64 6] w' fun e w'' => e = .returned (.bool b2) ∧ Below w'.heap.size w' w'') := fun w' hw => l5_specN cn ca cc C hcn 1 6 w' (hC.below hw) hcF hcM hcC b2 hb2
  have CS : Hid (∀ w', Below w.heap.size w w' → Calls Tryz.prog 46 #[.agg #[.int .i64 kd, .string nm, .slice na nn nc, .slice sa sn sc, .bool dn, .int .i64 ct, .int .i64 sk]] w' fun e w'' => e = .returned (.bool b3) ∧ Below w'.heap.size w' w'') := fun w' hw => sieve_spec kd nm na nn nc N hnn sa sn sc S hsn dn ct sk w' hV.name (hV.names.below hw) hV.fitN (by rw [← hnn]; exact hV.lenN) (by rw [← hnn]; exact hV.capN) (hV.sum.below hw) hV.fitI (by rw [← hsn]; exact hV.lenI) b3 hb3
  have CL : Hid (b1 = true → b2 = true → b3 = true → kd ≠ 1 → ∀ w', Below w.heap.size w w' → Calls Tryz.prog 47 #[.slice ba bn bc, .slice ca cn cc, .agg #[.int .i64 kd, .string nm, .slice na nn nc, .slice sa sn sc, .bool dn, .int .i64 ct, .int .i64 sk]] w' (ShpOut w' D k0)) := by
    have h : b1 = true → b2 = true → b3 = true → kd ≠ 1 → ∀ w', Below w.heap.size w w' → Calls Tryz.prog 47 #[.slice ba bn bc, .slice ca cn cc, .agg #[.int .i64 kd, .string nm, .slice na nn nc, .slice sa sn sc, .bool dn, .int .i64 ct, .int .i64 sk]] w' (ShpOut w' D k0) := by
      intro e1 e2 e3 e4 w' hw
      subst e1 e2 e3
      have hD2 := hD
      unfold stepShapeR at hD2
      rw [if_pos ⟨by rw [hb1, hb2, hb3]; rfl, e4⟩] at hD2
      exact step_spec ba bn bc T hbn ca cn cc C hcn kd nm na nn nc N hnn sa sn sc S hsn dn ct sk w' (hT.below hw) (hC.below hw) hnil (hV.below hw) hb1 hb2 hb3 e4 D k0 hD2
    exact h
  have BAD : Hid (¬ (b1 = true ∧ b2 = true ∧ b3 = true ∧ kd ≠ 1) → D = [] ∧ k0 = 5) := by
    have h : ¬ (b1 = true ∧ b2 = true ∧ b3 = true ∧ kd ≠ 1) → D = [] ∧ k0 = 5 := by
      intro hn
      have hD2 := hD
      unfold stepShapeR at hD2
      rw [if_neg (by
        rintro ⟨h1, h2⟩
        rw [hb1, hb2, hb3] at h1
        simp only [Bool.and_eq_true] at h1
        exact hn ⟨h1.1.1, h1.1.2, h1.2, h2⟩)] at hD2
      injection hD2 with e1 e2
      exact ⟨e1.symm, e2.symm⟩
    exact h
  have hA : ∀ o, Below w.heap.size w (w.alloc o) := fun o => (Below.refl _ _).alloc (Nat.le_refl _) o
  clear hb1 hb2 hb3 hT hC hV hbn hcn hnn hsn hD hcF hnil
  go_enter Tryz.func13, Tryz.ntmps13
  go_wp2_with fail
  refine (CB.out _ (hA _)).mono ?_
  rintro e w1 ⟨rfl, hb1⟩
  obtain ⟨p0, p1, p2, p3, p4, p5, p6, hsz⟩ := box7 hb1
  have hx1 := chainA hb1
  clear hb1
  cases b1
  · obtain ⟨rfl, rfl⟩ := BAD.out (by simp)
    have fin := bad_out 5 hx1
    clear BAD
    go_wp2
    go_ret2
    exact fin
  go_wp2_with fail
  refine (CN.out _ hx1).mono ?_
  rintro e w2 ⟨rfl, hb2⟩
  obtain ⟨q0, q1, q2, q3, q4, q5, q6, hsz2⟩ := later7 hb2 ⟨p0, p1, p2, p3, p4, p5, p6, hsz⟩
  have hx2 := chain hx1 hb2
  clear p0 p1 p2 p3 p4 p5 p6 hsz hb2
  cases b2
  · obtain ⟨rfl, rfl⟩ := BAD.out (by simp)
    have fin := bad_out 5 hx2
    clear BAD
    go_wp2
    go_ret2
    exact fin
  go_wp2_with fail
  refine (CS.out _ hx2).mono ?_
  rintro e w3 ⟨rfl, hb3⟩
  obtain ⟨r0, r1, r2, r3, r4, r5, r6, hsz3⟩ := later7 hb3 ⟨q0, q1, q2, q3, q4, q5, q6, hsz2⟩
  have hx3 := chain hx2 hb3
  clear q0 q1 q2 q3 q4 q5 q6 hsz2 hb3
  cases b3
  · obtain ⟨rfl, rfl⟩ := BAD.out (by simp)
    have fin := bad_out 5 hx3
    clear BAD
    go_wp2
    go_ret2
    exact fin
  by_cases hk1 : kd = 1
  · have hk : (kd == 1) = true := by simp [hk1]
    obtain ⟨rfl, rfl⟩ := BAD.out (by simp [hk1])
    have fin := bad_out 5 hx3
    clear BAD hk1
    go_wp2
    go_ret2
    exact fin
  have hk : (kd == 1) = false := by simp [hk1]
  have C : Hid (∀ w', Below w.heap.size w w' → Calls Tryz.prog 47 #[.slice ba bn bc, .slice ca cn cc, .agg #[.int .i64 kd, .string nm, .slice na nn nc, .slice sa sn sc, .bool dn, .int .i64 ct, .int .i64 sk]] w' (ShpOut w' D k0)) := CL.out (by simp) (by simp) (by simp) hk1
  clear hk1 BAD CL
  go_wp2_with fail
  refine (C.out _ hx3).mono ?_
  rintro e w4 ⟨g, n, c, hn, rfl, hnc, ho, hb4⟩
  have fin : Hid (ShpOut w D k0 (.returned (.tuple #[.slice (some ⟨g, 0, none⟩) n c, .int .i64 k0])) w4) := ⟨g, n, c, hn, rfl, hnc, own_lowS ho hx3.size, chain hx3 hb4⟩
  clear hn hnc ho hb4
  go_wp2
  go_ret2
  exact fin.out
theorem shapeF_drop (T : List TB) (C : List ByteArray) (l : List SV) (k : Nat) (h : k < l.length) : shapeF T C (l.drop k) = if (stepC T C l[k]).2 = 0 then shapeF T (stepC T C l[k]).1 (l.drop (k + 1)) else ([], (stepC T C l[k]).2) := by
  rw [List.drop_eq_getElem_cons h]; rfl
/-- What the model's l11Shape answers. -/
def shapeQ (T : List TB) (l : List SV) : List ByteArray × Int :=
  if inB (namesT T) ((l.head?.map (·.name)).getD ⟨#[]⟩) = false then ([], 1) else shapeF T (colsOf T ((l.head?.map (·.name)).getD ⟨#[]⟩)) l.tail
set_option maxRecDepth 100000 in
set_option maxHeartbeats 4000000 in
theorem shapeq_spec (ba : Option Addr) (bn bc : Nat) (T : List TB) (hbn : T.length = bn) (a : Option Addr) (cap : Nat) (L : List SV) (n : Nat) (hn : L.length = n) (w : World) (hT : TabsAt w ba T) (hL : SivsAt w a L) (hb : baseB T = true) (ha : askB L = true) (D : List ByteArray) (k0 : Int) (hD : shapeQ T L = (D, k0)) :
    Calls Tryz.prog 44 #[.slice ba bn bc, .slice a n cap] w (ShpOut w D k0) := by
  obtain ⟨i0, hti, hz0, hz1, hz2⟩ := info_parts infoTx
  have HT : Hid (TabsAt w ba T) := hT
  have HL : Hid (SivsAt w a L) := hL
  have HB : Hid (baseB T = true) := hb
  have HN : Hid (L.length = n) := hn
  have HBN : Hid (T.length = bn) := hbn
  obtain ⟨hall, hn1, hn8⟩ := ask_all ha
  rw [hn] at hn1 hn8
  have HAL : Hid (∀ i (hi : i < L.length), sieveB L[i] = true) := hall
  have HAF : Hid (∀ i (hi : i < L.length), i ≠ 0 → L[i].kind ≠ 1) := ask_first ha
  have hbl : bn ≤ 5 := by
    have h := hb
    unfold baseB at h
    simp only [Bool.and_eq_true, decide_eq_true_eq] at h
    omega
  have hl0 : 0 < L.length := by omega
  obtain ⟨nm, hnm⟩ : ∃ z, L[0].name = z := ⟨_, rfl⟩
  have HD : Hid ((if inB (namesT T) nm = false then ([], 1) else shapeF T (colsOf T nm) (L.drop 1)) = (D, k0)) := by
    have h : (if inB (namesT T) nm = false then ([], 1) else shapeF T (colsOf T nm) (L.drop 1)) = (D, k0) := by
      rw [← hD, ← hnm]
      unfold shapeQ
      cases L with
      | nil => simp at hl0
      | cons x l => rfl
    exact h
  obtain ⟨g0, oo, na, nc, sa, sc, rfl, hgw, ⟨c0, c1, c2, c3, c4, c5, c6⟩, hs0⟩ := hL 0 hl0
  rw [hnm] at c1
  rw [Nat.zero_mul, Nat.add_zero] at c1
  have hi1 : (0 : Int) < (n : Int) := by omega
  clear hT hL hb hn hbn ha hD hall hnm c0 c2 c3 c4 c5 c6 hs0 hl0
  go_enter Tryz.func44, Tryz.ntmps44
  go_wp2_with fail
  refine (find_spec ba bc T bn HBN.out nm _ HT.out (by unfold maxLen; omega)).mono ?_
  rintro e w1 ⟨r, rfl, hat, hb1⟩
  clear c1
  rcases cols_at hat with ⟨rfl, hno⟩ | ⟨t, ht, rfl, hf, hcs, hin⟩
  · have hno' : inB (namesT T) nm = false := inB_no.2 hno
    obtain ⟨rfl, rfl⟩ : D = [] ∧ k0 = 1 := by
      have h := HD.out
      rw [if_pos hno'] at h
      injection h with e1 e2
      exact ⟨e1.symm, e2.symm⟩
    have fin := bad_out 1 hb1
    clear hat hno hno'
    go_wp2
    go_ret2
    exact fin
  have hin' : inB (namesT T) nm = true := inB_iff.2 hin
  have hcn1 := cols_names HB.out hin
  obtain ⟨E, hE⟩ : ∃ E, colsOf T nm = E := ⟨_, rfl⟩
  rw [hE] at hcs hcn1
  have HDE : Hid (shapeF T E (L.drop 1) = (D, k0)) := by
    have h := HD.out
    rw [if_neg (by rw [hin']; decide), hE] at h
    exact h
  have HEN : Hid (namesB E 1 6 = true) := hcn1
  have hE6 := (namesB_iff.1 hcn1).2.2
  obtain ⟨m, hm⟩ : ∃ m, E.length = m := ⟨_, rfl⟩
  have HM : Hid (E.length = m) := hm
  rw [hm] at hE6
  have hm6 : m ≤ 6 := by omega
  obtain ⟨b0, o, ca', cc', ra', cr', rfl, hgw2, d0, d1, d2, htt⟩ := HT.out t ht
  rw [← hcs, hm] at d1
  have HEA : Hid (StrsAt w ca' E) := by
    have h := htt.cols
    rw [← hcs] at h
    exact h
  have hnil : ca' = none → cc' = 0 := htt.nilC
  have htn : t < bn := by rw [← HBN.out]; exact ht
  have ht0 : ¬ (t : Int) < 0 := by omega
  have ht1 : (t : Int) < (bn : Int) := by omega
  have dd : w1.cell? ⟨b0, o + t * 3 + 1, none⟩ = some (.slice ca' m cc') := (hb1.cell (p := ⟨b0, o + t * 3 + 1, none⟩) hgw2).trans d1
  clear hat hf hcs hin hcn1 hE hm hE6 d0 d1 d2 htt ht hgw2 hin' HD
  go_wp2_with fail
  refine (texts_spec ca' cc' E m HM.out _ (HEA.out.below hb1) hnil (by omega)).mono ?_
  rintro e w2 ⟨g, c, rfl, hg1, hgc, ho, hb2⟩
  have hx2 := chain hb1 hb2
  have O2 : Hid (w2.ownsRow w.heap.size 9 1 (.slice (some ⟨g, 0, none⟩) m c) m (strV E)) := by
    have h := ho
    rw [HM.out] at h
    exact own_lowS h hb1.size
  clear ho hb2 dd hg1
  go_wp2
  go_loopw [7, 8] (fun v kk wr => ∃ (j m g c : Nat) (C : List ByteArray), j ≤ n ∧ 1 ≤ j ∧ kk = .int .i64 j ∧ v = .slice (some ⟨g, 0, none⟩) m c ∧ m ≤ c ∧ Hid (C.length = m ∧ wr.ownsRow w.heap.size 9 1 (.slice (some ⟨g, 0, none⟩) m c) m (strV C)) ∧ Hid (namesB C 1 6 = true ∧ shapeF T C (L.drop j) = (D, k0)) ∧ Below w.heap.size w wr) (fun _ kk _ => n - (intOf kk).toNat)
  case atStart => exact ⟨1, m, g, c, E, by omega, Nat.le_refl _, rfl, rfl, hgc, ⟨HM.out, O2.out⟩, ⟨HEN.out, HDE.out⟩, hx2⟩
  case round =>
    obtain ⟨j, mj, gj, cj, C, hj, hj1, rfl, rfl, hmc, hO, hS, hbw⟩ := hrel
    by_cases hlt : j < n
    · have hlk : j < L.length := by rw [HN.out]; exact hlt
      obtain ⟨g1, o1, na1, nc1, sa1, sc1, e1, hgw1, ⟨c0, c1, c2, c3, c4, c5, c6⟩, hsv⟩ := HL.out.below hbw j hlk
      injection e1 with e1
      injection e1 with e1 e2
      subst e1 e2
      have hok := HAL.out j hlk
      have hkd := HAF.out j hlk (by omega)
      have hst := hS.out.2
      rw [shapeF_drop T C L j hlk] at hst
      generalize L[j] = s at c0 c1 c2 c3 c4 c5 c6 hsv hok hkd hst
      obtain ⟨kd, nm1, N, S, dn, ct, sk⟩ := s
      dsimp only at c0 c1 c2 c3 c4 c5 c6 hkd
      obtain ⟨nn, hnn⟩ : ∃ m, N.length = m := ⟨_, rfl⟩
      obtain ⟨sn, hsn⟩ : ∃ m, S.length = m := ⟨_, rfl⟩
      rw [hnn] at c2
      rw [hsn] at c3
      obtain ⟨D1, k1, hD1⟩ : ∃ D1 k1, stepC T C ⟨kd, nm1, N, S, dn, ct, sk⟩ = (D1, k1) := ⟨_, _, rfl⟩
      rw [hD1] at hst
      dsimp only at hst
      have hSC : StrsAt wr (some ⟨gj, 0, none⟩) C := by
        have h := hO.out.2
        rw [← hO.out.1] at h
        exact own_strs h
      have CC : Hid (Calls Tryz.prog 47 #[.slice (some ⟨b0, o, none⟩) bn bc, .slice (some ⟨gj, 0, none⟩) mj cj, .agg #[.int .i64 kd, .string nm1, .slice na1 nn nc1, .slice sa1 sn sc1, .bool dn, .int .i64 ct, .int .i64 sk]] wr (ShpOut wr D1 k1)) :=
        step_spec _ bn bc T HBN.out _ mj cj C hO.out.1 kd nm1 na1 nn nc1 N hnn sa1 sn sc1 S hsn dn ct sk wr (HT.out.below hbw) hSC (fun h => by cases h) hsv HB.out hS.out.1 hok hkd D1 k1 hD1
      have HOKD : Hid (k1 = 0 → namesB D1 1 6 = true) := by
        have h : k1 = 0 → namesB D1 1 6 = true := by
          intro e
          subst e
          exact stepC_ok HB.out hS.out.1 hok hD1
        exact h
      have HST : Hid ((if k1 = 0 then shapeF T D1 (L.drop (j + 1)) else ([], k1)) = (D, k0)) := hst
      have hi0 : (0 : Int) ≤ (j : Int) := by omega
      have hi2 : (j : Int) < (n : Int) := by omega
      clear hst hsv hok hkd hD1 hnn hsn hSC hlk hO hS
      go_wp2_with fail
      refine CC.out.mono ?_
      rintro e w3 ⟨g3, m3, c3', hm3, rfl, hmc3, ho3, hb3⟩
      have hx3 := chain hbw hb3
      have O3 : Hid (D1.length = m3 ∧ w3.ownsRow w.heap.size 9 1 (.slice (some ⟨g3, 0, none⟩) m3 c3') m3 (strV D1)) := ⟨hm3, own_lowS ho3 hbw.size⟩
      clear hm3 ho3 hb3 c0 c1 c2 c3 c4 c5 c6 CC
      by_cases hk : k1 = 0
      · subst hk
        have HS3 : Hid (namesB D1 1 6 = true ∧ shapeF T D1 (L.drop (j + 1)) = (D, k0)) := by
          have h := HST.out
          rw [if_pos rfl] at h
          have h2 : namesB D1 1 6 = true ∧ shapeF T D1 (L.drop (j + 1)) = (D, k0) := ⟨HOKD.out rfl, h⟩
          exact h2
        clear HST HOKD
        go_wp2
        go_roundw
        case rel => exact ⟨j + 1, m3, g3, c3', D1, by omega, by omega, by go_num, rfl, hmc3, O3, HS3, hx3⟩
        case measure => simp [intOf]; omega
      · have hk' : (k1 != 0) = true := by simp [hk]
        obtain ⟨rfl, rfl⟩ : D = [] ∧ k0 = k1 := by
          have h := HST.out
          rw [if_neg hk] at h
          injection h with e1 e2
          exact ⟨e1.symm, e2.symm⟩
        have fin := bad_out k0 hx3
        clear HST HOKD hk
        go_wp2
        go_ret2
        exact fin
    · have hkl : j = n := by omega
      subst hkl
      have hi2 : ¬ (j : Int) < (j : Int) := by omega
      obtain ⟨rfl, rfl⟩ : C = D ∧ 0 = k0 := by
        have h := hS.out.2
        rw [List.drop_eq_nil_of_le (by rw [HN.out]; exact Nat.le_refl _)] at h
        injection h with e1 e2
        exact ⟨e1, e2⟩
      have fin : Hid (ShpOut w C 0 (.returned (.tuple #[.slice (some ⟨gj, 0, none⟩) mj cj, .int .i64 0])) wr) := ⟨gj, mj, cj, hO.out.1, rfl, hmc, hO.out.2, hbw⟩
      clear hO hS hlt
      go_wp2
      go_ret2
      exact fin.out
theorem shapeR_q (T : List TB) (L : List SV) : shapeR T L = if (baseB T && askB L) = true then shapeQ T L else ([], 5) := rfl
set_option maxRecDepth 100000 in
set_option maxHeartbeats 4000000 in
theorem shapeof_spec (ba : Option Addr) (bn bc : Nat) (T : List TB) (hbn : T.length = bn) (a : Option Addr) (cap : Nat) (L : List SV) (n : Nat) (hn : L.length = n) (w : World) (hT : TabsAt w ba T) (hL : SivsAt w a L) (hbM : bn ≤ maxLen) (hnM : n ≤ maxLen) (D : List ByteArray) (k0 : Int) (hD : shapeR T L = (D, k0)) :
    Calls Tryz.prog 11 #[.slice ba bn bc, .slice a n cap] w (ShpOut w D k0) := by
  obtain ⟨b1, hb1⟩ : ∃ b, baseB T = b := ⟨_, rfl⟩
  obtain ⟨b2, hb2⟩ : ∃ b, askB L = b := ⟨_, rfl⟩
  have CB : Hid (∀ w', Below w.heap.size w w' → Calls Tryz.prog 42 #[.slice ba bn bc] w' fun e w'' => e = .returned (.bool b1) ∧ Below w'.heap.size w' w'') := fun w' hw => base_spec ba bc T bn hbn w' (hT.below hw) hbM b1 hb1
  have CA : Hid (∀ w', Below w.heap.size w w' → Calls Tryz.prog 43 #[.slice a n cap] w' fun e w'' => e = .returned (.bool b2) ∧ Below w'.heap.size w' w'') := fun w' hw => ask_spec a cap L n hn w' (hL.below hw) hnM b2 hb2
  have CL : Hid (b1 = true → b2 = true → ∀ w', Below w.heap.size w w' → Calls Tryz.prog 44 #[.slice ba bn bc, .slice a n cap] w' (ShpOut w' D k0)) := by
    have h : b1 = true → b2 = true → ∀ w', Below w.heap.size w w' → Calls Tryz.prog 44 #[.slice ba bn bc, .slice a n cap] w' (ShpOut w' D k0) := by
      intro e1 e2 w' hw
      subst e1 e2
      have hD2 := hD
      rw [shapeR_q, if_pos (by rw [hb1, hb2]; rfl)] at hD2
      exact shapeq_spec ba bn bc T hbn a cap L n hn w' (hT.below hw) (hL.below hw) hb1 hb2 D k0 hD2
    exact h
  have BAD : Hid (¬ (b1 = true ∧ b2 = true) → D = [] ∧ k0 = 5) := by
    have h : ¬ (b1 = true ∧ b2 = true) → D = [] ∧ k0 = 5 := by
      intro hn
      have hD2 := hD
      rw [shapeR_q, if_neg (by rw [hb1, hb2, Bool.and_eq_true]; exact hn)] at hD2
      injection hD2 with e1 e2
      exact ⟨e1.symm, e2.symm⟩
    exact h
  clear hb1 hb2 hT hL hbn hn hD
  go_enter Tryz.func11, Tryz.ntmps11
  go_wp2_with fail
  refine (CB.out _ (Below.refl _ _)).mono ?_
  rintro e w1 ⟨rfl, hx1⟩
  cases b1
  · obtain ⟨rfl, rfl⟩ := BAD.out (by simp)
    have fin := bad_out 5 hx1
    clear BAD
    go_wp2
    go_ret2
    exact fin
  go_wp2_with fail
  refine (CA.out _ hx1).mono ?_
  rintro e w2 ⟨rfl, hb2⟩
  have hx2 := chain hx1 hb2
  clear hb2
  cases b2
  · obtain ⟨rfl, rfl⟩ := BAD.out (by simp)
    have fin := bad_out 5 hx2
    clear BAD
    go_wp2
    go_ret2
    exact fin
  have C : Hid (∀ w', Below w.heap.size w w' → Calls Tryz.prog 44 #[.slice ba bn bc, .slice a n cap] w' (ShpOut w' D k0)) := CL.out (by simp) (by simp)
  clear BAD CL
  go_wp2_with fail
  refine (C.out _ hx2).mono ?_
  rintro e w4 ⟨g, m, c, hm, rfl, hmc, ho, hb4⟩
  have fin : Hid (ShpOut w D k0 (.returned (.tuple #[.slice (some ⟨g, 0, none⟩) m c, .int .i64 k0])) w4) := ⟨g, m, c, hm, rfl, hmc, own_lowS ho hx2.size, chain hx2 hb4⟩
  clear hm hmc ho hb4
  go_wp2
  go_ret2
  exact fin.out
end Go.Proofs.YtjiaciikbnpicaaGreatDoor
