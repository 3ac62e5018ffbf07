/-
  A part of the proof: ShpI3.
-/
import Derived.Test.YtjjkdbmjloolaaaGreatDoorPart1
import Derived.Test.YtjjkdbmjloolaaaGreatDoorPart32
import Derived.Test.YtjjkdbmjloolaaaGreatDoorPart33
import Derived.Deep.RegionHeld3

namespace Go.Proofs.YtjjkdbmjloolaaaGreatDoor
open Go.ChangeShapes Go.WideShapes Go.ChangeAt Go.RowKit
attribute [local go_sem ↓] Go.wp_at_zero Go.wp_at_succ
attribute [local simp] World.cell?_alloc_past World.cell?_alloc_at World.frozen?_alloc_at cell_far cell_off cell_here World.frozen?_alloc_past
theorem names_has {C : List ByteArray} {S : List TI} (h : sumB S = true) : (namesR S).all (inB C) = hasC C S := by
  have e : namesR S = namesN S := by unfold namesR; rw [if_pos h]
  rw [e, Bool.eq_iff_iff, List.all_eq_true]
  unfold hasC
  rw [List.all_eq_true]
  constructor
  · intro hx x hm
    by_cases h2 : x.1 = 2
    · have := inB_iff.1 (hx x.2.2 ((mem_namesN S _).2 ⟨x, hm, h2, rfl⟩))
      simp [h2, this]
    · simp [h2]
  · intro hx y hy
    obtain ⟨x, hm, h2, rfl⟩ := (mem_namesN S _).1 hy
    have := hx x hm
    simp [h2] at this
    exact inB_iff.2 this
theorem manyC_le {l : List ByteArray} (h : l.length ≤ 6) : manyC l = (l, 0) := by unfold manyC; rw [if_pos h]
theorem cols_six {C : List ByteArray} (h : namesB C 1 6 = true) : C.length ≤ 6 ∧ 1 ≤ C.length := by
  have := (namesB_iff.1 h).2.2
  omega
theorem names_nil (K : List ByteArray) : (namesR []).all (inB K) = true := by
  have : namesR [] = [] := by
    unfold namesR
    split
    · rfl
    · rfl
  rw [this]; rfl
theorem errV_inv1 {A : Sen} {v : Value} (h : ErrV A 1 v) : ∃ nm, v = .iface 159 (.agg #[.string nm, .iface 292 (.pointer (some A.e1))]) := by
  rcases h with ⟨h, _⟩ | ⟨_, h⟩ | ⟨h, _⟩ | ⟨h, _⟩ | ⟨h, _⟩ | ⟨h, _⟩
  all_goals first | exact h | exact absurd h (by decide)
theorem one_strsAt (w : World) (x : ByteArray) : StrsAt (w.alloc (.cells #[.string x] 9)) (some ⟨w.heap.size, 0, none⟩) [x] := by
  intro j hj
  have : j = 0 := by simpa using hj
  subst this
  exact ⟨w.heap.size, 0, rfl, by simp, by simp⟩
theorem strs_none (w : World) : StrsAt w none [] := fun j hj => absurd hj (by simp)
theorem itm_none (w : World) : ItmAt w none [] := fun j hj => absurd hj (by simp)
set_option maxRecDepth 100000 in
set_option maxHeartbeats 8000000 in
theorem grouped_impl (n : Nat) (a : Option Addr) (cap : Nat) (C : List ByteArray) (hn : C.length = n) (m : Nat) (a2 : Option Addr) (cap2 : Nat) (N : List ByteArray) (hm2 : N.length = m) (w : World) (hrow : StrsAt w a C) (hrow2 : StrsAt w a2 N) (hnb : a2 = none → cap2 = 0) (hm : n ≤ maxLen) (hmm : m ≤ 1000) (A : Sen) (hS : SenAt w A) (D : List ByteArray) (k0 : Int)
    (hD : (if N.all (inB C) = true then (if inB N countT = true then ([], 2) else manyC (N ++ [countT])) else ([], 3)) = (D, k0)) :
    Calls Tryz.prog 84 #[.slice a n cap, .slice a2 m cap2] w (ColOut w A D k0) := by
  have HR := hid hrow
  have HR2 := hid hrow2
  have HS := hid hS
  have HN := hid hn
  have HN2 := hid hm2
  have HNB := hid hnb
  have HM := hid hm
  obtain ⟨r, hr⟩ : ∃ r, N.all (inB C) = r := ⟨_, rfl⟩
  have HRR := hid hr
  have HD : Hid ((if r = true then (if inB N countT = true then (([] : List ByteArray), (2 : Int)) else manyC (N ++ [countT])) else ([], 3)) = (D, k0)) := by
    have := hD
    rw [hr] at this
    exact this
  clear hrow hrow2 hS hn hm2 hnb hm hr hD
  go_enter Tryz.func84, Tryz.ntmps84
  go_wp2_with fail
  refine (all_there_impl n a cap C HN.out m a2 cap2 N HN2.out w HR.out HR2.out HM.out (by unfold maxLen; omega) A HS.out r HRR.out).mono ?_
  rintro e w1 ⟨v, rfl, hv, hb1⟩
  cases r
  · have hd := HD.out
    rw [if_neg (by decide)] at hd
    obtain rfl : 3 = k0 := congrArg Prod.snd hd
    obtain ⟨nm, rfl⟩ := errV_inv3 hv
    clear hv hd
    go_wp2
    refine bodyPost_ret (v := .tuple #[.slice none 0 0, .iface 159 (.agg #[.string nm, .iface 292 (.pointer (some A.e3))])]) (by simp [results, Tryz.results84, go_sem]) rfl ?_
    exact ⟨_, _, _, _, rfl, errV_3 _, fun h => absurd h (by decide), hb1⟩
  · have hd := HD.out
    rw [if_pos rfl] at hd
    have HW : Hid (widR N [countT] [] [] = (D, k0)) := by
      have : widR N [countT] [] [] = (D, k0) := by
        unfold widR
        rw [names_nil, if_pos rfl, List.any_cons, List.any_nil, Bool.or_false]
        exact hd
      exact this
    obtain rfl := errV_inv0 hv
    clear hv hd
    have hA : Below w1.heap.size w1 (w1.alloc (.cells #[.string countT] 9)) := (Below.refl _ _).alloc (Nat.le_refl _) _
    have hx := chain hb1 hA
    go_wp2_with fail
    refine (widened_impl m a2 cap2 N HN2.out 1 (some ⟨w1.heap.size, 0, none⟩) 1 [countT] rfl none 0 0 [] rfl 0 none 0 [] rfl (w1.alloc (.cells #[.string countT] 9)) (HR2.out.below hx) (one_strsAt w1 countT) (itm_none _) (strs_none _) (fun x hx => absurd hx (by simp)) HNB.out (fun h => by cases h) (by omega) (by omega) (by unfold maxLen; omega) (by unfold maxLen; omega) (by have := namesR_len []; unfold maxLen; omega) A (HS.out.below hx) D k0 HW.out).mono ?_
    rintro e w2 ⟨a', n', c', v', rfl, hv, hk, hb2⟩
    have HK := hid hk
    have HV := hid hv
    have hb3 := chain hx hb2
    clear hk hv hA hx hb1 hb2
    go_wp2
    refine bodyPost_ret (v := .tuple #[.slice a' n' c', v']) (by simp [results, Tryz.results84, go_sem]) rfl ?_
    exact ⟨_, _, _, _, rfl, HV.out, HK.out, hb3⟩
set_option maxRecDepth 100000 in
set_option maxHeartbeats 8000000 in
theorem beside_impl (ba : Option Addr) (bn bc : Nat) (T : List TB) (hbn : T.length = bn) (hbM : bn ≤ 1048576) (hsmT : ∀ t, t ∈ T → Small t) (ca : Option Addr) (cn cc : Nat) (C : List ByteArray) (hcn : C.length = cn) (kd : Int) (nm : ByteArray) (na : Option Addr) (nn nc : Nat) (sa : Option Addr) (sn sc : Nat) (S : List TI) (hsn : S.length = sn) (dn : Bool) (ct sk : Int) (w : World) (hT : TabsAt w ba T) (hC : StrsAt w ca C) (hnil : ca = none → cc = 0) (hI : ItmAt w sa S) (hfit : FitI S) (hsm : sn ≤ maxLen) (hnm : nm.size ≤ maxLen) (hc1 : 1 ≤ cn) (hc6 : cn ≤ 6) (hb : baseB T = true) (A : Sen) (hS : SenAt w A) (D : List ByteArray) (k0 : Int)
    (hD : (if inB (namesT T) nm = true then widR C (colsOf T nm) S (C ++ colsOf T nm) else ([], 1)) = (D, k0)) :
    Calls Tryz.prog 83 #[.slice ba bn bc, .slice ca cn cc, .agg #[.int .i64 kd, .string nm, .slice na nn nc, .slice sa sn sc, .bool dn, .int .i64 ct, .int .i64 sk]] w (ColOut w A D k0) := by
  have hA : Below w.heap.size w (w.alloc (.cells #[.int .i64 kd, .string nm, .slice na nn nc, .slice sa sn sc, .bool dn, .int .i64 ct, .int .i64 sk] 55)) := (Below.refl _ _).alloc (Nat.le_refl _) _
  obtain ⟨E, hE⟩ : ∃ E, colsOf T nm = E := ⟨_, rfl⟩
  obtain ⟨k1, hk1⟩ : ∃ k1 : Int, (if inB (namesT T) nm = true then (0 : Int) else 1) = k1 := ⟨_, rfl⟩
  have HT : Hid (Calls Tryz.prog 108 #[.slice ba bn bc, .string nm] (w.alloc (.cells #[.int .i64 kd, .string nm, .slice na nn nc, .slice sa sn sc, .bool dn, .int .i64 ct, .int .i64 sk] 55)) (ColOut (w.alloc (.cells #[.int .i64 kd, .string nm, .slice na nn nc, .slice sa sn sc, .bool dn, .int .i64 ct, .int .i64 sk] 55)) A E k1)) := tablecols_impl ba bc T bn hbn _ (hT.below hA) hbM hsmT nm hnm A (hS.below hA) E hE k1 hk1
  have HC := hid hC
  have HI := hid hI
  have HF := hid hfit
  have HS := hid hS
  have HN := hid hcn
  have HSN := hid hsn
  have HNA := hid hnil
  have HSM := hid hsm
  have HE6 : Hid (k1 = 0 → widR C E S (C ++ E) = (D, k0)) := by
    have : k1 = 0 → widR C E S (C ++ E) = (D, k0) := fun h0 => by
      have h2 := hD
      rw [hE] at h2
      by_cases hi : inB (namesT T) nm = true
      · rw [if_pos hi] at h2; exact h2
      · rw [if_neg hi] at hk1
        rw [← hk1] at h0
        exact absurd h0 (by decide)
    exact this
  have HE1 : Hid ((k1 = 1 ∧ k0 = 1) ∨ k1 = 0) := by
    have : (k1 = 1 ∧ k0 = 1) ∨ k1 = 0 := by
      by_cases hi : inB (namesT T) nm = true
      · rw [if_pos hi] at hk1; exact .inr hk1.symm
      · rw [if_neg hi] at hk1
        have h2 := hD
        rw [if_neg hi] at h2
        exact .inl ⟨hk1.symm, (congrArg Prod.snd h2).symm⟩
    exact this
  have HEL : Hid (E.length ≤ 6) := by
    have : E.length ≤ 6 := by
      rw [← hE]
      unfold colsOf
      cases hf : findT T nm with
      | none => simp
      | some t =>
        have := (namesB_iff.1 (table_names (base_table hb (findT_some hf).1))).2.2.2
        show t.2.1.length ≤ 6
        omega
    exact this
  clear hC hI hfit hS hcn hsn hnil hsm hT hE hk1 hD hsmT
  go_enter Tryz.func83, Tryz.ntmps83
  go_wp2_with fail
  refine HT.out.mono ?_
  rintro e w1 ⟨a1, n1, c1, v1, rfl, hv, hk, hb1⟩
  have hx1 : Below w.heap.size w w1 := chain hA hb1
  obtain ⟨p0, p1, p2, p3, p4, p5, p6, hlt1⟩ := box7 hb1
  clear HT p0 p1 p2 p4 p5 p6 hA
  rcases HE1.out with ⟨e1, e2⟩ | e1
  · subst e1 e2
    obtain ⟨nm', rfl⟩ := errV_inv1 hv
    clear hv hk
    go_wp2
    refine bodyPost_ret (v := .tuple #[.slice none 0 0, .iface 159 (.agg #[.string nm', .iface 292 (.pointer (some A.e1))])]) (by simp [results, Tryz.results83, go_sem]) rfl ?_
    exact ⟨_, _, _, _, rfl, errV_1 _, fun h => absurd h (by decide), hx1⟩
  · subst e1
    obtain rfl := errV_inv0 hv
    obtain ⟨hE1, hE2, hE3, hE4⟩ := hk rfl
    have K1 := hid hE1
    have K2 := hid hE2
    have K3 := hid hE3
    have KW := HE6.out rfl
    clear hv hk hE1 hE2 hE3 hE4 HE6 HE1
    have HW := hid KW
    clear KW
    have hEE : Hid (n1 ≤ 6) := by
      have : n1 ≤ 6 := by rw [← K1.out]; exact HEL.out
      exact this
    have hxA : Below w.heap.size w (w1.alloc (.cells #[.slice ca cn cc, .slice a1 n1 c1] 22)).drew := chain hx1 (((Below.refl _ _).alloc (Nat.le_refl _) _).drew)
    have hx2 : Below w1.heap.size w1 (w1.alloc (.cells #[.slice ca cn cc, .slice a1 n1 c1] 22)).drew := ((Below.refl _ _).alloc (Nat.le_refl _) _).drew
    have CC : Hid (Calls Tryz.prog 107 #[.slice (some ⟨w1.heap.size, 0, none⟩) 2 2] (w1.alloc (.cells #[.slice ca cn cc, .slice a1 n1 c1] 22)).drew fun e w' => ∃ g k, e = .returned (.slice (some ⟨g, 0, none⟩) (cn + n1) k) ∧ cn + n1 ≤ k ∧ w'.ownsRow (w1.alloc (.cells #[.slice ca cn cc, .slice a1 n1 c1] 22)).drew.heap.size 9 1 (.slice (some ⟨g, 0, none⟩) (cn + n1) k) (cn + n1) (strV (C ++ E)) ∧ Below (w1.alloc (.cells #[.slice ca cn cc, .slice a1 n1 c1] 22)).drew.heap.size (w1.alloc (.cells #[.slice ca cn cc, .slice a1 n1 c1] 22)).drew w') :=
      (concat_impl w1.heap.size 2 ca cn cc C a1 n1 c1 E HN.out K1.out (w1.alloc (.cells #[.slice ca cn cc, .slice a1 n1 c1] 22)).drew (by simp) (by simp) (by simp) (HC.out.below hxA) (K2.out.below hx2) HNA.out K3.out (by omega) (by have := hEE.out; omega))
    clear hb1
    go_wp2_with fail
    go_region_held3 (fun w' => w'.cell? ⟨w.heap.size, 3, none⟩ = some (.slice sa sn sc))
      (((try dsimp only); (repeat' apply And.intro) <;> first | (go_keep; done) | (simp (disch := first | omega | (simp <;> omega) | fail) [*]; done) | fail))
      (first
        | (go_at_call 107
           refine CC.out.mono ?_
           rintro e w2 ⟨g, c, rfl, hc, hown, hb2⟩
           obtain ⟨hc2, hf2⟩ := bcell hb2
           have hz2 := hb2.size
           simp at hz2
           have y2 : w.heap.size < w2.heap.size := by omega)
        | (go_at_call 82
           refine (widened_impl cn ca cc C HN.out n1 a1 c1 E K1.out sa sn sc S HSN.out (cn + n1) (some ⟨g, 0, none⟩) c (C ++ E) (by rw [List.length_append, HN.out, K1.out]) w2 (HC.out.below (chain hxA hb2)) (K2.out.below (chain hx2 hb2)) (HI.out.below (chain hxA hb2)) (by
             have hl : (C ++ E).length = cn + n1 := by rw [List.length_append, HN.out, K1.out]
             rw [← hl] at hown
             exact own_strs hown) HF.out HNA.out K3.out (by omega) (by have := hEE.out; omega) (by unfold maxLen; have := hEE.out; omega) HSM.out (by have := namesR_len S; unfold maxLen; omega) A (HS.out.below (chain hxA hb2)) D k0 HW.out).mono ?_
           rintro e w3 ⟨a', n', c', v', rfl, hv', hk', hb3⟩
           have HK := hid hk'
           have HV := hid hv'
           clear hk' hv'
           obtain ⟨hc3, hf3⟩ := bcell hb3
           have hz3 := hb3.size))
    all_goals
      go_wp2
      refine bodyPost_ret (v := .tuple #[.slice a' n' c', v']) (by simp [results, Tryz.results83, go_sem]) rfl ?_
      exact ⟨_, _, _, _, rfl, HV.out, HK.out, chain (chain hxA hb2) hb3⟩
set_option maxRecDepth 100000 in
set_option maxHeartbeats 8000000 in
theorem stepped_9 (ba : Option Addr) (bn bc : Nat) (T : List TB) (hbn : T.length = bn) (hbM : bn ≤ 1048576) (hsmT : ∀ t, t ∈ T → Small t) (ca : Option Addr) (cn cc : Nat) (C : List ByteArray) (hcn : C.length = cn) (nm : ByteArray) (na : Option Addr) (nn nc : Nat) (N : List ByteArray) (hnn : N.length = nn) (sa : Option Addr) (sn sc : Nat) (S : List TI) (hsn : S.length = sn) (dn : Bool) (ct sk : Int) (w : World) (hT : TabsAt w ba T) (hC : StrsAt w ca C) (hnil : ca = none → cc = 0) (hcc : cn ≤ cc) (hV : SivAt w na nc sa ⟨9, nm, N, S, dn, ct, sk⟩) (hfit : FitI S) (hb : baseB T = true) (hc : namesB C 1 6 = true) (hok : sieveB ⟨9, nm, N, S, dn, ct, sk⟩ = true) (A : Sen) (hS : SenAt w A) (D : List ByteArray) (k0 : Int) (hD : stepC T C ⟨9, nm, N, S, dn, ct, sk⟩ = (D, k0)) :
    Calls Tryz.prog 61 #[.slice ba bn bc, .slice ca cn cc, .agg #[.int .i64 9, .string nm, .slice na nn nc, .slice sa sn sc, .bool dn, .int .i64 ct, .int .i64 sk]] w (ColOut w A D k0) := by
  have hA : Below w.heap.size w (w.alloc (.cells #[.int .i64 9, .string nm, .slice na nn nc, .slice sa sn sc, .bool dn, .int .i64 ct, .int .i64 sk] 55)) := (Below.refl _ _).alloc (Nat.le_refl _) _
  have hc6 : cn ≤ 6 ∧ 1 ≤ cn := by rw [← hcn]; exact cols_six hc
  have hmC : manyC C = (C, 0) := manyC_le (by omega)
  have hMC : cn ≤ maxLen := by unfold maxLen; omega
  have hu := And.intro hbM (And.intro hcc (And.intro hb hok))
  clear hu
  rw [stepC_9, hmC] at hD
  injection hD with e1 e2
  subst e1 e2
  have HT := hid hT
  have HC := hid hC
  have HV := hid hV
  have HF := hid hfit
  have HS := hid hS
  have HN := hid hcn
  have HNN := hid hnn
  have HSN := hid hsn
  have HNA := hid hnil
  have HB := hid hbn
  have HSMT := hid hsmT
  have HMC := hid hMC
  have HBB := hid hb
  clear hT hC hV hfit hS hcn hnn hsn hnil hbn hsmT hb hc hok hmC hMC
  go_enter Tryz.func61, Tryz.ntmps61
  go_wp2
  refine bodyPost_ret (v := .tuple #[.slice ca cn cc, .nilIface]) (by simp [results, Tryz.results61, go_sem]) rfl ?_
  exact ⟨_, _, _, _, rfl, errV_0, fun _ => ⟨HN.out, HC.out.below hA, HNA.out, hcc⟩, hA⟩
set_option maxRecDepth 100000 in
set_option maxHeartbeats 8000000 in
theorem stepped_10 (ba : Option Addr) (bn bc : Nat) (T : List TB) (hbn : T.length = bn) (hbM : bn ≤ 1048576) (hsmT : ∀ t, t ∈ T → Small t) (ca : Option Addr) (cn cc : Nat) (C : List ByteArray) (hcn : C.length = cn) (nm : ByteArray) (na : Option Addr) (nn nc : Nat) (N : List ByteArray) (hnn : N.length = nn) (sa : Option Addr) (sn sc : Nat) (S : List TI) (hsn : S.length = sn) (dn : Bool) (ct sk : Int) (w : World) (hT : TabsAt w ba T) (hC : StrsAt w ca C) (hnil : ca = none → cc = 0) (hcc : cn ≤ cc) (hV : SivAt w na nc sa ⟨10, nm, N, S, dn, ct, sk⟩) (hfit : FitI S) (hb : baseB T = true) (hc : namesB C 1 6 = true) (hok : sieveB ⟨10, nm, N, S, dn, ct, sk⟩ = true) (A : Sen) (hS : SenAt w A) (D : List ByteArray) (k0 : Int) (hD : stepC T C ⟨10, nm, N, S, dn, ct, sk⟩ = (D, k0)) :
    Calls Tryz.prog 61 #[.slice ba bn bc, .slice ca cn cc, .agg #[.int .i64 10, .string nm, .slice na nn nc, .slice sa sn sc, .bool dn, .int .i64 ct, .int .i64 sk]] w (ColOut w A D k0) := by
  have hA : Below w.heap.size w (w.alloc (.cells #[.int .i64 10, .string nm, .slice na nn nc, .slice sa sn sc, .bool dn, .int .i64 ct, .int .i64 sk] 55)) := (Below.refl _ _).alloc (Nat.le_refl _) _
  have hc6 : cn ≤ 6 ∧ 1 ≤ cn := by rw [← hcn]; exact cols_six hc
  have hmC : manyC C = (C, 0) := manyC_le (by omega)
  have hMC : cn ≤ maxLen := by unfold maxLen; omega
  have hu := And.intro hbM (And.intro hcc (And.intro hb hok))
  clear hu
  rw [stepC_10, hmC] at hD
  injection hD with e1 e2
  subst e1 e2
  have HT := hid hT
  have HC := hid hC
  have HV := hid hV
  have HF := hid hfit
  have HS := hid hS
  have HN := hid hcn
  have HNN := hid hnn
  have HSN := hid hsn
  have HNA := hid hnil
  have HB := hid hbn
  have HSMT := hid hsmT
  have HMC := hid hMC
  have HBB := hid hb
  clear hT hC hV hfit hS hcn hnn hsn hnil hbn hsmT hb hc hok hmC hMC
  go_enter Tryz.func61, Tryz.ntmps61
  go_wp2
  refine bodyPost_ret (v := .tuple #[.slice ca cn cc, .nilIface]) (by simp [results, Tryz.results61, go_sem]) rfl ?_
  exact ⟨_, _, _, _, rfl, errV_0, fun _ => ⟨HN.out, HC.out.below hA, HNA.out, hcc⟩, hA⟩
set_option maxRecDepth 100000 in
set_option maxHeartbeats 8000000 in
theorem stepped_2 (ba : Option Addr) (bn bc : Nat) (T : List TB) (hbn : T.length = bn) (hbM : bn ≤ 1048576) (hsmT : ∀ t, t ∈ T → Small t) (ca : Option Addr) (cn cc : Nat) (C : List ByteArray) (hcn : C.length = cn) (nm : ByteArray) (na : Option Addr) (nn nc : Nat) (N : List ByteArray) (hnn : N.length = nn) (sa : Option Addr) (sn sc : Nat) (S : List TI) (hsn : S.length = sn) (dn : Bool) (ct sk : Int) (w : World) (hT : TabsAt w ba T) (hC : StrsAt w ca C) (hnil : ca = none → cc = 0) (hcc : cn ≤ cc) (hV : SivAt w na nc sa ⟨2, nm, N, S, dn, ct, sk⟩) (hfit : FitI S) (hb : baseB T = true) (hc : namesB C 1 6 = true) (hok : sieveB ⟨2, nm, N, S, dn, ct, sk⟩ = true) (A : Sen) (hS : SenAt w A) (D : List ByteArray) (k0 : Int) (hD : stepC T C ⟨2, nm, N, S, dn, ct, sk⟩ = (D, k0)) :
    Calls Tryz.prog 61 #[.slice ba bn bc, .slice ca cn cc, .agg #[.int .i64 2, .string nm, .slice na nn nc, .slice sa sn sc, .bool dn, .int .i64 ct, .int .i64 sk]] w (ColOut w A D k0) := by
  have hA : Below w.heap.size w (w.alloc (.cells #[.int .i64 2, .string nm, .slice na nn nc, .slice sa sn sc, .bool dn, .int .i64 ct, .int .i64 sk] 55)) := (Below.refl _ _).alloc (Nat.le_refl _) _
  have hc6 : cn ≤ 6 ∧ 1 ≤ cn := by rw [← hcn]; exact cols_six hc
  have hmC : manyC C = (C, 0) := manyC_le (by omega)
  have hMC : cn ≤ maxLen := by unfold maxLen; omega
  have hu := And.intro hbM (And.intro hcc (And.intro hb hok))
  clear hu
  have hsum : sumB S = true := by
    have h := hok
    simp [sieveB, bareB, nameS, sumS, listS] at h
    first | exact h.2 | exact h.2.2 | exact h.2.2.2 | exact h.2.2.2.2 | exact h.2.2.2.2.2
  obtain ⟨r, hr⟩ : ∃ r, (namesR S).all (inB C) = r := ⟨_, rfl⟩
  have HRR := hid hr
  rw [stepC_2, hmC, ← names_has hsum, hr] at hD
  have HD := hid hD
  clear hr hD hsum
  have HT := hid hT
  have HC := hid hC
  have HV := hid hV
  have HF := hid hfit
  have HS := hid hS
  have HN := hid hcn
  have HNN := hid hnn
  have HSN := hid hsn
  have HNA := hid hnil
  have HB := hid hbn
  have HSMT := hid hsmT
  have HMC := hid hMC
  have HBB := hid hb
  clear hT hC hV hfit hS hcn hnn hsn hnil hbn hsmT hb hc hok hmC hMC
  go_enter Tryz.func61, Tryz.ntmps61
  go_wp2_with fail
  refine (namesof_impl sa sc S sn HSN.out _ (HV.out.sum.below hA) HF.out (by rw [← HSN.out]; exact HV.out.lenI) (HS.out.below hA).pow (HS.out.below hA).err _ rfl).mono ?_
  rintro e w1 ⟨v, rfl, ⟨hown, hvn⟩, hb1⟩
  obtain ⟨g1, c1, rfl⟩ : ∃ g c, v = .slice (some ⟨g, 0, none⟩) (namesR S).length c := by
    rcases hown.2 with ⟨e', _⟩ | ⟨g, cap, cur, e', _⟩
    · exact absurd e' hvn
    · exact ⟨g, cap, e'⟩
  have HO1 : Hid (StrsAt w1 (some ⟨g1, 0, none⟩) (namesR S)) := own_strs hown
  have hb2 : Below w.heap.size w w1 := chain hA hb1
  clear hown hvn hb1
  go_wp2_with fail
  refine (all_there_impl cn ca cc C HN.out _ (some ⟨g1, 0, none⟩) c1 (namesR S) rfl w1 (HC.out.below hb2) HO1.out HMC.out (by have := namesR_len S; unfold maxLen; omega) A (HS.out.below hb2) r HRR.out).mono ?_
  rintro e w2 ⟨v, rfl, hv, hb3⟩
  have hb4 : Below w.heap.size w w2 := chain hb2 hb3
  cases r
  · have hd := HD.out
    rw [if_neg (by decide)] at hd
    obtain rfl : 3 = k0 := congrArg Prod.snd hd
    obtain ⟨nm', rfl⟩ := errV_inv3 hv
    clear hv hd
    go_wp2
    refine bodyPost_ret (v := .tuple #[.slice ca cn cc, .iface 159 (.agg #[.string nm', .iface 292 (.pointer (some A.e3))])]) (by simp [results, Tryz.results61, go_sem]) rfl ?_
    exact ⟨_, _, _, _, rfl, errV_3 _, fun h => absurd h (by decide), hb4⟩
  · have hd := HD.out
    rw [if_pos rfl] at hd
    injection hd with e1 e2
    subst e1 e2
    obtain rfl := errV_inv0 hv
    clear hv
    go_wp2
    refine bodyPost_ret (v := .tuple #[.slice ca cn cc, .nilIface]) (by simp [results, Tryz.results61, go_sem]) rfl ?_
    exact ⟨_, _, _, _, rfl, errV_0, fun _ => ⟨HN.out, HC.out.below hb4, HNA.out, hcc⟩, hb4⟩
set_option maxRecDepth 100000 in
set_option maxHeartbeats 8000000 in
theorem stepped_8 (ba : Option Addr) (bn bc : Nat) (T : List TB) (hbn : T.length = bn) (hbM : bn ≤ 1048576) (hsmT : ∀ t, t ∈ T → Small t) (ca : Option Addr) (cn cc : Nat) (C : List ByteArray) (hcn : C.length = cn) (nm : ByteArray) (na : Option Addr) (nn nc : Nat) (N : List ByteArray) (hnn : N.length = nn) (sa : Option Addr) (sn sc : Nat) (S : List TI) (hsn : S.length = sn) (dn : Bool) (ct sk : Int) (w : World) (hT : TabsAt w ba T) (hC : StrsAt w ca C) (hnil : ca = none → cc = 0) (hcc : cn ≤ cc) (hV : SivAt w na nc sa ⟨8, nm, N, S, dn, ct, sk⟩) (hfit : FitI S) (hb : baseB T = true) (hc : namesB C 1 6 = true) (hok : sieveB ⟨8, nm, N, S, dn, ct, sk⟩ = true) (A : Sen) (hS : SenAt w A) (D : List ByteArray) (k0 : Int) (hD : stepC T C ⟨8, nm, N, S, dn, ct, sk⟩ = (D, k0)) :
    Calls Tryz.prog 61 #[.slice ba bn bc, .slice ca cn cc, .agg #[.int .i64 8, .string nm, .slice na nn nc, .slice sa sn sc, .bool dn, .int .i64 ct, .int .i64 sk]] w (ColOut w A D k0) := by
  have hA : Below w.heap.size w (w.alloc (.cells #[.int .i64 8, .string nm, .slice na nn nc, .slice sa sn sc, .bool dn, .int .i64 ct, .int .i64 sk] 55)) := (Below.refl _ _).alloc (Nat.le_refl _) _
  have hc6 : cn ≤ 6 ∧ 1 ≤ cn := by rw [← hcn]; exact cols_six hc
  have hmC : manyC C = (C, 0) := manyC_le (by omega)
  have hMC : cn ≤ maxLen := by unfold maxLen; omega
  have hu := And.intro hbM (And.intro hcc (And.intro hb hok))
  clear hu
  obtain ⟨r, hr⟩ : ∃ r, inB C nm = r := ⟨_, rfl⟩
  have HRR := hid hr
  rw [stepC_8, hmC, hr] at hD
  have HD := hid hD
  clear hr hD
  have HT := hid hT
  have HC := hid hC
  have HV := hid hV
  have HF := hid hfit
  have HS := hid hS
  have HN := hid hcn
  have HNN := hid hnn
  have HSN := hid hsn
  have HNA := hid hnil
  have HB := hid hbn
  have HSMT := hid hsmT
  have HMC := hid hMC
  have HBB := hid hb
  clear hT hC hV hfit hS hcn hnn hsn hnil hbn hsmT hb hc hok hmC hMC
  go_enter Tryz.func61, Tryz.ntmps61
  go_wp2_with fail
  refine (looked_impl cn ca cc C HN.out nm _ (HC.out.below hA) HMC.out A (HS.out.below hA) r HRR.out).mono ?_
  rintro e w1 ⟨v, rfl, hv, hb1⟩
  have hb4 : Below w.heap.size w w1 := chain hA hb1
  cases r
  · have hd := HD.out
    rw [if_neg (by decide)] at hd
    obtain rfl : 3 = k0 := congrArg Prod.snd hd
    obtain ⟨nm', rfl⟩ := errV_inv3 hv
    clear hv hd
    go_wp2
    refine bodyPost_ret (v := .tuple #[.slice ca cn cc, .iface 159 (.agg #[.string nm', .iface 292 (.pointer (some A.e3))])]) (by simp [results, Tryz.results61, go_sem]) rfl ?_
    exact ⟨_, _, _, _, rfl, errV_3 _, fun h => absurd h (by decide), hb4⟩
  · have hd := HD.out
    rw [if_pos rfl] at hd
    injection hd with e1 e2
    subst e1 e2
    obtain rfl := errV_inv0 hv
    clear hv
    go_wp2
    refine bodyPost_ret (v := .tuple #[.slice ca cn cc, .nilIface]) (by simp [results, Tryz.results61, go_sem]) rfl ?_
    exact ⟨_, _, _, _, rfl, errV_0, fun _ => ⟨HN.out, HC.out.below hb4, HNA.out, hcc⟩, hb4⟩
set_option maxRecDepth 100000 in
set_option maxHeartbeats 8000000 in
theorem stepped_3n (ba : Option Addr) (bn bc : Nat) (T : List TB) (hbn : T.length = bn) (hbM : bn ≤ 1048576) (hsmT : ∀ t, t ∈ T → Small t) (ca : Option Addr) (cn cc : Nat) (C : List ByteArray) (hcn : C.length = cn) (nm : ByteArray) (na : Option Addr) (nn nc : Nat) (N : List ByteArray) (hnn : N.length = nn) (sa : Option Addr) (sn sc : Nat) (S : List TI) (hsn : S.length = sn) (dn : Bool) (ct sk : Int) (w : World) (hT : TabsAt w ba T) (hC : StrsAt w ca C) (hnil : ca = none → cc = 0) (hcc : cn ≤ cc) (hV : SivAt w na nc sa ⟨3, nm, N, S, dn, ct, sk⟩) (hfit : FitI S) (hb : baseB T = true) (hc : namesB C 1 6 = true) (hok : sieveB ⟨3, nm, N, S, dn, ct, sk⟩ = true) (A : Sen) (hS : SenAt w A) (D : List ByteArray) (k0 : Int) (hD : stepC T C ⟨3, nm, N, S, dn, ct, sk⟩ = (D, k0)) :
    Calls Tryz.prog 61 #[.slice ba bn bc, .slice ca cn cc, .agg #[.int .i64 3, .string nm, .slice na nn nc, .slice sa sn sc, .bool dn, .int .i64 ct, .int .i64 sk]] w (ColR NewS w A D k0) := by
  have hA : Below w.heap.size w (w.alloc (.cells #[.int .i64 3, .string nm, .slice na nn nc, .slice sa sn sc, .bool dn, .int .i64 ct, .int .i64 sk] 55)) := (Below.refl _ _).alloc (Nat.le_refl _) _
  have hc6 : cn ≤ 6 ∧ 1 ≤ cn := by rw [← hcn]; exact cols_six hc
  have hmC : manyC C = (C, 0) := manyC_le (by omega)
  have hMC : cn ≤ maxLen := by unfold maxLen; omega
  have hu := And.intro hbM (And.intro hcc (And.intro hb hok))
  clear hu
  have hsum : sumB S = true := by
    have h := hok
    simp [sieveB, bareB, nameS, sumS, listS] at h
    first | exact h.2 | exact h.2.2 | exact h.2.2.2 | exact h.2.2.2.2 | exact h.2.2.2.2.2
  have HW : Hid (widR C [nm] S C = (D, k0)) := by
    have : widR C [nm] S C = (D, k0) := by
      rw [stepC_3] at hD
      unfold widR
      rw [names_has hsum, List.any_cons, List.any_nil, Bool.or_false]
      exact hD
    exact this
  clear hD hsum
  have HT := hid hT
  have HC := hid hC
  have HV := hid hV
  have HF := hid hfit
  have HS := hid hS
  have HN := hid hcn
  have HNN := hid hnn
  have HSN := hid hsn
  have HNA := hid hnil
  have HB := hid hbn
  have HSMT := hid hsmT
  have HMC := hid hMC
  have HBB := hid hb
  clear hT hC hV hfit hS hcn hnn hsn hnil hbn hsmT hb hc hok hmC hMC
  go_enter Tryz.func61, Tryz.ntmps61
  have hA2 : Below (w.alloc (.cells #[.int .i64 3, .string nm, .slice na nn nc, .slice sa sn sc, .bool dn, .int .i64 ct, .int .i64 sk] 55)).heap.size (w.alloc (.cells #[.int .i64 3, .string nm, .slice na nn nc, .slice sa sn sc, .bool dn, .int .i64 ct, .int .i64 sk] 55)) ((w.alloc (.cells #[.int .i64 3, .string nm, .slice na nn nc, .slice sa sn sc, .bool dn, .int .i64 ct, .int .i64 sk] 55)).alloc (.cells #[.string nm] 9)) := (Below.refl _ _).alloc (Nat.le_refl _) _
  have hx := chain hA hA2
  have h1 := one_strsAt (w.alloc (.cells #[.int .i64 3, .string nm, .slice na nn nc, .slice sa sn sc, .bool dn, .int .i64 ct, .int .i64 sk] 55)) nm
  have H1 : Hid (StrsAt ((w.alloc (.cells #[.int .i64 3, .string nm, .slice na nn nc, .slice sa sn sc, .bool dn, .int .i64 ct, .int .i64 sk] 55)).alloc (.cells #[.string nm] 9)) (some ⟨w.heap.size + 1, 0, none⟩) [nm]) := by
    have : StrsAt ((w.alloc (.cells #[.int .i64 3, .string nm, .slice na nn nc, .slice sa sn sc, .bool dn, .int .i64 ct, .int .i64 sk] 55)).alloc (.cells #[.string nm] 9)) (some ⟨w.heap.size + 1, 0, none⟩) [nm] := by simpa using h1
    exact this
  clear h1
  go_wp2_with fail
  refine (widened_new cn ca cc C HN.out 1 (some ⟨w.heap.size + 1, 0, none⟩) 1 [nm] rfl sa sn sc S HSN.out cn ca cc C HN.out ((w.alloc (.cells #[.int .i64 3, .string nm, .slice na nn nc, .slice sa sn sc, .bool dn, .int .i64 ct, .int .i64 sk] 55)).alloc (.cells #[.string nm] 9)) (HC.out.below hx) H1.out (HV.out.sum.below hx) (HC.out.below hx) HF.out HNA.out (fun h => by cases h) (by omega) (by omega) HMC.out (by rw [← HSN.out]; exact HV.out.lenI) (by have := namesR_len S; unfold maxLen; omega) A (HS.out.below hx) D k0 HW.out).mono ?_
  rintro e w2 ⟨a', n', c', v', rfl, hv, hk, hb2⟩
  have HK := hid hk
  have HE := hid hv
  have hb3 := chain hx hb2
  clear hk hv
  go_wp2
  refine bodyPost_ret (v := .tuple #[.slice a' n' c', v']) (by simp [results, Tryz.results61, go_sem]) rfl ?_
  exact ⟨_, _, _, _, rfl, HE.out, HK.out, hb3⟩
theorem stepped_3 (ba : Option Addr) (bn bc : Nat) (T : List TB) (hbn : T.length = bn) (hbM : bn ≤ 1048576) (hsmT : ∀ t, t ∈ T → Small t) (ca : Option Addr) (cn cc : Nat) (C : List ByteArray) (hcn : C.length = cn) (nm : ByteArray) (na : Option Addr) (nn nc : Nat) (N : List ByteArray) (hnn : N.length = nn) (sa : Option Addr) (sn sc : Nat) (S : List TI) (hsn : S.length = sn) (dn : Bool) (ct sk : Int) (w : World) (hT : TabsAt w ba T) (hC : StrsAt w ca C) (hnil : ca = none → cc = 0) (hcc : cn ≤ cc) (hV : SivAt w na nc sa ⟨3, nm, N, S, dn, ct, sk⟩) (hfit : FitI S) (hb : baseB T = true) (hc : namesB C 1 6 = true) (hok : sieveB ⟨3, nm, N, S, dn, ct, sk⟩ = true) (A : Sen) (hS : SenAt w A) (D : List ByteArray) (k0 : Int) (hD : stepC T C ⟨3, nm, N, S, dn, ct, sk⟩ = (D, k0)) :
    Calls Tryz.prog 61 #[.slice ba bn bc, .slice ca cn cc, .agg #[.int .i64 3, .string nm, .slice na nn nc, .slice sa sn sc, .bool dn, .int .i64 ct, .int .i64 sk]] w (ColOut w A D k0) :=
  (stepped_3n ba bn bc T hbn hbM hsmT ca cn cc C hcn nm na nn nc N hnn sa sn sc S hsn dn ct sk w hT hC hnil hcc hV hfit hb hc hok A hS D k0 hD).mono (fun _ _ h => h.out)
set_option maxRecDepth 100000 in
set_option maxHeartbeats 8000000 in
theorem stepped_7 (ba : Option Addr) (bn bc : Nat) (T : List TB) (hbn : T.length = bn) (hbM : bn ≤ 1048576) (hsmT : ∀ t, t ∈ T → Small t) (ca : Option Addr) (cn cc : Nat) (C : List ByteArray) (hcn : C.length = cn) (nm : ByteArray) (na : Option Addr) (nn nc : Nat) (N : List ByteArray) (hnn : N.length = nn) (sa : Option Addr) (sn sc : Nat) (S : List TI) (hsn : S.length = sn) (dn : Bool) (ct sk : Int) (w : World) (hT : TabsAt w ba T) (hC : StrsAt w ca C) (hnil : ca = none → cc = 0) (hcc : cn ≤ cc) (hV : SivAt w na nc sa ⟨7, nm, N, S, dn, ct, sk⟩) (hfit : FitI S) (hb : baseB T = true) (hc : namesB C 1 6 = true) (hok : sieveB ⟨7, nm, N, S, dn, ct, sk⟩ = true) (A : Sen) (hS : SenAt w A) (D : List ByteArray) (k0 : Int) (hD : stepC T C ⟨7, nm, N, S, dn, ct, sk⟩ = (D, k0)) :
    Calls Tryz.prog 61 #[.slice ba bn bc, .slice ca cn cc, .agg #[.int .i64 7, .string nm, .slice na nn nc, .slice sa sn sc, .bool dn, .int .i64 ct, .int .i64 sk]] w (ColOut w A D k0) := by
  have hA : Below w.heap.size w (w.alloc (.cells #[.int .i64 7, .string nm, .slice na nn nc, .slice sa sn sc, .bool dn, .int .i64 ct, .int .i64 sk] 55)) := (Below.refl _ _).alloc (Nat.le_refl _) _
  have hc6 : cn ≤ 6 ∧ 1 ≤ cn := by rw [← hcn]; exact cols_six hc
  have hmC : manyC C = (C, 0) := manyC_le (by omega)
  have hMC : cn ≤ maxLen := by unfold maxLen; omega
  have hu := And.intro hbM (And.intro hcc (And.intro hb hok))
  clear hu
  have hnn4 : nn ≤ 1000 := by
    have h := hok
    simp [sieveB, names10] at h
    have := (namesB_iff.1 h.2.2).2.2
    omega
  rw [stepC_7] at hD
  have HD := hid hD
  clear hD
  have HT := hid hT
  have HC := hid hC
  have HV := hid hV
  have HF := hid hfit
  have HS := hid hS
  have HN := hid hcn
  have HNN := hid hnn
  have HSN := hid hsn
  have HNA := hid hnil
  have HB := hid hbn
  have HSMT := hid hsmT
  have HMC := hid hMC
  have HBB := hid hb
  clear hT hC hV hfit hS hcn hnn hsn hnil hbn hsmT hb hc hok hmC hMC
  go_enter Tryz.func61, Tryz.ntmps61
  go_wp2_with fail
  refine (grouped_impl cn ca cc C HN.out nn na nc N HNN.out _ (HC.out.below hA) (HV.out.names.below hA) HV.out.nilN HMC.out hnn4 A (HS.out.below hA) D k0 HD.out).mono ?_
  rintro e w2 ⟨a', n', c', v', rfl, hv, hk, hb2⟩
  have HK := hid hk
  have HE := hid hv
  have hb3 := chain hA hb2
  clear hk hv
  go_wp2
  refine bodyPost_ret (v := .tuple #[.slice a' n' c', v']) (by simp [results, Tryz.results61, go_sem]) rfl ?_
  exact ⟨_, _, _, _, rfl, HE.out, HK.out, hb3⟩
set_option maxRecDepth 100000 in
set_option maxHeartbeats 8000000 in
theorem stepped_5 (ba : Option Addr) (bn bc : Nat) (T : List TB) (hbn : T.length = bn) (hbM : bn ≤ 1048576) (hsmT : ∀ t, t ∈ T → Small t) (ca : Option Addr) (cn cc : Nat) (C : List ByteArray) (hcn : C.length = cn) (nm : ByteArray) (na : Option Addr) (nn nc : Nat) (N : List ByteArray) (hnn : N.length = nn) (sa : Option Addr) (sn sc : Nat) (S : List TI) (hsn : S.length = sn) (dn : Bool) (ct sk : Int) (w : World) (hT : TabsAt w ba T) (hC : StrsAt w ca C) (hnil : ca = none → cc = 0) (hcc : cn ≤ cc) (hV : SivAt w na nc sa ⟨5, nm, N, S, dn, ct, sk⟩) (hfit : FitI S) (hb : baseB T = true) (hc : namesB C 1 6 = true) (hok : sieveB ⟨5, nm, N, S, dn, ct, sk⟩ = true) (A : Sen) (hS : SenAt w A) (D : List ByteArray) (k0 : Int) (hD : stepC T C ⟨5, nm, N, S, dn, ct, sk⟩ = (D, k0)) :
    Calls Tryz.prog 61 #[.slice ba bn bc, .slice ca cn cc, .agg #[.int .i64 5, .string nm, .slice na nn nc, .slice sa sn sc, .bool dn, .int .i64 ct, .int .i64 sk]] w (ColOut w A D k0) := by
  have hA : Below w.heap.size w (w.alloc (.cells #[.int .i64 5, .string nm, .slice na nn nc, .slice sa sn sc, .bool dn, .int .i64 ct, .int .i64 sk] 55)) := (Below.refl _ _).alloc (Nat.le_refl _) _
  have hc6 : cn ≤ 6 ∧ 1 ≤ cn := by rw [← hcn]; exact cols_six hc
  have hmC : manyC C = (C, 0) := manyC_le (by omega)
  have hMC : cn ≤ maxLen := by unfold maxLen; omega
  have hu := And.intro hbM (And.intro hcc (And.intro hb hok))
  clear hu
  have hsum : sumB S = true := by
    have h := hok
    simp [sieveB, bareB, nameS, sumS, listS] at h
    first | exact h.2 | exact h.2.2 | exact h.2.2.2 | exact h.2.2.2.2 | exact h.2.2.2.2.2
  have HD : Hid ((if inB (namesT T) nm = true then widR C (colsOf T nm) S (C ++ colsOf T nm) else ([], 1)) = (D, k0)) := by
    have : (if inB (namesT T) nm = true then widR C (colsOf T nm) S (C ++ colsOf T nm) else ([], 1)) = (D, k0) := by
      rw [stepC_join 5 (by decide)] at hD
      unfold widR
      rw [names_has hsum]
      by_cases hi : inB (namesT T) nm = true
      · rw [if_pos hi]
        rw [if_neg (by rw [hi]; decide)] at hD
        exact hD
      · rw [if_neg hi]
        rw [if_pos (by simpa using hi)] at hD
        exact hD
    exact this
  clear hD hsum
  have HT := hid hT
  have HC := hid hC
  have HV := hid hV
  have HF := hid hfit
  have HS := hid hS
  have HN := hid hcn
  have HNN := hid hnn
  have HSN := hid hsn
  have HNA := hid hnil
  have HB := hid hbn
  have HSMT := hid hsmT
  have HMC := hid hMC
  have HBB := hid hb
  clear hT hC hV hfit hS hcn hnn hsn hnil hbn hsmT hb hc hok hmC hMC
  go_enter Tryz.func61, Tryz.ntmps61
  go_wp2_with fail
  refine (beside_impl ba bn bc T HB.out hbM HSMT.out ca cn cc C HN.out 5 nm na nn nc sa sn sc S HSN.out dn ct sk _ (HT.out.below hA) (HC.out.below hA) HNA.out (HV.out.sum.below hA) HF.out (by rw [← HSN.out]; exact HV.out.lenI) HV.out.name (by omega) (by omega) HBB.out A (HS.out.below hA) D k0 HD.out).mono ?_
  rintro e w2 ⟨a', n', c', v', rfl, hv, hk, hb2⟩
  have HK := hid hk
  have HE := hid hv
  have hb3 := chain hA hb2
  clear hk hv
  go_wp2
  refine bodyPost_ret (v := .tuple #[.slice a' n' c', v']) (by simp [results, Tryz.results61, go_sem]) rfl ?_
  exact ⟨_, _, _, _, rfl, HE.out, HK.out, hb3⟩
set_option maxRecDepth 100000 in
set_option maxHeartbeats 8000000 in
theorem stepped_6 (ba : Option Addr) (bn bc : Nat) (T : List TB) (hbn : T.length = bn) (hbM : bn ≤ 1048576) (hsmT : ∀ t, t ∈ T → Small t) (ca : Option Addr) (cn cc : Nat) (C : List ByteArray) (hcn : C.length = cn) (nm : ByteArray) (na : Option Addr) (nn nc : Nat) (N : List ByteArray) (hnn : N.length = nn) (sa : Option Addr) (sn sc : Nat) (S : List TI) (hsn : S.length = sn) (dn : Bool) (ct sk : Int) (w : World) (hT : TabsAt w ba T) (hC : StrsAt w ca C) (hnil : ca = none → cc = 0) (hcc : cn ≤ cc) (hV : SivAt w na nc sa ⟨6, nm, N, S, dn, ct, sk⟩) (hfit : FitI S) (hb : baseB T = true) (hc : namesB C 1 6 = true) (hok : sieveB ⟨6, nm, N, S, dn, ct, sk⟩ = true) (A : Sen) (hS : SenAt w A) (D : List ByteArray) (k0 : Int) (hD : stepC T C ⟨6, nm, N, S, dn, ct, sk⟩ = (D, k0)) :
    Calls Tryz.prog 61 #[.slice ba bn bc, .slice ca cn cc, .agg #[.int .i64 6, .string nm, .slice na nn nc, .slice sa sn sc, .bool dn, .int .i64 ct, .int .i64 sk]] w (ColOut w A D k0) := by
  have hA : Below w.heap.size w (w.alloc (.cells #[.int .i64 6, .string nm, .slice na nn nc, .slice sa sn sc, .bool dn, .int .i64 ct, .int .i64 sk] 55)) := (Below.refl _ _).alloc (Nat.le_refl _) _
  have hc6 : cn ≤ 6 ∧ 1 ≤ cn := by rw [← hcn]; exact cols_six hc
  have hmC : manyC C = (C, 0) := manyC_le (by omega)
  have hMC : cn ≤ maxLen := by unfold maxLen; omega
  have hu := And.intro hbM (And.intro hcc (And.intro hb hok))
  clear hu
  have hsum : sumB S = true := by
    have h := hok
    simp [sieveB, bareB, nameS, sumS, listS] at h
    first | exact h.2 | exact h.2.2 | exact h.2.2.2 | exact h.2.2.2.2 | exact h.2.2.2.2.2
  have HD : Hid ((if inB (namesT T) nm = true then widR C (colsOf T nm) S (C ++ colsOf T nm) else ([], 1)) = (D, k0)) := by
    have : (if inB (namesT T) nm = true then widR C (colsOf T nm) S (C ++ colsOf T nm) else ([], 1)) = (D, k0) := by
      rw [stepC_join 6 (by decide)] at hD
      unfold widR
      rw [names_has hsum]
      by_cases hi : inB (namesT T) nm = true
      · rw [if_pos hi]
        rw [if_neg (by rw [hi]; decide)] at hD
        exact hD
      · rw [if_neg hi]
        rw [if_pos (by simpa using hi)] at hD
        exact hD
    exact this
  clear hD hsum
  have HT := hid hT
  have HC := hid hC
  have HV := hid hV
  have HF := hid hfit
  have HS := hid hS
  have HN := hid hcn
  have HNN := hid hnn
  have HSN := hid hsn
  have HNA := hid hnil
  have HB := hid hbn
  have HSMT := hid hsmT
  have HMC := hid hMC
  have HBB := hid hb
  clear hT hC hV hfit hS hcn hnn hsn hnil hbn hsmT hb hc hok hmC hMC
  go_enter Tryz.func61, Tryz.ntmps61
  go_wp2_with fail
  refine (beside_impl ba bn bc T HB.out hbM HSMT.out ca cn cc C HN.out 6 nm na nn nc sa sn sc S HSN.out dn ct sk _ (HT.out.below hA) (HC.out.below hA) HNA.out (HV.out.sum.below hA) HF.out (by rw [← HSN.out]; exact HV.out.lenI) HV.out.name (by omega) (by omega) HBB.out A (HS.out.below hA) D k0 HD.out).mono ?_
  rintro e w2 ⟨a', n', c', v', rfl, hv, hk, hb2⟩
  have HK := hid hk
  have HE := hid hv
  have hb3 := chain hA hb2
  clear hk hv
  go_wp2
  refine bodyPost_ret (v := .tuple #[.slice a' n' c', v']) (by simp [results, Tryz.results61, go_sem]) rfl ?_
  exact ⟨_, _, _, _, rfl, HE.out, HK.out, hb3⟩
set_option maxRecDepth 100000 in
set_option maxHeartbeats 8000000 in
theorem stepped_4n (ba : Option Addr) (bn bc : Nat) (T : List TB) (hbn : T.length = bn) (hbM : bn ≤ 1048576) (hsmT : ∀ t, t ∈ T → Small t) (ca : Option Addr) (cn cc : Nat) (C : List ByteArray) (hcn : C.length = cn) (nm : ByteArray) (na : Option Addr) (nn nc : Nat) (N : List ByteArray) (hnn : N.length = nn) (sa : Option Addr) (sn sc : Nat) (S : List TI) (hsn : S.length = sn) (dn : Bool) (ct sk : Int) (w : World) (hT : TabsAt w ba T) (hC : StrsAt w ca C) (hnil : ca = none → cc = 0) (hcc : cn ≤ cc) (hV : SivAt w na nc sa ⟨4, nm, N, S, dn, ct, sk⟩) (hfit : FitI S) (hb : baseB T = true) (hc : namesB C 1 6 = true) (hok : sieveB ⟨4, nm, N, S, dn, ct, sk⟩ = true) (A : Sen) (hS : SenAt w A) (D : List ByteArray) (k0 : Int) (hD : stepC T C ⟨4, nm, N, S, dn, ct, sk⟩ = (D, k0)) :
    Calls Tryz.prog 61 #[.slice ba bn bc, .slice ca cn cc, .agg #[.int .i64 4, .string nm, .slice na nn nc, .slice sa sn sc, .bool dn, .int .i64 ct, .int .i64 sk]] w (ColR (fun _ x => x = na) w A D k0) := by
  have hA : Below w.heap.size w (w.alloc (.cells #[.int .i64 4, .string nm, .slice na nn nc, .slice sa sn sc, .bool dn, .int .i64 ct, .int .i64 sk] 55)) := (Below.refl _ _).alloc (Nat.le_refl _) _
  have hc6 : cn ≤ 6 ∧ 1 ≤ cn := by rw [← hcn]; exact cols_six hc
  have hmC : manyC C = (C, 0) := manyC_le (by omega)
  have hMC : cn ≤ maxLen := by unfold maxLen; omega
  have hu := And.intro hbM (And.intro hcc (And.intro hb hok))
  clear hu
  have hn6 : nn ≤ 6 := by
    have h := hok
    simp [sieveB, names10] at h
    have := (namesB_iff.1 h.2.2).2.2
    omega
  have hmN : manyC N = (N, 0) := manyC_le (by omega)
  obtain ⟨r, hr⟩ : ∃ r, N.all (inB C) = r := ⟨_, rfl⟩
  have HRR := hid hr
  rw [stepC_4, hmN, hr] at hD
  have HD := hid hD
  clear hr hD hmN
  have HT := hid hT
  have HC := hid hC
  have HV := hid hV
  have HF := hid hfit
  have HS := hid hS
  have HN := hid hcn
  have HNN := hid hnn
  have HSN := hid hsn
  have HNA := hid hnil
  have HB := hid hbn
  have HSMT := hid hsmT
  have HMC := hid hMC
  have HBB := hid hb
  clear hT hC hV hfit hS hcn hnn hsn hnil hbn hsmT hb hc hok hmC hMC
  go_enter Tryz.func61, Tryz.ntmps61
  go_wp2_with fail
  go_region_held3 (fun w' => w'.cell? ⟨w.heap.size, 2, none⟩ = some (.slice na nn nc))
    (((try dsimp only); (repeat' apply And.intro) <;> first | (go_keep; done) | (simp (disch := first | omega | (simp <;> omega) | fail) [*]; done) | fail))
    ((go_at_call 80
      refine (all_there_impl cn ca cc C HN.out nn na nc N HNN.out _ (HC.out.below (chain hA (Below.refl _ _).drew)) (HV.out.names.below (chain hA (Below.refl _ _).drew)) HMC.out (by unfold maxLen; omega) A (HS.out.below (chain hA (Below.refl _ _).drew)) r HRR.out).mono ?_
      rintro e w1 ⟨v, rfl, hv, hb1⟩
      have hb4 : Below w.heap.size w w1 := chain hA (undrew hb1)
      obtain ⟨hc1, hf1⟩ := bcell hb1
      have hz1 := hb1.size
      simp at hz1))
  all_goals
    cases r
    · have hd := HD.out
      rw [if_neg (by decide)] at hd
      obtain rfl : 3 = k0 := congrArg Prod.snd hd
      obtain ⟨nm', rfl⟩ := errV_inv3 hv
      clear hv hd
      go_wp2
      refine bodyPost_ret (v := .tuple #[.slice na nn nc, .iface 159 (.agg #[.string nm', .iface 292 (.pointer (some A.e3))])]) (by simp [results, Tryz.results61, go_sem]) rfl ?_
      exact ⟨_, _, _, _, rfl, errV_3 _, fun h => absurd h (by decide), hb4⟩
    · have hd := HD.out
      rw [if_pos rfl] at hd
      injection hd with e1 e2
      subst e1 e2
      obtain rfl := errV_inv0 hv
      clear hv
      go_wp2
      refine bodyPost_ret (v := .tuple #[.slice na nn nc, .nilIface]) (by simp [results, Tryz.results61, go_sem]) rfl ?_
      exact ⟨_, _, _, _, rfl, errV_0, fun _ => ⟨HNN.out, HV.out.names.below hb4, HV.out.nilN, (by rw [← HNN.out]; exact HV.out.capN), rfl⟩, hb4⟩
theorem stepped_4 (ba : Option Addr) (bn bc : Nat) (T : List TB) (hbn : T.length = bn) (hbM : bn ≤ 1048576) (hsmT : ∀ t, t ∈ T → Small t) (ca : Option Addr) (cn cc : Nat) (C : List ByteArray) (hcn : C.length = cn) (nm : ByteArray) (na : Option Addr) (nn nc : Nat) (N : List ByteArray) (hnn : N.length = nn) (sa : Option Addr) (sn sc : Nat) (S : List TI) (hsn : S.length = sn) (dn : Bool) (ct sk : Int) (w : World) (hT : TabsAt w ba T) (hC : StrsAt w ca C) (hnil : ca = none → cc = 0) (hcc : cn ≤ cc) (hV : SivAt w na nc sa ⟨4, nm, N, S, dn, ct, sk⟩) (hfit : FitI S) (hb : baseB T = true) (hc : namesB C 1 6 = true) (hok : sieveB ⟨4, nm, N, S, dn, ct, sk⟩ = true) (A : Sen) (hS : SenAt w A) (D : List ByteArray) (k0 : Int) (hD : stepC T C ⟨4, nm, N, S, dn, ct, sk⟩ = (D, k0)) :
    Calls Tryz.prog 61 #[.slice ba bn bc, .slice ca cn cc, .agg #[.int .i64 4, .string nm, .slice na nn nc, .slice sa sn sc, .bool dn, .int .i64 ct, .int .i64 sk]] w (ColOut w A D k0) :=
  (stepped_4n ba bn bc T hbn hbM hsmT ca cn cc C hcn nm na nn nc N hnn sa sn sc S hsn dn ct sk w hT hC hnil hcc hV hfit hb hc hok A hS D k0 hD).mono (fun _ _ h => h.out)
end Go.Proofs.YtjjkdbmjloolaaaGreatDoor
