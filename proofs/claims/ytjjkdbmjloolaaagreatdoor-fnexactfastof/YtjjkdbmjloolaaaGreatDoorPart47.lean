/-
  A part of the proof: FastOfWalk.
-/
import Derived.Test.YtjjkdbmjloolaaaGreatDoorPart1
import Derived.Test.YtjjkdbmjloolaaaGreatDoorPart42
import Derived.Test.YtjjkdbmjloolaaaGreatDoorPart46
import Derived.Test.YtjjkdbmjloolaaaGreatDoorPart3

namespace Go.Proofs.YtjjkdbmjloolaaaGreatDoor
open Go.ChangeShapes Go.WideShapes Go.ChangeAt Go.RowKit
attribute [local simp] World.cell?_alloc_past World.cell?_alloc_at World.frozen?_alloc_at cell_far cell_off cell_here World.frozen?_alloc_past
theorem fastR_size (C : List ByteArray) (L : List SV) : (opsR (fastR C L)).length ≤ 38 ∧ (outsR (fastR C L)).length ≤ 6 := by
 rw [fastP_eq]
 split
 · rename_i h
  rw [Bool.and_eq_true, decide_eq_true_eq] at h
  cases hq : runP (startM C) L with
  | none => exact ⟨by show (0 : Nat) ≤ 38; omega, by show (0 : Nat) ≤ 6; omega⟩
  | some q =>
   obtain ⟨k1, k2, k3⟩ := runP_good h.1 L.length q (Nat.le_refl _) (by rw [List.take_length]; exact hq)
   have k4 := k1.tr
   have k5 := k1.len
   have k6 := (names_fits k3).2
   exact ⟨by show q.ops.length ≤ 38; omega, by show q.outs.length ≤ 6; omega⟩
 · exact ⟨by show (0 : Nat) ≤ 38; omega, by show (0 : Nat) ≤ 6; omega⟩
theorem szstrF (n : Nat) (a : Option Addr) (cap : Nat) (l : List ByteArray) (hn : l.length = n) (left : Int) (w : World) (hrow : StrsAt w a l) (hfit : FitS l) (hm : n ≤ maxLen) (h0 : 0 ≤ left) (h1 : left ≤ 1048576) :
  Calls Tryz.prog 4 #[.slice a n cap, .int .i64 left] w fun e w' => e = .returned (.int .i64 (leftOfS l left)) ∧ Below w.heap.size w w' := by
 subst hn; exact szstr_laws a cap l left w hrow hfit hm h0 h1
theorem eqstrF (n : Nat) (a b : Option Addr) (ca cb : Nat) (l : List ByteArray) (hn : l.length = n) (w : World) (ha : StrsAt w a l) (hb : StrsAt w b l) (hm : n ≤ maxLen) :
  Calls Tryz.prog 11 #[.slice a n ca, .slice b n cb] w fun e w' => e = .returned (.bool true) ∧ Below w.heap.size w w' := by
 subst hn; exact eqstr_laws a b ca cb l w ha hb hm
namespace exFastOf
set_option maxRecDepth 100000 in
set_option maxHeartbeats 8000000 in
theorem walk (c : Option Addr) (cc : Nat) (C : List ByteArray) (cn : Nat) (hcn : C.length = cn) (a : Option Addr) (cap : Nat) (L : List SV) (n : Nat) (hn : L.length = n) (w : World) (hC : StrsAt w c C) (hcF : FitS C) (hcM : cn ≤ maxLen) (hl : SivsAt w a L) (hnM : n ≤ maxLen) (A : Sen) (hS : SenAt w A) :
  Calls Tryz.prog 3 #[.slice c cn cc, .slice a n cap] w fun e w' => e = .returned (.bool true) ∧ Below w.heap.size w w' := by
 have HC := hid hC
 have HL := hid hl
 have HCN := hid hcn
 have HN := hid hn
 have HS := hid hS
 have HCF := hid hcF
 obtain ⟨x, hx1⟩ : ∃ x, leftOfS C 1048576 = x := ⟨_, rfl⟩
 have SZ := hid (p := ∀ w', Below w.heap.size w w' → Calls Tryz.prog 4 #[.slice c cn cc, .int .i64 1048576] w' fun e w'' => e = .returned (.int .i64 x) ∧ Below w'.heap.size w' w'') (fun w' hw => by
  rw [← hx1]
  exact szstrF cn c cc C HCN.out 1048576 w' (HC.out.below hw) HCF.out hcM (by omega) (by omega))
 clear hC hl hcn hn hS hcF
 by_cases hx0 : x < 0
 · clear hx1
  go_enter Tryz.func3, Tryz.ntmps3
  go_wp2_with fail
  refine (SZ.out _ (Below.refl _ _)).mono ?_
  rintro e w1 ⟨rfl, hb1⟩
  go_wp2
  go_ret
  exact ⟨rfl, hb1⟩
 have hx0' : 0 ≤ x := by omega
 have hcl : cn ≤ 1048576 ∧ x ≤ 1048576 := by
  have h := hx1
  unfold leftOfS at h
  rw [HCN.out] at h
  split at h <;> omega
 have hcl1 := hcl.1
 have hxm := hcl.2
 obtain ⟨y, hy1⟩ : ∃ y, leftVS L x = y := ⟨_, rfl⟩
 have HY1 := hid hy1
 by_cases hy0 : y < 0
 · clear hx1 hy1 hcl
  go_enter Tryz.func3, Tryz.ntmps3
  go_wp2_with fail
  refine (SZ.out _ (Below.refl _ _)).mono ?_
  rintro e w1 ⟨rfl, hb1⟩
  go_wp2_with fail
  refine (szsivs_laws a cap L n HN.out x _ (HL.out.below hb1) hnM hx0' hxm).mono ?_
  rw [HY1.out]
  rintro e w2 ⟨rfl, hb2⟩
  go_wp2
  go_ret
  exact ⟨rfl, chain hb1 hb2⟩
 have hy0' : 0 ≤ y := by omega
 have hqV := leftVS_fits (T := L) (x := x) hxm (by rw [hy1]; exact hy0')
 have hnn : n ≤ 1048576 := by rw [← HN.out]; exact hqV.1
 have hofV := offV_leftVS (T := L) (x := x) hxm (by rw [hy1]; exact hy0')
 have HMI := hid (p := ∀ s ∈ L, MildV s) (fun s hs => by
  obtain ⟨i, hi, rfl⟩ := List.getElem_of_mem hs
  exact hqV.2 i hi)
 have U := hid (p := ∀ w', Below w.heap.size w w' → Calls Tryz.prog 7 #[.slice c cn cc] w' fun e w'' => ∃ g, e = .returned (.slice (some ⟨g, 0, none⟩) cn cn) ∧ Own w'' w'.heap.size g cn cn C ∧ g < w''.heap.size ∧ Below w'.heap.size w' w'') (fun w' hw => by
  have hCN := HCN.out
  subst hCN
  refine (tostr_laws c cc C w' (HC.out.below hw) hcl1).mono ?_
  rintro e w'' ⟨rfl, ho, hb⟩
  exact ⟨_, rfl, ⟨rfl, ho⟩, (ho.lt _ rfl).2, hb⟩)
 have Y := hid (p := ∀ w', Below w.heap.size w w' → Calls Tryz.prog 8 #[.slice a n cap] w' fun e w'' => ∃ g Q, e = .returned (.slice (some ⟨g, 0, none⟩) n n) ∧ OutVs w'' w'.heap.size (some ⟨g, 0, none⟩) L Q ∧ Below w'.heap.size w' w'') (fun w' hw => tosivs_out a cap L n HN.out w' (HL.out.below hw) hnn hqV.2)
 obtain ⟨R, hR⟩ : ∃ R, fastR C L = R := ⟨_, rfl⟩
 obtain ⟨O, hO⟩ : ∃ O, opsR R = O := ⟨_, rfl⟩
 obtain ⟨V, hV⟩ : ∃ V, outsR R = V := ⟨_, rfl⟩
 obtain ⟨nO, hnO⟩ : ∃ k, O.length = k := ⟨_, rfl⟩
 obtain ⟨nU, hnU⟩ : ∃ k, V.length = k := ⟨_, rfl⟩
 obtain ⟨tf, htf⟩ : ∃ t, R.isSome = t := ⟨_, rfl⟩
 have hsz := fastR_size C L
 rw [hR, hO, hV, hnO, hnU] at hsz
 have SP := hid (p := ∀ w' g g2, Below w.heap.size w w' → StrsAt w' (some ⟨g, 0, none⟩) C → SivsAt w' (some ⟨g2, 0, none⟩) L → Calls Tryz.prog 6 #[.slice (some ⟨g, 0, none⟩) cn cn, .slice (some ⟨g2, 0, none⟩) n n] w' fun e w'' => ∃ oa oc ua uc, e = .returned (.tuple #[.agg #[.slice oa nO oc, .slice ua nU uc], .bool tf]) ∧ FoAt w'' oa O ∧ FuAt w'' ua V ∧ Below w'.heap.size w' w'') (fun w' g g2 hw h1 h2 => by
  refine (fastof_spec _ cn cn C HCN.out _ n n L HN.out w' h1 (fun e => by cases e) HCF.out hcl1 (Nat.le_refl _) h2 hnM).mono ?_
  rintro e w'' ⟨oa, on, oc, ua, un, uc, h3, h4, h5, h6, h7, h8⟩
  rw [hR] at h3 h4 h5 h6 h7
  rw [hO, hnO] at h4
  rw [hV, hnU] at h5
  rw [hO] at h6
  rw [hV] at h7
  rw [htf] at h3
  subst h4 h5
  exact ⟨oa, oc, ua, uc, h3, h6, h7, h8⟩)
 have PI := hid (p := ∀ w' g g2, Below w.heap.size w w' → StrsAt w' (some ⟨g, 0, none⟩) C → SivsAt w' (some ⟨g2, 0, none⟩) L → Calls Tryz.prog 9 #[.slice (some ⟨g, 0, none⟩) cn cn, .slice (some ⟨g2, 0, none⟩) n n] w' fun e w'' => ∃ oa oc ua uc, e = .returned (.tuple #[.agg #[.slice oa nO oc, .slice ua nU uc], .bool tf]) ∧ OutF w'' w'.heap.size oa nO oc ua nU uc O V ∧ Below w'.heap.size w' w'') (fun w' g g2 hw h1 h2 => by
  refine (fastof_impl _ cn cn C HCN.out _ n n L HN.out w' h1 (fun e => by cases e) HCF.out hcl1 (Nat.le_refl _) h2 HMI.out hnM A (HS.out.below hw)).mono ?_
  rintro e w'' ⟨oa, on, oc, ua, un, uc, h3, h4, h5, h6, h7, h8⟩
  rw [hR] at h3 h4 h5 h6 h7
  rw [hO, hnO] at h4
  rw [hV, hnU] at h5
  rw [hO] at h6
  rw [hV] at h7
  rw [htf] at h3
  subst h4 h5
  exact ⟨oa, oc, ua, uc, h3, ⟨hnO, hnU, h6, h7⟩, h8⟩)
 obtain ⟨rX, hrX⟩ : ∃ rX, 1 + cn = rX := ⟨_, rfl⟩
 have HRX := hid hrX
 obtain ⟨rY, hrY⟩ : ∃ rY, rX + offV L L.length = rY := ⟨_, rfl⟩
 have HRY := hid hrY
 have hrX1 : 1 + cn ≤ 1099511627776 := by omega
 have hrX0 : 0 < rX := by omega
 have hrY1 : rY ≤ 1099511627776 := by omega
 have hrY0 : ¬ (rY : Int) < 0 := by omega
 obtain ⟨rG, hrG⟩ : ∃ rG, 1 + 4 * nO + 3 * nU = rG := ⟨_, rfl⟩
 have HRG := hid hrG
 have hrG1 : rG ≤ 1099511627776 := by omega
 have hrG0 : ¬ (rG : Int) < 0 := by omega
 have hrGG : ((rG : Int) == (rG : Int)) = true := by simp
 have hnOM : nO ≤ maxLen := by unfold maxLen; omega
 have hnUM : nU ≤ maxLen := by unfold maxLen; omega
 have HNO := hid hnO
 have HNU := hid hnU
 clear hR hO hV hnO hnU htf hsz hrX hrY hrG hx1 hy1 hqV hofV hcl
 go_enter Tryz.func3, Tryz.ntmps3
 go_wp2_with fail
 refine (SZ.out _ (Below.refl _ _)).mono ?_
 rintro e w1 ⟨rfl, hx⟩
 go_wp2_with fail
 refine (szsivs_laws a cap L n HN.out x _ (HL.out.below hx) hnM hx0' hxm).mono ?_
 rw [HY1.out]
 rintro e w2 ⟨rfl, hb⟩
 replace hx := chain hx hb
 clear hb
 go_wp2_with fail
 refine (U.out _ hx).mono ?_
 rintro e w3 ⟨g3, rfl, O3, _, hb⟩
 have HO3 := hid O3.strs
 replace hx := chain hx hb
 clear hb O3
 go_wp2_with fail
 refine (Y.out _ hx).mono ?_
 rintro e w4 ⟨g4, Q4, rfl, O4, hb⟩
 have HO4 := hid O4.lies
 have HO3' := hid (HO3.out.below hb)
 replace hx := chain hx hb
 clear hb O4 HO3
 go_wp2_with fail
 refine (SP.out _ _ _ hx HO3'.out HO4.out).mono ?_
 rintro e w5 ⟨oS, ocS, uS, ucS, rfl, h5o, h5u, hb⟩
 replace hx := chain hx hb
 clear hb HO4 HO3'
 go_wp2_with fail
 obtain ⟨V5, hV5⟩ : ∃ V5, V5 = w5.alloc (.cells #[.slice oS nO ocS, .slice uS nU ucS] 29) := ⟨_, rfl⟩
 have b5 : Below w5.heap.size w5 V5 := by rw [hV5]; exact (Below.refl _ _).alloc (Nat.le_refl _) _
 have B5 : V5.heap[w5.heap.size]? = some (.cells #[.slice oS nO ocS, .slice uS nU ucS] 29) := by rw [hV5]; exact _root_.Go.heap_alloc_new w5 _
 have z5 : w5.heap.size < V5.heap.size := by rw [hV5]; simp
 have HW := hid B5
 have WO := hid (h5o.below b5)
 have WU := hid (h5u.below b5)
 have hz : Below V5.heap.size V5 V5 := Below.refl _ _
 replace hx := chain hx b5
 have hwV5 := hx.size
 rw [← hV5]
 clear hV5 b5 B5 h5o h5u
 refine (U.out _ hx).mono ?_
 rintro e w6 ⟨gX, rfl, OX, hgX, hb⟩
 have X6 := hid OX
 have hgX0 := OX.lo
 have hw6 := hb.size
 replace hx := chain hx hb
 replace hz := chain hz hb
 clear hb OX
 go_wp2_with fail
 refine (Y.out _ hx).mono ?_
 rintro e w7 ⟨gY, QY, rfl, OY, hb⟩
 have Y7 := hid OY
 have X7 := hid (X6.out.below hb)
 have HYlt := hid OY.blks_lt
 have hw7 := hb.size
 replace hx := chain hx hb
 replace hz := chain hz hb
 clear hb OY X6
 go_wp2_with fail
 refine (PI.out _ _ _ hx X7.out.strs Y7.out.lies).mono ?_
 rintro e w8 ⟨oG, ocG, uG, ucG, rfl, OG, hb⟩
 obtain ⟨V8, hV8⟩ : ∃ V8, V8 = w8.alloc (.cells #[.slice oG nO ocG, .slice uG nU ucG] 29) := ⟨_, rfl⟩
 have b8 : Below w8.heap.size w8 V8 := by rw [hV8]; exact (Below.refl _ _).alloc (Nat.le_refl _) _
 have B8 : V8.heap[w8.heap.size]? = some (.cells #[.slice oG nO ocG, .slice uG nU ucG] 29) := by rw [hV8]; exact _root_.Go.heap_alloc_new w8 _
 have HB := hid B8
 have HGlt := hid OG.blk
 have hw8 := hb.size
 have G8 := hid (OG.below b8)
 have X8 := hid ((X7.out.below hb).below b8)
 have Y8 : Hid (OutVs V8 w6.heap.size (some ⟨gY, 0, none⟩) L QY) := (Y7.out.below hb).below b8
 have R8 := Kept.refl w8.heap.size V8
 replace hx := chain (chain hx hb) b8
 replace hz := chain (chain hz hb) b8
 clear hb OG X7 Y7 B8 b8
 obtain ⟨p0, p1⟩ : (w8.alloc (.cells #[.slice oG nO ocG, .slice uG nU ucG] 29)).cell? ⟨w5.heap.size, 0, none⟩ = some (.slice oS nO ocS) ∧ (w8.alloc (.cells #[.slice oG nO ocG, .slice uG nU ucG] 29)).cell? ⟨w5.heap.size, 1, none⟩ = some (.slice uS nU ucS) := by rw [← hV8]; exact cells2 ((hz.block _ z5).trans HW.out)
 obtain ⟨q0, q1⟩ : (w8.alloc (.cells #[.slice oG nO ocG, .slice uG nU ucG] 29)).cell? ⟨w8.heap.size, 0, none⟩ = some (.slice oG nO ocG) ∧ (w8.alloc (.cells #[.slice oG nO ocG, .slice uG nU ucG] 29)).cell? ⟨w8.heap.size, 1, none⟩ = some (.slice uG nU ucG) := by rw [← hV8]; exact cells2 HB.out
 go_wp2_with fail
 rw [← hV8]
 clear hV8 p0 p1 q0 q1
 obtain ⟨lO, lU⟩ := And.intro (own_fo G8.out.ops G8.out.lenO).1 (own_fu G8.out.outs G8.out.lenU).1
 refine (eqfast_laws _ _ _ _ _ _ _ _ O V nO nU HNO.out HNU.out V8 lO lU (WO.out.below hz) (WU.out.below hz) hnOM hnUM).mono ?_
 rintro e w9 ⟨rfl, hb⟩
 have X9 := hid (X8.out.below hb)
 have Y9 : Hid (OutVs w9 w6.heap.size (some ⟨gY, 0, none⟩) L QY) := Y8.out.below hb
 have G9 := hid (G8.out.below hb)
 have R9 := R8.below hb
 replace hx := chain hx hb
 replace hz := chain hz hb
 clear hb X8 Y8 G8 R8 lO lU
 go_wp2_with fail
 refine (U.out _ hx).mono ?_
 rintro e w10 ⟨g10, rfl, O10, _, hb⟩
 have X10 := hid (X9.out.below hb)
 have Y10 : Hid (OutVs w10 w6.heap.size (some ⟨gY, 0, none⟩) L QY) := Y9.out.below hb
 have G10 := hid (G9.out.below hb)
 have R10 := R9.below hb
 replace hx := chain hx hb
 replace hz := chain hz hb
 clear hb X9 Y9 G9 R9
 go_wp2_with fail
 refine (eqstrF cn _ _ _ _ C HCN.out w10 X10.out.strs O10.strs hcM).mono ?_
 rintro e w11 ⟨rfl, hb⟩
 clear O10
 have X11 := hid (X10.out.below hb)
 have Y11 : Hid (OutVs w11 w6.heap.size (some ⟨gY, 0, none⟩) L QY) := Y10.out.below hb
 have G11 := hid (G10.out.below hb)
 have R11 := R10.below hb
 replace hx := chain hx hb
 replace hz := chain hz hb
 clear hb X10 Y10 G10 R10
 go_wp2_with fail
 refine (Y.out _ hx).mono ?_
 rintro e w12 ⟨g12, Q12, rfl, O12, hb⟩
 have X12 := hid (X11.out.below hb)
 have Y12 : Hid (OutVs w12 w6.heap.size (some ⟨gY, 0, none⟩) L QY) := Y11.out.below hb
 have G12 := hid (G11.out.below hb)
 have R12 := R11.below hb
 replace hx := chain hx hb
 replace hz := chain hz hb
 clear hb X11 Y11 G11 R11
 go_wp2_with fail
 refine (eqsivs_laws _ _ _ _ L n HN.out _ Y12.out.lies O12.lies hnM).mono ?_
 rintro e w13 ⟨rfl, hb⟩
 clear O12
 have X13 := hid (X12.out.below hb)
 have Y13 : Hid (OutVs w13 w6.heap.size (some ⟨gY, 0, none⟩) L QY) := Y12.out.below hb
 have G13 := hid (G12.out.below hb)
 have R13 := R12.below hb
 replace hx := chain hx hb
 replace hz := chain hz hb
 clear hb X12 Y12 G12 R12
 go_wp2_with fail
 refine (markstrV cn _ _ C HCN.out 1 rX _ rfl HRX.out w13 X13.out.strs X13.out.free (by omega) hrX1).mono ?_
 rintro e w14 ⟨rfl, _, K⟩
 have hw13 := hz.size
 have Y14 : Hid (OutVs w14 w6.heap.size (some ⟨gY, 0, none⟩) L QY) := Y13.out.keepFar K (fun b hb => by obtain ⟨_, o, e⟩ := hb; cases e; omega)
 have G14 := hid (G13.out.keepS K (fun b h1 _ hb => by obtain ⟨_, o, e⟩ := hb; cases e; omega))
 have R14 := R13.keepS K (fun b hb h1 => by obtain ⟨_, o, e⟩ := hb; cases e; omega)
 have hw5' := hx.size
 replace hx := belowP hx K (by omega) (fun b hb => by obtain ⟨_, o, e⟩ := hb; cases e; omega)
 replace hz := belowP hz K (by omega) (fun b hb => by obtain ⟨_, o, e⟩ := hb; cases e; omega)
 clear K X13 Y13 G13 R13
 go_wp2_with fail
 refine (marksivs_laws _ _ L n HN.out QY w6.heap.size rX rY HRY.out _ Y14.out hrX0 hrY1 hnM).mono ?_
 rintro e w15 ⟨rfl, _, K⟩
 have hw14 := hx.size
 have hw14z := hz.size
 have G15 := hid (G14.out.keepS K (fun b h1 _ hb => by have := HYlt.out b hb; omega))
 have R15 := R14.keepS K (fun b hb h1 => by have := HYlt.out b hb; omega)
 replace hx := belowP hx K (by omega) (fun b hb => by have := Y14.out.blks_lo b hb; omega)
 replace hz := belowP hz K (by omega) (fun b hb => by have := Y14.out.blks_lo b hb; omega)
 clear K Y14 G14 R14
 obtain ⟨p0, p1⟩ := cells2 ((hz.block _ z5).trans HW.out)
 obtain ⟨q0, q1⟩ := cells2 (R15.box (Nat.le_refl _) HB.out)
 go_wp2_with fail
 clear p0 p1 q0 q1
 obtain ⟨lO, lU⟩ := And.intro (own_fo G15.out.ops G15.out.lenO).1 (own_fu G15.out.outs G15.out.lenU).1
 refine (eqfast_laws _ _ _ _ _ _ _ _ O V nO nU HNO.out HNU.out w15 lO lU (WO.out.below hz) (WU.out.below hz) hnOM hnUM).mono ?_
 rintro e w16 ⟨rfl, hb⟩
 have G16 := hid (G15.out.below hb)
 have R16 := R15.below hb
 replace hx := chain hx hb
 replace hz := chain hz hb
 clear hb G15 R15 lO lU
 obtain ⟨q0, q1⟩ := cells2 (R16.box (Nat.le_refl _) HB.out)
 go_wp2_with fail
 clear q0 q1
 refine (markfast_laws oG uG nO ocG nU ucG w7.heap.size 1 rG O V HRG.out w16 G16.out hrG1).mono ?_
 rintro e w17 ⟨rfl, M, K⟩
 have hw16 := hx.size
 have hw16z := hz.size
 have M17 := hid M
 have R17 := R16.keepS K (fun b hb h1 => by have := HGlt.out b hb; omega)
 replace hx := belowP hx K (by omega) (fun b hb => by have := HGlt.out b hb; omega)
 replace hz := belowP hz K (by omega) (fun b hb => by have := HGlt.out b hb; omega)
 clear K M G16 R16
 obtain ⟨q0, q1⟩ := cells2 (R17.box (Nat.le_refl _) HB.out)
 go_wp2_with fail
 clear q0 q1
 refine (heldfast_laws oG uG nO ocG nU ucG 1 rG HRG.out w17 M17.out hrG1).mono ?_
 rintro e w18 ⟨rfl, hb⟩
 have M18 := hid (M17.out.below hb)
 have R18 := R17.below hb
 replace hx := chain hx hb
 replace hz := chain hz hb
 clear hb M17 R17
 go_wp2_with fail
 refine (U.out _ hx).mono ?_
 rintro e w19 ⟨g19, rfl, O19, _, hb⟩
 have HO19 := hid O19.strs
 have M19 := hid (M18.out.below hb)
 have R19 := R18.below hb
 replace hx := chain hx hb
 replace hz := chain hz hb
 clear hb M18 R18 O19
 go_wp2_with fail
 refine (Y.out _ hx).mono ?_
 rintro e w20 ⟨g20, Q20, rfl, O20, hb⟩
 have HO20 := hid O20.lies
 have HO19' := hid (HO19.out.below hb)
 have M20 := hid (M19.out.below hb)
 have R20 := R19.below hb
 replace hx := chain hx hb
 replace hz := chain hz hb
 clear hb M19 R19 O20 HO19
 go_wp2_with fail
 refine (PI.out _ _ _ hx HO19'.out HO20.out).mono ?_
 rintro e w21 ⟨oH, ocH, uH, ucH, rfl, OH, hb⟩
 obtain ⟨V21, hV21⟩ : ∃ V21, V21 = w21.alloc (.cells #[.slice oH nO ocH, .slice uH nU ucH] 29) := ⟨_, rfl⟩
 have b21 : Below w21.heap.size w21 V21 := by rw [hV21]; exact (Below.refl _ _).alloc (Nat.le_refl _) _
 have B21 : V21.heap[w21.heap.size]? = some (.cells #[.slice oH nO ocH, .slice uH nU ucH] 29) := by rw [hV21]; exact _root_.Go.heap_alloc_new w21 _
 have H21 := hid (OH.below b21)
 have M21 := hid ((M20.out.below hb).below b21)
 have R21 := (R20.below hb).below b21
 replace hx := chain (chain hx hb) b21
 replace hz := chain (chain hz hb) b21
 clear hb OH HO20 HO19' M20 R20 b21
 obtain ⟨p0, p1⟩ : (w21.alloc (.cells #[.slice oH nO ocH, .slice uH nU ucH] 29)).cell? ⟨w5.heap.size, 0, none⟩ = some (.slice oS nO ocS) ∧ (w21.alloc (.cells #[.slice oH nO ocH, .slice uH nU ucH] 29)).cell? ⟨w5.heap.size, 1, none⟩ = some (.slice uS nU ucS) := by rw [← hV21]; exact cells2 ((hz.block _ z5).trans HW.out)
 obtain ⟨q0, q1⟩ : (w21.alloc (.cells #[.slice oH nO ocH, .slice uH nU ucH] 29)).cell? ⟨w21.heap.size, 0, none⟩ = some (.slice oH nO ocH) ∧ (w21.alloc (.cells #[.slice oH nO ocH, .slice uH nU ucH] 29)).cell? ⟨w21.heap.size, 1, none⟩ = some (.slice uH nU ucH) := by rw [← hV21]; exact cells2 B21
 clear B21
 go_wp2_with fail
 rw [← hV21]
 clear hV21 p0 p1 q0 q1
 obtain ⟨lO, lU⟩ := And.intro (own_fo H21.out.ops H21.out.lenO).1 (own_fu H21.out.outs H21.out.lenU).1
 refine (eqfast_laws _ _ _ _ _ _ _ _ O V nO nU HNO.out HNU.out V21 lO lU (WO.out.below hz) (WU.out.below hz) hnOM hnUM).mono ?_
 rintro e w22 ⟨rfl, hb⟩
 have M22 := hid (M21.out.below hb)
 have R22 := R21.below hb
 replace hx := chain hx hb
 clear hb M21 R21 H21 lO lU hz
 obtain ⟨q0, q1⟩ := cells2 (R22.box (Nat.le_refl _) HB.out)
 go_wp2_with fail
 clear q0 q1
 refine (heldfast_laws oG uG nO ocG nU ucG 1 rG HRG.out w22 M22.out hrG1).mono ?_
 rintro e w23 ⟨rfl, hb⟩
 replace hx := chain hx hb
 clear hb M22 R22
 go_wp2
 go_ret
 exact ⟨rfl, hx⟩
end exFastOf
end Go.Proofs.YtjjkdbmjloolaaaGreatDoor
