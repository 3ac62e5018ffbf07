/-
  A part of the proof: FastOfS, FastOfI, FastF.
-/
import Derived.Test.YtjjkdbmjloolaaaGreatDoorPart41
import Derived.Test.YtjjkdbmjloolaaaGreatDoorPart3

namespace Go.Proofs.YtjjkdbmjloolaaaGreatDoor
open Go.ChangeShapes Go.WideShapes Go.ChangeAt Go.RowKit Go.Joins
attribute [local go_sem ↓] Go.wp_at_zero Go.wp_at_succ
attribute [local simp] World.cell?_alloc_past World.cell?_alloc_at World.frozen?_alloc_at cell_far cell_off cell_here World.frozen?_alloc_past
def opsR (r : Option Mkr) : List FO := (r.map (·.ops)).getD []
def outsR (r : Option Mkr) : List FU := (r.map (·.outs)).getD []
def FastAns (w : World) (r : Option Mkr) (e : Ending) (w' : World) : Prop :=
 ∃ oa on oc ua un uc, e = .returned (.tuple #[.agg #[.slice oa on oc, .slice ua un uc], .bool r.isSome]) ∧ (opsR r).length = on ∧ (outsR r).length = un ∧ FoAt w' oa (opsR r) ∧ FuAt w' ua (outsR r) ∧ Below w.heap.size w w'
theorem FastAns.drew {w w' : World} {r : Option Mkr} {e : Ending} (h : FastAns w r e w') : FastAns w r e w'.drew := by
 obtain ⟨oa, on, oc, ua, un, uc, h1, h2, h3, h4, h5, h6⟩ := h
 exact ⟨oa, on, oc, ua, un, uc, h1, h2, h3, h4.below ((Below.refl _ _).drew), h5.below ((Below.refl _ _).drew), h6.drew⟩
theorem fast_none {w w' : World} (hb : Below w.heap.size w w') : FastAns w none (.returned (.tuple #[.agg #[.slice none 0 0, .slice none 0 0], .bool false])) w' :=
 ⟨none, 0, 0, none, 0, 0, rfl, rfl, rfl, fun j h => absurd h (by simp [opsR]), fun j h => absurd h (by simp [outsR]), hb⟩
theorem sieve_spec15 (B base : Nat) (M : Mkr) (kd : Int) (nm : ByteArray) (na : Option Addr) (nn nc : Nat) (N : List ByteArray) (hnn : N.length = nn) (sa : Option Addr) (sn sc : Nat) (S : List TI) (hsn : S.length = sn) (dn : Bool) (ct sk : Int) (ov cv uv tv : Value) (w : World) (h : MkAt w base B M ov cv uv tv) (hS : ∀ w', Below base w w' → ItmAt w' sa S) (hN : ∀ w', Below base w w' → StrsAt w' na N) (hnil : na = none → nc = 0) (g : GoodM M) (ha : AskM M ⟨kd, nm, N, S, dn, ct, sk⟩) (hm : M.ops.length + 80 ≤ 1048576) (hcl : M.cols.length ≤ 1000) (hbw : base ≤ w.heap.size) :
  Calls Tryz.prog 20 #[.pointer (some ⟨B, 0, none⟩), .agg #[.int .i64 kd, .string nm, .slice na nn nc, .slice sa sn sc, .bool dn, .int .i64 ct, .int .i64 sk]] w (SieveOut15 w base B M ⟨kd, nm, N, S, dn, ct, sk⟩) := by
 rcases ha.kind with e | e | e
 · have e' : kd = 2 := e
  subst e'
  obtain ⟨h1, h2⟩ := ha.sum (.inl rfl)
  exact where_spec15 B base M nm na nn nc N sa sn sc S hsn dn ct sk ov cv uv tv w h hS g h1 h2 hm hbw
 · have e' : kd = 3 := e
  subst e'
  obtain ⟨h1, h2⟩ := ha.sum (.inr rfl)
  exact let_spec15 B base M nm na nn nc N sa sn sc S hsn dn ct sk ov cv uv tv w h hS g h1 h2 hm hcl hbw
 · have e' : kd = 4 := e
  subst e'
  obtain ⟨h1, h2⟩ := ha.names rfl
  exact keep_spec15 B base M nm na nn nc N hnn sa sn sc S dn ct sk ov cv uv tv w h hN g h1 hnil hcl (by rw [← hnn]; exact Nat.le_trans h2 (by decide)) hbw
theorem outsOf_snoc (k : Nat) : outsOf (k + 1) = outsOf k ++ [((k : Int), (-1 : Int), false)] := by
 unfold outsOf
 rw [List.range_succ, List.map_append]
 rfl
theorem outsOf_len (k : Nat) : (outsOf k).length = k := by simp [outsOf]
set_option maxRecDepth 100000 in
set_option maxHeartbeats 4000000 in
theorem fastof_spec (ca : Option Addr) (cn cc : Nat) (C : List ByteArray) (hcn : C.length = cn) (a : Option Addr) (cap n : Nat) (L : List SV) (hn : L.length = n) (w : World) (hC : StrsAt w ca C) (hnil : ca = none → cc = 0) (hcF : FitS C) (hcM : cn ≤ 1048576) (hcC : cn ≤ cc) (hL : SivsAt w a L) (hnM : n ≤ maxLen) :
  Calls Tryz.prog 6 #[.slice ca cn cc, .slice a n cap] w (FastAns w (fastR C L)) := by
 have HC := hid hC
 have HL := hid hL
 have HCN := hid hcn
 have HN := hid hn
 obtain ⟨b, hb⟩ : ∃ b, rightB3 C L = b := ⟨_, rfl⟩
 obtain ⟨E0, hE0⟩ : ∃ z, w.alloc (.cells #[.slice none 0 0, .slice none 0 0] 29) = z := ⟨_, rfl⟩
 have hA : Below w.heap.size w E0 := by rw [← hE0]; exact (Below.refl _ _).alloc (Nat.le_refl _) _
 have HBX := hid (p := E0.heap[w.heap.size]? = some (.cells #[.slice none 0 0, .slice none 0 0] 29)) (by rw [← hE0]; exact _root_.Go.heap_alloc_new w _)
 have HEE := hid hE0
 have HR := hid (right_spec15 ca cn cc C hcn a cap n L hn E0 (hC.below hA) hnil hcF (by unfold maxLen; omega) hcC (hL.below hA) hnM b hb)
 cases b
 · have e : fastR C L = none := by rw [fastR_eq, if_neg (by rw [hb]; decide)]
  rw [e]
  clear hC hL hcn hn hb e hE0
  go_enter Tryz.func6, Tryz.ntmps6
  go_wp2_with fail
  rw [HEE.out]
  refine HR.out.mono ?_
  rintro e w1 ⟨rfl, hx1⟩
  have hbx := (hx1.block _ (lt_of_heapN HBX.out)).trans HBX.out
  obtain ⟨p0, p1⟩ := cells2 hbx
  have f0 : w1.frozen? ⟨w.heap.size, 0, none⟩ = false := by simp [World.frozen?, hbx]
  have f1 : w1.frozen? ⟨w.heap.size, 1, none⟩ = false := by simp [World.frozen?, hbx]
  have FIN := hid (fast_none (w' := (w1.setCell ⟨w.heap.size, 0, none⟩ (.slice none 0 0)).setCell ⟨w.heap.size, 1, none⟩ (.slice none 0 0)) (((chain hA hx1).setCell (p := ⟨w.heap.size, 0, none⟩) (Nat.le_refl _) _).setCell (p := ⟨w.heap.size, 1, none⟩) (Nat.le_refl _) _))
  clear hbx
  go_wp2_with fail
  exact bodyPost_ret (v := .tuple #[.agg #[.slice none 0 0, .slice none 0 0], .bool false]) (by simp [results, Tryz.results6, go_sem, p0, p1]) rfl FIN.out
 have HRB := hid hb
 have HE := hid (p := fastR C L = runS (startM C) L) (by rw [fastR_eq, if_pos hb])
 clear hC hL hn hb hE0
 go_enter Tryz.func6, Tryz.ntmps6
 go_wp2_with fail
 rw [HEE.out]
 refine HR.out.mono ?_
 rintro e w1 ⟨rfl, hx1⟩
 go_wp2_with fail
 refine (texts_spec ca cc C cn hcn w1 (HC.out.below (chain hA hx1)) hnil hcM).mono ?_
 rintro e w2 ⟨g, c, rfl, hg2, hc2, own2, hb2⟩
 obtain ⟨BB, hBB⟩ : ∃ z, z = w2.heap.size := ⟨_, rfl⟩
 obtain ⟨base, hbase⟩ : ∃ z, z = E0.heap.size := ⟨_, rfl⟩
 have HBS := hid hbase
 obtain ⟨W3, hW3⟩ : ∃ z, z = w2.alloc (.cells #[.slice none 0 0, .slice (some ⟨g, 0, none⟩) cn c, .slice none 0 0, .slice none 0 0, .bool false] 49) := ⟨_, rfl⟩
 have hb12 := chain hx1 hb2
 have hb3 : Below w2.heap.size w2 W3 := by rw [hW3]; exact (Below.refl _ _).alloc (Nat.le_refl _) _
 have hb13 := chain hb12 hb3
 have A3 := hid (p := Below base E0 W3) (by rw [hbase]; exact hb13)
 have own3 : W3.ownsRow base 9 1 (.slice (some ⟨g, 0, none⟩) C.length c) C.length (strV C) := own_lower (own_below own2 hb3) (by rw [hbase]; exact hx1.size)
 have hC3 : C.length = cn := HCN.out
 have M3 := hid (p := MkAt W3 base BB { ops := [], cols := C, outs := outsOf 0, tr := [], bad := false } (.slice none 0 0) (.slice (some ⟨g, 0, none⟩) C.length c) (.slice none 0 0) (.slice none 0 0)) ⟨by rw [hW3, hBB, hC3]; exact _root_.Go.heap_alloc_new w2 _, by rw [hbase, hBB]; exact hb12.size, ⟨rfl, .inl ⟨rfl, rfl⟩⟩, own3, ⟨rfl, .inl ⟨rfl, rfl⟩⟩, ⟨rfl, .inl ⟨rfl, rfl⟩⟩⟩
 obtain ⟨j0, htj, hy0, hy1, hy2⟩ := info_parts infoFu15
 have hcn' : cn ≤ 6 := by
  have h := HRB.out
  unfold rightB3 at h
  simp only [Bool.and_eq_true] at h
  rw [← hC3]
  exact (names_fits h.1.1).2
 have hn8 : n ≤ 8 := by
  have h := HRB.out
  unfold rightB3 at h
  simp only [Bool.and_eq_true, decide_eq_true_eq] at h
  rw [← HN.out]
  exact h.1.2
 have hHC := HC.out
 clear hb12 hb3 hb13 own2 own3 hb2 hx1 hg2 hc2 HR
 go_wp2_with fail
 rw [← hBB, ← hW3]
 clear hBB hW3 hbase
 go_loopw [7] (fun kk wr => ∃ (k : Nat) (uv : Value), k ≤ cn ∧ kk = .int .i64 k ∧ Hid (MkAt wr base BB { ops := [], cols := C, outs := outsOf k, tr := [], bad := false } (.slice none 0 0) (.slice (some ⟨g, 0, none⟩) C.length c) uv (.slice none 0 0)) ∧ Hid (Below base E0 wr)) (fun kk _ => cn - (intOf kk).toNat)
 case atStart => exact ⟨0, _, Nat.zero_le _, rfl, M3, A3⟩
 case round =>
  obtain ⟨k, uv, hk, rfl, hM, hB⟩ := hrel
  have hi0 : (0 : Int) ≤ (k : Int) := by omega
  obtain ⟨p0, p1, p2, p3, p4⟩ := cells5 hM.out.box
  have f2 := frozen5 hM.out.box 2
  have hbs : base ≤ wr.heap.size := by have := hB.out.size; rw [HBS.out]; exact this
  by_cases hlt : k < cn
  · have hi1 : (k : Int) < (cn : Int) := by omega
   obtain ⟨ua, uc, rfl⟩ := slice_of_own hM.out.outs
   have hol := outsOf_len k
   have HM := hid hM.out
   have HB := hid hB.out
   have hlk : (outsOf k).length ≤ 1000 := by rw [hol]; omega
   clear hM hB p0 p1 p3 p4 hol
   go_wp2_with (at_builtin; refine wpList_append_own _ rfl _ _ 27 rfl base 51 j0 (.agg #[.int .i64 0, .int .i64 0, .bool false]) 3 24 Tryz.underlying27 htj hy0 hy1 hy2 rfl (by decide) (.slice ua (outsOf k).length uc) (outsOf k).length (flatFu (outsOf k)) rfl (HM.out.outs.alloc _) ⟨wr.heap.size, 0, none⟩ 1 1 [.int .i64 k, .int .i64 (-1), .bool false] rfl rfl (cells3N15 wr _ _ _ _) (by intro u hu; simp at hu; rcases hu with rfl | rfl | rfl <;> rfl) (by unfold maxLen; omega) (by omega) (by simp; omega) ?_)
   intro v5 w5 own5 hgrow hnn
   obtain ⟨a5, c5, rfl⟩ := slice_of_own own5
   obtain ⟨hB5, M6, K6⟩ := HM.out.pushOuts (o := ((k : Int), -1, false)) ((Below.refl wr.heap.size wr).alloc (Nat.le_refl _) _) hgrow own5
   have F1 := hid (p := MkAt (w5.setCell ⟨BB, 2, none⟩ (.slice a5 ((outsOf k).length + 1) c5)) base BB { ops := [], cols := C, outs := outsOf (k + 1), tr := [], bad := false } (.slice none 0 0) (.slice (some ⟨g, 0, none⟩) C.length c) (.slice a5 ((outsOf k).length + 1) c5) (.slice none 0 0)) (by rw [outsOf_snoc]; exact M6)
   have F2 := hid (HB.out.trans (low_row HM.out HM.out.outs hbs K6))
   obtain ⟨q0, q1, q2, q3, q4⟩ := cells5 hB5
   have g2 := frozen5 hB5 2
   clear own5 hgrow hnn M6 K6 hB5 q0 q1 q3 q4
   go_wp2
   go_roundw
   case rel => exact ⟨k + 1, _, by omega, by go_num, F1, F2⟩
   case measure => simp [intOf]; omega
  · have hkl : k = cn := by omega
   subst hkl
   have hnn : ¬ (k : Int) < (k : Int) := by omega
   have HM := hid (p := MkAt wr base BB (startM C) (.slice none 0 0) (.slice (some ⟨g, 0, none⟩) C.length c) uv (.slice none 0 0)) (by
    have h := hM.out
    unfold startM
    rw [hC3]
    rw [hC3] at h
    exact h)
   have HB := hid hB.out
   clear hM hB p0 p1 p2 p3 p4 f2
   have HLE := hid (HL.out.below hA)
   clear hHC hi0 hnn hlt hk
   obtain ⟨wO, hwO⟩ : ∃ x, x = wr := ⟨_, rfl⟩
   subst hwO
   go_wp2
   go_loopw [8] (fun kk wr => ∃ (j : Nat) (M' : Mkr) (ov' cv' uv' tv' : Value), j ≤ n ∧ kk = .int .i64 j ∧ Hid (MkAt wr base BB M' ov' cv' uv' tv') ∧ Hid (Below base E0 wr) ∧ Hid ((M'.bad = true ∧ runS (startM C) L = none) ∨ (M'.bad = false ∧ runS (startM C) (L.take j) = some M'))) (fun kk _ => n - (intOf kk).toNat)
   case atStart => exact ⟨0, _, _, _, _, _, Nat.zero_le _, rfl, HM, HB, .inr ⟨rfl, rfl⟩⟩
   case round =>
    obtain ⟨j, M', ov', cv', uv', tv', hj, rfl, hM, hB, hst⟩ := hrel
    obtain ⟨p0, p1, p2, p3, p4⟩ := cells5 hM.out.box
    have hi0 : (0 : Int) ≤ (j : Int) := by omega
    have hbs : base ≤ wr.heap.size := by have := hB.out.size; rw [HBS.out]; exact this
    have hbE : Below E0.heap.size E0 wr := by rw [← HBS.out]; exact hB.out
    have hrb := (hbE.block _ (lt_of_heapN HBX.out)).trans HBX.out
    obtain ⟨r0, r1⟩ := cells2 hrb
    have f0 : wr.frozen? ⟨w.heap.size, 0, none⟩ = false := by simp [World.frozen?, hrb]
    have f1 : wr.frozen? ⟨w.heap.size, 1, none⟩ = false := by simp [World.frozen?, hrb]
    have hneB : BB ≠ w.heap.size := by
     have h1 := hM.out.lo
     have h2 := lt_of_heapN HBX.out
     rw [HBS.out] at h1
     omega
    have BADF := hid (p := runS (startM C) L = none → FastAns w (fastR C L) (.returned (.tuple #[.agg #[.slice none 0 0, .slice none 0 0], .bool false])) ((wr.setCell ⟨w.heap.size, 0, none⟩ (.slice none 0 0)).setCell ⟨w.heap.size, 1, none⟩ (.slice none 0 0))) (fun hno => by
     rw [HE.out, hno]
     exact fast_none (((chain hA hbE).setCell (p := ⟨w.heap.size, 0, none⟩) (Nat.le_refl _) _).setCell (p := ⟨w.heap.size, 1, none⟩) (Nat.le_refl _) _))
    clear hrb
    by_cases hlt : j < n
    · have hi1 : (j : Int) < (n : Int) := by omega
     rcases hst.out with ⟨hb, hno⟩ | ⟨hb, hyes⟩
     · rw [hb] at p4
      have FIN := hid (BADF.out hno)
      clear hb hno p0 p1 p2 p3
      go_wp2_with fail
      exact bodyPost_ret (v := .tuple #[.agg #[.slice none 0 0, .slice none 0 0], .bool false]) (by simp [results, Tryz.results6, go_sem, r0, r1]) rfl FIN.out
     · rw [hb] at p4
      have hlt' : j < L.length := by rw [HN.out]; exact hlt
      obtain ⟨j1, j2, j3, j4⟩ := runS_good HRB.out j M' (by omega) hyes
      have hask := runS_ask HRB.out hlt' hyes
      have hcl := (names_fits j3).2
      obtain ⟨g1, o1, na1, nc1, sa1, sc1, rfl, hgw1, ⟨c0, c1, c2, c3, c4, c5, c6⟩, hsv⟩ := HLE.out j hlt'
      have key : ∀ p, wr.cell? ⟨g1, p, none⟩ = E0.cell? ⟨g1, p, none⟩ := fun p => hbE.cell (p := ⟨g1, p, none⟩) hgw1
      rw [← key] at c0 c1 c2 c3 c4 c5 c6
      have HST := hid (fun (q : Option Mkr) (e : sieveO M' L[j] = q) => show runS (startM C) (L.take (j + 1)) = q by rw [runS_snoc _ L j hlt', hyes]; exact e)
      generalize L[j]'hlt' = s at c0 c1 c2 c3 c4 c5 c6 hsv hask HST
      obtain ⟨kd, nm1, N, S, dn, ct, sk⟩ := s
      dsimp only at c0 c1 c2 c3 c4 c5 c6
      obtain ⟨nn, hnn⟩ : ∃ m, N.length = m := ⟨_, rfl⟩
      obtain ⟨sn, hsn⟩ : ∃ m, S.length = m := ⟨_, rfl⟩
      rw [hnn] at c2
      rw [hsn] at c3
      have e30 := j1.tr
      have HSV := hid (sieve_spec15 BB base M' kd nm1 na1 nn nc1 N hnn sa1 sn sc1 S hsn dn ct sk ov' cv' uv' tv' wr hM.out (fun w' hw => hsv.sum.below (by rw [← HBS.out]; exact hB.out.trans hw)) (fun w' hw => hsv.names.below (by rw [← HBS.out]; exact hB.out.trans hw)) hsv.nilN j1 hask (by omega) (by omega) hbs)
      clear hyes hb j1 j2 j3 j4 hask hcl hsv key hnn hsn hlt' p0 p1 p2 p3 e30
      go_wp2_with fail
      refine HSV.out.mono ?_
      rintro e w2 ⟨M2, ov2, cv2, uv2, tv2, rfl, hM2, hb2, hq2⟩
      have A1 := hid hM2
      have A4 := hid (hB.out.trans hb2)
      have A5 := hid (p := (M2.bad = true ∧ runS (startM C) L = none) ∨ (M2.bad = false ∧ runS (startM C) (L.take (j + 1)) = some M2)) (by
       cases hq : sieveO M' ⟨kd, nm1, N, S, dn, ct, sk⟩ with
       | none =>
        rw [hq] at hq2
        exact .inl ⟨hq2, runS_stop (HST.out _ hq)⟩
       | some q =>
        rw [hq] at hq2
        have e := HST.out _ hq
        have eq : M2 = q := hq2
        subst eq
        exact .inr ⟨(runS_good HRB.out (j + 1) _ (by rw [HN.out]; omega) e).1.bad, e⟩)
      clear hM2 hb2 hq2 HSV HST c0 c1 c2 c3 c4 c5 c6 hM hB hst
      go_wp2
      go_roundw
      case rel => exact ⟨j + 1, M2, ov2, cv2, uv2, tv2, by omega, by go_num, A1, A4, A5⟩
      case measure => simp [intOf]; omega
    · have hkl : j = n := by omega
     subst hkl
     have hnn : ¬ (j : Int) < (j : Int) := by omega
     rcases hst.out with ⟨hb, hno⟩ | ⟨hb, hyes⟩
     · rw [hb] at p4
      have FIN := hid (BADF.out hno)
      clear hb hno p0 p1 p2 p3
      go_wp2_with fail
      exact bodyPost_ret (v := .tuple #[.agg #[.slice none 0 0, .slice none 0 0], .bool false]) (by simp [results, Tryz.results6, go_sem, r0, r1]) rfl FIN.out
     · rw [hb] at p4
      rw [List.take_of_length_le (by rw [HN.out]; exact Nat.le_refl _)] at hyes
      obtain ⟨oa, oc, rfl⟩ := slice_of_own hM.out.ops
      obtain ⟨ua, uc, rfl⟩ := slice_of_own hM.out.outs
      have FIN := hid (p := FastAns w (fastR C L) (.returned (.tuple #[.agg #[.slice oa M'.ops.length oc, .slice ua M'.outs.length uc], .bool true])) ((wr.setCell ⟨w.heap.size, 0, none⟩ (.slice oa M'.ops.length oc)).setCell ⟨w.heap.size, 1, none⟩ (.slice ua M'.outs.length uc))) (by
       rw [HE.out, hyes]
       have K := ((KeepS.refl (fun b => b = w.heap.size) wr).setCell (p := ⟨w.heap.size, 0, none⟩) rfl (.slice oa M'.ops.length oc)).setCell (p := ⟨w.heap.size, 1, none⟩) rfl (.slice ua M'.outs.length uc)
       have hw0 : w.heap.size < base := by rw [HBS.out]; exact lt_of_heapN HBX.out
       refine ⟨oa, _, oc, ua, _, uc, rfl, rfl, rfl, ?_, ?_, ((chain hA hbE).setCell (p := ⟨w.heap.size, 0, none⟩) (Nat.le_refl _) _).setCell (p := ⟨w.heap.size, 1, none⟩) (Nat.le_refl _) _⟩
       · rcases hM.out.ops.2 with ⟨e, e0⟩ | ⟨g', c', cur, e, h1, _⟩
        · intro i hi
         have : (opsR (some M')).length = M'.ops.length := rfl
         omega
        · cases e
         exact (ownFo hM.out.ops).keepS K (fun b o e => by cases e; omega)
       · rcases hM.out.outs.2 with ⟨e, e0⟩ | ⟨g', c', cur, e, h1, _⟩
        · intro i hi
         have : (outsR (some M')).length = M'.outs.length := rfl
         omega
        · cases e
         exact (ownFu hM.out.outs).keepS K (fun b o e => by cases e; omega))
      clear hb hyes p1 p3 BADF
      go_wp2_with fail
      refine wp_region_held_drew (S := (fun w' => w'.cell? ⟨BB, 0, none⟩ = some (.slice oa M'.ops.length oc) ∧ w'.cell? ⟨BB, 2, none⟩ = some (.slice ua M'.outs.length uc))) (by kernel_rfl) ⟨p0, p2⟩ (fun hHeld => ?_)
      refine tkH 0 ?_
      simp only [Act.put, ptT, ptZ, ptS]
      refine tkH 1 ?_
      simp only [Act.put, ptT, ptZ, ptS]
      refine tkH 2 ?_
      simp only [Act.put, ptT, ptZ, ptS]
      refine tkH 3 ?_
      simp only [Act.put, ptT, ptZ, ptS]
      refine tkH 4 ?_
      simp only [Act.put, ptT, ptZ, ptS]
      refine tkH 5 ?_
      simp only [Act.put, ptT, ptZ, ptS]
      refine tkH 6 ?_
      simp only [Act.put, ptT, ptZ, ptS]
      refine tkH 7 ?_
      simp only [Act.put, ptT, ptZ, ptS]
      refine tkH 8 ?_
      simp only [Act.put, ptT, ptZ, ptS]
      refine oneH 9 ?_
      intro K hK
      have s0 : wr.drew.cell? ⟨w.heap.size, 0, none⟩ = some (.slice none 0 0) := r0
      have s1 : wr.drew.cell? ⟨w.heap.size, 1, none⟩ = some (.slice none 0 0) := r1
      go_simp
      refine hK.out _ _ ?_ (fun hHeld => ?_)
      · (((try dsimp only); (repeat' apply And.intro) <;> first | (go_keep; done) | (simp (disch := first | omega | (simp <;> omega) | fail) [*]; done) | fail))
      clear hK K
      try simp only [Act.put, ptT, ptZ, ptS]
      refine tkH 10 ?_
      simp only [Act.put, ptT, ptZ, ptS]
      refine wpAnyH_done (by kernel_rfl) ?_ _
      go_wp2_with fail
      exact bodyPost_ret (v := .tuple #[.agg #[.slice oa M'.ops.length oc, .slice ua M'.outs.length uc], .bool true]) (by simp [results, Tryz.results6, go_sem, r0, r1]) rfl FIN.out.drew
def FastOutP (w : World) (r : Option Mkr) (e : Ending) (w' : World) : Prop :=
 ∃ oa on oc ua un uc, e = .returned (.tuple #[.agg #[.slice oa on oc, .slice ua un uc], .bool r.isSome]) ∧ (opsR r).length = on ∧ (outsR r).length = un ∧ w'.ownsRow w.heap.size 75 4 (.slice oa on oc) on (flatFo (opsR r)) ∧ w'.ownsRow w.heap.size 51 3 (.slice ua un uc) un (flatFu (outsR r)) ∧ Below w.heap.size w w'
theorem fastP_none {w w' : World} (hb : Below w.heap.size w w') : FastOutP w none (.returned (.tuple #[.agg #[.slice none 0 0, .slice none 0 0], .bool false])) w' :=
 ⟨none, 0, 0, none, 0, 0, rfl, rfl, rfl, ⟨rfl, .inl ⟨rfl, rfl⟩⟩, ⟨rfl, .inl ⟨rfl, rfl⟩⟩, hb⟩
set_option maxRecDepth 100000 in
set_option maxHeartbeats 4000000 in
theorem fastof_impl (ca : Option Addr) (cn cc : Nat) (C : List ByteArray) (hcn : C.length = cn) (a : Option Addr) (cap n : Nat) (L : List SV) (hn : L.length = n) (w : World) (hC : StrsAt w ca C) (hnil : ca = none → cc = 0) (hcF : FitS C) (hcM : cn ≤ 1048576) (hcC : cn ≤ cc) (hL : SivsAt w a L) (hLM : ∀ s ∈ L, MildV s) (hnM : n ≤ maxLen) (A : Sen) (hS : SenAt w A) :
  Calls Tryz.prog 9 #[.slice ca cn cc, .slice a n cap] w (FastOutP w (fastR C L)) := by
 have HC := hid hC
 have HL := hid hL
 have HCN := hid hcn
 have HN := hid hn
 obtain ⟨b, hb⟩ : ∃ b, namesB C 1 6 = b := ⟨_, rfl⟩
 obtain ⟨E0, hE0⟩ : ∃ z, w.alloc (.cells #[.slice none 0 0, .slice none 0 0] 29) = z := ⟨_, rfl⟩
 have hA : Below w.heap.size w E0 := by rw [← hE0]; exact (Below.refl _ _).alloc (Nat.le_refl _) _
 have HBX := hid (p := E0.heap[w.heap.size]? = some (.cells #[.slice none 0 0, .slice none 0 0] 29)) (by rw [← hE0]; exact _root_.Go.heap_alloc_new w _)
 have HR := hid (columns_impl cn ca cc C hcn E0 (hC.below hA) hcF (by unfold maxLen; omega) hcC b hb)
 clear hC hL hcn hn
 go_enter Tryz.func9, Tryz.ntmps9
 go_wp2_with fail
 refine HR.out.mono ?_
 rintro e w1 ⟨rfl, hx1⟩
 have hbx1 := (hx1.block _ (lt_of_heapN HBX.out)).trans HBX.out
 have NO := hid (p := fastR C L = none → ∀ W : World, Below E0.heap.size E0 W → FastOutP w (fastR C L) (.returned (.tuple #[.agg #[.slice none 0 0, .slice none 0 0], .bool false])) ((W.setCell ⟨w.heap.size, 0, none⟩ (.slice none 0 0)).setCell ⟨w.heap.size, 1, none⟩ (.slice none 0 0))) (fun e W hW => by
  rw [e]
  exact fastP_none (((chain hA hW).setCell (p := ⟨w.heap.size, 0, none⟩) (Nat.le_refl _) _).setCell (p := ⟨w.heap.size, 1, none⟩) (Nat.le_refl _) _))
 obtain ⟨p0, p1⟩ := cells2 hbx1
 have f0 : w1.frozen? ⟨w.heap.size, 0, none⟩ = false := by simp [World.frozen?, hbx1]
 have f1 : w1.frozen? ⟨w.heap.size, 1, none⟩ = false := by simp [World.frozen?, hbx1]
 have HX1 := hid hx1
 have HB := hid hb
 clear hbx1 HR hx1 hb hE0
 cases b
 · have FIN := hid (NO.out (by rw [fastP_eq, HB.out]; rfl) w1 HX1.out)
  clear NO
  go_wp2_with fail
  exact bodyPost_ret (v := .tuple #[.agg #[.slice none 0 0, .slice none 0 0], .bool false]) (by simp [results, Tryz.results9, go_sem, p0, p1]) rfl FIN.out
 by_cases hn8 : 8 < n
 · have hi8 : (8 : Int) < (n : Int) := by omega
  have FIN := hid (NO.out (by rw [fastP_eq, HB.out, HN.out, decide_eq_false (by omega)]; rfl) w1 HX1.out)
  clear NO
  go_wp2_with fail
  exact bodyPost_ret (v := .tuple #[.agg #[.slice none 0 0, .slice none 0 0], .bool false]) (by simp [results, Tryz.results9, go_sem, p0, p1]) rfl FIN.out
 have hi8 : ¬ (8 : Int) < (n : Int) := by omega
 have HE := hid (p := fastR C L = runP (startM C) L) (by rw [fastP_eq, HB.out, HN.out, decide_eq_true (by omega)]; rfl)
 obtain ⟨W3, hW3⟩ : ∃ z, z = w1.alloc (.cells #[.slice ca cn cc, .slice none 0 0, .slice none 0 0, .int .i64 0] 59) := ⟨_, rfl⟩
 obtain ⟨BB, hBB⟩ : ∃ z, z = w1.heap.size := ⟨_, rfl⟩
 have hb3 : Below w1.heap.size w1 W3 := by rw [hW3]; exact (Below.refl _ _).alloc (Nat.le_refl _) _
 have hE1 : w.heap.size ≤ E0.heap.size := hA.size
 have A3 := hid (p := LowI XJ w.heap.size E0 W3) (LowI.of hE1 (chain HX1.out hb3))
 have hC3 : C.length = cn := HCN.out
 have hA3 : Below w.heap.size w W3 := chain (chain hA HX1.out) hb3
 have M3 := hid (p := MkI W3 w.heap.size BB { ops := [], cols := C, outs := outsOf 0, tr := [], bad := false } (.slice ca C.length cc) (.slice none 0 0) (.slice none 0 0)) ⟨by rw [hW3, hBB, hC3]; exact _root_.Go.heap_alloc_new w1 _, by rw [hBB]; exact Nat.le_trans hE1 HX1.out.size, ⟨ca, cc, rfl, HC.out.below hA3, hnil, by rw [hC3]; exact hcC, fun g o e hl => by
  obtain ⟨g', o', e', hg, _⟩ := HC.out 0 hl
  rw [e] at e'
  cases e'
  exact ⟨Nat.lt_of_lt_of_le hg hA3.size, .inl hg⟩⟩, ⟨rfl, .inl ⟨rfl, rfl⟩⟩, ⟨rfl, .inl ⟨rfl, rfl⟩⟩⟩
 obtain ⟨j0, htj, hy0, hy1, hy2⟩ := info_parts infoFu15
 have hcn' : cn ≤ 6 := by rw [← hC3]; exact (names_fits HB.out).2
 clear hb3 NO hA3
 go_wp2_with fail
 rw [← hBB, ← hW3]
 clear hBB hW3 p0 p1 f0 f1
 go_loopw [23] (fun kk wr => ∃ (k : Nat) (uv : Value), k ≤ cn ∧ kk = .int .i64 k ∧ Hid (MkI wr w.heap.size BB { ops := [], cols := C, outs := outsOf k, tr := [], bad := false } (.slice ca C.length cc) uv (.slice none 0 0)) ∧ Hid (LowI XJ w.heap.size E0 wr)) (fun kk _ => cn - (intOf kk).toNat)
 case atStart => exact ⟨0, _, Nat.zero_le _, rfl, M3, A3⟩
 case round =>
  obtain ⟨k, uv, hk, rfl, hM, hB⟩ := hrel
  have hi0 : (0 : Int) ≤ (k : Int) := by omega
  obtain ⟨p0, p1, p2, p3⟩ := cells4 hM.out.box
  have f1 : wr.frozen? ⟨BB, 1, none⟩ = false := by simp [World.frozen?, hM.out.box]
  have hbs : w.heap.size ≤ wr.heap.size := Nat.le_trans hE1 hB.out.size
  by_cases hlt : k < cn
  · have hi1 : (k : Int) < (cn : Int) := by omega
   obtain ⟨ua, uc, rfl⟩ := slice_of_own hM.out.outs
   have hol := outsOf_len k
   have HM := hid hM.out
   have HB2 := hid hB.out
   have hlk : (outsOf k).length ≤ 1000 := by rw [hol]; omega
   clear hM hB p0 p2 p3 hol
   go_wp2_with (at_builtin; refine wpList_append_own _ rfl _ _ 27 rfl w.heap.size 51 j0 (.agg #[.int .i64 0, .int .i64 0, .bool false]) 3 24 Tryz.underlying27 htj hy0 hy1 hy2 rfl (by decide) (.slice ua (outsOf k).length uc) (outsOf k).length (flatFu (outsOf k)) rfl (HM.out.outs.alloc _) ⟨wr.heap.size, 0, none⟩ 1 1 [.int .i64 k, .int .i64 (-1), .bool false] rfl rfl (cells3N15 wr _ _ _ _) (by intro u hu; simp at hu; rcases hu with rfl | rfl | rfl <;> rfl) (by unfold maxLen; omega) (by omega) (by simp; omega) ?_)
   intro v5 w5 own5 hgrow hnn
   obtain ⟨a5, c5, rfl⟩ := slice_of_own own5
   obtain ⟨hB5, M6, K6⟩ := HM.out.pushOuts (o := ((k : Int), -1, false)) ((Below.refl wr.heap.size wr).alloc (Nat.le_refl _) _) hgrow own5
   have F1 := hid (p := MkI (w5.setCell ⟨BB, 1, none⟩ (.slice a5 ((outsOf k).length + 1) c5)) w.heap.size BB { ops := [], cols := C, outs := outsOf (k + 1), tr := [], bad := false } (.slice ca C.length cc) (.slice a5 ((outsOf k).length + 1) c5) (.slice none 0 0)) (by rw [outsOf_snoc]; exact M6)
   have F2 := hid (HB2.out.trans (keep_lowJ HM.out hbs K6))
   obtain ⟨q0, q1, q2, q3⟩ := cells4 hB5
   have g1 : w5.frozen? ⟨BB, 1, none⟩ = false := by simp [World.frozen?, hB5]
   clear own5 hgrow hnn M6 K6 hB5 q0 q2 q3
   go_wp2
   go_roundw
   case rel => exact ⟨k + 1, _, by omega, by go_num, F1, F2⟩
   case measure => simp [intOf]; omega
  · have hkl : k = cn := by omega
   subst hkl
   have hnn : ¬ (k : Int) < (k : Int) := by omega
   have HM := hid (p := MkI wr w.heap.size BB (startM C) (.slice ca C.length cc) uv (.slice none 0 0)) (by
    have h := hM.out
    unfold startM
    rw [hC3]
    rw [hC3] at h
    exact h)
   have HB2 := hid hB.out
   clear hM hB p0 p1 p2 p3 f1 hi0 hnn hlt hk
   obtain ⟨wO, hwO⟩ : ∃ x, x = wr := ⟨_, rfl⟩
   subst hwO
   go_wp2
   go_loopw [36] (fun kk wr => ∃ (j : Nat) (M' : Mkr) (cv' uv' ov' : Value), j ≤ n ∧ kk = .int .i64 j ∧ Hid (MkI wr w.heap.size BB M' cv' uv' ov') ∧ Hid (LowI XJ w.heap.size E0 wr) ∧ Hid (runP (startM C) (L.take j) = some M')) (fun kk _ => n - (intOf kk).toNat)
   case atStart => exact ⟨0, _, _, _, _, Nat.zero_le _, rfl, HM, HB2, rfl⟩
   case round =>
    obtain ⟨j, M', cv', uv', ov', hj, rfl, hM, hB, hst⟩ := hrel
    obtain ⟨p0, p1, p2, p3⟩ := cells4 hM.out.box
    have hi0 : (0 : Int) ≤ (j : Int) := by omega
    have hbs : w.heap.size ≤ wr.heap.size := Nat.le_trans hE1 hB.out.size
    have hbE : Below w.heap.size w wr := hA.trans hB.out.bel
    by_cases hlt : j < n
    · have hi1 : (j : Int) < (n : Int) := by omega
     have hlt' : j < L.length := by rw [HN.out]; exact hlt
     obtain ⟨j1, j2, j3⟩ := runP_good HB.out j M' (by omega) hst.out
     obtain ⟨g1, o1, na1, nc1, sa1, sc1, rfl, hgw1, ⟨c0, c1, c2, c3, c4, c5, c6⟩, hsv⟩ := HL.out j hlt'
     have hml := hLM _ (List.getElem_mem hlt')
     have key : ∀ p, wr.cell? ⟨g1, p, none⟩ = w.cell? ⟨g1, p, none⟩ := fun p => hbE.cell (p := ⟨g1, p, none⟩) hgw1
     rw [← key] at c0 c1 c2 c3 c4 c5 c6
     have HST := hid (fun (q : Option Mkr) (e : stepP M' L[j] = q) => show runP (startM C) (L.take (j + 1)) = q by rw [runP_snoc _ L j hlt', hst.out]; exact e)
     generalize L[j]'hlt' = s at c0 c1 c2 c3 c4 c5 c6 hsv hml HST
     obtain ⟨kd, nm1, N, S, dn, ct, sk⟩ := s
     dsimp only at c0 c1 c2 c3 c4 c5 c6
     obtain ⟨nn, hnn⟩ : ∃ m, N.length = m := ⟨_, rfl⟩
     obtain ⟨sn, hsn⟩ : ∃ m, S.length = m := ⟨_, rfl⟩
     rw [hnn] at c2
     rw [hsn] at c3
     have e30 := j1.tr
     obtain ⟨V, hV⟩ : ∃ z, z = wr.alloc (.cells #[.int .i64 kd, .string nm1, .slice na1 nn nc1, .slice sa1 sn sc1, .bool dn, .int .i64 ct, .int .i64 sk] 55) := ⟨_, rfl⟩
     have hbV : Below wr.heap.size wr V := by rw [hV]; exact (Below.refl _ _).alloc (Nat.le_refl _) _
     have hwV : Below w.heap.size w V := chain hbE hbV
     have HLV := hid (hB.out.trans (LowI.of (X := XJ) hbs hbV))
     have HSV := hid (takes_impl BB w.heap.size M' kd nm1 na1 nn nc1 N hnn sa1 sn sc1 S hsn dn ct sk cv' uv' ov' V (hM.out.below hbV) j1 j3 (fun w' hw => hsv.below (hwV.trans hw)) (fun g o e hl => by
      obtain ⟨g', o', e', hg, _⟩ := hsv.names 0 hl
      rw [e] at e'
      cases e'
      exact hg) hml A (fun w' hw => hS.below (hwV.trans hw)) (by omega) hwV.size)
     clear j1 j2 j3 hsv key hnn hsn hlt' p0 p1 p2 p3 e30 hml hbV hwV
     go_wp2_with fail
     rw [← hV]
     clear hV
     refine HSV.out.mono ?_
     rintro e w2 ⟨ok, rfl, hL2, hq⟩
     have A4 := hid (HLV.out.trans hL2)
     have hr2 := (A4.out.kt _ _ _ HBX.out (by unfold XJ XI; decide)).trans HBX.out
     obtain ⟨r0, r1⟩ := cells2 hr2
     have f0 : w2.frozen? ⟨w.heap.size, 0, none⟩ = false := by simp [World.frozen?, hr2]
     have f1 : w2.frozen? ⟨w.heap.size, 1, none⟩ = false := by simp [World.frozen?, hr2]
     clear hL2 hr2 HSV c0 c1 c2 c3 c4 c5 c6 hM hB
     cases hs : stepP M' ⟨kd, nm1, N, S, dn, ct, sk⟩ with
     | none =>
      rw [hs] at hq
      have hq' : ok = false := hq
      have FIN := hid (p := FastOutP w (fastR C L) (.returned (.tuple #[.agg #[.slice none 0 0, .slice none 0 0], .bool false])) ((w2.setCell ⟨w.heap.size, 0, none⟩ (.slice none 0 0)).setCell ⟨w.heap.size, 1, none⟩ (.slice none 0 0))) (by
       rw [HE.out, runP_stop (HST.out _ hs)]
       exact fastP_none (((hA.trans A4.out.bel).setCell (p := ⟨w.heap.size, 0, none⟩) (Nat.le_refl _) _).setCell (p := ⟨w.heap.size, 1, none⟩) (Nat.le_refl _) _))
      clear hq hs HST
      subst hq'
      go_wp2_with fail
      exact bodyPost_ret (v := .tuple #[.agg #[.slice none 0 0, .slice none 0 0], .bool false]) (by simp [results, Tryz.results9, go_sem, r0, r1]) rfl FIN.out
     | some M2 =>
      rw [hs] at hq
      have hq' : ok = true ∧ ∃ cv uv ov, MkI w2 w.heap.size BB M2 cv uv ov := hq
      obtain ⟨e1, cv2, uv2, ov2, hM2⟩ := hq'
      have A1 := hid hM2
      have A5 := hid (HST.out _ hs)
      clear hq hs HST hM2 r0 r1 f0 f1
      subst e1
      go_wp2
      go_roundw
      case rel => exact ⟨j + 1, M2, cv2, uv2, ov2, by omega, by go_num, A1, A4, A5⟩
      case measure => simp [intOf]; omega
    · have hkl : j = n := by omega
     subst hkl
     have hnn : ¬ (j : Int) < (j : Int) := by omega
     have hyes := hst.out
     rw [List.take_of_length_le (by rw [HN.out]; exact Nat.le_refl _)] at hyes
     have hr2 := (hB.out.kt _ _ _ HBX.out (by unfold XJ XI; decide)).trans HBX.out
     have HR2 := hid hr2
     obtain ⟨r0, r1⟩ := cells2 hr2
     have f0 : wr.frozen? ⟨w.heap.size, 0, none⟩ = false := by simp [World.frozen?, hr2]
     have f1 : wr.frozen? ⟨w.heap.size, 1, none⟩ = false := by simp [World.frozen?, hr2]
     obtain ⟨oa, oc, rfl⟩ := slice_of_own hM.out.ops
     obtain ⟨ua, uc, rfl⟩ := slice_of_own hM.out.outs
     have FIN := hid (p := FastOutP w (fastR C L) (.returned (.tuple #[.agg #[.slice oa M'.ops.length oc, .slice ua M'.outs.length uc], .bool true])) ((wr.setCell ⟨w.heap.size, 0, none⟩ (.slice oa M'.ops.length oc)).setCell ⟨w.heap.size, 1, none⟩ (.slice ua M'.outs.length uc))) (by
      rw [HE.out, hyes]
      have K := ((KeepS.refl (fun b => b = w.heap.size) wr).setCell (p := ⟨w.heap.size, 0, none⟩) rfl (.slice oa M'.ops.length oc)).setCell (p := ⟨w.heap.size, 1, none⟩) rfl (.slice ua M'.outs.length uc)
      refine ⟨oa, _, oc, ua, _, uc, rfl, rfl, rfl, own_keepF hM.out.ops K (fun g e e2 => ?_), own_keepF hM.out.outs K (fun g e e2 => ?_), (hbE.setCell (p := ⟨w.heap.size, 0, none⟩) (Nat.le_refl _) _).setCell (p := ⟨w.heap.size, 1, none⟩) (Nat.le_refl _) _⟩
      · subst e2; exact own_box hM.out.ops HR2.out (by decide) e
      · subst e2; exact own_box hM.out.outs HR2.out (by decide) e)
     clear hr2 hyes hbE p0 p3
     go_wp2_with fail
     exact bodyPost_ret (v := .tuple #[.agg #[.slice oa M'.ops.length oc, .slice ua M'.outs.length uc], .bool true]) (by simp [results, Tryz.results9, go_sem, r0, r1]) rfl FIN.out
end Go.Proofs.YtjjkdbmjloolaaaGreatDoor
namespace Go.Proofs.YtjjkdbmjloolaaaGreatDoor
open Go.ChangeShapes Go.WideShapes Go.ChangeAt Go.RowKit
attribute [local go_sem ↓] Go.wp_at_zero Go.wp_at_succ
attribute [local simp] World.cell?_alloc_past World.cell?_alloc_at World.frozen?_alloc_at cell_far cell_off cell_here World.frozen?_alloc_past
theorem eqfast_laws (a b a2 b2 : Option Addr) (ca cb c2 d2 : Nat) (O : List FO) (U : List FU) (n m : Nat) (hn : O.length = n) (hm : U.length = m) (w : World) (ha : FoAt w a O) (hb : FuAt w b U) (ha2 : FoAt w a2 O) (hb2 : FuAt w b2 U) (hn1 : n ≤ maxLen) (hm1 : m ≤ maxLen) :
  Calls Tryz.prog 10 #[.agg #[.slice a n ca, .slice b m cb], .agg #[.slice a2 n c2, .slice b2 m d2]] w fun e w' => e = .returned (.bool true) ∧ Below w.heap.size w w' := by
 subst hn hm
 have HA := hid ha
 have HB := hid hb
 have HA2 := hid ha2
 have HB2 := hid hb2
 clear ha hb ha2 hb2
 go_enter Tryz.func10, Tryz.ntmps10
 have hA : Below w.heap.size w ((w.alloc (.cells #[.slice a O.length ca, .slice b U.length cb] 29)).alloc (.cells #[.slice a2 O.length c2, .slice b2 U.length d2] 29)) := ((Below.refl _ _).alloc (Nat.le_refl _) _).alloc (by simp) _
 go_wp2_with fail
 refine (eqsFo a a2 ca c2 O _ (HA.out.below hA) (HA2.out.below hA) hn1).mono ?_
 rintro e w1 ⟨rfl, hb1⟩
 have hx := chain hA hb1
 obtain ⟨hc, hf⟩ := bcell hb1
 have c1 : w1.cell? ⟨w.heap.size, 1, none⟩ = some (.slice b U.length cb) := by rw [hc _ _ (by simp; omega)]; simp
 have d1 : w1.cell? ⟨w.heap.size + 1, 1, none⟩ = some (.slice b2 U.length d2) := by rw [hc _ _ (by simp)]; simp
 clear hc hf hb1
 go_wp2_with fail
 refine (eqsFu b b2 cb d2 U _ (HB.out.below hx) (HB2.out.below hx) hm1).mono ?_
 rintro e w2 ⟨rfl, hb2⟩
 have hx2 := chain hx hb2
 clear hb2 c1 d1
 go_wp2
 go_ret
 exact ⟨rfl, hx2⟩
end Go.Proofs.YtjjkdbmjloolaaaGreatDoor
