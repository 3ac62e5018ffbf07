/-
  A part of the proof: Swap.
-/
import Derived.Test.YtegnekbbbfncgaaGreatDoorPart17
import Derived.Test.YtegnekbbbfncgaaGreatDoorPart18
import Derived.Test.YtegnekbbbfncgaaGreatDoorPart19
import Derived.Test.YtegnekbbbfncgaaGreatDoorPart26
import Derived.Deep.RegionHeld3
import Derived.Test.YtegnekbbbfncgaaGreatDoorPart24

/-
  MaySwap, of the model and of the program.
-/
namespace Go.Proofs.YtegnekbbbfncgaaGreatDoor
open Go.ChangeShapes Go.WideShapes Go.ChangeAt Go.RowKit
attribute [local go_sem ↓] Go.wp_at_zero Go.wp_at_succ
attribute [local simp] World.cell?_alloc_past World.cell?_alloc_at World.frozen?_alloc_at cell_far cell_off cell_here World.frozen?_alloc_past

/-- What MaySwap answers. -/
def swapR (s t : SV) : Bool := sieveB s && (sieveB t && (decide (t.kind = 2) && (if s.kind = 3 then !mayR s.sum && !inB (namesR t.sum) s.name else if s.kind = 4 then (namesR t.sum).all (inB s.names) else if s.kind = 8 then sureR t.sum else if s.kind = 2 then sureR s.sum && sureR t.sum else false)))
theorem at_ge {l : List ByteArray} {s : ByteArray} {r : Int} (h : AtIs l s r) : decide ((0 : Int) ≤ r) = inB l s := by
  rcases h with ⟨rfl, hn⟩ | ⟨k, hk, rfl, he, _⟩
  · have : inB l s = false := by
      rw [Bool.eq_false_iff]
      exact fun h => hn (inB_iff.1 h)
    rw [this]; rfl
  · have : inB l s = true := inB_iff.2 (he ▸ List.getElem_mem hk)
    rw [this]; simp
/-- Two boxes at the bottom of a call, as later worlds have them. -/
theorem two_boxes (w : World) (x y : Obj) : ∃ E0, ((w.alloc x).alloc y) = E0 ∧ Below w.heap.size w E0 ∧ E0.heap[w.heap.size]? = some x ∧ E0.heap[w.heap.size + 1]? = some y :=
  ⟨_, rfl, ((Below.refl _ _).alloc (Nat.le_refl _) _).alloc (by simp) _, (_root_.Go.heap_alloc_old _ _ (by simp)).trans (_root_.Go.heap_alloc_new _ _), (show (w.alloc x).heap.size = w.heap.size + 1 by simp) ▸ _root_.Go.heap_alloc_new (w.alloc x) _⟩
set_option maxHeartbeats 1000000 in
theorem uses_spec (a : Option Addr) (cap : Nat) (l : List TI) (n : Nat) (hn : l.length = n) (s : ByteArray) (w : World) (hrow : ItmAt w a l) (hfit : FitItm l) (hm : n ≤ maxLen) (b : Bool) (hb : inB (namesR l) s = b) :
    Calls Tryz.prog 65 #[.slice a n cap, .string s] w fun e w' => e = .returned (.bool b) ∧ Below w.heap.size w w' := by
  have HC : Hid (Calls Tryz.prog 66 #[.slice a n cap] w (TxPost w (namesR l))) := namesof_spec a cap l n hn w hrow hfit hm
  have HB : Hid (inB (namesR l) s = b) := hb
  clear hrow hfit hn hb
  go_enter Tryz.func65, Tryz.ntmps65
  go_wp2_with fail
  refine HC.out.mono ?_
  rintro e w1 ⟨g, c, rfl, hlc, hcm, hst, hb1⟩
  have HS1 : Hid (StrsAt w1 (some ⟨g, 0, none⟩) (namesR l)) := hst
  clear hst
  go_wp2_with fail
  refine (at_specN _ _ _ (namesR l) rfl s _ HS1.out (by omega)).mono ?_
  rintro e w2 ⟨r, rfl, hat, hb2⟩
  have hx := chain hb1 hb2
  have hr : decide ((0 : Int) ≤ r) = b := (at_ge hat).trans HB.out
  clear hat hb1 hb2 HB HC HS1
  cases b
  · have h0 : ¬ (0 : Int) ≤ r := of_decide_eq_false hr
    clear hr
    go_wp2
    go_ret
    exact ⟨ret_bool (decide_eq_false (by omega)), hx⟩
  · have h0 : (0 : Int) ≤ r := of_decide_eq_true hr
    clear hr
    go_wp2
    go_ret
    exact ⟨rfl, hx⟩

set_option maxRecDepth 100000 in
set_option maxHeartbeats 4000000 in
theorem swap_spec (kd : Int) (nm : ByteArray) (na : Option Addr) (nn nc : Nat) (N : List ByteArray) (hnn : N.length = nn) (sa : Option Addr) (sn sc : Nat) (S : List TI) (hsn : S.length = sn) (dn : Bool) (ct sk : Int) (kt : Int) (mt : ByteArray) (ma : Option Addr) (mn mc : Nat) (M : List ByteArray) (hmn : M.length = mn) (ra : Option Addr) (rn rc : Nat) (R : List TI) (hrn : R.length = rn) (dt : Bool) (tt st : Int) (w : World) (hs : SivAt w na nc sa ⟨kd, nm, N, S, dn, ct, sk⟩) (ht : SivAt w ma mc ra ⟨kt, mt, M, R, dt, tt, st⟩) (b : Bool) (hb : swapR ⟨kd, nm, N, S, dn, ct, sk⟩ ⟨kt, mt, M, R, dt, tt, st⟩ = b) :
    Calls Tryz.prog 33 #[.agg #[.int .i64 kd, .string nm, .slice na nn nc, .slice sa sn sc, .bool dn, .int .i64 ct, .int .i64 sk], .agg #[.int .i64 kt, .string mt, .slice ma mn mc, .slice ra rn rc, .bool dt, .int .i64 tt, .int .i64 st]] w fun e w' => e = .returned (.bool b) ∧ Below w.heap.size w w' := by
  obtain ⟨b1, hb1⟩ : ∃ x, sieveB ⟨kd, nm, N, S, dn, ct, sk⟩ = x := ⟨_, rfl⟩
  obtain ⟨b2, hb2⟩ : ∃ x, sieveB ⟨kt, mt, M, R, dt, tt, st⟩ = x := ⟨_, rfl⟩
  obtain ⟨y, hy⟩ : ∃ x, mayR S = x := ⟨_, rfl⟩
  obtain ⟨u, hu⟩ : ∃ x, inB (namesR R) nm = x := ⟨_, rfl⟩
  obtain ⟨q, hq⟩ : ∃ x, (namesR R).all (inB N) = x := ⟨_, rfl⟩
  obtain ⟨z1, hz1⟩ : ∃ x, sureR S = x := ⟨_, rfl⟩
  obtain ⟨z2, hz2⟩ : ∃ x, sureR R = x := ⟨_, rfl⟩
  have HB : Hid ((b1 && (b2 && (decide (kt = 2) && (if kd = 3 then !y && !u else if kd = 4 then q else if kd = 8 then z2 else if kd = 2 then z1 && z2 else false)))) = b) := by
    have h : (b1 && (b2 && (decide (kt = 2) && (if kd = 3 then !y && !u else if kd = 4 then q else if kd = 8 then z2 else if kd = 2 then z1 && z2 else false)))) = b := by
      rw [← hb, ← hb1, ← hb2, ← hy, ← hu, ← hq, ← hz1, ← hz2]; rfl
    exact h
  have CS : Hid (∀ w', Below w.heap.size w w' → Calls Tryz.prog 63 #[.agg #[.int .i64 kd, .string nm, .slice na nn nc, .slice sa sn sc, .bool dn, .int .i64 ct, .int .i64 sk]] w' fun e w'' => e = .returned (.bool b1) ∧ Below w'.heap.size w' w'') := by
    have h : ∀ w', Below w.heap.size w w' → Calls Tryz.prog 63 #[.agg #[.int .i64 kd, .string nm, .slice na nn nc, .slice sa sn sc, .bool dn, .int .i64 ct, .int .i64 sk]] w' fun e w'' => e = .returned (.bool b1) ∧ Below w'.heap.size w' w'' := fun w' hw => sieve_spec kd nm na nn nc N hnn sa sn sc S hsn dn ct sk w' hs.name (hs.names.below hw) hs.fitN (by rw [← hnn]; exact hs.lenN) (by rw [← hnn]; exact hs.capN) (hs.sum.below hw) hs.fitI (by rw [← hsn]; exact hs.lenI) b1 hb1
    exact h
  have CT : Hid (∀ w', Below w.heap.size w w' → Calls Tryz.prog 63 #[.agg #[.int .i64 kt, .string mt, .slice ma mn mc, .slice ra rn rc, .bool dt, .int .i64 tt, .int .i64 st]] w' fun e w'' => e = .returned (.bool b2) ∧ Below w'.heap.size w' w'') := by
    have h : ∀ w', Below w.heap.size w w' → Calls Tryz.prog 63 #[.agg #[.int .i64 kt, .string mt, .slice ma mn mc, .slice ra rn rc, .bool dt, .int .i64 tt, .int .i64 st]] w' fun e w'' => e = .returned (.bool b2) ∧ Below w'.heap.size w' w'' := fun w' hw => sieve_spec kt mt ma mn mc M hmn ra rn rc R hrn dt tt st w' ht.name (ht.names.below hw) ht.fitN (by rw [← hmn]; exact ht.lenN) (by rw [← hmn]; exact ht.capN) (ht.sum.below hw) ht.fitI (by rw [← hrn]; exact ht.lenI) b2 hb2
    exact h
  have CM : Hid (∀ w', Below w.heap.size w w' → Calls Tryz.prog 64 #[.slice sa sn sc] w' fun e w'' => e = .returned (.bool y) ∧ Below w'.heap.size w' w'') := by
    have h : ∀ w', Below w.heap.size w w' → Calls Tryz.prog 64 #[.slice sa sn sc] w' fun e w'' => e = .returned (.bool y) ∧ Below w'.heap.size w' w'' := fun w' hw => may_specb sa sc S sn hsn w' (hs.sum.below hw) hs.fitI (by rw [← hsn]; exact hs.lenI) y hy
    exact h
  have CU : Hid (∀ w', Below w.heap.size w w' → Calls Tryz.prog 65 #[.slice ra rn rc, .string nm] w' fun e w'' => e = .returned (.bool u) ∧ Below w'.heap.size w' w'') := by
    have h : ∀ w', Below w.heap.size w w' → Calls Tryz.prog 65 #[.slice ra rn rc, .string nm] w' fun e w'' => e = .returned (.bool u) ∧ Below w'.heap.size w' w'' := fun w' hw => uses_spec ra rc R rn hrn nm w' (ht.sum.below hw) ht.fitI (by rw [← hrn]; exact ht.lenI) u hu
    exact h
  have C1 : Hid (∀ w', Below w.heap.size w w' → Calls Tryz.prog 68 #[.slice sa sn sc] w' fun e w'' => e = .returned (.bool z1) ∧ Below w'.heap.size w' w'') := by
    have h : ∀ w', Below w.heap.size w w' → Calls Tryz.prog 68 #[.slice sa sn sc] w' fun e w'' => e = .returned (.bool z1) ∧ Below w'.heap.size w' w'' := fun w' hw => sure_spec sa sc S sn hsn w' (hs.sum.below hw) hs.fitI (by rw [← hsn]; exact hs.lenI) z1 hz1
    exact h
  have C2 : Hid (∀ w', Below w.heap.size w w' → Calls Tryz.prog 68 #[.slice ra rn rc] w' fun e w'' => e = .returned (.bool z2) ∧ Below w'.heap.size w' w'') := by
    have h : ∀ w', Below w.heap.size w w' → Calls Tryz.prog 68 #[.slice ra rn rc] w' fun e w'' => e = .returned (.bool z2) ∧ Below w'.heap.size w' w'' := fun w' hw => sure_spec ra rc R rn hrn w' (ht.sum.below hw) ht.fitI (by rw [← hrn]; exact ht.lenI) z2 hz2
    exact h
  have CN : Hid (∀ w', Below w.heap.size w w' → Calls Tryz.prog 66 #[.slice ra rn rc] w' (TxPost w' (namesR R))) := by
    have h : ∀ w', Below w.heap.size w w' → Calls Tryz.prog 66 #[.slice ra rn rc] w' (TxPost w' (namesR R)) := fun w' hw => namesof_spec ra rc R rn hrn w' (ht.sum.below hw) ht.fitI (by rw [← hrn]; exact ht.lenI)
    exact h
  have HNS : Hid (StrsAt w na N) := hs.names
  have hnM : nn ≤ maxLen := by rw [← hnn]; exact hs.lenN
  have HNN : Hid (N.length = nn) := hnn
  have HQ : Hid ((namesR R).all (inB N) = q) := hq
  obtain ⟨E0, hE0, hA, hBS, hBT⟩ := two_boxes w (.cells #[.int .i64 kd, .string nm, .slice na nn nc, .slice sa sn sc, .bool dn, .int .i64 ct, .int .i64 sk] 43) (.cells #[.int .i64 kt, .string mt, .slice ma mn mc, .slice ra rn rc, .bool dt, .int .i64 tt, .int .i64 st] 43)
  have HBS : Hid (E0.heap[w.heap.size]? = some (.cells #[.int .i64 kd, .string nm, .slice na nn nc, .slice sa sn sc, .bool dn, .int .i64 ct, .int .i64 sk] 43)) := hBS
  have HBT : Hid (E0.heap[w.heap.size + 1]? = some (.cells #[.int .i64 kt, .string mt, .slice ma mn mc, .slice ra rn rc, .bool dt, .int .i64 tt, .int .i64 st] 43)) := hBT
  have HE0 : Hid (((w.alloc (.cells #[.int .i64 kd, .string nm, .slice na nn nc, .slice sa sn sc, .bool dn, .int .i64 ct, .int .i64 sk] 43)).alloc (.cells #[.int .i64 kt, .string mt, .slice ma mn mc, .slice ra rn rc, .bool dt, .int .i64 tt, .int .i64 st] 43)) = E0) := hE0
  have P0 := Kept.refl w.heap.size E0
  clear hb hb1 hb2 hy hu hq hz1 hz2 hs ht hnn hsn hmn hrn hE0 hBS hBT
  go_enter Tryz.func33, Tryz.ntmps33
  obtain ⟨p0, p1, p2, p3, p4, p5, p6⟩ := cells7 HBS.out
  rw [← HE0.out] at p0 p1 p2 p3 p4 p5 p6
  go_wp2_with fail
  rw [HE0.out]
  clear p0 p1 p2 p3 p4 p5 p6
  refine (CS.out _ hA).mono ?_
  rintro e w1 ⟨rfl, h⟩
  have P1 := P0.below h
  have hx := chain hA h
  clear h
  cases b1
  · obtain rfl : false = b := HB.out
    go_wp2
    go_ret
    exact ⟨rfl, hx⟩
  obtain ⟨t0, t1, t2, t3, t4, t5, t6⟩ := cells7 (P1.box (by omega) HBT.out)
  go_wp2_with fail
  refine (CT.out _ hx).mono ?_
  rintro e w2 ⟨rfl, h⟩
  have P2 := P1.below h
  replace hx := chain hx h
  clear h t0 t1 t2 t3 t4 t5 t6
  cases b2
  · obtain rfl : false = b := HB.out
    go_wp2
    go_ret
    exact ⟨rfl, hx⟩
  obtain ⟨t0, t1, t2, t3, t4, t5, t6⟩ := cells7 (P2.box (by omega) HBT.out)
  by_cases hk : kt = 2
  case neg =>
    obtain rfl : false = b := by rw [← HB.out]; simp [hk]
    go_wp2
    go_ret
    exact ⟨rfl, hx⟩
  subst hk
  obtain ⟨p0, p1, p2, p3, p4, p5, p6⟩ := cells7 (P2.box (Nat.le_refl _) HBS.out)
  by_cases k3 : kd = 3
  · subst k3
    go_wp2_with fail
    refine (CM.out _ hx).mono ?_
    rintro e w3 ⟨rfl, h⟩
    have P3 := P2.below h
    replace hx := chain hx h
    clear h p0 p1 p2 p3 p4 p5 p6 t0 t1 t2 t3 t4 t5 t6
    cases y
    · obtain ⟨p0, p1, p2, p3, p4, p5, p6⟩ := cells7 (P3.box (Nat.le_refl _) HBS.out)
      obtain ⟨t0, t1, t2, t3, t4, t5, t6⟩ := cells7 (P3.box (by omega) HBT.out)
      go_wp2_with fail
      refine (CU.out _ hx).mono ?_
      rintro e w4 ⟨rfl, h⟩
      replace hx := chain hx h
      clear h
      obtain rfl : (!u) = b := HB.out
      clear HB
      cases u
      · go_wp2
        go_ret
        exact ⟨rfl, hx⟩
      · go_wp2
        go_ret
        exact ⟨rfl, hx⟩
    · obtain rfl : false = b := HB.out
      go_wp2
      go_ret
      exact ⟨rfl, hx⟩
  by_cases k4 : kd = 4
  · subst k4
    obtain rfl : q = b := HB.out
    go_wp2_with fail
    refine (CN.out _ hx).mono ?_
    rintro e w3 ⟨g, c, rfl, hlc, hcm, hst, h⟩
    have P3 := P2.below h
    replace hx := chain hx h
    have HST : Hid (StrsAt w3 (some ⟨g, 0, none⟩) (namesR R)) := hst
    clear h hst p0 p1 p2 p3 p4 p5 p6 t0 t1 t2 t3 t4 t5 t6 CN CU CM CS CT C1 C2
    obtain ⟨D, hD⟩ : ∃ D, namesR R = D := ⟨_, rfl⟩
    rw [hD] at HST HQ hlc ⊢
    clear hD
    unfold maxLen at hcm
    go_wp2
    go_loopw [6] (fun kk wr => ∃ k : Nat, k ≤ D.length ∧ kk = .int .i64 k ∧ Hid ((D.take k).all (inB N) = true) ∧ Below w3.heap.size w3 wr) (fun kk _ => D.length - (intOf kk).toNat)
    case atStart => exact ⟨0, Nat.zero_le _, rfl, rfl, Below.refl _ _⟩
    case round =>
      obtain ⟨k, hk, rfl, hall, hbw⟩ := hrel
      by_cases hlt : k < D.length
      · obtain ⟨g', o', e', hgw, c0⟩ := HST.out.below hbw k hlt
        injection e' with e'
        injection e' with e1 e2
        subst e1 e2
        rw [Nat.zero_add] at c0
        have hi0 : (0 : Int) ≤ (k : Int) := by omega
        have hi1 : (k : Int) < (D.length : Int) := by omega
        have HTk : Hid ((D.take (k + 1)).all (inB N) = inB N D[k]) := by
          have : (D.take (k + 1)).all (inB N) = inB N D[k] := by
            rw [List.take_succ_eq_append_getElem hlt, List.all_append, hall.out, Bool.true_and, List.all_cons, List.all_nil, Bool.and_true]
          exact this
        have hno : Hid (inB N D[k] = false → q = false) := by
          have : inB N D[k] = false → q = false := by
            intro e
            rw [← HQ.out, Bool.eq_false_iff]
            intro h
            rw [List.all_eq_true.1 h _ (List.getElem_mem hlt)] at e
            cases e
          exact this
        obtain ⟨p0, p1, p2, p3, p4, p5, p6⟩ := cells7 ((P3.below hbw).box (Nat.le_refl _) HBS.out)
        generalize D[k] = x at c0 HTk hno
        go_wp2_with fail
        have hxw := chain hx hbw
        have PW := P3.below hbw
        have HW : Hid (StrsAt wr (some ⟨g, 0, none⟩) D) := HST.out.below hbw
        go_region_held3 (fun w' => w'.cell? ⟨w.heap.size, 2, none⟩ = some (.slice na nn nc) ∧ w'.cell? ⟨g, k, none⟩ = some (.string x))
          (((try dsimp only); (repeat' apply And.intro) <;> first | (go_keep; done) | (simp (disch := first | omega | (simp <;> omega) | fail) [*]; done) | fail))
          (first
            | (go_at_call 67
               refine (at_specN nn na nc N HNN.out x _ (by first | exact HNS.out.below hxw | exact HNS.out.below hxw.drew) hnM).mono ?_
               rintro e wA ⟨r, rfl, hat, hb⟩
               have hbA : Below wr.heap.size wr wA := (by first | exact hb | exact undrew hb)
               obtain ⟨p0, p1, p2, p3, p4, p5, p6⟩ := cells7 ((PW.below hbA).box (Nat.le_refl _) HBS.out)
               have c0 : wA.cell? ⟨g, k, none⟩ = some (.string x) := (hbA.cell (p := ⟨g, k, none⟩) hgw).trans c0
               clear hb))
        have hge := at_ge hat
        clear hat
        by_cases hr : r < 0
        · have e : q = false := hno.out (by rw [← hge]; exact decide_eq_false (by omega))
          subst e
          clear hge
          go_wp2
          go_ret
          exact ⟨rfl, chain hx (chain hbw hbA)⟩
        · have hr0 : (0 : Int) ≤ r := by omega
          have hin : inB N x = true := by rw [← hge]; exact decide_eq_true hr0
          have hT : Hid ((D.take (k + 1)).all (inB N) = true) := by rw [HTk.out]; exact hin
          clear hge hin
          go_wp2
          go_roundw
          case rel => exact ⟨k + 1, by omega, by go_num, hT, chain hbw hbA⟩
          case measure => simp [intOf]; omega
      · have hkl : k = D.length := by omega
        subst hkl
        have hnn : ¬ (D.length : Int) < (D.length : Int) := by omega
        have e : q = true := by
          rw [← HQ.out]
          have := hall.out
          rw [List.take_length] at this
          exact this
        subst e
        go_wp2
        go_ret
        exact ⟨rfl, chain hx hbw⟩
  by_cases k8 : kd = 8
  · subst k8
    obtain rfl : z2 = b := HB.out
    go_wp2_with fail
    refine (C2.out _ hx).mono ?_
    rintro e w3 ⟨rfl, h⟩
    replace hx := chain hx h
    clear h
    go_wp2
    go_ret
    exact ⟨rfl, hx⟩
  by_cases k2 : kd = 2
  · subst k2
    obtain rfl : (z1 && z2) = b := HB.out
    go_wp2_with fail
    refine (C1.out _ hx).mono ?_
    rintro e w3 ⟨rfl, h⟩
    have P3 := P2.below h
    replace hx := chain hx h
    clear h HB p0 p1 p2 p3 p4 p5 p6 t0 t1 t2 t3 t4 t5 t6
    cases z1
    · go_wp2
      go_ret
      exact ⟨rfl, hx⟩
    · obtain ⟨t0, t1, t2, t3, t4, t5, t6⟩ := cells7 (P3.box (by omega) HBT.out)
      go_wp2_with fail
      refine (C2.out _ hx).mono ?_
      rintro e w4 ⟨rfl, h⟩
      replace hx := chain hx h
      clear h
      go_wp2
      go_ret
      exact ⟨rfl, hx⟩
  obtain rfl : false = b := by rw [← HB.out]; simp [k3, k4, k8, k2]
  go_wp2
  go_ret
  exact ⟨rfl, hx⟩
set_option maxRecDepth 100000 in
set_option maxHeartbeats 4000000 in
theorem swap_impl (kd : Int) (nm : ByteArray) (na : Option Addr) (nn nc : Nat) (N : List ByteArray) (hnn : N.length = nn) (sa : Option Addr) (sn sc : Nat) (S : List TI) (hsn : S.length = sn) (dn : Bool) (ct sk : Int) (kt : Int) (mt : ByteArray) (ma : Option Addr) (mn mc : Nat) (M : List ByteArray) (hmn : M.length = mn) (ra : Option Addr) (rn rc : Nat) (R : List TI) (hrn : R.length = rn) (dt : Bool) (tt st : Int) (w : World) (hs : SivAt w na nc sa ⟨kd, nm, N, S, dn, ct, sk⟩) (ht : SivAt w ma mc ra ⟨kt, mt, M, R, dt, tt, st⟩) (hms : MildV ⟨kd, nm, N, S, dn, ct, sk⟩) (hmt : MildV ⟨kt, mt, M, R, dt, tt, st⟩) (hp : PowAt w) (he : ErrAt w) (hcol : ColAt w) (b : Bool) (hb : swapR ⟨kd, nm, N, S, dn, ct, sk⟩ ⟨kt, mt, M, R, dt, tt, st⟩ = b) :
    Calls Tryz.prog 34 #[.agg #[.int .i64 kd, .string nm, .slice na nn nc, .slice sa sn sc, .bool dn, .int .i64 ct, .int .i64 sk], .agg #[.int .i64 kt, .string mt, .slice ma mn mc, .slice ra rn rc, .bool dt, .int .i64 tt, .int .i64 st]] w fun e w' => e = .returned (.bool b) ∧ Below w.heap.size w w' := by
  obtain ⟨b1, hb1⟩ : ∃ x, sieveB ⟨kd, nm, N, S, dn, ct, sk⟩ = x := ⟨_, rfl⟩
  obtain ⟨b2, hb2⟩ : ∃ x, sieveB ⟨kt, mt, M, R, dt, tt, st⟩ = x := ⟨_, rfl⟩
  obtain ⟨y, hy⟩ : ∃ x, mayR S = x := ⟨_, rfl⟩
  obtain ⟨u, hu⟩ : ∃ x, inB (namesR R) nm = x := ⟨_, rfl⟩
  obtain ⟨q, hq⟩ : ∃ x, (namesR R).all (inB N) = x := ⟨_, rfl⟩
  obtain ⟨z1, hz1⟩ : ∃ x, sureR S = x := ⟨_, rfl⟩
  obtain ⟨z2, hz2⟩ : ∃ x, sureR R = x := ⟨_, rfl⟩
  have HB : Hid ((b1 && (b2 && (decide (kt = 2) && (if kd = 3 then !y && !u else if kd = 4 then q else if kd = 8 then z2 else if kd = 2 then z1 && z2 else false)))) = b) := by
    have h : (b1 && (b2 && (decide (kt = 2) && (if kd = 3 then !y && !u else if kd = 4 then q else if kd = 8 then z2 else if kd = 2 then z1 && z2 else false)))) = b := by
      rw [← hb, ← hb1, ← hb2, ← hy, ← hu, ← hq, ← hz1, ← hz2]; rfl
    exact h
  have CS : Hid (∀ w', Below w.heap.size w w' → Calls Tryz.prog 69 #[.agg #[.int .i64 kd, .string nm, .slice na nn nc, .slice sa sn sc, .bool dn, .int .i64 ct, .int .i64 sk]] w' fun e w'' => e = .returned (.bool b1) ∧ Below w'.heap.size w' w'') := by
    have h : ∀ w', Below w.heap.size w w' → Calls Tryz.prog 69 #[.agg #[.int .i64 kd, .string nm, .slice na nn nc, .slice sa sn sc, .bool dn, .int .i64 ct, .int .i64 sk]] w' fun e w'' => e = .returned (.bool b1) ∧ Below w'.heap.size w' w'' := fun w' hw => sieve_impl kd nm na nn nc N hnn sa sn sc S hsn dn ct sk w' (hp.below hw) (he.below hw) (hs.below hw) hms b1 hb1
    exact h
  have CT : Hid (∀ w', Below w.heap.size w w' → Calls Tryz.prog 69 #[.agg #[.int .i64 kt, .string mt, .slice ma mn mc, .slice ra rn rc, .bool dt, .int .i64 tt, .int .i64 st]] w' fun e w'' => e = .returned (.bool b2) ∧ Below w'.heap.size w' w'') := by
    have h : ∀ w', Below w.heap.size w w' → Calls Tryz.prog 69 #[.agg #[.int .i64 kt, .string mt, .slice ma mn mc, .slice ra rn rc, .bool dt, .int .i64 tt, .int .i64 st]] w' fun e w'' => e = .returned (.bool b2) ∧ Below w'.heap.size w' w'' := fun w' hw => sieve_impl kt mt ma mn mc M hmn ra rn rc R hrn dt tt st w' (hp.below hw) (he.below hw) (ht.below hw) hmt b2 hb2
    exact h
  have CM : Hid (∀ w', Below w.heap.size w w' → Calls Tryz.prog 71 #[.slice sa sn sc] w' fun e w'' => e = .returned (.bool y) ∧ Below w'.heap.size w' w'') := by
    have h : ∀ w', Below w.heap.size w w' → Calls Tryz.prog 71 #[.slice sa sn sc] w' fun e w'' => e = .returned (.bool y) ∧ Below w'.heap.size w' w'' := fun w' hw => may_impl sa sc S sn hsn w' (hs.sum.below hw) (mild_fitI hms) (by rw [← hsn]; exact hs.lenI) (hp.below hw) (he.below hw) y hy
    exact h
  have C1 : Hid (∀ w', Below w.heap.size w w' → Calls Tryz.prog 74 #[.slice sa sn sc] w' fun e w'' => e = .returned (.bool z1) ∧ Below w'.heap.size w' w'') := by
    have h : ∀ w', Below w.heap.size w w' → Calls Tryz.prog 74 #[.slice sa sn sc] w' fun e w'' => e = .returned (.bool z1) ∧ Below w'.heap.size w' w'' := fun w' hw => sure_impl sa sc S sn hsn w' (hs.sum.below hw) (mild_fitI hms) (by rw [← hsn]; exact hs.lenI) (hp.below hw) (he.below hw) z1 hz1
    exact h
  have C2 : Hid (∀ w', Below w.heap.size w w' → Calls Tryz.prog 74 #[.slice ra rn rc] w' fun e w'' => e = .returned (.bool z2) ∧ Below w'.heap.size w' w'') := by
    have h : ∀ w', Below w.heap.size w w' → Calls Tryz.prog 74 #[.slice ra rn rc] w' fun e w'' => e = .returned (.bool z2) ∧ Below w'.heap.size w' w'' := fun w' hw => sure_impl ra rc R rn hrn w' (ht.sum.below hw) (mild_fitI hmt) (by rw [← hrn]; exact ht.lenI) (hp.below hw) (he.below hw) z2 hz2
    exact h
  have CN : Hid (∀ w', Below w.heap.size w w' → Calls Tryz.prog 70 #[.slice ra rn rc] w' fun e w'' => ∃ v, e = .returned v ∧ AnsStr w'' w'.heap.size v (namesR R) ∧ Below w'.heap.size w' w'') := by
    have h : ∀ w', Below w.heap.size w w' → Calls Tryz.prog 70 #[.slice ra rn rc] w' fun e w'' => ∃ v, e = .returned v ∧ AnsStr w'' w'.heap.size v (namesR R) ∧ Below w'.heap.size w' w'' := fun w' hw => namesof_impl ra rc R rn hrn w' (ht.sum.below hw) (mild_fitI hmt) (by rw [← hrn]; exact ht.lenI) (hp.below hw) (he.below hw) _ rfl
    exact h
  have HNS : Hid (StrsAt w na N) := hs.names
  have hnM : nn ≤ maxLen := by rw [← hnn]; exact hs.lenN
  have HNN : Hid (N.length = nn) := hnn
  have HQ : Hid ((namesR R).all (inB N) = q) := hq
  have HU : Hid (inB (namesR R) nm = u) := hu
  have HCL : Hid (ColAt w) := hcol
  have hlen := namesR_len R
  obtain ⟨E0, hE0, hA, hBS, hBT⟩ := two_boxes w (.cells #[.int .i64 kd, .string nm, .slice na nn nc, .slice sa sn sc, .bool dn, .int .i64 ct, .int .i64 sk] 43) (.cells #[.int .i64 kt, .string mt, .slice ma mn mc, .slice ra rn rc, .bool dt, .int .i64 tt, .int .i64 st] 43)
  have HBS : Hid (E0.heap[w.heap.size]? = some (.cells #[.int .i64 kd, .string nm, .slice na nn nc, .slice sa sn sc, .bool dn, .int .i64 ct, .int .i64 sk] 43)) := hBS
  have HBT : Hid (E0.heap[w.heap.size + 1]? = some (.cells #[.int .i64 kt, .string mt, .slice ma mn mc, .slice ra rn rc, .bool dt, .int .i64 tt, .int .i64 st] 43)) := hBT
  have HE0 : Hid (((w.alloc (.cells #[.int .i64 kd, .string nm, .slice na nn nc, .slice sa sn sc, .bool dn, .int .i64 ct, .int .i64 sk] 43)).alloc (.cells #[.int .i64 kt, .string mt, .slice ma mn mc, .slice ra rn rc, .bool dt, .int .i64 tt, .int .i64 st] 43)) = E0) := hE0
  have P0 := Kept.refl w.heap.size E0
  clear hb hb1 hb2 hy hu hq hz1 hz2 hs ht hnn hsn hmn hrn hE0 hBS hBT hms hmt hp he hcol
  go_enter Tryz.func34, Tryz.ntmps34
  obtain ⟨p0, p1, p2, p3, p4, p5, p6⟩ := cells7 HBS.out
  rw [← HE0.out] at p0 p1 p2 p3 p4 p5 p6
  go_wp2_with fail
  rw [HE0.out]
  clear p0 p1 p2 p3 p4 p5 p6
  refine (CS.out _ hA).mono ?_
  rintro e w1 ⟨rfl, h⟩
  have P1 := P0.below h
  have hx := chain hA h
  clear h
  cases b1
  · obtain rfl : false = b := HB.out
    go_wp2
    go_ret
    exact ⟨rfl, hx⟩
  obtain ⟨t0, t1, t2, t3, t4, t5, t6⟩ := cells7 (P1.box (by omega) HBT.out)
  go_wp2_with fail
  refine (CT.out _ hx).mono ?_
  rintro e w2 ⟨rfl, h⟩
  have P2 := P1.below h
  replace hx := chain hx h
  clear h t0 t1 t2 t3 t4 t5 t6
  cases b2
  · obtain rfl : false = b := HB.out
    go_wp2
    go_ret
    exact ⟨rfl, hx⟩
  obtain ⟨t0, t1, t2, t3, t4, t5, t6⟩ := cells7 (P2.box (by omega) HBT.out)
  by_cases hk : kt = 2
  case neg =>
    obtain rfl : false = b := by rw [← HB.out]; simp [hk]
    go_wp2
    go_ret
    exact ⟨rfl, hx⟩
  subst hk
  go_wp2_with fail
  refine (CN.out _ hx).mono ?_
  rintro e w3 ⟨v, rfl, ⟨hown, hvn⟩, h⟩
  obtain ⟨g1, c1, rfl⟩ : ∃ g c, v = .slice (some ⟨g, 0, none⟩) (namesR R).length c := by
    rcases hown.2 with ⟨e', _⟩ | ⟨g, cap, cur, e', _⟩
    · exact absurd e' hvn
    · exact ⟨g, cap, e'⟩
  have HO : Hid (StrsAt w3 (some ⟨g1, 0, none⟩) (namesR R)) := own_strs hown
  have P3 := P2.below h
  replace hx := chain hx h
  have hlM : (namesR R).length ≤ maxLen := by unfold maxLen; omega
  clear h hown hvn t0 t1 t2 t3 t4 t5 t6 P2 CN
  obtain ⟨p0, p1, p2, p3, p4, p5, p6⟩ := cells7 (P3.box (Nat.le_refl _) HBS.out)
  obtain ⟨t0, t1, t2, t3, t4, t5, t6⟩ := cells7 (P3.box (by omega) HBT.out)
  obtain ⟨D, hD⟩ : ∃ D, namesR R = D := ⟨_, rfl⟩
  rw [hD] at HO HQ HU hlM hlen ⊢
  obtain ⟨nD, hnD⟩ : ∃ nD, D.length = nD := ⟨_, rfl⟩
  have HND : Hid (D.length = nD) := hnD
  rw [hnD] at hlM hlen ⊢
  clear hD hnD
  by_cases k3 : kd = 3
  · subst k3
    go_wp2_with fail
    refine (CM.out _ hx).mono ?_
    rintro e w4 ⟨rfl, h⟩
    have P4 := P3.below h
    have HO4 : Hid (StrsAt w4 (some ⟨g1, 0, none⟩) D) := HO.out.below h
    replace hx := chain hx h
    clear h p0 p1 p2 p3 p4 p5 p6 t0 t1 t2 t3 t4 t5 t6 HO
    cases y
    · obtain ⟨p0, p1, p2, p3, p4, p5, p6⟩ := cells7 (P4.box (Nat.le_refl _) HBS.out)
      go_wp2_with fail
      refine (contains_str nD _ _ D HND.out nm _ HO4.out hlM u HU.out).mono ?_
      rintro e w5 ⟨rfl, h⟩
      replace hx := chain hx h
      clear h
      obtain rfl : (!u) = b := HB.out
      clear HB HU
      cases u
      · go_wp2
        go_ret
        exact ⟨rfl, hx⟩
      · go_wp2
        go_ret
        exact ⟨rfl, hx⟩
    · obtain rfl : false = b := HB.out
      go_wp2
      go_ret
      exact ⟨rfl, hx⟩
  by_cases k4 : kd = 4
  · subst k4
    obtain rfl : q = b := HB.out
    go_wp2_with fail
    refine (all_there_col nn na nc N HNN.out nD _ _ D HND.out _ (HNS.out.below hx) HO.out hnM hlM (HCL.out.below hx) q HQ.out).mono ?_
    rintro e w4 ⟨v, rfl, hv, h⟩
    replace hx := chain hx h
    clear h HB HQ
    cases q
    · obtain ⟨nm', ea, rfl⟩ := hv.no
      clear hv
      go_wp2
      go_ret
      exact ⟨rfl, hx⟩
    · obtain rfl := hv.yes
      clear hv
      go_wp2
      go_ret
      exact ⟨rfl, hx⟩
  by_cases k8 : kd = 8
  · subst k8
    obtain rfl : z2 = b := HB.out
    go_wp2_with fail
    refine (C2.out _ hx).mono ?_
    rintro e w4 ⟨rfl, h⟩
    replace hx := chain hx h
    clear h
    go_wp2
    go_ret
    exact ⟨rfl, hx⟩
  by_cases k2 : kd = 2
  · subst k2
    obtain rfl : (z1 && z2) = b := HB.out
    go_wp2_with fail
    refine (C1.out _ hx).mono ?_
    rintro e w4 ⟨rfl, h⟩
    have P4 := P3.below h
    replace hx := chain hx h
    clear h HB p0 p1 p2 p3 p4 p5 p6 t0 t1 t2 t3 t4 t5 t6
    cases z1
    · go_wp2
      go_ret
      exact ⟨rfl, hx⟩
    · obtain ⟨t0, t1, t2, t3, t4, t5, t6⟩ := cells7 (P4.box (by omega) HBT.out)
      go_wp2_with fail
      refine (C2.out _ hx).mono ?_
      rintro e w5 ⟨rfl, h⟩
      replace hx := chain hx h
      clear h
      go_wp2
      go_ret
      exact ⟨rfl, hx⟩
  obtain rfl : false = b := by rw [← HB.out]; simp [k3, k4, k8, k2]
  go_wp2
  go_ret
  exact ⟨rfl, hx⟩
end Go.Proofs.YtegnekbbbfncgaaGreatDoor
