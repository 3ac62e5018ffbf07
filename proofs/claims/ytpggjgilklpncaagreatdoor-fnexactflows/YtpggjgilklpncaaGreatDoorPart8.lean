/-
  A part of the proof: SvS2, Lists4, Open1, Open5.
-/
import Derived.Test.YtpggjgilklpncaaGreatDoorPart7
import Derived.Test.YtpggjgilklpncaaGreatDoorPart4
import Derived.Deep.SlicePairs
import Derived.Test.YtpggjgilklpncaaGreatDoorPart5
import Derived.Lib.SmallJoins

/-
  The contract of the model's SieveOk.
-/
namespace Go.Proofs.YtpggjgilklpncaaGreatDoor
open Go.ChangeShapes Go.WideShapes Go.ChangeAt Go.RowKit
attribute [local go_sem ↓] Go.wp_at_zero Go.wp_at_succ
attribute [local simp] World.cell?_alloc_past World.cell?_alloc_at World.frozen?_alloc_at cell_far cell_off cell_here World.frozen?_alloc_past

theorem l1in_spec (x lo hi : Int) (b : Bool) (hb : (decide (lo ≤ x) && decide (x ≤ hi)) = b) (w : World) :
    Calls Tryz.prog 20 #[.int .i64 x, .int .i64 lo, .int .i64 hi] w fun e w' => e = .returned (.bool b) ∧ w' = w := by
  subst hb
  by_cases h1 : lo ≤ x
  · by_cases h2 : x ≤ hi
    · go_enter Tryz.func20, Tryz.ntmps20
      go_wp2
      go_ret
      exact ⟨ret_bool (by simp [h1, h2]), rfl⟩
    · go_enter Tryz.func20, Tryz.ntmps20
      go_wp2
      go_ret
      exact ⟨ret_bool (by rw [decide_eq_false (show ¬ x ≤ hi by omega)]), rfl⟩
  · go_enter Tryz.func20, Tryz.ntmps20
    go_wp2
    go_ret
    exact ⟨ret_bool (by rw [decide_eq_false (show ¬ lo ≤ x by omega), Bool.false_and]), rfl⟩
set_option maxRecDepth 100000 in
set_option maxHeartbeats 4000000 in
theorem sieve_spec (k : Int) (nm : ByteArray) (na : Option Addr) (nn nc : Nat) (ns : List ByteArray) (hnn : ns.length = nn) (sa : Option Addr) (sn sc : Nat) (sm : List TI) (hsn : sm.length = sn) (dn : Bool) (ct sk : Int) (w : World) (hnm : nm.size ≤ maxLen) (hN : StrsAt w na ns) (hNf : FitS ns) (hnM : nn ≤ maxLen) (hnc : nn ≤ nc) (hS : ItmAt w sa sm) (hSf : FitItm sm) (hsm : sn ≤ maxLen) (b : Bool) (hb : sieveB ⟨k, nm, ns, sm, dn, ct, sk⟩ = b) :
    Calls Tryz.prog 19 #[.agg #[.int .i64 k, .string nm, .slice na nn nc, .slice sa sn sc, .bool dn, .int .i64 ct, .int .i64 sk]] w fun e w' => e = .returned (.bool b) ∧ Below w.heap.size w w' := by
  have hbA : ∀ o, Below w.heap.size w (w.alloc o) := fun o => (Below.refl _ _).alloc (Nat.le_refl _) o
  obtain ⟨r, hr⟩ : ∃ r, bareB ⟨k, nm, ns, sm, dn, ct, sk⟩ = r := ⟨_, rfl⟩
  have HB : Hid (1 ≤ k ∧ k ≤ 10 → ∀ w', Below w.heap.size w w' → Calls Tryz.prog 28 #[.agg #[.int .i64 k, .string nm, .slice na nn nc, .slice sa sn sc, .bool dn, .int .i64 ct, .int .i64 sk]] w' fun e w'' => e = .returned (.bool r) ∧ Below w'.heap.size w' w'') :=
    fun hk w' hw => bare_spec k hk nm na nn nc ns hnn sa sn sc sm hsn dn ct sk w' hnm (hS.below hw) hSf hsm r hr
  have HNM : Hid (∀ (lo hi : Int) (w' : World), Below w.heap.size w w' → Calls Tryz.prog 29 #[.slice na nn nc, .int .i64 lo, .int .i64 hi] w' fun e w'' => e = .returned (.bool (names10 ns lo hi)) ∧ Below w'.heap.size w' w'') :=
    fun lo hi w' hw => names10_spec nn na nc ns hnn lo hi w' (hN.below hw) hNf hnM hnc _ rfl
  have HV : Hid ((if k = 4 then r && names10 ns 1 6 else if k = 7 then r && names10 ns 0 4 else if k = 9 then r && (in1000 ct && in1000 sk) else (decide (1 ≤ k) && decide (k ≤ 10)) && r) = b) := by
    have : (if k = 4 then r && names10 ns 1 6 else if k = 7 then r && names10 ns 0 4 else if k = 9 then r && (in1000 ct && in1000 sk) else (decide (1 ≤ k) && decide (k ≤ 10)) && r) = b := by
      rw [← hb, ← hr]; rfl
    exact this
  clear hb hr hnn hsn hnm hN hNf hnM hnc hS hSf hsm
  by_cases h4 : k = 4
  · subst h4
    obtain ⟨q, hq⟩ : ∃ q, names10 ns 1 6 = q := ⟨_, rfl⟩
    obtain rfl : (r && q) = b := by have := HV.out; rw [if_pos rfl, hq] at this; exact this
    have HQ : Hid (names10 ns 1 6 = q) := hq
    clear HV hq
    go_enter Tryz.func19, Tryz.ntmps19
    go_wp2_with fail
    refine (HB.out (by omega) _ (hbA _)).mono ?_
    rintro e w1 ⟨rfl, hb1⟩
    have hx1 := chain (hbA _) hb1
    cases r
    · go_wp2
      go_ret
      exact ⟨rfl, hx1⟩
    have p2 : w1.cell? ⟨w.heap.size, 2, none⟩ = some (.slice na nn nc) := by rw [hb1.cell (p := ⟨w.heap.size, 2, none⟩) (by simp)]; simp
    go_wp2_with fail
    refine (HNM.out 1 6 _ hx1).mono ?_
    rw [HQ.out]
    rintro e w2 ⟨rfl, hb2⟩
    have hx2 := chain hx1 hb2
    go_wp2
    go_ret
    exact ⟨rfl, hx2⟩
  by_cases h7 : k = 7
  · subst h7
    obtain ⟨q, hq⟩ : ∃ q, names10 ns 0 4 = q := ⟨_, rfl⟩
    obtain rfl : (r && q) = b := by have := HV.out; rw [if_neg (by decide), if_pos rfl, hq] at this; exact this
    have HQ : Hid (names10 ns 0 4 = q) := hq
    clear HV hq h4
    go_enter Tryz.func19, Tryz.ntmps19
    go_wp2_with fail
    refine (HB.out (by omega) _ (hbA _)).mono ?_
    rintro e w1 ⟨rfl, hb1⟩
    have hx1 := chain (hbA _) hb1
    cases r
    · go_wp2
      go_ret
      exact ⟨rfl, hx1⟩
    have p2 : w1.cell? ⟨w.heap.size, 2, none⟩ = some (.slice na nn nc) := by rw [hb1.cell (p := ⟨w.heap.size, 2, none⟩) (by simp)]; simp
    go_wp2_with fail
    refine (HNM.out 0 4 _ hx1).mono ?_
    rw [HQ.out]
    rintro e w2 ⟨rfl, hb2⟩
    have hx2 := chain hx1 hb2
    go_wp2
    go_ret
    exact ⟨rfl, hx2⟩
  by_cases h9 : k = 9
  · subst h9
    obtain ⟨q1, hq1⟩ : ∃ q, in1000 ct = q := ⟨_, rfl⟩
    obtain ⟨q2, hq2⟩ : ∃ q, in1000 sk = q := ⟨_, rfl⟩
    obtain rfl : (r && (q1 && q2)) = b := by have := HV.out; rw [if_neg (by decide), if_neg (by decide), if_pos rfl, hq1, hq2] at this; exact this
    have HQ1 : Hid (in1000 ct = q1) := hq1
    have HQ2 : Hid (in1000 sk = q2) := hq2
    clear HV hq1 hq2 h4 h7
    go_enter Tryz.func19, Tryz.ntmps19
    go_wp2_with fail
    refine (HB.out (by omega) _ (hbA _)).mono ?_
    rintro e w1 ⟨rfl, hb1⟩
    have hx1 := chain (hbA _) hb1
    cases r
    · go_wp2
      go_ret
      exact ⟨rfl, hx1⟩
    have p5 : w1.cell? ⟨w.heap.size, 5, none⟩ = some (.int .i64 ct) := by rw [hb1.cell (p := ⟨w.heap.size, 5, none⟩) (by simp)]; simp
    have p6 : w1.cell? ⟨w.heap.size, 6, none⟩ = some (.int .i64 sk) := by rw [hb1.cell (p := ⟨w.heap.size, 6, none⟩) (by simp)]; simp
    go_wp2_with fail
    refine (l1in_spec ct 0 1000 q1 HQ1.out _).mono ?_
    rintro e w2 ⟨rfl, hw2⟩
    obtain rfl : w1 = w2 := hw2.symm
    cases q1
    · go_wp2
      go_ret
      exact ⟨rfl, hx1⟩
    go_wp2_with fail
    refine (l1in_spec sk 0 1000 q2 HQ2.out _).mono ?_
    rintro e w2 ⟨rfl, hw2⟩
    obtain rfl : w1 = w2 := hw2.symm
    go_wp2
    go_ret
    exact ⟨rfl, hx1⟩
  have g4 : (k == 4) = false := by simpa using h4
  have g7 : (k == 7) = false := by simpa using h7
  have g9 : (k == 9) = false := by simpa using h9
  obtain ⟨q, hq⟩ : ∃ q, (decide (1 ≤ k) && decide (k ≤ 10)) = q := ⟨_, rfl⟩
  obtain rfl : (q && r) = b := by have := HV.out; rw [if_neg h4, if_neg h7, if_neg h9, hq] at this; exact this
  have HQ : Hid ((decide (1 ≤ k) && decide (k ≤ 10)) = q) := hq
  clear HV hq h4 h7 h9
  go_enter Tryz.func19, Tryz.ntmps19
  go_wp2_with fail
  refine (l1in_spec k 1 10 q HQ.out _).mono ?_
  rintro e w1 ⟨rfl, hw1⟩
  replace hw1 := hw1.symm
  subst hw1
  cases q
  · go_wp2
    go_ret
    exact ⟨rfl, hbA _⟩
  have hk : 1 ≤ k ∧ k ≤ 10 := by
    have := HQ.out
    rw [Bool.and_eq_true, decide_eq_true_eq, decide_eq_true_eq] at this
    exact this
  go_wp2_with fail
  refine (HB.out hk _ (hbA _)).mono ?_
  rintro e w2 ⟨rfl, hb2⟩
  have hx2 := chain (hbA _) hb2
  go_wp2
  go_ret
  exact ⟨rfl, hx2⟩
end Go.Proofs.YtpggjgilklpncaaGreatDoor

/-
  Lists of lists of cells: how they lie in memory, and the contracts of the law's helpers that measure them and hold two of them against each other.
-/
namespace Go.Proofs.YtpggjgilklpncaaGreatDoor
open Go.ChangeShapes Go.WideShapes Go.ChangeAt Go.RowKit
attribute [local go_sem ↓] Go.wp_at_zero Go.wp_at_succ

/-- The lists of a slice of slices lie where it says. -/
def RowsAt (w : World) (a : Option Addr) (L : List (List CT)) : Prop :=
  ∀ i (h : i < L.length), ∃ b o ai ci, a = some ⟨b, o, none⟩ ∧ b < w.heap.size ∧ w.cell? ⟨b, o + i, none⟩ = some (.slice ai L[i].length ci) ∧ RowAt w ai L[i] ∧ Fit L[i] ∧ L[i].length ≤ maxLen ∧ (ai = none → ci = 0)
theorem RowsAt.below {w w' : World} {a : Option Addr} {L : List (List CT)} (h : RowsAt w a L) (hb : Below w.heap.size w w') : RowsAt w' a L := by
  intro i hi
  obtain ⟨b, o, ai, ci, ha, hlt, h0, h1, h2⟩ := h i hi
  refine ⟨b, o, ai, ci, ha, Nat.lt_of_lt_of_le hlt hb.size, ?_, h1.below hb, h2⟩
  rw [hb.cell (p := ⟨b, _, none⟩) hlt]; exact h0
end Go.Proofs.YtpggjgilklpncaaGreatDoor

/-
  A law's argument that is a slice of cells, opened: which list of cells it is, and where they lie.
-/
namespace Go.Proofs.YtpggjgilklpncaaGreatDoor
open Go.ChangeShapes Go.WideShapes Go.ChangeAt Go.RowKit Go.Deep

end Go.Proofs.YtpggjgilklpncaaGreatDoor

/-
  A law's argument that is a slice of items, opened; what the laws ask of lists of items, with their lengths as letters.
-/
namespace Go.Proofs.YtpggjgilklpncaaGreatDoor
open Go.ChangeShapes Go.WideShapes Go.ChangeAt Go.RowKit Go.Deep

theorem open_itms {H : Type} {enc : TypeId × Value → H} {P : Program} {w : World} {base : Nat} {spare : Nat → Bool} {held : Bool} {t e : TypeId} {f0 f1 f2 g0 g1 g2 : Field} {fuel : Nat} {a : Option Addr} {len cap : Nat} {x : DataW H × List MemPlace}
    (ht : P.underlying t = some (.slice e)) (he : P.underlying e = some (.struct #[f0, f1, f2])) (hce : P.underlying f1.type = some (.struct #[g0, g1, g2])) (kk : P.cellsOf e = 5)
    (o0 : f0.offset = 0) (o1 : f1.offset = 1) (o2 : f2.offset = 4) (p0 : g0.offset = 0) (p1 : g1.offset = 1) (p2 : g2.offset = 2)
    (c0 : P.cellsOf f0.type = 1) (c1 : P.cellsOf f1.type = 3) (c2 : P.cellsOf f2.type = 1) (d0 : P.cellsOf g0.type = 1) (d1 : P.cellsOf g1.type = 1) (d2 : P.cellsOf g2.type = 1)
    (u0 : P.underlying f0.type = some (.int .i64)) (u1 : P.underlying f2.type = some .string) (v0 : P.underlying g0.type = some (.int .i64)) (v1 : P.underlying g1.type = some (.int .i64)) (v2 : P.underlying g2.type = some .string)
    (h : DataW.trod enc P w base spare held fuel t [.slice a len cap] = some x) :
    ∃ l : List TI, l.length = len ∧ ItmAt w a l ∧ FitItm l ∧ len ≤ maxLen ∧ (a = none → cap = 0) := by
  rcases open_slice ht h with ⟨h0, _⟩ | ⟨ad, len', cap', m, n, D, Pl, hcs, hb, hl, hm, hmm, _, hx⟩
  · simp at h0
    obtain ⟨rfl, rfl, rfl⟩ := h0
    exact ⟨[], rfl, fun j hj => by simp at hj, fun j hj => by simp at hj, by unfold maxLen; omega, fun _ => rfl⟩
  simp at hcs
  obtain ⟨rfl, rfl, rfl⟩ := hcs
  have hlm : len ≤ m := by rw [hmm]; split <;> omega
  have each : ∀ i, i < len → ∃ q : TI, w.cell? (ad.add (i * 5)) = some (.int .i64 q.1) ∧ w.cell? (ad.add (i * 5 + 1)) = some (.int .i64 q.2.1.1) ∧ w.cell? (ad.add (i * 5 + 2)) = some (.int .i64 q.2.1.2.1) ∧ w.cell? (ad.add (i * 5 + 3)) = some (.string q.2.1.2.2) ∧ w.cell? (ad.add (i * 5 + 4)) = some (.string q.2.2) ∧ q.2.1.2.2.size ≤ maxLen ∧ q.2.2.size ≤ maxLen := by
    intro i hi
    obtain ⟨cs', h1, h2⟩ := hx i (by omega)
    rw [kk] at h1
    obtain ⟨_, hlen, hcell⟩ := World.cells?_some h1
    obtain ⟨xs, k, hk, hxy, _, hxl, hf⟩ := DataW.trod_struct he h2
    match xs, hxl, cs', hlen with
    | [y0, y1, y2], _, [w0, w1, w2, w3, w4], _ =>
      have q0 := hf 0 f0 rfl
      have q1 := hf 1 f1 rfl
      have q2 := hf 2 f2 rfl
      simp [o0, o1, o2, c0, c1, c2] at q0 q1 q2
      obtain ⟨ys, k2, hk2, hyy, _, hyl, hg⟩ := DataW.trod_struct hce q1
      match ys, hyl with
      | [z0, z1, z2], _ =>
        have r0 := hg 0 g0 rfl
        have r1 := hg 1 g1 rfl
        have r2 := hg 2 g2 rfl
        simp [p0, p1, p2, d0, d1, d2] at r0 r1 r2
        have e0 := hcell 0 (by omega)
        have e1 := hcell 1 (by omega)
        have e2 := hcell 2 (by omega)
        have e3 := hcell 3 (by omega)
        have e4 := hcell 4 (by omega)
        rw [add_add] at e0 e1 e2 e3 e4
        obtain ⟨k0, ek, _, _⟩ := DataW.trod_int u0 q0
        obtain ⟨s0, es, _, hs⟩ := DataW.trod_string u1 q2
        obtain ⟨k1, ek1, _, _⟩ := DataW.trod_int v0 r0
        obtain ⟨n1, en1, _, _⟩ := DataW.trod_int v1 r1
        obtain ⟨s1, es1, _, hs1⟩ := DataW.trod_string v2 r2
        simp at ek es ek1 en1 es1
        subst ek es ek1 en1 es1
        exact ⟨(k0, (k1, n1, s1), s0), by simpa using e0, by simpa using e1, by simpa using e2, by simpa using e3, by simpa using e4, hs1, hs⟩
  obtain ⟨q, hq⟩ := choose_lt each
  have spot : 0 < len → ad.spot = none := by
    intro h0
    obtain ⟨e0, _⟩ := hq 0 h0
    simpa [Addr.add] using World.cell?_spot e0
  refine ⟨(List.range len).map q, by simp, ?_, ?_, by omega, fun h => by cases h⟩
  · intro j hj
    have hj' : j < len := by simpa using hj
    obtain ⟨b, o, sp⟩ := ad
    have hsp := spot (by omega)
    simp at hsp
    subst hsp
    obtain ⟨e0, e1, e2, e3, e4, _⟩ := hq j hj'
    have hadd : ∀ q, ((⟨b, o, none⟩ : Addr).add q) = ⟨b, o + q, none⟩ := by
      intro q
      unfold Addr.add
      by_cases hq : q = 0 <;> simp [hq]
    rw [hadd] at e0 e1 e2 e3 e4
    refine ⟨b, o, rfl, World.block_lt_of_cell? w _ e0, ?_, ?_, ?_, ?_, ?_⟩
    · simpa using e0
    · simpa [Nat.add_assoc] using e1
    · simpa [Nat.add_assoc] using e2
    · simpa [Nat.add_assoc] using e3
    · simpa [Nat.add_assoc] using e4
  · intro j hj
    have hj' : j < len := by simpa using hj
    simpa using (hq j hj').2.2.2.2.2
theorem eqsI (n : Nat) (a b : Option Addr) (ca cb : Nat) (l : List TI) (hn : l.length = n) (w : World) (ha : ItmAt w a l) (hb : ItmAt w b l) (hm : n ≤ maxLen) :
    Calls Tryz.prog 26 #[.slice a n ca, .slice b n cb] w fun e w' => e = .returned (.bool true) ∧ Below w.heap.size w w' := by
  subst hn; exact eqsItm a b ca cb l w ha hb hm
theorem oneI_le {l : List TI} {x : TI} (h : x ∈ l) : oneItm x ≤ weightItm l := by
  unfold weightItm
  obtain ⟨j, hj, rfl⟩ := List.mem_iff_getElem.1 h
  have h1 := weightItm_take l j hj
  have h2 := weightItm_le l (j + 1)
  unfold weightItm at h1 h2
  omega
end Go.Proofs.YtpggjgilklpncaaGreatDoor
