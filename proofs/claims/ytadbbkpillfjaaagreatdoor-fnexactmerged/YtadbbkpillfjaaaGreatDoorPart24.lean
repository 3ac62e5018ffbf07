/-
  A part of the proof: SpC1, SpC2.
-/
import Derived.Test.YtadbbkpillfjaaaGreatDoorPart10
import Derived.Test.YtadbbkpillfjaaaGreatDoorPart11
import Derived.Test.YtadbbkpillfjaaaGreatDoorPart13
import Derived.Test.YtadbbkpillfjaaaGreatDoorPart23
import Derived.Test.YtadbbkpillfjaaaGreatDoorPart17
import Derived.Maps.AppendAt
import Derived.Test.YtadbbkpillfjaaaGreatDoorPart18

/-
  The model's copy of a sieve and of a list of sieves.
-/
namespace Go.Proofs.YtadbbkpillfjaaaGreatDoor
open Go.ChangeShapes Go.WideShapes Go.ChangeAt Go.RowKit
attribute [local go_sem ↓] Go.wp_at_zero Go.wp_at_succ
attribute [local simp] World.cell?_alloc_past World.cell?_alloc_at World.frozen?_alloc_at cell_far cell_off cell_here World.frozen?_alloc_past

theorem SivAt.keepS {P : Nat → Prop} {w w' : World} {na : Option Addr} {nc : Nat} {sa : Option Addr} {s : SV} (h : SivAt w na nc sa s) (hk : KeepS P w w') (hP : ∀ b, inBlk na s.names.length b ∨ inBlk sa s.sum.length b → ¬ P b) : SivAt w' na nc sa s :=
  ⟨h.names.keepS hk (fun b hb => hP b (.inl hb)), h.fitN, h.lenN, h.capN, h.nilN, h.sum.keepS hk (fun b hb => hP b (.inr hb)), h.fitI, h.lenI, h.name⟩
/-- A sieve in memory from B on. -/
structure SivNew (w : World) (B : Nat) (q : HAd) (s : SV) : Prop where
  siv : SivAt w q.na q.nc q.sa s
  lo : ∀ b, inBlk q.na s.names.length b ∨ inBlk q.sa s.sum.length b → B ≤ b
theorem SivNew.lt {w : World} {B : Nat} {q : HAd} {s : SV} (h : SivNew w B q s) (b : Nat) (hb : inBlk q.na s.names.length b ∨ inBlk q.sa s.sum.length b) : b < w.heap.size := by
  rcases hb with ⟨h0, o, e⟩ | ⟨h0, o, e⟩
  · obtain ⟨b', o', e', hlt, _⟩ := h.siv.names 0 h0
    rw [e] at e'; cases e'; exact hlt
  · obtain ⟨b', o', e', hlt, _⟩ := h.siv.sum 0 h0
    rw [e] at e'; cases e'; exact hlt
theorem own_emptyI (w : World) (B : Nat) (hB : B ≤ w.heap.size) : (w.alloc (.cells #[] 56)).ownsRow B 56 5 (.slice (some ⟨w.heap.size, 0, none⟩) 0 0) 0 [] :=
  ⟨rfl, .inr ⟨w.heap.size, 0, #[], rfl, hB, by show (w.heap.push _)[w.heap.size]? = _; simp, Nat.le_refl _, by unfold maxLen; omega, rfl, rfl⟩⟩
theorem flat_itm_cells {w : World} {b o : Nat} {S : List TI} (h : ItmAt w (some ⟨b, o, none⟩) S) : ∀ j u, (flatItm S)[j]? = some u → w.cell? ((⟨b, o, none⟩ : Addr).add j) = some u := by
  induction S generalizing o with
  | nil => intro j u hj; simp [flatItm] at hj
  | cons x S ih =>
    intro j u hj
    have h0 := h 0 (by simp)
    obtain ⟨b', o', e, _, c0, c1, c2, c3, c4⟩ := h0
    injection e with e
    injection e with e1 e2
    subst e1 e2
    simp only [List.getElem_cons_zero, Nat.zero_mul, Nat.add_zero] at c0 c1 c2 c3 c4
    rw [addr_addS]
    match j, hj with
    | 0, hj => simp [flatItm] at hj; subst hj; exact c0
    | 1, hj => simp [flatItm] at hj; subst hj; exact c1
    | 2, hj => simp [flatItm] at hj; subst hj; exact c2
    | 3, hj => simp [flatItm] at hj; subst hj; exact c3
    | 4, hj => simp [flatItm] at hj; subst hj; exact c4
    | j + 5, hj =>
      have hS : ItmAt w (some ⟨b, o + 5, none⟩) S := by
        intro i hi
        obtain ⟨b', o', e, hl, d0, d1, d2, d3, d4⟩ := h (i + 1) (by simp; omega)
        injection e with e
        injection e with e1 e2
        subst e1 e2
        simp only [List.getElem_cons_succ] at d0 d1 d2 d3 d4
        refine ⟨b, o + 5, rfl, hl, ?_, ?_, ?_, ?_, ?_⟩
        · rw [show o + 5 + i * 5 = o + (i + 1) * 5 by omega]; exact d0
        · rw [show o + 5 + i * 5 + 1 = o + (i + 1) * 5 + 1 by omega]; exact d1
        · rw [show o + 5 + i * 5 + 2 = o + (i + 1) * 5 + 2 by omega]; exact d2
        · rw [show o + 5 + i * 5 + 3 = o + (i + 1) * 5 + 3 by omega]; exact d3
        · rw [show o + 5 + i * 5 + 4 = o + (i + 1) * 5 + 4 by omega]; exact d4
      have := ih hS j u (by simpa [flatItm] using hj)
      rw [addr_addS] at this
      rw [show o + (j + 5) = o + 5 + j by omega]
      exact this
theorem flat_itm_one {S : List TI} {u : Value} (h : u ∈ flatItm S) : u.oneCell' = true := by
  induction S with
  | nil => simp [flatItm] at h
  | cons x S ih =>
    simp only [flatItm, List.mem_cons] at h
    rcases h with rfl | rfl | rfl | rfl | rfl | h
    · rfl
    · rfl
    · rfl
    · rfl
    · rfl
    · exact ih h
set_option maxRecDepth 100000 in
/-- Items behind nothing: the run of an append onto an empty list of the call's own. -/
theorem run_append_itms_at {w : World} (ty : TypeId) (base : Nat) (v : Value) (o1 : List TI) (n : Nat) (hn : o1.length = n) (hown : w.ownsRow base 56 5 v n (flatItm o1)) (hv : v ≠ .slice none 0 0) (a : Option Addr) (m c : Nat) (S : List TI) (hl : S.length = m) (hs : ItmAt w a S) (hnil : a = none → c = 0) (hm : n + m ≤ 1048576) (hbase : base ≤ w.heap.size) :
    ∃ v' w', (Builtin.append_ #[36, 36] ty #[v, .slice a m c]).run Tryz.prog w = .ok v' w' ∧ w'.ownsRow base 56 5 v' (n + m) (flatItm (o1 ++ S)) ∧ w.grownBy w' v.ownBlock ∧ v' ≠ .slice none 0 0 ∧ (v'.ownBlock = v.ownBlock ∨ v'.ownBlock = some w.heap.size) := by
  obtain ⟨i0, hi, hz0, hz1, hz2⟩ := info_parts infoItm5
  have hfa : flatItm (o1 ++ S) = flatItm o1 ++ flatItm S := by
    clear hown hn
    induction o1 with
    | nil => rfl
    | cons x l ih => simp only [List.cons_append, flatItm, ih]
  cases a with
  | none =>
    have e : S = [] := by
      cases S with
      | nil => rfl
      | cons x l => obtain ⟨b, o, e, _⟩ := hs 0 (by simp); cases e
    subst e
    obtain rfl : m = 0 := by simpa using hl.symm
    obtain rfl := hnil rfl
    have hr := run_append_owned_none (P := Tryz.prog) (w := w) base 36 ty 56 i0 5 Tryz.underlying36 hi v n (flatItm o1) hown
    exact ⟨v, w, hr, by rw [Nat.add_zero, List.append_nil]; exact hown, World.grownBy.refl _ _, hv, .inl rfl⟩
  | some ad =>
    obtain ⟨b, o, t⟩ := ad
    by_cases h0 : m = 0
    · subst h0
      obtain rfl : S = [] := List.eq_nil_of_length_eq_zero hl
      obtain ⟨v', w', hr, h2, h3, h4, h5⟩ := run_append_own_at (P := Tryz.prog) w base 36 ty 56 i0 (.agg #[.int .i64 0, .int .i64 0, .int .i64 0, .string ⟨#[]⟩, .string ⟨#[]⟩]) 5 56 Tryz.underlying36 hi hz0 hz1 hz2 rfl (by decide) v n (flatItm o1) hown ⟨b, o, t⟩ 0 c [] rfl (fun j u hj => by simp at hj) (fun u hu => by simp at hu) (by unfold maxLen; omega) (by omega) hbase
      exact ⟨v', w', hr, by rw [List.append_nil] at h2 ⊢; exact h2, h3, fun e => hv (h4.1 e).1, h5⟩
    · have ht : t = none := by
        obtain ⟨b', o', e, _⟩ := hs 0 (by omega)
        injection e with e
        injection e
      subst ht
      obtain ⟨v', w', hr, h2, h3, h4, h5⟩ := run_append_own_at (P := Tryz.prog) w base 36 ty 56 i0 (.agg #[.int .i64 0, .int .i64 0, .int .i64 0, .string ⟨#[]⟩, .string ⟨#[]⟩]) 5 56 Tryz.underlying36 hi hz0 hz1 hz2 rfl (by decide) v n (flatItm o1) hown ⟨b, o, none⟩ m c (flatItm S) (by rw [flatItm_length, hl]) (flat_itm_cells hs) (fun u hu => flat_itm_one hu) (by unfold maxLen; omega) (by omega) hbase
      exact ⟨v', w', hr, by rw [hfa]; exact h2, h3, fun e => hv (h4.1 e).1, h5⟩
theorem run_append_itms {w : World} (ty : TypeId) (base : Nat) (v : Value) (o1 : List TI) (n : Nat) (hn : o1.length = n) (hown : w.ownsRow base 56 5 v n (flatItm o1)) (hv : v ≠ .slice none 0 0) (a : Option Addr) (m c : Nat) (S : List TI) (hl : S.length = m) (hs : ItmAt w a S) (hnil : a = none → c = 0) (hm : n + m ≤ 1048576) (hbase : base ≤ w.heap.size) :
    ∃ v' w', (Builtin.append_ #[36, 36] ty #[v, .slice a m c]).run Tryz.prog w = .ok v' w' ∧ w'.ownsRow base 56 5 v' (n + m) (flatItm (o1 ++ S)) ∧ w.grownBy w' v.ownBlock ∧ v' ≠ .slice none 0 0 := by
  obtain ⟨v', w', h1, h2, h3, h4, _⟩ := run_append_itms_at (w := w) ty base v o1 n hn hown hv a m c S hl hs hnil hm hbase
  exact ⟨v', w', h1, h2, h3, h4⟩
set_option maxRecDepth 100000 in
set_option maxHeartbeats 4000000 in
theorem l13sieve_spec (kd : Int) (nm : ByteArray) (na : Option Addr) (nn nc : Nat) (N : List ByteArray) (hnn : N.length = nn) (sa : Option Addr) (sn sc : Nat) (S : List TI) (hsn : S.length = sn) (dn : Bool) (ct sk : Int) (w : World) (hs : SivAt w na nc sa ⟨kd, nm, N, S, dn, ct, sk⟩) (hn1 : nn ≤ 1048576) (hs1 : sn ≤ 1048576) (hnil : sa = none → sc = 0) :
    Calls Tryz.prog 28 #[.agg #[.int .i64 kd, .string nm, .slice na nn nc, .slice sa sn sc, .bool dn, .int .i64 ct, .int .i64 sk]] w fun e w' => ∃ q : HAd, e = .returned (.agg #[.int .i64 kd, .string nm, .slice q.na nn q.nc, .slice q.sa sn q.sc, .bool dn, .int .i64 ct, .int .i64 sk]) ∧ SivNew w' w.heap.size q ⟨kd, nm, N, S, dn, ct, sk⟩ ∧ q.sa ≠ none ∧ Below w.heap.size w w' := by
  obtain ⟨i0, hti, hz0, hz1, hz2⟩ := info_parts infoItm5
  have HS : Hid (SivAt w na nc sa ⟨kd, nm, N, S, dn, ct, sk⟩) := hs
  have HNN : Hid (N.length = nn) := hnn
  have HSN : Hid (S.length = sn) := hsn
  clear hs hnn hsn
  obtain ⟨E0, hE0, hA, hB1, hB2⟩ := two_boxes w (.cells #[.int .i64 kd, .string nm, .slice na nn nc, .slice sa sn sc, .bool dn, .int .i64 ct, .int .i64 sk] 38) (.cells #[.int .i64 0, .string ⟨#[]⟩, .slice none 0 0, .slice none 0 0, .bool false, .int .i64 0, .int .i64 0] 38)
  have hE2 : E0.heap.size = w.heap.size + 2 := by rw [← hE0]; simp
  have HE0 : Hid (((w.alloc (.cells #[.int .i64 kd, .string nm, .slice na nn nc, .slice sa sn sc, .bool dn, .int .i64 ct, .int .i64 sk] 38)).alloc (.cells #[.int .i64 0, .string ⟨#[]⟩, .slice none 0 0, .slice none 0 0, .bool false, .int .i64 0, .int .i64 0] 38)) = E0) := hE0
  have HB1 : Hid (E0.heap[w.heap.size]? = some (.cells #[.int .i64 kd, .string nm, .slice na nn nc, .slice sa sn sc, .bool dn, .int .i64 ct, .int .i64 sk] 38)) := hB1
  have HB2 : Hid (E0.heap[w.heap.size + 1]? = some (.cells #[.int .i64 0, .string ⟨#[]⟩, .slice none 0 0, .slice none 0 0, .bool false, .int .i64 0, .int .i64 0] 38)) := hB2
  clear hE0 hB1 hB2
  go_enter Tryz.func28, Tryz.ntmps28
  go_wp2_with fail
  rw [HE0.out]
  refine (texts_spec na nc N nn HNN.out _ (HS.out.names.below hA) HS.out.nilN hn1).mono ?_
  rintro e w1 ⟨g, c, rfl, hgl, hcl, own1, hb1⟩
  obtain ⟨hc, hf⟩ := bcell hb1
  obtain ⟨q0, q1, q2, q3, q4, q5, q6⟩ := cells7 HB1.out
  obtain ⟨z0, z1, z2, z3, z4, z5, z6⟩ := cells7 HB2.out
  have k1 : w.heap.size < E0.heap.size := by omega
  have k2 : w.heap.size + 1 < E0.heap.size := by omega
  have p0 := (hc _ 0 k1).trans q0
  have p1 := (hc _ 1 k1).trans q1
  have p2 := (hc _ 2 k1).trans q2
  have p3 := (hc _ 3 k1).trans q3
  have p4 := (hc _ 4 k1).trans q4
  have p5 := (hc _ 5 k1).trans q5
  have p6 := (hc _ 6 k1).trans q6
  have r0 := (hc _ 0 k2).trans z0
  have r1 := (hc _ 1 k2).trans z1
  have r2 := (hc _ 2 k2).trans z2
  have r3 := (hc _ 3 k2).trans z3
  have r4 := (hc _ 4 k2).trans z4
  have r5 := (hc _ 5 k2).trans z5
  have r6 := (hc _ 6 k2).trans z6
  have ff : ∀ o, w1.frozen? ⟨w.heap.size, o, none⟩ = false ∧ w1.frozen? ⟨w.heap.size + 1, o, none⟩ = false := by
    intro o
    rw [hf _ _ k1, hf _ _ k2, ← HE0.out]
    constructor <;> simp
  clear hc hf q0 q1 q2 q3 q4 q5 q6 z0 z1 z2 z3 z4 z5 z6
  have k3 : w.heap.size < w1.heap.size := by have := hb1.size; omega
  have k4 : w.heap.size + 1 < w1.heap.size := by have := hb1.size; omega
  have f2 := (ff 2).1
  have f3 := (ff 3).1
  obtain ⟨W2, hW2⟩ : ∃ W2, ((w1.setCell ⟨w.heap.size, 2, none⟩ (.slice (some ⟨g, 0, none⟩) nn c)).alloc (.cells #[] 56)) = W2 := ⟨_, rfl⟩
  have hsz2 : W2.heap.size = w1.heap.size + 1 := by rw [← hW2]; simp
  have own0 : W2.ownsRow w1.heap.size 56 5 (.slice (some ⟨w1.heap.size, 0, none⟩) 0 0) 0 [] := by
    have h := own_emptyI (w1.setCell ⟨w.heap.size, 2, none⟩ (.slice (some ⟨g, 0, none⟩) nn c)) w1.heap.size (by simp)
    rw [hW2] at h
    simpa using h
  have K2 : KeepS (fun b => b = w.heap.size) w1 W2 := by
    rw [← hW2]
    exact ((KeepS.refl (fun b => b = w.heap.size) w1).setCell (p := ⟨w.heap.size, 2, none⟩) rfl _).trans (KeepS.ofBelow ((Below.refl _ _).alloc (Nat.le_refl _) _))
  have HI2 : ItmAt W2 sa S := (HS.out.sum.below (chain hA hb1)).keepS K2 (fun b hb => by
    obtain ⟨h0, o, e⟩ := hb
    obtain ⟨b', o', e', hlt, _⟩ := HS.out.sum 0 h0
    rw [e] at e'; cases e'
    omega)
  obtain ⟨v', w4, hrun, own4, hgrow, hvn⟩ := run_append_itms (w := W2) 36 w1.heap.size _ [] 0 rfl own0 (by simp) sa sn sc S HSN.out HI2 hnil (by omega) (by omega)
  rw [Nat.zero_add] at own4
  obtain ⟨g4, c4, rfl, hg4⟩ : ∃ g4 c4, v' = .slice (some ⟨g4, 0, none⟩) sn c4 ∧ w1.heap.size ≤ g4 := by
    rcases own4.2 with ⟨e, _⟩ | ⟨g4, c4, cur, e, h1, _⟩
    · exact absurd e hvn
    · exact ⟨g4, c4, e, h1⟩
  have far : ∀ b o, b < w1.heap.size → w4.cell? ⟨b, o, none⟩ = W2.cell? ⟨b, o, none⟩ ∧ w4.frozen? ⟨b, o, none⟩ = W2.frozen? ⟨b, o, none⟩ := fun b o hb => by
    have hn : some b ≠ (Value.slice (some ⟨w1.heap.size, 0, none⟩) 0 0).ownBlock := by
      intro e
      simp [Value.ownBlock] at e
      omega
    exact ⟨hgrow.cell_far ⟨b, o, none⟩ (show b < W2.heap.size by omega) hn, hgrow.frozen_far ⟨b, o, none⟩ (show b < W2.heap.size by omega) hn⟩
  have e0 : w4.cell? ⟨w.heap.size, 0, none⟩ = some (.int .i64 kd) := by rw [(far _ _ k3).1, ← hW2]; simp [p0, k3]
  have e1 : w4.cell? ⟨w.heap.size, 1, none⟩ = some (.string nm) := by rw [(far _ _ k3).1, ← hW2]; simp [p1, k3]
  have e2 : w4.cell? ⟨w.heap.size, 2, none⟩ = some (.slice (some ⟨g, 0, none⟩) nn c) := by rw [(far _ _ k3).1, ← hW2]; simp [p2, k3]
  have e3 : w4.cell? ⟨w.heap.size, 3, none⟩ = some (.slice sa sn sc) := by rw [(far _ _ k3).1, ← hW2]; simp [p3, k3]
  have e4 : w4.cell? ⟨w.heap.size, 4, none⟩ = some (.bool dn) := by rw [(far _ _ k3).1, ← hW2]; simp [p4, k3]
  have e5 : w4.cell? ⟨w.heap.size, 5, none⟩ = some (.int .i64 ct) := by rw [(far _ _ k3).1, ← hW2]; simp [p5, k3]
  have e6 : w4.cell? ⟨w.heap.size, 6, none⟩ = some (.int .i64 sk) := by rw [(far _ _ k3).1, ← hW2]; simp [p6, k3]
  have d0 : w4.cell? ⟨w.heap.size + 1, 0, none⟩ = some (.int .i64 0) := by rw [(far _ _ k4).1, ← hW2]; simp [r0, k4]
  have d1 : w4.cell? ⟨w.heap.size + 1, 1, none⟩ = some (.string ⟨#[]⟩) := by rw [(far _ _ k4).1, ← hW2]; simp [r1, k4]
  have d2 : w4.cell? ⟨w.heap.size + 1, 2, none⟩ = some (.slice none 0 0) := by rw [(far _ _ k4).1, ← hW2]; simp [r2, k4]
  have d3 : w4.cell? ⟨w.heap.size + 1, 3, none⟩ = some (.slice none 0 0) := by rw [(far _ _ k4).1, ← hW2]; simp [r3, k4]
  have d4 : w4.cell? ⟨w.heap.size + 1, 4, none⟩ = some (.bool false) := by rw [(far _ _ k4).1, ← hW2]; simp [r4, k4]
  have d5 : w4.cell? ⟨w.heap.size + 1, 5, none⟩ = some (.int .i64 0) := by rw [(far _ _ k4).1, ← hW2]; simp [r5, k4]
  have d6 : w4.cell? ⟨w.heap.size + 1, 6, none⟩ = some (.int .i64 0) := by rw [(far _ _ k4).1, ← hW2]; simp [r6, k4]
  have fE : ∀ o, w4.frozen? ⟨w.heap.size, o, none⟩ = false ∧ w4.frozen? ⟨w.heap.size + 1, o, none⟩ = false := by
    intro o
    rw [(far _ _ k3).2, (far _ _ k4).2, ← hW2]
    constructor
    · simp [ff, k3]
    · simp [ff, k4]
  have fd0 := (fE 0).2
  have fd1 := (fE 1).2
  have fd2 := (fE 2).2
  have fd3 := (fE 3).2
  have fd4 := (fE 4).2
  have fd5 := (fE 5).2
  have fd6 := (fE 6).2
  have fe3 := (fE 3).1
  have FF : Hid (∀ o, w4.frozen? ⟨w.heap.size, o, none⟩ = false ∧ w4.frozen? ⟨w.heap.size + 1, o, none⟩ = false) := fE
  clear p0 p1 p4 p5 p6 r0 r1 r2 r3 r4 r5 r6 far ff fE
  have hx2 : Below w.heap.size w W2 := by rw [← hW2]; exact ((chain hA hb1).setCell (p := ⟨w.heap.size, 2, none⟩) (Nat.le_refl _) _).alloc (by simp; omega) _
  have hx4 : Below w.heap.size w w4 := hx2.grown hgrow (by omega) (by intro k hk; simp [Value.ownBlock] at hk; omega)
  have KG := KeepS.grown hgrow
  have HST : Hid (StrsAt w4 (some ⟨g, 0, none⟩) N) := by
    have h1 : StrsAt w1 (some ⟨g, 0, none⟩) N := own_strs own1
    have hg1 : g < w1.heap.size := (own1.lt g rfl).2
    have h2 := h1.keepS K2 (fun b hb => by obtain ⟨_, o, e⟩ := hb; cases e; omega)
    exact h2.keepS KG (fun b hb => by obtain ⟨_, o, e⟩ := hb; cases e; simp [Value.ownBlock]; omega)
  have HIT : Hid (ItmAt w4 (some ⟨g4, 0, none⟩) S) := by
    have h := own4
    rw [List.nil_append, ← HSN.out] at h
    exact ownItm h
  have hgw : w.heap.size + 2 ≤ g := by omega
  have hg5 : w.heap.size + 2 ≤ g4 := by omega
  have HW2 : Hid (((w1.setCell ⟨w.heap.size, 2, none⟩ (.slice (some ⟨g, 0, none⟩) nn c)).alloc (.cells #[] 56)) = W2) := hW2
  clear hW2 own0 HI2
  go_wp2_with (at_builtin; rw [HW2.out]; refine wpList_app rfl _ _ 36 36 rfl _ _ rfl rfl _ w4 hrun ?_)
  refine bodyPost_ret (v := .agg #[.int .i64 kd, .string nm, .slice (some ⟨g, 0, none⟩) nn c, .slice (some ⟨g4, 0, none⟩) sn c4, .bool dn, .int .i64 ct, .int .i64 sk]) (by simp [results, Tryz.results28, go_sem, d0, d1, d2, d3, d4, d5, d6]) rfl ⟨⟨some ⟨g, 0, none⟩, c, some ⟨g4, 0, none⟩, c4⟩, rfl, ?_, by simp, ?_⟩
  · have KF := ((((((((KeepS.refl (fun b => b = w.heap.size ∨ b = w.heap.size + 1) w4).setCell (p := ⟨w.heap.size, 3, none⟩) (.inl rfl) (.slice (some ⟨g4, 0, none⟩) sn c4)).setCell (p := ⟨w.heap.size + 1, 0, none⟩) (.inr rfl) (.int .i64 kd)).setCell (p := ⟨w.heap.size + 1, 1, none⟩) (.inr rfl) (.string nm)).setCell (p := ⟨w.heap.size + 1, 2, none⟩) (.inr rfl) (.slice (some ⟨g, 0, none⟩) nn c)).setCell (p := ⟨w.heap.size + 1, 3, none⟩) (.inr rfl) (.slice (some ⟨g4, 0, none⟩) sn c4)).setCell (p := ⟨w.heap.size + 1, 4, none⟩) (.inr rfl) (.bool dn)).setCell (p := ⟨w.heap.size + 1, 5, none⟩) (.inr rfl) (.int .i64 ct)).setCell (p := ⟨w.heap.size + 1, 6, none⟩) (.inr rfl) (.int .i64 sk)
    have hl : S.length = sn := HSN.out
    refine ⟨⟨HST.out.keepS KF (fun b hb => by obtain ⟨_, o, e⟩ := hb; cases e; omega), HS.out.fitN, HS.out.lenN, by show N.length ≤ c; rw [HNN.out]; exact hcl, (fun h => by cases h), HIT.out.keepS KF (fun b hb => by obtain ⟨h0, o, e⟩ := hb; cases e; omega), HS.out.fitI, HS.out.lenI, HS.out.name⟩, ?_⟩
    rintro b (⟨_, o, e⟩ | ⟨_, o, e⟩)
    · cases e; omega
    · cases e; omega
  · exact (((((((hx4.setCell (p := ⟨w.heap.size, 3, none⟩) (Nat.le_refl _) _).setCell (p := ⟨w.heap.size + 1, 0, none⟩) (by show w.heap.size ≤ w.heap.size + 1; omega) _).setCell (p := ⟨w.heap.size + 1, 1, none⟩) (by show w.heap.size ≤ w.heap.size + 1; omega) _).setCell (p := ⟨w.heap.size + 1, 2, none⟩) (by show w.heap.size ≤ w.heap.size + 1; omega) _).setCell (p := ⟨w.heap.size + 1, 3, none⟩) (by show w.heap.size ≤ w.heap.size + 1; omega) _).setCell (p := ⟨w.heap.size + 1, 4, none⟩) (by show w.heap.size ≤ w.heap.size + 1; omega) _).setCell (p := ⟨w.heap.size + 1, 5, none⟩) (by show w.heap.size ≤ w.heap.size + 1; omega) _).setCell (p := ⟨w.heap.size + 1, 6, none⟩) (by show w.heap.size ≤ w.heap.size + 1; omega) _
end Go.Proofs.YtadbbkpillfjaaaGreatDoor

/-
  Rows of heads of sieves, each with lists newer than the call, apart from the heads; the model's copy of a list of sieves.
-/
namespace Go.Proofs.YtadbbkpillfjaaaGreatDoor
open Go.ChangeShapes Go.WideShapes Go.ChangeAt Go.RowKit
attribute [local go_sem ↓] Go.wp_at_zero Go.wp_at_succ
attribute [local simp] World.cell?_alloc_past World.cell?_alloc_at World.frozen?_alloc_at cell_far cell_off cell_here World.frozen?_alloc_past

def listB (p : SV × HAd) (b : Nat) : Prop := inBlk p.2.na p.1.names.length b ∨ inBlk p.2.sa p.1.sum.length b
theorem SivNew.keepS {P : Nat → Prop} {w w' : World} {B : Nat} {q : HAd} {s : SV} (h : SivNew w B q s) (hk : KeepS P w w') (hP : ∀ b, listB (s, q) b → ¬ P b) : SivNew w' B q s := ⟨h.siv.keepS hk hP, h.lo⟩
theorem SivNew.below {w w' : World} {B : Nat} {q : HAd} {s : SV} (h : SivNew w B q s) (hb : Below w.heap.size w w') : SivNew w' B q s := ⟨h.siv.below hb, h.lo⟩
theorem SivNew.lower {w : World} {B B' : Nat} {q : HAd} {s : SV} (h : SivNew w B q s) (hB : B' ≤ B) : SivNew w B' q s := ⟨h.siv, fun b hb => Nat.le_trans hB (h.lo b hb)⟩
/-- Heads that lie where a slice says, with the lists of each. -/
structure HeadsIn (w : World) (a : Option Addr) (P : List (SV × HAd)) : Prop where
  cells : ∀ i (hi : i < P.length), ∃ b o, a = some ⟨b, o, none⟩ ∧ b < w.heap.size ∧ ∀ j, j < 7 → w.cell? ⟨b, o + i * 7 + j, none⟩ = (headSv P[i].1 P[i].2)[j]?
  siv : ∀ p ∈ P, SivAt w p.2.na p.2.nc p.2.sa p.1
  nilI : ∀ p ∈ P, p.2.sa = none → p.2.sc = 0
theorem HeadsIn.below {w w' : World} {a : Option Addr} {P : List (SV × HAd)} (h : HeadsIn w a P) (hb : Below w.heap.size w w') : HeadsIn w' a P := by
  refine ⟨fun i hi => ?_, fun p hp => (h.siv p hp).below hb, h.nilI⟩
  obtain ⟨b, o, e, hlt, hc⟩ := h.cells i hi
  exact ⟨b, o, e, Nat.lt_of_lt_of_le hlt hb.size, fun j hj => (hb.cell (p := ⟨b, _, none⟩) hlt).trans (hc j hj)⟩
theorem HeadsIn.at {w : World} {a : Option Addr} {P : List (SV × HAd)} (h : HeadsIn w a P) (i : Nat) (hi : i < P.length) : ∃ b o, a = some ⟨b, o, none⟩ ∧ b < w.heap.size ∧ w.cell? ⟨b, o + i * 7, none⟩ = some (.int .i64 P[i].1.kind) ∧ w.cell? ⟨b, o + i * 7 + 1, none⟩ = some (.string P[i].1.name) ∧ w.cell? ⟨b, o + i * 7 + 2, none⟩ = some (.slice P[i].2.na P[i].1.names.length P[i].2.nc) ∧ w.cell? ⟨b, o + i * 7 + 3, none⟩ = some (.slice P[i].2.sa P[i].1.sum.length P[i].2.sc) ∧ w.cell? ⟨b, o + i * 7 + 4, none⟩ = some (.bool P[i].1.down) ∧ w.cell? ⟨b, o + i * 7 + 5, none⟩ = some (.int .i64 P[i].1.count) ∧ w.cell? ⟨b, o + i * 7 + 6, none⟩ = some (.int .i64 P[i].1.skip) := by
  obtain ⟨b, o, e, hlt, hc⟩ := h.cells i hi
  exact ⟨b, o, e, hlt, hc 0 (by omega), hc 1 (by omega), hc 2 (by omega), hc 3 (by omega), hc 4 (by omega), hc 5 (by omega), hc 6 (by omega)⟩
/-- Heads in a row of one's own, the lists of each newer than the call and apart from the row. -/
structure RowV (w : World) (base : Nat) (v : Value) (P : List (SV × HAd)) (n : Nat) : Prop where
  own : w.ownsRow base 38 7 v n (hvS P)
  len : P.length = n
  new : ∀ p ∈ P, SivNew w base p.2 p.1
  far : ∀ p ∈ P, ∀ b, listB p b → v.ownBlock ≠ some b
  nilI : ∀ p ∈ P, p.2.sa = none → p.2.sc = 0
theorem RowV.below {w w' : World} {base : Nat} {v : Value} {P : List (SV × HAd)} {n : Nat} (h : RowV w base v P n) (hb : Below w.heap.size w w') : RowV w' base v P n :=
  ⟨own_below h.own hb, h.len, fun p hp => (h.new p hp).below hb, h.far, h.nilI⟩
theorem RowV.heads {w : World} {base g n c : Nat} {P : List (SV × HAd)} (h : RowV w base (.slice (some ⟨g, 0, none⟩) n c) P n) : HeadsIn w (some ⟨g, 0, none⟩) P := by
  refine ⟨fun i hi => ⟨g, 0, rfl, (h.own.lt g rfl).2, fun j hj => ?_⟩, fun p hp => (h.new p hp).siv, h.nilI⟩
  have hl := h.len
  rw [Nat.zero_add, h.own.cellAt _ (by omega), hvS_at hi j hj]
/-- One more at the end. -/
theorem RowV.snoc {wr w1 w3 : World} {base : Nat} {v v' : Value} {P : List (SV × HAd)} {n : Nat} {s : SV} {q : HAd} {ob : Obj} (h : RowV wr base v P n) (hbase : base ≤ wr.heap.size) (hb : Below wr.heap.size wr w1) (hq : SivNew w1 wr.heap.size q s) (hnil : q.sa = none → q.sc = 0)
    (hown : w3.ownsRow base 38 7 v' (n + 1) (hvS P ++ headSv s q)) (hgrow : (w1.alloc ob).grownBy w3 v.ownBlock) (hloc : v'.ownBlock = v.ownBlock ∨ v'.ownBlock = some (w1.alloc ob).heap.size) : RowV w3 base v' (P ++ [(s, q)]) (n + 1) := by
  have hA : Below w1.heap.size w1 (w1.alloc ob) := (Below.refl _ _).alloc (Nat.le_refl _) _
  have KG := KeepS.grown hgrow
  have hgl : ∀ g, v.ownBlock = some g → g < wr.heap.size := fun g hg => (h.own.lt g hg).2
  have hsz : (w1.alloc ob).heap.size = w1.heap.size + 1 := by simp
  have hs1 := hb.size
  refine ⟨?_, by rw [List.length_append, h.len]; rfl, ?_, ?_, ?_⟩
  · rw [hvS_append]
    simpa [hvS] using hown
  · intro p hp
    rcases List.mem_append.1 hp with hp | hp
    · exact (((h.new p hp).below hb).below hA).keepS KG (fun b hb2 e => h.far p hp b hb2 e.symm)
    · rcases List.mem_cons.1 hp with rfl | hp
      · refine ((hq.below hA).lower hbase).keepS KG (fun b hb2 e => ?_)
        have := hq.lo b hb2
        have := hgl b e.symm
        omega
      · cases hp
  · intro p hp b hb2 e
    have hlt : ∀ g, v'.ownBlock = some g → (g < wr.heap.size ∧ v.ownBlock = some g) ∨ g = w1.heap.size + 1 := fun g hg => by
      rcases hloc with e1 | e1
      · rw [e1] at hg; exact .inl ⟨hgl g hg, hg⟩
      · rw [hg] at e1; injection e1 with e1; right; omega
    rcases List.mem_append.1 hp with hp | hp
    · rcases hlt b e with ⟨_, h2⟩ | h2
      · exact h.far p hp b hb2 h2
      · have := (h.new p hp).lt b hb2
        omega
    · rcases List.mem_cons.1 hp with rfl | hp
      · have h3 := hq.lo b hb2
        have h4 := hq.lt b hb2
        rcases hlt b e with ⟨h1, _⟩ | h2
        · omega
        · omega
      · cases hp
  · intro p hp
    rcases List.mem_append.1 hp with hp | hp
    · exact h.nilI p hp
    · rcases List.mem_cons.1 hp with rfl | hp
      · exact hnil
      · cases hp
theorem own_emptySv (w : World) (B : Nat) (hB : B ≤ w.heap.size) : (w.alloc (.cells #[] 38)).ownsRow B 38 7 (.slice (some ⟨w.heap.size, 0, none⟩) 0 0) 0 [] :=
  ⟨rfl, .inr ⟨w.heap.size, 0, #[], rfl, hB, by show (w.heap.push _)[w.heap.size]? = _; simp, Nat.le_refl _, by unfold maxLen; omega, rfl, rfl⟩⟩
theorem RowV.empty {w : World} {base : Nat} {v : Value} (h : w.ownsRow base 38 7 v 0 []) : RowV w base v [] 0 :=
  ⟨h, rfl, fun p hp => by simp at hp, fun p hp => by simp at hp, fun p hp => by simp at hp⟩
/-- Sieves that can be copied. -/
def MildS (s : SV) : Prop := s.names.length ≤ 1048576 ∧ s.sum.length ≤ 1048576
/-- A copy: a list of sieves in memory of its own. -/
def CopyV (w : World) (n : Nat) (T : List SV) (e : Ending) (w' : World) : Prop := ∃ g c P', e = .returned (.slice (some ⟨g, 0, none⟩) n c) ∧ P'.map Prod.fst = T ∧ RowV w' w.heap.size (.slice (some ⟨g, 0, none⟩) n c) P' n ∧ Below w.heap.size w w'
set_option maxRecDepth 100000 in
set_option maxHeartbeats 4000000 in
theorem l13copy_spec (a : Option Addr) (cap : Nat) (P : List (SV × HAd)) (n : Nat) (hn : P.length = n) (w : World) (hrow : HeadsIn w a P) (hm : n ≤ 4000) (hsm : ∀ p ∈ P, MildS p.1) :
    Calls Tryz.prog 13 #[.slice a n cap] w (CopyV w n (P.map Prod.fst)) := by
  obtain ⟨i0, hti, hz0, hz1, hz2⟩ := info_parts infoSV
  have HR : Hid (HeadsIn w a P) := hrow
  have HN : Hid (P.length = n) := hn
  have HSM : Hid (∀ p ∈ P, MildS p.1) := hsm
  have own0 : Hid (∃ P', P'.map Prod.fst = (P.take 0).map Prod.fst ∧ RowV (w.alloc (.cells #[] 38)) w.heap.size (.slice (some ⟨w.heap.size, 0, none⟩) 0 0) P' 0) := ⟨[], rfl, RowV.empty (own_emptySv w _ (Nat.le_refl _))⟩
  have hb0 : Below w.heap.size w (w.alloc (.cells #[] 38)) := (Below.refl _ _).alloc (Nat.le_refl _) _
  clear hrow hn hsm
  go_enter Tryz.func13, Tryz.ntmps13
  go_wp2
  go_loopw [3, 4] (fun v kk wr => ∃ k : Nat, k ≤ n ∧ kk = .int .i64 k ∧ Hid (∃ P', P'.map Prod.fst = (P.take k).map Prod.fst ∧ RowV wr w.heap.size v P' k) ∧ Below w.heap.size w wr ∧ v ≠ .slice none 0 0) (fun _ kk _ => n - (intOf kk).toNat)
  case atStart => exact ⟨0, Nat.zero_le _, rfl, own0, hb0, by simp⟩
  case round =>
    obtain ⟨k, hk, rfl, hOw, hbw, hvn⟩ := hrel
    by_cases hlt : k < n
    · have hlt' : Hid (k < P.length) := by have := HN.out; exact show k < P.length by omega
      obtain ⟨b, o, rfl, hgw, c0, c1, c2, c3, c4, c5, c6⟩ := (HR.out.below hbw).at k hlt'.out
      have hi0 : (0 : Int) ≤ (k : Int) := by omega
      have hi1 : (k : Int) < (n : Int) := by omega
      obtain ⟨P', hmap, hO⟩ := hOw.out
      have HO : Hid (RowV wr w.heap.size _ P' k) := hO
      have HMAP : Hid (P'.map Prod.fst = (P.take k).map Prod.fst) := hmap
      have HSIV : Hid (SivAt wr (P[k]'hlt'.out).2.na (P[k]'hlt'.out).2.nc (P[k]'hlt'.out).2.sa (P[k]'hlt'.out).1) := (HR.out.below hbw).siv _ (List.getElem_mem hlt'.out)
      have HNIL : Hid ((P[k]'hlt'.out).2.sa = none → (P[k]'hlt'.out).2.sc = 0) := HR.out.nilI _ (List.getElem_mem hlt'.out)
      have HMS : Hid (MildS (P[k]'hlt'.out).1) := HSM.out _ (List.getElem_mem hlt'.out)
      have HTK : Hid ((P.take (k + 1)).map Prod.fst = (P.take k).map Prod.fst ++ [(P[k]'hlt'.out).1]) := by
        have h : (P.take (k + 1)).map Prod.fst = (P.take k).map Prod.fst ++ [(P[k]'hlt'.out).1] := by
          rw [List.take_succ_eq_append_getElem hlt'.out, List.map_append]; rfl
        exact h
      clear hO hmap hOw
      generalize (P[k]'hlt'.out) = p at c0 c1 c2 c3 c4 c5 c6 HSIV HNIL HMS HTK
      obtain ⟨⟨kd, nm, N, S, dn, ct, sk⟩, ⟨na, nc, sa, sc⟩⟩ := p
      obtain ⟨nn, hnn⟩ : ∃ z, N.length = z := ⟨_, rfl⟩
      obtain ⟨sn, hsn⟩ : ∃ z, S.length = z := ⟨_, rfl⟩
      dsimp only at c0 c1 c2 c3 c4 c5 c6 HSIV HNIL HMS HTK
      rw [hnn] at c2
      rw [hsn] at c3
      have HNN : Hid (N.length = nn) := hnn
      have HSN : Hid (S.length = sn) := hsn
      have hn1 : nn ≤ 1048576 := by rw [← hnn]; exact HMS.out.1
      have hs1 : sn ≤ 1048576 := by rw [← hsn]; exact HMS.out.2
      clear hnn hsn
      go_wp2_with fail
      refine (l13sieve_spec kd nm na nn nc N HNN.out sa sn sc S HSN.out dn ct sk _ HSIV.out hn1 hs1 HNIL.out).mono ?_
      rintro e w3 ⟨⟨qa, qc, ra, rc⟩, rfl, hnew, hra, hb3⟩
      have HQ : Hid (SivNew w3 wr.heap.size ⟨qa, qc, ra, rc⟩ ⟨kd, nm, N, S, dn, ct, sk⟩) := hnew
      have O3 := own_below HO.out.own hb3
      have HB3 : Hid (Below wr.heap.size wr w3) := hb3
      have hs3w : w.heap.size ≤ w3.heap.size := by have := hbw.size; have := hb3.size; omega
      clear hnew hb3 c0 c1 c2 c3 c4 c5 c6
      dsimp only
      go_wp2_with (at_builtin; refine wpList_append_own_at _ rfl _ _ 24 rfl w.heap.size 38 i0 (.agg #[.int .i64 0, .string ⟨#[]⟩, .slice none 0 0, .slice none 0 0, .bool false, .int .i64 0, .int .i64 0]) 7 96 Tryz.underlying24 hti hz0 hz1 hz2 rfl (by decide) _ _ _ rfl (O3.alloc _) ⟨w3.heap.size, 0, none⟩ 1 1 [.int .i64 kd, .string nm, .slice qa nn qc, .slice ra sn rc, .bool dn, .int .i64 ct, .int .i64 sk] rfl rfl ?c1 ?c2 ?c3 ?c4 ?c5 ?_)
      case c2 => exact ⟨rfl, rfl, rfl, rfl, rfl, rfl, rfl⟩
      case c3 => unfold maxLen; omega
      case c4 => omega
      case c5 => first | omega | (simp; omega)
      intro v' w4 own4 hgrow hnn hloc
      have hx4 : Below w.heap.size w w4 := by
        refine ((hbw.trans (HB3.out.mono hbw.size)).alloc hs3w _).grown hgrow (by simp; omega) ?_
        intro j hj
        exact (O3.lt j hj).1
      have hsa : (w3.alloc (.cells #[.int .i64 kd, .string nm, .slice qa nn qc, .slice ra sn rc, .bool dn, .int .i64 ct, .int .i64 sk] 38)).heap.size = w3.heap.size + 1 := by simp
      have OW4 : Hid (∃ P', P'.map Prod.fst = (P.take (k + 1)).map Prod.fst ∧ RowV w4 w.heap.size v' P' (k + 1)) := by
        refine ⟨P' ++ [(⟨kd, nm, N, S, dn, ct, sk⟩, ⟨qa, qc, ra, rc⟩)], by rw [HTK.out, List.map_append, HMAP.out]; rfl, RowV.snoc HO.out hbw.size HB3.out HQ.out (fun h => absurd h hra) ?_ hgrow (by first | exact hloc | (rw [hsa]; exact hloc))⟩
        unfold headSv
        rw [HNN.out, HSN.out]
        exact own4
      have hvn4 : v' ≠ .slice none 0 0 := by first | exact hnn | exact fun e => hvn (hnn.1 e).1
      clear own4 hgrow hnn hloc O3 HO HQ HB3 hsa hra
      go_wp2
      go_roundw
      case rel => exact ⟨k + 1, by omega, by go_num, OW4, hx4, hvn4⟩
      case measure => simp [intOf]; omega
    · have hkl : k = n := by omega
      subst hkl
      have hnn : ¬ (k : Int) < (k : Int) := by omega
      obtain ⟨P', hmap, hO⟩ := hOw.out
      rcases hO.own.2 with ⟨e, _⟩ | ⟨g, c, cur, e, _⟩
      · exact absurd e hvn
      subst e
      have FIN : Hid (CopyV w k (P.map Prod.fst) (.returned (.slice (some ⟨g, 0, none⟩) k c)) wr) := ⟨g, c, P', rfl, by rw [hmap, ← HN.out, List.take_length], hO, hbw⟩
      clear hO hOw hmap
      go_wp2
      go_ret
      exact FIN.out
end Go.Proofs.YtadbbkpillfjaaaGreatDoor
