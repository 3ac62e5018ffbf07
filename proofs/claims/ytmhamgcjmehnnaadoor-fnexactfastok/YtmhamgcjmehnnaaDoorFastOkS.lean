/-
  The model's FastOk.
-/
import Derived.Test.YtmhamgcjmehnnaaDoorFastMath
import Derived.Test.YtmhamgcjmehnnaaDoorWalk1
import Derived.Test.YtmhamgcjmehnnaaDoorKept
namespace Go.Proofs.YtmhamgcjmehnnaaDoor
open Go.ChangeShapes Go.WideShapes Go.ChangeAt Go.RowKit
attribute [local go_sem ↓] Go.wp_at_zero Go.wp_at_succ
attribute [local simp] World.cell?_alloc_past World.cell?_alloc_at World.frozen?_alloc_at cell_far cell_off cell_here World.frozen?_alloc_past

/-- The registers that are had, in a row of thirty. -/
def HadAt (w : World) (g : Nat) (P : Int → Bool) : Prop := ∀ r : Nat, r < 30 → w.cell? ⟨g, r, none⟩ = some (.bool (P r))
set_option maxRecDepth 100000 in
set_option maxHeartbeats 8000000 in
theorem l15op_spec (kd tg a b width : Int) (g : Nat) (P : Int → Bool) (w : World) (hH : HadAt w g P) (hw : 1 ≤ width ∧ width ≤ 6) (q : Bool) (hq : opB P width (kd, tg, a, b) = q) :
    Calls Tryd.prog 12 #[.agg #[.int .i64 kd, .int .i64 tg, .int .i64 a, .int .i64 b], .slice (some ⟨g, 0, none⟩) 30 30, .int .i64 width] w fun e w' => e = .returned (.bool q) ∧ Below w.heap.size w w' := by
  have hA : Below w.heap.size w (w.alloc (.cells #[.int .i64 kd, .int .i64 tg, .int .i64 a, .int .i64 b] 41)) := (Below.refl _ _).alloc (Nat.le_refl _) _
  have HQ := hid hq
  have hgl : g < w.heap.size := World.block_lt_of_cell? w _ (hH 0 (by omega))
  have hH := hid hH
  clear hq
  by_cases k12 : kd = 12
  case pos =>
    subst k12
    by_cases t0 : tg = 0
    case neg =>
      obtain rfl : false = q := by rw [← HQ.out]; simp [opB, inI, t0]
      go_enter Tryd.func12, Tryd.ntmps12
      go_wp2_with (first | (go_at_call 11; refine (in_spec _ _ _ _).mono ?_; rintro e w' ⟨rfl, rfl⟩) | (go_at_call 26; refine (number_spec _ _).mono ?_; rintro e w' ⟨rfl, rfl⟩))
      go_ret
      exact ⟨by first | rfl | simp [*], hA⟩
    subst t0
    by_cases b0 : b = 0
    case neg =>
      obtain rfl : false = q := by rw [← HQ.out]; simp [opB, inI, b0]
      go_enter Tryd.func12, Tryd.ntmps12
      go_wp2_with (first | (go_at_call 11; refine (in_spec _ _ _ _).mono ?_; rintro e w' ⟨rfl, rfl⟩) | (go_at_call 26; refine (number_spec _ _).mono ?_; rintro e w' ⟨rfl, rfl⟩))
      go_ret
      exact ⟨by first | rfl | simp [*], hA⟩
    subst b0
    by_cases ha : 0 ≤ a
    case neg =>
      obtain rfl : false = q := by rw [← HQ.out]; simp [opB, inI, ha]
      go_enter Tryd.func12, Tryd.ntmps12
      go_wp2_with (first | (go_at_call 11; refine (in_spec _ _ _ _).mono ?_; rintro e w' ⟨rfl, rfl⟩) | (go_at_call 26; refine (number_spec _ _).mono ?_; rintro e w' ⟨rfl, rfl⟩))
      go_ret
      exact ⟨by first | rfl | simp [*], hA⟩
    by_cases ha' : a ≤ 29
    case neg =>
      obtain rfl : false = q := by rw [← HQ.out]; simp [opB, inI, ha, ha']
      go_enter Tryd.func12, Tryd.ntmps12
      go_wp2_with (first | (go_at_call 11; refine (in_spec _ _ _ _).mono ?_; rintro e w' ⟨rfl, rfl⟩) | (go_at_call 26; refine (number_spec _ _).mono ?_; rintro e w' ⟨rfl, rfl⟩))
      go_ret
      exact ⟨by first | rfl | simp [*], hA⟩
    obtain ⟨n, rfl⟩ : ∃ z : Nat, a = (z : Int) := ⟨a.toNat, by omega⟩
    have cn := hH.out n (by omega)
    obtain ⟨pav, pa⟩ : ∃ z, P (n : Int) = z := ⟨_, rfl⟩
    rw [pa] at cn
    cases pav
    · obtain rfl : false = q := by rw [← HQ.out]; simp [opB, inI, ha, ha', pa]
      go_enter Tryd.func12, Tryd.ntmps12
      go_wp2_with (first | (go_at_call 11; refine (in_spec _ _ _ _).mono ?_; rintro e w' ⟨rfl, rfl⟩) | (go_at_call 26; refine (number_spec _ _).mono ?_; rintro e w' ⟨rfl, rfl⟩))
      go_ret
      exact ⟨by first | rfl | simp [*], hA⟩
    obtain rfl : true = q := by rw [← HQ.out]; simp [opB, inI, ha, ha', pa]
    go_enter Tryd.func12, Tryd.ntmps12
    go_wp2_with (first | (go_at_call 11; refine (in_spec _ _ _ _).mono ?_; rintro e w' ⟨rfl, rfl⟩) | (go_at_call 26; refine (number_spec _ _).mono ?_; rintro e w' ⟨rfl, rfl⟩))
    go_ret
    exact ⟨by first | rfl | simp [*], hA⟩
  by_cases ht : 0 ≤ tg
  case neg =>
    obtain rfl : false = q := by rw [← HQ.out]; simp [opB, inI, k12, ht]
    go_enter Tryd.func12, Tryd.ntmps12
    go_wp2_with (first | (go_at_call 11; refine (in_spec _ _ _ _).mono ?_; rintro e w' ⟨rfl, rfl⟩) | (go_at_call 26; refine (number_spec _ _).mono ?_; rintro e w' ⟨rfl, rfl⟩))
    go_ret
    exact ⟨by first | rfl | simp [*], hA⟩
  by_cases ht' : tg ≤ 29
  case neg =>
    obtain rfl : false = q := by rw [← HQ.out]; simp [opB, inI, k12, ht, ht']
    go_enter Tryd.func12, Tryd.ntmps12
    go_wp2_with (first | (go_at_call 11; refine (in_spec _ _ _ _).mono ?_; rintro e w' ⟨rfl, rfl⟩) | (go_at_call 26; refine (number_spec _ _).mono ?_; rintro e w' ⟨rfl, rfl⟩))
    go_ret
    exact ⟨by first | rfl | simp [*], hA⟩
  obtain ⟨r, rfl⟩ : ∃ z : Nat, tg = (z : Int) := ⟨tg.toNat, by omega⟩
  have cr := hH.out r (by omega)
  obtain ⟨ptv, pt⟩ : ∃ z, P (r : Int) = z := ⟨_, rfl⟩
  rw [pt] at cr
  cases ptv
  case true =>
    obtain rfl : false = q := by rw [← HQ.out]; simp [opB, inI, k12, ht, ht', pt]
    go_enter Tryd.func12, Tryd.ntmps12
    go_wp2_with (first | (go_at_call 11; refine (in_spec _ _ _ _).mono ?_; rintro e w' ⟨rfl, rfl⟩) | (go_at_call 26; refine (number_spec _ _).mono ?_; rintro e w' ⟨rfl, rfl⟩))
    go_ret
    exact ⟨by first | rfl | simp [*], hA⟩
  by_cases k1 : kd = 1
  case pos =>
    subst k1
    by_cases ha : 0 ≤ a
    case neg =>
      obtain rfl : false = q := by rw [← HQ.out]; simp [opB, inI, k12, ht, ht', pt, ha]
      go_enter Tryd.func12, Tryd.ntmps12
      go_wp2_with (first | (go_at_call 11; refine (in_spec _ _ _ _).mono ?_; rintro e w' ⟨rfl, rfl⟩) | (go_at_call 26; refine (number_spec _ _).mono ?_; rintro e w' ⟨rfl, rfl⟩))
      go_ret
      exact ⟨by first | rfl | simp [*], hA⟩
    by_cases ha' : a ≤ width - 1
    case neg =>
      obtain rfl : false = q := by rw [← HQ.out]; simp [opB, inI, k12, ht, ht', pt, ha, ha']
      go_enter Tryd.func12, Tryd.ntmps12
      go_wp2_with (first | (go_at_call 11; refine (in_spec _ _ _ _).mono ?_; rintro e w' ⟨rfl, rfl⟩) | (go_at_call 26; refine (number_spec _ _).mono ?_; rintro e w' ⟨rfl, rfl⟩))
      go_ret
      exact ⟨by first | rfl | simp [*], hA⟩
    by_cases b0 : b = 0
    case neg =>
      obtain rfl : false = q := by rw [← HQ.out]; simp [opB, inI, k12, ht, ht', pt, ha, ha', b0]
      go_enter Tryd.func12, Tryd.ntmps12
      go_wp2_with (first | (go_at_call 11; refine (in_spec _ _ _ _).mono ?_; rintro e w' ⟨rfl, rfl⟩) | (go_at_call 26; refine (number_spec _ _).mono ?_; rintro e w' ⟨rfl, rfl⟩))
      go_ret
      exact ⟨by first | rfl | simp [*], hA⟩
    subst b0
    obtain rfl : true = q := by rw [← HQ.out]; simp [opB, inI, k12, ht, ht', pt, ha, ha']
    go_enter Tryd.func12, Tryd.ntmps12
    go_wp2_with (first | (go_at_call 11; refine (in_spec _ _ _ _).mono ?_; rintro e w' ⟨rfl, rfl⟩) | (go_at_call 26; refine (number_spec _ _).mono ?_; rintro e w' ⟨rfl, rfl⟩))
    go_ret
    exact ⟨by first | rfl | simp [*], hA⟩
  by_cases k2 : kd = 2
  case pos =>
    subst k2
    have en : inI a (-1000000000) 1000000000 = numB a := by unfold inI numB; simp
    have htt : inI (r : Int) 0 29 = true := by unfold inI; simp [ht']
    cases hnb : numB a
    case false =>
      obtain rfl : false = q := by rw [← HQ.out]; simp [opB, htt, en, hnb, pt]
      go_enter Tryd.func12, Tryd.ntmps12
      go_wp2_with (first | (go_at_call 11; refine (in_spec _ _ _ _).mono ?_; rintro e w' ⟨rfl, rfl⟩) | (go_at_call 26; refine (number_spec _ _).mono ?_; rintro e w' ⟨rfl, rfl⟩))
      go_ret
      exact ⟨by first | rfl | simp [*], hA⟩
    by_cases b0 : b = 0
    case neg =>
      obtain rfl : false = q := by rw [← HQ.out]; simp [opB, htt, en, hnb, pt, b0]
      go_enter Tryd.func12, Tryd.ntmps12
      go_wp2_with (first | (go_at_call 11; refine (in_spec _ _ _ _).mono ?_; rintro e w' ⟨rfl, rfl⟩) | (go_at_call 26; refine (number_spec _ _).mono ?_; rintro e w' ⟨rfl, rfl⟩))
      go_ret
      exact ⟨by first | rfl | simp [*], hA⟩
    subst b0
    obtain rfl : true = q := by rw [← HQ.out]; simp [opB, htt, en, hnb, pt]
    go_enter Tryd.func12, Tryd.ntmps12
    go_wp2_with (first | (go_at_call 11; refine (in_spec _ _ _ _).mono ?_; rintro e w' ⟨rfl, rfl⟩) | (go_at_call 26; refine (number_spec _ _).mono ?_; rintro e w' ⟨rfl, rfl⟩))
    go_ret
    exact ⟨by first | rfl | simp [*], hA⟩
  by_cases k11 : kd = 11
  case pos =>
    subst k11
    by_cases ha : 0 ≤ a
    case neg =>
      obtain rfl : false = q := by rw [← HQ.out]; simp [opB, inI, k12, ht, ht', pt, ha]
      go_enter Tryd.func12, Tryd.ntmps12
      go_wp2_with (first | (go_at_call 11; refine (in_spec _ _ _ _).mono ?_; rintro e w' ⟨rfl, rfl⟩) | (go_at_call 26; refine (number_spec _ _).mono ?_; rintro e w' ⟨rfl, rfl⟩))
      go_ret
      exact ⟨by first | rfl | simp [*], hA⟩
    by_cases ha' : a ≤ 29
    case neg =>
      obtain rfl : false = q := by rw [← HQ.out]; simp [opB, inI, k12, ht, ht', pt, ha, ha']
      go_enter Tryd.func12, Tryd.ntmps12
      go_wp2_with (first | (go_at_call 11; refine (in_spec _ _ _ _).mono ?_; rintro e w' ⟨rfl, rfl⟩) | (go_at_call 26; refine (number_spec _ _).mono ?_; rintro e w' ⟨rfl, rfl⟩))
      go_ret
      exact ⟨by first | rfl | simp [*], hA⟩
    obtain ⟨n, rfl⟩ : ∃ z : Nat, a = (z : Int) := ⟨a.toNat, by omega⟩
    have cn := hH.out n (by omega)
    obtain ⟨pav, pa⟩ : ∃ z, P (n : Int) = z := ⟨_, rfl⟩
    rw [pa] at cn
    cases pav
    · obtain rfl : false = q := by rw [← HQ.out]; simp [opB, inI, k12, ht, ht', pt, ha, ha', pa]
      go_enter Tryd.func12, Tryd.ntmps12
      go_wp2_with (first | (go_at_call 11; refine (in_spec _ _ _ _).mono ?_; rintro e w' ⟨rfl, rfl⟩) | (go_at_call 26; refine (number_spec _ _).mono ?_; rintro e w' ⟨rfl, rfl⟩))
      go_ret
      exact ⟨by first | rfl | simp [*], hA⟩
    by_cases b0 : b = 0
    case neg =>
      obtain rfl : false = q := by rw [← HQ.out]; simp [opB, inI, k12, ht, ht', pt, ha, ha', pa, b0]
      go_enter Tryd.func12, Tryd.ntmps12
      go_wp2_with (first | (go_at_call 11; refine (in_spec _ _ _ _).mono ?_; rintro e w' ⟨rfl, rfl⟩) | (go_at_call 26; refine (number_spec _ _).mono ?_; rintro e w' ⟨rfl, rfl⟩))
      go_ret
      exact ⟨by first | rfl | simp [*], hA⟩
    subst b0
    obtain rfl : true = q := by rw [← HQ.out]; simp [opB, inI, k12, ht, ht', pt, ha, ha', pa]
    go_enter Tryd.func12, Tryd.ntmps12
    go_wp2_with (first | (go_at_call 11; refine (in_spec _ _ _ _).mono ?_; rintro e w' ⟨rfl, rfl⟩) | (go_at_call 26; refine (number_spec _ _).mono ?_; rintro e w' ⟨rfl, rfl⟩))
    go_ret
    exact ⟨by first | rfl | simp [*], hA⟩
  by_cases hk : 3 ≤ kd
  case neg =>
    obtain rfl : false = q := by rw [← HQ.out]; simp [opB, inI, k12, ht, ht', pt, k1, k2, k11, hk]
    go_enter Tryd.func12, Tryd.ntmps12
    go_wp2_with (first | (go_at_call 11; refine (in_spec _ _ _ _).mono ?_; rintro e w' ⟨rfl, rfl⟩) | (go_at_call 26; refine (number_spec _ _).mono ?_; rintro e w' ⟨rfl, rfl⟩))
    go_ret
    exact ⟨by first | rfl | simp [*], hA⟩
  by_cases hk' : kd ≤ 10
  case neg =>
    obtain rfl : false = q := by rw [← HQ.out]; simp [opB, inI, k12, ht, ht', pt, k1, k2, k11, hk, hk']
    go_enter Tryd.func12, Tryd.ntmps12
    go_wp2_with (first | (go_at_call 11; refine (in_spec _ _ _ _).mono ?_; rintro e w' ⟨rfl, rfl⟩) | (go_at_call 26; refine (number_spec _ _).mono ?_; rintro e w' ⟨rfl, rfl⟩))
    go_ret
    exact ⟨by first | rfl | simp [*], hA⟩
  by_cases ha : 0 ≤ a
  case neg =>
    obtain rfl : false = q := by rw [← HQ.out]; simp [opB, inI, k12, ht, ht', pt, k1, k2, k11, hk, hk', ha]
    go_enter Tryd.func12, Tryd.ntmps12
    go_wp2_with (first | (go_at_call 11; refine (in_spec _ _ _ _).mono ?_; rintro e w' ⟨rfl, rfl⟩) | (go_at_call 26; refine (number_spec _ _).mono ?_; rintro e w' ⟨rfl, rfl⟩))
    go_ret
    exact ⟨by first | rfl | simp [*], hA⟩
  by_cases ha' : a ≤ 29
  case neg =>
    obtain rfl : false = q := by rw [← HQ.out]; simp [opB, inI, k12, ht, ht', pt, k1, k2, k11, hk, hk', ha, ha']
    go_enter Tryd.func12, Tryd.ntmps12
    go_wp2_with (first | (go_at_call 11; refine (in_spec _ _ _ _).mono ?_; rintro e w' ⟨rfl, rfl⟩) | (go_at_call 26; refine (number_spec _ _).mono ?_; rintro e w' ⟨rfl, rfl⟩))
    go_ret
    exact ⟨by first | rfl | simp [*], hA⟩
  obtain ⟨n, rfl⟩ : ∃ z : Nat, a = (z : Int) := ⟨a.toNat, by omega⟩
  have cn := hH.out n (by omega)
  obtain ⟨pav, pa⟩ : ∃ z, P (n : Int) = z := ⟨_, rfl⟩
  rw [pa] at cn
  cases pav
  · obtain rfl : false = q := by rw [← HQ.out]; simp [opB, inI, k12, ht, ht', pt, k1, k2, k11, hk, hk', ha, ha', pa]
    go_enter Tryd.func12, Tryd.ntmps12
    go_wp2_with (first | (go_at_call 11; refine (in_spec _ _ _ _).mono ?_; rintro e w' ⟨rfl, rfl⟩) | (go_at_call 26; refine (number_spec _ _).mono ?_; rintro e w' ⟨rfl, rfl⟩))
    go_ret
    exact ⟨by first | rfl | simp [*], hA⟩
  by_cases hb : 0 ≤ b
  case neg =>
    obtain rfl : false = q := by rw [← HQ.out]; simp [opB, inI, k12, ht, ht', pt, k1, k2, k11, hk, hk', ha, ha', pa, hb]
    go_enter Tryd.func12, Tryd.ntmps12
    go_wp2_with (first | (go_at_call 11; refine (in_spec _ _ _ _).mono ?_; rintro e w' ⟨rfl, rfl⟩) | (go_at_call 26; refine (number_spec _ _).mono ?_; rintro e w' ⟨rfl, rfl⟩))
    go_ret
    exact ⟨by first | rfl | simp [*], hA⟩
  by_cases hb' : b ≤ 29
  case neg =>
    obtain rfl : false = q := by rw [← HQ.out]; simp [opB, inI, k12, ht, ht', pt, k1, k2, k11, hk, hk', ha, ha', pa, hb, hb']
    go_enter Tryd.func12, Tryd.ntmps12
    go_wp2_with (first | (go_at_call 11; refine (in_spec _ _ _ _).mono ?_; rintro e w' ⟨rfl, rfl⟩) | (go_at_call 26; refine (number_spec _ _).mono ?_; rintro e w' ⟨rfl, rfl⟩))
    go_ret
    exact ⟨by first | rfl | simp [*], hA⟩
  obtain ⟨m, rfl⟩ : ∃ z : Nat, b = (z : Int) := ⟨b.toNat, by omega⟩
  have cm := hH.out m (by omega)
  obtain ⟨pbv, pb⟩ : ∃ z, P (m : Int) = z := ⟨_, rfl⟩
  rw [pb] at cm
  cases pbv
  · obtain rfl : false = q := by rw [← HQ.out]; simp [opB, inI, k12, ht, ht', pt, k1, k2, k11, hk, hk', ha, ha', pa, hb, hb', pb]
    go_enter Tryd.func12, Tryd.ntmps12
    go_wp2_with (first | (go_at_call 11; refine (in_spec _ _ _ _).mono ?_; rintro e w' ⟨rfl, rfl⟩) | (go_at_call 26; refine (number_spec _ _).mono ?_; rintro e w' ⟨rfl, rfl⟩))
    go_ret
    exact ⟨by first | rfl | simp [*], hA⟩
  obtain rfl : true = q := by rw [← HQ.out]; simp [opB, inI, k12, ht, ht', pt, k1, k2, k11, hk, hk', ha, ha', pa, hb, hb', pb]
  go_enter Tryd.func12, Tryd.ntmps12
  go_wp2_with (first | (go_at_call 11; refine (in_spec _ _ _ _).mono ?_; rintro e w' ⟨rfl, rfl⟩) | (go_at_call 26; refine (number_spec _ _).mono ?_; rintro e w' ⟨rfl, rfl⟩))
  go_ret
  exact ⟨by first | rfl | simp [*], hA⟩
def hadV (P : Int → Bool) : List Value := (List.range 30).map fun (r : Nat) => Value.bool (P r)
theorem had_at {w : World} {base g : Nat} {P : Int → Bool} (h : w.ownsRow base 4 1 (.slice (some ⟨g, 0, none⟩) 30 30) 30 (hadV P)) : HadAt w g P := by
  intro r hr
  rw [h.cellAt r (by omega)]
  unfold hadV
  rw [List.getElem?_map, List.getElem?_range hr]
  rfl
theorem hadV_get (P : Int → Bool) (i : Nat) (h : i < (hadV P).length) : (hadV P)[i] = .bool (P i) := by simp [hadV]
theorem had_set {P : Int → Bool} {r : Nat} : (hadV P).set r (.bool true) = hadV (fun x => P x || decide ((r : Int) = x)) := by
  refine List.ext_getElem (by simp [hadV]) fun i h1 h2 => ?_
  rw [List.getElem_set, hadV_get, hadV_get]
  by_cases e : r = i
  · subst e
    rw [if_pos rfl]
    simp
  · rw [if_neg e]
    have : ¬ ((r : Int) = (i : Int)) := by omega
    simp [this]
theorem infoBl : (Tryd.prog.info? 4).map (fun i => (i.zero, i.size, i.bytes)) = some (some (.bool false), 1, 1) := by kernel_rfl
theorem made_had : (madeCells #[Value.bool false] 30).toList = hadV (hadB []) := by
  rw [toList_madeCells_one]
  rfl
set_option maxRecDepth 100000 in
set_option maxHeartbeats 8000000 in
theorem fastok_spec (oa : Option Addr) (oc : Nat) (O : List FO) (n : Nat) (hn : O.length = n) (ua : Option Addr) (uc : Nat) (U : List FU) (m : Nat) (hm : U.length = m) (width : Int) (w : World) (hO : FoAt w oa O) (hU : FuAt w ua U) (hn1 : n ≤ maxLen) (hm1 : m ≤ maxLen) (q : Bool) (hq : fastB O U width = q) :
    Calls Tryd.prog 5 #[.agg #[.slice oa n oc, .slice ua m uc], .int .i64 width] w fun e w' => e = .returned (.bool q) ∧ Below w.heap.size w w' := by
  obtain ⟨i0, hti, hz0, hz1, hz2⟩ := info_parts infoBl
  have HO := hid hO
  have HU := hid hU
  have HN := hid hn
  have HM := hid hm
  have HQ := hid hq
  unfold maxLen at hn1 hm1
  obtain ⟨V, hV⟩ : ∃ V, V = w.alloc (.cells #[.slice oa n oc, .slice ua m uc] 31) := ⟨_, rfl⟩
  have hA : Below w.heap.size w V := by rw [hV]; exact (Below.refl _ _).alloc (Nat.le_refl _) _
  have HB := hid (p := V.heap[w.heap.size]? = some (.cells #[.slice oa n oc, .slice ua m uc] 31)) (by rw [hV]; exact _root_.Go.heap_alloc_new w _)
  have HV := hid hV.symm
  have hVs : w.heap.size < V.heap.size := by rw [hV]; simp
  clear hO hU hn hm hq hV
  by_cases hw : 1 ≤ width ∧ width ≤ 6
  case neg =>
    obtain rfl : false = q := by rw [← HQ.out]; unfold fastB inI; simp; omega
    have hww : (decide (1 ≤ width) && decide (width ≤ 6)) = false := by simp; omega
    go_enter Tryd.func5, Tryd.ntmps5
    go_wp2_with (go_at_call 11; refine (in_spec _ _ _ _).mono ?_; rintro e w' ⟨rfl, rfl⟩; rw [hww])
    rw [HV.out]
    go_ret
    exact ⟨rfl, hA⟩
  have hww : (decide (1 ≤ width) && decide (width ≤ 6)) = true := by simp; omega
  go_enter Tryd.func5, Tryd.ntmps5
  go_wp2_with (first | (go_at_call 11; refine (in_spec _ _ _ _).mono ?_; rintro e w' ⟨rfl, rfl⟩; rw [hww]) | (at_make; refine wpList_make_full _ rfl _ _ 38 rfl w.heap.size 4 i0 (.bool false) 1 Tryd.underlying38 hti hz0 hz1 .i64 .i64 _ _ 30 rfl rfl rfl rfl ?b2 ?b3 ?b4 ?_))
  case b2 => rw [hz2]; omega
  case b3 => unfold maxLen; omega
  case b4 => simp
  intro w1 hown hgrow
  rw [HV.out] at hgrow
  rw [made_had] at hown
  have hb1 : Below V.heap.size V w1 := (Below.refl _ _).grown hgrow (Nat.le_refl _) (by intro k h; cases h)
  have hx1 := chain hA hb1
  obtain ⟨gh, hgh⟩ : ∃ z, w.heap.size + 1 = z := ⟨_, rfl⟩
  have hgw : w.heap.size < gh := by omega
  rw [hgh] at hown ⊢
  have OW := hid hown
  have HB1 := hid (p := w1.heap[w.heap.size]? = some (.cells #[.slice oa n oc, .slice ua m uc] 31)) ((hb1.block _ hVs).trans HB.out)
  clear hown hgrow hgh hb1
  go_wp2
  go_loopw [6] (fun kk wr => ∃ k : Nat, k ≤ n ∧ kk = .int .i64 k ∧ Hid (wr.ownsRow w.heap.size 4 1 (.slice (some ⟨gh, 0, none⟩) 30 30) 30 (hadV (hadB (O.take k)))) ∧ Hid (∀ j (hj : j < O.length), j < k → opB (hadB (O.take j)) width O[j] = true) ∧ Hid (wr.heap[w.heap.size]? = some (.cells #[.slice oa n oc, .slice ua m uc] 31)) ∧ Below w.heap.size w wr) (fun kk _ => n - (intOf kk).toNat)
  case atStart => exact ⟨0, Nat.zero_le _, rfl, OW, hid (fun j _ h => by omega), HB1, hx1⟩
  case round =>
    obtain ⟨k, hk, rfl, hOw, hAll, hBox, hbw⟩ := hrel
    obtain ⟨p0, p1⟩ := cells2 hBox.out
    by_cases hlt : k < n
    case pos =>
      have hlk : k < O.length := by rw [HN.out]; exact hlt
      obtain ⟨g, o, rfl, hgw, c0, c1, c2, c3⟩ := HO.out.below hbw k hlk
      have hi0 : (0 : Int) ≤ (k : Int) := by omega
      have hi1 : (k : Int) < (n : Int) := by omega
      obtain ⟨r, hr⟩ : ∃ r, opB (hadB (O.take k)) width O[k] = r := ⟨_, rfl⟩
      have HNO := hid (p := r = false → q = false) (fun e => by rw [← HQ.out]; unfold fastB; rw [ops_no hlk (hr.trans e)]; simp)
      have HYES := hid (p := r = true → ∀ j (hj : j < O.length), j < k + 1 → opB (hadB (O.take j)) width O[j] = true) (fun e j hj hjk => by
        by_cases ej : j = k
        · subst ej; exact hr.trans e
        · exact hAll.out j hj (by omega))
      have HST := hid (fun x => had_step hlk x)
      obtain ⟨P, hP⟩ : ∃ P, hadB (O.take k) = P := ⟨_, rfl⟩
      rw [hP] at hr hOw
      have HST2 := hid (p := ∀ x, hadB (O.take (k + 1)) x = (P x || (decide (O[k].1 ≠ 12) && decide (O[k].2.1 = x)))) (fun x => by rw [HST.out, hP])
      have HRR := hid hr
      clear hr hAll hP HST
      generalize O[k] = x at c0 c1 c2 c3 HRR HST2
      obtain ⟨kd, tg, a, b⟩ := x
      dsimp only at c0 c1 c2 c3 HRR HST2
      go_wp2_with fail
      refine (l15op_spec kd tg a b width gh P _ (had_at hOw.out) hw r HRR.out).mono ?_
      rintro e w2 ⟨rfl, hb2⟩
      have hx2 := chain hbw hb2
      obtain ⟨hc, hf⟩ := bcell hb2
      have c0 := (hc _ _ hgw).trans c0
      have c1 := (hc _ _ hgw).trans c1
      have OW2 := hid (own_below hOw.out hb2)
      have hwr : w.heap.size < wr.heap.size := World.block_lt_of_cell? wr _ p0
      have HBX2 := hid ((hb2.block _ hwr).trans hBox.out)
      obtain ⟨p0, p1⟩ := cells2 HBX2.out
      clear hc hf c2 c3 hb2 hOw hBox
      cases r
      · obtain rfl := HNO.out rfl
        go_wp2
        go_ret
        exact ⟨rfl, hx2⟩
      have HY := hid (HYES.out rfl)
      by_cases k12 : kd = 12
      · subst k12
        have OW3 := hid (p := w2.ownsRow w.heap.size 4 1 (.slice (some ⟨gh, 0, none⟩) 30 30) 30 (hadV (hadB (O.take (k + 1))))) (by
          have e : hadB (O.take (k + 1)) = P := funext fun x => by rw [HST2.out]; simp
          rw [e]
          exact OW2.out)
        clear HST2
        go_wp2
        go_roundw
        case rel => exact ⟨k + 1, by omega, by go_num, OW3, HY, HBX2, hx2⟩
        case measure => simp [intOf]; omega
      · have hin : 0 ≤ tg ∧ tg ≤ 29 := by
          have h := HRR.out
          unfold opB at h
          rw [if_neg k12] at h
          simp only [Bool.and_eq_true, inI, decide_eq_true_eq] at h
          exact h.1
        obtain ⟨t, rfl⟩ : ∃ z : Nat, tg = (z : Int) := ⟨tg.toNat, by omega⟩
        have ht : t < 30 := by omega
        have ht1 : (t : Int) < 30 := by omega
        have hk12 : (kd != 12) = true := by simp [k12]
        have d0 := had_at OW2.out t ht
        have f0 := OW2.out.frozenAt t
        have hgl : gh < w2.heap.size := (OW2.out.lt gh rfl).2
        have OW3 := hid (p := (w2.setCell ⟨gh, t, none⟩ (.bool true)).ownsRow w.heap.size 4 1 (.slice (some ⟨gh, 0, none⟩) 30 30) 30 (hadV (hadB (O.take (k + 1))))) (by
          have e : hadB (O.take (k + 1)) = fun x => P x || decide ((t : Int) = x) := funext fun x => by rw [HST2.out]; simp [k12]
          have h := (OW2.out.stored t (.bool true)).1
          rw [had_set] at h
          rw [e]
          exact h)
        have KF : KeepS (fun b => b = gh) w2 (w2.setCell ⟨gh, t, none⟩ (.bool true)) := (KeepS.refl (fun b => b = gh) w2).setCell (p := ⟨gh, t, none⟩) rfl _
        have HBX3 := hid ((KF.block w.heap.size (by omega) (by omega)).trans HBX2.out)
        have hx3 : Below w.heap.size w (w2.setCell ⟨gh, t, none⟩ (.bool true)) := hx2.setCell (p := ⟨gh, t, none⟩) (by show w.heap.size ≤ gh; omega) _
        clear HST2 KF HRR
        go_wp2
        go_roundw
        case rel => exact ⟨k + 1, by omega, by go_num, OW3, HY, HBX3, hx3⟩
        case measure => simp [intOf]; omega
    have hkn : k = n := by omega
    have hi1 : ¬ (k : Int) < (n : Int) := by omega
    have HOP := hid (p := opsB width O = true) (ops_yes fun j hj => hAll.out j hj (by rw [hkn, ← HN.out]; exact hj))
    have HQ2 := hid (p := U.all (outB (hadB O) width) = q) (by rw [← HQ.out]; unfold fastB inI; rw [hww, HOP.out]; simp)
    have OWN := hid (p := wr.ownsRow w.heap.size 4 1 (.slice (some ⟨gh, 0, none⟩) 30 30) 30 (hadV (hadB O))) (by
      have h := hOw.out
      rw [List.take_of_length_le (by rw [HN.out]; omega)] at h
      exact h)
    clear hOw hAll
    go_wp2
    go_loopw [7] (fun kk wr => ∃ k : Nat, k ≤ m ∧ kk = .int .i64 k ∧ Hid (∀ j (hj : j < U.length), j < k → outB (hadB O) width U[j] = true) ∧ Hid (wr.ownsRow w.heap.size 4 1 (.slice (some ⟨gh, 0, none⟩) 30 30) 30 (hadV (hadB O))) ∧ Hid (wr.heap[w.heap.size]? = some (.cells #[.slice oa n oc, .slice ua m uc] 31)) ∧ Below w.heap.size w wr) (fun kk _ => m - (intOf kk).toNat)
    case atStart => exact ⟨0, Nat.zero_le _, rfl, hid (fun j _ h => by omega), OWN, hBox, hbw⟩
    case round =>
      obtain ⟨k, hk, rfl, hAll, hOw, hBox, hbw⟩ := hrel
      obtain ⟨p0, p1⟩ := cells2 hBox.out
      by_cases hlt : k < m
      case pos =>
        have hlk : k < U.length := by rw [HM.out]; exact hlt
        obtain ⟨g, o, rfl, hgw, c0, c1, c2⟩ := HU.out.below hbw k hlk
        have hi0 : (0 : Int) ≤ (k : Int) := by omega
        have hi1 : (k : Int) < (m : Int) := by omega
        have HNO := hid (p := outB (hadB O) width U[k] = false → q = false) (fun e => by
          rw [← HQ2.out, Bool.eq_false_iff]
          intro h
          have := List.all_eq_true.1 h _ (List.getElem_mem hlk)
          rw [e] at this
          cases this)
        have HYES := hid (p := outB (hadB O) width U[k] = true → ∀ j (hj : j < U.length), j < k + 1 → outB (hadB O) width U[j] = true) (fun e j hj hjk => by
          by_cases ej : j = k
          · subst ej; exact e
          · exact hAll.out j hj (by omega))
        clear hAll
        generalize U[k] = x at c0 c1 c2 HNO HYES
        obtain ⟨col, reg, tr⟩ := x
        dsimp only at c0 c1 c2 HNO HYES
        have hbA : Below wr.heap.size wr (wr.alloc (.cells #[.int .i64 col, .int .i64 reg, .bool tr] 43)) := (Below.refl _ _).alloc (Nat.le_refl _) _
        have OW2 := hid (own_below hOw.out hbA)
        have hwr : w.heap.size < wr.heap.size := World.block_lt_of_cell? wr _ p0
        have HBX2 := hid ((hbA.block _ hwr).trans hBox.out)
        have hx2 := chain hbw hbA
        clear hbA hOw hBox
        by_cases r1 : reg = -1
        case pos =>
          subst r1
          by_cases c1 : 0 ≤ col
          case neg =>
            by_cases cm : col = -1
            case pos =>
              subst cm
              obtain rfl := HNO.out (by first | (simp [outB, inI, *]; done) | (simp [outB, inI]; omega))
              go_wp2_with (go_at_call 11; refine (in_spec _ _ _ _).mono ?_; rintro e w' ⟨rfl, rfl⟩)
              go_ret
              exact ⟨rfl, hx2⟩
            obtain rfl := HNO.out (by first | (simp [outB, inI, *]; done) | (simp [outB, inI]; omega))
            go_wp2_with (go_at_call 11; refine (in_spec _ _ _ _).mono ?_; rintro e w' ⟨rfl, rfl⟩)
            go_ret
            exact ⟨rfl, hx2⟩
          by_cases c2 : col ≤ width - 1
          case neg =>
            have cn : ¬ col = -1 := by omega
            obtain rfl := HNO.out (by first | (simp [outB, inI, *]; done) | (simp [outB, inI]; omega))
            go_wp2_with (go_at_call 11; refine (in_spec _ _ _ _).mono ?_; rintro e w' ⟨rfl, rfl⟩)
            go_ret
            exact ⟨rfl, hx2⟩
          have cn : ¬ col = -1 := by omega
          cases tr
          · have HY := hid (HYES.out (by first | (simp [outB, inI, *]; done) | (simp [outB, inI]; omega)))
            go_wp2_with (go_at_call 11; refine (in_spec _ _ _ _).mono ?_; rintro e w' ⟨rfl, rfl⟩)
            go_roundw
            case rel => exact ⟨k + 1, by omega, by go_num, HY, OW2, HBX2, hx2⟩
            case measure => simp [intOf]; omega
          · obtain rfl := HNO.out (by first | (simp [outB, inI, *]; done) | (simp [outB, inI]; omega))
            go_wp2_with (go_at_call 11; refine (in_spec _ _ _ _).mono ?_; rintro e w' ⟨rfl, rfl⟩)
            go_ret
            exact ⟨rfl, hx2⟩
        by_cases cm : col = -1
        case neg =>
          obtain rfl := HNO.out (by first | (simp [outB, inI, *]; done) | (simp [outB, inI]; omega))
          go_wp2_with (go_at_call 11; refine (in_spec _ _ _ _).mono ?_; rintro e w' ⟨rfl, rfl⟩)
          go_ret
          exact ⟨rfl, hx2⟩
        subst cm
        by_cases g1 : 0 ≤ reg
        case neg =>
          obtain rfl := HNO.out (by first | (simp [outB, inI, *]; done) | (simp [outB, inI]; omega))
          go_wp2_with (go_at_call 11; refine (in_spec _ _ _ _).mono ?_; rintro e w' ⟨rfl, rfl⟩)
          go_ret
          exact ⟨rfl, hx2⟩
        by_cases g2 : reg ≤ 29
        case neg =>
          obtain rfl := HNO.out (by first | (simp [outB, inI, *]; done) | (simp [outB, inI]; omega))
          go_wp2_with (go_at_call 11; refine (in_spec _ _ _ _).mono ?_; rintro e w' ⟨rfl, rfl⟩)
          go_ret
          exact ⟨rfl, hx2⟩
        obtain ⟨t, rfl⟩ : ∃ z : Nat, reg = (z : Int) := ⟨reg.toNat, by omega⟩
        have ht : t < 30 := by omega
        have ht1 : (t : Int) < 30 := by omega
        have d0 := had_at OW2.out t ht
        obtain ⟨v, hv⟩ : ∃ v, hadB O (t : Int) = v := ⟨_, rfl⟩
        rw [hv] at d0
        cases v
        · obtain rfl := HNO.out (by first | (simp [outB, inI, *]; done) | (simp [outB, inI]; omega))
          go_wp2_with (go_at_call 11; refine (in_spec _ _ _ _).mono ?_; rintro e w' ⟨rfl, rfl⟩)
          go_ret
          exact ⟨rfl, hx2⟩
        · have HY := hid (HYES.out (by first | (simp [outB, inI, *]; done) | (simp [outB, inI]; omega)))
          go_wp2_with (go_at_call 11; refine (in_spec _ _ _ _).mono ?_; rintro e w' ⟨rfl, rfl⟩)
          go_roundw
          case rel => exact ⟨k + 1, by omega, by go_num, HY, OW2, HBX2, hx2⟩
          case measure => simp [intOf]; omega
      have hkn : k = m := by omega
      subst hkn
      have hi1 : ¬ (k : Int) < (k : Int) := by omega
      obtain rfl : true = q := by
        rw [← HQ2.out]
        refine (List.all_eq_true.2 fun x hx => ?_).symm
        obtain ⟨j, hj, rfl⟩ := List.getElem_of_mem hx
        exact hAll.out j hj (by rw [← HM.out]; exact hj)
      clear hAll
      go_wp2
      go_ret
      exact ⟨rfl, hbw⟩
end Go.Proofs.YtmhamgcjmehnnaaDoor
