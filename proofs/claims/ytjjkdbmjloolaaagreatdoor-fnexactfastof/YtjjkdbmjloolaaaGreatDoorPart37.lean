/-
  A part of the proof: SvS.
-/
import Derived.Test.YtjjkdbmjloolaaaGreatDoorPart1
import Derived.Test.YtjjkdbmjloolaaaGreatDoorPart9
import Derived.Test.YtjjkdbmjloolaaaGreatDoorPart8
import Derived.Test.YtjjkdbmjloolaaaGreatDoorPart5

namespace Go.Proofs.YtjjkdbmjloolaaaGreatDoor
open Go.ChangeShapes Go.WideShapes Go.ChangeAt Go.RowKit
attribute [local go_sem ↓] Go.wp_at_zero Go.wp_at_succ
attribute [local simp] World.cell?_alloc_past World.cell?_alloc_at World.frozen?_alloc_at cell_far cell_off cell_here World.frozen?_alloc_past
theorem names10_take (l : List ByteArray) (k : Nat) (h : k < l.length) : (l.take (k + 1)).all nameK = ((l.take k).all nameK && nameK l[k]) := by
 rw [List.take_succ_eq_append_getElem h, List.all_append]; simp
theorem l5_specN (n : Nat) (a : Option Addr) (cap : Nat) (l : List ByteArray) (hn : l.length = n) (lo hi : Int) (w : World) (hrow : StrsAt w a l) (hfit : FitS l) (hm : n ≤ maxLen) (hcap : n ≤ cap) (b : Bool) (hb : namesB l lo hi = b) :
  Calls Tryz.prog 34 #[.slice a n cap, .int .i64 lo, .int .i64 hi] w fun e w' => e = .returned (.bool b) ∧ Below w.heap.size w w' := by
 subst hn; exact names_spec a cap l lo hi w hrow hfit hm hcap b hb
set_option maxRecDepth 100000 in
set_option maxHeartbeats 2000000 in
theorem names10_spec (n : Nat) (a : Option Addr) (cap : Nat) (l : List ByteArray) (hn : l.length = n) (lo hi : Int) (w : World) (hrow : StrsAt w a l) (hfit : FitS l) (hm : n ≤ maxLen) (hcap : n ≤ cap) (b : Bool) (hb : names10 l lo hi = b) :
  Calls Tryz.prog 69 #[.slice a n cap, .int .i64 lo, .int .i64 hi] w fun e w' => e = .returned (.bool b) ∧ Below w.heap.size w w' := by
 have HR := hid hrow
 have HN := hid hn
 have HF := hid hfit
 have HB := hid hb
 have hm6 := hm
 unfold maxLen at hm6
 clear hrow hn hfit hb
 go_enter Tryz.func69, Tryz.ntmps69
 go_wp2
 go_loopw [7] (fun iv wr => ∃ k : Nat, k ≤ n ∧ iv = .int .i64 k ∧ Hid ((l.take k).all nameK = true) ∧ Below w.heap.size w wr) (fun iv _ => n - (intOf iv).toNat)
 case atStart => exact ⟨0, Nat.zero_le _, rfl, rfl, Below.refl _ _⟩
 case round =>
  obtain ⟨k, hk, rfl, hall, hbw⟩ := hrel
  by_cases hlt : k < n
  · have hlk : k < l.length := by rw [HN.out]; exact hlt
   obtain ⟨g, o, rfl, hgw, c0⟩ := HR.out.below hbw k hlk
   have hi0 : (0 : Int) ≤ (k : Int) := by omega
   have hi1 : (k : Int) < (n : Int) := by omega
   have hf := HF.out k hlk
   have ht := names10_take l k hlk
   rw [hall.out, Bool.true_and] at ht
   obtain ⟨r, hr⟩ : ∃ r, nameK l[k] = r := ⟨_, rfl⟩
   have HT : Hid ((l.take (k + 1)).all nameK = r) := ht.trans hr
   have HNO : Hid (r = false → b = false) := by
    have : r = false → b = false := fun e => by
     rw [← HB.out, Bool.eq_false_iff]
     intro h
     unfold names10 at h
     rw [Bool.and_eq_true] at h
     have := List.all_eq_true.1 h.1 _ (List.getElem_mem hlk)
     rw [hr, e] at this
     cases this
    exact this
   have HRR := hid hr
   clear ht hr hall
   generalize l[k] = s at c0 hf HRR
   go_wp2_with fail
   refine (namek_spec s _ hf r HRR.out).mono ?_
   rintro e w1 ⟨rfl, hb1⟩
   have hx1 := chain hbw hb1
   clear c0 hb1
   cases r
   · obtain rfl : b = false := HNO.out rfl
    go_wp2
    go_ret
    exact ⟨rfl, hx1⟩
   · go_wp2
    go_roundw
    case rel => exact ⟨k + 1, by omega, by go_num, HT, hx1⟩
    case measure => simp [intOf]; omega
  · have hkl : k = n := by omega
   subst hkl
   have hi1 : ¬ (k : Int) < (k : Int) := by omega
   have HBB : Hid (namesB l lo hi = b) := by
    have : namesB l lo hi = b := by
     rw [← HB.out]
     unfold names10
     have := hall.out
     rw [List.take_of_length_le (by rw [HN.out]; exact Nat.le_refl _)] at this
     rw [this, Bool.true_and]
    exact this
   clear hall
   go_wp2_with fail
   refine (l5_specN k _ _ l HN.out lo hi _ (HR.out.below hbw) HF.out hm hcap b HBB.out).mono ?_
   rintro e w1 ⟨rfl, hb1⟩
   have hx1 := chain hbw hb1
   go_wp2
   go_ret
   exact ⟨rfl, hx1⟩
theorem ne_txt (s : ByteArray) (h : s ≠ ⟨#[]⟩) : (s.toList == []) = false := zero_txt s false (by simpa using h)
theorem eq_txt (s : ByteArray) (h : s = ⟨#[]⟩) : (s.toList == []) = true := zero_txt s true (by simpa using h)
set_option maxRecDepth 100000 in
set_option maxHeartbeats 2000000 in
theorem bare_1 (nm : ByteArray) (na : Option Addr) (nn nc : Nat) (ns : List ByteArray) (hnn : ns.length = nn) (sa : Option Addr) (sn sc : Nat) (sm : List TI) (hsn : sm.length = sn) (dn : Bool) (ct sk : Int) (w : World) (hnm : nm.size ≤ maxLen) (hS : ItmAt w sa sm) (hSf : FitItm sm) (hsm : sn ≤ maxLen) (b : Bool) (hb : bareB ⟨1, nm, ns, sm, dn, ct, sk⟩ = b) :
  Calls Tryz.prog 68 #[.agg #[.int .i64 1, .string nm, .slice na nn nc, .slice sa sn sc, .bool dn, .int .i64 ct, .int .i64 sk]] w fun e w' => e = .returned (.bool b) ∧ Below w.heap.size w w' := by
 have HS := hid hS
 have HF := hid hSf
 have HN := hid hsn
 have HM := hid hnm
 have HSM := hid hsm
 have HNN := hid hnn
 have hbA : ∀ o, Below w.heap.size w (w.alloc o) := fun o => (Below.refl _ _).alloc (Nat.le_refl _) o
 by_cases c2 : 0 < sn
 · have c2i : (0 : Int) < (sn : Int) := by omega
  have c2l : sm ≠ [] := fun e => by rw [e] at hsn; simp at hsn; omega
  obtain rfl : false = b := by rw [← hb]; simp [bareB, nameS, sumS, listS, c2l]
  clear hb
  go_enter Tryz.func68, Tryz.ntmps68
  go_wp2
  go_ret
  exact ⟨rfl, hbA _⟩
 have c2i : ¬ (0 : Int) < (sn : Int) := by omega
 have c2l : sm = [] := List.length_eq_zero_iff.1 (by omega)
 by_cases c3 : 0 < nn
 · have c3i : (0 : Int) < (nn : Int) := by omega
  have c3l : ns ≠ [] := fun e => by rw [e] at hnn; simp at hnn; omega
  obtain rfl : false = b := by rw [← hb]; simp [bareB, nameS, sumS, listS, c3l]
  clear hb
  go_enter Tryz.func68, Tryz.ntmps68
  go_wp2
  go_ret
  exact ⟨rfl, hbA _⟩
 have c3i : ¬ (0 : Int) < (nn : Int) := by omega
 have c3l : ns = [] := List.length_eq_zero_iff.1 (by omega)
 cases dn
 rotate_left
 · obtain rfl : false = b := by rw [← hb]; simp [bareB, nameS, sumS, listS, ]
  clear hb
  go_enter Tryz.func68, Tryz.ntmps68
  go_wp2
  go_ret
  exact ⟨rfl, hbA _⟩
 by_cases c4 : ct = 0
 rotate_left
 · have c4i : (ct != 0) = true := by simp [c4]
  obtain rfl : false = b := by rw [← hb]; simp [bareB, nameS, sumS, listS, c4]
  clear hb
  go_enter Tryz.func68, Tryz.ntmps68
  go_wp2
  go_ret
  exact ⟨rfl, hbA _⟩
 have c4i : (ct != 0) = false := by simp [c4]
 by_cases c5 : sk = 0
 rotate_left
 · have c5i : (sk != 0) = true := by simp [c5]
  obtain rfl : false = b := by rw [← hb]; simp [bareB, nameS, sumS, listS, c5]
  clear hb
  go_enter Tryz.func68, Tryz.ntmps68
  go_wp2
  go_ret
  exact ⟨rfl, hbA _⟩
 have c5i : (sk != 0) = false := by simp [c5]
 obtain rfl : nameK nm = b := by rw [← hb]; simp [bareB, nameS, sumS, listS, c2l, c3l, c4, c5]
 obtain ⟨r1, hr1⟩ : ∃ r, nameK nm = r := ⟨_, rfl⟩
 have H1 := hid hr1
 rw [hr1]
 clear hb hr1
 go_enter Tryz.func68, Tryz.ntmps68
 go_wp2_with fail
 refine (namek_spec nm _ HM.out r1 H1.out).mono ?_
 rintro e w1 ⟨rfl, hb1⟩
 have hx1 := chain (hbA _) hb1
 cases r1
 · go_wp2
  go_ret
  exact ⟨rfl, hx1⟩
 · go_wp2
  go_ret
  exact ⟨rfl, hx1⟩
set_option maxRecDepth 100000 in
set_option maxHeartbeats 2000000 in
theorem bare_2 (nm : ByteArray) (na : Option Addr) (nn nc : Nat) (ns : List ByteArray) (hnn : ns.length = nn) (sa : Option Addr) (sn sc : Nat) (sm : List TI) (hsn : sm.length = sn) (dn : Bool) (ct sk : Int) (w : World) (hnm : nm.size ≤ maxLen) (hS : ItmAt w sa sm) (hSf : FitItm sm) (hsm : sn ≤ maxLen) (b : Bool) (hb : bareB ⟨2, nm, ns, sm, dn, ct, sk⟩ = b) :
  Calls Tryz.prog 68 #[.agg #[.int .i64 2, .string nm, .slice na nn nc, .slice sa sn sc, .bool dn, .int .i64 ct, .int .i64 sk]] w fun e w' => e = .returned (.bool b) ∧ Below w.heap.size w w' := by
 have HS := hid hS
 have HF := hid hSf
 have HN := hid hsn
 have HM := hid hnm
 have HSM := hid hsm
 have HNN := hid hnn
 have hbA : ∀ o, Below w.heap.size w (w.alloc o) := fun o => (Below.refl _ _).alloc (Nat.le_refl _) o
 by_cases c1 : nm ≠ ⟨#[]⟩
 · have c1t := ne_txt nm c1
  obtain rfl : false = b := by rw [← hb]; simp [bareB, nameS, sumS, listS, c1]
  clear hb
  go_enter Tryz.func68, Tryz.ntmps68
  go_wp2
  go_ret
  exact ⟨rfl, hbA _⟩
 rw [ne_eq, Decidable.not_not] at c1
 have c1t := eq_txt nm c1
 by_cases c3 : 0 < nn
 · have c3i : (0 : Int) < (nn : Int) := by omega
  have c3l : ns ≠ [] := fun e => by rw [e] at hnn; simp at hnn; omega
  obtain rfl : false = b := by rw [← hb]; simp [bareB, nameS, sumS, listS, c3l]
  clear hb
  go_enter Tryz.func68, Tryz.ntmps68
  go_wp2
  go_ret
  exact ⟨rfl, hbA _⟩
 have c3i : ¬ (0 : Int) < (nn : Int) := by omega
 have c3l : ns = [] := List.length_eq_zero_iff.1 (by omega)
 cases dn
 rotate_left
 · obtain rfl : false = b := by rw [← hb]; simp [bareB, nameS, sumS, listS, ]
  clear hb
  go_enter Tryz.func68, Tryz.ntmps68
  go_wp2
  go_ret
  exact ⟨rfl, hbA _⟩
 by_cases c4 : ct = 0
 rotate_left
 · have c4i : (ct != 0) = true := by simp [c4]
  obtain rfl : false = b := by rw [← hb]; simp [bareB, nameS, sumS, listS, c4]
  clear hb
  go_enter Tryz.func68, Tryz.ntmps68
  go_wp2
  go_ret
  exact ⟨rfl, hbA _⟩
 have c4i : (ct != 0) = false := by simp [c4]
 by_cases c5 : sk = 0
 rotate_left
 · have c5i : (sk != 0) = true := by simp [c5]
  obtain rfl : false = b := by rw [← hb]; simp [bareB, nameS, sumS, listS, c5]
  clear hb
  go_enter Tryz.func68, Tryz.ntmps68
  go_wp2
  go_ret
  exact ⟨rfl, hbA _⟩
 have c5i : (sk != 0) = false := by simp [c5]
 obtain ⟨r2, hr2⟩ : ∃ r, sumB sm = r := ⟨_, rfl⟩
 have H2 := hid hr2
 obtain rfl : r2 = b := by rw [← hb, ← hr2]; simp [bareB, nameS, sumS, listS, c1, c3l, c4, c5]
 clear hb hr2
 go_enter Tryz.func68, Tryz.ntmps68
 go_wp2_with fail
 refine (sum_spec _ _ sm sn HN.out _ (HS.out.below (hbA _)) HF.out HSM.out r2 H2.out).mono ?_
 rintro e w2 ⟨rfl, hb2⟩
 have hx2 := chain (hbA _) hb2
 go_wp2
 go_ret
 exact ⟨rfl, hx2⟩
set_option maxRecDepth 100000 in
set_option maxHeartbeats 2000000 in
theorem bare_3 (nm : ByteArray) (na : Option Addr) (nn nc : Nat) (ns : List ByteArray) (hnn : ns.length = nn) (sa : Option Addr) (sn sc : Nat) (sm : List TI) (hsn : sm.length = sn) (dn : Bool) (ct sk : Int) (w : World) (hnm : nm.size ≤ maxLen) (hS : ItmAt w sa sm) (hSf : FitItm sm) (hsm : sn ≤ maxLen) (b : Bool) (hb : bareB ⟨3, nm, ns, sm, dn, ct, sk⟩ = b) :
  Calls Tryz.prog 68 #[.agg #[.int .i64 3, .string nm, .slice na nn nc, .slice sa sn sc, .bool dn, .int .i64 ct, .int .i64 sk]] w fun e w' => e = .returned (.bool b) ∧ Below w.heap.size w w' := by
 have HS := hid hS
 have HF := hid hSf
 have HN := hid hsn
 have HM := hid hnm
 have HSM := hid hsm
 have HNN := hid hnn
 have hbA : ∀ o, Below w.heap.size w (w.alloc o) := fun o => (Below.refl _ _).alloc (Nat.le_refl _) o
 by_cases c3 : 0 < nn
 · have c3i : (0 : Int) < (nn : Int) := by omega
  have c3l : ns ≠ [] := fun e => by rw [e] at hnn; simp at hnn; omega
  obtain rfl : false = b := by rw [← hb]; simp [bareB, nameS, sumS, listS, c3l]
  clear hb
  go_enter Tryz.func68, Tryz.ntmps68
  go_wp2
  go_ret
  exact ⟨rfl, hbA _⟩
 have c3i : ¬ (0 : Int) < (nn : Int) := by omega
 have c3l : ns = [] := List.length_eq_zero_iff.1 (by omega)
 cases dn
 rotate_left
 · obtain rfl : false = b := by rw [← hb]; simp [bareB, nameS, sumS, listS, ]
  clear hb
  go_enter Tryz.func68, Tryz.ntmps68
  go_wp2
  go_ret
  exact ⟨rfl, hbA _⟩
 by_cases c4 : ct = 0
 rotate_left
 · have c4i : (ct != 0) = true := by simp [c4]
  obtain rfl : false = b := by rw [← hb]; simp [bareB, nameS, sumS, listS, c4]
  clear hb
  go_enter Tryz.func68, Tryz.ntmps68
  go_wp2
  go_ret
  exact ⟨rfl, hbA _⟩
 have c4i : (ct != 0) = false := by simp [c4]
 by_cases c5 : sk = 0
 rotate_left
 · have c5i : (sk != 0) = true := by simp [c5]
  obtain rfl : false = b := by rw [← hb]; simp [bareB, nameS, sumS, listS, c5]
  clear hb
  go_enter Tryz.func68, Tryz.ntmps68
  go_wp2
  go_ret
  exact ⟨rfl, hbA _⟩
 have c5i : (sk != 0) = false := by simp [c5]
 obtain ⟨r1, hr1⟩ : ∃ r, nameK nm = r := ⟨_, rfl⟩
 obtain ⟨r2, hr2⟩ : ∃ r, sumB sm = r := ⟨_, rfl⟩
 have H1 := hid hr1
 have H2 := hid hr2
 obtain rfl : (r1 && r2) = b := by rw [← hb, ← hr1, ← hr2]; simp [bareB, nameS, sumS, listS, c3l, c4, c5]
 clear hb hr1 hr2
 go_enter Tryz.func68, Tryz.ntmps68
 go_wp2_with fail
 refine (namek_spec nm _ HM.out r1 H1.out).mono ?_
 rintro e w1 ⟨rfl, hb1⟩
 have hx1 := chain (hbA _) hb1
 cases r1
 · go_wp2
  go_ret
  exact ⟨rfl, hx1⟩
 have p3 : w1.cell? ⟨w.heap.size, 3, none⟩ = some (.slice sa sn sc) := by rw [hb1.cell (p := ⟨w.heap.size, 3, none⟩) (by simp)]; simp
 go_wp2_with fail
 refine (sum_spec _ _ sm sn HN.out _ (HS.out.below hx1) HF.out HSM.out r2 H2.out).mono ?_
 rintro e w2 ⟨rfl, hb2⟩
 have hx2 := chain hx1 hb2
 go_wp2
 go_ret
 exact ⟨rfl, hx2⟩
set_option maxRecDepth 100000 in
set_option maxHeartbeats 2000000 in
theorem bare_4 (nm : ByteArray) (na : Option Addr) (nn nc : Nat) (ns : List ByteArray) (hnn : ns.length = nn) (sa : Option Addr) (sn sc : Nat) (sm : List TI) (hsn : sm.length = sn) (dn : Bool) (ct sk : Int) (w : World) (hnm : nm.size ≤ maxLen) (hS : ItmAt w sa sm) (hSf : FitItm sm) (hsm : sn ≤ maxLen) (b : Bool) (hb : bareB ⟨4, nm, ns, sm, dn, ct, sk⟩ = b) :
  Calls Tryz.prog 68 #[.agg #[.int .i64 4, .string nm, .slice na nn nc, .slice sa sn sc, .bool dn, .int .i64 ct, .int .i64 sk]] w fun e w' => e = .returned (.bool b) ∧ Below w.heap.size w w' := by
 have HS := hid hS
 have HF := hid hSf
 have HN := hid hsn
 have HM := hid hnm
 have HSM := hid hsm
 have HNN := hid hnn
 have hbA : ∀ o, Below w.heap.size w (w.alloc o) := fun o => (Below.refl _ _).alloc (Nat.le_refl _) o
 by_cases c1 : nm ≠ ⟨#[]⟩
 · have c1t := ne_txt nm c1
  obtain rfl : false = b := by rw [← hb]; simp [bareB, nameS, sumS, listS, c1]
  clear hb
  go_enter Tryz.func68, Tryz.ntmps68
  go_wp2
  go_ret
  exact ⟨rfl, hbA _⟩
 rw [ne_eq, Decidable.not_not] at c1
 have c1t := eq_txt nm c1
 by_cases c2 : 0 < sn
 · have c2i : (0 : Int) < (sn : Int) := by omega
  have c2l : sm ≠ [] := fun e => by rw [e] at hsn; simp at hsn; omega
  obtain rfl : false = b := by rw [← hb]; simp [bareB, nameS, sumS, listS, c2l]
  clear hb
  go_enter Tryz.func68, Tryz.ntmps68
  go_wp2
  go_ret
  exact ⟨rfl, hbA _⟩
 have c2i : ¬ (0 : Int) < (sn : Int) := by omega
 have c2l : sm = [] := List.length_eq_zero_iff.1 (by omega)
 cases dn
 rotate_left
 · obtain rfl : false = b := by rw [← hb]; simp [bareB, nameS, sumS, listS, ]
  clear hb
  go_enter Tryz.func68, Tryz.ntmps68
  go_wp2
  go_ret
  exact ⟨rfl, hbA _⟩
 by_cases c4 : ct = 0
 rotate_left
 · have c4i : (ct != 0) = true := by simp [c4]
  obtain rfl : false = b := by rw [← hb]; simp [bareB, nameS, sumS, listS, c4]
  clear hb
  go_enter Tryz.func68, Tryz.ntmps68
  go_wp2
  go_ret
  exact ⟨rfl, hbA _⟩
 have c4i : (ct != 0) = false := by simp [c4]
 by_cases c5 : sk = 0
 rotate_left
 · have c5i : (sk != 0) = true := by simp [c5]
  obtain rfl : false = b := by rw [← hb]; simp [bareB, nameS, sumS, listS, c5]
  clear hb
  go_enter Tryz.func68, Tryz.ntmps68
  go_wp2
  go_ret
  exact ⟨rfl, hbA _⟩
 have c5i : (sk != 0) = false := by simp [c5]
 obtain rfl : true = b := by rw [← hb]; simp [bareB, nameS, sumS, listS, c1, c2l, c4, c5]
 clear hb
 go_enter Tryz.func68, Tryz.ntmps68
 go_wp2
 go_ret
 exact ⟨rfl, hbA _⟩
set_option maxRecDepth 100000 in
set_option maxHeartbeats 2000000 in
theorem bare_5 (nm : ByteArray) (na : Option Addr) (nn nc : Nat) (ns : List ByteArray) (hnn : ns.length = nn) (sa : Option Addr) (sn sc : Nat) (sm : List TI) (hsn : sm.length = sn) (dn : Bool) (ct sk : Int) (w : World) (hnm : nm.size ≤ maxLen) (hS : ItmAt w sa sm) (hSf : FitItm sm) (hsm : sn ≤ maxLen) (b : Bool) (hb : bareB ⟨5, nm, ns, sm, dn, ct, sk⟩ = b) :
  Calls Tryz.prog 68 #[.agg #[.int .i64 5, .string nm, .slice na nn nc, .slice sa sn sc, .bool dn, .int .i64 ct, .int .i64 sk]] w fun e w' => e = .returned (.bool b) ∧ Below w.heap.size w w' := by
 have HS := hid hS
 have HF := hid hSf
 have HN := hid hsn
 have HM := hid hnm
 have HSM := hid hsm
 have HNN := hid hnn
 have hbA : ∀ o, Below w.heap.size w (w.alloc o) := fun o => (Below.refl _ _).alloc (Nat.le_refl _) o
 by_cases c3 : 0 < nn
 · have c3i : (0 : Int) < (nn : Int) := by omega
  have c3l : ns ≠ [] := fun e => by rw [e] at hnn; simp at hnn; omega
  obtain rfl : false = b := by rw [← hb]; simp [bareB, nameS, sumS, listS, c3l]
  clear hb
  go_enter Tryz.func68, Tryz.ntmps68
  go_wp2
  go_ret
  exact ⟨rfl, hbA _⟩
 have c3i : ¬ (0 : Int) < (nn : Int) := by omega
 have c3l : ns = [] := List.length_eq_zero_iff.1 (by omega)
 cases dn
 rotate_left
 · obtain rfl : false = b := by rw [← hb]; simp [bareB, nameS, sumS, listS, ]
  clear hb
  go_enter Tryz.func68, Tryz.ntmps68
  go_wp2
  go_ret
  exact ⟨rfl, hbA _⟩
 by_cases c4 : ct = 0
 rotate_left
 · have c4i : (ct != 0) = true := by simp [c4]
  obtain rfl : false = b := by rw [← hb]; simp [bareB, nameS, sumS, listS, c4]
  clear hb
  go_enter Tryz.func68, Tryz.ntmps68
  go_wp2
  go_ret
  exact ⟨rfl, hbA _⟩
 have c4i : (ct != 0) = false := by simp [c4]
 by_cases c5 : sk = 0
 rotate_left
 · have c5i : (sk != 0) = true := by simp [c5]
  obtain rfl : false = b := by rw [← hb]; simp [bareB, nameS, sumS, listS, c5]
  clear hb
  go_enter Tryz.func68, Tryz.ntmps68
  go_wp2
  go_ret
  exact ⟨rfl, hbA _⟩
 have c5i : (sk != 0) = false := by simp [c5]
 obtain ⟨r1, hr1⟩ : ∃ r, nameK nm = r := ⟨_, rfl⟩
 obtain ⟨r2, hr2⟩ : ∃ r, sumB sm = r := ⟨_, rfl⟩
 have H1 := hid hr1
 have H2 := hid hr2
 obtain rfl : (r1 && r2) = b := by rw [← hb, ← hr1, ← hr2]; simp [bareB, nameS, sumS, listS, c3l, c4, c5]
 clear hb hr1 hr2
 go_enter Tryz.func68, Tryz.ntmps68
 go_wp2_with fail
 refine (namek_spec nm _ HM.out r1 H1.out).mono ?_
 rintro e w1 ⟨rfl, hb1⟩
 have hx1 := chain (hbA _) hb1
 cases r1
 · go_wp2
  go_ret
  exact ⟨rfl, hx1⟩
 have p3 : w1.cell? ⟨w.heap.size, 3, none⟩ = some (.slice sa sn sc) := by rw [hb1.cell (p := ⟨w.heap.size, 3, none⟩) (by simp)]; simp
 go_wp2_with fail
 refine (sum_spec _ _ sm sn HN.out _ (HS.out.below hx1) HF.out HSM.out r2 H2.out).mono ?_
 rintro e w2 ⟨rfl, hb2⟩
 have hx2 := chain hx1 hb2
 go_wp2
 go_ret
 exact ⟨rfl, hx2⟩
set_option maxRecDepth 100000 in
set_option maxHeartbeats 2000000 in
theorem bare_6 (nm : ByteArray) (na : Option Addr) (nn nc : Nat) (ns : List ByteArray) (hnn : ns.length = nn) (sa : Option Addr) (sn sc : Nat) (sm : List TI) (hsn : sm.length = sn) (dn : Bool) (ct sk : Int) (w : World) (hnm : nm.size ≤ maxLen) (hS : ItmAt w sa sm) (hSf : FitItm sm) (hsm : sn ≤ maxLen) (b : Bool) (hb : bareB ⟨6, nm, ns, sm, dn, ct, sk⟩ = b) :
  Calls Tryz.prog 68 #[.agg #[.int .i64 6, .string nm, .slice na nn nc, .slice sa sn sc, .bool dn, .int .i64 ct, .int .i64 sk]] w fun e w' => e = .returned (.bool b) ∧ Below w.heap.size w w' := by
 have HS := hid hS
 have HF := hid hSf
 have HN := hid hsn
 have HM := hid hnm
 have HSM := hid hsm
 have HNN := hid hnn
 have hbA : ∀ o, Below w.heap.size w (w.alloc o) := fun o => (Below.refl _ _).alloc (Nat.le_refl _) o
 by_cases c3 : 0 < nn
 · have c3i : (0 : Int) < (nn : Int) := by omega
  have c3l : ns ≠ [] := fun e => by rw [e] at hnn; simp at hnn; omega
  obtain rfl : false = b := by rw [← hb]; simp [bareB, nameS, sumS, listS, c3l]
  clear hb
  go_enter Tryz.func68, Tryz.ntmps68
  go_wp2
  go_ret
  exact ⟨rfl, hbA _⟩
 have c3i : ¬ (0 : Int) < (nn : Int) := by omega
 have c3l : ns = [] := List.length_eq_zero_iff.1 (by omega)
 cases dn
 rotate_left
 · obtain rfl : false = b := by rw [← hb]; simp [bareB, nameS, sumS, listS, ]
  clear hb
  go_enter Tryz.func68, Tryz.ntmps68
  go_wp2
  go_ret
  exact ⟨rfl, hbA _⟩
 by_cases c4 : ct = 0
 rotate_left
 · have c4i : (ct != 0) = true := by simp [c4]
  obtain rfl : false = b := by rw [← hb]; simp [bareB, nameS, sumS, listS, c4]
  clear hb
  go_enter Tryz.func68, Tryz.ntmps68
  go_wp2
  go_ret
  exact ⟨rfl, hbA _⟩
 have c4i : (ct != 0) = false := by simp [c4]
 by_cases c5 : sk = 0
 rotate_left
 · have c5i : (sk != 0) = true := by simp [c5]
  obtain rfl : false = b := by rw [← hb]; simp [bareB, nameS, sumS, listS, c5]
  clear hb
  go_enter Tryz.func68, Tryz.ntmps68
  go_wp2
  go_ret
  exact ⟨rfl, hbA _⟩
 have c5i : (sk != 0) = false := by simp [c5]
 obtain ⟨r1, hr1⟩ : ∃ r, nameK nm = r := ⟨_, rfl⟩
 obtain ⟨r2, hr2⟩ : ∃ r, sumB sm = r := ⟨_, rfl⟩
 have H1 := hid hr1
 have H2 := hid hr2
 obtain rfl : (r1 && r2) = b := by rw [← hb, ← hr1, ← hr2]; simp [bareB, nameS, sumS, listS, c3l, c4, c5]
 clear hb hr1 hr2
 go_enter Tryz.func68, Tryz.ntmps68
 go_wp2_with fail
 refine (namek_spec nm _ HM.out r1 H1.out).mono ?_
 rintro e w1 ⟨rfl, hb1⟩
 have hx1 := chain (hbA _) hb1
 cases r1
 · go_wp2
  go_ret
  exact ⟨rfl, hx1⟩
 have p3 : w1.cell? ⟨w.heap.size, 3, none⟩ = some (.slice sa sn sc) := by rw [hb1.cell (p := ⟨w.heap.size, 3, none⟩) (by simp)]; simp
 go_wp2_with fail
 refine (sum_spec _ _ sm sn HN.out _ (HS.out.below hx1) HF.out HSM.out r2 H2.out).mono ?_
 rintro e w2 ⟨rfl, hb2⟩
 have hx2 := chain hx1 hb2
 go_wp2
 go_ret
 exact ⟨rfl, hx2⟩
set_option maxRecDepth 100000 in
set_option maxHeartbeats 2000000 in
theorem bare_7 (nm : ByteArray) (na : Option Addr) (nn nc : Nat) (ns : List ByteArray) (hnn : ns.length = nn) (sa : Option Addr) (sn sc : Nat) (sm : List TI) (hsn : sm.length = sn) (dn : Bool) (ct sk : Int) (w : World) (hnm : nm.size ≤ maxLen) (hS : ItmAt w sa sm) (hSf : FitItm sm) (hsm : sn ≤ maxLen) (b : Bool) (hb : bareB ⟨7, nm, ns, sm, dn, ct, sk⟩ = b) :
  Calls Tryz.prog 68 #[.agg #[.int .i64 7, .string nm, .slice na nn nc, .slice sa sn sc, .bool dn, .int .i64 ct, .int .i64 sk]] w fun e w' => e = .returned (.bool b) ∧ Below w.heap.size w w' := by
 have HS := hid hS
 have HF := hid hSf
 have HN := hid hsn
 have HM := hid hnm
 have HSM := hid hsm
 have HNN := hid hnn
 have hbA : ∀ o, Below w.heap.size w (w.alloc o) := fun o => (Below.refl _ _).alloc (Nat.le_refl _) o
 by_cases c1 : nm ≠ ⟨#[]⟩
 · have c1t := ne_txt nm c1
  obtain rfl : false = b := by rw [← hb]; simp [bareB, nameS, sumS, listS, c1]
  clear hb
  go_enter Tryz.func68, Tryz.ntmps68
  go_wp2
  go_ret
  exact ⟨rfl, hbA _⟩
 rw [ne_eq, Decidable.not_not] at c1
 have c1t := eq_txt nm c1
 by_cases c2 : 0 < sn
 · have c2i : (0 : Int) < (sn : Int) := by omega
  have c2l : sm ≠ [] := fun e => by rw [e] at hsn; simp at hsn; omega
  obtain rfl : false = b := by rw [← hb]; simp [bareB, nameS, sumS, listS, c2l]
  clear hb
  go_enter Tryz.func68, Tryz.ntmps68
  go_wp2
  go_ret
  exact ⟨rfl, hbA _⟩
 have c2i : ¬ (0 : Int) < (sn : Int) := by omega
 have c2l : sm = [] := List.length_eq_zero_iff.1 (by omega)
 cases dn
 rotate_left
 · obtain rfl : false = b := by rw [← hb]; simp [bareB, nameS, sumS, listS, ]
  clear hb
  go_enter Tryz.func68, Tryz.ntmps68
  go_wp2
  go_ret
  exact ⟨rfl, hbA _⟩
 by_cases c4 : ct = 0
 rotate_left
 · have c4i : (ct != 0) = true := by simp [c4]
  obtain rfl : false = b := by rw [← hb]; simp [bareB, nameS, sumS, listS, c4]
  clear hb
  go_enter Tryz.func68, Tryz.ntmps68
  go_wp2
  go_ret
  exact ⟨rfl, hbA _⟩
 have c4i : (ct != 0) = false := by simp [c4]
 by_cases c5 : sk = 0
 rotate_left
 · have c5i : (sk != 0) = true := by simp [c5]
  obtain rfl : false = b := by rw [← hb]; simp [bareB, nameS, sumS, listS, c5]
  clear hb
  go_enter Tryz.func68, Tryz.ntmps68
  go_wp2
  go_ret
  exact ⟨rfl, hbA _⟩
 have c5i : (sk != 0) = false := by simp [c5]
 obtain rfl : true = b := by rw [← hb]; simp [bareB, nameS, sumS, listS, c1, c2l, c4, c5]
 clear hb
 go_enter Tryz.func68, Tryz.ntmps68
 go_wp2
 go_ret
 exact ⟨rfl, hbA _⟩
set_option maxRecDepth 100000 in
set_option maxHeartbeats 2000000 in
theorem bare_8 (nm : ByteArray) (na : Option Addr) (nn nc : Nat) (ns : List ByteArray) (hnn : ns.length = nn) (sa : Option Addr) (sn sc : Nat) (sm : List TI) (hsn : sm.length = sn) (dn : Bool) (ct sk : Int) (w : World) (hnm : nm.size ≤ maxLen) (hS : ItmAt w sa sm) (hSf : FitItm sm) (hsm : sn ≤ maxLen) (b : Bool) (hb : bareB ⟨8, nm, ns, sm, dn, ct, sk⟩ = b) :
  Calls Tryz.prog 68 #[.agg #[.int .i64 8, .string nm, .slice na nn nc, .slice sa sn sc, .bool dn, .int .i64 ct, .int .i64 sk]] w fun e w' => e = .returned (.bool b) ∧ Below w.heap.size w w' := by
 have HS := hid hS
 have HF := hid hSf
 have HN := hid hsn
 have HM := hid hnm
 have HSM := hid hsm
 have HNN := hid hnn
 have hbA : ∀ o, Below w.heap.size w (w.alloc o) := fun o => (Below.refl _ _).alloc (Nat.le_refl _) o
 by_cases c2 : 0 < sn
 · have c2i : (0 : Int) < (sn : Int) := by omega
  have c2l : sm ≠ [] := fun e => by rw [e] at hsn; simp at hsn; omega
  obtain rfl : false = b := by rw [← hb]; simp [bareB, nameS, sumS, listS, c2l]
  clear hb
  go_enter Tryz.func68, Tryz.ntmps68
  go_wp2
  go_ret
  exact ⟨rfl, hbA _⟩
 have c2i : ¬ (0 : Int) < (sn : Int) := by omega
 have c2l : sm = [] := List.length_eq_zero_iff.1 (by omega)
 by_cases c3 : 0 < nn
 · have c3i : (0 : Int) < (nn : Int) := by omega
  have c3l : ns ≠ [] := fun e => by rw [e] at hnn; simp at hnn; omega
  obtain rfl : false = b := by rw [← hb]; simp [bareB, nameS, sumS, listS, c3l]
  clear hb
  go_enter Tryz.func68, Tryz.ntmps68
  go_wp2
  go_ret
  exact ⟨rfl, hbA _⟩
 have c3i : ¬ (0 : Int) < (nn : Int) := by omega
 have c3l : ns = [] := List.length_eq_zero_iff.1 (by omega)
 cases dn
 · by_cases c4 : ct = 0
  rotate_left
  · have c4i : (ct != 0) = true := by simp [c4]
   obtain rfl : false = b := by rw [← hb]; simp [bareB, nameS, sumS, listS, c4]
   clear hb
   go_enter Tryz.func68, Tryz.ntmps68
   go_wp2
   go_ret
   exact ⟨rfl, hbA _⟩
  have c4i : (ct != 0) = false := by simp [c4]
  by_cases c5 : sk = 0
  rotate_left
  · have c5i : (sk != 0) = true := by simp [c5]
   obtain rfl : false = b := by rw [← hb]; simp [bareB, nameS, sumS, listS, c5]
   clear hb
   go_enter Tryz.func68, Tryz.ntmps68
   go_wp2
   go_ret
   exact ⟨rfl, hbA _⟩
  have c5i : (sk != 0) = false := by simp [c5]
  obtain rfl : nameK nm = b := by rw [← hb]; simp [bareB, nameS, sumS, listS, c2l, c3l, c4, c5]
  obtain ⟨r1, hr1⟩ : ∃ r, nameK nm = r := ⟨_, rfl⟩
  have H1 := hid hr1
  rw [hr1]
  clear hb hr1
  go_enter Tryz.func68, Tryz.ntmps68
  go_wp2_with fail
  refine (namek_spec nm _ HM.out r1 H1.out).mono ?_
  rintro e w1 ⟨rfl, hb1⟩
  have hx1 := chain (hbA _) hb1
  cases r1
  · go_wp2
   go_ret
   exact ⟨rfl, hx1⟩
  · go_wp2
   go_ret
   exact ⟨rfl, hx1⟩
 · by_cases c4 : ct = 0
  rotate_left
  · have c4i : (ct != 0) = true := by simp [c4]
   obtain rfl : false = b := by rw [← hb]; simp [bareB, nameS, sumS, listS, c4]
   clear hb
   go_enter Tryz.func68, Tryz.ntmps68
   go_wp2
   go_ret
   exact ⟨rfl, hbA _⟩
  have c4i : (ct != 0) = false := by simp [c4]
  by_cases c5 : sk = 0
  rotate_left
  · have c5i : (sk != 0) = true := by simp [c5]
   obtain rfl : false = b := by rw [← hb]; simp [bareB, nameS, sumS, listS, c5]
   clear hb
   go_enter Tryz.func68, Tryz.ntmps68
   go_wp2
   go_ret
   exact ⟨rfl, hbA _⟩
  have c5i : (sk != 0) = false := by simp [c5]
  obtain rfl : nameK nm = b := by rw [← hb]; simp [bareB, nameS, sumS, listS, c2l, c3l, c4, c5]
  obtain ⟨r1, hr1⟩ : ∃ r, nameK nm = r := ⟨_, rfl⟩
  have H1 := hid hr1
  rw [hr1]
  clear hb hr1
  go_enter Tryz.func68, Tryz.ntmps68
  go_wp2_with fail
  refine (namek_spec nm _ HM.out r1 H1.out).mono ?_
  rintro e w1 ⟨rfl, hb1⟩
  have hx1 := chain (hbA _) hb1
  cases r1
  · go_wp2
   go_ret
   exact ⟨rfl, hx1⟩
  · go_wp2
   go_ret
   exact ⟨rfl, hx1⟩
set_option maxRecDepth 100000 in
set_option maxHeartbeats 2000000 in
theorem bare_9 (nm : ByteArray) (na : Option Addr) (nn nc : Nat) (ns : List ByteArray) (hnn : ns.length = nn) (sa : Option Addr) (sn sc : Nat) (sm : List TI) (hsn : sm.length = sn) (dn : Bool) (ct sk : Int) (w : World) (hnm : nm.size ≤ maxLen) (hS : ItmAt w sa sm) (hSf : FitItm sm) (hsm : sn ≤ maxLen) (b : Bool) (hb : bareB ⟨9, nm, ns, sm, dn, ct, sk⟩ = b) :
  Calls Tryz.prog 68 #[.agg #[.int .i64 9, .string nm, .slice na nn nc, .slice sa sn sc, .bool dn, .int .i64 ct, .int .i64 sk]] w fun e w' => e = .returned (.bool b) ∧ Below w.heap.size w w' := by
 have HS := hid hS
 have HF := hid hSf
 have HN := hid hsn
 have HM := hid hnm
 have HSM := hid hsm
 have HNN := hid hnn
 have hbA : ∀ o, Below w.heap.size w (w.alloc o) := fun o => (Below.refl _ _).alloc (Nat.le_refl _) o
 by_cases c1 : nm ≠ ⟨#[]⟩
 · have c1t := ne_txt nm c1
  obtain rfl : false = b := by rw [← hb]; simp [bareB, nameS, sumS, listS, c1]
  clear hb
  go_enter Tryz.func68, Tryz.ntmps68
  go_wp2
  go_ret
  exact ⟨rfl, hbA _⟩
 rw [ne_eq, Decidable.not_not] at c1
 have c1t := eq_txt nm c1
 by_cases c2 : 0 < sn
 · have c2i : (0 : Int) < (sn : Int) := by omega
  have c2l : sm ≠ [] := fun e => by rw [e] at hsn; simp at hsn; omega
  obtain rfl : false = b := by rw [← hb]; simp [bareB, nameS, sumS, listS, c2l]
  clear hb
  go_enter Tryz.func68, Tryz.ntmps68
  go_wp2
  go_ret
  exact ⟨rfl, hbA _⟩
 have c2i : ¬ (0 : Int) < (sn : Int) := by omega
 have c2l : sm = [] := List.length_eq_zero_iff.1 (by omega)
 by_cases c3 : 0 < nn
 · have c3i : (0 : Int) < (nn : Int) := by omega
  have c3l : ns ≠ [] := fun e => by rw [e] at hnn; simp at hnn; omega
  obtain rfl : false = b := by rw [← hb]; simp [bareB, nameS, sumS, listS, c3l]
  clear hb
  go_enter Tryz.func68, Tryz.ntmps68
  go_wp2
  go_ret
  exact ⟨rfl, hbA _⟩
 have c3i : ¬ (0 : Int) < (nn : Int) := by omega
 have c3l : ns = [] := List.length_eq_zero_iff.1 (by omega)
 cases dn
 rotate_left
 · obtain rfl : false = b := by rw [← hb]; simp [bareB, nameS, sumS, listS, ]
  clear hb
  go_enter Tryz.func68, Tryz.ntmps68
  go_wp2
  go_ret
  exact ⟨rfl, hbA _⟩
 obtain rfl : true = b := by rw [← hb]; simp [bareB, nameS, sumS, listS, c1, c2l, c3l]
 clear hb
 go_enter Tryz.func68, Tryz.ntmps68
 go_wp2
 go_ret
 exact ⟨rfl, hbA _⟩
set_option maxRecDepth 100000 in
set_option maxHeartbeats 2000000 in
theorem bare_10 (nm : ByteArray) (na : Option Addr) (nn nc : Nat) (ns : List ByteArray) (hnn : ns.length = nn) (sa : Option Addr) (sn sc : Nat) (sm : List TI) (hsn : sm.length = sn) (dn : Bool) (ct sk : Int) (w : World) (hnm : nm.size ≤ maxLen) (hS : ItmAt w sa sm) (hSf : FitItm sm) (hsm : sn ≤ maxLen) (b : Bool) (hb : bareB ⟨10, nm, ns, sm, dn, ct, sk⟩ = b) :
  Calls Tryz.prog 68 #[.agg #[.int .i64 10, .string nm, .slice na nn nc, .slice sa sn sc, .bool dn, .int .i64 ct, .int .i64 sk]] w fun e w' => e = .returned (.bool b) ∧ Below w.heap.size w w' := by
 have HS := hid hS
 have HF := hid hSf
 have HN := hid hsn
 have HM := hid hnm
 have HSM := hid hsm
 have HNN := hid hnn
 have hbA : ∀ o, Below w.heap.size w (w.alloc o) := fun o => (Below.refl _ _).alloc (Nat.le_refl _) o
 by_cases c1 : nm ≠ ⟨#[]⟩
 · have c1t := ne_txt nm c1
  obtain rfl : false = b := by rw [← hb]; simp [bareB, nameS, sumS, listS, c1]
  clear hb
  go_enter Tryz.func68, Tryz.ntmps68
  go_wp2
  go_ret
  exact ⟨rfl, hbA _⟩
 rw [ne_eq, Decidable.not_not] at c1
 have c1t := eq_txt nm c1
 by_cases c2 : 0 < sn
 · have c2i : (0 : Int) < (sn : Int) := by omega
  have c2l : sm ≠ [] := fun e => by rw [e] at hsn; simp at hsn; omega
  obtain rfl : false = b := by rw [← hb]; simp [bareB, nameS, sumS, listS, c2l]
  clear hb
  go_enter Tryz.func68, Tryz.ntmps68
  go_wp2
  go_ret
  exact ⟨rfl, hbA _⟩
 have c2i : ¬ (0 : Int) < (sn : Int) := by omega
 have c2l : sm = [] := List.length_eq_zero_iff.1 (by omega)
 by_cases c3 : 0 < nn
 · have c3i : (0 : Int) < (nn : Int) := by omega
  have c3l : ns ≠ [] := fun e => by rw [e] at hnn; simp at hnn; omega
  obtain rfl : false = b := by rw [← hb]; simp [bareB, nameS, sumS, listS, c3l]
  clear hb
  go_enter Tryz.func68, Tryz.ntmps68
  go_wp2
  go_ret
  exact ⟨rfl, hbA _⟩
 have c3i : ¬ (0 : Int) < (nn : Int) := by omega
 have c3l : ns = [] := List.length_eq_zero_iff.1 (by omega)
 cases dn
 rotate_left
 · obtain rfl : false = b := by rw [← hb]; simp [bareB, nameS, sumS, listS, ]
  clear hb
  go_enter Tryz.func68, Tryz.ntmps68
  go_wp2
  go_ret
  exact ⟨rfl, hbA _⟩
 by_cases c4 : ct = 0
 rotate_left
 · have c4i : (ct != 0) = true := by simp [c4]
  obtain rfl : false = b := by rw [← hb]; simp [bareB, nameS, sumS, listS, c4]
  clear hb
  go_enter Tryz.func68, Tryz.ntmps68
  go_wp2
  go_ret
  exact ⟨rfl, hbA _⟩
 have c4i : (ct != 0) = false := by simp [c4]
 by_cases c5 : sk = 0
 rotate_left
 · have c5i : (sk != 0) = true := by simp [c5]
  obtain rfl : false = b := by rw [← hb]; simp [bareB, nameS, sumS, listS, c5]
  clear hb
  go_enter Tryz.func68, Tryz.ntmps68
  go_wp2
  go_ret
  exact ⟨rfl, hbA _⟩
 have c5i : (sk != 0) = false := by simp [c5]
 obtain rfl : true = b := by rw [← hb]; simp [bareB, nameS, sumS, listS, c1, c2l, c3l, c4, c5]
 clear hb
 go_enter Tryz.func68, Tryz.ntmps68
 go_wp2
 go_ret
 exact ⟨rfl, hbA _⟩
theorem bare_spec (k : Int) (hk : 1 ≤ k ∧ k ≤ 10) (nm : ByteArray) (na : Option Addr) (nn nc : Nat) (ns : List ByteArray) (hnn : ns.length = nn) (sa : Option Addr) (sn sc : Nat) (sm : List TI) (hsn : sm.length = sn) (dn : Bool) (ct sk : Int) (w : World) (hnm : nm.size ≤ maxLen) (hS : ItmAt w sa sm) (hSf : FitItm sm) (hsm : sn ≤ maxLen) (b : Bool) (hb : bareB ⟨k, nm, ns, sm, dn, ct, sk⟩ = b) :
  Calls Tryz.prog 68 #[.agg #[.int .i64 k, .string nm, .slice na nn nc, .slice sa sn sc, .bool dn, .int .i64 ct, .int .i64 sk]] w fun e w' => e = .returned (.bool b) ∧ Below w.heap.size w w' := by
 rcases (by omega : k = 1 ∨ k = 2 ∨ k = 3 ∨ k = 4 ∨ k = 5 ∨ k = 6 ∨ k = 7 ∨ k = 8 ∨ k = 9 ∨ k = 10) with rfl | rfl | rfl | rfl | rfl | rfl | rfl | rfl | rfl | rfl
 · exact bare_1 nm na nn nc ns hnn sa sn sc sm hsn dn ct sk w hnm hS hSf hsm b hb
 · exact bare_2 nm na nn nc ns hnn sa sn sc sm hsn dn ct sk w hnm hS hSf hsm b hb
 · exact bare_3 nm na nn nc ns hnn sa sn sc sm hsn dn ct sk w hnm hS hSf hsm b hb
 · exact bare_4 nm na nn nc ns hnn sa sn sc sm hsn dn ct sk w hnm hS hSf hsm b hb
 · exact bare_5 nm na nn nc ns hnn sa sn sc sm hsn dn ct sk w hnm hS hSf hsm b hb
 · exact bare_6 nm na nn nc ns hnn sa sn sc sm hsn dn ct sk w hnm hS hSf hsm b hb
 · exact bare_7 nm na nn nc ns hnn sa sn sc sm hsn dn ct sk w hnm hS hSf hsm b hb
 · exact bare_8 nm na nn nc ns hnn sa sn sc sm hsn dn ct sk w hnm hS hSf hsm b hb
 · exact bare_9 nm na nn nc ns hnn sa sn sc sm hsn dn ct sk w hnm hS hSf hsm b hb
 · exact bare_10 nm na nn nc ns hnn sa sn sc sm hsn dn ct sk w hnm hS hSf hsm b hb
end Go.Proofs.YtjjkdbmjloolaaaGreatDoor
