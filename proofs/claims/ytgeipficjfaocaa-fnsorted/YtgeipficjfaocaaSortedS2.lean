/-
  The walk of the model's Sorted.
-/
import Derived.Test.YtgeipficjfaocaaSortedS
namespace Go.Proofs.Ytgeipficjfaocaa
open Go.ChangeShapes Go.WideShapes Go.ChangeAt Go.RowKit
attribute [local go_sem ↓] Go.wp_at_zero Go.wp_at_succ

set_option maxRecDepth 100000 in
set_option maxHeartbeats 4000000 in
theorem sorted_spec_aux (a : Option Addr) (cap : Nat) (L : List (List CT)) (at_ : Int) (down D : Bool) (hD : Hid (D = down)) (w : World) (hrow : RowsAt w a L) (hm : L.length ≤ 1048576) (hms : ∀ i (h : i < L.length), L[i].length ≤ 1048576) :
    Calls Try.prog 45 #[.slice a L.length cap, .int .i64 at_, .bool down] w fun e w' => ∃ g c p, e = .returned (.slice (some ⟨g, 0, none⟩) L.length c) ∧ IsOrder L at_ D p ∧ Laid w' w.heap.size g c L p ∧ Below w.heap.size w w' := by
  have hR : Hid (RowsAt w a L) := hrow
  have SP : Hid (∀ w', Below w.heap.size w w' → Calls Try.prog 89 #[.slice a L.length cap] w' fun e w'' => ∃ v G C, e = .returned v ∧ OwnRows w'' w'.heap.size v L G C ∧ Below w'.heap.size w' w'' ∧ v ≠ .slice none 0 0) := fun w' hb => rows_spec a cap L w' (hrow.below hb) hm hms
  clear hrow hms
  cases down
  all_goals
    go_enter Try.func45, Try.ntmps45
    go_wp2_with fail
    refine (SP.out _ (Below.refl _ _)).mono ?_
    rintro e w1 ⟨v, G, C, rfl, O1, hb1, hv⟩
    obtain ⟨g, c, rfl⟩ : ∃ g c, v = .slice (some ⟨g, 0, none⟩) L.length c := by
      rcases O1.outer.2 with ⟨h', _⟩ | ⟨g, c, cur, h', _⟩
      · exact absurd h' hv
      · exact ⟨g, c, h'⟩
    have O : Hid (Laid w1 w.heap.size g c L (List.range L.length)) := ⟨G, C, by rw [rowsOf_range]; exact O1⟩
    clear O1 hv SP
    go_wp2
    go_loopw [8] (fun i wr => ∃ k : Nat, k ≤ L.length ∧ i = .int .i64 k ∧ Hid (∀ q (hq : q < L.length), q < k → 0 ≤ at_ ∧ at_ < (L[q].length : Int)) ∧ wr = w1) (fun i _ => L.length - (intOf i).toNat)
    case atStart => exact ⟨0, Nat.zero_le _, rfl, fun q hq h => by omega, rfl⟩
    case round =>
      obtain ⟨k, hk, rfl, hre, rfl⟩ := hrel
      by_cases hlt : k < L.length
      · obtain ⟨b, o, ai, ci, rfl, hbw, c0, _⟩ := hR.out.below hb1 k hlt
        have hi0 : (0 : Int) ≤ (k : Int) := by omega
        have hi1 : (k : Int) < (L.length : Int) := by omega
        by_cases hat : at_ < 0
        · go_wp2
          go_ret
          exact ⟨g, c, _, rfl, ⟨List.Perm.refl _, fun hr => by have := (hr k hlt).1; omega, fun _ => rfl⟩, O.out, hb1⟩
        have hat0 : 0 ≤ at_ := by omega
        by_cases hat2 : at_ < (L[k].length : Int)
        · go_wp2
          go_roundw
          case rel =>
            refine ⟨k + 1, by omega, by go_num, ?_, by trivial⟩
            intro q hq hqk
            by_cases e : q = k
            · subst e; exact ⟨hat0, hat2⟩
            · exact hre.out q hq (by omega)
          case measure => simp [intOf]; omega
        · go_wp2
          go_ret
          have fin : IsOrder L at_ D (List.range L.length) := ⟨List.Perm.refl _, fun hr => by have := (hr k hlt).2; omega, fun _ => rfl⟩
          first | exact ⟨g, c, _, rfl, fin, O.out, hb1⟩ | exact ⟨g, c, rfl, _, fin, O.out, hb1⟩
      · have hReach : Hid (Reach L at_) := fun q hq => hre.out q hq (by omega)
        clear hre
        have hkl : k = L.length := by omega
        subst hkl
        have hnn : ¬ (L.length : Int) < (L.length : Int) := by omega
        go_wp2
        have ST := placeLt_strict (keyOf L at_) D L.length
        go_loopw [9] (fun i wr' => ∃ k : Nat, 1 ≤ k ∧ k ≤ L.length + 1 ∧ i = .int .i64 k ∧ Hid (∃ p : List Nat, p.Perm (List.range L.length) ∧ Laid wr' w.heap.size g c L p ∧ SortedTo (placeLt (keyOf L at_) D) p k ∧ (∀ x, x < k → x < L.length → p.getD x 0 < k) ∧ (∀ x, k ≤ x → x < L.length → p.getD x 0 = x)) ∧ Below w.heap.size w wr') (fun i _ => L.length - (intOf i).toNat)
        case atStart =>
          refine ⟨1, Nat.le_refl _, by omega, rfl, ⟨_, List.Perm.refl _, O.out, fun x y h1 h2 => by omega, fun x h1 h2 => ?_, fun x h1 h2 => ?_⟩, hb1⟩
          · rw [getD_get _ _ _ (by simpa using h2)]; simp; omega
          · rw [getD_get _ _ _ (by simpa using h2)]; simp
        case round =>
          obtain ⟨i, hi1, hin, rfl, hP, hbx⟩ := hrel
          clear O hb1
          by_cases hlt2 : i < L.length
          · have hlt2' : (i : Int) < (L.length : Int) := by omega
            go_wp2
            go_loopw [10] (fun k wr' => ∃ m : Nat, m ≤ i ∧ k = .int .i64 m ∧ Hid (∃ p : List Nat, p.Perm (List.range L.length) ∧ Laid wr' w.heap.size g c L p ∧ InsAt (placeLt (keyOf L at_) D) p i m ∧ PlAt p L.length i m) ∧ Below w.heap.size w wr') (fun k _ => (intOf k).toNat)
            case atStart =>
              obtain ⟨p, hp, hL, hs, h1, h2⟩ := hP.out
              exact ⟨i, Nat.le_refl _, rfl, ⟨p, hp, hL, InsAt.start hs, h2 i (Nat.le_refl _) hlt2, fun x hx hne => h1 x (by omega) (by omega), fun x hx hxn => h2 x (by omega) hxn⟩, hbx⟩
            case round =>
              obtain ⟨m, hmi, rfl, hQ, hby⟩ := hrel
              obtain ⟨p, hp, hL, hI, hPl⟩ := hQ.out
              have hpl : p.length = L.length := by simpa using hp.length_eq
              have hpm : ∀ x ∈ p, x < L.length := fun x hx => by simpa using hp.mem_iff.1 hx
              by_cases hm0 : m = 0
              · subst hm0
                have hs := InsAt.done ST hpm (by omega) hmi hI (.inl rfl)
                have hO : Hid (∃ p : List Nat, p.Perm (List.range L.length) ∧ Laid wr w.heap.size g c L p ∧ SortedTo (placeLt (keyOf L at_) D) p (i + 1) ∧ (∀ x, x < i + 1 → x < L.length → p.getD x 0 < i + 1) ∧ (∀ x, i + 1 ≤ x → x < L.length → p.getD x 0 = x)) := by
                  refine ⟨p, hp, hL, hs, fun x h1 h2 => ?_, fun x h1 h2 => hPl.2.2 x (by omega) h2⟩
                  by_cases e : x = 0
                  · rw [e, hPl.1]; omega
                  · have := hPl.2.1 x (by omega) e; omega
                clear hp hL hI hPl hs hQ hP
                go_wp2
                go_roundw
                case rel => exact ⟨i + 1, by omega, by omega, by go_num, hO, hby⟩
                case measure => simp [intOf]; omega
              · obtain ⟨j, rfl⟩ : ∃ j, m = j + 1 := ⟨m - 1, by omega⟩
                obtain ⟨G1, C1, OR⟩ := hL
                have hRl : (rowsOf L p).length = L.length := by rw [rowsOf_length, hpl]
                rw [← hRl] at OR
                obtain ⟨a, ha⟩ : ∃ a, p.getD j 0 = a := ⟨_, rfl⟩
                have haL : a < L.length := by rw [← ha]; exact mem_lt hpm (by omega)
                have hai : a < i := by rw [← ha]; exact hPl.2.1 j (by omega) (by omega)
                obtain ⟨hr0, hr1, hr2⟩ := reach_key hReach.out a haL
                obtain ⟨_, hr3, _⟩ := reach_key hReach.out i hlt2
                have l1 := OR.look j (by rw [hRl]; omega)
                have l2 := OR.look (j + 1) (by rw [hRl]; omega)
                have eA : (rowsOf L p).getD j [] = L.getD a [] := by rw [rowsOf_getD _ _ _ (by omega), ha]
                have eB : (rowsOf L p).getD (j + 1) [] = L.getD i [] := by rw [rowsOf_getD _ _ _ (by omega), hPl.1]
                obtain ⟨A, hA⟩ : ∃ A, keyOf L at_ a = A := ⟨_, rfl⟩
                obtain ⟨B, hB⟩ : ∃ B, keyOf L at_ i = B := ⟨_, rfl⟩
                have k1 := OR.lookIn j (by rw [hRl]; omega) at_.toNat A (by rw [eA]; exact hr1) (by rw [eA]; exact hA)
                have k2 := OR.lookIn (j + 1) (by rw [hRl]; omega) at_.toNat B (by rw [eB]; exact hr3) (by rw [eB]; exact hB)
                unfold headOf at l1 l2
                rw [eA] at l1
                rw [eB] at l2
                obtain ⟨t, rfl⟩ : ∃ t : Nat, at_ = t := ⟨at_.toNat, by omega⟩
                simp only [Int.toNat_natCast] at k1 k2 hr1 hr3
                obtain ⟨r, hr⟩ : ∃ r, placeLt (keyOf L (t : Int)) D i a = r := ⟨_, rfl⟩
                have hc0 := (placeLt_before (keyOf L (t : Int)) D i a hai).symm.trans hr
                rw [hA, hB, hD.out] at hc0
                have HO : Hid (OwnRows wr w.heap.size (.slice (some ⟨g, 0, none⟩) (rowsOf L p).length c) (rowsOf L p) G1 C1) := OR
                have HI : Hid (InsAt (placeLt (keyOf L (t : Int)) D) p i (j + 1)) := hI
                have HPl : Hid (PlAt p L.length i (j + 1)) := hPl
                clear OR hI hPl hQ hP
                obtain ⟨l10, l11⟩ := l1
                obtain ⟨l20, l21⟩ := l2
                obtain ⟨k10, k11, k12, k13⟩ := k1
                obtain ⟨k20, k21, k22, k23⟩ := k2
                have hgw : g < wr.heap.size := World.block_lt_of_cell? wr _ l10
                obtain ⟨na, hna⟩ : ∃ na, ((rowsOf L p).getD j []).length = na := ⟨_, rfl⟩
                obtain ⟨ni, hni⟩ : ∃ ni, ((rowsOf L p).getD (j + 1) []).length = ni := ⟨_, rfl⟩
                rw [← eA, hna] at l10 hr1
                rw [← eB, hni] at l20 hr3
                have q0 : (0 : Int) ≤ (t : Int) := by omega
                have q1 : (t : Int) < (na : Int) := by omega
                have q2 : (t : Int) < (ni : Int) := by omega
                have q3 : (0 : Int) < ((j + 1 : Nat) : Int) := by omega
                have q4 : ((j + 1 : Nat) : Int) - 1 = (j : Int) := by omega
                have q5 : (j : Int) < (L.length : Int) := by omega
                have q6 : ((j + 1 : Nat) : Int) < (L.length : Int) := by omega
                have q7 : (0 : Int) ≤ (j : Int) := by omega
                go_wp2_with fail
                first
                  | refine (cless_specb _ _ _ _ _ _ r (show lessB B.1 B.2.1 B.2.2 A.1 A.2.1 A.2.2 = r from hc0) _).mono ?_
                  | refine (cless_specb _ _ _ _ _ _ r (show lessB A.1 A.2.1 A.2.2 B.1 B.2.1 B.2.2 = r from hc0) _).mono ?_
                rintro e w2 ⟨rfl, hb2⟩
                have hbz : Below wr.heap.size wr w2 := chainAA hb2
                have hbq := chain hby hbz
                have O2 : Hid (OwnRows w2 w.heap.size (.slice (some ⟨g, 0, none⟩) (rowsOf L p).length c) (rowsOf L p) G1 C1) := HO.out.below hbz
                have hgz := Nat.lt_of_lt_of_le hgw hbz.size
                rw [← hbz.cell (p := ⟨g, j, none⟩) hgw] at l10
                rw [← hbz.frozen (p := ⟨g, j, none⟩) hgw] at l11
                rw [← hbz.cell (p := ⟨g, j + 1, none⟩) hgw] at l20
                rw [← hbz.frozen (p := ⟨g, j + 1, none⟩) hgw] at l21
                clear hb2 HO k10 k11 k12 k13 k20 k21 k22 k23 hgw
                cases r
                · have hs := InsAt.done ST hpm (by omega) hmi HI.out (.inr (by rw [HPl.out.1, Nat.add_sub_cancel, ha]; exact hr))
                  have hO : Hid (∃ p : List Nat, p.Perm (List.range L.length) ∧ Laid w2 w.heap.size g c L p ∧ SortedTo (placeLt (keyOf L (t : Int)) D) p (i + 1) ∧ (∀ x, x < i + 1 → x < L.length → p.getD x 0 < i + 1) ∧ (∀ x, i + 1 ≤ x → x < L.length → p.getD x 0 = x)) := by
                    refine ⟨p, hp, ⟨G1, C1, by rw [← hRl]; exact O2.out⟩, hs, fun x h1 h2 => ?_, fun x h1 h2 => HPl.out.2.2 x (by omega) h2⟩
                    by_cases e : x = j + 1
                    · rw [e, HPl.out.1]; omega
                    · have := HPl.out.2.1 x (by omega) e; omega
                  clear hp hs O2 HI HPl
                  go_wp2
                  go_roundw
                  case rel => exact ⟨i + 1, by omega, by omega, by go_num, hO, hbq⟩
                  case measure => simp [intOf]; omega
                · have hO : Hid (∀ w3, w3 = (w2.setCell ⟨g, j + 1, none⟩ (headOf G1 C1 (rowsOf L p) j)).setCell ⟨g, j, none⟩ (headOf G1 C1 (rowsOf L p) (j + 1)) → ∃ p : List Nat, p.Perm (List.range L.length) ∧ Laid w3 w.heap.size g c L p ∧ InsAt (placeLt (keyOf L (t : Int)) D) p i j ∧ PlAt p L.length i j) := by
                    rintro w3 rfl
                    have sI := InsAt.step ST (by omega) hmi (Nat.succ_pos _) HI.out (by rw [HPl.out.1, Nat.add_sub_cancel, ha]; exact hr)
                    have sP := PlAt.step (by omega) hmi (Nat.succ_pos _) HPl.out
                    rw [Nat.add_sub_cancel] at sI sP
                    have this := O2.out.swap j (j + 1) (by rw [hRl]; omega) (by rw [hRl]; omega) (by omega)
                    rw [rowsOf_swap L p j (j + 1) (by omega) (by omega), hRl] at this
                    exact ⟨swap 0 p j (j + 1), (swap_perm _ _ _ _ (by omega) (by omega)).trans hp, ⟨_, _, this⟩, sI, sP⟩
                  have hg0 : w.heap.size ≤ g := by
                    rcases O2.out.outer.2 with ⟨h', _⟩ | ⟨g', c', cur, h', hle, _⟩
                    · simp at h'
                    · simp at h'; omega
                  clear hp O2 HI HPl
                  have hh1 : headOf G1 C1 (rowsOf L p) j = .slice (some ⟨G1 j, 0, none⟩) na (C1 j) := by unfold headOf; rw [hna]
                  have hh2 : headOf G1 C1 (rowsOf L p) (j + 1) = .slice (some ⟨G1 (j + 1), 0, none⟩) ni (C1 (j + 1)) := by unfold headOf; rw [hni]
                  rw [hh1, hh2] at hO
                  clear hh1 hh2
                  go_wp2
                  go_roundw
                  case rel => exact ⟨j, by omega, by go_num, hO.out _ rfl, (hbq.setCell hg0 _).setCell hg0 _⟩
                  case measure => simp [intOf]
          · have hlt2' : ¬ (i : Int) < (L.length : Int) := by omega
            obtain ⟨p, hp, hL, hs, h1, h2⟩ := hP.out
            have hpl : p.length = L.length := by simpa using hp.length_eq
            have fin : IsOrder L at_ D p := ⟨hp, fun _ => SortedTo.pairwise (fun x y h1 h2 => hs x y h1 (by omega)), fun hn => absurd hReach.out hn⟩
            have hL' : Hid (Laid _ w.heap.size g c L p) := hL
            clear hL hP
            go_wp2
            go_ret
            first | exact ⟨g, c, _, rfl, fin, hL'.out, hbx⟩ | exact ⟨g, c, rfl, _, fin, hL'.out, hbx⟩

theorem sorted_spec (a : Option Addr) (cap : Nat) (L : List (List CT)) (at_ : Int) (down : Bool) (w : World) (hrow : RowsAt w a L) (hm : L.length ≤ 1048576) (hms : ∀ i (h : i < L.length), L[i].length ≤ 1048576) :
    Calls Try.prog 45 #[.slice a L.length cap, .int .i64 at_, .bool down] w fun e w' => ∃ g c p, e = .returned (.slice (some ⟨g, 0, none⟩) L.length c) ∧ IsOrder L at_ down p ∧ Laid w' w.heap.size g c L p ∧ Below w.heap.size w w' :=
  sorted_spec_aux a cap L at_ down down rfl w hrow hm hms

end Go.Proofs.Ytgeipficjfaocaa
