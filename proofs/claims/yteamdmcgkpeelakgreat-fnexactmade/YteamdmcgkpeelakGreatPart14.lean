/-
  A part of the proof: SpB4.
-/
import Derived.Test.YteamdmcgkpeelakGreatPart13

/-
  The contract of the model's Made.
-/
namespace Go.Proofs.YteamdmcgkpeelakGreat
open Go.ChangeShapes Go.WideShapes Go.ChangeAt Go.RowKit
attribute [local go_sem ↓] Go.wp_at_zero Go.wp_at_succ
attribute [local simp] World.cell?_alloc_past World.cell?_alloc_at World.frozen?_alloc_at cell_far cell_off cell_here World.frozen?_alloc_past

theorem insT_at {T : List TB} {t : TB} {k : Nat} (hk : k ≤ T.length) (hlt : ∀ j (hj : j < T.length), j < k → Op.bytesLess T[j].1.toList t.1.toList = true) (hge : ∀ hj : k < T.length, Op.bytesLess T[k].1.toList t.1.toList = false) : insT T t = T.take k ++ t :: T.drop k := by
  induction T generalizing k with
  | nil => simp at hk; subst hk; rfl
  | cons u T ih =>
    cases k with
    | zero =>
      have := hge (by simp)
      simp only [List.getElem_cons_zero] at this
      unfold insT
      rw [List.takeWhile_cons, List.dropWhile_cons, if_neg (by rw [this]; simp), if_neg (by rw [this]; simp)]
      rfl
    | succ k =>
      have h0 := hlt 0 (by simp) (by omega)
      simp only [List.getElem_cons_zero] at h0
      have e : insT (u :: T) t = u :: insT T t := by unfold insT; rw [List.takeWhile_cons, List.dropWhile_cons, if_pos h0, if_pos h0, List.cons_append]
      rw [e, ih (k := k) (by simpa using hk) (fun j hj hjk => by have := hlt (j + 1) (by simpa using hj) (by omega); simpa using this) (fun hj => by have := hge (by simpa using hj); simpa using this)]
      rfl
theorem app_tabsG {B : Nat} {w : World} {o : Oper} {a : Act} {K : Act → World → Prop} {Q : Exit → Act → World → Prop} (s x : Operand)
    (ho : o.op = .call { callee := .builtin .append, args := #[s, x], argTypes := #[26, 26] })
    (hB : B ≤ w.heap.size) (v : Value) (n : Nat) (P1 : List (TB × TAd)) (hs : a.eval s = v) (own : w.ownsRow B 44 3 v n (hvP P1))
    (ad : Addr) (m k : Nat) (P2 : List (TB × TAd)) (hx : a.eval x = .slice (some ad) m k) (hm : P2.length = m) (hcells : ∀ j u, (hvP P2)[j]? = some u → w.cell? (ad.add j) = some u)
    (hsz : n + m ≤ 4096)
    (h : ∀ v' w', w'.ownsRow B 44 3 v' (n + m) (hvP (P1 ++ P2)) → Below B w w' → w.grownBy w' v.ownBlock → (v' = .slice none 0 0 → v = .slice none 0 0) → K (a.put o.dst v') w') : o.wp Tryz.prog a w K Q := by
  obtain ⟨i0, hi, hz0, hz1, hz2⟩ := info_parts infoTS
  refine wp_append_own w s x 26 ho B 44 i0 (.agg #[.string ⟨#[]⟩, .slice none 0 0, .slice none 0 0]) 3 64 Tryz.underlying26 hi hz0 hz1 hz2 rfl (by decide) v n (hvP P1) hs own ad m k (hvP P2) hx (by rw [hvP_length, hm]) hcells (fun u hu => hvP_one hu) (by unfold maxLen; omega) (by omega) hB ?_
  intro v' w' own' hg hnn
  refine h v' w' ?_ ((Below.refl B w).grown hg hB (fun q hq => (own.lt q hq).1)) hg (fun e => (hnn.1 e).1)
  rw [hvP_append]
  exact own'
theorem src_all {w w' : World} {base g n c : Nat} {P : List (TB × TAd)} (h : w.ownsRow base 44 3 (.slice (some ⟨g, 0, none⟩) n c) n (hvP P)) (hb : Below w.heap.size w w') : ∀ j u, (hvP P)[j]? = some u → w'.cell? ((⟨g, 0, none⟩ : Addr).add j) = some u := by
  have := src_take h hb P.length
  rwa [List.take_length] at this
theorem own_emptyT2 (w : World) (ob : Obj) (B : Nat) (hB : B ≤ w.heap.size := by exact Nat.le_refl _) : ((w.alloc ob).alloc (.cells #[] 44)).ownsRow B 44 3 (.slice (some ⟨w.heap.size + 1, 0, none⟩) 0 0) 0 (hvP []) := by
  have h := own_emptyT (w.alloc ob) B (by simp; omega)
  have e : (w.alloc ob).heap.size = w.heap.size + 1 := by simp
  rw [e] at h
  exact h
set_option maxRecDepth 100000 in
set_option maxHeartbeats 8000000 in
theorem made_spec (a : Option Addr) (cap : Nat) (T : List TB) (n : Nat) (hn : T.length = n) (nm : ByteArray) (hnmL : nm.size ≤ maxLen) (ca : Option Addr) (cc : Nat) (C : List ByteArray) (nc : Nat) (hnc : C.length = nc) (w : World) (hrow : TabsAt w a T) (hC : StrsAt w ca C) (hF : FitS C) (hcS : nc ≤ 1048576) (hnil : ca = none → cc = 0) (hm : n ≤ 1048576) (V : List TB) (r : Bool) (hV : madeR T (nm, C, []) = (V, r)) :
    Calls Tryz.prog 7 #[.slice a n cap, .string nm, .slice ca nc cc] w (PairAt w V r) := by
  obtain ⟨b, hb⟩ : ∃ b, baseB T = b := ⟨_, rfl⟩
  obtain ⟨t, ht0⟩ : ∃ t : TB, t = (nm, C, []) := ⟨_, rfl⟩
  have HC0 : Hid (StrsAt w ca C ∧ FitS C) := ⟨hC, hF⟩
  have HCL : Hid (C.length = nc) := hnc
  have HT0 : Hid (t = (nm, C, [])) := ht0
  have HR : Hid (TabsAt w a T) := hrow
  have HN : Hid (T.length = n) := hn
  have HB : Hid (baseB T = b) := hb
  have hmL : n ≤ maxLen := by unfold maxLen; omega
  unfold madeR at hV
  rw [hb, ← ht0] at hV
  clear hrow hn hC hF hnc ht0
  cases b
  · rw [if_neg (by simp)] at hV
    obtain ⟨rfl, rfl⟩ : [] = V ∧ false = r := by simpa using hV
    clear hV hb
    go_enter Tryz.func7, Tryz.ntmps7
    go_wp2_with fail
    refine (base_spec a cap T n HN.out _ HR.out hmL false HB.out).mono ?_
    rintro e w1 ⟨rfl, hb1⟩
    have FIN : Hid (PairAt w [] false (.returned (.tuple #[.slice (some ⟨w1.heap.size, 0, none⟩) 0 0, .bool false])) (w1.alloc (.cells #[] 44))) := ⟨_, 0, 0, rfl, rfl, fun i hi => by simp at hi, hb1.alloc hb1.size _⟩
    go_wp2
    exact bodyPost_ret (v := .tuple #[.slice (some ⟨w1.heap.size, 0, none⟩) 0 0, .bool false]) (by simp [results, Tryz.results7, go_sem]) rfl FIN.out
  rw [if_pos rfl] at hV
  obtain ⟨p1, p2, p3⟩ := baseB_parts hb
  have HSM : Hid (∀ t, t ∈ T → SmallS t) := by
    have : ∀ t, t ∈ T → SmallS t := fun t ht => small_s (p1 t ht)
    exact this
  have HRI : Hid (risesN (namesT T) = true) := p2
  have hn5 : n ≤ 5 := by rw [← HN.out]; exact p3
  obtain ⟨c, hc⟩ : ∃ c, tableB t = c := ⟨_, rfl⟩
  have HC : Hid (tableB t = c) := hc
  have HV : Hid ((if nm ∉ namesT T ∧ n ≠ 5 ∧ c = true then (insT T t, true) else (T, false)) = (V, r)) := by
    rw [hc, show t.1 = nm by rw [HT0.out], HN.out] at hV; exact hV
  clear hV hb p1 p2 p3 hc
  go_enter Tryz.func7, Tryz.ntmps7
  go_wp2_with fail
  refine (base_spec a cap T n HN.out _ HR.out hmL true HB.out).mono ?_
  rintro e w1 ⟨rfl, hb1⟩
  go_wp2_with fail
  refine (texts_spec ca cc C nc HCL.out _ (HC0.out.1.below hb1) hnil hcS).mono ?_
  rintro e w2 ⟨gt, ct, rfl, hgt, hct, hownC, hb2⟩
  have hx2 := chain hb1 hb2
  have HTA2 : Hid (TabAt w2 (some ⟨gt, 0, none⟩) ct none t) := by
    have : TabAt w2 (some ⟨gt, 0, none⟩) ct none t := by
      rw [HT0.out]
      exact ⟨own_strs hownC, HC0.out.2, by show C.length ≤ _; rw [HCL.out]; unfold maxLen; omega, by show C.length ≤ _; rw [HCL.out]; exact hct, (fun e => by cases e), (fun i hi => by simp at hi), by simp, hnmL⟩
    exact this
  obtain ⟨W, hW⟩ : ∃ W, W = w2.alloc (.cells #[.string nm, .slice (some ⟨gt, 0, none⟩) nc ct, .slice none 0 0] 44) := ⟨_, rfl⟩
  have hAW : Below w2.heap.size w2 W := by rw [hW]; exact (Below.refl _ _).alloc (Nat.le_refl _) _
  have hq : W.cell? ⟨w2.heap.size, 0, none⟩ = some (.string nm) ∧ W.cell? ⟨w2.heap.size, 1, none⟩ = some (.slice (some ⟨gt, 0, none⟩) nc ct) ∧ W.cell? ⟨w2.heap.size, 2, none⟩ = some (.slice none 0 0) ∧ w2.heap.size < W.heap.size := by
    subst hW; exact ⟨by simp, by simp, by simp, by simp⟩
  have HW : Hid (w2.alloc (.cells #[.string nm, .slice (some ⟨gt, 0, none⟩) nc ct, .slice none 0 0] 44) = W) := hW.symm
  have hxW := chain hx2 hAW
  have HTAW : Hid (TabAt W (some ⟨gt, 0, none⟩) ct none t) := HTA2.out.below hAW
  clear hW hAW hownC hb1 hb2 hx2 HTA2
  go_wp2_with fail
  rw [HW.out]
  refine (l6copy_spec a cap T n HN.out _ (HR.out.below hxW) hm HSM.out).mono ?_
  rintro e w3 ⟨g, c3, Q, rfl, hown, hout, hb3, hc3⟩
  have hx3 := chain hxW hb3
  obtain ⟨q0, q01, q02, q03⟩ := later3 hb3 hq
  have HTA3 : Hid (TabAt w3 (some ⟨gt, 0, none⟩) ct none t) := HTAW.out.below hb3
  have HOWN : Hid (w3.ownsRow W.heap.size 44 3 (.slice (some ⟨g, 0, none⟩) n c3) n (tabsV T Q n)) := hown
  have HOUT : Hid (OutTs w3 W.heap.size (some ⟨g, 0, none⟩) T Q) := hout
  have HNM : Hid (t.1 = nm) := by rw [HT0.out]; exact rfl
  have HNC : Hid (t.2.1.length = nc) := by rw [HT0.out]; exact HCL.out
  have HNR : Hid (t.2.2.length = 0) := by rw [HT0.out]; exact rfl
  clear hown hout hb3 hxW hq HW HTAW
  go_wp2_with fail
  rw [← HNM.out]
  refine (table_spec (some ⟨gt, 0, none⟩) ct none 0 t nc 0 HNC.out HNR.out _ HTA3.out c HC.out).mono ?_
  rintro e w4 ⟨rfl, hb4⟩
  rw [HNM.out]
  have hx4 := chain hx3 hb4
  have H34 : Hid (Below w3.heap.size w3 w4) := hb4
  obtain ⟨q0, q01, q02, q03⟩ := later3 hb4 ⟨q0, q01, q02, q03⟩
  clear hx3 hb4
  cases c
  · have hVT : T = V ∧ r = false := by
      have e := HV.out
      rw [if_neg (by simp)] at e
      simpa [eq_comm] using e
    obtain ⟨rfl, rfl⟩ := hVT
    have FIN : Hid (PairAt w T false (.returned (.tuple #[.slice (some ⟨g, 0, none⟩) n c3, .bool false])) w4) := ⟨_, n, c3, HN.out, rfl, (HOUT.out.below H34.out).lies, hx4⟩
    clear HV
    go_wp2
    exact bodyPost_ret (v := .tuple #[.slice (some ⟨g, 0, none⟩) n c3, .bool false]) (by simp [results, Tryz.results7, go_sem]) rfl FIN.out
  go_wp2_with fail
  refine (find_spec a cap T n HN.out nm _ (HR.out.below hx4) hmL).mono ?_
  rintro e w5 ⟨z, rfl, hz, hb5⟩
  have hx5 := chain hx4 hb5
  have H35 : Hid (Below w3.heap.size w3 w5) := chain H34.out hb5
  obtain ⟨q0, q01, q02, q03⟩ := later3 hb5 ⟨q0, q01, q02, q03⟩
  clear hb5 hx4 H34
  rcases hz with ⟨rfl, hno⟩ | ⟨k, hk, rfl, hke, _⟩
  rotate_left
  · have hVT : T = V ∧ r = false := by
      have e := HV.out
      rw [if_neg (fun h => h.1 (by rw [← hke]; exact List.getElem_mem hk))] at e
      simpa [eq_comm] using e
    obtain ⟨rfl, rfl⟩ := hVT
    have FIN : Hid (PairAt w T false (.returned (.tuple #[.slice (some ⟨g, 0, none⟩) n c3, .bool false])) w5) := ⟨_, n, c3, HN.out, rfl, (HOUT.out.below H35.out).lies, hx5⟩
    have hk0 : (0 : Int) ≤ (k : Int) := by omega
    clear HV hke
    go_wp2
    exact bodyPost_ret (v := .tuple #[.slice (some ⟨g, 0, none⟩) n c3, .bool false]) (by simp [results, Tryz.results7, go_sem]) rfl FIN.out
  by_cases h5 : n = 5
  · have hVT : T = V ∧ r = false := by
      have e := HV.out
      rw [if_neg (fun h => h.2.1 h5)] at e
      simpa [eq_comm] using e
    obtain ⟨rfl, rfl⟩ := hVT
    subst h5
    have FIN : Hid (PairAt w T false (.returned (.tuple #[.slice (some ⟨g, 0, none⟩) 5 c3, .bool false])) w5) := ⟨_, 5, c3, HN.out, rfl, (HOUT.out.below H35.out).lies, hx5⟩
    clear HV
    go_wp2
    exact bodyPost_ret (v := .tuple #[.slice (some ⟨g, 0, none⟩) 5 c3, .bool false]) (by simp [results, Tryz.results7, go_sem]) rfl FIN.out
  have hVT : V = insT T t ∧ r = true := by
    have e := HV.out
    rw [if_pos ⟨hno, h5, by trivial⟩] at e
    simpa [eq_comm] using e
  obtain ⟨hVT, rfl⟩ := hVT
  have HVT : Hid (V = insT T t) := hVT
  have h5' : ¬ (n : Int) = 5 := by omega
  have h5b : ((n : Int) == 5) = false := by rw [beq_eq_false_iff_ne]; exact h5'
  clear HV hVT hno
  go_wp2
  go_loopw [10] (fun kk wr => ∃ k : Nat, k ≤ n ∧ kk = .int .i64 k ∧ Hid (∀ j (hj : j < T.length), j < k → Op.bytesLess T[j].1.toList nm.toList = true) ∧ wr = w5) (fun kk _ => n - (intOf kk).toNat)
  case atStart => exact ⟨0, Nat.zero_le _, rfl, fun j _ h => by omega, rfl⟩
  case round =>
    obtain ⟨k, hk, rfl, hall, hwr⟩ := hrel
    obtain rfl : w5 = wr := hwr.symm
    by_cases hmore : ∃ hlt : k < T.length, Op.bytesLess (T[k]'hlt).1.toList nm.toList = true
    · obtain ⟨hlt, hless⟩ := hmore
      have hlt' : Hid (k < T.length) := hlt
      obtain ⟨g', o', e, hgw, c0, c1, c2, _⟩ := (HOUT.out.below H35.out).heads k hlt hlt
      cases e
      rw [Nat.zero_add] at c0 c1 c2
      have hall2 : Hid (∀ j (hj : j < T.length), j < k + 1 → Op.bytesLess T[j].1.toList nm.toList = true) := by
        have : ∀ j (hj : j < T.length), j < k + 1 → Op.bytesLess T[j].1.toList nm.toList = true := by
          intro j hj hjk
          by_cases ej : j = k
          · subst ej; exact hless
          · exact hall.out j hj (by omega)
        exact this
      have hkn : k < n := by rw [← HN.out]; exact hlt
      generalize (T[k]'hlt).1 = s0 at c0 hless
      have hi0 : (0 : Int) ≤ (k : Int) := by omega
      have hi1 : (k : Int) < (n : Int) := by omega
      clear hlt c1 c2
      go_wp2
      go_roundw
      case rel => exact ⟨k + 1, by omega, by go_num, hall2, by first | rfl | trivial⟩
      case measure => simp [intOf]; omega
    · have HINS : Hid (V = T.take k ++ t :: T.drop k) := by
        have : V = T.take k ++ t :: T.drop k := by
          rw [HVT.out]
          refine insT_at (by rw [HN.out]; exact hk) (fun j hj hjk => by rw [HNM.out]; exact hall.out j hj hjk) (fun hj => ?_)
          cases hx : Op.bytesLess (T[k]'hj).1.toList t.1.toList
          · rfl
          · exact absurd ⟨hj, by rw [← HNM.out]; exact hx⟩ hmore
        exact this
      -- behind the loop
      obtain ⟨i0, hti, hz0, hz1, hz2⟩ := info_parts infoTS
      obtain ⟨P, hP⟩ : ∃ P, pairsT T Q n = P := ⟨_, rfl⟩
      have HOW : Hid (w3.ownsRow W.heap.size 44 3 (.slice (some ⟨g, 0, none⟩) n c3) n (hvP P)) := by
        have : w3.ownsRow W.heap.size 44 3 (.slice (some ⟨g, 0, none⟩) n c3) n (hvP P) := by rw [← hP, hvP_pairs]; exact HOWN.out
        exact this
      have HPL : Hid (P.length = n) := by
        have : P.length = n := by rw [← hP, pairsT_length]
        exact this
      have HPF : Hid (P.map Prod.fst = T) := by
        have : P.map Prod.fst = T := by rw [← hP, ← HN.out]; exact pairsT_fst T Q
        exact this
      have HPT : Hid (∀ p, p ∈ P → TabAt w3 p.2.ca p.2.cc p.2.ra p.1) := by
        have : ∀ p, p ∈ P → TabAt w3 p.2.ca p.2.cc p.2.ra p.1 := by
          intro p hp
          rw [← hP] at hp
          obtain ⟨i, hi, rfl⟩ := List.mem_map.1 hp
          have hi' : i < T.length := by rw [HN.out]; exact List.mem_range.1 hi
          dsimp only
          rw [getD_tb hi']
          exact (HOUT.out.tabs i hi' hi').tab
        exact this
      clear hP hall
      by_cases hkT : k < T.length
      · have hkn : k < n := by rw [← HN.out]; exact hkT
        as_aux_lemma =>
          have hi0 : (0 : Int) ≤ (k : Int) := by omega
          have hi1 : (k : Int) < (n : Int) := by omega
          have z1 : (k : Int) ≤ (c3 : Int) := by omega
          have z2 : (k : Int) ≤ (n : Int) := by omega
          have hcap : ¬ c3 = k := by omega
          obtain ⟨g', o', e, hgw, c0, _, _, _⟩ := (HOUT.out.below H35.out).heads k hkT hkT
          cases e
          rw [Nat.zero_add] at c0
          have hless : Op.bytesLess (T[k]'hkT).1.toList nm.toList = false := by
            cases hx : Op.bytesLess (T[k]'hkT).1.toList nm.toList
            · rfl
            · exact absurd ⟨hkT, hx⟩ hmore
          generalize (T[k]'hkT).1 = s0 at c0 hless
          obtain ⟨N3, hN3⟩ : ∃ N3, hvP (P.drop k) = N3 := ⟨_, rfl⟩
          have HDR : Hid (hvP (P.drop k) = N3) := hN3
          have HONE : Hid (∀ u : Value, u ∈ N3 → u.oneCell' = true) := by
            have : ∀ u : Value, u ∈ N3 → u.oneCell' = true := fun u hu => by rw [← hN3] at hu; exact hvP_one hu
            exact this
          have HL10 : Hid (N3.length = (n - k) * 3) := by
            have : N3.length = (n - k) * 3 := by rw [← hN3, hvP_length, List.length_drop, HPL.out]
            exact this
          have HCEL : Hid (∀ (j : Nat) (u : Value), N3[j]? = some u → (w5.alloc (.cells #[] 44)).cell? ((⟨g, k * 3, none⟩ : Addr).add j) = some u) := by
            have : ∀ (j : Nat) (u : Value), N3[j]? = some u → (w5.alloc (.cells #[] 44)).cell? ((⟨g, k * 3, none⟩ : Addr).add j) = some u := by
              rw [← hN3]; exact src_drop HOW.out (H35.out.trans (((Below.refl _ _).alloc (Nat.le_refl _) _).mono H35.out.size)) k (by rw [HPL.out]; omega)
            exact this
          clear hN3
          go_wp2_with (at_builtin; refine wpList_append_own _ rfl _ _ 26 rfl w5.heap.size 44 i0 (.agg #[.string ⟨#[]⟩, .slice none 0 0, .slice none 0 0]) 3 64 Tryz.underlying26 hti hz0 hz1 hz2 rfl (by decide) _ _ _ rfl (own_emptyT w5 w5.heap.size (Nat.le_refl _)) ⟨g, k * 3, none⟩ (n - k) _ N3 rfl HL10.out HCEL.out HONE.out (by unfold maxLen; omega) (by omega) (by simp) ?_)
          intro v6 w6 own6 hgrow6 hnn6
          have hb56 : Below w5.heap.size w5 w6 := ((Below.refl _ _).alloc (Nat.le_refl _) _).grown hgrow6 (by simp) (fun j hj => by simp [Value.ownBlock] at hj; omega)
          have hv6 : v6 ≠ .slice none 0 0 := by first | exact hnn6 | exact fun e => absurd (hnn6.1 e).1 (by simp)
          replace own6 : w6.ownsRow w5.heap.size 44 3 v6 (n - k) (hvP (P.drop k)) := by
            rw [HDR.out]; first | exact own6 | (rw [Nat.zero_add] at own6; exact own6) | (rw [List.nil_append, Nat.zero_add] at own6; exact own6)
          rcases own6.2 with ⟨e, _⟩ | ⟨g6, c6, cur6, e, _⟩
          · exact absurd e hv6
          subst e
          have HO6 : Hid (w6.ownsRow w5.heap.size 44 3 (.slice (some ⟨g6, 0, none⟩) (n - k) c6) (n - k) (hvP (P.drop k))) := own6
          have HOW6 : Hid (w6.ownsRow W.heap.size 44 3 (.slice (some ⟨g, 0, none⟩) n c3) n (hvP P)) := own_below (own_below HOW.out H35.out) hb56
          have hx6 := chain hx5 hb56
          have hq6 : w2.heap.size < w6.heap.size := Nat.lt_of_lt_of_le q03 hb56.size
          have r0 : w6.cell? ⟨w2.heap.size, 0, none⟩ = some (.string nm) := by rw [hb56.cell (p := ⟨w2.heap.size, 0, none⟩) q03]; exact q0
          have r1 : w6.cell? ⟨w2.heap.size, 1, none⟩ = some (.slice (some ⟨gt, 0, none⟩) nc ct) := by rw [hb56.cell (p := ⟨w2.heap.size, 1, none⟩) q03]; exact q01
          have r2 : w6.cell? ⟨w2.heap.size, 2, none⟩ = some (.slice none 0 0) := by rw [hb56.cell (p := ⟨w2.heap.size, 2, none⟩) q03]; exact q02
          have HPT6 : Hid (∀ p, p ∈ P.take k ++ [(t, (⟨some ⟨gt, 0, none⟩, ct, none, 0, fun _ => none, fun _ => 0⟩ : TAd))] ++ P.drop k → TabAt w6 p.2.ca p.2.cc p.2.ra p.1) := by
            have : ∀ p, p ∈ P.take k ++ [(t, (⟨some ⟨gt, 0, none⟩, ct, none, 0, fun _ => none, fun _ => 0⟩ : TAd))] ++ P.drop k → TabAt w6 p.2.ca p.2.cc p.2.ra p.1 := by
              intro p hp
              rcases List.mem_append.1 hp with hp | hp
              · rcases List.mem_append.1 hp with hp | hp
                · exact ((HPT.out p (List.mem_of_mem_take hp)).below H35.out).below hb56
                · rw [List.mem_singleton] at hp; subst hp; exact (HTA3.out.below H35.out).below hb56
              · exact ((HPT.out p (List.mem_of_mem_drop hp)).below H35.out).below hb56
            exact this
          clear own6 hgrow6 hnn6 hv6 hb56 q0 q01 q02
          have hD6 : Below w6.heap.size w6 w6.drew := (Below.refl _ _).drew
          go_wp2_with fail
          refine wp_region_held_drew (S := (fun w' => w'.cell? ⟨w2.heap.size, 0, none⟩ = some (.string nm) ∧ w'.cell? ⟨w2.heap.size, 1, none⟩ = some (.slice (some ⟨gt, 0, none⟩) nc ct) ∧ w'.cell? ⟨w2.heap.size, 2, none⟩ = some (.slice none 0 0))) (by kernel_rfl) ?_ (fun hHeld => ?_)
          · exact ⟨(hD6.cell (p := ⟨w2.heap.size, 0, none⟩) hq6).trans r0, (hD6.cell (p := ⟨w2.heap.size, 1, none⟩) hq6).trans r1, (hD6.cell (p := ⟨w2.heap.size, 2, none⟩) hq6).trans r2⟩
          refine wpAnyH_take (i := 1) (by simp only [List.getElem?_toArray, List.getElem?_cons_zero, List.getElem?_cons_succ]; rfl) (by kernel_rfl) (by kernel_rfl) (by kernel_rfl) (by intro _ _ _ h; exact h) (Or.inl ⟨by rfl, fun w hSw => by (dsimp only at hSw; go_simp; (try with_reducible rfl))⟩) (by assumption) ?_
          simp only [Act.put, List.setIfInBounds_toArray, List.set_cons_zero, List.set_cons_succ]
          refine wpAnyH_take (i := 2) (by simp only [List.getElem?_toArray, List.getElem?_cons_zero, List.getElem?_cons_succ]; rfl) (by kernel_rfl) (by kernel_rfl) (by kernel_rfl) (by intro _ _ _ h; exact h) (Or.inl ⟨by rfl, fun w hSw => by (dsimp only at hSw; go_simp; (try with_reducible rfl))⟩) (by assumption) ?_
          simp only [Act.put, List.setIfInBounds_toArray, List.set_cons_zero, List.set_cons_succ]
          refine wpAnyH_take (i := 3) (by simp only [List.getElem?_toArray, List.getElem?_cons_zero, List.getElem?_cons_succ]; rfl) (by kernel_rfl) (by kernel_rfl) (by kernel_rfl) (by intro _ _ _ h; exact h) (Or.inl ⟨by rfl, fun w hSw => by (dsimp only at hSw; go_simp; (try with_reducible rfl))⟩) (by assumption) ?_
          simp only [Act.put, List.setIfInBounds_toArray, List.set_cons_zero, List.set_cons_succ]
          refine wpAnyH_take (i := 5) (by simp only [List.getElem?_toArray, List.getElem?_cons_zero, List.getElem?_cons_succ]; rfl) (by kernel_rfl) (by kernel_rfl) (by kernel_rfl) (by intro _ _ _ h; exact h) (Or.inl ⟨by rfl, fun w hSw => by (dsimp only at hSw; go_simp; (try with_reducible rfl))⟩) (by assumption) ?_
          simp only [Act.put, List.setIfInBounds_toArray, List.set_cons_zero, List.set_cons_succ]
          refine wpAnyH_take (i := 8) (by simp only [List.getElem?_toArray, List.getElem?_cons_zero, List.getElem?_cons_succ]; rfl) (by kernel_rfl) (by kernel_rfl) (by kernel_rfl) (by intro _ _ _ h; exact h) (Or.inl ⟨by rfl, fun w hSw => by (dsimp only at hSw; go_simp; (try with_reducible rfl))⟩) (by assumption) ?_
          simp only [Act.put, List.setIfInBounds_toArray, List.set_cons_zero, List.set_cons_succ]
          refine wpAnyH_ready (rs := [0, 6]) (by kernel_rfl) (by simp) ?_
          refine AllReadyH.cons (by simp only [List.getElem?_toArray, List.getElem?_cons_zero]; rfl) ?_ (AllReadyH.cons (by simp only [List.getElem?_toArray, List.getElem?_cons_zero, List.getElem?_cons_succ]; rfl) ?_ AllReadyH.nil)
          · intro K hK
            go_simp
            have hE : Below w6.heap.size w6 (w6.alloc (.cells #[] 44)).drew := ((Below.refl w6.heap.size w6).alloc (by first | exact Nat.le_refl _ | (simp; done) | (simp; omega)) (.cells #[] 44)).drew
            refine hK.out _ _ ?_ (fun hHeld => ?_)
            · exact ⟨(hE.cell (p := ⟨w2.heap.size, 0, none⟩) hq6).trans r0, (hE.cell (p := ⟨w2.heap.size, 1, none⟩) hq6).trans r1, (hE.cell (p := ⟨w2.heap.size, 2, none⟩) hq6).trans r2⟩
            clear hK K
            try simp only [Act.put, List.setIfInBounds_toArray, List.set_cons_zero, List.set_cons_succ]
            refine wpAnyH_ready (rs := [4, 6]) (by kernel_rfl) (by simp) ?_
            refine AllReadyH.cons (by simp only [List.getElem?_toArray, List.getElem?_cons_zero, List.getElem?_cons_succ]; rfl) ?_ (AllReadyH.cons (by simp only [List.getElem?_toArray, List.getElem?_cons_zero, List.getElem?_cons_succ]; rfl) ?_ AllReadyH.nil)
            · as_aux_lemma =>
              intro K hK
              rw [if_pos (by rfl)]
              refine app_tabsG (B := w6.heap.size) _ _ rfl hE.size (.slice (some ⟨w6.heap.size, 0, none⟩) 0 0) 0 [] rfl (own_emptyT w6 w6.heap.size (Nat.le_refl _)) ⟨g, 0, none⟩ k _ (P.take k) rfl (by rw [List.length_take, HPL.out]; omega) (src_take HOW6.out hE k) (by omega) ?_
              intro v4 wA ownA hbA0 hgA _
              have hbA : Below w6.heap.size w6 wA := hE.trans hbA0
              rw [Nat.zero_add, List.nil_append] at ownA
              refine hK.out _ _ ?_ (fun hHeld => ?_)
              · exact ⟨(hbA.cell (p := ⟨w2.heap.size, 0, none⟩) hq6).trans r0, (hbA.cell (p := ⟨w2.heap.size, 1, none⟩) hq6).trans r1, (hbA.cell (p := ⟨w2.heap.size, 2, none⟩) hq6).trans r2⟩
              clear hK K
              try simp only [Act.put, List.setIfInBounds_toArray, List.set_cons_zero, List.set_cons_succ]
              refine wpAnyH_ready (rs := [6]) (by kernel_rfl) (by simp) ?_
              refine AllReadyH.cons (by simp only [List.getElem?_toArray, List.getElem?_cons_zero, List.getElem?_cons_succ]; rfl) ?_ AllReadyH.nil
              intro K hK
              go_simp
              have hbA' : Below w6.heap.size w6 (wA.alloc (.cells #[.string nm, .slice (some ⟨gt, 0, none⟩) nc ct, .slice none 0 0] 44)) := hbA.alloc hbA.size _
              refine hK.out _ _ ?_ (fun hHeld => ?_)
              · exact ⟨(hbA'.cell (p := ⟨w2.heap.size, 0, none⟩) hq6).trans r0, (hbA'.cell (p := ⟨w2.heap.size, 1, none⟩) hq6).trans r1, (hbA'.cell (p := ⟨w2.heap.size, 2, none⟩) hq6).trans r2⟩
              clear hK K
              try simp only [Act.put, List.setIfInBounds_toArray, List.set_cons_zero, List.set_cons_succ]
              refine wpAnyH_ready (rs := [7]) (by kernel_rfl) (by simp) ?_
              refine AllReadyH.cons (by simp only [List.getElem?_toArray, List.getElem?_cons_zero, List.getElem?_cons_succ]; rfl) ?_ AllReadyH.nil
              intro K hK
              rw [if_pos (by rfl)]
              refine app_tabsG (B := w6.heap.size) _ _ rfl hbA'.size v4 k (P.take k) rfl (ownA.alloc _) ⟨wA.heap.size, 0, none⟩ 1 _ [(t, ⟨some ⟨gt, 0, none⟩, ct, none, 0, fun _ => none, fun _ => 0⟩)] rfl rfl ?_ (by omega) ?_
              · intro j u hu
                rw [show hvP [(t, (⟨some ⟨gt, 0, none⟩, ct, none, 0, fun _ => none, fun _ => 0⟩ : TAd))] = [.string nm, .slice (some ⟨gt, 0, none⟩) nc ct, .slice none 0 0] by simp [hvP, headV, HNM.out, HNC.out, HNR.out]] at hu
                match j, hu with
                | 0, hu => simp at hu; subst hu; simp [Addr.add]
                | 1, hu => simp at hu; subst hu; simp [Addr.add]
                | 2, hu => simp at hu; subst hu; simp [Addr.add]
              intro v7 wB ownB hbB0 _ hnB
              have hbB : Below w6.heap.size w6 wB := hbA'.trans hbB0
              clear hbB0
              refine hK.out _ _ ?_ (fun hHeld => ?_)
              · exact ⟨(hbB.cell (p := ⟨w2.heap.size, 0, none⟩) hq6).trans r0, (hbB.cell (p := ⟨w2.heap.size, 1, none⟩) hq6).trans r1, (hbB.cell (p := ⟨w2.heap.size, 2, none⟩) hq6).trans r2⟩
              clear hK K
              try simp only [Act.put, List.setIfInBounds_toArray, List.set_cons_zero, List.set_cons_succ]
              refine wpAnyH_ready (rs := [9]) (by kernel_rfl) (by simp) ?_
              refine AllReadyH.cons (by simp only [List.getElem?_toArray, List.getElem?_cons_zero, List.getElem?_cons_succ]; rfl) ?_ AllReadyH.nil
              intro K hK
              rw [if_pos (by rfl)]
              refine app_tabsG (B := w6.heap.size) _ _ rfl hbB.size v7 (k + 1) _ rfl ownB ⟨g6, 0, none⟩ _ _ (P.drop k) rfl (by rw [List.length_drop, HPL.out]; first | done | omega | simp) (src_all HO6.out hbB) (by omega) ?_
              intro v9 wC ownC hbC0 _ _
              have hbC : Below w6.heap.size w6 wC := hbB.trans hbC0
              clear hbC0
              obtain ⟨a9, c9, hv9, hT9, _⟩ := row_tabs ownC (by rw [List.length_append, List.length_append, List.length_take, List.length_drop, HPL.out]; first | (simp; done) | (simp; omega)) (fun p hp => (HPT6.out p hp).below hbC)
              subst hv9
              have FIN : Hid (PairAt w V true (.returned (.tuple #[.slice a9 (k + 1 + (n - k)) c9, .bool true])) wC) := by
                refine ⟨a9, _, c9, ?_, rfl, ?_, chain hx6 hbC⟩
                · rw [HINS.out, List.length_append, List.length_cons, List.length_take, List.length_drop, HN.out]; omega
                · rw [HINS.out, ← HPF.out, ← List.map_take, ← List.map_drop]; simpa using hT9
              refine hK.out _ _ ?_ (fun hHeld => ?_)
              · exact ⟨(hbC.cell (p := ⟨w2.heap.size, 0, none⟩) hq6).trans r0, (hbC.cell (p := ⟨w2.heap.size, 1, none⟩) hq6).trans r1, (hbC.cell (p := ⟨w2.heap.size, 2, none⟩) hq6).trans r2⟩
              clear hK K
              try simp only [Act.put, List.setIfInBounds_toArray, List.set_cons_zero, List.set_cons_succ]
              refine wpAnyH_take (i := 10) (by simp only [List.getElem?_toArray, List.getElem?_cons_zero, List.getElem?_cons_succ]; rfl) (by kernel_rfl) (by kernel_rfl) (by kernel_rfl) (by intro _ _ _ h; exact h) (Or.inl ⟨by rfl, fun w hSw => by (dsimp only at hSw; go_simp; (try with_reducible rfl))⟩) (by assumption) ?_
              simp only [Act.put, List.setIfInBounds_toArray, List.set_cons_zero, List.set_cons_succ]
              refine wpAnyH_take (i := 11) (by simp only [List.getElem?_toArray, List.getElem?_cons_zero, List.getElem?_cons_succ]; rfl) (by kernel_rfl) (by kernel_rfl) (by kernel_rfl) (by intro _ _ _ h; exact h) (Or.inl ⟨by rfl, fun w hSw => by (dsimp only at hSw; go_simp; (try with_reducible rfl))⟩) (by assumption) ?_
              simp only [Act.put, List.setIfInBounds_toArray, List.set_cons_zero, List.set_cons_succ]
              refine wpAnyH_done (by kernel_rfl) ?_ _
              clear ownA ownB ownC hbA hbB hbC hT9
              go_wp2
              exact bodyPost_ret (v := .tuple #[.slice a9 (k + 1 + (n - k)) c9, .bool true]) (by simp [results, Tryz.results7, go_sem]) rfl FIN.out
            · as_aux_lemma =>
              intro K hK
              go_simp
              have hF : Below w6.heap.size w6 ((w6.alloc (.cells #[] 44)).alloc (.cells #[.string nm, .slice (some ⟨gt, 0, none⟩) nc ct, .slice none 0 0] 44)).drew := (((Below.refl w6.heap.size w6).alloc (by first | exact Nat.le_refl _ | (simp; done) | (simp; omega)) (.cells #[] 44)).alloc (by first | exact Nat.le_refl _ | (simp; done) | (simp; omega)) (.cells #[.string nm, .slice (some ⟨gt, 0, none⟩) nc ct, .slice none 0 0] 44)).drew
              refine hK.out _ _ ?_ (fun hHeld => ?_)
              · exact ⟨(hF.cell (p := ⟨w2.heap.size, 0, none⟩) hq6).trans r0, (hF.cell (p := ⟨w2.heap.size, 1, none⟩) hq6).trans r1, (hF.cell (p := ⟨w2.heap.size, 2, none⟩) hq6).trans r2⟩
              clear hK K
              try simp only [Act.put, List.setIfInBounds_toArray, List.set_cons_zero, List.set_cons_succ]
              refine wpAnyH_ready (rs := [4]) (by kernel_rfl) (by simp) ?_
              refine AllReadyH.cons (by simp only [List.getElem?_toArray, List.getElem?_cons_zero, List.getElem?_cons_succ]; rfl) ?_ AllReadyH.nil
              intro K hK
              rw [if_pos (by rfl)]
              refine app_tabsG (B := w6.heap.size) _ _ rfl hF.size (.slice (some ⟨w6.heap.size, 0, none⟩) 0 0) 0 [] rfl ((own_emptyT w6 w6.heap.size (Nat.le_refl _)).alloc _) ⟨g, 0, none⟩ k _ (P.take k) rfl (by rw [List.length_take, HPL.out]; omega) (src_take HOW6.out hF k) (by omega) ?_
              intro v4 wA ownA hbA0 hgA _
              have hbA : Below w6.heap.size w6 wA := hF.trans hbA0
              rw [Nat.zero_add, List.nil_append] at ownA
              have hFE : some (w6.heap.size + 1) ≠ (Value.slice (some ⟨w6.heap.size, 0, none⟩) 0 0).ownBlock := by simp [Value.ownBlock]
              have x0 : wA.cell? ⟨(w6.heap.size + 1), 0, none⟩ = some (.string nm) := (World.cell?_of_block (w := ((w6.alloc (.cells #[] 44)).alloc (.cells #[.string nm, .slice (some ⟨gt, 0, none⟩) nc ct, .slice none 0 0] 44)).drew) (hgA.block (w6.heap.size + 1) (by first | (simp; done) | (simp; omega)) hFE)).trans (by simp)
              have x1 : wA.cell? ⟨(w6.heap.size + 1), 1, none⟩ = some (.slice (some ⟨gt, 0, none⟩) nc ct) := (World.cell?_of_block (w := ((w6.alloc (.cells #[] 44)).alloc (.cells #[.string nm, .slice (some ⟨gt, 0, none⟩) nc ct, .slice none 0 0] 44)).drew) (hgA.block (w6.heap.size + 1) (by first | (simp; done) | (simp; omega)) hFE)).trans (by simp)
              have x2 : wA.cell? ⟨(w6.heap.size + 1), 2, none⟩ = some (.slice none 0 0) := (World.cell?_of_block (w := ((w6.alloc (.cells #[] 44)).alloc (.cells #[.string nm, .slice (some ⟨gt, 0, none⟩) nc ct, .slice none 0 0] 44)).drew) (hgA.block (w6.heap.size + 1) (by first | (simp; done) | (simp; omega)) hFE)).trans (by simp)
              refine hK.out _ _ ?_ (fun hHeld => ?_)
              · exact ⟨(hbA.cell (p := ⟨w2.heap.size, 0, none⟩) hq6).trans r0, (hbA.cell (p := ⟨w2.heap.size, 1, none⟩) hq6).trans r1, (hbA.cell (p := ⟨w2.heap.size, 2, none⟩) hq6).trans r2⟩
              clear hK K
              try simp only [Act.put, List.setIfInBounds_toArray, List.set_cons_zero, List.set_cons_succ]
              refine wpAnyH_ready (rs := [7]) (by kernel_rfl) (by simp) ?_
              refine AllReadyH.cons (by simp only [List.getElem?_toArray, List.getElem?_cons_zero, List.getElem?_cons_succ]; rfl) ?_ AllReadyH.nil
              intro K hK
              rw [if_pos (by rfl)]
              refine app_tabsG (B := w6.heap.size) _ _ rfl hbA.size v4 k (P.take k) rfl ownA ⟨w6.heap.size + 1, 0, none⟩ 1 _ [(t, ⟨some ⟨gt, 0, none⟩, ct, none, 0, fun _ => none, fun _ => 0⟩)] rfl rfl ?_ (by omega) ?_
              · intro j u hu
                rw [show hvP [(t, (⟨some ⟨gt, 0, none⟩, ct, none, 0, fun _ => none, fun _ => 0⟩ : TAd))] = [.string nm, .slice (some ⟨gt, 0, none⟩) nc ct, .slice none 0 0] by simp [hvP, headV, HNM.out, HNC.out, HNR.out]] at hu
                match j, hu with
                | 0, hu => simp at hu; subst hu; rw [addr_add]; exact x0
                | 1, hu => simp at hu; subst hu; rw [addr_add]; exact x1
                | 2, hu => simp at hu; subst hu; rw [addr_add]; exact x2
              intro v7 wB ownB hbB0 _ hnB
              have hbB : Below w6.heap.size w6 wB := hbA.trans hbB0
              clear hbB0
              refine hK.out _ _ ?_ (fun hHeld => ?_)
              · exact ⟨(hbB.cell (p := ⟨w2.heap.size, 0, none⟩) hq6).trans r0, (hbB.cell (p := ⟨w2.heap.size, 1, none⟩) hq6).trans r1, (hbB.cell (p := ⟨w2.heap.size, 2, none⟩) hq6).trans r2⟩
              clear hK K
              try simp only [Act.put, List.setIfInBounds_toArray, List.set_cons_zero, List.set_cons_succ]
              refine wpAnyH_ready (rs := [9]) (by kernel_rfl) (by simp) ?_
              refine AllReadyH.cons (by simp only [List.getElem?_toArray, List.getElem?_cons_zero, List.getElem?_cons_succ]; rfl) ?_ AllReadyH.nil
              intro K hK
              rw [if_pos (by rfl)]
              refine app_tabsG (B := w6.heap.size) _ _ rfl hbB.size v7 (k + 1) _ rfl ownB ⟨g6, 0, none⟩ _ _ (P.drop k) rfl (by rw [List.length_drop, HPL.out]; first | done | omega | simp) (src_all HO6.out hbB) (by omega) ?_
              intro v9 wC ownC hbC0 _ _
              have hbC : Below w6.heap.size w6 wC := hbB.trans hbC0
              clear hbC0
              obtain ⟨a9, c9, hv9, hT9, _⟩ := row_tabs ownC (by rw [List.length_append, List.length_append, List.length_take, List.length_drop, HPL.out]; first | (simp; done) | (simp; omega)) (fun p hp => (HPT6.out p hp).below hbC)
              subst hv9
              have FIN : Hid (PairAt w V true (.returned (.tuple #[.slice a9 (k + 1 + (n - k)) c9, .bool true])) wC) := by
                refine ⟨a9, _, c9, ?_, rfl, ?_, chain hx6 hbC⟩
                · rw [HINS.out, List.length_append, List.length_cons, List.length_take, List.length_drop, HN.out]; omega
                · rw [HINS.out, ← HPF.out, ← List.map_take, ← List.map_drop]; simpa using hT9
              refine hK.out _ _ ?_ (fun hHeld => ?_)
              · exact ⟨(hbC.cell (p := ⟨w2.heap.size, 0, none⟩) hq6).trans r0, (hbC.cell (p := ⟨w2.heap.size, 1, none⟩) hq6).trans r1, (hbC.cell (p := ⟨w2.heap.size, 2, none⟩) hq6).trans r2⟩
              clear hK K
              try simp only [Act.put, List.setIfInBounds_toArray, List.set_cons_zero, List.set_cons_succ]
              refine wpAnyH_take (i := 10) (by simp only [List.getElem?_toArray, List.getElem?_cons_zero, List.getElem?_cons_succ]; rfl) (by kernel_rfl) (by kernel_rfl) (by kernel_rfl) (by intro _ _ _ h; exact h) (Or.inl ⟨by rfl, fun w hSw => by (dsimp only at hSw; go_simp; (try with_reducible rfl))⟩) (by assumption) ?_
              simp only [Act.put, List.setIfInBounds_toArray, List.set_cons_zero, List.set_cons_succ]
              refine wpAnyH_take (i := 11) (by simp only [List.getElem?_toArray, List.getElem?_cons_zero, List.getElem?_cons_succ]; rfl) (by kernel_rfl) (by kernel_rfl) (by kernel_rfl) (by intro _ _ _ h; exact h) (Or.inl ⟨by rfl, fun w hSw => by (dsimp only at hSw; go_simp; (try with_reducible rfl))⟩) (by assumption) ?_
              simp only [Act.put, List.setIfInBounds_toArray, List.set_cons_zero, List.set_cons_succ]
              refine wpAnyH_done (by kernel_rfl) ?_ _
              clear ownA ownB ownC hbA hbB hbC hT9
              go_wp2
              exact bodyPost_ret (v := .tuple #[.slice a9 (k + 1 + (n - k)) c9, .bool true]) (by simp [results, Tryz.results7, go_sem]) rfl FIN.out
          · as_aux_lemma =>
            intro K hK
            go_simp
            have hF : Below w6.heap.size w6 (w6.alloc (.cells #[.string nm, .slice (some ⟨gt, 0, none⟩) nc ct, .slice none 0 0] 44)).drew := ((Below.refl w6.heap.size w6).alloc (by first | exact Nat.le_refl _ | (simp; done) | (simp; omega)) (.cells #[.string nm, .slice (some ⟨gt, 0, none⟩) nc ct, .slice none 0 0] 44)).drew
            refine hK.out _ _ ?_ (fun hHeld => ?_)
            · exact ⟨(hF.cell (p := ⟨w2.heap.size, 0, none⟩) hq6).trans r0, (hF.cell (p := ⟨w2.heap.size, 1, none⟩) hq6).trans r1, (hF.cell (p := ⟨w2.heap.size, 2, none⟩) hq6).trans r2⟩
            clear hK K
            try simp only [Act.put, List.setIfInBounds_toArray, List.set_cons_zero, List.set_cons_succ]
            refine wpAnyH_ready (rs := [0]) (by kernel_rfl) (by simp) ?_
            refine AllReadyH.cons (by simp only [List.getElem?_toArray, List.getElem?_cons_zero]; rfl) ?_ AllReadyH.nil
            intro K hK
            go_simp
            have hE : Below w6.heap.size w6 ((w6.alloc (.cells #[.string nm, .slice (some ⟨gt, 0, none⟩) nc ct, .slice none 0 0] 44)).alloc (.cells #[] 44)).drew := (((Below.refl w6.heap.size w6).alloc (by first | exact Nat.le_refl _ | (simp; done) | (simp; omega)) (.cells #[.string nm, .slice (some ⟨gt, 0, none⟩) nc ct, .slice none 0 0] 44)).alloc (by first | exact Nat.le_refl _ | (simp; done) | (simp; omega)) (.cells #[] 44)).drew
            refine hK.out _ _ ?_ (fun hHeld => ?_)
            · exact ⟨(hE.cell (p := ⟨w2.heap.size, 0, none⟩) hq6).trans r0, (hE.cell (p := ⟨w2.heap.size, 1, none⟩) hq6).trans r1, (hE.cell (p := ⟨w2.heap.size, 2, none⟩) hq6).trans r2⟩
            clear hK K
            try simp only [Act.put, List.setIfInBounds_toArray, List.set_cons_zero, List.set_cons_succ]
            refine wpAnyH_ready (rs := [4]) (by kernel_rfl) (by simp) ?_
            refine AllReadyH.cons (by simp only [List.getElem?_toArray, List.getElem?_cons_zero, List.getElem?_cons_succ]; rfl) ?_ AllReadyH.nil
            intro K hK
            rw [if_pos (by rfl)]
            refine app_tabsG (B := w6.heap.size) _ _ rfl hE.size (.slice (some ⟨(w6.heap.size + 1), 0, none⟩) 0 0) 0 [] rfl (own_emptyT2 w6 _ w6.heap.size) ⟨g, 0, none⟩ k _ (P.take k) rfl (by rw [List.length_take, HPL.out]; omega) (src_take HOW6.out hE k) (by omega) ?_
            intro v4 wA ownA hbA0 hgA _
            have hbA : Below w6.heap.size w6 wA := hE.trans hbA0
            rw [Nat.zero_add, List.nil_append] at ownA
            have hFE : some w6.heap.size ≠ (Value.slice (some ⟨(w6.heap.size + 1), 0, none⟩) 0 0).ownBlock := by simp [Value.ownBlock]
            have x0 : wA.cell? ⟨w6.heap.size, 0, none⟩ = some (.string nm) := (World.cell?_of_block (w := ((w6.alloc (.cells #[.string nm, .slice (some ⟨gt, 0, none⟩) nc ct, .slice none 0 0] 44)).alloc (.cells #[] 44)).drew) (hgA.block w6.heap.size (by first | (simp; done) | (simp; omega)) hFE)).trans ((((Below.refl _ _).alloc (Nat.le_refl _) (.cells #[] 44)).cell (w := w6.alloc (.cells #[.string nm, .slice (some ⟨gt, 0, none⟩) nc ct, .slice none 0 0] 44)) (p := ⟨w6.heap.size, 0, none⟩) (by simp)).trans (by simp))
            have x1 : wA.cell? ⟨w6.heap.size, 1, none⟩ = some (.slice (some ⟨gt, 0, none⟩) nc ct) := (World.cell?_of_block (w := ((w6.alloc (.cells #[.string nm, .slice (some ⟨gt, 0, none⟩) nc ct, .slice none 0 0] 44)).alloc (.cells #[] 44)).drew) (hgA.block w6.heap.size (by first | (simp; done) | (simp; omega)) hFE)).trans ((((Below.refl _ _).alloc (Nat.le_refl _) (.cells #[] 44)).cell (w := w6.alloc (.cells #[.string nm, .slice (some ⟨gt, 0, none⟩) nc ct, .slice none 0 0] 44)) (p := ⟨w6.heap.size, 1, none⟩) (by simp)).trans (by simp))
            have x2 : wA.cell? ⟨w6.heap.size, 2, none⟩ = some (.slice none 0 0) := (World.cell?_of_block (w := ((w6.alloc (.cells #[.string nm, .slice (some ⟨gt, 0, none⟩) nc ct, .slice none 0 0] 44)).alloc (.cells #[] 44)).drew) (hgA.block w6.heap.size (by first | (simp; done) | (simp; omega)) hFE)).trans ((((Below.refl _ _).alloc (Nat.le_refl _) (.cells #[] 44)).cell (w := w6.alloc (.cells #[.string nm, .slice (some ⟨gt, 0, none⟩) nc ct, .slice none 0 0] 44)) (p := ⟨w6.heap.size, 2, none⟩) (by simp)).trans (by simp))
            refine hK.out _ _ ?_ (fun hHeld => ?_)
            · exact ⟨(hbA.cell (p := ⟨w2.heap.size, 0, none⟩) hq6).trans r0, (hbA.cell (p := ⟨w2.heap.size, 1, none⟩) hq6).trans r1, (hbA.cell (p := ⟨w2.heap.size, 2, none⟩) hq6).trans r2⟩
            clear hK K
            try simp only [Act.put, List.setIfInBounds_toArray, List.set_cons_zero, List.set_cons_succ]
            refine wpAnyH_ready (rs := [7]) (by kernel_rfl) (by simp) ?_
            refine AllReadyH.cons (by simp only [List.getElem?_toArray, List.getElem?_cons_zero, List.getElem?_cons_succ]; rfl) ?_ AllReadyH.nil
            intro K hK
            rw [if_pos (by rfl)]
            refine app_tabsG (B := w6.heap.size) _ _ rfl hbA.size v4 k (P.take k) rfl ownA ⟨w6.heap.size, 0, none⟩ 1 _ [(t, ⟨some ⟨gt, 0, none⟩, ct, none, 0, fun _ => none, fun _ => 0⟩)] rfl rfl ?_ (by omega) ?_
            · intro j u hu
              rw [show hvP [(t, (⟨some ⟨gt, 0, none⟩, ct, none, 0, fun _ => none, fun _ => 0⟩ : TAd))] = [.string nm, .slice (some ⟨gt, 0, none⟩) nc ct, .slice none 0 0] by simp [hvP, headV, HNM.out, HNC.out, HNR.out]] at hu
              match j, hu with
              | 0, hu => simp at hu; subst hu; rw [addr_add]; exact x0
              | 1, hu => simp at hu; subst hu; rw [addr_add]; exact x1
              | 2, hu => simp at hu; subst hu; rw [addr_add]; exact x2
            intro v7 wB ownB hbB0 _ hnB
            have hbB : Below w6.heap.size w6 wB := hbA.trans hbB0
            clear hbB0
            refine hK.out _ _ ?_ (fun hHeld => ?_)
            · exact ⟨(hbB.cell (p := ⟨w2.heap.size, 0, none⟩) hq6).trans r0, (hbB.cell (p := ⟨w2.heap.size, 1, none⟩) hq6).trans r1, (hbB.cell (p := ⟨w2.heap.size, 2, none⟩) hq6).trans r2⟩
            clear hK K
            try simp only [Act.put, List.setIfInBounds_toArray, List.set_cons_zero, List.set_cons_succ]
            refine wpAnyH_ready (rs := [9]) (by kernel_rfl) (by simp) ?_
            refine AllReadyH.cons (by simp only [List.getElem?_toArray, List.getElem?_cons_zero, List.getElem?_cons_succ]; rfl) ?_ AllReadyH.nil
            intro K hK
            rw [if_pos (by rfl)]
            refine app_tabsG (B := w6.heap.size) _ _ rfl hbB.size v7 (k + 1) _ rfl ownB ⟨g6, 0, none⟩ _ _ (P.drop k) rfl (by rw [List.length_drop, HPL.out]; first | done | omega | simp) (src_all HO6.out hbB) (by omega) ?_
            intro v9 wC ownC hbC0 _ _
            have hbC : Below w6.heap.size w6 wC := hbB.trans hbC0
            clear hbC0
            obtain ⟨a9, c9, hv9, hT9, _⟩ := row_tabs ownC (by rw [List.length_append, List.length_append, List.length_take, List.length_drop, HPL.out]; first | (simp; done) | (simp; omega)) (fun p hp => (HPT6.out p hp).below hbC)
            subst hv9
            have FIN : Hid (PairAt w V true (.returned (.tuple #[.slice a9 (k + 1 + (n - k)) c9, .bool true])) wC) := by
              refine ⟨a9, _, c9, ?_, rfl, ?_, chain hx6 hbC⟩
              · rw [HINS.out, List.length_append, List.length_cons, List.length_take, List.length_drop, HN.out]; omega
              · rw [HINS.out, ← HPF.out, ← List.map_take, ← List.map_drop]; simpa using hT9
            refine hK.out _ _ ?_ (fun hHeld => ?_)
            · exact ⟨(hbC.cell (p := ⟨w2.heap.size, 0, none⟩) hq6).trans r0, (hbC.cell (p := ⟨w2.heap.size, 1, none⟩) hq6).trans r1, (hbC.cell (p := ⟨w2.heap.size, 2, none⟩) hq6).trans r2⟩
            clear hK K
            try simp only [Act.put, List.setIfInBounds_toArray, List.set_cons_zero, List.set_cons_succ]
            refine wpAnyH_take (i := 10) (by simp only [List.getElem?_toArray, List.getElem?_cons_zero, List.getElem?_cons_succ]; rfl) (by kernel_rfl) (by kernel_rfl) (by kernel_rfl) (by intro _ _ _ h; exact h) (Or.inl ⟨by rfl, fun w hSw => by (dsimp only at hSw; go_simp; (try with_reducible rfl))⟩) (by assumption) ?_
            simp only [Act.put, List.setIfInBounds_toArray, List.set_cons_zero, List.set_cons_succ]
            refine wpAnyH_take (i := 11) (by simp only [List.getElem?_toArray, List.getElem?_cons_zero, List.getElem?_cons_succ]; rfl) (by kernel_rfl) (by kernel_rfl) (by kernel_rfl) (by intro _ _ _ h; exact h) (Or.inl ⟨by rfl, fun w hSw => by (dsimp only at hSw; go_simp; (try with_reducible rfl))⟩) (by assumption) ?_
            simp only [Act.put, List.setIfInBounds_toArray, List.set_cons_zero, List.set_cons_succ]
            refine wpAnyH_done (by kernel_rfl) ?_ _
            clear ownA ownB ownC hbA hbB hbC hT9
            go_wp2
            exact bodyPost_ret (v := .tuple #[.slice a9 (k + 1 + (n - k)) c9, .bool true]) (by simp [results, Tryz.results7, go_sem]) rfl FIN.out
      · have hkn : k = n := by have := HN.out; omega
        by_cases hcap : c3 = k
        · as_aux_lemma =>
            subst hkn
            have hnn : ¬ (k : Int) < (k : Int) := by omega
            have hd0 : P.drop k = [] := List.drop_of_length_le (by rw [HPL.out]; omega)
            have HDR : Hid (hvP (P.drop k) = []) := by rw [hd0]; exact rfl
            have HONE : Hid (∀ u : Value, u ∈ ([] : List Value) → u.oneCell' = true) := by
              have : ∀ u : Value, u ∈ ([] : List Value) → u.oneCell' = true := fun u hu => by cases hu
              exact this
            have HL10 : Hid (([] : List Value).length = 0 * 3) := rfl
            have HCEL : Hid (∀ (j : Nat) (u : Value), ([] : List Value)[j]? = some u → (w5.alloc (.cells #[] 44)).cell? ((⟨g, 0, none⟩ : Addr).add j) = some u) := by
              have : ∀ (j : Nat) (u : Value), ([] : List Value)[j]? = some u → (w5.alloc (.cells #[] 44)).cell? ((⟨g, 0, none⟩ : Addr).add j) = some u := fun j u hu => by simp at hu
              exact this
            clear hd0
            obtain rfl : k = c3 := hcap.symm
            go_wp2_with (at_builtin; refine wpList_append_own _ rfl _ _ 26 rfl w5.heap.size 44 i0 (.agg #[.string ⟨#[]⟩, .slice none 0 0, .slice none 0 0]) 3 64 Tryz.underlying26 hti hz0 hz1 hz2 rfl (by decide) _ _ _ rfl (own_emptyT w5 w5.heap.size (Nat.le_refl _)) ⟨g, 0, none⟩ 0 _ [] rfl HL10.out HCEL.out HONE.out (by unfold maxLen; omega) (by omega) (by simp) ?_)
            intro v6 w6 own6 hgrow6 hnn6
            have hb56 : Below w5.heap.size w5 w6 := ((Below.refl _ _).alloc (Nat.le_refl _) _).grown hgrow6 (by simp) (fun j hj => by simp [Value.ownBlock] at hj; omega)
            have hv6 : v6 ≠ .slice none 0 0 := by first | exact hnn6 | exact fun e => absurd (hnn6.1 e).1 (by simp)
            replace own6 : w6.ownsRow w5.heap.size 44 3 v6 0 (hvP (P.drop k)) := by
              rw [HDR.out]; first | exact own6 | (rw [Nat.zero_add] at own6; exact own6) | (rw [List.nil_append, Nat.zero_add] at own6; exact own6)
            rcases own6.2 with ⟨e, _⟩ | ⟨g6, c6, cur6, e, _⟩
            · exact absurd e hv6
            subst e
            have HO6 : Hid (w6.ownsRow w5.heap.size 44 3 (.slice (some ⟨g6, 0, none⟩) 0 c6) 0 (hvP (P.drop k))) := own6
            have HOW6 : Hid (w6.ownsRow W.heap.size 44 3 (.slice (some ⟨g, 0, none⟩) k k) k (hvP P)) := own_below (own_below HOW.out H35.out) hb56
            have hx6 := chain hx5 hb56
            have hq6 : w2.heap.size < w6.heap.size := Nat.lt_of_lt_of_le q03 hb56.size
            have r0 : w6.cell? ⟨w2.heap.size, 0, none⟩ = some (.string nm) := by rw [hb56.cell (p := ⟨w2.heap.size, 0, none⟩) q03]; exact q0
            have r1 : w6.cell? ⟨w2.heap.size, 1, none⟩ = some (.slice (some ⟨gt, 0, none⟩) nc ct) := by rw [hb56.cell (p := ⟨w2.heap.size, 1, none⟩) q03]; exact q01
            have r2 : w6.cell? ⟨w2.heap.size, 2, none⟩ = some (.slice none 0 0) := by rw [hb56.cell (p := ⟨w2.heap.size, 2, none⟩) q03]; exact q02
            have HPT6 : Hid (∀ p, p ∈ P.take k ++ [(t, (⟨some ⟨gt, 0, none⟩, ct, none, 0, fun _ => none, fun _ => 0⟩ : TAd))] ++ P.drop k → TabAt w6 p.2.ca p.2.cc p.2.ra p.1) := by
              have : ∀ p, p ∈ P.take k ++ [(t, (⟨some ⟨gt, 0, none⟩, ct, none, 0, fun _ => none, fun _ => 0⟩ : TAd))] ++ P.drop k → TabAt w6 p.2.ca p.2.cc p.2.ra p.1 := by
                intro p hp
                rcases List.mem_append.1 hp with hp | hp
                · rcases List.mem_append.1 hp with hp | hp
                  · exact ((HPT.out p (List.mem_of_mem_take hp)).below H35.out).below hb56
                  · rw [List.mem_singleton] at hp; subst hp; exact (HTA3.out.below H35.out).below hb56
                · exact ((HPT.out p (List.mem_of_mem_drop hp)).below H35.out).below hb56
              exact this
            clear own6 hgrow6 hnn6 hv6 hb56 q0 q01 q02
            have hD6 : Below w6.heap.size w6 w6.drew := (Below.refl _ _).drew
            go_wp2_with fail
            refine wp_region_held_drew (S := (fun w' => w'.cell? ⟨w2.heap.size, 0, none⟩ = some (.string nm) ∧ w'.cell? ⟨w2.heap.size, 1, none⟩ = some (.slice (some ⟨gt, 0, none⟩) nc ct) ∧ w'.cell? ⟨w2.heap.size, 2, none⟩ = some (.slice none 0 0))) (by kernel_rfl) ?_ (fun hHeld => ?_)
            · exact ⟨(hD6.cell (p := ⟨w2.heap.size, 0, none⟩) hq6).trans r0, (hD6.cell (p := ⟨w2.heap.size, 1, none⟩) hq6).trans r1, (hD6.cell (p := ⟨w2.heap.size, 2, none⟩) hq6).trans r2⟩
            refine wpAnyH_take (i := 1) (by simp only [List.getElem?_toArray, List.getElem?_cons_zero, List.getElem?_cons_succ]; rfl) (by kernel_rfl) (by kernel_rfl) (by kernel_rfl) (by intro _ _ _ h; exact h) (Or.inl ⟨by rfl, fun w hSw => by (dsimp only at hSw; go_simp; (try with_reducible rfl))⟩) (by assumption) ?_
            simp only [Act.put, List.setIfInBounds_toArray, List.set_cons_zero, List.set_cons_succ]
            refine wpAnyH_take (i := 2) (by simp only [List.getElem?_toArray, List.getElem?_cons_zero, List.getElem?_cons_succ]; rfl) (by kernel_rfl) (by kernel_rfl) (by kernel_rfl) (by intro _ _ _ h; exact h) (Or.inl ⟨by rfl, fun w hSw => by (dsimp only at hSw; go_simp; (try with_reducible rfl))⟩) (by assumption) ?_
            simp only [Act.put, List.setIfInBounds_toArray, List.set_cons_zero, List.set_cons_succ]
            refine wpAnyH_take (i := 3) (by simp only [List.getElem?_toArray, List.getElem?_cons_zero, List.getElem?_cons_succ]; rfl) (by kernel_rfl) (by kernel_rfl) (by kernel_rfl) (by intro _ _ _ h; exact h) (Or.inl ⟨by rfl, fun w hSw => by (dsimp only at hSw; go_simp; (try with_reducible rfl))⟩) (by assumption) ?_
            simp only [Act.put, List.setIfInBounds_toArray, List.set_cons_zero, List.set_cons_succ]
            refine wpAnyH_take (i := 5) (by simp only [List.getElem?_toArray, List.getElem?_cons_zero, List.getElem?_cons_succ]; rfl) (by kernel_rfl) (by kernel_rfl) (by kernel_rfl) (by intro _ _ _ h; exact h) (Or.inl ⟨by rfl, fun w hSw => by (dsimp only at hSw; go_simp; (try with_reducible rfl))⟩) (by assumption) ?_
            simp only [Act.put, List.setIfInBounds_toArray, List.set_cons_zero, List.set_cons_succ]
            refine wpAnyH_take (i := 8) (by simp only [List.getElem?_toArray, List.getElem?_cons_zero, List.getElem?_cons_succ]; rfl) (by kernel_rfl) (by kernel_rfl) (by kernel_rfl) (by intro _ _ _ h; exact h) (Or.inl ⟨by rfl, fun w hSw => by (dsimp only at hSw; go_simp; (try with_reducible rfl))⟩) (by assumption) ?_
            simp only [Act.put, List.setIfInBounds_toArray, List.set_cons_zero, List.set_cons_succ]
            refine wpAnyH_ready (rs := [0, 6]) (by kernel_rfl) (by simp) ?_
            refine AllReadyH.cons (by simp only [List.getElem?_toArray, List.getElem?_cons_zero]; rfl) ?_ (AllReadyH.cons (by simp only [List.getElem?_toArray, List.getElem?_cons_zero, List.getElem?_cons_succ]; rfl) ?_ AllReadyH.nil)
            · intro K hK
              go_simp
              have hE : Below w6.heap.size w6 (w6.alloc (.cells #[] 44)).drew := ((Below.refl w6.heap.size w6).alloc (by first | exact Nat.le_refl _ | (simp; done) | (simp; omega)) (.cells #[] 44)).drew
              refine hK.out _ _ ?_ (fun hHeld => ?_)
              · exact ⟨(hE.cell (p := ⟨w2.heap.size, 0, none⟩) hq6).trans r0, (hE.cell (p := ⟨w2.heap.size, 1, none⟩) hq6).trans r1, (hE.cell (p := ⟨w2.heap.size, 2, none⟩) hq6).trans r2⟩
              clear hK K
              try simp only [Act.put, List.setIfInBounds_toArray, List.set_cons_zero, List.set_cons_succ]
              refine wpAnyH_ready (rs := [4, 6]) (by kernel_rfl) (by simp) ?_
              refine AllReadyH.cons (by simp only [List.getElem?_toArray, List.getElem?_cons_zero, List.getElem?_cons_succ]; rfl) ?_ (AllReadyH.cons (by simp only [List.getElem?_toArray, List.getElem?_cons_zero, List.getElem?_cons_succ]; rfl) ?_ AllReadyH.nil)
              · as_aux_lemma =>
                intro K hK
                rw [if_pos (by rfl)]
                refine app_tabsG (B := w6.heap.size) _ _ rfl hE.size (.slice (some ⟨w6.heap.size, 0, none⟩) 0 0) 0 [] rfl (own_emptyT w6 w6.heap.size (Nat.le_refl _)) ⟨g, 0, none⟩ k _ (P.take k) rfl (by rw [List.length_take, HPL.out]; omega) (src_take HOW6.out hE k) (by omega) ?_
                intro v4 wA ownA hbA0 hgA _
                have hbA : Below w6.heap.size w6 wA := hE.trans hbA0
                rw [Nat.zero_add, List.nil_append] at ownA
                refine hK.out _ _ ?_ (fun hHeld => ?_)
                · exact ⟨(hbA.cell (p := ⟨w2.heap.size, 0, none⟩) hq6).trans r0, (hbA.cell (p := ⟨w2.heap.size, 1, none⟩) hq6).trans r1, (hbA.cell (p := ⟨w2.heap.size, 2, none⟩) hq6).trans r2⟩
                clear hK K
                try simp only [Act.put, List.setIfInBounds_toArray, List.set_cons_zero, List.set_cons_succ]
                refine wpAnyH_ready (rs := [6]) (by kernel_rfl) (by simp) ?_
                refine AllReadyH.cons (by simp only [List.getElem?_toArray, List.getElem?_cons_zero, List.getElem?_cons_succ]; rfl) ?_ AllReadyH.nil
                intro K hK
                go_simp
                have hbA' : Below w6.heap.size w6 (wA.alloc (.cells #[.string nm, .slice (some ⟨gt, 0, none⟩) nc ct, .slice none 0 0] 44)) := hbA.alloc hbA.size _
                refine hK.out _ _ ?_ (fun hHeld => ?_)
                · exact ⟨(hbA'.cell (p := ⟨w2.heap.size, 0, none⟩) hq6).trans r0, (hbA'.cell (p := ⟨w2.heap.size, 1, none⟩) hq6).trans r1, (hbA'.cell (p := ⟨w2.heap.size, 2, none⟩) hq6).trans r2⟩
                clear hK K
                try simp only [Act.put, List.setIfInBounds_toArray, List.set_cons_zero, List.set_cons_succ]
                refine wpAnyH_ready (rs := [7]) (by kernel_rfl) (by simp) ?_
                refine AllReadyH.cons (by simp only [List.getElem?_toArray, List.getElem?_cons_zero, List.getElem?_cons_succ]; rfl) ?_ AllReadyH.nil
                intro K hK
                rw [if_pos (by rfl)]
                refine app_tabsG (B := w6.heap.size) _ _ rfl hbA'.size v4 k (P.take k) rfl (ownA.alloc _) ⟨wA.heap.size, 0, none⟩ 1 _ [(t, ⟨some ⟨gt, 0, none⟩, ct, none, 0, fun _ => none, fun _ => 0⟩)] rfl rfl ?_ (by omega) ?_
                · intro j u hu
                  rw [show hvP [(t, (⟨some ⟨gt, 0, none⟩, ct, none, 0, fun _ => none, fun _ => 0⟩ : TAd))] = [.string nm, .slice (some ⟨gt, 0, none⟩) nc ct, .slice none 0 0] by simp [hvP, headV, HNM.out, HNC.out, HNR.out]] at hu
                  match j, hu with
                  | 0, hu => simp at hu; subst hu; simp [Addr.add]
                  | 1, hu => simp at hu; subst hu; simp [Addr.add]
                  | 2, hu => simp at hu; subst hu; simp [Addr.add]
                intro v7 wB ownB hbB0 _ hnB
                have hbB : Below w6.heap.size w6 wB := hbA'.trans hbB0
                clear hbB0
                refine hK.out _ _ ?_ (fun hHeld => ?_)
                · exact ⟨(hbB.cell (p := ⟨w2.heap.size, 0, none⟩) hq6).trans r0, (hbB.cell (p := ⟨w2.heap.size, 1, none⟩) hq6).trans r1, (hbB.cell (p := ⟨w2.heap.size, 2, none⟩) hq6).trans r2⟩
                clear hK K
                try simp only [Act.put, List.setIfInBounds_toArray, List.set_cons_zero, List.set_cons_succ]
                refine wpAnyH_ready (rs := [9]) (by kernel_rfl) (by simp) ?_
                refine AllReadyH.cons (by simp only [List.getElem?_toArray, List.getElem?_cons_zero, List.getElem?_cons_succ]; rfl) ?_ AllReadyH.nil
                intro K hK
                rw [if_pos (by rfl)]
                refine app_tabsG (B := w6.heap.size) _ _ rfl hbB.size v7 (k + 1) _ rfl ownB ⟨g6, 0, none⟩ _ _ (P.drop k) rfl (by rw [List.length_drop, HPL.out]; first | done | omega | simp) (src_all HO6.out hbB) (by omega) ?_
                intro v9 wC ownC hbC0 _ _
                have hbC : Below w6.heap.size w6 wC := hbB.trans hbC0
                clear hbC0
                obtain ⟨a9, c9, hv9, hT9, _⟩ := row_tabs ownC (by rw [List.length_append, List.length_append, List.length_take, List.length_drop, HPL.out]; first | (simp; done) | (simp; omega)) (fun p hp => (HPT6.out p hp).below hbC)
                subst hv9
                have FIN : Hid (PairAt w V true (.returned (.tuple #[.slice a9 (k + 1 + 0) c9, .bool true])) wC) := by
                  refine ⟨a9, _, c9, ?_, rfl, ?_, chain hx6 hbC⟩
                  · rw [HINS.out, List.length_append, List.length_cons, List.length_take, List.length_drop, HN.out]; omega
                  · rw [HINS.out, ← HPF.out, ← List.map_take, ← List.map_drop]; simpa using hT9
                refine hK.out _ _ ?_ (fun hHeld => ?_)
                · exact ⟨(hbC.cell (p := ⟨w2.heap.size, 0, none⟩) hq6).trans r0, (hbC.cell (p := ⟨w2.heap.size, 1, none⟩) hq6).trans r1, (hbC.cell (p := ⟨w2.heap.size, 2, none⟩) hq6).trans r2⟩
                clear hK K
                try simp only [Act.put, List.setIfInBounds_toArray, List.set_cons_zero, List.set_cons_succ]
                refine wpAnyH_take (i := 10) (by simp only [List.getElem?_toArray, List.getElem?_cons_zero, List.getElem?_cons_succ]; rfl) (by kernel_rfl) (by kernel_rfl) (by kernel_rfl) (by intro _ _ _ h; exact h) (Or.inl ⟨by rfl, fun w hSw => by (dsimp only at hSw; go_simp; (try with_reducible rfl))⟩) (by assumption) ?_
                simp only [Act.put, List.setIfInBounds_toArray, List.set_cons_zero, List.set_cons_succ]
                refine wpAnyH_take (i := 11) (by simp only [List.getElem?_toArray, List.getElem?_cons_zero, List.getElem?_cons_succ]; rfl) (by kernel_rfl) (by kernel_rfl) (by kernel_rfl) (by intro _ _ _ h; exact h) (Or.inl ⟨by rfl, fun w hSw => by (dsimp only at hSw; go_simp; (try with_reducible rfl))⟩) (by assumption) ?_
                simp only [Act.put, List.setIfInBounds_toArray, List.set_cons_zero, List.set_cons_succ]
                refine wpAnyH_done (by kernel_rfl) ?_ _
                clear ownA ownB ownC hbA hbB hbC hT9
                go_wp2
                exact bodyPost_ret (v := .tuple #[.slice a9 (k + 1 + 0) c9, .bool true]) (by simp [results, Tryz.results7, go_sem]) rfl FIN.out
              · as_aux_lemma =>
                intro K hK
                go_simp
                have hF : Below w6.heap.size w6 ((w6.alloc (.cells #[] 44)).alloc (.cells #[.string nm, .slice (some ⟨gt, 0, none⟩) nc ct, .slice none 0 0] 44)).drew := (((Below.refl w6.heap.size w6).alloc (by first | exact Nat.le_refl _ | (simp; done) | (simp; omega)) (.cells #[] 44)).alloc (by first | exact Nat.le_refl _ | (simp; done) | (simp; omega)) (.cells #[.string nm, .slice (some ⟨gt, 0, none⟩) nc ct, .slice none 0 0] 44)).drew
                refine hK.out _ _ ?_ (fun hHeld => ?_)
                · exact ⟨(hF.cell (p := ⟨w2.heap.size, 0, none⟩) hq6).trans r0, (hF.cell (p := ⟨w2.heap.size, 1, none⟩) hq6).trans r1, (hF.cell (p := ⟨w2.heap.size, 2, none⟩) hq6).trans r2⟩
                clear hK K
                try simp only [Act.put, List.setIfInBounds_toArray, List.set_cons_zero, List.set_cons_succ]
                refine wpAnyH_ready (rs := [4]) (by kernel_rfl) (by simp) ?_
                refine AllReadyH.cons (by simp only [List.getElem?_toArray, List.getElem?_cons_zero, List.getElem?_cons_succ]; rfl) ?_ AllReadyH.nil
                intro K hK
                rw [if_pos (by rfl)]
                refine app_tabsG (B := w6.heap.size) _ _ rfl hF.size (.slice (some ⟨w6.heap.size, 0, none⟩) 0 0) 0 [] rfl ((own_emptyT w6 w6.heap.size (Nat.le_refl _)).alloc _) ⟨g, 0, none⟩ k _ (P.take k) rfl (by rw [List.length_take, HPL.out]; omega) (src_take HOW6.out hF k) (by omega) ?_
                intro v4 wA ownA hbA0 hgA _
                have hbA : Below w6.heap.size w6 wA := hF.trans hbA0
                rw [Nat.zero_add, List.nil_append] at ownA
                have hFE : some (w6.heap.size + 1) ≠ (Value.slice (some ⟨w6.heap.size, 0, none⟩) 0 0).ownBlock := by simp [Value.ownBlock]
                have x0 : wA.cell? ⟨(w6.heap.size + 1), 0, none⟩ = some (.string nm) := (World.cell?_of_block (w := ((w6.alloc (.cells #[] 44)).alloc (.cells #[.string nm, .slice (some ⟨gt, 0, none⟩) nc ct, .slice none 0 0] 44)).drew) (hgA.block (w6.heap.size + 1) (by first | (simp; done) | (simp; omega)) hFE)).trans (by simp)
                have x1 : wA.cell? ⟨(w6.heap.size + 1), 1, none⟩ = some (.slice (some ⟨gt, 0, none⟩) nc ct) := (World.cell?_of_block (w := ((w6.alloc (.cells #[] 44)).alloc (.cells #[.string nm, .slice (some ⟨gt, 0, none⟩) nc ct, .slice none 0 0] 44)).drew) (hgA.block (w6.heap.size + 1) (by first | (simp; done) | (simp; omega)) hFE)).trans (by simp)
                have x2 : wA.cell? ⟨(w6.heap.size + 1), 2, none⟩ = some (.slice none 0 0) := (World.cell?_of_block (w := ((w6.alloc (.cells #[] 44)).alloc (.cells #[.string nm, .slice (some ⟨gt, 0, none⟩) nc ct, .slice none 0 0] 44)).drew) (hgA.block (w6.heap.size + 1) (by first | (simp; done) | (simp; omega)) hFE)).trans (by simp)
                refine hK.out _ _ ?_ (fun hHeld => ?_)
                · exact ⟨(hbA.cell (p := ⟨w2.heap.size, 0, none⟩) hq6).trans r0, (hbA.cell (p := ⟨w2.heap.size, 1, none⟩) hq6).trans r1, (hbA.cell (p := ⟨w2.heap.size, 2, none⟩) hq6).trans r2⟩
                clear hK K
                try simp only [Act.put, List.setIfInBounds_toArray, List.set_cons_zero, List.set_cons_succ]
                refine wpAnyH_ready (rs := [7]) (by kernel_rfl) (by simp) ?_
                refine AllReadyH.cons (by simp only [List.getElem?_toArray, List.getElem?_cons_zero, List.getElem?_cons_succ]; rfl) ?_ AllReadyH.nil
                intro K hK
                rw [if_pos (by rfl)]
                refine app_tabsG (B := w6.heap.size) _ _ rfl hbA.size v4 k (P.take k) rfl ownA ⟨w6.heap.size + 1, 0, none⟩ 1 _ [(t, ⟨some ⟨gt, 0, none⟩, ct, none, 0, fun _ => none, fun _ => 0⟩)] rfl rfl ?_ (by omega) ?_
                · intro j u hu
                  rw [show hvP [(t, (⟨some ⟨gt, 0, none⟩, ct, none, 0, fun _ => none, fun _ => 0⟩ : TAd))] = [.string nm, .slice (some ⟨gt, 0, none⟩) nc ct, .slice none 0 0] by simp [hvP, headV, HNM.out, HNC.out, HNR.out]] at hu
                  match j, hu with
                  | 0, hu => simp at hu; subst hu; rw [addr_add]; exact x0
                  | 1, hu => simp at hu; subst hu; rw [addr_add]; exact x1
                  | 2, hu => simp at hu; subst hu; rw [addr_add]; exact x2
                intro v7 wB ownB hbB0 _ hnB
                have hbB : Below w6.heap.size w6 wB := hbA.trans hbB0
                clear hbB0
                refine hK.out _ _ ?_ (fun hHeld => ?_)
                · exact ⟨(hbB.cell (p := ⟨w2.heap.size, 0, none⟩) hq6).trans r0, (hbB.cell (p := ⟨w2.heap.size, 1, none⟩) hq6).trans r1, (hbB.cell (p := ⟨w2.heap.size, 2, none⟩) hq6).trans r2⟩
                clear hK K
                try simp only [Act.put, List.setIfInBounds_toArray, List.set_cons_zero, List.set_cons_succ]
                refine wpAnyH_ready (rs := [9]) (by kernel_rfl) (by simp) ?_
                refine AllReadyH.cons (by simp only [List.getElem?_toArray, List.getElem?_cons_zero, List.getElem?_cons_succ]; rfl) ?_ AllReadyH.nil
                intro K hK
                rw [if_pos (by rfl)]
                refine app_tabsG (B := w6.heap.size) _ _ rfl hbB.size v7 (k + 1) _ rfl ownB ⟨g6, 0, none⟩ _ _ (P.drop k) rfl (by rw [List.length_drop, HPL.out]; first | done | omega | simp) (src_all HO6.out hbB) (by omega) ?_
                intro v9 wC ownC hbC0 _ _
                have hbC : Below w6.heap.size w6 wC := hbB.trans hbC0
                clear hbC0
                obtain ⟨a9, c9, hv9, hT9, _⟩ := row_tabs ownC (by rw [List.length_append, List.length_append, List.length_take, List.length_drop, HPL.out]; first | (simp; done) | (simp; omega)) (fun p hp => (HPT6.out p hp).below hbC)
                subst hv9
                have FIN : Hid (PairAt w V true (.returned (.tuple #[.slice a9 (k + 1 + 0) c9, .bool true])) wC) := by
                  refine ⟨a9, _, c9, ?_, rfl, ?_, chain hx6 hbC⟩
                  · rw [HINS.out, List.length_append, List.length_cons, List.length_take, List.length_drop, HN.out]; omega
                  · rw [HINS.out, ← HPF.out, ← List.map_take, ← List.map_drop]; simpa using hT9
                refine hK.out _ _ ?_ (fun hHeld => ?_)
                · exact ⟨(hbC.cell (p := ⟨w2.heap.size, 0, none⟩) hq6).trans r0, (hbC.cell (p := ⟨w2.heap.size, 1, none⟩) hq6).trans r1, (hbC.cell (p := ⟨w2.heap.size, 2, none⟩) hq6).trans r2⟩
                clear hK K
                try simp only [Act.put, List.setIfInBounds_toArray, List.set_cons_zero, List.set_cons_succ]
                refine wpAnyH_take (i := 10) (by simp only [List.getElem?_toArray, List.getElem?_cons_zero, List.getElem?_cons_succ]; rfl) (by kernel_rfl) (by kernel_rfl) (by kernel_rfl) (by intro _ _ _ h; exact h) (Or.inl ⟨by rfl, fun w hSw => by (dsimp only at hSw; go_simp; (try with_reducible rfl))⟩) (by assumption) ?_
                simp only [Act.put, List.setIfInBounds_toArray, List.set_cons_zero, List.set_cons_succ]
                refine wpAnyH_take (i := 11) (by simp only [List.getElem?_toArray, List.getElem?_cons_zero, List.getElem?_cons_succ]; rfl) (by kernel_rfl) (by kernel_rfl) (by kernel_rfl) (by intro _ _ _ h; exact h) (Or.inl ⟨by rfl, fun w hSw => by (dsimp only at hSw; go_simp; (try with_reducible rfl))⟩) (by assumption) ?_
                simp only [Act.put, List.setIfInBounds_toArray, List.set_cons_zero, List.set_cons_succ]
                refine wpAnyH_done (by kernel_rfl) ?_ _
                clear ownA ownB ownC hbA hbB hbC hT9
                go_wp2
                exact bodyPost_ret (v := .tuple #[.slice a9 (k + 1 + 0) c9, .bool true]) (by simp [results, Tryz.results7, go_sem]) rfl FIN.out
            · as_aux_lemma =>
              intro K hK
              go_simp
              have hF : Below w6.heap.size w6 (w6.alloc (.cells #[.string nm, .slice (some ⟨gt, 0, none⟩) nc ct, .slice none 0 0] 44)).drew := ((Below.refl w6.heap.size w6).alloc (by first | exact Nat.le_refl _ | (simp; done) | (simp; omega)) (.cells #[.string nm, .slice (some ⟨gt, 0, none⟩) nc ct, .slice none 0 0] 44)).drew
              refine hK.out _ _ ?_ (fun hHeld => ?_)
              · exact ⟨(hF.cell (p := ⟨w2.heap.size, 0, none⟩) hq6).trans r0, (hF.cell (p := ⟨w2.heap.size, 1, none⟩) hq6).trans r1, (hF.cell (p := ⟨w2.heap.size, 2, none⟩) hq6).trans r2⟩
              clear hK K
              try simp only [Act.put, List.setIfInBounds_toArray, List.set_cons_zero, List.set_cons_succ]
              refine wpAnyH_ready (rs := [0]) (by kernel_rfl) (by simp) ?_
              refine AllReadyH.cons (by simp only [List.getElem?_toArray, List.getElem?_cons_zero]; rfl) ?_ AllReadyH.nil
              intro K hK
              go_simp
              have hE : Below w6.heap.size w6 ((w6.alloc (.cells #[.string nm, .slice (some ⟨gt, 0, none⟩) nc ct, .slice none 0 0] 44)).alloc (.cells #[] 44)).drew := (((Below.refl w6.heap.size w6).alloc (by first | exact Nat.le_refl _ | (simp; done) | (simp; omega)) (.cells #[.string nm, .slice (some ⟨gt, 0, none⟩) nc ct, .slice none 0 0] 44)).alloc (by first | exact Nat.le_refl _ | (simp; done) | (simp; omega)) (.cells #[] 44)).drew
              refine hK.out _ _ ?_ (fun hHeld => ?_)
              · exact ⟨(hE.cell (p := ⟨w2.heap.size, 0, none⟩) hq6).trans r0, (hE.cell (p := ⟨w2.heap.size, 1, none⟩) hq6).trans r1, (hE.cell (p := ⟨w2.heap.size, 2, none⟩) hq6).trans r2⟩
              clear hK K
              try simp only [Act.put, List.setIfInBounds_toArray, List.set_cons_zero, List.set_cons_succ]
              refine wpAnyH_ready (rs := [4]) (by kernel_rfl) (by simp) ?_
              refine AllReadyH.cons (by simp only [List.getElem?_toArray, List.getElem?_cons_zero, List.getElem?_cons_succ]; rfl) ?_ AllReadyH.nil
              intro K hK
              rw [if_pos (by rfl)]
              refine app_tabsG (B := w6.heap.size) _ _ rfl hE.size (.slice (some ⟨(w6.heap.size + 1), 0, none⟩) 0 0) 0 [] rfl (own_emptyT2 w6 _ w6.heap.size) ⟨g, 0, none⟩ k _ (P.take k) rfl (by rw [List.length_take, HPL.out]; omega) (src_take HOW6.out hE k) (by omega) ?_
              intro v4 wA ownA hbA0 hgA _
              have hbA : Below w6.heap.size w6 wA := hE.trans hbA0
              rw [Nat.zero_add, List.nil_append] at ownA
              have hFE : some w6.heap.size ≠ (Value.slice (some ⟨(w6.heap.size + 1), 0, none⟩) 0 0).ownBlock := by simp [Value.ownBlock]
              have x0 : wA.cell? ⟨w6.heap.size, 0, none⟩ = some (.string nm) := (World.cell?_of_block (w := ((w6.alloc (.cells #[.string nm, .slice (some ⟨gt, 0, none⟩) nc ct, .slice none 0 0] 44)).alloc (.cells #[] 44)).drew) (hgA.block w6.heap.size (by first | (simp; done) | (simp; omega)) hFE)).trans ((((Below.refl _ _).alloc (Nat.le_refl _) (.cells #[] 44)).cell (w := w6.alloc (.cells #[.string nm, .slice (some ⟨gt, 0, none⟩) nc ct, .slice none 0 0] 44)) (p := ⟨w6.heap.size, 0, none⟩) (by simp)).trans (by simp))
              have x1 : wA.cell? ⟨w6.heap.size, 1, none⟩ = some (.slice (some ⟨gt, 0, none⟩) nc ct) := (World.cell?_of_block (w := ((w6.alloc (.cells #[.string nm, .slice (some ⟨gt, 0, none⟩) nc ct, .slice none 0 0] 44)).alloc (.cells #[] 44)).drew) (hgA.block w6.heap.size (by first | (simp; done) | (simp; omega)) hFE)).trans ((((Below.refl _ _).alloc (Nat.le_refl _) (.cells #[] 44)).cell (w := w6.alloc (.cells #[.string nm, .slice (some ⟨gt, 0, none⟩) nc ct, .slice none 0 0] 44)) (p := ⟨w6.heap.size, 1, none⟩) (by simp)).trans (by simp))
              have x2 : wA.cell? ⟨w6.heap.size, 2, none⟩ = some (.slice none 0 0) := (World.cell?_of_block (w := ((w6.alloc (.cells #[.string nm, .slice (some ⟨gt, 0, none⟩) nc ct, .slice none 0 0] 44)).alloc (.cells #[] 44)).drew) (hgA.block w6.heap.size (by first | (simp; done) | (simp; omega)) hFE)).trans ((((Below.refl _ _).alloc (Nat.le_refl _) (.cells #[] 44)).cell (w := w6.alloc (.cells #[.string nm, .slice (some ⟨gt, 0, none⟩) nc ct, .slice none 0 0] 44)) (p := ⟨w6.heap.size, 2, none⟩) (by simp)).trans (by simp))
              refine hK.out _ _ ?_ (fun hHeld => ?_)
              · exact ⟨(hbA.cell (p := ⟨w2.heap.size, 0, none⟩) hq6).trans r0, (hbA.cell (p := ⟨w2.heap.size, 1, none⟩) hq6).trans r1, (hbA.cell (p := ⟨w2.heap.size, 2, none⟩) hq6).trans r2⟩
              clear hK K
              try simp only [Act.put, List.setIfInBounds_toArray, List.set_cons_zero, List.set_cons_succ]
              refine wpAnyH_ready (rs := [7]) (by kernel_rfl) (by simp) ?_
              refine AllReadyH.cons (by simp only [List.getElem?_toArray, List.getElem?_cons_zero, List.getElem?_cons_succ]; rfl) ?_ AllReadyH.nil
              intro K hK
              rw [if_pos (by rfl)]
              refine app_tabsG (B := w6.heap.size) _ _ rfl hbA.size v4 k (P.take k) rfl ownA ⟨w6.heap.size, 0, none⟩ 1 _ [(t, ⟨some ⟨gt, 0, none⟩, ct, none, 0, fun _ => none, fun _ => 0⟩)] rfl rfl ?_ (by omega) ?_
              · intro j u hu
                rw [show hvP [(t, (⟨some ⟨gt, 0, none⟩, ct, none, 0, fun _ => none, fun _ => 0⟩ : TAd))] = [.string nm, .slice (some ⟨gt, 0, none⟩) nc ct, .slice none 0 0] by simp [hvP, headV, HNM.out, HNC.out, HNR.out]] at hu
                match j, hu with
                | 0, hu => simp at hu; subst hu; rw [addr_add]; exact x0
                | 1, hu => simp at hu; subst hu; rw [addr_add]; exact x1
                | 2, hu => simp at hu; subst hu; rw [addr_add]; exact x2
              intro v7 wB ownB hbB0 _ hnB
              have hbB : Below w6.heap.size w6 wB := hbA.trans hbB0
              clear hbB0
              refine hK.out _ _ ?_ (fun hHeld => ?_)
              · exact ⟨(hbB.cell (p := ⟨w2.heap.size, 0, none⟩) hq6).trans r0, (hbB.cell (p := ⟨w2.heap.size, 1, none⟩) hq6).trans r1, (hbB.cell (p := ⟨w2.heap.size, 2, none⟩) hq6).trans r2⟩
              clear hK K
              try simp only [Act.put, List.setIfInBounds_toArray, List.set_cons_zero, List.set_cons_succ]
              refine wpAnyH_ready (rs := [9]) (by kernel_rfl) (by simp) ?_
              refine AllReadyH.cons (by simp only [List.getElem?_toArray, List.getElem?_cons_zero, List.getElem?_cons_succ]; rfl) ?_ AllReadyH.nil
              intro K hK
              rw [if_pos (by rfl)]
              refine app_tabsG (B := w6.heap.size) _ _ rfl hbB.size v7 (k + 1) _ rfl ownB ⟨g6, 0, none⟩ _ _ (P.drop k) rfl (by rw [List.length_drop, HPL.out]; first | done | omega | simp) (src_all HO6.out hbB) (by omega) ?_
              intro v9 wC ownC hbC0 _ _
              have hbC : Below w6.heap.size w6 wC := hbB.trans hbC0
              clear hbC0
              obtain ⟨a9, c9, hv9, hT9, _⟩ := row_tabs ownC (by rw [List.length_append, List.length_append, List.length_take, List.length_drop, HPL.out]; first | (simp; done) | (simp; omega)) (fun p hp => (HPT6.out p hp).below hbC)
              subst hv9
              have FIN : Hid (PairAt w V true (.returned (.tuple #[.slice a9 (k + 1 + 0) c9, .bool true])) wC) := by
                refine ⟨a9, _, c9, ?_, rfl, ?_, chain hx6 hbC⟩
                · rw [HINS.out, List.length_append, List.length_cons, List.length_take, List.length_drop, HN.out]; omega
                · rw [HINS.out, ← HPF.out, ← List.map_take, ← List.map_drop]; simpa using hT9
              refine hK.out _ _ ?_ (fun hHeld => ?_)
              · exact ⟨(hbC.cell (p := ⟨w2.heap.size, 0, none⟩) hq6).trans r0, (hbC.cell (p := ⟨w2.heap.size, 1, none⟩) hq6).trans r1, (hbC.cell (p := ⟨w2.heap.size, 2, none⟩) hq6).trans r2⟩
              clear hK K
              try simp only [Act.put, List.setIfInBounds_toArray, List.set_cons_zero, List.set_cons_succ]
              refine wpAnyH_take (i := 10) (by simp only [List.getElem?_toArray, List.getElem?_cons_zero, List.getElem?_cons_succ]; rfl) (by kernel_rfl) (by kernel_rfl) (by kernel_rfl) (by intro _ _ _ h; exact h) (Or.inl ⟨by rfl, fun w hSw => by (dsimp only at hSw; go_simp; (try with_reducible rfl))⟩) (by assumption) ?_
              simp only [Act.put, List.setIfInBounds_toArray, List.set_cons_zero, List.set_cons_succ]
              refine wpAnyH_take (i := 11) (by simp only [List.getElem?_toArray, List.getElem?_cons_zero, List.getElem?_cons_succ]; rfl) (by kernel_rfl) (by kernel_rfl) (by kernel_rfl) (by intro _ _ _ h; exact h) (Or.inl ⟨by rfl, fun w hSw => by (dsimp only at hSw; go_simp; (try with_reducible rfl))⟩) (by assumption) ?_
              simp only [Act.put, List.setIfInBounds_toArray, List.set_cons_zero, List.set_cons_succ]
              refine wpAnyH_done (by kernel_rfl) ?_ _
              clear ownA ownB ownC hbA hbB hbC hT9
              go_wp2
              exact bodyPost_ret (v := .tuple #[.slice a9 (k + 1 + 0) c9, .bool true]) (by simp [results, Tryz.results7, go_sem]) rfl FIN.out
        · as_aux_lemma =>
            subst hkn
            have hnn : ¬ (k : Int) < (k : Int) := by omega
            have hd0 : P.drop k = [] := List.drop_of_length_le (by rw [HPL.out]; omega)
            have HDR : Hid (hvP (P.drop k) = []) := by rw [hd0]; exact rfl
            have HONE : Hid (∀ u : Value, u ∈ ([] : List Value) → u.oneCell' = true) := by
              have : ∀ u : Value, u ∈ ([] : List Value) → u.oneCell' = true := fun u hu => by cases hu
              exact this
            have HL10 : Hid (([] : List Value).length = 0 * 3) := rfl
            have HCEL : Hid (∀ (j : Nat) (u : Value), ([] : List Value)[j]? = some u → (w5.alloc (.cells #[] 44)).cell? ((⟨g, k * 3, none⟩ : Addr).add j) = some u) := by
              have : ∀ (j : Nat) (u : Value), ([] : List Value)[j]? = some u → (w5.alloc (.cells #[] 44)).cell? ((⟨g, k * 3, none⟩ : Addr).add j) = some u := fun j u hu => by simp at hu
              exact this
            clear hd0
            have z1 : (k : Int) ≤ (c3 : Int) := by omega
            go_wp2_with (at_builtin; refine wpList_append_own _ rfl _ _ 26 rfl w5.heap.size 44 i0 (.agg #[.string ⟨#[]⟩, .slice none 0 0, .slice none 0 0]) 3 64 Tryz.underlying26 hti hz0 hz1 hz2 rfl (by decide) _ _ _ rfl (own_emptyT w5 w5.heap.size (Nat.le_refl _)) ⟨g, k * 3, none⟩ 0 _ [] rfl HL10.out HCEL.out HONE.out (by unfold maxLen; omega) (by omega) (by simp) ?_)
            intro v6 w6 own6 hgrow6 hnn6
            have hb56 : Below w5.heap.size w5 w6 := ((Below.refl _ _).alloc (Nat.le_refl _) _).grown hgrow6 (by simp) (fun j hj => by simp [Value.ownBlock] at hj; omega)
            have hv6 : v6 ≠ .slice none 0 0 := by first | exact hnn6 | exact fun e => absurd (hnn6.1 e).1 (by simp)
            replace own6 : w6.ownsRow w5.heap.size 44 3 v6 0 (hvP (P.drop k)) := by
              rw [HDR.out]; first | exact own6 | (rw [Nat.zero_add] at own6; exact own6) | (rw [List.nil_append, Nat.zero_add] at own6; exact own6)
            rcases own6.2 with ⟨e, _⟩ | ⟨g6, c6, cur6, e, _⟩
            · exact absurd e hv6
            subst e
            have HO6 : Hid (w6.ownsRow w5.heap.size 44 3 (.slice (some ⟨g6, 0, none⟩) 0 c6) 0 (hvP (P.drop k))) := own6
            have HOW6 : Hid (w6.ownsRow W.heap.size 44 3 (.slice (some ⟨g, 0, none⟩) k c3) k (hvP P)) := own_below (own_below HOW.out H35.out) hb56
            have hx6 := chain hx5 hb56
            have hq6 : w2.heap.size < w6.heap.size := Nat.lt_of_lt_of_le q03 hb56.size
            have r0 : w6.cell? ⟨w2.heap.size, 0, none⟩ = some (.string nm) := by rw [hb56.cell (p := ⟨w2.heap.size, 0, none⟩) q03]; exact q0
            have r1 : w6.cell? ⟨w2.heap.size, 1, none⟩ = some (.slice (some ⟨gt, 0, none⟩) nc ct) := by rw [hb56.cell (p := ⟨w2.heap.size, 1, none⟩) q03]; exact q01
            have r2 : w6.cell? ⟨w2.heap.size, 2, none⟩ = some (.slice none 0 0) := by rw [hb56.cell (p := ⟨w2.heap.size, 2, none⟩) q03]; exact q02
            have HPT6 : Hid (∀ p, p ∈ P.take k ++ [(t, (⟨some ⟨gt, 0, none⟩, ct, none, 0, fun _ => none, fun _ => 0⟩ : TAd))] ++ P.drop k → TabAt w6 p.2.ca p.2.cc p.2.ra p.1) := by
              have : ∀ p, p ∈ P.take k ++ [(t, (⟨some ⟨gt, 0, none⟩, ct, none, 0, fun _ => none, fun _ => 0⟩ : TAd))] ++ P.drop k → TabAt w6 p.2.ca p.2.cc p.2.ra p.1 := by
                intro p hp
                rcases List.mem_append.1 hp with hp | hp
                · rcases List.mem_append.1 hp with hp | hp
                  · exact ((HPT.out p (List.mem_of_mem_take hp)).below H35.out).below hb56
                  · rw [List.mem_singleton] at hp; subst hp; exact (HTA3.out.below H35.out).below hb56
                · exact ((HPT.out p (List.mem_of_mem_drop hp)).below H35.out).below hb56
              exact this
            clear own6 hgrow6 hnn6 hv6 hb56 q0 q01 q02
            have hD6 : Below w6.heap.size w6 w6.drew := (Below.refl _ _).drew
            go_wp2_with fail
            refine wp_region_held_drew (S := (fun w' => w'.cell? ⟨w2.heap.size, 0, none⟩ = some (.string nm) ∧ w'.cell? ⟨w2.heap.size, 1, none⟩ = some (.slice (some ⟨gt, 0, none⟩) nc ct) ∧ w'.cell? ⟨w2.heap.size, 2, none⟩ = some (.slice none 0 0))) (by kernel_rfl) ?_ (fun hHeld => ?_)
            · exact ⟨(hD6.cell (p := ⟨w2.heap.size, 0, none⟩) hq6).trans r0, (hD6.cell (p := ⟨w2.heap.size, 1, none⟩) hq6).trans r1, (hD6.cell (p := ⟨w2.heap.size, 2, none⟩) hq6).trans r2⟩
            refine wpAnyH_take (i := 1) (by simp only [List.getElem?_toArray, List.getElem?_cons_zero, List.getElem?_cons_succ]; rfl) (by kernel_rfl) (by kernel_rfl) (by kernel_rfl) (by intro _ _ _ h; exact h) (Or.inl ⟨by rfl, fun w hSw => by (dsimp only at hSw; go_simp; (try with_reducible rfl))⟩) (by assumption) ?_
            simp only [Act.put, List.setIfInBounds_toArray, List.set_cons_zero, List.set_cons_succ]
            refine wpAnyH_take (i := 2) (by simp only [List.getElem?_toArray, List.getElem?_cons_zero, List.getElem?_cons_succ]; rfl) (by kernel_rfl) (by kernel_rfl) (by kernel_rfl) (by intro _ _ _ h; exact h) (Or.inl ⟨by rfl, fun w hSw => by (dsimp only at hSw; go_simp; (try with_reducible rfl))⟩) (by assumption) ?_
            simp only [Act.put, List.setIfInBounds_toArray, List.set_cons_zero, List.set_cons_succ]
            refine wpAnyH_take (i := 3) (by simp only [List.getElem?_toArray, List.getElem?_cons_zero, List.getElem?_cons_succ]; rfl) (by kernel_rfl) (by kernel_rfl) (by kernel_rfl) (by intro _ _ _ h; exact h) (Or.inl ⟨by rfl, fun w hSw => by (dsimp only at hSw; go_simp; (try with_reducible rfl))⟩) (by assumption) ?_
            simp only [Act.put, List.setIfInBounds_toArray, List.set_cons_zero, List.set_cons_succ]
            refine wpAnyH_take (i := 5) (by simp only [List.getElem?_toArray, List.getElem?_cons_zero, List.getElem?_cons_succ]; rfl) (by kernel_rfl) (by kernel_rfl) (by kernel_rfl) (by intro _ _ _ h; exact h) (Or.inl ⟨by rfl, fun w hSw => by (dsimp only at hSw; go_simp; (try with_reducible rfl))⟩) (by assumption) ?_
            simp only [Act.put, List.setIfInBounds_toArray, List.set_cons_zero, List.set_cons_succ]
            refine wpAnyH_take (i := 8) (by simp only [List.getElem?_toArray, List.getElem?_cons_zero, List.getElem?_cons_succ]; rfl) (by kernel_rfl) (by kernel_rfl) (by kernel_rfl) (by intro _ _ _ h; exact h) (Or.inl ⟨by rfl, fun w hSw => by (dsimp only at hSw; go_simp; (try with_reducible rfl))⟩) (by assumption) ?_
            simp only [Act.put, List.setIfInBounds_toArray, List.set_cons_zero, List.set_cons_succ]
            refine wpAnyH_ready (rs := [0, 6]) (by kernel_rfl) (by simp) ?_
            refine AllReadyH.cons (by simp only [List.getElem?_toArray, List.getElem?_cons_zero]; rfl) ?_ (AllReadyH.cons (by simp only [List.getElem?_toArray, List.getElem?_cons_zero, List.getElem?_cons_succ]; rfl) ?_ AllReadyH.nil)
            · intro K hK
              go_simp
              have hE : Below w6.heap.size w6 (w6.alloc (.cells #[] 44)).drew := ((Below.refl w6.heap.size w6).alloc (by first | exact Nat.le_refl _ | (simp; done) | (simp; omega)) (.cells #[] 44)).drew
              refine hK.out _ _ ?_ (fun hHeld => ?_)
              · exact ⟨(hE.cell (p := ⟨w2.heap.size, 0, none⟩) hq6).trans r0, (hE.cell (p := ⟨w2.heap.size, 1, none⟩) hq6).trans r1, (hE.cell (p := ⟨w2.heap.size, 2, none⟩) hq6).trans r2⟩
              clear hK K
              try simp only [Act.put, List.setIfInBounds_toArray, List.set_cons_zero, List.set_cons_succ]
              refine wpAnyH_ready (rs := [4, 6]) (by kernel_rfl) (by simp) ?_
              refine AllReadyH.cons (by simp only [List.getElem?_toArray, List.getElem?_cons_zero, List.getElem?_cons_succ]; rfl) ?_ (AllReadyH.cons (by simp only [List.getElem?_toArray, List.getElem?_cons_zero, List.getElem?_cons_succ]; rfl) ?_ AllReadyH.nil)
              · as_aux_lemma =>
                intro K hK
                rw [if_pos (by rfl)]
                refine app_tabsG (B := w6.heap.size) _ _ rfl hE.size (.slice (some ⟨w6.heap.size, 0, none⟩) 0 0) 0 [] rfl (own_emptyT w6 w6.heap.size (Nat.le_refl _)) ⟨g, 0, none⟩ k _ (P.take k) rfl (by rw [List.length_take, HPL.out]; omega) (src_take HOW6.out hE k) (by omega) ?_
                intro v4 wA ownA hbA0 hgA _
                have hbA : Below w6.heap.size w6 wA := hE.trans hbA0
                rw [Nat.zero_add, List.nil_append] at ownA
                refine hK.out _ _ ?_ (fun hHeld => ?_)
                · exact ⟨(hbA.cell (p := ⟨w2.heap.size, 0, none⟩) hq6).trans r0, (hbA.cell (p := ⟨w2.heap.size, 1, none⟩) hq6).trans r1, (hbA.cell (p := ⟨w2.heap.size, 2, none⟩) hq6).trans r2⟩
                clear hK K
                try simp only [Act.put, List.setIfInBounds_toArray, List.set_cons_zero, List.set_cons_succ]
                refine wpAnyH_ready (rs := [6]) (by kernel_rfl) (by simp) ?_
                refine AllReadyH.cons (by simp only [List.getElem?_toArray, List.getElem?_cons_zero, List.getElem?_cons_succ]; rfl) ?_ AllReadyH.nil
                intro K hK
                go_simp
                have hbA' : Below w6.heap.size w6 (wA.alloc (.cells #[.string nm, .slice (some ⟨gt, 0, none⟩) nc ct, .slice none 0 0] 44)) := hbA.alloc hbA.size _
                refine hK.out _ _ ?_ (fun hHeld => ?_)
                · exact ⟨(hbA'.cell (p := ⟨w2.heap.size, 0, none⟩) hq6).trans r0, (hbA'.cell (p := ⟨w2.heap.size, 1, none⟩) hq6).trans r1, (hbA'.cell (p := ⟨w2.heap.size, 2, none⟩) hq6).trans r2⟩
                clear hK K
                try simp only [Act.put, List.setIfInBounds_toArray, List.set_cons_zero, List.set_cons_succ]
                refine wpAnyH_ready (rs := [7]) (by kernel_rfl) (by simp) ?_
                refine AllReadyH.cons (by simp only [List.getElem?_toArray, List.getElem?_cons_zero, List.getElem?_cons_succ]; rfl) ?_ AllReadyH.nil
                intro K hK
                rw [if_pos (by rfl)]
                refine app_tabsG (B := w6.heap.size) _ _ rfl hbA'.size v4 k (P.take k) rfl (ownA.alloc _) ⟨wA.heap.size, 0, none⟩ 1 _ [(t, ⟨some ⟨gt, 0, none⟩, ct, none, 0, fun _ => none, fun _ => 0⟩)] rfl rfl ?_ (by omega) ?_
                · intro j u hu
                  rw [show hvP [(t, (⟨some ⟨gt, 0, none⟩, ct, none, 0, fun _ => none, fun _ => 0⟩ : TAd))] = [.string nm, .slice (some ⟨gt, 0, none⟩) nc ct, .slice none 0 0] by simp [hvP, headV, HNM.out, HNC.out, HNR.out]] at hu
                  match j, hu with
                  | 0, hu => simp at hu; subst hu; simp [Addr.add]
                  | 1, hu => simp at hu; subst hu; simp [Addr.add]
                  | 2, hu => simp at hu; subst hu; simp [Addr.add]
                intro v7 wB ownB hbB0 _ hnB
                have hbB : Below w6.heap.size w6 wB := hbA'.trans hbB0
                clear hbB0
                refine hK.out _ _ ?_ (fun hHeld => ?_)
                · exact ⟨(hbB.cell (p := ⟨w2.heap.size, 0, none⟩) hq6).trans r0, (hbB.cell (p := ⟨w2.heap.size, 1, none⟩) hq6).trans r1, (hbB.cell (p := ⟨w2.heap.size, 2, none⟩) hq6).trans r2⟩
                clear hK K
                try simp only [Act.put, List.setIfInBounds_toArray, List.set_cons_zero, List.set_cons_succ]
                refine wpAnyH_ready (rs := [9]) (by kernel_rfl) (by simp) ?_
                refine AllReadyH.cons (by simp only [List.getElem?_toArray, List.getElem?_cons_zero, List.getElem?_cons_succ]; rfl) ?_ AllReadyH.nil
                intro K hK
                rw [if_pos (by rfl)]
                refine app_tabsG (B := w6.heap.size) _ _ rfl hbB.size v7 (k + 1) _ rfl ownB ⟨g6, 0, none⟩ _ _ (P.drop k) rfl (by rw [List.length_drop, HPL.out]; first | done | omega | simp) (src_all HO6.out hbB) (by omega) ?_
                intro v9 wC ownC hbC0 _ _
                have hbC : Below w6.heap.size w6 wC := hbB.trans hbC0
                clear hbC0
                obtain ⟨a9, c9, hv9, hT9, _⟩ := row_tabs ownC (by rw [List.length_append, List.length_append, List.length_take, List.length_drop, HPL.out]; first | (simp; done) | (simp; omega)) (fun p hp => (HPT6.out p hp).below hbC)
                subst hv9
                have FIN : Hid (PairAt w V true (.returned (.tuple #[.slice a9 (k + 1 + 0) c9, .bool true])) wC) := by
                  refine ⟨a9, _, c9, ?_, rfl, ?_, chain hx6 hbC⟩
                  · rw [HINS.out, List.length_append, List.length_cons, List.length_take, List.length_drop, HN.out]; omega
                  · rw [HINS.out, ← HPF.out, ← List.map_take, ← List.map_drop]; simpa using hT9
                refine hK.out _ _ ?_ (fun hHeld => ?_)
                · exact ⟨(hbC.cell (p := ⟨w2.heap.size, 0, none⟩) hq6).trans r0, (hbC.cell (p := ⟨w2.heap.size, 1, none⟩) hq6).trans r1, (hbC.cell (p := ⟨w2.heap.size, 2, none⟩) hq6).trans r2⟩
                clear hK K
                try simp only [Act.put, List.setIfInBounds_toArray, List.set_cons_zero, List.set_cons_succ]
                refine wpAnyH_take (i := 10) (by simp only [List.getElem?_toArray, List.getElem?_cons_zero, List.getElem?_cons_succ]; rfl) (by kernel_rfl) (by kernel_rfl) (by kernel_rfl) (by intro _ _ _ h; exact h) (Or.inl ⟨by rfl, fun w hSw => by (dsimp only at hSw; go_simp; (try with_reducible rfl))⟩) (by assumption) ?_
                simp only [Act.put, List.setIfInBounds_toArray, List.set_cons_zero, List.set_cons_succ]
                refine wpAnyH_take (i := 11) (by simp only [List.getElem?_toArray, List.getElem?_cons_zero, List.getElem?_cons_succ]; rfl) (by kernel_rfl) (by kernel_rfl) (by kernel_rfl) (by intro _ _ _ h; exact h) (Or.inl ⟨by rfl, fun w hSw => by (dsimp only at hSw; go_simp; (try with_reducible rfl))⟩) (by assumption) ?_
                simp only [Act.put, List.setIfInBounds_toArray, List.set_cons_zero, List.set_cons_succ]
                refine wpAnyH_done (by kernel_rfl) ?_ _
                clear ownA ownB ownC hbA hbB hbC hT9
                go_wp2
                exact bodyPost_ret (v := .tuple #[.slice a9 (k + 1 + 0) c9, .bool true]) (by simp [results, Tryz.results7, go_sem]) rfl FIN.out
              · as_aux_lemma =>
                intro K hK
                go_simp
                have hF : Below w6.heap.size w6 ((w6.alloc (.cells #[] 44)).alloc (.cells #[.string nm, .slice (some ⟨gt, 0, none⟩) nc ct, .slice none 0 0] 44)).drew := (((Below.refl w6.heap.size w6).alloc (by first | exact Nat.le_refl _ | (simp; done) | (simp; omega)) (.cells #[] 44)).alloc (by first | exact Nat.le_refl _ | (simp; done) | (simp; omega)) (.cells #[.string nm, .slice (some ⟨gt, 0, none⟩) nc ct, .slice none 0 0] 44)).drew
                refine hK.out _ _ ?_ (fun hHeld => ?_)
                · exact ⟨(hF.cell (p := ⟨w2.heap.size, 0, none⟩) hq6).trans r0, (hF.cell (p := ⟨w2.heap.size, 1, none⟩) hq6).trans r1, (hF.cell (p := ⟨w2.heap.size, 2, none⟩) hq6).trans r2⟩
                clear hK K
                try simp only [Act.put, List.setIfInBounds_toArray, List.set_cons_zero, List.set_cons_succ]
                refine wpAnyH_ready (rs := [4]) (by kernel_rfl) (by simp) ?_
                refine AllReadyH.cons (by simp only [List.getElem?_toArray, List.getElem?_cons_zero, List.getElem?_cons_succ]; rfl) ?_ AllReadyH.nil
                intro K hK
                rw [if_pos (by rfl)]
                refine app_tabsG (B := w6.heap.size) _ _ rfl hF.size (.slice (some ⟨w6.heap.size, 0, none⟩) 0 0) 0 [] rfl ((own_emptyT w6 w6.heap.size (Nat.le_refl _)).alloc _) ⟨g, 0, none⟩ k _ (P.take k) rfl (by rw [List.length_take, HPL.out]; omega) (src_take HOW6.out hF k) (by omega) ?_
                intro v4 wA ownA hbA0 hgA _
                have hbA : Below w6.heap.size w6 wA := hF.trans hbA0
                rw [Nat.zero_add, List.nil_append] at ownA
                have hFE : some (w6.heap.size + 1) ≠ (Value.slice (some ⟨w6.heap.size, 0, none⟩) 0 0).ownBlock := by simp [Value.ownBlock]
                have x0 : wA.cell? ⟨(w6.heap.size + 1), 0, none⟩ = some (.string nm) := (World.cell?_of_block (w := ((w6.alloc (.cells #[] 44)).alloc (.cells #[.string nm, .slice (some ⟨gt, 0, none⟩) nc ct, .slice none 0 0] 44)).drew) (hgA.block (w6.heap.size + 1) (by first | (simp; done) | (simp; omega)) hFE)).trans (by simp)
                have x1 : wA.cell? ⟨(w6.heap.size + 1), 1, none⟩ = some (.slice (some ⟨gt, 0, none⟩) nc ct) := (World.cell?_of_block (w := ((w6.alloc (.cells #[] 44)).alloc (.cells #[.string nm, .slice (some ⟨gt, 0, none⟩) nc ct, .slice none 0 0] 44)).drew) (hgA.block (w6.heap.size + 1) (by first | (simp; done) | (simp; omega)) hFE)).trans (by simp)
                have x2 : wA.cell? ⟨(w6.heap.size + 1), 2, none⟩ = some (.slice none 0 0) := (World.cell?_of_block (w := ((w6.alloc (.cells #[] 44)).alloc (.cells #[.string nm, .slice (some ⟨gt, 0, none⟩) nc ct, .slice none 0 0] 44)).drew) (hgA.block (w6.heap.size + 1) (by first | (simp; done) | (simp; omega)) hFE)).trans (by simp)
                refine hK.out _ _ ?_ (fun hHeld => ?_)
                · exact ⟨(hbA.cell (p := ⟨w2.heap.size, 0, none⟩) hq6).trans r0, (hbA.cell (p := ⟨w2.heap.size, 1, none⟩) hq6).trans r1, (hbA.cell (p := ⟨w2.heap.size, 2, none⟩) hq6).trans r2⟩
                clear hK K
                try simp only [Act.put, List.setIfInBounds_toArray, List.set_cons_zero, List.set_cons_succ]
                refine wpAnyH_ready (rs := [7]) (by kernel_rfl) (by simp) ?_
                refine AllReadyH.cons (by simp only [List.getElem?_toArray, List.getElem?_cons_zero, List.getElem?_cons_succ]; rfl) ?_ AllReadyH.nil
                intro K hK
                rw [if_pos (by rfl)]
                refine app_tabsG (B := w6.heap.size) _ _ rfl hbA.size v4 k (P.take k) rfl ownA ⟨w6.heap.size + 1, 0, none⟩ 1 _ [(t, ⟨some ⟨gt, 0, none⟩, ct, none, 0, fun _ => none, fun _ => 0⟩)] rfl rfl ?_ (by omega) ?_
                · intro j u hu
                  rw [show hvP [(t, (⟨some ⟨gt, 0, none⟩, ct, none, 0, fun _ => none, fun _ => 0⟩ : TAd))] = [.string nm, .slice (some ⟨gt, 0, none⟩) nc ct, .slice none 0 0] by simp [hvP, headV, HNM.out, HNC.out, HNR.out]] at hu
                  match j, hu with
                  | 0, hu => simp at hu; subst hu; rw [addr_add]; exact x0
                  | 1, hu => simp at hu; subst hu; rw [addr_add]; exact x1
                  | 2, hu => simp at hu; subst hu; rw [addr_add]; exact x2
                intro v7 wB ownB hbB0 _ hnB
                have hbB : Below w6.heap.size w6 wB := hbA.trans hbB0
                clear hbB0
                refine hK.out _ _ ?_ (fun hHeld => ?_)
                · exact ⟨(hbB.cell (p := ⟨w2.heap.size, 0, none⟩) hq6).trans r0, (hbB.cell (p := ⟨w2.heap.size, 1, none⟩) hq6).trans r1, (hbB.cell (p := ⟨w2.heap.size, 2, none⟩) hq6).trans r2⟩
                clear hK K
                try simp only [Act.put, List.setIfInBounds_toArray, List.set_cons_zero, List.set_cons_succ]
                refine wpAnyH_ready (rs := [9]) (by kernel_rfl) (by simp) ?_
                refine AllReadyH.cons (by simp only [List.getElem?_toArray, List.getElem?_cons_zero, List.getElem?_cons_succ]; rfl) ?_ AllReadyH.nil
                intro K hK
                rw [if_pos (by rfl)]
                refine app_tabsG (B := w6.heap.size) _ _ rfl hbB.size v7 (k + 1) _ rfl ownB ⟨g6, 0, none⟩ _ _ (P.drop k) rfl (by rw [List.length_drop, HPL.out]; first | done | omega | simp) (src_all HO6.out hbB) (by omega) ?_
                intro v9 wC ownC hbC0 _ _
                have hbC : Below w6.heap.size w6 wC := hbB.trans hbC0
                clear hbC0
                obtain ⟨a9, c9, hv9, hT9, _⟩ := row_tabs ownC (by rw [List.length_append, List.length_append, List.length_take, List.length_drop, HPL.out]; first | (simp; done) | (simp; omega)) (fun p hp => (HPT6.out p hp).below hbC)
                subst hv9
                have FIN : Hid (PairAt w V true (.returned (.tuple #[.slice a9 (k + 1 + 0) c9, .bool true])) wC) := by
                  refine ⟨a9, _, c9, ?_, rfl, ?_, chain hx6 hbC⟩
                  · rw [HINS.out, List.length_append, List.length_cons, List.length_take, List.length_drop, HN.out]; omega
                  · rw [HINS.out, ← HPF.out, ← List.map_take, ← List.map_drop]; simpa using hT9
                refine hK.out _ _ ?_ (fun hHeld => ?_)
                · exact ⟨(hbC.cell (p := ⟨w2.heap.size, 0, none⟩) hq6).trans r0, (hbC.cell (p := ⟨w2.heap.size, 1, none⟩) hq6).trans r1, (hbC.cell (p := ⟨w2.heap.size, 2, none⟩) hq6).trans r2⟩
                clear hK K
                try simp only [Act.put, List.setIfInBounds_toArray, List.set_cons_zero, List.set_cons_succ]
                refine wpAnyH_take (i := 10) (by simp only [List.getElem?_toArray, List.getElem?_cons_zero, List.getElem?_cons_succ]; rfl) (by kernel_rfl) (by kernel_rfl) (by kernel_rfl) (by intro _ _ _ h; exact h) (Or.inl ⟨by rfl, fun w hSw => by (dsimp only at hSw; go_simp; (try with_reducible rfl))⟩) (by assumption) ?_
                simp only [Act.put, List.setIfInBounds_toArray, List.set_cons_zero, List.set_cons_succ]
                refine wpAnyH_take (i := 11) (by simp only [List.getElem?_toArray, List.getElem?_cons_zero, List.getElem?_cons_succ]; rfl) (by kernel_rfl) (by kernel_rfl) (by kernel_rfl) (by intro _ _ _ h; exact h) (Or.inl ⟨by rfl, fun w hSw => by (dsimp only at hSw; go_simp; (try with_reducible rfl))⟩) (by assumption) ?_
                simp only [Act.put, List.setIfInBounds_toArray, List.set_cons_zero, List.set_cons_succ]
                refine wpAnyH_done (by kernel_rfl) ?_ _
                clear ownA ownB ownC hbA hbB hbC hT9
                go_wp2
                exact bodyPost_ret (v := .tuple #[.slice a9 (k + 1 + 0) c9, .bool true]) (by simp [results, Tryz.results7, go_sem]) rfl FIN.out
            · as_aux_lemma =>
              intro K hK
              go_simp
              have hF : Below w6.heap.size w6 (w6.alloc (.cells #[.string nm, .slice (some ⟨gt, 0, none⟩) nc ct, .slice none 0 0] 44)).drew := ((Below.refl w6.heap.size w6).alloc (by first | exact Nat.le_refl _ | (simp; done) | (simp; omega)) (.cells #[.string nm, .slice (some ⟨gt, 0, none⟩) nc ct, .slice none 0 0] 44)).drew
              refine hK.out _ _ ?_ (fun hHeld => ?_)
              · exact ⟨(hF.cell (p := ⟨w2.heap.size, 0, none⟩) hq6).trans r0, (hF.cell (p := ⟨w2.heap.size, 1, none⟩) hq6).trans r1, (hF.cell (p := ⟨w2.heap.size, 2, none⟩) hq6).trans r2⟩
              clear hK K
              try simp only [Act.put, List.setIfInBounds_toArray, List.set_cons_zero, List.set_cons_succ]
              refine wpAnyH_ready (rs := [0]) (by kernel_rfl) (by simp) ?_
              refine AllReadyH.cons (by simp only [List.getElem?_toArray, List.getElem?_cons_zero]; rfl) ?_ AllReadyH.nil
              intro K hK
              go_simp
              have hE : Below w6.heap.size w6 ((w6.alloc (.cells #[.string nm, .slice (some ⟨gt, 0, none⟩) nc ct, .slice none 0 0] 44)).alloc (.cells #[] 44)).drew := (((Below.refl w6.heap.size w6).alloc (by first | exact Nat.le_refl _ | (simp; done) | (simp; omega)) (.cells #[.string nm, .slice (some ⟨gt, 0, none⟩) nc ct, .slice none 0 0] 44)).alloc (by first | exact Nat.le_refl _ | (simp; done) | (simp; omega)) (.cells #[] 44)).drew
              refine hK.out _ _ ?_ (fun hHeld => ?_)
              · exact ⟨(hE.cell (p := ⟨w2.heap.size, 0, none⟩) hq6).trans r0, (hE.cell (p := ⟨w2.heap.size, 1, none⟩) hq6).trans r1, (hE.cell (p := ⟨w2.heap.size, 2, none⟩) hq6).trans r2⟩
              clear hK K
              try simp only [Act.put, List.setIfInBounds_toArray, List.set_cons_zero, List.set_cons_succ]
              refine wpAnyH_ready (rs := [4]) (by kernel_rfl) (by simp) ?_
              refine AllReadyH.cons (by simp only [List.getElem?_toArray, List.getElem?_cons_zero, List.getElem?_cons_succ]; rfl) ?_ AllReadyH.nil
              intro K hK
              rw [if_pos (by rfl)]
              refine app_tabsG (B := w6.heap.size) _ _ rfl hE.size (.slice (some ⟨(w6.heap.size + 1), 0, none⟩) 0 0) 0 [] rfl (own_emptyT2 w6 _ w6.heap.size) ⟨g, 0, none⟩ k _ (P.take k) rfl (by rw [List.length_take, HPL.out]; omega) (src_take HOW6.out hE k) (by omega) ?_
              intro v4 wA ownA hbA0 hgA _
              have hbA : Below w6.heap.size w6 wA := hE.trans hbA0
              rw [Nat.zero_add, List.nil_append] at ownA
              have hFE : some w6.heap.size ≠ (Value.slice (some ⟨(w6.heap.size + 1), 0, none⟩) 0 0).ownBlock := by simp [Value.ownBlock]
              have x0 : wA.cell? ⟨w6.heap.size, 0, none⟩ = some (.string nm) := (World.cell?_of_block (w := ((w6.alloc (.cells #[.string nm, .slice (some ⟨gt, 0, none⟩) nc ct, .slice none 0 0] 44)).alloc (.cells #[] 44)).drew) (hgA.block w6.heap.size (by first | (simp; done) | (simp; omega)) hFE)).trans ((((Below.refl _ _).alloc (Nat.le_refl _) (.cells #[] 44)).cell (w := w6.alloc (.cells #[.string nm, .slice (some ⟨gt, 0, none⟩) nc ct, .slice none 0 0] 44)) (p := ⟨w6.heap.size, 0, none⟩) (by simp)).trans (by simp))
              have x1 : wA.cell? ⟨w6.heap.size, 1, none⟩ = some (.slice (some ⟨gt, 0, none⟩) nc ct) := (World.cell?_of_block (w := ((w6.alloc (.cells #[.string nm, .slice (some ⟨gt, 0, none⟩) nc ct, .slice none 0 0] 44)).alloc (.cells #[] 44)).drew) (hgA.block w6.heap.size (by first | (simp; done) | (simp; omega)) hFE)).trans ((((Below.refl _ _).alloc (Nat.le_refl _) (.cells #[] 44)).cell (w := w6.alloc (.cells #[.string nm, .slice (some ⟨gt, 0, none⟩) nc ct, .slice none 0 0] 44)) (p := ⟨w6.heap.size, 1, none⟩) (by simp)).trans (by simp))
              have x2 : wA.cell? ⟨w6.heap.size, 2, none⟩ = some (.slice none 0 0) := (World.cell?_of_block (w := ((w6.alloc (.cells #[.string nm, .slice (some ⟨gt, 0, none⟩) nc ct, .slice none 0 0] 44)).alloc (.cells #[] 44)).drew) (hgA.block w6.heap.size (by first | (simp; done) | (simp; omega)) hFE)).trans ((((Below.refl _ _).alloc (Nat.le_refl _) (.cells #[] 44)).cell (w := w6.alloc (.cells #[.string nm, .slice (some ⟨gt, 0, none⟩) nc ct, .slice none 0 0] 44)) (p := ⟨w6.heap.size, 2, none⟩) (by simp)).trans (by simp))
              refine hK.out _ _ ?_ (fun hHeld => ?_)
              · exact ⟨(hbA.cell (p := ⟨w2.heap.size, 0, none⟩) hq6).trans r0, (hbA.cell (p := ⟨w2.heap.size, 1, none⟩) hq6).trans r1, (hbA.cell (p := ⟨w2.heap.size, 2, none⟩) hq6).trans r2⟩
              clear hK K
              try simp only [Act.put, List.setIfInBounds_toArray, List.set_cons_zero, List.set_cons_succ]
              refine wpAnyH_ready (rs := [7]) (by kernel_rfl) (by simp) ?_
              refine AllReadyH.cons (by simp only [List.getElem?_toArray, List.getElem?_cons_zero, List.getElem?_cons_succ]; rfl) ?_ AllReadyH.nil
              intro K hK
              rw [if_pos (by rfl)]
              refine app_tabsG (B := w6.heap.size) _ _ rfl hbA.size v4 k (P.take k) rfl ownA ⟨w6.heap.size, 0, none⟩ 1 _ [(t, ⟨some ⟨gt, 0, none⟩, ct, none, 0, fun _ => none, fun _ => 0⟩)] rfl rfl ?_ (by omega) ?_
              · intro j u hu
                rw [show hvP [(t, (⟨some ⟨gt, 0, none⟩, ct, none, 0, fun _ => none, fun _ => 0⟩ : TAd))] = [.string nm, .slice (some ⟨gt, 0, none⟩) nc ct, .slice none 0 0] by simp [hvP, headV, HNM.out, HNC.out, HNR.out]] at hu
                match j, hu with
                | 0, hu => simp at hu; subst hu; rw [addr_add]; exact x0
                | 1, hu => simp at hu; subst hu; rw [addr_add]; exact x1
                | 2, hu => simp at hu; subst hu; rw [addr_add]; exact x2
              intro v7 wB ownB hbB0 _ hnB
              have hbB : Below w6.heap.size w6 wB := hbA.trans hbB0
              clear hbB0
              refine hK.out _ _ ?_ (fun hHeld => ?_)
              · exact ⟨(hbB.cell (p := ⟨w2.heap.size, 0, none⟩) hq6).trans r0, (hbB.cell (p := ⟨w2.heap.size, 1, none⟩) hq6).trans r1, (hbB.cell (p := ⟨w2.heap.size, 2, none⟩) hq6).trans r2⟩
              clear hK K
              try simp only [Act.put, List.setIfInBounds_toArray, List.set_cons_zero, List.set_cons_succ]
              refine wpAnyH_ready (rs := [9]) (by kernel_rfl) (by simp) ?_
              refine AllReadyH.cons (by simp only [List.getElem?_toArray, List.getElem?_cons_zero, List.getElem?_cons_succ]; rfl) ?_ AllReadyH.nil
              intro K hK
              rw [if_pos (by rfl)]
              refine app_tabsG (B := w6.heap.size) _ _ rfl hbB.size v7 (k + 1) _ rfl ownB ⟨g6, 0, none⟩ _ _ (P.drop k) rfl (by rw [List.length_drop, HPL.out]; first | done | omega | simp) (src_all HO6.out hbB) (by omega) ?_
              intro v9 wC ownC hbC0 _ _
              have hbC : Below w6.heap.size w6 wC := hbB.trans hbC0
              clear hbC0
              obtain ⟨a9, c9, hv9, hT9, _⟩ := row_tabs ownC (by rw [List.length_append, List.length_append, List.length_take, List.length_drop, HPL.out]; first | (simp; done) | (simp; omega)) (fun p hp => (HPT6.out p hp).below hbC)
              subst hv9
              have FIN : Hid (PairAt w V true (.returned (.tuple #[.slice a9 (k + 1 + 0) c9, .bool true])) wC) := by
                refine ⟨a9, _, c9, ?_, rfl, ?_, chain hx6 hbC⟩
                · rw [HINS.out, List.length_append, List.length_cons, List.length_take, List.length_drop, HN.out]; omega
                · rw [HINS.out, ← HPF.out, ← List.map_take, ← List.map_drop]; simpa using hT9
              refine hK.out _ _ ?_ (fun hHeld => ?_)
              · exact ⟨(hbC.cell (p := ⟨w2.heap.size, 0, none⟩) hq6).trans r0, (hbC.cell (p := ⟨w2.heap.size, 1, none⟩) hq6).trans r1, (hbC.cell (p := ⟨w2.heap.size, 2, none⟩) hq6).trans r2⟩
              clear hK K
              try simp only [Act.put, List.setIfInBounds_toArray, List.set_cons_zero, List.set_cons_succ]
              refine wpAnyH_take (i := 10) (by simp only [List.getElem?_toArray, List.getElem?_cons_zero, List.getElem?_cons_succ]; rfl) (by kernel_rfl) (by kernel_rfl) (by kernel_rfl) (by intro _ _ _ h; exact h) (Or.inl ⟨by rfl, fun w hSw => by (dsimp only at hSw; go_simp; (try with_reducible rfl))⟩) (by assumption) ?_
              simp only [Act.put, List.setIfInBounds_toArray, List.set_cons_zero, List.set_cons_succ]
              refine wpAnyH_take (i := 11) (by simp only [List.getElem?_toArray, List.getElem?_cons_zero, List.getElem?_cons_succ]; rfl) (by kernel_rfl) (by kernel_rfl) (by kernel_rfl) (by intro _ _ _ h; exact h) (Or.inl ⟨by rfl, fun w hSw => by (dsimp only at hSw; go_simp; (try with_reducible rfl))⟩) (by assumption) ?_
              simp only [Act.put, List.setIfInBounds_toArray, List.set_cons_zero, List.set_cons_succ]
              refine wpAnyH_done (by kernel_rfl) ?_ _
              clear ownA ownB ownC hbA hbB hbC hT9
              go_wp2
              exact bodyPost_ret (v := .tuple #[.slice a9 (k + 1 + 0) c9, .bool true]) (by simp [results, Tryz.results7, go_sem]) rfl FIN.out
end Go.Proofs.YteamdmcgkpeelakGreat
