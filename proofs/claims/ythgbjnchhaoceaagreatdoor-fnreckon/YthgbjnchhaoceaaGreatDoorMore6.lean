/-
  A part of the proof: RkDraw, Law1, RkLaw, MayI.
-/
import Derived.Test.YthgbjnchhaoceaaGreatDoorMore3
import Derived.Test.YthgbjnchhaoceaaGreatDoorMore5
import Derived.Test.YthgbjnchhaoceaaGreatDoorMore1
import Derived.Deep.RegionHeld3
import Derived.Test.YthgbjnchhaoceaaGreatDoorPart9
import Derived.Test.YthgbjnchhaoceaaGreatDoorPart12
import Derived.Test.YthgbjnchhaoceaaGreatDoorPart15

/-
  The contract of the model's draw of what is reckoned: a sum, columns and a row.
-/
namespace Go.Proofs.YthgbjnchhaoceaaGreatDoor
open Go.ChangeShapes Go.WideShapes Go.ChangeAt Go.RowKit
attribute [local go_sem ↓] Go.wp_at_zero Go.wp_at_succ
attribute [local simp] World.cell?_alloc_past World.cell?_alloc_at World.frozen?_alloc_at cell_far cell_off cell_here World.frozen?_alloc_past

theorem itm_keepC {w w' : World} {c g : Nat} {l : List TI} (h : ItmAt w (some ⟨g, 0, none⟩) l) (hk : Keep c w w') (hne : g ≠ c) : ItmAt w' (some ⟨g, 0, none⟩) l := by
  intro j hj
  obtain ⟨b, o, e, hlt, c0, c1, c2, c3, c4⟩ := h j hj
  simp only [Option.some.injEq, Addr.mk.injEq, and_true] at e
  obtain ⟨rfl, rfl⟩ := e
  exact ⟨g, 0, rfl, Nat.lt_of_lt_of_le hlt hk.size, (hk.cell hlt hne).trans c0, (hk.cell hlt hne).trans c1, (hk.cell hlt hne).trans c2, (hk.cell hlt hne).trans c3, (hk.cell hlt hne).trans c4⟩
theorem cells3n9 (w : World) (x y z : Value) (T : TypeId) : ∀ j u, [x, y, z][j]? = some u → (w.alloc (.cells #[x, y, z] T)).cell? ((⟨w.heap.size, 0, none⟩ : Addr).add j) = some u := by
  intro j u hj
  match j, hj with
  | 0, hj => simp at hj; subst hj; simp [Addr.add]
  | 1, hj => simp at hj; subst hj; simp [Addr.add]
  | 2, hj => simp at hj; subst hj; simp [Addr.add]
/-- What is drawn to be reckoned: three lists, each in its own block. -/
def Drawn9 (e : Ending) (w' : World) : Prop :=
  ∃ (g n c : Nat) (l : List TI) (gc m cc : Nat) (C : List ByteArray) (gr q rc : Nat) (R : List CT), e = .returned (.tuple #[.slice (some ⟨g, 0, none⟩) n c, .slice (some ⟨gc, 0, none⟩) m cc, .slice (some ⟨gr, 0, none⟩) q rc]) ∧ l.length = n ∧ C.length = m ∧ R.length = q ∧ n ≤ 16 ∧ m ≤ 4 ∧ q ≤ 5 ∧ FitD l ∧ (∀ x ∈ C, x.size ≤ 7) ∧ Fit R ∧
    ItmAt w' (some ⟨g, 0, none⟩) l ∧ StrsAt w' (some ⟨gc, 0, none⟩) C ∧ RowAt w' (some ⟨gr, 0, none⟩) R
set_option maxRecDepth 100000 in
set_option maxHeartbeats 4000000 in
theorem draw9 {w : World} {c : Nat} {a : Option Addr} {len cap : Nat} (h : Cur w c a len cap) :
    Calls Tryz.prog 36 #[.pointer (some ⟨c, 0, none⟩)] w fun e w' => Drawn9 e w' ∧ Keep c w w' := by
  obtain ⟨iC, hiC, hc0, hc1, hc2⟩ := info_parts infoCelD
  have HC : Hid (Cur w c a len cap) := h
  have hcw := h.lt
  clear h
  go_enter Tryz.func36, Tryz.ntmps36
  go_wp2_with fail
  refine (tab_draw1 HC.out ⟨#[116]⟩ (by decide)).mono ?_
  rintro e w1 ⟨nm, vc, vr, C, L, hCp, hC7, rfl, hnm, hSz, hOc, ⟨G, D, hOr⟩, hc1', hk1⟩
  obtain ⟨gc, kc, hvc⟩ : ∃ gc kc, vc = .slice (some ⟨gc, 0, none⟩) C.length kc := by
    rcases hOc.2 with ⟨_, h2⟩ | ⟨g, k, cur, h', _⟩
    · omega
    · exact ⟨g, k, h'⟩
  subst hvc
  obtain ⟨ar, nr, cr, hvr⟩ : ∃ ar nr cr, vr = .slice ar nr cr := by
    rcases hOr.outer.2 with ⟨h1, _⟩ | ⟨g, k, cur, h', _⟩
    · exact ⟨none, 0, 0, h1⟩
    · exact ⟨_, _, _, h'⟩
  subst hvr
  clear hOr
  have hC4 := hSz.cl
  have C1 : Hid (Cur w1 c a len cap) := hc1'
  have HC7 : Hid (∀ x ∈ C, x.size ≤ 7) := hC7
  have O1 : Hid (w1.ownsRow w.heap.size 9 1 (.slice (some ⟨gc, 0, none⟩) C.length kc) C.length (strV C)) := hOc
  obtain ⟨m, hm⟩ : ∃ m, C.length = m := ⟨_, rfl⟩
  have HM : Hid (C.length = m) := hm
  rw [hm] at hCp hC4 O1 ⊢
  have hgc := O1.out.lt gc rfl
  clear hC7 hSz hOc hc1' hm
  go_wp2_with fail
  obtain ⟨V, hV⟩ : ∃ V, V = w1.alloc (.cells #[.string nm, .slice (some ⟨gc, 0, none⟩) m kc, .slice ar nr cr] 90) := ⟨_, rfl⟩
  obtain ⟨TB, hTB⟩ : ∃ B, w1.heap.size = B := ⟨_, rfl⟩
  have hsz1 := hk1.size
  have t1 : V.cell? ⟨TB, 1, none⟩ = some (.slice (some ⟨gc, 0, none⟩) m kc) := by rw [hV, ← hTB]; simp
  have hTV : TB < V.heap.size := by rw [hV, ← hTB]; simp
  have hTc : TB ≠ c := by omega
  have hgcc : gc ≠ c := by omega
  have CV : Hid (Cur V c a len cap) := by
    have : Cur V c a len cap := by rw [hV]; exact C1.out.alloc _
    exact this
  have SV : Hid (StrsAt V (some ⟨gc, 0, none⟩) C) := by
    have : StrsAt V (some ⟨gc, 0, none⟩) C := by
      rw [hV]
      exact own_strs (cap := kc) (base := w.heap.size) (e := 9) (by rw [HM.out]; exact O1.out.alloc _)
    exact this
  have hkV : Keep c w V := by rw [hV]; exact hk1.alloc _
  rw [← hV]
  try rw [hTB]
  clear hV hTB C1 O1 hk1 hgc hsz1
  have HNE : Hid (∀ b o, (some ⟨gc, 0, none⟩ : Option Addr) = some ⟨b, o, none⟩ → b ≠ c) := by
    have : ∀ b o, (some ⟨gc, 0, none⟩ : Option Addr) = some ⟨b, o, none⟩ → b ≠ c := fun b o e => by
      simp only [Option.some.injEq, Addr.mk.injEq, and_true] at e
      omega
    exact this
  refine wp_region_held_drew (S := (fun w' => w'.cell? ⟨TB, 1, none⟩ = some (.slice (some ⟨gc, 0, none⟩) m kc))) (by kernel_rfl) ?_ (fun hHeld => ?_)
  · exact t1
  refine wpAnyH_take (i := 0) (by simp only [List.getElem?_toArray, List.getElem?_cons_zero]; rfl) (by kernel_rfl) (by kernel_rfl) (by kernel_rfl) (by intro _ _ _ h; exact h) (Or.inl ⟨by rfl, fun w hSw => by (dsimp only at hSw; go_simp; (try with_reducible rfl))⟩) (by assumption) ?_
  simp only [Act.put, List.setIfInBounds_toArray, List.set_cons_zero, List.set_cons_succ]
  refine wpAnyH_take (i := 1) (by simp only [List.getElem?_toArray, List.getElem?_cons_zero, List.getElem?_cons_succ]; rfl) (by kernel_rfl) (by kernel_rfl) (by kernel_rfl) (by intro _ _ _ h; exact h) (Or.inl ⟨by rfl, fun w hSw => by (dsimp only at hSw; go_simp; (try with_reducible rfl))⟩) (by assumption) ?_
  simp only [Act.put, List.setIfInBounds_toArray, List.set_cons_zero, List.set_cons_succ]
  refine wpAnyH_take (i := 2) (by simp only [List.getElem?_toArray, List.getElem?_cons_zero, List.getElem?_cons_succ]; rfl) (by kernel_rfl) (by kernel_rfl) (by kernel_rfl) (by intro _ _ _ h; exact h) (Or.inl ⟨by rfl, fun w hSw => by (dsimp only at hSw; go_simp; (try with_reducible rfl))⟩) (by assumption) ?_
  simp only [Act.put, List.setIfInBounds_toArray, List.set_cons_zero, List.set_cons_succ]
  refine wpAnyH_take (i := 3) (by simp only [List.getElem?_toArray, List.getElem?_cons_zero, List.getElem?_cons_succ]; rfl) (by kernel_rfl) (by kernel_rfl) (by kernel_rfl) (by intro _ _ _ h; exact h) (Or.inl ⟨by rfl, fun w hSw => by (dsimp only at hSw; go_simp; (try with_reducible rfl))⟩) (by assumption) ?_
  simp only [Act.put, List.setIfInBounds_toArray, List.set_cons_zero, List.set_cons_succ]
  refine wpAnyH_ready (rs := [4]) (by kernel_rfl) (by simp) ?_
  refine AllReadyH.cons (by simp only [List.getElem?_toArray, List.getElem?_cons_zero, List.getElem?_cons_succ]; rfl) ?_ AllReadyH.nil
  intro K hK
  go_simp
  refine (once_draw CV.out.drew 2 (by omega) (by omega)).mono ?_
  rintro e w2 ⟨b, rfl, hc2, hk2⟩
  have hk2' : Keep c V w2 := ((Keep.refl c V).drew).trans hk2
  have t2 : w2.cell? ⟨TB, 1, none⟩ = some (.slice (some ⟨gc, 0, none⟩) m kc) := (hk2'.cell hTV hTc).trans t1
  have S2 : Hid (StrsAt w2 (some ⟨gc, 0, none⟩) C) := strs_keepC SV.out hk2' HNE.out
  have C2 : Hid (Cur w2 c a len cap) := hc2
  have hkW2 := hkV.trans hk2'
  have hT2 : TB < w2.heap.size := Nat.lt_of_lt_of_le hTV hk2'.size
  clear hc2 hk2 hk2' SV CV hkV t1 hTV hHeld
  go_wp2_with fail
  refine hK.out _ _ t2 (fun hHeld => ?_)
  clear hK K
  try simp only [Act.put, List.setIfInBounds_toArray, List.set_cons_zero, List.set_cons_succ]
  refine wpAnyH_ready (rs := [5]) (by kernel_rfl) (by simp) ?_
  refine AllReadyH.cons (by simp only [List.getElem?_toArray, List.getElem?_cons_zero, List.getElem?_cons_succ]; rfl) ?_ AllReadyH.nil
  intro K hK
  go_simp
  refine (sum_draw 3 b w2 C _ m kc HM.out hCp (by omega) (fun x hx => Nat.le_trans (HC7.out x hx) (by omega)) S2.out HNE.out (by omega) (by omega) C2.out).mono ?_
  rintro e w3 ⟨v, l, rfl, hD, h1, h2, hF, hc3, hk3⟩
  obtain ⟨gl, cl, hv⟩ := hD.form
  subst hv
  have hgl : w2.heap.size ≤ gl := (hD.1.lt gl rfl).1
  have I3 : Hid (ItmAt w3 (some ⟨gl, 0, none⟩) l) := ownItm hD.1
  have F3 : Hid (FitD l) := hF
  obtain ⟨n, hn⟩ : ∃ n, l.length = n := ⟨_, rfl⟩
  have HN : Hid (l.length = n) := hn
  rw [hn] at h1 h2 ⊢
  have hn16 : n ≤ 16 := by omega
  have hglc : gl ≠ c := by have := hkW2.size; omega
  have t3 : w3.cell? ⟨TB, 1, none⟩ = some (.slice (some ⟨gc, 0, none⟩) m kc) := (hk3.cell hT2 hTc).trans t2
  have S3 : Hid (StrsAt w3 (some ⟨gc, 0, none⟩) C) := strs_keepC S2.out hk3 HNE.out
  have C3 : Hid (Cur w3 c a len cap) := hc3
  have hkW3 := hkW2.trans hk3
  have hT3 : TB < w3.heap.size := Nat.lt_of_lt_of_le hT2 hk3.size
  clear hD hF hn h1 h2 hc3 hk3 S2 C2 hkW2 t2 hT2 hHeld hgl
  go_wp2_with fail
  refine hK.out _ _ t3 (fun hHeld => ?_)
  clear hK K
  try simp only [Act.put, List.setIfInBounds_toArray, List.set_cons_zero, List.set_cons_succ]
  refine wpAnyH_take (i := 6) (by simp only [List.getElem?_toArray, List.getElem?_cons_zero, List.getElem?_cons_succ]; rfl) (by kernel_rfl) (by kernel_rfl) (by kernel_rfl) (by intro _ _ _ h; exact h) (Or.inl ⟨by rfl, fun w hSw => by (dsimp only at hSw; go_simp; (try with_reducible rfl))⟩) (by assumption) ?_
  simp only [Act.put, List.setIfInBounds_toArray, List.set_cons_zero, List.set_cons_succ]
  refine wpAnyH_done (by kernel_rfl) ?_ _
  clear hHeld
  go_wp2_with fail
  refine (once_draw C3.out 10 (by omega) (by omega)).mono ?_
  rintro e w4 ⟨b2, rfl, hc4, hk4⟩
  have t4 : w4.cell? ⟨TB, 1, none⟩ = some (.slice (some ⟨gc, 0, none⟩) m kc) := (hk4.cell hT3 hTc).trans t3
  have S4 : Hid (StrsAt w4 (some ⟨gc, 0, none⟩) C) := strs_keepC S3.out hk4 HNE.out
  have I4 : Hid (ItmAt w4 (some ⟨gl, 0, none⟩) l) := itm_keepC I3.out hk4 hglc
  have C4 : Hid (Cur w4 c a len cap) := hc4
  have hkW4 := hkW3.trans hk4
  have hT4 : TB < w4.heap.size := Nat.lt_of_lt_of_le hT3 hk4.size
  clear hc4 hk4 S3 C3 hkW3 t3 hT3 I3
  cases b2
  · have own0 : Hid ((w4.alloc (.cells #[] 30)).ownsRow w4.heap.size 30 3 (.slice (some ⟨w4.heap.size, 0, none⟩) 0 0) 0 [] ∧ Cur (w4.alloc (.cells #[] 30)) c a len cap) :=
      ⟨⟨rfl, .inr ⟨w4.heap.size, 0, #[], rfl, Nat.le_refl _, by show (w4.heap.push _)[w4.heap.size]? = _; simp, Nat.le_refl _, by unfold maxLen; omega, rfl, rfl⟩⟩, C4.out.alloc _⟩
    have hcq : c < w4.heap.size := Nat.lt_of_lt_of_le hcw hkW4.size
    clear C4
    go_wp2_with fail
    go_loopw [7, 8] (fun v ii wz => ∃ k : Nat, ii = .int .i64 k ∧ k ≤ m ∧ v ≠ .slice none 0 0 ∧ Hid (∃ R : List CT, R.length = k ∧ Fit R ∧ wz.ownsRow w4.heap.size 30 3 v R.length (flat R) ∧ Cur wz c a len cap ∧ Keep c w4 wz)) (fun _ ii _ => m - (intOf ii).toNat)
    case atStart => exact ⟨0, rfl, Nat.zero_le _, by simp, [], rfl, fun j hj => by simp at hj, own0.out.1, own0.out.2, (Keep.refl c w4).alloc _⟩
    case round =>
      obtain ⟨k, rfl, hk, hvn, hP⟩ := hrel
      clear own0
      obtain ⟨R, hR, hFR, ownR, hcuR, hkR⟩ := hP.out
      have HFR : Hid (Fit R) := hFR
      have HRL : Hid (R.length = k) := hR
      have OR : Hid (wr.ownsRow w4.heap.size 30 3 _ R.length (flat R)) := ownR
      have CR : Hid (Cur wr c a len cap) := hcuR
      have KR : Hid (Keep c w4 wr) := hkR
      have hszR := hkR.size
      have tr : wr.cell? ⟨TB, 1, none⟩ = some (.slice (some ⟨gc, 0, none⟩) m kc) := (hkR.cell hT4 hTc).trans t4
      clear hP hR hFR ownR hcuR hkR
      by_cases hlt : k < m
      · have q5 : (k : Int) < (m : Int) := by omega
        go_wp2_with fail
        refine (cell8_draw CR.out).mono ?_
        rintro e w7 ⟨k1, n1, u1, rfl, hu1, hc7, hk7⟩
        have own7 := own_keep OR.out hk7 hcq
        have K7 := KR.out.trans hk7
        have hs7 := K7.size
        have C7 : Hid (Cur w7 c a len cap) := hc7
        clear tr
        go_wp2_with (at_builtin; refine wpList_append_own _ rfl _ _ 26 rfl w4.heap.size 30 iC (.agg #[.int .i64 0, .int .i64 0, .string ⟨#[]⟩]) 3 32 Tryz.underlying26 hiC hc0 hc1 hc2 rfl (by decide) _ _ _ rfl (own7.alloc _) ⟨w7.heap.size, 0, none⟩ 1 1 [.int .i64 k1, .int .i64 n1, .string u1] rfl rfl (cells3n9 w7 _ _ _ _) (by intro u hu; simp at hu; rcases hu with rfl | rfl | rfl <;> rfl) (by rw [HRL.out]; unfold maxLen; omega) (by rw [HRL.out]; omega) (by simp; omega) ?_)
        intro v' w8 own8 hgrow hnn
        have hb8 : Below w4.heap.size w7 w8 := ((Below.refl w4.heap.size w7).alloc hs7 _).grown hgrow (by simp; omega) (fun kk hkk => (own7.lt kk hkk).1)
        have hv8 : v' ≠ .slice none 0 0 := by first | exact hnn | exact fun e => hvn (hnn.1 e).1
        have fin : Hid (∃ R : List CT, R.length = k + 1 ∧ Fit R ∧ w8.ownsRow w4.heap.size 30 3 v' R.length (flat R) ∧ Cur w8 c a len cap ∧ Keep c w4 w8) := by
          refine ⟨R ++ [(k1, n1, u1)], by rw [← HRL.out]; simp, HFR.out.append hu1, ?_, C7.out.far hb8 (by omega), K7.far hb8 (Nat.le_refl _)⟩
          rw [flat_append, List.length_append]
          exact own8
        clear own8 hgrow hnn own7 C7 OR CR hc7 hk7 hb8
        go_wp2
        go_roundw
        case rel => exact ⟨k + 1, by go_num, by omega, hv8, fin.out⟩
        case measure => simp [intOf]; omega
      · have hkm : k = m := by omega
        subst hkm
        have q5 : ¬ ((k : Int) < (k : Int)) := by omega
        obtain ⟨gr, kr, rfl, hgr, _⟩ := own_form OR.out hvn
        rw [HRL.out] at OR ⊢
        go_wp2_with fail
        refine (once_draw CR.out 14 (by omega) (by omega)).mono ?_
        rintro e w7 ⟨b3, rfl, hc7, hk7⟩
        have own7 : Hid (w7.ownsRow w4.heap.size 30 3 (.slice (some ⟨gr, 0, none⟩) k kr) k (flat R)) := own_keep OR.out hk7 hcq
        have K7 := KR.out.trans hk7
        have t7 : w7.cell? ⟨TB, 1, none⟩ = some (.slice (some ⟨gc, 0, none⟩) k kc) := (K7.cell hT4 hTc).trans t4
        have C7 : Hid (Cur w7 c a len cap) := hc7
        have hs7 := K7.size
        clear tr OR CR KR hc7 hk7
        cases b3
        · have I7 : Hid (ItmAt w7 (some ⟨gl, 0, none⟩) l) := itm_keepC I4.out K7 hglc
          have S7 : Hid (StrsAt w7 (some ⟨gc, 0, none⟩) C) := strs_keepC S4.out K7 HNE.out
          have R7 : Hid (RowAt w7 (some ⟨gr, 0, none⟩) R) := own_row (cap := kr) (base := w4.heap.size) (e := 30) (by rw [HRL.out]; exact own7.out)
          have hkF := hkW4.trans K7
          clear I4 S4 own7 C7
          go_wp2_with fail
          refine wp_region_held_drew (S := (fun w' => w'.cell? ⟨TB, 1, none⟩ = some (.slice (some ⟨gc, 0, none⟩) k kc))) (by kernel_rfl) ?_ (fun hHeld => ?_)
          · exact t7
          refine wpAnyH_take (i := 0) (by simp only [List.getElem?_toArray, List.getElem?_cons_zero]; rfl) (by kernel_rfl) (by kernel_rfl) (by kernel_rfl) (by intro _ _ _ h; exact h) (Or.inl ⟨by rfl, fun w hSw => by (dsimp only at hSw; go_simp; (try with_reducible rfl))⟩) (by assumption) ?_
          simp only [Act.put, List.setIfInBounds_toArray, List.set_cons_zero, List.set_cons_succ]
          refine wpAnyH_take (i := 1) (by simp only [List.getElem?_toArray, List.getElem?_cons_zero, List.getElem?_cons_succ]; rfl) (by kernel_rfl) (by kernel_rfl) (by kernel_rfl) (by intro _ _ _ h; exact h) (Or.inl ⟨by rfl, fun w hSw => by (dsimp only at hSw; go_simp; (try with_reducible rfl))⟩) (by assumption) ?_
          simp only [Act.put, List.setIfInBounds_toArray, List.set_cons_zero, List.set_cons_succ]
          refine wpAnyH_take (i := 2) (by simp only [List.getElem?_toArray, List.getElem?_cons_zero, List.getElem?_cons_succ]; rfl) (by kernel_rfl) (by kernel_rfl) (by kernel_rfl) (by intro _ _ _ h; exact h) (Or.inl ⟨by rfl, fun w hSw => by (dsimp only at hSw; go_simp; (try with_reducible rfl))⟩) (by assumption) ?_
          simp only [Act.put, List.setIfInBounds_toArray, List.set_cons_zero, List.set_cons_succ]
          refine wpAnyH_take (i := 3) (by simp only [List.getElem?_toArray, List.getElem?_cons_zero, List.getElem?_cons_succ]; rfl) (by kernel_rfl) (by kernel_rfl) (by kernel_rfl) (by intro _ _ _ h; exact h) (Or.inl ⟨by rfl, fun w hSw => by (dsimp only at hSw; go_simp; (try with_reducible rfl))⟩) (by assumption) ?_
          simp only [Act.put, List.setIfInBounds_toArray, List.set_cons_zero, List.set_cons_succ]
          refine wpAnyH_take (i := 4) (by simp only [List.getElem?_toArray, List.getElem?_cons_zero, List.getElem?_cons_succ]; rfl) (by kernel_rfl) (by kernel_rfl) (by kernel_rfl) (by intro _ _ _ h; exact h) (Or.inl ⟨by rfl, fun w hSw => by (dsimp only at hSw; go_simp; (try with_reducible rfl))⟩) (by assumption) ?_
          simp only [Act.put, List.setIfInBounds_toArray, List.set_cons_zero, List.set_cons_succ]
          refine wpAnyH_take (i := 5) (by simp only [List.getElem?_toArray, List.getElem?_cons_zero, List.getElem?_cons_succ]; rfl) (by kernel_rfl) (by kernel_rfl) (by kernel_rfl) (by intro _ _ _ h; exact h) (Or.inl ⟨by rfl, fun w hSw => by (dsimp only at hSw; go_simp; (try with_reducible rfl))⟩) (by assumption) ?_
          simp only [Act.put, List.setIfInBounds_toArray, List.set_cons_zero, List.set_cons_succ]
          refine wpAnyH_take (i := 6) (by simp only [List.getElem?_toArray, List.getElem?_cons_zero, List.getElem?_cons_succ]; rfl) (by kernel_rfl) (by kernel_rfl) (by kernel_rfl) (by intro _ _ _ h; exact h) (Or.inl ⟨by rfl, fun w hSw => by (dsimp only at hSw; go_simp; (try with_reducible rfl))⟩) (by assumption) ?_
          simp only [Act.put, List.setIfInBounds_toArray, List.set_cons_zero, List.set_cons_succ]
          refine wpAnyH_done (by kernel_rfl) ?_ _
          go_wp2
          go_ret3
          exact ⟨⟨gl, n, cl, l, gc, k, kc, C, gr, k, kr, R, rfl, HN.out, HM.out, HRL.out, by omega, by omega, by omega, F3.out, HC7.out, HFR.out, I7.out, S7.out, R7.out⟩, hkF.drew⟩
        · go_wp2_with fail
          refine (any_draw C7.out).mono ?_
          rintro e w8 hD8
          obtain ⟨k1, n1, u1, rfl, hu1, hc8, hk8⟩ := hD8
          have own8 : Hid (w8.ownsRow w4.heap.size 30 3 (.slice (some ⟨gr, 0, none⟩) k kr) k (flat R)) := own_keep own7.out hk8 hcq
          have K8 := K7.trans hk8
          have hs8 := K8.size
          clear own7 C7 hk8 hc8 t7 K7 hs7
          go_wp2_with (at_builtin; refine wpList_append_own _ rfl _ _ 26 rfl w4.heap.size 30 iC (.agg #[.int .i64 0, .int .i64 0, .string ⟨#[]⟩]) 3 32 Tryz.underlying26 hiC hc0 hc1 hc2 rfl (by decide) _ _ _ rfl (own8.out.alloc _) ⟨w8.heap.size, 0, none⟩ 1 1 [.int .i64 k1, .int .i64 n1, .string u1] rfl rfl (cells3n9 w8 _ _ _ _) (by intro u hu; simp at hu; rcases hu with rfl | rfl | rfl <;> rfl) (by unfold maxLen; omega) (by omega) (by simp; omega) ?_)
          intro v' w9 own9 hgrow hnn
          have hb9 : Below w4.heap.size w8 w9 := ((Below.refl w4.heap.size w8).alloc hs8 _).grown hgrow (by simp; omega) (fun kk hkk => (own8.out.lt kk hkk).1)
          have hv9 : v' ≠ .slice none 0 0 := by first | exact hnn | exact fun e => by have := (hnn.1 e).1; cases this
          have K9 : Keep c w4 w9 := K8.far hb9 (Nat.le_refl _)
          have t9 : w9.cell? ⟨TB, 1, none⟩ = some (.slice (some ⟨gc, 0, none⟩) k kc) := (K9.cell hT4 hTc).trans t4
          have HRL9 : Hid ((R ++ [(k1, n1, u1)]).length = k + 1) := by
            have : (R ++ [(k1, n1, u1)]).length = k + 1 := by simp [HRL.out]
            exact this
          have O9 : Hid (w9.ownsRow w4.heap.size 30 3 v' (R ++ [(k1, n1, u1)]).length (flat (R ++ [(k1, n1, u1)]))) := by
            rw [flat_append, HRL9.out]
            exact own9
          have F9 : Hid (Fit (R ++ [(k1, n1, u1)])) := HFR.out.append hu1
          obtain ⟨g9, c9, rfl, hg9, _⟩ := own_form O9.out hv9
          have R9 : Hid (RowAt w9 (some ⟨g9, 0, none⟩) (R ++ [(k1, n1, u1)])) := own_row (cap := c9) (base := w4.heap.size) (e := 30) O9.out
          rw [HRL9.out]
          have I9 : Hid (ItmAt w9 (some ⟨gl, 0, none⟩) l) := itm_keepC I4.out K9 hglc
          have S9 : Hid (StrsAt w9 (some ⟨gc, 0, none⟩) C) := strs_keepC S4.out K9 HNE.out
          have hkF := hkW4.trans K9
          obtain ⟨R', hR'⟩ : ∃ R', R ++ [(k1, n1, u1)] = R' := ⟨_, rfl⟩
          rw [hR'] at R9 HRL9 F9
          clear I4 S4 own8 own9 hgrow hnn hb9 K8 K9 O9 hR'
          go_wp2_with fail
          refine wp_region_held_drew (S := (fun w' => w'.cell? ⟨TB, 1, none⟩ = some (.slice (some ⟨gc, 0, none⟩) k kc))) (by kernel_rfl) ?_ (fun hHeld => ?_)
          · exact t9
          refine wpAnyH_take (i := 0) (by simp only [List.getElem?_toArray, List.getElem?_cons_zero]; rfl) (by kernel_rfl) (by kernel_rfl) (by kernel_rfl) (by intro _ _ _ h; exact h) (Or.inl ⟨by rfl, fun w hSw => by (dsimp only at hSw; go_simp; (try with_reducible rfl))⟩) (by assumption) ?_
          simp only [Act.put, List.setIfInBounds_toArray, List.set_cons_zero, List.set_cons_succ]
          refine wpAnyH_take (i := 1) (by simp only [List.getElem?_toArray, List.getElem?_cons_zero, List.getElem?_cons_succ]; rfl) (by kernel_rfl) (by kernel_rfl) (by kernel_rfl) (by intro _ _ _ h; exact h) (Or.inl ⟨by rfl, fun w hSw => by (dsimp only at hSw; go_simp; (try with_reducible rfl))⟩) (by assumption) ?_
          simp only [Act.put, List.setIfInBounds_toArray, List.set_cons_zero, List.set_cons_succ]
          refine wpAnyH_take (i := 2) (by simp only [List.getElem?_toArray, List.getElem?_cons_zero, List.getElem?_cons_succ]; rfl) (by kernel_rfl) (by kernel_rfl) (by kernel_rfl) (by intro _ _ _ h; exact h) (Or.inl ⟨by rfl, fun w hSw => by (dsimp only at hSw; go_simp; (try with_reducible rfl))⟩) (by assumption) ?_
          simp only [Act.put, List.setIfInBounds_toArray, List.set_cons_zero, List.set_cons_succ]
          refine wpAnyH_take (i := 3) (by simp only [List.getElem?_toArray, List.getElem?_cons_zero, List.getElem?_cons_succ]; rfl) (by kernel_rfl) (by kernel_rfl) (by kernel_rfl) (by intro _ _ _ h; exact h) (Or.inl ⟨by rfl, fun w hSw => by (dsimp only at hSw; go_simp; (try with_reducible rfl))⟩) (by assumption) ?_
          simp only [Act.put, List.setIfInBounds_toArray, List.set_cons_zero, List.set_cons_succ]
          refine wpAnyH_take (i := 4) (by simp only [List.getElem?_toArray, List.getElem?_cons_zero, List.getElem?_cons_succ]; rfl) (by kernel_rfl) (by kernel_rfl) (by kernel_rfl) (by intro _ _ _ h; exact h) (Or.inl ⟨by rfl, fun w hSw => by (dsimp only at hSw; go_simp; (try with_reducible rfl))⟩) (by assumption) ?_
          simp only [Act.put, List.setIfInBounds_toArray, List.set_cons_zero, List.set_cons_succ]
          refine wpAnyH_take (i := 5) (by simp only [List.getElem?_toArray, List.getElem?_cons_zero, List.getElem?_cons_succ]; rfl) (by kernel_rfl) (by kernel_rfl) (by kernel_rfl) (by intro _ _ _ h; exact h) (Or.inl ⟨by rfl, fun w hSw => by (dsimp only at hSw; go_simp; (try with_reducible rfl))⟩) (by assumption) ?_
          simp only [Act.put, List.setIfInBounds_toArray, List.set_cons_zero, List.set_cons_succ]
          refine wpAnyH_take (i := 6) (by simp only [List.getElem?_toArray, List.getElem?_cons_zero, List.getElem?_cons_succ]; rfl) (by kernel_rfl) (by kernel_rfl) (by kernel_rfl) (by intro _ _ _ h; exact h) (Or.inl ⟨by rfl, fun w hSw => by (dsimp only at hSw; go_simp; (try with_reducible rfl))⟩) (by assumption) ?_
          simp only [Act.put, List.setIfInBounds_toArray, List.set_cons_zero, List.set_cons_succ]
          refine wpAnyH_done (by kernel_rfl) ?_ _
          go_wp2
          go_ret3
          exact ⟨⟨gl, n, cl, l, gc, k, kc, C, g9, k + 1, c9, R', rfl, HN.out, HM.out, HRL9.out, by omega, by omega, by omega, F3.out, HC7.out, F9.out, I9.out, S9.out, R9.out⟩, hkF.drew⟩
  go_wp2_with fail
  refine (any8 C4.out).mono ?_
  rintro e w5 ⟨v, l', rfl, ⟨gl', cl', rfl, hgl', hI5⟩, hl16, hF5, hc5, hk5⟩
  have t5 : w5.cell? ⟨TB, 1, none⟩ = some (.slice (some ⟨gc, 0, none⟩) m kc) := (hk5.cell hT4 hTc).trans t4
  have S5 : Hid (StrsAt w5 (some ⟨gc, 0, none⟩) C) := strs_keepC S4.out hk5 HNE.out
  have I5 : Hid (ItmAt w5 (some ⟨gl', 0, none⟩) l') := hI5
  have F5 : Hid (FitD l') := hF5
  have C5 : Hid (Cur w5 c a len cap) := hc5
  obtain ⟨n', hn'⟩ : ∃ n, l'.length = n := ⟨_, rfl⟩
  have HN5 : Hid (l'.length = n') := hn'
  rw [hn'] at hl16 ⊢
  have hglc5 : gl' ≠ c := by have := hkW4.size; omega
  have hkW5 := hkW4.trans hk5
  have hT5 : TB < w5.heap.size := Nat.lt_of_lt_of_le hT4 hk5.size
  clear hc5 hk5 S4 C4 hkW4 t4 hT4 I4 hI5 hF5 hn' hgl'
  have own0 : Hid ((w5.alloc (.cells #[] 30)).ownsRow w5.heap.size 30 3 (.slice (some ⟨w5.heap.size, 0, none⟩) 0 0) 0 [] ∧ Cur (w5.alloc (.cells #[] 30)) c a len cap) :=
    ⟨⟨rfl, .inr ⟨w5.heap.size, 0, #[], rfl, Nat.le_refl _, by show (w5.heap.push _)[w5.heap.size]? = _; simp, Nat.le_refl _, by unfold maxLen; omega, rfl, rfl⟩⟩, C5.out.alloc _⟩
  have hcq : c < w5.heap.size := Nat.lt_of_lt_of_le hcw hkW5.size
  clear C5
  go_wp2_with fail
  go_loopw [7, 8] (fun v ii wz => ∃ k : Nat, ii = .int .i64 k ∧ k ≤ m ∧ v ≠ .slice none 0 0 ∧ Hid (∃ R : List CT, R.length = k ∧ Fit R ∧ wz.ownsRow w5.heap.size 30 3 v R.length (flat R) ∧ Cur wz c a len cap ∧ Keep c w5 wz)) (fun _ ii _ => m - (intOf ii).toNat)
  case atStart => exact ⟨0, rfl, Nat.zero_le _, by simp, [], rfl, fun j hj => by simp at hj, own0.out.1, own0.out.2, (Keep.refl c w5).alloc _⟩
  case round =>
    obtain ⟨k, rfl, hk, hvn, hP⟩ := hrel
    clear own0
    obtain ⟨R, hR, hFR, ownR, hcuR, hkR⟩ := hP.out
    have HFR : Hid (Fit R) := hFR
    have HRL : Hid (R.length = k) := hR
    have OR : Hid (wr.ownsRow w5.heap.size 30 3 _ R.length (flat R)) := ownR
    have CR : Hid (Cur wr c a len cap) := hcuR
    have KR : Hid (Keep c w5 wr) := hkR
    have hszR := hkR.size
    have tr : wr.cell? ⟨TB, 1, none⟩ = some (.slice (some ⟨gc, 0, none⟩) m kc) := (hkR.cell hT5 hTc).trans t5
    clear hP hR hFR ownR hcuR hkR
    by_cases hlt : k < m
    · have q5 : (k : Int) < (m : Int) := by omega
      go_wp2_with fail
      refine (cell8_draw CR.out).mono ?_
      rintro e w7 ⟨k1, n1, u1, rfl, hu1, hc7, hk7⟩
      have own7 := own_keep OR.out hk7 hcq
      have K7 := KR.out.trans hk7
      have hs7 := K7.size
      have C7 : Hid (Cur w7 c a len cap) := hc7
      clear tr
      go_wp2_with (at_builtin; refine wpList_append_own _ rfl _ _ 26 rfl w5.heap.size 30 iC (.agg #[.int .i64 0, .int .i64 0, .string ⟨#[]⟩]) 3 32 Tryz.underlying26 hiC hc0 hc1 hc2 rfl (by decide) _ _ _ rfl (own7.alloc _) ⟨w7.heap.size, 0, none⟩ 1 1 [.int .i64 k1, .int .i64 n1, .string u1] rfl rfl (cells3n9 w7 _ _ _ _) (by intro u hu; simp at hu; rcases hu with rfl | rfl | rfl <;> rfl) (by rw [HRL.out]; unfold maxLen; omega) (by rw [HRL.out]; omega) (by simp; omega) ?_)
      intro v' w8 own8 hgrow hnn
      have hb8 : Below w5.heap.size w7 w8 := ((Below.refl w5.heap.size w7).alloc hs7 _).grown hgrow (by simp; omega) (fun kk hkk => (own7.lt kk hkk).1)
      have hv8 : v' ≠ .slice none 0 0 := by first | exact hnn | exact fun e => hvn (hnn.1 e).1
      have fin : Hid (∃ R : List CT, R.length = k + 1 ∧ Fit R ∧ w8.ownsRow w5.heap.size 30 3 v' R.length (flat R) ∧ Cur w8 c a len cap ∧ Keep c w5 w8) := by
        refine ⟨R ++ [(k1, n1, u1)], by rw [← HRL.out]; simp, HFR.out.append hu1, ?_, C7.out.far hb8 (by omega), K7.far hb8 (Nat.le_refl _)⟩
        rw [flat_append, List.length_append]
        exact own8
      clear own8 hgrow hnn own7 C7 OR CR hc7 hk7 hb8
      go_wp2
      go_roundw
      case rel => exact ⟨k + 1, by go_num, by omega, hv8, fin.out⟩
      case measure => simp [intOf]; omega
    · have hkm : k = m := by omega
      subst hkm
      have q5 : ¬ ((k : Int) < (k : Int)) := by omega
      obtain ⟨gr, kr, rfl, hgr, _⟩ := own_form OR.out hvn
      rw [HRL.out] at OR ⊢
      go_wp2_with fail
      refine (once_draw CR.out 14 (by omega) (by omega)).mono ?_
      rintro e w7 ⟨b3, rfl, hc7, hk7⟩
      have own7 : Hid (w7.ownsRow w5.heap.size 30 3 (.slice (some ⟨gr, 0, none⟩) k kr) k (flat R)) := own_keep OR.out hk7 hcq
      have K7 := KR.out.trans hk7
      have t7 : w7.cell? ⟨TB, 1, none⟩ = some (.slice (some ⟨gc, 0, none⟩) k kc) := (K7.cell hT5 hTc).trans t5
      have C7 : Hid (Cur w7 c a len cap) := hc7
      have hs7 := K7.size
      clear tr OR CR KR hc7 hk7
      cases b3
      · have I7 : Hid (ItmAt w7 (some ⟨gl', 0, none⟩) l') := itm_keepC I5.out K7 hglc5
        have S7 : Hid (StrsAt w7 (some ⟨gc, 0, none⟩) C) := strs_keepC S5.out K7 HNE.out
        have R7 : Hid (RowAt w7 (some ⟨gr, 0, none⟩) R) := own_row (cap := kr) (base := w5.heap.size) (e := 30) (by rw [HRL.out]; exact own7.out)
        have hkF := hkW5.trans K7
        clear I5 S5 own7 C7
        go_wp2_with fail
        refine wp_region_held_drew (S := (fun w' => w'.cell? ⟨TB, 1, none⟩ = some (.slice (some ⟨gc, 0, none⟩) k kc))) (by kernel_rfl) ?_ (fun hHeld => ?_)
        · exact t7
        refine wpAnyH_take (i := 0) (by simp only [List.getElem?_toArray, List.getElem?_cons_zero]; rfl) (by kernel_rfl) (by kernel_rfl) (by kernel_rfl) (by intro _ _ _ h; exact h) (Or.inl ⟨by rfl, fun w hSw => by (dsimp only at hSw; go_simp; (try with_reducible rfl))⟩) (by assumption) ?_
        simp only [Act.put, List.setIfInBounds_toArray, List.set_cons_zero, List.set_cons_succ]
        refine wpAnyH_take (i := 1) (by simp only [List.getElem?_toArray, List.getElem?_cons_zero, List.getElem?_cons_succ]; rfl) (by kernel_rfl) (by kernel_rfl) (by kernel_rfl) (by intro _ _ _ h; exact h) (Or.inl ⟨by rfl, fun w hSw => by (dsimp only at hSw; go_simp; (try with_reducible rfl))⟩) (by assumption) ?_
        simp only [Act.put, List.setIfInBounds_toArray, List.set_cons_zero, List.set_cons_succ]
        refine wpAnyH_take (i := 2) (by simp only [List.getElem?_toArray, List.getElem?_cons_zero, List.getElem?_cons_succ]; rfl) (by kernel_rfl) (by kernel_rfl) (by kernel_rfl) (by intro _ _ _ h; exact h) (Or.inl ⟨by rfl, fun w hSw => by (dsimp only at hSw; go_simp; (try with_reducible rfl))⟩) (by assumption) ?_
        simp only [Act.put, List.setIfInBounds_toArray, List.set_cons_zero, List.set_cons_succ]
        refine wpAnyH_take (i := 3) (by simp only [List.getElem?_toArray, List.getElem?_cons_zero, List.getElem?_cons_succ]; rfl) (by kernel_rfl) (by kernel_rfl) (by kernel_rfl) (by intro _ _ _ h; exact h) (Or.inl ⟨by rfl, fun w hSw => by (dsimp only at hSw; go_simp; (try with_reducible rfl))⟩) (by assumption) ?_
        simp only [Act.put, List.setIfInBounds_toArray, List.set_cons_zero, List.set_cons_succ]
        refine wpAnyH_take (i := 4) (by simp only [List.getElem?_toArray, List.getElem?_cons_zero, List.getElem?_cons_succ]; rfl) (by kernel_rfl) (by kernel_rfl) (by kernel_rfl) (by intro _ _ _ h; exact h) (Or.inl ⟨by rfl, fun w hSw => by (dsimp only at hSw; go_simp; (try with_reducible rfl))⟩) (by assumption) ?_
        simp only [Act.put, List.setIfInBounds_toArray, List.set_cons_zero, List.set_cons_succ]
        refine wpAnyH_take (i := 5) (by simp only [List.getElem?_toArray, List.getElem?_cons_zero, List.getElem?_cons_succ]; rfl) (by kernel_rfl) (by kernel_rfl) (by kernel_rfl) (by intro _ _ _ h; exact h) (Or.inl ⟨by rfl, fun w hSw => by (dsimp only at hSw; go_simp; (try with_reducible rfl))⟩) (by assumption) ?_
        simp only [Act.put, List.setIfInBounds_toArray, List.set_cons_zero, List.set_cons_succ]
        refine wpAnyH_take (i := 6) (by simp only [List.getElem?_toArray, List.getElem?_cons_zero, List.getElem?_cons_succ]; rfl) (by kernel_rfl) (by kernel_rfl) (by kernel_rfl) (by intro _ _ _ h; exact h) (Or.inl ⟨by rfl, fun w hSw => by (dsimp only at hSw; go_simp; (try with_reducible rfl))⟩) (by assumption) ?_
        simp only [Act.put, List.setIfInBounds_toArray, List.set_cons_zero, List.set_cons_succ]
        refine wpAnyH_done (by kernel_rfl) ?_ _
        go_wp2
        go_ret3
        exact ⟨⟨gl', n', cl', l', gc, k, kc, C, gr, k, kr, R, rfl, HN5.out, HM.out, HRL.out, by omega, by omega, by omega, F5.out, HC7.out, HFR.out, I7.out, S7.out, R7.out⟩, hkF.drew⟩
      · go_wp2_with fail
        refine (any_draw C7.out).mono ?_
        rintro e w8 hD8
        obtain ⟨k1, n1, u1, rfl, hu1, hc8, hk8⟩ := hD8
        have own8 : Hid (w8.ownsRow w5.heap.size 30 3 (.slice (some ⟨gr, 0, none⟩) k kr) k (flat R)) := own_keep own7.out hk8 hcq
        have K8 := K7.trans hk8
        have hs8 := K8.size
        clear own7 C7 hk8 hc8 t7 K7 hs7
        go_wp2_with (at_builtin; refine wpList_append_own _ rfl _ _ 26 rfl w5.heap.size 30 iC (.agg #[.int .i64 0, .int .i64 0, .string ⟨#[]⟩]) 3 32 Tryz.underlying26 hiC hc0 hc1 hc2 rfl (by decide) _ _ _ rfl (own8.out.alloc _) ⟨w8.heap.size, 0, none⟩ 1 1 [.int .i64 k1, .int .i64 n1, .string u1] rfl rfl (cells3n9 w8 _ _ _ _) (by intro u hu; simp at hu; rcases hu with rfl | rfl | rfl <;> rfl) (by unfold maxLen; omega) (by omega) (by simp; omega) ?_)
        intro v' w9 own9 hgrow hnn
        have hb9 : Below w5.heap.size w8 w9 := ((Below.refl w5.heap.size w8).alloc hs8 _).grown hgrow (by simp; omega) (fun kk hkk => (own8.out.lt kk hkk).1)
        have hv9 : v' ≠ .slice none 0 0 := by first | exact hnn | exact fun e => by have := (hnn.1 e).1; cases this
        have K9 : Keep c w5 w9 := K8.far hb9 (Nat.le_refl _)
        have t9 : w9.cell? ⟨TB, 1, none⟩ = some (.slice (some ⟨gc, 0, none⟩) k kc) := (K9.cell hT5 hTc).trans t5
        have HRL9 : Hid ((R ++ [(k1, n1, u1)]).length = k + 1) := by
          have : (R ++ [(k1, n1, u1)]).length = k + 1 := by simp [HRL.out]
          exact this
        have O9 : Hid (w9.ownsRow w5.heap.size 30 3 v' (R ++ [(k1, n1, u1)]).length (flat (R ++ [(k1, n1, u1)]))) := by
          rw [flat_append, HRL9.out]
          exact own9
        have F9 : Hid (Fit (R ++ [(k1, n1, u1)])) := HFR.out.append hu1
        obtain ⟨g9, c9, rfl, hg9, _⟩ := own_form O9.out hv9
        have R9 : Hid (RowAt w9 (some ⟨g9, 0, none⟩) (R ++ [(k1, n1, u1)])) := own_row (cap := c9) (base := w5.heap.size) (e := 30) O9.out
        rw [HRL9.out]
        have I9 : Hid (ItmAt w9 (some ⟨gl', 0, none⟩) l') := itm_keepC I5.out K9 hglc5
        have S9 : Hid (StrsAt w9 (some ⟨gc, 0, none⟩) C) := strs_keepC S5.out K9 HNE.out
        have hkF := hkW5.trans K9
        obtain ⟨R', hR'⟩ : ∃ R', R ++ [(k1, n1, u1)] = R' := ⟨_, rfl⟩
        rw [hR'] at R9 HRL9 F9
        clear I5 S5 own8 own9 hgrow hnn hb9 K8 K9 O9 hR'
        go_wp2_with fail
        refine wp_region_held_drew (S := (fun w' => w'.cell? ⟨TB, 1, none⟩ = some (.slice (some ⟨gc, 0, none⟩) k kc))) (by kernel_rfl) ?_ (fun hHeld => ?_)
        · exact t9
        refine wpAnyH_take (i := 0) (by simp only [List.getElem?_toArray, List.getElem?_cons_zero]; rfl) (by kernel_rfl) (by kernel_rfl) (by kernel_rfl) (by intro _ _ _ h; exact h) (Or.inl ⟨by rfl, fun w hSw => by (dsimp only at hSw; go_simp; (try with_reducible rfl))⟩) (by assumption) ?_
        simp only [Act.put, List.setIfInBounds_toArray, List.set_cons_zero, List.set_cons_succ]
        refine wpAnyH_take (i := 1) (by simp only [List.getElem?_toArray, List.getElem?_cons_zero, List.getElem?_cons_succ]; rfl) (by kernel_rfl) (by kernel_rfl) (by kernel_rfl) (by intro _ _ _ h; exact h) (Or.inl ⟨by rfl, fun w hSw => by (dsimp only at hSw; go_simp; (try with_reducible rfl))⟩) (by assumption) ?_
        simp only [Act.put, List.setIfInBounds_toArray, List.set_cons_zero, List.set_cons_succ]
        refine wpAnyH_take (i := 2) (by simp only [List.getElem?_toArray, List.getElem?_cons_zero, List.getElem?_cons_succ]; rfl) (by kernel_rfl) (by kernel_rfl) (by kernel_rfl) (by intro _ _ _ h; exact h) (Or.inl ⟨by rfl, fun w hSw => by (dsimp only at hSw; go_simp; (try with_reducible rfl))⟩) (by assumption) ?_
        simp only [Act.put, List.setIfInBounds_toArray, List.set_cons_zero, List.set_cons_succ]
        refine wpAnyH_take (i := 3) (by simp only [List.getElem?_toArray, List.getElem?_cons_zero, List.getElem?_cons_succ]; rfl) (by kernel_rfl) (by kernel_rfl) (by kernel_rfl) (by intro _ _ _ h; exact h) (Or.inl ⟨by rfl, fun w hSw => by (dsimp only at hSw; go_simp; (try with_reducible rfl))⟩) (by assumption) ?_
        simp only [Act.put, List.setIfInBounds_toArray, List.set_cons_zero, List.set_cons_succ]
        refine wpAnyH_take (i := 4) (by simp only [List.getElem?_toArray, List.getElem?_cons_zero, List.getElem?_cons_succ]; rfl) (by kernel_rfl) (by kernel_rfl) (by kernel_rfl) (by intro _ _ _ h; exact h) (Or.inl ⟨by rfl, fun w hSw => by (dsimp only at hSw; go_simp; (try with_reducible rfl))⟩) (by assumption) ?_
        simp only [Act.put, List.setIfInBounds_toArray, List.set_cons_zero, List.set_cons_succ]
        refine wpAnyH_take (i := 5) (by simp only [List.getElem?_toArray, List.getElem?_cons_zero, List.getElem?_cons_succ]; rfl) (by kernel_rfl) (by kernel_rfl) (by kernel_rfl) (by intro _ _ _ h; exact h) (Or.inl ⟨by rfl, fun w hSw => by (dsimp only at hSw; go_simp; (try with_reducible rfl))⟩) (by assumption) ?_
        simp only [Act.put, List.setIfInBounds_toArray, List.set_cons_zero, List.set_cons_succ]
        refine wpAnyH_take (i := 6) (by simp only [List.getElem?_toArray, List.getElem?_cons_zero, List.getElem?_cons_succ]; rfl) (by kernel_rfl) (by kernel_rfl) (by kernel_rfl) (by intro _ _ _ h; exact h) (Or.inl ⟨by rfl, fun w hSw => by (dsimp only at hSw; go_simp; (try with_reducible rfl))⟩) (by assumption) ?_
        simp only [Act.put, List.setIfInBounds_toArray, List.set_cons_zero, List.set_cons_succ]
        refine wpAnyH_done (by kernel_rfl) ?_ _
        go_wp2
        go_ret3
        exact ⟨⟨gl', n', cl', l', gc, k, kc, C, g9, k + 1, c9, R', rfl, HN5.out, HM.out, HRL9.out, by omega, by omega, by omega, F5.out, HC7.out, F9.out, I9.out, S9.out, R9.out⟩, hkF.drew⟩
set_option maxRecDepth 100000 in
theorem reckon_draw {w : World} {a : Option Addr} {len cap : Nat} (hlen : len ≤ 4096)
    (row : ∀ j, j < len → ∃ (rb ro : Nat) (v : Int), a = some ⟨rb, ro, none⟩ ∧ rb < w.heap.size ∧ w.cell? ⟨rb, ro + j, none⟩ = some (.int .u8 v) ∧ 0 ≤ v ∧ v ≤ 255) :
    Calls Tryz.prog 7 #[.slice a len cap] w fun e w' => Drawn9 e w' ∧ Below w.heap.size w w' := by
  have hR : Hid (∀ j, j < len → ∃ (rb ro : Nat) (v : Int), a = some ⟨rb, ro, none⟩ ∧ rb < w.heap.size ∧ w.cell? ⟨rb, ro + j, none⟩ = some (.int .u8 v) ∧ 0 ≤ v ∧ v ≤ 255) := row
  clear row
  go_enter Tryz.func7, Tryz.ntmps7
  go_wp2_with fail
  refine (new_draw hlen hR.out).mono ?_
  rintro e w1 ⟨c, rfl, hcs, hc1, hb1⟩
  have C1 : Hid (Cur w1 c a len cap) := hc1
  clear hc1
  go_wp2_with fail
  refine (draw9 C1.out).mono ?_
  rintro e w2 ⟨⟨g, n, cl, l, gc, m, cc, C, gr, q, rc, R, rfl, h1, h2, h3, h4, h5, h6, h7, h8, h9, hI, hS, hRw⟩, hk2⟩
  have hx2 : Below w.heap.size w w2 := hb1.trans (hk2.below hcs hb1.size)
  have H : Hid (l.length = n ∧ C.length = m ∧ R.length = q ∧ n ≤ 16 ∧ m ≤ 4 ∧ q ≤ 5 ∧ FitD l ∧ (∀ x ∈ C, x.size ≤ 7) ∧ Fit R ∧ ItmAt w2 (some ⟨g, 0, none⟩) l ∧ StrsAt w2 (some ⟨gc, 0, none⟩) C ∧ RowAt w2 (some ⟨gr, 0, none⟩) R) := ⟨h1, h2, h3, h4, h5, h6, h7, h8, h9, hI, hS, hRw⟩
  clear h1 h2 h3 h4 h5 h6 h7 h8 h9 hI hS hRw
  go_wp2
  go_ret3
  exact ⟨⟨g, n, cl, l, gc, m, cc, C, gr, q, rc, R, rfl, H.out⟩, hx2⟩
theorem mayfail_draw {w : World} {a : Option Addr} {len cap : Nat} (hlen : len ≤ 4096)
    (row : ∀ j, j < len → ∃ (rb ro : Nat) (v : Int), a = some ⟨rb, ro, none⟩ ∧ rb < w.heap.size ∧ w.cell? ⟨rb, ro + j, none⟩ = some (.int .u8 v) ∧ 0 ≤ v ∧ v ≤ 255) :
    Calls Tryz.prog 10 #[.slice a len cap] w fun e w' => ∃ g n cc l, e = .returned (.slice (some ⟨g, 0, none⟩) n cc) ∧ l.length = n ∧ ItmAt w' (some ⟨g, 0, none⟩) l ∧ n ≤ 16 ∧ FitD l ∧ Below w.heap.size w w' := by
  go_enter Tryz.func10, Tryz.ntmps10
  go_wp2_with fail
  refine (sumok_draw hlen row).mono ?_
  rintro e w1 ⟨g, n, cc, l, rfl, h1, h2, h3, h4, h5⟩
  have H1 : Hid (l.length = n) := h1
  have H2 : Hid (ItmAt w1 (some ⟨g, 0, none⟩) l) := h2
  clear h1 h2 row
  go_wp2
  go_ret
  exact ⟨g, n, cc, l, rfl, H1.out, H2.out, h3, h4, h5⟩
theorem namesof_draw {w : World} {a : Option Addr} {len cap : Nat} (hlen : len ≤ 4096)
    (row : ∀ j, j < len → ∃ (rb ro : Nat) (v : Int), a = some ⟨rb, ro, none⟩ ∧ rb < w.heap.size ∧ w.cell? ⟨rb, ro + j, none⟩ = some (.int .u8 v) ∧ 0 ≤ v ∧ v ≤ 255) :
    Calls Tryz.prog 11 #[.slice a len cap] w fun e w' => ∃ g n cc l, e = .returned (.slice (some ⟨g, 0, none⟩) n cc) ∧ l.length = n ∧ ItmAt w' (some ⟨g, 0, none⟩) l ∧ n ≤ 16 ∧ FitD l ∧ Below w.heap.size w w' := by
  go_enter Tryz.func11, Tryz.ntmps11
  go_wp2_with fail
  refine (sumok_draw hlen row).mono ?_
  rintro e w1 ⟨g, n, cc, l, rfl, h1, h2, h3, h4, h5⟩
  have H1 : Hid (l.length = n) := h1
  have H2 : Hid (ItmAt w1 (some ⟨g, 0, none⟩) l) := h2
  clear h1 h2 row
  go_wp2
  go_ret
  exact ⟨g, n, cc, l, rfl, H1.out, H2.out, h3, h4, h5⟩
end Go.Proofs.YthgbjnchhaoceaaGreatDoor

/-
  What every law over a drawn code uses: cells that lie in blocks, from world to world; a code that reads the same later; a cell held against itself.
-/
namespace Go.Proofs.YthgbjnchhaoceaaGreatDoor
open Go.ChangeShapes Go.WideShapes Go.ChangeAt Go.RowKit

/-- A cell lies in block B. -/
def C3 (w : World) (B : Nat) (k n : Int) (t : ByteArray) : Prop :=
  w.cell? ⟨B, 0, none⟩ = some (.int .i64 k) ∧ w.cell? ⟨B, 1, none⟩ = some (.int .i64 n) ∧ w.cell? ⟨B, 2, none⟩ = some (.string t) ∧ B < w.heap.size
theorem C3.below {w w' : World} {B : Nat} {k n : Int} {t : ByteArray} (h : C3 w B k n t) (hb : Below w.heap.size w w') : C3 w' B k n t := later3 hb h
theorem C3.step {w w' : World} {B : Nat} {k n : Int} {t : ByteArray} {o : Obj} (h : C3 w B k n t) (hb : Below (w.alloc o).heap.size (w.alloc o) w') : C3 w' B k n t := h.below (chainA hb)
theorem C3.fresh {w w' : World} {k n : Int} {t : ByteArray} {T : TypeId} (hb : Below (w.alloc (.cells #[.int .i64 k, .int .i64 n, .string t] T)).heap.size (w.alloc (.cells #[.int .i64 k, .int .i64 n, .string t] T)) w') : C3 w' w.heap.size k n t := box3 hb

/-- The code that a law is handed, byte by byte. -/
def Code0 (w : World) (a : Option Addr) (len : Nat) : Prop :=
  ∀ j, j < len → ∃ (rb ro : Nat) (v : Int), a = some ⟨rb, ro, none⟩ ∧ rb < w.heap.size ∧ w.cell? ⟨rb, ro + j, none⟩ = some (.int .u8 v) ∧ 0 ≤ v ∧ v ≤ 255
theorem Code0.below {w w' : World} {a : Option Addr} {len : Nat} (h : Code0 w a len) (hb : Below w.heap.size w w') : Code0 w' a len := by
  intro j hj
  obtain ⟨rb, ro, v, ha, hrb, hcell, hv⟩ := h j hj
  exact ⟨rb, ro, v, ha, Nat.lt_of_lt_of_le hrb hb.size, by rw [hb.cell (p := ⟨rb, ro + j, none⟩) hrb]; exact hcell, hv⟩
theorem Code0.alloc {w : World} {a : Option Addr} {len : Nat} (h : Code0 w a len) (o : Obj) : Code0 (w.alloc o) a len := h.below ((Below.refl _ _).alloc (Nat.le_refl _) o)

theorem neq_same (a b : Int) (s : ByteArray) (w : World) :
    (binOp .neq 30 (.agg #[.int .i64 a, .int .i64 b, .string s]) (.agg #[.int .i64 a, .int .i64 b, .string s])).run Tryz.prog w = .ok (.bool false) w := by
  rw [run_neq, sameB_refl]; rfl
theorem eql_same (a b : Int) (s : ByteArray) (w : World) :
    (binOp .eql 30 (.agg #[.int .i64 a, .int .i64 b, .string s]) (.agg #[.int .i64 a, .int .i64 b, .string s])).run Tryz.prog w = .ok (.bool true) w := by
  rw [run_eql, sameB_refl]

theorem big_laws (a : Option Addr) (len cap : Nat) (w : World) :
    Calls Tryz.prog 6 #[.slice a len cap] w fun e w' => e = .returned (.bool (decide (4096 < (len : Int)))) ∧ w = w' := by
  go_enter Tryz.func6, Tryz.ntmps6
  go_wp2
  go_ret
  exact ⟨rfl, rfl⟩

end Go.Proofs.YthgbjnchhaoceaaGreatDoor

/-
  The helpers of the law FnReckon.
-/
namespace Go.Proofs.YthgbjnchhaoceaaGreatDoor
open Go.ChangeShapes Go.WideShapes Go.ChangeAt Go.RowKit
attribute [local go_sem ↓] Go.wp_at_zero Go.wp_at_succ
attribute [local simp] World.cell?_alloc_past World.cell?_alloc_at World.frozen?_alloc_at cell_far cell_off cell_here World.frozen?_alloc_past

set_option maxRecDepth 100000 in
set_option maxHeartbeats 4000000 in
theorem pick_laws9 (a : Option Addr) (len cap : Nat) (hl : len ≤ 4096) (seed : Nat) (hs : seed ≤ 5) (w : World) (hc : Code0 w a len) :
    Calls Tryz.prog 24 #[.slice a len cap, .int .i64 (seed : Int), .int .i64 9] w fun e w' => ∃ r : Nat, e = .returned (.int .i64 (r : Int)) ∧ (r : Int) < 9 ∧ w' = w := by
  have HC : Hid (Code0 w a len) := hc
  clear hc
  go_enter Tryz.func24, Tryz.ntmps24
  go_wp2
  go_loopw [7, 8] (fun kv iv wr => ∃ (j : Nat) (k : Int), j ≤ len ∧ iv = .int .i64 j ∧ kv = .int .i64 k ∧ 0 ≤ k ∧ k ≤ 1000003 ∧ wr = w) (fun _ iv _ => len - (intOf iv).toNat)
  case atStart => exact ⟨0, (len : Int) + 7919 * (seed : Int), Nat.zero_le _, rfl, by first | rfl | go_num, by omega, by omega, rfl⟩
  case round =>
    obtain ⟨j, k, hj, rfl, rfl, hk0, hk1, hwr⟩ := hrel
    obtain rfl : w = wr := hwr.symm
    by_cases hlt : j < len
    · obtain ⟨rb, ro, v, rfl, hrb, hcell, hv0, hv1⟩ := HC.out j hlt
      have hi0 : (0 : Int) ≤ (j : Int) := by omega
      have hi1 : (j : Int) < (len : Int) := by omega
      go_wp2
      exact ⟨⟨j + 1, (k * 281 + v + (seed : Int)) % 1000003, by omega, by go_num, rfl, by omega, by omega, trivial⟩, by simp [intOf]; omega⟩
    · have hi1 : ¬ (j : Int) < (len : Int) := by omega
      obtain ⟨r, hr⟩ : ∃ r : Nat, k % 9 = (r : Int) := ⟨(k % 9).toNat, by omega⟩
      have hrn : (r : Int) < 9 := by omega
      have HR : Hid (k % 9 = (r : Int)) := hr
      clear hr
      go_wp2
      rw [HR.out]
      go_ret
      exact ⟨r, rfl, hrn, rfl⟩
theorem number_laws (n : Int) (w : World) :
    Calls Tryz.prog 23 #[.int .i64 n] w fun e w' => e = .returned (.agg #[.int .i64 1, .int .i64 n, .string ⟨#[]⟩]) ∧ Below w.heap.size w w' := by
  go_enter Tryz.func23, Tryz.ntmps23
  go_wp2
  exact bodyPost_ret (v := .agg #[.int .i64 1, .int .i64 n, .string ⟨#[]⟩]) (by simp [results, Tryz.results23, go_sem]) rfl ⟨rfl, by go_grown⟩
set_option maxHeartbeats 1000000 in
theorem has_laws (n : Nat) (a : Option Addr) (cap : Nat) (l : List ByteArray) (hn : l.length = n) (s : ByteArray) (w : World) (hrow : StrsAt w a l) (hm : n ≤ maxLen) (b : Bool) (hb : b = true ↔ s ∈ l) :
    Calls Tryz.prog 22 #[.slice a n cap, .string s] w fun e w' => e = .returned (.bool b) ∧ w' = w := by
  have HR : Hid (StrsAt w a l) := hrow
  have HN : Hid (l.length = n) := hn
  have HB : Hid (b = true ↔ s ∈ l) := hb
  clear hrow hn hb
  unfold maxLen at hm
  go_enter Tryz.func22, Tryz.ntmps22
  go_wp2
  go_loopw [5] (fun iv wr => ∃ k : Nat, k ≤ n ∧ iv = .int .i64 k ∧ Hid (¬ s ∈ l.take k) ∧ wr = w) (fun iv _ => n - (intOf iv).toNat)
  case atStart => exact ⟨0, Nat.zero_le _, rfl, by simp [Hid], rfl⟩
  case round =>
    obtain ⟨k, hk, rfl, hno, hwr⟩ := hrel
    obtain rfl : w = wr := hwr.symm
    by_cases hlt : k < n
    · have hlk : k < l.length := by rw [HN.out]; exact hlt
      obtain ⟨g, o, rfl, hgw, c0⟩ := HR.out k hlk
      have hi0 : (0 : Int) ≤ (k : Int) := by omega
      have hi1 : (k : Int) < (n : Int) := by omega
      by_cases he : l[k] = s
      · obtain rfl : b = true := HB.out.2 (he ▸ List.getElem_mem hlk)
        have hq : (l[k].toList == s.toList) = true := by rw [he]; simp
        clear hno
        generalize l[k] = x at c0 hq he
        go_wp2
        go_ret
        exact ⟨rfl, rfl⟩
      · have hq : (l[k].toList == s.toList) = false := by
          rw [beq_eq_false_iff_ne]
          exact fun h => he (bytes_eq h)
        have HNo : Hid (¬ s ∈ l.take (k + 1)) := by
          have : ¬ s ∈ l.take (k + 1) := by
            rw [List.take_succ_eq_append_getElem hlk]
            simp only [List.mem_append, List.mem_singleton, not_or]
            exact ⟨hno.out, fun h => he h.symm⟩
          exact this
        clear hno
        generalize l[k] = x at c0 hq he
        go_wp2
        go_roundw
        case rel => exact ⟨k + 1, by omega, by go_num, HNo, trivial⟩
        case measure => simp [intOf]; omega
    · have hkl : k = n := by omega
      subst hkl
      have hi1 : ¬ (k : Int) < (k : Int) := by omega
      obtain rfl : b = false := by
        have := hno.out
        rw [List.take_of_length_le (by rw [HN.out]; exact Nat.le_refl _)] at this
        rw [Bool.eq_false_iff]
        exact fun h => this (HB.out.1 h)
      clear hno
      go_wp2
      go_ret
      exact ⟨rfl, rfl⟩
set_option maxHeartbeats 1000000 in
theorem liketexts9 (a b : Option Addr) (ca cb : Nat) (l : List ByteArray) (w : World) (ha : StrsAt w a l) (hb : StrsAt w b l) (hm : l.length ≤ maxLen) :
    Calls Tryz.prog 15 #[.slice a l.length ca, .slice b l.length cb] w fun e w' => e = .returned (.bool true) ∧ Below w.heap.size w w' := by
  have hA : Hid (StrsAt w a l) := ha
  have hB : Hid (StrsAt w b l) := hb
  clear ha hb
  unfold maxLen at hm
  go_enter Tryz.func15, Tryz.ntmps15
  go_wp2
  go_loopw [5] (fun i wr => ∃ k : Nat, k ≤ l.length ∧ i = .int .i64 k ∧ Below w.heap.size w wr) (fun i _ => l.length - (intOf i).toNat)
  case atStart => exact ⟨0, Nat.zero_le _, rfl, Below.refl _ _⟩
  case round =>
    obtain ⟨k, hk, rfl, hx⟩ := hrel
    by_cases hlt : k < l.length
    · obtain ⟨b1, o1, rfl, hbw, c0⟩ := hA.out.below hx k hlt
      obtain ⟨b2, o2, rfl, hbw2, d0⟩ := hB.out.below hx k hlt
      have hi0 : (0 : Int) ≤ (k : Int) := by omega
      have hi1 : (k : Int) < (l.length : Int) := by omega
      generalize l[k] = x at c0 d0
      have hxx : (x.toList == x.toList) = true := by simp
      go_wp2_with fail
      go_quiet (fail)
      go_wp2
      go_roundw
      case rel => exact ⟨k + 1, by omega, by go_num, belowN hx _⟩
      case measure => simp [intOf]; omega
    · go_wp2
      go_ret
      exact ⟨rfl, hx⟩

end Go.Proofs.YthgbjnchhaoceaaGreatDoor

/-
  The contract of the program's MayFail.
-/
namespace Go.Proofs.YthgbjnchhaoceaaGreatDoor
open Go.ChangeShapes Go.WideShapes Go.ChangeAt Go.RowKit
attribute [local go_sem ↓] Go.wp_at_zero Go.wp_at_succ
attribute [local simp] World.cell?_alloc_past World.cell?_alloc_at World.frozen?_alloc_at cell_far cell_off cell_here World.frozen?_alloc_past

theorem may_specb (a : Option Addr) (cap : Nat) (l : List TI) (n : Nat) (hn : l.length = n) (w : World) (hrow : ItmAt w a l) (hfit : FitItm l) (hm : n ≤ maxLen) (b : Bool) (hb : mayR l = b) :
    Calls Tryz.prog 14 #[.slice a n cap] w fun e w' => e = .returned (.bool b) ∧ Below w.heap.size w w' := by
  subst hb; exact may_spec a cap l n hn w hrow hfit hm
/-- An item that may fail, as the program asks. -/
def faultP (x : TI) : Bool := decide (0 < needsP x.1) && decide (x.1 ≠ 12)
theorem fault_safe {x : TI} (h : itemB x = true) : faultP x = !safeI x := by
  have hk : 1 ≤ x.1 ∧ x.1 ≤ 12 := by
    by_cases h1 : x.1 = 1
    · omega
    by_cases h2 : x.1 = 2
    · omega
    have := item_op h h1 h2
    omega
  obtain ⟨k, y⟩ := x
  dsimp only at hk
  have h2 : k = 1 ∨ k = 2 ∨ k = 3 ∨ k = 4 ∨ k = 5 ∨ k = 6 ∨ k = 7 ∨ k = 8 ∨ k = 9 ∨ k = 10 ∨ k = 11 ∨ k = 12 := by omega
  clear h hk
  rcases h2 with rfl | rfl | rfl | rfl | rfl | rfl | rfl | rfl | rfl | rfl | rfl | rfl <;> simp [faultP, safeI, needsP]
theorem heap_all : ∀ (l : List TI) (n m : Nat), heapN l n = some m → ∀ x ∈ l, itemB x = true
  | [], _, _, _, x, hx => by simp at hx
  | y :: l, n, m, h, x, hx => by
    unfold heapN at h
    split at h
    · rename_i hc
      rcases List.mem_cons.1 hx with rfl | hx
      · exact hc.1
      · exact heap_all l _ m h x hx
    · cases h
theorem may_fault (l : List TI) : mayR l = (!sumB l || l.any faultP) := by
  unfold mayR
  cases hs : sumB l with
  | false => simp
  | true =>
    have h1 : heapN l 0 = some 1 := by
      unfold sumB at hs
      simp only [Bool.and_eq_true, decide_eq_true_eq] at hs
      exact hs.1
    have ha := heap_all l 0 1 h1
    have : l.any faultP = l.any (fun x => !safeI x) := by
      rw [Bool.eq_iff_iff, List.any_eq_true, List.any_eq_true]
      exact ⟨fun ⟨x, hx, hy⟩ => ⟨x, hx, by rw [← fault_safe (ha x hx)]; exact hy⟩, fun ⟨x, hx, hy⟩ => ⟨x, hx, by rw [fault_safe (ha x hx)]; exact hy⟩⟩
    rw [this]
    simp [List.all_eq_not_any_not]
set_option maxHeartbeats 1000000 in
theorem fault_impl (x : TI) (b : Bool) (hb : faultP x = b) (w : World) :
    Calls Tryz.prog 49 #[.agg #[.int .i64 x.1, .int .i64 x.2.1.1, .int .i64 x.2.1.2.1, .string x.2.1.2.2, .string x.2.2]] w fun e w' => e = .returned (.bool b) ∧ Below w.heap.size w w' := by
  obtain ⟨k, ⟨ck, cn, ct⟩, s⟩ := x
  dsimp only at hb ⊢
  have hA : Below w.heap.size w (w.alloc (.cells #[.int .i64 k, .int .i64 ck, .int .i64 cn, .string ct, .string s] 69)) := (Below.refl _ _).alloc (Nat.le_refl _) _
  obtain ⟨n, hn⟩ : ∃ n, needsP k = n := ⟨_, rfl⟩
  have HN : Hid (needsP k = n) := hn
  have HB : Hid ((decide (0 < n) && decide (k ≠ 12)) = b) := by
    have : (decide (0 < n) && decide (k ≠ 12)) = b := by rw [← hb, ← hn]; rfl
    exact this
  clear hb hn
  by_cases h0 : n = 0
  · subst h0
    obtain rfl : false = b := HB.out
    go_enter Tryz.func49, Tryz.ntmps49
    go_wp2_with fail
    refine (needs_impl k 0 HN.out _).mono ?_
    rintro e w1 ⟨rfl, rfl⟩
    go_wp2
    go_ret
    exact ⟨rfl, hA⟩
  have hn0 : (0 : Int) < (n : Int) := by omega
  by_cases h12 : k = 12
  · subst h12
    obtain rfl : false = b := by rw [← HB.out]; simp
    go_enter Tryz.func49, Tryz.ntmps49
    go_wp2_with fail
    refine (needs_impl 12 n HN.out _).mono ?_
    rintro e w1 ⟨rfl, rfl⟩
    go_wp2
    go_ret
    exact ⟨rfl, hA⟩
  · obtain rfl : true = b := by
      rw [← HB.out]; simp [h12]; omega
    have q12 : (k != 12) = true := by simp [h12]
    go_enter Tryz.func49, Tryz.ntmps49
    go_wp2_with fail
    refine (needs_impl k n HN.out _).mono ?_
    rintro e w1 ⟨rfl, rfl⟩
    go_wp2
    go_ret
    exact ⟨rfl, hA⟩
set_option maxRecDepth 100000 in
set_option maxHeartbeats 2000000 in
theorem index_impl (a : Option Addr) (cap : Nat) (l : List TI) (n : Nat) (hnl : l.length = n) (w : World) (hrow : ItmAt w a l) (hm : n ≤ maxLen) :
    Calls Tryz.prog 83 #[.slice a n cap, .func (.func 49) #[] #[]] w fun e w' => ∃ r : Int, e = .returned (.int .i64 r) ∧ decide (0 ≤ r) = l.any faultP ∧ Below w.heap.size w w' := by
  have HR : Hid (ItmAt w a l) := hrow
  have HL : Hid (l.length = n) := hnl
  clear hrow hnl
  unfold maxLen at hm
  go_enter Tryz.func83, Tryz.ntmps83
  go_wp2
  go_loopw [8] (fun kk wr => ∃ k : Nat, k ≤ n ∧ kk = .int .i64 k ∧ Hid ((l.take k).any faultP = false) ∧ Below w.heap.size w wr) (fun kk _ => n - (intOf kk).toNat)
  case atStart => exact ⟨0, Nat.zero_le _, rfl, rfl, Below.refl _ _⟩
  case round =>
    obtain ⟨k, hk, rfl, hall, hbw⟩ := hrel
    by_cases hlt : k < n
    · have hlk : k < l.length := by rw [HL.out]; exact hlt
      obtain ⟨g, o, rfl, hgw, c0, c1, c2, c3, c4⟩ := HR.out.below hbw k hlk
      have hi0 : (0 : Int) ≤ (k : Int) := by omega
      have hi1 : (k : Int) < (n : Int) := by omega
      obtain ⟨r, hr⟩ : ∃ r, faultP l[k] = r := ⟨_, rfl⟩
      have hsn : (l.take (k + 1)).any faultP = r := by
        rw [List.take_succ_eq_append_getElem hlk, List.any_append, hall.out, ← hr]; simp
      have HS : Hid ((l.take (k + 1)).any faultP = r) := hsn
      have HY : Hid (r = true → l.any faultP = true) := by
        have : r = true → l.any faultP = true := fun e => List.any_eq_true.2 ⟨l[k], List.getElem_mem hlk, hr.trans e⟩
        exact this
      have HRR : Hid (faultP l[k] = r) := hr
      clear hr hsn hall
      generalize l[k] = x at c0 c1 c2 c3 c4 HRR
      go_wp2_with fail
      refine (fault_impl x r HRR.out _).mono ?_
      rintro e w1 ⟨rfl, hb1⟩
      have hx1 := chain hbw hb1
      clear c0 c1 c2 c3 c4 hb1
      cases r
      · go_wp2
        go_roundw
        case rel => exact ⟨k + 1, by omega, by go_num, HS, hx1⟩
        case measure => simp [intOf]; omega
      · have fin : Hid (l.any faultP = true) := HY.out rfl
        go_wp2
        go_ret
        exact ⟨_, rfl, by rw [fin.out]; exact decide_eq_true hi0, hx1⟩
    · have hkl : k = n := by omega
      subst hkl
      have hi1 : ¬ (k : Int) < (k : Int) := by omega
      have fin : Hid (l.any faultP = false) := by
        have : l.any faultP = false := by
          have := hall.out
          rwa [List.take_of_length_le (by rw [HL.out]; exact Nat.le_refl _)] at this
        exact this
      clear hall
      go_wp2
      go_ret
      exact ⟨_, rfl, by rw [fin.out]; decide, hbw⟩
set_option maxHeartbeats 1000000 in
theorem contains_impl (a : Option Addr) (cap : Nat) (l : List TI) (n : Nat) (hnl : l.length = n) (w : World) (hrow : ItmAt w a l) (hm : n ≤ maxLen) (b : Bool) (hb : l.any faultP = b) :
    Calls Tryz.prog 48 #[.slice a n cap, .func (.func 49) #[] #[]] w fun e w' => e = .returned (.bool b) ∧ Below w.heap.size w w' := by
  have HR : Hid (ItmAt w a l) := hrow
  have HL : Hid (l.length = n) := hnl
  have HB : Hid (l.any faultP = b) := hb
  clear hrow hnl hb
  go_enter Tryz.func48, Tryz.ntmps48
  go_wp2_with fail
  refine (index_impl a cap l n HL.out _ HR.out hm).mono ?_
  rintro e w1 ⟨r, rfl, hr, hb1⟩
  rw [HB.out] at hr
  cases b
  · have h0 : ¬ (0 : Int) ≤ r := of_decide_eq_false hr
    clear hr
    go_wp2
    go_ret
    exact ⟨ret_bool (decide_eq_false (Int.not_le.2 h0)), hb1⟩
  · have h0 : (0 : Int) ≤ r := of_decide_eq_true hr
    clear hr
    go_wp2
    go_ret
    exact ⟨rfl, hb1⟩
set_option maxHeartbeats 1000000 in
theorem may_impl (a : Option Addr) (cap : Nat) (l : List TI) (n : Nat) (hnl : l.length = n) (w : World) (hrow : ItmAt w a l) (hfit : FitI l) (hm : n ≤ maxLen) (hp : PowAt w) (he : ErrAt w) (b : Bool) (hb : mayR l = b) :
    Calls Tryz.prog 13 #[.slice a n cap] w fun e w' => e = .returned (.bool b) ∧ Below w.heap.size w w' := by
  have HR : Hid (ItmAt w a l) := hrow
  have HF : Hid (FitI l) := hfit
  have HP : Hid (PowAt w) := hp
  have HE : Hid (ErrAt w) := he
  have HL : Hid (l.length = n) := hnl
  obtain ⟨s, hs⟩ : ∃ s, sumB l = s := ⟨_, rfl⟩
  obtain ⟨f, hf⟩ : ∃ f, l.any faultP = f := ⟨_, rfl⟩
  have HS : Hid (sumB l = s) := hs
  have HFP : Hid (l.any faultP = f) := hf
  have HB : Hid ((!s || f) = b) := by
    have : (!s || f) = b := by rw [← hb, may_fault, hs, hf]
    exact this
  clear hrow hfit hp he hnl hb hs hf
  go_enter Tryz.func13, Tryz.ntmps13
  go_wp2_with fail
  refine (sum_impl a cap l n HL.out _ HR.out HF.out hm HP.out HE.out s HS.out).mono ?_
  rintro e w1 ⟨rfl, hb1⟩
  cases s
  · obtain rfl : true = b := HB.out
    go_wp2
    go_ret
    exact ⟨rfl, hb1⟩
  · obtain rfl : f = b := HB.out
    go_wp2_with fail
    refine (contains_impl a cap l n HL.out _ (HR.out.below hb1) hm f HFP.out).mono ?_
    rintro e w2 ⟨rfl, hb2⟩
    have hx2 := chain hb1 hb2
    go_wp2
    go_ret
    exact ⟨rfl, hx2⟩
end Go.Proofs.YthgbjnchhaoceaaGreatDoor
