/-
  A part of the proof: SpM.
-/
import Derived.Test.YtadbbkpillfjaaaGreatDoorPart31
import Derived.Test.YtadbbkpillfjaaaGreatDoorPart27

/-
  The model's Merged.
-/
namespace Go.Proofs.YtadbbkpillfjaaaGreatDoor
open Go.ChangeShapes Go.WideShapes Go.ChangeAt Go.RowKit
attribute [local go_sem ↓] Go.wp_at_zero Go.wp_at_succ
attribute [local simp] World.cell?_alloc_past World.cell?_alloc_at World.frozen?_alloc_at cell_far cell_off cell_here World.frozen?_alloc_past

theorem cell_lt {w : World} {b o : Nat} {u : Value} (h : w.cell? ⟨b, o, none⟩ = some u) : b < w.heap.size := by
  by_cases hl : b < w.heap.size
  · exact hl
  · have h1 : w.heap[b]? = none := Array.getElem?_eq_none (by omega)
    simp [World.cell?, h1] at h
def lenV : Value → Nat
  | .slice _ n _ => n
  | _ => 0
/-- What stands while the pairs are looked at. -/
def MrgW (w wr : World) (g n c : Nat) (T : List SV) (k : Nat) : Prop :=
  ∃ Q, RowV wr w.heap.size (.slice (some ⟨g, 0, none⟩) n c) Q n ∧ (∀ K, Comes mergeR (Q.map Prod.fst) K → Comes mergeR T K) ∧ (∀ j (h : j + 1 < (Q.map Prod.fst).length), j < k → mergeR ((Q.map Prod.fst)[j]'(by omega)) (Q.map Prod.fst)[j + 1] = none) ∧ ∀ p ∈ Q, OkM p.1
theorem MrgW.done {w wr : World} {g n c : Nat} {T : List SV} {k : Nat} (h : MrgW w wr g n c T k) (hk : n ≤ k + 1) (ha : askB T = true) (hb : Below w.heap.size w wr) : PushOut mergeR w T (.returned (.slice (some ⟨g, 0, none⟩) n c)) wr := by
  obtain ⟨Q, hR, hC, hN, _⟩ := h
  exact PushW.done ⟨Q, hR, hC, hN⟩ hk ha hb
theorem MrgW.next {w W : World} {g n c : Nat} {T : List SV} {k : Nat} {Q : List (SV × HAd)} (hR : RowV W w.heap.size (.slice (some ⟨g, 0, none⟩) n c) Q n) (hC : ∀ K, Comes mergeR (Q.map Prod.fst) K → Comes mergeR T K) (hN : ∀ j (h : j + 1 < (Q.map Prod.fst).length), j < k → mergeR ((Q.map Prod.fst)[j]'(by omega)) (Q.map Prod.fst)[j + 1] = none) (hO : ∀ p ∈ Q, OkM p.1) (hk : k + 1 < Q.length) (h0 : mergeR (Q[k]'(by omega)).1 Q[k + 1].1 = none) : MrgW w W g n c T (k + 1) := by
  obtain ⟨Q', h1, h2, h3⟩ := PushW.next hR hC hN hk h0
  refine ⟨Q, hR, hC, fun j hj hjk => ?_, hO⟩
  by_cases e : j < k
  · exact hN j hj e
  · obtain rfl : j = k := by omega
    simpa using h0
/-- Two made one. -/
theorem MrgW.app {w W : World} {g m c : Nat} {T : List SV} {k : Nat} {Q P5 : List (SV × HAd)} {x : SV} {r : HAd} (hR : RowV W w.heap.size (.slice (some ⟨g, 0, none⟩) m c) (P5 ++ [(x, r)] ++ Q.drop (k + 2)) m) (hmap : P5.map Prod.fst = (Q.take k).map Prod.fst) (hC : ∀ K, Comes mergeR (Q.map Prod.fst) K → Comes mergeR T K) (hN : ∀ j (h : j + 1 < (Q.map Prod.fst).length), j < k → mergeR ((Q.map Prod.fst)[j]'(by omega)) (Q.map Prod.fst)[j + 1] = none) (hO : ∀ p ∈ Q, OkM p.1) (hk : k + 1 < Q.length) (h0 : mergeR (Q[k]'(by omega)).1 Q[k + 1].1 = some [x]) : MrgW w W g m c T 0 := by
  have hk' : k + 1 < (Q.map Prod.fst).length := by rw [List.length_map]; exact hk
  have em : (P5 ++ [(x, r)] ++ Q.drop (k + 2)).map Prod.fst = (Q.map Prod.fst).take k ++ [x] ++ (Q.map Prod.fst).drop (k + 2) := by
    simp only [List.map_append, hmap, List.map_take, List.map_drop, List.map_cons, List.map_nil]
  have hst : rwStep mergeR (Q.map Prod.fst) = some ((P5 ++ [(x, r)] ++ Q.drop (k + 2)).map Prod.fst) := by
    rw [em]
    refine rwStep_at k hk' (fun j hj => hN j (by omega) hj) _ ?_
    simpa using h0
  refine ⟨_, hR, fun K h => hC K (.step hst h), fun j _ h => by omega, fun p hp => ?_⟩
  rcases List.mem_append.1 hp with hp | hp
  · rcases List.mem_append.1 hp with hp | hp
    · have h : p.1 ∈ P5.map Prod.fst := List.mem_map_of_mem hp
      rw [hmap] at h
      obtain ⟨p', hp', e⟩ := List.mem_map.1 h
      rw [← e]
      exact hO p' (List.mem_of_mem_take hp')
    · rcases List.mem_cons.1 hp with rfl | hp
      · exact merge_ok (hO _ (List.getElem_mem _)) (hO _ (List.getElem_mem hk)) h0 _ (List.mem_cons_self ..)
      · cases hp
  · exact hO p (List.mem_of_mem_drop hp)
/-- Heads behind heads, where they may be none; and where the row lies then. -/
theorem app_sivsL {B : Nat} {w : World} {o : Oper} {a : Act} {K : Act → World → Prop} {Q : Exit → Act → World → Prop} (s x : Operand)
    (ho : o.op = .call { callee := .builtin .append, args := #[s, x], argTypes := #[24, 24] })
    (hB : B ≤ w.heap.size) (v : Value) (n : Nat) (P1 : List (SV × HAd)) (hs : a.eval s = v) (own : w.ownsRow B 38 7 v n (hvS P1))
    (ad : Addr) (m k : Nat) (P2 : List (SV × HAd)) (hx : a.eval x = .slice (some ad) m k) (hm : P2.length = m) (hcells : ∀ j u, (hvS P2)[j]? = some u → w.cell? (ad.add j) = some u)
    (h0 : 0 < n + m) (hsz : n + m ≤ 4096)
    (h : ∀ g cap w', w'.ownsRow B 38 7 (.slice (some ⟨g, 0, none⟩) (n + m) cap) (n + m) (hvS (P1 ++ P2)) → w.grownBy w' v.ownBlock → (some g = v.ownBlock ∨ some g = some w.heap.size) → K (a.put o.dst (.slice (some ⟨g, 0, none⟩) (n + m) cap)) w') : o.wp Tryz.prog a w K Q := by
  obtain ⟨i0, hi, hz0, hz1, hz2⟩ := info_parts infoSV
  obtain ⟨v', w', hr, own2, hg, _, hl⟩ := run_append_own_at (P := Tryz.prog) w B 24 o.type 38 i0 (.agg #[.int .i64 0, .string ⟨#[]⟩, .slice none 0 0, .slice none 0 0, .bool false, .int .i64 0, .int .i64 0]) 7 96 Tryz.underlying24 hi hz0 hz1 hz2 rfl (by decide) v n (hvS P1) own ad m k (hvS P2) (by rw [hvS_length, hm]) hcells (fun u hu => hvS_one hu) (by unfold maxLen; omega) (by omega) hB
  obtain ⟨g, cap, rfl, _, _⟩ := own2.form h0
  unfold Oper.wp execOp
  simp only [ho, resolve, invoke, builtin, Sem.run_bind, Sem.run_pure, Result.andThen_ok, List.map_toArray, List.map_cons, List.map_nil, hs, hx, hr]
  rw [← hvS_append] at own2
  exact h g cap w' own2 hg hl
set_option maxRecDepth 100000 in
set_option maxHeartbeats 8000000 in
theorem merged_spec (a : Option Addr) (cap : Nat) (P : List (SV × HAd)) (n : Nat) (hn : P.length = n) (w : World) (hrow : HeadsIn w a P) (hm : n ≤ maxLen) (hok : askB (P.map Prod.fst) = true → ∀ p ∈ P, OkM p.1) :
    Calls Tryz.prog 5 #[.slice a n cap] w (PushOut mergeR w (P.map Prod.fst)) := by
  obtain ⟨b, hb⟩ : ∃ b, askB (P.map Prod.fst) = b := ⟨_, rfl⟩
  have HR : Hid (HeadsIn w a P) := hrow
  have HN : Hid (P.length = n) := hn
  have HB : Hid (askB (P.map Prod.fst) = b) := hb
  have HOK : Hid (b = true → ∀ p ∈ P, OkM p.1) := fun h => hok (hb.trans h)
  have h8 : b = true → n ≤ 8 := fun h => by have := ask_len (hb.trans h); rw [List.length_map] at this; omega
  clear hrow hn hok hb
  go_enter Tryz.func5, Tryz.ntmps5
  go_wp2_with fail
  refine (ask_spec a cap (P.map Prod.fst) n (by rw [List.length_map]; exact HN.out) _ HR.out.sivs hm b HB.out).mono ?_
  rintro e w1 ⟨rfl, hb1⟩
  cases b
  · have FIN : Hid (PushOut mergeR w (P.map Prod.fst) (.returned (.slice (some ⟨w1.heap.size, 0, none⟩) 0 0)) (w1.alloc (.cells #[] 38))) :=
      ⟨w1.heap.size, 0, 0, [], rfl, ⟨fun h => absurd (HB.out.symm.trans h) (by simp), fun _ => rfl⟩, RowV.empty (own_emptySv w1 _ hb1.size), hb1.alloc hb1.size _⟩
    go_wp2
    go_ret
    exact FIN.out
  have hn8 := h8 rfl
  have HOP : Hid (∀ p ∈ P, OkM p.1) := HOK.out rfl
  clear h8 HOK
  go_wp2_with fail
  refine (l13copy_spec a cap P n HN.out _ (HR.out.below hb1) (by omega) (fun p hp => (HOP.out p hp).2.1)).mono ?_
  rintro e w2 ⟨g0, c0, Q0, rfl, hmap, hrow0, hb2⟩
  have hx := chain hb1 hb2
  have HW2 : Hid (MrgW w w2 g0 n c0 (P.map Prod.fst) 0) := by
    have hr : RowV w2 w.heap.size (.slice (some ⟨g0, 0, none⟩) n c0) Q0 n := ⟨own_lowV hrow0.own hb1.size, hrow0.len, fun p hp => (hrow0.new p hp).lower hb1.size, hrow0.far, hrow0.nilI⟩
    refine ⟨Q0, hr, fun K h => by rw [hmap] at h; exact h, fun j _ h => by omega, fun p hp => ?_⟩
    have h : p.1 ∈ Q0.map Prod.fst := List.mem_map_of_mem hp
    rw [hmap] at h
    obtain ⟨p', hp', e⟩ := List.mem_map.1 h
    rw [← e]
    exact HOP.out p' hp'
  clear hb1 hb2 hrow0 hmap
  go_wp2
  go_loopw [3, 4] (fun v kk wr => ∃ g m c k : Nat, v = .slice (some ⟨g, 0, none⟩) m c ∧ k ≤ m ∧ m ≤ n ∧ kk = .int .i64 k ∧ Hid (MrgW w wr g m c (P.map Prod.fst) k) ∧ Below w.heap.size w wr) (fun v kk _ => lenV v * (n + 1) + (n - (intOf kk).toNat))
  case atStart => exact ⟨g0, n, c0, 0, rfl, Nat.zero_le _, Nat.le_refl _, rfl, HW2, hx⟩
  case round =>
    obtain ⟨g, m, c, k, rfl, hk, hmn, rfl, hW, hbw⟩ := hrel
    by_cases hlt : k + 1 < m
    · obtain ⟨Q, hR, hC, hNo, hOk⟩ := hW.out
      have hl := hR.len
      have hk0 : k < Q.length := by omega
      have hk1 : k + 1 < Q.length := by omega
      have HRW : Hid (RowV wr w.heap.size (.slice (some ⟨g, 0, none⟩) m c) Q m) := hR
      have HCM : Hid (∀ K, Comes mergeR (Q.map Prod.fst) K → Comes mergeR (P.map Prod.fst) K) := hC
      have HNO : Hid (∀ j (h : j + 1 < (Q.map Prod.fst).length), j < k → mergeR ((Q.map Prod.fst)[j]'(by omega)) (Q.map Prod.fst)[j + 1] = none) := hNo
      have HOQ : Hid (∀ p ∈ Q, OkM p.1) := hOk
      obtain ⟨b1, o1, e1, hg, c0, c1, c2, c3, c4, c5, c6⟩ := hR.heads.at k hk0
      cases e1
      obtain ⟨b2, o2, e2, _, d0, d1, d2, d3, d4, d5, d6⟩ := hR.heads.at (k + 1) hk1
      cases e2
      rw [Nat.zero_add] at c0 c1 c2 c3 c4 c5 c6 d0 d1 d2 d3 d4 d5 d6
      have hi0 : (0 : Int) ≤ (k : Int) := by omega
      have hi1 : (k : Int) < (m : Int) := by omega
      have hi2 : (k : Int) + 1 < (m : Int) := by omega
      have hi3 : ((k : Int) + 1).toNat = k + 1 := by omega
      have hi4 : (0 : Int) ≤ (k : Int) + 1 := by omega
      have hi5 : IntKind.i64.wrap ((k : Int) + 1) = (k : Int) + 1 := by rw [IntKind.wrap_i64]; omega
      have HSV : Hid (SivAt wr Q[k].2.na Q[k].2.nc Q[k].2.sa Q[k].1) := (hR.new _ (List.getElem_mem hk0)).siv
      have HTV : Hid (SivAt wr Q[k + 1].2.na Q[k + 1].2.nc Q[k + 1].2.sa Q[k + 1].1) := (hR.new _ (List.getElem_mem hk1)).siv
      have HSO : Hid (OkM Q[k].1) := hOk _ (List.getElem_mem hk0)
      have HTO : Hid (OkM Q[k + 1].1) := hOk _ (List.getElem_mem hk1)
      have HSL : Hid (Q[k].2.sa = none → Q[k].2.sc = 0) := hR.nilI _ (List.getElem_mem hk0)
      have HTL : Hid (Q[k + 1].2.sa = none → Q[k + 1].2.sc = 0) := hR.nilI _ (List.getElem_mem hk1)
      obtain ⟨x, hxq⟩ : ∃ x, Q[k] = x := ⟨_, rfl⟩
      obtain ⟨y, hyq⟩ : ∃ y, Q[k + 1] = y := ⟨_, rfl⟩
      have HXQ : Hid (Q[k] = x) := hxq
      have HYQ : Hid (Q[k + 1] = y) := hyq
      rw [hxq] at c0 c1 c2 c3 c4 c5 c6 HSV HSO HSL
      rw [hyq] at d0 d1 d2 d3 d4 d5 d6 HTV HTO HTL
      clear hR hC hNo hOk hW hxq hyq
      obtain ⟨⟨kd, nm, N, S, dn, ct, sk⟩, ⟨na, nc, sa, sc⟩⟩ := x
      obtain ⟨⟨kt, mt, M, R, dt, tt, st⟩, ⟨ma, mc, ra, rc⟩⟩ := y
      dsimp only at c0 c1 c2 c3 c4 c5 c6 d0 d1 d2 d3 d4 d5 d6 HSV HTV HSO HTO HSL HTL
      obtain ⟨nn, hnn⟩ : ∃ z, N.length = z := ⟨_, rfl⟩
      obtain ⟨sn, hsn⟩ : ∃ z, S.length = z := ⟨_, rfl⟩
      obtain ⟨mn, hmn⟩ : ∃ z, M.length = z := ⟨_, rfl⟩
      obtain ⟨rn, hrn⟩ : ∃ z, R.length = z := ⟨_, rfl⟩
      rw [hnn] at c2
      rw [hsn] at c3
      rw [hmn] at d2
      rw [hrn] at d3
      have HNN : Hid (N.length = nn) := hnn
      have HSN : Hid (S.length = sn) := hsn
      have HMN : Hid (M.length = mn) := hmn
      have HRN : Hid (R.length = rn) := hrn
      clear hnn hsn hmn hrn
      have Fc0 : Hid (wr.cell? ⟨g, k * 7, none⟩ = some (.int .i64 kd)) := c0
      have Fc1 : Hid (wr.cell? ⟨g, k * 7 + 1, none⟩ = some (.string nm)) := c1
      have Fc2 : Hid (wr.cell? ⟨g, k * 7 + 2, none⟩ = some (.slice na nn nc)) := c2
      have Fc3 : Hid (wr.cell? ⟨g, k * 7 + 3, none⟩ = some (.slice sa sn sc)) := c3
      have Fc4 : Hid (wr.cell? ⟨g, k * 7 + 4, none⟩ = some (.bool dn)) := c4
      have Fc5 : Hid (wr.cell? ⟨g, k * 7 + 5, none⟩ = some (.int .i64 ct)) := c5
      have Fc6 : Hid (wr.cell? ⟨g, k * 7 + 6, none⟩ = some (.int .i64 sk)) := c6
      have Fd0 : Hid (wr.cell? ⟨g, (k + 1) * 7, none⟩ = some (.int .i64 kt)) := d0
      have Fd1 : Hid (wr.cell? ⟨g, (k + 1) * 7 + 1, none⟩ = some (.string mt)) := d1
      have Fd2 : Hid (wr.cell? ⟨g, (k + 1) * 7 + 2, none⟩ = some (.slice ma mn mc)) := d2
      have Fd3 : Hid (wr.cell? ⟨g, (k + 1) * 7 + 3, none⟩ = some (.slice ra rn rc)) := d3
      have Fd4 : Hid (wr.cell? ⟨g, (k + 1) * 7 + 4, none⟩ = some (.bool dt)) := d4
      have Fd5 : Hid (wr.cell? ⟨g, (k + 1) * 7 + 5, none⟩ = some (.int .i64 tt)) := d5
      have Fd6 : Hid (wr.cell? ⟨g, (k + 1) * 7 + 6, none⟩ = some (.int .i64 st)) := d6
      clear c0 c1 c2 c3 c4 c5 c6 d0 d1 d2 d3 d4 d5 d6
      have c0 := Fc0.out
      have c1 := Fc1.out
      have c2 := Fc2.out
      have c3 := Fc3.out
      have c4 := Fc4.out
      have c5 := Fc5.out
      have c6 := Fc6.out
      have d0 := Fd0.out
      have d1 := Fd1.out
      have d2 := Fd2.out
      have d3 := Fd3.out
      have d4 := Fd4.out
      have d5 := Fd5.out
      have d6 := Fd6.out
      go_wp2_with fail
      refine wp_region_held_drew (S := (fun w' => w'.cell? ⟨g, k * 7, none⟩ = some (.int .i64 kd) ∧ w'.cell? ⟨g, k * 7 + 1, none⟩ = some (.string nm) ∧ w'.cell? ⟨g, k * 7 + 2, none⟩ = some (.slice na nn nc) ∧ w'.cell? ⟨g, k * 7 + 3, none⟩ = some (.slice sa sn sc) ∧ w'.cell? ⟨g, k * 7 + 4, none⟩ = some (.bool dn) ∧ w'.cell? ⟨g, k * 7 + 5, none⟩ = some (.int .i64 ct) ∧ w'.cell? ⟨g, k * 7 + 6, none⟩ = some (.int .i64 sk) ∧ w'.cell? ⟨g, (k + 1) * 7, none⟩ = some (.int .i64 kt) ∧ w'.cell? ⟨g, (k + 1) * 7 + 1, none⟩ = some (.string mt) ∧ w'.cell? ⟨g, (k + 1) * 7 + 2, none⟩ = some (.slice ma mn mc) ∧ w'.cell? ⟨g, (k + 1) * 7 + 3, none⟩ = some (.slice ra rn rc) ∧ w'.cell? ⟨g, (k + 1) * 7 + 4, none⟩ = some (.bool dt) ∧ w'.cell? ⟨g, (k + 1) * 7 + 5, none⟩ = some (.int .i64 tt) ∧ w'.cell? ⟨g, (k + 1) * 7 + 6, none⟩ = some (.int .i64 st))) (by kernel_rfl) ?_ (fun hHeld => ?_)
      · (((try dsimp only); (repeat' apply And.intro) <;> first | (go_keep; done) | (simp (disch := first | omega | (simp <;> omega) | fail) [*]; done) | fail))
      refine wpAnyH_take (i := 0) (by simp only [List.getElem?_toArray, List.getElem?_cons_zero]; rfl) (by kernel_rfl) (by kernel_rfl) (by kernel_rfl) (by intro _ _ _ h; exact h) (Or.inl ⟨by rfl, fun w hSw => by (dsimp only at hSw; go_simp; (try with_reducible rfl))⟩) (by assumption) ?_
      simp only [Act.put, List.setIfInBounds_toArray, List.set_cons_zero, List.set_cons_succ]
      refine wpAnyH_take (i := 1) (by simp only [List.getElem?_toArray, List.getElem?_cons_zero, List.getElem?_cons_succ]; rfl) (by kernel_rfl) (by kernel_rfl) (by kernel_rfl) (by intro _ _ _ h; exact h) (Or.inl ⟨by rfl, fun w hSw => by (dsimp only at hSw; go_simp; (try with_reducible rfl))⟩) (by assumption) ?_
      simp only [Act.put, List.setIfInBounds_toArray, List.set_cons_zero, List.set_cons_succ]
      refine wpAnyH_take (i := 2) (by simp only [List.getElem?_toArray, List.getElem?_cons_zero, List.getElem?_cons_succ]; rfl) (by kernel_rfl) (by kernel_rfl) (by kernel_rfl) (by intro _ _ _ h; exact h) (Or.inl ⟨by rfl, fun w hSw => by (dsimp only at hSw; go_simp; (try with_reducible rfl))⟩) (by assumption) ?_
      simp only [Act.put, List.setIfInBounds_toArray, List.set_cons_zero, List.set_cons_succ]
      refine wpAnyH_take (i := 3) (by simp only [List.getElem?_toArray, List.getElem?_cons_zero, List.getElem?_cons_succ]; rfl) (by kernel_rfl) (by kernel_rfl) (by kernel_rfl) (by intro _ _ _ h; exact h) (Or.inl ⟨by rfl, fun w hSw => by (dsimp only at hSw; go_simp; (try with_reducible rfl))⟩) (by assumption) ?_
      simp only [Act.put, List.setIfInBounds_toArray, List.set_cons_zero, List.set_cons_succ]
      refine wpAnyH_take (i := 4) (by simp only [List.getElem?_toArray, List.getElem?_cons_zero, List.getElem?_cons_succ]; rfl) (by kernel_rfl) (by kernel_rfl) (by kernel_rfl) (by intro _ _ _ h; exact h) (Or.inl ⟨by rfl, fun w hSw => by (dsimp only at hSw; go_simp; (try with_reducible rfl))⟩) (by assumption) ?_
      simp only [Act.put, List.setIfInBounds_toArray, List.set_cons_zero, List.set_cons_succ]
      refine wpAnyH_take (i := 5) (by simp only [List.getElem?_toArray, List.getElem?_cons_zero, List.getElem?_cons_succ]; rfl) (by kernel_rfl) (by kernel_rfl) (by kernel_rfl) (by intro _ _ _ h; exact h) (Or.inl ⟨by rfl, fun w hSw => by (dsimp only at hSw; go_simp; (try with_reducible rfl))⟩) (by assumption) ?_
      simp only [Act.put, List.setIfInBounds_toArray, List.set_cons_zero, List.set_cons_succ]
      refine wpAnyH_take (i := 6) (by simp only [List.getElem?_toArray, List.getElem?_cons_zero, List.getElem?_cons_succ]; rfl) (by kernel_rfl) (by kernel_rfl) (by kernel_rfl) (by intro _ _ _ h; exact h) (Or.inl ⟨by rfl, fun w hSw => by (dsimp only at hSw; go_simp; (try with_reducible rfl))⟩) (by assumption) ?_
      simp only [Act.put, List.setIfInBounds_toArray, List.set_cons_zero, List.set_cons_succ]
      refine wpAnyH_take (i := 7) (by simp only [List.getElem?_toArray, List.getElem?_cons_zero, List.getElem?_cons_succ]; rfl) (by kernel_rfl) (by kernel_rfl) (by kernel_rfl) (by intro _ _ _ h; exact h) (Or.inl ⟨by rfl, fun w hSw => by (dsimp only at hSw; go_simp; (try with_reducible rfl))⟩) (by assumption) ?_
      simp only [Act.put, List.setIfInBounds_toArray, List.set_cons_zero, List.set_cons_succ]
      refine wpAnyH_take (i := 8) (by simp only [List.getElem?_toArray, List.getElem?_cons_zero, List.getElem?_cons_succ]; rfl) (by kernel_rfl) (by kernel_rfl) (by kernel_rfl) (by intro _ _ _ h; exact h) (Or.inl ⟨by rfl, fun w hSw => by (dsimp only at hSw; go_simp; (try with_reducible rfl))⟩) (by assumption) ?_
      simp only [Act.put, List.setIfInBounds_toArray, List.set_cons_zero, List.set_cons_succ]
      refine wpAnyH_ready (rs := [9, 13]) (by kernel_rfl) (by simp) ?_
      refine AllReadyH.cons (by simp only [List.getElem?_toArray, List.getElem?_cons_zero, List.getElem?_cons_succ]; rfl) ?_ (AllReadyH.cons (by simp only [List.getElem?_toArray, List.getElem?_cons_zero, List.getElem?_cons_succ]; rfl) ?_ AllReadyH.nil)
      · intro K hK
        go_simp
        refine (l13merge_spec kd nm na nn nc N HNN.out sa sn sc S HSN.out dn ct sk kt mt ma mn mc M HMN.out ra rn rc R HRN.out dt tt st _ (HSV.out.below ((Below.refl _ _).drew)) (HTV.out.below ((Below.refl _ _).drew)) HSO.out HTO.out HSL.out HTL.out).mono ?_
        rintro e w3 ⟨hb3, ⟨hm, rfl⟩ | ⟨r, x, hm, rfl, hnew, hnil⟩⟩
        · have HNM : Hid (mergeR ⟨kd, nm, N, S, dn, ct, sk⟩ ⟨kt, mt, M, R, dt, tt, st⟩ = none) := hm
          simp only [headSv, HNN.out, HSN.out]
          have B3 : Below wr.heap.size wr w3 := undrew hb3
          clear hb3 hHeld c0 c1 c2 c3 c4 c5 c6 d0 d1 d2 d3 d4 d5 d6
          clear hm
          go_wp2_with fail
          have c0 : w3.cell? ⟨g, k * 7, none⟩ = some (.int .i64 kd) := (B3.cell (p := ⟨g, k * 7, none⟩) hg).trans Fc0.out
          have c1 : w3.cell? ⟨g, k * 7 + 1, none⟩ = some (.string nm) := (B3.cell (p := ⟨g, k * 7 + 1, none⟩) hg).trans Fc1.out
          have c2 : w3.cell? ⟨g, k * 7 + 2, none⟩ = some (.slice na nn nc) := (B3.cell (p := ⟨g, k * 7 + 2, none⟩) hg).trans Fc2.out
          have c3 : w3.cell? ⟨g, k * 7 + 3, none⟩ = some (.slice sa sn sc) := (B3.cell (p := ⟨g, k * 7 + 3, none⟩) hg).trans Fc3.out
          have c4 : w3.cell? ⟨g, k * 7 + 4, none⟩ = some (.bool dn) := (B3.cell (p := ⟨g, k * 7 + 4, none⟩) hg).trans Fc4.out
          have c5 : w3.cell? ⟨g, k * 7 + 5, none⟩ = some (.int .i64 ct) := (B3.cell (p := ⟨g, k * 7 + 5, none⟩) hg).trans Fc5.out
          have c6 : w3.cell? ⟨g, k * 7 + 6, none⟩ = some (.int .i64 sk) := (B3.cell (p := ⟨g, k * 7 + 6, none⟩) hg).trans Fc6.out
          have d0 : w3.cell? ⟨g, (k + 1) * 7, none⟩ = some (.int .i64 kt) := (B3.cell (p := ⟨g, (k + 1) * 7, none⟩) hg).trans Fd0.out
          have d1 : w3.cell? ⟨g, (k + 1) * 7 + 1, none⟩ = some (.string mt) := (B3.cell (p := ⟨g, (k + 1) * 7 + 1, none⟩) hg).trans Fd1.out
          have d2 : w3.cell? ⟨g, (k + 1) * 7 + 2, none⟩ = some (.slice ma mn mc) := (B3.cell (p := ⟨g, (k + 1) * 7 + 2, none⟩) hg).trans Fd2.out
          have d3 : w3.cell? ⟨g, (k + 1) * 7 + 3, none⟩ = some (.slice ra rn rc) := (B3.cell (p := ⟨g, (k + 1) * 7 + 3, none⟩) hg).trans Fd3.out
          have d4 : w3.cell? ⟨g, (k + 1) * 7 + 4, none⟩ = some (.bool dt) := (B3.cell (p := ⟨g, (k + 1) * 7 + 4, none⟩) hg).trans Fd4.out
          have d5 : w3.cell? ⟨g, (k + 1) * 7 + 5, none⟩ = some (.int .i64 tt) := (B3.cell (p := ⟨g, (k + 1) * 7 + 5, none⟩) hg).trans Fd5.out
          have d6 : w3.cell? ⟨g, (k + 1) * 7 + 6, none⟩ = some (.int .i64 st) := (B3.cell (p := ⟨g, (k + 1) * 7 + 6, none⟩) hg).trans Fd6.out
          refine hK.out _ _ ⟨c0, c1, c2, c3, c4, c5, c6, d0, d1, d2, d3, d4, d5, d6⟩ (fun hHeld => ?_)
          clear hK K
          try simp only [Act.put, List.setIfInBounds_toArray, List.set_cons_zero, List.set_cons_succ]
          refine wpAnyH_take (i := 10) (by simp only [List.getElem?_toArray, List.getElem?_cons_zero, List.getElem?_cons_succ]; rfl) (by kernel_rfl) (by kernel_rfl) (by kernel_rfl) (by intro _ _ _ h; exact h) (Or.inl ⟨by rfl, fun w hSw => by (dsimp only at hSw; go_simp; (try with_reducible rfl))⟩) (by assumption) ?_
          simp only [Act.put, List.setIfInBounds_toArray, List.set_cons_zero, List.set_cons_succ]
          refine wpAnyH_take (i := 11) (by simp only [List.getElem?_toArray, List.getElem?_cons_zero, List.getElem?_cons_succ]; rfl) (by kernel_rfl) (by kernel_rfl) (by kernel_rfl) (by intro _ _ _ h; exact h) (Or.inl ⟨by rfl, fun w hSw => by (dsimp only at hSw; go_simp; (try with_reducible rfl))⟩) (by assumption) ?_
          simp only [Act.put, List.setIfInBounds_toArray, List.set_cons_zero, List.set_cons_succ]
          refine wpAnyH_take (i := 12) (by simp only [List.getElem?_toArray, List.getElem?_cons_zero, List.getElem?_cons_succ]; rfl) (by kernel_rfl) (by kernel_rfl) (by kernel_rfl) (by intro _ _ _ h; exact h) (Or.inl ⟨by rfl, fun w hSw => by (dsimp only at hSw; go_simp; (try with_reducible rfl))⟩) (by assumption) ?_
          simp only [Act.put, List.setIfInBounds_toArray, List.set_cons_zero, List.set_cons_succ]
          refine wpAnyH_ready (rs := [13]) (by kernel_rfl) (by simp) ?_
          refine AllReadyH.cons (by simp only [List.getElem?_toArray, List.getElem?_cons_zero, List.getElem?_cons_succ]; rfl) ?_ AllReadyH.nil
          intro K hK
          go_simp
          have hg3 : g < w3.heap.size := Nat.lt_of_lt_of_le hg B3.size
          refine hK.out _ _ ?_ (fun hHeld => ?_)
          · (((try dsimp only); (repeat' apply And.intro) <;> first | (go_keep; done) | (simp (disch := first | omega | (simp <;> omega) | fail) [*]; done) | fail))
          clear hK K
          try simp only [Act.put, List.setIfInBounds_toArray, List.set_cons_zero, List.set_cons_succ]
          refine wpAnyH_ready (rs := [14]) (by kernel_rfl) (by simp) ?_
          refine AllReadyH.cons (by simp only [List.getElem?_toArray, List.getElem?_cons_zero, List.getElem?_cons_succ]; rfl) ?_ AllReadyH.nil
          intro K hK
          go_simp
          obtain ⟨gx, hgx⟩ : ∃ z, z = w3.heap.size := ⟨_, rfl⟩
          rw [← hgx]
          obtain ⟨VX, hVX⟩ : ∃ V, V = w3.alloc (.cells #[.int .i64 kd, .string nm, .slice na nn nc, .slice sa sn sc, .bool dn, .int .i64 ct, .int .i64 sk] 38) := ⟨_, rfl⟩
          rw [← hVX]
          have BX : Hid (Below wr.heap.size wr VX) := by rw [hVX]; exact B3.alloc B3.size _
          have XC : Hid (VX.cell? ⟨gx, 0, none⟩ = some (.int .i64 kd) ∧ VX.cell? ⟨gx, 1, none⟩ = some (.string nm) ∧ VX.cell? ⟨gx, 2, none⟩ = some (.slice na nn nc) ∧ VX.cell? ⟨gx, 3, none⟩ = some (.slice sa sn sc) ∧ VX.cell? ⟨gx, 4, none⟩ = some (.bool dn) ∧ VX.cell? ⟨gx, 5, none⟩ = some (.int .i64 ct) ∧ VX.cell? ⟨gx, 6, none⟩ = some (.int .i64 sk)) := by rw [hVX]; rw [hgx]; exact cells7 (_root_.Go.heap_alloc_new w3 _)
          clear hVX
          clear hgx
          clear c0 c1 c2 c3 c4 c5 c6 d0 d1 d2 d3 d4 d5 d6
          have c0 : VX.cell? ⟨g, k * 7, none⟩ = some (.int .i64 kd) := (BX.out.cell (p := ⟨g, k * 7, none⟩) hg).trans Fc0.out
          have c1 : VX.cell? ⟨g, k * 7 + 1, none⟩ = some (.string nm) := (BX.out.cell (p := ⟨g, k * 7 + 1, none⟩) hg).trans Fc1.out
          have c2 : VX.cell? ⟨g, k * 7 + 2, none⟩ = some (.slice na nn nc) := (BX.out.cell (p := ⟨g, k * 7 + 2, none⟩) hg).trans Fc2.out
          have c3 : VX.cell? ⟨g, k * 7 + 3, none⟩ = some (.slice sa sn sc) := (BX.out.cell (p := ⟨g, k * 7 + 3, none⟩) hg).trans Fc3.out
          have c4 : VX.cell? ⟨g, k * 7 + 4, none⟩ = some (.bool dn) := (BX.out.cell (p := ⟨g, k * 7 + 4, none⟩) hg).trans Fc4.out
          have c5 : VX.cell? ⟨g, k * 7 + 5, none⟩ = some (.int .i64 ct) := (BX.out.cell (p := ⟨g, k * 7 + 5, none⟩) hg).trans Fc5.out
          have c6 : VX.cell? ⟨g, k * 7 + 6, none⟩ = some (.int .i64 sk) := (BX.out.cell (p := ⟨g, k * 7 + 6, none⟩) hg).trans Fc6.out
          have d0 : VX.cell? ⟨g, (k + 1) * 7, none⟩ = some (.int .i64 kt) := (BX.out.cell (p := ⟨g, (k + 1) * 7, none⟩) hg).trans Fd0.out
          have d1 : VX.cell? ⟨g, (k + 1) * 7 + 1, none⟩ = some (.string mt) := (BX.out.cell (p := ⟨g, (k + 1) * 7 + 1, none⟩) hg).trans Fd1.out
          have d2 : VX.cell? ⟨g, (k + 1) * 7 + 2, none⟩ = some (.slice ma mn mc) := (BX.out.cell (p := ⟨g, (k + 1) * 7 + 2, none⟩) hg).trans Fd2.out
          have d3 : VX.cell? ⟨g, (k + 1) * 7 + 3, none⟩ = some (.slice ra rn rc) := (BX.out.cell (p := ⟨g, (k + 1) * 7 + 3, none⟩) hg).trans Fd3.out
          have d4 : VX.cell? ⟨g, (k + 1) * 7 + 4, none⟩ = some (.bool dt) := (BX.out.cell (p := ⟨g, (k + 1) * 7 + 4, none⟩) hg).trans Fd4.out
          have d5 : VX.cell? ⟨g, (k + 1) * 7 + 5, none⟩ = some (.int .i64 tt) := (BX.out.cell (p := ⟨g, (k + 1) * 7 + 5, none⟩) hg).trans Fd5.out
          have d6 : VX.cell? ⟨g, (k + 1) * 7 + 6, none⟩ = some (.int .i64 st) := (BX.out.cell (p := ⟨g, (k + 1) * 7 + 6, none⟩) hg).trans Fd6.out
          refine hK.out _ _ ⟨c0, c1, c2, c3, c4, c5, c6, d0, d1, d2, d3, d4, d5, d6⟩ (fun hHeld => ?_)
          clear hK K
          try simp only [Act.put, List.setIfInBounds_toArray, List.set_cons_zero, List.set_cons_succ]
          refine wpAnyH_take (i := 15) (by simp only [List.getElem?_toArray, List.getElem?_cons_zero, List.getElem?_cons_succ]; rfl) (by kernel_rfl) (by kernel_rfl) (by kernel_rfl) (by intro _ _ _ h; exact h) (Or.inl ⟨by rfl, fun w hSw => by (dsimp only at hSw; go_simp; (try with_reducible rfl))⟩) (by assumption) ?_
          simp only [Act.put, List.setIfInBounds_toArray, List.set_cons_zero, List.set_cons_succ]
          refine wpAnyH_done (by kernel_rfl) ?_ _
          clear hHeld c0 c1 c2 c3 c4 c5 c6 d0 d1 d2 d3 d4 d5 d6
          have hp : mergeR (Q[k]'hk0).1 (Q[k + 1]'hk1).1 = none := by rw [HXQ.out, HYQ.out]; exact HNM.out
          have HNX : Hid (MrgW w VX g m c (P.map Prod.fst) (k + 1)) := MrgW.next (HRW.out.below BX.out) HCM.out HNO.out HOQ.out hk1 hp
          have HBX := chain hbw BX.out
          clear hp
          go_wp2
          go_roundw
          case rel => exact ⟨g, m, c, k + 1, rfl, by omega, hmn, by go_num, HNX.out, HBX⟩
          case measure => simp [intOf, lenV]; omega
        · obtain ⟨xk, xm, XN, XL, xd, xc, xs⟩ := x
          obtain ⟨ya, yc, za, zc⟩ := r
          have HSM : Hid (mergeR ⟨kd, nm, N, S, dn, ct, sk⟩ ⟨kt, mt, M, R, dt, tt, st⟩ = some [⟨xk, xm, XN, XL, xd, xc, xs⟩]) := hm
          have HXN : Hid (SivNew w3 wr.heap.size ⟨ya, yc, za, zc⟩ ⟨xk, xm, XN, XL, xd, xc, xs⟩) := hnew.lower (Nat.le_refl _)
          have HXL : Hid (za = none → zc = 0) := hnil
          obtain ⟨xn, hxn⟩ : ∃ z, XN.length = z := ⟨_, rfl⟩
          obtain ⟨xl, hxl⟩ : ∃ z, XL.length = z := ⟨_, rfl⟩
          have HXA : Hid (XN.length = xn) := hxn
          have HXB : Hid (XL.length = xl) := hxl
          simp only [headSv, hxn, hxl]
          clear hxn hxl hnew hnil
          have B3 : Below wr.heap.size wr w3 := undrew hb3
          clear hb3 hHeld c0 c1 c2 c3 c4 c5 c6 d0 d1 d2 d3 d4 d5 d6
          clear hm
          go_wp2_with fail
          have c0 : w3.cell? ⟨g, k * 7, none⟩ = some (.int .i64 kd) := (B3.cell (p := ⟨g, k * 7, none⟩) hg).trans Fc0.out
          have c1 : w3.cell? ⟨g, k * 7 + 1, none⟩ = some (.string nm) := (B3.cell (p := ⟨g, k * 7 + 1, none⟩) hg).trans Fc1.out
          have c2 : w3.cell? ⟨g, k * 7 + 2, none⟩ = some (.slice na nn nc) := (B3.cell (p := ⟨g, k * 7 + 2, none⟩) hg).trans Fc2.out
          have c3 : w3.cell? ⟨g, k * 7 + 3, none⟩ = some (.slice sa sn sc) := (B3.cell (p := ⟨g, k * 7 + 3, none⟩) hg).trans Fc3.out
          have c4 : w3.cell? ⟨g, k * 7 + 4, none⟩ = some (.bool dn) := (B3.cell (p := ⟨g, k * 7 + 4, none⟩) hg).trans Fc4.out
          have c5 : w3.cell? ⟨g, k * 7 + 5, none⟩ = some (.int .i64 ct) := (B3.cell (p := ⟨g, k * 7 + 5, none⟩) hg).trans Fc5.out
          have c6 : w3.cell? ⟨g, k * 7 + 6, none⟩ = some (.int .i64 sk) := (B3.cell (p := ⟨g, k * 7 + 6, none⟩) hg).trans Fc6.out
          have d0 : w3.cell? ⟨g, (k + 1) * 7, none⟩ = some (.int .i64 kt) := (B3.cell (p := ⟨g, (k + 1) * 7, none⟩) hg).trans Fd0.out
          have d1 : w3.cell? ⟨g, (k + 1) * 7 + 1, none⟩ = some (.string mt) := (B3.cell (p := ⟨g, (k + 1) * 7 + 1, none⟩) hg).trans Fd1.out
          have d2 : w3.cell? ⟨g, (k + 1) * 7 + 2, none⟩ = some (.slice ma mn mc) := (B3.cell (p := ⟨g, (k + 1) * 7 + 2, none⟩) hg).trans Fd2.out
          have d3 : w3.cell? ⟨g, (k + 1) * 7 + 3, none⟩ = some (.slice ra rn rc) := (B3.cell (p := ⟨g, (k + 1) * 7 + 3, none⟩) hg).trans Fd3.out
          have d4 : w3.cell? ⟨g, (k + 1) * 7 + 4, none⟩ = some (.bool dt) := (B3.cell (p := ⟨g, (k + 1) * 7 + 4, none⟩) hg).trans Fd4.out
          have d5 : w3.cell? ⟨g, (k + 1) * 7 + 5, none⟩ = some (.int .i64 tt) := (B3.cell (p := ⟨g, (k + 1) * 7 + 5, none⟩) hg).trans Fd5.out
          have d6 : w3.cell? ⟨g, (k + 1) * 7 + 6, none⟩ = some (.int .i64 st) := (B3.cell (p := ⟨g, (k + 1) * 7 + 6, none⟩) hg).trans Fd6.out
          refine hK.out _ _ ⟨c0, c1, c2, c3, c4, c5, c6, d0, d1, d2, d3, d4, d5, d6⟩ (fun hHeld => ?_)
          clear hK K
          try simp only [Act.put, List.setIfInBounds_toArray, List.set_cons_zero, List.set_cons_succ]
          refine wpAnyH_take (i := 10) (by simp only [List.getElem?_toArray, List.getElem?_cons_zero, List.getElem?_cons_succ]; rfl) (by kernel_rfl) (by kernel_rfl) (by kernel_rfl) (by intro _ _ _ h; exact h) (Or.inl ⟨by rfl, fun w hSw => by (dsimp only at hSw; go_simp; (try with_reducible rfl))⟩) (by assumption) ?_
          simp only [Act.put, List.setIfInBounds_toArray, List.set_cons_zero, List.set_cons_succ]
          refine wpAnyH_take (i := 11) (by simp only [List.getElem?_toArray, List.getElem?_cons_zero, List.getElem?_cons_succ]; rfl) (by kernel_rfl) (by kernel_rfl) (by kernel_rfl) (by intro _ _ _ h; exact h) (Or.inl ⟨by rfl, fun w hSw => by (dsimp only at hSw; go_simp; (try with_reducible rfl))⟩) (by assumption) ?_
          simp only [Act.put, List.setIfInBounds_toArray, List.set_cons_zero, List.set_cons_succ]
          refine wpAnyH_take (i := 12) (by simp only [List.getElem?_toArray, List.getElem?_cons_zero, List.getElem?_cons_succ]; rfl) (by kernel_rfl) (by kernel_rfl) (by kernel_rfl) (by intro _ _ _ h; exact h) (Or.inl ⟨by rfl, fun w hSw => by (dsimp only at hSw; go_simp; (try with_reducible rfl))⟩) (by assumption) ?_
          simp only [Act.put, List.setIfInBounds_toArray, List.set_cons_zero, List.set_cons_succ]
          refine wpAnyH_ready (rs := [13]) (by kernel_rfl) (by simp) ?_
          refine AllReadyH.cons (by simp only [List.getElem?_toArray, List.getElem?_cons_zero, List.getElem?_cons_succ]; rfl) ?_ AllReadyH.nil
          intro K hK
          go_simp
          have hg3 : g < w3.heap.size := Nat.lt_of_lt_of_le hg B3.size
          refine hK.out _ _ ?_ (fun hHeld => ?_)
          · (((try dsimp only); (repeat' apply And.intro) <;> first | (go_keep; done) | (simp (disch := first | omega | (simp <;> omega) | fail) [*]; done) | fail))
          clear hK K
          try simp only [Act.put, List.setIfInBounds_toArray, List.set_cons_zero, List.set_cons_succ]
          refine wpAnyH_ready (rs := [14]) (by kernel_rfl) (by simp) ?_
          refine AllReadyH.cons (by simp only [List.getElem?_toArray, List.getElem?_cons_zero, List.getElem?_cons_succ]; rfl) ?_ AllReadyH.nil
          intro K hK
          go_simp
          obtain ⟨gx, hgx⟩ : ∃ z, z = w3.heap.size := ⟨_, rfl⟩
          rw [← hgx]
          obtain ⟨VX, hVX⟩ : ∃ V, V = w3.alloc (.cells #[.int .i64 xk, .string xm, .slice ya xn yc, .slice za xl zc, .bool xd, .int .i64 xc, .int .i64 xs] 38) := ⟨_, rfl⟩
          rw [← hVX]
          have BX : Hid (Below wr.heap.size wr VX) := by rw [hVX]; exact B3.alloc B3.size _
          have XC : Hid (VX.cell? ⟨gx, 0, none⟩ = some (.int .i64 xk) ∧ VX.cell? ⟨gx, 1, none⟩ = some (.string xm) ∧ VX.cell? ⟨gx, 2, none⟩ = some (.slice ya xn yc) ∧ VX.cell? ⟨gx, 3, none⟩ = some (.slice za xl zc) ∧ VX.cell? ⟨gx, 4, none⟩ = some (.bool xd) ∧ VX.cell? ⟨gx, 5, none⟩ = some (.int .i64 xc) ∧ VX.cell? ⟨gx, 6, none⟩ = some (.int .i64 xs)) := by rw [hVX]; rw [hgx]; exact cells7 (_root_.Go.heap_alloc_new w3 _)
          have XNEW : Hid (SivNew VX wr.heap.size ⟨ya, yc, za, zc⟩ ⟨xk, xm, XN, XL, xd, xc, xs⟩) := by rw [hVX]; exact HXN.out.below ((Below.refl _ _).alloc (Nat.le_refl _) _)
          clear hVX
          clear hgx
          clear c0 c1 c2 c3 c4 c5 c6 d0 d1 d2 d3 d4 d5 d6
          have c0 : VX.cell? ⟨g, k * 7, none⟩ = some (.int .i64 kd) := (BX.out.cell (p := ⟨g, k * 7, none⟩) hg).trans Fc0.out
          have c1 : VX.cell? ⟨g, k * 7 + 1, none⟩ = some (.string nm) := (BX.out.cell (p := ⟨g, k * 7 + 1, none⟩) hg).trans Fc1.out
          have c2 : VX.cell? ⟨g, k * 7 + 2, none⟩ = some (.slice na nn nc) := (BX.out.cell (p := ⟨g, k * 7 + 2, none⟩) hg).trans Fc2.out
          have c3 : VX.cell? ⟨g, k * 7 + 3, none⟩ = some (.slice sa sn sc) := (BX.out.cell (p := ⟨g, k * 7 + 3, none⟩) hg).trans Fc3.out
          have c4 : VX.cell? ⟨g, k * 7 + 4, none⟩ = some (.bool dn) := (BX.out.cell (p := ⟨g, k * 7 + 4, none⟩) hg).trans Fc4.out
          have c5 : VX.cell? ⟨g, k * 7 + 5, none⟩ = some (.int .i64 ct) := (BX.out.cell (p := ⟨g, k * 7 + 5, none⟩) hg).trans Fc5.out
          have c6 : VX.cell? ⟨g, k * 7 + 6, none⟩ = some (.int .i64 sk) := (BX.out.cell (p := ⟨g, k * 7 + 6, none⟩) hg).trans Fc6.out
          have d0 : VX.cell? ⟨g, (k + 1) * 7, none⟩ = some (.int .i64 kt) := (BX.out.cell (p := ⟨g, (k + 1) * 7, none⟩) hg).trans Fd0.out
          have d1 : VX.cell? ⟨g, (k + 1) * 7 + 1, none⟩ = some (.string mt) := (BX.out.cell (p := ⟨g, (k + 1) * 7 + 1, none⟩) hg).trans Fd1.out
          have d2 : VX.cell? ⟨g, (k + 1) * 7 + 2, none⟩ = some (.slice ma mn mc) := (BX.out.cell (p := ⟨g, (k + 1) * 7 + 2, none⟩) hg).trans Fd2.out
          have d3 : VX.cell? ⟨g, (k + 1) * 7 + 3, none⟩ = some (.slice ra rn rc) := (BX.out.cell (p := ⟨g, (k + 1) * 7 + 3, none⟩) hg).trans Fd3.out
          have d4 : VX.cell? ⟨g, (k + 1) * 7 + 4, none⟩ = some (.bool dt) := (BX.out.cell (p := ⟨g, (k + 1) * 7 + 4, none⟩) hg).trans Fd4.out
          have d5 : VX.cell? ⟨g, (k + 1) * 7 + 5, none⟩ = some (.int .i64 tt) := (BX.out.cell (p := ⟨g, (k + 1) * 7 + 5, none⟩) hg).trans Fd5.out
          have d6 : VX.cell? ⟨g, (k + 1) * 7 + 6, none⟩ = some (.int .i64 st) := (BX.out.cell (p := ⟨g, (k + 1) * 7 + 6, none⟩) hg).trans Fd6.out
          refine hK.out _ _ ⟨c0, c1, c2, c3, c4, c5, c6, d0, d1, d2, d3, d4, d5, d6⟩ (fun hHeld => ?_)
          clear hK K
          try simp only [Act.put, List.setIfInBounds_toArray, List.set_cons_zero, List.set_cons_succ]
          refine wpAnyH_take (i := 15) (by simp only [List.getElem?_toArray, List.getElem?_cons_zero, List.getElem?_cons_succ]; rfl) (by kernel_rfl) (by kernel_rfl) (by kernel_rfl) (by intro _ _ _ h; exact h) (Or.inl ⟨by rfl, fun w hSw => by (dsimp only at hSw; go_simp; (try with_reducible rfl))⟩) (by assumption) ?_
          simp only [Act.put, List.setIfInBounds_toArray, List.set_cons_zero, List.set_cons_succ]
          refine wpAnyH_done (by kernel_rfl) ?_ _
          clear hHeld c0 c1 c2 c3 c4 c5 c6 d0 d1 d2 d3 d4 d5 d6
          have hp : mergeR (Q[k]'hk0).1 (Q[k + 1]'hk1).1 = some [⟨xk, xm, XN, XL, xd, xc, xs⟩] := by rw [HXQ.out, HYQ.out]; exact HSM.out
          have HP : Hid (mergeR (Q[k]'hk0).1 (Q[k + 1]'hk1).1 = some [⟨xk, xm, XN, XL, xd, xc, xs⟩]) := hp
          have hmc : m ≤ c := by
            rcases HRW.out.own.2 with ⟨e, _⟩ | ⟨g', cap', cur, e, _, _, h1, _⟩
            · cases e
            · cases e
              exact h1
          have hj1 : (k : Int) ≤ (c : Int) := by omega
          have hj2 : (k : Int) + 2 ≤ (m : Int) := by omega
          have hj3 : ((k : Int) + 2).toNat = k + 2 := by omega
          have hj4 : (m : Int) ≤ (c : Int) := by omega
          have hj5 : (0 : Int) ≤ (k : Int) + 2 := by omega
          have hj6 : IntKind.i64.wrap ((k : Int) + 2) = (k : Int) + 2 := by rw [IntKind.wrap_i64]; omega
          have HRX : Hid (RowV VX w.heap.size (.slice (some ⟨g, 0, none⟩) m c) Q m) := HRW.out.below BX.out
          have LWR : w.heap.size ≤ wr.heap.size := hbw.size
          have LVX : wr.heap.size ≤ VX.heap.size := BX.out.size
          have GXL : gx < VX.heap.size := by
            obtain ⟨h, _⟩ := XC.out
            exact cell_lt h
          obtain ⟨x0, x1, x2, x3, x4, x5, x6⟩ := XC.out
          have X0 : Hid (VX.cell? ⟨gx, 0, none⟩ = some (.int .i64 xk)) := x0
          have X1 : Hid (VX.cell? ⟨gx, 1, none⟩ = some (.string xm)) := x1
          have X2 : Hid (VX.cell? ⟨gx, 2, none⟩ = some (.slice ya xn yc)) := x2
          have X3 : Hid (VX.cell? ⟨gx, 3, none⟩ = some (.slice za xl zc)) := x3
          have X4 : Hid (VX.cell? ⟨gx, 4, none⟩ = some (.bool xd)) := x4
          have X5 : Hid (VX.cell? ⟨gx, 5, none⟩ = some (.int .i64 xc)) := x5
          have X6 : Hid (VX.cell? ⟨gx, 6, none⟩ = some (.int .i64 xs)) := x6
          clear hp hi0 hi1 hi3 hi4 hi5 hg
          go_wp2_with fail
          refine wp_region_held_drew (S := (fun w' => w'.cell? ⟨gx, 0, none⟩ = some (.int .i64 xk) ∧ w'.cell? ⟨gx, 1, none⟩ = some (.string xm) ∧ w'.cell? ⟨gx, 2, none⟩ = some (.slice ya xn yc) ∧ w'.cell? ⟨gx, 3, none⟩ = some (.slice za xl zc) ∧ w'.cell? ⟨gx, 4, none⟩ = some (.bool xd) ∧ w'.cell? ⟨gx, 5, none⟩ = some (.int .i64 xc) ∧ w'.cell? ⟨gx, 6, none⟩ = some (.int .i64 xs))) (by kernel_rfl) ⟨x0, x1, x2, x3, x4, x5, x6⟩ (fun hHeld => ?_)
          refine wpAnyH_take (i := 0) (by simp only [List.getElem?_toArray, List.getElem?_cons_zero]; rfl) (by kernel_rfl) (by kernel_rfl) (by kernel_rfl) (by intro _ _ _ h; exact h) (Or.inl ⟨by rfl, fun w hSw => by (dsimp only at hSw; go_simp; (try with_reducible rfl))⟩) (by assumption) ?_
          simp only [Act.put, List.setIfInBounds_toArray, List.set_cons_zero, List.set_cons_succ]
          refine wpAnyH_take (i := 1) (by simp only [List.getElem?_toArray, List.getElem?_cons_zero, List.getElem?_cons_succ]; rfl) (by kernel_rfl) (by kernel_rfl) (by kernel_rfl) (by intro _ _ _ h; exact h) (Or.inl ⟨by rfl, fun w hSw => by (dsimp only at hSw; go_simp; (try with_reducible rfl))⟩) (by assumption) ?_
          simp only [Act.put, List.setIfInBounds_toArray, List.set_cons_zero, List.set_cons_succ]
          refine wpAnyH_take (i := 2) (by simp only [List.getElem?_toArray, List.getElem?_cons_zero, List.getElem?_cons_succ]; rfl) (by kernel_rfl) (by kernel_rfl) (by kernel_rfl) (by intro _ _ _ h; exact h) (Or.inl ⟨by rfl, fun w hSw => by (dsimp only at hSw; go_simp; (try with_reducible rfl))⟩) (by assumption) ?_
          simp only [Act.put, List.setIfInBounds_toArray, List.set_cons_zero, List.set_cons_succ]
          refine wpAnyH_take (i := 4) (by simp only [List.getElem?_toArray, List.getElem?_cons_zero, List.getElem?_cons_succ]; rfl) (by kernel_rfl) (by kernel_rfl) (by kernel_rfl) (by intro _ _ _ h; exact h) (Or.inl ⟨by rfl, fun w hSw => by (dsimp only at hSw; go_simp; (try with_reducible rfl))⟩) (by assumption) ?_
          simp only [Act.put, List.setIfInBounds_toArray, List.set_cons_zero, List.set_cons_succ]
          refine wpAnyH_take (i := 7) (by simp only [List.getElem?_toArray, List.getElem?_cons_zero, List.getElem?_cons_succ]; rfl) (by kernel_rfl) (by kernel_rfl) (by kernel_rfl) (by intro _ _ _ h; exact h) (Or.inl ⟨by rfl, fun w hSw => by (dsimp only at hSw; go_simp; (try with_reducible rfl))⟩) (by assumption) ?_
          simp only [Act.put, List.setIfInBounds_toArray, List.set_cons_zero, List.set_cons_succ]
          refine wpAnyH_take (i := 8) (by simp only [List.getElem?_toArray, List.getElem?_cons_zero, List.getElem?_cons_succ]; rfl) (by kernel_rfl) (by kernel_rfl) (by kernel_rfl) (by intro _ _ _ h; exact h) (Or.inl ⟨by rfl, fun w hSw => by (dsimp only at hSw; go_simp; (try with_reducible rfl))⟩) (by assumption) ?_
          simp only [Act.put, List.setIfInBounds_toArray, List.set_cons_zero, List.set_cons_succ]
          refine wpAnyH_take (i := 9) (by simp only [List.getElem?_toArray, List.getElem?_cons_zero, List.getElem?_cons_succ]; rfl) (by kernel_rfl) (by kernel_rfl) (by kernel_rfl) (by intro _ _ _ h; exact h) (Or.inl ⟨by rfl, fun w hSw => by (dsimp only at hSw; go_simp; (try with_reducible rfl))⟩) (by assumption) ?_
          simp only [Act.put, List.setIfInBounds_toArray, List.set_cons_zero, List.set_cons_succ]
          refine wpAnyH_take (i := 10) (by simp only [List.getElem?_toArray, List.getElem?_cons_zero, List.getElem?_cons_succ]; rfl) (by kernel_rfl) (by kernel_rfl) (by kernel_rfl) (by intro _ _ _ h; exact h) (Or.inl ⟨by rfl, fun w hSw => by (dsimp only at hSw; go_simp; (try with_reducible rfl))⟩) (by assumption) ?_
          simp only [Act.put, List.setIfInBounds_toArray, List.set_cons_zero, List.set_cons_succ]
          obtain ⟨sa42, hsa⟩ : ∃ z : Addr, (if c = k + 2 then some (⟨g, 0, none⟩ : Addr) else some ⟨g, (k + 2) * 7, none⟩) = some z := by
            by_cases e : c = k + 2
            · exact ⟨_, if_pos e⟩
            · exact ⟨_, if_neg e⟩
          have HSA : Hid (c ≠ k + 2 → sa42 = ⟨g, (k + 2) * 7, none⟩) := by
            have h : c ≠ k + 2 → sa42 = ⟨g, (k + 2) * 7, none⟩ := fun e => by rw [if_neg e] at hsa; injection hsa with h; exact h.symm
            exact h
          rw [hsa]
          clear hsa
          refine wpAnyH_ready (rs := [3, 5]) (by kernel_rfl) (by simp) ?_
          refine AllReadyH.cons (by simp only [List.getElem?_toArray, List.getElem?_cons_zero, List.getElem?_cons_succ]; rfl) ?_ (AllReadyH.cons (by simp only [List.getElem?_toArray, List.getElem?_cons_zero, List.getElem?_cons_succ]; rfl) ?_ AllReadyH.nil)
          · intro K hK
            go_simp
            have YB : Hid (Below VX.heap.size VX VX.drew) := (Below.refl _ _).drew
            refine (l13copy_spec (some ⟨g, 0, none⟩) c (Q.take k) k (by rw [List.length_take]; omega) _ ⟨fun i hi => (HRX.out.below YB.out).heads.cells i (by rw [List.length_take] at hi; omega) |>.imp fun _ h => h.imp fun _ h => ⟨h.1, h.2.1, fun j hj => by rw [List.getElem_take]; exact h.2.2 j hj⟩, fun p hp => ((HRX.out.below YB.out).new p (List.mem_of_mem_take hp)).siv, fun p hp => HRX.out.nilI p (List.mem_of_mem_take hp)⟩ (by omega) (fun p hp => (HOQ.out p (List.mem_of_mem_take hp)).2.1)).mono ?_
            rintro e w5 ⟨g5, c5, P5, rfl, hmap5, hrow5, hb5⟩
            have HM5 : Hid (P5.map Prod.fst = (Q.take k).map Prod.fst) := hmap5
            have BW5 : Hid (Below VX.heap.size VX w5) := chain YB.out hb5
            have LY : VX.heap.size ≤ VX.drew.heap.size := YB.out.size
            have HR5 : Hid (RowV w5 w.heap.size (.slice (some ⟨g5, 0, none⟩) k c5) P5 k) := ⟨own_lowV hrow5.own (by omega), hrow5.len, fun p hp => (hrow5.new p hp).lower (by omega), hrow5.far, hrow5.nilI⟩
            have LG5 : VX.heap.size ≤ g5 := by have := (hrow5.own.lt g5 rfl).1; omega
            clear hmap5 hrow5
            clear hb5 hHeld x0 x1 x2 x3 x4 x5 x6
            have x0 : w5.cell? ⟨gx, 0, none⟩ = some (.int .i64 xk) := (BW5.out.cell (p := ⟨gx, 0, none⟩) GXL).trans X0.out
            have x1 : w5.cell? ⟨gx, 1, none⟩ = some (.string xm) := (BW5.out.cell (p := ⟨gx, 1, none⟩) GXL).trans X1.out
            have x2 : w5.cell? ⟨gx, 2, none⟩ = some (.slice ya xn yc) := (BW5.out.cell (p := ⟨gx, 2, none⟩) GXL).trans X2.out
            have x3 : w5.cell? ⟨gx, 3, none⟩ = some (.slice za xl zc) := (BW5.out.cell (p := ⟨gx, 3, none⟩) GXL).trans X3.out
            have x4 : w5.cell? ⟨gx, 4, none⟩ = some (.bool xd) := (BW5.out.cell (p := ⟨gx, 4, none⟩) GXL).trans X4.out
            have x5 : w5.cell? ⟨gx, 5, none⟩ = some (.int .i64 xc) := (BW5.out.cell (p := ⟨gx, 5, none⟩) GXL).trans X5.out
            have x6 : w5.cell? ⟨gx, 6, none⟩ = some (.int .i64 xs) := (BW5.out.cell (p := ⟨gx, 6, none⟩) GXL).trans X6.out
            refine hK.out _ _ ⟨x0, x1, x2, x3, x4, x5, x6⟩ (fun hHeld => ?_)
            clear hK K
            try simp only [Act.put, List.setIfInBounds_toArray, List.set_cons_zero, List.set_cons_succ]
            refine wpAnyH_ready (rs := [5]) (by kernel_rfl) (by simp) ?_
            refine AllReadyH.cons (by simp only [List.getElem?_toArray, List.getElem?_cons_zero, List.getElem?_cons_succ]; rfl) ?_ AllReadyH.nil
            intro K hK
            go_simp
            obtain ⟨V6, hV⟩ : ∃ V, V = w5.alloc (.cells #[.int .i64 xk, .string xm, .slice ya xn yc, .slice za xl zc, .bool xd, .int .i64 xc, .int .i64 xs] 38) := ⟨_, rfl⟩
            obtain ⟨g6, hg6⟩ : ∃ z, z = w5.heap.size := ⟨_, rfl⟩
            have BV6 : Hid (Below w5.heap.size w5 V6) := by rw [hV]; exact (Below.refl w5.heap.size w5).alloc (Nat.le_refl _) (.cells #[.int .i64 xk, .string xm, .slice ya xn yc, .slice za xl zc, .bool xd, .int .i64 xc, .int .i64 xs] 38)
            have HC6 : Hid (∀ (j : Nat) u, (hvS [((⟨xk, xm, XN, XL, xd, xc, xs⟩ : SV), (⟨ya, yc, za, zc⟩ : HAd))])[j]? = some u → V6.cell? ⟨g6, j, none⟩ = some u) := by rw [hV, hg6]; exact cells_alloc w5 _ _ _ (by simp [hvS, headSv, HXA.out, HXB.out])
            rw [← hV, ← hg6]
            clear hV hg6
            have HR6 : Hid (RowV V6 w.heap.size (.slice (some ⟨g5, 0, none⟩) k c5) P5 k) := HR5.out.below BV6.out
            have BW6 : Hid (Below VX.heap.size VX V6) := chain BW5.out BV6.out
            have HC7 : Hid (∀ (j : Nat) u, (hvS [((⟨xk, xm, XN, XL, xd, xc, xs⟩ : SV), (⟨ya, yc, za, zc⟩ : HAd))])[j]? = some u → V6.cell? ⟨g6, j, none⟩ = some u) := HC6
            clear hHeld x0 x1 x2 x3 x4 x5 x6
            have x0 : V6.cell? ⟨gx, 0, none⟩ = some (.int .i64 xk) := (BW6.out.cell (p := ⟨gx, 0, none⟩) GXL).trans X0.out
            have x1 : V6.cell? ⟨gx, 1, none⟩ = some (.string xm) := (BW6.out.cell (p := ⟨gx, 1, none⟩) GXL).trans X1.out
            have x2 : V6.cell? ⟨gx, 2, none⟩ = some (.slice ya xn yc) := (BW6.out.cell (p := ⟨gx, 2, none⟩) GXL).trans X2.out
            have x3 : V6.cell? ⟨gx, 3, none⟩ = some (.slice za xl zc) := (BW6.out.cell (p := ⟨gx, 3, none⟩) GXL).trans X3.out
            have x4 : V6.cell? ⟨gx, 4, none⟩ = some (.bool xd) := (BW6.out.cell (p := ⟨gx, 4, none⟩) GXL).trans X4.out
            have x5 : V6.cell? ⟨gx, 5, none⟩ = some (.int .i64 xc) := (BW6.out.cell (p := ⟨gx, 5, none⟩) GXL).trans X5.out
            have x6 : V6.cell? ⟨gx, 6, none⟩ = some (.int .i64 xs) := (BW6.out.cell (p := ⟨gx, 6, none⟩) GXL).trans X6.out
            refine hK.out _ _ ⟨x0, x1, x2, x3, x4, x5, x6⟩ (fun hHeld => ?_)
            clear hK K
            try simp only [Act.put, List.setIfInBounds_toArray, List.set_cons_zero, List.set_cons_succ]
            refine wpAnyH_ready (rs := [6]) (by kernel_rfl) (by simp) ?_
            refine AllReadyH.cons (by simp only [List.getElem?_toArray, List.getElem?_cons_zero, List.getElem?_cons_succ]; rfl) ?_ AllReadyH.nil
            intro K hK
            rw [if_pos (by rfl)]
            refine app_sivsL (.tmp 35) (.tmp 37) rfl (by have := BW6.out.size; omega) _ k P5 rfl HR6.out.own ⟨g6, 0, none⟩ 1 1 [((⟨xk, xm, XN, XL, xd, xc, xs⟩ : SV), (⟨ya, yc, za, zc⟩ : HAd))] rfl rfl (fun i u hu => ?_) (by omega) (by omega) ?_
            · rw [addr_addS, Nat.zero_add]
              exact HC7.out i u hu
            intro g7 c7 w7 own7 grow7 loc7
            have LW6 : VX.heap.size ≤ V6.heap.size := BW6.out.size
            have XN6 : Hid (SivNew V6 w.heap.size ⟨ya, yc, za, zc⟩ ⟨xk, xm, XN, XL, xd, xc, xs⟩) := (XNEW.out.below BW6.out).lower LWR
            have HR7 : Hid (RowV w7 w.heap.size (.slice (some ⟨g7, 0, none⟩) (k + 1) c7) (P5 ++ [((⟨xk, xm, XN, XL, xd, xc, xs⟩ : SV), (⟨ya, yc, za, zc⟩ : HAd))]) (k + 1)) := by
              refine HR6.out.app rfl (fun p hp => ?_) (fun p hp b hb e => ?_) (fun p hp => ?_) own7 grow7 loc7
              · rcases List.mem_cons.1 hp with rfl | hp
                · exact XN6.out
                · cases hp
              · rcases List.mem_cons.1 hp with rfl | hp
                · have h1 := XNEW.out.lt b hb
                  cases e
                  dsimp only at h1
                  omega
                · cases hp
              · rcases List.mem_cons.1 hp with rfl | hp
                · exact HXL.out
                · cases hp
            have LG7 : VX.heap.size ≤ g7 := by
              rcases loc7 with e | e
              · cases e; exact LG5
              · cases e; exact LW6
            have BW7 : Hid (Below VX.heap.size VX w7) := BW6.out.grown grow7 LW6 (fun kk hkk => by cases hkk; exact LG5)
            clear own7 grow7 loc7 hHeld x0 x1 x2 x3 x4 x5 x6
            have x0 : w7.cell? ⟨gx, 0, none⟩ = some (.int .i64 xk) := (BW7.out.cell (p := ⟨gx, 0, none⟩) GXL).trans X0.out
            have x1 : w7.cell? ⟨gx, 1, none⟩ = some (.string xm) := (BW7.out.cell (p := ⟨gx, 1, none⟩) GXL).trans X1.out
            have x2 : w7.cell? ⟨gx, 2, none⟩ = some (.slice ya xn yc) := (BW7.out.cell (p := ⟨gx, 2, none⟩) GXL).trans X2.out
            have x3 : w7.cell? ⟨gx, 3, none⟩ = some (.slice za xl zc) := (BW7.out.cell (p := ⟨gx, 3, none⟩) GXL).trans X3.out
            have x4 : w7.cell? ⟨gx, 4, none⟩ = some (.bool xd) := (BW7.out.cell (p := ⟨gx, 4, none⟩) GXL).trans X4.out
            have x5 : w7.cell? ⟨gx, 5, none⟩ = some (.int .i64 xc) := (BW7.out.cell (p := ⟨gx, 5, none⟩) GXL).trans X5.out
            have x6 : w7.cell? ⟨gx, 6, none⟩ = some (.int .i64 xs) := (BW7.out.cell (p := ⟨gx, 6, none⟩) GXL).trans X6.out
            refine hK.out _ _ ⟨x0, x1, x2, x3, x4, x5, x6⟩ (fun hHeld => ?_)
            clear hK K
            try simp only [Act.put, List.setIfInBounds_toArray, List.set_cons_zero, List.set_cons_succ]
            refine wpAnyH_ready (rs := [11]) (by kernel_rfl) (by simp) ?_
            refine AllReadyH.cons (by simp only [List.getElem?_toArray, List.getElem?_cons_zero, List.getElem?_cons_succ]; rfl) ?_ AllReadyH.nil
            intro K hK
            rw [if_pos (by rfl)]
            refine app_sivsL (.tmp 38) (.tmp 42) rfl (by have := BW7.out.size; omega) _ (k + 1) (P5 ++ [((⟨xk, xm, XN, XL, xd, xc, xs⟩ : SV), (⟨ya, yc, za, zc⟩ : HAd))]) rfl HR7.out.own sa42 (m - (k + 2)) (c - (k + 2)) (Q.drop (k + 2)) rfl (by rw [List.length_drop, hl]) (fun i u hu => ?_) (by omega) (by omega) ?_
            · have hlh := (List.getElem?_eq_some_iff.1 hu).1
              rw [hvS_length, List.length_drop, hl] at hlh
              rw [HSA.out (by omega)]
              exact src_dropS HRX.out.own BW7.out (k + 2) (by omega) i u hu
            intro g8 c8 w8 own8 grow8 loc8
            have HR8 : Hid (RowV w8 w.heap.size (.slice (some ⟨g8, 0, none⟩) (k + 1 + (m - (k + 2))) c8) (P5 ++ [((⟨xk, xm, XN, XL, xd, xc, xs⟩ : SV), (⟨ya, yc, za, zc⟩ : HAd))] ++ Q.drop (k + 2)) (k + 1 + (m - (k + 2)))) := by
              refine HR7.out.app (by rw [List.length_drop, hl]) (fun p hp => (HRX.out.below BW7.out).new p (List.mem_of_mem_drop hp)) (fun p hp b hb e => ?_) (fun p hp => HRX.out.nilI p (List.mem_of_mem_drop hp)) own8 grow8 loc8
              have h1 := (HRX.out.new p (List.mem_of_mem_drop hp)).lt b hb
              cases e
              dsimp only at h1
              omega
            have BW8 : Below VX.heap.size VX w8 := BW7.out.grown grow8 BW7.out.size (fun kk hkk => by cases hkk; exact LG7)
            have HB8 := chain (chain hbw BX.out) BW8
            have HNX : Hid (MrgW w w8 g8 (k + 1 + (m - (k + 2))) c8 (P.map Prod.fst) 0) := MrgW.app HR8.out HM5.out HCM.out HNO.out HOQ.out hk1 HP.out
            clear own8 grow8 loc8 hHeld x0 x1 x2 x3 x4 x5 x6
            have x0 : w8.cell? ⟨gx, 0, none⟩ = some (.int .i64 xk) := (BW8.cell (p := ⟨gx, 0, none⟩) GXL).trans X0.out
            have x1 : w8.cell? ⟨gx, 1, none⟩ = some (.string xm) := (BW8.cell (p := ⟨gx, 1, none⟩) GXL).trans X1.out
            have x2 : w8.cell? ⟨gx, 2, none⟩ = some (.slice ya xn yc) := (BW8.cell (p := ⟨gx, 2, none⟩) GXL).trans X2.out
            have x3 : w8.cell? ⟨gx, 3, none⟩ = some (.slice za xl zc) := (BW8.cell (p := ⟨gx, 3, none⟩) GXL).trans X3.out
            have x4 : w8.cell? ⟨gx, 4, none⟩ = some (.bool xd) := (BW8.cell (p := ⟨gx, 4, none⟩) GXL).trans X4.out
            have x5 : w8.cell? ⟨gx, 5, none⟩ = some (.int .i64 xc) := (BW8.cell (p := ⟨gx, 5, none⟩) GXL).trans X5.out
            have x6 : w8.cell? ⟨gx, 6, none⟩ = some (.int .i64 xs) := (BW8.cell (p := ⟨gx, 6, none⟩) GXL).trans X6.out
            refine hK.out _ _ ⟨x0, x1, x2, x3, x4, x5, x6⟩ (fun hHeld => ?_)
            clear hK K BW8
            try simp only [Act.put, List.setIfInBounds_toArray, List.set_cons_zero, List.set_cons_succ]
            refine wpAnyH_take (i := 12) (by simp only [List.getElem?_toArray, List.getElem?_cons_zero, List.getElem?_cons_succ]; rfl) (by kernel_rfl) (by kernel_rfl) (by kernel_rfl) (by intro _ _ _ h; exact h) (Or.inl ⟨by rfl, fun w hSw => by (dsimp only at hSw; go_simp; (try with_reducible rfl))⟩) (by assumption) ?_
            simp only [Act.put, List.setIfInBounds_toArray, List.set_cons_zero, List.set_cons_succ]
            refine wpAnyH_done (by kernel_rfl) ?_ _
            clear hHeld x0 x1 x2 x3 x4 x5 x6
            obtain ⟨q, hq⟩ : ∃ q, k + 1 + (m - (k + 2)) = q := ⟨_, rfl⟩
            have hq1 : q + 1 = m := by omega
            rw [hq] at HNX ⊢
            clear hq
            go_wp2
            go_roundw
            case rel => exact ⟨g8, q, c8, 0, rfl, Nat.zero_le _, by omega, rfl, HNX.out, HB8⟩
            case measure =>
              have e0 : (intOf (.int .i64 0)).toNat = 0 := rfl
              have e1 : (intOf (.int .i64 (k : Int))).toNat = k := by simp [intOf]
              simp only [e0, e1, lenV]
              rw [← hq1, Nat.add_mul, Nat.one_mul]
              omega
          · intro K hK
            go_simp
            obtain ⟨V6, hV⟩ : ∃ V, V = VX.alloc (.cells #[.int .i64 xk, .string xm, .slice ya xn yc, .slice za xl zc, .bool xd, .int .i64 xc, .int .i64 xs] 38) := ⟨_, rfl⟩
            obtain ⟨g6, hg6⟩ : ∃ z, z = VX.heap.size := ⟨_, rfl⟩
            have BV6 : Hid (Below VX.drew.heap.size VX.drew V6.drew) := by rw [hV]; exact (Below.refl VX.drew.heap.size VX.drew).alloc (Nat.le_refl _) (.cells #[.int .i64 xk, .string xm, .slice ya xn yc, .slice za xl zc, .bool xd, .int .i64 xc, .int .i64 xs] 38)
            have HC6 : Hid (∀ (j : Nat) u, (hvS [((⟨xk, xm, XN, XL, xd, xc, xs⟩ : SV), (⟨ya, yc, za, zc⟩ : HAd))])[j]? = some u → V6.cell? ⟨g6, j, none⟩ = some u) := by rw [hV, hg6]; exact cells_alloc VX _ _ _ (by simp [hvS, headSv, HXA.out, HXB.out])
            rw [← hV, ← hg6]
            clear hV hg6
            have YB : Hid (Below VX.heap.size VX V6.drew) := chain ((Below.refl _ _).drew) BV6.out
            clear hHeld x0 x1 x2 x3 x4 x5 x6
            have x0 : V6.drew.cell? ⟨gx, 0, none⟩ = some (.int .i64 xk) := (YB.out.cell (p := ⟨gx, 0, none⟩) GXL).trans X0.out
            have x1 : V6.drew.cell? ⟨gx, 1, none⟩ = some (.string xm) := (YB.out.cell (p := ⟨gx, 1, none⟩) GXL).trans X1.out
            have x2 : V6.drew.cell? ⟨gx, 2, none⟩ = some (.slice ya xn yc) := (YB.out.cell (p := ⟨gx, 2, none⟩) GXL).trans X2.out
            have x3 : V6.drew.cell? ⟨gx, 3, none⟩ = some (.slice za xl zc) := (YB.out.cell (p := ⟨gx, 3, none⟩) GXL).trans X3.out
            have x4 : V6.drew.cell? ⟨gx, 4, none⟩ = some (.bool xd) := (YB.out.cell (p := ⟨gx, 4, none⟩) GXL).trans X4.out
            have x5 : V6.drew.cell? ⟨gx, 5, none⟩ = some (.int .i64 xc) := (YB.out.cell (p := ⟨gx, 5, none⟩) GXL).trans X5.out
            have x6 : V6.drew.cell? ⟨gx, 6, none⟩ = some (.int .i64 xs) := (YB.out.cell (p := ⟨gx, 6, none⟩) GXL).trans X6.out
            refine hK.out _ _ ⟨x0, x1, x2, x3, x4, x5, x6⟩ (fun hHeld => ?_)
            clear hK K
            try simp only [Act.put, List.setIfInBounds_toArray, List.set_cons_zero, List.set_cons_succ]
            refine wpAnyH_ready (rs := [3]) (by kernel_rfl) (by simp) ?_
            refine AllReadyH.cons (by simp only [List.getElem?_toArray, List.getElem?_cons_zero, List.getElem?_cons_succ]; rfl) ?_ AllReadyH.nil
            intro K hK
            go_simp
            have GL6 : g6 < V6.heap.size := by
              have h := HC6.out 0 (.int .i64 xk) (by simp [hvS, headSv])
              exact cell_lt h
            refine (l13copy_spec (some ⟨g, 0, none⟩) c (Q.take k) k (by rw [List.length_take]; omega) _ ⟨fun i hi => (HRX.out.below YB.out).heads.cells i (by rw [List.length_take] at hi; omega) |>.imp fun _ h => h.imp fun _ h => ⟨h.1, h.2.1, fun j hj => by rw [List.getElem_take]; exact h.2.2 j hj⟩, fun p hp => ((HRX.out.below YB.out).new p (List.mem_of_mem_take hp)).siv, fun p hp => HRX.out.nilI p (List.mem_of_mem_take hp)⟩ (by omega) (fun p hp => (HOQ.out p (List.mem_of_mem_take hp)).2.1)).mono ?_
            rintro e w5 ⟨g5, c5, P5, rfl, hmap5, hrow5, hb5⟩
            have HM5 : Hid (P5.map Prod.fst = (Q.take k).map Prod.fst) := hmap5
            have BW5 : Hid (Below VX.heap.size VX w5) := chain YB.out hb5
            have LY : VX.heap.size ≤ V6.drew.heap.size := YB.out.size
            have HR5 : Hid (RowV w5 w.heap.size (.slice (some ⟨g5, 0, none⟩) k c5) P5 k) := ⟨own_lowV hrow5.own (by omega), hrow5.len, fun p hp => (hrow5.new p hp).lower (by omega), hrow5.far, hrow5.nilI⟩
            have LG5 : VX.heap.size ≤ g5 := by have := (hrow5.own.lt g5 rfl).1; omega
            clear hmap5 hrow5
            have HC7 : Hid (∀ (j : Nat) u, (hvS [((⟨xk, xm, XN, XL, xd, xc, xs⟩ : SV), (⟨ya, yc, za, zc⟩ : HAd))])[j]? = some u → w5.cell? ⟨g6, j, none⟩ = some u) := fun j u hu => (hb5.cell (p := ⟨g6, j, none⟩) GL6).trans (HC6.out j u hu)
            have HR6 : Hid (RowV w5 w.heap.size (.slice (some ⟨g5, 0, none⟩) k c5) P5 k) := HR5
            have BW6 : Hid (Below VX.heap.size VX w5) := BW5
            clear hb5 hHeld x0 x1 x2 x3 x4 x5 x6
            have x0 : w5.cell? ⟨gx, 0, none⟩ = some (.int .i64 xk) := (BW6.out.cell (p := ⟨gx, 0, none⟩) GXL).trans X0.out
            have x1 : w5.cell? ⟨gx, 1, none⟩ = some (.string xm) := (BW6.out.cell (p := ⟨gx, 1, none⟩) GXL).trans X1.out
            have x2 : w5.cell? ⟨gx, 2, none⟩ = some (.slice ya xn yc) := (BW6.out.cell (p := ⟨gx, 2, none⟩) GXL).trans X2.out
            have x3 : w5.cell? ⟨gx, 3, none⟩ = some (.slice za xl zc) := (BW6.out.cell (p := ⟨gx, 3, none⟩) GXL).trans X3.out
            have x4 : w5.cell? ⟨gx, 4, none⟩ = some (.bool xd) := (BW6.out.cell (p := ⟨gx, 4, none⟩) GXL).trans X4.out
            have x5 : w5.cell? ⟨gx, 5, none⟩ = some (.int .i64 xc) := (BW6.out.cell (p := ⟨gx, 5, none⟩) GXL).trans X5.out
            have x6 : w5.cell? ⟨gx, 6, none⟩ = some (.int .i64 xs) := (BW6.out.cell (p := ⟨gx, 6, none⟩) GXL).trans X6.out
            refine hK.out _ _ ⟨x0, x1, x2, x3, x4, x5, x6⟩ (fun hHeld => ?_)
            clear hK K
            try simp only [Act.put, List.setIfInBounds_toArray, List.set_cons_zero, List.set_cons_succ]
            refine wpAnyH_ready (rs := [6]) (by kernel_rfl) (by simp) ?_
            refine AllReadyH.cons (by simp only [List.getElem?_toArray, List.getElem?_cons_zero, List.getElem?_cons_succ]; rfl) ?_ AllReadyH.nil
            intro K hK
            rw [if_pos (by rfl)]
            refine app_sivsL (.tmp 35) (.tmp 37) rfl (by have := BW6.out.size; omega) _ k P5 rfl HR6.out.own ⟨g6, 0, none⟩ 1 1 [((⟨xk, xm, XN, XL, xd, xc, xs⟩ : SV), (⟨ya, yc, za, zc⟩ : HAd))] rfl rfl (fun i u hu => ?_) (by omega) (by omega) ?_
            · rw [addr_addS, Nat.zero_add]
              exact HC7.out i u hu
            intro g7 c7 w7 own7 grow7 loc7
            have LW6 : VX.heap.size ≤ w5.heap.size := BW6.out.size
            have XN6 : Hid (SivNew w5 w.heap.size ⟨ya, yc, za, zc⟩ ⟨xk, xm, XN, XL, xd, xc, xs⟩) := (XNEW.out.below BW6.out).lower LWR
            have HR7 : Hid (RowV w7 w.heap.size (.slice (some ⟨g7, 0, none⟩) (k + 1) c7) (P5 ++ [((⟨xk, xm, XN, XL, xd, xc, xs⟩ : SV), (⟨ya, yc, za, zc⟩ : HAd))]) (k + 1)) := by
              refine HR6.out.app rfl (fun p hp => ?_) (fun p hp b hb e => ?_) (fun p hp => ?_) own7 grow7 loc7
              · rcases List.mem_cons.1 hp with rfl | hp
                · exact XN6.out
                · cases hp
              · rcases List.mem_cons.1 hp with rfl | hp
                · have h1 := XNEW.out.lt b hb
                  cases e
                  dsimp only at h1
                  omega
                · cases hp
              · rcases List.mem_cons.1 hp with rfl | hp
                · exact HXL.out
                · cases hp
            have LG7 : VX.heap.size ≤ g7 := by
              rcases loc7 with e | e
              · cases e; exact LG5
              · cases e; exact LW6
            have BW7 : Hid (Below VX.heap.size VX w7) := BW6.out.grown grow7 LW6 (fun kk hkk => by cases hkk; exact LG5)
            clear own7 grow7 loc7 hHeld x0 x1 x2 x3 x4 x5 x6
            have x0 : w7.cell? ⟨gx, 0, none⟩ = some (.int .i64 xk) := (BW7.out.cell (p := ⟨gx, 0, none⟩) GXL).trans X0.out
            have x1 : w7.cell? ⟨gx, 1, none⟩ = some (.string xm) := (BW7.out.cell (p := ⟨gx, 1, none⟩) GXL).trans X1.out
            have x2 : w7.cell? ⟨gx, 2, none⟩ = some (.slice ya xn yc) := (BW7.out.cell (p := ⟨gx, 2, none⟩) GXL).trans X2.out
            have x3 : w7.cell? ⟨gx, 3, none⟩ = some (.slice za xl zc) := (BW7.out.cell (p := ⟨gx, 3, none⟩) GXL).trans X3.out
            have x4 : w7.cell? ⟨gx, 4, none⟩ = some (.bool xd) := (BW7.out.cell (p := ⟨gx, 4, none⟩) GXL).trans X4.out
            have x5 : w7.cell? ⟨gx, 5, none⟩ = some (.int .i64 xc) := (BW7.out.cell (p := ⟨gx, 5, none⟩) GXL).trans X5.out
            have x6 : w7.cell? ⟨gx, 6, none⟩ = some (.int .i64 xs) := (BW7.out.cell (p := ⟨gx, 6, none⟩) GXL).trans X6.out
            refine hK.out _ _ ⟨x0, x1, x2, x3, x4, x5, x6⟩ (fun hHeld => ?_)
            clear hK K
            try simp only [Act.put, List.setIfInBounds_toArray, List.set_cons_zero, List.set_cons_succ]
            refine wpAnyH_ready (rs := [11]) (by kernel_rfl) (by simp) ?_
            refine AllReadyH.cons (by simp only [List.getElem?_toArray, List.getElem?_cons_zero, List.getElem?_cons_succ]; rfl) ?_ AllReadyH.nil
            intro K hK
            rw [if_pos (by rfl)]
            refine app_sivsL (.tmp 38) (.tmp 42) rfl (by have := BW7.out.size; omega) _ (k + 1) (P5 ++ [((⟨xk, xm, XN, XL, xd, xc, xs⟩ : SV), (⟨ya, yc, za, zc⟩ : HAd))]) rfl HR7.out.own sa42 (m - (k + 2)) (c - (k + 2)) (Q.drop (k + 2)) rfl (by rw [List.length_drop, hl]) (fun i u hu => ?_) (by omega) (by omega) ?_
            · have hlh := (List.getElem?_eq_some_iff.1 hu).1
              rw [hvS_length, List.length_drop, hl] at hlh
              rw [HSA.out (by omega)]
              exact src_dropS HRX.out.own BW7.out (k + 2) (by omega) i u hu
            intro g8 c8 w8 own8 grow8 loc8
            have HR8 : Hid (RowV w8 w.heap.size (.slice (some ⟨g8, 0, none⟩) (k + 1 + (m - (k + 2))) c8) (P5 ++ [((⟨xk, xm, XN, XL, xd, xc, xs⟩ : SV), (⟨ya, yc, za, zc⟩ : HAd))] ++ Q.drop (k + 2)) (k + 1 + (m - (k + 2)))) := by
              refine HR7.out.app (by rw [List.length_drop, hl]) (fun p hp => (HRX.out.below BW7.out).new p (List.mem_of_mem_drop hp)) (fun p hp b hb e => ?_) (fun p hp => HRX.out.nilI p (List.mem_of_mem_drop hp)) own8 grow8 loc8
              have h1 := (HRX.out.new p (List.mem_of_mem_drop hp)).lt b hb
              cases e
              dsimp only at h1
              omega
            have BW8 : Below VX.heap.size VX w8 := BW7.out.grown grow8 BW7.out.size (fun kk hkk => by cases hkk; exact LG7)
            have HB8 := chain (chain hbw BX.out) BW8
            have HNX : Hid (MrgW w w8 g8 (k + 1 + (m - (k + 2))) c8 (P.map Prod.fst) 0) := MrgW.app HR8.out HM5.out HCM.out HNO.out HOQ.out hk1 HP.out
            clear own8 grow8 loc8 hHeld x0 x1 x2 x3 x4 x5 x6
            have x0 : w8.cell? ⟨gx, 0, none⟩ = some (.int .i64 xk) := (BW8.cell (p := ⟨gx, 0, none⟩) GXL).trans X0.out
            have x1 : w8.cell? ⟨gx, 1, none⟩ = some (.string xm) := (BW8.cell (p := ⟨gx, 1, none⟩) GXL).trans X1.out
            have x2 : w8.cell? ⟨gx, 2, none⟩ = some (.slice ya xn yc) := (BW8.cell (p := ⟨gx, 2, none⟩) GXL).trans X2.out
            have x3 : w8.cell? ⟨gx, 3, none⟩ = some (.slice za xl zc) := (BW8.cell (p := ⟨gx, 3, none⟩) GXL).trans X3.out
            have x4 : w8.cell? ⟨gx, 4, none⟩ = some (.bool xd) := (BW8.cell (p := ⟨gx, 4, none⟩) GXL).trans X4.out
            have x5 : w8.cell? ⟨gx, 5, none⟩ = some (.int .i64 xc) := (BW8.cell (p := ⟨gx, 5, none⟩) GXL).trans X5.out
            have x6 : w8.cell? ⟨gx, 6, none⟩ = some (.int .i64 xs) := (BW8.cell (p := ⟨gx, 6, none⟩) GXL).trans X6.out
            refine hK.out _ _ ⟨x0, x1, x2, x3, x4, x5, x6⟩ (fun hHeld => ?_)
            clear hK K BW8
            try simp only [Act.put, List.setIfInBounds_toArray, List.set_cons_zero, List.set_cons_succ]
            refine wpAnyH_take (i := 12) (by simp only [List.getElem?_toArray, List.getElem?_cons_zero, List.getElem?_cons_succ]; rfl) (by kernel_rfl) (by kernel_rfl) (by kernel_rfl) (by intro _ _ _ h; exact h) (Or.inl ⟨by rfl, fun w hSw => by (dsimp only at hSw; go_simp; (try with_reducible rfl))⟩) (by assumption) ?_
            simp only [Act.put, List.setIfInBounds_toArray, List.set_cons_zero, List.set_cons_succ]
            refine wpAnyH_done (by kernel_rfl) ?_ _
            clear hHeld x0 x1 x2 x3 x4 x5 x6
            obtain ⟨q, hq⟩ : ∃ q, k + 1 + (m - (k + 2)) = q := ⟨_, rfl⟩
            have hq1 : q + 1 = m := by omega
            rw [hq] at HNX ⊢
            clear hq
            go_wp2
            go_roundw
            case rel => exact ⟨g8, q, c8, 0, rfl, Nat.zero_le _, by omega, rfl, HNX.out, HB8⟩
            case measure =>
              have e0 : (intOf (.int .i64 0)).toNat = 0 := rfl
              have e1 : (intOf (.int .i64 (k : Int))).toNat = k := by simp [intOf]
              simp only [e0, e1, lenV]
              rw [← hq1, Nat.add_mul, Nat.one_mul]
              omega
      · intro K hK
        go_simp
        obtain ⟨V1, hV⟩ : ∃ V, V = wr.alloc (.cells #[.int .i64 0, .string ⟨#[]⟩, .slice none 0 0, .slice none 0 0, .bool false, .int .i64 0, .int .i64 0] 38) := ⟨_, rfl⟩
        obtain ⟨gx, hgx⟩ : ∃ z, z = wr.heap.size := ⟨_, rfl⟩
        have BV : Hid (Below wr.heap.size wr V1.drew) := by rw [hV]; exact ((Below.refl _ _).alloc (Nat.le_refl _) _).drew
        have HBOX : Hid (V1.drew.heap[gx]? = some (.cells #[.int .i64 0, .string ⟨#[]⟩, .slice none 0 0, .slice none 0 0, .bool false, .int .i64 0, .int .i64 0] 38)) := by rw [hV, hgx]; exact _root_.Go.heap_alloc_new wr _
        have FZX : Hid (∀ o, V1.drew.frozen? ⟨gx, o, none⟩ = false) := by
          have h : ∀ o, V1.drew.frozen? ⟨gx, o, none⟩ = false := by intro o; rw [hV, hgx]; simp
          exact h
        have GXV : gx < V1.drew.heap.size := by rw [hV, hgx]; simp
        have GXE : Hid (gx < V1.drew.heap.size) := GXV
        have GXB : wr.heap.size ≤ gx := by omega
        rw [← hV, ← hgx]
        clear hV hgx hHeld c0 c1 c2 c3 c4 c5 c6 d0 d1 d2 d3 d4 d5 d6
        have c0 : V1.drew.cell? ⟨g, k * 7, none⟩ = some (.int .i64 kd) := (BV.out.cell (p := ⟨g, k * 7, none⟩) hg).trans Fc0.out
        have c1 : V1.drew.cell? ⟨g, k * 7 + 1, none⟩ = some (.string nm) := (BV.out.cell (p := ⟨g, k * 7 + 1, none⟩) hg).trans Fc1.out
        have c2 : V1.drew.cell? ⟨g, k * 7 + 2, none⟩ = some (.slice na nn nc) := (BV.out.cell (p := ⟨g, k * 7 + 2, none⟩) hg).trans Fc2.out
        have c3 : V1.drew.cell? ⟨g, k * 7 + 3, none⟩ = some (.slice sa sn sc) := (BV.out.cell (p := ⟨g, k * 7 + 3, none⟩) hg).trans Fc3.out
        have c4 : V1.drew.cell? ⟨g, k * 7 + 4, none⟩ = some (.bool dn) := (BV.out.cell (p := ⟨g, k * 7 + 4, none⟩) hg).trans Fc4.out
        have c5 : V1.drew.cell? ⟨g, k * 7 + 5, none⟩ = some (.int .i64 ct) := (BV.out.cell (p := ⟨g, k * 7 + 5, none⟩) hg).trans Fc5.out
        have c6 : V1.drew.cell? ⟨g, k * 7 + 6, none⟩ = some (.int .i64 sk) := (BV.out.cell (p := ⟨g, k * 7 + 6, none⟩) hg).trans Fc6.out
        have d0 : V1.drew.cell? ⟨g, (k + 1) * 7, none⟩ = some (.int .i64 kt) := (BV.out.cell (p := ⟨g, (k + 1) * 7, none⟩) hg).trans Fd0.out
        have d1 : V1.drew.cell? ⟨g, (k + 1) * 7 + 1, none⟩ = some (.string mt) := (BV.out.cell (p := ⟨g, (k + 1) * 7 + 1, none⟩) hg).trans Fd1.out
        have d2 : V1.drew.cell? ⟨g, (k + 1) * 7 + 2, none⟩ = some (.slice ma mn mc) := (BV.out.cell (p := ⟨g, (k + 1) * 7 + 2, none⟩) hg).trans Fd2.out
        have d3 : V1.drew.cell? ⟨g, (k + 1) * 7 + 3, none⟩ = some (.slice ra rn rc) := (BV.out.cell (p := ⟨g, (k + 1) * 7 + 3, none⟩) hg).trans Fd3.out
        have d4 : V1.drew.cell? ⟨g, (k + 1) * 7 + 4, none⟩ = some (.bool dt) := (BV.out.cell (p := ⟨g, (k + 1) * 7 + 4, none⟩) hg).trans Fd4.out
        have d5 : V1.drew.cell? ⟨g, (k + 1) * 7 + 5, none⟩ = some (.int .i64 tt) := (BV.out.cell (p := ⟨g, (k + 1) * 7 + 5, none⟩) hg).trans Fd5.out
        have d6 : V1.drew.cell? ⟨g, (k + 1) * 7 + 6, none⟩ = some (.int .i64 st) := (BV.out.cell (p := ⟨g, (k + 1) * 7 + 6, none⟩) hg).trans Fd6.out
        refine hK.out _ _ ⟨c0, c1, c2, c3, c4, c5, c6, d0, d1, d2, d3, d4, d5, d6⟩ (fun hHeld => ?_)
        clear hK K
        try simp only [Act.put, List.setIfInBounds_toArray, List.set_cons_zero, List.set_cons_succ]
        refine wpAnyH_ready (rs := [9]) (by kernel_rfl) (by simp) ?_
        refine AllReadyH.cons (by simp only [List.getElem?_toArray, List.getElem?_cons_zero, List.getElem?_cons_succ]; rfl) ?_ AllReadyH.nil
        intro K hK
        go_simp
        refine (l13merge_spec kd nm na nn nc N HNN.out sa sn sc S HSN.out dn ct sk kt mt ma mn mc M HMN.out ra rn rc R HRN.out dt tt st _ (HSV.out.below BV.out) (HTV.out.below BV.out) HSO.out HTO.out HSL.out HTL.out).mono ?_
        rintro e w3 ⟨hb3, ⟨hm, rfl⟩ | ⟨r, x, hm, rfl, hnew, hnil⟩⟩
        · have HNM : Hid (mergeR ⟨kd, nm, N, S, dn, ct, sk⟩ ⟨kt, mt, M, R, dt, tt, st⟩ = none) := hm
          simp only [headSv, HNN.out, HSN.out]
          have HB3 : Hid (Below V1.drew.heap.size V1.drew w3) := hb3
          have B3 : Below wr.heap.size wr w3 := chain BV.out hb3
          clear hb3 hHeld c0 c1 c2 c3 c4 c5 c6 d0 d1 d2 d3 d4 d5 d6
          clear hm
          have hg3 : g < w3.heap.size := Nat.lt_of_lt_of_le hg B3.size
          have GX3 : gx < w3.heap.size := Nat.lt_of_lt_of_le GXV HB3.out.size
          obtain ⟨z0, z1, z2, z3, z4, z5, z6⟩ := cells7 (((Kept.refl 0 V1.drew).below HB3.out).box (Nat.zero_le _) HBOX.out)
          have fz : ∀ o, w3.frozen? ⟨gx, o, none⟩ = false := fun o => ((bcell HB3.out).2 _ _ GXV).trans (FZX.out o)
          go_wp2_with fail
          have c0 : w3.cell? ⟨g, k * 7, none⟩ = some (.int .i64 kd) := (B3.cell (p := ⟨g, k * 7, none⟩) hg).trans Fc0.out
          have c1 : w3.cell? ⟨g, k * 7 + 1, none⟩ = some (.string nm) := (B3.cell (p := ⟨g, k * 7 + 1, none⟩) hg).trans Fc1.out
          have c2 : w3.cell? ⟨g, k * 7 + 2, none⟩ = some (.slice na nn nc) := (B3.cell (p := ⟨g, k * 7 + 2, none⟩) hg).trans Fc2.out
          have c3 : w3.cell? ⟨g, k * 7 + 3, none⟩ = some (.slice sa sn sc) := (B3.cell (p := ⟨g, k * 7 + 3, none⟩) hg).trans Fc3.out
          have c4 : w3.cell? ⟨g, k * 7 + 4, none⟩ = some (.bool dn) := (B3.cell (p := ⟨g, k * 7 + 4, none⟩) hg).trans Fc4.out
          have c5 : w3.cell? ⟨g, k * 7 + 5, none⟩ = some (.int .i64 ct) := (B3.cell (p := ⟨g, k * 7 + 5, none⟩) hg).trans Fc5.out
          have c6 : w3.cell? ⟨g, k * 7 + 6, none⟩ = some (.int .i64 sk) := (B3.cell (p := ⟨g, k * 7 + 6, none⟩) hg).trans Fc6.out
          have d0 : w3.cell? ⟨g, (k + 1) * 7, none⟩ = some (.int .i64 kt) := (B3.cell (p := ⟨g, (k + 1) * 7, none⟩) hg).trans Fd0.out
          have d1 : w3.cell? ⟨g, (k + 1) * 7 + 1, none⟩ = some (.string mt) := (B3.cell (p := ⟨g, (k + 1) * 7 + 1, none⟩) hg).trans Fd1.out
          have d2 : w3.cell? ⟨g, (k + 1) * 7 + 2, none⟩ = some (.slice ma mn mc) := (B3.cell (p := ⟨g, (k + 1) * 7 + 2, none⟩) hg).trans Fd2.out
          have d3 : w3.cell? ⟨g, (k + 1) * 7 + 3, none⟩ = some (.slice ra rn rc) := (B3.cell (p := ⟨g, (k + 1) * 7 + 3, none⟩) hg).trans Fd3.out
          have d4 : w3.cell? ⟨g, (k + 1) * 7 + 4, none⟩ = some (.bool dt) := (B3.cell (p := ⟨g, (k + 1) * 7 + 4, none⟩) hg).trans Fd4.out
          have d5 : w3.cell? ⟨g, (k + 1) * 7 + 5, none⟩ = some (.int .i64 tt) := (B3.cell (p := ⟨g, (k + 1) * 7 + 5, none⟩) hg).trans Fd5.out
          have d6 : w3.cell? ⟨g, (k + 1) * 7 + 6, none⟩ = some (.int .i64 st) := (B3.cell (p := ⟨g, (k + 1) * 7 + 6, none⟩) hg).trans Fd6.out
          refine hK.out _ _ ⟨c0, c1, c2, c3, c4, c5, c6, d0, d1, d2, d3, d4, d5, d6⟩ (fun hHeld => ?_)
          clear hK K
          try simp only [Act.put, List.setIfInBounds_toArray, List.set_cons_zero, List.set_cons_succ]
          refine wpAnyH_take (i := 10) (by simp only [List.getElem?_toArray, List.getElem?_cons_zero, List.getElem?_cons_succ]; rfl) (by kernel_rfl) (by kernel_rfl) (by kernel_rfl) (by intro _ _ _ h; exact h) (Or.inl ⟨by rfl, fun w hSw => by (dsimp only at hSw; go_simp; (try with_reducible rfl))⟩) (by assumption) ?_
          simp only [Act.put, List.setIfInBounds_toArray, List.set_cons_zero, List.set_cons_succ]
          refine wpAnyH_take (i := 11) (by simp only [List.getElem?_toArray, List.getElem?_cons_zero, List.getElem?_cons_succ]; rfl) (by kernel_rfl) (by kernel_rfl) (by kernel_rfl) (by intro _ _ _ h; exact h) (Or.inl ⟨by rfl, fun w hSw => by (dsimp only at hSw; go_simp; (try with_reducible rfl))⟩) (by assumption) ?_
          simp only [Act.put, List.setIfInBounds_toArray, List.set_cons_zero, List.set_cons_succ]
          refine wpAnyH_take (i := 12) (by simp only [List.getElem?_toArray, List.getElem?_cons_zero, List.getElem?_cons_succ]; rfl) (by kernel_rfl) (by kernel_rfl) (by kernel_rfl) (by intro _ _ _ h; exact h) (Or.inl ⟨by rfl, fun w hSw => by (dsimp only at hSw; go_simp; (try with_reducible rfl))⟩) (by assumption) ?_
          simp only [Act.put, List.setIfInBounds_toArray, List.set_cons_zero, List.set_cons_succ]
          refine wpAnyH_ready (rs := [14]) (by kernel_rfl) (by simp) ?_
          refine AllReadyH.cons (by simp only [List.getElem?_toArray, List.getElem?_cons_zero, List.getElem?_cons_succ]; rfl) ?_ AllReadyH.nil
          intro K hK
          go_simp
          obtain ⟨VX, hVX⟩ : ∃ V, V = (((((((w3.setCell ⟨gx, 0, none⟩ (.int .i64 kd)).setCell ⟨gx, 1, none⟩ (.string nm)).setCell ⟨gx, 2, none⟩ (.slice na nn nc)).setCell ⟨gx, 3, none⟩ (.slice sa sn sc)).setCell ⟨gx, 4, none⟩ (.bool dn)).setCell ⟨gx, 5, none⟩ (.int .i64 ct)).setCell ⟨gx, 6, none⟩ (.int .i64 sk)) := ⟨_, rfl⟩
          rw [← hVX]
          have BX : Hid (Below wr.heap.size wr VX) := by rw [hVX]; exact (((((((B3.setCell (p := ⟨gx, 0, none⟩) GXB _).setCell (p := ⟨gx, 1, none⟩) GXB _).setCell (p := ⟨gx, 2, none⟩) GXB _).setCell (p := ⟨gx, 3, none⟩) GXB _).setCell (p := ⟨gx, 4, none⟩) GXB _).setCell (p := ⟨gx, 5, none⟩) GXB _).setCell (p := ⟨gx, 6, none⟩) GXB _)
          have XC : Hid (VX.cell? ⟨gx, 0, none⟩ = some (.int .i64 kd) ∧ VX.cell? ⟨gx, 1, none⟩ = some (.string nm) ∧ VX.cell? ⟨gx, 2, none⟩ = some (.slice na nn nc) ∧ VX.cell? ⟨gx, 3, none⟩ = some (.slice sa sn sc) ∧ VX.cell? ⟨gx, 4, none⟩ = some (.bool dn) ∧ VX.cell? ⟨gx, 5, none⟩ = some (.int .i64 ct) ∧ VX.cell? ⟨gx, 6, none⟩ = some (.int .i64 sk)) := by rw [hVX]; simp [z0, z1, z2, z3, z4, z5, z6]; exact trivial
          clear hVX
          clear c0 c1 c2 c3 c4 c5 c6 d0 d1 d2 d3 d4 d5 d6
          have c0 : VX.cell? ⟨g, k * 7, none⟩ = some (.int .i64 kd) := (BX.out.cell (p := ⟨g, k * 7, none⟩) hg).trans Fc0.out
          have c1 : VX.cell? ⟨g, k * 7 + 1, none⟩ = some (.string nm) := (BX.out.cell (p := ⟨g, k * 7 + 1, none⟩) hg).trans Fc1.out
          have c2 : VX.cell? ⟨g, k * 7 + 2, none⟩ = some (.slice na nn nc) := (BX.out.cell (p := ⟨g, k * 7 + 2, none⟩) hg).trans Fc2.out
          have c3 : VX.cell? ⟨g, k * 7 + 3, none⟩ = some (.slice sa sn sc) := (BX.out.cell (p := ⟨g, k * 7 + 3, none⟩) hg).trans Fc3.out
          have c4 : VX.cell? ⟨g, k * 7 + 4, none⟩ = some (.bool dn) := (BX.out.cell (p := ⟨g, k * 7 + 4, none⟩) hg).trans Fc4.out
          have c5 : VX.cell? ⟨g, k * 7 + 5, none⟩ = some (.int .i64 ct) := (BX.out.cell (p := ⟨g, k * 7 + 5, none⟩) hg).trans Fc5.out
          have c6 : VX.cell? ⟨g, k * 7 + 6, none⟩ = some (.int .i64 sk) := (BX.out.cell (p := ⟨g, k * 7 + 6, none⟩) hg).trans Fc6.out
          have d0 : VX.cell? ⟨g, (k + 1) * 7, none⟩ = some (.int .i64 kt) := (BX.out.cell (p := ⟨g, (k + 1) * 7, none⟩) hg).trans Fd0.out
          have d1 : VX.cell? ⟨g, (k + 1) * 7 + 1, none⟩ = some (.string mt) := (BX.out.cell (p := ⟨g, (k + 1) * 7 + 1, none⟩) hg).trans Fd1.out
          have d2 : VX.cell? ⟨g, (k + 1) * 7 + 2, none⟩ = some (.slice ma mn mc) := (BX.out.cell (p := ⟨g, (k + 1) * 7 + 2, none⟩) hg).trans Fd2.out
          have d3 : VX.cell? ⟨g, (k + 1) * 7 + 3, none⟩ = some (.slice ra rn rc) := (BX.out.cell (p := ⟨g, (k + 1) * 7 + 3, none⟩) hg).trans Fd3.out
          have d4 : VX.cell? ⟨g, (k + 1) * 7 + 4, none⟩ = some (.bool dt) := (BX.out.cell (p := ⟨g, (k + 1) * 7 + 4, none⟩) hg).trans Fd4.out
          have d5 : VX.cell? ⟨g, (k + 1) * 7 + 5, none⟩ = some (.int .i64 tt) := (BX.out.cell (p := ⟨g, (k + 1) * 7 + 5, none⟩) hg).trans Fd5.out
          have d6 : VX.cell? ⟨g, (k + 1) * 7 + 6, none⟩ = some (.int .i64 st) := (BX.out.cell (p := ⟨g, (k + 1) * 7 + 6, none⟩) hg).trans Fd6.out
          refine hK.out _ _ ⟨c0, c1, c2, c3, c4, c5, c6, d0, d1, d2, d3, d4, d5, d6⟩ (fun hHeld => ?_)
          clear hK K
          try simp only [Act.put, List.setIfInBounds_toArray, List.set_cons_zero, List.set_cons_succ]
          refine wpAnyH_take (i := 15) (by simp only [List.getElem?_toArray, List.getElem?_cons_zero, List.getElem?_cons_succ]; rfl) (by kernel_rfl) (by kernel_rfl) (by kernel_rfl) (by intro _ _ _ h; exact h) (Or.inl ⟨by rfl, fun w hSw => by (dsimp only at hSw; go_simp; (try with_reducible rfl))⟩) (by assumption) ?_
          simp only [Act.put, List.setIfInBounds_toArray, List.set_cons_zero, List.set_cons_succ]
          refine wpAnyH_done (by kernel_rfl) ?_ _
          clear hHeld c0 c1 c2 c3 c4 c5 c6 d0 d1 d2 d3 d4 d5 d6
          have hp : mergeR (Q[k]'hk0).1 (Q[k + 1]'hk1).1 = none := by rw [HXQ.out, HYQ.out]; exact HNM.out
          have HNX : Hid (MrgW w VX g m c (P.map Prod.fst) (k + 1)) := MrgW.next (HRW.out.below BX.out) HCM.out HNO.out HOQ.out hk1 hp
          have HBX := chain hbw BX.out
          clear hp
          go_wp2
          go_roundw
          case rel => exact ⟨g, m, c, k + 1, rfl, by omega, hmn, by go_num, HNX.out, HBX⟩
          case measure => simp [intOf, lenV]; omega
        · obtain ⟨xk, xm, XN, XL, xd, xc, xs⟩ := x
          obtain ⟨ya, yc, za, zc⟩ := r
          have HSM : Hid (mergeR ⟨kd, nm, N, S, dn, ct, sk⟩ ⟨kt, mt, M, R, dt, tt, st⟩ = some [⟨xk, xm, XN, XL, xd, xc, xs⟩]) := hm
          have HXN : Hid (SivNew w3 wr.heap.size ⟨ya, yc, za, zc⟩ ⟨xk, xm, XN, XL, xd, xc, xs⟩) := hnew.lower BV.out.size
          have HXNEW := hnew
          have HXL : Hid (za = none → zc = 0) := hnil
          obtain ⟨xn, hxn⟩ : ∃ z, XN.length = z := ⟨_, rfl⟩
          obtain ⟨xl, hxl⟩ : ∃ z, XL.length = z := ⟨_, rfl⟩
          have HXA : Hid (XN.length = xn) := hxn
          have HXB : Hid (XL.length = xl) := hxl
          simp only [headSv, hxn, hxl]
          clear hxn hxl hnew hnil
          have HXLO : Hid (SivNew w3 V1.drew.heap.size ⟨ya, yc, za, zc⟩ ⟨xk, xm, XN, XL, xd, xc, xs⟩) := HXNEW
          have HB3 : Hid (Below V1.drew.heap.size V1.drew w3) := hb3
          have B3 : Below wr.heap.size wr w3 := chain BV.out hb3
          clear hb3 hHeld c0 c1 c2 c3 c4 c5 c6 d0 d1 d2 d3 d4 d5 d6
          clear hm
          have hg3 : g < w3.heap.size := Nat.lt_of_lt_of_le hg B3.size
          have GX3 : gx < w3.heap.size := Nat.lt_of_lt_of_le GXV HB3.out.size
          obtain ⟨z0, z1, z2, z3, z4, z5, z6⟩ := cells7 (((Kept.refl 0 V1.drew).below HB3.out).box (Nat.zero_le _) HBOX.out)
          have fz : ∀ o, w3.frozen? ⟨gx, o, none⟩ = false := fun o => ((bcell HB3.out).2 _ _ GXV).trans (FZX.out o)
          go_wp2_with fail
          have c0 : w3.cell? ⟨g, k * 7, none⟩ = some (.int .i64 kd) := (B3.cell (p := ⟨g, k * 7, none⟩) hg).trans Fc0.out
          have c1 : w3.cell? ⟨g, k * 7 + 1, none⟩ = some (.string nm) := (B3.cell (p := ⟨g, k * 7 + 1, none⟩) hg).trans Fc1.out
          have c2 : w3.cell? ⟨g, k * 7 + 2, none⟩ = some (.slice na nn nc) := (B3.cell (p := ⟨g, k * 7 + 2, none⟩) hg).trans Fc2.out
          have c3 : w3.cell? ⟨g, k * 7 + 3, none⟩ = some (.slice sa sn sc) := (B3.cell (p := ⟨g, k * 7 + 3, none⟩) hg).trans Fc3.out
          have c4 : w3.cell? ⟨g, k * 7 + 4, none⟩ = some (.bool dn) := (B3.cell (p := ⟨g, k * 7 + 4, none⟩) hg).trans Fc4.out
          have c5 : w3.cell? ⟨g, k * 7 + 5, none⟩ = some (.int .i64 ct) := (B3.cell (p := ⟨g, k * 7 + 5, none⟩) hg).trans Fc5.out
          have c6 : w3.cell? ⟨g, k * 7 + 6, none⟩ = some (.int .i64 sk) := (B3.cell (p := ⟨g, k * 7 + 6, none⟩) hg).trans Fc6.out
          have d0 : w3.cell? ⟨g, (k + 1) * 7, none⟩ = some (.int .i64 kt) := (B3.cell (p := ⟨g, (k + 1) * 7, none⟩) hg).trans Fd0.out
          have d1 : w3.cell? ⟨g, (k + 1) * 7 + 1, none⟩ = some (.string mt) := (B3.cell (p := ⟨g, (k + 1) * 7 + 1, none⟩) hg).trans Fd1.out
          have d2 : w3.cell? ⟨g, (k + 1) * 7 + 2, none⟩ = some (.slice ma mn mc) := (B3.cell (p := ⟨g, (k + 1) * 7 + 2, none⟩) hg).trans Fd2.out
          have d3 : w3.cell? ⟨g, (k + 1) * 7 + 3, none⟩ = some (.slice ra rn rc) := (B3.cell (p := ⟨g, (k + 1) * 7 + 3, none⟩) hg).trans Fd3.out
          have d4 : w3.cell? ⟨g, (k + 1) * 7 + 4, none⟩ = some (.bool dt) := (B3.cell (p := ⟨g, (k + 1) * 7 + 4, none⟩) hg).trans Fd4.out
          have d5 : w3.cell? ⟨g, (k + 1) * 7 + 5, none⟩ = some (.int .i64 tt) := (B3.cell (p := ⟨g, (k + 1) * 7 + 5, none⟩) hg).trans Fd5.out
          have d6 : w3.cell? ⟨g, (k + 1) * 7 + 6, none⟩ = some (.int .i64 st) := (B3.cell (p := ⟨g, (k + 1) * 7 + 6, none⟩) hg).trans Fd6.out
          refine hK.out _ _ ⟨c0, c1, c2, c3, c4, c5, c6, d0, d1, d2, d3, d4, d5, d6⟩ (fun hHeld => ?_)
          clear hK K
          try simp only [Act.put, List.setIfInBounds_toArray, List.set_cons_zero, List.set_cons_succ]
          refine wpAnyH_take (i := 10) (by simp only [List.getElem?_toArray, List.getElem?_cons_zero, List.getElem?_cons_succ]; rfl) (by kernel_rfl) (by kernel_rfl) (by kernel_rfl) (by intro _ _ _ h; exact h) (Or.inl ⟨by rfl, fun w hSw => by (dsimp only at hSw; go_simp; (try with_reducible rfl))⟩) (by assumption) ?_
          simp only [Act.put, List.setIfInBounds_toArray, List.set_cons_zero, List.set_cons_succ]
          refine wpAnyH_take (i := 11) (by simp only [List.getElem?_toArray, List.getElem?_cons_zero, List.getElem?_cons_succ]; rfl) (by kernel_rfl) (by kernel_rfl) (by kernel_rfl) (by intro _ _ _ h; exact h) (Or.inl ⟨by rfl, fun w hSw => by (dsimp only at hSw; go_simp; (try with_reducible rfl))⟩) (by assumption) ?_
          simp only [Act.put, List.setIfInBounds_toArray, List.set_cons_zero, List.set_cons_succ]
          refine wpAnyH_take (i := 12) (by simp only [List.getElem?_toArray, List.getElem?_cons_zero, List.getElem?_cons_succ]; rfl) (by kernel_rfl) (by kernel_rfl) (by kernel_rfl) (by intro _ _ _ h; exact h) (Or.inl ⟨by rfl, fun w hSw => by (dsimp only at hSw; go_simp; (try with_reducible rfl))⟩) (by assumption) ?_
          simp only [Act.put, List.setIfInBounds_toArray, List.set_cons_zero, List.set_cons_succ]
          refine wpAnyH_ready (rs := [14]) (by kernel_rfl) (by simp) ?_
          refine AllReadyH.cons (by simp only [List.getElem?_toArray, List.getElem?_cons_zero, List.getElem?_cons_succ]; rfl) ?_ AllReadyH.nil
          intro K hK
          go_simp
          obtain ⟨VX, hVX⟩ : ∃ V, V = (((((((w3.setCell ⟨gx, 0, none⟩ (.int .i64 xk)).setCell ⟨gx, 1, none⟩ (.string xm)).setCell ⟨gx, 2, none⟩ (.slice ya xn yc)).setCell ⟨gx, 3, none⟩ (.slice za xl zc)).setCell ⟨gx, 4, none⟩ (.bool xd)).setCell ⟨gx, 5, none⟩ (.int .i64 xc)).setCell ⟨gx, 6, none⟩ (.int .i64 xs)) := ⟨_, rfl⟩
          rw [← hVX]
          have BX : Hid (Below wr.heap.size wr VX) := by rw [hVX]; exact (((((((B3.setCell (p := ⟨gx, 0, none⟩) GXB _).setCell (p := ⟨gx, 1, none⟩) GXB _).setCell (p := ⟨gx, 2, none⟩) GXB _).setCell (p := ⟨gx, 3, none⟩) GXB _).setCell (p := ⟨gx, 4, none⟩) GXB _).setCell (p := ⟨gx, 5, none⟩) GXB _).setCell (p := ⟨gx, 6, none⟩) GXB _)
          have XC : Hid (VX.cell? ⟨gx, 0, none⟩ = some (.int .i64 xk) ∧ VX.cell? ⟨gx, 1, none⟩ = some (.string xm) ∧ VX.cell? ⟨gx, 2, none⟩ = some (.slice ya xn yc) ∧ VX.cell? ⟨gx, 3, none⟩ = some (.slice za xl zc) ∧ VX.cell? ⟨gx, 4, none⟩ = some (.bool xd) ∧ VX.cell? ⟨gx, 5, none⟩ = some (.int .i64 xc) ∧ VX.cell? ⟨gx, 6, none⟩ = some (.int .i64 xs)) := by rw [hVX]; simp [z0, z1, z2, z3, z4, z5, z6]; exact trivial
          have XNEW : Hid (SivNew VX wr.heap.size ⟨ya, yc, za, zc⟩ ⟨xk, xm, XN, XL, xd, xc, xs⟩) := by rw [hVX]; exact HXN.out.keepS (((((((((KeepS.refl (fun b => b = gx) w3).setCell (p := ⟨gx, 0, none⟩) rfl (.int .i64 xk)).setCell (p := ⟨gx, 1, none⟩) rfl (.string xm)).setCell (p := ⟨gx, 2, none⟩) rfl (.slice ya xn yc)).setCell (p := ⟨gx, 3, none⟩) rfl (.slice za xl zc)).setCell (p := ⟨gx, 4, none⟩) rfl (.bool xd)).setCell (p := ⟨gx, 5, none⟩) rfl (.int .i64 xc)).setCell (p := ⟨gx, 6, none⟩) rfl (.int .i64 xs))) (fun b hb e => by have h1 := HXLO.out.lo b hb; have h2 := GXE.out; have e' : b = gx := e; omega)
          clear hVX
          clear c0 c1 c2 c3 c4 c5 c6 d0 d1 d2 d3 d4 d5 d6
          have c0 : VX.cell? ⟨g, k * 7, none⟩ = some (.int .i64 kd) := (BX.out.cell (p := ⟨g, k * 7, none⟩) hg).trans Fc0.out
          have c1 : VX.cell? ⟨g, k * 7 + 1, none⟩ = some (.string nm) := (BX.out.cell (p := ⟨g, k * 7 + 1, none⟩) hg).trans Fc1.out
          have c2 : VX.cell? ⟨g, k * 7 + 2, none⟩ = some (.slice na nn nc) := (BX.out.cell (p := ⟨g, k * 7 + 2, none⟩) hg).trans Fc2.out
          have c3 : VX.cell? ⟨g, k * 7 + 3, none⟩ = some (.slice sa sn sc) := (BX.out.cell (p := ⟨g, k * 7 + 3, none⟩) hg).trans Fc3.out
          have c4 : VX.cell? ⟨g, k * 7 + 4, none⟩ = some (.bool dn) := (BX.out.cell (p := ⟨g, k * 7 + 4, none⟩) hg).trans Fc4.out
          have c5 : VX.cell? ⟨g, k * 7 + 5, none⟩ = some (.int .i64 ct) := (BX.out.cell (p := ⟨g, k * 7 + 5, none⟩) hg).trans Fc5.out
          have c6 : VX.cell? ⟨g, k * 7 + 6, none⟩ = some (.int .i64 sk) := (BX.out.cell (p := ⟨g, k * 7 + 6, none⟩) hg).trans Fc6.out
          have d0 : VX.cell? ⟨g, (k + 1) * 7, none⟩ = some (.int .i64 kt) := (BX.out.cell (p := ⟨g, (k + 1) * 7, none⟩) hg).trans Fd0.out
          have d1 : VX.cell? ⟨g, (k + 1) * 7 + 1, none⟩ = some (.string mt) := (BX.out.cell (p := ⟨g, (k + 1) * 7 + 1, none⟩) hg).trans Fd1.out
          have d2 : VX.cell? ⟨g, (k + 1) * 7 + 2, none⟩ = some (.slice ma mn mc) := (BX.out.cell (p := ⟨g, (k + 1) * 7 + 2, none⟩) hg).trans Fd2.out
          have d3 : VX.cell? ⟨g, (k + 1) * 7 + 3, none⟩ = some (.slice ra rn rc) := (BX.out.cell (p := ⟨g, (k + 1) * 7 + 3, none⟩) hg).trans Fd3.out
          have d4 : VX.cell? ⟨g, (k + 1) * 7 + 4, none⟩ = some (.bool dt) := (BX.out.cell (p := ⟨g, (k + 1) * 7 + 4, none⟩) hg).trans Fd4.out
          have d5 : VX.cell? ⟨g, (k + 1) * 7 + 5, none⟩ = some (.int .i64 tt) := (BX.out.cell (p := ⟨g, (k + 1) * 7 + 5, none⟩) hg).trans Fd5.out
          have d6 : VX.cell? ⟨g, (k + 1) * 7 + 6, none⟩ = some (.int .i64 st) := (BX.out.cell (p := ⟨g, (k + 1) * 7 + 6, none⟩) hg).trans Fd6.out
          refine hK.out _ _ ⟨c0, c1, c2, c3, c4, c5, c6, d0, d1, d2, d3, d4, d5, d6⟩ (fun hHeld => ?_)
          clear hK K
          try simp only [Act.put, List.setIfInBounds_toArray, List.set_cons_zero, List.set_cons_succ]
          refine wpAnyH_take (i := 15) (by simp only [List.getElem?_toArray, List.getElem?_cons_zero, List.getElem?_cons_succ]; rfl) (by kernel_rfl) (by kernel_rfl) (by kernel_rfl) (by intro _ _ _ h; exact h) (Or.inl ⟨by rfl, fun w hSw => by (dsimp only at hSw; go_simp; (try with_reducible rfl))⟩) (by assumption) ?_
          simp only [Act.put, List.setIfInBounds_toArray, List.set_cons_zero, List.set_cons_succ]
          refine wpAnyH_done (by kernel_rfl) ?_ _
          clear hHeld c0 c1 c2 c3 c4 c5 c6 d0 d1 d2 d3 d4 d5 d6
          have hp : mergeR (Q[k]'hk0).1 (Q[k + 1]'hk1).1 = some [⟨xk, xm, XN, XL, xd, xc, xs⟩] := by rw [HXQ.out, HYQ.out]; exact HSM.out
          have HP : Hid (mergeR (Q[k]'hk0).1 (Q[k + 1]'hk1).1 = some [⟨xk, xm, XN, XL, xd, xc, xs⟩]) := hp
          have hmc : m ≤ c := by
            rcases HRW.out.own.2 with ⟨e, _⟩ | ⟨g', cap', cur, e, _, _, h1, _⟩
            · cases e
            · cases e
              exact h1
          have hj1 : (k : Int) ≤ (c : Int) := by omega
          have hj2 : (k : Int) + 2 ≤ (m : Int) := by omega
          have hj3 : ((k : Int) + 2).toNat = k + 2 := by omega
          have hj4 : (m : Int) ≤ (c : Int) := by omega
          have hj5 : (0 : Int) ≤ (k : Int) + 2 := by omega
          have hj6 : IntKind.i64.wrap ((k : Int) + 2) = (k : Int) + 2 := by rw [IntKind.wrap_i64]; omega
          have HRX : Hid (RowV VX w.heap.size (.slice (some ⟨g, 0, none⟩) m c) Q m) := HRW.out.below BX.out
          have LWR : w.heap.size ≤ wr.heap.size := hbw.size
          have LVX : wr.heap.size ≤ VX.heap.size := BX.out.size
          have GXL : gx < VX.heap.size := by
            obtain ⟨h, _⟩ := XC.out
            exact cell_lt h
          obtain ⟨x0, x1, x2, x3, x4, x5, x6⟩ := XC.out
          have X0 : Hid (VX.cell? ⟨gx, 0, none⟩ = some (.int .i64 xk)) := x0
          have X1 : Hid (VX.cell? ⟨gx, 1, none⟩ = some (.string xm)) := x1
          have X2 : Hid (VX.cell? ⟨gx, 2, none⟩ = some (.slice ya xn yc)) := x2
          have X3 : Hid (VX.cell? ⟨gx, 3, none⟩ = some (.slice za xl zc)) := x3
          have X4 : Hid (VX.cell? ⟨gx, 4, none⟩ = some (.bool xd)) := x4
          have X5 : Hid (VX.cell? ⟨gx, 5, none⟩ = some (.int .i64 xc)) := x5
          have X6 : Hid (VX.cell? ⟨gx, 6, none⟩ = some (.int .i64 xs)) := x6
          clear hp hi0 hi1 hi3 hi4 hi5 hg
          go_wp2_with fail
          refine wp_region_held_drew (S := (fun w' => w'.cell? ⟨gx, 0, none⟩ = some (.int .i64 xk) ∧ w'.cell? ⟨gx, 1, none⟩ = some (.string xm) ∧ w'.cell? ⟨gx, 2, none⟩ = some (.slice ya xn yc) ∧ w'.cell? ⟨gx, 3, none⟩ = some (.slice za xl zc) ∧ w'.cell? ⟨gx, 4, none⟩ = some (.bool xd) ∧ w'.cell? ⟨gx, 5, none⟩ = some (.int .i64 xc) ∧ w'.cell? ⟨gx, 6, none⟩ = some (.int .i64 xs))) (by kernel_rfl) ⟨x0, x1, x2, x3, x4, x5, x6⟩ (fun hHeld => ?_)
          refine wpAnyH_take (i := 0) (by simp only [List.getElem?_toArray, List.getElem?_cons_zero]; rfl) (by kernel_rfl) (by kernel_rfl) (by kernel_rfl) (by intro _ _ _ h; exact h) (Or.inl ⟨by rfl, fun w hSw => by (dsimp only at hSw; go_simp; (try with_reducible rfl))⟩) (by assumption) ?_
          simp only [Act.put, List.setIfInBounds_toArray, List.set_cons_zero, List.set_cons_succ]
          refine wpAnyH_take (i := 1) (by simp only [List.getElem?_toArray, List.getElem?_cons_zero, List.getElem?_cons_succ]; rfl) (by kernel_rfl) (by kernel_rfl) (by kernel_rfl) (by intro _ _ _ h; exact h) (Or.inl ⟨by rfl, fun w hSw => by (dsimp only at hSw; go_simp; (try with_reducible rfl))⟩) (by assumption) ?_
          simp only [Act.put, List.setIfInBounds_toArray, List.set_cons_zero, List.set_cons_succ]
          refine wpAnyH_take (i := 2) (by simp only [List.getElem?_toArray, List.getElem?_cons_zero, List.getElem?_cons_succ]; rfl) (by kernel_rfl) (by kernel_rfl) (by kernel_rfl) (by intro _ _ _ h; exact h) (Or.inl ⟨by rfl, fun w hSw => by (dsimp only at hSw; go_simp; (try with_reducible rfl))⟩) (by assumption) ?_
          simp only [Act.put, List.setIfInBounds_toArray, List.set_cons_zero, List.set_cons_succ]
          refine wpAnyH_take (i := 4) (by simp only [List.getElem?_toArray, List.getElem?_cons_zero, List.getElem?_cons_succ]; rfl) (by kernel_rfl) (by kernel_rfl) (by kernel_rfl) (by intro _ _ _ h; exact h) (Or.inl ⟨by rfl, fun w hSw => by (dsimp only at hSw; go_simp; (try with_reducible rfl))⟩) (by assumption) ?_
          simp only [Act.put, List.setIfInBounds_toArray, List.set_cons_zero, List.set_cons_succ]
          refine wpAnyH_take (i := 7) (by simp only [List.getElem?_toArray, List.getElem?_cons_zero, List.getElem?_cons_succ]; rfl) (by kernel_rfl) (by kernel_rfl) (by kernel_rfl) (by intro _ _ _ h; exact h) (Or.inl ⟨by rfl, fun w hSw => by (dsimp only at hSw; go_simp; (try with_reducible rfl))⟩) (by assumption) ?_
          simp only [Act.put, List.setIfInBounds_toArray, List.set_cons_zero, List.set_cons_succ]
          refine wpAnyH_take (i := 8) (by simp only [List.getElem?_toArray, List.getElem?_cons_zero, List.getElem?_cons_succ]; rfl) (by kernel_rfl) (by kernel_rfl) (by kernel_rfl) (by intro _ _ _ h; exact h) (Or.inl ⟨by rfl, fun w hSw => by (dsimp only at hSw; go_simp; (try with_reducible rfl))⟩) (by assumption) ?_
          simp only [Act.put, List.setIfInBounds_toArray, List.set_cons_zero, List.set_cons_succ]
          refine wpAnyH_take (i := 9) (by simp only [List.getElem?_toArray, List.getElem?_cons_zero, List.getElem?_cons_succ]; rfl) (by kernel_rfl) (by kernel_rfl) (by kernel_rfl) (by intro _ _ _ h; exact h) (Or.inl ⟨by rfl, fun w hSw => by (dsimp only at hSw; go_simp; (try with_reducible rfl))⟩) (by assumption) ?_
          simp only [Act.put, List.setIfInBounds_toArray, List.set_cons_zero, List.set_cons_succ]
          refine wpAnyH_take (i := 10) (by simp only [List.getElem?_toArray, List.getElem?_cons_zero, List.getElem?_cons_succ]; rfl) (by kernel_rfl) (by kernel_rfl) (by kernel_rfl) (by intro _ _ _ h; exact h) (Or.inl ⟨by rfl, fun w hSw => by (dsimp only at hSw; go_simp; (try with_reducible rfl))⟩) (by assumption) ?_
          simp only [Act.put, List.setIfInBounds_toArray, List.set_cons_zero, List.set_cons_succ]
          obtain ⟨sa42, hsa⟩ : ∃ z : Addr, (if c = k + 2 then some (⟨g, 0, none⟩ : Addr) else some ⟨g, (k + 2) * 7, none⟩) = some z := by
            by_cases e : c = k + 2
            · exact ⟨_, if_pos e⟩
            · exact ⟨_, if_neg e⟩
          have HSA : Hid (c ≠ k + 2 → sa42 = ⟨g, (k + 2) * 7, none⟩) := by
            have h : c ≠ k + 2 → sa42 = ⟨g, (k + 2) * 7, none⟩ := fun e => by rw [if_neg e] at hsa; injection hsa with h; exact h.symm
            exact h
          rw [hsa]
          clear hsa
          refine wpAnyH_ready (rs := [3, 5]) (by kernel_rfl) (by simp) ?_
          refine AllReadyH.cons (by simp only [List.getElem?_toArray, List.getElem?_cons_zero, List.getElem?_cons_succ]; rfl) ?_ (AllReadyH.cons (by simp only [List.getElem?_toArray, List.getElem?_cons_zero, List.getElem?_cons_succ]; rfl) ?_ AllReadyH.nil)
          · intro K hK
            go_simp
            have YB : Hid (Below VX.heap.size VX VX.drew) := (Below.refl _ _).drew
            refine (l13copy_spec (some ⟨g, 0, none⟩) c (Q.take k) k (by rw [List.length_take]; omega) _ ⟨fun i hi => (HRX.out.below YB.out).heads.cells i (by rw [List.length_take] at hi; omega) |>.imp fun _ h => h.imp fun _ h => ⟨h.1, h.2.1, fun j hj => by rw [List.getElem_take]; exact h.2.2 j hj⟩, fun p hp => ((HRX.out.below YB.out).new p (List.mem_of_mem_take hp)).siv, fun p hp => HRX.out.nilI p (List.mem_of_mem_take hp)⟩ (by omega) (fun p hp => (HOQ.out p (List.mem_of_mem_take hp)).2.1)).mono ?_
            rintro e w5 ⟨g5, c5, P5, rfl, hmap5, hrow5, hb5⟩
            have HM5 : Hid (P5.map Prod.fst = (Q.take k).map Prod.fst) := hmap5
            have BW5 : Hid (Below VX.heap.size VX w5) := chain YB.out hb5
            have LY : VX.heap.size ≤ VX.drew.heap.size := YB.out.size
            have HR5 : Hid (RowV w5 w.heap.size (.slice (some ⟨g5, 0, none⟩) k c5) P5 k) := ⟨own_lowV hrow5.own (by omega), hrow5.len, fun p hp => (hrow5.new p hp).lower (by omega), hrow5.far, hrow5.nilI⟩
            have LG5 : VX.heap.size ≤ g5 := by have := (hrow5.own.lt g5 rfl).1; omega
            clear hmap5 hrow5
            clear hb5 hHeld x0 x1 x2 x3 x4 x5 x6
            have x0 : w5.cell? ⟨gx, 0, none⟩ = some (.int .i64 xk) := (BW5.out.cell (p := ⟨gx, 0, none⟩) GXL).trans X0.out
            have x1 : w5.cell? ⟨gx, 1, none⟩ = some (.string xm) := (BW5.out.cell (p := ⟨gx, 1, none⟩) GXL).trans X1.out
            have x2 : w5.cell? ⟨gx, 2, none⟩ = some (.slice ya xn yc) := (BW5.out.cell (p := ⟨gx, 2, none⟩) GXL).trans X2.out
            have x3 : w5.cell? ⟨gx, 3, none⟩ = some (.slice za xl zc) := (BW5.out.cell (p := ⟨gx, 3, none⟩) GXL).trans X3.out
            have x4 : w5.cell? ⟨gx, 4, none⟩ = some (.bool xd) := (BW5.out.cell (p := ⟨gx, 4, none⟩) GXL).trans X4.out
            have x5 : w5.cell? ⟨gx, 5, none⟩ = some (.int .i64 xc) := (BW5.out.cell (p := ⟨gx, 5, none⟩) GXL).trans X5.out
            have x6 : w5.cell? ⟨gx, 6, none⟩ = some (.int .i64 xs) := (BW5.out.cell (p := ⟨gx, 6, none⟩) GXL).trans X6.out
            refine hK.out _ _ ⟨x0, x1, x2, x3, x4, x5, x6⟩ (fun hHeld => ?_)
            clear hK K
            try simp only [Act.put, List.setIfInBounds_toArray, List.set_cons_zero, List.set_cons_succ]
            refine wpAnyH_ready (rs := [5]) (by kernel_rfl) (by simp) ?_
            refine AllReadyH.cons (by simp only [List.getElem?_toArray, List.getElem?_cons_zero, List.getElem?_cons_succ]; rfl) ?_ AllReadyH.nil
            intro K hK
            go_simp
            obtain ⟨V6, hV⟩ : ∃ V, V = w5.alloc (.cells #[.int .i64 xk, .string xm, .slice ya xn yc, .slice za xl zc, .bool xd, .int .i64 xc, .int .i64 xs] 38) := ⟨_, rfl⟩
            obtain ⟨g6, hg6⟩ : ∃ z, z = w5.heap.size := ⟨_, rfl⟩
            have BV6 : Hid (Below w5.heap.size w5 V6) := by rw [hV]; exact (Below.refl w5.heap.size w5).alloc (Nat.le_refl _) (.cells #[.int .i64 xk, .string xm, .slice ya xn yc, .slice za xl zc, .bool xd, .int .i64 xc, .int .i64 xs] 38)
            have HC6 : Hid (∀ (j : Nat) u, (hvS [((⟨xk, xm, XN, XL, xd, xc, xs⟩ : SV), (⟨ya, yc, za, zc⟩ : HAd))])[j]? = some u → V6.cell? ⟨g6, j, none⟩ = some u) := by rw [hV, hg6]; exact cells_alloc w5 _ _ _ (by simp [hvS, headSv, HXA.out, HXB.out])
            rw [← hV, ← hg6]
            clear hV hg6
            have HR6 : Hid (RowV V6 w.heap.size (.slice (some ⟨g5, 0, none⟩) k c5) P5 k) := HR5.out.below BV6.out
            have BW6 : Hid (Below VX.heap.size VX V6) := chain BW5.out BV6.out
            have HC7 : Hid (∀ (j : Nat) u, (hvS [((⟨xk, xm, XN, XL, xd, xc, xs⟩ : SV), (⟨ya, yc, za, zc⟩ : HAd))])[j]? = some u → V6.cell? ⟨g6, j, none⟩ = some u) := HC6
            clear hHeld x0 x1 x2 x3 x4 x5 x6
            have x0 : V6.cell? ⟨gx, 0, none⟩ = some (.int .i64 xk) := (BW6.out.cell (p := ⟨gx, 0, none⟩) GXL).trans X0.out
            have x1 : V6.cell? ⟨gx, 1, none⟩ = some (.string xm) := (BW6.out.cell (p := ⟨gx, 1, none⟩) GXL).trans X1.out
            have x2 : V6.cell? ⟨gx, 2, none⟩ = some (.slice ya xn yc) := (BW6.out.cell (p := ⟨gx, 2, none⟩) GXL).trans X2.out
            have x3 : V6.cell? ⟨gx, 3, none⟩ = some (.slice za xl zc) := (BW6.out.cell (p := ⟨gx, 3, none⟩) GXL).trans X3.out
            have x4 : V6.cell? ⟨gx, 4, none⟩ = some (.bool xd) := (BW6.out.cell (p := ⟨gx, 4, none⟩) GXL).trans X4.out
            have x5 : V6.cell? ⟨gx, 5, none⟩ = some (.int .i64 xc) := (BW6.out.cell (p := ⟨gx, 5, none⟩) GXL).trans X5.out
            have x6 : V6.cell? ⟨gx, 6, none⟩ = some (.int .i64 xs) := (BW6.out.cell (p := ⟨gx, 6, none⟩) GXL).trans X6.out
            refine hK.out _ _ ⟨x0, x1, x2, x3, x4, x5, x6⟩ (fun hHeld => ?_)
            clear hK K
            try simp only [Act.put, List.setIfInBounds_toArray, List.set_cons_zero, List.set_cons_succ]
            refine wpAnyH_ready (rs := [6]) (by kernel_rfl) (by simp) ?_
            refine AllReadyH.cons (by simp only [List.getElem?_toArray, List.getElem?_cons_zero, List.getElem?_cons_succ]; rfl) ?_ AllReadyH.nil
            intro K hK
            rw [if_pos (by rfl)]
            refine app_sivsL (.tmp 35) (.tmp 37) rfl (by have := BW6.out.size; omega) _ k P5 rfl HR6.out.own ⟨g6, 0, none⟩ 1 1 [((⟨xk, xm, XN, XL, xd, xc, xs⟩ : SV), (⟨ya, yc, za, zc⟩ : HAd))] rfl rfl (fun i u hu => ?_) (by omega) (by omega) ?_
            · rw [addr_addS, Nat.zero_add]
              exact HC7.out i u hu
            intro g7 c7 w7 own7 grow7 loc7
            have LW6 : VX.heap.size ≤ V6.heap.size := BW6.out.size
            have XN6 : Hid (SivNew V6 w.heap.size ⟨ya, yc, za, zc⟩ ⟨xk, xm, XN, XL, xd, xc, xs⟩) := (XNEW.out.below BW6.out).lower LWR
            have HR7 : Hid (RowV w7 w.heap.size (.slice (some ⟨g7, 0, none⟩) (k + 1) c7) (P5 ++ [((⟨xk, xm, XN, XL, xd, xc, xs⟩ : SV), (⟨ya, yc, za, zc⟩ : HAd))]) (k + 1)) := by
              refine HR6.out.app rfl (fun p hp => ?_) (fun p hp b hb e => ?_) (fun p hp => ?_) own7 grow7 loc7
              · rcases List.mem_cons.1 hp with rfl | hp
                · exact XN6.out
                · cases hp
              · rcases List.mem_cons.1 hp with rfl | hp
                · have h1 := XNEW.out.lt b hb
                  cases e
                  dsimp only at h1
                  omega
                · cases hp
              · rcases List.mem_cons.1 hp with rfl | hp
                · exact HXL.out
                · cases hp
            have LG7 : VX.heap.size ≤ g7 := by
              rcases loc7 with e | e
              · cases e; exact LG5
              · cases e; exact LW6
            have BW7 : Hid (Below VX.heap.size VX w7) := BW6.out.grown grow7 LW6 (fun kk hkk => by cases hkk; exact LG5)
            clear own7 grow7 loc7 hHeld x0 x1 x2 x3 x4 x5 x6
            have x0 : w7.cell? ⟨gx, 0, none⟩ = some (.int .i64 xk) := (BW7.out.cell (p := ⟨gx, 0, none⟩) GXL).trans X0.out
            have x1 : w7.cell? ⟨gx, 1, none⟩ = some (.string xm) := (BW7.out.cell (p := ⟨gx, 1, none⟩) GXL).trans X1.out
            have x2 : w7.cell? ⟨gx, 2, none⟩ = some (.slice ya xn yc) := (BW7.out.cell (p := ⟨gx, 2, none⟩) GXL).trans X2.out
            have x3 : w7.cell? ⟨gx, 3, none⟩ = some (.slice za xl zc) := (BW7.out.cell (p := ⟨gx, 3, none⟩) GXL).trans X3.out
            have x4 : w7.cell? ⟨gx, 4, none⟩ = some (.bool xd) := (BW7.out.cell (p := ⟨gx, 4, none⟩) GXL).trans X4.out
            have x5 : w7.cell? ⟨gx, 5, none⟩ = some (.int .i64 xc) := (BW7.out.cell (p := ⟨gx, 5, none⟩) GXL).trans X5.out
            have x6 : w7.cell? ⟨gx, 6, none⟩ = some (.int .i64 xs) := (BW7.out.cell (p := ⟨gx, 6, none⟩) GXL).trans X6.out
            refine hK.out _ _ ⟨x0, x1, x2, x3, x4, x5, x6⟩ (fun hHeld => ?_)
            clear hK K
            try simp only [Act.put, List.setIfInBounds_toArray, List.set_cons_zero, List.set_cons_succ]
            refine wpAnyH_ready (rs := [11]) (by kernel_rfl) (by simp) ?_
            refine AllReadyH.cons (by simp only [List.getElem?_toArray, List.getElem?_cons_zero, List.getElem?_cons_succ]; rfl) ?_ AllReadyH.nil
            intro K hK
            rw [if_pos (by rfl)]
            refine app_sivsL (.tmp 38) (.tmp 42) rfl (by have := BW7.out.size; omega) _ (k + 1) (P5 ++ [((⟨xk, xm, XN, XL, xd, xc, xs⟩ : SV), (⟨ya, yc, za, zc⟩ : HAd))]) rfl HR7.out.own sa42 (m - (k + 2)) (c - (k + 2)) (Q.drop (k + 2)) rfl (by rw [List.length_drop, hl]) (fun i u hu => ?_) (by omega) (by omega) ?_
            · have hlh := (List.getElem?_eq_some_iff.1 hu).1
              rw [hvS_length, List.length_drop, hl] at hlh
              rw [HSA.out (by omega)]
              exact src_dropS HRX.out.own BW7.out (k + 2) (by omega) i u hu
            intro g8 c8 w8 own8 grow8 loc8
            have HR8 : Hid (RowV w8 w.heap.size (.slice (some ⟨g8, 0, none⟩) (k + 1 + (m - (k + 2))) c8) (P5 ++ [((⟨xk, xm, XN, XL, xd, xc, xs⟩ : SV), (⟨ya, yc, za, zc⟩ : HAd))] ++ Q.drop (k + 2)) (k + 1 + (m - (k + 2)))) := by
              refine HR7.out.app (by rw [List.length_drop, hl]) (fun p hp => (HRX.out.below BW7.out).new p (List.mem_of_mem_drop hp)) (fun p hp b hb e => ?_) (fun p hp => HRX.out.nilI p (List.mem_of_mem_drop hp)) own8 grow8 loc8
              have h1 := (HRX.out.new p (List.mem_of_mem_drop hp)).lt b hb
              cases e
              dsimp only at h1
              omega
            have BW8 : Below VX.heap.size VX w8 := BW7.out.grown grow8 BW7.out.size (fun kk hkk => by cases hkk; exact LG7)
            have HB8 := chain (chain hbw BX.out) BW8
            have HNX : Hid (MrgW w w8 g8 (k + 1 + (m - (k + 2))) c8 (P.map Prod.fst) 0) := MrgW.app HR8.out HM5.out HCM.out HNO.out HOQ.out hk1 HP.out
            clear own8 grow8 loc8 hHeld x0 x1 x2 x3 x4 x5 x6
            have x0 : w8.cell? ⟨gx, 0, none⟩ = some (.int .i64 xk) := (BW8.cell (p := ⟨gx, 0, none⟩) GXL).trans X0.out
            have x1 : w8.cell? ⟨gx, 1, none⟩ = some (.string xm) := (BW8.cell (p := ⟨gx, 1, none⟩) GXL).trans X1.out
            have x2 : w8.cell? ⟨gx, 2, none⟩ = some (.slice ya xn yc) := (BW8.cell (p := ⟨gx, 2, none⟩) GXL).trans X2.out
            have x3 : w8.cell? ⟨gx, 3, none⟩ = some (.slice za xl zc) := (BW8.cell (p := ⟨gx, 3, none⟩) GXL).trans X3.out
            have x4 : w8.cell? ⟨gx, 4, none⟩ = some (.bool xd) := (BW8.cell (p := ⟨gx, 4, none⟩) GXL).trans X4.out
            have x5 : w8.cell? ⟨gx, 5, none⟩ = some (.int .i64 xc) := (BW8.cell (p := ⟨gx, 5, none⟩) GXL).trans X5.out
            have x6 : w8.cell? ⟨gx, 6, none⟩ = some (.int .i64 xs) := (BW8.cell (p := ⟨gx, 6, none⟩) GXL).trans X6.out
            refine hK.out _ _ ⟨x0, x1, x2, x3, x4, x5, x6⟩ (fun hHeld => ?_)
            clear hK K BW8
            try simp only [Act.put, List.setIfInBounds_toArray, List.set_cons_zero, List.set_cons_succ]
            refine wpAnyH_take (i := 12) (by simp only [List.getElem?_toArray, List.getElem?_cons_zero, List.getElem?_cons_succ]; rfl) (by kernel_rfl) (by kernel_rfl) (by kernel_rfl) (by intro _ _ _ h; exact h) (Or.inl ⟨by rfl, fun w hSw => by (dsimp only at hSw; go_simp; (try with_reducible rfl))⟩) (by assumption) ?_
            simp only [Act.put, List.setIfInBounds_toArray, List.set_cons_zero, List.set_cons_succ]
            refine wpAnyH_done (by kernel_rfl) ?_ _
            clear hHeld x0 x1 x2 x3 x4 x5 x6
            obtain ⟨q, hq⟩ : ∃ q, k + 1 + (m - (k + 2)) = q := ⟨_, rfl⟩
            have hq1 : q + 1 = m := by omega
            rw [hq] at HNX ⊢
            clear hq
            go_wp2
            go_roundw
            case rel => exact ⟨g8, q, c8, 0, rfl, Nat.zero_le _, by omega, rfl, HNX.out, HB8⟩
            case measure =>
              have e0 : (intOf (.int .i64 0)).toNat = 0 := rfl
              have e1 : (intOf (.int .i64 (k : Int))).toNat = k := by simp [intOf]
              simp only [e0, e1, lenV]
              rw [← hq1, Nat.add_mul, Nat.one_mul]
              omega
          · intro K hK
            go_simp
            obtain ⟨V6, hV⟩ : ∃ V, V = VX.alloc (.cells #[.int .i64 xk, .string xm, .slice ya xn yc, .slice za xl zc, .bool xd, .int .i64 xc, .int .i64 xs] 38) := ⟨_, rfl⟩
            obtain ⟨g6, hg6⟩ : ∃ z, z = VX.heap.size := ⟨_, rfl⟩
            have BV6 : Hid (Below VX.drew.heap.size VX.drew V6.drew) := by rw [hV]; exact (Below.refl VX.drew.heap.size VX.drew).alloc (Nat.le_refl _) (.cells #[.int .i64 xk, .string xm, .slice ya xn yc, .slice za xl zc, .bool xd, .int .i64 xc, .int .i64 xs] 38)
            have HC6 : Hid (∀ (j : Nat) u, (hvS [((⟨xk, xm, XN, XL, xd, xc, xs⟩ : SV), (⟨ya, yc, za, zc⟩ : HAd))])[j]? = some u → V6.cell? ⟨g6, j, none⟩ = some u) := by rw [hV, hg6]; exact cells_alloc VX _ _ _ (by simp [hvS, headSv, HXA.out, HXB.out])
            rw [← hV, ← hg6]
            clear hV hg6
            have YB : Hid (Below VX.heap.size VX V6.drew) := chain ((Below.refl _ _).drew) BV6.out
            clear hHeld x0 x1 x2 x3 x4 x5 x6
            have x0 : V6.drew.cell? ⟨gx, 0, none⟩ = some (.int .i64 xk) := (YB.out.cell (p := ⟨gx, 0, none⟩) GXL).trans X0.out
            have x1 : V6.drew.cell? ⟨gx, 1, none⟩ = some (.string xm) := (YB.out.cell (p := ⟨gx, 1, none⟩) GXL).trans X1.out
            have x2 : V6.drew.cell? ⟨gx, 2, none⟩ = some (.slice ya xn yc) := (YB.out.cell (p := ⟨gx, 2, none⟩) GXL).trans X2.out
            have x3 : V6.drew.cell? ⟨gx, 3, none⟩ = some (.slice za xl zc) := (YB.out.cell (p := ⟨gx, 3, none⟩) GXL).trans X3.out
            have x4 : V6.drew.cell? ⟨gx, 4, none⟩ = some (.bool xd) := (YB.out.cell (p := ⟨gx, 4, none⟩) GXL).trans X4.out
            have x5 : V6.drew.cell? ⟨gx, 5, none⟩ = some (.int .i64 xc) := (YB.out.cell (p := ⟨gx, 5, none⟩) GXL).trans X5.out
            have x6 : V6.drew.cell? ⟨gx, 6, none⟩ = some (.int .i64 xs) := (YB.out.cell (p := ⟨gx, 6, none⟩) GXL).trans X6.out
            refine hK.out _ _ ⟨x0, x1, x2, x3, x4, x5, x6⟩ (fun hHeld => ?_)
            clear hK K
            try simp only [Act.put, List.setIfInBounds_toArray, List.set_cons_zero, List.set_cons_succ]
            refine wpAnyH_ready (rs := [3]) (by kernel_rfl) (by simp) ?_
            refine AllReadyH.cons (by simp only [List.getElem?_toArray, List.getElem?_cons_zero, List.getElem?_cons_succ]; rfl) ?_ AllReadyH.nil
            intro K hK
            go_simp
            have GL6 : g6 < V6.heap.size := by
              have h := HC6.out 0 (.int .i64 xk) (by simp [hvS, headSv])
              exact cell_lt h
            refine (l13copy_spec (some ⟨g, 0, none⟩) c (Q.take k) k (by rw [List.length_take]; omega) _ ⟨fun i hi => (HRX.out.below YB.out).heads.cells i (by rw [List.length_take] at hi; omega) |>.imp fun _ h => h.imp fun _ h => ⟨h.1, h.2.1, fun j hj => by rw [List.getElem_take]; exact h.2.2 j hj⟩, fun p hp => ((HRX.out.below YB.out).new p (List.mem_of_mem_take hp)).siv, fun p hp => HRX.out.nilI p (List.mem_of_mem_take hp)⟩ (by omega) (fun p hp => (HOQ.out p (List.mem_of_mem_take hp)).2.1)).mono ?_
            rintro e w5 ⟨g5, c5, P5, rfl, hmap5, hrow5, hb5⟩
            have HM5 : Hid (P5.map Prod.fst = (Q.take k).map Prod.fst) := hmap5
            have BW5 : Hid (Below VX.heap.size VX w5) := chain YB.out hb5
            have LY : VX.heap.size ≤ V6.drew.heap.size := YB.out.size
            have HR5 : Hid (RowV w5 w.heap.size (.slice (some ⟨g5, 0, none⟩) k c5) P5 k) := ⟨own_lowV hrow5.own (by omega), hrow5.len, fun p hp => (hrow5.new p hp).lower (by omega), hrow5.far, hrow5.nilI⟩
            have LG5 : VX.heap.size ≤ g5 := by have := (hrow5.own.lt g5 rfl).1; omega
            clear hmap5 hrow5
            have HC7 : Hid (∀ (j : Nat) u, (hvS [((⟨xk, xm, XN, XL, xd, xc, xs⟩ : SV), (⟨ya, yc, za, zc⟩ : HAd))])[j]? = some u → w5.cell? ⟨g6, j, none⟩ = some u) := fun j u hu => (hb5.cell (p := ⟨g6, j, none⟩) GL6).trans (HC6.out j u hu)
            have HR6 : Hid (RowV w5 w.heap.size (.slice (some ⟨g5, 0, none⟩) k c5) P5 k) := HR5
            have BW6 : Hid (Below VX.heap.size VX w5) := BW5
            clear hb5 hHeld x0 x1 x2 x3 x4 x5 x6
            have x0 : w5.cell? ⟨gx, 0, none⟩ = some (.int .i64 xk) := (BW6.out.cell (p := ⟨gx, 0, none⟩) GXL).trans X0.out
            have x1 : w5.cell? ⟨gx, 1, none⟩ = some (.string xm) := (BW6.out.cell (p := ⟨gx, 1, none⟩) GXL).trans X1.out
            have x2 : w5.cell? ⟨gx, 2, none⟩ = some (.slice ya xn yc) := (BW6.out.cell (p := ⟨gx, 2, none⟩) GXL).trans X2.out
            have x3 : w5.cell? ⟨gx, 3, none⟩ = some (.slice za xl zc) := (BW6.out.cell (p := ⟨gx, 3, none⟩) GXL).trans X3.out
            have x4 : w5.cell? ⟨gx, 4, none⟩ = some (.bool xd) := (BW6.out.cell (p := ⟨gx, 4, none⟩) GXL).trans X4.out
            have x5 : w5.cell? ⟨gx, 5, none⟩ = some (.int .i64 xc) := (BW6.out.cell (p := ⟨gx, 5, none⟩) GXL).trans X5.out
            have x6 : w5.cell? ⟨gx, 6, none⟩ = some (.int .i64 xs) := (BW6.out.cell (p := ⟨gx, 6, none⟩) GXL).trans X6.out
            refine hK.out _ _ ⟨x0, x1, x2, x3, x4, x5, x6⟩ (fun hHeld => ?_)
            clear hK K
            try simp only [Act.put, List.setIfInBounds_toArray, List.set_cons_zero, List.set_cons_succ]
            refine wpAnyH_ready (rs := [6]) (by kernel_rfl) (by simp) ?_
            refine AllReadyH.cons (by simp only [List.getElem?_toArray, List.getElem?_cons_zero, List.getElem?_cons_succ]; rfl) ?_ AllReadyH.nil
            intro K hK
            rw [if_pos (by rfl)]
            refine app_sivsL (.tmp 35) (.tmp 37) rfl (by have := BW6.out.size; omega) _ k P5 rfl HR6.out.own ⟨g6, 0, none⟩ 1 1 [((⟨xk, xm, XN, XL, xd, xc, xs⟩ : SV), (⟨ya, yc, za, zc⟩ : HAd))] rfl rfl (fun i u hu => ?_) (by omega) (by omega) ?_
            · rw [addr_addS, Nat.zero_add]
              exact HC7.out i u hu
            intro g7 c7 w7 own7 grow7 loc7
            have LW6 : VX.heap.size ≤ w5.heap.size := BW6.out.size
            have XN6 : Hid (SivNew w5 w.heap.size ⟨ya, yc, za, zc⟩ ⟨xk, xm, XN, XL, xd, xc, xs⟩) := (XNEW.out.below BW6.out).lower LWR
            have HR7 : Hid (RowV w7 w.heap.size (.slice (some ⟨g7, 0, none⟩) (k + 1) c7) (P5 ++ [((⟨xk, xm, XN, XL, xd, xc, xs⟩ : SV), (⟨ya, yc, za, zc⟩ : HAd))]) (k + 1)) := by
              refine HR6.out.app rfl (fun p hp => ?_) (fun p hp b hb e => ?_) (fun p hp => ?_) own7 grow7 loc7
              · rcases List.mem_cons.1 hp with rfl | hp
                · exact XN6.out
                · cases hp
              · rcases List.mem_cons.1 hp with rfl | hp
                · have h1 := XNEW.out.lt b hb
                  cases e
                  dsimp only at h1
                  omega
                · cases hp
              · rcases List.mem_cons.1 hp with rfl | hp
                · exact HXL.out
                · cases hp
            have LG7 : VX.heap.size ≤ g7 := by
              rcases loc7 with e | e
              · cases e; exact LG5
              · cases e; exact LW6
            have BW7 : Hid (Below VX.heap.size VX w7) := BW6.out.grown grow7 LW6 (fun kk hkk => by cases hkk; exact LG5)
            clear own7 grow7 loc7 hHeld x0 x1 x2 x3 x4 x5 x6
            have x0 : w7.cell? ⟨gx, 0, none⟩ = some (.int .i64 xk) := (BW7.out.cell (p := ⟨gx, 0, none⟩) GXL).trans X0.out
            have x1 : w7.cell? ⟨gx, 1, none⟩ = some (.string xm) := (BW7.out.cell (p := ⟨gx, 1, none⟩) GXL).trans X1.out
            have x2 : w7.cell? ⟨gx, 2, none⟩ = some (.slice ya xn yc) := (BW7.out.cell (p := ⟨gx, 2, none⟩) GXL).trans X2.out
            have x3 : w7.cell? ⟨gx, 3, none⟩ = some (.slice za xl zc) := (BW7.out.cell (p := ⟨gx, 3, none⟩) GXL).trans X3.out
            have x4 : w7.cell? ⟨gx, 4, none⟩ = some (.bool xd) := (BW7.out.cell (p := ⟨gx, 4, none⟩) GXL).trans X4.out
            have x5 : w7.cell? ⟨gx, 5, none⟩ = some (.int .i64 xc) := (BW7.out.cell (p := ⟨gx, 5, none⟩) GXL).trans X5.out
            have x6 : w7.cell? ⟨gx, 6, none⟩ = some (.int .i64 xs) := (BW7.out.cell (p := ⟨gx, 6, none⟩) GXL).trans X6.out
            refine hK.out _ _ ⟨x0, x1, x2, x3, x4, x5, x6⟩ (fun hHeld => ?_)
            clear hK K
            try simp only [Act.put, List.setIfInBounds_toArray, List.set_cons_zero, List.set_cons_succ]
            refine wpAnyH_ready (rs := [11]) (by kernel_rfl) (by simp) ?_
            refine AllReadyH.cons (by simp only [List.getElem?_toArray, List.getElem?_cons_zero, List.getElem?_cons_succ]; rfl) ?_ AllReadyH.nil
            intro K hK
            rw [if_pos (by rfl)]
            refine app_sivsL (.tmp 38) (.tmp 42) rfl (by have := BW7.out.size; omega) _ (k + 1) (P5 ++ [((⟨xk, xm, XN, XL, xd, xc, xs⟩ : SV), (⟨ya, yc, za, zc⟩ : HAd))]) rfl HR7.out.own sa42 (m - (k + 2)) (c - (k + 2)) (Q.drop (k + 2)) rfl (by rw [List.length_drop, hl]) (fun i u hu => ?_) (by omega) (by omega) ?_
            · have hlh := (List.getElem?_eq_some_iff.1 hu).1
              rw [hvS_length, List.length_drop, hl] at hlh
              rw [HSA.out (by omega)]
              exact src_dropS HRX.out.own BW7.out (k + 2) (by omega) i u hu
            intro g8 c8 w8 own8 grow8 loc8
            have HR8 : Hid (RowV w8 w.heap.size (.slice (some ⟨g8, 0, none⟩) (k + 1 + (m - (k + 2))) c8) (P5 ++ [((⟨xk, xm, XN, XL, xd, xc, xs⟩ : SV), (⟨ya, yc, za, zc⟩ : HAd))] ++ Q.drop (k + 2)) (k + 1 + (m - (k + 2)))) := by
              refine HR7.out.app (by rw [List.length_drop, hl]) (fun p hp => (HRX.out.below BW7.out).new p (List.mem_of_mem_drop hp)) (fun p hp b hb e => ?_) (fun p hp => HRX.out.nilI p (List.mem_of_mem_drop hp)) own8 grow8 loc8
              have h1 := (HRX.out.new p (List.mem_of_mem_drop hp)).lt b hb
              cases e
              dsimp only at h1
              omega
            have BW8 : Below VX.heap.size VX w8 := BW7.out.grown grow8 BW7.out.size (fun kk hkk => by cases hkk; exact LG7)
            have HB8 := chain (chain hbw BX.out) BW8
            have HNX : Hid (MrgW w w8 g8 (k + 1 + (m - (k + 2))) c8 (P.map Prod.fst) 0) := MrgW.app HR8.out HM5.out HCM.out HNO.out HOQ.out hk1 HP.out
            clear own8 grow8 loc8 hHeld x0 x1 x2 x3 x4 x5 x6
            have x0 : w8.cell? ⟨gx, 0, none⟩ = some (.int .i64 xk) := (BW8.cell (p := ⟨gx, 0, none⟩) GXL).trans X0.out
            have x1 : w8.cell? ⟨gx, 1, none⟩ = some (.string xm) := (BW8.cell (p := ⟨gx, 1, none⟩) GXL).trans X1.out
            have x2 : w8.cell? ⟨gx, 2, none⟩ = some (.slice ya xn yc) := (BW8.cell (p := ⟨gx, 2, none⟩) GXL).trans X2.out
            have x3 : w8.cell? ⟨gx, 3, none⟩ = some (.slice za xl zc) := (BW8.cell (p := ⟨gx, 3, none⟩) GXL).trans X3.out
            have x4 : w8.cell? ⟨gx, 4, none⟩ = some (.bool xd) := (BW8.cell (p := ⟨gx, 4, none⟩) GXL).trans X4.out
            have x5 : w8.cell? ⟨gx, 5, none⟩ = some (.int .i64 xc) := (BW8.cell (p := ⟨gx, 5, none⟩) GXL).trans X5.out
            have x6 : w8.cell? ⟨gx, 6, none⟩ = some (.int .i64 xs) := (BW8.cell (p := ⟨gx, 6, none⟩) GXL).trans X6.out
            refine hK.out _ _ ⟨x0, x1, x2, x3, x4, x5, x6⟩ (fun hHeld => ?_)
            clear hK K BW8
            try simp only [Act.put, List.setIfInBounds_toArray, List.set_cons_zero, List.set_cons_succ]
            refine wpAnyH_take (i := 12) (by simp only [List.getElem?_toArray, List.getElem?_cons_zero, List.getElem?_cons_succ]; rfl) (by kernel_rfl) (by kernel_rfl) (by kernel_rfl) (by intro _ _ _ h; exact h) (Or.inl ⟨by rfl, fun w hSw => by (dsimp only at hSw; go_simp; (try with_reducible rfl))⟩) (by assumption) ?_
            simp only [Act.put, List.setIfInBounds_toArray, List.set_cons_zero, List.set_cons_succ]
            refine wpAnyH_done (by kernel_rfl) ?_ _
            clear hHeld x0 x1 x2 x3 x4 x5 x6
            obtain ⟨q, hq⟩ : ∃ q, k + 1 + (m - (k + 2)) = q := ⟨_, rfl⟩
            have hq1 : q + 1 = m := by omega
            rw [hq] at HNX ⊢
            clear hq
            go_wp2
            go_roundw
            case rel => exact ⟨g8, q, c8, 0, rfl, Nat.zero_le _, by omega, rfl, HNX.out, HB8⟩
            case measure =>
              have e0 : (intOf (.int .i64 0)).toNat = 0 := rfl
              have e1 : (intOf (.int .i64 (k : Int))).toNat = k := by simp [intOf]
              simp only [e0, e1, lenV]
              rw [← hq1, Nat.add_mul, Nat.one_mul]
              omega
    · have FIN : Hid (PushOut mergeR w (P.map Prod.fst) (.returned (.slice (some ⟨g, 0, none⟩) m c)) wr) := hW.out.done (by omega) HB.out hbw
      have hi2 : ¬ ((k : Int) + 1 < (m : Int)) := by omega
      clear hW
      go_wp2
      go_ret
      exact FIN.out
end Go.Proofs.YtadbbkpillfjaaaGreatDoor
