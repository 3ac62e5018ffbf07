/-
  A part of the proof: FstI.
-/
import Derived.Test.YtadbbkpillfjaaaGreatDoorPart26
import Derived.Test.YtadbbkpillfjaaaGreatDoorPart25
import Derived.ArgAppend
import Derived.Deep.RegionHeld3

/-
  The program's firstPairChanged, over any rule.
-/
namespace Go.Proofs.YtadbbkpillfjaaaGreatDoor
open Go.ChangeShapes Go.WideShapes Go.ChangeAt Go.RowKit
attribute [local go_sem ↓] Go.wp_at_zero Go.wp_at_succ
attribute [local simp] World.cell?_alloc_past World.cell?_alloc_at World.frozen?_alloc_at cell_far cell_off cell_here World.frozen?_alloc_past

/-- A head whose lists are there. -/
structure HeadOk (w : World) (Ok : SV → Prop) (p : SV × HAd) : Prop where
  siv : SivAt w p.2.na p.2.nc p.2.sa p.1
  nilI : p.2.sa = none → p.2.sc = 0
  ok : Ok p.1
theorem HeadOk.below {w w' : World} {Ok : SV → Prop} {p : SV × HAd} (h : HeadOk w Ok p) (hb : Below w.heap.size w w') : HeadOk w' Ok p := ⟨h.siv.below hb, h.nilI, h.ok⟩
/-- What a rule answers. -/
def RuleAns (w' : World) (Ok : SV → Prop) (r : Rule) (p q : SV × HAd) (e : Ending) (w'' : World) : Prop :=
  ∃ v b, e = .returned (.tuple #[v, .bool b]) ∧ Below w'.heap.size w' w'' ∧ (b = false → r p.1 q.1 = none) ∧ (b = true → ∃ g m c X, v = .slice (some ⟨g, 0, none⟩) m c ∧ X.length = m ∧ 0 < m ∧ m ≤ 2 ∧ g < w''.heap.size ∧ (∀ j u, (hvS X)[j]? = some u → w''.cell? ⟨g, j, none⟩ = some u) ∧ (∀ x ∈ X, HeadOk w'' Ok x) ∧ r p.1 q.1 = some (X.map Prod.fst))
/-- A function that answers as a rule says, of heads whose lists are there. -/
def RuleHv (w : World) (f : Nat) (Ok : SV → Prop) (r : Rule) : Prop :=
  ∀ w', Below w.heap.size w w' → ∀ p q : SV × HAd, HeadOk w' Ok p → HeadOk w' Ok q → Calls Tryz.prog f #[.agg (headSv p.1 p.2).toArray, .agg (headSv q.1 q.2).toArray] w' (RuleAns w' Ok r p q)
theorem RuleHv.below {w w1 : World} {f : Nat} {Ok : SV → Prop} {r : Rule} (h : RuleHv w f Ok r) (hb : Below w.heap.size w w1) : RuleHv w1 f Ok r :=
  fun w' hw => h w' (chain hb hw)
/-- Heads put behind heads that have no room behind them: a new row. -/
theorem grow_sivs {w : World} {o : Oper} {a : Act} {K : Act → World → Prop} {Q : Exit → Act → World → Prop} (s x : Operand)
    (ho : o.op = .call { callee := .builtin .append, args := #[s, x], argTypes := #[24, 24] })
    (b : Addr) (n : Nat) (P1 : List (SV × HAd)) (hn : P1.length = n) (hs : a.eval s = .slice (some b) n n) (holds : ∀ j u, (hvS P1)[j]? = some u → w.cell? (b.add j) = some u)
    (ad : Addr) (m k : Nat) (P2 : List (SV × HAd)) (hx : a.eval x = .slice (some ad) m k) (hm : P2.length = m) (hcells : ∀ j u, (hvS P2)[j]? = some u → w.cell? (ad.add j) = some u)
    (h0 : 0 < m) (hsz : n + m ≤ 4096)
    (h : ∀ g cap w', w'.ownsRow w.heap.size 38 7 (.slice (some ⟨g, 0, none⟩) (n + m) cap) (n + m) (hvS (P1 ++ P2)) → w.grownBy w' none → K (a.put o.dst (.slice (some ⟨g, 0, none⟩) (n + m) cap)) w') : o.wp Tryz.prog a w K Q := by
  obtain ⟨i0, hi, hz0, hz1, hz2⟩ := info_parts infoSV
  obtain ⟨v', w', hr, own, hg⟩ := run_append_arg_grows (P := Tryz.prog) w 24 o.type 38 i0 (.agg #[.int .i64 0, .string ⟨#[]⟩, .slice none 0 0, .slice none 0 0, .bool false, .int .i64 0, .int .i64 0]) 7 96 Tryz.underlying24 hi hz0 hz1 hz2 rfl (by decide) b n n (hvS P1) (by rw [hvS_length, hn]) holds ad m k (hvS P2) (by rw [hvS_length, hm]) hcells (by omega) (by unfold maxLen; omega) (by omega)
  obtain ⟨g, cap, rfl, _, _⟩ := own.form (by omega)
  unfold Oper.wp execOp
  simp only [ho, resolve, invoke, builtin, Sem.run_bind, Sem.run_pure, Result.andThen_ok, List.map_toArray, List.map_cons, List.map_nil, hs, hx, hr]
  rw [← hvS_append] at own
  exact h g cap w' own hg
/-- Heads put behind heads of one's own; it may be none. -/
theorem app_sivs0 {B : Nat} {w : World} {o : Oper} {a : Act} {K : Act → World → Prop} {Q : Exit → Act → World → Prop} (s x : Operand)
    (ho : o.op = .call { callee := .builtin .append, args := #[s, x], argTypes := #[24, 24] })
    (hB : B ≤ w.heap.size) (v : Value) (n : Nat) (P1 : List (SV × HAd)) (hs : a.eval s = v) (own : w.ownsRow B 38 7 v n (hvS P1))
    (ad : Addr) (m k : Nat) (P2 : List (SV × HAd)) (hx : a.eval x = .slice (some ad) m k) (hm : P2.length = m) (hcells : ∀ j u, (hvS P2)[j]? = some u → w.cell? (ad.add j) = some u)
    (h0 : 0 < n + m) (hsz : n + m ≤ 4096)
    (h : ∀ g cap w', w'.ownsRow B 38 7 (.slice (some ⟨g, 0, none⟩) (n + m) cap) (n + m) (hvS (P1 ++ P2)) → w.grownBy w' v.ownBlock → K (a.put o.dst (.slice (some ⟨g, 0, none⟩) (n + m) cap)) w') : o.wp Tryz.prog a w K Q := by
  obtain ⟨i0, hi, hz0, hz1, hz2⟩ := info_parts infoSV
  obtain ⟨v', w', hr, own2, hg, _, _⟩ := run_append_own_at (P := Tryz.prog) w B 24 o.type 38 i0 (.agg #[.int .i64 0, .string ⟨#[]⟩, .slice none 0 0, .slice none 0 0, .bool false, .int .i64 0, .int .i64 0]) 7 96 Tryz.underlying24 hi hz0 hz1 hz2 rfl (by decide) v n (hvS P1) own ad m k (hvS P2) (by rw [hvS_length, hm]) hcells (fun u hu => hvS_one hu) (by unfold maxLen; omega) (by omega) hB
  obtain ⟨g, cap, rfl, _, _⟩ := own2.form h0
  unfold Oper.wp execOp
  simp only [ho, resolve, invoke, builtin, Sem.run_bind, Sem.run_pure, Result.andThen_ok, List.map_toArray, List.map_cons, List.map_nil, hs, hx, hr]
  rw [← hvS_append] at own2
  exact h g cap w' own2 hg
/-- The cells of a part of the heads. -/
theorem HeadsIn.cellsAt {w : World} {g o : Nat} {P : List (SV × HAd)} (h : HeadsIn w (some ⟨g, o, none⟩) P) : ∀ j u, (hvS P)[j]? = some u → w.cell? ⟨g, o + j, none⟩ = some u := by
  intro j u hu
  have hl := (List.getElem?_eq_some_iff.1 hu).1
  rw [hvS_length] at hl
  have hi : j / 7 < P.length := by omega
  obtain ⟨b, o', e, _, hc⟩ := h.cells (j / 7) hi
  cases e
  have h7 := hc (j % 7) (by omega)
  have hv := hvS_at hi (j % 7) (by omega)
  rw [show j / 7 * 7 + j % 7 = j by omega] at hv
  rw [show o + j / 7 * 7 + j % 7 = o + j by omega] at h7
  rw [h7, ← hv]
  exact hu
/-- What comes of one step. -/
def FstOut (w : World) (Ok : SV → Prop) (r : Rule) (a : Option Addr) (n cap : Nat) (P : List (SV × HAd)) (e : Ending) (w' : World) : Prop :=
  Below w.heap.size w w' ∧ ((rwStep r (P.map Prod.fst) = none ∧ e = .returned (.tuple #[.slice a n cap, .bool false])) ∨ ∃ g m c Q, rwStep r (P.map Prod.fst) = some (Q.map Prod.fst) ∧ e = .returned (.tuple #[.slice (some ⟨g, 0, none⟩) m c, .bool true]) ∧ Q.length = m ∧ m ≤ n ∧ m ≤ c ∧ c ≤ maxLen ∧ HeadsIn w' (some ⟨g, 0, none⟩) Q ∧ ∀ p ∈ Q, Ok p.1)
set_option maxRecDepth 100000 in
set_option maxHeartbeats 4000000 in
theorem first_impl (f : Nat) (hent : ∀ (xs : Array Value) (w : World), (callFunc f xs).run Tryz.prog w = .ok (.enter f xs) w) (Ok : SV → Prop) (r : Rule) (a : Option Addr) (cap : Nat) (P : List (SV × HAd)) (n : Nat) (hn : P.length = n) (hcap : n ≤ cap) (w : World) (hrow : HeadsIn w a P) (hok : ∀ p ∈ P, Ok p.1) (hm : n ≤ 8) (hcm : cap ≤ maxLen) (hr : RuleHv w f Ok r) :
    Calls Tryz.prog 34 #[.slice a n cap, .func (.func f) #[] #[]] w (FstOut w Ok r a n cap P) := by
  have HR : Hid (HeadsIn w a P) := hrow
  have HN : Hid (P.length = n) := hn
  have HO : Hid (∀ p ∈ P, Ok p.1) := hok
  have HV : Hid (RuleHv w f Ok r) := hr
  have h0 : Below w.heap.size w w := Below.refl _ _
  clear hrow hn hok hr
  unfold maxLen at hcm
  go_enter Tryz.func34, Tryz.ntmps34
  go_wp2
  go_loopw [6] (fun kk wr => ∃ j : Nat, j ≤ n ∧ kk = .int .i64 ((j : Int) + 1) ∧ Hid (∀ i (h : i + 1 < (P.map Prod.fst).length), i < j → r ((P.map Prod.fst)[i]'(by omega)) (P.map Prod.fst)[i + 1] = none) ∧ Below w.heap.size w wr) (fun kk _ => n + 1 - (intOf kk).toNat)
  case atStart => exact ⟨0, Nat.zero_le _, rfl, (fun i h hi => by omega), h0⟩
  case round =>
    obtain ⟨j, hj, rfl, hNo, hbw⟩ := hrel
    have hj63 : IntKind.i64.wrap ((j : Int) + 1 - 1) = (j : Int) := by rw [IntKind.wrap_i64]; omega
    have hj64 : IntKind.i64.wrap (j : Int) = (j : Int) := by rw [IntKind.wrap_i64]; omega
    have hj65 : IntKind.i64.wrap ((j : Int) + 1 + 1) = (j : Int) + 1 + 1 := by rw [IntKind.wrap_i64]; omega
    by_cases hlt : j + 1 < n
    · have hl := HN.out
      have hk0 : j < P.length := by omega
      have hk1 : j + 1 < P.length := by omega
      obtain ⟨g, o, e1, hg, c0, c1, c2, c3, c4, c5, c6⟩ := (HR.out.below hbw).at j hk0
      obtain ⟨g2, o2, e2, _, d0, d1, d2, d3, d4, d5, d6⟩ := (HR.out.below hbw).at (j + 1) hk1
      rw [e1] at e2
      cases e2
      subst e1
      have hi0 : (0 : Int) ≤ (j : Int) := by omega
      have hi1 : (j : Int) < (n : Int) := by omega
      have hi2 : (j : Int) + 1 < (n : Int) := by omega
      have hi3 : ((j : Int) + 1).toNat = j + 1 := by omega
      have hi4 : (0 : Int) ≤ (j : Int) + 1 := by omega
      have HXK : Hid (HeadOk wr Ok P[j]) := ⟨(HR.out.below hbw).siv _ (List.getElem_mem hk0), (HR.out.below hbw).nilI _ (List.getElem_mem hk0), HO.out _ (List.getElem_mem hk0)⟩
      have HYK : Hid (HeadOk wr Ok P[j + 1]) := ⟨(HR.out.below hbw).siv _ (List.getElem_mem hk1), (HR.out.below hbw).nilI _ (List.getElem_mem hk1), HO.out _ (List.getElem_mem hk1)⟩
      obtain ⟨x, hxq⟩ : ∃ x, P[j] = x := ⟨_, rfl⟩
      obtain ⟨y, hyq⟩ : ∃ y, P[j + 1] = y := ⟨_, rfl⟩
      have HXQ : Hid (P[j] = x) := hxq
      have HYQ : Hid (P[j + 1] = y) := hyq
      rw [hxq] at c0 c1 c2 c3 c4 c5 c6 HXK
      rw [hyq] at d0 d1 d2 d3 d4 d5 d6 HYK
      have HCA : Hid (∀ w', Below wr.heap.size wr w' → Calls Tryz.prog f #[.agg (headSv x.1 x.2).toArray, .agg (headSv y.1 y.2).toArray] w' (RuleAns w' Ok r x y)) := fun w' hw => HV.out w' (chain hbw hw) x y (HXK.out.below hw) (HYK.out.below hw)
      clear hxq hyq hl
      obtain ⟨⟨kd, nm, N, S, dn, ct, sk⟩, ⟨na, nc, sa, sc⟩⟩ := x
      obtain ⟨⟨kt, mt, M, R, dt, tt, st⟩, ⟨ma, mc, ra, rc⟩⟩ := y
      dsimp only at c0 c1 c2 c3 c4 c5 c6 d0 d1 d2 d3 d4 d5 d6
      obtain ⟨nn, hnn⟩ : ∃ z, N.length = z := ⟨_, rfl⟩
      obtain ⟨sn, hsn⟩ : ∃ z, S.length = z := ⟨_, rfl⟩
      obtain ⟨mn, hmn⟩ : ∃ z, M.length = z := ⟨_, rfl⟩
      obtain ⟨rn, hrn⟩ : ∃ z, R.length = z := ⟨_, rfl⟩
      have HCB : Hid (∀ w', Below wr.heap.size wr w' → Calls Tryz.prog f #[.agg #[.int .i64 kd, .string nm, .slice na nn nc, .slice sa sn sc, .bool dn, .int .i64 ct, .int .i64 sk], .agg #[.int .i64 kt, .string mt, .slice ma mn mc, .slice ra rn rc, .bool dt, .int .i64 tt, .int .i64 st]] w' (RuleAns w' Ok r (⟨kd, nm, N, S, dn, ct, sk⟩, ⟨na, nc, sa, sc⟩) (⟨kt, mt, M, R, dt, tt, st⟩, ⟨ma, mc, ra, rc⟩))) := by
        subst hnn hsn hmn hrn
        exact HCA.out
      rw [hnn] at c2
      rw [hsn] at c3
      rw [hmn] at d2
      rw [hrn] at d3
      clear hnn hsn hmn hrn HCA HXK HYK
      go_wp2_with fail
      refine wp_region_held_drew (S := (fun w' => w'.cell? ⟨g, o + j * 7, none⟩ = some (.int .i64 kd) ∧ w'.cell? ⟨g, o + j * 7 + 1, none⟩ = some (.string nm) ∧ w'.cell? ⟨g, o + j * 7 + 2, none⟩ = some (.slice na nn nc) ∧ w'.cell? ⟨g, o + j * 7 + 3, none⟩ = some (.slice sa sn sc) ∧ w'.cell? ⟨g, o + j * 7 + 4, none⟩ = some (.bool dn) ∧ w'.cell? ⟨g, o + j * 7 + 5, none⟩ = some (.int .i64 ct) ∧ w'.cell? ⟨g, o + j * 7 + 6, none⟩ = some (.int .i64 sk) ∧ w'.cell? ⟨g, o + (j + 1) * 7, none⟩ = some (.int .i64 kt) ∧ w'.cell? ⟨g, o + (j + 1) * 7 + 1, none⟩ = some (.string mt) ∧ w'.cell? ⟨g, o + (j + 1) * 7 + 2, none⟩ = some (.slice ma mn mc) ∧ w'.cell? ⟨g, o + (j + 1) * 7 + 3, none⟩ = some (.slice ra rn rc) ∧ w'.cell? ⟨g, o + (j + 1) * 7 + 4, none⟩ = some (.bool dt) ∧ w'.cell? ⟨g, o + (j + 1) * 7 + 5, none⟩ = some (.int .i64 tt) ∧ w'.cell? ⟨g, o + (j + 1) * 7 + 6, none⟩ = some (.int .i64 st))) (by kernel_rfl) ?_ (fun hHeld => ?_)
      · (((try dsimp only); (repeat' apply And.intro) <;> first | (go_keep; done) | (simp (disch := first | omega | (simp <;> omega) | fail) [*]; done) | fail))
      refine wpAnyH_take (i := 0) (by simp only [List.getElem?_toArray, List.getElem?_cons_zero]; rfl) (by kernel_rfl) (by kernel_rfl) (by kernel_rfl) (by intro _ _ _ h; exact h) (Or.inl ⟨by rfl, fun w hSw => by (dsimp only at hSw; go_simp; (try with_reducible rfl))⟩) (by assumption) ?_
      simp only [Act.put, List.setIfInBounds_toArray, List.set_cons_zero, List.set_cons_succ]
      refine wpAnyH_take (i := 1) (by simp only [List.getElem?_toArray, List.getElem?_cons_zero, List.getElem?_cons_succ]; rfl) (by kernel_rfl) (by kernel_rfl) (by kernel_rfl) (by intro _ _ _ h; exact h) (Or.inl ⟨by rfl, fun w hSw => by (dsimp only at hSw; go_simp; (try with_reducible rfl))⟩) (by assumption) ?_
      simp only [Act.put, List.setIfInBounds_toArray, List.set_cons_zero, List.set_cons_succ]
      refine wpAnyH_take (i := 2) (by simp only [List.getElem?_toArray, List.getElem?_cons_zero, List.getElem?_cons_succ]; rfl) (by kernel_rfl) (by kernel_rfl) (by kernel_rfl) (by intro _ _ _ h; exact h) (Or.inl ⟨by rfl, fun w hSw => by (dsimp only at hSw; go_simp; (try with_reducible rfl))⟩) (by assumption) ?_
      simp only [Act.put, List.setIfInBounds_toArray, List.set_cons_zero, List.set_cons_succ]
      refine wpAnyH_take (i := 3) (by simp only [List.getElem?_toArray, List.getElem?_cons_zero, List.getElem?_cons_succ]; rfl) (by kernel_rfl) (by kernel_rfl) (by kernel_rfl) (by intro _ _ _ h; exact h) (Or.inl ⟨by rfl, fun w hSw => by (dsimp only at hSw; go_simp; (try with_reducible rfl))⟩) (by assumption) ?_
      simp only [Act.put, List.setIfInBounds_toArray, List.set_cons_zero, List.set_cons_succ]
      refine wpAnyH_take (i := 4) (by simp only [List.getElem?_toArray, List.getElem?_cons_zero, List.getElem?_cons_succ]; rfl) (by kernel_rfl) (by kernel_rfl) (by kernel_rfl) (by intro _ _ _ h; exact h) (Or.inl ⟨by rfl, fun w hSw => by (dsimp only at hSw; go_simp; (try with_reducible rfl))⟩) (by assumption) ?_
      simp only [Act.put, List.setIfInBounds_toArray, List.set_cons_zero, List.set_cons_succ]
      refine wpAnyH_take (i := 5) (by simp only [List.getElem?_toArray, List.getElem?_cons_zero, List.getElem?_cons_succ]; rfl) (by kernel_rfl) (by kernel_rfl) (by kernel_rfl) (by intro _ _ _ h; exact h) (Or.inl ⟨by rfl, fun w hSw => by (dsimp only at hSw; go_simp; (try with_reducible rfl))⟩) (by assumption) ?_
      simp only [Act.put, List.setIfInBounds_toArray, List.set_cons_zero, List.set_cons_succ]
      refine wpAnyH_take (i := 6) (by simp only [List.getElem?_toArray, List.getElem?_cons_zero, List.getElem?_cons_succ]; rfl) (by kernel_rfl) (by kernel_rfl) (by kernel_rfl) (by intro _ _ _ h; exact h) (Or.inl ⟨by rfl, fun w hSw => by (dsimp only at hSw; go_simp; (try with_reducible rfl))⟩) (by assumption) ?_
      simp only [Act.put, List.setIfInBounds_toArray, List.set_cons_zero, List.set_cons_succ]
      refine wpAnyH_take (i := 7) (by simp only [List.getElem?_toArray, List.getElem?_cons_zero, List.getElem?_cons_succ]; rfl) (by kernel_rfl) (by kernel_rfl) (by kernel_rfl) (by intro _ _ _ h; exact h) (Or.inl ⟨by rfl, fun w hSw => by (dsimp only at hSw; go_simp; (try with_reducible rfl))⟩) (by assumption) ?_
      simp only [Act.put, List.setIfInBounds_toArray, List.set_cons_zero, List.set_cons_succ]
      refine wpAnyH_take (i := 8) (by simp only [List.getElem?_toArray, List.getElem?_cons_zero, List.getElem?_cons_succ]; rfl) (by kernel_rfl) (by kernel_rfl) (by kernel_rfl) (by intro _ _ _ h; exact h) (Or.inl ⟨by rfl, fun w hSw => by (dsimp only at hSw; go_simp; (try with_reducible rfl))⟩) (by assumption) ?_
      simp only [Act.put, List.setIfInBounds_toArray, List.set_cons_zero, List.set_cons_succ]
      refine wpAnyH_take (i := 9) (by simp only [List.getElem?_toArray, List.getElem?_cons_zero, List.getElem?_cons_succ]; rfl) (by kernel_rfl) (by kernel_rfl) (by kernel_rfl) (by intro _ _ _ h; exact h) (Or.inl ⟨by rfl, fun w hSw => by (dsimp only at hSw; go_simp; (try with_reducible rfl))⟩) (by assumption) ?_
      simp only [Act.put, List.setIfInBounds_toArray, List.set_cons_zero, List.set_cons_succ]
      refine wpAnyH_ready (rs := [10]) (by kernel_rfl) (by simp) ?_
      refine AllReadyH.cons (by simp only [List.getElem?_toArray, List.getElem?_cons_zero, List.getElem?_cons_succ]; rfl) ?_ AllReadyH.nil
      intro K hK
      go_simp
      refine (HCB.out _ ((Below.refl _ _).drew)).mono ?_
      rintro e w3 ⟨v, b, rfl, hb3, hno, hyes⟩
      replace hb3 := undrew hb3
      have key : ∀ b o, b < wr.heap.size → w3.cell? ⟨b, o, none⟩ = wr.cell? ⟨b, o, none⟩ := (bcell hb3).1
      have c0 := (key _ _ hg).trans c0
      have c1 := (key _ _ hg).trans c1
      have c2 := (key _ _ hg).trans c2
      have c3 := (key _ _ hg).trans c3
      have c4 := (key _ _ hg).trans c4
      have c5 := (key _ _ hg).trans c5
      have c6 := (key _ _ hg).trans c6
      have d0 := (key _ _ hg).trans d0
      have d1 := (key _ _ hg).trans d1
      have d2 := (key _ _ hg).trans d2
      have d3 := (key _ _ hg).trans d3
      have d4 := (key _ _ hg).trans d4
      have d5 := (key _ _ hg).trans d5
      have d6 := (key _ _ hg).trans d6
      clear hHeld key
      have HNO : Hid (b = false → r (⟨kd, nm, N, S, dn, ct, sk⟩, (⟨na, nc, sa, sc⟩ : HAd)).1 (⟨kt, mt, M, R, dt, tt, st⟩, (⟨ma, mc, ra, rc⟩ : HAd)).1 = none) := hno
      clear hno
      dsimp only
      refine hK.out _ _ ?_ (fun hHeld => ?_)
      · (((try dsimp only); (repeat' apply And.intro) <;> first | assumption | (simp (disch := first | omega | (simp <;> omega) | fail) [*]; done) | fail))
      clear hK K
      try simp only [Act.put, List.setIfInBounds_toArray, List.set_cons_zero, List.set_cons_succ]
      refine wpAnyH_take (i := 11) (by simp only [List.getElem?_toArray, List.getElem?_cons_zero, List.getElem?_cons_succ]; rfl) (by kernel_rfl) (by kernel_rfl) (by kernel_rfl) (by intro _ _ _ h; exact h) (Or.inl ⟨by rfl, fun w hSw => by (dsimp only at hSw; go_simp; (try with_reducible rfl))⟩) (by assumption) ?_
      simp only [Act.put, List.setIfInBounds_toArray, List.set_cons_zero, List.set_cons_succ]
      refine wpAnyH_take (i := 12) (by simp only [List.getElem?_toArray, List.getElem?_cons_zero, List.getElem?_cons_succ]; rfl) (by kernel_rfl) (by kernel_rfl) (by kernel_rfl) (by intro _ _ _ h; exact h) (Or.inl ⟨by rfl, fun w hSw => by (dsimp only at hSw; go_simp; (try with_reducible rfl))⟩) (by assumption) ?_
      simp only [Act.put, List.setIfInBounds_toArray, List.set_cons_zero, List.set_cons_succ]
      refine wpAnyH_take (i := 13) (by simp only [List.getElem?_toArray, List.getElem?_cons_zero, List.getElem?_cons_succ]; rfl) (by kernel_rfl) (by kernel_rfl) (by kernel_rfl) (by intro _ _ _ h; exact h) (Or.inl ⟨by rfl, fun w hSw => by (dsimp only at hSw; go_simp; (try with_reducible rfl))⟩) (by assumption) ?_
      simp only [Act.put, List.setIfInBounds_toArray, List.set_cons_zero, List.set_cons_succ]
      refine wpAnyH_take (i := 14) (by simp only [List.getElem?_toArray, List.getElem?_cons_zero, List.getElem?_cons_succ]; rfl) (by kernel_rfl) (by kernel_rfl) (by kernel_rfl) (by intro _ _ _ h; exact h) (Or.inl ⟨by rfl, fun w hSw => by (dsimp only at hSw; go_simp; (try with_reducible rfl))⟩) (by assumption) ?_
      simp only [Act.put, List.setIfInBounds_toArray, List.set_cons_zero, List.set_cons_succ]
      refine wpAnyH_take (i := 15) (by simp only [List.getElem?_toArray, List.getElem?_cons_zero, List.getElem?_cons_succ]; rfl) (by kernel_rfl) (by kernel_rfl) (by kernel_rfl) (by intro _ _ _ h; exact h) (Or.inl ⟨by rfl, fun w hSw => by (dsimp only at hSw; go_simp; (try with_reducible rfl))⟩) (by assumption) ?_
      simp only [Act.put, List.setIfInBounds_toArray, List.set_cons_zero, List.set_cons_succ]
      refine wpAnyH_done (by kernel_rfl) ?_ _
      clear hHeld c0 c1 c2 c3 c4 c5 c6 d0 d1 d2 d3 d4 d5 d6
      cases b
      · have hp : r P[j].1 P[j + 1].1 = none := by rw [HXQ.out, HYQ.out]; exact HNO.out rfl
        have HNX : Hid (∀ i (h : i + 1 < (P.map Prod.fst).length), i < j + 1 → r ((P.map Prod.fst)[i]'(by omega)) (P.map Prod.fst)[i + 1] = none) := by
          have h : ∀ i (h : i + 1 < (P.map Prod.fst).length), i < j + 1 → r ((P.map Prod.fst)[i]'(by omega)) (P.map Prod.fst)[i + 1] = none := by
            intro i h hi
            by_cases e : i = j
            · subst e
              simpa using hp
            · exact hNo.out i h (by omega)
          exact h
        have HB3 := chain hbw hb3
        clear hp hyes HNO hb3
        go_wp2
        go_roundw
        case rel => exact ⟨j + 1, by omega, by go_num, HNX.out, HB3⟩
        case measure => simp [intOf]; omega
      · obtain ⟨gx, m, cx, X, rfl, hXl, hm0, hm2, hgx, hcel, hXok, hrX⟩ := hyes rfl
        have HX : Hid (X.length = m ∧ gx < w3.heap.size ∧ (∀ j u, (hvS X)[j]? = some u → w3.cell? ⟨gx, j, none⟩ = some u) ∧ (∀ x ∈ X, HeadOk w3 Ok x) ∧ r P[j].1 P[j + 1].1 = some (X.map Prod.fst)) := by
          have h : X.length = m ∧ gx < w3.heap.size ∧ (∀ j u, (hvS X)[j]? = some u → w3.cell? ⟨gx, j, none⟩ = some u) ∧ (∀ x ∈ X, HeadOk w3 Ok x) ∧ r P[j].1 P[j + 1].1 = some (X.map Prod.fst) := ⟨hXl, hgx, hcel, hXok, by rw [HXQ.out, HYQ.out]; exact hrX⟩
          exact h
        have HRW : Hid (HeadsIn w3 (some ⟨g, o, none⟩) P) := (HR.out.below hbw).below hb3
        have HB3 : Hid (Below w.heap.size w w3) := chain hbw hb3
        have hj1 : (j : Int) ≤ (cap : Int) := by omega
        have hj2 : (j : Int) + 1 + 1 ≤ (n : Int) := by omega
        have hj3 : ((j : Int) + 1 + 1).toNat = j + 2 := by omega
        have hj4 : (n : Int) ≤ (cap : Int) := by omega
        have hj5 : (0 : Int) ≤ (j : Int) + 1 + 1 := by omega
        clear hyes hXl hgx hcel hXok hrX hb3 HCB HXQ HYQ HNO hg
        go_wp2_with fail
        refine wp_region_held_drew (S := fun _ => True) (by kernel_rfl) trivial (fun hHeld => ?_)
        refine wpAnyH_take (i := 0) (by simp only [List.getElem?_toArray, List.getElem?_cons_zero]; rfl) (by kernel_rfl) (by kernel_rfl) (by kernel_rfl) (by intro _ _ _ h; exact h) (Or.inl ⟨by rfl, fun w hSw => by (dsimp only at hSw; go_simp; (try with_reducible rfl))⟩) (by assumption) ?_
        simp only [Act.put, List.setIfInBounds_toArray, List.set_cons_zero, List.set_cons_succ]
        refine wpAnyH_take (i := 1) (by simp only [List.getElem?_toArray, List.getElem?_cons_zero, List.getElem?_cons_succ]; rfl) (by kernel_rfl) (by kernel_rfl) (by kernel_rfl) (by intro _ _ _ h; exact h) (Or.inl ⟨by rfl, fun w hSw => by (dsimp only at hSw; go_simp; (try with_reducible rfl))⟩) (by assumption) ?_
        simp only [Act.put, List.setIfInBounds_toArray, List.set_cons_zero, List.set_cons_succ]
        refine wpAnyH_take (i := 3) (by simp only [List.getElem?_toArray, List.getElem?_cons_zero, List.getElem?_cons_succ]; rfl) (by kernel_rfl) (by kernel_rfl) (by kernel_rfl) (by intro _ _ _ h; exact h) (Or.inl ⟨by rfl, fun w hSw => by (dsimp only at hSw; go_simp; (try with_reducible rfl))⟩) (by assumption) ?_
        simp only [Act.put, List.setIfInBounds_toArray, List.set_cons_zero, List.set_cons_succ]
        refine wpAnyH_take (i := 4) (by simp only [List.getElem?_toArray, List.getElem?_cons_zero, List.getElem?_cons_succ]; rfl) (by kernel_rfl) (by kernel_rfl) (by kernel_rfl) (by intro _ _ _ h; exact h) (Or.inl ⟨by rfl, fun w hSw => by (dsimp only at hSw; go_simp; (try with_reducible rfl))⟩) (by assumption) ?_
        simp only [Act.put, List.setIfInBounds_toArray, List.set_cons_zero, List.set_cons_succ]
        refine wpAnyH_take (i := 5) (by simp only [List.getElem?_toArray, List.getElem?_cons_zero, List.getElem?_cons_succ]; rfl) (by kernel_rfl) (by kernel_rfl) (by kernel_rfl) (by intro _ _ _ h; exact h) (Or.inl ⟨by rfl, fun w hSw => by (dsimp only at hSw; go_simp; (try with_reducible rfl))⟩) (by assumption) ?_
        simp only [Act.put, List.setIfInBounds_toArray, List.set_cons_zero, List.set_cons_succ]
        refine wpAnyH_take (i := 6) (by simp only [List.getElem?_toArray, List.getElem?_cons_zero, List.getElem?_cons_succ]; rfl) (by kernel_rfl) (by kernel_rfl) (by kernel_rfl) (by intro _ _ _ h; exact h) (Or.inl ⟨by rfl, fun w hSw => by (dsimp only at hSw; go_simp; (try with_reducible rfl))⟩) (by assumption) ?_
        simp only [Act.put, List.setIfInBounds_toArray, List.set_cons_zero, List.set_cons_succ]
        obtain ⟨sa43, hsa⟩ : ∃ z : Addr, (if cap = j + 2 then some (⟨g, o, none⟩ : Addr) else some ⟨g, o + (j + 2) * 7, none⟩) = some z := by
          by_cases e : cap = j + 2
          · exact ⟨_, if_pos e⟩
          · exact ⟨_, if_neg e⟩
        have HSA : Hid (cap ≠ j + 2 → sa43 = ⟨g, o + (j + 2) * 7, none⟩) := by
          have h : cap ≠ j + 2 → sa43 = ⟨g, o + (j + 2) * 7, none⟩ := fun e => by rw [if_neg e] at hsa; injection hsa with h; exact h.symm
          exact h
        rw [hsa]
        clear hsa
        refine wpAnyH_ready (rs := [2]) (by kernel_rfl) (by simp) ?_
        refine AllReadyH.cons (by simp only [List.getElem?_toArray, List.getElem?_cons_zero, List.getElem?_cons_succ]; rfl) ?_ AllReadyH.nil
        intro K hK
        rw [if_pos (by rfl)]
        refine grow_sivs (.tmp 37) (.tmp 38) rfl ⟨g, o, none⟩ j (P.take j) (by rw [List.length_take]; omega) rfl (fun i u hu => ?_) ⟨gx, 0, none⟩ m cx X rfl HX.out.1 (fun i u hu => ?_) hm0 (by omega) ?_
        · rw [addr_addS]
          exact HRW.out.cellsAt i u (hvS_take P j i u hu)
        · rw [addr_addS, Nat.zero_add]
          exact HX.out.2.2.1 i u hu
        intro g5 c5 w5 own5 grow5
        have OW5 : Hid (w5.ownsRow w3.heap.size 38 7 (.slice (some ⟨g5, 0, none⟩) (j + m) c5) (j + m) (hvS (P.take j ++ X))) := own5
        have B35 : Below w3.heap.size w3 w5 := ((Below.refl w3.heap.size w3).drew).grown grow5 (Nat.le_refl _) (fun kk hkk => by cases hkk)
        clear own5 grow5
        refine hK.out _ _ trivial (fun hHeld => ?_)
        clear hK K
        try simp only [Act.put, List.setIfInBounds_toArray, List.set_cons_zero, List.set_cons_succ]
        refine wpAnyH_ready (rs := [7]) (by kernel_rfl) (by simp) ?_
        refine AllReadyH.cons (by simp only [List.getElem?_toArray, List.getElem?_cons_zero, List.getElem?_cons_succ]; rfl) ?_ AllReadyH.nil
        intro K hK
        rw [if_pos (by rfl)]
        refine app_sivs0 (.tmp 39) (.tmp 43) rfl B35.size _ (j + m) (P.take j ++ X) rfl OW5.out sa43 (n - (j + 2)) (cap - (j + 2)) (P.drop (j + 2)) rfl (by rw [List.length_drop, HN.out]) (fun i u hu => ?_) (by omega) (by omega) ?_
        · have hl := (List.getElem?_eq_some_iff.1 hu).1
          rw [hvS_length, List.length_drop, HN.out] at hl
          rw [HSA.out (by omega), addr_addS]
          have h := (HRW.out.below B35).cellsAt ((j + 2) * 7 + i) u (hvS_drop P (j + 2) i (by omega) u hu)
          rw [Nat.add_assoc]
          exact h
        intro g6 c6 w6 own6 grow6
        have B36 : Below w3.heap.size w3 w6 := B35.grown grow6 B35.size (fun kk hkk => (OW5.out.lt kk hkk).1)
        have fin : Hid (FstOut w Ok r (some ⟨g, o, none⟩) n cap P (.returned (.tuple #[.slice (some ⟨g6, 0, none⟩) (j + m + (n - (j + 2))) c6, .bool true])) w6) := by
          have h : FstOut w Ok r (some ⟨g, o, none⟩) n cap P (.returned (.tuple #[.slice (some ⟨g6, 0, none⟩) (j + m + (n - (j + 2))) c6, .bool true])) w6 := by
            obtain ⟨x1, x2, x3, x4, x5⟩ := HX.out
            have hl : (P.take j ++ X ++ P.drop (j + 2)).length = j + m + (n - (j + 2)) := by
              rw [List.length_append, List.length_append, List.length_take, List.length_drop, HN.out, x1, Nat.min_eq_left (by omega)]
            have hcc : j + m + (n - (j + 2)) ≤ c6 ∧ c6 ≤ maxLen := by
              rcases own6.2 with ⟨e, _⟩ | ⟨g', cap', cur, e, _, _, h1, h2, _⟩
              · cases e
              · cases e
                exact ⟨h1, h2⟩
            have hk : ∀ p ∈ P.take j ++ X ++ P.drop (j + 2), HeadOk w6 Ok p := by
              have hP : ∀ p ∈ P, HeadOk w6 Ok p := fun p hp => ⟨(HRW.out.siv p hp).below B36, HRW.out.nilI p hp, HO.out p hp⟩
              intro p hp
              rcases List.mem_append.1 hp with hp | hp
              · rcases List.mem_append.1 hp with hp | hp
                · exact hP p (List.mem_of_mem_take hp)
                · exact (x4 p hp).below B36
              · exact hP p (List.mem_of_mem_drop hp)
            refine ⟨chain HB3.out B36, .inr ⟨g6, _, c6, P.take j ++ X ++ P.drop (j + 2), ?_, rfl, hl, by omega, hcc.1, hcc.2, ⟨fun i hi => ⟨g6, 0, rfl, (own6.lt g6 rfl).2, fun q hq => ?_⟩, fun p hp => (hk p hp).siv, fun p hp => (hk p hp).nilI⟩, fun p hp => (hk p hp).ok⟩⟩
            · have hj' : j + 1 < (P.map Prod.fst).length := by rw [List.length_map]; exact hk1
              rw [rwStep_at j hj' (fun i hi => hNo.out i (by omega) hi) (X.map Prod.fst) (by simpa using x5)]
              simp only [List.map_append, List.map_take, List.map_drop]
            · rw [Nat.zero_add, own6.cellAt _ (by omega), hvS_at hi q hq]
          exact h
        clear own6 grow6 OW5 B35 B36 HX HRW HSA
        refine hK.out _ _ trivial (fun hHeld => ?_)
        clear hK K
        try simp only [Act.put, List.setIfInBounds_toArray, List.set_cons_zero, List.set_cons_succ]
        refine wpAnyH_take (i := 8) (by simp only [List.getElem?_toArray, List.getElem?_cons_zero, List.getElem?_cons_succ]; rfl) (by kernel_rfl) (by kernel_rfl) (by kernel_rfl) (by intro _ _ _ h; exact h) (Or.inl ⟨by rfl, fun w hSw => by (dsimp only at hSw; go_simp; (try with_reducible rfl))⟩) (by assumption) ?_
        simp only [Act.put, List.setIfInBounds_toArray, List.set_cons_zero, List.set_cons_succ]
        refine wpAnyH_take (i := 9) (by simp only [List.getElem?_toArray, List.getElem?_cons_zero, List.getElem?_cons_succ]; rfl) (by kernel_rfl) (by kernel_rfl) (by kernel_rfl) (by intro _ _ _ h; exact h) (Or.inl ⟨by rfl, fun w hSw => by (dsimp only at hSw; go_simp; (try with_reducible rfl))⟩) (by assumption) ?_
        simp only [Act.put, List.setIfInBounds_toArray, List.set_cons_zero, List.set_cons_succ]
        refine wpAnyH_done (by kernel_rfl) ?_ _
        go_wp2
        go_ret2
        exact fin.out
    · have hge : ¬ ((j : Int) + 1 < (n : Int)) := by omega
      have fin : Hid (FstOut w Ok r a n cap P (.returned (.tuple #[.slice a n cap, .bool false])) wr) := by
        have h : FstOut w Ok r a n cap P (.returned (.tuple #[.slice a n cap, .bool false])) wr := by
          refine ⟨hbw, .inl ⟨rwStep_none (fun i h => hNo.out i h ?_), rfl⟩⟩
          have := HN.out
          rw [List.length_map] at h
          omega
        exact h
      go_wp2
      go_ret2
      exact fin.out
end Go.Proofs.YtadbbkpillfjaaaGreatDoor
