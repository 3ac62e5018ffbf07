/-
  A part of the proof: SpB2, DrB1.
-/
import Derived.Test.YteamdmcgkpeelabGreatDoorPart12
import Derived.Test.YteamdmcgkpeelabGreatDoorPart15
import Derived.Test.YteamdmcgkpeelabGreatDoorPart10
import Derived.Lib.ConvBytes

/-
  Rows of tables' heads, put one behind the other; and the contract of the model's Dropped.
-/
namespace Go.Proofs.YteamdmcgkpeelabGreatDoor
open Go.ChangeShapes Go.WideShapes Go.ChangeAt Go.RowKit
attribute [local go_sem ↓] Go.wp_at_zero Go.wp_at_succ
attribute [local simp] World.cell?_alloc_past World.cell?_alloc_at World.frozen?_alloc_at cell_far cell_off cell_here World.frozen?_alloc_past

/-- The heads of tables with where their lists lie. -/
def hvP (P : List (TB × TAd)) : List Value := P.flatMap (fun p => headV p.1 p.2)
theorem hvP_append (P R : List (TB × TAd)) : hvP (P ++ R) = hvP P ++ hvP R := by simp [hvP]
theorem hvP_length (P : List (TB × TAd)) : (hvP P).length = P.length * 3 := by
  induction P with
  | nil => rfl
  | cons p P ih => rw [show p :: P = [p] ++ P from rfl, hvP_append, List.length_append, ih]; simp [hvP, headV]; omega
def pairsT (T : List TB) (Q : Nat → TAd) (n : Nat) : List (TB × TAd) := (List.range n).map (fun i => (T.getD i zeroTB, Q i))
theorem pairsT_length (T : List TB) (Q : Nat → TAd) (n : Nat) : (pairsT T Q n).length = n := by simp [pairsT]
theorem hvP_pairs (T : List TB) (Q : Nat → TAd) (n : Nat) : hvP (pairsT T Q n) = tabsV T Q n := by
  induction n with
  | zero => rfl
  | succ n ih =>
    rw [pairsT, List.range_succ, List.map_append, hvP_append]
    rw [show hvP ((List.range n).map (fun i => (T.getD i zeroTB, Q i))) = tabsV T Q n from ih, tabsV]
    simp [hvP]
theorem pairsT_fst (T : List TB) (Q : Nat → TAd) : (pairsT T Q T.length).map Prod.fst = T := by
  refine List.ext_getElem (by simp [pairsT]) fun i h1 h2 => ?_
  simp only [pairsT, List.getElem_map, List.getElem_range]
  exact getD_tb h2
theorem hvP_at {P : List (TB × TAd)} {i : Nat} (h : i < P.length) (j : Nat) (hj : j < 3) : (hvP P)[i * 3 + j]? = (headV P[i].1 P[i].2)[j]? := by
  have e : P = P.take i ++ P[i] :: P.drop (i + 1) := by rw [← List.drop_eq_getElem_cons (by assumption), List.take_append_drop]
  have e2 : hvP P = hvP (P.take i) ++ (headV P[i].1 P[i].2 ++ hvP (P.drop (i + 1))) := by
    conv => lhs; rw [e, hvP_append, show P[i] :: P.drop (i + 1) = [P[i]] ++ P.drop (i + 1) from rfl, hvP_append]
    congr 2
    try simp [hvP]
  have hl : (hvP (P.take i)).length = i * 3 := by rw [hvP_length, List.length_take, Nat.min_eq_left (by omega)]
  rw [e2, List.getElem?_append_right (by omega), hl, show i * 3 + j - i * 3 = j by omega, List.getElem?_append_left (by simp [headV]; omega)]
theorem hvP_one {P : List (TB × TAd)} {u : Value} (hu : u ∈ hvP P) : u.oneCell' = true := by
  unfold hvP at hu
  obtain ⟨p, _, hp⟩ := List.mem_flatMap.1 hu
  unfold headV at hp
  simp at hp
  rcases hp with rfl | rfl | rfl <;> rfl
theorem hvP_take (P : List (TB × TAd)) (k j : Nat) (u : Value) (h : (hvP (P.take k))[j]? = some u) : (hvP P)[j]? = some u := by
  conv => lhs; rw [← List.take_append_drop k P, hvP_append]
  rw [List.getElem?_append_left (List.getElem?_eq_some_iff.1 h).1]; exact h
theorem hvP_drop (P : List (TB × TAd)) (k j : Nat) (hk : k ≤ P.length) (u : Value) (h : (hvP (P.drop k))[j]? = some u) : (hvP P)[k * 3 + j]? = some u := by
  conv => lhs; rw [← List.take_append_drop k P, hvP_append]
  have hl : (hvP (P.take k)).length = k * 3 := by rw [hvP_length, List.length_take, Nat.min_eq_left hk]
  rw [List.getElem?_append_right (by omega), hl, show k * 3 + j - k * 3 = j by omega]; exact h
theorem addr_add (g o q : Nat) : ((⟨g, o, none⟩ : Addr).add q) = ⟨g, o + q, none⟩ := by
  unfold Addr.add
  by_cases hq : q = 0 <;> simp [hq]
theorem row_tabs {w : World} {base n : Nat} {v : Value} {P : List (TB × TAd)} (h : w.ownsRow base 35 3 v n (hvP P)) (hn : P.length = n) (ht : ∀ p, p ∈ P → TabAt w p.2.ca p.2.cc p.2.ra p.1) : ∃ a cap, v = .slice a n cap ∧ TabsAt w a (P.map Prod.fst) ∧ n ≤ cap := by
  subst hn
  rcases h.2 with ⟨e, h0⟩ | ⟨g, cap, cur, e, hbg, hg, hc, _⟩
  · have hV : P = [] := List.eq_nil_of_length_eq_zero h0
    subst hV
    exact ⟨none, 0, e, fun i hi => by simp at hi, Nat.le_refl _⟩
  · subst e
    refine ⟨some ⟨g, 0, none⟩, cap, rfl, fun i hi => ?_, hc⟩
    have hi' : i < P.length := by simpa using hi
    have cel : ∀ j, j < 3 → w.cell? ⟨g, i * 3 + j, none⟩ = (headV P[i].1 P[i].2)[j]? := by
      intro j hj
      rw [h.cellAt _ (by omega), hvP_at hi' j hj]
    have hf : (P.map Prod.fst)[i] = P[i].1 := by simp
    rw [hf]
    refine ⟨g, 0, P[i].2.ca, P[i].2.cc, P[i].2.ra, P[i].2.cr, rfl, (h.lt g rfl).2, ?_, ?_, ?_, ht _ (List.getElem_mem hi')⟩
    · rw [Nat.zero_add]; exact cel 0 (by omega)
    · rw [Nat.zero_add]; exact cel 1 (by omega)
    · rw [Nat.zero_add]; exact cel 2 (by omega)
/-- Heads put behind heads, in a row of one's own. -/
theorem app_tabs {B : Nat} {w : World} {o : Oper} {a : Act} {K : Act → World → Prop} {Q : Exit → Act → World → Prop} (s x : Operand)
    (ho : o.op = .call { callee := .builtin .append, args := #[s, x], argTypes := #[24, 24] })
    (hB : B ≤ w.heap.size) (v : Value) (n : Nat) (P1 : List (TB × TAd)) (hs : a.eval s = v) (own : w.ownsRow B 35 3 v n (hvP P1))
    (ad : Addr) (m k : Nat) (P2 : List (TB × TAd)) (hx : a.eval x = .slice (some ad) m k) (hm : P2.length = m) (hcells : ∀ j u, (hvP P2)[j]? = some u → w.cell? (ad.add j) = some u)
    (hsz : n + m ≤ 4096)
    (h : ∀ v' w', w'.ownsRow B 35 3 v' (n + m) (hvP (P1 ++ P2)) → Below B w w' → (v' = .slice none 0 0 → v = .slice none 0 0) → K (a.put o.dst v') w') : o.wp Tryz.prog a w K Q := by
  obtain ⟨i0, hi, hz0, hz1, hz2⟩ := info_parts infoTS
  refine wp_append_own w s x 24 ho B 35 i0 (.agg #[.string ⟨#[]⟩, .slice none 0 0, .slice none 0 0]) 3 64 Tryz.underlying24 hi hz0 hz1 hz2 rfl (by decide) v n (hvP P1) hs own ad m k (hvP P2) hx (by rw [hvP_length, hm]) hcells (fun u hu => hvP_one hu) (by unfold maxLen; omega) (by omega) hB ?_
  intro v' w' own' hg hnn
  refine h v' w' ?_ ((Below.refl B w).grown hg hB (fun q hq => (own.lt q hq).1)) (fun e => (hnn.1 e).1)
  rw [hvP_append]
  exact own'
theorem src_take {w w' : World} {base g n c : Nat} {P : List (TB × TAd)} (h : w.ownsRow base 35 3 (.slice (some ⟨g, 0, none⟩) n c) n (hvP P)) (hb : Below w.heap.size w w') (k : Nat) : ∀ j u, (hvP (P.take k))[j]? = some u → w'.cell? ((⟨g, 0, none⟩ : Addr).add j) = some u := by
  intro j u hu
  have h1 := hvP_take P k j u hu
  have hj : j < n * 3 := by have := (List.getElem?_eq_some_iff.1 h1).1; have := h.1; omega
  rw [addr_add, Nat.zero_add, hb.cell (p := ⟨g, j, none⟩) (h.lt g rfl).2, h.cellAt j hj]; exact h1
theorem src_drop {w w' : World} {base g n c : Nat} {P : List (TB × TAd)} (h : w.ownsRow base 35 3 (.slice (some ⟨g, 0, none⟩) n c) n (hvP P)) (hb : Below w.heap.size w w') (k : Nat) (hk : k ≤ P.length) : ∀ j u, (hvP (P.drop k))[j]? = some u → w'.cell? ((⟨g, k * 3, none⟩ : Addr).add j) = some u := by
  intro j u hu
  have h1 := hvP_drop P k j hk u hu
  have hj : k * 3 + j < n * 3 := by have := (List.getElem?_eq_some_iff.1 h1).1; have := h.1; omega
  rw [addr_add, hb.cell (p := ⟨g, _, none⟩) (h.lt g rfl).2, h.cellAt _ hj]; exact h1
/-- A list of tables that lies there, and a truth. -/
def PairAt (w : World) (V : List TB) (b : Bool) (e : Ending) (w' : World) : Prop := ∃ a n cap, V.length = n ∧ e = .returned (.tuple #[.slice a n cap, .bool b]) ∧ TabsAt w' a V ∧ Below w.heap.size w w'
theorem small_s {t : TB} (h : tableB t = true) : SmallS t := tableB_small h

theorem dropT_at {T : List TB} {s : ByteArray} (hr : risesN (namesT T) = true) {k : Nat} (hk : k < T.length) (he : T[k].1 = s) : dropT T s = T.take k ++ T.drop (k + 1) := by
  have hp := (rises_pair T).1 hr
  have e : T = T.take k ++ T[k] :: T.drop (k + 1) := by rw [← List.drop_eq_getElem_cons (by assumption), List.take_append_drop]
  rw [e] at hp
  obtain ⟨_, h2, h3⟩ := List.pairwise_append.1 hp
  obtain ⟨h4, _⟩ := List.pairwise_cons.1 h2
  unfold dropT
  conv => lhs; rw [e]
  rw [List.filter_append, List.filter_cons, if_neg (by simp [he])]
  congr 1
  · rw [List.filter_eq_self]
    intro u hu
    have hlt := h3 u hu T[k] List.mem_cons_self
    simp only [decide_eq_true_eq]
    intro e2
    unfold ltN at hlt
    rw [e2, he, bl_irr] at hlt
    cases hlt
  · rw [List.filter_eq_self]
    intro u hu
    have hlt := h4 u hu
    simp only [decide_eq_true_eq]
    intro e2
    unfold ltN at hlt
    rw [e2, he, bl_irr] at hlt
    cases hlt
set_option maxRecDepth 100000 in
set_option maxHeartbeats 4000000 in
theorem dropped_spec (a : Option Addr) (cap : Nat) (T : List TB) (n : Nat) (hn : T.length = n) (s : ByteArray) (w : World) (hrow : TabsAt w a T) (hm : n ≤ 1048576) (V : List TB) (r : Bool) (hV : droppedR T s = (V, r)) :
    Calls Tryz.prog 18 #[.slice a n cap, .string s] w (PairAt w V r) := by
  obtain ⟨b, hb⟩ : ∃ b, baseB T = b := ⟨_, rfl⟩
  have HR : Hid (TabsAt w a T) := hrow
  have HN : Hid (T.length = n) := hn
  have HB : Hid (baseB T = b) := hb
  have hmL : n ≤ maxLen := by unfold maxLen; omega
  unfold droppedR at hV
  rw [hb] at hV
  clear hrow hn
  cases b
  · rw [if_neg (by simp)] at hV
    obtain ⟨rfl, rfl⟩ : [] = V ∧ false = r := by simpa using hV
    clear hV hb
    go_enter Tryz.func18, Tryz.ntmps18
    go_wp2_with fail
    refine (base_spec a cap T n HN.out _ HR.out hmL false HB.out).mono ?_
    rintro e w1 ⟨rfl, hb1⟩
    have FIN : Hid (PairAt w [] false (.returned (.tuple #[.slice (some ⟨w1.heap.size, 0, none⟩) 0 0, .bool false])) (w1.alloc (.cells #[] 35))) := ⟨_, 0, 0, rfl, rfl, fun i hi => by simp at hi, hb1.alloc hb1.size _⟩
    go_wp2
    exact bodyPost_ret (v := .tuple #[.slice (some ⟨w1.heap.size, 0, none⟩) 0 0, .bool false]) (by simp [results, Tryz.results18, go_sem]) rfl FIN.out
  rw [if_pos rfl] at hV
  obtain ⟨p1, p2, p3⟩ := baseB_parts hb
  have HSM : Hid (∀ t, t ∈ T → SmallS t) := by
    have : ∀ t, t ∈ T → SmallS t := fun t ht => small_s (p1 t ht)
    exact this
  have HRI : Hid (risesN (namesT T) = true) := p2
  have hn5 : n ≤ 5 := by rw [← HN.out]; exact p3
  have HV : Hid (dropT T s = V ∧ decide (s ∈ namesT T) = r) := by
    have : dropT T s = V ∧ decide (s ∈ namesT T) = r := by simpa using hV
    exact this
  clear hV hb p1 p2 p3
  go_enter Tryz.func18, Tryz.ntmps18
  go_wp2_with fail
  refine (base_spec a cap T n HN.out _ HR.out hmL true HB.out).mono ?_
  rintro e w1 ⟨rfl, hb1⟩
  go_wp2_with fail
  refine (find_spec a cap T n HN.out s _ (HR.out.below hb1) hmL).mono ?_
  rintro e w2 ⟨z, rfl, hz, hb2⟩
  have hx2 := chain hb1 hb2
  clear hb1 hb2
  rcases hz with ⟨rfl, hno⟩ | ⟨k, hk, rfl, hke, _⟩
  · have hVT : T = V ∧ r = false := by
      obtain ⟨e1, e2⟩ := HV.out
      rw [decide_eq_false hno] at e2
      refine ⟨?_, e2.symm⟩
      rw [← e1]
      unfold dropT
      symm
      rw [List.filter_eq_self]
      intro u hu
      simp only [decide_eq_true_eq]
      intro e; exact hno (by rw [← e]; exact List.mem_map_of_mem hu)
    obtain ⟨rfl, rfl⟩ := hVT
    clear hno HV
    go_wp2_with fail
    refine (l6copy_spec a cap T n HN.out _ (HR.out.below hx2) hm HSM.out).mono ?_
    rintro e w3 ⟨g, c3, Q, rfl, _, hout, hb3, _⟩
    have FIN : Hid (PairAt w T false (.returned (.tuple #[.slice (some ⟨g, 0, none⟩) n c3, .bool false])) w3) := ⟨_, n, c3, HN.out, rfl, hout.lies, chain hx2 hb3⟩
    clear hout hb3
    go_wp2
    exact bodyPost_ret (v := .tuple #[.slice (some ⟨g, 0, none⟩) n c3, .bool false]) (by simp [results, Tryz.results18, go_sem]) rfl FIN.out
  rw [namesT_length] at hk
  rw [namesT_at T k hk] at hke
  have hkn : k < n := by rw [← HN.out]; exact hk
  have hVT : V = T.take k ++ T.drop (k + 1) ∧ r = true := by
    obtain ⟨e1, e2⟩ := HV.out
    rw [decide_eq_true (by rw [← hke]; exact List.mem_map_of_mem (List.getElem_mem hk))] at e2
    exact ⟨by rw [← e1]; exact dropT_at HRI.out hk hke, e2.symm⟩
  obtain ⟨hVT, rfl⟩ := hVT
  have HVT : Hid (V = T.take k ++ T.drop (k + 1)) := hVT
  clear hk hke HV hVT
  have hk0 : ¬ (k : Int) < 0 := by omega
  go_wp2_with fail
  refine (l6copy_spec a cap T n HN.out _ (HR.out.below hx2) hm HSM.out).mono ?_
  rintro e w3 ⟨g, c3, Q, rfl, hown, hout, hb3, hc3⟩
  have hx3 := chain hx2 hb3
  obtain ⟨P, hP⟩ : ∃ P, pairsT T Q n = P := ⟨_, rfl⟩
  have HOW : Hid (w3.ownsRow w2.heap.size 35 3 (.slice (some ⟨g, 0, none⟩) n c3) n (hvP P)) := by
    have : w3.ownsRow w2.heap.size 35 3 (.slice (some ⟨g, 0, none⟩) n c3) n (hvP P) := by rw [← hP, hvP_pairs]; exact hown
    exact this
  have HPL : Hid (P.length = n) := by
    have : P.length = n := by rw [← hP, pairsT_length]
    exact this
  have HPF : Hid (P.map Prod.fst = T) := by
    have : P.map Prod.fst = T := by rw [← hP, ← HN.out]; exact pairsT_fst T Q
    exact this
  have HPT : Hid (∀ p, p ∈ P → TabAt w3 p.2.ca p.2.cc p.2.ra p.1) := by
    have : ∀ p, p ∈ P → TabAt w3 p.2.ca p.2.cc p.2.ra p.1 := by
      intro p hp
      rw [← hP] at hp
      obtain ⟨i, hi, rfl⟩ := List.mem_map.1 hp
      have hi' : i < T.length := by rw [HN.out]; exact List.mem_range.1 hi
      dsimp only
      rw [getD_tb hi']
      exact (hout.tabs i hi' hi').tab
    exact this
  have hgw : g < w3.heap.size := (hown.lt g rfl).2
  clear hown hout hb3 hP hx2
  have z1 : (k : Int) ≤ (c3 : Int) := by omega
  have z2 : (k : Int) + 1 ≤ (n : Int) := by omega
  have z3 : IntKind.i64.wrap ((k : Int) + 1) = (k : Int) + 1 := by rw [IntKind.wrap_i64]; omega
  have z4 : 0 ≤ (k : Int) + 1 := by omega
  have z5 : ((k : Int) + 1).toNat = k + 1 := by omega
  have z6 : (0 : Int) ≤ (k : Int) := by omega
  have z7 : (n : Int) ≤ (c3 : Int) := by omega
  by_cases hcap : c3 = k + 1
  · subst hcap
    have z8 : (k : Int) ≤ (k : Int) + 1 := by omega
    have hnk : n = k + 1 := by omega
    have hnz : n - (k + 1) = 0 := by omega
    go_wp2_with fail
    refine wp_region_any (by kernel_rfl) (show wpAny _ _ _ _ _ _ _ w3.drew from ?_)
    refine wpAny_take (i := 1) (by simp only [List.getElem?_toArray, List.getElem?_cons_zero, List.getElem?_cons_succ]; rfl) (by kernel_rfl) (by kernel_rfl) (by kernel_rfl) (by intro _ _ _ h; exact h) (Or.inl ⟨by rfl, fun w => by (go_simp; (try with_reducible rfl))⟩) ?_
    simp only [Act.put, List.setIfInBounds_toArray, List.set_cons_zero, List.set_cons_succ]
    refine wpAny_take (i := 2) (by simp only [List.getElem?_toArray, List.getElem?_cons_zero, List.getElem?_cons_succ]; rfl) (by kernel_rfl) (by kernel_rfl) (by kernel_rfl) (by intro _ _ _ h; exact h) (Or.inl ⟨by rfl, fun w => by (go_simp; (try with_reducible rfl))⟩) ?_
    simp only [Act.put, List.setIfInBounds_toArray, List.set_cons_zero, List.set_cons_succ]
    refine wpAny_take (i := 3) (by simp only [List.getElem?_toArray, List.getElem?_cons_zero, List.getElem?_cons_succ]; rfl) (by kernel_rfl) (by kernel_rfl) (by kernel_rfl) (by intro _ _ _ h; exact h) (Or.inl ⟨by rfl, fun w => by (go_simp; (try with_reducible rfl))⟩) ?_
    simp only [Act.put, List.setIfInBounds_toArray, List.set_cons_zero, List.set_cons_succ]
    refine wpAny_take (i := 5) (by simp only [List.getElem?_toArray, List.getElem?_cons_zero, List.getElem?_cons_succ]; rfl) (by kernel_rfl) (by kernel_rfl) (by kernel_rfl) (by intro _ _ _ h; exact h) (Or.inl ⟨by rfl, fun w => by (go_simp; (try with_reducible rfl))⟩) ?_
    simp only [Act.put, List.setIfInBounds_toArray, List.set_cons_zero, List.set_cons_succ]
    refine wpAny_take (i := 6) (by simp only [List.getElem?_toArray, List.getElem?_cons_zero, List.getElem?_cons_succ]; rfl) (by kernel_rfl) (by kernel_rfl) (by kernel_rfl) (by intro _ _ _ h; exact h) (Or.inl ⟨by rfl, fun w => by (go_simp; (try with_reducible rfl))⟩) ?_
    simp only [Act.put, List.setIfInBounds_toArray, List.set_cons_zero, List.set_cons_succ]
    refine wpAny_take (i := 7) (by simp only [List.getElem?_toArray, List.getElem?_cons_zero, List.getElem?_cons_succ]; rfl) (by kernel_rfl) (by kernel_rfl) (by kernel_rfl) (by intro _ _ _ h; exact h) (Or.inl ⟨by rfl, fun w => by (go_simp; (try with_reducible rfl))⟩) ?_
    simp only [Act.put, List.setIfInBounds_toArray, List.set_cons_zero, List.set_cons_succ]
    refine wpAny_take (i := 8) (by simp only [List.getElem?_toArray, List.getElem?_cons_zero, List.getElem?_cons_succ]; rfl) (by kernel_rfl) (by kernel_rfl) (by kernel_rfl) (by intro _ _ _ h; exact h) (Or.inl ⟨by rfl, fun w => by (go_simp; (try with_reducible rfl))⟩) ?_
    simp only [Act.put, List.setIfInBounds_toArray, List.set_cons_zero, List.set_cons_succ]
    refine wpAny_ready (rs := [0]) (by kernel_rfl) (by simp) ?_
    refine AllReady.cons (by simp only [List.getElem?_toArray, List.getElem?_cons_zero]; rfl) ?_ AllReady.nil
    intro K hK
    go_simp
    refine hK _ _ ?_
    clear hK K
    try simp only [Act.put, List.setIfInBounds_toArray, List.set_cons_zero, List.set_cons_succ]
    refine wpAny_ready (rs := [4]) (by kernel_rfl) (by simp) ?_
    refine AllReady.cons (by simp only [List.getElem?_toArray, List.getElem?_cons_zero, List.getElem?_cons_succ]; rfl) ?_ AllReady.nil
    intro K hK
    rw [if_pos (by rfl)]
    have hbE : Below w3.heap.size w3 (w3.drew.alloc (.cells #[] 35)) := ((Below.refl _ _).drew).alloc (Nat.le_refl _) _
    refine app_tabs (B := w3.heap.size) _ _ rfl (by simp) (.slice (some ⟨w3.heap.size, 0, none⟩) 0 0) 0 [] rfl (own_emptyT w3.drew w3.heap.size (Nat.le_refl _)) ⟨g, 0, none⟩ k _ (P.take k) rfl (by rw [List.length_take, HPL.out]; omega) (src_take HOW.out hbE k) (by omega) ?_
    intro v1 wA ownA hbA0 _
    have hbA : Below w3.heap.size w3 wA := hbE.trans hbA0
    clear hbE hbA0
    rw [Nat.zero_add, List.nil_append] at ownA
    refine hK _ _ ?_
    clear hK K
    try simp only [Act.put, List.setIfInBounds_toArray, List.set_cons_zero, List.set_cons_succ]
    refine wpAny_ready (rs := [9]) (by kernel_rfl) (by simp) ?_
    refine AllReady.cons (by simp only [List.getElem?_toArray, List.getElem?_cons_zero, List.getElem?_cons_succ]; rfl) ?_ AllReady.nil
    intro K hK
    rw [if_pos (by rfl)]
    refine app_tabs (B := w3.heap.size) _ _ rfl hbA.size v1 k (P.take k) rfl ownA ⟨g, 0, none⟩ _ _ (P.drop (k + 1)) rfl (by rw [List.length_drop, HPL.out]; first | done | omega | (simp; done) | (simp; omega)) (fun j u hu => by rw [List.drop_of_length_le (by rw [HPL.out]; omega)] at hu; simp [hvP] at hu) (by omega) ?_
    intro v2 wB ownB hbB0 _
    have hbB : Below w3.heap.size w3 wB := hbA.trans hbB0
    obtain ⟨a5, c5, hv2, hT5, _⟩ := row_tabs ownB (by rw [List.length_append, List.length_take, List.length_drop, HPL.out]; omega) (fun p hp => (HPT.out p (by rcases List.mem_append.1 hp with hp | hp; exact List.mem_of_mem_take hp; exact List.mem_of_mem_drop hp)).below hbB)
    subst hv2
    have FIN : Hid (PairAt w V true (.returned (.tuple #[.slice a5 (k + (n - (k + 1))) c5, .bool true])) wB) := by
      refine ⟨a5, _, c5, ?_, rfl, ?_, chain hx3 hbB⟩
      · rw [HVT.out, List.length_append, List.length_take, List.length_drop, HN.out]; omega
      · rw [HVT.out, ← HPF.out, ← List.map_take, ← List.map_drop, ← List.map_append]; exact hT5
    clear ownA ownB hbA hbB0 hbB hT5
    refine hK _ _ ?_
    clear hK K
    try simp only [Act.put, List.setIfInBounds_toArray, List.set_cons_zero, List.set_cons_succ]
    refine wpAny_take (i := 10) (by simp only [List.getElem?_toArray, List.getElem?_cons_zero, List.getElem?_cons_succ]; rfl) (by kernel_rfl) (by kernel_rfl) (by kernel_rfl) (by intro _ _ _ h; exact h) (Or.inl ⟨by rfl, fun w => by (go_simp; (try with_reducible rfl))⟩) ?_
    simp only [Act.put, List.setIfInBounds_toArray, List.set_cons_zero, List.set_cons_succ]
    refine wpAny_take (i := 11) (by simp only [List.getElem?_toArray, List.getElem?_cons_zero, List.getElem?_cons_succ]; rfl) (by kernel_rfl) (by kernel_rfl) (by kernel_rfl) (by intro _ _ _ h; exact h) (Or.inl ⟨by rfl, fun w => by (go_simp; (try with_reducible rfl))⟩) ?_
    simp only [Act.put, List.setIfInBounds_toArray, List.set_cons_zero, List.set_cons_succ]
    refine wpAny_done (by kernel_rfl) ?_ _
    go_wp2
    exact bodyPost_ret (v := .tuple #[.slice a5 (k + (n - (k + 1))) c5, .bool true]) (by simp [results, Tryz.results18, go_sem, hnz]) rfl FIN.out
  · have z8 : (k : Int) + 1 ≤ (c3 : Int) := by omega
    go_wp2_with fail
    refine wp_region_any (by kernel_rfl) (show wpAny _ _ _ _ _ _ _ w3.drew from ?_)
    refine wpAny_take (i := 1) (by simp only [List.getElem?_toArray, List.getElem?_cons_zero, List.getElem?_cons_succ]; rfl) (by kernel_rfl) (by kernel_rfl) (by kernel_rfl) (by intro _ _ _ h; exact h) (Or.inl ⟨by rfl, fun w => by (go_simp; (try with_reducible rfl))⟩) ?_
    simp only [Act.put, List.setIfInBounds_toArray, List.set_cons_zero, List.set_cons_succ]
    refine wpAny_take (i := 2) (by simp only [List.getElem?_toArray, List.getElem?_cons_zero, List.getElem?_cons_succ]; rfl) (by kernel_rfl) (by kernel_rfl) (by kernel_rfl) (by intro _ _ _ h; exact h) (Or.inl ⟨by rfl, fun w => by (go_simp; (try with_reducible rfl))⟩) ?_
    simp only [Act.put, List.setIfInBounds_toArray, List.set_cons_zero, List.set_cons_succ]
    refine wpAny_take (i := 3) (by simp only [List.getElem?_toArray, List.getElem?_cons_zero, List.getElem?_cons_succ]; rfl) (by kernel_rfl) (by kernel_rfl) (by kernel_rfl) (by intro _ _ _ h; exact h) (Or.inl ⟨by rfl, fun w => by (go_simp; (try with_reducible rfl))⟩) ?_
    simp only [Act.put, List.setIfInBounds_toArray, List.set_cons_zero, List.set_cons_succ]
    refine wpAny_take (i := 5) (by simp only [List.getElem?_toArray, List.getElem?_cons_zero, List.getElem?_cons_succ]; rfl) (by kernel_rfl) (by kernel_rfl) (by kernel_rfl) (by intro _ _ _ h; exact h) (Or.inl ⟨by rfl, fun w => by (go_simp; (try with_reducible rfl))⟩) ?_
    simp only [Act.put, List.setIfInBounds_toArray, List.set_cons_zero, List.set_cons_succ]
    refine wpAny_take (i := 6) (by simp only [List.getElem?_toArray, List.getElem?_cons_zero, List.getElem?_cons_succ]; rfl) (by kernel_rfl) (by kernel_rfl) (by kernel_rfl) (by intro _ _ _ h; exact h) (Or.inl ⟨by rfl, fun w => by (go_simp; (try with_reducible rfl))⟩) ?_
    simp only [Act.put, List.setIfInBounds_toArray, List.set_cons_zero, List.set_cons_succ]
    refine wpAny_take (i := 7) (by simp only [List.getElem?_toArray, List.getElem?_cons_zero, List.getElem?_cons_succ]; rfl) (by kernel_rfl) (by kernel_rfl) (by kernel_rfl) (by intro _ _ _ h; exact h) (Or.inl ⟨by rfl, fun w => by (go_simp; (try with_reducible rfl))⟩) ?_
    simp only [Act.put, List.setIfInBounds_toArray, List.set_cons_zero, List.set_cons_succ]
    refine wpAny_take (i := 8) (by simp only [List.getElem?_toArray, List.getElem?_cons_zero, List.getElem?_cons_succ]; rfl) (by kernel_rfl) (by kernel_rfl) (by kernel_rfl) (by intro _ _ _ h; exact h) (Or.inl ⟨by rfl, fun w => by (go_simp; (try with_reducible rfl))⟩) ?_
    simp only [Act.put, List.setIfInBounds_toArray, List.set_cons_zero, List.set_cons_succ]
    refine wpAny_ready (rs := [0]) (by kernel_rfl) (by simp) ?_
    refine AllReady.cons (by simp only [List.getElem?_toArray, List.getElem?_cons_zero]; rfl) ?_ AllReady.nil
    intro K hK
    go_simp
    refine hK _ _ ?_
    clear hK K
    try simp only [Act.put, List.setIfInBounds_toArray, List.set_cons_zero, List.set_cons_succ]
    refine wpAny_ready (rs := [4]) (by kernel_rfl) (by simp) ?_
    refine AllReady.cons (by simp only [List.getElem?_toArray, List.getElem?_cons_zero, List.getElem?_cons_succ]; rfl) ?_ AllReady.nil
    intro K hK
    rw [if_pos (by rfl)]
    have hbE : Below w3.heap.size w3 (w3.drew.alloc (.cells #[] 35)) := ((Below.refl _ _).drew).alloc (Nat.le_refl _) _
    refine app_tabs (B := w3.heap.size) _ _ rfl (by simp) (.slice (some ⟨w3.heap.size, 0, none⟩) 0 0) 0 [] rfl (own_emptyT w3.drew w3.heap.size (Nat.le_refl _)) ⟨g, 0, none⟩ k _ (P.take k) rfl (by rw [List.length_take, HPL.out]; omega) (src_take HOW.out hbE k) (by omega) ?_
    intro v1 wA ownA hbA0 _
    have hbA : Below w3.heap.size w3 wA := hbE.trans hbA0
    clear hbE hbA0
    rw [Nat.zero_add, List.nil_append] at ownA
    refine hK _ _ ?_
    clear hK K
    try simp only [Act.put, List.setIfInBounds_toArray, List.set_cons_zero, List.set_cons_succ]
    refine wpAny_ready (rs := [9]) (by kernel_rfl) (by simp) ?_
    refine AllReady.cons (by simp only [List.getElem?_toArray, List.getElem?_cons_zero, List.getElem?_cons_succ]; rfl) ?_ AllReady.nil
    intro K hK
    rw [if_pos (by rfl)]
    refine app_tabs (B := w3.heap.size) _ _ rfl hbA.size v1 k (P.take k) rfl ownA ⟨g, (k + 1) * 3, none⟩ _ _ (P.drop (k + 1)) rfl (by rw [List.length_drop, HPL.out]; first | done | omega | (simp; done) | (simp; omega)) (src_drop HOW.out hbA (k + 1) (by rw [HPL.out]; omega)) (by omega) ?_
    intro v2 wB ownB hbB0 _
    have hbB : Below w3.heap.size w3 wB := hbA.trans hbB0
    obtain ⟨a5, c5, hv2, hT5, _⟩ := row_tabs ownB (by rw [List.length_append, List.length_take, List.length_drop, HPL.out]; omega) (fun p hp => (HPT.out p (by rcases List.mem_append.1 hp with hp | hp; exact List.mem_of_mem_take hp; exact List.mem_of_mem_drop hp)).below hbB)
    subst hv2
    have FIN : Hid (PairAt w V true (.returned (.tuple #[.slice a5 (k + (n - (k + 1))) c5, .bool true])) wB) := by
      refine ⟨a5, _, c5, ?_, rfl, ?_, chain hx3 hbB⟩
      · rw [HVT.out, List.length_append, List.length_take, List.length_drop, HN.out]; omega
      · rw [HVT.out, ← HPF.out, ← List.map_take, ← List.map_drop, ← List.map_append]; exact hT5
    clear ownA ownB hbA hbB0 hbB hT5
    refine hK _ _ ?_
    clear hK K
    try simp only [Act.put, List.setIfInBounds_toArray, List.set_cons_zero, List.set_cons_succ]
    refine wpAny_take (i := 10) (by simp only [List.getElem?_toArray, List.getElem?_cons_zero, List.getElem?_cons_succ]; rfl) (by kernel_rfl) (by kernel_rfl) (by kernel_rfl) (by intro _ _ _ h; exact h) (Or.inl ⟨by rfl, fun w => by (go_simp; (try with_reducible rfl))⟩) ?_
    simp only [Act.put, List.setIfInBounds_toArray, List.set_cons_zero, List.set_cons_succ]
    refine wpAny_take (i := 11) (by simp only [List.getElem?_toArray, List.getElem?_cons_zero, List.getElem?_cons_succ]; rfl) (by kernel_rfl) (by kernel_rfl) (by kernel_rfl) (by intro _ _ _ h; exact h) (Or.inl ⟨by rfl, fun w => by (go_simp; (try with_reducible rfl))⟩) ?_
    simp only [Act.put, List.setIfInBounds_toArray, List.set_cons_zero, List.set_cons_succ]
    refine wpAny_done (by kernel_rfl) ?_ _
    go_wp2
    exact bodyPost_ret (v := .tuple #[.slice a5 (k + (n - (k + 1))) c5, .bool true]) (by simp [results, Tryz.results18, go_sem]) rfl FIN.out
end Go.Proofs.YteamdmcgkpeelabGreatDoor

/-
  The contracts of the model's draws of a list of tables.
-/
namespace Go.Proofs.YteamdmcgkpeelabGreatDoor
open Go.ChangeShapes Go.WideShapes Go.ChangeAt Go.RowKit
attribute [local go_sem ↓] Go.wp_at_zero Go.wp_at_succ
attribute [local simp] World.cell?_alloc_past World.cell?_alloc_at World.frozen?_alloc_at cell_far cell_off cell_here World.frozen?_alloc_past

/-- A drawn table: its lists are rows of its own. -/
structure DT (w : World) (base : Nat) (t : TB) (q : TAd) : Prop where
  cols : w.ownsRow base 9 1 (.slice q.ca t.2.1.length q.cc) t.2.1.length (strV t.2.1)
  rows : ∃ G D, OwnRows w base (.slice q.ra t.2.2.length q.cr) t.2.2 G D
  sz : Sizes t.2.1 t.2.2 5 62
  nm : t.1.size ≤ 7
theorem DT.keep {w w' : World} {base c : Nat} {t : TB} {q : TAd} (h : DT w base t q) (hk : Keep c w w') (hc : c < base) : DT w' base t q :=
  ⟨own_keep h.cols hk hc, by obtain ⟨G, D, O⟩ := h.rows; exact ⟨G, D, O.keep hk hc⟩, h.sz, h.nm⟩
theorem DT.below {w w' : World} {base : Nat} {t : TB} {q : TAd} (h : DT w base t q) (hb : Below w.heap.size w w') : DT w' base t q :=
  ⟨own_below h.cols hb, by obtain ⟨G, D, O⟩ := h.rows; exact ⟨G, D, O.below hb⟩, h.sz, h.nm⟩
theorem DT.alloc {w : World} {base : Nat} {t : TB} {q : TAd} (h : DT w base t q) (o : Obj) : DT (w.alloc o) base t q :=
  h.below ((Below.refl _ _).alloc (Nat.le_refl _) _)
theorem DT.lower {w : World} {base base' : Nat} {t : TB} {q : TAd} (h : DT w base t q) (hb : base' ≤ base) : DT w base' t q :=
  ⟨own_base h.cols hb, by obtain ⟨G, D, O⟩ := h.rows; exact ⟨G, D, O.base hb⟩, h.sz, h.nm⟩
theorem DT.grown {w w' : World} {base b2 m : Nat} {t : TB} {q : TAd} {r : Value} {ys : List Value} (h : DT w base t q) (hr : w.ownsRow b2 35 3 r m ys) (hg : w.grownBy w' r.ownBlock) : DT w' base t q :=
  ⟨h.cols.kept hg (own_apart hr h.cols (by decide)), by obtain ⟨G, D, O⟩ := h.rows; exact ⟨G, D, O.outer.kept hg (own_apart hr O.outer (by decide)), fun i hi => (O.inner i hi).kept hg (own_apart hr (O.inner i hi) (by decide)), O.apart⟩, h.sz, h.nm⟩
theorem DT.dtab {w : World} {base : Nat} {t : TB} {q : TAd} (h : DT w base t q) : DTab w q.ca q.cc q.ra q.cr t := by
  obtain ⟨G, D, O⟩ := h.rows
  exact dtab_of h.nm h.sz h.cols O
theorem DT.of {w : World} {base : Nat} {nm : ByteArray} {C : List ByteArray} {L : List (List CT)} {av : Option Addr} {cv : Nat} {ar : Option Addr} {cr nC nL : Nat} (hnm : nm.size ≤ 7) (hs : Sizes C L nC nL) (hC : nC ≤ 5) (hL : nL ≤ 62) (hc : w.ownsRow base 9 1 (.slice av C.length cv) C.length (strV C)) (hr : ∃ G D, OwnRows w base (.slice ar L.length cr) L G D) : DT w base (nm, C, L) ⟨av, cv, ar, cr, fun _ => none, fun _ => 0⟩ :=
  ⟨hc, hr, ⟨Nat.le_trans hs.cl hC, hs.cf, Nat.le_trans hs.rl hL, hs.rf, hs.rn⟩, hnm⟩
theorem DT.plain {w : World} {base : Nat} {nm : ByteArray} (hB : base ≤ w.heap.size) (hnm : nm.size ≤ 7) : DT (w.alloc (.cells #[.string ⟨#[97]⟩] 9)) base (nm, [⟨#[97]⟩], []) ⟨some ⟨w.heap.size, 0, none⟩, 1, none, 0, fun _ => none, fun _ => 0⟩ := by
  refine ⟨⟨rfl, .inr ⟨w.heap.size, 1, #[.string ⟨#[97]⟩], rfl, hB, by show (w.heap.push _)[w.heap.size]? = _; simp, Nat.le_refl _, by unfold maxLen; omega, rfl, rfl⟩⟩, ⟨fun _ => 0, fun _ => 0, ⟨rfl, .inl ⟨rfl, rfl⟩⟩, fun i hi => by simp at hi, fun i j hi => by simp at hi⟩, ⟨by simp, ?_, by simp, fun i hi => by simp at hi, fun i hi => by simp at hi⟩, hnm⟩
  intro j hj
  have : j = 0 := by simp at hj; omega
  subst this
  show (1 : Nat) ≤ _
  unfold maxLen; omega
/-- Drawn tables, their heads in a row of its own. -/
structure DB (w : World) (base : Nat) (v : Value) (P : List (TB × TAd)) : Prop where
  own : w.ownsRow base 35 3 v P.length (hvP P)
  tabs : ∀ p, p ∈ P → DT w base p.1 p.2
theorem DB.keep {w w' : World} {base c : Nat} {v : Value} {P : List (TB × TAd)} (h : DB w base v P) (hk : Keep c w w') (hc : c < base) : DB w' base v P := ⟨own_keep h.own hk hc, fun p hp => (h.tabs p hp).keep hk hc⟩
theorem DB.below {w w' : World} {base : Nat} {v : Value} {P : List (TB × TAd)} (h : DB w base v P) (hb : Below w.heap.size w w') : DB w' base v P := ⟨own_below h.own hb, fun p hp => (h.tabs p hp).below hb⟩
theorem DB.alloc {w : World} {base : Nat} {v : Value} {P : List (TB × TAd)} (h : DB w base v P) (o : Obj) : DB (w.alloc o) base v P := ⟨h.own.alloc o, fun p hp => (h.tabs p hp).alloc o⟩
theorem DB.empty (w : World) (B : Nat) (hB : B ≤ w.heap.size) : DB (w.alloc (.cells #[] 35)) B (.slice (some ⟨w.heap.size, 0, none⟩) 0 0) [] := ⟨own_emptyT w B hB, fun p hp => by simp at hp⟩
theorem DB.one {w : World} {base : Nat} {t : TB} {q : TAd} (hB : base ≤ w.heap.size) (h : DT w base t q) : DB (w.alloc (.cells #[.string t.1, .slice q.ca t.2.1.length q.cc, .slice q.ra t.2.2.length q.cr] 35)) base (.slice (some ⟨w.heap.size, 0, none⟩) 1 1) [(t, q)] :=
  ⟨⟨rfl, .inr ⟨w.heap.size, 1, #[.string t.1, .slice q.ca t.2.1.length q.cc, .slice q.ra t.2.2.length q.cr], rfl, hB, by show (w.heap.push _)[w.heap.size]? = _; simp, Nat.le_refl _, by unfold maxLen; omega, rfl, rfl⟩⟩, fun p hp => by simp at hp; subst hp; exact h.alloc _⟩
theorem DB.snoc {w w2 : World} {base : Nat} {v v' : Value} {P : List (TB × TAd)} {t : TB} {q : TAd} {o : Obj} (h : DB w base v P) (hq : DT w base t q) (own : w2.ownsRow base 35 3 v' (P.length + 1) (hvP P ++ headV t q)) (hg : (w.alloc o).grownBy w2 v.ownBlock) : DB w2 base v' (P ++ [(t, q)]) := by
  refine ⟨?_, fun p hp => ?_⟩
  · rw [List.length_append, hvP_append]
    have e : hvP [(t, q)] = headV t q := by simp [hvP]
    rw [e]
    exact own
  · rcases List.mem_append.1 hp with hp | hp
    · exact ((h.tabs p hp).alloc o).grown (h.own.alloc o) hg
    · simp at hp; subst hp; exact (hq.alloc o).grown (h.own.alloc o) hg
theorem DB.form {w : World} {base : Nat} {v : Value} {P : List (TB × TAd)} (h : DB w base v P) (h0 : P ≠ [] ∨ v ≠ .slice none 0 0) : ∃ g cap, v = .slice (some ⟨g, 0, none⟩) P.length cap := by
  rcases h.own.2 with ⟨e, hn⟩ | ⟨g, cap, cur, e, _⟩
  · rcases h0 with h0 | h0
    · exact absurd (List.eq_nil_of_length_eq_zero hn) h0
    · exact absurd e h0
  · exact ⟨g, cap, e⟩
/-- A drawn list of tables: all of a row, or all but the first. -/
def DL (w : World) (base : Nat) (av : Option Addr) (T : List TB) : Prop := ∃ g cap P d, DB w base (.slice (some ⟨g, 0, none⟩) P.length cap) P ∧ d ≤ P.length ∧ P.length ≤ 6 ∧ (d < P.length → av = some ⟨g, d * 3, none⟩) ∧ T = (P.drop d).map Prod.fst
theorem DL.keep {w w' : World} {base c : Nat} {av : Option Addr} {T : List TB} (h : DL w base av T) (hk : Keep c w w') (hc : c < base) : DL w' base av T := by
  obtain ⟨g, cap, P, d, h1, h2⟩ := h; exact ⟨g, cap, P, d, h1.keep hk hc, h2⟩
theorem DL.below {w w' : World} {base : Nat} {av : Option Addr} {T : List TB} (h : DL w base av T) (hb : Below w.heap.size w w') : DL w' base av T := by
  obtain ⟨g, cap, P, d, h1, h2⟩ := h; exact ⟨g, cap, P, d, h1.below hb, h2⟩
/-- How great a drawn table is. -/
def SmallD (t : TB) : Prop := t.1.size ≤ 7 ∧ t.2.1.length ≤ 5 ∧ t.2.2.length ≤ 62 ∧ ∀ i (hi : i < t.2.2.length), t.2.2[i].length ≤ 1000
theorem DL.small {w : World} {base : Nat} {av : Option Addr} {T : List TB} (h : DL w base av T) : T.length ≤ 6 ∧ ∀ t, t ∈ T → SmallD t := by
  obtain ⟨g, cap, P, d, h1, h2, h3, _, rfl⟩ := h
  refine ⟨by simp; omega, fun t ht => ?_⟩
  obtain ⟨p, hp, rfl⟩ := List.mem_map.1 ht
  have := h1.tabs p (List.mem_of_mem_drop hp)
  exact ⟨this.nm, this.sz.cl, this.sz.rl, this.sz.rn⟩
theorem DL.tabs {w : World} {base : Nat} {av : Option Addr} {T : List TB} (h : DL w base av T) : TabsAt w av T := by
  obtain ⟨g, cap, P, d, h1, h2, h3, h4, rfl⟩ := h
  intro i hi
  have hi' : i < P.length - d := by simpa using hi
  have hdi : d + i < P.length := by omega
  have ea := h4 (by omega)
  subst ea
  have cel : ∀ j, j < 3 → w.cell? ⟨g, (d + i) * 3 + j, none⟩ = (headV P[d + i].1 P[d + i].2)[j]? := by
    intro j hj
    rw [h1.own.cellAt _ (by omega), hvP_at hdi j hj]
  have hf : ((P.drop d).map Prod.fst)[i] = P[d + i].1 := by simp
  rw [hf]
  refine ⟨g, d * 3, P[d + i].2.ca, P[d + i].2.cc, P[d + i].2.ra, P[d + i].2.cr, rfl, (h1.own.lt g rfl).2, ?_, ?_, ?_, (h1.tabs _ (List.getElem_mem hdi)).dtab.tab⟩
  · rw [show d * 3 + i * 3 = (d + i) * 3 + 0 by omega]; exact cel 0 (by omega)
  · rw [show d * 3 + i * 3 + 1 = (d + i) * 3 + 1 by omega]; exact cel 1 (by omega)
  · rw [show d * 3 + i * 3 + 2 = (d + i) * 3 + 2 by omega]; exact cel 2 (by omega)
/-- The answer of the draw of a list of tables. -/
def DrawnB (w : World) (c : Nat) (a : Option Addr) (len cap : Nat) (e : Ending) (w' : World) : Prop :=
  ∃ (av : Option Addr) (n cv : Nat) (T : List TB), e = .returned (.slice av n cv) ∧ T.length = n ∧ DL w' w.heap.size av T ∧ Cur w' c a len cap ∧ Keep c w w'
def DrawnD (w : World) (c : Nat) (a : Option Addr) (len cap : Nat) (e : Ending) (w' : World) : Prop :=
  ∃ g n cv P, e = .returned (.slice (some ⟨g, 0, none⟩) n cv) ∧ P.length = n ∧ 1 ≤ n ∧ n ≤ 2 ∧ DB w' w.heap.size (.slice (some ⟨g, 0, none⟩) n cv) P ∧ Cur w' c a len cap ∧ Keep c w w'
set_option maxRecDepth 100000 in
set_option maxHeartbeats 4000000 in
theorem base_draw {w : World} {c : Nat} {a : Option Addr} {len cap : Nat} (h : Cur w c a len cap) :
    Calls Tryz.prog 46 #[.pointer (some ⟨c, 0, none⟩)] w (DrawnD w c a len cap) := by
  obtain ⟨i0, hti, hz0, hz1, hz2⟩ := info_parts infoTS
  have hcw := h.lt
  have HC : Hid (Cur w c a len cap) := h
  clear h
  go_enter Tryz.func46, Tryz.ntmps46
  go_wp2_with fail
  refine (tab_draw HC.out ⟨#[116]⟩ (by decide)).mono ?_
  rintro e w1 ⟨nm, vc, vr, C, L, rfl, hnm, hSz, hOc, hOr, hc1', hk1⟩
  obtain ⟨av, cv, rfl⟩ := own_sliceL hOc
  obtain ⟨ar, cr, rfl⟩ := own_sliceL hOr.choose_spec.choose_spec.outer
  have D1 : Hid (DT w1 w.heap.size (nm, C, L) ⟨av, cv, ar, cr, fun _ => none, fun _ => 0⟩) := DT.of hnm hSz (by omega) (by omega) hOc hOr
  have K1 : Hid (Keep c w w1) := hk1
  have C1 : Hid (Cur w1 c a len cap) := hc1'
  have hs1 := hk1.size
  clear hSz hOc hOr hc1' hk1 HC
  have B1 : Hid (DB (w1.alloc (.cells #[.string nm, .slice av C.length cv, .slice ar L.length cr] 35)) w.heap.size (.slice (some ⟨w1.heap.size, 0, none⟩) 1 1) [((nm, C, L), ⟨av, cv, ar, cr, fun _ => none, fun _ => 0⟩)]) := DB.one (t := (nm, C, L)) (q := ⟨av, cv, ar, cr, fun _ => none, fun _ => 0⟩) hs1 D1.out
  go_wp2_with fail
  refine (once_draw (C1.out.alloc _) 3 (by omega) (by omega)).mono ?_
  rintro e w2 ⟨b2, rfl, hc2', hk2⟩
  have K2 : Hid (Keep c w w2) := (K1.out.alloc _).trans hk2
  have C2 : Hid (Cur w2 c a len cap) := hc2'
  have B2 : Hid (DB w2 w.heap.size (.slice (some ⟨w1.heap.size, 0, none⟩) 1 1) [((nm, C, L), ⟨av, cv, ar, cr, fun _ => none, fun _ => 0⟩)]) := B1.out.keep hk2 hcw
  have hs2 := K2.out.size
  clear hc2' hk2 C1 K1 D1 B1
  cases b2
  · go_wp2_with fail
    refine (tab_draw C2.out ⟨#[117]⟩ (by decide)).mono ?_
    rintro e w3 ⟨nm2, vc2, vr2, C', L', rfl, hnm2, hSz2, hOc2, hOr2, hc3', hk3⟩
    obtain ⟨av2, cv2, rfl⟩ := own_sliceL hOc2
    obtain ⟨ar2, cr2, rfl⟩ := own_sliceL hOr2.choose_spec.choose_spec.outer
    have D3 : Hid (DT w3 w.heap.size (nm2, C', L') ⟨av2, cv2, ar2, cr2, fun _ => none, fun _ => 0⟩) := (DT.of hnm2 hSz2 (by omega) (by omega) hOc2 hOr2).lower hs2
    have B3 : Hid (DB w3 w.heap.size (.slice (some ⟨w1.heap.size, 0, none⟩) 1 1) [((nm, C, L), ⟨av, cv, ar, cr, fun _ => none, fun _ => 0⟩)]) := B2.out.keep hk3 hcw
    have K3 : Hid (Keep c w w3) := K2.out.trans hk3
    have C3 : Hid (Cur w3 c a len cap) := hc3'
    have hs3 := K3.out.size
    have O3 : w3.ownsRow w.heap.size 35 3 (.slice (some ⟨w1.heap.size, 0, none⟩) 1 1) 1 (hvP [((nm, C, L), ⟨av, cv, ar, cr, fun _ => none, fun _ => 0⟩)]) := B3.out.own
    clear hSz2 hOc2 hOr2 hc3' hk3 C2 K2 B2
    go_wp2_with (at_builtin; refine wpList_append_own_at _ rfl _ _ 24 rfl w.heap.size 35 i0 (.agg #[.string ⟨#[]⟩, .slice none 0 0, .slice none 0 0]) 3 64 Tryz.underlying24 hti hz0 hz1 hz2 rfl (by decide) _ _ _ rfl (O3.alloc _) ⟨w3.heap.size, 0, none⟩ 1 1 [.string nm2, .slice av2 C'.length cv2, .slice ar2 L'.length cr2] rfl rfl ?c1 ?c2 ?c3 ?c4 ?c5 ?_)
    case c1 =>
      intro j u hj
      match j, hj with
      | 0, hj => simp at hj; subst hj; simp [Addr.add]
      | 1, hj => simp at hj; subst hj; simp [Addr.add]
      | 2, hj => simp at hj; subst hj; simp [Addr.add]
    case c2 => intro u hu; simp at hu; rcases hu with rfl | rfl | rfl <;> rfl
    case c3 => unfold maxLen; omega
    case c4 => omega
    case c5 => simp; omega
    intro v' w4 own4 hgrow hnn hloc
    have hxk : Keep c w w4 := (K3.out.alloc _).far ((Below.refl w.heap.size _).grown hgrow (by simp; omega) (fun j hj => (O3.lt j hj).1)) (Nat.le_refl _)
    have hcu : Cur w4 c a len cap := (C3.out.alloc _).far ((Below.refl w.heap.size _).grown hgrow (by simp; omega) (fun j hj => (O3.lt j hj).1)) hcw
    have B4 := B3.out.snoc D3.out own4 hgrow
    obtain ⟨g, k, rfl⟩ := B4.form (.inl (by simp))
    have FIN : Hid (DB w4 w.heap.size (.slice (some ⟨g, 0, none⟩) 2 k) [((nm, C, L), ⟨av, cv, ar, cr, fun _ => none, fun _ => 0⟩), ((nm2, C', L'), ⟨av2, cv2, ar2, cr2, fun _ => none, fun _ => 0⟩)] ∧ Cur w4 c a len cap ∧ Keep c w w4) := ⟨B4, hcu, hxk⟩
    clear own4 hgrow hnn hloc O3 B4 hxk hcu D3 B3 K3 C3
    go_wp2
    go_ret
    exact ⟨g, 2, k, _, rfl, by rfl, by omega, by omega, FIN.out.1, FIN.out.2.1, FIN.out.2.2⟩
  · go_wp2
    go_ret
    exact ⟨_, 1, 1, _, rfl, by rfl, by omega, by omega, B2.out, C2.out, K2.out⟩
set_option maxRecDepth 100000 in
set_option maxHeartbeats 8000000 in
theorem baseany_draw {w : World} {c : Nat} {a : Option Addr} {len cap : Nat} (h : Cur w c a len cap) :
    Calls Tryz.prog 24 #[.pointer (some ⟨c, 0, none⟩)] w (DrawnB w c a len cap) := by
  obtain ⟨i0, hti, hz0, hz1, hz2⟩ := info_parts infoTS
  have hcw := h.lt
  have HC : Hid (Cur w c a len cap) := h
  clear h
  go_enter Tryz.func24, Tryz.ntmps24
  go_wp2_with fail
  refine (base_draw HC.out).mono ?_
  rintro e w1 ⟨g, n, cv, P, rfl, hPn, hn1, hn2, hB1, hc1', hk1⟩
  have B1 : Hid (DB w1 w.heap.size (.slice (some ⟨g, 0, none⟩) n cv) P) := hB1
  have K1 : Hid (Keep c w w1) := hk1
  have C1 : Hid (Cur w1 c a len cap) := hc1'
  have HP : Hid (P.length = n) := hPn
  clear hB1 hc1' hk1 HC hPn
  go_wp2_with fail
  refine (once_draw C1.out 10 (by omega) (by omega)).mono ?_
  rintro e w2 ⟨b2, rfl, hc2', hk2⟩
  have K2 : Hid (Keep c w w2) := K1.out.trans hk2
  have C2 : Hid (Cur w2 c a len cap) := hc2'
  have B2 : Hid (DB w2 w.heap.size (.slice (some ⟨g, 0, none⟩) n cv) P) := B1.out.keep hk2 hcw
  clear hc2' hk2 C1 K1 B1
  cases b2
  · go_wp2
    go_ret
    exact ⟨_, n, cv, P.map Prod.fst, rfl, by rw [List.length_map]; exact HP.out, ⟨g, cv, P, 0, by rw [HP.out]; exact B2.out, Nat.zero_le _, by rw [HP.out]; omega, fun _ => by simp, rfl⟩, C2.out, K2.out⟩
  · go_wp2_with fail
    refine (below_draw C2.out 3 (by omega) (by omega)).mono ?_
    rintro e w3 ⟨x, rfl, hx0, hx1, hc3', hk3⟩
    have K3 : Hid (Keep c w w3) := K2.out.trans hk3
    have C3 : Hid (Cur w3 c a len cap) := hc3'
    have B3 : Hid (DB w3 w.heap.size (.slice (some ⟨g, 0, none⟩) n cv) P) := B2.out.keep hk3 hcw
    clear hc3' hk3 C2 K2 B2
    rcases (by omega : x = 0 ∨ x = 1 ∨ x = 2) with rfl | rfl | rfl
    · have hs3 := K3.out.size
      go_wp2_with fail
      refine (tabany_draw C3.out).mono ?_
      rintro e w4 ⟨nm2, vc2, vr2, C', L', rfl, hnm2, hSz2, hOc2, hOr2, hc4', hk4⟩
      obtain ⟨av2, cv2, rfl⟩ := own_sliceL hOc2
      obtain ⟨ar2, cr2, rfl⟩ := own_sliceL hOr2.choose_spec.choose_spec.outer
      have D4 : Hid (DT w4 w.heap.size (nm2, C', L') ⟨av2, cv2, ar2, cr2, fun _ => none, fun _ => 0⟩) := (DT.of hnm2 hSz2 (by omega) (by omega) hOc2 hOr2).lower hs3
      have B4 : Hid (DB w4 w.heap.size (.slice (some ⟨g, 0, none⟩) n cv) P) := B3.out.keep hk4 hcw
      have K4 : Hid (Keep c w w4) := K3.out.trans hk4
      have C4 : Hid (Cur w4 c a len cap) := hc4'
      have hs4 := K4.out.size
      have O4 : w4.ownsRow w.heap.size 35 3 (.slice (some ⟨g, 0, none⟩) n cv) n (hvP P) := by
        have := B4.out.own
        rw [HP.out] at this
        exact this
      clear hSz2 hOc2 hOr2 hc4' hk4 C3 K3 B3
      go_wp2_with (at_builtin; refine wpList_append_own_at _ rfl _ _ 24 rfl w.heap.size 35 i0 (.agg #[.string ⟨#[]⟩, .slice none 0 0, .slice none 0 0]) 3 64 Tryz.underlying24 hti hz0 hz1 hz2 rfl (by decide) _ _ _ rfl (O4.alloc _) ⟨w4.heap.size, 0, none⟩ 1 1 [.string nm2, .slice av2 C'.length cv2, .slice ar2 L'.length cr2] rfl rfl ?c1 ?c2 ?c3 ?c4 ?c5 ?_)
      case c1 =>
        intro j u hj
        match j, hj with
        | 0, hj => simp at hj; subst hj; simp [Addr.add]
        | 1, hj => simp at hj; subst hj; simp [Addr.add]
        | 2, hj => simp at hj; subst hj; simp [Addr.add]
      case c2 => intro u hu; simp at hu; rcases hu with rfl | rfl | rfl <;> rfl
      case c3 => unfold maxLen; omega
      case c4 => omega
      case c5 => simp; omega
      intro v' w5 own5 hgrow hnn hloc
      have hxk : Keep c w w5 := (K4.out.alloc _).far ((Below.refl w.heap.size _).grown hgrow (by simp; omega) (fun j hj => (O4.lt j hj).1)) (Nat.le_refl _)
      have hcu : Cur w5 c a len cap := (C4.out.alloc _).far ((Below.refl w.heap.size _).grown hgrow (by simp; omega) (fun j hj => (O4.lt j hj).1)) hcw
      have B5 := B4.out.snoc D4.out (by rw [HP.out]; exact own5) hgrow
      obtain ⟨g5, k5, rfl⟩ := B5.form (.inl (by simp))
      have FIN : Hid (DrawnB w c a len cap (.returned (.slice (some ⟨g5, 0, none⟩) (P ++ [((nm2, C', L'), (⟨av2, cv2, ar2, cr2, fun _ => none, fun _ => 0⟩ : TAd))]).length k5)) w5) :=
        ⟨_, _, k5, (P ++ [((nm2, C', L'), (⟨av2, cv2, ar2, cr2, fun _ => none, fun _ => 0⟩ : TAd))]).map Prod.fst, rfl, by rw [List.length_map], ⟨g5, k5, _, 0, B5, Nat.zero_le _, by have := HP.out; simp; omega, fun _ => by simp, rfl⟩, hcu, hxk⟩
      clear own5 hgrow hnn hloc O4 B5 hxk hcu D4 B4 K4 C4
      go_wp2
      go_ret
      exact FIN.out
    · have hcap : n ≤ cv := by
        rcases B3.out.own.2 with ⟨e, _⟩ | ⟨g', cap', cur, e, _, _, hle, _⟩
        · simp at e
        · injection e with e1 e2 e3
          have := HP.out
          omega
      have FIN : Hid (∀ o k, (cv ≠ 1 → o = 3) → DrawnB w c a len cap (.returned (.slice (some ⟨g, o, none⟩) (n - 1) k)) w3) := by
        have : ∀ o k, (cv ≠ 1 → o = 3) → DrawnB w c a len cap (.returned (.slice (some ⟨g, o, none⟩) (n - 1) k)) w3 := fun o k ho =>
          ⟨_, n - 1, k, (P.drop 1).map Prod.fst, rfl, by rw [List.length_map, List.length_drop, HP.out], ⟨g, cv, P, 1, by rw [HP.out]; exact B3.out, by rw [HP.out]; omega, by rw [HP.out]; omega, fun hlt => by rw [HP.out] at hlt; rw [ho (by omega)], rfl⟩, C3.out, K3.out⟩
        exact this
      clear K3 C3 B3
      by_cases hc1 : cv = 1
      · have hn : n = 1 := by omega
        subst hc1 hn
        go_wp2
        go_ret
        exact FIN.out _ _ (fun h => absurd rfl h)
      · go_wp2
        go_ret
        exact FIN.out _ _ (fun _ => rfl)
    · have hs3 := K3.out.size
      have B0 : Hid (DB (w3.alloc (.cells #[] 35)) w.heap.size (.slice (some ⟨w3.heap.size, 0, none⟩) 0 0) []) := DB.empty w3 _ hs3
      have KC0 : Hid (Keep c w (w3.alloc (.cells #[] 35)) ∧ Cur (w3.alloc (.cells #[] 35)) c a len cap) := ⟨K3.out.alloc _, C3.out.alloc _⟩
      clear K3 C3 B3
      go_wp2_with fail
      go_loopw [3, 4] (fun v kk wr => ∃ k : Nat, k ≤ 6 ∧ kk = .int .i64 k ∧ v ≠ .slice none 0 0 ∧ Hid (∃ P, DB wr w.heap.size v P ∧ P.length = k) ∧ Hid (Keep c w wr ∧ Cur wr c a len cap)) (fun _ kk _ => 6 - (intOf kk).toNat)
      case atStart => exact ⟨0, Nat.zero_le _, rfl, by simp, ⟨[], B0.out, rfl⟩, KC0⟩
      case round =>
        obtain ⟨k, hk, rfl, hvn, hOw, hKC⟩ := hrel
        go_wp2_with fail
        refine (below_draw hKC.out.2 2 (by omega) (by omega)).mono ?_
        rintro e w5 ⟨y, rfl, hy0, hy1, hc5', hk5⟩
        obtain ⟨PP, hB, hPl⟩ := hOw.out
        have K5 : Hid (Keep c w w5) := hKC.out.1.trans hk5
        have C5 : Hid (Cur w5 c a len cap) := hc5'
        have B5 : Hid (DB w5 w.heap.size _ PP) := hB.keep hk5 hcw
        have HPL : Hid (PP.length = k) := hPl
        obtain ⟨g5, k5, rfl⟩ := hB.form (.inr hvn)
        clear hc5' hk5 hOw hKC hB hPl
        by_cases hlt : (k : Int) < 5 + y
        · have hcv : Sem.run Tryz.prog (convert 22 9 (.slice (some ⟨w5.heap.size, 0, none⟩) 1 1)) (w5.alloc (.cells #[.int .u8 (112 + (k : Int))] 5)) = .ok (.string ⟨#[UInt8.ofNat (112 + k)]⟩) (w5.alloc (.cells #[.int .u8 (112 + (k : Int))] 5)) :=
            run_convert_bytes_back (w5.alloc (.cells #[.int .u8 (112 + (k : Int))] 5)) 22 9 5 ⟨w5.heap.size, 0, none⟩ 1 [UInt8.ofNat (112 + k)] Tryz.underlying22 Tryz.underlying5 Tryz.underlying9 (fun j hj => by
              have : j = 0 := by simp at hj; omega
              subst this
              have e : (112 + k) % 256 = 112 + k := Nat.mod_eq_of_lt (by omega)
              simp [Addr.add, e])
          have hs5 := K5.out.size
          have hnm : (⟨#[UInt8.ofNat (112 + k)]⟩ : ByteArray).size ≤ 7 := by show (1 : Nat) ≤ 7; omega
          have hnm' : Hid ((⟨#[UInt8.ofNat (112 + k)]⟩ : ByteArray).size ≤ 7) := hnm
          clear hnm
          generalize (⟨#[UInt8.ofNat (112 + k)]⟩ : ByteArray) = nm at hcv hnm'
          have B6 : Hid (DB ((w5.alloc (.cells #[.int .u8 (112 + (k : Int))] 5)).alloc (.cells #[.string ⟨#[97]⟩] 9)) w.heap.size (.slice (some ⟨g5, 0, none⟩) PP.length k5) PP) := (B5.out.alloc _).alloc _
          have D6 : Hid (DT ((w5.alloc (.cells #[.int .u8 (112 + (k : Int))] 5)).alloc (.cells #[.string ⟨#[97]⟩] 9)) w.heap.size (nm, [⟨#[97]⟩], []) ⟨some ⟨w5.heap.size + 1, 0, none⟩, 1, none, 0, fun _ => none, fun _ => 0⟩) := by
            have := DT.plain (w := w5.alloc (.cells #[.int .u8 (112 + (k : Int))] 5)) (base := w.heap.size) (nm := nm) (by simp; omega) hnm'.out
            simp at this
            exact this
          have K6 : Hid (Keep c w ((w5.alloc (.cells #[.int .u8 (112 + (k : Int))] 5)).alloc (.cells #[.string ⟨#[97]⟩] 9))) := (K5.out.alloc _).alloc _
          have C6 : Hid (Cur ((w5.alloc (.cells #[.int .u8 (112 + (k : Int))] 5)).alloc (.cells #[.string ⟨#[97]⟩] 9)) c a len cap) := (C5.out.alloc _).alloc _
          have O6 := B6.out.own
          clear K5 C5 B5 hnm'
          go_wp2_with (at_builtin; refine wpList_append_own_at _ rfl _ _ 24 rfl w.heap.size 35 i0 (.agg #[.string ⟨#[]⟩, .slice none 0 0, .slice none 0 0]) 3 64 Tryz.underlying24 hti hz0 hz1 hz2 rfl (by decide) _ _ _ rfl (O6.alloc _) ⟨w5.heap.size + 2, 0, none⟩ 1 1 [.string nm, .slice (some ⟨w5.heap.size + 1, 0, none⟩) 1 1, .slice none 0 0] rfl rfl ?c1 ?c2 ?c3 ?c4 ?c5 ?_)
          case c1 =>
            intro j u hj
            match j, hj with
            | 0, hj => simp at hj; subst hj; simp [Addr.add]
            | 1, hj => simp at hj; subst hj; simp [Addr.add]
            | 2, hj => simp at hj; subst hj; simp [Addr.add]
          case c2 => intro u hu; simp at hu; rcases hu with rfl | rfl | rfl <;> rfl
          case c3 => have := HPL.out; unfold maxLen; omega
          case c4 => have := HPL.out; omega
          case c5 => simp; omega
          intro v' w7 own7 hgrow hnn hloc
          have hb7 : Below w.heap.size _ w7 := (Below.refl w.heap.size _).grown hgrow (by simp; omega) (fun j hj => (O6.lt j hj).1)
          have KC7 : Hid (Keep c w w7 ∧ Cur w7 c a len cap) := ⟨(K6.out.alloc _).far hb7 (Nat.le_refl _), (C6.out.alloc _).far hb7 hcw⟩
          have hB7 := B6.out.snoc D6.out own7 hgrow
          have OW7 : Hid (∃ P, DB w7 w.heap.size v' P ∧ P.length = k + 1) := ⟨_, hB7, by rw [List.length_append, HPL.out]; rfl⟩
          have hvn7 : v' ≠ .slice none 0 0 := by
            obtain ⟨g7, k7, e⟩ := hB7.form (.inl (by simp))
            rw [e]; simp
          have hk5 : k ≤ 5 := by omega
          clear own7 hgrow hnn hloc O6 hB7 hb7 B6 D6 K6 C6 hcv
          go_wp2
          go_roundw
          case rel => exact ⟨k + 1, by omega, by go_num, hvn7, OW7, KC7⟩
          case measure => simp [intOf]; omega
        · rw [HPL.out] at B5 ⊢
          have FIN : Hid (DrawnB w c a len cap (.returned (.slice (some ⟨g5, 0, none⟩) k k5)) w5) :=
            ⟨_, k, k5, PP.map Prod.fst, rfl, by rw [List.length_map]; exact HPL.out, ⟨g5, k5, PP, 0, by rw [HPL.out]; exact B5.out, Nat.zero_le _, by rw [HPL.out]; exact hk, fun _ => by simp, rfl⟩, C5.out, K5.out⟩
          clear C5 K5 B5
          go_wp2
          go_ret
          exact FIN.out
end Go.Proofs.YteamdmcgkpeelabGreatDoor
