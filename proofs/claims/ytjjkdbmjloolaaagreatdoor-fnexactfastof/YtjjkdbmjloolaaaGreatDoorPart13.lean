/-
  A part of the proof: FastRun, FastSum, Open1, Open5.
-/
import Derived.Test.YtjjkdbmjloolaaaGreatDoorPart11
import Derived.Test.YtjjkdbmjloolaaaGreatDoorPart12
import Derived.Test.YtjjkdbmjloolaaaGreatDoorPart2
import Derived.Deep.SlicePairs
import Derived.Test.YtjjkdbmjloolaaaGreatDoorPart7
import Derived.Lib.SmallJoins

namespace Go.Proofs.YtjjkdbmjloolaaaGreatDoor
def rightB3 (C : List ByteArray) (L : List SV) : Bool := (namesB C 1 6 && decide (L.length ≤ 8)) && fitsF3 C L
theorem fits_drop (C : List ByteArray) (L : List SV) (j : Nat) (h : j < L.length) : fitsF3 C (L.drop j) = ((decide (2 ≤ L[j].kind) && decide (L[j].kind ≤ 4)) && (decide ((stepShapeR [] C L[j]).2 = 0) && fitsF3 (stepShapeR [] C L[j]).1 (L.drop (j + 1)))) := by
 rw [List.drop_eq_getElem_cons h]
 rfl
theorem names_fits {C : List ByteArray} (h : namesB C 1 6 = true) : FitS C ∧ C.length ≤ 6 := by
 obtain ⟨h1, _, _, h4⟩ := namesB_iff.1 h
 refine ⟨fun j hj => ?_, by omega⟩
 have hn := h1 _ (List.getElem_mem hj)
 unfold nameB at hn
 simp only [Bool.and_eq_true, decide_eq_true_eq] at hn
 unfold maxLen
 omega
theorem stepShape_names {C D : List ByteArray} {s : SV} (h : stepShapeR [] C s = (D, 0)) : namesB D 1 6 = true ∧ sieveB s = true ∧ namesB C 1 6 = true ∧ s.kind ≠ 1 ∧ stepC [] C s = (D, 0) := by
 unfold stepShapeR at h
 split at h
 · rename_i hc
  obtain ⟨h1, h2⟩ := hc
  simp only [Bool.and_eq_true] at h1
  exact ⟨stepC_ok h1.1.1 h1.1.2 h1.2 h, h1.2, h1.1.2, h2, h⟩
 · injection h with _ e; exact absurd e (by decide)
theorem fastR_eq (C : List ByteArray) (L : List SV) : fastR C L = if rightB3 C L = true then runS (startM C) L else none := rfl
theorem sieveB_sum {s : SV} (h : sieveB s = true) (hk : s.kind = 2 ∨ s.kind = 3) : sumB s.sum = true := by
 unfold sieveB at h
 rw [if_neg (by omega), if_neg (by omega), if_neg (by omega)] at h
 have hb : bareB s = true := by
  rw [Bool.and_eq_true] at h
  exact h.2
 unfold bareB at hb
 simp only [Bool.and_eq_true, Bool.or_eq_true] at hb
 have h2 := hb.2.2.2
 have hs : sumS s.kind = true := by unfold sumS; rcases hk with e | e <;> rw [e] <;> rfl
 rw [hs] at h2
 simpa using h2
theorem hasC_mem {C : List ByteArray} {S : List TI} (h : hasC C S = true) : ∀ x ∈ S, x.1 = 2 → x.2.2 ∈ C := by
 intro x hx hx2
 unfold hasC at h
 have := List.all_eq_true.1 h x hx
 rw [hx2] at this
 simp at this
 exact this
structure AskM (M : Mkr) (s : SV) : Prop where
 kind : s.kind = 2 ∨ s.kind = 3 ∨ s.kind = 4
 sum : s.kind = 2 ∨ s.kind = 3 → sumB s.sum = true ∧ ∀ x ∈ s.sum, x.1 = 2 → x.2.2 ∈ M.cols
 names : s.kind = 4 → (∀ x ∈ s.names, x ∈ M.cols) ∧ s.names.length ≤ 6
theorem askM_of {M : Mkr} {s : SV} {D : List ByteArray} (hk : (decide (2 ≤ s.kind) && decide (s.kind ≤ 4)) = true) (h : stepShapeR [] M.cols s = (D, 0)) : AskM M s ∧ D = (if s.kind = 2 then M.cols else if s.kind = 3 then M.cols ++ [s.name] else s.names) := by
 obtain ⟨h1, h2, h3, h4, h5⟩ := stepShape_names h
 simp only [Bool.and_eq_true, decide_eq_true_eq] at hk
 have hk' : s.kind = 2 ∨ s.kind = 3 ∨ s.kind = 4 := by omega
 have bad : ∀ {k : Int}, k ≠ 0 → (([] : List ByteArray), k) = (D, 0) → False := by
  intro k hk e; injection e with _ e; exact hk e
 unfold stepC at h5
 rcases hk' with e | e | e
 · rw [if_pos e] at h5
  split at h5
  · rename_i hc
   obtain ⟨e1, _⟩ := manyC_ok h5
   refine ⟨⟨.inl e, fun _ => ⟨sieveB_sum h2 (.inl e), hasC_mem hc⟩, fun h => by omega⟩, ?_⟩
   rw [if_pos e]; exact e1
  · exact (bad (by decide) h5).elim
 · rw [if_neg (by omega), if_pos e] at h5
  split at h5
  · exact (bad (by decide) h5).elim
  · split at h5
   · rename_i hc
    obtain ⟨e1, _⟩ := manyC_ok h5
    refine ⟨⟨.inr (.inl e), fun _ => ⟨sieveB_sum h2 (.inr e), hasC_mem hc⟩, fun h => by omega⟩, ?_⟩
    rw [if_neg (by omega), if_pos e]; exact e1
   · exact (bad (by decide) h5).elim
 · rw [if_neg (by omega), if_neg (by omega), if_neg (by omega), if_pos e] at h5
  split at h5
  · rename_i hc
   obtain ⟨e1, e2⟩ := manyC_ok h5
   refine ⟨⟨.inr (.inr e), fun h => by omega, fun _ => ⟨fun x hx => inB_iff.1 (List.all_eq_true.1 hc x hx), e2⟩⟩, ?_⟩
   rw [if_neg (by omega), if_neg (by omega)]; exact e1
  · exact (bad (by decide) h5).elim
theorem heap_at15 {S : List TI} {k : Nat} (hk : k < S.length) (h : heapN S 0 = some 1) : ∃ m, heapN (S.take k) 0 = some m ∧ itemB S[k] = true ∧ needsI S[k].1 ≤ m ∧ heapN (S.take (k + 1)) 0 = some (m + 1 - needsI S[k].1) := by
 have e : S = S.take k ++ S.drop k := (List.take_append_drop k S).symm
 have hd : S.drop k = S[k] :: S.drop (k + 1) := List.drop_eq_getElem_cons hk
 have h1 : (heapN (S.take k) 0).bind (heapN (S.drop k)) = some 1 := by rw [← heapN_append, ← e]; exact h
 rw [List.take_succ_eq_append_getElem hk, heapN_append]
 cases hm : heapN (S.take k) 0 with
 | none => rw [hm] at h1; cases h1
 | some m =>
  rw [hm] at h1
  have h2 : heapN (S[k] :: S.drop (k + 1)) m = some 1 := by rw [← hd]; exact h1
  unfold heapN at h2
  split at h2
  · rename_i hc
   refine ⟨m, rfl, hc.1, hc.2, ?_⟩
   show heapN [S[k]] m = _
   unfold heapN
   rw [if_pos hc]
   rfl
  · cases h2
theorem itemB_range {x : TI} (h : itemB x = true) : 1 ≤ x.1 ∧ x.1 ≤ 12 := by
 unfold itemB at h
 split at h
 · omega
 · split at h
  · omega
  · simp only [Bool.and_eq_true, decide_eq_true_eq] at h
   omega
theorem runO_good {M : Mkr} {S : List TI} (g : GoodM M) (hs : heapN S 0 = some 1) (hc : ∀ x ∈ S, x.1 = 2 → x.2.2 ∈ M.cols) : ∀ (k : Nat) (q : List Int × Mkr), k ≤ S.length → runO M (S.take k) [] = some q → GoodM q.2 ∧ GrowM M q.2 ∧ RegsM q.2 q.1 ∧ heapN (S.take k) 0 = some q.1.length
 | 0, q, _, h => by
  rw [List.take_zero] at h ⊢
  have e : ([], M) = q := Option.some.inj h
  subst e
  exact ⟨g, GrowM.refl M, fun r hr => absurd hr (by simp), rfl⟩
 | k + 1, q, hk, h => by
  rw [runO_snoc M S k (by omega)] at h
  cases hq : runO M (S.take k) [] with
  | none => rw [hq] at h; cases h
  | some q0 =>
   rw [hq] at h
   have h' : itemO q0.2 S[k] q0.1 = some q := h
   obtain ⟨k1, k2, k3, k4⟩ := runO_good g hs hc k q0 (by omega) hq
   obtain ⟨m, h1, h2, h3, h4⟩ := heap_at15 (by omega : k < S.length) hs
   have em : q0.1.length = m := Option.some.inj (k4.symm.trans h1)
   obtain ⟨j1, j2, j3, j4⟩ := itemO_good k1 k3 (by rw [em]; exact h3) (fun h2 => by rw [k2.cols]; exact hc _ (List.getElem_mem _) h2) (itemB_range h2) h'
   exact ⟨j1, k2.trans j2, j3, by rw [h4, j4, em]⟩
theorem runO_stop {M : Mkr} {S : List TI} {k : Nat} (h : runO M (S.take k) [] = none) : runO M S [] = none := by
 have e : S = S.take k ++ S.drop k := (List.take_append_drop k S).symm
 rw [e, runO_append, h]
 rfl
theorem sumO_good {M : Mkr} {S : List TI} {q : Int × Mkr} (g : GoodM M) (hs : sumB S = true) (hc : ∀ x ∈ S, x.1 = 2 → x.2.2 ∈ M.cols) (h : sumO M S = some q) : GoodM q.2 ∧ GrowM M q.2 ∧ 0 ≤ q.1 ∧ q.1 < (q.2.tr.length : Int) := by
 have hs' : heapN S 0 = some 1 := by
  unfold sumB at hs
  rw [Bool.and_eq_true, decide_eq_true_eq, decide_eq_true_eq] at hs
  exact hs.1
 unfold sumO at h
 cases hr : runO M S [] with
 | none => rw [hr] at h; cases h
 | some z =>
  rw [hr] at h
  have e : (z.1.getD 0 0, z.2) = q := Option.some.inj h
  subst e
  obtain ⟨k1, k2, k3, k4⟩ := runO_good g hs' hc S.length z (Nat.le_refl _) (by rw [List.take_length]; exact hr)
  rw [List.take_length, hs'] at k4
  have hl : z.1.length = 1 := (Option.some.inj k4).symm
  have := k3 _ (getD_mem (l := z.1) (k := 0) (by omega))
  exact ⟨k1, k2, this.1, this.2⟩
theorem sieveO_good {M q : Mkr} {s : SV} (g : GoodM M) (ha : AskM M s) (h : sieveO M s = some q) : GoodM q ∧ q.ops.length + M.tr.length ≤ M.ops.length + q.tr.length + 1 ∧ q.cols = (if s.kind = 2 then M.cols else if s.kind = 3 then M.cols ++ [s.name] else s.names) := by
 unfold sieveO at h
 rcases ha.kind with e | e | e
 · rw [if_pos e] at h ⊢
  obtain ⟨hs, hc⟩ := ha.sum (.inl e)
  cases hz : sumO M s.sum with
  | none => rw [hz] at h; cases h
  | some z =>
   rw [hz] at h
   obtain ⟨k1, k2, k3, k4⟩ := sumO_good g hs hc hz
   have h' : (if trB z.2 z.1 = true then some { z.2 with ops := z.2.ops ++ [(12, 0, z.1, 0)] } else none) = some q := h
   split at h'
   · injection h' with h'
    subst h'
    have := k2.ops
    exact ⟨⟨k1.bad, k1.tr, k1.len, k1.outs⟩, by simp; omega, k2.cols⟩
   · cases h'
 · rw [if_neg (by omega), if_pos e] at h ⊢
  obtain ⟨hs, hc⟩ := ha.sum (.inr e)
  cases hz : sumO M s.sum with
  | none => rw [hz] at h; cases h
  | some z =>
   rw [hz] at h
   obtain ⟨k1, k2, k3, k4⟩ := sumO_good g hs hc hz
   injection h with h
   subst h
   have := k2.ops
   refine ⟨⟨k1.bad, k1.tr, by simp [k1.len], fun u hu => ?_⟩, by show z.2.ops.length + M.tr.length ≤ M.ops.length + z.2.tr.length + 1; omega, by show z.2.cols ++ _ = _; rw [k2.cols]⟩
   rcases List.mem_append.1 hu with h1 | h1
   · exact k1.outs u h1
   · obtain rfl := List.mem_singleton.1 h1
    exact .inr ⟨rfl, k3, k4, rfl⟩
 · rw [if_neg (by omega), if_neg (by omega)] at h ⊢
  injection h with h
  subst h
  obtain ⟨hn, _⟩ := ha.names e
  refine ⟨⟨g.bad, g.tr, by simp, fun u hu => ?_⟩, by show M.ops.length + M.tr.length ≤ M.ops.length + M.tr.length + 1; omega, rfl⟩
  obtain ⟨n, hnm, rfl⟩ := List.mem_map.1 hu
  obtain ⟨k1, _, _⟩ := plc_at (hn n hnm)
  rw [← g.len] at k1
  refine g.outs _ ?_
  rw [List.getD_eq_getElem?_getD, List.getElem?_eq_getElem k1]
  exact List.getElem_mem k1
theorem start_good (C : List ByteArray) : GoodM (startM C) := by
 refine ⟨rfl, by show (0 : Nat) ≤ 30; omega, by simp [startM, outsOf], fun u hu => ?_⟩
 obtain ⟨k, _, rfl⟩ := List.mem_map.1 hu
 exact .inl ⟨rfl, rfl, by show (0 : Int) ≤ (k : Int); omega⟩
theorem runS_good {C : List ByteArray} {L : List SV} (h : rightB3 C L = true) : ∀ (j : Nat) (q : Mkr), j ≤ L.length → runS (startM C) (L.take j) = some q → GoodM q ∧ q.ops.length ≤ q.tr.length + j ∧ namesB q.cols 1 6 = true ∧ fitsF3 q.cols (L.drop j) = true
 | 0, q, _, hq => by
  rw [List.take_zero] at hq
  have e : startM C = q := Option.some.inj hq
  subst e
  unfold rightB3 at h
  simp only [Bool.and_eq_true] at h
  exact ⟨start_good C, by simp [startM], h.1.1, by rw [List.drop_zero]; exact h.2⟩
 | j + 1, q, hj, hq => by
  rw [runS_snoc _ _ _ (by omega : j < L.length)] at hq
  cases hz : runS (startM C) (L.take j) with
  | none => rw [hz] at hq; cases hq
  | some z =>
   rw [hz] at hq
   have hq' : sieveO z L[j] = some q := hq
   obtain ⟨k1, k2, k3, k4⟩ := runS_good h j z (by omega) hz
   rw [fits_drop _ _ _ (by omega : j < L.length)] at k4
   simp only [Bool.and_eq_true, decide_eq_true_eq] at k4
   obtain ⟨⟨hk1, hk2⟩, hs, hf⟩ := k4
   obtain ⟨D, hD⟩ : ∃ D, stepShapeR [] z.cols L[j] = (D, 0) := ⟨_, Prod.ext rfl hs⟩
   rw [hD] at hf
   obtain ⟨ha, eD⟩ := askM_of (by simp [hk1, hk2]) hD
   obtain ⟨j1, j2, j3⟩ := sieveO_good k1 ha hq'
   rw [← eD] at j3
   exact ⟨j1, by omega, by rw [j3]; exact (stepShape_names hD).1, by rw [j3]; exact hf⟩
theorem runS_ask {C : List ByteArray} {L : List SV} {j : Nat} {q : Mkr} (h : rightB3 C L = true) (hj : j < L.length) (hq : runS (startM C) (L.take j) = some q) : AskM q L[j] := by
 obtain ⟨k1, k2, k3, k4⟩ := runS_good h j q (by omega) hq
 rw [fits_drop _ _ _ hj] at k4
 simp only [Bool.and_eq_true, decide_eq_true_eq] at k4
 obtain ⟨⟨hk1, hk2⟩, hs, hf⟩ := k4
 exact (askM_of (by simp [hk1, hk2]) (Prod.ext rfl hs : stepShapeR [] q.cols L[j] = ((stepShapeR [] q.cols L[j]).1, 0))).1
theorem runS_stop {M : Mkr} {L : List SV} {k : Nat} (h : runS M (L.take k) = none) : runS M L = none := by
 have e : L = L.take k ++ L.drop k := (List.take_append_drop k L).symm
 rw [e, runS_append, h]
 rfl
end Go.Proofs.YtjjkdbmjloolaaaGreatDoor
namespace Go.Proofs.YtjjkdbmjloolaaaGreatDoor
open Go.ChangeShapes Go.WideShapes Go.ChangeAt Go.RowKit Go.Joins
attribute [local go_sem ↓] Go.wp_at_zero Go.wp_at_succ
attribute [local simp] World.cell?_alloc_past World.cell?_alloc_at World.frozen?_alloc_at cell_far cell_off cell_here World.frozen?_alloc_past
def SumOut15 (w : World) (base B : Nat) (M : Mkr) (S : List TI) (cv uv : Value) (e : Ending) (w' : World) : Prop :=
 ∃ M' ov' tv' r, e = .returned (.int .i64 r) ∧ MkAt w' base B M' ov' cv uv tv' ∧ LowK base w w' ∧ (match sumO M S with | none => M'.bad = true | some q => M' = q.2 ∧ r = q.1)
set_option maxRecDepth 100000 in
set_option maxHeartbeats 4000000 in
theorem sum_spec15 (B base : Nat) (M : Mkr) (a : Option Addr) (cap n : Nat) (S : List TI) (hn : S.length = n) (ov cv uv tv : Value) (w : World) (h : MkAt w base B M ov cv uv tv) (hrow : ∀ w', Below base w w' → ItmAt w' a S) (g : GoodM M) (hs : sumB S = true) (hc : ∀ x ∈ S, x.1 = 2 → x.2.2 ∈ M.cols) (hm : M.ops.length + 40 ≤ 1048576) (hbw : base ≤ w.heap.size) :
  Calls Tryz.prog 37 #[.pointer (some ⟨B, 0, none⟩), .slice a n cap] w (SumOut15 w base B M S cv uv) := by
 have HR := hid hrow
 have HG := hid g
 have HN := hid hn
 have HC := hid hc
 have HS := hid (p := heapN S 0 = some 1 ∧ S.length ≤ 40) (by
  have := hs
  unfold sumB at this
  rw [Bool.and_eq_true, decide_eq_true_eq, decide_eq_true_eq] at this
  exact this)
 have hn40 : n ≤ 40 := by rw [← hn]; exact HS.out.2
 have hA : Below w.heap.size w (w.alloc (.cells #[] 2)) := (Below.refl _ _).alloc (Nat.le_refl _) _
 have HM0 := hid (h.below hA)
 have HO0 := hid (p := World.ownsRow (w.alloc (.cells #[] 2)) base 2 1 (.slice (some ⟨w.heap.size, 0, none⟩) 0 0) 0 (intV [])) ⟨rfl, .inr ⟨w.heap.size, 0, #[], rfl, hbw, _root_.Go.heap_alloc_new w _, Nat.le_refl _, by unfold maxLen; omega, rfl, rfl⟩⟩
 have HB0 := hid (LowK.of hbw ((Below.refl w.heap.size w).alloc (Nat.le_refl _) (.cells #[] 2)))
 clear hrow h g hs hn hA hc
 go_enter Tryz.func37, Tryz.ntmps37
 go_wp2
 go_loopw [5, 6] (fun pv kk wr => ∃ (k n' pc' : Nat) (pa' : Option Addr) (M' : Mkr) (ov' tv' : Value) (P' : List Int), k ≤ n ∧ kk = .int .i64 k ∧ pv = .slice pa' n' pc' ∧ Hid (MkAt wr base B M' ov' cv uv tv') ∧ Hid (P'.length = n') ∧ Hid (wr.ownsRow base 2 1 (.slice pa' n' pc') n' (intV P')) ∧ Hid (LowK base w wr) ∧ Hid ((M'.bad = true ∧ runO M S [] = none) ∨ (M'.bad = false ∧ runO M (S.take k) [] = some (P', M')))) (fun _ kk _ => n - (intOf kk).toNat)
 case atStart => exact ⟨0, 0, 0, some ⟨w.heap.size, 0, none⟩, M, ov, tv, [], Nat.zero_le _, rfl, rfl, HM0, rfl, HO0, HB0, .inr ⟨HG.out.bad, rfl⟩⟩
 case round =>
  obtain ⟨k, n', pc', pa', M', ov', tv', P', hk, rfl, rfl, hMk, hP, hO, hbw', hst⟩ := hrel
  obtain ⟨p0, p1, p2, p3, p4⟩ := cells5 hMk.out.box
  have hi0 : (0 : Int) ≤ (k : Int) := by omega
  by_cases hlt : k < n
  · have hi1 : (k : Int) < (n : Int) := by omega
   rcases hst.out with ⟨hb, hno⟩ | ⟨hb, hyes⟩
   · rw [hb] at p4
    have FIN := hid (p := SumOut15 w base B M S cv uv (.returned (.int .i64 0)) wr) ⟨M', ov', tv', 0, rfl, hMk.out, hbw'.out, by unfold sumO; rw [hno]; exact hb⟩
    clear hb hno p0 p1 p2 p3
    go_wp2
    go_ret
    exact FIN.out
   · rw [hb] at p4
    have hlt' : k < S.length := by rw [HN.out]; exact hlt
    obtain ⟨g1, o, rfl, hgw, c0, c1, c2, c3, c4⟩ := HR.out wr hbw'.out.bel k hlt'
    obtain ⟨j1, j2, j3, j4⟩ := runO_good HG.out HS.out.1 HC.out k (P', M') (by omega) hyes
    obtain ⟨m, q1, q2, q3, q4⟩ := heap_at15 hlt' HS.out.1
    have em : P'.length = m := Option.some.inj (j4.symm.trans q1)
    have hX := itemB_range q2
    have hcm : S[k].1 = 2 → S[k].2.2 ∈ M'.cols := fun e => by rw [j2.cols]; exact HC.out _ (List.getElem_mem _) e
    have HST := hid (fun (q : Option (List Int × Mkr)) (e : itemO M' S[k] P' = q) => show runO M (S.take (k + 1)) [] = q by rw [runO_snoc M S k hlt', hyes]; exact e)
    have hpn : P'.length ≤ 40 := by
     have hle : ∀ (l : List TI) (a r : Nat), heapN l a = some r → r ≤ a + l.length := by
      intro l
      induction l with
      | nil => intro a r h; have := Option.some.inj h; simp; omega
      | cons x l ih =>
       intro a r h
       unfold heapN at h
       split at h
       · have := ih _ _ h; simp only [List.length_cons]; omega
       · cases h
     have := hle _ _ _ q1
     rw [List.length_take] at this
     omega
    have hops : M'.ops.length ≤ 1048576 := by
     have e1 : M'.ops.length + M.tr.length = M.ops.length + M'.tr.length := j2.ops
     have e2 : M'.tr.length ≤ 30 := j1.tr
     omega
    generalize S[k]'hlt' = x at c0 c1 c2 c3 c4 q2 q3 q4 hX hcm HST
    obtain ⟨xk, ⟨ca, cb, cc⟩, xs⟩ := x
    dsimp only at c0 c1 c2 c3 c4 q3 q4 hX hcm
    have HIT := hid (item_spec15 B base M' xk ca cb cc xs P' n' hP.out ov' cv uv tv' pa' pc' wr hMk.out hO.out j1 j3 (by rw [← hP.out, em]; exact q3) (fun h1 h2 => hcm (by unfold needsI at h2; split at h2; omega; split at h2 <;> omega)) hX.1 hX.2 hops (by rw [← hP.out]; omega) (Nat.le_trans hbw hbw'.out.size))
    clear hyes hb j1 j2 j3 j4 q1 q2 q3 q4 em hX hcm hpn hops hlt' p0 p1 p2 p3
    go_wp2_with fail
    refine HIT.out.mono ?_
    rintro e w2 ⟨M2, ov2, tv2, pa2, n2, pc2, P2, rfl, hM2, hl2, ho2, hb2, hq2⟩
    have A1 := hid hM2
    have A2 := hid hl2
    have A3 := hid ho2
    have A4 := hid (hbw'.out.trans hb2)
    have A5 := hid (p := (M2.bad = true ∧ runO M S [] = none) ∨ (M2.bad = false ∧ runO M (S.take (k + 1)) [] = some (P2, M2))) (by
     cases hq : itemO M' (xk, (ca, cb, cc), xs) P' with
     | none =>
      rw [hq] at hq2
      exact .inl ⟨hq2, runO_stop (HST.out _ hq)⟩
     | some q =>
      rw [hq] at hq2
      have e := HST.out _ hq
      have eq : q = (P2, M2) := Prod.ext hq2.2.symm hq2.1.symm
      rw [eq] at e
      exact .inr ⟨(runO_good HG.out HS.out.1 HC.out (k + 1) _ (by rw [HN.out]; omega) e).1.bad, e⟩)
    clear hM2 hl2 ho2 hb2 hq2 HIT HST c0 c1 c2 c3 c4 hMk hP hO hst
    go_wp2
    go_roundw
    case rel => exact ⟨k + 1, n2, pc2, pa2, M2, ov2, tv2, P2, by omega, by go_num, rfl, A1, A2, A3, A4, A5⟩
    case measure => simp [intOf]; omega
  · have hkl : k = n := by omega
   subst hkl
   have hnn : ¬ (k : Int) < (k : Int) := by omega
   have htk : S.take k = S := List.take_of_length_le (by rw [HN.out]; exact Nat.le_refl _)
   rcases hst.out with ⟨hb, hno⟩ | ⟨hb, hyes⟩
   · rw [hb] at p4
    have FIN := hid (p := SumOut15 w base B M S cv uv (.returned (.int .i64 0)) wr) ⟨M', ov', tv', 0, rfl, hMk.out, hbw'.out, by unfold sumO; rw [hno]; exact hb⟩
    clear hb hno p0 p1 p2 p3 htk
    go_wp2
    go_ret
    exact FIN.out
   · rw [hb] at p4
    obtain ⟨_, _, _, j4⟩ := runO_good HG.out HS.out.1 HC.out k (P', M') (by rw [HN.out]; omega) hyes
    rw [htk] at j4 hyes
    have hl1 : P'.length = 1 := Option.some.inj (j4.symm.trans HS.out.1)
    have hn1 : n' = 1 := by rw [← hP.out]; exact hl1
    subst hn1
    obtain ⟨r, hr⟩ : ∃ r, P'.getD 0 0 = r := ⟨_, rfl⟩
    obtain ⟨gp, rfl⟩ : ∃ gp, pa' = some ⟨gp, 0, none⟩ := by
     rcases hO.out.2 with ⟨_, e0⟩ | ⟨g', c', cur, e, _⟩
     · cases e0
     · cases e; exact ⟨g', rfl⟩
    have hc0 : wr.cell? ⟨gp, 0, none⟩ = some (.int .i64 r) := by
     refine (hO.out.cellAt 0 (by omega)).trans ?_
     unfold intV
     rw [List.getElem?_map, List.getElem?_eq_getElem (by omega), ← hr, List.getD_eq_getElem?_getD, List.getElem?_eq_getElem (by omega)]
     rfl
    have FIN := hid (p := SumOut15 w base B M S cv uv (.returned (.int .i64 r)) wr) ⟨M', ov', tv', r, rfl, hMk.out, hbw'.out, by unfold sumO; rw [hyes]; exact ⟨rfl, hr.symm⟩⟩
    clear hb hyes p0 p1 p2 p3 htk hr j4 hl1
    go_wp2
    go_ret
    exact FIN.out
end Go.Proofs.YtjjkdbmjloolaaaGreatDoor
namespace Go.Proofs.YtjjkdbmjloolaaaGreatDoor
open Go.ChangeShapes Go.WideShapes Go.ChangeAt Go.RowKit Go.Deep
theorem open_itms {H : Type} {enc : TypeId × Value → H} {P : Program} {w : World} {base : Nat} {spare : Nat → Bool} {held : Bool} {t e : TypeId} {f0 f1 f2 g0 g1 g2 : Field} {fuel : Nat} {a : Option Addr} {len cap : Nat} {x : DataW H × List MemPlace}
  (ht : P.underlying t = some (.slice e)) (he : P.underlying e = some (.struct #[f0, f1, f2])) (hce : P.underlying f1.type = some (.struct #[g0, g1, g2])) (kk : P.cellsOf e = 5)
  (o0 : f0.offset = 0) (o1 : f1.offset = 1) (o2 : f2.offset = 4) (p0 : g0.offset = 0) (p1 : g1.offset = 1) (p2 : g2.offset = 2)
  (c0 : P.cellsOf f0.type = 1) (c1 : P.cellsOf f1.type = 3) (c2 : P.cellsOf f2.type = 1) (d0 : P.cellsOf g0.type = 1) (d1 : P.cellsOf g1.type = 1) (d2 : P.cellsOf g2.type = 1)
  (u0 : P.underlying f0.type = some (.int .i64)) (u1 : P.underlying f2.type = some .string) (v0 : P.underlying g0.type = some (.int .i64)) (v1 : P.underlying g1.type = some (.int .i64)) (v2 : P.underlying g2.type = some .string)
  (h : DataW.trod enc P w base spare held fuel t [.slice a len cap] = some x) :
  ∃ l : List TI, l.length = len ∧ ItmAt w a l ∧ FitItm l ∧ len ≤ maxLen ∧ (a = none → cap = 0) := by
 rcases open_slice ht h with ⟨h0, _⟩ | ⟨ad, len', cap', m, n, D, Pl, hcs, hb, hl, hm, hmm, _, hx⟩
 · simp at h0
  obtain ⟨rfl, rfl, rfl⟩ := h0
  exact ⟨[], rfl, fun j hj => by simp at hj, fun j hj => by simp at hj, by unfold maxLen; omega, fun _ => rfl⟩
 simp at hcs
 obtain ⟨rfl, rfl, rfl⟩ := hcs
 have hlm : len ≤ m := by rw [hmm]; split <;> omega
 have each : ∀ i, i < len → ∃ q : TI, w.cell? (ad.add (i * 5)) = some (.int .i64 q.1) ∧ w.cell? (ad.add (i * 5 + 1)) = some (.int .i64 q.2.1.1) ∧ w.cell? (ad.add (i * 5 + 2)) = some (.int .i64 q.2.1.2.1) ∧ w.cell? (ad.add (i * 5 + 3)) = some (.string q.2.1.2.2) ∧ w.cell? (ad.add (i * 5 + 4)) = some (.string q.2.2) ∧ q.2.1.2.2.size ≤ maxLen ∧ q.2.2.size ≤ maxLen := by
  intro i hi
  obtain ⟨cs', h1, h2⟩ := hx i (by omega)
  rw [kk] at h1
  obtain ⟨_, hlen, hcell⟩ := World.cells?_some h1
  obtain ⟨xs, k, hk, hxy, _, hxl, hf⟩ := DataW.trod_struct he h2
  match xs, hxl, cs', hlen with
  | [y0, y1, y2], _, [w0, w1, w2, w3, w4], _ =>
   have q0 := hf 0 f0 rfl
   have q1 := hf 1 f1 rfl
   have q2 := hf 2 f2 rfl
   simp [o0, o1, o2, c0, c1, c2] at q0 q1 q2
   obtain ⟨ys, k2, hk2, hyy, _, hyl, hg⟩ := DataW.trod_struct hce q1
   match ys, hyl with
   | [z0, z1, z2], _ =>
    have r0 := hg 0 g0 rfl
    have r1 := hg 1 g1 rfl
    have r2 := hg 2 g2 rfl
    simp [p0, p1, p2, d0, d1, d2] at r0 r1 r2
    have e0 := hcell 0 (by omega)
    have e1 := hcell 1 (by omega)
    have e2 := hcell 2 (by omega)
    have e3 := hcell 3 (by omega)
    have e4 := hcell 4 (by omega)
    rw [add_add] at e0 e1 e2 e3 e4
    obtain ⟨k0, ek, _, _⟩ := DataW.trod_int u0 q0
    obtain ⟨s0, es, _, hs⟩ := DataW.trod_string u1 q2
    obtain ⟨k1, ek1, _, _⟩ := DataW.trod_int v0 r0
    obtain ⟨n1, en1, _, _⟩ := DataW.trod_int v1 r1
    obtain ⟨s1, es1, _, hs1⟩ := DataW.trod_string v2 r2
    simp at ek es ek1 en1 es1
    subst ek es ek1 en1 es1
    exact ⟨(k0, (k1, n1, s1), s0), by simpa using e0, by simpa using e1, by simpa using e2, by simpa using e3, by simpa using e4, hs1, hs⟩
 obtain ⟨q, hq⟩ := choose_lt each
 have spot : 0 < len → ad.spot = none := by
  intro h0
  obtain ⟨e0, _⟩ := hq 0 h0
  simpa [Addr.add] using World.cell?_spot e0
 refine ⟨(List.range len).map q, by simp, ?_, ?_, by omega, fun h => by cases h⟩
 · intro j hj
  have hj' : j < len := by simpa using hj
  obtain ⟨b, o, sp⟩ := ad
  have hsp := spot (by omega)
  simp at hsp
  subst hsp
  obtain ⟨e0, e1, e2, e3, e4, _⟩ := hq j hj'
  have hadd : ∀ q, ((⟨b, o, none⟩ : Addr).add q) = ⟨b, o + q, none⟩ := by
   intro q
   unfold Addr.add
   by_cases hq : q = 0 <;> simp [hq]
  rw [hadd] at e0 e1 e2 e3 e4
  refine ⟨b, o, rfl, World.block_lt_of_cell? w _ e0, ?_, ?_, ?_, ?_, ?_⟩
  · simpa using e0
  · simpa [Nat.add_assoc] using e1
  · simpa [Nat.add_assoc] using e2
  · simpa [Nat.add_assoc] using e3
  · simpa [Nat.add_assoc] using e4
 · intro j hj
  have hj' : j < len := by simpa using hj
  simpa using (hq j hj').2.2.2.2.2
theorem eqsI (n : Nat) (a b : Option Addr) (ca cb : Nat) (l : List TI) (hn : l.length = n) (w : World) (ha : ItmAt w a l) (hb : ItmAt w b l) (hm : n ≤ maxLen) :
  Calls Tryz.prog 49 #[.slice a n ca, .slice b n cb] w fun e w' => e = .returned (.bool true) ∧ Below w.heap.size w w' := by
 subst hn; exact eqsItm a b ca cb l w ha hb hm
theorem oneI_le {l : List TI} {x : TI} (h : x ∈ l) : oneItm x ≤ weightItm l := by
 unfold weightItm
 obtain ⟨j, hj, rfl⟩ := List.mem_iff_getElem.1 h
 have h1 := weightItm_take l j hj
 have h2 := weightItm_le l (j + 1)
 unfold weightItm at h1 h2
 omega
end Go.Proofs.YtjjkdbmjloolaaaGreatDoor
