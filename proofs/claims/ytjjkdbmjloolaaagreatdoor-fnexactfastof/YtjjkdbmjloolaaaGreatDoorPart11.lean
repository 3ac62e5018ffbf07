/-
  A part of the proof: Walk6, Walk7, Walk8, Truth, Three1, RkMath, ShpMath, FastMk2.
-/
import Derived.Test.YtjjkdbmjloolaaaGreatDoorPart10
import Derived.Deep.QuietTactic
import Derived.BigQuiet
import Derived.Test.YtjjkdbmjloolaaaGreatDoorPart1
import Derived.Deep.RegionHeld3
import Derived.Deep.DeepCutAuto
import Derived.Deep.DrawnRows
import Derived.Test.YtjjkdbmjloolaaaGreatDoorPart2
import Derived.Test.YtjjkdbmjloolaaaGreatDoorPart6
import Derived.Test.YtjjkdbmjloolaaaGreatDoorPart5
import Derived.Test.YtjjkdbmjloolaaaGreatDoorPart8
import Derived.Test.YtjjkdbmjloolaaaGreatDoorPart9
import Derived.Test.YtjjkdbmjloolaaaGreatDoorPart3

namespace Go.Proofs.YtjjkdbmjloolaaaGreatDoor
open Go.ChangeShapes Go.WideShapes Go.ChangeAt Go.RowKit
end Go.Proofs.YtjjkdbmjloolaaaGreatDoor
namespace Go.Proofs.YtjjkdbmjloolaaaGreatDoor
open Go.ChangeShapes Go.WideShapes Go.ChangeAt Go.RowKit
attribute [local go_sem ↓] Go.wp_at_zero Go.wp_at_succ
attribute [local simp] World.cell?_alloc_past World.cell?_alloc_at World.frozen?_alloc_at cell_far cell_off cell_here World.frozen?_alloc_past
end Go.Proofs.YtjjkdbmjloolaaaGreatDoor
namespace Go.Proofs.YtjjkdbmjloolaaaGreatDoor
open Go.ChangeShapes Go.WideShapes Go.ChangeAt Go.RowKit
theorem truth_impl (b : Bool) (w : World) :
  Calls Tryz.prog 174 #[.bool b] w fun e w' => e = .returned (.agg #[.int .i64 3, .int .i64 (if b = true then 1 else 0), .string ⟨#[]⟩]) ∧ Below w.heap.size w w' := by
 cases b
 · go_enter Tryz.func174, Tryz.ntmps174
  go_wp2_with fail
  refine (cell3 _ _).mono ?_
  rintro e w1 ⟨rfl, hb1⟩
  obtain ⟨⟨a1, b1, c1, d1⟩, f0, f1, f2⟩ := box3F hb1
  have hx := chainA hb1
  go_wp2
  exact bodyPost_ret (v := .agg #[.int .i64 3, .int .i64 0, .string ⟨#[]⟩]) (by simp [results, Tryz.results174, go_sem, a1, b1, c1]) rfl ⟨rfl, by go_grown⟩
 · go_enter Tryz.func174, Tryz.ntmps174
  go_wp2_with fail
  refine (cell3 _ _).mono ?_
  rintro e w1 ⟨rfl, hb1⟩
  obtain ⟨⟨a1, b1, c1, d1⟩, f0, f1, f2⟩ := box3F hb1
  have hx := chainA hb1
  go_wp2
  exact bodyPost_ret (v := .agg #[.int .i64 3, .int .i64 1, .string ⟨#[]⟩]) (by simp [results, Tryz.results174, go_sem, a1, b1, c1]) rfl ⟨rfl, by go_grown⟩
theorem truth_implb (b : Bool) (n : Int) (hn : (if b = true then 1 else 0) = n) (w : World) :
  Calls Tryz.prog 174 #[.bool b] w fun e w' => e = .returned (.agg #[.int .i64 3, .int .i64 n, .string ⟨#[]⟩]) ∧ Below w.heap.size w w' := by
 subst hn; exact truth_impl b w
end Go.Proofs.YtjjkdbmjloolaaaGreatDoor
namespace Go.Proofs.YtjjkdbmjloolaaaGreatDoor
def colR : List ByteArray → List CK → ByteArray → CK
 | c :: C, r :: R, s => if c = s then r else colR C R s
 | _, _, _ => zeroC
def hasC (C : List ByteArray) (l : List TI) : Bool := l.all fun x => !(decide (x.1 = 2)) || C.any (fun c => decide (c = x.2.2))
def manyC (l : List ByteArray) : List ByteArray × Int := if l.length ≤ 6 then (l, 0) else ([], 4)
def countT : ByteArray := ⟨#[99, 111, 117, 110, 116]⟩
def findT (T : List TB) (s : ByteArray) : Option TB := T.find? (fun t => decide (t.1 = s))
def colsOf (T : List TB) (s : ByteArray) : List ByteArray := ((findT T s).map (·.2.1)).getD []
def stepC (T : List TB) (C : List ByteArray) (s : SV) : List ByteArray × Int :=
 if s.kind = 2 then (if hasC C s.sum = true then manyC C else ([], 3))
 else if s.kind = 3 then (if inB C s.name = true then ([], 2) else if hasC C s.sum = true then manyC (C ++ [s.name]) else ([], 3))
 else if s.kind = 5 ∨ s.kind = 6 then
  (if inB (namesT T) s.name = false then ([], 1) else if (colsOf T s.name).any (inB C) = true then ([], 2) else if hasC (C ++ colsOf T s.name) s.sum = true then manyC (C ++ colsOf T s.name) else ([], 3))
 else if s.kind = 4 then (if s.names.all (inB C) = true then manyC s.names else ([], 3))
 else if s.kind = 7 then (if s.names.all (inB C) = true then (if inB s.names countT = true then ([], 2) else manyC (s.names ++ [countT])) else ([], 3))
 else if s.kind = 8 then (if inB C s.name = true then manyC C else ([], 3))
 else manyC C
theorem stepC_2 (T : List TB) (C : List ByteArray) (nm : ByteArray) (N : List ByteArray) (S : List TI) (dn : Bool) (ct sk : Int) : stepC T C ⟨2, nm, N, S, dn, ct, sk⟩ = if hasC C S = true then manyC C else ([], 3) := by simp [stepC]
theorem stepC_3 (T : List TB) (C : List ByteArray) (nm : ByteArray) (N : List ByteArray) (S : List TI) (dn : Bool) (ct sk : Int) : stepC T C ⟨3, nm, N, S, dn, ct, sk⟩ = if inB C nm = true then ([], 2) else if hasC C S = true then manyC (C ++ [nm]) else ([], 3) := by simp [stepC]
theorem stepC_4 (T : List TB) (C : List ByteArray) (nm : ByteArray) (N : List ByteArray) (S : List TI) (dn : Bool) (ct sk : Int) : stepC T C ⟨4, nm, N, S, dn, ct, sk⟩ = if N.all (inB C) = true then manyC N else ([], 3) := by simp [stepC]
theorem stepC_join (k : Int) (hk : k = 5 ∨ k = 6) (T : List TB) (C : List ByteArray) (nm : ByteArray) (N : List ByteArray) (S : List TI) (dn : Bool) (ct sk : Int) : stepC T C ⟨k, nm, N, S, dn, ct, sk⟩ = if inB (namesT T) nm = false then ([], 1) else if (colsOf T nm).any (inB C) = true then ([], 2) else if hasC (C ++ colsOf T nm) S = true then manyC (C ++ colsOf T nm) else ([], 3) := by rcases hk with rfl | rfl <;> simp [stepC]
theorem stepC_7 (T : List TB) (C : List ByteArray) (nm : ByteArray) (N : List ByteArray) (S : List TI) (dn : Bool) (ct sk : Int) : stepC T C ⟨7, nm, N, S, dn, ct, sk⟩ = if N.all (inB C) = true then (if inB N countT = true then ([], 2) else manyC (N ++ [countT])) else ([], 3) := by simp [stepC]
theorem stepC_8 (T : List TB) (C : List ByteArray) (nm : ByteArray) (N : List ByteArray) (S : List TI) (dn : Bool) (ct sk : Int) : stepC T C ⟨8, nm, N, S, dn, ct, sk⟩ = if inB C nm = true then manyC C else ([], 3) := by simp [stepC]
theorem stepC_9 (T : List TB) (C : List ByteArray) (nm : ByteArray) (N : List ByteArray) (S : List TI) (dn : Bool) (ct sk : Int) : stepC T C ⟨9, nm, N, S, dn, ct, sk⟩ = manyC C := by simp [stepC]
theorem stepC_10 (T : List TB) (C : List ByteArray) (nm : ByteArray) (N : List ByteArray) (S : List TI) (dn : Bool) (ct sk : Int) : stepC T C ⟨10, nm, N, S, dn, ct, sk⟩ = manyC C := by simp [stepC]
def stepShapeR (T : List TB) (C : List ByteArray) (s : SV) : List ByteArray × Int :=
 if ((baseB T && namesB C 1 6) && sieveB s) = true ∧ s.kind ≠ 1 then stepC T C s else ([], 5)
theorem manyC_ok {l D : List ByteArray} (h : manyC l = (D, 0)) : D = l ∧ l.length ≤ 6 := by
 unfold manyC at h
 split at h
 · rename_i h6
  injection h with e1 _
  exact ⟨e1.symm, h6⟩
 · injection h with _ e
  exact absurd e (by decide)
theorem findT_some {T : List TB} {s : ByteArray} {t : TB} (h : findT T s = some t) : t ∈ T ∧ t.1 = s := by
 unfold findT at h
 exact ⟨List.mem_of_find?_eq_some h, by simpa using List.find?_some h⟩
theorem findT_iff {T : List TB} {s : ByteArray} : (findT T s).isSome = true ↔ s ∈ namesT T := by
 unfold findT namesT
 rw [List.find?_isSome, List.mem_map]
 simp only [decide_eq_true_eq]
theorem findT_at {T : List TB} {s : ByteArray} {k : Nat} (hk : k < T.length) (he : T[k].1 = s) (hf : ∀ j (hj : j < T.length), j < k → T[j].1 ≠ s) : findT T s = some T[k] := by
 unfold findT
 rw [List.find?_eq_some_iff_getElem]
 exact ⟨by simpa using he, k, hk, rfl, fun j hj => by simpa using hf j (by omega) hj⟩
theorem cols_at {T : List TB} {s : ByteArray} {r : Int} (h : AtIs (namesT T) s r) : (r = -1 ∧ s ∉ namesT T) ∨ ∃ k, ∃ hk : k < T.length, r = (k : Int) ∧ findT T s = some T[k] ∧ colsOf T s = T[k].2.1 ∧ s ∈ namesT T := by
 rcases h with ⟨rfl, h⟩ | ⟨k, hk, rfl, he, hf⟩
 · exact .inl ⟨rfl, h⟩
 · have hk2 := hk
  rw [namesT_length] at hk2
  rw [namesT_at T k hk2] at he
  have h2 := findT_at hk2 he (fun j hj hjk => by
   have := hf j (by rw [namesT_length]; exact hj) hjk
   rw [namesT_at T j hj] at this
   exact this)
  refine .inr ⟨k, hk2, rfl, h2, by unfold colsOf; rw [h2]; rfl, ?_⟩
  rw [← findT_iff, h2]; rfl
theorem base_table {T : List TB} {t : TB} (hb : baseB T = true) (ht : t ∈ T) : tableB t = true := by
 unfold baseB at hb
 simp only [Bool.and_eq_true, List.all_eq_true] at hb
 exact hb.1.1 t ht
theorem table_names {t : TB} (h : tableB t = true) : namesB t.2.1 1 6 = true := by
 unfold tableB at h
 simp only [Bool.and_eq_true] at h
 exact h.1.2.1
theorem cols_names {T : List TB} {s : ByteArray} (hb : baseB T = true) (hs : s ∈ namesT T) : namesB (colsOf T s) 1 6 = true := by
 obtain ⟨t, ht⟩ := Option.isSome_iff_exists.1 (findT_iff.2 hs)
 have := table_names (base_table hb (findT_some ht).1)
 unfold colsOf
 rw [ht]
 exact this
theorem namesB_iff {l : List ByteArray} {lo hi : Int} : namesB l lo hi = true ↔ (∀ x ∈ l, nameB x = true) ∧ l.Nodup ∧ lo ≤ (l.length : Int) ∧ (l.length : Int) ≤ hi := by
 unfold namesB namesD
 simp only [Bool.and_eq_true, decide_eq_true_eq, List.all_eq_true]
 constructor
 · rintro ⟨⟨a, b⟩, c, d⟩; exact ⟨a, b, c, d⟩
 · rintro ⟨a, b, c, d⟩; exact ⟨⟨a, b⟩, c, d⟩
theorem count_name : nameB countT = true := by decide
theorem stepC_ok {T : List TB} {C D : List ByteArray} {s : SV} (hT : baseB T = true) (hC : namesB C 1 6 = true) (hs : sieveB s = true) (h : stepC T C s = (D, 0)) : namesB D 1 6 = true := by
 have bad : ∀ {k : Int}, k ≠ 0 → (([] : List ByteArray), k) = (D, 0) → False := by
  intro k hk e; injection e with _ e; exact hk e
 obtain ⟨c1, c2, c3, c4⟩ := namesB_iff.1 hC
 have many : ∀ l, (∀ x ∈ l, nameB x = true) → l.Nodup → 1 ≤ l.length → manyC l = (D, 0) → namesB D 1 6 = true := by
  intro l h1 h2 h3 e
  obtain ⟨rfl, h6⟩ := manyC_ok e
  exact namesB_iff.2 ⟨h1, h2, by omega, by omega⟩
 have same : manyC C = (D, 0) → namesB D 1 6 = true := many C c1 c2 (by omega)
 obtain ⟨kd, nm, N, S, dn, ct, sk⟩ := s
 unfold stepC at h
 rcases sieve_kind hs with e | e | e | e | e | e | e | e | e | e <;> (dsimp only at e; subst e; simp only [Int.reduceEq, if_true, if_false, or_false, or_true] at h)
 · exact same h
 · split at h
  · exact same h
  · exact (bad (by decide) h).elim
 · split at h
  · exact (bad (by decide) h).elim
  · rename_i hn
   split at h
   · have hk : nameK nm = true := by
     simp [sieveB, bareB, nameS, sumS, listS] at hs
     exact hs.2.2.1
    refine many _ ?_ ?_ (by simp) h
    · intro x hx
     rcases List.mem_append.1 hx with hx | hx
     · exact c1 x hx
     · obtain rfl := List.mem_singleton.1 hx
      exact nameK_nameB hk
    · rw [List.nodup_append]
     exact ⟨c2, by simp, fun a ha b hb e => by rw [List.mem_singleton] at hb; subst hb; subst e; exact hn (inB_iff.2 ha)⟩
   · exact (bad (by decide) h).elim
 · split at h
  · have hk : names10 N 1 6 = true := by
    simp [sieveB] at hs
    exact hs.2
   unfold names10 at hk
   rw [Bool.and_eq_true] at hk
   obtain ⟨d1, d2, d3, d4⟩ := namesB_iff.1 hk.2
   exact many N d1 d2 (by omega) h
  · exact (bad (by decide) h).elim
 · split at h
  · exact (bad (by decide) h).elim
  · rename_i hn
   split at h
   · exact (bad (by decide) h).elim
   · rename_i hd
    split at h
    · obtain ⟨d1, d2, d3, d4⟩ := namesB_iff.1 (cols_names hT (inB_iff.1 (by simpa using hn)))
     refine many _ ?_ ?_ (by rw [List.length_append]; omega) h
     · intro x hx
      rcases List.mem_append.1 hx with hx | hx
      · exact c1 x hx
      · exact d1 x hx
     · rw [List.nodup_append]
      refine ⟨c2, d2, fun a ha b hb e => hd ?_⟩
      rw [List.any_eq_true]
      exact ⟨b, hb, inB_iff.2 (e ▸ ha)⟩
    · exact (bad (by decide) h).elim
 · split at h
  · exact (bad (by decide) h).elim
  · rename_i hn
   split at h
   · exact (bad (by decide) h).elim
   · rename_i hd
    split at h
    · obtain ⟨d1, d2, d3, d4⟩ := namesB_iff.1 (cols_names hT (inB_iff.1 (by simpa using hn)))
     refine many _ ?_ ?_ (by rw [List.length_append]; omega) h
     · intro x hx
      rcases List.mem_append.1 hx with hx | hx
      · exact c1 x hx
      · exact d1 x hx
     · rw [List.nodup_append]
      refine ⟨c2, d2, fun a ha b hb e => hd ?_⟩
      rw [List.any_eq_true]
      exact ⟨b, hb, inB_iff.2 (e ▸ ha)⟩
    · exact (bad (by decide) h).elim
 · split at h
  · split at h
   · exact (bad (by decide) h).elim
   · rename_i hc
    have hk : names10 N 0 4 = true := by
     simp [sieveB] at hs
     exact hs.2
    unfold names10 at hk
    rw [Bool.and_eq_true] at hk
    obtain ⟨d1, d2, d3, d4⟩ := namesB_iff.1 hk.2
    refine many _ ?_ ?_ (by simp) h
    · intro x hx
     rcases List.mem_append.1 hx with hx | hx
     · exact d1 x hx
     · obtain rfl := List.mem_singleton.1 hx
      exact count_name
    · rw [List.nodup_append]
     exact ⟨d2, by simp, fun a ha b hb e => by rw [List.mem_singleton] at hb; subst hb; subst e; exact hc (inB_iff.2 ha)⟩
  · exact (bad (by decide) h).elim
 · split at h
  · exact same h
  · exact (bad (by decide) h).elim
 · exact same h
 · exact same h
def plcF : List ByteArray → ByteArray → Nat
 | [], _ => 0
 | c :: C, s => if c = s then 0 else plcF C s + 1
theorem plc_at : ∀ {C : List ByteArray} {s : ByteArray}, s ∈ C → ∃ h : plcF C s < C.length, C[plcF C s] = s ∧ ∀ j (hj : j < C.length), j < plcF C s → C[j] ≠ s
 | [], _, h => absurd h (by simp)
 | c :: C, s, h => by
  unfold plcF
  by_cases e : c = s
  · simp only [if_pos e]
   exact ⟨by simp, e, fun j _ hj => by omega⟩
  · simp only [if_neg e]
   have h2 : s ∈ C := by
    rcases List.mem_cons.1 h with h3 | h3
    · exact absurd h3.symm e
    · exact h3
   obtain ⟨k1, k2, k3⟩ := plc_at h2
   refine ⟨by simpa using k1, by simpa using k2, fun j hj hlt => ?_⟩
   cases j with
   | zero => exact e
   | succ j => exact k3 j (by simpa using hj) (by omega)
theorem plc_is {C : List ByteArray} {s : ByteArray} (h : s ∈ C) : AtIs C s (plcF C s : Int) := by
 obtain ⟨k1, k2, k3⟩ := plc_at h
 exact .inr ⟨_, k1, rfl, k2, k3⟩
def zU : FU := (0, 0, false)
def newO (M : Mkr) (o : FO) (t : Bool) : Option (Int × Mkr) := if M.tr.length = 30 then none else some (newM M o t)
def leafO (M : Mkr) (x : TI) : Option (Int × Mkr) :=
 if x.1 = 1 then (if x.2.1.1 = 1 ∨ x.2.1.1 = 3 then newO M (2, 0, x.2.1.2.1, 0) (decide (x.2.1.1 = 3)) else none)
 else if 0 ≤ (M.outs.getD (plcF M.cols x.2.2) zU).2.1 then some ((M.outs.getD (plcF M.cols x.2.2) zU).2.1, M) else newO M (1, 0, (M.outs.getD (plcF M.cols x.2.2) zU).1, 0) false
def trB (M : Mkr) (r : Int) : Bool := M.tr.getD r.toNat false
def wantB (k : Int) (s t : Bool) : Bool := if t ≠ s then false else if k ≤ 6 then !s else if 9 ≤ k then s else true
def itemO (M : Mkr) (x : TI) (p : List Int) : Option (List Int × Mkr) :=
 if needsI x.1 = 0 then (leafO M x).map fun q => (p ++ [q.1], q.2)
 else if x.1 = 12 then (newO M (2, 0, 0, 0) true).map fun q => (p.take (p.length - 1) ++ [q.1], q.2)
 else if x.1 = 11 then (if trB M (p.getD (p.length - 1) 0) = true then (newO M (11, 0, p.getD (p.length - 1) 0, 0) true).map fun q => (p.take (p.length - 1) ++ [q.1], q.2) else none)
 else if wantB x.1 (trB M (p.getD (p.length - 2) 0)) (trB M (p.getD (p.length - 1) 0)) = true then (newO M (x.1, 0, p.getD (p.length - 2) 0, p.getD (p.length - 1) 0) (decide (6 < x.1))).map fun q => (p.take (p.length - 2) ++ [q.1], q.2)
 else none
def runO : Mkr → List TI → List Int → Option (List Int × Mkr)
 | M, [], p => some (p, M)
 | M, x :: l, p => (itemO M x p).bind fun q => runO q.2 l q.1
theorem runO_append : ∀ (l m : List TI) (M : Mkr) (p : List Int), runO M (l ++ m) p = (runO M l p).bind fun q => runO q.2 m q.1
 | [], _, _, _ => rfl
 | x :: l, m, M, p => by
  show ((itemO M x p).bind fun q => runO q.2 (l ++ m) q.1) = ((itemO M x p).bind fun q => runO q.2 l q.1).bind _
  cases itemO M x p with
  | none => rfl
  | some q => exact runO_append l m q.2 q.1
theorem runO_snoc (M : Mkr) (l : List TI) (k : Nat) (h : k < l.length) (p : List Int) : runO M (l.take (k + 1)) p = (runO M (l.take k) p).bind fun q => itemO q.2 l[k] q.1 := by
 rw [List.take_succ_eq_append_getElem h, runO_append]
 congr 1
 funext q
 show ((itemO q.2 l[k] q.1).bind fun r => some (r.1, r.2)) = _
 cases itemO q.2 l[k] q.1 <;> rfl
def sumO (M : Mkr) (S : List TI) : Option (Int × Mkr) := (runO M S []).map fun q => (q.1.getD 0 0, q.2)
def sieveO (M : Mkr) (s : SV) : Option Mkr :=
 if s.kind = 2 then (sumO M s.sum).bind fun q => if trB q.2 q.1 = true then some { q.2 with ops := q.2.ops ++ [(12, 0, q.1, 0)] } else none
 else if s.kind = 3 then (sumO M s.sum).map fun q => { q.2 with cols := q.2.cols ++ [s.name], outs := q.2.outs ++ [(-1, q.1, trB q.2 q.1)] }
 else some { M with cols := s.names, outs := s.names.map fun n => M.outs.getD (plcF M.cols n) zU }
def runS : Mkr → List SV → Option Mkr
 | M, [] => some M
 | M, s :: l => (sieveO M s).bind fun q => runS q l
theorem runS_append : ∀ (l m : List SV) (M : Mkr), runS M (l ++ m) = (runS M l).bind fun q => runS q m
 | [], _, _ => rfl
 | x :: l, m, M => by
  show ((sieveO M x).bind fun q => runS q (l ++ m)) = ((sieveO M x).bind fun q => runS q l).bind _
  cases sieveO M x with
  | none => rfl
  | some q => exact runS_append l m q
theorem runS_snoc (M : Mkr) (l : List SV) (k : Nat) (h : k < l.length) : runS M (l.take (k + 1)) = (runS M (l.take k)).bind fun q => sieveO q l[k] := by
 rw [List.take_succ_eq_append_getElem h, runS_append]
 congr 1
 funext q
 show ((sieveO q l[k]).bind fun r => some r) = _
 cases sieveO q l[k] <;> rfl
def outsOf (n : Nat) : List FU := (List.range n).map fun (k : Nat) => ((k : Int), (-1 : Int), false)
def startM (C : List ByteArray) : Mkr := { ops := [], cols := C, outs := outsOf C.length, tr := [], bad := false }
def fitsF3 : List ByteArray → List SV → Bool
 | _, [] => true
 | C, s :: l => (decide (2 ≤ s.kind) && decide (s.kind ≤ 4)) && (decide ((stepShapeR [] C s).2 = 0) && fitsF3 (stepShapeR [] C s).1 l)
def fastR (C : List ByteArray) (l : List SV) : Option Mkr :=
 if (namesB C 1 6 && decide (l.length ≤ 8)) && fitsF3 C l then runS (startM C) l else none
structure GoodM (M : Mkr) : Prop where
 bad : M.bad = false
 tr : M.tr.length ≤ 30
 len : M.outs.length = M.cols.length
 outs : ∀ u ∈ M.outs, (u.2.1 = -1 ∧ u.2.2 = false ∧ 0 ≤ u.1) ∨ (u.1 = -1 ∧ 0 ≤ u.2.1 ∧ u.2.1 < M.tr.length ∧ u.2.2 = trB M u.2.1)
theorem trB_more {l : List Bool} {t : Bool} {r : Int} (h0 : 0 ≤ r) (h : r < l.length) : (l ++ [t]).getD r.toNat false = l.getD r.toNat false := by
 rw [List.getD_eq_getElem?_getD, List.getD_eq_getElem?_getD, List.getElem?_append_left (by omega)]
theorem newO_good {M : Mkr} {o : FO} {t : Bool} {q : Int × Mkr} (g : GoodM M) (h : newO M o t = some q) : GoodM q.2 ∧ q.1 = M.tr.length ∧ q.2.cols = M.cols ∧ q.2.outs = M.outs ∧ q.2.tr = M.tr ++ [t] ∧ q.2.ops = M.ops ++ [(o.1, q.1, o.2.2.1, o.2.2.2)] ∧ M.tr.length < 30 := by
 unfold newO at h
 split at h
 · cases h
 · rename_i h30
  injection h with h
  subst h
  have e : newM M o t = ((M.tr.length : Int), { M with ops := M.ops ++ [(o.1, (M.tr.length : Int), o.2.2.1, o.2.2.2)], tr := M.tr ++ [t] }) := by unfold newM; rw [if_neg h30]
  rw [e]
  have htr := g.tr
  refine ⟨⟨g.bad, by simp; omega, g.len, fun u hu => ?_⟩, rfl, rfl, rfl, rfl, rfl, by omega⟩
  rcases g.outs u hu with h1 | ⟨h1, h2, h3, h4⟩
  · exact .inl h1
  · refine .inr ⟨h1, h2, by simp; omega, h4.trans ?_⟩
   exact (trB_more h2 h3).symm
theorem trB_new {M : Mkr} {o : FO} {t : Bool} {q : Int × Mkr} (g : GoodM M) (h : newO M o t = some q) : trB q.2 q.1 = t := by
 obtain ⟨_, h1, _, _, h2, _⟩ := newO_good g h
 unfold trB
 rw [h2, h1, Int.toNat_natCast, List.getD_eq_getElem?_getD, List.getElem?_append_right (Nat.le_refl _)]
 simp
structure GrowM (M q : Mkr) : Prop where
 ops : q.ops.length + M.tr.length = M.ops.length + q.tr.length
 le : M.tr.length ≤ q.tr.length
 cols : q.cols = M.cols
 outs : q.outs = M.outs
 tr : ∀ r : Int, 0 ≤ r → r < (M.tr.length : Int) → trB q r = trB M r
theorem GrowM.refl (M : Mkr) : GrowM M M := ⟨rfl, Nat.le_refl _, rfl, rfl, fun _ _ _ => rfl⟩
theorem GrowM.trans {a b c : Mkr} (h : GrowM a b) (k : GrowM b c) : GrowM a c :=
 ⟨by have := h.ops; have := k.ops; omega, Nat.le_trans h.le k.le, k.cols.trans h.cols, k.outs.trans h.outs, fun r h0 h1 => (k.tr r h0 (by have := h.le; omega)).trans (h.tr r h0 h1)⟩
def RegsM (M : Mkr) (p : List Int) : Prop := ∀ r ∈ p, 0 ≤ r ∧ r < (M.tr.length : Int)
theorem newO_grow {M : Mkr} {o : FO} {t : Bool} {q : Int × Mkr} (g : GoodM M) (h : newO M o t = some q) : GoodM q.2 ∧ GrowM M q.2 ∧ 0 ≤ q.1 ∧ q.1 < (q.2.tr.length : Int) := by
 obtain ⟨k1, k2, k3, k4, k5, k6, k7⟩ := newO_good g h
 refine ⟨k1, ⟨?_, ?_, k3, k4, fun r h0 h1 => ?_⟩, by omega, ?_⟩
 · rw [k6, k5]; simp; omega
 · rw [k5]; simp
 · unfold trB; rw [k5]; exact trB_more h0 h1
 · rw [k2, k5]; simp; omega
theorem getD_mem {l : List Int} {k : Nat} (h : k < l.length) : l.getD k 0 ∈ l := by
 rw [List.getD_eq_getElem?_getD, List.getElem?_eq_getElem h]
 exact List.getElem_mem h
theorem regs_push {M q : Mkr} {p : List Int} {r : Int} (hp : RegsM M p) (g : GrowM M q) (h0 : 0 ≤ r) (h1 : r < (q.tr.length : Int)) (n : Nat) : RegsM q (p.take n ++ [r]) := by
 intro x hx
 rcases List.mem_append.1 hx with h | h
 · have := hp x (List.mem_of_mem_take h)
  have := g.le
  omega
 · obtain rfl := List.mem_singleton.1 h
  exact ⟨h0, h1⟩
theorem leafO_good {M : Mkr} {x : TI} {q : Int × Mkr} (g : GoodM M) (hx : x.1 ≠ 1 → x.2.2 ∈ M.cols) (h : leafO M x = some q) : GoodM q.2 ∧ GrowM M q.2 ∧ 0 ≤ q.1 ∧ q.1 < (q.2.tr.length : Int) := by
 unfold leafO at h
 split at h
 · split at h
  · exact newO_grow g h
  · cases h
 · rename_i h1
  obtain ⟨k1, _, _⟩ := plc_at (hx h1)
  rw [← g.len] at k1
  have hm : M.outs.getD (plcF M.cols x.2.2) zU ∈ M.outs := by
   rw [List.getD_eq_getElem?_getD, List.getElem?_eq_getElem k1]
   exact List.getElem_mem k1
  split at h
  · rename_i h0
   injection h with h
   subst h
   refine ⟨g, GrowM.refl M, h0, ?_⟩
   rcases g.outs _ hm with ⟨h3, _⟩ | ⟨_, _, h4, _⟩
   · rw [h3] at h0; omega
   · exact h4
  · exact newO_grow g h
theorem itemO_good {M : Mkr} {x : TI} {p : List Int} {q : List Int × Mkr} (g : GoodM M) (hp : RegsM M p) (hn : needsI x.1 ≤ p.length) (hx : x.1 = 2 → x.2.2 ∈ M.cols) (hk : 1 ≤ x.1 ∧ x.1 ≤ 12) (h : itemO M x p = some q) : GoodM q.2 ∧ GrowM M q.2 ∧ RegsM q.2 q.1 ∧ q.1.length = p.length + 1 - needsI x.1 := by
 unfold itemO at h
 split at h
 · rename_i h0
  cases hl : leafO M x with
  | none => rw [hl] at h; cases h
  | some r =>
   rw [hl] at h
   injection h with h
   subst h
   have h2 : x.1 ≤ 2 := by
    unfold needsI at h0
    split at h0
    · assumption
    · split at h0 <;> omega
   obtain ⟨k1, k2, k3, k4⟩ := leafO_good g (fun h1 => hx (by omega)) hl
   refine ⟨k1, k2, ?_, by rw [h0]; simp⟩
   have := regs_push (n := p.length) hp k2 k3 k4
   rw [List.take_length] at this
   exact this
 · rename_i h0
  have push : ∀ {o : FO} {t : Bool} {n : Nat} {q : List Int × Mkr}, (newO M o t).map (fun q => (p.take n ++ [q.1], q.2)) = some q → n + needsI x.1 = p.length → GoodM q.2 ∧ GrowM M q.2 ∧ RegsM q.2 q.1 ∧ q.1.length = p.length + 1 - needsI x.1 := by
   intro o t n q h hn2
   cases hl : newO M o t with
   | none => rw [hl] at h; cases h
   | some r =>
    rw [hl] at h
    injection h with h
    subst h
    obtain ⟨k1, k2, k3, k4⟩ := newO_grow g hl
    exact ⟨k1, k2, regs_push hp k2 k3 k4 n, by simp; omega⟩
  have hx1 : needsI x.1 = if 11 ≤ x.1 then 1 else 2 := by
   unfold needsI at h0 ⊢
   split at h0
   · omega
   · rename_i h2; rw [if_neg h2]
  split at h
  · rename_i h12
   refine push h ?_
   rw [hx1, if_pos (by omega)] at hn ⊢; omega
  · split at h
   · rename_i h11
    split at h
    · refine push h ?_
     rw [hx1, if_pos (by omega)] at hn ⊢; omega
    · cases h
   · split at h
    · refine push h ?_
     rw [hx1, if_neg (by omega)] at hn ⊢; omega
    · cases h
end Go.Proofs.YtjjkdbmjloolaaaGreatDoor
