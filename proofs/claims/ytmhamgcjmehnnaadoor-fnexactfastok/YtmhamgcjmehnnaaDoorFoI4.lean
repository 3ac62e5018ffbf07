/-
  The program's FastOk: whether a step fits, whether what comes out does.
-/
import Derived.Test.YtmhamgcjmehnnaaDoorFoI3
import Derived.Test.YtmhamgcjmehnnaaDoorFastMath
import Derived.Test.YtmhamgcjmehnnaaDoorRegEq
import Derived.Test.YtmhamgcjmehnnaaDoorOpVar
import Derived.Test.YtmhamgcjmehnnaaDoorInts1
import Derived.Test.YtmhamgcjmehnnaaDoorKept
import Derived.Laws.Tables
import Derived.Laws.Rows
import Derived.Laws.CopyOwn
namespace Go.Proofs.YtmhamgcjmehnnaaDoor
open Go.ChangeShapes Go.WideShapes Go.ChangeAt Go.RowKit
attribute [local go_sem ↓] Go.wp_at_zero Go.wp_at_succ
attribute [local simp] World.cell?_alloc_past World.cell?_alloc_at World.frozen?_alloc_at cell_far cell_off cell_here World.frozen?_alloc_past

theorem cells4f {w : World} {B : Nat} {a b c d : Value} {T : TypeId} (h : w.heap[B]? = some (.cells #[a, b, c, d] T)) : w.cell? ⟨B, 0, none⟩ = some a ∧ w.cell? ⟨B, 1, none⟩ = some b ∧ w.cell? ⟨B, 2, none⟩ = some c ∧ w.cell? ⟨B, 3, none⟩ = some d :=
  ⟨cell_of_row _ _ _ _ _ _ h, cell_of_row _ _ _ _ _ _ h, cell_of_row _ _ _ _ _ _ h, cell_of_row _ _ _ _ _ _ h⟩
theorem cells3f {w : World} {B : Nat} {a b c : Value} {T : TypeId} (h : w.heap[B]? = some (.cells #[a, b, c] T)) : w.cell? ⟨B, 0, none⟩ = some a ∧ w.cell? ⟨B, 1, none⟩ = some b ∧ w.cell? ⟨B, 2, none⟩ = some c :=
  ⟨cell_of_row _ _ _ _ _ _ h, cell_of_row _ _ _ _ _ _ h, cell_of_row _ _ _ _ _ _ h⟩
theorem wpList_wanted {P : Program} {ops : Array Oper} {Q : Exit → Act → World → Prop} {a : Act} {w : World} {rest : List Oper} {d : Option Tmp} {op : Op} {ty : TypeId} {ps : String} {af : Array Edge} {g : Option (Nat × Bool)}
    (hw : Region.wanted { dst := d, op := op, type := ty, pos := ps, after := af, guard := g } (yielded ops a.tmps) = true)
    (h : wpList P ops Q ({ dst := d, op := op, type := ty, pos := ps, after := af, guard := none } :: rest) a w) : wpList P ops Q ({ dst := d, op := op, type := ty, pos := ps, after := af, guard := g } :: rest) a w := by
  unfold wpList at h ⊢
  rw [if_pos hw]
  rw [if_pos (by simp [Region.wanted])] at h
  exact h
/-- Does a step fit, whatever registers there are? -/
def fitO (width : Int) (o : FO) : Bool := (decide (1 ≤ o.1 ∧ o.1 ≤ 12) && decide (ownO o = o)) && (if o.1 = 1 then decide (0 ≤ o.2.2.1) && decide (o.2.2.1 < width) else if o.1 = 2 then decide (-1000000000 ≤ o.2.2.1) && decide (o.2.2.1 ≤ 1000000000) else true)
theorem run_neq_fo (k t a c k' t' a' c' : Int) (w : World) :
    (binOp .neq 41 (.agg #[.int .i64 k, .int .i64 t, .int .i64 a, .int .i64 c]) (.agg #[.int .i64 k', .int .i64 t', .int .i64 a', .int .i64 c'])).run Tryd.prog w = .ok (.bool !(decide ((k', t', a', c') = (k, t, a, c)))) w := by
  by_cases h1 : k = k'
  · by_cases h2 : t = t'
    · by_cases h3 : a = a'
      · by_cases h4 : c = c'
        · subst h1 h2 h3 h4
          go_simp
          all_goals simp
        · have h4' : ¬ c' = c := fun e => h4 e.symm
          subst h1 h2 h3
          go_simp
          all_goals simp [h4, h4']
      · have h3' : ¬ a' = a := fun e => h3 e.symm
        subst h1 h2
        go_simp
        all_goals simp [h3']
    · have h2' : ¬ t' = t := fun e => h2 e.symm
      subst h1
      go_simp
      all_goals simp [h2']
  · have h1' : ¬ k' = k := fun e => h1 e.symm
    go_simp
    all_goals simp [h1']
theorem numfits_impl (a : Int) (w : World) (b : Bool) (hb : (decide (-1000000000 ≤ a) && decide (a ≤ 1000000000)) = b) :
    Calls Tryd.prog 31 #[.int .i64 a] w fun e w' => e = .returned (.bool b) ∧ w' = w := by
  by_cases h5 : -1000000000 ≤ a
  · by_cases h6 : a ≤ 1000000000
    · rw [decide_eq_true h5, decide_eq_true h6] at hb
      subst hb
      go_enter Tryd.func31, Tryd.ntmps31
      go_wp2
      go_ret
      exact ⟨rfl, rfl⟩
    · rw [decide_eq_true h5, decide_eq_false h6] at hb
      subst hb
      go_enter Tryd.func31, Tryd.ntmps31
      go_wp2
      go_ret
      exact ⟨rfl, rfl⟩
  · rw [decide_eq_false h5, Bool.false_and] at hb
    subst hb
    go_enter Tryd.func31, Tryd.ntmps31
    go_wp2
    go_ret
    exact ⟨rfl, rfl⟩
theorem empty_iff (s : ByteArray) : s.toList.isEmpty = decide (s.size = 0) := by
  rw [ByteArray.toList_eq, Bool.eq_iff_iff, List.isEmpty_iff, decide_eq_true_iff]
  constructor
  · intro h
    show s.data.size = 0
    rw [← Array.length_toList, h]; rfl
  · intro h
    exact List.length_eq_zero_iff.1 ((Array.length_toList).trans h)
set_option maxRecDepth 100000 in
set_option maxHeartbeats 4000000 in
theorem opfits_impl (o : FO) (width : Int) (w : World) (hw : OpwAt w) (b : Bool) (hb : fitO width o = b) :
    Calls Tryd.prog 15 #[foV o, .int .i64 width] w fun e w' => e = .returned (.bool b) ∧ Below w.heap.size w w' := by
  have HW := hid hw
  obtain ⟨k, t, a, c⟩ := o
  have HO := hid (fun wz => own_impl (k, t, a, c) wz)
  have hn := fun wz => run_neq_fo k t a c (ownO (k, t, a, c)).1 (ownO (k, t, a, c)).2.1 (ownO (k, t, a, c)).2.2.1 (ownO (k, t, a, c)).2.2.2 wz
  unfold fitO at hb
  unfold foV at HO ⊢
  dsimp only at HO hb ⊢
  obtain ⟨⟨k2, t2, a2, c2⟩, hO2⟩ : ∃ z, ownO (k, t, a, c) = z := ⟨_, rfl⟩
  rw [hO2] at HO hn hb
  dsimp only at HO hn
  obtain ⟨q, hq⟩ : ∃ q, decide ((k2, t2, a2, c2) = (k, t, a, c)) = q := ⟨_, rfl⟩
  rw [hq] at hn hb
  clear hO2 hq hw
  obtain ⟨W0, hW0⟩ : ∃ W, W = w.alloc (.cells #[.int .i64 k, .int .i64 t, .int .i64 a, .int .i64 c] 41) := ⟨_, rfl⟩
  have hA : Below w.heap.size w W0 := by rw [hW0]; exact (Below.refl _ _).alloc (Nat.le_refl _) _
  have HB0 := hid (p := W0.heap[w.heap.size]? = some (.cells #[.int .i64 k, .int .i64 t, .int .i64 a, .int .i64 c] 41)) (by rw [hW0]; exact _root_.Go.heap_alloc_new w _)
  have P0 := Kept.refl w.heap.size W0
  obtain ⟨p0, p1, p2, p3⟩ := cells4f HB0.out
  go_enter Tryd.func15, Tryd.ntmps15
  go_wp2_with fail
  rw [← hW0]
  clear hW0
  refine wp_region_held_drew (S := (fun w' => (w'.cell? ⟨w.heap.size, 0, none⟩ = some (.int .i64 k) ∧ w'.cell? ⟨w.heap.size, 1, none⟩ = some (.int .i64 t)) ∧ (w'.cell? ⟨w.heap.size, 2, none⟩ = some (.int .i64 a) ∧ w'.cell? ⟨w.heap.size, 3, none⟩ = some (.int .i64 c)))) (by kernel_rfl) ⟨⟨p0, p1⟩, p2, p3⟩ (fun hHeld => ?_)
  refine tkH 0 ?_
  simp only [Act.put, ptT, ptZ, ptS]
  refine tkH 1 ?_
  simp only [Act.put, ptT, ptZ, ptS]
  refine oneH 2 ?_
  intro K hK
  go_simp
  refine (opword_impl k _ ((HW.out.below hA).below ((Below.refl _ _).drew))).mono ?_
  rintro e w1 ⟨s, rfl, hs, rfl⟩
  have he := empty_iff s
  have hr : decide (s.size = 0) = !(decide (1 ≤ k ∧ k ≤ 12)) := by
    by_cases e : s.size = 0
    · rw [decide_eq_true e, decide_eq_false (hs.1 e)]; rfl
    · have : 1 ≤ k ∧ k ≤ 12 := Classical.byContradiction fun h => e (hs.2 h)
      rw [decide_eq_false e, decide_eq_true this]; rfl
  rw [hr] at he
  clear hr hs
  obtain ⟨r, hr⟩ : ∃ r, decide (1 ≤ k ∧ k ≤ 12) = r := ⟨_, rfl⟩
  rw [hr] at he hb
  clear hr
  have hxx := hA.drew
  have P1 := P0.below ((Below.refl _ _).drew)
  obtain ⟨p0, p1, p2, p3⟩ := cells4f (P1.box (Nat.le_refl _) HB0.out)
  go_wp2_with fail
  refine hK.out _ _ ⟨⟨p0, p1⟩, p2, p3⟩ (fun hHeld => ?_)
  clear hK K
  try simp only [Act.put, ptT, ptZ, ptS]
  refine tkH 3 ?_
  simp only [Act.put, ptT, ptZ, ptS]
  refine tkH 4 ?_
  simp only [Act.put, ptT, ptZ, ptS]
  cases r
  · rw [Bool.false_and, Bool.false_and] at hb
    subst hb
    refine skH 5 ?_
    simp only [Act.put, ptT, ptZ, ptS]
    refine skH 6 ?_
    simp only [Act.put, ptT, ptZ, ptS]
    refine skH 7 ?_
    simp only [Act.put, ptT, ptZ, ptS]
    refine skH 8 ?_
    simp only [Act.put, ptT, ptZ, ptS]
    refine tkH 9 ?_
    simp only [Act.put, ptT, ptZ, ptS]
    refine wpAnyH_done (by kernel_rfl) ?_ _
    clear p0 p1 p2 p3 hHeld
    go_wp2
    go_ret
    exact ⟨rfl, hxx⟩
  rw [Bool.true_and] at hb
  refine tkH 5 ?_
  simp only [Act.put, ptT, ptZ, ptS]
  refine tkH 6 ?_
  simp only [Act.put, ptT, ptZ, ptS]
  refine oneH 7 ?_
  intro K hK
  go_simp
  refine (HO.out _).mono ?_
  rintro e w2 ⟨rfl, hb2⟩
  have hx2 := chain hxx hb2
  have P2 := P1.below hb2
  clear p0 p1 p2 p3 hHeld
  obtain ⟨p0, p1, p2, p3⟩ := cells4f (P2.box (Nat.le_refl _) HB0.out)
  go_wp2_with fail
  refine hK.out _ _ ⟨⟨p0, p1⟩, p2, p3⟩ (fun hHeld => ?_)
  clear hK K
  try simp only [Act.put, ptT, ptZ, ptS]
  refine tkH 8 ?_
  simp only [Act.put, ptT, ptZ, ptS]
  refine tkH 9 ?_
  simp only [Act.put, ptT, ptZ, ptS]
  refine wpAnyH_done (by kernel_rfl) ?_ _
  cases q
  · rw [Bool.false_and] at hb
    subst hb
    go_wp2
    go_ret
    exact ⟨rfl, hx2⟩
  rw [Bool.true_and] at hb
  by_cases h1 : k = 1
  · subst h1
    rw [if_pos rfl] at hb
    by_cases h5 : 0 ≤ a
    · by_cases h6 : a < width
      · rw [decide_eq_true h5, decide_eq_true h6] at hb
        subst hb
        go_wp2
        go_ret
        exact ⟨rfl, hx2⟩
      · rw [decide_eq_true h5, decide_eq_false h6] at hb
        subst hb
        go_wp2
        go_ret
        exact ⟨rfl, hx2⟩
    · rw [decide_eq_false h5, Bool.false_and] at hb
      subst hb
      go_wp2
      go_ret
      exact ⟨rfl, hx2⟩
  rw [if_neg h1] at hb
  by_cases h2 : k = 2
  · subst h2
    rw [if_pos rfl] at hb
    have HB9 := hid hb
    clear hb
    go_wp2_with fail
    refine (numfits_impl a _ b HB9.out).mono ?_
    rintro e w3 ⟨rfl, hb3⟩
    go_wp2
    go_ret
    exact ⟨rfl, by first | exact chain hx2 hb3 | (subst hb3; exact hx2)⟩
  rw [if_neg h2] at hb
  subst hb
  go_wp2
  go_ret
  exact ⟨rfl, hx2⟩
def fitU (p : Nat → Bool) (width : Int) (u : FU) : Bool := if u.2.1 = -1 then (decide (0 ≤ u.1) && decide (u.1 < width)) && !u.2.2 else decide (u.1 = -1) && hasB p [u.2.1]
set_option maxRecDepth 100000 in
set_option maxHeartbeats 4000000 in
theorem outfits_impl (u : FU) (p : Nat → Bool) (width : Int) (w : World) (b : Bool) (hb : fitU p width u = b) :
    Calls Tryd.prog 23 #[.agg #[.int .i64 u.1, .int .i64 u.2.1, .bool u.2.2], regV p, .int .i64 width] w fun e w' => e = .returned (.bool b) ∧ Below w.heap.size w w' := by
  obtain ⟨k, t, a⟩ := u
  unfold fitU at hb
  have HH := hid (fun wz ac c hr => has_impl p (some ⟨ac, 0, none⟩) c [t] 1 rfl wz hr (by decide) _ rfl)
  have hX2 : infoSz (regL p).toArray := infoRg.trans (congrArg some (regL_size p).symm)
  unfold regV at HH ⊢
  dsimp only at hb HH ⊢
  generalize (regL p).toArray = X at HH hX2
  obtain ⟨q, hq⟩ : ∃ q, hasB p [t] = q := ⟨_, rfl⟩
  rw [hq] at HH hb
  clear hq
  by_cases ht : t = -1
  · subst ht
    rw [if_pos rfl] at hb
    clear HH
    by_cases h5 : 0 ≤ k
    · by_cases h6 : k < width
      · rw [decide_eq_true h5, decide_eq_true h6, Bool.true_and, Bool.true_and] at hb
        cases a
        · subst hb
          go_enter Tryd.func23, Tryd.ntmps23
          go_wp2
          go_ret
          exact ⟨rfl, ((Below.refl _ _).alloc (Nat.le_refl _) _).alloc (by simp) _⟩
        · subst hb
          go_enter Tryd.func23, Tryd.ntmps23
          go_wp2
          go_ret
          exact ⟨rfl, ((Below.refl _ _).alloc (Nat.le_refl _) _).alloc (by simp) _⟩
      · rw [decide_eq_true h5, decide_eq_false h6, Bool.true_and, Bool.false_and] at hb
        subst hb
        go_enter Tryd.func23, Tryd.ntmps23
        go_wp2
        go_ret
        exact ⟨rfl, ((Below.refl _ _).alloc (Nat.le_refl _) _).alloc (by simp) _⟩
    · rw [decide_eq_false h5, Bool.false_and, Bool.false_and] at hb
      subst hb
      go_enter Tryd.func23, Tryd.ntmps23
      go_wp2
      go_ret
      exact ⟨rfl, ((Below.refl _ _).alloc (Nat.le_refl _) _).alloc (by simp) _⟩
  rw [if_neg ht] at hb
  have ht' : (t == -1) = false := by simp; omega
  by_cases hk : k = -1
  · subst hk
    rw [decide_eq_true rfl, Bool.true_and] at hb
    subst hb
    obtain ⟨E0, hE0, hA, h0, h1⟩ := two_boxes w (.cells #[.int .i64 (-1), .int .i64 t, .bool a] 43) (.cells X 47)
    have H0 := hid h0
    have H1 := hid h1
    obtain ⟨c0, c1, c2⟩ := cells3f h0
    clear h0 h1
    go_enter Tryd.func23, Tryd.ntmps23
    go_wp2_with (first
      | (refine wpList_wanted (by first | rfl | simp [Region.wanted, yielded]) ?_; refine wpList_load_row rfl 47 _ rfl (w.heap.size + 1) rfl 47 X (0, 0) _ H1.out Tryd.underlying47 rfl hX2 ?_)
      | fail)
    have hb0 : Below E0.heap.size E0 (E0.alloc (.cells #[.int .i64 t] 2)) := (Below.refl _ _).alloc (Nat.le_refl _) _
    refine (HH.out _ E0.heap.size 1 (ints_new (by simp) (fun j hj => by
      obtain rfl : j = 0 := by simpa using hj
      simp))).mono ?_
    rintro e w1 ⟨rfl, hb1⟩
    have hx1 := chain (chain hA hb0) hb1
    clear hb0
    go_wp2
    go_ret
    exact ⟨rfl, hx1⟩
  rw [decide_eq_false hk, Bool.false_and] at hb
  subst hb
  have hk' : (k == -1) = false := by simp; omega
  go_enter Tryd.func23, Tryd.ntmps23
  go_wp2
  go_ret
  exact ⟨rfl, ((Below.refl _ _).alloc (Nat.le_refl _) _).alloc (by simp) _⟩
end Go.Proofs.YtmhamgcjmehnnaaDoor
