/-
  Are registers there; is there room for some.
-/
import Derived.Test.YtmhamgcjmehnnaaDoorFoI2
import Derived.Test.YtmhamgcjmehnnaaDoorRegEq
import Derived.Test.YtmhamgcjmehnnaaDoorOpVar
import Derived.Test.YtmhamgcjmehnnaaDoorInts1
import Derived.Test.YtmhamgcjmehnnaaDoorKept
import Derived.Laws.Tables
import Derived.Laws.Rows
import Derived.Laws.CopyOwn
namespace Go.Proofs.YtmhamgcjmehnnaaDoor
open Go.ChangeShapes Go.WideShapes Go.ChangeAt Go.RowKit
attribute [local go_sem ↓] Go.wp_at_zero Go.wp_at_succ
attribute [local simp] World.cell?_alloc_past World.cell?_alloc_at World.frozen?_alloc_at cell_far cell_off cell_here World.frozen?_alloc_past

def infoSz (X : Array Value) : Prop := (Tryd.prog.info? 47).map (·.size) = some X.size
section
variable {P : Program} {ops : Array Oper} {Q : Exit → Act → World → Prop} {md : Region.Mode} {S : World → Prop} {fuel : Nat} {listed : Array Bool} {a : Act} {w : World} {oi : Oper} {x : Operand}
/-- A whole row is loaded, where the order is open. -/
theorem tkRow (i : Nat) (ty : TypeId) (g : Nat) (t : TypeId) (cs : Array Value) (d : TypeDesc) (hh : ∀ w, S w → w.heap[g]? = some (.cells cs t (0, 0))) (hu : P.underlying ty = some d) (hd : (match d with | .struct _ | .array _ _ => true | _ => false) = true) (hz : (P.info? ty).map (·.size) = some cs.size) (h : wpAnyH P md ops Q S fuel (listed.setIfInBounds i true) (a.put oi.dst (.agg cs)) w) (hi : ops[i]? = some oi := by simp only [List.getElem?_toArray, List.getElem?_cons_zero, List.getElem?_cons_succ]; rfl) (hs : Region.noSelect ops = true := by kernel_rfl) (hf : Region.free md ops listed i = true := by kernel_rfl) (hr : (Region.ready md ops listed).contains i = true := by kernel_rfl) (hQ : ∀ c a w, Q (.panic c) (a.put oi.dst (.agg cs)) w → Q (.panic c) a w := by intro _ _ _ h; exact h) (ho : oi.op = .load ty x := by rfl) (hx : a.eval x = .pointer (some ⟨g, 0, none⟩) := by rfl) (hw : Region.wanted oi (yielded ops a.tmps) = true := by rfl) (hS : S w := by assumption) : wpAnyH P md ops Q S (fuel + 1) listed a w :=
  wpAnyH_take hi hs hf hr hQ (Or.inl ⟨hw, fun w hSw => by
    unfold execOp
    simp only [ho, hx, Instr.loadAt, Instr.sureAddr, Sem.run_bind, Sem.run_pure, Result.andThen_ok, run_loadVar_row w g t ty cs (0, 0) d (hh w hSw) hu hd hz]⟩) hS h
end
/-- Are these registers there; is there room for them? -/
def hasB (p : Nat → Bool) (l : List Int) : Bool := l.all regB && l.all fun x => p x.toNat
def roomB (p : Nat → Bool) (l : List Int) : Bool := l.isEmpty || (l.all regB && !(l.all fun x => p x.toNat))
theorem add_same (p : Nat → Bool) (l : List Int) (h : l.all regB = true) : ((List.range 30).all fun k => addP p l k == p k) = l.all fun x => p x.toNat := by
  rw [Bool.eq_iff_iff, List.all_eq_true, List.all_eq_true]
  constructor
  · intro H x hx
    have hb := List.all_eq_true.1 h x hx
    unfold regB at hb
    simp only [Bool.and_eq_true, decide_eq_true_eq] at hb
    have := H x.toNat (List.mem_range.2 (by omega))
    rw [beq_iff_eq] at this
    rw [← this]
    unfold addP
    rw [Bool.or_eq_true]
    right
    rw [List.any_eq_true]
    exact ⟨x, hx, by simp; omega⟩
  · intro H k _
    rw [beq_iff_eq]
    unfold addP
    by_cases e : (l.any fun x => decide (x = (k : Int))) = true
    · obtain ⟨x, hx, hk⟩ := List.any_eq_true.1 e
      have hxk : x = (k : Int) := by simpa using hk
      have := H x hx
      rw [hxk, Int.toNat_natCast] at this
      rw [this, Bool.true_or]
    · rw [Bool.not_eq_true] at e
      rw [e, Bool.or_false]
theorem has_impl (p : Nat → Bool) (a : Option Addr) (cap : Nat) (l : List Int) (n : Nat) (hn : l.length = n) (w : World) (hrow : IntsAt w a l) (hm : n ≤ maxLen) (b : Bool) (hb : hasB p l = b) :
    Calls Tryd.prog 16 #[regV p, .slice a n cap] w fun e w' => e = .returned (.bool b) ∧ Below w.heap.size w w' := by
  have HR := hid hrow
  obtain ⟨r, hr⟩ : ∃ r, l.all regB = r := ⟨_, rfl⟩
  have HRR := hid hr
  have HN := hid hn
  unfold hasB at hb
  rw [hr] at hb
  have hW := fun w' (hw : Below w.heap.size w w') (h : r = true) => with_impl p a cap l n hn w' (HR.out.below hw) hm (HRR.out.trans h)
  have he := fun wz => run_eql_regs (addP p l) p wz
  have HS := hid (add_same p l)
  have HV := hid hW
  have HX := hid (p := (w.alloc (.cells (regL p).toArray 47)).heap[w.heap.size]? = some (.cells (regL p).toArray 47 (0, 0))) (rbox_new w p)
  have hA : Below w.heap.size w (w.alloc (.cells (regL p).toArray 47)) := (Below.refl _ _).alloc (Nat.le_refl _) _
  have hX2 : infoSz (regL p).toArray := infoRg.trans (congrArg some (regL_size p).symm)
  clear hrow hr hn hW
  unfold regV at HV he ⊢
  generalize (regL (addP p l)).toArray = Y at HV he
  generalize (regL p).toArray = X at HV he HX hA hX2 ⊢
  have P0 := Kept.refl w.heap.size (w.alloc (.cells X 47))
  obtain ⟨W0, hW0⟩ : ∃ W, W = w.alloc (.cells X 47) := ⟨_, rfl⟩
  rw [← hW0] at HX hA P0
  cases r
  · subst hb
    clear he HV HS
    go_enter Tryd.func16, Tryd.ntmps16
    go_wp2_with fail
    rw [← hW0]
    clear hW0
    refine wp_region_held_drew (S := (fun w' => w'.heap[w.heap.size]? = some (.cells X 47 (0, 0)))) (by kernel_rfl) HX.out (fun hHeld => ?_)
    refine tkH 0 ?_
    simp only [Act.put, ptT, ptZ, ptS]
    refine oneH 1 ?_
    intro K hK
    go_simp
    refine (allregs_impl a cap l n HN.out _ (HR.out.below hA.drew) hm false HRR.out).mono ?_
    rintro e w1 ⟨rfl, hb1'⟩
    have hb1 := undrew hb1'
    have hxx := chain hA hb1
    go_wp2_with fail
    refine hK.out _ _ ((P0.below hb1).box (Nat.le_refl _) HX.out) (fun hHeld => ?_)
    clear hK K
    try simp only [Act.put, ptT, ptZ, ptS]
    refine tkH 2 ?_
    simp only [Act.put, ptT, ptZ, ptS]
    refine skH 3 ?_
    simp only [Act.put, ptT, ptZ, ptS]
    refine skH 4 ?_
    simp only [Act.put, ptT, ptZ, ptS]
    refine skH 5 ?_
    simp only [Act.put, ptT, ptZ, ptS]
    refine skH 6 ?_
    simp only [Act.put, ptT, ptZ, ptS]
    refine skH 7 ?_
    simp only [Act.put, ptT, ptZ, ptS]
    refine tkH 8 ?_
    simp only [Act.put, ptT, ptZ, ptS]
    refine tkH 9 ?_
    simp only [Act.put, ptT, ptZ, ptS]
    refine wpAnyH_done (by kernel_rfl) ?_ _
    go_wp2
    go_ret
    exact ⟨rfl, hxx⟩
  · rw [HS.out HRR.out] at he
    rw [Bool.true_and] at hb
    rw [hb] at he
    clear HS hb
    go_enter Tryd.func16, Tryd.ntmps16
    go_wp2_with fail
    rw [← hW0]
    clear hW0
    refine wp_region_held_drew (S := (fun w' => w'.heap[w.heap.size]? = some (.cells X 47 (0, 0)))) (by kernel_rfl) HX.out (fun hHeld => ?_)
    refine tkH 0 ?_
    simp only [Act.put, ptT, ptZ, ptS]
    refine oneH 1 ?_
    intro K hK
    go_simp
    refine (allregs_impl a cap l n HN.out _ (HR.out.below hA.drew) hm true HRR.out).mono ?_
    rintro e w1 ⟨rfl, hb1'⟩
    have hb1 := undrew hb1'
    have hxx := chain hA hb1
    have P1 := P0.below hb1
    go_wp2_with fail
    refine hK.out _ _ (P1.box (Nat.le_refl _) HX.out) (fun hHeld => ?_)
    clear hK K
    try simp only [Act.put, ptT, ptZ, ptS]
    refine tkH 2 ?_
    simp only [Act.put, ptT, ptZ, ptS]
    refine tkRow 3 47 w.heap.size 47 X _ (fun _ h => h) Tryd.underlying47 rfl hX2 ?_
    simp only [Act.put, ptT, ptZ, ptS]
    refine tkH 4 ?_
    simp only [Act.put, ptT, ptZ, ptS]
    refine tkRow 6 47 w.heap.size 47 X _ (fun _ h => h) Tryd.underlying47 rfl hX2 ?_
    simp only [Act.put, ptT, ptZ, ptS]
    refine oneH 5 ?_
    intro K hK
    go_simp
    refine (HV.out _ hxx (by first | rfl | trivial)).mono ?_
    rintro e w2 ⟨rfl, hb2⟩
    have hx2 := chain hxx hb2
    go_wp2_with fail
    refine hK.out _ _ ((P1.below hb2).box (Nat.le_refl _) HX.out) (fun hHeld => ?_)
    clear hK K
    try simp only [Act.put, ptT, ptZ, ptS]
    refine tkH 7 ?_
    simp only [Act.put, ptT, ptZ, ptS]
    refine tkH 8 ?_
    simp only [Act.put, ptT, ptZ, ptS]
    refine tkH 9 ?_
    simp only [Act.put, ptT, ptZ, ptS]
    refine wpAnyH_done (by kernel_rfl) ?_ _
    go_wp2
    go_ret
    exact ⟨rfl, hx2⟩
theorem room_impl (p : Nat → Bool) (a : Option Addr) (cap : Nat) (l : List Int) (n : Nat) (hn : l.length = n) (w : World) (hrow : IntsAt w a l) (hm : n ≤ maxLen) (b : Bool) (hb : roomB p l = b) :
    Calls Tryd.prog 18 #[regV p, .slice a n cap] w fun e w' => e = .returned (.bool b) ∧ Below w.heap.size w w' := by
  have HR := hid hrow
  obtain ⟨r, hr⟩ : ∃ r, l.all regB = r := ⟨_, rfl⟩
  have HRR := hid hr
  have HN := hid hn
  unfold roomB at hb
  rw [hr] at hb
  have hW := fun w' (hw : Below w.heap.size w w') (h : r = true) => with_impl p a cap l n hn w' (HR.out.below hw) hm (HRR.out.trans h)
  have he := fun wz => run_neq_regs (addP p l) p wz
  have HS := hid (add_same p l)
  have HV := hid hW
  have HX := hid (p := (w.alloc (.cells (regL p).toArray 47)).heap[w.heap.size]? = some (.cells (regL p).toArray 47 (0, 0))) (rbox_new w p)
  have hA : Below w.heap.size w (w.alloc (.cells (regL p).toArray 47)) := (Below.refl _ _).alloc (Nat.le_refl _) _
  have hX2 : infoSz (regL p).toArray := infoRg.trans (congrArg some (regL_size p).symm)
  clear hrow hr hW
  unfold regV at HV he ⊢
  generalize (regL (addP p l)).toArray = Y at HV he
  generalize (regL p).toArray = X at HV he HX hA hX2 ⊢
  have P0 := Kept.refl w.heap.size (w.alloc (.cells X 47))
  obtain ⟨W0, hW0⟩ : ∃ W, W = w.alloc (.cells X 47) := ⟨_, rfl⟩
  rw [← hW0] at HX hA P0
  unfold maxLen at hm
  by_cases h0 : n = 0
  · subst h0
    obtain rfl := List.length_eq_zero_iff.1 hn
    rw [List.isEmpty_nil, Bool.true_or] at hb
    subst hb
    clear he HV HS
    go_enter Tryd.func18, Tryd.ntmps18
    go_wp2_with fail
    rw [← hW0]
    clear hW0
    refine wp_region_held_drew (S := (fun w' => w'.heap[w.heap.size]? = some (.cells X 47 (0, 0)))) (by kernel_rfl) HX.out (fun hHeld => ?_)
    refine tkH 0 ?_
    simp only [Act.put, ptT, ptZ, ptS]
    refine tkH 1 ?_
    simp only [Act.put, ptT, ptZ, ptS]
    refine tkH 2 ?_
    simp only [Act.put, ptT, ptZ, ptS]
    refine tkH 3 ?_
    simp only [Act.put, ptT, ptZ, ptS]
    refine skH 4 ?_
    simp only [Act.put, ptT, ptZ, ptS]
    refine skH 5 ?_
    simp only [Act.put, ptT, ptZ, ptS]
    refine skH 6 ?_
    simp only [Act.put, ptT, ptZ, ptS]
    refine skH 7 ?_
    simp only [Act.put, ptT, ptZ, ptS]
    refine skH 8 ?_
    simp only [Act.put, ptT, ptZ, ptS]
    refine skH 9 ?_
    simp only [Act.put, ptT, ptZ, ptS]
    refine skH 10 ?_
    simp only [Act.put, ptT, ptZ, ptS]
    refine skH 11 ?_
    simp only [Act.put, ptT, ptZ, ptS]
    refine skH 12 ?_
    simp only [Act.put, ptT, ptZ, ptS]
    refine tkH 13 ?_
    simp only [Act.put, ptT, ptZ, ptS]
    refine tkH 14 ?_
    simp only [Act.put, ptT, ptZ, ptS]
    refine wpAnyH_done (by kernel_rfl) ?_ _
    go_wp2
    go_ret
    exact ⟨rfl, hA.drew⟩
  have hE : l.isEmpty = false := by
    cases l with
    | nil => simp at hn; omega
    | cons _ _ => rfl
  rw [hE, Bool.false_or] at hb
  have hn0 : ((n : Int) == 0) = false := by simp; omega
  clear hn hE
  cases r
  · rw [Bool.false_and] at hb
    subst hb
    clear he HV HS
    go_enter Tryd.func18, Tryd.ntmps18
    go_wp2_with fail
    rw [← hW0]
    clear hW0
    refine wp_region_held_drew (S := (fun w' => w'.heap[w.heap.size]? = some (.cells X 47 (0, 0)))) (by kernel_rfl) HX.out (fun hHeld => ?_)
    refine tkH 0 ?_
    simp only [Act.put, ptT, ptZ, ptS]
    refine tkH 1 ?_
    simp only [Act.put, ptT, ptZ, ptS]
    refine tkH 2 ?_
    simp only [Act.put, ptT, ptZ, ptS]
    refine tkH 3 ?_
    simp only [Act.put, ptT, ptZ, ptS]
    refine tkH 4 ?_
    simp only [Act.put, ptT, ptZ, ptS]
    refine oneH 5 ?_
    intro K hK
    go_simp
    refine (allregs_impl a cap l n HN.out _ (HR.out.below hA.drew) hm false HRR.out).mono ?_
    rintro e w1 ⟨rfl, hb1'⟩
    have hb1 := undrew hb1'
    have hxx := chain hA hb1
    go_wp2_with fail
    refine hK.out _ _ ((P0.below hb1).box (Nat.le_refl _) HX.out) (fun hHeld => ?_)
    clear hK K
    try simp only [Act.put, ptT, ptZ, ptS]
    refine tkH 6 ?_
    simp only [Act.put, ptT, ptZ, ptS]
    refine skH 7 ?_
    simp only [Act.put, ptT, ptZ, ptS]
    refine skH 8 ?_
    simp only [Act.put, ptT, ptZ, ptS]
    refine skH 9 ?_
    simp only [Act.put, ptT, ptZ, ptS]
    refine skH 10 ?_
    simp only [Act.put, ptT, ptZ, ptS]
    refine skH 11 ?_
    simp only [Act.put, ptT, ptZ, ptS]
    refine tkH 12 ?_
    simp only [Act.put, ptT, ptZ, ptS]
    refine tkH 13 ?_
    simp only [Act.put, ptT, ptZ, ptS]
    refine tkH 14 ?_
    simp only [Act.put, ptT, ptZ, ptS]
    refine wpAnyH_done (by kernel_rfl) ?_ _
    go_wp2
    go_ret
    exact ⟨rfl, hxx⟩
  · rw [HS.out HRR.out] at he
    rw [Bool.true_and] at hb
    rw [hb] at he
    clear HS hb
    go_enter Tryd.func18, Tryd.ntmps18
    go_wp2_with fail
    rw [← hW0]
    clear hW0
    refine wp_region_held_drew (S := (fun w' => w'.heap[w.heap.size]? = some (.cells X 47 (0, 0)))) (by kernel_rfl) HX.out (fun hHeld => ?_)
    refine tkH 0 ?_
    simp only [Act.put, ptT, ptZ, ptS]
    refine tkH 1 ?_
    simp only [Act.put, ptT, ptZ, ptS]
    refine tkH 2 ?_
    simp only [Act.put, ptT, ptZ, ptS]
    refine tkH 3 ?_
    simp only [Act.put, ptT, ptZ, ptS]
    refine tkH 4 ?_
    simp only [Act.put, ptT, ptZ, ptS]
    refine oneH 5 ?_
    intro K hK
    go_simp
    refine (allregs_impl a cap l n HN.out _ (HR.out.below hA.drew) hm true HRR.out).mono ?_
    rintro e w1 ⟨rfl, hb1'⟩
    have hb1 := undrew hb1'
    have hxx := chain hA hb1
    have P1 := P0.below hb1
    go_wp2_with fail
    refine hK.out _ _ (P1.box (Nat.le_refl _) HX.out) (fun hHeld => ?_)
    clear hK K
    try simp only [Act.put, ptT, ptZ, ptS]
    refine tkH 6 ?_
    simp only [Act.put, ptT, ptZ, ptS]
    refine tkRow 7 47 w.heap.size 47 X _ (fun _ h => h) Tryd.underlying47 rfl hX2 ?_
    simp only [Act.put, ptT, ptZ, ptS]
    refine tkH 8 ?_
    simp only [Act.put, ptT, ptZ, ptS]
    refine tkRow 10 47 w.heap.size 47 X _ (fun _ h => h) Tryd.underlying47 rfl hX2 ?_
    simp only [Act.put, ptT, ptZ, ptS]
    refine oneH 9 ?_
    intro K hK
    go_simp
    refine (HV.out _ hxx (by first | rfl | trivial)).mono ?_
    rintro e w2 ⟨rfl, hb2⟩
    have hx2 := chain hxx hb2
    go_wp2_with fail
    refine hK.out _ _ ((P1.below hb2).box (Nat.le_refl _) HX.out) (fun hHeld => ?_)
    clear hK K
    try simp only [Act.put, ptT, ptZ, ptS]
    refine tkH 11 ?_
    simp only [Act.put, ptT, ptZ, ptS]
    refine tkH 12 ?_
    simp only [Act.put, ptT, ptZ, ptS]
    refine tkH 13 ?_
    simp only [Act.put, ptT, ptZ, ptS]
    refine tkH 14 ?_
    simp only [Act.put, ptT, ptZ, ptS]
    refine wpAnyH_done (by kernel_rfl) ?_ _
    go_wp2
    go_ret
    exact ⟨rfl, hx2⟩
end Go.Proofs.YtmhamgcjmehnnaaDoor
