/-
  A part of the proof: FkWant.
-/
import Derived.Test.YtjjkdbmjloolaaaGreatDoorPart17

namespace Go.Proofs.YtjjkdbmjloolaaaGreatDoor
open Go.ChangeShapes Go.WideShapes Go.ChangeAt Go.RowKit Go.Joins
attribute [local go_sem ↓] Go.wp_at_zero Go.wp_at_succ
attribute [local simp] World.cell?_alloc_past World.cell?_alloc_at World.frozen?_alloc_at cell_far cell_off cell_here World.frozen?_alloc_past
def numG (k : Int) : Bool := decide (3 ≤ k) && decide (k ≤ 6)
theorem opkind_impl (k : Int) (h1 : 1 ≤ k) (h2 : k ≤ 12) (w : World) : Calls Tryz.prog 113 #[.int .i64 k] w fun e w' => e = .returned (.int .i64 k) ∧ w' = w := by
 have e1 : IntKind.i64.wrap (k - 3) = k - 3 := by simp [IntKind.wrap, IntKind.signed, IntKind.bits]; omega
 have e2 : IntKind.i64.wrap (k - 3 + 3) = k := by simp [IntKind.wrap, IntKind.signed, IntKind.bits]; omega
 go_enter Tryz.func113, Tryz.ntmps113
 go_wp2
 go_ret
 exact ⟨by first | rfl | (congr 2; omega), rfl⟩
theorem isnum_impl (k : Int) (w : World) (b : Bool) (hb : numG k = b) : Calls Tryz.prog 114 #[.int .i64 k] w fun e w' => e = .returned (.bool b) ∧ w' = w := by
 unfold numG at hb
 by_cases h5 : 3 ≤ k
 · by_cases h6 : k ≤ 6
  · rw [decide_eq_true h5, decide_eq_true h6] at hb
   subst hb
   go_enter Tryz.func114, Tryz.ntmps114
   go_wp2
   go_ret
   exact ⟨rfl, rfl⟩
  · rw [decide_eq_true h5, decide_eq_false h6] at hb
   subst hb
   go_enter Tryz.func114, Tryz.ntmps114
   go_wp2
   go_ret
   exact ⟨rfl, rfl⟩
 · rw [decide_eq_false h5, Bool.false_and] at hb
  subst hb
  go_enter Tryz.func114, Tryz.ntmps114
  go_wp2
  go_ret
  exact ⟨rfl, rfl⟩
theorem wantone_impl (TB : Nat) (s : Bool) (u : FU) (w : World) (hB : w.cell? ⟨TB, 0, none⟩ = some (.bool s)) (hBl : TB < w.heap.size) (b : Bool) (hb : (u.2.2 == s) = b) :
  Calls Tryz.prog 133 #[.agg #[.int .i64 u.1, .int .i64 u.2.1, .bool u.2.2], .pointer (some ⟨TB, 0, none⟩)] w fun e w' => e = .returned (.bool b) ∧ Below w.heap.size w w' := by
 obtain ⟨k, t, a⟩ := u
 dsimp only at hb ⊢
 subst hb
 have hne : TB ≠ w.heap.size := by omega
 cases a <;> cases s
 all_goals
  go_enter Tryz.func133, Tryz.ntmps133
  go_wp2
  go_ret
  exact ⟨rfl, (Below.refl _ _).alloc (Nat.le_refl _) _⟩
set_option maxRecDepth 100000 in
set_option maxHeartbeats 4000000 in
theorem outof_impl (B base : Nat) (M : Mkr) (xs : ByteArray) (cv uv ov : Value) (w : World) (h : MkI w base B M cv uv ov) (g : GoodM M) (hx : xs ∈ M.cols) (hcl : M.cols.length ≤ 1000) :
  Calls Tryz.prog 63 #[.pointer (some ⟨B, 0, none⟩), .string xs] w fun e w' => e = .returned (fuV (M.outs.getD (plcF M.cols xs) zU)) ∧ Below w.heap.size w w' := by
 obtain ⟨E0, hE0⟩ : ∃ z, w.alloc (.cells #[.int .i64 0, .int .i64 0, .bool false] 51) = z := ⟨_, rfl⟩
 have hA : Below w.heap.size w E0 := by rw [← hE0]; exact (Below.refl _ _).alloc (Nat.le_refl _) _
 have h1 : E0.heap[w.heap.size]? = some (.cells #[.int .i64 0, .int .i64 0, .bool false] 51) := by rw [← hE0]; exact _root_.Go.heap_alloc_new w _
 have H := hid (h.below hA)
 have H1 := hid h1
 have hBw := lt_of_heapN h.box
 have huv : ∀ g, uv.ownBlock = some g → g < w.heap.size := fun g e => (h.outs.lt g e).2
 obtain ⟨ca, cc, rfl, hCs, _, _, _⟩ := H.out.cols.at'
 have HCS := hid hCs
 have HAT := hid (plc_is hx)
 have hpl : plcF M.cols xs < M.outs.length := by rw [g.len]; exact (plc_at hx).1
 obtain ⟨pk, hpk⟩ : ∃ z, plcF M.cols xs = z := ⟨_, rfl⟩
 rw [hpk] at HAT hpl ⊢
 rcases H.out.outs.2 with ⟨_, e0⟩ | ⟨gu, capu, curu, rfl, _⟩
 · omega
 have HFU := hid (ownFu H.out.outs)
 obtain ⟨gg, o, hgo, hg, c0, c1, c2⟩ := HFU.out pk hpl
 cases hgo
 obtain ⟨u, hu⟩ : ∃ u, M.outs[pk] = u := ⟨_, rfl⟩
 have HGD := hid (p := M.outs.getD pk zU = u) (by rw [List.getD_eq_getElem?_getD, List.getElem?_eq_getElem hpl, ← hu]; rfl)
 rw [hu] at c0 c1 c2
 rw [HGD.out]
 obtain ⟨ub, ur, ut⟩ := u
 unfold fuV
 dsimp only at c0 c1 c2 ⊢
 simp only [Nat.zero_add] at c0 c1 c2
 have hpL0 : (0 : Int) ≤ (pk : Int) := by omega
 have hpL1 : (pk : Int) < (M.outs.length : Int) := by omega
 have hLc : M.cols.length ≤ maxLen := by unfold maxLen; omega
 obtain ⟨p0, p1, p2, p3⟩ := cells4 H.out.box
 have hB0 := lt_of_heapN H.out.box
 have hgl := huv gu rfl
 have hne1 : B ≠ w.heap.size := by omega
 have hne2 : gu ≠ w.heap.size := by omega
 clear h hx hCs h1 hu hpk
 go_enter Tryz.func63, Tryz.ntmps63
 go_wp2_with fail
 refine wp_region_held_drew (S := (fun w' => (w'.cell? ⟨B, 0, none⟩ = some (.slice ca M.cols.length cc) ∧ w'.cell? ⟨B, 1, none⟩ = some (.slice (some ⟨gu, 0, none⟩) M.outs.length capu)) ∧ w'.cell? ⟨gu, pk * 3, none⟩ = some (.int .i64 ub) ∧ w'.cell? ⟨gu, pk * 3 + 1, none⟩ = some (.int .i64 ur) ∧ w'.cell? ⟨gu, pk * 3 + 2, none⟩ = some (.bool ut))) (by kernel_rfl) ⟨⟨p0, p1⟩, c0, c1, c2⟩ (fun hHeld => ?_)
 refine tkH 0 ?_
 simp only [Act.put, ptT, ptZ, ptS]
 refine tkH 1 ?_
 simp only [Act.put, ptT, ptZ, ptS]
 refine tkH 2 ?_
 simp only [Act.put, ptT, ptZ, ptS]
 refine tkH 3 ?_
 simp only [Act.put, ptT, ptZ, ptS]
 refine tkH 4 ?_
 simp only [Act.put, ptT, ptZ, ptS]
 refine tkH 5 ?_
 simp only [Act.put, ptT, ptZ, ptS]
 refine tkH 6 ?_
 simp only [Act.put, ptT, ptZ, ptS]
 refine tkH 7 ?_
 simp only [Act.put, ptT, ptZ, ptS]
 refine tkH 8 ?_
 simp only [Act.put, ptT, ptZ, ptS]
 refine oneH 9 ?_
 intro K hK
 go_simp
 refine (columnof_impl M.cols.length _ _ M.cols rfl xs _ (HCS.out.below (Below.refl _ _).drew) hLc).mono ?_
 rintro e w2 ⟨r, rfl, hr, hb2'⟩
 obtain rfl := hr.one HAT.out
 have hb2 := undrew hb2'
 have y0 := (hb2.cell (p := ⟨B, 0, none⟩) hB0).trans p0
 have y1 := (hb2.cell (p := ⟨B, 1, none⟩) hB0).trans p1
 have y5 := (hb2.cell (p := ⟨gu, pk * 3, none⟩) hg).trans c0
 have y6 := (hb2.cell (p := ⟨gu, pk * 3 + 1, none⟩) hg).trans c1
 have y7 := (hb2.cell (p := ⟨gu, pk * 3 + 2, none⟩) hg).trans c2
 have hbx2 := (hb2.block _ (lt_of_heapN H1.out)).trans H1.out
 have q0 : w2.cell? ⟨w.heap.size, 0, none⟩ = some (.int .i64 0) := cell_of_row _ _ 0 _ _ _ hbx2
 have q1 : w2.cell? ⟨w.heap.size, 1, none⟩ = some (.int .i64 0) := cell_of_row _ _ 1 _ _ _ hbx2
 have q2 : w2.cell? ⟨w.heap.size, 2, none⟩ = some (.bool false) := cell_of_row _ _ 2 _ _ _ hbx2
 have hf : ∀ j, w2.frozen? ⟨w.heap.size, j, none⟩ = false := fun j => by simp [World.frozen?, hbx2]
 have f0 := hf 0
 have f1 := hf 1
 have f2 := hf 2
 have FIN := hid ((((chain hA hb2).setCell (p := ⟨w.heap.size, 0, none⟩) (Nat.le_refl _) (.int .i64 ub)).setCell (p := ⟨w.heap.size, 1, none⟩) (Nat.le_refl _) (.int .i64 ur)).setCell (p := ⟨w.heap.size, 2, none⟩) (Nat.le_refl _) (.bool ut))
 clear p0 p1 p2 p3 c0 c1 c2 hHeld hb2' hr hbx2 hf
 go_wp2_with fail
 refine hK.out _ _ ⟨⟨y0, y1⟩, y5, y6, y7⟩ (fun hHeld => ?_)
 clear hK K
 try simp only [Act.put, ptT, ptZ, ptS]
 refine tkH 10 ?_
 simp only [Act.put, ptT, ptZ, ptS]
 refine tkH 11 ?_
 simp only [Act.put, ptT, ptZ, ptS]
 refine oneH 12 ?_
 intro K hK
 go_simp
 refine hK.out _ _ ?_ (fun hHeld => ?_)
 · (((try dsimp only); (repeat' apply And.intro) <;> first | (go_keep; done) | (simp (disch := first | omega | (simp <;> omega) | fail) [*]; done) | fail))
 clear hK K
 try simp only [Act.put]
 refine wpAnyH_done (by kernel_rfl) ?_ _
 go_wp2_with fail
 exact bodyPost_ret (v := .agg #[.int .i64 ub, .int .i64 ur, .bool ut]) (by simp [results, Tryz.results63, go_sem, q0, q1, q2]) rfl ⟨rfl, FIN.out⟩
def partsB (k : Int) (l : List FU) : Bool := l.all fun u => u.2.2 == !(numG k)
set_option maxRecDepth 100000 in
set_option maxHeartbeats 2000000 in
theorem every_want (TB : Nat) (s : Bool) (a : Option Addr) (cap n : Nat) (l : List FU) (hn : l.length = n) (w : World) (hrow : FuAt w a l) (hm : n ≤ maxLen) (hB : w.cell? ⟨TB, 0, none⟩ = some (.bool s)) (hBl : TB < w.heap.size) (b : Bool) (hb : (l.all fun u => u.2.2 == s) = b) :
  Calls Tryz.prog 132 #[.agg #[.slice a n cap], .func (.func 133) #[] #[.pointer (some ⟨TB, 0, none⟩)]] w fun e w' => e = .returned (.bool b) ∧ Below w.heap.size w w' := by
 have HR := hid hrow
 have HX := hid hB
 have HB' := hid hb
 have HN := hid hn
 obtain ⟨f, hf⟩ : ∃ f : FU → Bool, f = fun u => u.2.2 == s := ⟨_, rfl⟩
 have HF := hid hf
 rw [← hf] at HB'
 clear hrow hB hb hn hf
 unfold maxLen at hm
 go_enter Tryz.func132, Tryz.ntmps132
 have hA : Below w.heap.size w (w.alloc (.cells #[.slice a n cap] 186)) := (Below.refl _ _).alloc (Nat.le_refl _) _
 go_wp2
 go_loopw [10] (fun kk wr => ∃ k : Nat, k ≤ n ∧ kk = .int .i64 k ∧ Hid ((l.take k).all f = true) ∧ Below w.heap.size w wr) (fun kk _ => n - (intOf kk).toNat)
 case atStart => exact ⟨0, Nat.zero_le _, rfl, rfl, hA⟩
 case round =>
  obtain ⟨k, hk, rfl, hall, hbw⟩ := hrel
  by_cases hlt : k < n
  · have hlt' : k < l.length := by rw [HN.out]; exact hlt
   obtain ⟨g, o, rfl, hgw, c0, c1, c2⟩ := HR.out.below hbw k hlt'
   have hi0 : (0 : Int) ≤ (k : Int) := by omega
   have hi1 : (k : Int) < (n : Int) := by omega
   have HS : Hid ((l.take (k + 1)).all f = f l[k]) := by
    have : (l.take (k + 1)).all f = f l[k] := by
     rw [List.take_succ_eq_append_getElem hlt', List.all_append, hall.out, Bool.true_and, List.all_cons, List.all_nil, Bool.and_true]
    exact this
   have hno : Hid (f l[k] = false → b = false) := by
    have : f l[k] = false → b = false := by
     intro e
     rw [← HB'.out, Bool.eq_false_iff]
     intro h
     rw [List.all_eq_true.1 h _ (List.getElem_mem hlt')] at e
     cases e
    exact this
   obtain ⟨r, hr⟩ : ∃ r, f l[k] = r := ⟨_, rfl⟩
   generalize l[k]'hlt' = x at c0 c1 c2 HS hr hno
   have HC := hid (fun wz (hz : Below w.heap.size w wz) => wantone_impl TB s x wz ((hz.cell (p := ⟨TB, 0, none⟩) hBl).trans HX.out) (Nat.lt_of_lt_of_le hBl hz.size) r (by rw [← hr, HF.out]))
   rw [hr] at HS hno
   clear hr hlt'
   obtain ⟨x0, x1, x2⟩ := x
   dsimp only at c0 c1 c2 HC
   go_wp2_with fail
   have hA2 := chain hbw ((Below.refl wr.heap.size wr).alloc (Nat.le_refl _) (.cells #[.int .i64 x0, .int .i64 x1, .bool x2] 51))
   refine (HC.out _ (by first | exact hA2 | exact hbw)).mono ?_
   rintro e wA ⟨rfl, hbA⟩
   have hxA : Below w.heap.size w wA := by first | exact chain hA2 hbA | exact chain hbw hbA
   clear hbA HC
   cases r
   · have e := hno.out (by trivial)
    subst e
    go_wp2
    go_ret
    exact ⟨rfl, hxA⟩
   · go_wp2
    go_roundw
    case rel => exact ⟨k + 1, by omega, by go_num, HS, hxA⟩
    case measure => simp [intOf]; omega
  · have hkl : k = n := by omega
   subst hkl
   have hnn : ¬ (k : Int) < (k : Int) := by omega
   have e : b = true := by
    rw [← HB'.out]
    have := hall.out
    rw [← HN.out, List.take_length] at this
    exact this
   subst e
   go_wp2
   go_ret
   exact ⟨rfl, hbw⟩
end Go.Proofs.YtjjkdbmjloolaaaGreatDoor
