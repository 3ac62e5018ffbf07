/-
  The program's FastOk: step by step, with the registers that are there.
-/
import Derived.Test.YtmhamgcjmehnnaaDoorFoI5
import Derived.Test.YtmhamgcjmehnnaaDoorUntil
import Derived.Test.YtmhamgcjmehnnaaDoorFastF
import Derived.Test.YtmhamgcjmehnnaaDoorRegEq
import Derived.Test.YtmhamgcjmehnnaaDoorOpVar
import Derived.Test.YtmhamgcjmehnnaaDoorInts1
import Derived.Test.YtmhamgcjmehnnaaDoorKept
import Derived.Laws.Tables
import Derived.Laws.Rows
import Derived.Laws.CopyOwn
namespace Go.Proofs.YtmhamgcjmehnnaaDoor
open Go.ChangeShapes Go.WideShapes Go.ChangeAt Go.RowKit
attribute [local go_sem ↓] Go.wp_at_zero Go.wp_at_succ
attribute [local simp] World.cell?_alloc_past World.cell?_alloc_at World.frozen?_alloc_at cell_far cell_off cell_here World.frozen?_alloc_past

section
variable {P : Program} {ops : Array Oper} {Q : Exit → Act → World → Prop} {md : Region.Mode} {S : World → Prop} {z n : Nat} {listed : Array Bool} {a : Act} {w : World} {oi : Oper} {x : Operand}
/-- A whole row is loaded, where the order is open but for the last one. -/
theorem tkRowU (i : Nat) (ty : TypeId) (g : Nat) (t : TypeId) (cs : Array Value) (d : TypeDesc) (hh : ∀ w, S w → w.heap[g]? = some (.cells cs t (0, 0))) (hu : P.underlying ty = some d) (hd : (match d with | .struct _ | .array _ _ => true | _ => false) = true) (hsz : (P.info? ty).map (·.size) = some cs.size) (h : wpAnyU P md ops Q S z n (listed.setIfInBounds i true) (a.put oi.dst (.agg cs)) w) (hi : ops[i]? = some oi := by simp only [List.getElem?_toArray, List.getElem?_cons_zero, List.getElem?_cons_succ]; rfl) (hz : waits md ops z i = true := by kernel_rfl) (hs : Region.noSelect ops = true := by kernel_rfl) (hf : Region.free md ops listed i = true := by kernel_rfl) (hr : (Region.ready md ops listed).contains i = true := by kernel_rfl) (hQ : ∀ c a w, Q (.panic c) (a.put oi.dst (.agg cs)) w → Q (.panic c) a w := by intro _ _ _ h; exact h) (ho : oi.op = .load ty x := by rfl) (hx : a.eval x = .pointer (some ⟨g, 0, none⟩) := by rfl) (hw : Region.wanted oi (yielded ops a.tmps) = true := by rfl) (hS : S w := by assumption) : wpAnyU P md ops Q S z (n + 1) listed a w :=
  wpAnyU_take hi hz hs hf hr hQ (Or.inl ⟨hw, fun w hSw => by
    unfold execOp
    simp only [ho, hx, Instr.loadAt, Instr.sureAddr, Sem.run_bind, Sem.run_pure, Result.andThen_ok, run_loadVar_row w g t ty cs (0, 0) d (hh w hSw) hu hd hsz]⟩) hS h
end
set_option maxRecDepth 100000 in
set_option maxHeartbeats 4000000 in
theorem fastok_impl (oa : Option Addr) (oc : Nat) (O : List FO) (n : Nat) (hn : O.length = n) (ua : Option Addr) (uc : Nat) (U : List FU) (m : Nat) (hm : U.length = m) (width : Int) (w : World) (hw : OpwAt w) (hO : FoAt w oa O) (hU : FuAt w ua U) (hn1 : n ≤ maxLen) (hm1 : m ≤ maxLen) (q : Bool) (hq : fastB O U width = q) :
    Calls Tryd.prog 7 #[.agg #[.slice oa n oc, .slice ua m uc], .int .i64 width] w fun e w' => e = .returned (.bool q) ∧ Below w.heap.size w w' := by
  by_cases hw0 : width < 1
  · have hz : inI width 1 6 = false := by unfold inI; rw [Bool.eq_false_iff]; intro h; rw [Bool.and_eq_true, decide_eq_true_eq, decide_eq_true_eq] at h; omega
    have hq2 : q = false := by rw [← hq]; unfold fastB; rw [hz]; rfl
    subst hq2
    obtain ⟨F0, hF0, hA, h0, h1⟩ := two_boxes w (.cells #[.slice oa n oc, .slice ua m uc] 31) (.cells #[.int .i64 width] 2)
    have p0 := cell_of_row _ _ 0 _ _ _ h1
    clear h0 h1
    go_enter Tryd.func7, Tryd.ntmps7
    go_wp2
    go_ret
    exact ⟨rfl, hA⟩
  by_cases hw1 : 6 < width
  · have hw00 : (1 : Int) ≤ width := by omega
    have hz : inI width 1 6 = false := by unfold inI; rw [Bool.eq_false_iff]; intro h; rw [Bool.and_eq_true, decide_eq_true_eq, decide_eq_true_eq] at h; omega
    have hq2 : q = false := by rw [← hq]; unfold fastB; rw [hz]; rfl
    subst hq2
    obtain ⟨F0, hF0, hA, h0, h1⟩ := two_boxes w (.cells #[.slice oa n oc, .slice ua m uc] 31) (.cells #[.int .i64 width] 2)
    have p0 := cell_of_row _ _ 0 _ _ _ h1
    clear h0 h1
    go_enter Tryd.func7, Tryd.ntmps7
    go_wp2
    go_ret
    exact ⟨rfl, hA⟩
  have hw0' : (1 : Int) ≤ width := by omega
  have hw1' : width ≤ 6 := by omega
  obtain ⟨E0, hE0, hA, h0, h1, h2, hsz⟩ := three_boxes w (.cells #[.slice oa n oc, .slice ua m uc] 31) (.cells #[.int .i64 width] 2) (.cells #[Value.bool false, Value.bool false, Value.bool false, Value.bool false, Value.bool false, Value.bool false, Value.bool false, Value.bool false, Value.bool false, Value.bool false, Value.bool false, Value.bool false, Value.bool false, Value.bool false, Value.bool false, Value.bool false, Value.bool false, Value.bool false, Value.bool false, Value.bool false, Value.bool false, Value.bool false, Value.bool false, Value.bool false, Value.bool false, Value.bool false, Value.bool false, Value.bool false, Value.bool false, Value.bool false] 47)
  have hZ : (regL fun _ => false).toArray = #[Value.bool false, Value.bool false, Value.bool false, Value.bool false, Value.bool false, Value.bool false, Value.bool false, Value.bool false, Value.bool false, Value.bool false, Value.bool false, Value.bool false, Value.bool false, Value.bool false, Value.bool false, Value.bool false, Value.bool false, Value.bool false, Value.bool false, Value.bool false, Value.bool false, Value.bool false, Value.bool false, Value.bool false, Value.bool false, Value.bool false, Value.bool false, Value.bool false, Value.bool false, Value.bool false] := by kernel_rfl
  have HONE := hid (p := (#[Value.bool false, Value.bool false, Value.bool false, Value.bool false, Value.bool false, Value.bool false, Value.bool false, Value.bool false, Value.bool false, Value.bool false, Value.bool false, Value.bool false, Value.bool false, Value.bool false, Value.bool false, Value.bool false, Value.bool false, Value.bool false, Value.bool false, Value.bool false, Value.bool false, Value.bool false, Value.bool false, Value.bool false, Value.bool false, Value.bool false, Value.bool false, Value.bool false, Value.bool false, Value.bool false] : Array Value).all (·.oneCell') = true) (by rw [← hZ]; exact regL_one _)
  have H0 := hid h0
  have H1 := hid h1
  have H2 := hid h2
  have hR : RBox E0 (w.heap.size + 1 + 1) fun _ => false := by unfold RBox; rw [hZ]; exact h2
  have HR := hid hR
  have hself := setRow_self E0 (w.heap.size + 1 + 1) _ _ _ h2
  have c0 := (cells2 h0).1
  have c1 := (cells2 h0).2
  clear h0 h1 h2 hR hZ
  go_enter Tryd.func7, Tryd.ntmps7
  go_wp2_with (first
    | refine wpList_store_row rfl 47 _ _ rfl (w.heap.size + 1 + 1) _ rfl rfl 47 _ H2.out infoRg rfl HONE.out ?_
    | fail)
  clear hself H2 HONE hE0
  unfold maxLen at hn1 hm1
  have HO := hid hO
  have HU := hid hU
  have HQ := hid hq
  have HW0 := hid hw
  have HW := hid (hw.below hA)
  have HN := hid hn
  have HM := hid hm
  have hb0 : w.heap.size + 3 ≤ E0.heap.size := by omega
  clear hO hU hq hn hm hw c0 c1 hsz
  generalize hlit : (Value.agg #[Value.bool false, Value.bool false, Value.bool false, Value.bool false, Value.bool false, Value.bool false, Value.bool false, Value.bool false, Value.bool false, Value.bool false, Value.bool false, Value.bool false, Value.bool false, Value.bool false, Value.bool false, Value.bool false, Value.bool false, Value.bool false, Value.bool false, Value.bool false, Value.bool false, Value.bool false, Value.bool false, Value.bool false, Value.bool false, Value.bool false, Value.bool false, Value.bool false, Value.bool false, Value.bool false]) = LV
  clear hlit
  go_loopw [18] (fun kk wr => ∃ k : Nat, k ≤ n ∧ kk = .int .i64 k ∧ Hid (∀ j (hj : j < O.length), j < k → opB (hadB (O.take j)) width O[j] = true) ∧ Hid (RBox wr (w.heap.size + 1 + 1) (fun r : Nat => hadB (O.take k) r)) ∧ Hid (wr.heap[w.heap.size]? = some (.cells #[.slice oa n oc, .slice ua m uc] 31)) ∧ Hid (wr.heap[w.heap.size + 1]? = some (.cells #[.int .i64 width] 2)) ∧ w.heap.size + 3 ≤ wr.heap.size ∧ Hid (OpwAt wr) ∧ Below w.heap.size w wr) (fun kk _ => n - (intOf kk).toNat)
  case atStart => exact ⟨0, Nat.zero_le _, rfl, fun j _ h => absurd h (Nat.not_lt_zero _), HR, H0, H1, hb0, HW, hA⟩
  case round =>
    obtain ⟨k, hk, rfl, hall, hbx, h0, h1, hsz, how, hbw⟩ := hrel
    by_cases hlt : k < n
    · have hlt' : k < O.length := by rw [HN.out]; exact hlt
      obtain ⟨g, o, rfl, hgw, c0, c1, c2, c3⟩ := HO.out.below hbw k hlt'
      have hi0 : (0 : Int) ≤ (k : Int) := by omega
      have hi1 : (k : Int) < (n : Int) := by omega
      have HS := hid (add_step hlt')
      have HE := hid (op_eq (hadB (O.take k)) width O[k])
      have HNO := hid (fun h => ops_no (width := width) hlt' h)
      have HALL := hid (p := opB (hadB (O.take k)) width O[k] = true → ∀ j (hj : j < O.length), j < k + 1 → opB (hadB (O.take j)) width O[j] = true) (fun h j hj hjk => by
        rcases Nat.lt_succ_iff_lt_or_eq.1 hjk with h2 | h2
        · exact hall.out j hj h2
        · subst h2; exact h)
      generalize hx : O[k]'hlt' = x at c0 c1 c2 c3 HS HE HNO HALL
      clear hx hlt'
      obtain ⟨y0, y1, y2, y3⟩ := x
      dsimp only at c0 c1 c2 c3
      obtain ⟨W1, hW1⟩ : ∃ W, W = wr.alloc (.cells #[.int .i64 y0, .int .i64 y1, .int .i64 y2, .int .i64 y3] 41) := ⟨_, rfl⟩
      have hA1 : Below wr.heap.size wr W1 := by rw [hW1]; exact (Below.refl _ _).alloc (Nat.le_refl _) _
      have HY := hid (p := W1.heap[wr.heap.size]? = some (.cells #[.int .i64 y0, .int .i64 y1, .int .i64 y2, .int .i64 y3] 41)) (by rw [hW1]; exact _root_.Go.heap_alloc_new wr _)
      have HBX := hid (p := RBox W1 (w.heap.size + 1 + 1) (fun r : Nat => hadB (O.take k) r)) (hbx.out.below (by omega) hA1)
      have HB1 := hid (p := W1.heap[w.heap.size + 1]? = some (.cells #[.int .i64 width] 2)) ((hA1.block _ (by omega)).trans h1.out)
      have HB0 := hid (p := W1.heap[w.heap.size]? = some (.cells #[.slice (some ⟨g, o, none⟩) n oc, .slice ua m uc] 31)) ((hA1.block _ (by omega)).trans h0.out)
      have HO1 := hid (how.out.below hA1)
      have hsz1 : w.heap.size + 3 ≤ W1.heap.size := Nat.le_trans hsz hA1.size
      have hyl : wr.heap.size < W1.heap.size := by rw [hW1]; simp
      have hbw1 := chain hbw hA1
      have P1 := Kept.refl 0 W1
      have hfo : foV (y0, y1, y2, y3) = .agg #[.int .i64 y0, .int .i64 y1, .int .i64 y2, .int .i64 y3] := rfl
      have HFIT := hid (fun wz (hz : OpwAt wz) b hb => opfits_impl (y0, y1, y2, y3) width wz hz b hb)
      have HRD := hid (fun wz => reads_impl (y0, y1, y2, y3) wz)
      have HWR := hid (fun wz => writes_impl (y0, y1, y2, y3) wz)
      have HHAS := hid (fun wz a c hr => has_impl (fun r : Nat => hadB (O.take k) r) a c (readsO (y0, y1, y2, y3)) _ rfl wz hr (reads_few _) _ rfl)
      have HROOM := hid (fun wz a c hr => room_impl (fun r : Nat => hadB (O.take k) r) a c (writesO (y0, y1, y2, y3)) _ rfl wz hr (writes_few _) _ rfl)
      have HWITH := hid (fun wz a c hr hg => with_impl (fun r : Nat => hadB (O.take k) r) a c (writesO (y0, y1, y2, y3)) _ rfl wz hr (writes_few _) hg)
      have HREG := hid (fun h => writes_regs (P := hadB (O.take k)) (o := (y0, y1, y2, y3)) h)
      have hX2 : infoSz (regL fun r : Nat => hadB (O.take k) r).toArray := infoRg.trans (congrArg some (regL_size _).symm)
      obtain ⟨b1, hb1⟩ : ∃ b, fitO width (y0, y1, y2, y3) = b := ⟨_, rfl⟩
      obtain ⟨b2, hb2⟩ : ∃ b, hasB (fun r : Nat => hadB (O.take k) r) (readsO (y0, y1, y2, y3)) = b := ⟨_, rfl⟩
      obtain ⟨b3, hb3⟩ : ∃ b, roomB (fun r : Nat => hadB (O.take k) r) (writesO (y0, y1, y2, y3)) = b := ⟨_, rfl⟩
      have HF1 := hid hb1
      rw [hb1, hb2, hb3] at HE
      rw [hb2] at HHAS
      rw [hb3] at HROOM HREG
      clear hb1 hb2 hb3
      unfold regV at HHAS HROOM HWITH
      unfold RBox at HBX
      rw [hfo] at HFIT HRD HWR
      generalize hgX : (regL fun r : Nat => hadB (O.take k) r).toArray = X at HHAS HROOM HWITH HBX hX2
      obtain ⟨p0, p1, p2, p3⟩ := cells4f HY.out
      have p4 := cell_of_row _ _ 0 _ _ _ HB1.out
      clear hbx h0 h1 hsz how hbw hgX
      go_wp2_with fail
      rw [← hW1]
      clear hW1 hA1 c0 c1 c2 c3
      have p5 := HBX.out
      refine wp_region_held_drew (S := (fun w' => ((w'.cell? ⟨wr.heap.size, 0, none⟩ = some (.int .i64 y0) ∧ w'.cell? ⟨wr.heap.size, 1, none⟩ = some (.int .i64 y1)) ∧ (w'.cell? ⟨wr.heap.size, 2, none⟩ = some (.int .i64 y2) ∧ w'.cell? ⟨wr.heap.size, 3, none⟩ = some (.int .i64 y3))) ∧ w'.cell? ⟨w.heap.size + 1, 0, none⟩ = some (.int .i64 width) ∧ w'.heap[w.heap.size + 1 + 1]? = some (.cells X 47 (0, 0)))) (by kernel_rfl) ⟨⟨⟨p0, p1⟩, p2, p3⟩, p4, p5⟩ (fun hHeld => ?_)
      refine tkH 0 ?_
      simp only [Act.put, ptT, ptZ, ptS]
      refine tkH 1 ?_
      simp only [Act.put, ptT, ptZ, ptS]
      refine oneH 2 ?_
      intro K hK
      go_simp
      refine (HFIT.out _ (HO1.out.below (Below.refl _ _).drew) _ HF1.out).mono ?_
      rintro e w2 ⟨rfl, hb2'⟩
      have hb2 := undrew hb2'
      have P2 := P1.below hb2
      have hx2 := chain hbw1 hb2
      clear p0 p1 p2 p3 p4 p5 hHeld hb2'
      obtain ⟨p0, p1, p2, p3⟩ := cells4f (P2.box (Nat.zero_le _) HY.out)
      have p4 := cell_of_row _ _ 0 _ _ _ (P2.box (Nat.zero_le _) HB1.out)
      have p5 := P2.box (Nat.zero_le _) HBX.out
      go_wp2_with fail
      refine hK.out _ _ ⟨⟨⟨p0, p1⟩, p2, p3⟩, p4, p5⟩ (fun hHeld => ?_)
      clear hK K
      try simp only [Act.put, ptT, ptZ, ptS]
      refine tkH 3 ?_
      simp only [Act.put, ptT, ptZ, ptS]
      refine tkH 4 ?_
      simp only [Act.put, ptT, ptZ, ptS]
      cases b1
      · skip
        refine skH 5 ?_
        simp only [Act.put, ptT, ptZ, ptS]
        refine skH 6 ?_
        simp only [Act.put, ptT, ptZ, ptS]
        refine skH 7 ?_
        simp only [Act.put, ptT, ptZ, ptS]
        refine skH 8 ?_
        simp only [Act.put, ptT, ptZ, ptS]
        refine skH 9 ?_
        simp only [Act.put, ptT, ptZ, ptS]
        refine tkH 10 ?_
        simp only [Act.put, ptT, ptZ, ptS]
        refine tkH 11 ?_
        simp only [Act.put, ptT, ptZ, ptS]
        refine skH 12 ?_
        simp only [Act.put, ptT, ptZ, ptS]
        refine skH 13 ?_
        simp only [Act.put, ptT, ptZ, ptS]
        refine skH 14 ?_
        simp only [Act.put, ptT, ptZ, ptS]
        refine skH 15 ?_
        simp only [Act.put, ptT, ptZ, ptS]
        refine skH 16 ?_
        simp only [Act.put, ptT, ptZ, ptS]
        refine tkH 17 ?_
        simp only [Act.put, ptT, ptZ, ptS]
        refine wpAnyH_done (by kernel_rfl) ?_ _
        have hz : opB (hadB (O.take k)) width (y0, y1, y2, y3) = false := by rw [HE.out]; rfl
        have hq : q = false := by
          rw [← HQ.out]; unfold fastB; rw [HNO.out hz]; simp
        have hxx := hx2
        clear p0 p1 p2 p3 p4 p5 hHeld
        subst hq
        go_wp2
        go_ret
        exact ⟨rfl, hxx⟩
      refine tkRow 5 47 (w.heap.size + 1 + 1) 47 X _ (fun _ h => h.2.2) Tryd.underlying47 rfl hX2 ?_
      simp only [Act.put, ptT, ptZ, ptS]
      refine tkH 6 ?_
      simp only [Act.put, ptT, ptZ, ptS]
      refine oneH 7 ?_
      intro K hK
      go_simp
      refine (HRD.out _).mono ?_
      rintro e w3 ⟨a3, c3, rfl, hr3, hb3⟩
      have P3 := P2.below hb3
      have hx3 := chain hx2 hb3
      clear p0 p1 p2 p3 p4 p5 hHeld
      obtain ⟨p0, p1, p2, p3⟩ := cells4f (P3.box (Nat.zero_le _) HY.out)
      have p4 := cell_of_row _ _ 0 _ _ _ (P3.box (Nat.zero_le _) HB1.out)
      have p5 := P3.box (Nat.zero_le _) HBX.out
      go_wp2_with fail
      refine hK.out _ _ ⟨⟨⟨p0, p1⟩, p2, p3⟩, p4, p5⟩ (fun hHeld => ?_)
      clear hK K
      try simp only [Act.put, ptT, ptZ, ptS]
      refine oneH 8 ?_
      intro K hK
      go_simp
      refine (HHAS.out _ a3 c3 hr3).mono ?_
      rintro e w4 ⟨rfl, hb4⟩
      have P4 := P3.below hb4
      have hx4 := chain hx3 hb4
      clear p0 p1 p2 p3 p4 p5 hHeld
      obtain ⟨p0, p1, p2, p3⟩ := cells4f (P4.box (Nat.zero_le _) HY.out)
      have p4 := cell_of_row _ _ 0 _ _ _ (P4.box (Nat.zero_le _) HB1.out)
      have p5 := P4.box (Nat.zero_le _) HBX.out
      go_wp2_with fail
      refine hK.out _ _ ⟨⟨⟨p0, p1⟩, p2, p3⟩, p4, p5⟩ (fun hHeld => ?_)
      clear hK K
      try simp only [Act.put, ptT, ptZ, ptS]
      refine tkH 9 ?_
      simp only [Act.put, ptT, ptZ, ptS]
      refine tkH 10 ?_
      simp only [Act.put, ptT, ptZ, ptS]
      refine tkH 11 ?_
      simp only [Act.put, ptT, ptZ, ptS]
      cases b2
      · skip
        refine skH 12 ?_
        simp only [Act.put, ptT, ptZ, ptS]
        refine skH 13 ?_
        simp only [Act.put, ptT, ptZ, ptS]
        refine skH 14 ?_
        simp only [Act.put, ptT, ptZ, ptS]
        refine skH 15 ?_
        simp only [Act.put, ptT, ptZ, ptS]
        refine skH 16 ?_
        simp only [Act.put, ptT, ptZ, ptS]
        refine tkH 17 ?_
        simp only [Act.put, ptT, ptZ, ptS]
        refine wpAnyH_done (by kernel_rfl) ?_ _
        have hz : opB (hadB (O.take k)) width (y0, y1, y2, y3) = false := by rw [HE.out]; rfl
        have hq : q = false := by
          rw [← HQ.out]; unfold fastB; rw [HNO.out hz]; simp
        have hxx := hx4
        clear p0 p1 p2 p3 p4 p5 hHeld
        subst hq
        go_wp2
        go_ret
        exact ⟨rfl, hxx⟩
      refine tkRow 12 47 (w.heap.size + 1 + 1) 47 X _ (fun _ h => h.2.2) Tryd.underlying47 rfl hX2 ?_
      simp only [Act.put, ptT, ptZ, ptS]
      refine tkH 13 ?_
      simp only [Act.put, ptT, ptZ, ptS]
      refine oneH 14 ?_
      intro K hK
      go_simp
      refine (HWR.out _).mono ?_
      rintro e w5 ⟨a5, c5, rfl, hr5, hb5⟩
      have P5 := P4.below hb5
      have hx5 := chain hx4 hb5
      clear p0 p1 p2 p3 p4 p5 hHeld
      obtain ⟨p0, p1, p2, p3⟩ := cells4f (P5.box (Nat.zero_le _) HY.out)
      have p4 := cell_of_row _ _ 0 _ _ _ (P5.box (Nat.zero_le _) HB1.out)
      have p5 := P5.box (Nat.zero_le _) HBX.out
      go_wp2_with fail
      refine hK.out _ _ ⟨⟨⟨p0, p1⟩, p2, p3⟩, p4, p5⟩ (fun hHeld => ?_)
      clear hK K
      try simp only [Act.put, ptT, ptZ, ptS]
      refine oneH 15 ?_
      intro K hK
      go_simp
      refine (HROOM.out _ a5 c5 hr5).mono ?_
      rintro e w6 ⟨rfl, hb6⟩
      have P6 := P5.below hb6
      have hx6 := chain hx5 hb6
      clear p0 p1 p2 p3 p4 p5 hHeld
      obtain ⟨p0, p1, p2, p3⟩ := cells4f (P6.box (Nat.zero_le _) HY.out)
      have p4 := cell_of_row _ _ 0 _ _ _ (P6.box (Nat.zero_le _) HB1.out)
      have p5 := P6.box (Nat.zero_le _) HBX.out
      go_wp2_with fail
      refine hK.out _ _ ⟨⟨⟨p0, p1⟩, p2, p3⟩, p4, p5⟩ (fun hHeld => ?_)
      clear hK K
      try simp only [Act.put, ptT, ptZ, ptS]
      refine tkH 16 ?_
      simp only [Act.put, ptT, ptZ, ptS]
      refine tkH 17 ?_
      simp only [Act.put, ptT, ptZ, ptS]
      cases b3
      · skip
        refine wpAnyH_done (by kernel_rfl) ?_ _
        have hz : opB (hadB (O.take k)) width (y0, y1, y2, y3) = false := by rw [HE.out]; rfl
        have hq : q = false := by
          rw [← HQ.out]; unfold fastB; rw [HNO.out hz]; simp
        have hxx := hx6
        clear p0 p1 p2 p3 p4 p5 hHeld
        subst hq
        go_wp2
        go_ret
        exact ⟨rfl, hxx⟩
      refine wpAnyH_done (by kernel_rfl) ?_ _
      have hz : opB (hadB (O.take k)) width (y0, y1, y2, y3) = true := by rw [HE.out]; rfl
      have HALL2 := hid (HALL.out hz)
      have HREG2 := hid (HREG.out (by first | rfl | trivial))
      clear HALL HREG HE HNO hz hr3 hr5 HFIT HRD HHAS HROOM hHeld HF1
      go_wp2_with fail
      refine wp_region_until (z := 4) (S := (fun w' => ((w'.cell? ⟨wr.heap.size, 0, none⟩ = some (.int .i64 y0) ∧ w'.cell? ⟨wr.heap.size, 1, none⟩ = some (.int .i64 y1)) ∧ (w'.cell? ⟨wr.heap.size, 2, none⟩ = some (.int .i64 y2) ∧ w'.cell? ⟨wr.heap.size, 3, none⟩ = some (.int .i64 y3))) ∧ w'.cell? ⟨w.heap.size + 1, 0, none⟩ = some (.int .i64 width) ∧ w'.heap[w.heap.size + 1 + 1]? = some (.cells X 47 (0, 0)))) (by kernel_rfl) ⟨⟨⟨p0, p1⟩, p2, p3⟩, p4, p5⟩ (fun hHeld => ?_)
      refine tkRowU 0 47 (w.heap.size + 1 + 1) 47 X _ (fun _ h => h.2.2) Tryd.underlying47 rfl hX2 ?_
      simp only [Act.put, ptT, ptZ, ptS]
      refine wpAnyU_take (i := 1) (by simp only [List.getElem?_toArray, List.getElem?_cons_zero, List.getElem?_cons_succ]; rfl) (by kernel_rfl) (by kernel_rfl) (by kernel_rfl) (by kernel_rfl) (by intro _ _ _ h; exact h) (Or.inl ⟨by rfl, fun w hSw => by (dsimp only at hSw; go_simp; (try with_reducible rfl))⟩) (by assumption) ?_
      simp only [Act.put, ptT, ptZ, ptS]
      refine wpAnyU_one (i := 2) (by kernel_rfl) (by simp only [List.getElem?_toArray, List.getElem?_cons_zero, List.getElem?_cons_succ]; rfl) ?_
      intro K hK
      go_simp
      refine (HWR.out _).mono ?_
      rintro e w7 ⟨a7, c7, rfl, hr7, hb7'⟩
      have hb7 := undrew hb7'
      have P7 := P6.below hb7
      have hx7 := chain hx6 hb7
      clear p0 p1 p2 p3 p4 p5 hHeld hb7'
      obtain ⟨p0, p1, p2, p3⟩ := cells4f (P7.box (Nat.zero_le _) HY.out)
      have p4 := cell_of_row _ _ 0 _ _ _ (P7.box (Nat.zero_le _) HB1.out)
      have p5 := P7.box (Nat.zero_le _) HBX.out
      go_wp2_with fail
      refine hK.out _ _ ⟨⟨⟨p0, p1⟩, p2, p3⟩, p4, p5⟩ (fun hHeld => ?_)
      clear hK K
      try simp only [Act.put, ptT, ptZ, ptS]
      refine wpAnyU_one (i := 3) (by kernel_rfl) (by simp only [List.getElem?_toArray, List.getElem?_cons_zero, List.getElem?_cons_succ]; rfl) ?_
      intro K hK
      go_simp
      refine (HWITH.out _ a7 c7 hr7 HREG2.out).mono ?_
      rintro e w8 ⟨rfl, hb8⟩
      have P8 := P7.below hb8
      have hx8 := chain hx7 hb8
      clear p0 p1 p2 p3 p4 p5 hHeld
      obtain ⟨p0, p1, p2, p3⟩ := cells4f (P8.box (Nat.zero_le _) HY.out)
      have p4 := cell_of_row _ _ 0 _ _ _ (P8.box (Nat.zero_le _) HB1.out)
      have p5 := P8.box (Nat.zero_le _) HBX.out
      go_wp2_with fail
      refine hK.out _ _ ⟨⟨⟨p0, p1⟩, p2, p3⟩, p4, p5⟩ (fun hHeld => ?_)
      clear hK K
      try simp only [Act.put, ptT, ptZ, ptS]
      refine wpAnyU_last (by kernel_rfl) (by simp only [List.getElem?_toArray, List.getElem?_cons_zero, List.getElem?_cons_succ]; rfl) ?_
      intro K hK
      rw [if_pos (by rfl)]
      have g5 : infoSz (regL (addP (fun r : Nat => hadB (O.take k) r) (writesO (y0, y1, y2, y3)))).toArray := infoRg.trans (congrArg some (regL_size _).symm)
      have z5 : X.size = (regL (addP (fun r : Nat => hadB (O.take k) r) (writesO (y0, y1, y2, y3)))).toArray.size := Option.some.inj (hX2.symm.trans g5)
      refine wp_store_row 47 _ _ rfl (w.heap.size + 1 + 1) (regL (addP (fun r : Nat => hadB (O.take k) r) (writesO (y0, y1, y2, y3)))).toArray rfl rfl 47 X p5 g5 z5 (regL_one _) ?_
      refine hK.out _ _ ?_
      clear hK K
      try simp only [Act.put]
      refine wpAnyU_done (by kernel_rfl) ?_ _
      have e3 := setRow_heap w8 (w.heap.size + 1 + 1) _ (regL (addP (fun r : Nat => hadB (O.take k) r) (writesO (y0, y1, y2, y3)))).toArray _ _ p5
      rw [HS.out] at e3 ⊢
      have hx9 := below_setRow hx8 (show w.heap.size ≤ w.heap.size + 1 + 1 by omega) (regL fun r : Nat => hadB (O.take (k + 1)) r).toArray
      have e0 := (setRow_other w8 (w.heap.size + 1 + 1) w.heap.size (regL fun r : Nat => hadB (O.take (k + 1)) r).toArray (by omega)).trans (P8.box (Nat.zero_le _) HB0.out)
      have e1 := (setRow_other w8 (w.heap.size + 1 + 1) (w.heap.size + 1) (regL fun r : Nat => hadB (O.take (k + 1)) r).toArray (by omega)).trans (P8.box (Nat.zero_le _) HB1.out)
      have hs8 : w.heap.size + 3 ≤ w8.heap.size := Nat.le_trans hsz1 P8.size
      have hs9 : w.heap.size + 3 ≤ (w8.setRow (w.heap.size + 1 + 1) (regL fun r : Nat => hadB (O.take (k + 1)) r).toArray).heap.size := by rw [setRow_size]; exact hs8
      obtain ⟨W9, hW9⟩ : ∃ W, W = w8.setRow (w.heap.size + 1 + 1) (regL fun r : Nat => hadB (O.take (k + 1)) r).toArray := ⟨_, rfl⟩
      rw [← hW9] at e0 e1 e3 hx9 hs9 ⊢
      have E0' := hid e0
      have E1' := hid e1
      have E3' := hid (p := RBox W9 (w.heap.size + 1 + 1) (fun r : Nat => hadB (O.take (k + 1)) r)) e3
      have HO9 := hid (HW0.out.below hx9)
      clear hW9 e0 e1 e3 p0 p1 p2 p3 p4 p5 hHeld hs8 z5 g5
      go_wp2
      go_roundw
      case rel => exact ⟨k + 1, by omega, by go_num, HALL2.out, E3', E0', E1', hs9, HO9, hx9⟩
      case measure => simp [intOf]; omega
    · have hkl : k = n := by omega
      subst hkl
      have hnn : ¬ (k : Int) < (k : Int) := by omega
      obtain ⟨p0, p1⟩ := cells2 h0.out
      have HU2 := hid (HU.out.below hbw)
      have hf : fastB O U width = U.all (fitU (fun r : Nat => hadB O r) width) := by
        have h1 : opsB width O = true := ops_yes (fun j hj => hall.out j hj (by rw [HN.out] at hj; exact hj))
        have h2 : inI width 1 6 = true := by unfold inI; rw [decide_eq_true hw0', decide_eq_true hw1']; rfl
        unfold fastB
        rw [h1, h2, Bool.true_and, Bool.true_and]
        exact congrArg (fun f => U.all f) (funext fun u => out_eq (hadB O) width u)
      have hbx2 : RBox wr (w.heap.size + 1 + 1) (fun r : Nat => hadB O r) := by
        have := hbx.out
        rw [List.take_of_length_le (by rw [HN.out]; exact Nat.le_refl _)] at this
        exact this
      have p4 := cell_of_row _ _ 0 _ _ _ h1.out
      have HEV := hid (every_outs (w.heap.size + 1 + 1) (w.heap.size + 1) _ width ua uc m U HM.out wr HU2.out hm1 hbx2 (by omega) p4 (by omega) q (hf.symm.trans HQ.out))
      have HBW := hid hbw
      clear hf hbx2 p4 hbx
      go_wp2_with fail
      refine HEV.out.mono ?_
      rintro e w2 ⟨rfl, hb2⟩
      have hxx := chain HBW.out hb2
      clear hb2
      go_wp2
      go_ret
      exact ⟨rfl, hxx⟩
end Go.Proofs.YtmhamgcjmehnnaaDoor
