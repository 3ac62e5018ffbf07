/-
  The walk of the program's Sorted.
-/
import Derived.Test.YtgeipficjfaocaaSortedI
namespace Go.Proofs.Ytgeipficjfaocaa
open Go.ChangeShapes Go.WideShapes Go.ChangeAt Go.RowKit
attribute [local go_sem ↓] Go.wp_at_zero Go.wp_at_succ

/-- What is changed beyond a border that the heap does not reach leaves it. -/
theorem Waits.far {w w' : World} {base b' H : Nat} {V : Value} {n t : Nat} {R : Nat → Value} {key : Nat → CT} {A : Nat → Nat × Nat} {N K : Nat → Nat} {s : List Nat} {down : Bool} (h : Waits w base H V n t R key A N K s down) (hb : Below b' w w') (hH : H < b') (hV : ∀ g, V.ownBlock = some g → g < b') (hbb : base ≤ b') : Waits w' base H V n t R key A N K s down := by
  refine ⟨⟨?_, ?_, ?_, ?_, h.heap.hH, ?_, h.heap.apart, h.heap.hd, ?_⟩, h.keys.below (hb.mono hbb), h.all, Nat.le_trans h.bw hb.size⟩
  · rw [hb.cell (p := ⟨H, 0, none⟩) hH]; exact h.heap.c0
  · rw [hb.cell (p := ⟨H, 1, none⟩) hH]; exact h.heap.c1
  · rw [hb.cell (p := ⟨H, 2, none⟩) hH]; exact h.heap.c2
  · rw [hb.frozen (p := ⟨H, 0, none⟩) hH]; exact h.heap.fz
  · refine ⟨h.heap.own.1, ?_⟩
    rcases h.heap.own.2 with h' | ⟨g, cap, cur, h', hbg, hg, hr⟩
    · exact .inl h'
    · exact .inr ⟨g, cap, cur, h', hbg, by rw [hb.block g (hV g (by rw [h']; rfl))]; exact hg, hr⟩
  · rw [hb.block H hH]; exact h.heap.ty

def sliceLen : Value → Nat
  | .slice _ n _ => n
  | _ => 0

theorem field_row : ∀ (a : Option Addr) (n k : Nat) (q : Int) (w : World), (Instr.field 84 (.agg #[.slice a n k, .int .i64 q]) 0).run Try.prog w = .ok (.slice a n k) w := fun a n k q w => by kernel_rfl

/-- Rows are taken out of the heap one by one: those that are out, and those that wait. -/
structure Taking (w : World) (base b' H : Nat) (v V : Value) (L : List (List CT)) (t : Nat) (R : Nat → Value) (A : Nat → Nat × Nat) (N K : Nat → Nat) (p s : List Nat) (down : Bool) : Prop where
  out : ∃ G C, OwnRows w b' v (rowsOf L p) G C
  some : v ≠ .slice none 0 0
  waits : Waits w base H V L.length t R (keyOf L (t : Int)) A N K s down
  heap : Heap (placeLt (keyOf L (t : Int)) down) s s.length
  perm : (p ++ s).Perm (List.range L.length)
  order : p.Pairwise (fun x y => placeLt (keyOf L (t : Int)) down y x = false)
  ahead : ∀ x ∈ p, ∀ y ∈ s, placeLt (keyOf L (t : Int)) down y x = false
  hH : H < b'
  hV : ∀ g, V.ownBlock = Option.some g → g < b'
  hb : base ≤ b'
  hw : b' ≤ w.heap.size
theorem Taking.len {w : World} {base b' H : Nat} {v V : Value} {L : List (List CT)} {t : Nat} {R : Nat → Value} {A : Nat → Nat × Nat} {N K : Nat → Nat} {p s : List Nat} {down : Bool} (h : Taking w base b' H v V L t R A N K p s down) : p.length + s.length = L.length := by
  have := h.perm.length_eq; simpa using this
theorem Taking.form {w : World} {base b' H : Nat} {v V : Value} {L : List (List CT)} {t : Nat} {R : Nat → Value} {A : Nat → Nat × Nat} {N K : Nat → Nat} {p s : List Nat} {down : Bool} (h : Taking w base b' H v V L t R A N K p s down) : ∃ g c, v = .slice (Option.some ⟨g, 0, none⟩) p.length c ∧ b' ≤ g := by
  obtain ⟨G, C, O⟩ := h.out
  rcases O.outer.2 with ⟨h', _⟩ | ⟨g, c, cur, h', hle, _⟩
  · exact absurd h' h.some
  · exact ⟨g, c, by rw [h', rowsOf_length], hle⟩

set_option maxRecDepth 100000 in
set_option maxHeartbeats 4000000 in
theorem sorted_impl (a : Option Addr) (cap : Nat) (L : List (List CT)) (at_ : Int) (down : Bool) (w : World) (hrow : RowsAt w a L) (hm : L.length ≤ 1048576) (hms : ∀ i (h : i < L.length), L[i].length ≤ 1048576) :
    Calls Try.prog 43 #[.slice a L.length cap, .int .i64 at_, .bool down] w fun e w' => ∃ g c p, e = .returned (.slice (some ⟨g, 0, none⟩) L.length c) ∧ IsOrder L at_ down p ∧ Laid w' w.heap.size g c L p ∧ Below w.heap.size w w' := by
  obtain ⟨y, hy0⟩ : ∃ y : Bool, y = true ↔ Reach L at_ := by
    by_cases h : Reach L at_
    · exact ⟨true, fun _ => h, fun _ => rfl⟩
    · exact ⟨false, fun e => (by cases e), fun h' => absurd h' h⟩
  have hy : Hid (y = true ↔ Reach L at_) := hy0
  have hR : Hid (RowsAt w a L) := hrow
  have AR : Hid (Calls Try.prog 82 #[.slice a L.length cap, .int .i64 at_] w fun e w' => e = .returned (.bool y) ∧ w = w') := all_reach a cap L at_ w hrow hm y hy
  have CR : Hid (∀ w', Below w.heap.size w w' → Calls Try.prog 83 #[.slice a L.length cap] w' fun e w'' => ∃ v G C, e = .returned v ∧ OwnRows w'' w'.heap.size v L G C ∧ Below w'.heap.size w' w'' ∧ v ≠ .slice none 0 0) := fun w' hb => copied_rows a cap L w' (hrow.below hb) hm hms
  have hMS : Hid (∀ i (h : i < L.length), L[i].length ≤ 1048576) := hms
  clear hrow hms hy0
  cases y
  · have hno : ¬ Reach L at_ := fun h => by have := hy.out.2 h; cases this
    have hno' : Hid (¬ Reach L at_) := hno
    clear hno
    go_enter Try.func43, Try.ntmps43
    go_wp2_with fail
    refine AR.out.mono ?_
    rintro e w' ⟨rfl, rfl⟩
    go_wp2_with fail
    refine (CR.out _ (Below.refl _ _)).mono ?_
    rintro e w1 ⟨v, G, C, rfl, O1, hb1, hv⟩
    obtain ⟨g, c, rfl⟩ : ∃ g c, v = .slice (some ⟨g, 0, none⟩) L.length c := by
      rcases O1.outer.2 with ⟨h', _⟩ | ⟨g, c, cur, h', _⟩
      · exact absurd h' hv
      · exact ⟨g, c, h'⟩
    have O : Hid (Laid w1 w.heap.size g c L (List.range L.length)) := ⟨G, C, by rw [rowsOf_range]; exact O1⟩
    have fin : Hid (IsOrder L at_ down (List.range L.length)) := ⟨List.Perm.refl _, fun hr => absurd hr hno'.out, fun _ => rfl⟩
    clear O1 hv
    go_wp2
    go_ret
    first | exact ⟨g, c, _, rfl, fin.out, O.out, hb1⟩ | exact ⟨g, c, rfl, _, fin.out, O.out, hb1⟩
  have hReach : Hid (Reach L at_) := hy.out.1 rfl
  clear hy CR
  obtain ⟨i0, hi, hz0, hz1, hz2⟩ := info_parts infoRowI
  by_cases hL0 : L = []
  · subst hL0
    have fin : Hid (IsOrder ([] : List (List CT)) at_ down []) := ⟨List.Perm.refl _, fun _ => List.Pairwise.nil, fun _ => rfl⟩
    have W0 : Hid (HeapAt (w.alloc (.cells #[.slice none 0 0, .int .i64 at_, .bool down] 81)) w.heap.size w.heap.size (.slice none 0 0) (fun _ => .slice none 0 0) [] at_ down) :=
      ⟨by simp, by simp, by simp, by simp, Nat.le_refl _, World.ownsRow_nil _ _ _ _, by simp [Value.ownBlock], fun q => ⟨_, _, _, rfl⟩, ⟨_, heap_alloc_new w _⟩⟩
    go_enter Try.func43, Try.ntmps43
    go_wp2_with fail
    refine AR.out.mono ?_
    rintro e w' ⟨rfl, rfl⟩
    go_wp2_with fail
    go_loopw [23] (fun i wr => i = .int .i64 0 ∧ wr = w.alloc (.cells #[.slice none 0 0, .int .i64 at_, .bool down] 81)) (fun _ _ => 0)
    case atStart => exact ⟨rfl, rfl⟩
    case round =>
      obtain ⟨rfl, rfl⟩ := hrel
      go_wp2_with (at_make; refine wpList_make_own _ rfl _ _ 38 rfl w.heap.size 33 i0 (.slice none 0 0) 1 Try.underlying38 hi hz0 hz1 .i64 .i64 _ 0 rfl rfl rfl (by rw [hz2]; omega) (by unfold maxLen; omega) (by simp) ?_)
      intro w2 hown2 hgrow2
      have hb2 : Below (w.alloc (.cells #[.slice none 0 0, .int .i64 at_, .bool down] 81)).heap.size (w.alloc (.cells #[.slice none 0 0, .int .i64 at_, .bool down] 81)) w2 := (Below.refl _ _).grown hgrow2 (Nat.le_refl _) (by intro k h; cases h)
      have W2 : Hid (HeapAt w2 w.heap.size w.heap.size (.slice none 0 0) (fun _ => .slice none 0 0) [] at_ down) := W0.out.below hb2
      have O : Hid (Laid w2 w.heap.size _ 0 [] []) := ⟨fun _ => 0, fun _ => 0, hown2, fun i hi => by simp [rowsOf] at hi, fun i j hi => by simp [rowsOf] at hi⟩
      have hbx := chainA hb2
      clear hown2 hgrow2 hb2 W0
      go_wp2_with fail
      go_loopw [10] (fun v wr => v = .slice (some ⟨w.heap.size + 1, 0, none⟩) 0 0 ∧ wr = w2) (fun _ _ => 0)
      case atStart => exact ⟨by simp, rfl⟩
      case round =>
        obtain ⟨rfl, rfl⟩ := hrel
        go_wp2_with fail
        refine (heap_len W2.out).mono ?_
        rintro e w' ⟨rfl, rfl⟩
        go_wp2
        go_ret
        first | exact ⟨_, _, _, rfl, fin.out, O.out, hbx⟩ | exact ⟨_, _, rfl, _, fin.out, O.out, hbx⟩
  have hLp : 0 < L.length := by cases L with | nil => exact absurd rfl hL0 | cons _ _ => simp
  obtain ⟨t, rfl⟩ : ∃ t : Nat, at_ = t := ⟨at_.toNat, by have := hReach.out 0 hLp; omega⟩
  obtain ⟨A, K, hAK⟩ := heads_of hR.out
  obtain ⟨B, hB⟩ := keys_of hReach.out hAK
  obtain ⟨N, hN⟩ : ∃ N : Nat → Nat, (fun i => (L.getD i []).length) = N := ⟨_, rfl⟩
  have HA : Hid (∀ i, i < L.length → ∃ b o, a = some ⟨b, o, none⟩ ∧ b < w.heap.size ∧ w.cell? ⟨b, o + i, none⟩ = some (.slice (A i) (N i) (K i)) ∧ RowAt w (A i) (L.getD i []) ∧ (A i = none → K i = 0)) := by subst hN; exact hAK
  have HB : Hid (KeysAt w w.heap.size L.length t (fun i => .slice (A i) (N i) (K i)) (keyOf L (t : Int)) B N K) := by subst hN; exact hB
  have HN : Hid (∀ i, N i = (L.getD i []).length) := by
    have hN0 : ∀ i, N i = (L.getD i []).length := fun i => by rw [← hN]
    exact hN0
  clear hAK hB hR hN
  have ST := placeLt_strict (keyOf L (t : Int)) down L.length
  have qa := asserts_row
  have qf := field_row
  have W0 : Hid (Waits (w.alloc (.cells #[.slice none 0 0, .int .i64 t, .bool down] 81)) w.heap.size w.heap.size (.slice none 0 0) L.length t (fun i => .slice (A i) (N i) (K i)) (keyOf L (t : Int)) B N K [] down) := by
    refine ⟨⟨by simp, by simp, by simp, by simp, Nat.le_refl _, World.ownsRow_nil _ _ _ _, by simp [Value.ownBlock], fun q => ⟨_, _, _, rfl⟩, ⟨_, heap_alloc_new w _⟩⟩, HB.out.below ((Below.refl _ _).alloc (Nat.le_refl _) _), fun q hq => by simp at hq, by simp⟩
  go_enter Try.func43, Try.ntmps43
  go_wp2_with fail
  refine AR.out.mono ?_
  rintro e w' ⟨rfl, rfl⟩
  go_wp2_with fail
  go_loopw [23] (fun i wr => ∃ k : Nat, k ≤ L.length ∧ i = .int .i64 k ∧ Hid (∃ V s, s.Perm (List.range k) ∧ Waits wr w.heap.size w.heap.size V L.length t (fun i => .slice (A i) (N i) (K i)) (keyOf L (t : Int)) B N K s down ∧ Heap (placeLt (keyOf L (t : Int)) down) s s.length) ∧ Below w.heap.size w wr) (fun i _ => L.length - (intOf i).toNat)
  case atStart => exact ⟨0, Nat.zero_le _, rfl, ⟨_, [], List.Perm.refl _, W0.out, fun i h0 h1 => by simp at h1⟩, (Below.refl _ _).alloc (Nat.le_refl _) _⟩
  case round =>
    obtain ⟨k, hk, rfl, hP, hb⟩ := hrel
    by_cases hlt : k < L.length
    · obtain ⟨b, o, rfl, hbw, c0, _⟩ := HA.out k hlt
      have hi0 : (0 : Int) ≤ (k : Int) := by omega
      have hi1 : (k : Int) < (L.length : Int) := by omega
      rw [← hb.cell (p := ⟨b, _, none⟩) hbw] at c0
      obtain ⟨V, s, hs, hw, hh⟩ := hP.out
      have hsl : s.length = k := by simpa using hs.length_eq
      have HW : Hid (Waits wr w.heap.size w.heap.size V L.length t (fun i => .slice (A i) (N i) (K i)) (keyOf L (t : Int)) B N K s down) := hw
      have HH : Hid (Heap (placeLt (keyOf L (t : Int)) down) s s.length) := hh
      clear hw hh hP
      go_wp2_with fail
      refine (heap_push HW.out HH.out (by omega) k hlt).mono ?_
      rintro e w1 ⟨⟨v, rfl⟩, V', s', hs', hw', hh', hb'⟩
      have hfin : Hid (∃ V s, s.Perm (List.range (k + 1)) ∧ Waits w1 w.heap.size w.heap.size V L.length t (fun i => .slice (A i) (N i) (K i)) (keyOf L (t : Int)) B N K s down ∧ Heap (placeLt (keyOf L (t : Int)) down) s s.length) :=
        ⟨V', s', by rw [List.range_succ]; exact hs'.trans (hs.append_right _), hw', hh'⟩
      clear hs' hw' hh' HW HH
      go_wp2
      go_roundw
      case rel => exact ⟨k + 1, by omega, by go_num, hfin, hb.trans hb'⟩
      case measure => simp [intOf]; omega
    · have hkl : k = L.length := by omega
      subst hkl
      have hnn : ¬ (L.length : Int) < (L.length : Int) := by omega
      obtain ⟨V, s, hs, hw, hh⟩ := hP.out
      have HW : Hid (Waits wr w.heap.size w.heap.size V L.length t (fun i => .slice (A i) (N i) (K i)) (keyOf L (t : Int)) B N K s down) := hw
      have HH : Hid (Heap (placeLt (keyOf L (t : Int)) down) s s.length) := hh
      clear hw hh hP
      go_wp2_with (at_make; refine wpList_make_own _ rfl _ _ 38 rfl wr.heap.size 33 i0 (.slice none 0 0) 1 Try.underlying38 hi hz0 hz1 .i64 .i64 _ L.length rfl rfl rfl (by rw [hz2]; omega) (by unfold maxLen; omega) (Nat.le_refl _) ?_)
      intro w2 hown2 hgrow2
      have hb2 : Below wr.heap.size wr w2 := (Below.refl _ _).grown hgrow2 (Nat.le_refl _) (by intro k h; cases h)
      have T0 : Hid (Taking w2 w.heap.size wr.heap.size w.heap.size (.slice (some ⟨wr.heap.size, 0, none⟩) 0 L.length) V L t (fun i => .slice (A i) (N i) (K i)) B N K [] s down) := by
        refine ⟨⟨fun _ => 0, fun _ => 0, hown2, fun i hi => by simp [rowsOf] at hi, fun i j hi => by simp [rowsOf] at hi⟩, by simp, HW.out.below hb2, HH.out, by simpa using hs, List.Pairwise.nil, fun x hx => by simp at hx, HW.out.heap.lt, fun g hg => (HW.out.heap.own.lt g hg).2, HW.out.bw, hb2.size⟩
      have hbx := chain hb hb2
      obtain ⟨b', hb'⟩ : ∃ b', Hid (wr.heap.size = b') := ⟨_, rfl⟩
      clear hown2 hgrow2 hb2 HW HH
      go_wp2_with fail
      go_loopw [10] (fun v wr2 => Hid (∃ V p s, Taking wr2 w.heap.size b' w.heap.size v V L t (fun i => .slice (A i) (N i) (K i)) B N K p s down) ∧ Below w.heap.size w wr2) (fun v _ => L.length - sliceLen v)
      case atStart => exact ⟨⟨V, [], s, by rw [← hb'.out]; exact T0.out⟩, hbx⟩
      case round =>
        obtain ⟨hP2, hbr⟩ := hrel
        clear T0 hbx
        obtain ⟨V2, p, s2, T2⟩ := hP2.out
        obtain ⟨gv, cv, hv, hgv⟩ := T2.form
        subst hv
        have hlen := T2.len
        have HT : Hid (Taking _ w.heap.size b' w.heap.size _ V2 L t (fun i => .slice (A i) (N i) (K i)) B N K p s2 down) := T2
        clear T2 hP2
        by_cases hs0 : s2.length = 0
        · have hsn : s2 = [] := List.eq_nil_of_length_eq_zero hs0
          subst hsn
          have fin : Hid (IsOrder L (t : Int) down p) := ⟨by simpa using HT.out.perm, fun _ => HT.out.order, fun hn => absurd hReach.out hn⟩
          have hpl : p.length = L.length := by simpa using hlen
          have O : Hid (Laid wr w.heap.size gv cv L p) := by
            obtain ⟨G, C, O⟩ := HT.out.out
            rw [hpl] at O
            exact ⟨G, C, O.base HT.out.hb⟩
          have HL : Hid (Calls Try.prog 85 #[.pointer (some ⟨w.heap.size, 0, none⟩)] wr fun e w' => e = .returned (.int .i64 0) ∧ wr = w') := heap_len HT.out.waits.heap
          rw [hpl]
          clear HT hlen
          go_wp2_with fail
          refine HL.out.mono ?_
          rintro e w' ⟨rfl, rfl⟩
          go_wp2
          go_ret
          first | exact ⟨gv, cv, _, rfl, fin.out, O.out, hbr⟩ | exact ⟨gv, cv, rfl, _, fin.out, O.out, hbr⟩
        · obtain ⟨m, hm2⟩ : ∃ m, s2.length = m + 1 := ⟨s2.length - 1, by omega⟩
          obtain ⟨q, hq⟩ : ∃ q, s2.getD 0 0 = q := ⟨_, rfl⟩
          have HL : Hid (Calls Try.prog 85 #[.pointer (some ⟨w.heap.size, 0, none⟩)] wr fun e w' => e = .returned (.int .i64 ((m + 1 : Nat) : Int)) ∧ wr = w') := by
            have := heap_len HT.out.waits.heap
            rw [hm2] at this; exact this
          obtain ⟨g3, c3, hV3, hg3⟩ := HT.out.waits.form (by omega)
          subst hV3
          have hqs : q ∈ s2 := by rw [← hq, getD_get _ _ _ (by omega)]; exact List.getElem_mem _
          have hqL : q < L.length := HT.out.waits.all q hqs
          have j1 : (0 : Int) < ((m + 1 : Nat) : Int) := by omega
          go_wp2_with fail
          refine HL.out.mono ?_
          rintro e w' ⟨rfl, rfl⟩
          go_wp2_with fail
          refine (heap_pop m q hm2 hq HT.out.waits HT.out.heap hg3 (by omega)).mono ?_
          rintro e w3 ⟨s3, rfl, hperm, hleast, hl3, hw3, hh3, hk3⟩
          have hgb : g3 < b' := HT.out.hV g3 rfl
          have hb3 : Below w.heap.size w w3 := by
            refine hbr.trans (hk3.below (fun b hb => ?_) HT.out.waits.bw)
            rcases hb with rfl | rfl
            · exact hg3
            · exact Nat.le_refl _
          have O3 : Hid (∃ G C, OwnRows w3 b' (.slice (some ⟨gv, 0, none⟩) p.length cv) (rowsOf L p) G C) := by
            obtain ⟨G, C, O⟩ := HT.out.out
            refine ⟨G, C, O.keepS hk3 (fun b hb => ?_)⟩
            rcases hb with rfl | rfl
            · exact hgb
            · exact HT.out.hH
          have W3 : Hid (Waits w3 w.heap.size w.heap.size (.slice (some ⟨g3, 0, none⟩) m c3) L.length t (fun i => .slice (A i) (N i) (K i)) (keyOf L (t : Int)) B N K s3 down) := hw3
          have H3 : Hid (Heap (placeLt (keyOf L (t : Int)) down) s3 s3.length) := hh3
          have hbw3 : b' ≤ w3.heap.size := Nat.le_trans HT.out.hw hk3.size
          have ⟨hrow, hnil⟩ : RowAt w (A q) (L.getD q []) ∧ (A q = none → K q = 0) := by
            obtain ⟨_, _, _, _, _, h1, h2⟩ := HA.out q hqL
            exact ⟨h1, h2⟩
          have hrow3 : Hid (RowAt w3 (A q) (L.getD q [])) := hrow.below hb3
          have hql : (L.getD q []).length ≤ 1048576 := by rw [getD_get _ _ _ hqL]; exact hMS.out q hqL
          clear hw3 hh3 hrow HL
          go_wp2_with fail
          obtain ⟨l, hl⟩ : ∃ l, L.getD q [] = l := ⟨_, rfl⟩
          have hNq : N q = l.length := by rw [HN.out q, hl]
          rw [hl] at hrow3 hql
          rw [hNq]
          refine (copied_row _ _ l _ hrow3.out hnil hql).mono ?_
          rintro e w4 ⟨g, c, rfl, hg, own, hb4⟩
          obtain ⟨G, C, O3'⟩ := O3.out
          have O4 := O3'.below hb4
          have hx := chain hb3 hb4
          have hbw4 : b' ≤ w4.heap.size := Nat.le_trans hbw3 hb4.size
          have hrl : (rowsOf L p).length = p.length := rowsOf_length _ _
          go_wp2_with (at_builtin; refine wpList_append_own _ rfl _ _ 38 rfl b' 33 i0 (.slice none 0 0) 1 24 Try.underlying38 hi hz0 hz1 hz2 rfl (by decide) _ _ _ rfl (O4.outer.alloc _) ⟨w4.heap.size, 0, none⟩ 1 1 [.slice (some ⟨g, 0, none⟩) l.length c] rfl rfl ?c1 ?c2 ?c3 ?c4 ?c5 ?_)
          case c1 =>
            intro j u hj
            match j, hj with
            | 0, hj => simp at hj; subst hj; simp [Addr.add]
          case c2 => intro u hu; simp at hu; subst hu; rfl
          case c3 => rw [hrl]; unfold maxLen; omega
          case c4 => rw [hrl]; omega
          case c5 => simp; omega
          intro v' w5 own5 hgrow hnn
          have S := O3'.step hb4 hg (own_base own hbw3) (by rw [hrl]; exact own5) hgrow
          have e5 : rowsOf L p ++ [l] = rowsOf L (p ++ [q]) := by rw [← hl]; simp [rowsOf]
          rw [e5] at S
          have hb5 : Below b' w4 w5 := by
            refine (((Below.refl b' w4).alloc hbw4 _).grown hgrow (by simp; omega) ?_)
            intro k hk
            simp [Value.ownBlock] at hk; omega
          have hvn : v' ≠ .slice none 0 0 := by first | exact hnn | exact fun e => by simp at e
          have hp5 : (p ++ [q] ++ s3).Perm (List.range L.length) := by
            refine List.Perm.trans ?_ HT.out.perm
            rw [List.append_assoc]
            exact List.Perm.append_left p hperm.symm
          have hfin : Hid (∃ V p s, Taking w5 w.heap.size b' w.heap.size v' V L t (fun i => .slice (A i) (N i) (K i)) B N K p s down) := by
            refine ⟨_, p ++ [q], s3, ⟨S, hvn, (W3.out.below hb4).far hb5 HT.out.hH (fun g hg => by simp [Value.ownBlock] at hg; omega) HT.out.hb, H3.out, hp5, ?_, ?_, HT.out.hH, fun g hg => by simp [Value.ownBlock] at hg; omega, HT.out.hb, Nat.le_trans hbw4 hb5.size⟩⟩
            · rw [List.pairwise_append]
              refine ⟨HT.out.order, List.pairwise_singleton _ _, fun x hx y hy => ?_⟩
              simp at hy
              subst hy
              exact HT.out.ahead x hx y hqs
            · intro x hx y hy
              rcases List.mem_append.1 hx with hx | hx
              · exact HT.out.ahead x hx y (hperm.symm.mem_iff.1 (List.mem_cons_of_mem _ hy))
              · simp at hx
                subst hx
                exact hleast y hy
          obtain ⟨a5, c5, hv5⟩ := len_of own5
          have hbz : Below w.heap.size w w5 := hx.trans (hb5.mono HT.out.hb)
          clear S own5 hgrow hnn own O4 O3' O3 W3 H3 hp5
          subst hv5
          go_wp2
          go_roundw
          case rel => first | exact ⟨hfin, hbz⟩ | exact ⟨_, _, _, _, _, _, _, _, _, _, _, _, _, ⟨hfin, hbz⟩, rfl⟩
          case measure => simp [sliceLen]; omega

end Go.Proofs.Ytgeipficjfaocaa
