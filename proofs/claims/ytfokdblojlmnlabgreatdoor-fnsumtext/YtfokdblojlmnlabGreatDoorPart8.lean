/-
  A part of the proof: Bend, TokDraw1, Box5.
-/
import Derived.Test.YtfokdblojlmnlabGreatDoorPart5
import Derived.Lib.ConvBytes
import Derived.Laws.IdiomStrings
import Derived.Test.YtfokdblojlmnlabGreatDoorPart1
import Derived.Test.YtfokdblojlmnlabGreatDoorPart2

/-
  The contract of the model's bending of a text: some bytes are changed, cut, left out or put in; what comes is a text again, longer by two bytes at the most; the cursor lies as it lay, and all else that was there is as it was.
-/
namespace Go.Proofs.YtfokdblojlmnlabGreatDoor
open Go.ChangeShapes Go.WideShapes Go.ChangeAt Go.RowKit
attribute [local go_sem ↓] Go.wp_at_zero Go.wp_at_succ
attribute [local simp] World.cell?_alloc_past World.cell?_alloc_at World.frozen?_alloc_at cell_far cell_off cell_here World.frozen?_alloc_past

def u8s (l : List UInt8) : List Value := l.map fun b => Value.int .u8 (b.toNat : Int)
theorem u8s_len (l : List UInt8) : (u8s l).length = l.length := List.length_map _
theorem u8s_at {l : List UInt8} {j : Nat} {u : Value} (h : (u8s l)[j]? = some u) : ∃ hj : j < l.length, u = .int .u8 (l[j].toNat : Int) := by
  have hj : j < l.length := by have := (List.getElem?_eq_some_iff.1 h).1; rw [u8s_len] at this; exact this
  refine ⟨hj, ?_⟩
  unfold u8s at h
  rw [List.getElem?_map, List.getElem?_eq_getElem hj] at h
  simpa using h.symm
theorem u8s_append (l m : List UInt8) : u8s (l ++ m) = u8s l ++ u8s m := List.map_append

/-- Bytes that may be written lie in block g, from base on. -/
structure BRow (w : World) (base g cap : Nat) (l : List UInt8) : Prop where
  le : l.length ≤ cap
  lo : base ≤ g
  lt : g < w.heap.size
  cell : ∀ j (h : j < l.length), w.cell? ⟨g, j, none⟩ = some (.int .u8 (l[j].toNat : Int))
  free : ∀ j, j < l.length → w.frozen? ⟨g, j, none⟩ = false

theorem BRow.keep {w w' : World} {base g cap c : Nat} {l : List UInt8} (h : BRow w base g cap l) (hk : Keep c w w') (hc : c < base) : BRow w' base g cap l :=
  ⟨h.le, h.lo, Nat.lt_of_lt_of_le h.lt hk.size, fun j hj => by rw [hk.cell h.lt (by have := h.lo; omega)]; exact h.cell j hj, fun j hj => by rw [hk.frozen h.lt (by have := h.lo; omega)]; exact h.free j hj⟩
theorem BRow.take {w : World} {base g cap : Nat} {l : List UInt8} (h : BRow w base g cap l) (k : Nat) : BRow w base g cap (l.take k) :=
  ⟨by have := h.le; rw [List.length_take]; omega, h.lo, h.lt, fun j hj => by rw [List.length_take] at hj; rw [List.getElem_take]; exact h.cell j (by omega), fun j hj => by rw [List.length_take] at hj; exact h.free j (by omega)⟩
theorem BRow.set {w : World} {base g cap : Nat} {l : List UInt8} (h : BRow w base g cap l) (k : Nat) (x : UInt8) (hk : k < l.length) : BRow (w.setCell ⟨g, k, none⟩ (.int .u8 (x.toNat : Int))) base g cap (l.set k x) := by
  refine ⟨by rw [List.length_set]; exact h.le, h.lo, by simpa using h.lt, ?_, ?_⟩
  · intro j hj
    rw [List.length_set] at hj
    by_cases e : j = k
    · subst e
      rw [cell_here _ _ _ _ (by rw [h.cell j hk]; rfl), List.getElem_set_self]
    · rw [cell_off _ _ _ _ _ e, h.cell j hj, List.getElem_set_ne (Ne.symm e)]
  · intro j hj
    rw [List.length_set] at hj
    have := h.free j hj
    simpa using this
theorem BRow.ofOwn {w : World} {base : Nat} {v : Value} {e : TypeId} {l : List UInt8} (h : w.ownsRow base e 1 v l.length (u8s l)) (hv : v ≠ .slice none 0 0) : ∃ g cap, v = .slice (some ⟨g, 0, none⟩) l.length cap ∧ BRow w base g cap l := by
  rcases h.2 with ⟨h', _⟩ | ⟨g, cap, cur, h', hlo, hg, hle, hmx, hcur, htk⟩
  · exact absurd h' hv
  · subst h'
    have hlt := (h.lt g rfl).2
    refine ⟨g, cap, rfl, hle, hlo, hlt, ?_, ?_⟩
    · intro j hj
      have := h.cells (g := g) rfl j (.int .u8 (l[j].toNat : Int)) (by unfold u8s; rw [List.getElem?_map, List.getElem?_eq_getElem hj]; rfl)
      have hadd : (⟨g, 0, none⟩ : Addr).add j = ⟨g, j, none⟩ := by unfold Addr.add; split <;> simp_all
      rw [hadd] at this
      exact this
    · intro j _
      simp [World.frozen?, hg]
theorem BRow.conv (w : World) (e : TypeId) (s : ByteArray) : BRow (Lib.bytesWorld w e s) w.heap.size w.heap.size (grownCap w s.size 0 e) s.data.toList := by
  refine ⟨?_, Nat.le_refl _, by rw [Lib.bytesWorld_size]; omega, ?_, ?_⟩
  · have := grownCap_ge w s.size 0 e
    simpa using this
  · intro j hj
    have hj' : j < s.size := by simpa using hj
    rw [Lib.bytesWorld_cell w e s j hj']
    simp [List.getD, hj']
  · intro j hj
    have hj' : j < s.size := by simpa using hj
    have hsz : s.size ≤ (Lib.bytesCells w e s).size := by unfold Lib.bytesCells; simp
    simp [World.frozen?, Lib.bytesWorld_at_new]
    omega
theorem bytes_below (w : World) (e : TypeId) (s : ByteArray) : Below w.heap.size w (Lib.bytesWorld w e s) :=
  ⟨rfl, rfl, rfl, by rw [Lib.bytesWorld_size]; omega, fun k hk => Lib.bytesWorld_at_old w e s k hk⟩

theorem back_bytes {w : World} {base g cap : Nat} {l : List UInt8} (h : BRow w base g cap l) : (convert 22 9 (.slice (some ⟨g, 0, none⟩) l.length cap)).run Tryz.prog w = .ok (.string ⟨l.toArray⟩) w :=
  run_convert_bytes_back w 22 9 5 ⟨g, 0, none⟩ cap l Tryz.underlying22 Tryz.underlying5 Tryz.underlying9 (fun j hj => by
    have hadd : (⟨g, 0, none⟩ : Addr).add j = ⟨g, j, none⟩ := by unfold Addr.add; split <;> simp_all
    rw [hadd]; exact h.cell j hj)

theorem add_at (g o j : Nat) : (⟨g, o, none⟩ : Addr).add j = ⟨g, o + j, none⟩ := by unfold Addr.add; split <;> simp_all
theorem BRow.first {w w' : World} {base g cap c : Nat} {l : List UInt8} (h : BRow w base g cap l) (hk : Keep c w w') (hc : c < base) (k : Nat) : ∀ j (hj : j < (l.take k).length), w'.cell? ((⟨g, 0, none⟩ : Addr).add j) = some (.int .u8 ((l.take k)[j].toNat : Int)) := by
  intro j hj
  rw [add_at, Nat.zero_add]
  exact ((h.keep hk hc).take k).cell j hj
theorem BRow.rest {w w' : World} {base g cap c : Nat} {l : List UInt8} (h : BRow w base g cap l) (hk : Keep c w w') (hc : c < base) (k : Nat) : ∀ j (hj : j < (l.drop k).length), w'.cell? ((⟨g, k, none⟩ : Addr).add j) = some (.int .u8 ((l.drop k)[j].toNat : Int)) := by
  intro j hj
  rw [List.length_drop] at hj
  rw [add_at, (h.keep hk hc).cell (k + j) (by omega), List.getElem_drop]
theorem len_bytes {w : World} {base : Nat} {v : Value} {e : TypeId} {l : List UInt8} (h : w.ownsRow base e 1 v l.length (u8s l)) : ∃ a c, v = .slice a l.length c := by
  rcases h.2 with ⟨rfl, h'⟩ | ⟨g, c, cur, rfl, _⟩
  · exact ⟨none, 0, by rw [h']⟩
  · exact ⟨_, c, rfl⟩

theorem infoByte : (Tryz.prog.info? 5).map (fun i => (i.zero, i.size, i.bytes)) = some (some (.int .u8 0), 1, 1) := by kernel_rfl

theorem app_bytes {W w : World} {c : Nat} {o : Oper} {a : Act} {K : Act → World → Prop} {Q : Exit → Act → World → Prop} (s x : Operand)
    (ho : o.op = .call { callee := .builtin .append, args := #[s, x], argTypes := #[22, 22] })
    (hk : Keep c W w) (v : Value) (l1 : List UInt8) (hs : a.eval s = v) (own : w.ownsRow W.heap.size 5 1 v l1.length (u8s l1)) (hv : v ≠ .slice none 0 0)
    (ad : Addr) (m k : Nat) (l2 : List UInt8) (hx : a.eval x = .slice (some ad) m k) (hm : m = l2.length) (hcells : ∀ j (h : j < l2.length), w.cell? (ad.add j) = some (.int .u8 (l2[j].toNat : Int)))
    (hsz : l1.length + l2.length ≤ 4096)
    (h : ∀ v' w', v' ≠ .slice none 0 0 → w'.ownsRow W.heap.size 5 1 v' (l1 ++ l2).length (u8s (l1 ++ l2)) → Keep c W w' → Below W.heap.size w w' → K (a.put o.dst v') w') : o.wp Tryz.prog a w K Q := by
  obtain ⟨i0, hi, hz0, hz1, hz2⟩ := info_parts infoByte
  subst hm
  refine wp_append_own w s x 22 ho W.heap.size 5 i0 (.int .u8 0) 1 1 Tryz.underlying22 hi hz0 hz1 hz2 rfl (by decide) v l1.length (u8s l1) hs own ad l2.length k (u8s l2) hx (by rw [u8s_len]; omega) ?_ ?_ (by unfold maxLen; omega) (by omega) hk.size ?_
  · intro j u hu
    obtain ⟨hj, rfl⟩ := u8s_at hu
    exact hcells j hj
  · intro u hu
    unfold u8s at hu
    obtain ⟨b, _, rfl⟩ := List.mem_map.1 hu
    rfl
  intro v' w' own' hg hn
  have hb : Below W.heap.size w w' := (Below.refl W.heap.size w).grown hg hk.size (fun q hq => (own.lt q hq).1)
  refine h v' w' (fun e => hv (hn.1 e).1) ?_ (hk.far hb (Nat.le_refl _)) hb
  rw [List.length_append, u8s_append]
  exact own'

theorem own_empty (w : World) (B : Nat) (hB : B ≤ w.heap.size) : (w.alloc (.cells #[] 5)).ownsRow B 5 1 (.slice (some ⟨w.heap.size, 0, none⟩) 0 0) ([] : List UInt8).length (u8s []) :=
  ⟨rfl, .inr ⟨w.heap.size, 0, #[], rfl, hB, by show (w.heap.push _)[w.heap.size]? = _; simp, Nat.le_refl _, by unfold maxLen; omega, rfl, rfl⟩⟩

set_option maxRecDepth 100000 in
set_option maxHeartbeats 2000000 in
theorem bend_draw {w : World} {c : Nat} {a : Option Addr} {len cap : Nat} (h : Cur w c a len cap) (s sg : ByteArray) (hs : s.size ≤ 250) (h0 : 0 < sg.size) (h1 : sg.size ≤ 256) :
    Calls Tryz.prog 85 #[.pointer (some ⟨c, 0, none⟩), .string s, .string sg] w fun e w' => ∃ t, e = .returned (.string t) ∧ t.size ≤ s.size + 2 ∧ Cur w' c a len cap ∧ Keep c w w' := by
  have hcw := h.lt
  have hconv := fun W => Lib.run_convert_string_bytes (P := Tryz.prog) W 9 22 5 s (u := .string) Tryz.underlying9 Tryz.underlying22 Tryz.underlying5
  have HC : Hid (Cur w c a len cap) := h
  clear h
  go_enter Tryz.func85, Tryz.ntmps85
  go_wp2_with fail
  have b0 := BRow.conv w 5 s
  have hbw := bytes_below w 5 s
  have K0 : Keep c w (Lib.bytesWorld w 5 s) := Keep.ofBelow hbw
  have C0 := HC.out.below hbw
  generalize grownCap w s.size 0 5 = cp at b0 ⊢
  generalize Lib.bytesWorld w 5 s = w0 at b0 hbw K0 C0 ⊢
  refine (below_draw C0 3 (by omega) (by omega)).mono ?_
  rintro e w1 ⟨n, rfl, hn0, hn3, hc1, hk1⟩
  have b1 := b0.keep hk1 hcw
  have K1 := K0.trans hk1
  clear b0 hk1 K0 C0 hbw hconv
  go_wp2_with fail
  go_loopw [7, 8] (fun b x wr => ∃ (g cq : Nat) (l : List UInt8) (m : Nat), b = .slice (some ⟨g, 0, none⟩) l.length cq ∧ x = .int .i64 m ∧ m ≤ 2 ∧ l.length + m ≤ s.size + 2 ∧ Hid (BRow wr w.heap.size g cq l ∧ Cur wr c a len cap ∧ Keep c w wr)) (fun _ x _ => (intOf x).toNat)
  case atStart =>
    refine ⟨w.heap.size, cp, s.data.toList, n.toNat, by simp, ?_, by omega, ?_, b1, hc1, K1⟩
    · rw [Int.toNat_of_nonneg hn0]
    · simp; omega
  case round =>
    obtain ⟨g, cq, l, m, rfl, rfl, hm2, hlm, hP⟩ := hrel
    have hBR : Hid (BRow wr w.heap.size g cq l) := hP.out.1
    have CU : Hid (Cur wr c a len cap) := hP.out.2.1
    have KK : Hid (Keep c w wr) := hP.out.2.2
    clear hP
    have hback := back_bytes hBR.out
    by_cases hm0 : m = 0
    · subst hm0
      go_wp2
      go_ret
      exact ⟨_, rfl, by show l.length ≤ _; omega, CU.out, KK.out⟩
    obtain ⟨j, rfl⟩ : ∃ j, m = j + 1 := ⟨m - 1, by omega⟩
    have q3 : (0 : Int) < ((j + 1 : Nat) : Int) := by omega
    have q4 : ((j + 1 : Nat) : Int) - 1 = (j : Int) := by omega
    by_cases hl0 : l.length = 0
    · obtain rfl : l = [] := List.length_eq_zero_iff.1 hl0
      have hback0 : (convert 22 9 (.slice (some ⟨g, 0, none⟩) 0 cq)).run Tryz.prog wr = .ok (.string ⟨#[]⟩) wr := hback
      clear hback
      go_wp2
      go_ret
      exact ⟨_, rfl, by show 0 ≤ _; omega, CU.out, KK.out⟩
    have q5 : (0 : Int) < (l.length : Int) := by omega
    clear hback
    go_wp2_with fail
    refine (below_draw CU.out l.length (by omega) (by omega)).mono ?_
    rintro e w2 ⟨k, rfl, hk0, hkl, hc2, hk2⟩
    have B2 : Hid (BRow w2 w.heap.size g cq l) := hBR.out.keep hk2 hcw
    have K2 : Hid (Keep c w w2) := KK.out.trans hk2
    have C2 : Hid (Cur w2 c a len cap) := hc2
    clear hBR KK CU hk2 hc2
    obtain ⟨k, rfl⟩ := Int.eq_ofNat_of_zero_le hk0
    go_wp2_with fail
    refine (below_draw C2.out 4 (by omega) (by omega)).mono ?_
    rintro e w3 ⟨x, rfl, hx0, hx4, hc3, hk3⟩
    have B3 : Hid (BRow w3 w.heap.size g cq l) := B2.out.keep hk3 hcw
    have K3 : Hid (Keep c w w3) := K2.out.trans hk3
    have C3 : Hid (Cur w3 c a len cap) := hc3
    clear B2 K2 C2 hk3 hc3
    have hkn : k < l.length := by omega
    rcases (by omega : x = 0 ∨ x = 1 ∨ x = 2 ∨ x = 3) with rfl | rfl | rfl | rfl
    · go_wp2_with fail
      refine (below_draw C3.out sg.size (by omega) (by omega)).mono ?_
      rintro e w4 ⟨y, rfl, hy0, hy4, hc4, hk4⟩
      have B4 := B3.out.keep hk4 hcw
      have K4 := K3.out.trans hk4
      obtain ⟨y, rfl⟩ := Int.eq_ofNat_of_zero_le hy0
      have hyn : y < sg.size := by omega
      have hce := B4.cell k hkn
      have hfr := B4.free k hkn
      have hlt := B4.lt
      have B5 : Hid (BRow w4 w.heap.size g cq l) := B4
      go_wp2_with fail
      go_roundw
      case rel =>
        refine ⟨g, cq, l.set k sg[y], j, by rw [List.length_set], rfl, by omega, by rw [List.length_set]; omega, B5.out.set k sg[y] hkn, hc4.setAbove (by have := B5.out.lo; omega) _, K4.setCell (Or.inr B5.out.lo) _⟩
      case measure => simp [intOf]
    · have hcq := B3.out.le
      go_wp2_with fail
      go_roundw
      case rel =>
        exact ⟨g, cq, l.take k, j, by rw [List.length_take, Nat.min_eq_left (by omega)], rfl, by omega, by rw [List.length_take]; omega, B3.out.take k, C3.out, K3.out⟩
      case measure => simp [intOf]
    · have hcq := B3.out.le
      have z3 : IntKind.i64.wrap ((k : Int) + 1) = (k : Int) + 1 := by rw [IntKind.wrap_i64]; omega
      have z4 : 0 ≤ (k : Int) + 1 := by omega
      have z5 : ((k : Int) + 1).toNat = k + 1 := by omega
      have z2 : (k : Int) + 1 ≤ (l.length : Int) := by omega
      have hcw3 : c < w3.heap.size := C3.out.lt
      by_cases hcap : cq = k + 1
      · subst hcap
        have z1 : (k : Int) ≤ (k : Int) + 1 := by omega
        go_wp2_with fail
        refine wp_region_any (by kernel_rfl) (show wpAny _ _ _ _ _ _ _ w3.drew from ?_)
        refine wpAny_take (i := 1) (by simp only [List.getElem?_toArray, List.getElem?_cons_zero, List.getElem?_cons_succ]; rfl) (by kernel_rfl) (by kernel_rfl) (by kernel_rfl) (by intro _ _ _ h; exact h) (Or.inl ⟨by rfl, fun w => by (go_simp; (try with_reducible rfl))⟩) ?_
        simp only [Act.put, List.setIfInBounds_toArray, List.set_cons_zero, List.set_cons_succ]
        refine wpAny_take (i := 2) (by simp only [List.getElem?_toArray, List.getElem?_cons_zero, List.getElem?_cons_succ]; rfl) (by kernel_rfl) (by kernel_rfl) (by kernel_rfl) (by intro _ _ _ h; exact h) (Or.inl ⟨by rfl, fun w => by (go_simp; (try with_reducible rfl))⟩) ?_
        simp only [Act.put, List.setIfInBounds_toArray, List.set_cons_zero, List.set_cons_succ]
        refine wpAny_take (i := 3) (by simp only [List.getElem?_toArray, List.getElem?_cons_zero, List.getElem?_cons_succ]; rfl) (by kernel_rfl) (by kernel_rfl) (by kernel_rfl) (by intro _ _ _ h; exact h) (Or.inl ⟨by rfl, fun w => by (go_simp; (try with_reducible rfl))⟩) ?_
        simp only [Act.put, List.setIfInBounds_toArray, List.set_cons_zero, List.set_cons_succ]
        refine wpAny_take (i := 5) (by simp only [List.getElem?_toArray, List.getElem?_cons_zero, List.getElem?_cons_succ]; rfl) (by kernel_rfl) (by kernel_rfl) (by kernel_rfl) (by intro _ _ _ h; exact h) (Or.inl ⟨by rfl, fun w => by (go_simp; (try with_reducible rfl))⟩) ?_
        simp only [Act.put, List.setIfInBounds_toArray, List.set_cons_zero, List.set_cons_succ]
        refine wpAny_take (i := 6) (by simp only [List.getElem?_toArray, List.getElem?_cons_zero, List.getElem?_cons_succ]; rfl) (by kernel_rfl) (by kernel_rfl) (by kernel_rfl) (by intro _ _ _ h; exact h) (Or.inl ⟨by rfl, fun w => by (go_simp; (try with_reducible rfl))⟩) ?_
        simp only [Act.put, List.setIfInBounds_toArray, List.set_cons_zero, List.set_cons_succ]
        refine wpAny_take (i := 7) (by simp only [List.getElem?_toArray, List.getElem?_cons_zero, List.getElem?_cons_succ]; rfl) (by kernel_rfl) (by kernel_rfl) (by kernel_rfl) (by intro _ _ _ h; exact h) (Or.inl ⟨by rfl, fun w => by (go_simp; (try with_reducible rfl))⟩) ?_
        simp only [Act.put, List.setIfInBounds_toArray, List.set_cons_zero, List.set_cons_succ]
        refine wpAny_take (i := 8) (by simp only [List.getElem?_toArray, List.getElem?_cons_zero, List.getElem?_cons_succ]; rfl) (by kernel_rfl) (by kernel_rfl) (by kernel_rfl) (by intro _ _ _ h; exact h) (Or.inl ⟨by rfl, fun w => by (go_simp; (try with_reducible rfl))⟩) ?_
        simp only [Act.put, List.setIfInBounds_toArray, List.set_cons_zero, List.set_cons_succ]
        refine wpAny_ready (rs := [0]) (by kernel_rfl) (by simp) ?_
        refine AllReady.cons (by simp only [List.getElem?_toArray, List.getElem?_cons_zero]; rfl) ?_ AllReady.nil
        intro K hK
        go_simp
        refine hK _ _ ?_
        clear hK K
        try simp only [Act.put, List.setIfInBounds_toArray, List.set_cons_zero, List.set_cons_succ]
        refine wpAny_ready (rs := [4]) (by kernel_rfl) (by simp) ?_
        refine AllReady.cons (by simp only [List.getElem?_toArray, List.getElem?_cons_zero, List.getElem?_cons_succ]; rfl) ?_ AllReady.nil
        intro K hK
        rw [if_pos (by rfl)]
        have hk9 : Keep c w3 (w3.drew.alloc (.cells #[] 5)) := (Keep.refl c w3).drew.alloc _
        refine app_bytes (W := w3) (c := c) _ _ rfl hk9 (.slice (some ⟨w3.heap.size, 0, none⟩) 0 0) [] rfl (own_empty w3.drew w3.heap.size (Nat.le_refl _)) (by simp) ⟨g, 0, none⟩ k _ (l.take k) rfl (by rw [List.length_take]; omega) (B3.out.first hk9 hcw k) (by rw [List.length_take, List.length_nil]; omega) ?_
        clear hk9
        intro v1 wA hv1 ownA hkA hbA
        refine hK _ _ ?_
        clear hK K
        try simp only [Act.put, List.setIfInBounds_toArray, List.set_cons_zero, List.set_cons_succ]
        refine wpAny_ready (rs := [9]) (by kernel_rfl) (by simp) ?_
        refine AllReady.cons (by simp only [List.getElem?_toArray, List.getElem?_cons_zero, List.getElem?_cons_succ]; rfl) ?_ AllReady.nil
        intro K hK
        rw [if_pos (by rfl)]
        refine app_bytes (W := w3) (c := c) _ _ rfl hkA v1 _ rfl ownA hv1 ⟨g, 0, none⟩ _ _ [] rfl (by first | (simp; done) | (simp; omega)) (fun j hj => by simp at hj) (by first | (simp; done) | (simp; omega)) ?_
        intro v2 wB hv2 ownB hkB hbB
        have hL : ([] ++ l.take k ++ []).length ≤ l.length := by simp; omega
        generalize [] ++ l.take k ++ [] = L at ownB hL
        have curB : Cur wB c a len cap := ((C3.out.drew.alloc (.cells #[] 5)).far hbA hcw3).far hbB hcw3
        obtain ⟨g2, c2, rfl, BB⟩ := BRow.ofOwn ownB hv2
        have fin : Hid (BRow wB w.heap.size g2 c2 L ∧ Cur wB c a len cap ∧ Keep c w wB) := ⟨⟨BB.le, Nat.le_trans K3.out.size BB.lo, BB.lt, BB.cell, BB.free⟩, curB, K3.out.trans hkB⟩
        refine hK _ _ ?_
        clear hK K
        try simp only [Act.put, List.setIfInBounds_toArray, List.set_cons_zero, List.set_cons_succ]
        refine wpAny_take (i := 10) (by simp only [List.getElem?_toArray, List.getElem?_cons_zero, List.getElem?_cons_succ]; rfl) (by kernel_rfl) (by kernel_rfl) (by kernel_rfl) (by intro _ _ _ h; exact h) (Or.inl ⟨by rfl, fun w => by (go_simp; (try with_reducible rfl))⟩) ?_
        simp only [Act.put, List.setIfInBounds_toArray, List.set_cons_zero, List.set_cons_succ]
        refine wpAny_done (by kernel_rfl) ?_ _
        clear ownA ownB hbA hbB BB
        go_wp2_with fail
        go_roundw
        case rel => exact ⟨g2, c2, L, j, rfl, rfl, by omega, by omega, fin⟩
        case measure => simp [intOf]
      · have z1 : (k : Int) ≤ (cq : Int) := by omega
        go_wp2_with fail
        refine wp_region_any (by kernel_rfl) (show wpAny _ _ _ _ _ _ _ w3.drew from ?_)
        refine wpAny_take (i := 1) (by simp only [List.getElem?_toArray, List.getElem?_cons_zero, List.getElem?_cons_succ]; rfl) (by kernel_rfl) (by kernel_rfl) (by kernel_rfl) (by intro _ _ _ h; exact h) (Or.inl ⟨by rfl, fun w => by (go_simp; (try with_reducible rfl))⟩) ?_
        simp only [Act.put, List.setIfInBounds_toArray, List.set_cons_zero, List.set_cons_succ]
        refine wpAny_take (i := 2) (by simp only [List.getElem?_toArray, List.getElem?_cons_zero, List.getElem?_cons_succ]; rfl) (by kernel_rfl) (by kernel_rfl) (by kernel_rfl) (by intro _ _ _ h; exact h) (Or.inl ⟨by rfl, fun w => by (go_simp; (try with_reducible rfl))⟩) ?_
        simp only [Act.put, List.setIfInBounds_toArray, List.set_cons_zero, List.set_cons_succ]
        refine wpAny_take (i := 3) (by simp only [List.getElem?_toArray, List.getElem?_cons_zero, List.getElem?_cons_succ]; rfl) (by kernel_rfl) (by kernel_rfl) (by kernel_rfl) (by intro _ _ _ h; exact h) (Or.inl ⟨by rfl, fun w => by (go_simp; (try with_reducible rfl))⟩) ?_
        simp only [Act.put, List.setIfInBounds_toArray, List.set_cons_zero, List.set_cons_succ]
        refine wpAny_take (i := 5) (by simp only [List.getElem?_toArray, List.getElem?_cons_zero, List.getElem?_cons_succ]; rfl) (by kernel_rfl) (by kernel_rfl) (by kernel_rfl) (by intro _ _ _ h; exact h) (Or.inl ⟨by rfl, fun w => by (go_simp; (try with_reducible rfl))⟩) ?_
        simp only [Act.put, List.setIfInBounds_toArray, List.set_cons_zero, List.set_cons_succ]
        refine wpAny_take (i := 6) (by simp only [List.getElem?_toArray, List.getElem?_cons_zero, List.getElem?_cons_succ]; rfl) (by kernel_rfl) (by kernel_rfl) (by kernel_rfl) (by intro _ _ _ h; exact h) (Or.inl ⟨by rfl, fun w => by (go_simp; (try with_reducible rfl))⟩) ?_
        simp only [Act.put, List.setIfInBounds_toArray, List.set_cons_zero, List.set_cons_succ]
        refine wpAny_take (i := 7) (by simp only [List.getElem?_toArray, List.getElem?_cons_zero, List.getElem?_cons_succ]; rfl) (by kernel_rfl) (by kernel_rfl) (by kernel_rfl) (by intro _ _ _ h; exact h) (Or.inl ⟨by rfl, fun w => by (go_simp; (try with_reducible rfl))⟩) ?_
        simp only [Act.put, List.setIfInBounds_toArray, List.set_cons_zero, List.set_cons_succ]
        refine wpAny_take (i := 8) (by simp only [List.getElem?_toArray, List.getElem?_cons_zero, List.getElem?_cons_succ]; rfl) (by kernel_rfl) (by kernel_rfl) (by kernel_rfl) (by intro _ _ _ h; exact h) (Or.inl ⟨by rfl, fun w => by (go_simp; (try with_reducible rfl))⟩) ?_
        simp only [Act.put, List.setIfInBounds_toArray, List.set_cons_zero, List.set_cons_succ]
        refine wpAny_ready (rs := [0]) (by kernel_rfl) (by simp) ?_
        refine AllReady.cons (by simp only [List.getElem?_toArray, List.getElem?_cons_zero]; rfl) ?_ AllReady.nil
        intro K hK
        go_simp
        refine hK _ _ ?_
        clear hK K
        try simp only [Act.put, List.setIfInBounds_toArray, List.set_cons_zero, List.set_cons_succ]
        refine wpAny_ready (rs := [4]) (by kernel_rfl) (by simp) ?_
        refine AllReady.cons (by simp only [List.getElem?_toArray, List.getElem?_cons_zero, List.getElem?_cons_succ]; rfl) ?_ AllReady.nil
        intro K hK
        rw [if_pos (by rfl)]
        have hk9 : Keep c w3 (w3.drew.alloc (.cells #[] 5)) := (Keep.refl c w3).drew.alloc _
        refine app_bytes (W := w3) (c := c) _ _ rfl hk9 (.slice (some ⟨w3.heap.size, 0, none⟩) 0 0) [] rfl (own_empty w3.drew w3.heap.size (Nat.le_refl _)) (by simp) ⟨g, 0, none⟩ k _ (l.take k) rfl (by rw [List.length_take]; omega) (B3.out.first hk9 hcw k) (by rw [List.length_take, List.length_nil]; omega) ?_
        clear hk9
        intro v1 wA hv1 ownA hkA hbA
        refine hK _ _ ?_
        clear hK K
        try simp only [Act.put, List.setIfInBounds_toArray, List.set_cons_zero, List.set_cons_succ]
        refine wpAny_ready (rs := [9]) (by kernel_rfl) (by simp) ?_
        refine AllReady.cons (by simp only [List.getElem?_toArray, List.getElem?_cons_zero, List.getElem?_cons_succ]; rfl) ?_ AllReady.nil
        intro K hK
        rw [if_pos (by rfl)]
        refine app_bytes (W := w3) (c := c) _ _ rfl hkA v1 _ rfl ownA hv1 ⟨g, k + 1, none⟩ _ _ (l.drop (k + 1)) rfl (by simp) (B3.out.rest hkA hcw (k + 1)) (by first | (simp; done) | (simp; omega)) ?_
        intro v2 wB hv2 ownB hkB hbB
        have hL : ([] ++ l.take k ++ (l.drop (k + 1))).length ≤ l.length := by simp; omega
        generalize [] ++ l.take k ++ (l.drop (k + 1)) = L at ownB hL
        have curB : Cur wB c a len cap := ((C3.out.drew.alloc (.cells #[] 5)).far hbA hcw3).far hbB hcw3
        obtain ⟨g2, c2, rfl, BB⟩ := BRow.ofOwn ownB hv2
        have fin : Hid (BRow wB w.heap.size g2 c2 L ∧ Cur wB c a len cap ∧ Keep c w wB) := ⟨⟨BB.le, Nat.le_trans K3.out.size BB.lo, BB.lt, BB.cell, BB.free⟩, curB, K3.out.trans hkB⟩
        refine hK _ _ ?_
        clear hK K
        try simp only [Act.put, List.setIfInBounds_toArray, List.set_cons_zero, List.set_cons_succ]
        refine wpAny_take (i := 10) (by simp only [List.getElem?_toArray, List.getElem?_cons_zero, List.getElem?_cons_succ]; rfl) (by kernel_rfl) (by kernel_rfl) (by kernel_rfl) (by intro _ _ _ h; exact h) (Or.inl ⟨by rfl, fun w => by (go_simp; (try with_reducible rfl))⟩) ?_
        simp only [Act.put, List.setIfInBounds_toArray, List.set_cons_zero, List.set_cons_succ]
        refine wpAny_done (by kernel_rfl) ?_ _
        clear ownA ownB hbA hbB BB
        go_wp2_with fail
        go_roundw
        case rel => exact ⟨g2, c2, L, j, rfl, rfl, by omega, by omega, fin⟩
        case measure => simp [intOf]
    · have hcq := B3.out.le
      have hcw3 : c < w3.heap.size := C3.out.lt
      have z1 : (k : Int) ≤ (cq : Int) := by omega
      have z2 : (k : Int) ≤ (l.length : Int) := by omega
      have z6 : ¬ cq = k := by omega
      go_wp2_with fail
      refine wp_region_any (by kernel_rfl) (show wpAny _ _ _ _ _ _ _ w3.drew from ?_)
      refine wpAny_take (i := 1) (by simp only [List.getElem?_toArray, List.getElem?_cons_zero, List.getElem?_cons_succ]; rfl) (by kernel_rfl) (by kernel_rfl) (by kernel_rfl) (by intro _ _ _ h; exact h) (Or.inl ⟨by rfl, fun w => by (go_simp; (try with_reducible rfl))⟩) ?_
      simp only [Act.put, List.setIfInBounds_toArray, List.set_cons_zero, List.set_cons_succ]
      refine wpAny_take (i := 2) (by simp only [List.getElem?_toArray, List.getElem?_cons_zero, List.getElem?_cons_succ]; rfl) (by kernel_rfl) (by kernel_rfl) (by kernel_rfl) (by intro _ _ _ h; exact h) (Or.inl ⟨by rfl, fun w => by (go_simp; (try with_reducible rfl))⟩) ?_
      simp only [Act.put, List.setIfInBounds_toArray, List.set_cons_zero, List.set_cons_succ]
      refine wpAny_take (i := 3) (by simp only [List.getElem?_toArray, List.getElem?_cons_zero, List.getElem?_cons_succ]; rfl) (by kernel_rfl) (by kernel_rfl) (by kernel_rfl) (by intro _ _ _ h; exact h) (Or.inl ⟨by rfl, fun w => by (go_simp; (try with_reducible rfl))⟩) ?_
      simp only [Act.put, List.setIfInBounds_toArray, List.set_cons_zero, List.set_cons_succ]
      refine wpAny_take (i := 5) (by simp only [List.getElem?_toArray, List.getElem?_cons_zero, List.getElem?_cons_succ]; rfl) (by kernel_rfl) (by kernel_rfl) (by kernel_rfl) (by intro _ _ _ h; exact h) (Or.inl ⟨by rfl, fun w => by (go_simp; (try with_reducible rfl))⟩) ?_
      simp only [Act.put, List.setIfInBounds_toArray, List.set_cons_zero, List.set_cons_succ]
      refine wpAny_take (i := 6) (by simp only [List.getElem?_toArray, List.getElem?_cons_zero, List.getElem?_cons_succ]; rfl) (by kernel_rfl) (by kernel_rfl) (by kernel_rfl) (by intro _ _ _ h; exact h) (Or.inl ⟨by rfl, fun w => by (go_simp; (try with_reducible rfl))⟩) ?_
      simp only [Act.put, List.setIfInBounds_toArray, List.set_cons_zero, List.set_cons_succ]
      refine wpAny_take (i := 7) (by simp only [List.getElem?_toArray, List.getElem?_cons_zero, List.getElem?_cons_succ]; rfl) (by kernel_rfl) (by kernel_rfl) (by kernel_rfl) (by intro _ _ _ h; exact h) (Or.inl ⟨by rfl, fun w => by (go_simp; (try with_reducible rfl))⟩) ?_
      simp only [Act.put, List.setIfInBounds_toArray, List.set_cons_zero, List.set_cons_succ]
      refine wpAny_take (i := 8) (by simp only [List.getElem?_toArray, List.getElem?_cons_zero, List.getElem?_cons_succ]; rfl) (by kernel_rfl) (by kernel_rfl) (by kernel_rfl) (by intro _ _ _ h; exact h) (Or.inl ⟨by rfl, fun w => by (go_simp; (try with_reducible rfl))⟩) ?_
      simp only [Act.put, List.setIfInBounds_toArray, List.set_cons_zero, List.set_cons_succ]
      refine wpAny_take (i := 13) (by simp only [List.getElem?_toArray, List.getElem?_cons_zero, List.getElem?_cons_succ]; rfl) (by kernel_rfl) (by kernel_rfl) (by kernel_rfl) (by intro _ _ _ h; exact h) (Or.inl ⟨by rfl, fun w => by (go_simp; (try with_reducible rfl))⟩) ?_
      simp only [Act.put, List.setIfInBounds_toArray, List.set_cons_zero, List.set_cons_succ]
      refine wpAny_take (i := 14) (by simp only [List.getElem?_toArray, List.getElem?_cons_zero, List.getElem?_cons_succ]; rfl) (by kernel_rfl) (by kernel_rfl) (by kernel_rfl) (by intro _ _ _ h; exact h) (Or.inl ⟨by rfl, fun w => by (go_simp; (try with_reducible rfl))⟩) ?_
      simp only [Act.put, List.setIfInBounds_toArray, List.set_cons_zero, List.set_cons_succ]
      refine wpAny_take (i := 15) (by simp only [List.getElem?_toArray, List.getElem?_cons_zero, List.getElem?_cons_succ]; rfl) (by kernel_rfl) (by kernel_rfl) (by kernel_rfl) (by intro _ _ _ h; exact h) (Or.inl ⟨by rfl, fun w => by (go_simp; (try with_reducible rfl))⟩) ?_
      simp only [Act.put, List.setIfInBounds_toArray, List.set_cons_zero, List.set_cons_succ]
      refine wpAny_ready (rs := [0]) (by kernel_rfl) (by simp) ?_
      refine AllReady.cons (by simp only [List.getElem?_toArray, List.getElem?_cons_zero]; rfl) ?_ AllReady.nil
      intro K hK
      go_simp
      refine hK _ _ ?_
      clear hK K
      try simp only [Act.put, List.setIfInBounds_toArray, List.set_cons_zero, List.set_cons_succ]
      refine wpAny_ready (rs := [4]) (by kernel_rfl) (by simp) ?_
      refine AllReady.cons (by simp only [List.getElem?_toArray, List.getElem?_cons_zero, List.getElem?_cons_succ]; rfl) ?_ AllReady.nil
      intro K hK
      rw [if_pos (by rfl)]
      have hk9 : Keep c w3 (w3.drew.alloc (.cells #[] 5)) := (Keep.refl c w3).drew.alloc _
      refine app_bytes (W := w3) (c := c) _ _ rfl hk9 (.slice (some ⟨w3.heap.size, 0, none⟩) 0 0) [] rfl (own_empty w3.drew w3.heap.size (Nat.le_refl _)) (by simp) ⟨g, 0, none⟩ k _ (l.take k) rfl (by rw [List.length_take]; omega) (B3.out.first hk9 hcw k) (by rw [List.length_take, List.length_nil]; omega) ?_
      clear hk9
      intro v1 wA hv1 ownA hkA hbA
      refine hK _ _ ?_
      clear hK K
      try simp only [Act.put, List.setIfInBounds_toArray, List.set_cons_zero, List.set_cons_succ]
      have curA : Cur wA c a len cap := (C3.out.drew.alloc (.cells #[] 5)).far hbA hcw3
      refine wpAny_ready (rs := [9]) (by kernel_rfl) (by simp) ?_
      refine AllReady.cons (by simp only [List.getElem?_toArray, List.getElem?_cons_zero, List.getElem?_cons_succ]; rfl) ?_ AllReady.nil
      intro K hK
      go_simp
      refine (below_draw curA sg.size (by omega) (by omega)).mono ?_
      rintro e wC ⟨y, rfl, hy0, hy4, curC, hkAC⟩
      obtain ⟨y, rfl⟩ := Int.eq_ofNat_of_zero_le hy0
      have hyn : y < sg.size := by omega
      have ownC := own_keep ownA hkAC hcw3
      have hkC := hkA.trans hkAC
      clear ownA hkA hkAC hbA curA
      refine hK _ _ ?_
      clear hK K
      try simp only [Act.put, List.setIfInBounds_toArray, List.set_cons_zero, List.set_cons_succ]
      refine wpAny_take (i := 10) (by simp only [List.getElem?_toArray, List.getElem?_cons_zero, List.getElem?_cons_succ]; rfl) (by kernel_rfl) (by kernel_rfl) (by kernel_rfl) (by intro _ _ _ h; exact h) (Or.inl ⟨by rfl, fun w => by (go_simp; (try with_reducible rfl))⟩) ?_
      simp only [Act.put, List.setIfInBounds_toArray, List.set_cons_zero, List.set_cons_succ]
      refine wpAny_ready (rs := [11]) (by kernel_rfl) (by simp) ?_
      refine AllReady.cons (by simp only [List.getElem?_toArray, List.getElem?_cons_zero, List.getElem?_cons_succ]; rfl) ?_ AllReady.nil
      intro K hK
      go_simp
      refine hK _ _ ?_
      clear hK K
      try simp only [Act.put, List.setIfInBounds_toArray, List.set_cons_zero, List.set_cons_succ]
      refine wpAny_ready (rs := [12]) (by kernel_rfl) (by simp) ?_
      refine AllReady.cons (by simp only [List.getElem?_toArray, List.getElem?_cons_zero, List.getElem?_cons_succ]; rfl) ?_ AllReady.nil
      intro K hK
      rw [if_pos (by rfl)]
      have hkD : Keep c w3 (wC.alloc (.cells #[.int .u8 (sg[y].toNat : Int)] 5)) := hkC.alloc _
      refine app_bytes (W := w3) (c := c) _ _ rfl hkD v1 _ rfl (ownC.alloc _) hv1 ⟨wC.heap.size, 0, none⟩ 1 _ [sg[y]] rfl rfl ?_ (by simp; omega) ?_
      · intro j hj
        obtain rfl : j = 0 := by simp at hj; omega
        simp [Addr.add]
      intro v2 wB hv2 ownB hkB hbB
      have curB : Cur wB c a len cap := (curC.alloc (.cells #[.int .u8 (sg[y].toNat : Int)] 5)).far hbB hcw3
      clear hkD ownC hkC curC hbB
      refine hK _ _ ?_
      clear hK K
      try simp only [Act.put, List.setIfInBounds_toArray, List.set_cons_zero, List.set_cons_succ]
      refine wpAny_ready (rs := [16]) (by kernel_rfl) (by simp) ?_
      refine AllReady.cons (by simp only [List.getElem?_toArray, List.getElem?_cons_zero, List.getElem?_cons_succ]; rfl) ?_ AllReady.nil
      intro K hK
      rw [if_pos (by rfl)]
      refine app_bytes (W := w3) (c := c) _ _ rfl hkB v2 _ rfl ownB hv2 ⟨g, k, none⟩ _ _ (l.drop k) rfl (by simp) (B3.out.rest hkB hcw k) (by simp; omega) ?_
      intro v3 wE hv3 ownE hkE hbE
      have hL : ([] ++ l.take k ++ [sg[y]] ++ l.drop k).length ≤ l.length + 1 := by simp; omega
      generalize [] ++ l.take k ++ [sg[y]] ++ l.drop k = L at ownE hL
      have curE : Cur wE c a len cap := curB.far hbE hcw3
      obtain ⟨g2, c2, rfl, BB⟩ := BRow.ofOwn ownE hv3
      have fin : Hid (BRow wE w.heap.size g2 c2 L ∧ Cur wE c a len cap ∧ Keep c w wE) := ⟨⟨BB.le, Nat.le_trans K3.out.size BB.lo, BB.lt, BB.cell, BB.free⟩, curE, K3.out.trans hkE⟩
      refine hK _ _ ?_
      clear hK K
      try simp only [Act.put, List.setIfInBounds_toArray, List.set_cons_zero, List.set_cons_succ]
      refine wpAny_take (i := 17) (by simp only [List.getElem?_toArray, List.getElem?_cons_zero, List.getElem?_cons_succ]; rfl) (by kernel_rfl) (by kernel_rfl) (by kernel_rfl) (by intro _ _ _ h; exact h) (Or.inl ⟨by rfl, fun w => by (go_simp; (try with_reducible rfl))⟩) ?_
      simp only [Act.put, List.setIfInBounds_toArray, List.set_cons_zero, List.set_cons_succ]
      refine wpAny_done (by kernel_rfl) ?_ _
      clear ownB ownE hbE BB curB curE
      go_wp2_with fail
      go_roundw
      case rel => exact ⟨g2, c2, L, j, rfl, rfl, by omega, by omega, fin⟩
      case measure => simp [intOf]

end Go.Proofs.YtfokdblojlmnlabGreatDoor

/-
  The contracts of the model's draws of a text of tokens, and of tokens.
-/
namespace Go.Proofs.YtfokdblojlmnlabGreatDoor
open Go.ChangeShapes Go.WideShapes Go.ChangeAt Go.RowKit
attribute [local go_sem ↓] Go.wp_at_zero Go.wp_at_succ
attribute [local simp] World.cell?_alloc_past World.cell?_alloc_at World.frozen?_alloc_at cell_far cell_off cell_here World.frozen?_alloc_past

/-- The pieces that a text is drawn of. -/
def tokW : List ByteArray := [⟨#[97]⟩, ⟨#[104, 97, 121]⟩, ⟨#[49, 50]⟩, ⟨#[45, 55]⟩, ⟨#[48, 48, 55]⟩, ⟨#[39, 97, 98, 39]⟩, ⟨#[39, 39]⟩, ⟨#[110, 111, 110, 101]⟩, ⟨#[121, 101, 115]⟩, ⟨#[110, 111]⟩, ⟨#[97, 110, 100]⟩, ⟨#[108, 97, 99, 107, 115]⟩, ⟨#[43]⟩, ⟨#[45]⟩, ⟨#[42]⟩, ⟨#[40]⟩, ⟨#[41]⟩, ⟨#[60]⟩, ⟨#[61]⟩, ⟨#[32]⟩, ⟨#[32, 32]⟩, ⟨#[49, 48, 48, 48, 48, 48, 48, 48, 48, 48]⟩, ⟨#[49, 48, 48, 48, 48, 48, 48, 48, 48, 49]⟩]
theorem tokW_len : tokW.length = 23 := rfl
theorem tokW_size : ∀ x ∈ tokW, x.size ≤ 10 := by
  have h : tokW.all (fun x => decide (x.size ≤ 10)) = true := by decide +kernel
  intro x hx
  exact of_decide_eq_true (List.all_eq_true.1 h x hx)
set_option maxRecDepth 100000 in
set_option maxHeartbeats 4000000 in
theorem text_draw7 {w : World} {c : Nat} {a : Option Addr} {len cap : Nat} (h : Cur w c a len cap) :
    Calls Tryz.prog 70 #[.pointer (some ⟨c, 0, none⟩)] w fun e w' => ∃ t : ByteArray, e = .returned (.string t) ∧ t.size ≤ 100 ∧ Cur w' c a len cap ∧ Keep c w w' := by
  have hcw := h.lt
  have HC : Hid (Cur w c a len cap) := h
  clear h
  go_enter Tryz.func70, Tryz.ntmps70
  go_wp2_with fail
  refine (below_draw HC.out 9 (by omega) (by omega)).mono ?_
  rintro e w1 ⟨x, rfl, hx0, hx1, hc1, hk1⟩
  obtain ⟨x, rfl⟩ : ∃ n : Nat, x = n := ⟨x.toNat, by omega⟩
  have C1 : Hid (Cur w1 c a len cap) := hc1
  have hx8 : x ≤ 8 := by omega
  clear hc1 HC hx0 hx1
  go_wp2_with fail
  go_loopw [3, 4] (fun sv nv wr => ∃ (y : ByteArray) (m : Nat), sv = .string y ∧ nv = .int .i64 m ∧ m ≤ 8 ∧ y.size + m * 11 ≤ 88 ∧ Hid (Cur wr c a len cap) ∧ Keep c w wr) (fun _ nv _ => (intOf nv).toNat)
  case atStart => exact ⟨⟨#[]⟩, x, rfl, rfl, hx8, by show 0 + x * 11 ≤ 88; omega, C1, hk1⟩
  case round =>
    obtain ⟨y, m, rfl, rfl, hm8, hys, CC, hkA⟩ := hrel
    clear C1 hk1
    have hszA := hkA.size
    by_cases hm0 : m = 0
    · subst hm0
      go_wp2_with fail
      refine (once_draw CC.out 6 (by omega) (by omega)).mono ?_
      rintro e w4 ⟨bb, rfl, hc4, hk4⟩
      have CB : Hid (Cur w4 c a len cap) := hc4
      have hkB := hkA.trans hk4
      clear hc4 hk4 hkA
      cases bb
      · go_wp2
        go_ret
        exact ⟨_, rfl, by omega, CB.out, hkB⟩
      · go_wp2_with fail
        refine (bend_draw CB.out y _ (by omega) (by decide) (by decide)).mono ?_
        rintro e w5 ⟨t5, rfl, ht5, hc5, hk5⟩
        have hkC := hkB.trans hk5
        go_wp2
        go_ret
        exact ⟨_, rfl, by omega, hc5, hkC⟩
    · obtain ⟨j, rfl⟩ : ∃ j, m = j + 1 := ⟨m - 1, by omega⟩
      have q3 : (0 : Int) < ((j + 1 : Nat) : Int) := by omega
      have q4 : ((j + 1 : Nat) : Int) - 1 = (j : Int) := by omega
      go_wp2_with fail
      refine (below_draw (CC.out.alloc (.cells (tokW.map Value.string).toArray 9)) 23 (by omega) (by omega)).mono ?_
      rintro e w2 ⟨z, rfl, hz0, hz1, hc2, hk2⟩
      obtain ⟨z, rfl⟩ : ∃ n : Nat, z = n := ⟨z.toNat, by omega⟩
      have hz : z < tokW.length := by rw [tokW_len]; omega
      have hu := tokW_size _ (List.getElem_mem hz)
      have hcell : w2.cell? ⟨wr.heap.size, z, none⟩ = some (.string (tokW[z]'hz)) := by
        have : w2.cell? ⟨wr.heap.size, z, none⟩ = (wr.alloc (.cells (tokW.map Value.string).toArray 9)).cell? ⟨wr.heap.size, z, none⟩ := hk2.cell (by simp) (by omega)
        rw [this]
        simp [hz]
      generalize (tokW[z]'hz) = u at hu hcell
      have CB : Hid (Cur w2 c a len cap) := hc2
      have hkB : Keep c w w2 := (hkA.alloc _).trans hk2
      have hz23 : (z : Int) < 23 := by omega
      have hz00 : (0 : Int) ≤ (z : Int) := by omega
      clear hc2 hk2 hkA hz hz0 hz1
      go_wp2_with fail
      refine (once_draw CB.out 2 (by omega) (by omega)).mono ?_
      rintro e w3 ⟨bb, rfl, hc3, hk3⟩
      have C3 : Hid (Cur w3 c a len cap) := hc3
      have hkC := hkB.trans hk3
      have hys2 : (y ++ u).size ≤ y.size + 10 := by rw [ByteArray.size_append]; omega
      clear hc3 hk3 hkB CB CC hcell
      generalize y ++ u = v at hys2 ⊢
      cases bb
      · go_wp2
        go_roundw
        case rel => exact ⟨v, j, rfl, by go_num, by omega, by omega, C3, hkC⟩
        case measure => simp [intOf]
      · have hys3 : (v ++ ⟨#[32]⟩).size ≤ y.size + 11 := by
          rw [ByteArray.size_append]
          have : (⟨#[32]⟩ : ByteArray).size = 1 := rfl
          omega
        go_wp2
        go_roundw
        case rel => exact ⟨_, j, rfl, by go_num, by omega, by omega, C3, hkC⟩
        case measure => simp [intOf]
end Go.Proofs.YtfokdblojlmnlabGreatDoor

/-
  A block of five cells that was laid, behind what came later.
-/
namespace Go.Proofs.YtfokdblojlmnlabGreatDoor
open Go.ChangeShapes Go.WideShapes Go.ChangeAt Go.RowKit

theorem box5 {w w1 : World} {a b c d e : Value} {T : TypeId} (h : Below (w.alloc (.cells #[a, b, c, d, e] T)).heap.size (w.alloc (.cells #[a, b, c, d, e] T)) w1) :
    w1.cell? ⟨w.heap.size, 0, none⟩ = some a ∧ w1.cell? ⟨w.heap.size, 1, none⟩ = some b ∧ w1.cell? ⟨w.heap.size, 2, none⟩ = some c ∧ w1.cell? ⟨w.heap.size, 3, none⟩ = some d ∧ w1.cell? ⟨w.heap.size, 4, none⟩ = some e ∧ w.heap.size < w1.heap.size := by
  have hs := h.size
  have key : ∀ o, w1.cell? ⟨w.heap.size, o, none⟩ = (w.alloc (.cells #[a, b, c, d, e] T)).cell? ⟨w.heap.size, o, none⟩ := fun o => h.cell (p := ⟨w.heap.size, o, none⟩) (by simp)
  simp only [key]
  refine ⟨?_, ?_, ?_, ?_, ?_, by simp at hs; omega⟩ <;> simp [World.cell?_alloc_at]

theorem later5 {w w' : World} {B : Nat} {a b c d e : Value} (hb : Below w.heap.size w w') (h : w.cell? ⟨B, 0, none⟩ = some a ∧ w.cell? ⟨B, 1, none⟩ = some b ∧ w.cell? ⟨B, 2, none⟩ = some c ∧ w.cell? ⟨B, 3, none⟩ = some d ∧ w.cell? ⟨B, 4, none⟩ = some e ∧ B < w.heap.size) :
    w'.cell? ⟨B, 0, none⟩ = some a ∧ w'.cell? ⟨B, 1, none⟩ = some b ∧ w'.cell? ⟨B, 2, none⟩ = some c ∧ w'.cell? ⟨B, 3, none⟩ = some d ∧ w'.cell? ⟨B, 4, none⟩ = some e ∧ B < w'.heap.size := by
  obtain ⟨h0, h1, h2, h3, h4, hB⟩ := h
  have key : ∀ o, w'.cell? ⟨B, o, none⟩ = w.cell? ⟨B, o, none⟩ := fun o => hb.cell (p := ⟨B, o, none⟩) hB
  have hs := hb.size
  exact ⟨(key _).trans h0, (key _).trans h1, (key _).trans h2, (key _).trans h3, (key _).trans h4, by omega⟩

end Go.Proofs.YtfokdblojlmnlabGreatDoor
