/-
  A part of the proof: Bend, Draw6, TokDraw1, Strs1, KeyMath.
-/
import Derived.Test.YtgiknjlifocioaaGreatDoorPart2
import Derived.Lib.ConvBytes
import Derived.Laws.IdiomStrings
import Derived.Test.YtgiknjlifocioaaGreatDoorPart1
import Derived.Lib.ItoaNum
import Derived.Lib.ParseIntB

/-
  The contract of the model's bending of a text: some bytes are changed, cut, left out or put in; what comes is a text again, longer by two bytes at the most; the cursor lies as it lay, and all else that was there is as it was.
-/
namespace Go.Proofs.YtgiknjlifocioaaGreatDoor
open Go.ChangeShapes Go.WideShapes Go.ChangeAt Go.RowKit
attribute [local go_sem ↓] Go.wp_at_zero Go.wp_at_succ
attribute [local simp] World.cell?_alloc_past World.cell?_alloc_at World.frozen?_alloc_at cell_far cell_off cell_here World.frozen?_alloc_past

def u8s (l : List UInt8) : List Value := l.map fun b => Value.int .u8 (b.toNat : Int)
theorem u8s_len (l : List UInt8) : (u8s l).length = l.length := List.length_map _
theorem u8s_at {l : List UInt8} {j : Nat} {u : Value} (h : (u8s l)[j]? = some u) : ∃ hj : j < l.length, u = .int .u8 (l[j].toNat : Int) := by
  have hj : j < l.length := by have := (List.getElem?_eq_some_iff.1 h).1; rw [u8s_len] at this; exact this
  refine ⟨hj, ?_⟩
  unfold u8s at h
  rw [List.getElem?_map, List.getElem?_eq_getElem hj] at h
  simpa using h.symm
theorem u8s_append (l m : List UInt8) : u8s (l ++ m) = u8s l ++ u8s m := List.map_append

/-- Bytes that may be written lie in block g, from base on. -/
structure BRow (w : World) (base g cap : Nat) (l : List UInt8) : Prop where
  le : l.length ≤ cap
  lo : base ≤ g
  lt : g < w.heap.size
  cell : ∀ j (h : j < l.length), w.cell? ⟨g, j, none⟩ = some (.int .u8 (l[j].toNat : Int))
  free : ∀ j, j < l.length → w.frozen? ⟨g, j, none⟩ = false

theorem BRow.keep {w w' : World} {base g cap c : Nat} {l : List UInt8} (h : BRow w base g cap l) (hk : Keep c w w') (hc : c < base) : BRow w' base g cap l :=
  ⟨h.le, h.lo, Nat.lt_of_lt_of_le h.lt hk.size, fun j hj => by rw [hk.cell h.lt (by have := h.lo; omega)]; exact h.cell j hj, fun j hj => by rw [hk.frozen h.lt (by have := h.lo; omega)]; exact h.free j hj⟩
theorem BRow.take {w : World} {base g cap : Nat} {l : List UInt8} (h : BRow w base g cap l) (k : Nat) : BRow w base g cap (l.take k) :=
  ⟨by have := h.le; rw [List.length_take]; omega, h.lo, h.lt, fun j hj => by rw [List.length_take] at hj; rw [List.getElem_take]; exact h.cell j (by omega), fun j hj => by rw [List.length_take] at hj; exact h.free j (by omega)⟩
theorem BRow.set {w : World} {base g cap : Nat} {l : List UInt8} (h : BRow w base g cap l) (k : Nat) (x : UInt8) (hk : k < l.length) : BRow (w.setCell ⟨g, k, none⟩ (.int .u8 (x.toNat : Int))) base g cap (l.set k x) := by
  refine ⟨by rw [List.length_set]; exact h.le, h.lo, by simpa using h.lt, ?_, ?_⟩
  · intro j hj
    rw [List.length_set] at hj
    by_cases e : j = k
    · subst e
      rw [cell_here _ _ _ _ (by rw [h.cell j hk]; rfl), List.getElem_set_self]
    · rw [cell_off _ _ _ _ _ e, h.cell j hj, List.getElem_set_ne (Ne.symm e)]
  · intro j hj
    rw [List.length_set] at hj
    have := h.free j hj
    simpa using this
theorem BRow.ofOwn {w : World} {base : Nat} {v : Value} {e : TypeId} {l : List UInt8} (h : w.ownsRow base e 1 v l.length (u8s l)) (hv : v ≠ .slice none 0 0) : ∃ g cap, v = .slice (some ⟨g, 0, none⟩) l.length cap ∧ BRow w base g cap l := by
  rcases h.2 with ⟨h', _⟩ | ⟨g, cap, cur, h', hlo, hg, hle, hmx, hcur, htk⟩
  · exact absurd h' hv
  · subst h'
    have hlt := (h.lt g rfl).2
    refine ⟨g, cap, rfl, hle, hlo, hlt, ?_, ?_⟩
    · intro j hj
      have := h.cells (g := g) rfl j (.int .u8 (l[j].toNat : Int)) (by unfold u8s; rw [List.getElem?_map, List.getElem?_eq_getElem hj]; rfl)
      have hadd : (⟨g, 0, none⟩ : Addr).add j = ⟨g, j, none⟩ := by unfold Addr.add; split <;> simp_all
      rw [hadd] at this
      exact this
    · intro j _
      simp [World.frozen?, hg]
theorem BRow.conv (w : World) (e : TypeId) (s : ByteArray) : BRow (Lib.bytesWorld w e s) w.heap.size w.heap.size (grownCap w s.size 0 e) s.data.toList := by
  refine ⟨?_, Nat.le_refl _, by rw [Lib.bytesWorld_size]; omega, ?_, ?_⟩
  · have := grownCap_ge w s.size 0 e
    simpa using this
  · intro j hj
    have hj' : j < s.size := by simpa using hj
    rw [Lib.bytesWorld_cell w e s j hj']
    simp [List.getD, hj']
  · intro j hj
    have hj' : j < s.size := by simpa using hj
    have hsz : s.size ≤ (Lib.bytesCells w e s).size := by unfold Lib.bytesCells; simp
    simp [World.frozen?, Lib.bytesWorld_at_new]
    omega
theorem bytes_below (w : World) (e : TypeId) (s : ByteArray) : Below w.heap.size w (Lib.bytesWorld w e s) :=
  ⟨rfl, rfl, rfl, by rw [Lib.bytesWorld_size]; omega, fun k hk => Lib.bytesWorld_at_old w e s k hk⟩

theorem back_bytes {w : World} {base g cap : Nat} {l : List UInt8} (h : BRow w base g cap l) : (convert 22 9 (.slice (some ⟨g, 0, none⟩) l.length cap)).run Tryz.prog w = .ok (.string ⟨l.toArray⟩) w :=
  run_convert_bytes_back w 22 9 5 ⟨g, 0, none⟩ cap l Tryz.underlying22 Tryz.underlying5 Tryz.underlying9 (fun j hj => by
    have hadd : (⟨g, 0, none⟩ : Addr).add j = ⟨g, j, none⟩ := by unfold Addr.add; split <;> simp_all
    rw [hadd]; exact h.cell j hj)

theorem add_at (g o j : Nat) : (⟨g, o, none⟩ : Addr).add j = ⟨g, o + j, none⟩ := by unfold Addr.add; split <;> simp_all
theorem BRow.first {w w' : World} {base g cap c : Nat} {l : List UInt8} (h : BRow w base g cap l) (hk : Keep c w w') (hc : c < base) (k : Nat) : ∀ j (hj : j < (l.take k).length), w'.cell? ((⟨g, 0, none⟩ : Addr).add j) = some (.int .u8 ((l.take k)[j].toNat : Int)) := by
  intro j hj
  rw [add_at, Nat.zero_add]
  exact ((h.keep hk hc).take k).cell j hj
theorem BRow.rest {w w' : World} {base g cap c : Nat} {l : List UInt8} (h : BRow w base g cap l) (hk : Keep c w w') (hc : c < base) (k : Nat) : ∀ j (hj : j < (l.drop k).length), w'.cell? ((⟨g, k, none⟩ : Addr).add j) = some (.int .u8 ((l.drop k)[j].toNat : Int)) := by
  intro j hj
  rw [List.length_drop] at hj
  rw [add_at, (h.keep hk hc).cell (k + j) (by omega), List.getElem_drop]
theorem len_bytes {w : World} {base : Nat} {v : Value} {e : TypeId} {l : List UInt8} (h : w.ownsRow base e 1 v l.length (u8s l)) : ∃ a c, v = .slice a l.length c := by
  rcases h.2 with ⟨rfl, h'⟩ | ⟨g, c, cur, rfl, _⟩
  · exact ⟨none, 0, by rw [h']⟩
  · exact ⟨_, c, rfl⟩

theorem infoByte : (Tryz.prog.info? 5).map (fun i => (i.zero, i.size, i.bytes)) = some (some (.int .u8 0), 1, 1) := by kernel_rfl

theorem app_bytes {W w : World} {c : Nat} {o : Oper} {a : Act} {K : Act → World → Prop} {Q : Exit → Act → World → Prop} (s x : Operand)
    (ho : o.op = .call { callee := .builtin .append, args := #[s, x], argTypes := #[22, 22] })
    (hk : Keep c W w) (v : Value) (l1 : List UInt8) (hs : a.eval s = v) (own : w.ownsRow W.heap.size 5 1 v l1.length (u8s l1)) (hv : v ≠ .slice none 0 0)
    (ad : Addr) (m k : Nat) (l2 : List UInt8) (hx : a.eval x = .slice (some ad) m k) (hm : m = l2.length) (hcells : ∀ j (h : j < l2.length), w.cell? (ad.add j) = some (.int .u8 (l2[j].toNat : Int)))
    (hsz : l1.length + l2.length ≤ 4096)
    (h : ∀ v' w', v' ≠ .slice none 0 0 → w'.ownsRow W.heap.size 5 1 v' (l1 ++ l2).length (u8s (l1 ++ l2)) → Keep c W w' → Below W.heap.size w w' → K (a.put o.dst v') w') : o.wp Tryz.prog a w K Q := by
  obtain ⟨i0, hi, hz0, hz1, hz2⟩ := info_parts infoByte
  subst hm
  refine wp_append_own w s x 22 ho W.heap.size 5 i0 (.int .u8 0) 1 1 Tryz.underlying22 hi hz0 hz1 hz2 rfl (by decide) v l1.length (u8s l1) hs own ad l2.length k (u8s l2) hx (by rw [u8s_len]; omega) ?_ ?_ (by unfold maxLen; omega) (by omega) hk.size ?_
  · intro j u hu
    obtain ⟨hj, rfl⟩ := u8s_at hu
    exact hcells j hj
  · intro u hu
    unfold u8s at hu
    obtain ⟨b, _, rfl⟩ := List.mem_map.1 hu
    rfl
  intro v' w' own' hg hn
  have hb : Below W.heap.size w w' := (Below.refl W.heap.size w).grown hg hk.size (fun q hq => (own.lt q hq).1)
  refine h v' w' (fun e => hv (hn.1 e).1) ?_ (hk.far hb (Nat.le_refl _)) hb
  rw [List.length_append, u8s_append]
  exact own'

theorem own_empty (w : World) (B : Nat) (hB : B ≤ w.heap.size) : (w.alloc (.cells #[] 5)).ownsRow B 5 1 (.slice (some ⟨w.heap.size, 0, none⟩) 0 0) ([] : List UInt8).length (u8s []) :=
  ⟨rfl, .inr ⟨w.heap.size, 0, #[], rfl, hB, by show (w.heap.push _)[w.heap.size]? = _; simp, Nat.le_refl _, by unfold maxLen; omega, rfl, rfl⟩⟩

set_option maxRecDepth 100000 in
set_option maxHeartbeats 2000000 in
theorem bend_draw {w : World} {c : Nat} {a : Option Addr} {len cap : Nat} (h : Cur w c a len cap) (s sg : ByteArray) (hs : s.size ≤ 250) (h0 : 0 < sg.size) (h1 : sg.size ≤ 256) :
    Calls Tryz.prog 37 #[.pointer (some ⟨c, 0, none⟩), .string s, .string sg] w fun e w' => ∃ t, e = .returned (.string t) ∧ t.size ≤ s.size + 2 ∧ Cur w' c a len cap ∧ Keep c w w' := by
  have hcw := h.lt
  have hconv := fun W => Lib.run_convert_string_bytes (P := Tryz.prog) W 9 22 5 s (u := .string) Tryz.underlying9 Tryz.underlying22 Tryz.underlying5
  have HC : Hid (Cur w c a len cap) := h
  clear h
  go_enter Tryz.func37, Tryz.ntmps37
  go_wp2_with fail
  have b0 := BRow.conv w 5 s
  have hbw := bytes_below w 5 s
  have K0 : Keep c w (Lib.bytesWorld w 5 s) := Keep.ofBelow hbw
  have C0 := HC.out.below hbw
  generalize grownCap w s.size 0 5 = cp at b0 ⊢
  generalize Lib.bytesWorld w 5 s = w0 at b0 hbw K0 C0 ⊢
  refine (below_draw C0 3 (by omega) (by omega)).mono ?_
  rintro e w1 ⟨n, rfl, hn0, hn3, hc1, hk1⟩
  have b1 := b0.keep hk1 hcw
  have K1 := K0.trans hk1
  clear b0 hk1 K0 C0 hbw hconv
  go_wp2_with fail
  go_loopw [7, 8] (fun b x wr => ∃ (g cq : Nat) (l : List UInt8) (m : Nat), b = .slice (some ⟨g, 0, none⟩) l.length cq ∧ x = .int .i64 m ∧ m ≤ 2 ∧ l.length + m ≤ s.size + 2 ∧ Hid (BRow wr w.heap.size g cq l ∧ Cur wr c a len cap ∧ Keep c w wr)) (fun _ x _ => (intOf x).toNat)
  case atStart =>
    refine ⟨w.heap.size, cp, s.data.toList, n.toNat, by simp, ?_, by omega, ?_, b1, hc1, K1⟩
    · rw [Int.toNat_of_nonneg hn0]
    · simp; omega
  case round =>
    obtain ⟨g, cq, l, m, rfl, rfl, hm2, hlm, hP⟩ := hrel
    have hBR : Hid (BRow wr w.heap.size g cq l) := hP.out.1
    have CU : Hid (Cur wr c a len cap) := hP.out.2.1
    have KK : Hid (Keep c w wr) := hP.out.2.2
    clear hP
    have hback := back_bytes hBR.out
    by_cases hm0 : m = 0
    · subst hm0
      go_wp2
      go_ret
      exact ⟨_, rfl, by show l.length ≤ _; omega, CU.out, KK.out⟩
    obtain ⟨j, rfl⟩ : ∃ j, m = j + 1 := ⟨m - 1, by omega⟩
    have q3 : (0 : Int) < ((j + 1 : Nat) : Int) := by omega
    have q4 : ((j + 1 : Nat) : Int) - 1 = (j : Int) := by omega
    by_cases hl0 : l.length = 0
    · obtain rfl : l = [] := List.length_eq_zero_iff.1 hl0
      have hback0 : (convert 22 9 (.slice (some ⟨g, 0, none⟩) 0 cq)).run Tryz.prog wr = .ok (.string ⟨#[]⟩) wr := hback
      clear hback
      go_wp2
      go_ret
      exact ⟨_, rfl, by show 0 ≤ _; omega, CU.out, KK.out⟩
    have q5 : (0 : Int) < (l.length : Int) := by omega
    clear hback
    go_wp2_with fail
    refine (below_draw CU.out l.length (by omega) (by omega)).mono ?_
    rintro e w2 ⟨k, rfl, hk0, hkl, hc2, hk2⟩
    have B2 : Hid (BRow w2 w.heap.size g cq l) := hBR.out.keep hk2 hcw
    have K2 : Hid (Keep c w w2) := KK.out.trans hk2
    have C2 : Hid (Cur w2 c a len cap) := hc2
    clear hBR KK CU hk2 hc2
    obtain ⟨k, rfl⟩ := Int.eq_ofNat_of_zero_le hk0
    go_wp2_with fail
    refine (below_draw C2.out 4 (by omega) (by omega)).mono ?_
    rintro e w3 ⟨x, rfl, hx0, hx4, hc3, hk3⟩
    have B3 : Hid (BRow w3 w.heap.size g cq l) := B2.out.keep hk3 hcw
    have K3 : Hid (Keep c w w3) := K2.out.trans hk3
    have C3 : Hid (Cur w3 c a len cap) := hc3
    clear B2 K2 C2 hk3 hc3
    have hkn : k < l.length := by omega
    rcases (by omega : x = 0 ∨ x = 1 ∨ x = 2 ∨ x = 3) with rfl | rfl | rfl | rfl
    · go_wp2_with fail
      refine (below_draw C3.out sg.size (by omega) (by omega)).mono ?_
      rintro e w4 ⟨y, rfl, hy0, hy4, hc4, hk4⟩
      have B4 := B3.out.keep hk4 hcw
      have K4 := K3.out.trans hk4
      obtain ⟨y, rfl⟩ := Int.eq_ofNat_of_zero_le hy0
      have hyn : y < sg.size := by omega
      have hce := B4.cell k hkn
      have hfr := B4.free k hkn
      have hlt := B4.lt
      have B5 : Hid (BRow w4 w.heap.size g cq l) := B4
      go_wp2_with fail
      go_roundw
      case rel =>
        refine ⟨g, cq, l.set k sg[y], j, by rw [List.length_set], rfl, by omega, by rw [List.length_set]; omega, B5.out.set k sg[y] hkn, hc4.setAbove (by have := B5.out.lo; omega) _, K4.setCell (Or.inr B5.out.lo) _⟩
      case measure => simp [intOf]
    · have hcq := B3.out.le
      go_wp2_with fail
      go_roundw
      case rel =>
        exact ⟨g, cq, l.take k, j, by rw [List.length_take, Nat.min_eq_left (by omega)], rfl, by omega, by rw [List.length_take]; omega, B3.out.take k, C3.out, K3.out⟩
      case measure => simp [intOf]
    · have hcq := B3.out.le
      have z3 : IntKind.i64.wrap ((k : Int) + 1) = (k : Int) + 1 := by rw [IntKind.wrap_i64]; omega
      have z4 : 0 ≤ (k : Int) + 1 := by omega
      have z5 : ((k : Int) + 1).toNat = k + 1 := by omega
      have z2 : (k : Int) + 1 ≤ (l.length : Int) := by omega
      have hcw3 : c < w3.heap.size := C3.out.lt
      by_cases hcap : cq = k + 1
      · subst hcap
        have z1 : (k : Int) ≤ (k : Int) + 1 := by omega
        go_wp2_with fail
        refine wp_region_any (by kernel_rfl) (show wpAny _ _ _ _ _ _ _ w3.drew from ?_)
        refine wpAny_take (i := 1) (by simp only [List.getElem?_toArray, List.getElem?_cons_zero, List.getElem?_cons_succ]; rfl) (by kernel_rfl) (by kernel_rfl) (by kernel_rfl) (by intro _ _ _ h; exact h) (Or.inl ⟨by rfl, fun w => by (go_simp; (try with_reducible rfl))⟩) ?_
        simp only [Act.put, List.setIfInBounds_toArray, List.set_cons_zero, List.set_cons_succ]
        refine wpAny_take (i := 2) (by simp only [List.getElem?_toArray, List.getElem?_cons_zero, List.getElem?_cons_succ]; rfl) (by kernel_rfl) (by kernel_rfl) (by kernel_rfl) (by intro _ _ _ h; exact h) (Or.inl ⟨by rfl, fun w => by (go_simp; (try with_reducible rfl))⟩) ?_
        simp only [Act.put, List.setIfInBounds_toArray, List.set_cons_zero, List.set_cons_succ]
        refine wpAny_take (i := 3) (by simp only [List.getElem?_toArray, List.getElem?_cons_zero, List.getElem?_cons_succ]; rfl) (by kernel_rfl) (by kernel_rfl) (by kernel_rfl) (by intro _ _ _ h; exact h) (Or.inl ⟨by rfl, fun w => by (go_simp; (try with_reducible rfl))⟩) ?_
        simp only [Act.put, List.setIfInBounds_toArray, List.set_cons_zero, List.set_cons_succ]
        refine wpAny_take (i := 5) (by simp only [List.getElem?_toArray, List.getElem?_cons_zero, List.getElem?_cons_succ]; rfl) (by kernel_rfl) (by kernel_rfl) (by kernel_rfl) (by intro _ _ _ h; exact h) (Or.inl ⟨by rfl, fun w => by (go_simp; (try with_reducible rfl))⟩) ?_
        simp only [Act.put, List.setIfInBounds_toArray, List.set_cons_zero, List.set_cons_succ]
        refine wpAny_take (i := 6) (by simp only [List.getElem?_toArray, List.getElem?_cons_zero, List.getElem?_cons_succ]; rfl) (by kernel_rfl) (by kernel_rfl) (by kernel_rfl) (by intro _ _ _ h; exact h) (Or.inl ⟨by rfl, fun w => by (go_simp; (try with_reducible rfl))⟩) ?_
        simp only [Act.put, List.setIfInBounds_toArray, List.set_cons_zero, List.set_cons_succ]
        refine wpAny_take (i := 7) (by simp only [List.getElem?_toArray, List.getElem?_cons_zero, List.getElem?_cons_succ]; rfl) (by kernel_rfl) (by kernel_rfl) (by kernel_rfl) (by intro _ _ _ h; exact h) (Or.inl ⟨by rfl, fun w => by (go_simp; (try with_reducible rfl))⟩) ?_
        simp only [Act.put, List.setIfInBounds_toArray, List.set_cons_zero, List.set_cons_succ]
        refine wpAny_take (i := 8) (by simp only [List.getElem?_toArray, List.getElem?_cons_zero, List.getElem?_cons_succ]; rfl) (by kernel_rfl) (by kernel_rfl) (by kernel_rfl) (by intro _ _ _ h; exact h) (Or.inl ⟨by rfl, fun w => by (go_simp; (try with_reducible rfl))⟩) ?_
        simp only [Act.put, List.setIfInBounds_toArray, List.set_cons_zero, List.set_cons_succ]
        refine wpAny_ready (rs := [0]) (by kernel_rfl) (by simp) ?_
        refine AllReady.cons (by simp only [List.getElem?_toArray, List.getElem?_cons_zero]; rfl) ?_ AllReady.nil
        intro K hK
        go_simp
        refine hK _ _ ?_
        clear hK K
        try simp only [Act.put, List.setIfInBounds_toArray, List.set_cons_zero, List.set_cons_succ]
        refine wpAny_ready (rs := [4]) (by kernel_rfl) (by simp) ?_
        refine AllReady.cons (by simp only [List.getElem?_toArray, List.getElem?_cons_zero, List.getElem?_cons_succ]; rfl) ?_ AllReady.nil
        intro K hK
        rw [if_pos (by rfl)]
        have hk9 : Keep c w3 (w3.drew.alloc (.cells #[] 5)) := (Keep.refl c w3).drew.alloc _
        refine app_bytes (W := w3) (c := c) _ _ rfl hk9 (.slice (some ⟨w3.heap.size, 0, none⟩) 0 0) [] rfl (own_empty w3.drew w3.heap.size (Nat.le_refl _)) (by simp) ⟨g, 0, none⟩ k _ (l.take k) rfl (by rw [List.length_take]; omega) (B3.out.first hk9 hcw k) (by rw [List.length_take, List.length_nil]; omega) ?_
        clear hk9
        intro v1 wA hv1 ownA hkA hbA
        refine hK _ _ ?_
        clear hK K
        try simp only [Act.put, List.setIfInBounds_toArray, List.set_cons_zero, List.set_cons_succ]
        refine wpAny_ready (rs := [9]) (by kernel_rfl) (by simp) ?_
        refine AllReady.cons (by simp only [List.getElem?_toArray, List.getElem?_cons_zero, List.getElem?_cons_succ]; rfl) ?_ AllReady.nil
        intro K hK
        rw [if_pos (by rfl)]
        refine app_bytes (W := w3) (c := c) _ _ rfl hkA v1 _ rfl ownA hv1 ⟨g, 0, none⟩ _ _ [] rfl (by first | (simp; done) | (simp; omega)) (fun j hj => by simp at hj) (by first | (simp; done) | (simp; omega)) ?_
        intro v2 wB hv2 ownB hkB hbB
        have hL : ([] ++ l.take k ++ []).length ≤ l.length := by simp; omega
        generalize [] ++ l.take k ++ [] = L at ownB hL
        have curB : Cur wB c a len cap := ((C3.out.drew.alloc (.cells #[] 5)).far hbA hcw3).far hbB hcw3
        obtain ⟨g2, c2, rfl, BB⟩ := BRow.ofOwn ownB hv2
        have fin : Hid (BRow wB w.heap.size g2 c2 L ∧ Cur wB c a len cap ∧ Keep c w wB) := ⟨⟨BB.le, Nat.le_trans K3.out.size BB.lo, BB.lt, BB.cell, BB.free⟩, curB, K3.out.trans hkB⟩
        refine hK _ _ ?_
        clear hK K
        try simp only [Act.put, List.setIfInBounds_toArray, List.set_cons_zero, List.set_cons_succ]
        refine wpAny_take (i := 10) (by simp only [List.getElem?_toArray, List.getElem?_cons_zero, List.getElem?_cons_succ]; rfl) (by kernel_rfl) (by kernel_rfl) (by kernel_rfl) (by intro _ _ _ h; exact h) (Or.inl ⟨by rfl, fun w => by (go_simp; (try with_reducible rfl))⟩) ?_
        simp only [Act.put, List.setIfInBounds_toArray, List.set_cons_zero, List.set_cons_succ]
        refine wpAny_done (by kernel_rfl) ?_ _
        clear ownA ownB hbA hbB BB
        go_wp2_with fail
        go_roundw
        case rel => exact ⟨g2, c2, L, j, rfl, rfl, by omega, by omega, fin⟩
        case measure => simp [intOf]
      · have z1 : (k : Int) ≤ (cq : Int) := by omega
        go_wp2_with fail
        refine wp_region_any (by kernel_rfl) (show wpAny _ _ _ _ _ _ _ w3.drew from ?_)
        refine wpAny_take (i := 1) (by simp only [List.getElem?_toArray, List.getElem?_cons_zero, List.getElem?_cons_succ]; rfl) (by kernel_rfl) (by kernel_rfl) (by kernel_rfl) (by intro _ _ _ h; exact h) (Or.inl ⟨by rfl, fun w => by (go_simp; (try with_reducible rfl))⟩) ?_
        simp only [Act.put, List.setIfInBounds_toArray, List.set_cons_zero, List.set_cons_succ]
        refine wpAny_take (i := 2) (by simp only [List.getElem?_toArray, List.getElem?_cons_zero, List.getElem?_cons_succ]; rfl) (by kernel_rfl) (by kernel_rfl) (by kernel_rfl) (by intro _ _ _ h; exact h) (Or.inl ⟨by rfl, fun w => by (go_simp; (try with_reducible rfl))⟩) ?_
        simp only [Act.put, List.setIfInBounds_toArray, List.set_cons_zero, List.set_cons_succ]
        refine wpAny_take (i := 3) (by simp only [List.getElem?_toArray, List.getElem?_cons_zero, List.getElem?_cons_succ]; rfl) (by kernel_rfl) (by kernel_rfl) (by kernel_rfl) (by intro _ _ _ h; exact h) (Or.inl ⟨by rfl, fun w => by (go_simp; (try with_reducible rfl))⟩) ?_
        simp only [Act.put, List.setIfInBounds_toArray, List.set_cons_zero, List.set_cons_succ]
        refine wpAny_take (i := 5) (by simp only [List.getElem?_toArray, List.getElem?_cons_zero, List.getElem?_cons_succ]; rfl) (by kernel_rfl) (by kernel_rfl) (by kernel_rfl) (by intro _ _ _ h; exact h) (Or.inl ⟨by rfl, fun w => by (go_simp; (try with_reducible rfl))⟩) ?_
        simp only [Act.put, List.setIfInBounds_toArray, List.set_cons_zero, List.set_cons_succ]
        refine wpAny_take (i := 6) (by simp only [List.getElem?_toArray, List.getElem?_cons_zero, List.getElem?_cons_succ]; rfl) (by kernel_rfl) (by kernel_rfl) (by kernel_rfl) (by intro _ _ _ h; exact h) (Or.inl ⟨by rfl, fun w => by (go_simp; (try with_reducible rfl))⟩) ?_
        simp only [Act.put, List.setIfInBounds_toArray, List.set_cons_zero, List.set_cons_succ]
        refine wpAny_take (i := 7) (by simp only [List.getElem?_toArray, List.getElem?_cons_zero, List.getElem?_cons_succ]; rfl) (by kernel_rfl) (by kernel_rfl) (by kernel_rfl) (by intro _ _ _ h; exact h) (Or.inl ⟨by rfl, fun w => by (go_simp; (try with_reducible rfl))⟩) ?_
        simp only [Act.put, List.setIfInBounds_toArray, List.set_cons_zero, List.set_cons_succ]
        refine wpAny_take (i := 8) (by simp only [List.getElem?_toArray, List.getElem?_cons_zero, List.getElem?_cons_succ]; rfl) (by kernel_rfl) (by kernel_rfl) (by kernel_rfl) (by intro _ _ _ h; exact h) (Or.inl ⟨by rfl, fun w => by (go_simp; (try with_reducible rfl))⟩) ?_
        simp only [Act.put, List.setIfInBounds_toArray, List.set_cons_zero, List.set_cons_succ]
        refine wpAny_ready (rs := [0]) (by kernel_rfl) (by simp) ?_
        refine AllReady.cons (by simp only [List.getElem?_toArray, List.getElem?_cons_zero]; rfl) ?_ AllReady.nil
        intro K hK
        go_simp
        refine hK _ _ ?_
        clear hK K
        try simp only [Act.put, List.setIfInBounds_toArray, List.set_cons_zero, List.set_cons_succ]
        refine wpAny_ready (rs := [4]) (by kernel_rfl) (by simp) ?_
        refine AllReady.cons (by simp only [List.getElem?_toArray, List.getElem?_cons_zero, List.getElem?_cons_succ]; rfl) ?_ AllReady.nil
        intro K hK
        rw [if_pos (by rfl)]
        have hk9 : Keep c w3 (w3.drew.alloc (.cells #[] 5)) := (Keep.refl c w3).drew.alloc _
        refine app_bytes (W := w3) (c := c) _ _ rfl hk9 (.slice (some ⟨w3.heap.size, 0, none⟩) 0 0) [] rfl (own_empty w3.drew w3.heap.size (Nat.le_refl _)) (by simp) ⟨g, 0, none⟩ k _ (l.take k) rfl (by rw [List.length_take]; omega) (B3.out.first hk9 hcw k) (by rw [List.length_take, List.length_nil]; omega) ?_
        clear hk9
        intro v1 wA hv1 ownA hkA hbA
        refine hK _ _ ?_
        clear hK K
        try simp only [Act.put, List.setIfInBounds_toArray, List.set_cons_zero, List.set_cons_succ]
        refine wpAny_ready (rs := [9]) (by kernel_rfl) (by simp) ?_
        refine AllReady.cons (by simp only [List.getElem?_toArray, List.getElem?_cons_zero, List.getElem?_cons_succ]; rfl) ?_ AllReady.nil
        intro K hK
        rw [if_pos (by rfl)]
        refine app_bytes (W := w3) (c := c) _ _ rfl hkA v1 _ rfl ownA hv1 ⟨g, k + 1, none⟩ _ _ (l.drop (k + 1)) rfl (by simp) (B3.out.rest hkA hcw (k + 1)) (by first | (simp; done) | (simp; omega)) ?_
        intro v2 wB hv2 ownB hkB hbB
        have hL : ([] ++ l.take k ++ (l.drop (k + 1))).length ≤ l.length := by simp; omega
        generalize [] ++ l.take k ++ (l.drop (k + 1)) = L at ownB hL
        have curB : Cur wB c a len cap := ((C3.out.drew.alloc (.cells #[] 5)).far hbA hcw3).far hbB hcw3
        obtain ⟨g2, c2, rfl, BB⟩ := BRow.ofOwn ownB hv2
        have fin : Hid (BRow wB w.heap.size g2 c2 L ∧ Cur wB c a len cap ∧ Keep c w wB) := ⟨⟨BB.le, Nat.le_trans K3.out.size BB.lo, BB.lt, BB.cell, BB.free⟩, curB, K3.out.trans hkB⟩
        refine hK _ _ ?_
        clear hK K
        try simp only [Act.put, List.setIfInBounds_toArray, List.set_cons_zero, List.set_cons_succ]
        refine wpAny_take (i := 10) (by simp only [List.getElem?_toArray, List.getElem?_cons_zero, List.getElem?_cons_succ]; rfl) (by kernel_rfl) (by kernel_rfl) (by kernel_rfl) (by intro _ _ _ h; exact h) (Or.inl ⟨by rfl, fun w => by (go_simp; (try with_reducible rfl))⟩) ?_
        simp only [Act.put, List.setIfInBounds_toArray, List.set_cons_zero, List.set_cons_succ]
        refine wpAny_done (by kernel_rfl) ?_ _
        clear ownA ownB hbA hbB BB
        go_wp2_with fail
        go_roundw
        case rel => exact ⟨g2, c2, L, j, rfl, rfl, by omega, by omega, fin⟩
        case measure => simp [intOf]
    · have hcq := B3.out.le
      have hcw3 : c < w3.heap.size := C3.out.lt
      have z1 : (k : Int) ≤ (cq : Int) := by omega
      have z2 : (k : Int) ≤ (l.length : Int) := by omega
      have z6 : ¬ cq = k := by omega
      go_wp2_with fail
      refine wp_region_any (by kernel_rfl) (show wpAny _ _ _ _ _ _ _ w3.drew from ?_)
      refine wpAny_take (i := 1) (by simp only [List.getElem?_toArray, List.getElem?_cons_zero, List.getElem?_cons_succ]; rfl) (by kernel_rfl) (by kernel_rfl) (by kernel_rfl) (by intro _ _ _ h; exact h) (Or.inl ⟨by rfl, fun w => by (go_simp; (try with_reducible rfl))⟩) ?_
      simp only [Act.put, List.setIfInBounds_toArray, List.set_cons_zero, List.set_cons_succ]
      refine wpAny_take (i := 2) (by simp only [List.getElem?_toArray, List.getElem?_cons_zero, List.getElem?_cons_succ]; rfl) (by kernel_rfl) (by kernel_rfl) (by kernel_rfl) (by intro _ _ _ h; exact h) (Or.inl ⟨by rfl, fun w => by (go_simp; (try with_reducible rfl))⟩) ?_
      simp only [Act.put, List.setIfInBounds_toArray, List.set_cons_zero, List.set_cons_succ]
      refine wpAny_take (i := 3) (by simp only [List.getElem?_toArray, List.getElem?_cons_zero, List.getElem?_cons_succ]; rfl) (by kernel_rfl) (by kernel_rfl) (by kernel_rfl) (by intro _ _ _ h; exact h) (Or.inl ⟨by rfl, fun w => by (go_simp; (try with_reducible rfl))⟩) ?_
      simp only [Act.put, List.setIfInBounds_toArray, List.set_cons_zero, List.set_cons_succ]
      refine wpAny_take (i := 5) (by simp only [List.getElem?_toArray, List.getElem?_cons_zero, List.getElem?_cons_succ]; rfl) (by kernel_rfl) (by kernel_rfl) (by kernel_rfl) (by intro _ _ _ h; exact h) (Or.inl ⟨by rfl, fun w => by (go_simp; (try with_reducible rfl))⟩) ?_
      simp only [Act.put, List.setIfInBounds_toArray, List.set_cons_zero, List.set_cons_succ]
      refine wpAny_take (i := 6) (by simp only [List.getElem?_toArray, List.getElem?_cons_zero, List.getElem?_cons_succ]; rfl) (by kernel_rfl) (by kernel_rfl) (by kernel_rfl) (by intro _ _ _ h; exact h) (Or.inl ⟨by rfl, fun w => by (go_simp; (try with_reducible rfl))⟩) ?_
      simp only [Act.put, List.setIfInBounds_toArray, List.set_cons_zero, List.set_cons_succ]
      refine wpAny_take (i := 7) (by simp only [List.getElem?_toArray, List.getElem?_cons_zero, List.getElem?_cons_succ]; rfl) (by kernel_rfl) (by kernel_rfl) (by kernel_rfl) (by intro _ _ _ h; exact h) (Or.inl ⟨by rfl, fun w => by (go_simp; (try with_reducible rfl))⟩) ?_
      simp only [Act.put, List.setIfInBounds_toArray, List.set_cons_zero, List.set_cons_succ]
      refine wpAny_take (i := 8) (by simp only [List.getElem?_toArray, List.getElem?_cons_zero, List.getElem?_cons_succ]; rfl) (by kernel_rfl) (by kernel_rfl) (by kernel_rfl) (by intro _ _ _ h; exact h) (Or.inl ⟨by rfl, fun w => by (go_simp; (try with_reducible rfl))⟩) ?_
      simp only [Act.put, List.setIfInBounds_toArray, List.set_cons_zero, List.set_cons_succ]
      refine wpAny_take (i := 13) (by simp only [List.getElem?_toArray, List.getElem?_cons_zero, List.getElem?_cons_succ]; rfl) (by kernel_rfl) (by kernel_rfl) (by kernel_rfl) (by intro _ _ _ h; exact h) (Or.inl ⟨by rfl, fun w => by (go_simp; (try with_reducible rfl))⟩) ?_
      simp only [Act.put, List.setIfInBounds_toArray, List.set_cons_zero, List.set_cons_succ]
      refine wpAny_take (i := 14) (by simp only [List.getElem?_toArray, List.getElem?_cons_zero, List.getElem?_cons_succ]; rfl) (by kernel_rfl) (by kernel_rfl) (by kernel_rfl) (by intro _ _ _ h; exact h) (Or.inl ⟨by rfl, fun w => by (go_simp; (try with_reducible rfl))⟩) ?_
      simp only [Act.put, List.setIfInBounds_toArray, List.set_cons_zero, List.set_cons_succ]
      refine wpAny_take (i := 15) (by simp only [List.getElem?_toArray, List.getElem?_cons_zero, List.getElem?_cons_succ]; rfl) (by kernel_rfl) (by kernel_rfl) (by kernel_rfl) (by intro _ _ _ h; exact h) (Or.inl ⟨by rfl, fun w => by (go_simp; (try with_reducible rfl))⟩) ?_
      simp only [Act.put, List.setIfInBounds_toArray, List.set_cons_zero, List.set_cons_succ]
      refine wpAny_ready (rs := [0]) (by kernel_rfl) (by simp) ?_
      refine AllReady.cons (by simp only [List.getElem?_toArray, List.getElem?_cons_zero]; rfl) ?_ AllReady.nil
      intro K hK
      go_simp
      refine hK _ _ ?_
      clear hK K
      try simp only [Act.put, List.setIfInBounds_toArray, List.set_cons_zero, List.set_cons_succ]
      refine wpAny_ready (rs := [4]) (by kernel_rfl) (by simp) ?_
      refine AllReady.cons (by simp only [List.getElem?_toArray, List.getElem?_cons_zero, List.getElem?_cons_succ]; rfl) ?_ AllReady.nil
      intro K hK
      rw [if_pos (by rfl)]
      have hk9 : Keep c w3 (w3.drew.alloc (.cells #[] 5)) := (Keep.refl c w3).drew.alloc _
      refine app_bytes (W := w3) (c := c) _ _ rfl hk9 (.slice (some ⟨w3.heap.size, 0, none⟩) 0 0) [] rfl (own_empty w3.drew w3.heap.size (Nat.le_refl _)) (by simp) ⟨g, 0, none⟩ k _ (l.take k) rfl (by rw [List.length_take]; omega) (B3.out.first hk9 hcw k) (by rw [List.length_take, List.length_nil]; omega) ?_
      clear hk9
      intro v1 wA hv1 ownA hkA hbA
      refine hK _ _ ?_
      clear hK K
      try simp only [Act.put, List.setIfInBounds_toArray, List.set_cons_zero, List.set_cons_succ]
      have curA : Cur wA c a len cap := (C3.out.drew.alloc (.cells #[] 5)).far hbA hcw3
      refine wpAny_ready (rs := [9]) (by kernel_rfl) (by simp) ?_
      refine AllReady.cons (by simp only [List.getElem?_toArray, List.getElem?_cons_zero, List.getElem?_cons_succ]; rfl) ?_ AllReady.nil
      intro K hK
      go_simp
      refine (below_draw curA sg.size (by omega) (by omega)).mono ?_
      rintro e wC ⟨y, rfl, hy0, hy4, curC, hkAC⟩
      obtain ⟨y, rfl⟩ := Int.eq_ofNat_of_zero_le hy0
      have hyn : y < sg.size := by omega
      have ownC := own_keep ownA hkAC hcw3
      have hkC := hkA.trans hkAC
      clear ownA hkA hkAC hbA curA
      refine hK _ _ ?_
      clear hK K
      try simp only [Act.put, List.setIfInBounds_toArray, List.set_cons_zero, List.set_cons_succ]
      refine wpAny_take (i := 10) (by simp only [List.getElem?_toArray, List.getElem?_cons_zero, List.getElem?_cons_succ]; rfl) (by kernel_rfl) (by kernel_rfl) (by kernel_rfl) (by intro _ _ _ h; exact h) (Or.inl ⟨by rfl, fun w => by (go_simp; (try with_reducible rfl))⟩) ?_
      simp only [Act.put, List.setIfInBounds_toArray, List.set_cons_zero, List.set_cons_succ]
      refine wpAny_ready (rs := [11]) (by kernel_rfl) (by simp) ?_
      refine AllReady.cons (by simp only [List.getElem?_toArray, List.getElem?_cons_zero, List.getElem?_cons_succ]; rfl) ?_ AllReady.nil
      intro K hK
      go_simp
      refine hK _ _ ?_
      clear hK K
      try simp only [Act.put, List.setIfInBounds_toArray, List.set_cons_zero, List.set_cons_succ]
      refine wpAny_ready (rs := [12]) (by kernel_rfl) (by simp) ?_
      refine AllReady.cons (by simp only [List.getElem?_toArray, List.getElem?_cons_zero, List.getElem?_cons_succ]; rfl) ?_ AllReady.nil
      intro K hK
      rw [if_pos (by rfl)]
      have hkD : Keep c w3 (wC.alloc (.cells #[.int .u8 (sg[y].toNat : Int)] 5)) := hkC.alloc _
      refine app_bytes (W := w3) (c := c) _ _ rfl hkD v1 _ rfl (ownC.alloc _) hv1 ⟨wC.heap.size, 0, none⟩ 1 _ [sg[y]] rfl rfl ?_ (by simp; omega) ?_
      · intro j hj
        obtain rfl : j = 0 := by simp at hj; omega
        simp [Addr.add]
      intro v2 wB hv2 ownB hkB hbB
      have curB : Cur wB c a len cap := (curC.alloc (.cells #[.int .u8 (sg[y].toNat : Int)] 5)).far hbB hcw3
      clear hkD ownC hkC curC hbB
      refine hK _ _ ?_
      clear hK K
      try simp only [Act.put, List.setIfInBounds_toArray, List.set_cons_zero, List.set_cons_succ]
      refine wpAny_ready (rs := [16]) (by kernel_rfl) (by simp) ?_
      refine AllReady.cons (by simp only [List.getElem?_toArray, List.getElem?_cons_zero, List.getElem?_cons_succ]; rfl) ?_ AllReady.nil
      intro K hK
      rw [if_pos (by rfl)]
      refine app_bytes (W := w3) (c := c) _ _ rfl hkB v2 _ rfl ownB hv2 ⟨g, k, none⟩ _ _ (l.drop k) rfl (by simp) (B3.out.rest hkB hcw k) (by simp; omega) ?_
      intro v3 wE hv3 ownE hkE hbE
      have hL : ([] ++ l.take k ++ [sg[y]] ++ l.drop k).length ≤ l.length + 1 := by simp; omega
      generalize [] ++ l.take k ++ [sg[y]] ++ l.drop k = L at ownE hL
      have curE : Cur wE c a len cap := curB.far hbE hcw3
      obtain ⟨g2, c2, rfl, BB⟩ := BRow.ofOwn ownE hv3
      have fin : Hid (BRow wE w.heap.size g2 c2 L ∧ Cur wE c a len cap ∧ Keep c w wE) := ⟨⟨BB.le, Nat.le_trans K3.out.size BB.lo, BB.lt, BB.cell, BB.free⟩, curE, K3.out.trans hkE⟩
      refine hK _ _ ?_
      clear hK K
      try simp only [Act.put, List.setIfInBounds_toArray, List.set_cons_zero, List.set_cons_succ]
      refine wpAny_take (i := 17) (by simp only [List.getElem?_toArray, List.getElem?_cons_zero, List.getElem?_cons_succ]; rfl) (by kernel_rfl) (by kernel_rfl) (by kernel_rfl) (by intro _ _ _ h; exact h) (Or.inl ⟨by rfl, fun w => by (go_simp; (try with_reducible rfl))⟩) ?_
      simp only [Act.put, List.setIfInBounds_toArray, List.set_cons_zero, List.set_cons_succ]
      refine wpAny_done (by kernel_rfl) ?_ _
      clear ownB ownE hbE BB curB curE
      go_wp2_with fail
      go_roundw
      case rel => exact ⟨g2, c2, L, j, rfl, rfl, by omega, by omega, fin⟩
      case measure => simp [intOf]

end Go.Proofs.YtgiknjlifocioaaGreatDoor

/-
  The contracts of a drawn answer, of two drawn answers and of one drawn cell: of every code that is not too long.
-/
namespace Go.Proofs.YtgiknjlifocioaaGreatDoor
open Go.ChangeShapes Go.WideShapes Go.ChangeAt Go.RowKit
attribute [local go_sem ↓] Go.wp_at_zero Go.wp_at_succ

theorem keep9 {c : Nat} {w1 w2 : World} {v0 v1 v2 v3 v4 v5 v6 v7 v8 : Value} {T : TypeId} (hk : Keep c (w1.alloc (.cells #[v0, v1, v2, v3, v4, v5, v6, v7, v8] T)) w2) (hne : w1.heap.size ≠ c) :
    (w2.cell? ⟨w1.heap.size, 0, none⟩ = some v0 ∧ w2.cell? ⟨w1.heap.size, 1, none⟩ = some v1 ∧ w2.cell? ⟨w1.heap.size, 2, none⟩ = some v2) ∧
    (w2.cell? ⟨w1.heap.size, 3, none⟩ = some v3 ∧ w2.cell? ⟨w1.heap.size, 4, none⟩ = some v4 ∧ w2.cell? ⟨w1.heap.size, 5, none⟩ = some v5) ∧
    (w2.cell? ⟨w1.heap.size, 6, none⟩ = some v6 ∧ w2.cell? ⟨w1.heap.size, 7, none⟩ = some v7 ∧ w2.cell? ⟨w1.heap.size, 8, none⟩ = some v8) := by
  refine ⟨⟨?_, ?_, ?_⟩, ⟨?_, ?_, ?_⟩, ⟨?_, ?_, ?_⟩⟩
  all_goals (rw [hk.cell (by simp) hne]; simp [go_sem])

end Go.Proofs.YtgiknjlifocioaaGreatDoor

/-
  The contracts of the model's draws of a text of tokens, and of tokens.
-/
namespace Go.Proofs.YtgiknjlifocioaaGreatDoor
open Go.ChangeShapes Go.WideShapes Go.ChangeAt Go.RowKit
attribute [local go_sem ↓] Go.wp_at_zero Go.wp_at_succ
attribute [local simp] World.cell?_alloc_past World.cell?_alloc_at World.frozen?_alloc_at cell_far cell_off cell_here World.frozen?_alloc_past

/-- The pieces that a text is drawn of. -/
def tokW : List ByteArray := [⟨#[97]⟩, ⟨#[104, 97, 121]⟩, ⟨#[49, 50]⟩, ⟨#[45, 55]⟩, ⟨#[48, 48, 55]⟩, ⟨#[39, 97, 98, 39]⟩, ⟨#[39, 39]⟩, ⟨#[110, 111, 110, 101]⟩, ⟨#[121, 101, 115]⟩, ⟨#[110, 111]⟩, ⟨#[97, 110, 100]⟩, ⟨#[108, 97, 99, 107, 115]⟩, ⟨#[43]⟩, ⟨#[45]⟩, ⟨#[42]⟩, ⟨#[40]⟩, ⟨#[41]⟩, ⟨#[60]⟩, ⟨#[61]⟩, ⟨#[32]⟩, ⟨#[32, 32]⟩, ⟨#[49, 48, 48, 48, 48, 48, 48, 48, 48, 48]⟩, ⟨#[49, 48, 48, 48, 48, 48, 48, 48, 48, 49]⟩]
theorem tokW_len : tokW.length = 23 := rfl
theorem tokW_size : ∀ x ∈ tokW, x.size ≤ 10 := by
  have h : tokW.all (fun x => decide (x.size ≤ 10)) = true := by decide +kernel
  intro x hx
  exact of_decide_eq_true (List.all_eq_true.1 h x hx)
set_option maxRecDepth 100000 in
set_option maxHeartbeats 4000000 in
theorem text_draw7 {w : World} {c : Nat} {a : Option Addr} {len cap : Nat} (h : Cur w c a len cap) :
    Calls Tryz.prog 21 #[.pointer (some ⟨c, 0, none⟩)] w fun e w' => ∃ t : ByteArray, e = .returned (.string t) ∧ t.size ≤ 100 ∧ Cur w' c a len cap ∧ Keep c w w' := by
  have hcw := h.lt
  have HC : Hid (Cur w c a len cap) := h
  clear h
  go_enter Tryz.func21, Tryz.ntmps21
  go_wp2_with fail
  refine (below_draw HC.out 9 (by omega) (by omega)).mono ?_
  rintro e w1 ⟨x, rfl, hx0, hx1, hc1, hk1⟩
  obtain ⟨x, rfl⟩ : ∃ n : Nat, x = n := ⟨x.toNat, by omega⟩
  have C1 : Hid (Cur w1 c a len cap) := hc1
  have hx8 : x ≤ 8 := by omega
  clear hc1 HC hx0 hx1
  go_wp2_with fail
  go_loopw [3, 4] (fun sv nv wr => ∃ (y : ByteArray) (m : Nat), sv = .string y ∧ nv = .int .i64 m ∧ m ≤ 8 ∧ y.size + m * 11 ≤ 88 ∧ Hid (Cur wr c a len cap) ∧ Keep c w wr) (fun _ nv _ => (intOf nv).toNat)
  case atStart => exact ⟨⟨#[]⟩, x, rfl, rfl, hx8, by show 0 + x * 11 ≤ 88; omega, C1, hk1⟩
  case round =>
    obtain ⟨y, m, rfl, rfl, hm8, hys, CC, hkA⟩ := hrel
    clear C1 hk1
    have hszA := hkA.size
    by_cases hm0 : m = 0
    · subst hm0
      go_wp2_with fail
      refine (once_draw CC.out 6 (by omega) (by omega)).mono ?_
      rintro e w4 ⟨bb, rfl, hc4, hk4⟩
      have CB : Hid (Cur w4 c a len cap) := hc4
      have hkB := hkA.trans hk4
      clear hc4 hk4 hkA
      cases bb
      · go_wp2
        go_ret
        exact ⟨_, rfl, by omega, CB.out, hkB⟩
      · go_wp2_with fail
        refine (bend_draw CB.out y _ (by omega) (by decide) (by decide)).mono ?_
        rintro e w5 ⟨t5, rfl, ht5, hc5, hk5⟩
        have hkC := hkB.trans hk5
        go_wp2
        go_ret
        exact ⟨_, rfl, by omega, hc5, hkC⟩
    · obtain ⟨j, rfl⟩ : ∃ j, m = j + 1 := ⟨m - 1, by omega⟩
      have q3 : (0 : Int) < ((j + 1 : Nat) : Int) := by omega
      have q4 : ((j + 1 : Nat) : Int) - 1 = (j : Int) := by omega
      go_wp2_with fail
      refine (below_draw (CC.out.alloc (.cells (tokW.map Value.string).toArray 9)) 23 (by omega) (by omega)).mono ?_
      rintro e w2 ⟨z, rfl, hz0, hz1, hc2, hk2⟩
      obtain ⟨z, rfl⟩ : ∃ n : Nat, z = n := ⟨z.toNat, by omega⟩
      have hz : z < tokW.length := by rw [tokW_len]; omega
      have hu := tokW_size _ (List.getElem_mem hz)
      have hcell : w2.cell? ⟨wr.heap.size, z, none⟩ = some (.string (tokW[z]'hz)) := by
        have : w2.cell? ⟨wr.heap.size, z, none⟩ = (wr.alloc (.cells (tokW.map Value.string).toArray 9)).cell? ⟨wr.heap.size, z, none⟩ := hk2.cell (by simp) (by omega)
        rw [this]
        simp [hz]
      generalize (tokW[z]'hz) = u at hu hcell
      have CB : Hid (Cur w2 c a len cap) := hc2
      have hkB : Keep c w w2 := (hkA.alloc _).trans hk2
      have hz23 : (z : Int) < 23 := by omega
      have hz00 : (0 : Int) ≤ (z : Int) := by omega
      clear hc2 hk2 hkA hz hz0 hz1
      go_wp2_with fail
      refine (once_draw CB.out 2 (by omega) (by omega)).mono ?_
      rintro e w3 ⟨bb, rfl, hc3, hk3⟩
      have C3 : Hid (Cur w3 c a len cap) := hc3
      have hkC := hkB.trans hk3
      have hys2 : (y ++ u).size ≤ y.size + 10 := by rw [ByteArray.size_append]; omega
      clear hc3 hk3 hkB CB CC hcell
      generalize y ++ u = v at hys2 ⊢
      cases bb
      · go_wp2
        go_roundw
        case rel => exact ⟨v, j, rfl, by go_num, by omega, by omega, C3, hkC⟩
        case measure => simp [intOf]
      · have hys3 : (v ++ ⟨#[32]⟩).size ≤ y.size + 11 := by
          rw [ByteArray.size_append]
          have : (⟨#[32]⟩ : ByteArray).size = 1 := rfl
          omega
        go_wp2
        go_roundw
        case rel => exact ⟨_, j, rfl, by go_num, by omega, by omega, C3, hkC⟩
        case measure => simp [intOf]
end Go.Proofs.YtgiknjlifocioaaGreatDoor

/-
  Lists of texts: how a slice of texts lies in memory, and the contracts of the law's helpers that measure one, take one over and hold two against each other.
-/
namespace Go.Proofs.YtgiknjlifocioaaGreatDoor
open Go.ChangeShapes Go.WideShapes Go.ChangeAt Go.RowKit
attribute [local go_sem ↓] Go.wp_at_zero Go.wp_at_succ

/-- The texts of a slice lie where it says. -/
def StrsAt (w : World) (a : Option Addr) (l : List ByteArray) : Prop :=
  ∀ j (h : j < l.length), ∃ b o, a = some ⟨b, o, none⟩ ∧ b < w.heap.size ∧ w.cell? ⟨b, o + j, none⟩ = some (.string l[j])
theorem StrsAt.below {w w' : World} {a : Option Addr} {l : List ByteArray} (h : StrsAt w a l) (hb : Below w.heap.size w w') : StrsAt w' a l := by
  intro j hj
  obtain ⟨b, o, ha, hlt, h0⟩ := h j hj
  exact ⟨b, o, ha, Nat.lt_of_lt_of_le hlt hb.size, by rw [hb.cell (p := ⟨b, _, none⟩) hlt]; exact h0⟩
def FitS (l : List ByteArray) : Prop := ∀ j (h : j < l.length), (l[j]).size ≤ maxLen
def weightS (l : List ByteArray) : Nat := (l.map (·.size)).sum
theorem weightS_take (l : List ByteArray) (k : Nat) (h : k < l.length) : weightS (l.take (k + 1)) = weightS (l.take k) + (l[k]).size := by
  unfold weightS
  rw [List.take_succ_eq_append_getElem h, List.map_append, List.sum_append]; simp
theorem weightS_le (l : List ByteArray) (k : Nat) : weightS (l.take k) ≤ weightS l := by
  unfold weightS
  conv => rhs; rw [← List.take_append_drop k l, List.map_append, List.sum_append]
  omega
def strV (l : List ByteArray) : List Value := l.map Value.string
theorem strV_length (l : List ByteArray) : (strV l).length = l.length := List.length_map _
theorem strV_step (l : List ByteArray) (k : Nat) (h : k < l.length) (z : List Value) (hz : z.length = l.length) :
    (strV (l.take k) ++ z.drop k).set k (.string l[k]) = strV (l.take (k + 1)) ++ z.drop (k + 1) := by
  have hl : (strV (l.take k)).length = k := by rw [strV_length, List.length_take]; omega
  obtain ⟨a, r, hr⟩ : ∃ a r, z.drop k = a :: r := by
    have hd : (z.drop k).length ≥ 1 := by rw [List.length_drop]; omega
    match hm : z.drop k, hd with
    | a :: r, _ => exact ⟨a, r, rfl⟩
  have hr1 : z.drop (k + 1) = r := by rw [← List.drop_drop, hr]; rfl
  rw [List.take_succ_eq_append_getElem h, hr, hr1]
  rw [List.set_append_right _ _ (by omega), hl, Nat.sub_self, List.set_cons_zero, show strV (l.take k ++ [l[k]]) = strV (l.take k) ++ [.string l[k]] from List.map_append, List.append_assoc]
  rfl
theorem own_strs {w : World} {base g cap : Nat} {e : TypeId} {l : List ByteArray} (h : w.ownsRow base e 1 (.slice (some ⟨g, 0, none⟩) l.length cap) l.length (strV l)) : StrsAt w (some ⟨g, 0, none⟩) l := by
  have hlt : g < w.heap.size := (h.lt g rfl).2
  intro j hj
  refine ⟨g, 0, rfl, hlt, ?_⟩
  rw [Nat.zero_add, h.cellAt _ (by omega)]
  unfold strV
  rw [List.getElem?_map, List.getElem?_eq_getElem hj]; rfl

end Go.Proofs.YtgiknjlifocioaaGreatDoor

/-
  Numerals without any program: what a list of digits spells, and that a numeral without noughts ahead is the one of what it spells.
-/
namespace Go.Proofs.YtgiknjlifocioaaGreatDoor

def isDig (c : UInt8) : Bool := decide (48 ≤ c.toNat) && decide (c.toNat ≤ 57)
/-- What digits spell behind acc. -/
def valFrom (acc : Nat) : List UInt8 → Nat
  | [] => acc
  | c :: r => valFrom (acc * 10 + (c.toNat - 48)) r
theorem valFrom_nil (acc : Nat) : valFrom acc [] = acc := rfl
theorem valFrom_one (acc : Nat) (c : UInt8) : valFrom acc [c] = acc * 10 + (c.toNat - 48) := rfl
theorem valFrom_append (l m : List UInt8) (acc : Nat) : valFrom acc (l ++ m) = valFrom (valFrom acc l) m := by
  induction l generalizing acc with
  | nil => rfl
  | cons c l ih => exact ih _
theorem valFrom_snoc (l : List UInt8) (c : UInt8) (acc : Nat) : valFrom acc (l ++ [c]) = valFrom acc l * 10 + (c.toNat - 48) := by rw [valFrom_append]; rfl
theorem valFrom_mono (l : List UInt8) (acc : Nat) : acc ≤ valFrom acc l := by
  induction l generalizing acc with
  | nil => exact Nat.le_refl _
  | cons c l ih => exact Nat.le_trans (by omega) (ih _)
theorem valFrom_lt (l : List UInt8) (acc : Nat) (h : ∀ c ∈ l, isDig c = true) : valFrom acc l < (acc + 1) * 10 ^ l.length := by
  induction l generalizing acc with
  | nil => rw [valFrom_nil, List.length_nil, Nat.pow_zero]; omega
  | cons c l ih =>
    have hc : isDig c = true := h c (by simp)
    unfold isDig at hc
    simp at hc
    have := ih (acc * 10 + (c.toNat - 48)) (fun x hx => h x (by simp [hx]))
    refine Nat.lt_of_lt_of_le this ?_
    rw [List.length_cons, Nat.pow_succ, Nat.mul_comm (10 ^ l.length) 10, ← Nat.mul_assoc]
    exact Nat.mul_le_mul_right (10 ^ l.length) (show acc * 10 + (c.toNat - 48) + 1 ≤ (acc + 1) * 10 by omega)
theorem dig_of (c : UInt8) (h : isDig c = true) : UInt8.ofNat (48 + (c.toNat - 48)) = c := by
  unfold isDig at h
  simp at h
  rw [show 48 + (c.toNat - 48) = c.toNat by omega]
  simp
theorem dig_toNat (u : Nat) (h : u < 10) : (UInt8.ofNat (48 + u)).toNat = 48 + u := by
  rw [UInt8.toNat_ofNat_of_lt']
  exact Nat.lt_of_lt_of_le (show 48 + u < 58 by omega) (by decide)
theorem isDig_of (u : Nat) (h : u < 10) : isDig (UInt8.ofNat (48 + u)) = true := by
  unfold isDig; rw [dig_toNat u h]; simp; omega
/-- No nought ahead, but for 0 itself. -/
def Plain (l : List UInt8) : Prop := l ≠ [] ∧ (∀ c ∈ l, isDig c = true) ∧ (l.head? = some 48 → l.length = 1)
theorem Plain.pos {l : List UInt8} (h : Plain l) (h1 : l.length ≠ 1) : 1 ≤ valFrom 0 l := by
  obtain ⟨h0, hd, hh⟩ := h
  cases l with
  | nil => exact absurd rfl h0
  | cons c r =>
    have hc := hd c (by simp)
    have : c ≠ 48 := fun e => h1 (hh (by simp [e]))
    have h48 : c.toNat ≠ 48 := fun e => this (UInt8.toNat_inj.1 (by simpa using e))
    unfold isDig at hc
    simp at hc
    exact Nat.le_trans (by omega) (valFrom_mono r _)
/-- A numeral without noughts ahead is that of what it spells. -/
theorem decDigits_val : ∀ (n : Nat) (l : List UInt8), l.length = n → Plain l → Lib.decDigits (valFrom 0 l) = l := by
  intro n
  induction n with
  | zero => intro l hl h; exact absurd (List.length_eq_zero_iff.1 hl) h.1
  | succ n ih =>
    intro l hl h
    rcases List.eq_nil_or_concat l with rfl | ⟨r, c, hr⟩
    · exact absurd rfl h.1
    · have hr : l = r ++ [c] := by rw [hr, List.concat_eq_append]
      subst hr
      have hc := h.2.1 c (by simp)
      have hc2 := hc
      unfold isDig at hc2
      simp at hc2
      rw [valFrom_snoc]
      cases r with
      | nil =>
        rw [valFrom_nil, show 0 * 10 + (c.toNat - 48) = c.toNat - 48 by omega, Lib.decDigits_one (by omega), dig_of c hc]
        rfl
      | cons d r =>
        have P : Plain (d :: r) := ⟨by simp, fun x hx => h.2.1 x (by simp at hx ⊢; rcases hx with h | h <;> simp [h]), fun e => by
          have := h.2.2 (by simpa using e)
          simp at this⟩
        have hne : d ≠ 48 := fun e => by
          have := h.2.2 (by simp [e])
          simp at this
        have hpos : 1 ≤ valFrom 0 (d :: r) := by
          by_cases h1 : (d :: r).length = 1
          · have : r = [] := by simpa using h1
            subst this
            have hd := P.2.1 d (by simp)
            unfold isDig at hd
            simp at hd
            have h48 : d.toNat ≠ 48 := fun e => hne (UInt8.toNat_inj.1 (by simpa using e))
            rw [valFrom_one]; omega
          · exact P.pos h1
        have hIH := ih (d :: r) (by simp at hl ⊢; omega) P
        rw [Lib.decDigits, dif_neg (by omega), show (valFrom 0 (d :: r) * 10 + (c.toNat - 48)) / 10 = valFrom 0 (d :: r) by omega, hIH,
          show (valFrom 0 (d :: r) * 10 + (c.toNat - 48)) % 10 = c.toNat - 48 by omega, dig_of c hc]
/-- A numeral spells its number, and has no nought ahead. -/
theorem decDigits_plain (u : Nat) : valFrom 0 (Lib.decDigits u) = u ∧ Plain (Lib.decDigits u) ∧ (Lib.decDigits u).head? ≠ none := by
  induction u using Nat.strongRecOn with
  | _ u ih =>
    by_cases h : u < 10
    · rw [Lib.decDigits_one h]
      refine ⟨?_, ⟨by simp, ?_, fun _ => rfl⟩, by simp⟩
      · rw [valFrom_one, dig_toNat u h]; omega
      · intro c hc; rw [List.mem_singleton] at hc; subst hc; exact isDig_of u h
    · obtain ⟨h1, h2, h3⟩ := ih (u / 10) (by omega)
      rw [Lib.decDigits, dif_neg h]
      have hm : u % 10 < 10 := by omega
      refine ⟨?_, ⟨by simp, ?_, ?_⟩, ?_⟩
      · rw [valFrom_snoc, h1, dig_toNat _ hm]; omega
      · intro c hc
        rcases List.mem_append.1 hc with h | h
        · exact h2.2.1 c h
        · rw [List.mem_singleton] at h; subst h; exact isDig_of _ hm
      · intro e
        exfalso
        cases hD : Lib.decDigits (u / 10) with
        | nil => exact h2.1 hD
        | cons d r =>
          rw [hD] at e h1 h2
          have e48 : d = 48 := by simpa using e
          have hl := h2.2.2 (by simp [e48])
          have : r = [] := by simpa using hl
          subst this
          rw [e48] at h1
          have : u / 10 = 0 := by rw [← h1]; rfl
          omega
      · simp
theorem decDigits_len (u : Nat) (h : u < 10000000000) : (Lib.decDigits u).length ≤ 10 := by
  rw [Lib.decDigits_length]
  have : ∀ (k v : Nat), v < 10 ^ (k + 1) → Lib.nDigits v ≤ k + 1 := by
    intro k
    induction k with
    | zero => intro v hv; rw [Lib.nDigits_small (by simpa using hv)]; omega
    | succ k ih =>
      intro v hv
      by_cases h10 : v < 10
      · rw [Lib.nDigits_small h10]; omega
      · rw [Lib.nDigits_big h10]
        have := ih (v / 10) (by rw [Nat.pow_succ] at hv; omega)
        omega
  exact this 9 u (by simpa using h)
/-- What ParseUint makes of digits that spell no more than a uint64 holds. -/
theorem parseUintM_val (l : List UInt8) (acc : Nat) (hd : ∀ c ∈ l, isDig c = true) (hv : valFrom acc l ≤ 18446744073709551615) : Lib.parseUintM 18446744073709551615 acc l = .ok (valFrom acc l) := by
  induction l generalizing acc with
  | nil => rfl
  | cons c r ih =>
    have hc := hd c (by simp)
    unfold isDig at hc
    simp at hc
    have hm := valFrom_mono r (acc * 10 + (c.toNat - 48))
    have hv' : valFrom (acc * 10 + (c.toNat - 48)) r ≤ 18446744073709551615 := hv
    rw [Lib.parseUintM, if_pos hc, if_neg (by omega), if_neg (by omega), ih _ (fun x hx => hd x (by simp [hx])) hv']
    rfl
theorem itoa_nonneg (n : Int) (h : 0 ≤ n) : Lib.itoa n = Lib.decDigits n.toNat := by unfold Lib.itoa; rw [if_neg (by omega)]
theorem itoa_neg (n : Int) (h : n < 0) : Lib.itoa n = 45 :: Lib.decDigits n.natAbs := by unfold Lib.itoa; rw [if_pos h]
/-- What is parsed of a numeral is its number. -/
theorem parse_itoa (n : Int) (h0 : -1000000000 ≤ n) (h1 : n ≤ 1000000000) : Lib.parseIntB 64 (Lib.itoa n) = .ok n := by
  have key : ∀ u : Nat, u ≤ 1000000000 → Lib.parseUintB 64 (Lib.decDigits u) = .ok u := by
    intro u hu
    obtain ⟨v, p, _⟩ := decDigits_plain u
    unfold Lib.parseUintB
    rw [if_neg p.1]
    have := parseUintM_val (Lib.decDigits u) 0 p.2.1 (by omega)
    rw [v] at this
    simpa using this
  by_cases hn : n < 0
  · rw [itoa_neg n hn]
    unfold Lib.parseIntB
    simp only []
    rw [if_pos (by decide), key n.natAbs (by omega)]
    simp only []
    rw [if_neg (by simp), if_neg (by simp; omega), if_pos (by decide)]
    congr 1; omega
  · rw [itoa_nonneg n (by omega)]
    obtain ⟨v, p, _⟩ := decDigits_plain n.toNat
    have k := key n.toNat (by omega)
    cases hD : Lib.decDigits n.toNat with
    | nil => exact absurd hD p.1
    | cons c r =>
      rw [hD] at k p
      have hc := p.2.1 c (by simp)
      unfold isDig at hc
      simp at hc
      unfold Lib.parseIntB
      simp only []
      rw [if_neg (by omega), k]
      simp only []
      rw [if_neg (by simp; omega), if_neg (by simp; omega), if_neg (by omega)]
      congr 1; omega

/-- What a numeral of at most ten digits, of just the form, spells. -/
def readMost (l : List UInt8) : Option Int :=
  let neg : Bool := decide (l.head? = some 45)
  let r := if neg = true then l.drop 1 else l
  if r.length < 1 ∨ 10 < r.length then none
  else if r.all isDig = true then
    if r.head? = some 48 ∧ (neg = true ∨ 1 < l.length) then none
    else some (if neg = true then -(valFrom 0 r : Int) else valFrom 0 r)
  else none
theorem readMost_itoa (n : Int) (h0 : -9999999999 ≤ n) (h1 : n ≤ 9999999999) : readMost (Lib.itoa n) = some n := by
  by_cases hn : n < 0
  · obtain ⟨v, p, _⟩ := decDigits_plain n.natAbs
    have hl := decDigits_len n.natAbs (by omega)
    have hp : (Lib.decDigits n.natAbs).length ≠ 0 := fun e => p.1 (List.length_eq_zero_iff.1 e)
    rw [itoa_neg n hn]
    unfold readMost
    simp only [List.head?_cons, decide_true, if_true, List.drop_succ_cons, List.drop_zero]
    rw [if_neg (by omega), if_pos (List.all_eq_true.2 p.2.1), if_neg, v]
    · congr 1; omega
    · rintro ⟨e, _⟩
      have h1 := p.2.2 e
      cases hD : Lib.decDigits n.natAbs with
      | nil => exact p.1 hD
      | cons c r =>
        rw [hD] at e h1 v
        have e' : c = 48 := by simpa using e
        have : r = [] := by simpa using h1
        subst this e'
        have : n.natAbs = 0 := by rw [← v]; rfl
        omega
  · obtain ⟨v, p, _⟩ := decDigits_plain n.toNat
    have hl := decDigits_len n.toNat (by omega)
    have hp : (Lib.decDigits n.toNat).length ≠ 0 := fun e => p.1 (List.length_eq_zero_iff.1 e)
    rw [itoa_nonneg n (by omega)]
    have hh : ¬ (Lib.decDigits n.toNat).head? = some 45 := by
      intro e
      cases hD : Lib.decDigits n.toNat with
      | nil => exact p.1 hD
      | cons c r =>
        rw [hD] at e p
        have e' : c = 45 := by simpa using e
        have := p.2.1 c (by simp)
        subst e'
        exact absurd this (by decide)
    unfold readMost
    simp only [hh, decide_false, Bool.false_eq_true, if_false, false_or]
    rw [if_neg (by omega), if_pos (List.all_eq_true.2 p.2.1), if_neg, v]
    · congr 1; omega
    · rintro ⟨e, h⟩
      have := p.2.2 e
      omega
theorem readMost_some {l : List UInt8} {n : Int} (h : readMost l = some n) : l = Lib.itoa n := by
  unfold readMost at h
  by_cases hh : l.head? = some 45
  · simp only [hh, decide_true, if_true] at h
    split at h
    · cases h
    · rename_i hlen
      split at h
      · rename_i hd
        split at h
        · cases h
        · rename_i h48
          injection h with h
          cases l with
          | nil => simp at hh
          | cons c r =>
            have e : c = 45 := by simpa using hh
            subst e
            simp only [List.drop_succ_cons, List.drop_zero] at *
            have P : Plain r := ⟨fun e => by subst e; simp at hlen, List.all_eq_true.1 hd, fun e => absurd ⟨e, .inl trivial⟩ h48⟩
            have hpos : 1 ≤ valFrom 0 r := by
              by_cases h1 : r.length = 1
              · cases r with
                | nil => exact absurd rfl P.1
                | cons d r =>
                  have : r = [] := by simpa using h1
                  subst this
                  have hd' := P.2.1 d (by simp)
                  unfold isDig at hd'
                  simp at hd'
                  have hne : d ≠ 48 := fun e => h48 ⟨by simp [e], .inl trivial⟩
                  have : d.toNat ≠ 48 := fun e => hne (UInt8.toNat_inj.1 (by simpa using e))
                  rw [valFrom_one]; omega
              · exact P.pos h1
            rw [itoa_neg n (by omega), show n.natAbs = valFrom 0 r by omega, decDigits_val _ r rfl P]
      · cases h
  · simp only [hh, decide_false, Bool.false_eq_true, if_false, false_or] at h
    split at h
    · cases h
    · rename_i hlen
      split at h
      · rename_i hd
        split at h
        · cases h
        · rename_i h48
          injection h with h
          have P : Plain l := ⟨fun e => by subst e; simp at hlen, List.all_eq_true.1 hd, fun e => by
            by_cases h1 : 1 < l.length
            · exact absurd ⟨e, h1⟩ h48
            · omega⟩
          rw [itoa_nonneg n (by omega), show n.toNat = valFrom 0 l by omega, decDigits_val _ l rfl P]
      · cases h
end Go.Proofs.YtgiknjlifocioaaGreatDoor
