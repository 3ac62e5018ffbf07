/-
  A part of the proof: Draw1, Draw2, Draw3, Draw4, Draw5, Draw6, ItmOwn, RowDraw.
-/
import Derived.Test.YthgbjnchhaoceaaGreatDoorPart1
import Derived.Deep.RegionHeld3
import Derived.Test.YthgbjnchhaoceaaGreatDoorPart9
import Derived.Test.YthgbjnchhaoceaaGreatDoorPart13

/-
  The contracts of the drawing cursor: where it lies in memory, and that a byte drawn is from 0 to 255.
-/
namespace Go.Proofs.YthgbjnchhaoceaaGreatDoor
open Go.ChangeShapes Go.WideShapes Go.ChangeAt Go.RowKit

/-- A cursor lies at block c: its bytes, how far it has come, its number. -/
structure Cur (w : World) (c : Nat) (a : Option Addr) (len cap : Nat) : Prop where
  c0 : w.cell? ⟨c, 0, none⟩ = some (.slice a len cap)
  c1 : ∃ i : Nat, w.cell? ⟨c, 1, none⟩ = some (.int .i64 (i : Int)) ∧ i ≤ len
  c2 : ∃ h : Int, w.cell? ⟨c, 2, none⟩ = some (.int .i64 h)
  f0 : w.frozen? ⟨c, 0, none⟩ = false
  f1 : w.frozen? ⟨c, 1, none⟩ = false
  f2 : w.frozen? ⟨c, 2, none⟩ = false
  lt : c < w.heap.size
  hlen : len ≤ maxLen
  row : ∀ j, j < len → ∃ (rb ro : Nat) (v : Int), a = some ⟨rb, ro, none⟩ ∧ rb < c ∧ w.cell? ⟨rb, ro + j, none⟩ = some (.int .u8 v) ∧ 0 ≤ v ∧ v ≤ 255

theorem Cur.below {w w' : World} {c : Nat} {a : Option Addr} {len cap : Nat} (h : Cur w c a len cap) (hb : Below w.heap.size w w') : Cur w' c a len cap := by
  have hc : ∀ o, w'.cell? ⟨c, o, none⟩ = w.cell? ⟨c, o, none⟩ := fun o => hb.cell (p := ⟨c, o, none⟩) h.lt
  have hf : ∀ o, w'.frozen? ⟨c, o, none⟩ = w.frozen? ⟨c, o, none⟩ := fun o => hb.frozen (p := ⟨c, o, none⟩) h.lt
  refine ⟨by rw [hc]; exact h.c0, by rw [hc]; exact h.c1, by rw [hc]; exact h.c2, by rw [hf]; exact h.f0, by rw [hf]; exact h.f1, by rw [hf]; exact h.f2, Nat.lt_of_lt_of_le h.lt hb.size, h.hlen, ?_⟩
  intro j hj
  obtain ⟨rb, ro, v, ha, hlt, hcell, hv⟩ := h.row j hj
  exact ⟨rb, ro, v, ha, hlt, by rw [hb.cell (p := ⟨rb, ro + j, none⟩) (Nat.lt_trans hlt h.lt)]; exact hcell, hv⟩

theorem Cur.drewN {w : World} {c : Nat} {a : Option Addr} {len cap : Nat} (h : Cur w c a len cap) (n : Nat) : Cur (w.drewN n) c a len cap :=
  ⟨h.c0, h.c1, h.c2, h.f0, h.f1, h.f2, h.lt, h.hlen, h.row⟩
theorem Cur.drew {w : World} {c : Nat} {a : Option Addr} {len cap : Nat} (h : Cur w c a len cap) : Cur w.drew c a len cap :=
  ⟨h.c0, h.c1, h.c2, h.f0, h.f1, h.f2, h.lt, h.hlen, h.row⟩

theorem set_row {w : World} {c : Nat} {a : Option Addr} {len o : Nat} {u : Value} (row : ∀ j, j < len → ∃ (rb ro : Nat) (v : Int), a = some ⟨rb, ro, none⟩ ∧ rb < c ∧ w.cell? ⟨rb, ro + j, none⟩ = some (.int .u8 v) ∧ 0 ≤ v ∧ v ≤ 255) :
    ∀ j, j < len → ∃ (rb ro : Nat) (v : Int), a = some ⟨rb, ro, none⟩ ∧ rb < c ∧ (w.setCell ⟨c, o, none⟩ u).cell? ⟨rb, ro + j, none⟩ = some (.int .u8 v) ∧ 0 ≤ v ∧ v ≤ 255 := by
  intro j hj
  obtain ⟨rb, ro, v, ha, hlt, hcell, hv⟩ := row j hj
  exact ⟨rb, ro, v, ha, hlt, by rw [World.cell?_of_block (w := w) (Below.heap_setCell w _ u rb (Nat.ne_of_lt hlt))]; exact hcell, hv⟩

theorem Cur.set2 {w : World} {c : Nat} {a : Option Addr} {len cap : Nat} (h : Cur w c a len cap) (v : Int) : Cur (w.setCell ⟨c, 2, none⟩ (.int .i64 v)) c a len cap := by
  obtain ⟨c0, ⟨i, c1, hi⟩, ⟨hh, c2⟩, f0, f1, f2, lt, hlen, row⟩ := h
  refine ⟨?_, ⟨i, ?_, hi⟩, ⟨v, ?_⟩, by rw [World.frozen?_setCell]; exact f0, by rw [World.frozen?_setCell]; exact f1, by rw [World.frozen?_setCell]; exact f2, by simpa using lt, hlen, set_row row⟩
  · rw [World.cell?_setCell_other _ _ _ _ (by simp)]; exact c0
  · rw [World.cell?_setCell_other _ _ _ _ (by simp)]; exact c1
  · exact World.cell?_setCell_same _ _ _ c2

theorem Cur.set1 {w : World} {c : Nat} {a : Option Addr} {len cap : Nat} (h : Cur w c a len cap) (i : Nat) (hi : i ≤ len) (v : Int) (hv : v = (i : Int)) : Cur (w.setCell ⟨c, 1, none⟩ (.int .i64 v)) c a len cap := by
  subst hv
  obtain ⟨c0, ⟨i', c1, _⟩, ⟨hh, c2⟩, f0, f1, f2, lt, hlen, row⟩ := h
  refine ⟨?_, ⟨i, ?_, hi⟩, ⟨hh, ?_⟩, by rw [World.frozen?_setCell]; exact f0, by rw [World.frozen?_setCell]; exact f1, by rw [World.frozen?_setCell]; exact f2, by simpa using lt, hlen, set_row row⟩
  · rw [World.cell?_setCell_other _ _ _ _ (by simp)]; exact c0
  · exact World.cell?_setCell_same _ _ _ c1
  · rw [World.cell?_setCell_other _ _ _ _ (by simp)]; exact c2

/-- A store into a block that was made behind the cursor. -/
theorem Cur.setAbove {w : World} {c : Nat} {a : Option Addr} {len cap : Nat} (h : Cur w c a len cap) {b o : Nat} (hb : c < b) (u : Value) : Cur (w.setCell ⟨b, o, none⟩ u) c a len cap := by
  have hc : ∀ k q, k ≤ c → (w.setCell ⟨b, o, none⟩ u).cell? ⟨k, q, none⟩ = w.cell? ⟨k, q, none⟩ := fun k q hk => World.cell?_of_block (w := w) (Below.heap_setCell w _ u k (by simp; omega))
  obtain ⟨c0, c1, c2, f0, f1, f2, lt, hlen, row⟩ := h
  refine ⟨by rw [hc _ _ (Nat.le_refl _)]; exact c0, by rw [hc _ _ (Nat.le_refl _)]; exact c1, by rw [hc _ _ (Nat.le_refl _)]; exact c2, by rw [World.frozen?_setCell]; exact f0, by rw [World.frozen?_setCell]; exact f1, by rw [World.frozen?_setCell]; exact f2, by simpa using lt, hlen, ?_⟩
  intro j hj
  obtain ⟨rb, ro, v, ha, hlt, hcell, hv⟩ := row j hj
  exact ⟨rb, ro, v, ha, hlt, by rw [hc _ _ (Nat.le_of_lt hlt)]; exact hcell, hv⟩

theorem Cur.alloc {w : World} {c : Nat} {a : Option Addr} {len cap : Nat} (h : Cur w c a len cap) (o : Obj) : Cur (w.alloc o) c a len cap :=
  h.below ((Below.refl _ _).alloc (Nat.le_refl _) o)

theorem i64_and255 (n : Int) : bits .and .i64 n 255 = n % 256 := by
  have h255 : (BitVec.ofInt 64 255).toNat = 2 ^ 8 - 1 := by decide
  have key : (BitVec.ofInt 64 n &&& BitVec.ofInt 64 255).toNat = (n % ((2 ^ 64 : Nat) : Int)).toNat % 2 ^ 8 := by
    rw [BitVec.toNat_and, BitVec.toNat_ofInt, h255, Nat.and_two_pow_sub_one_eq_mod]
  show IntKind.i64.wrap ((BitVec.ofInt 64 n &&& BitVec.ofInt 64 255).toNat : Nat) = n % 256
  rw [key, IntKind.wrap_i64]
  omega

theorem and255 (n : Int) : 0 ≤ bits .and .i64 n 255 ∧ bits .and .i64 n 255 ≤ 255 := by
  rw [i64_and255]; omega

set_option maxHeartbeats 1000000 in
theorem byte_draw {w : World} {c : Nat} {a : Option Addr} {len cap : Nat} (h : Cur w c a len cap) :
    Calls Tryz.prog 123 #[.pointer (some ⟨c, 0, none⟩)] w fun e w' => ∃ x : Int, e = .returned (.int .i64 x) ∧ 0 ≤ x ∧ x ≤ 255 ∧ Cur w' c a len cap ∧ Keep c w w' := by
  have hcur : Hid (Cur w c a len cap) := h
  obtain ⟨c0, ⟨i, c1, hi⟩, ⟨hh, c2⟩, f0, f1, f2, lt, hlen, row⟩ := h
  unfold maxLen at hlen
  by_cases hl : i < len
  · obtain ⟨rb, ro, v, ha, hlt, hcell, hv0, hv1⟩ := row i hl
    have hne : rb ≠ c := Nat.ne_of_lt hlt
    subst ha
    have hi0 : (0 : Int) ≤ (i : Int) := by omega
    have hi1 : (i : Int) < (len : Int) := by omega
    clear row
    go_enter Tryz.func123, Tryz.ntmps123
    go_wp2
    go_quiet (fail)
    go_wp2
    go_quiet (fail)
    go_wp2
    go_quiet (fail)
    go_wp2
    go_ret
    refine ⟨_, rfl, (and255 _).1, (and255 _).2, ?_, ?_⟩
    · exact Cur.set1 ((hcur.out.set2 _).drewN _) (i + 1) (by omega) _ (by omega)
    · exact (((Keep.refl c w).setCell (p := ⟨c, 2, none⟩) (Or.inl rfl) _).drewN _).setCell (p := ⟨c, 1, none⟩) (Or.inl rfl) _
  · clear row
    go_enter Tryz.func123, Tryz.ntmps123
    go_wp2
    go_quiet (fail)
    go_wp2
    go_quiet (fail)
    go_wp2
    go_ret
    refine ⟨_, rfl, (and255 _).1, (and255 _).2, ?_, ?_⟩
    · exact ((hcur.out.set2 _).drewN _).drewN _
    · exact ((((Keep.refl c w).setCell (Or.inl rfl) _).drewN _).drewN _)

/-- A number below n, n from 1 to 256. -/
theorem below_draw {w : World} {c : Nat} {a : Option Addr} {len cap : Nat} (h : Cur w c a len cap) (n : Int) (h0 : 0 < n) (h1 : n ≤ 256) :
    Calls Tryz.prog 88 #[.pointer (some ⟨c, 0, none⟩), .int .i64 n] w fun e w' => ∃ x : Int, e = .returned (.int .i64 x) ∧ 0 ≤ x ∧ x < n ∧ Cur w' c a len cap ∧ Keep c w w' := by
  go_enter Tryz.func88, Tryz.ntmps88
  go_wp2_with fail
  refine (byte_draw h).mono ?_
  rintro e w1 ⟨x, rfl, hx0, hx1, hc1, hk1⟩
  go_wp2
  go_ret
  refine ⟨_, rfl, ?_, ?_, hc1, hk1⟩
  · exact Int.emod_nonneg _ (by omega)
  · exact Int.emod_lt_of_pos _ (by omega)

theorem once_draw {w : World} {c : Nat} {a : Option Addr} {len cap : Nat} (h : Cur w c a len cap) (n : Int) (h0 : 0 < n) (h1 : n ≤ 256) :
    Calls Tryz.prog 66 #[.pointer (some ⟨c, 0, none⟩), .int .i64 n] w fun e w' => ∃ b : Bool, e = .returned (.bool b) ∧ Cur w' c a len cap ∧ Keep c w w' := by
  go_enter Tryz.func66, Tryz.ntmps66
  go_wp2_with fail
  refine (below_draw h n h0 h1).mono ?_
  rintro e w1 ⟨x, rfl, hx0, hx1, hc1, hk1⟩
  go_wp2
  go_ret
  exact ⟨_, rfl, hc1, hk1⟩

theorem from_draw {w : World} {c : Nat} {a : Option Addr} {len cap : Nat} (h : Cur w c a len cap) :
    Calls Tryz.prog 90 #[.pointer (some ⟨c, 0, none⟩), .int .i64 (-1), .int .i64 4] w fun e w' => ∃ x : Int, e = .returned (.int .i64 x) ∧ Cur w' c a len cap ∧ Keep c w w' := by
  go_enter Tryz.func90, Tryz.ntmps90
  go_wp2_with fail
  refine (below_draw h 6 (by omega) (by omega)).mono ?_
  rintro e w1 ⟨x, rfl, hx0, hx1, hc1, hk1⟩
  go_wp2
  go_ret
  exact ⟨_, rfl, hc1, hk1⟩

end Go.Proofs.YthgbjnchhaoceaaGreatDoor

/-
  The contracts of the cursor's making and of a drawn cell: whatever is drawn, it is a cell whose text is no longer than a text may be.
-/
namespace Go.Proofs.YthgbjnchhaoceaaGreatDoor
open Go.ChangeShapes Go.WideShapes Go.ChangeAt Go.RowKit

set_option maxHeartbeats 1000000 in
theorem new_draw {w : World} {a : Option Addr} {len cap : Nat} (hlen : len ≤ 4096)
    (row : ∀ j, j < len → ∃ (rb ro : Nat) (v : Int), a = some ⟨rb, ro, none⟩ ∧ rb < w.heap.size ∧ w.cell? ⟨rb, ro + j, none⟩ = some (.int .u8 v) ∧ 0 ≤ v ∧ v ≤ 255) :
    Calls Tryz.prog 35 #[.slice a len cap] w fun e w' => ∃ c : Nat, e = .returned (.pointer (some ⟨c, 0, none⟩)) ∧ w.heap.size ≤ c ∧ Cur w' c a len cap ∧ Below w.heap.size w w' := by
  have R := row
  have hR : Hid (∀ j, j < len → ∃ (rb ro : Nat) (v : Int), a = some ⟨rb, ro, none⟩ ∧ rb < w.heap.size ∧ w.cell? ⟨rb, ro + j, none⟩ = some (.int .u8 v) ∧ 0 ≤ v ∧ v ≤ 255) := R
  clear R row
  go_enter Tryz.func35, Tryz.ntmps35
  go_wp2
  go_loop [3, 4] (fun h i => ∃ (k : Nat) (q : Int), k ≤ len ∧ i = .int .i64 k ∧ h = .int .i64 q) (fun _ i => len - (intOf i).toNat)
  case atStart => exact ⟨0, _, Nat.zero_le _, rfl, rfl⟩
  case round =>
    obtain ⟨k, q, hk, rfl, rfl⟩ := hrel
    by_cases hlt : k < len
    · obtain ⟨rb, ro, v, ha, hrb, hcell, hv0, hv1⟩ := hR.out k hlt
      subst ha
      have hi0 : (0 : Int) ≤ (k : Int) := by omega
      have hi1 : (k : Int) < (len : Int) := by omega
      go_wp2
      go_round
      case rel => exact ⟨k + 1, _, by omega, by go_num, rfl⟩
      case measure => simp [intOf]; omega
    · go_wp2
      go_ret
      refine ⟨_, rfl, Nat.le_refl _, ⟨?_, ⟨0, ?_, Nat.zero_le _⟩, ⟨q, ?_⟩, ?_, ?_, ?_, ?_, ?_, ?_⟩, by go_grown⟩
      · simp [go_sem]
      · simp [go_sem]
      · simp [go_sem]
      · simp [go_sem]
      · simp [go_sem]
      · simp [go_sem]
      · simp
      · unfold maxLen; omega
      · intro j hj
        obtain ⟨rb, ro, v, ha, hrb, hcell, hv⟩ := hR.out j hj
        exact ⟨rb, ro, v, ha, hrb, by rw [World.cell?_alloc_lt _ _ _ hrb]; exact hcell, hv⟩

end Go.Proofs.YthgbjnchhaoceaaGreatDoor

/-
  The contract of a drawn cell.
-/
namespace Go.Proofs.YthgbjnchhaoceaaGreatDoor
open Go.ChangeShapes Go.WideShapes Go.ChangeAt Go.RowKit

/-- A cell handed back by a draw. -/
def DrawnCell (c : Nat) (a : Option Addr) (len cap : Nat) (w : World) (e : Ending) (w' : World) : Prop :=
  ∃ (k n : Int) (t : ByteArray), e = .returned (.agg #[.int .i64 k, .int .i64 n, .string t]) ∧ t.size ≤ maxLen ∧ Cur w' c a len cap ∧ Keep c w w'

theorem keep4 {c : Nat} {w1 w2 : World} {v0 v1 v2 v3 : Value} {T : TypeId} (hk : Keep c (w1.alloc (.cells #[v0, v1, v2, v3] T)) w2) (hne : w1.heap.size ≠ c) :
    w2.cell? ⟨w1.heap.size, 0, none⟩ = some v0 ∧ w2.cell? ⟨w1.heap.size, 1, none⟩ = some v1 ∧ w2.cell? ⟨w1.heap.size, 2, none⟩ = some v2 ∧ w2.cell? ⟨w1.heap.size, 3, none⟩ = some v3 := by
  refine ⟨?_, ?_, ?_, ?_⟩
  · rw [hk.cell (by simp) hne]; simp [go_sem]
  · rw [hk.cell (by simp) hne]; simp [go_sem]
  · rw [hk.cell (by simp) hne]; simp [go_sem]
  · rw [hk.cell (by simp) hne]; simp [go_sem]

theorem new3 {c : Nat} {w w1 : World} {x y z : Value} {T : TypeId} (hk : Keep c (w.alloc (.cells #[x, y, z] T)) w1) (hne : w.heap.size ≠ c) :
    (w1.cell? ⟨w.heap.size, 0, none⟩ = some x ∧ w1.cell? ⟨w.heap.size, 1, none⟩ = some y ∧ w1.cell? ⟨w.heap.size, 2, none⟩ = some z ∧ w.heap.size < w1.heap.size) ∧
    (w1.frozen? ⟨w.heap.size, 0, none⟩ = false ∧ w1.frozen? ⟨w.heap.size, 1, none⟩ = false ∧ w1.frozen? ⟨w.heap.size, 2, none⟩ = false) :=
  ⟨keep3 hk hne ⟨by simp [go_sem], by simp [go_sem], by simp [go_sem], by simp⟩, keepF hk hne (by simp) ⟨by simp [go_sem], by simp [go_sem], by simp [go_sem]⟩⟩

theorem old3 {w : World} {B : Nat} {x y z : Value} (o : Obj) (h : w.cell? ⟨B, 0, none⟩ = some x ∧ w.cell? ⟨B, 1, none⟩ = some y ∧ w.cell? ⟨B, 2, none⟩ = some z ∧ B < w.heap.size) :
    (w.alloc o).cell? ⟨B, 0, none⟩ = some x ∧ (w.alloc o).cell? ⟨B, 1, none⟩ = some y ∧ (w.alloc o).cell? ⟨B, 2, none⟩ = some z ∧ B < (w.alloc o).heap.size :=
  later3 ((Below.refl _ _).alloc (Nat.le_refl _) o) h
theorem oldF {w : World} {B : Nat} (o : Obj) (hB : B < w.heap.size) (h : w.frozen? ⟨B, 0, none⟩ = false ∧ w.frozen? ⟨B, 1, none⟩ = false ∧ w.frozen? ⟨B, 2, none⟩ = false) :
    (w.alloc o).frozen? ⟨B, 0, none⟩ = false ∧ (w.alloc o).frozen? ⟨B, 1, none⟩ = false ∧ (w.alloc o).frozen? ⟨B, 2, none⟩ = false :=
  frozen3 ((Below.refl _ _).alloc (Nat.le_refl _) o) hB h

set_option maxHeartbeats 2000000 in
theorem cell_draw {w : World} {c : Nat} {a : Option Addr} {len cap : Nat} (h : Cur w c a len cap) :
    Calls Tryz.prog 91 #[.pointer (some ⟨c, 0, none⟩)] w fun e w' => DrawnCell c a len cap w e w' := by
  have hcw : c < w.heap.size := h.lt
  have hne : w.heap.size ≠ c := by omega
  have hcur : Hid (Cur w c a len cap) := h
  clear h
  go_enter Tryz.func91, Tryz.ntmps91
  go_wp2_with fail
  refine (below_draw (hcur.out.alloc _) 8 (by omega) (by omega)).mono ?_
  rintro e w1 ⟨x, rfl, hx0, hx1, hc1, hk1⟩
  obtain ⟨⟨p1, q1, r1, s1⟩, ff1⟩ := new3 hk1 hne
  have hkw : Keep c w w1 := ((Keep.refl c w).alloc _).trans hk1
  have hne1 : w1.heap.size ≠ c := by have := hkw.size; omega
  clear hk1
  by_cases x0 : x = 0
  · subst x0
    obtain ⟨f0, f1, f2⟩ := ff1
    go_wp2
    refine bodyPost_ret (v := .agg #[.int .i64 0, .int .i64 0, .string ⟨#[]⟩]) (by simp [results, Tryz.results91, go_sem, p1, q1, r1]) rfl ⟨_, _, _, rfl, by decide, ?_, ?_⟩
    · exact ((hc1.setAbove hcw _).setAbove hcw _).setAbove hcw _
    · exact ((hkw.setCell (p := ⟨_, _, none⟩) (Or.inr (Nat.le_refl _)) _).setCell (p := ⟨_, _, none⟩) (Or.inr (Nat.le_refl _)) _).setCell (p := ⟨_, _, none⟩) (Or.inr (Nat.le_refl _)) _
  by_cases x1 : x = 1
  · subst x1
    go_wp2_with fail
    refine (below_draw (hc1.alloc _) 4 (by omega) (by omega)).mono ?_
    rintro e w2 ⟨y, rfl, hy0, hy1, hc2, hk2⟩
    obtain ⟨g0, g1, g2, g3⟩ := keep4 hk2 hne1
    obtain ⟨p2, q2, r2, s2⟩ := keep3 hk2 hne (old3 _ ⟨p1, q1, r1, s1⟩)
    obtain ⟨f0, f1, f2⟩ := keepF hk2 hne (by simp; omega) (oldF _ s1 ff1)
    have hkv : Keep c w w2 := (hkw.alloc _).trans hk2
    clear hk2 hkw hc1 ff1
    rcases (show y = 0 ∨ y = 1 ∨ y = 2 ∨ y = 3 by omega) with rfl | rfl | rfl | rfl
    · go_wp2
      refine bodyPost_ret (v := .agg #[.int .i64 2, .int .i64 0, .string ⟨#[]⟩]) (by simp [results, Tryz.results91, go_sem, p2, q2, r2]) rfl ⟨_, _, _, rfl, by decide, ?_, ?_⟩
      · exact ((hc2.setAbove hcw _).setAbove hcw _).setAbove hcw _
      · exact ((hkv.setCell (p := ⟨_, _, none⟩) (Or.inr (Nat.le_refl _)) _).setCell (p := ⟨_, _, none⟩) (Or.inr (Nat.le_refl _)) _).setCell (p := ⟨_, _, none⟩) (Or.inr (Nat.le_refl _)) _
    · go_wp2
      refine bodyPost_ret (v := .agg #[.int .i64 2, .int .i64 0, .string ⟨#[97, 98]⟩]) (by simp [results, Tryz.results91, go_sem, p2, q2, r2]) rfl ⟨_, _, _, rfl, by decide, ?_, ?_⟩
      · exact ((hc2.setAbove hcw _).setAbove hcw _).setAbove hcw _
      · exact ((hkv.setCell (p := ⟨_, _, none⟩) (Or.inr (Nat.le_refl _)) _).setCell (p := ⟨_, _, none⟩) (Or.inr (Nat.le_refl _)) _).setCell (p := ⟨_, _, none⟩) (Or.inr (Nat.le_refl _)) _
    · go_wp2
      refine bodyPost_ret (v := .agg #[.int .i64 2, .int .i64 0, .string ⟨#[98]⟩]) (by simp [results, Tryz.results91, go_sem, p2, q2, r2]) rfl ⟨_, _, _, rfl, by decide, ?_, ?_⟩
      · exact ((hc2.setAbove hcw _).setAbove hcw _).setAbove hcw _
      · exact ((hkv.setCell (p := ⟨_, _, none⟩) (Or.inr (Nat.le_refl _)) _).setCell (p := ⟨_, _, none⟩) (Or.inr (Nat.le_refl _)) _).setCell (p := ⟨_, _, none⟩) (Or.inr (Nat.le_refl _)) _
    · go_wp2
      refine bodyPost_ret (v := .agg #[.int .i64 2, .int .i64 0, .string ⟨#[104, 97, 121]⟩]) (by simp [results, Tryz.results91, go_sem, p2, q2, r2]) rfl ⟨_, _, _, rfl, by decide, ?_, ?_⟩
      · exact ((hc2.setAbove hcw _).setAbove hcw _).setAbove hcw _
      · exact ((hkv.setCell (p := ⟨_, _, none⟩) (Or.inr (Nat.le_refl _)) _).setCell (p := ⟨_, _, none⟩) (Or.inr (Nat.le_refl _)) _).setCell (p := ⟨_, _, none⟩) (Or.inr (Nat.le_refl _)) _
  by_cases x2 : x = 2
  · subst x2
    go_wp2_with fail
    refine (below_draw hc1 2 (by omega) (by omega)).mono ?_
    rintro e w2 ⟨y, rfl, hy0, hy1, hc2, hk2⟩
    obtain ⟨p2, q2, r2, s2⟩ := keep3 hk2 hne ⟨p1, q1, r1, s1⟩
    obtain ⟨f0, f1, f2⟩ := keepF hk2 hne s1 ff1
    have hkv : Keep c w w2 := hkw.trans hk2
    clear hk2 hkw hc1 ff1
    go_wp2
    refine bodyPost_ret (v := .agg #[.int .i64 3, .int .i64 y, .string ⟨#[]⟩]) (by simp [results, Tryz.results91, go_sem, p2, q2, r2]) rfl ⟨_, _, _, rfl, by decide, ?_, ?_⟩
    · exact ((hc2.setAbove hcw _).setAbove hcw _).setAbove hcw _
    · exact ((hkv.setCell (p := ⟨_, _, none⟩) (Or.inr (Nat.le_refl _)) _).setCell (p := ⟨_, _, none⟩) (Or.inr (Nat.le_refl _)) _).setCell (p := ⟨_, _, none⟩) (Or.inr (Nat.le_refl _)) _
  by_cases x3 : x = 3
  · subst x3
    go_wp2_with fail
    refine (below_draw (hc1.alloc _) 4 (by omega) (by omega)).mono ?_
    rintro e w2 ⟨y, rfl, hy0, hy1, hc2, hk2⟩
    obtain ⟨g0, g1, g2, g3⟩ := keep4 hk2 hne1
    obtain ⟨p2, q2, r2, s2⟩ := keep3 hk2 hne (old3 _ ⟨p1, q1, r1, s1⟩)
    obtain ⟨f0, f1, f2⟩ := keepF hk2 hne (by simp; omega) (oldF _ s1 ff1)
    have hkv : Keep c w w2 := (hkw.alloc _).trans hk2
    clear hk2 hkw hc1 ff1
    rcases (show y = 0 ∨ y = 1 ∨ y = 2 ∨ y = 3 by omega) with rfl | rfl | rfl | rfl
    · go_wp2
      refine bodyPost_ret (v := .agg #[.int .i64 1, .int .i64 0, .string ⟨#[]⟩]) (by simp [results, Tryz.results91, go_sem, p2, q2, r2]) rfl ⟨_, _, _, rfl, by decide, ?_, ?_⟩
      · exact ((hc2.setAbove hcw _).setAbove hcw _).setAbove hcw _
      · exact ((hkv.setCell (p := ⟨_, _, none⟩) (Or.inr (Nat.le_refl _)) _).setCell (p := ⟨_, _, none⟩) (Or.inr (Nat.le_refl _)) _).setCell (p := ⟨_, _, none⟩) (Or.inr (Nat.le_refl _)) _
    · go_wp2
      refine bodyPost_ret (v := .agg #[.int .i64 1, .int .i64 1000000000, .string ⟨#[]⟩]) (by simp [results, Tryz.results91, go_sem, p2, q2, r2]) rfl ⟨_, _, _, rfl, by decide, ?_, ?_⟩
      · exact ((hc2.setAbove hcw _).setAbove hcw _).setAbove hcw _
      · exact ((hkv.setCell (p := ⟨_, _, none⟩) (Or.inr (Nat.le_refl _)) _).setCell (p := ⟨_, _, none⟩) (Or.inr (Nat.le_refl _)) _).setCell (p := ⟨_, _, none⟩) (Or.inr (Nat.le_refl _)) _
    · go_wp2
      refine bodyPost_ret (v := .agg #[.int .i64 1, .int .i64 (-1000000000), .string ⟨#[]⟩]) (by simp [results, Tryz.results91, go_sem, p2, q2, r2]) rfl ⟨_, _, _, rfl, by decide, ?_, ?_⟩
      · exact ((hc2.setAbove hcw _).setAbove hcw _).setAbove hcw _
      · exact ((hkv.setCell (p := ⟨_, _, none⟩) (Or.inr (Nat.le_refl _)) _).setCell (p := ⟨_, _, none⟩) (Or.inr (Nat.le_refl _)) _).setCell (p := ⟨_, _, none⟩) (Or.inr (Nat.le_refl _)) _
    · go_wp2
      refine bodyPost_ret (v := .agg #[.int .i64 1, .int .i64 40000, .string ⟨#[]⟩]) (by simp [results, Tryz.results91, go_sem, p2, q2, r2]) rfl ⟨_, _, _, rfl, by decide, ?_, ?_⟩
      · exact ((hc2.setAbove hcw _).setAbove hcw _).setAbove hcw _
      · exact ((hkv.setCell (p := ⟨_, _, none⟩) (Or.inr (Nat.le_refl _)) _).setCell (p := ⟨_, _, none⟩) (Or.inr (Nat.le_refl _)) _).setCell (p := ⟨_, _, none⟩) (Or.inr (Nat.le_refl _)) _
  · go_wp2_with fail
    refine (below_draw hc1 12 (by omega) (by omega)).mono ?_
    rintro e w2 ⟨y, rfl, hy0, hy1, hc2, hk2⟩
    obtain ⟨p2, q2, r2, s2⟩ := keep3 hk2 hne ⟨p1, q1, r1, s1⟩
    obtain ⟨f0, f1, f2⟩ := keepF hk2 hne s1 ff1
    have hkv : Keep c w w2 := hkw.trans hk2
    clear hk2 hkw hc1 ff1
    go_wp2
    refine bodyPost_ret (v := .agg #[.int .i64 1, .int .i64 (y - 3), .string ⟨#[]⟩]) (by simp [results, Tryz.results91, go_sem, p2, q2, r2]) rfl ⟨_, _, _, rfl, by decide, ?_, ?_⟩
    · exact ((hc2.setAbove hcw _).setAbove hcw _).setAbove hcw _
    · exact ((hkv.setCell (p := ⟨_, _, none⟩) (Or.inr (Nat.le_refl _)) _).setCell (p := ⟨_, _, none⟩) (Or.inr (Nat.le_refl _)) _).setCell (p := ⟨_, _, none⟩) (Or.inr (Nat.le_refl _)) _

end Go.Proofs.YthgbjnchhaoceaaGreatDoor

/-
  The contract of a drawn cell that may be wrong.
-/
namespace Go.Proofs.YthgbjnchhaoceaaGreatDoor
open Go.ChangeShapes Go.WideShapes Go.ChangeAt Go.RowKit

theorem keepN {c : Nat} {w1 w2 : World} {v0 v1 v2 : Value} {T : TypeId} (hk : Keep c (w1.alloc (.cells #[v0, v1, v2] T)) w2) (hne : w1.heap.size ≠ c) :
    w2.cell? ⟨w1.heap.size, 0, none⟩ = some v0 ∧ w2.cell? ⟨w1.heap.size, 1, none⟩ = some v1 ∧ w2.cell? ⟨w1.heap.size, 2, none⟩ = some v2 := by
  refine ⟨?_, ?_, ?_⟩
  · rw [hk.cell (by simp) hne]; simp [go_sem]
  · rw [hk.cell (by simp) hne]; simp [go_sem]
  · rw [hk.cell (by simp) hne]; simp [go_sem]

set_option maxHeartbeats 4000000 in
theorem any_draw {w : World} {c : Nat} {a : Option Addr} {len cap : Nat} (h : Cur w c a len cap) :
    Calls Tryz.prog 69 #[.pointer (some ⟨c, 0, none⟩)] w fun e w' => DrawnCell c a len cap w e w' := by
  have hcw : c < w.heap.size := h.lt
  have hne : w.heap.size ≠ c := by omega
  have hcur : Hid (Cur w c a len cap) := h
  clear h
  go_enter Tryz.func69, Tryz.ntmps69
  go_wp2_with fail
  refine (cell_draw (hcur.out.alloc _)).mono ?_
  rintro e w1 ⟨k, n, t, rfl, ht, hc1, hk1⟩
  obtain ⟨⟨p1, q1, r1, s1⟩, ff1⟩ := new3 hk1 hne
  have hkw : Keep c w w1 := ((Keep.refl c w).alloc _).trans hk1
  have hwx : w.heap.size ≤ w1.heap.size := hkw.size
  have hcx : c < w1.heap.size := hc1.lt
  have hnx : w1.heap.size ≠ c := by omega
  have hxr : w1.heap.size ≠ w.heap.size := by omega
  have hrx : w.heap.size ≠ w1.heap.size := by omega
  clear hk1
  go_wp2_with fail
  refine (once_draw (hc1.alloc _) 10 (by omega) (by omega)).mono ?_
  rintro e w2 ⟨b, rfl, hc2, hk2⟩
  obtain ⟨⟨x2, y2, z2, t2⟩, fx2⟩ := new3 hk2 hnx
  obtain ⟨p2, q2, r2, s2⟩ := keep3 hk2 hne (old3 _ ⟨p1, q1, r1, s1⟩)
  have ff2 := keepF hk2 hne (by simp; omega) (oldF _ s1 ff1)
  have hkv : Keep c w w2 := (hkw.alloc _).trans hk2
  clear hk2 hkw hc1 ff1 p1 q1 r1 s1
  cases b
  · obtain ⟨f0, f1, f2⟩ := ff2
    go_wp2
    refine bodyPost_ret (v := .agg #[.int .i64 k, .int .i64 n, .string t]) (by simp [results, Tryz.results69, go_sem, p2, q2, r2]) rfl ⟨_, _, _, rfl, ht, ?_, ?_⟩
    · exact (((hc2.setAbove hcw _).setAbove hcw _).setAbove hcw _)
    · exact (((hkv.setCell (p := ⟨_, _, none⟩) (Or.inr (Nat.le_refl _)) _).setCell (p := ⟨_, _, none⟩) (Or.inr (Nat.le_refl _)) _).setCell (p := ⟨_, _, none⟩) (Or.inr (Nat.le_refl _)) _)
  go_wp2_with fail
  refine (below_draw hc2 3 (by omega) (by omega)).mono ?_
  rintro e w3 ⟨y, rfl, hy0, hy1, hc3, hk3⟩
  obtain ⟨x3, y3, z3, t3⟩ := keep3 hk3 hnx ⟨x2, y2, z2, t2⟩
  have fx3 := keepF hk3 hnx t2 fx2
  obtain ⟨p3, q3, r3, s3⟩ := keep3 hk3 hne ⟨p2, q2, r2, s2⟩
  have ff3 := keepF hk3 hne s2 ff2
  have hku : Keep c w w3 := hkv.trans hk3
  have hsz : w1.heap.size < w3.heap.size := t3
  have hn3 : w3.heap.size ≠ c := by omega
  clear hk3 hkv hc2 ff2 fx2 p2 q2 r2 s2 x2 y2 z2 t2
  rcases (show y = 0 ∨ y = 1 ∨ y = 2 by omega) with rfl | rfl | rfl
  · go_wp2_with fail
    refine (from_draw hc3).mono ?_
    rintro e w4 ⟨v, rfl, hc4, hk4⟩
    obtain ⟨x4, y4, z4, t4⟩ := keep3 hk4 hnx ⟨x3, y3, z3, t3⟩
    obtain ⟨e0, e1, e2⟩ := keepF hk4 hnx t3 fx3
    obtain ⟨p4, q4, r4, s4⟩ := keep3 hk4 hne ⟨p3, q3, r3, s3⟩
    obtain ⟨f0, f1, f2⟩ := keepF hk4 hne s3 ff3
    have hkt : Keep c w w4 := hku.trans hk4
    clear hk4
    go_wp2
    refine bodyPost_ret (v := .agg #[.int .i64 v, .int .i64 n, .string t]) (by simp [results, Tryz.results69, go_sem, p4, q4, r4]) rfl ⟨_, _, _, rfl, ht, ?_, ?_⟩
    · exact ((((hc4.setAbove hcx _).setAbove hcw _).setAbove hcw _).setAbove hcw _)
    · exact ((((hkt.setCell (p := ⟨_, _, none⟩) (Or.inr hwx) _).setCell (p := ⟨_, _, none⟩) (Or.inr (Nat.le_refl _)) _).setCell (p := ⟨_, _, none⟩) (Or.inr (Nat.le_refl _)) _).setCell (p := ⟨_, _, none⟩) (Or.inr (Nat.le_refl _)) _)
  · go_wp2_with fail
    refine (below_draw (hc3.alloc _) 4 (by omega) (by omega)).mono ?_
    rintro e w4 ⟨y, rfl, hy0, hy1, hc4, hk4⟩
    obtain ⟨g0, g1, g2, g3⟩ := keep4 hk4 hn3
    obtain ⟨x4, y4, z4, t4⟩ := keep3 hk4 hnx (old3 _ ⟨x3, y3, z3, t3⟩)
    obtain ⟨e0, e1, e2⟩ := keepF hk4 hnx (by simp; omega) (oldF _ t3 fx3)
    obtain ⟨p4, q4, r4, s4⟩ := keep3 hk4 hne (old3 _ ⟨p3, q3, r3, s3⟩)
    obtain ⟨f0, f1, f2⟩ := keepF hk4 hne (by simp; omega) (oldF _ s3 ff3)
    have hkt : Keep c w w4 := (hku.alloc _).trans hk4
    clear hk4
    rcases (show y = 0 ∨ y = 1 ∨ y = 2 ∨ y = 3 by omega) with rfl | rfl | rfl | rfl
    · go_wp2
      refine bodyPost_ret (v := .agg #[.int .i64 k, .int .i64 1000000001, .string t]) (by simp [results, Tryz.results69, go_sem, p4, q4, r4]) rfl ⟨_, _, _, rfl, ht, ?_, ?_⟩
      · exact ((((hc4.setAbove hcx _).setAbove hcw _).setAbove hcw _).setAbove hcw _)
      · exact ((((hkt.setCell (p := ⟨_, _, none⟩) (Or.inr hwx) _).setCell (p := ⟨_, _, none⟩) (Or.inr (Nat.le_refl _)) _).setCell (p := ⟨_, _, none⟩) (Or.inr (Nat.le_refl _)) _).setCell (p := ⟨_, _, none⟩) (Or.inr (Nat.le_refl _)) _)
    · go_wp2
      refine bodyPost_ret (v := .agg #[.int .i64 k, .int .i64 (-1000000001), .string t]) (by simp [results, Tryz.results69, go_sem, p4, q4, r4]) rfl ⟨_, _, _, rfl, ht, ?_, ?_⟩
      · exact ((((hc4.setAbove hcx _).setAbove hcw _).setAbove hcw _).setAbove hcw _)
      · exact ((((hkt.setCell (p := ⟨_, _, none⟩) (Or.inr hwx) _).setCell (p := ⟨_, _, none⟩) (Or.inr (Nat.le_refl _)) _).setCell (p := ⟨_, _, none⟩) (Or.inr (Nat.le_refl _)) _).setCell (p := ⟨_, _, none⟩) (Or.inr (Nat.le_refl _)) _)
    · go_wp2
      refine bodyPost_ret (v := .agg #[.int .i64 k, .int .i64 2, .string t]) (by simp [results, Tryz.results69, go_sem, p4, q4, r4]) rfl ⟨_, _, _, rfl, ht, ?_, ?_⟩
      · exact ((((hc4.setAbove hcx _).setAbove hcw _).setAbove hcw _).setAbove hcw _)
      · exact ((((hkt.setCell (p := ⟨_, _, none⟩) (Or.inr hwx) _).setCell (p := ⟨_, _, none⟩) (Or.inr (Nat.le_refl _)) _).setCell (p := ⟨_, _, none⟩) (Or.inr (Nat.le_refl _)) _).setCell (p := ⟨_, _, none⟩) (Or.inr (Nat.le_refl _)) _)
    · go_wp2
      refine bodyPost_ret (v := .agg #[.int .i64 k, .int .i64 4611686018427387904, .string t]) (by simp [results, Tryz.results69, go_sem, p4, q4, r4]) rfl ⟨_, _, _, rfl, ht, ?_, ?_⟩
      · exact ((((hc4.setAbove hcx _).setAbove hcw _).setAbove hcw _).setAbove hcw _)
      · exact ((((hkt.setCell (p := ⟨_, _, none⟩) (Or.inr hwx) _).setCell (p := ⟨_, _, none⟩) (Or.inr (Nat.le_refl _)) _).setCell (p := ⟨_, _, none⟩) (Or.inr (Nat.le_refl _)) _).setCell (p := ⟨_, _, none⟩) (Or.inr (Nat.le_refl _)) _)
  · go_wp2_with fail
    refine (below_draw (hc3.alloc _) 3 (by omega) (by omega)).mono ?_
    rintro e w4 ⟨y, rfl, hy0, hy1, hc4, hk4⟩
    obtain ⟨g0, g1, g2⟩ := keepN hk4 hn3
    obtain ⟨x4, y4, z4, t4⟩ := keep3 hk4 hnx (old3 _ ⟨x3, y3, z3, t3⟩)
    obtain ⟨e0, e1, e2⟩ := keepF hk4 hnx (by simp; omega) (oldF _ t3 fx3)
    obtain ⟨p4, q4, r4, s4⟩ := keep3 hk4 hne (old3 _ ⟨p3, q3, r3, s3⟩)
    obtain ⟨f0, f1, f2⟩ := keepF hk4 hne (by simp; omega) (oldF _ s3 ff3)
    have hkt : Keep c w w4 := (hku.alloc _).trans hk4
    clear hk4
    rcases (show y = 0 ∨ y = 1 ∨ y = 2 by omega) with rfl | rfl | rfl
    · go_wp2
      refine bodyPost_ret (v := .agg #[.int .i64 k, .int .i64 n, .string ⟨#[65]⟩]) (by simp [results, Tryz.results69, go_sem, p4, q4, r4]) rfl ⟨_, _, _, rfl, by decide, ?_, ?_⟩
      · exact ((((hc4.setAbove hcx _).setAbove hcw _).setAbove hcw _).setAbove hcw _)
      · exact ((((hkt.setCell (p := ⟨_, _, none⟩) (Or.inr hwx) _).setCell (p := ⟨_, _, none⟩) (Or.inr (Nat.le_refl _)) _).setCell (p := ⟨_, _, none⟩) (Or.inr (Nat.le_refl _)) _).setCell (p := ⟨_, _, none⟩) (Or.inr (Nat.le_refl _)) _)
    · go_wp2
      refine bodyPost_ret (v := .agg #[.int .i64 k, .int .i64 n, .string ⟨#[97, 98, 99, 100, 101, 102, 103, 104, 105, 106, 107, 108]⟩]) (by simp [results, Tryz.results69, go_sem, p4, q4, r4]) rfl ⟨_, _, _, rfl, by decide, ?_, ?_⟩
      · exact ((((hc4.setAbove hcx _).setAbove hcw _).setAbove hcw _).setAbove hcw _)
      · exact ((((hkt.setCell (p := ⟨_, _, none⟩) (Or.inr hwx) _).setCell (p := ⟨_, _, none⟩) (Or.inr (Nat.le_refl _)) _).setCell (p := ⟨_, _, none⟩) (Or.inr (Nat.le_refl _)) _).setCell (p := ⟨_, _, none⟩) (Or.inr (Nat.le_refl _)) _)
    · go_wp2
      refine bodyPost_ret (v := .agg #[.int .i64 k, .int .i64 n, .string ⟨#[97, 98, 99, 100, 101, 102, 103, 104, 105, 106, 107, 108, 109]⟩]) (by simp [results, Tryz.results69, go_sem, p4, q4, r4]) rfl ⟨_, _, _, rfl, by decide, ?_, ?_⟩
      · exact ((((hc4.setAbove hcx _).setAbove hcw _).setAbove hcw _).setAbove hcw _)
      · exact ((((hkt.setCell (p := ⟨_, _, none⟩) (Or.inr hwx) _).setCell (p := ⟨_, _, none⟩) (Or.inr (Nat.le_refl _)) _).setCell (p := ⟨_, _, none⟩) (Or.inr (Nat.le_refl _)) _).setCell (p := ⟨_, _, none⟩) (Or.inr (Nat.le_refl _)) _)

end Go.Proofs.YthgbjnchhaoceaaGreatDoor

/-
  The contract of two drawn cells.
-/
namespace Go.Proofs.YthgbjnchhaoceaaGreatDoor
open Go.ChangeShapes Go.WideShapes Go.ChangeAt Go.RowKit

/-- Three cells of a block, and that they may be written. -/
def Has3 (w : World) (B : Nat) (x y z : Value) : Prop :=
  (w.cell? ⟨B, 0, none⟩ = some x ∧ w.cell? ⟨B, 1, none⟩ = some y ∧ w.cell? ⟨B, 2, none⟩ = some z ∧ B < w.heap.size) ∧
  (w.frozen? ⟨B, 0, none⟩ = false ∧ w.frozen? ⟨B, 1, none⟩ = false ∧ w.frozen? ⟨B, 2, none⟩ = false)

theorem Has3.keep {c B : Nat} {w w' : World} {x y z : Value} (h : Has3 w B x y z) (hk : Keep c w w') (hne : B ≠ c) : Has3 w' B x y z :=
  ⟨keep3 hk hne h.1, keepF hk hne h.1.2.2.2 h.2⟩
theorem Has3.alloc {B : Nat} {w : World} {x y z : Value} (h : Has3 w B x y z) (o : Obj) : Has3 (w.alloc o) B x y z := ⟨old3 o h.1, oldF o h.1.2.2.2 h.2⟩
theorem Has3.new (w : World) (x y z : Value) (T : TypeId) : Has3 (w.alloc (.cells #[x, y, z] T)) w.heap.size x y z :=
  ⟨⟨by simp [go_sem], by simp [go_sem], by simp [go_sem], by simp⟩, by simp [go_sem], by simp [go_sem], by simp [go_sem]⟩
theorem Has3.drew {B : Nat} {w : World} {x y z : Value} (h : Has3 w B x y z) : Has3 w.drew B x y z := h
theorem Has3.setFar {B b o : Nat} {w : World} {x y z : Value} (h : Has3 w B x y z) (hne : B ≠ b) (u : Value) : Has3 (w.setCell ⟨b, o, none⟩ u) B x y z := by
  obtain ⟨⟨h0, h1, h2, h3⟩, f0, f1, f2⟩ := h
  have hc : ∀ q, (w.setCell ⟨b, o, none⟩ u).cell? ⟨B, q, none⟩ = w.cell? ⟨B, q, none⟩ := fun q => World.cell?_of_block (w := w) (Below.heap_setCell w _ u B hne)
  exact ⟨⟨by rw [hc]; exact h0, by rw [hc]; exact h1, by rw [hc]; exact h2, by simpa using h3⟩, by rw [World.frozen?_setCell]; exact f0, by rw [World.frozen?_setCell]; exact f1, by rw [World.frozen?_setCell]; exact f2⟩
theorem Has3.setAll {B : Nat} {w : World} {x y z : Value} (h : Has3 w B x y z) (a b c : Value) : Has3 (((w.setCell ⟨B, 0, none⟩ a).setCell ⟨B, 1, none⟩ b).setCell ⟨B, 2, none⟩ c) B a b c := by
  obtain ⟨⟨h0, h1, h2, h3⟩, f0, f1, f2⟩ := h
  refine ⟨⟨?_, ?_, ?_, by simpa using h3⟩, by simp only [World.frozen?_setCell]; exact f0, by simp only [World.frozen?_setCell]; exact f1, by simp only [World.frozen?_setCell]; exact f2⟩
  · rw [World.cell?_setCell_other _ _ _ _ (by simp), World.cell?_setCell_other _ _ _ _ (by simp)]; exact World.cell?_setCell_same _ _ _ h0
  · rw [World.cell?_setCell_other _ _ _ _ (by simp)]; exact World.cell?_setCell_same _ _ _ (by rw [World.cell?_setCell_other _ _ _ _ (by simp)]; exact h1)
  · exact World.cell?_setCell_same _ _ _ (by rw [World.cell?_setCell_other _ _ _ _ (by simp), World.cell?_setCell_other _ _ _ _ (by simp)]; exact h2)

/-- Two cells handed back by a draw. -/
def DrawnTwo (c : Nat) (a : Option Addr) (len cap : Nat) (w : World) (e : Ending) (w' : World) : Prop :=
  ∃ (k1 n1 : Int) (t1 : ByteArray) (k2 n2 : Int) (t2 : ByteArray), e = .returned (.tuple #[.agg #[.int .i64 k1, .int .i64 n1, .string t1], .agg #[.int .i64 k2, .int .i64 n2, .string t2]]) ∧ t1.size ≤ maxLen ∧ t2.size ≤ maxLen ∧ Cur w' c a len cap ∧ Keep c w w'

end Go.Proofs.YthgbjnchhaoceaaGreatDoor

/-
  The contracts of a drawn answer, of two drawn answers and of one drawn cell: of every code that is not too long.
-/
namespace Go.Proofs.YthgbjnchhaoceaaGreatDoor
open Go.ChangeShapes Go.WideShapes Go.ChangeAt Go.RowKit
attribute [local go_sem ↓] Go.wp_at_zero Go.wp_at_succ

theorem keep9 {c : Nat} {w1 w2 : World} {v0 v1 v2 v3 v4 v5 v6 v7 v8 : Value} {T : TypeId} (hk : Keep c (w1.alloc (.cells #[v0, v1, v2, v3, v4, v5, v6, v7, v8] T)) w2) (hne : w1.heap.size ≠ c) :
    (w2.cell? ⟨w1.heap.size, 0, none⟩ = some v0 ∧ w2.cell? ⟨w1.heap.size, 1, none⟩ = some v1 ∧ w2.cell? ⟨w1.heap.size, 2, none⟩ = some v2) ∧
    (w2.cell? ⟨w1.heap.size, 3, none⟩ = some v3 ∧ w2.cell? ⟨w1.heap.size, 4, none⟩ = some v4 ∧ w2.cell? ⟨w1.heap.size, 5, none⟩ = some v5) ∧
    (w2.cell? ⟨w1.heap.size, 6, none⟩ = some v6 ∧ w2.cell? ⟨w1.heap.size, 7, none⟩ = some v7 ∧ w2.cell? ⟨w1.heap.size, 8, none⟩ = some v8) := by
  refine ⟨⟨?_, ?_, ?_⟩, ⟨?_, ?_, ?_⟩, ⟨?_, ?_, ?_⟩⟩
  all_goals (rw [hk.cell (by simp) hne]; simp [go_sem])

end Go.Proofs.YthgbjnchhaoceaaGreatDoor

/-
  Rows of items in memory of one's own: where they lie.
-/
namespace Go.Proofs.YthgbjnchhaoceaaGreatDoor
open Go.ChangeShapes Go.WideShapes Go.ChangeAt Go.RowKit
attribute [local simp] World.cell?_alloc_past World.cell?_alloc_at World.frozen?_alloc_at cell_far cell_off cell_here World.frozen?_alloc_past

theorem infoItm5 : (Tryz.prog.info? 69).map (fun i => (i.zero, i.size, i.bytes)) = some (some (.agg #[.int .i64 0, .int .i64 0, .int .i64 0, .string ⟨#[]⟩, .string ⟨#[]⟩]), 5, 56) := by kernel_rfl
theorem cells5I (w : World) (a b c d e : Value) : ∀ (j : Nat) u, [a, b, c, d, e][j]? = some u → (w.alloc (.cells #[a, b, c, d, e] 69)).cell? ((⟨w.heap.size, 0, none⟩ : Addr).add j) = some u := by
  intro j u hj
  match j, hj with
  | 0, hj => simp at hj; subst hj; simp [Addr.add, go_sem]
  | 1, hj => simp at hj; subst hj; simp [Addr.add, go_sem]
  | 2, hj => simp at hj; subst hj; simp [Addr.add, go_sem]
  | 3, hj => simp at hj; subst hj; simp [Addr.add, go_sem]
  | 4, hj => simp at hj; subst hj; simp [Addr.add, go_sem]
theorem allT_snoc (l : List TT) (k : Nat) (h : k < l.length) : (l.take (k + 1)).all tokB = ((l.take k).all tokB && tokB l[k]) := by
  rw [List.take_succ_eq_append_getElem h, List.all_append]; simp
theorem own_itm {w : World} {base : Nat} {v : Value} {o : List TI} (h : w.ownsRow base 69 5 v o.length (flatItm o)) : ∃ a' c', v = .slice a' o.length c' ∧ ItmAt w a' o := by
  rcases h.2 with ⟨h', h''⟩ | ⟨g, c, cur, h', _⟩
  · subst h'
    have e : o = [] := List.length_eq_zero_iff.1 (by omega)
    subst e
    exact ⟨none, 0, rfl, fun j hj => by simp at hj⟩
  · subst h'
    exact ⟨_, c, rfl, ownItm h⟩
theorem itmAt_nil (w : World) (a : Option Addr) : ItmAt w a [] := fun j hj => by simp at hj
end Go.Proofs.YthgbjnchhaoceaaGreatDoor

/-
  Rows that are drawn: the contracts of the model's draws of a row, and of two rows that are held against each other.
-/
namespace Go.Proofs.YthgbjnchhaoceaaGreatDoor
open Go.ChangeShapes Go.WideShapes Go.ChangeAt Go.RowKit
attribute [local go_sem ↓] Go.wp_at_zero Go.wp_at_succ
attribute [local simp] World.cell?_alloc_past World.cell?_alloc_at World.frozen?_alloc_at cell_far cell_off cell_here World.frozen?_alloc_past

theorem Cur.far {w w' : World} {c B : Nat} {a : Option Addr} {len cap : Nat} (h : Cur w c a len cap) (hb : Below B w w') (hB : c < B) : Cur w' c a len cap := by
  refine ⟨?_, ?_, ?_, ?_, ?_, ?_, Nat.lt_of_lt_of_le h.lt hb.size, h.hlen, ?_⟩
  · rw [hb.cell (p := ⟨c, 0, none⟩) hB]; exact h.c0
  · rw [hb.cell (p := ⟨c, 1, none⟩) hB]; exact h.c1
  · rw [hb.cell (p := ⟨c, 2, none⟩) hB]; exact h.c2
  · rw [hb.frozen (p := ⟨c, 0, none⟩) hB]; exact h.f0
  · rw [hb.frozen (p := ⟨c, 1, none⟩) hB]; exact h.f1
  · rw [hb.frozen (p := ⟨c, 2, none⟩) hB]; exact h.f2
  · intro j hj
    obtain ⟨rb, ro, v, ha, hrb, hc, hv⟩ := h.row j hj
    exact ⟨rb, ro, v, ha, hrb, by rw [hb.cell (p := ⟨rb, _, none⟩) (by show rb < B; omega)]; exact hc, hv⟩
theorem Keep.far {c B : Nat} {w w1 w2 : World} (h : Keep c w w1) (hb : Below B w1 w2) (hB : w.heap.size ≤ B) : Keep c w w2 :=
  ⟨hb.os.trans h.os, hb.tape.trans h.tape, hb.output.trans h.output, Nat.le_trans h.size hb.size, fun k hk hc => (hb.block k (by omega)).trans (h.block k hk hc)⟩
theorem own_keep {w w' : World} {c base : Nat} {e : TypeId} {size n : Nat} {v : Value} {xs : List Value} (h : w.ownsRow base e size v n xs) (hk : Keep c w w') (hc : c < base) : w'.ownsRow base e size v n xs := by
  refine ⟨h.1, ?_⟩
  rcases h.2 with h' | ⟨g, cap, cur, h', hbg, hg, hr⟩
  · exact .inl h'
  · refine .inr ⟨g, cap, cur, h', hbg, ?_, hr⟩
    have hlt : g < w.heap.size := by
      by_cases hl : g < w.heap.size
      · exact hl
      · rw [Array.getElem?_eq_none (by omega)] at hg; cases hg
    rw [hk.block g hlt (by omega)]; exact hg
theorem Fit.append {l : List CT} {x : CT} (h : Fit l) (hx : x.2.2.size ≤ maxLen) : Fit (l ++ [x]) := by
  intro j hj
  by_cases e : j < l.length
  · rw [List.getElem_append_left e]; exact h j e
  · rw [List.getElem_append_right (by omega)]; simpa using hx

theorem infoCellD : (Tryz.prog.info? 30).map (fun i => (i.zero, i.size, i.bytes)) = some (some (.agg #[.int .i64 0, .int .i64 0, .string ⟨#[]⟩]), 3, 32) := by kernel_rfl

end Go.Proofs.YthgbjnchhaoceaaGreatDoor
