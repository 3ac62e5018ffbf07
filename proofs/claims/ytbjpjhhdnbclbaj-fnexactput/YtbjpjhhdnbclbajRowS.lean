/-
  The contracts of the model's text of a row.
-/
import Derived.Test.YtbjpjhhdnbclbajKeyS
import Derived.Test.YtbjpjhhdnbclbajLists2
namespace Go.Proofs.Ytbjpjhhdnbclbaj
open Go.ChangeShapes Go.WideShapes Go.ChangeAt Go.RowKit
attribute [local go_sem ↓] Go.wp_at_zero Go.wp_at_succ

theorem joinTail_snoc (sep : List UInt8) (r : List (List UInt8)) (x : List UInt8) : Lib.joinTail sep (r ++ [x]) = Lib.joinTail sep r ++ sep ++ x := by simp [Lib.joinTail]
theorem join_snoc (xs : List (List UInt8)) (x sep : List UInt8) (h : xs ≠ []) : Lib.join (xs ++ [x]) sep = Lib.join xs sep ++ sep ++ x := by
  cases xs with
  | nil => exact absurd rfl h
  | cons y r => rw [List.cons_append, Lib.join_cons, Lib.join_cons, joinTail_snoc]; simp
theorem join_len (xs : List (List UInt8)) (h : ∀ x ∈ xs, x.length ≤ 14) : (Lib.join xs [32]).length ≤ 15 * xs.length := by
  have key : ∀ r : List (List UInt8), (∀ x ∈ r, x.length ≤ 14) → (Lib.joinTail [32] r).length ≤ 15 * r.length := by
    intro r
    induction r with
    | nil => intro _; simp [Lib.joinTail]
    | cons y r ih =>
      intro hr
      have h1 := hr y (by simp)
      have h2 := ih (fun x hx => hr x (by simp [hx]))
      have e : Lib.joinTail [32] (y :: r) = 32 :: (y ++ Lib.joinTail [32] r) := by simp [Lib.joinTail]
      rw [e, List.length_cons, List.length_append, List.length_cons]
      omega
  cases xs with
  | nil => simp [Lib.join_nil]
  | cons y r =>
    have h1 := h y (by simp)
    have h2 := key r (fun x hx => h x (by simp [hx]))
    rw [Lib.join_cons, List.length_append, List.length_cons]
    omega
/-- The bytes of texts. -/
def rawT (xs : List ByteArray) : List (List UInt8) := xs.map (·.data.toList)
theorem rawT_snoc (xs : List ByteArray) (x : ByteArray) : rawT (xs ++ [x]) = rawT xs ++ [x.data.toList] := by simp [rawT]
theorem bytes_append (a b : ByteArray) : (a ++ b).data.toList = a.data.toList ++ b.data.toList := by simp
/-- The texts of a slice lie where it says. -/
def TextsAt (w : World) (g : Nat) (xs : List ByteArray) : Prop := ∀ j (h : j < xs.length), w.cell? ⟨g, j, none⟩ = some (.string xs[j]) ∧ g < w.heap.size
theorem texts_own {w : World} {B g c : Nat} {e : TypeId} {xs : List ByteArray} (h : w.ownsRow B e 1 (.slice (some ⟨g, 0, none⟩) xs.length c) xs.length (xs.map Value.string)) : TextsAt w g xs := by
  intro j hj
  have := h.cellAt j (by omega)
  rw [List.getElem?_map, List.getElem?_eq_getElem hj] at this
  exact ⟨this, World.block_lt_of_cell? w _ this⟩

theorem infoStr : (Try.prog.info? 9).map (fun i => (i.zero, i.size, i.bytes)) = some (some (.string ⟨#[]⟩), 1, 16) := by kernel_rfl
theorem all_snoc (l : List CT) (k : Nat) (h : k < l.length) : (l.take (k + 1)).all okC = ((l.take k).all okC && okC l[k]) := by
  rw [List.take_succ_eq_append_getElem h, List.all_append]; simp
/-- The texts of a row's cells. -/
def textsC (l : List CT) : List ByteArray := l.map fun c => ⟨(textC c).toArray⟩
theorem textsC_snoc (l : List CT) (k : Nat) (h : k < l.length) : textsC (l.take (k + 1)) = textsC (l.take k) ++ [⟨(textC l[k]).toArray⟩] := by
  unfold textsC; rw [List.take_succ_eq_append_getElem h, List.map_append]; rfl
theorem rawT_texts (l : List CT) : rawT (textsC l) = l.map textC := by
  unfold rawT textsC; rw [List.map_map]; rfl
theorem rowT_texts {l : List CT} (h : l.all okC = true) : rowT l = ⟨(Lib.join (rawT (textsC l)) [32]).toArray⟩ := by
  unfold rowT; rw [if_pos h, rawT_texts]
theorem texts_14 {l : List CT} (h : l.all okC = true) : ∀ x ∈ textsC l, x.size ≤ 14 := by
  intro x hx
  unfold textsC at hx
  obtain ⟨c, hc, rfl⟩ := List.mem_map.1 hx
  rw [Lib.size_eq, bytes_mk]
  exact l4T_len (List.all_eq_true.1 h c hc)
theorem textsC_length (l : List CT) : (textsC l).length = l.length := by unfold textsC; rw [List.length_map]

set_option maxHeartbeats 1000000 in
theorem cells_spec (a : Option Addr) (cap : Nat) (l : List CT) (w : World) (hrow : RowAt w a l) (hfit : Fit l) (hm : l.length ≤ maxLen) (b : Bool) (hb : l.all okC = b) :
    Calls Try.prog 39 #[.slice a l.length cap] w fun e w' => e = .returned (.bool b) ∧ Below w.heap.size w w' := by
  have HR : Hid (RowAt w a l) := hrow
  have HF : Hid (Fit l) := hfit
  have HB : Hid (l.all okC = b) := hb
  clear hrow hfit hb
  unfold maxLen at hm
  go_enter Try.func39, Try.ntmps39
  go_wp2
  go_loopw [3] (fun kk wr => ∃ k : Nat, k ≤ l.length ∧ kk = .int .i64 k ∧ Hid ((l.take k).all okC = true) ∧ Below w.heap.size w wr) (fun kk _ => l.length - (intOf kk).toNat)
  case atStart => exact ⟨0, Nat.zero_le _, rfl, rfl, Below.refl _ _⟩
  case round =>
    obtain ⟨k, hk, rfl, hall, hbw⟩ := hrel
    by_cases hlt : k < l.length
    · obtain ⟨g, o, rfl, hgw, c0, c1, c2⟩ := HR.out.below hbw k hlt
      have hi0 : (0 : Int) ≤ (k : Int) := by omega
      have hi1 : (k : Int) < (l.length : Int) := by omega
      have hft := HF.out k hlt
      have hsn := all_snoc l k hlt
      rw [hall.out, Bool.true_and] at hsn
      have HS : Hid ((l.take (k + 1)).all okC = okC l[k]) := hsn
      have hno : Hid (okC l[k] = false → b = false) := by
        have : okC l[k] = false → b = false := by
          intro e
          rw [← HB.out, Bool.eq_false_iff]
          intro h
          rw [List.all_eq_true.1 h _ (List.getElem_mem hlt)] at e
          cases e
        exact this
      clear hsn
      obtain ⟨r, hr⟩ : ∃ r, okB l[k].1 l[k].2.1 l[k].2.2 = r := ⟨_, rfl⟩
      have HRR : Hid (okC l[k] = r) := hr
      generalize l[k] = x at c0 c1 c2 hft HS hno hr HRR
      go_wp2_with fail
      refine (ok_specb _ _ _ _ hr _ hft).mono ?_
      rintro e w1 ⟨rfl, hb1⟩
      clear hr c0 c1 c2
      cases r
      · have e := hno.out HRR.out
        subst e
        go_wp2
        go_ret
        exact ⟨rfl, chain hbw hb1⟩
      · go_wp2
        go_roundw
        case rel => exact ⟨k + 1, by omega, by go_num, HS.out.trans HRR.out, chain hbw hb1⟩
        case measure => simp [intOf]; omega
    · have hkl : k = l.length := by omega
      subst hkl
      have hi1 : ¬ (l.length : Int) < (l.length : Int) := by omega
      have e : b = true := by
        have := hall.out
        rw [List.take_length, HB.out] at this
        exact this
      subst e
      go_wp2
      go_ret
      exact ⟨rfl, hbw⟩

end Go.Proofs.Ytbjpjhhdnbclbaj
