/-
  Proved: at every list of items the program's NamesOf answers as its model does, it writes into nothing that it is given, its answer is new memory, behind another call too, and the law's argument reads afterwards as before; the listed variables of the library (the table of powers of ten, two tables of bits, two errors) start as the program's text lays them, to which the card ties them; no other condition.
-/
import Derived.Test.YtfokdblojlmnlamGreatDoorPart9
import Derived.Test.YtfokdblojlmnlamGreatDoorPart10
import Derived.Test.YtfokdblojlmnlamGreatDoorPart11
import Derived.Test.YtfokdblojlmnlamGreatDoorTie
import Derived.Test.YtfokdblojlmnlamGreatDoorCards
import Derived.Lib.SmallJoins
import Derived.SevenTiedAt
namespace Go.Proofs.YtfokdblojlmnlamGreatDoor
open Go.ChangeShapes Go.WideShapes Go.ChangeAt Go.RowKit Go.Joins

theorem AnsStr.form {w : World} {B : Nat} {v : Value} {l : List ByteArray} (h : AnsStr w B v l) : ∃ g c, v = .slice (some ⟨g, 0, none⟩) l.length c := by
  rcases h.1.2 with ⟨h', _⟩ | ⟨g, c, cur, h', _⟩
  · exact absurd h' h.2
  · exact ⟨g, c, h'⟩
theorem own_free1 {w : World} {base g c n : Nat} {e : TypeId} {xs : List Value} (h : w.ownsRow base e 1 (.slice (some ⟨g, 0, none⟩) n c) n xs) : FreeS w (some ⟨g, 0, none⟩) n := by
  intro b o e j _
  simp only [Option.some.injEq, Addr.mk.injEq, and_true] at e
  obtain ⟨rfl, rfl⟩ := e
  rw [Nat.zero_add]; exact h.frozenAt j
theorem free_itm {w : World} {g n : Nat} (h : ∀ j, j < n * 5 → w.frozen? ⟨g, 0 + j, none⟩ = false) : FreeItm w (some ⟨g, 0, none⟩) n := by
  intro b o e j hj
  simp only [Option.some.injEq, Addr.mk.injEq, and_true] at e
  obtain ⟨rfl, rfl⟩ := e
  exact h j hj
theorem in_lt {w : World} {g n b : Nat} {l : List TI} (hn : l.length = n) (h : ItmAt w (some ⟨g, 0, none⟩) l) (hb : inBlk (some ⟨g, 0, none⟩) n b) : b = g ∧ g < w.heap.size := by
  obtain ⟨h0, o, e⟩ := hb
  simp only [Option.some.injEq, Addr.mk.injEq, and_true] at e
  obtain ⟨rfl, rfl⟩ := e
  obtain ⟨g', o', e', hlt, _⟩ := h 0 (by omega)
  simp only [Option.some.injEq, Addr.mk.injEq, and_true] at e'
  obtain ⟨rfl, rfl⟩ := e'
  exact ⟨rfl, hlt⟩
theorem free_itm_below {w w' : World} {g n : Nat} (hg : g < w.heap.size) (h : FreeItm w (some ⟨g, 0, none⟩) n) (hb : Below w.heap.size w w') : FreeItm w' (some ⟨g, 0, none⟩) n := by
  refine h.upd (fun b o q e => ?_)
  simp only [Option.some.injEq, Addr.mk.injEq, and_true] at e
  obtain ⟨rfl, rfl⟩ := e
  exact World.frozen?_of_block (a := ⟨g, q, none⟩) (hb.block g hg)
namespace exNamesOf

theorem own : ownKnob Tryz.prog.godebug = none := by kernel_rfl

theorem eqN (n : Nat) (a b : Option Addr) (ca cb : Nat) (l : List ByteArray) (hn : l.length = n) (w : World) (ha : StrsAt w a l) (hb : StrsAt w b l) (hm : n ≤ maxLen) :
    Calls Tryz.prog 18 #[.slice a n ca, .slice b n cb] w fun e w' => e = .returned (.bool true) ∧ Below w.heap.size w w' := by
  subst hn; exact eqstr_laws a b ca cb l w ha hb hm
theorem markIN (n : Nat) (a : Option Addr) (cap : Nat) (l : List TI) (hn : l.length = n) (r : Nat) (hr : 1 + 5 * n = r) (w : World) (hrow : ItmAt w a l) (hfree : FreeItm w a n) (h1 : r ≤ 1099511627776) :
    Calls Tryz.prog 12 #[.slice a n cap, .int .i64 1] w fun e w' => e = .returned (.int .i64 (r : Int)) ∧ KeepS (inBlk a n) w w' := by
  subst hn hr
  refine (markItm_laws a cap l 1 w hrow hfree (by omega) h1).mono ?_
  rintro e w' ⟨rfl, _, _, h3⟩
  exact ⟨rfl, h3⟩
theorem markSN (n : Nat) (a : Option Addr) (cap : Nat) (l : List ByteArray) (hn : l.length = n) (r : Nat) (hr : 1 + n = r) (w : World) (hrow : StrsAt w a l) (hfree : FreeS w a n) (h1 : r ≤ 1099511627776) :
    Calls Tryz.prog 19 #[.slice a n cap, .int .i64 1] w fun e w' => e = .returned (.int .i64 (r : Int)) ∧ StrsAt w' a (marksS 1 n) ∧ KeepS (inBlk a n) w w' := by
  subst hn hr
  refine (markstr_laws a cap l 1 w hrow hfree (by omega) h1).mono ?_
  rintro e w' ⟨rfl, h1, _, h3⟩
  exact ⟨rfl, h1, h3⟩
theorem heldSN (n : Nat) (a : Option Addr) (cap : Nat) (r : Nat) (hr : 1 + n = r) (w : World) (hrow : StrsAt w a (marksS 1 n)) (h1 : r ≤ 1099511627776) :
    Calls Tryz.prog 20 #[.slice a n cap, .int .i64 1] w fun e w' => e = .returned (.int .i64 (r : Int)) ∧ Below w.heap.size w w' := by
  subst hr; exact heldstr_laws a cap n 1 w hrow (by omega) h1

set_option maxRecDepth 100000 in
set_option maxHeartbeats 4000000 in
theorem walk (a : Option Addr) (cap : Nat) (l : List TI) (n : Nat) (hn : l.length = n) (w : World) (hrow : ItmAt w a l) (hfit : FitItm l) (hm : n ≤ maxLen) (hp : PowAt w) (he : ErrAt w) :
    Calls Tryz.prog 4 #[.slice a n cap] w fun e w' => e = .returned (.bool true) ∧ Below w.heap.size w w' := by
  have HP : Hid (PowAt w) := hp
  have HE : Hid (ErrAt w) := he
  have HK : Hid (ItmAt w a l) := hrow
  have HF : Hid (FitItm l) := hfit
  have HN : Hid (l.length = n) := hn
  obtain ⟨r, hr⟩ : ∃ r : Int, leftOfItm l 1048576 = r := ⟨_, rfl⟩
  have HRR : Hid (leftOfItm l 1048576 = r) := hr
  obtain ⟨L, hL⟩ : ∃ L, namesR l = L := ⟨_, rfl⟩
  have HL : Hid (namesR l = L) := hL
  obtain ⟨N, hNN⟩ : ∃ N, L.length = N := ⟨_, rfl⟩
  have HNN : Hid (L.length = N) := hNN
  have hN40 : N ≤ 1000 := by
    rw [← hNN, ← hL]
    exact namesR_len l
  clear hp he hrow hfit hn hr hL hNN
  by_cases hr0 : r < 0
  · go_enter Tryz.func4, Tryz.ntmps4
    go_wp2_with fail
    refine (szI n a cap l HN.out _ HK.out HF.out hm r HRR.out).mono ?_
    rintro e w1 ⟨rfl, hb1⟩
    go_wp2
    go_ret
    exact ⟨rfl, hb1⟩
  have hle : (l.length : Int) + (weightItm l : Int) ≤ 1048576 := by
    have := HRR.out
    unfold leftOfItm at this
    split at this <;> omega
  have hnm : n ≤ 1048576 := by rw [← HN.out]; omega
  have HFI : Hid (FitI l) := by
    have : FitI l := by
      intro x hx
      have := oneI_le hx
      unfold oneItm at this
      unfold maxLen
      omega
    exact this
  obtain ⟨k1, hk1⟩ : ∃ k1, 1 + 5 * n = k1 := ⟨_, rfl⟩
  have HK1 : Hid (1 + 5 * n = k1) := hk1
  obtain ⟨k2, hk2⟩ : ∃ k2, 1 + N = k2 := ⟨_, rfl⟩
  have HK2 : Hid (1 + N = k2) := hk2
  have hk1m : k1 ≤ 1099511627776 := by omega
  have hk2m : k2 ≤ 1099511627776 := by omega
  have hk10 : ¬ ((k1 : Int) < 0) := by omega
  have hk20 : ¬ ((k2 : Int) < 0) := by omega
  have hNM : N ≤ maxLen := by unfold maxLen; omega
  clear hle hk1 hk2
  go_enter Tryz.func4, Tryz.ntmps4
  go_wp2_with fail
  refine (szI n a cap l HN.out _ HK.out HF.out hm r HRR.out).mono ?_
  rintro e w1 ⟨rfl, hb1⟩
  go_wp2_with fail
  refine (tosI n a cap l HN.out _ (HK.out.below hb1) hnm).mono ?_
  rintro e w2 ⟨g2, rfl, T2, _, _, hb2⟩
  have hx2 := chain hb1 hb2
  go_wp2_with fail
  refine (names_spec _ _ l n HN.out _ T2 HF.out hm).mono ?_
  rintro e w3 ⟨g3, c3, rfl, _, _, S3, hb3⟩
  rw [HL.out] at S3 ⊢
  rw [HNN.out]
  have S3h : Hid (StrsAt w3 (some ⟨g3, 0, none⟩) L) := S3
  have hx3 := chain hx2 hb3
  clear T2 hb2 hb3 hx2 hb1 S3
  go_wp2_with fail
  refine (tosI n a cap l HN.out _ (HK.out.below hx3) hnm).mono ?_
  rintro e w4 ⟨g4, rfl, T4, hg4, F4, hb4⟩
  have hx4 := chain hx3 hb4
  have T4h : Hid (ItmAt w4 (some ⟨g4, 0, none⟩) l) := T4
  have F4h : Hid (FreeItm w4 (some ⟨g4, 0, none⟩) n) := free_itm F4
  have IN4 : Hid (∀ b, inBlk (some ⟨g4, 0, none⟩) n b → b = g4 ∧ g4 < w4.heap.size) := by
    have : ∀ b, inBlk (some ⟨g4, 0, none⟩) n b → b = g4 ∧ g4 < w4.heap.size := fun b hb => in_lt HN.out T4 hb
    exact this
  have hy4 : Below w3.heap.size w3 w4 := hb4
  clear T4 F4 hb4 
  go_wp2_with fail
  refine (names_impl _ _ l n HN.out _ T4h.out HFI.out hm (HP.out.below hx4) (HE.out.below hx4) L HL.out).mono ?_
  rintro e w5 ⟨v5, rfl, A5, hb5⟩
  obtain ⟨g5, c5, rfl⟩ := A5.form
  have O5 : Hid (w5.ownsRow w4.heap.size 9 1 (.slice (some ⟨g5, 0, none⟩) L.length c5) L.length (L.map Value.string)) := A5.1
  rw [HNN.out]
  have hg5 := O5.out.lt g5 rfl
  have hx5 := chain hx4 hb5
  have hy5 := chain hy4 hb5
  have T5 : Hid (ItmAt w5 (some ⟨g4, 0, none⟩) l) := T4h.out.below hb5
  have hs45 := hb5.size
  have F5 : Hid (0 < n → FreeItm w5 (some ⟨g4, 0, none⟩) n) := by
    have : 0 < n → FreeItm w5 (some ⟨g4, 0, none⟩) n := fun h0 => free_itm_below (IN4.out g4 ⟨h0, 0, rfl⟩).2 F4h.out hb5
    exact this
  clear A5 T4h F4h hb5
  go_wp2_with fail
  refine (eqN N _ _ _ _ L HNN.out _ (own_strs O5.out) (S3h.out.below hy5) hNM).mono ?_
  rintro e w6 ⟨rfl, hb6⟩
  have hx6 := chain hx5 hb6
  have hy6 := chain hy5 hb6
  have O6 : Hid (w6.ownsRow w4.heap.size 9 1 (.slice (some ⟨g5, 0, none⟩) L.length c5) L.length (L.map Value.string)) := own_below O5.out hb6
  have T6 : Hid (ItmAt w6 (some ⟨g4, 0, none⟩) l) := T5.out.below hb6
  have F6 : Hid (0 < n → FreeItm w6 (some ⟨g4, 0, none⟩) n) := by
    have : 0 < n → FreeItm w6 (some ⟨g4, 0, none⟩) n := fun h0 => free_itm_below (by have := (IN4.out g4 ⟨h0, 0, rfl⟩).2; omega) (F5.out h0) hb6
    exact this
  have hs56 := hb6.size
  clear O5 T5 F5 hb6 hx5 hy5
  go_wp2_with fail
  refine (tosI n a cap l HN.out _ (HK.out.below hx6) hnm).mono ?_
  rintro e w7 ⟨g7, rfl, T7, _, _, hb7⟩
  have hx7 := chain hx6 hb7
  have hy7 := chain hy6 hb7
  have O7 : Hid (w7.ownsRow w4.heap.size 9 1 (.slice (some ⟨g5, 0, none⟩) L.length c5) L.length (L.map Value.string)) := own_below O6.out hb7
  have T7x : Hid (ItmAt w7 (some ⟨g4, 0, none⟩) l) := T6.out.below hb7
  have T7h : Hid (ItmAt w7 (some ⟨g7, 0, none⟩) l) := T7
  have F7 : Hid (0 < n → FreeItm w7 (some ⟨g4, 0, none⟩) n) := by
    have : 0 < n → FreeItm w7 (some ⟨g4, 0, none⟩) n := fun h0 => free_itm_below (by have := (IN4.out g4 ⟨h0, 0, rfl⟩).2; omega) (F6.out h0) hb7
    exact this
  have hs67 := hb7.size
  clear O6 T6 F6 hb7 hx6 hy6 T7
  go_wp2_with fail
  refine (eqsI n _ _ _ _ l HN.out _ T7x.out T7h.out hm).mono ?_
  rintro e w8 ⟨rfl, hb8⟩
  have hx8 := chain hx7 hb8
  have hy8 := chain hy7 hb8
  have O8 : Hid (w8.ownsRow w4.heap.size 9 1 (.slice (some ⟨g5, 0, none⟩) L.length c5) L.length (L.map Value.string)) := own_below O7.out hb8
  have T8 : Hid (ItmAt w8 (some ⟨g4, 0, none⟩) l) := T7x.out.below hb8
  have F8 : Hid (FreeItm w8 (some ⟨g4, 0, none⟩) n) := by
    have : FreeItm w8 (some ⟨g4, 0, none⟩) n := by
      by_cases h0 : 0 < n
      · exact free_itm_below (by have := (IN4.out g4 ⟨h0, 0, rfl⟩).2; omega) (F7.out h0) hb8
      · intro b o e j hj; omega
    exact this
  have hs78 := hb8.size
  clear O7 T7x T7h F7 hb8 hx7 hy7
  go_wp2_with fail
  refine (markIN n _ _ l HN.out k1 HK1.out _ T8.out F8.out hk1m).mono ?_
  rintro e w9 ⟨rfl, hK9⟩
  have hb9 : Below w3.heap.size w8 w9 := hK9.below (fun k hk => by rw [(IN4.out k hk).1]; exact hg4) (by have := hy4.size; omega)
  have hy9 : Below w3.heap.size w3 w9 := hy8.trans hb9
  have hx9 : Below w.heap.size w w9 := hx8.trans (hb9.mono hx3.size)
  have O9 : Hid (w9.ownsRow w4.heap.size 9 1 (.slice (some ⟨g5, 0, none⟩) L.length c5) L.length (L.map Value.string)) := own_keepS O8.out hK9 (fun b hb => by obtain ⟨rfl, h⟩ := IN4.out b hb; exact h)
  clear O8 T8 F8 hK9 hb9 hx8 hy8
  go_wp2_with fail
  refine (eqN N _ _ _ _ L HNN.out _ (own_strs O9.out) (S3h.out.below hy9) hNM).mono ?_
  rintro e w10 ⟨rfl, hb10⟩
  have hx10 := chain hx9 hb10
  have hy10 := chain hy9 hb10
  have O10 : Hid (w10.ownsRow w4.heap.size 9 1 (.slice (some ⟨g5, 0, none⟩) L.length c5) L.length (L.map Value.string)) := own_below O9.out hb10
  clear O9 hb10 hx9 hy9
  go_wp2_with fail
  refine (markSN N _ _ L HNN.out k2 HK2.out _ (own_strs O10.out) (by have := own_free1 O10.out; rwa [HNN.out] at this) hk2m).mono ?_
  rintro e w11 ⟨rfl, hM11, hK11⟩
  have hb11 : Below w4.heap.size w10 w11 := hK11.below (fun k hk => by
    obtain ⟨_, o, e⟩ := hk
    simp only [Option.some.injEq, Addr.mk.injEq, and_true] at e
    omega) (by have := (O10.out.lt g5 rfl); omega)
  have hy11 : Below w3.heap.size w3 w11 := hy10.trans (hb11.mono hy4.size)
  have hx11 : Below w.heap.size w w11 := hx10.trans (hb11.mono (by have := hy4.size; have := hx3.size; omega))
  have M11 : Hid (StrsAt w11 (some ⟨g5, 0, none⟩) (marksS 1 N)) := hM11
  clear O10 hM11 hK11 hb11 hx10 hy10
  go_wp2_with fail
  refine (heldSN N _ _ k2 HK2.out _ M11.out hk2m).mono ?_
  rintro e w12 ⟨rfl, hb12⟩
  have hx12 := chain hx11 hb12
  have hy12 := chain hy11 hb12
  have M12 : Hid (StrsAt w12 (some ⟨g5, 0, none⟩) (marksS 1 N)) := M11.out.below hb12
  clear M11 hb12 hx11 hy11
  go_wp2_with fail
  refine (tosI n a cap l HN.out _ (HK.out.below hx12) hnm).mono ?_
  rintro e w13 ⟨g13, rfl, T13, _, _, hb13⟩
  have hx13 := chain hx12 hb13
  have hy13 := chain hy12 hb13
  have T13h : Hid (ItmAt w13 (some ⟨g13, 0, none⟩) l) := T13
  have M13 : Hid (StrsAt w13 (some ⟨g5, 0, none⟩) (marksS 1 N)) := M12.out.below hb13
  clear M12 hb13 hx12 hy12 T13
  go_wp2_with fail
  refine (names_impl _ _ l n HN.out _ T13h.out HFI.out hm (HP.out.below hx13) (HE.out.below hx13) L HL.out).mono ?_
  rintro e w14 ⟨v14, rfl, A14, hb14⟩
  obtain ⟨g14, c14, rfl⟩ := A14.form
  have O14 : Hid (w14.ownsRow w13.heap.size 9 1 (.slice (some ⟨g14, 0, none⟩) L.length c14) L.length (L.map Value.string)) := A14.1
  rw [HNN.out]
  have hx14 := chain hx13 hb14
  have hy14 := chain hy13 hb14
  have M14 : Hid (StrsAt w14 (some ⟨g5, 0, none⟩) (marksS 1 N)) := M13.out.below hb14
  clear A14 M13 hb14 hx13 hy13 T13h
  go_wp2_with fail
  refine (eqN N _ _ _ _ L HNN.out _ (own_strs O14.out) (S3h.out.below hy14) hNM).mono ?_
  rintro e w15 ⟨rfl, hb15⟩
  have hx15 := chain hx14 hb15
  have M15 : Hid (StrsAt w15 (some ⟨g5, 0, none⟩) (marksS 1 N)) := M14.out.below hb15
  clear M14 hb15 hx14 hy14 O14
  go_wp2_with fail
  refine (heldSN N _ _ k2 HK2.out _ M15.out hk2m).mono ?_
  rintro e w16 ⟨rfl, hb16⟩
  have hx16 := chain hx15 hb16
  go_wp2
  go_ret
  exact ⟨rfl, hx16⟩

theorem laidOut : laidOutB Tryz.prog = true := by kernel_rfl

theorem var_laid {W : World} (h : laidMetH Tryz.prog Rows.fnExactNamesOfRow.laid W) : PowAt W ∧ ErrAt W := by
  rw [MakeChecks.laidMetH_plain _ _ _ (by kernel_rfl)] at h
  have h2 : laidMet Tryz.prog (("internal/strconv.uint64pow10", Rows.laid_internal_strconv_uint64pow10) :: ("strconv.ErrRange", Rows.laid_strconv_ErrRange) :: ("strconv.ErrSyntax", Rows.laid_strconv_ErrSyntax) :: []) W := laidMet.tail (laidMet.tail h)
  exact ⟨pow_of h2, err_of h2.tail⟩

/-- The door's own heap meets the condition. -/
theorem door_met (os : Os) (args : Array Value) : laidMetH Tryz.prog Rows.fnExactNamesOfRow.laid ((World.doorLaid Tryz.prog 400 os).forCall (fun _ _ => 0) ⟨#[], args, []⟩).memory :=
  laidMetH_of_parts3 (fuel := 8) (laidMet_of_run' 8 (by kernel_rfl) (by kernel_rfl)) (by kernel_rfl) (by kernel_rfl)

set_option maxRecDepth 100000 in
theorem lifted (os : Os) (started : os.Started) (H : Type) (enc : TypeId × Value → H) :
    ReturnsInHanded {} Tryz.checked os 4 .any (fun w args => (Rows.fnExactNamesOfSpec.pre enc Tryz.prog Tryz.f4 [] false w args ∧ laidMetH Tryz.prog Rows.fnExactNamesOfRow.laid w) ∧ sizedMet enc Tryz.prog Tryz.f4 (OpenSpec.ofChange Rows.fnExactNamesOfSpec) false w args)
      (Rows.fnExactNamesOfSpec.post enc Tryz.prog Tryz.f4 false true false false) := by
  refine returnsInHanded_of_change_and (C := Tryz.checked) (X := fun w _ => laidMetH Tryz.prog Rows.fnExactNamesOfRow.laid w) (fun _ _ _ hh h => h.of_heap hh) own started (by kernel_rfl) Tryz.func4
    (ChangeSpec.witness_shaped (enc := enc) (C := Tryz.checked) (os := os) (X := fun w _ => laidMetH Tryz.prog Rows.fnExactNamesOfRow.laid w) false (World.doorLaid Tryz.prog 400 os) #[.slice none 0 0] 8 rfl (World.shaped_of_RefB (by kernel_rfl) (by kernel_rfl)) (by kernel_rfl) (by kernel_rfl) (by kernel_rfl) (door_met os _)) ?_
  intro W base args ds gs before hval0 hW _ _ hL _
  have hval : ∀ (j : Nat) t v, Tryz.f4.params[j]? = some t → args[j]? = some v → Value.okWide Tryz.prog W .any base t v := hval0
  have hW' := hW
  obtain ⟨p, q, hA0, hV, rfl, hfz, hnd⟩ := hW
  have hA : DataW.TrodAll enc Tryz.prog W 0 (fun _ => true) true Tryz.f4.params.toList args.toList ds p := hA0
  rw [Tryz.params4] at hA hval
  obtain ⟨v0, d0, rfl, rfl, h0⟩ := trodAll_one hA
  obtain ⟨rfl, rfl⟩ := trodVars_none hV
  have k0 := h0
  have lt0 : ∀ x ∈ p, x.block < W.heap.size := by obtain ⟨m, hm⟩ := k0; exact DataW.trod_lt m _ _ _ hm
  obtain ⟨a0, n0, c0, rfl⟩ := okWide_slice Tryz.underlying34 (hval 0 34 v0 rfl rfl)
  obtain ⟨m0, hm0⟩ := h0
  obtain ⟨l0, hl0, hK0, hF0, hM0, hN0⟩ := open_itms Tryz.underlying34 Tryz.underlying68 Tryz.underlying44 (by kernel_rfl) rfl rfl rfl rfl rfl rfl (by kernel_rfl) (by kernel_rfl) (by kernel_rfl) (by kernel_rfl) (by kernel_rfl) (by kernel_rfl) Tryz.underlying2 Tryz.underlying9 Tryz.underlying2 Tryz.underlying2 Tryz.underlying9 hm0
  clear hA0 hval0
  obtain ⟨hp, he⟩ := var_laid hL
  refine (walk a0 c0 l0 n0 hl0 W hK0 hF0 hM0 hp he).mono fun e W' ⟨he, bel⟩ => ?_
  subst he
  exact ⟨_, rfl, _, _, _, [], _, [], hW', trodAll_mk1 (shut_bool Tryz.underlying4 _), trodAll_mk1 (Below.trod laidOut (by kernel_rfl) (of_decide_eq_true (by kernel_rfl)) k0 bel lt0), rfl, bel.frame _, fun h => by cases h⟩

theorem over : Rows.fnExactNamesOfRow.holds Tryz.pinned (OpenSpec.ofChange Rows.fnExactNamesOfSpec) :=
  OpenClaim.holds_of_wide 4 Tryz.f4 rfl rfl rfl rfl rfl rfl rfl ⟨rfl, rfl, rfl, rfl, rfl⟩ rfl rfl rfl rfl rfl (by kernel_rfl) Tryz.func4 (by kernel_rfl)
    (of_decide_eq_true (by kernel_rfl)) (by unfold Func.isWrapper; first | (rw [if_pos (by decide +kernel)]; kernel_rfl) | (rw [if_neg (by decide +kernel)]; exact ⟨rfl, rfl⟩))
    (fun os started H enc _ => lifted os started H enc)

end exNamesOf

theorem fnExactNamesOf_card : Rows.FnExactNamesOfCardSaid :=
  Claim7.holds_tied_plain_at .later [] [.data, .data, .data, .sentinel, .sentinel] true Rows.fnExactNamesOfCard.stood.harness true
    exNamesOf.over (fun _ h => by cases h) (by kernel_rfl) (fun _ h => by cases h) fnExactNamesOf_row_tie rfl ⟨rfl, rfl⟩ (by kernel_rfl) rfl
    (fun f fn hf hfn => by
      obtain rfl : f = 4 := Option.some.inj ((show Tryz.prog.funcNamed Rows.fnExactNamesOfRow.func = some 4 by kernel_rfl).symm.trans hf) |>.symm
      obtain rfl : fn = Tryz.f4 := (Option.some.inj (Tryz.func4.symm.trans hfn)).symm
      exact ⟨by kernel_rfl, fun j t ht => by
        rw [Tryz.params4] at ht
        have h3 : t = 34 := by
          rcases j with _ | j
          · simpa using ht.symm
          · simp at ht
        subst h3
        exact (show Tryz.prog.wantsStandIn 34 = false by kernel_rfl)⟩)
    (by kernel_rfl)

end Go.Proofs.YtfokdblojlmnlamGreatDoor
