/-
  A part of the proof: TextI, LikeTok, Law1, TokWalk, Laid.
-/
import Derived.Test.YtgiknjlifocioaaGreatDoorPart8
import Derived.Test.YtgiknjlifocioaaGreatDoorPart10
import Derived.Test.YtgiknjlifocioaaGreatDoorPart6
import Derived.Test.YtgiknjlifocioaaGreatDoorPart3
import Derived.LaidMore
import Derived.Stop.LaidErr
import Derived.Lib.LaidTab
import Derived.Stop.Joined
import Derived.ProofKit
import Derived.LaidLaws

/-
  The contract of the program's text of tokens.
-/
namespace Go.Proofs.YtgiknjlifocioaaGreatDoor
open Go.ChangeShapes Go.WideShapes Go.ChangeAt Go.RowKit
attribute [local go_sem ↓] Go.wp_at_zero Go.wp_at_succ

theorem toksT_no {l : List TT} {k : Nat} (h : k < l.length) (ho : tokB l[k] = false) : toksT l = ⟨#[]⟩ := by
  unfold toksT
  rw [if_neg]
  intro e
  rw [List.all_eq_true.1 e _ (List.getElem_mem h)] at ho
  cases ho
theorem toktext_impl (t : TT) (ht : tokB t = true) (y : ByteArray) (hy : (⟨(tokT t).toArray⟩ : ByteArray) = y) (w : World) (hs : t.2.2.2.2.size ≤ maxLen) (hp : PowAt w) :
    Calls Tryz.prog 17 #[.agg #[.int .i64 t.1, .string t.2.1, .int .i64 t.2.2.1, .int .i64 t.2.2.2.1, .string t.2.2.2.2]] w fun e w' => e = .returned (.string y) ∧ Below w.heap.size w w' := by
  have HP : Hid (PowAt w) := hp
  clear hp
  rcases tokB_kind ht with ⟨s, rfl, hn⟩ | ⟨⟨ck, cn, ct⟩, rfl, hc⟩ | ⟨s, rfl, hs⟩
  · rw [tokT_1] at hy
    obtain rfl : s = y := hy
    unfold zeroC
    dsimp only
    go_enter Tryz.func17, Tryz.ntmps17
    go_wp2
    go_ret
    exact ⟨rfl, by go_grown⟩
  · rw [tokT_2] at hy
    have hy2 : cellT ck cn ct = y := by
      rw [← hy]
      exact bytes_ext (cellT_ok hc)
    have HY : Hid (cellT ck cn ct = y) := hy2
    clear hy hy2
    dsimp only at hs ⊢
    have hA : Below w.heap.size w (w.alloc (.cells #[.int .i64 2, .string ⟨#[]⟩, .int .i64 ck, .int .i64 cn, .string ct] 33)) := (Below.refl _ _).alloc (Nat.le_refl _) _
    go_enter Tryz.func17, Tryz.ntmps17
    go_wp2_with fail
    refine (ctext_implb ck cn ct y HY.out _ hs (HP.out.below hA)).mono ?_
    rintro e w1 ⟨rfl, hb1⟩
    have hx := chain hA hb1
    go_wp2
    go_ret
    exact ⟨rfl, hx⟩
  · rw [tokT_3] at hy
    obtain rfl : s = y := hy
    unfold zeroC
    dsimp only
    go_enter Tryz.func17, Tryz.ntmps17
    go_wp2
    go_ret
    exact ⟨rfl, by go_grown⟩
set_option maxRecDepth 100000 in
set_option maxHeartbeats 2000000 in
theorem textof_impl (a : Option Addr) (cap : Nat) (l : List TT) (w : World) (hrow : TokAt w a l) (hfit : ∀ x ∈ l, x.2.1.size ≤ 1048576 ∧ x.2.2.2.2.size ≤ maxLen) (hm : l.length ≤ 1048576) (hp : PowAt w) (he : ErrAt w) (y : ByteArray) (hy : toksT l = y) :
    Calls Tryz.prog 6 #[.slice a l.length cap] w fun e w' => e = .returned (.string y) ∧ Below w.heap.size w w' := by
  obtain ⟨i0, hti, hz0, hz1, hz2⟩ := info_parts infoStr
  have HR : Hid (TokAt w a l) := hrow
  have HF : Hid (∀ x ∈ l, x.2.1.size ≤ 1048576 ∧ x.2.2.2.2.size ≤ maxLen) := hfit
  have HY : Hid (toksT l = y) := hy
  have HP : Hid (PowAt w) := hp
  have HE : Hid (ErrAt w) := he
  clear hrow hfit hy hp he
  go_enter Tryz.func6, Tryz.ntmps6
  go_wp2_with (at_make; refine wpList_make_own _ rfl _ _ 40 rfl w.heap.size 9 i0 (.string ⟨#[]⟩) 1 Tryz.underlying40 hti hz0 hz1 .i64 .i64 _ l.length rfl rfl rfl (by rw [hz2]; omega) (by unfold maxLen; omega) (Nat.le_refl _) ?_)
  intro w0 hown0 hgrow0
  have hb0 : Below w.heap.size w w0 := (Below.refl _ _).grown hgrow0 (Nat.le_refl _) (by intro k h; cases h)
  have own0 : Hid (w0.ownsRow w.heap.size 9 1 (.slice (some ⟨w.heap.size, 0, none⟩) 0 l.length) (textsK (l.take 0)).length ((textsK (l.take 0)).map Value.string)) := hown0
  clear hown0 hgrow0
  go_wp2
  go_loopw [3, 11] (fun v kk wr => ∃ k : Nat, k ≤ l.length ∧ kk = .int .i64 k ∧ Hid ((l.take k).all tokB = true) ∧ Hid (wr.ownsRow w.heap.size 9 1 v (textsK (l.take k)).length ((textsK (l.take k)).map Value.string)) ∧ Below w.heap.size w wr ∧ v ≠ .slice none 0 0) (fun _ kk _ => l.length - (intOf kk).toNat)
  case atStart => exact ⟨0, Nat.zero_le _, rfl, rfl, own0, hb0, by simp⟩
  case round =>
    obtain ⟨k, hk, rfl, hall, hO, hb, hvn⟩ := hrel
    by_cases hlt : k < l.length
    · obtain ⟨g, o, rfl, hgw, c0, c1, c2, c3, c4⟩ := HR.out.below hb k hlt
      have hi0 : (0 : Int) ≤ (k : Int) := by omega
      have hi1 : (k : Int) < (l.length : Int) := by omega
      obtain ⟨hf1, hf2⟩ := HF.out _ (List.getElem_mem hlt)
      have hsa := allK_snoc l k hlt
      rw [hall.out, Bool.true_and] at hsa
      have HS0 : Hid ((l.take (k + 1)).all tokB = tokB l[k]) := hsa
      obtain ⟨r, hr⟩ : ∃ r, tokB l[k] = r := ⟨_, rfl⟩
      have HRR : Hid (tokB l[k] = r) := hr
      have hno : Hid (tokB l[k] = false → y = ⟨#[]⟩) := by
        have : tokB l[k] = false → y = ⟨#[]⟩ := fun e => by rw [← HY.out]; exact toksT_no hlt e
        exact this
      have hsn := textsK_snoc l k hlt
      have hlen : (textsK (l.take k)).length = k := by rw [textsK_length, List.length_take]; omega
      obtain ⟨z, hz⟩ : ∃ z : ByteArray, (⟨(tokT l[k]).toArray⟩ : ByteArray) = z := ⟨_, rfl⟩
      have hsn2 : r = true → textsK (l.take (k + 1)) = textsK (l.take k) ++ [z] := by
        intro _
        rw [hsn, ← hz]
      have HS : Hid (r = true → textsK (l.take (k + 1)) = textsK (l.take k) ++ [z]) := hsn2
      clear hsn hsn2 hsa
      have hOO := hO.out
      rw [hlen] at hOO
      generalize textsK (l.take k) = xs at HS hOO hlen
      have HZ : Hid ((⟨(tokT l[k]).toArray⟩ : ByteArray) = z) := hz
      clear hz hr
      generalize l[k] = x at c0 c1 c2 c3 c4 hf1 hf2 HZ HS0 HRR hno
      go_wp2_with fail
      refine (tok_impl x _ hf1 hf2 ?hp ?he r HRR.out).mono ?_
      case hp => exact (HP.out.below hb).below ((Below.refl _ _).alloc (Nat.le_refl _) _)
      case he => exact (HE.out.below hb).below ((Below.refl _ _).alloc (Nat.le_refl _) _)
      rintro e w1 ⟨rfl, hb1⟩
      obtain ⟨d0, d1, d2, d3, d4, d5⟩ := box5 hb1
      clear c0 c1 c2 c3 c4
      cases r
      · have e := hno.out HRR.out
        subst e
        clear d0 d1 d2 d3 d4
        go_wp2
        go_ret
        exact ⟨rfl, chain hb (chainA hb1)⟩
      · have hbx := chain hb (chainA hb1)
        go_wp2_with fail
        refine (toktext_impl x HRR.out z HZ.out _ hf2 (HP.out.below hbx)).mono ?_
        rintro e w2 ⟨rfl, hb2⟩
        clear d0 d1 d2 d3 d4
        have O1 := own_below hOO (chain (chainA hb1) hb2)
        have hx := chain hbx hb2
        go_wp2_with (at_builtin; refine wpList_append_own _ rfl _ _ 40 rfl w.heap.size 9 i0 (.string ⟨#[]⟩) 1 16 Tryz.underlying40 hti hz0 hz1 hz2 rfl (by decide) _ _ _ rfl (O1.alloc _) ⟨w2.heap.size, 0, none⟩ 1 1 [.string z] rfl rfl ?c1 ?c2 ?c3 ?c4 ?c5 ?_)
        case c1 =>
          intro j u hj
          match j, hj with
          | 0, hj => simp at hj; subst hj; simp [Addr.add]
        case c2 => intro u hu; simp at hu; subst hu; rfl
        case c3 => unfold maxLen; omega
        case c4 => omega
        case c5 => have := hx.size; simp; omega
        intro v' w3 own2 hgrow hnn
        have hx2 : Below w.heap.size w w3 := by
          refine (hx.alloc hx.size _).grown hgrow (by have := hx.size; simp; omega) ?_
          intro kk hkk
          exact (O1.lt kk hkk).1
        have hvn2 : v' ≠ .slice none 0 0 := by first | exact hnn | exact fun e => hvn (hnn.1 e).1
        have SS : Hid (w3.ownsRow w.heap.size 9 1 v' (textsK (l.take (k + 1))).length ((textsK (l.take (k + 1))).map Value.string)) := by
          have : w3.ownsRow w.heap.size 9 1 v' (textsK (l.take (k + 1))).length ((textsK (l.take (k + 1))).map Value.string) := by
            rw [HS.out (by trivial), List.length_append, hlen, List.map_append]; exact own2
          exact this
        clear own2 hgrow hnn O1 hOO hO
        go_wp2
        go_roundw
        case rel => exact ⟨k + 1, by omega, by go_num, HS0.out.trans HRR.out, SS, hx2, hvn2⟩
        case measure => simp [intOf]; omega
    · have hkl : k = l.length := by omega
      subst hkl
      have hi1 : ¬ (l.length : Int) < (l.length : Int) := by omega
      have hAll : l.all tokB = true := by have := hall.out; rwa [List.take_length] at this
      have hOO := hO.out
      rw [List.take_length] at hOO
      rcases hOO.2 with ⟨h', _⟩ | ⟨g, c, cur, h', hbg, _, hcap, _⟩
      · exact absurd h' hvn
      subst h'
      have hT := texts_own hOO
      have h14 := textsK_14 hAll
      have hl2 := textsK_length l
      have hjl := join_len (rawT (textsK l)) (by
        intro z hz
        unfold rawT at hz
        obtain ⟨u, hu, rfl⟩ := List.mem_map.1 hz
        have := h14 u hu
        rw [Lib.size_eq] at this
        exact this)
      have hrl : (rawT (textsK l)).length = l.length := by unfold rawT; rw [List.length_map, hl2]
      have HY2 : Hid ((⟨(Lib.join (rawT (textsK l)) [32]).toArray⟩ : ByteArray) = y) := by
        have : (⟨(Lib.join (rawT (textsK l)) [32]).toArray⟩ : ByteArray) = y := by rw [← HY.out, toksT_texts hAll]
        exact this
      have HT : Hid (TextsAt wr g (textsK l)) := hT
      by_cases hn0 : (textsK l).length = 0
      · have hl0 : l = [] := List.length_eq_zero_iff.1 (by omega)
        subst hl0
        have e : y = ⟨#[]⟩ := by rw [← HY.out]; rfl
        subst e
        clear hT h14 hl2 hjl hrl hOO hO hn0 hcap HT HY2 hAll
        go_wp2_with fail
        refine (joined_none _ _ _ _).mono ?_
        rintro e w2 ⟨rfl, rfl⟩
        go_wp2
        go_ret
        exact ⟨rfl, hb⟩
      · have hg : g < wr.heap.size := (hT 0 (by omega)).2
        have HJ : Hid ((Lib.join (rawT (textsK l)) [32]).length ≤ 140737488355328) := by
          have : (Lib.join (rawT (textsK l)) [32]).length ≤ 140737488355328 := by omega
          exact this
        have HL : Hid ((textsK l).length ≤ 140737488355328) := by
          have : (textsK l).length ≤ 140737488355328 := by omega
          exact this
        have HC : Hid ((textsK l).length ≤ c) := hcap
        clear hT h14 hl2 hjl hrl hOO hO hn0 hcap
        go_wp2_with fail
        refine (joined_impl g c (textsK l) ⟨#[32]⟩ _ (fun j x hj => ?_) hg HL.out HC.out HJ.out y HY2.out).mono ?_
        · obtain ⟨hlt, rfl⟩ := List.getElem?_eq_some_iff.1 hj
          rw [Nat.zero_add]
          exact (HT.out j hlt).1
        rintro e w2 ⟨rfl, hb2⟩
        go_wp2
        go_ret
        exact ⟨rfl, chain hb hb2⟩

end Go.Proofs.YtgiknjlifocioaaGreatDoor

/-
  The contract of the law's helper that holds lists of tokens against each other: of two that are one it answers true.
-/
namespace Go.Proofs.YtgiknjlifocioaaGreatDoor
open Go.ChangeShapes Go.WideShapes Go.ChangeAt Go.RowKit
attribute [local go_sem ↓] Go.wp_at_zero Go.wp_at_succ
attribute [local simp] World.cell?_alloc_past World.cell?_alloc_at World.frozen?_alloc_at cell_far cell_off cell_here World.frozen?_alloc_past

theorem neqTok_one (k : Int) (s : ByteArray) (a b : Int) (t : ByteArray) (w : World) :
    (binOp .neq 33 (.agg #[.int .i64 k, .string s, .int .i64 a, .int .i64 b, .string t]) (.agg #[.int .i64 k, .string s, .int .i64 a, .int .i64 b, .string t])).run Tryz.prog w = .ok (.bool false) w := by
  go_simp
set_option maxHeartbeats 1000000 in
theorem like_toks (a b : Option Addr) (ca cb : Nat) (l : List TT) (w : World) (ha : TokAt w a l) (hb : TokAt w b l) (hm : l.length ≤ maxLen) :
    Calls Tryz.prog 11 #[.slice a l.length ca, .slice b l.length cb] w fun e w' => e = .returned (.bool true) ∧ Below w.heap.size w w' := by
  have hA : Hid (TokAt w a l) := ha
  have hB : Hid (TokAt w b l) := hb
  clear ha hb
  have hq := neqTok_one
  unfold maxLen at hm
  go_enter Tryz.func11, Tryz.ntmps11
  go_wp2
  go_loopw [5] (fun i wr => ∃ k : Nat, k ≤ l.length ∧ i = .int .i64 k ∧ Below w.heap.size w wr) (fun i _ => l.length - (intOf i).toNat)
  case atStart => exact ⟨0, Nat.zero_le _, rfl, Below.refl _ _⟩
  case round =>
    obtain ⟨k, hk, rfl, hx⟩ := hrel
    by_cases hlt : k < l.length
    · obtain ⟨b1, o1, rfl, hbw, c0, c1, c2, c3, c4⟩ := hA.out.below hx k hlt
      obtain ⟨b2, o2, rfl, hbw2, d0, d1, d2, d3, d4⟩ := hB.out.below hx k hlt
      have hi0 : (0 : Int) ≤ (k : Int) := by omega
      have hi1 : (k : Int) < (l.length : Int) := by omega
      generalize l[k] = x at c0 c1 c2 c3 c4 d0 d1 d2 d3 d4
      go_wp2_with fail
      go_quiet (fail)
      go_wp2
      go_roundw
      case rel => exact ⟨k + 1, by omega, by go_num, belowN hx _⟩
      case measure => simp [intOf]; omega
    · have hnn : ¬ (k : Int) < (l.length : Int) := by omega
      go_wp2
      go_ret
      exact ⟨rfl, hx⟩
end Go.Proofs.YtgiknjlifocioaaGreatDoor

/-
  What every law over a drawn code uses: cells that lie in blocks, from world to world; a code that reads the same later; a cell held against itself.
-/
namespace Go.Proofs.YtgiknjlifocioaaGreatDoor
open Go.ChangeShapes Go.WideShapes Go.ChangeAt Go.RowKit

/-- A cell lies in block B. -/
def C3 (w : World) (B : Nat) (k n : Int) (t : ByteArray) : Prop :=
  w.cell? ⟨B, 0, none⟩ = some (.int .i64 k) ∧ w.cell? ⟨B, 1, none⟩ = some (.int .i64 n) ∧ w.cell? ⟨B, 2, none⟩ = some (.string t) ∧ B < w.heap.size
theorem C3.below {w w' : World} {B : Nat} {k n : Int} {t : ByteArray} (h : C3 w B k n t) (hb : Below w.heap.size w w') : C3 w' B k n t := later3 hb h
theorem C3.step {w w' : World} {B : Nat} {k n : Int} {t : ByteArray} {o : Obj} (h : C3 w B k n t) (hb : Below (w.alloc o).heap.size (w.alloc o) w') : C3 w' B k n t := h.below (chainA hb)
theorem C3.fresh {w w' : World} {k n : Int} {t : ByteArray} {T : TypeId} (hb : Below (w.alloc (.cells #[.int .i64 k, .int .i64 n, .string t] T)).heap.size (w.alloc (.cells #[.int .i64 k, .int .i64 n, .string t] T)) w') : C3 w' w.heap.size k n t := box3 hb

/-- The code that a law is handed, byte by byte. -/
def Code0 (w : World) (a : Option Addr) (len : Nat) : Prop :=
  ∀ j, j < len → ∃ (rb ro : Nat) (v : Int), a = some ⟨rb, ro, none⟩ ∧ rb < w.heap.size ∧ w.cell? ⟨rb, ro + j, none⟩ = some (.int .u8 v) ∧ 0 ≤ v ∧ v ≤ 255
theorem Code0.below {w w' : World} {a : Option Addr} {len : Nat} (h : Code0 w a len) (hb : Below w.heap.size w w') : Code0 w' a len := by
  intro j hj
  obtain ⟨rb, ro, v, ha, hrb, hcell, hv⟩ := h j hj
  exact ⟨rb, ro, v, ha, Nat.lt_of_lt_of_le hrb hb.size, by rw [hb.cell (p := ⟨rb, ro + j, none⟩) hrb]; exact hcell, hv⟩
theorem Code0.alloc {w : World} {a : Option Addr} {len : Nat} (h : Code0 w a len) (o : Obj) : Code0 (w.alloc o) a len := h.below ((Below.refl _ _).alloc (Nat.le_refl _) o)

theorem neq_same (a b : Int) (s : ByteArray) (w : World) :
    (binOp .neq 31 (.agg #[.int .i64 a, .int .i64 b, .string s]) (.agg #[.int .i64 a, .int .i64 b, .string s])).run Tryz.prog w = .ok (.bool false) w := by
  rw [run_neq, sameB_refl]; rfl
theorem eql_same (a b : Int) (s : ByteArray) (w : World) :
    (binOp .eql 31 (.agg #[.int .i64 a, .int .i64 b, .string s]) (.agg #[.int .i64 a, .int .i64 b, .string s])).run Tryz.prog w = .ok (.bool true) w := by
  rw [run_eql, sameB_refl]

theorem big_laws (a : Option Addr) (len cap : Nat) (w : World) :
    Calls Tryz.prog 4 #[.slice a len cap] w fun e w' => e = .returned (.bool (decide (4096 < (len : Int)))) ∧ w = w' := by
  go_enter Tryz.func4, Tryz.ntmps4
  go_wp2
  go_ret
  exact ⟨rfl, rfl⟩

end Go.Proofs.YtgiknjlifocioaaGreatDoor

/-
  The walk of the law FnTokens.
-/
namespace Go.Proofs.YtgiknjlifocioaaGreatDoor
open Go.ChangeShapes Go.WideShapes Go.ChangeAt Go.RowKit
attribute [local go_sem ↓] Go.wp_at_zero Go.wp_at_succ
attribute [local simp] World.cell?_alloc_past World.cell?_alloc_at World.frozen?_alloc_at cell_far cell_off cell_here World.frozen?_alloc_past

namespace tokLaw

theorem likeN (n : Nat) (a b : Option Addr) (ca cb : Nat) (l : List TT) (hn : l.length = n) (w : World) (ha : TokAt w a l) (hb : TokAt w b l) (hl : n ≤ maxLen) :
    Calls Tryz.prog 11 #[.slice a n ca, .slice b n cb] w fun e w' => e = .returned (.bool true) ∧ Below w.heap.size w w' := by
  subst hn; exact like_toks a b ca cb l w ha hb hl
theorem textIN (n : Nat) (a : Option Addr) (cap : Nat) (l : List TT) (hn : l.length = n) (w : World) (hrow : TokAt w a l) (hfit : FewTok l) (hm : n ≤ 1048576) (hp : PowAt w) (he : ErrAt w) (y : ByteArray) (hy : toksT l = y) :
    Calls Tryz.prog 6 #[.slice a n cap] w fun e w' => e = .returned (.string y) ∧ Below w.heap.size w w' := by
  subst hn; exact textof_impl a cap l w hrow hfit.2 hm hp he y hy
theorem FewTok.fit {l : List TT} (h : FewTok l) : FitTok l := fun j hj => by
  have := h.2 _ (List.getElem_mem hj)
  unfold maxLen at this ⊢
  omega
theorem textSN (n : Nat) (a : Option Addr) (cap : Nat) (l : List TT) (hn : l.length = n) (w : World) (hrow : TokAt w a l) (hfit : FewTok l) (hm : n ≤ 1048576) (y : ByteArray) (hy : toksT l = y) :
    Calls Tryz.prog 12 #[.slice a n cap] w fun e w' => e = .returned (.string y) ∧ Below w.heap.size w w' :=
  textof_spec a cap l n hn w hrow (FewTok.fit hfit) hm y hy
theorem ans_form {w : World} {B : Nat} {v : Value} {l : List TT} (h : AnsTok w B v l) : ∃ g c, v = .slice (some ⟨g, 0, none⟩) l.length c := by
  rcases h.1.2 with ⟨h', _⟩ | ⟨g, c, cur, h', _⟩
  · exact absurd h' h.2
  · exact ⟨g, c, h'⟩
theorem tokens_impl (s : ByteArray) (w : World) (hp : PowAt w) (he : ErrAt w) (l : List TT) (b : Bool) (hR : toksR s = (l, b)) (hm : s.size ≤ 1048576) (n : Nat) (hn : l.length = n) :
    Calls Tryz.prog 8 #[.string s] w fun e w' => ∃ a c, e = .returned (.tuple #[.slice a n c, .bool b]) ∧ TokAt w' a l ∧ Below w.heap.size w w' := by
  refine (tokensof_impl s w hp he l b hR hm).mono ?_
  rintro e w' ⟨v, rfl, hA, hb⟩
  obtain ⟨g, c, rfl⟩ := ans_form hA
  subst hn
  exact ⟨_, c, rfl, ownTok hA.1, hb⟩
theorem tokens_spec (s : ByteArray) (w : World) (l : List TT) (b : Bool) (hR : toksR s = (l, b)) (hm : s.size ≤ 1048576) (n : Nat) (hn : l.length = n) :
    Calls Tryz.prog 10 #[.string s] w fun e w' => ∃ a c, e = .returned (.tuple #[.slice a n c, .bool b]) ∧ TokAt w' a l ∧ Below w.heap.size w w' := by
  refine (tokensof_spec s w l b hR hm).mono ?_
  rintro e w' ⟨v, rfl, hA, hb⟩
  obtain ⟨g, c, rfl⟩ := ans_form hA
  subst hn
  exact ⟨_, c, rfl, ownTok hA.1, hb⟩
theorem drawn_form {w : World} {B : Nat} {v : Value} {l : List TT} (h : DrawnTok w B v l) : ∃ a c, v = .slice a l.length c ∧ TokAt w a l := by
  obtain ⟨g, c, e, _, h2⟩ := h
  exact ⟨_, c, e, h2⟩
theorem read_back {l : List TT} {y : ByteArray} (h : l.all tokB = true) (hy : toksT l = y) (hs : y.size ≤ 2000) : toksR y = (l, true) := by
  unfold toksR
  rw [← hy, toksB_text l h (by rw [hy]; exact hs)]
theorem FewTok.text {l : List TT} {y : ByteArray} (h : FewTok l) (hy : toksT l = y) : y.size ≤ 1048576 := by
  subst hy
  unfold toksT
  split
  · rename_i hall
    have hjl := join_len (l.map tokT) (by
      intro z hz
      obtain ⟨u, hu, rfl⟩ := List.mem_map.1 hz
      exact tokT_len (List.all_eq_true.1 hall u hu))
    rw [List.length_map] at hjl
    show (Lib.join (l.map tokT) [32]).length ≤ 1048576
    have := h.1
    omega
  · exact Nat.zero_le _
theorem fits2 {x : TT} (h : tokB x = true) : x.2.1.size ≤ 1048576 ∧ x.2.2.2.2.size ≤ maxLen := by
  have := tokB_fits h
  unfold maxLen
  omega

set_option maxRecDepth 100000 in
set_option maxHeartbeats 8000000 in
theorem walk {w : World} {a : Option Addr} {len cap : Nat} (row : Code0 w a len) (hp : PowAt w) (he : ErrAt w) :
    Calls Tryz.prog 3 #[.slice a len cap] w fun e w' => e = .returned (.bool true) ∧ Below w.heap.size w w' := by
  by_cases hl : 4096 < (len : Int)
  · clear row hp he
    go_enter Tryz.func3, Tryz.ntmps3
    go_wp2_with (go_at_call 4; refine (big_laws _ _ _ _).mono ?_; rintro e w' ⟨rfl, rfl⟩)
    go_ret
    exact ⟨rfl, Below.refl _ _⟩
  have HC : Hid (Code0 w a len) := row
  have HP : Hid (PowAt w) := hp
  have HE : Hid (ErrAt w) := he
  have hbn : ∀ (x : Bool) (wz : World), (binOp .neq 4 (.bool x) (.bool x)).run Tryz.prog wz = .ok (.bool false) wz := fun x wz => by cases x <;> kernel_rfl
  clear row hp he
  go_enter Tryz.func3, Tryz.ntmps3
  go_wp2_with fail
  refine (big_laws _ _ _ _).mono ?_
  rintro e w' ⟨rfl, rfl⟩
  go_wp2_with fail
  refine (textof_draw (by omega) HC.out).mono ?_
  rintro e w1 ⟨v, l, rfl, hfew, hd, hx1⟩
  obtain ⟨al, cl, rfl, hrow⟩ := drawn_form hd
  have R1 : Hid (TokAt w1 al l) := hrow
  have HF : Hid (FewTok l) := hfew
  obtain ⟨n, hn⟩ : ∃ n, l.length = n := ⟨_, rfl⟩
  have HN : Hid (l.length = n) := hn
  have hn100 : n ≤ 100 := by rw [← hn]; exact hfew.1
  obtain ⟨y, hy⟩ : ∃ y, toksT l = y := ⟨_, rfl⟩
  have HY : Hid (toksT l = y) := hy
  have hym : y.size ≤ 1048576 := FewTok.text hfew hy
  rw [hn]
  clear hd hrow hfew hn hy
  go_wp2_with fail
  refine (textIN n al cl l HN.out _ R1.out HF.out (by omega) (HP.out.below hx1) (HE.out.below hx1) y HY.out).mono ?_
  rintro e w2 ⟨rfl, hb2⟩
  have hx2 := chain hx1 hb2
  have R2 : Hid (TokAt w2 al l) := R1.out.below hb2
  clear R1 hb2 hx1
  go_wp2_with fail
  refine (tokensof_draw (by omega) (HC.out.below hx2)).mono ?_
  rintro e w3 ⟨t, rfl, ht, hb3⟩
  have hx3 := chain hx2 hb3
  have R3 : Hid (TokAt w3 al l) := R2.out.below hb3
  clear R2 hb3 hx2
  obtain ⟨X, b, hXR⟩ : ∃ X b, toksR t = (X, b) := ⟨_, _, rfl⟩
  have HXR : Hid (toksR t = (X, b)) := hXR
  have HXall : Hid (X.all tokB = true) := toksR_all hXR
  obtain ⟨m, hm⟩ : ∃ m, X.length = m := ⟨_, rfl⟩
  have HM : Hid (X.length = m) := hm
  have hm3 : m ≤ 3000 := by have := toksR_size hXR; omega
  clear hXR hm
  go_wp2_with fail
  refine (tokens_impl t _ (HP.out.below hx3) (HE.out.below hx3) X b HXR.out (by omega) m HM.out).mono ?_
  rintro e w4 ⟨ax, cx, rfl, hX4, hb4⟩
  have hx4 := chain hx3 hb4
  have R4 : Hid (TokAt w4 al l) := R3.out.below hb4
  have X4 : Hid (TokAt w4 ax X) := hX4
  clear R3 hb4 hx3 hX4
  go_wp2_with fail
  refine (tokenok_draw (by omega) (HC.out.below hx4)).mono ?_
  rintro e w5 ⟨kt, rfl, hk1, hk2, hb5⟩
  have hx5 := chain hx4 hb5
  have R5 : Hid (TokAt w5 al l) := R4.out.below hb5
  have X5 : Hid (TokAt w5 ax X) := X4.out.below hb5
  obtain ⟨kk, ks, ka, kb, kc⟩ := kt
  dsimp only at hk1 hk2 ⊢
  clear R4 X4 hb5 hx4
  go_wp2_with fail
  refine (tokens_spec t _ X b HXR.out (by omega) m HM.out).mono ?_
  rintro e w6 ⟨ay, cy, rfl, hY6, hb6⟩
  obtain ⟨d0, d1, d2, d3, d4, dB⟩ := box5 hb6
  have hx6 := chain hx5 (chainA hb6)
  have R6 : Hid (TokAt w6 al l) := R5.out.below (chainA hb6)
  have X6 : Hid (TokAt w6 ax X) := X5.out.below (chainA hb6)
  have Y6 : Hid (TokAt w6 ay X) := hY6
  obtain ⟨B, hB⟩ : ∃ B, w5.heap.size = B := ⟨_, rfl⟩
  rw [hB] at d0 d1 d2 d3 d4 dB ⊢
  clear R5 X5 hb6 hx5 hY6 hB
  have hyy : (y.toList == y.toList) = true := by simp
  obtain ⟨kq, hkq⟩ : ∃ q, tokB (kk, ks, ka, kb, kc) = q := ⟨_, rfl⟩
  have HKQ : Hid (tokB (kk, ks, ka, kb, kc) = kq) := hkq
  clear hkq
  go_wp2_with fail
  refine wp_region_held_drew (S := (fun w' => w'.cell? ⟨B, 0, none⟩ = some (.int .i64 kk) ∧ w'.cell? ⟨B, 1, none⟩ = some (.string ks) ∧ w'.cell? ⟨B, 2, none⟩ = some (.int .i64 ka) ∧ w'.cell? ⟨B, 3, none⟩ = some (.int .i64 kb) ∧ w'.cell? ⟨B, 4, none⟩ = some (.string kc))) (by kernel_rfl) ?_ (fun hHeld => ?_)
  · (((try dsimp only); (repeat' apply And.intro) <;> first | (go_keep; done) | (simp (disch := first | omega | (simp <;> omega) | fail) [*]; done) | fail))
  refine wpAnyH_take (i := 0) (by simp only [List.getElem?_toArray, List.getElem?_cons_zero]; rfl) (by kernel_rfl) (by kernel_rfl) (by kernel_rfl) (by intro _ _ _ h; exact h) (Or.inl ⟨by rfl, fun w hSw => by (dsimp only at hSw; go_simp; (try with_reducible rfl))⟩) (by assumption) ?_
  simp only [Act.put, List.setIfInBounds_toArray, List.set_cons_zero, List.set_cons_succ]
  refine wpAnyH_take (i := 1) (by simp only [List.getElem?_toArray, List.getElem?_cons_zero, List.getElem?_cons_succ]; rfl) (by kernel_rfl) (by kernel_rfl) (by kernel_rfl) (by intro _ _ _ h; exact h) (Or.inl ⟨by rfl, fun w hSw => by (dsimp only at hSw; go_simp; (try with_reducible rfl))⟩) (by assumption) ?_
  simp only [Act.put, List.setIfInBounds_toArray, List.set_cons_zero, List.set_cons_succ]
  refine wpAnyH_take (i := 2) (by simp only [List.getElem?_toArray, List.getElem?_cons_zero, List.getElem?_cons_succ]; rfl) (by kernel_rfl) (by kernel_rfl) (by kernel_rfl) (by intro _ _ _ h; exact h) (Or.inl ⟨by rfl, fun w hSw => by (dsimp only at hSw; go_simp; (try with_reducible rfl))⟩) (by assumption) ?_
  simp only [Act.put, List.setIfInBounds_toArray, List.set_cons_zero, List.set_cons_succ]
  refine wpAnyH_take (i := 3) (by simp only [List.getElem?_toArray, List.getElem?_cons_zero, List.getElem?_cons_succ]; rfl) (by kernel_rfl) (by kernel_rfl) (by kernel_rfl) (by intro _ _ _ h; exact h) (Or.inl ⟨by rfl, fun w hSw => by (dsimp only at hSw; go_simp; (try with_reducible rfl))⟩) (by assumption) ?_
  simp only [Act.put, List.setIfInBounds_toArray, List.set_cons_zero, List.set_cons_succ]
  refine wpAnyH_take (i := 4) (by simp only [List.getElem?_toArray, List.getElem?_cons_zero, List.getElem?_cons_succ]; rfl) (by kernel_rfl) (by kernel_rfl) (by kernel_rfl) (by intro _ _ _ h; exact h) (Or.inl ⟨by rfl, fun w hSw => by (dsimp only at hSw; go_simp; (try with_reducible rfl))⟩) (by assumption) ?_
  simp only [Act.put, List.setIfInBounds_toArray, List.set_cons_zero, List.set_cons_succ]
  refine wpAnyH_take (i := 5) (by simp only [List.getElem?_toArray, List.getElem?_cons_zero, List.getElem?_cons_succ]; rfl) (by kernel_rfl) (by kernel_rfl) (by kernel_rfl) (by intro _ _ _ h; exact h) (Or.inl ⟨by rfl, fun w hSw => by (dsimp only at hSw; go_simp; (try with_reducible rfl))⟩) (by assumption) ?_
  simp only [Act.put, List.setIfInBounds_toArray, List.set_cons_zero, List.set_cons_succ]
  refine wpAnyH_ready (rs := [6]) (by kernel_rfl) (by simp) ?_
  refine AllReadyH.cons (by simp only [List.getElem?_toArray, List.getElem?_cons_zero, List.getElem?_cons_succ]; rfl) ?_ AllReadyH.nil
  intro K hK
  go_simp
  refine (likeN m ax ay cx cy X HM.out _ (X6.out.below (Below.refl _ _).drew) (Y6.out.below (Below.refl _ _).drew) (by unfold maxLen; omega)).mono ?_
  rintro e w7 ⟨rfl, hb7⟩
  have hb7' := undrew hb7
  obtain ⟨d0, d1, d2, d3, d4, dB⟩ := later5 hb7' ⟨d0, d1, d2, d3, d4, dB⟩
  have hx7 := chain hx6 hb7'
  have R7 : Hid (TokAt w7 al l) := R6.out.below hb7'
  have X7 : Hid (TokAt w7 ax X) := X6.out.below hb7'
  clear R6 X6 hb7 hb7' hx6
  go_wp2_with fail
  refine hK.out _ _ ?_ (fun hHeld => ?_)
  · (((try dsimp only); (repeat' apply And.intro) <;> first | (go_keep; done) | (simp (disch := first | omega | (simp <;> omega) | fail) [*]; done) | fail))
  clear hK K
  try simp only [Act.put, List.setIfInBounds_toArray, List.set_cons_zero, List.set_cons_succ]
  refine wpAnyH_take (i := 7) (by simp only [List.getElem?_toArray, List.getElem?_cons_zero, List.getElem?_cons_succ]; rfl) (by kernel_rfl) (by kernel_rfl) (by kernel_rfl) (by intro _ _ _ h; exact h) (Or.inl ⟨by rfl, fun w hSw => by (dsimp only at hSw; go_simp; (try with_reducible rfl))⟩) (by assumption) ?_
  simp only [Act.put, List.setIfInBounds_toArray, List.set_cons_zero, List.set_cons_succ]
  refine wpAnyH_take (i := 8) (by simp only [List.getElem?_toArray, List.getElem?_cons_zero, List.getElem?_cons_succ]; rfl) (by kernel_rfl) (by kernel_rfl) (by kernel_rfl) (by intro _ _ _ h; exact h) (Or.inl ⟨by rfl, fun w hSw => by (dsimp only at hSw; go_simp; (try with_reducible rfl))⟩) (by assumption) ?_
  simp only [Act.put, List.setIfInBounds_toArray, List.set_cons_zero, List.set_cons_succ]
  refine wpAnyH_take (i := 9) (by simp only [List.getElem?_toArray, List.getElem?_cons_zero, List.getElem?_cons_succ]; rfl) (by kernel_rfl) (by kernel_rfl) (by kernel_rfl) (by intro _ _ _ h; exact h) (Or.inl ⟨by rfl, fun w hSw => by (dsimp only at hSw; go_simp; (try with_reducible rfl))⟩) (by assumption) ?_
  simp only [Act.put, List.setIfInBounds_toArray, List.set_cons_zero, List.set_cons_succ]
  refine wpAnyH_take (i := 10) (by simp only [List.getElem?_toArray, List.getElem?_cons_zero, List.getElem?_cons_succ]; rfl) (by kernel_rfl) (by kernel_rfl) (by kernel_rfl) (by intro _ _ _ h; exact h) (Or.inl ⟨by rfl, fun w hSw => by (dsimp only at hSw; go_simp; (try with_reducible rfl))⟩) (by assumption) ?_
  simp only [Act.put, List.setIfInBounds_toArray, List.set_cons_zero, List.set_cons_succ]
  refine wpAnyH_take (i := 11) (by simp only [List.getElem?_toArray, List.getElem?_cons_zero, List.getElem?_cons_succ]; rfl) (by kernel_rfl) (by kernel_rfl) (by kernel_rfl) (by intro _ _ _ h; exact h) (Or.inl ⟨by rfl, fun w hSw => by (dsimp only at hSw; go_simp; (try with_reducible rfl))⟩) (by assumption) ?_
  simp only [Act.put, List.setIfInBounds_toArray, List.set_cons_zero, List.set_cons_succ]
  refine wpAnyH_ready (rs := [12]) (by kernel_rfl) (by simp) ?_
  refine AllReadyH.cons (by simp only [List.getElem?_toArray, List.getElem?_cons_zero, List.getElem?_cons_succ]; rfl) ?_ AllReadyH.nil
  intro K hK
  go_simp
  refine (textSN n al cl l HN.out _ R7.out HF.out (by omega) y HY.out).mono ?_
  rintro e w8 ⟨rfl, hb8⟩
  have hb8' := hb8
  obtain ⟨d0, d1, d2, d3, d4, dB⟩ := later5 hb8' ⟨d0, d1, d2, d3, d4, dB⟩
  have hx8 := chain hx7 hb8'
  have R8 : Hid (TokAt w8 al l) := R7.out.below hb8'
  have X8 : Hid (TokAt w8 ax X) := X7.out.below hb8'
  clear R7 X7 hb8 hb8' hx7
  go_wp2_with fail
  refine hK.out _ _ ?_ (fun hHeld => ?_)
  · (((try dsimp only); (repeat' apply And.intro) <;> first | (go_keep; done) | (simp (disch := first | omega | (simp <;> omega) | fail) [*]; done) | fail))
  clear hK K
  try simp only [Act.put, List.setIfInBounds_toArray, List.set_cons_zero, List.set_cons_succ]
  refine wpAnyH_take (i := 13) (by simp only [List.getElem?_toArray, List.getElem?_cons_zero, List.getElem?_cons_succ]; rfl) (by kernel_rfl) (by kernel_rfl) (by kernel_rfl) (by intro _ _ _ h; exact h) (Or.inl ⟨by rfl, fun w hSw => by (dsimp only at hSw; go_simp; (try with_reducible rfl))⟩) (by assumption) ?_
  simp only [Act.put, List.setIfInBounds_toArray, List.set_cons_zero, List.set_cons_succ]
  refine wpAnyH_take (i := 14) (by simp only [List.getElem?_toArray, List.getElem?_cons_zero, List.getElem?_cons_succ]; rfl) (by kernel_rfl) (by kernel_rfl) (by kernel_rfl) (by intro _ _ _ h; exact h) (Or.inl ⟨by rfl, fun w hSw => by (dsimp only at hSw; go_simp; (try with_reducible rfl))⟩) (by assumption) ?_
  simp only [Act.put, List.setIfInBounds_toArray, List.set_cons_zero, List.set_cons_succ]
  refine wpAnyH_take (i := 15) (by simp only [List.getElem?_toArray, List.getElem?_cons_zero, List.getElem?_cons_succ]; rfl) (by kernel_rfl) (by kernel_rfl) (by kernel_rfl) (by intro _ _ _ h; exact h) (Or.inl ⟨by rfl, fun w hSw => by (dsimp only at hSw; go_simp; (try with_reducible rfl))⟩) (by assumption) ?_
  simp only [Act.put, List.setIfInBounds_toArray, List.set_cons_zero, List.set_cons_succ]
  refine wpAnyH_take (i := 16) (by simp only [List.getElem?_toArray, List.getElem?_cons_zero, List.getElem?_cons_succ]; rfl) (by kernel_rfl) (by kernel_rfl) (by kernel_rfl) (by intro _ _ _ h; exact h) (Or.inl ⟨by rfl, fun w hSw => by (dsimp only at hSw; go_simp; (try with_reducible rfl))⟩) (by assumption) ?_
  simp only [Act.put, List.setIfInBounds_toArray, List.set_cons_zero, List.set_cons_succ]
  refine wpAnyH_take (i := 18) (by simp only [List.getElem?_toArray, List.getElem?_cons_zero, List.getElem?_cons_succ]; rfl) (by kernel_rfl) (by kernel_rfl) (by kernel_rfl) (by intro _ _ _ h; exact h) (Or.inl ⟨by rfl, fun w hSw => by (dsimp only at hSw; go_simp; (try with_reducible rfl))⟩) (by assumption) ?_
  simp only [Act.put, List.setIfInBounds_toArray, List.set_cons_zero, List.set_cons_succ]
  refine wpAnyH_ready (rs := [17]) (by kernel_rfl) (by simp) ?_
  refine AllReadyH.cons (by simp only [List.getElem?_toArray, List.getElem?_cons_zero, List.getElem?_cons_succ]; rfl) ?_ AllReadyH.nil
  intro K hK
  go_simp
  refine (tok_impl (kk, ks, ka, kb, kc) _ hk1 hk2 (HP.out.below hx8) (HE.out.below hx8) kq HKQ.out).mono ?_
  rintro e w9 ⟨rfl, hb9⟩
  have hb9' := hb9
  obtain ⟨d0, d1, d2, d3, d4, dB⟩ := later5 hb9' ⟨d0, d1, d2, d3, d4, dB⟩
  have hx9 := chain hx8 hb9'
  have R9 : Hid (TokAt w9 al l) := R8.out.below hb9'
  have X9 : Hid (TokAt w9 ax X) := X8.out.below hb9'
  clear R8 X8 hb9 hb9' hx8
  go_wp2_with fail
  refine hK.out _ _ ?_ (fun hHeld => ?_)
  · (((try dsimp only); (repeat' apply And.intro) <;> first | (go_keep; done) | (simp (disch := first | omega | (simp <;> omega) | fail) [*]; done) | fail))
  clear hK K
  try simp only [Act.put, List.setIfInBounds_toArray, List.set_cons_zero, List.set_cons_succ]
  refine wpAnyH_ready (rs := [19]) (by kernel_rfl) (by simp) ?_
  refine AllReadyH.cons (by simp only [List.getElem?_toArray, List.getElem?_cons_zero, List.getElem?_cons_succ]; rfl) ?_ AllReadyH.nil
  intro K hK
  go_simp
  refine (tok_spec (kk, ks, ka, kb, kc) _ (by unfold maxLen; show ks.size ≤ _; omega) hk2 kq HKQ.out).mono ?_
  rintro e w10 ⟨rfl, hb10⟩
  have hb10' := hb10
  obtain ⟨d0, d1, d2, d3, d4, dB⟩ := later5 hb10' ⟨d0, d1, d2, d3, d4, dB⟩
  have hx10 := chain hx9 hb10'
  have R10 : Hid (TokAt w10 al l) := R9.out.below hb10'
  have X10 : Hid (TokAt w10 ax X) := X9.out.below hb10'
  clear R9 X9 hb10 hb10' hx9
  go_wp2_with fail
  refine hK.out _ _ ?_ (fun hHeld => ?_)
  · (((try dsimp only); (repeat' apply And.intro) <;> first | (go_keep; done) | (simp (disch := first | omega | (simp <;> omega) | fail) [*]; done) | fail))
  clear hK K
  try simp only [Act.put, List.setIfInBounds_toArray, List.set_cons_zero, List.set_cons_succ]
  refine wpAnyH_take (i := 20) (by simp only [List.getElem?_toArray, List.getElem?_cons_zero, List.getElem?_cons_succ]; rfl) (by kernel_rfl) (by kernel_rfl) (by kernel_rfl) (by intro _ _ _ h; exact h) (Or.inl ⟨by rfl, fun w hSw => by (dsimp only at hSw; go_simp; (try with_reducible rfl))⟩) (by assumption) ?_
  simp only [Act.put, List.setIfInBounds_toArray, List.set_cons_zero, List.set_cons_succ]
  refine wpAnyH_take (i := 21) (by simp only [List.getElem?_toArray, List.getElem?_cons_zero, List.getElem?_cons_succ]; rfl) (by kernel_rfl) (by kernel_rfl) (by kernel_rfl) (by intro _ _ _ h; exact h) (Or.inl ⟨by rfl, fun w hSw => by (dsimp only at hSw; go_simp; (try with_reducible rfl))⟩) (by assumption) ?_
  simp only [Act.put, List.setIfInBounds_toArray, List.set_cons_zero, List.set_cons_succ]
  refine wpAnyH_done (by kernel_rfl) ?_ _
  clear d0 d1 d2 d3 d4 dB hHeld Y6
  have HXA : Hid (∀ k (h : k < X.length), tokB X[k] = true) := by
    have : ∀ k (h : k < X.length), tokB X[k] = true := fun k h => List.all_eq_true.1 HXall.out _ (List.getElem_mem h)
    exact this
  go_wp2_with fail
  go_loopw [11] (fun i wr => ∃ k : Nat, k ≤ m ∧ i = .int .i64 k ∧ Below w.heap.size w wr ∧ Hid (TokAt wr al l) ∧ Hid (TokAt wr ax X)) (fun i _ => m - (intOf i).toNat)
  case atStart => exact ⟨0, Nat.zero_le _, rfl, hx10, R10, X10⟩
  case round =>
    obtain ⟨k, hkm, rfl, hxr, RR, XX⟩ := hrel
    clear R10 X10 hx10
    by_cases hlt : k < m
    · have hlt' : k < X.length := by rw [HM.out]; exact hlt
      obtain ⟨g, o, rfl, hgw, c0, c1, c2, c3, c4⟩ := XX.out k hlt'
      have hi0 : (0 : Int) ≤ (k : Int) := by omega
      have hi1 : (k : Int) < (m : Int) := by omega
      have htok := HXA.out k hlt'
      have HTK : Hid (tokB X[k] = true) := htok
      obtain ⟨hf1, hf2⟩ := fits2 htok
      clear htok
      generalize X[k] = x at c0 c1 c2 c3 c4 hf1 hf2 HTK
      go_wp2_with fail
      refine (tok_impl x _ hf1 hf2 (HP.out.below hxr) (HE.out.below hxr) true HTK.out).mono ?_
      rintro e w11 ⟨rfl, hb11⟩
      have hx11 := chain hxr hb11
      have R11 : Hid (TokAt w11 al l) := RR.out.below hb11
      have X11 : Hid (TokAt w11 (some ⟨g, o, none⟩) X) := XX.out.below hb11
      clear c0 c1 c2 c3 c4 hb11
      go_wp2
      go_roundw
      case rel => exact ⟨k + 1, by omega, by go_num, hx11, R11, X11⟩
      case measure => simp [intOf]; omega
    · have hi1 : ¬ (k : Int) < (m : Int) := by omega
      clear XX
      go_wp2_with fail
      go_loopw [12] (fun i wz => ∃ j : Nat, j ≤ n ∧ i = .int .i64 j ∧ Hid ((l.take j).all tokB = true) ∧ Below w.heap.size w wz ∧ Hid (TokAt wz al l)) (fun i _ => n - (intOf i).toNat)
      case atStart => exact ⟨0, Nat.zero_le _, rfl, rfl, hxr, RR⟩
      case round =>
        obtain ⟨j, hjn, rfl, hall, hxz, RZ⟩ := hrel
        clear RR hxr
        by_cases hlj : j < n
        · have hlj' : j < l.length := by rw [HN.out]; exact hlj
          have hal := allK_snoc l j hlj'
          rw [hall.out, Bool.true_and] at hal
          have HAL : Hid ((l.take (j + 1)).all tokB = tokB l[j]) := hal
          obtain ⟨q, hq⟩ : ∃ q, tokB l[j] = q := ⟨_, rfl⟩
          have HQ : Hid (tokB l[j] = q) := hq
          have HNo : Hid (q = false → y = ⟨#[]⟩) := by
            have : q = false → y = ⟨#[]⟩ := fun e => by
              rw [← HY.out]
              exact toksT_no hlj' (hq.trans e)
            exact this
          obtain ⟨hf1, hf2⟩ := HF.out.2 _ (List.getElem_mem hlj')
          have hf1' : (l[j]'hlj').2.1.size ≤ maxLen := by unfold maxLen; omega
          obtain ⟨g, o, rfl, hgw, c0, c1, c2, c3, c4⟩ := RZ.out j hlj'
          have hi0 : (0 : Int) ≤ (j : Int) := by omega
          have hi2 : (j : Int) < (n : Int) := by omega
          clear hq hal hf1
          generalize l[j] = x at c0 c1 c2 c3 c4 hf1' hf2 HQ HAL
          go_wp2_with fail
          refine (tok_spec x _ hf1' hf2 q HQ.out).mono ?_
          rintro e w12 ⟨rfl, hb12⟩
          have hx12 := chain hxz hb12
          have R12 : Hid (TokAt w12 (some ⟨g, o, none⟩) l) := RZ.out.below hb12
          clear c0 c1 c2 c3 c4 hb12
          cases q
          · obtain rfl : y = ⟨#[]⟩ := HNo.out rfl
            go_wp2
            go_ret
            exact ⟨rfl, hx12⟩
          · go_wp2
            go_roundw
            case rel => exact ⟨j + 1, by omega, by go_num, HAL.out.trans HQ.out, hx12, R12⟩
            case measure => simp [intOf]; omega
        · have hi2 : ¬ (j : Int) < (n : Int) := by omega
          have hjl : l.take j = l := List.take_of_length_le (by rw [HN.out]; omega)
          have hA := hall.out
          rw [hjl] at hA
          have HA : Hid (l.all tokB = true) := hA
          clear hA hjl hall
          by_cases hlong : (2000 : Int) < (y.size : Int)
          · go_wp2
            go_ret
            exact ⟨rfl, hxz⟩
          have HRB : Hid (toksR y = (l, true)) := read_back HA.out HY.out (by omega)
          go_wp2_with fail
          refine (tokens_impl y _ (HP.out.below hxz) (HE.out.below hxz) l true HRB.out hym n HN.out).mono ?_
          rintro e w13 ⟨az, cz, rfl, hZ13, hb13⟩
          have hx13 := chain hxz hb13
          have R13 : Hid (TokAt w13 al l) := RZ.out.below hb13
          have Z13 : Hid (TokAt w13 az l) := hZ13
          clear hb13 hZ13 RZ hxz
          go_wp2_with fail
          refine (likeN n az al cz cl l HN.out _ Z13.out R13.out (by unfold maxLen; omega)).mono ?_
          rintro e w14 ⟨rfl, hb14⟩
          have hx14 := chain hx13 hb14
          go_wp2
          go_ret
          exact ⟨rfl, hx14⟩

end tokLaw
end Go.Proofs.YtgiknjlifocioaaGreatDoor

/-
  From the row's condition on the listed variables to what the walks ask of them.
-/
namespace Go.Proofs.YtgiknjlifocioaaGreatDoor
open Go.ChangeShapes Go.WideShapes Go.ChangeAt Go.RowKit

theorem gPow : (Tryz.prog.globalNamed "internal/strconv.uint64pow10").bind (fun g => (Tryz.prog.globals[g]?).map (·.type)) = some 126 := by kernel_rfl
theorem pow_data : (Rows.laid_internal_strconv_uint64pow10 : DataW Unit) = Lib.tabData .u64 Lib.pow10Tab := by kernel_rfl
theorem pow_of {W : World} {rest : List (String × DataW Unit)} (h : laidMet Tryz.prog (("internal/strconv.uint64pow10", Rows.laid_internal_strconv_uint64pow10) :: rest) W) : PowAt W := by
  rw [pow_data] at h
  obtain ⟨g, hg, ht⟩ := Option.bind_eq_some_iff.1 gPow
  exact Lib.tabIs_of_head hg ht Tryz.underlying126 Tryz.underlying113 (by kernel_rfl) (by kernel_rfl) h

theorem star_name : "*" ++ "errors.errorString" = "*errors.errorString" := by decide
theorem row_err (u : TypeId) (h : Tryz.prog.typeName? 3 u = some "*errors.errorString") : u = 137 :=
  typeName_ptr_named (nm := "errors.errorString") (by rw [star_name]; kernel_rfl) (by kernel_rfl) (by decide) u (by rw [star_name]; exact h)
theorem gRange : (Tryz.prog.globalNamed "strconv.ErrRange").bind (fun g => (Tryz.prog.globals[g]?).map (·.type)) = some 81 := by kernel_rfl
theorem gSyntax : (Tryz.prog.globalNamed "strconv.ErrSyntax").bind (fun g => (Tryz.prog.globals[g]?).map (·.type)) = some 81 := by kernel_rfl
theorem err_of {W : World} {rest : List (String × DataW Unit)} (h : laidMet Tryz.prog (("strconv.ErrRange", Rows.laid_strconv_ErrRange) :: ("strconv.ErrSyntax", Rows.laid_strconv_ErrSyntax) :: rest) W) : ErrAt W := by
  obtain ⟨g, hg, ht⟩ := Option.bind_eq_some_iff.1 gRange
  obtain ⟨g2, hg2, ht2⟩ := Option.bind_eq_some_iff.1 gSyntax
  have h2 := h.tail
  unfold Rows.laid_strconv_ErrRange at h
  unfold Rows.laid_strconv_ErrSyntax at h2
  obtain ⟨a, s, hv, _⟩ := laid_sentinel h hg ht Tryz.underlying81 row_err Tryz.underlying137 Tryz.underlying139 rfl rfl Tryz.underlying9 (by kernel_rfl) (by kernel_rfl)
  obtain ⟨a2, s2, hv2, _⟩ := laid_sentinel h2 hg2 ht2 Tryz.underlying81 row_err Tryz.underlying137 Tryz.underlying139 rfl rfl Tryz.underlying9 (by kernel_rfl) (by kernel_rfl)
  exact ⟨⟨_, _, hv2⟩, ⟨_, _, hv⟩⟩

end Go.Proofs.YtgiknjlifocioaaGreatDoor
