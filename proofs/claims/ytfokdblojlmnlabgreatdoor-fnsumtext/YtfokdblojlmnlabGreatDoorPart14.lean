/-
  A part of the proof: TokensS, Tok2, TokDraw2, TokDraw3, SumS.
-/
import Derived.Test.YtfokdblojlmnlabGreatDoorPart13
import Derived.Test.YtfokdblojlmnlabGreatDoorPart5
import Derived.Test.YtfokdblojlmnlabGreatDoorPart7
import Derived.Test.YtfokdblojlmnlabGreatDoorPart8

/-
  The contract of the model's TokensOf.
-/
namespace Go.Proofs.YtfokdblojlmnlabGreatDoor
open Go.ChangeShapes Go.WideShapes Go.ChangeAt Go.RowKit
attribute [local go_sem ↓] Go.wp_at_zero Go.wp_at_succ

theorem Rest.one {s : ByteArray} {k : Nat} {out : List TT} (h : Rest s k out) (hk : k < s.size) (h32 : (s[k]'hk).toNat = 32) : Rest s (k + 1) out := by
  unfold Rest at h ⊢
  have e : s.data.toList.drop k = s[k] :: s.data.toList.drop (k + 1) := by rw [List.drop_eq_getElem_cons (by simpa using hk)]; rfl
  rw [h, e, byteIs h32 (by decide)]
  exact congrArg (Option.map (out ++ ·)) (toksL_blank _)
theorem Rest.next {s : ByteArray} {k : Nat} {out : List TT} (h : Rest s k out) (hs : s.size ≤ 2000) (hk : k < s.size) (h32 : ¬ (s[k]'hk).toNat = 32) {t : TT} {r : Nat} (hr : nextR s k = (t, r)) :
    (r = k ∧ toksR s = ([], false)) ∨ (k < r ∧ r ≤ s.size ∧ Rest s r (out ++ [t])) := by
  have e : s.data.toList.drop k = s[k] :: s.data.toList.drop (k + 1) := by rw [List.drop_eq_getElem_cons (by simpa using hk)]; rfl
  have hx := toksL_next s[k] (s.data.toList.drop (k + 1)) (fun e => h32 (by rw [e]; rfl))
  rw [← e] at hx
  unfold Rest at h
  unfold nextR at hr
  cases hn : nextT (s.data.toList.drop k) with
  | none =>
    rw [hn] at hr hx
    injection hr with _ h2
    refine .inl ⟨h2.symm, ?_⟩
    rw [hx] at h
    unfold toksR
    rw [toksB_L hs, h]
    rfl
  | some p =>
    obtain ⟨u, m⟩ := p
    rw [hn] at hr hx
    injection hr with h1 h2
    subst h1 h2
    obtain ⟨_, hm, hml, _⟩ := nextT_ok (by rw [e]; simp) hn
    rw [List.length_drop, ← Lib.size_eq] at hml
    refine .inr ⟨by omega, by omega, ?_⟩
    unfold Rest
    rw [h, hx]
    simp only []
    rw [List.drop_drop, Option.map_map]
    congr 1
    funext x
    simp
set_option maxRecDepth 100000 in
set_option maxHeartbeats 4000000 in
theorem tokensof_spec (s : ByteArray) (w : World) (l : List TT) (b : Bool) (hR : toksR s = (l, b)) (hm : s.size ≤ 1048576) :
    Calls Tryz.prog 30 #[.string s] w fun e w' => ∃ v, e = .returned (.tuple #[v, .bool b]) ∧ AnsTok w' w.heap.size v l ∧ Below w.heap.size w w' := by
  obtain ⟨i0, hti, hz0, hz1, hz2⟩ := info_parts infoTok5
  have own0 : Hid (AnsTok (w.alloc (.cells #[] 56)) w.heap.size (.slice (some ⟨w.heap.size, 0, none⟩) 0 0) []) := ansTok_none w _ (Nat.le_refl _)
  have hb0 : Below w.heap.size w (w.alloc (.cells #[] 56)) := (Below.refl _ _).alloc (Nat.le_refl _) _
  have HR : Hid (toksR s = (l, b)) := hR
  clear hR
  by_cases hs : (2000 : Int) < (s.size : Int)
  · have hf := HR.out
    unfold toksR at hf
    rw [toksB_long (by omega)] at hf
    injection hf with e1 e2
    subst e1 e2
    have hs1 : ¬ (s.size : Int) ≤ 2000 := by omega
    have hs0 : (0 : Int) < (s.size : Int) := by omega
    have hs3 : ((0 : Int) == (s.size : Int)) = false := by simpa using (show ¬ (0 : Int) = (s.size : Int) by omega)
    go_enter Tryz.func30, Tryz.ntmps30
    go_wp2
    go_loopw [4, 5] (fun v kk wr => v = .slice (some ⟨w.heap.size, 0, none⟩) 0 0 ∧ kk = .int .i64 0 ∧ wr = w.alloc (.cells #[] 56)) (fun _ _ _ => 0)
    case atStart => exact ⟨rfl, rfl, rfl⟩
    case round =>
      obtain ⟨rfl, rfl, rfl⟩ := hrel
      go_wp2
      go_ret2
      exact ⟨_, rfl, own0.out, hb0⟩
  have hs2 : s.size ≤ 2000 := by omega
  have hs1 : (s.size : Int) ≤ 2000 := by omega
  clear hs
  go_enter Tryz.func30, Tryz.ntmps30
  go_wp2
  go_loopw [4, 5] (fun v kk wr => ∃ (k : Nat) (out : List TT), k ≤ s.size ∧ kk = .int .i64 k ∧ Hid (Rest s k out) ∧ Hid (AnsTok wr w.heap.size v out) ∧ out.length ≤ k ∧ Below w.heap.size w wr) (fun _ kk _ => s.size - (intOf kk).toNat)
  case atStart => exact ⟨0, [], Nat.zero_le _, rfl, Rest.start s, own0, Nat.le_refl _, hb0⟩
  case round =>
    obtain ⟨k, out, hk, rfl, hRd, hO, hol, hb⟩ := hrel
    by_cases hlt : k < s.size
    · have hi0 : (0 : Int) ≤ (k : Int) := by omega
      have hi1 : (k : Int) < (s.size : Int) := by omega
      obtain ⟨x, hx⟩ : ∃ x, (s[k]'hlt).toNat = x := ⟨_, rfl⟩
      by_cases h32 : x = 32
      · subst h32
        have hRd2 : Hid (Rest s (k + 1) out) := hRd.out.one hlt hx
        go_wp2
        go_roundw
        case rel => exact ⟨k + 1, out, by omega, by go_num, hRd2, hO, by omega, hb⟩
        case measure => simp [intOf]; omega
      have g32 : ((x : Int) == 32) = false := by simpa using (show ¬ (x : Int) = 32 by omega)
      obtain ⟨t, r, hN⟩ : ∃ t r, nextR s k = (t, r) := ⟨_, _, rfl⟩
      have hst := hRd.out.next hs2 hlt (by rw [hx]; exact h32) hN
      have HN : Hid (nextR s k = (t, r)) := hN
      clear hN
      go_wp2_with fail
      refine (next_spec s hs2 k hlt t r HN.out _).mono ?_
      rintro e w2 ⟨rfl, hb2⟩
      have hbx2 := chain hb hb2
      have O1 := own_below hO.out.1 hb2
      have hvn := hO.out.2
      obtain ⟨tk, ts, ck, cn, ct⟩ := t
      dsimp only
      rcases hst with ⟨hrk, hno⟩ | ⟨hkr, hrs, hyes⟩
      · have hf := HR.out
        rw [hno] at hf
        injection hf with e1 e2
        subst e1 e2 hrk
        clear O1 hO hx hno
        have hA : Hid (AnsTok ((w2.alloc (.cells #[.int .i64 tk, .string ts, .int .i64 ck, .int .i64 cn, .string ct] 56)).alloc (.cells #[] 56)) w.heap.size (.slice (some ⟨w2.heap.size + 1, 0, none⟩) 0 0) []) := by
          have := ansTok_none (w2.alloc (.cells #[.int .i64 tk, .string ts, .int .i64 ck, .int .i64 cn, .string ct] 56)) w.heap.size (by have := hbx2.size; simp; omega)
          have e : (w2.alloc (.cells #[.int .i64 tk, .string ts, .int .i64 ck, .int .i64 cn, .string ct] 56)).heap.size = w2.heap.size + 1 := by simp
          rw [e] at this
          exact this
        have hbe : Below w.heap.size w ((w2.alloc (.cells #[.int .i64 tk, .string ts, .int .i64 ck, .int .i64 cn, .string ct] 56)).alloc (.cells #[] 56)) := (hbx2.alloc hbx2.size _).alloc (by have := hbx2.size; simp; omega) _
        go_wp2
        go_ret2
        exact ⟨_, rfl, hA.out, hbe⟩
      · have hrk : ((r : Int) == (k : Int)) = false := by simpa using (show ¬ (r : Int) = (k : Int) by omega)
        have hYes : Hid (Rest s r (out ++ [(tk, ts, ck, cn, ct)])) := hyes
        clear hyes hx
        have O2 := (O1.alloc (.cells #[.int .i64 tk, .string ts, .int .i64 ck, .int .i64 cn, .string ct] 56))
        clear O1 hO
        go_wp2_with (at_builtin; refine wpList_append_own _ rfl _ _ 47 rfl w.heap.size 56 i0 (.agg #[.int .i64 0, .string ⟨#[]⟩, .int .i64 0, .int .i64 0, .string ⟨#[]⟩]) 5 56 Tryz.underlying47 hti hz0 hz1 hz2 rfl (by decide) _ _ _ rfl (O2.alloc _) ⟨w2.heap.size + 1, 0, none⟩ 1 1 [.int .i64 tk, .string ts, .int .i64 ck, .int .i64 cn, .string ct] rfl rfl (cells5 w2 _ _ _ _ _ _ _ _ _ _) ?c2 ?c3 ?c4 ?c5 ?_)
        case c2 => intro u hu; simp at hu; rcases hu with rfl | rfl | rfl | rfl | rfl <;> rfl
        case c3 => unfold maxLen; omega
        case c4 => omega
        case c5 => have := hbx2.size; simp; omega
        intro v' w3 own3 hgrow hnn
        have hx2 : Below w.heap.size w w3 := by
          have hbA := hbx2.alloc hbx2.size (.cells #[.int .i64 tk, .string ts, .int .i64 ck, .int .i64 cn, .string ct] 56)
          refine (hbA.alloc hbA.size _).grown hgrow (by have := hbA.size; simp at this ⊢; omega) ?_
          intro kk hkk
          exact (O2.lt kk hkk).1
        have hvn2 : v' ≠ .slice none 0 0 := by first | exact hnn | exact fun e => hvn (hnn.1 e).1
        have SS : Hid (AnsTok w3 w.heap.size v' (out ++ [(tk, ts, ck, cn, ct)])) := by
          refine ⟨?_, hvn2⟩
          rw [flatTok_snoc, List.length_append]
          exact own3
        clear own3 hgrow hnn O2
        go_wp2
        go_roundw
        case rel => exact ⟨r, _, hrs, rfl, hYes, SS, by rw [List.length_append, List.length_singleton]; omega, hx2⟩
        case measure => simp [intOf]; omega
    · have hkl : k = s.size := by omega
      subst hkl
      have hi1 : ¬ (s.size : Int) < (s.size : Int) := by omega
      have hf := HR.out
      rw [hRd.out.done (Nat.le_refl _) hs2] at hf
      injection hf with e1 e2
      subst e1 e2
      go_wp2
      go_ret2
      exact ⟨_, by simp, hO.out, hb⟩
end Go.Proofs.YtfokdblojlmnlabGreatDoor

/-
  The contracts of the law's helpers that mark the Tokens of a list, one number behind the other, and that look whether the marks are still there.
-/
namespace Go.Proofs.YtfokdblojlmnlabGreatDoor
open Go.ChangeShapes Go.WideShapes Go.ChangeAt Go.RowKit
attribute [local go_sem ↓] Go.wp_at_zero Go.wp_at_succ

/-- The i-th mark from k on. -/
def mark1Tok (k i : Nat) : TT := (((k + 5 * i : Nat) : Int), mt (k + 5 * i + 1), ((k + 5 * i + 2 : Nat) : Int), ((k + 5 * i + 3 : Nat) : Int), mt (k + 5 * i + 4))
def marksTok (k n : Nat) : List TT := (List.range n).map (mark1Tok k)
theorem marksTok_length (k n : Nat) : (marksTok k n).length = n := by simp [marksTok]
theorem marksTok_at (k n i : Nat) (h : i < (marksTok k n).length) : (marksTok k n)[i] = mark1Tok k i := by simp [marksTok]
theorem marksTok_step (k : Nat) (l : List TT) (i : Nat) (h : i < l.length) : (marksTok k i ++ l.drop i).set i (mark1Tok k i) = marksTok k (i + 1) ++ l.drop (i + 1) := by
  rw [List.set_append_right _ _ (by rw [marksTok_length]; omega), marksTok_length, Nat.sub_self]
  have e : l.drop i = l[i] :: l.drop (i + 1) := List.drop_eq_getElem_cons h
  rw [e, List.set_cons_zero]
  simp [marksTok, List.range_succ]
/-- The cells of a slice may be written. -/
def FreeTok (w : World) (a : Option Addr) (n : Nat) : Prop := ∀ b o, a = some ⟨b, o, none⟩ → ∀ j, j < n * 5 → w.frozen? ⟨b, o + j, none⟩ = false
theorem TokAt.upd {w w' : World} {b o : Nat} {l : List TT} {i : Nat} {x : TT} (h : TokAt w (some ⟨b, o, none⟩) l) (hs : w.heap.size ≤ w'.heap.size)
    (hfar : ∀ q, q ≠ o + i * 5 → q ≠ o + i * 5 + 1 → q ≠ o + i * 5 + 2 → q ≠ o + i * 5 + 3 → q ≠ o + i * 5 + 4 → w'.cell? ⟨b, q, none⟩ = w.cell? ⟨b, q, none⟩)
    (h0 : w'.cell? ⟨b, o + i * 5, none⟩ = some (.int .i64 x.1)) (h1 : w'.cell? ⟨b, o + i * 5 + 1, none⟩ = some (.string x.2.1)) (h2 : w'.cell? ⟨b, o + i * 5 + 2, none⟩ = some (.int .i64 x.2.2.1)) (h3 : w'.cell? ⟨b, o + i * 5 + 3, none⟩ = some (.int .i64 x.2.2.2.1)) (h4 : w'.cell? ⟨b, o + i * 5 + 4, none⟩ = some (.string x.2.2.2.2)) :
    TokAt w' (some ⟨b, o, none⟩) (l.set i x) := by
  intro j hj
  have hj' : j < l.length := by simpa using hj
  obtain ⟨b', o', e, hlt, c0, c1, c2, c3, c4⟩ := h j hj'
  cases e
  refine ⟨b, o, rfl, Nat.lt_of_lt_of_le hlt hs, ?_⟩
  by_cases hij : i = j
  · subst hij
    rw [List.getElem_set_self]
    exact ⟨h0, h1, h2, h3, h4⟩
  · rw [List.getElem_set_ne hij]
    refine ⟨?_, ?_, ?_, ?_, ?_⟩
    · rw [hfar _ (by omega) (by omega) (by omega) (by omega) (by omega)]; exact c0
    · rw [hfar _ (by omega) (by omega) (by omega) (by omega) (by omega)]; exact c1
    · rw [hfar _ (by omega) (by omega) (by omega) (by omega) (by omega)]; exact c2
    · rw [hfar _ (by omega) (by omega) (by omega) (by omega) (by omega)]; exact c3
    · rw [hfar _ (by omega) (by omega) (by omega) (by omega) (by omega)]; exact c4
theorem FreeTok.upd {w w' : World} {a : Option Addr} {n : Nat} (h : FreeTok w a n) (hf : ∀ b o q, a = some ⟨b, o, none⟩ → w'.frozen? ⟨b, q, none⟩ = w.frozen? ⟨b, q, none⟩) : FreeTok w' a n :=
  fun b o e j hj => by rw [hf b o _ e]; exact h b o e j hj
theorem TokAt.keepS {P : Nat → Prop} {w w' : World} {a : Option Addr} {l : List TT} (h : TokAt w a l) (hk : KeepS P w w') (hP : ∀ b, inBlk a l.length b → ¬ P b) : TokAt w' a l := by
  intro j hj
  obtain ⟨b, o, ha, hlt, c0, c1, c2, c3, c4⟩ := h j hj
  have hn := hP b ⟨by omega, o, ha⟩
  refine ⟨b, o, ha, Nat.lt_of_lt_of_le hlt hk.size, ?_, ?_, ?_, ?_, ?_⟩
  · rw [hk.cell hlt hn]; exact c0
  · rw [hk.cell hlt hn]; exact c1
  · rw [hk.cell hlt hn]; exact c2
  · rw [hk.cell hlt hn]; exact c3
  · rw [hk.cell hlt hn]; exact c4

end Go.Proofs.YtfokdblojlmnlabGreatDoor

/-
  The contracts of the model's draws of tokens: short lists in new memory, the cursor as it lay.
-/
namespace Go.Proofs.YtfokdblojlmnlabGreatDoor
open Go.ChangeShapes Go.WideShapes Go.ChangeAt Go.RowKit
attribute [local go_sem ↓] Go.wp_at_zero Go.wp_at_succ
attribute [local simp] World.cell?_alloc_past World.cell?_alloc_at World.frozen?_alloc_at cell_far cell_off cell_here World.frozen?_alloc_past

/-- Tokens that were drawn: few, and their texts are short. -/
def FewTok (l : List TT) : Prop := l.length ≤ 100 ∧ ∀ x ∈ l, x.2.1.size ≤ 1048576 ∧ x.2.2.2.2.size ≤ maxLen
/-- A list of tokens from that place on. -/
def DrawnTok (w : World) (base : Nat) (v : Value) (l : List TT) : Prop := ∃ g cap, v = .slice (some ⟨g, 0, none⟩) l.length cap ∧ base ≤ g ∧ TokAt w (some ⟨g, 0, none⟩) l
theorem fewTok {s : ByteArray} {l : List TT} {b : Bool} (h : toksR s = (l, b)) (hs : s.size ≤ 100) : FewTok l := by
  refine ⟨by have := toksR_size h; omega, fun x hx => ?_⟩
  have := tokB_fits (List.all_eq_true.1 (toksR_all h) x hx)
  unfold maxLen
  omega
theorem FewTok.set {l : List TT} (h : FewTok l) (k : Nat) (x : TT) (h1 : x.2.1.size ≤ 1048576) (h2 : x.2.2.2.2.size ≤ maxLen) : FewTok (l.set k x) := by
  refine ⟨by rw [List.length_set]; exact h.1, fun y hy => ?_⟩
  rcases List.mem_or_eq_of_mem_set hy with hy | rfl
  · exact h.2 y hy
  · exact ⟨h1, h2⟩
theorem DrawnTok.of {w : World} {base : Nat} {v : Value} {l : List TT} (h : AnsTok w base v l) : DrawnTok w base v l := by
  rcases h.1.2 with ⟨h', _⟩ | ⟨g, c, cur, h', hb, _⟩
  · exact absurd h' h.2
  · subst h'
    exact ⟨g, c, rfl, hb, ownTok h.1⟩
theorem TokAt.set0 {w : World} {g : Nat} {l : List TT} {k : Nat} (h : TokAt w (some ⟨g, 0, none⟩) l) (hk : k < l.length) (z : Int) : TokAt (w.setCell ⟨g, k * 5, none⟩ (.int .i64 z)) (some ⟨g, 0, none⟩) (l.set k (z, l[k].2)) := by
  obtain ⟨b, o, e, hlt, c0, c1, c2, c3, c4⟩ := h k hk
  simp only [Option.some.injEq, Addr.mk.injEq, and_true] at e
  obtain ⟨rfl, rfl⟩ := e
  refine h.upd (i := k) (x := (z, l[k].2)) (by simp) (fun q h0 _ _ _ _ => cell_off _ _ _ _ _ (by omega)) ?_ ?_ ?_ ?_ ?_
  · rw [Nat.zero_add]; exact cell_here _ _ _ _ (by rw [Nat.zero_add] at c0; rw [c0]; rfl)
  · rw [cell_off _ _ _ _ _ (by omega)]; exact c1
  · rw [cell_off _ _ _ _ _ (by omega)]; exact c2
  · rw [cell_off _ _ _ _ _ (by omega)]; exact c3
  · rw [cell_off _ _ _ _ _ (by omega)]; exact c4
theorem TokAt.set1 {w : World} {g : Nat} {l : List TT} {k : Nat} (h : TokAt w (some ⟨g, 0, none⟩) l) (hk : k < l.length) (z : ByteArray) : TokAt (w.setCell ⟨g, k * 5 + 1, none⟩ (.string z)) (some ⟨g, 0, none⟩) (l.set k (l[k].1, z, l[k].2.2)) := by
  obtain ⟨b, o, e, hlt, c0, c1, c2, c3, c4⟩ := h k hk
  simp only [Option.some.injEq, Addr.mk.injEq, and_true] at e
  obtain ⟨rfl, rfl⟩ := e
  refine h.upd (i := k) (x := (l[k].1, z, l[k].2.2)) (by simp) (fun q _ h0 _ _ _ => cell_off _ _ _ _ _ (by omega)) ?_ ?_ ?_ ?_ ?_
  · rw [cell_off _ _ _ _ _ (by omega)]; exact c0
  · rw [Nat.zero_add]; exact cell_here _ _ _ _ (by rw [Nat.zero_add] at c1; rw [c1]; rfl)
  · rw [cell_off _ _ _ _ _ (by omega)]; exact c2
  · rw [cell_off _ _ _ _ _ (by omega)]; exact c3
  · rw [cell_off _ _ _ _ _ (by omega)]; exact c4
theorem TokAt.set2 {w : World} {g : Nat} {l : List TT} {k : Nat} (h : TokAt w (some ⟨g, 0, none⟩) l) (hk : k < l.length) (x y : Int) (z : ByteArray) :
    TokAt (((w.setCell ⟨g, k * 5 + 2, none⟩ (.int .i64 x)).setCell ⟨g, k * 5 + 3, none⟩ (.int .i64 y)).setCell ⟨g, k * 5 + 4, none⟩ (.string z)) (some ⟨g, 0, none⟩) (l.set k (l[k].1, l[k].2.1, x, y, z)) := by
  obtain ⟨b, o, e, hlt, c0, c1, c2, c3, c4⟩ := h k hk
  simp only [Option.some.injEq, Addr.mk.injEq, and_true] at e
  obtain ⟨rfl, rfl⟩ := e
  refine h.upd (i := k) (x := (l[k].1, l[k].2.1, x, y, z)) (by simp) (fun q _ _ h2 h3 h4 => by rw [cell_off _ _ _ _ _ (by omega), cell_off _ _ _ _ _ (by omega), cell_off _ _ _ _ _ (by omega)]) ?_ ?_ ?_ ?_ ?_
  · rw [cell_off _ _ _ _ _ (by omega), cell_off _ _ _ _ _ (by omega), cell_off _ _ _ _ _ (by omega)]; exact c0
  · rw [cell_off _ _ _ _ _ (by omega), cell_off _ _ _ _ _ (by omega), cell_off _ _ _ _ _ (by omega)]; exact c1
  · rw [cell_off _ _ _ _ _ (by omega), cell_off _ _ _ _ _ (by omega), Nat.zero_add]; exact cell_here _ _ _ _ (by rw [Nat.zero_add] at c2; rw [c2]; rfl)
  · rw [cell_off _ _ _ _ _ (by omega), Nat.zero_add]; exact cell_here _ _ _ _ (by rw [cell_off _ _ _ _ _ (by omega)]; rw [Nat.zero_add] at c3; rw [c3]; rfl)
  · rw [Nat.zero_add]; exact cell_here _ _ _ _ (by rw [cell_off _ _ _ _ _ (by omega), cell_off _ _ _ _ _ (by omega)]; rw [Nat.zero_add] at c4; rw [c4]; rfl)
def tokX : List ByteArray := [⟨#[]⟩, ⟨#[97]⟩, ⟨#[97, 110, 100]⟩, ⟨#[65]⟩, ⟨#[97, 98, 99, 100, 101, 102, 103]⟩]
theorem tokX_len : tokX.length = 5 := rfl
theorem tokX_size : ∀ x ∈ tokX, x.size ≤ 7 := by
  have h : tokX.all (fun x => decide (x.size ≤ 7)) = true := by decide +kernel
  intro x hx
  exact of_decide_eq_true (List.all_eq_true.1 h x hx)
theorem from04_draw {w : World} {c : Nat} {a : Option Addr} {len cap : Nat} (h : Cur w c a len cap) :
    Calls Tryz.prog 117 #[.pointer (some ⟨c, 0, none⟩), .int .i64 0, .int .i64 4] w fun e w' => ∃ x : Int, e = .returned (.int .i64 x) ∧ Cur w' c a len cap ∧ Keep c w w' := by
  have HC : Hid (Cur w c a len cap) := h
  clear h
  go_enter Tryz.func117, Tryz.ntmps117
  go_wp2_with fail
  refine (below_draw HC.out 5 (by omega) (by omega)).mono ?_
  rintro e w1 ⟨x, rfl, hx0, hx1, hc1, hk1⟩
  have C1 : Hid (Cur w1 c a len cap) := hc1
  go_wp2
  go_ret
  exact ⟨_, rfl, C1.out, hk1⟩
set_option maxRecDepth 100000 in
set_option maxHeartbeats 4000000 in
theorem toks_draw {w : World} {c : Nat} {a : Option Addr} {len cap : Nat} (h : Cur w c a len cap) :
    Calls Tryz.prog 67 #[.pointer (some ⟨c, 0, none⟩)] w fun e w' => ∃ v l, e = .returned v ∧ FewTok l ∧ DrawnTok w' w.heap.size v l ∧ Cur w' c a len cap ∧ Keep c w w' := by
  have hcw := h.lt
  have HC : Hid (Cur w c a len cap) := h
  clear h
  go_enter Tryz.func67, Tryz.ntmps67
  go_wp2_with fail
  refine (text_draw7 HC.out).mono ?_
  rintro e w1 ⟨t, rfl, ht, hc1, hk1⟩
  have C1 : Hid (Cur w1 c a len cap) := hc1
  clear hc1
  obtain ⟨l, b, hR⟩ : ∃ l b, toksR t = (l, b) := ⟨_, _, rfl⟩
  have HR : Hid (toksR t = (l, b)) := hR
  have HFew : Hid (FewTok l) := fewTok hR ht
  clear hR
  have hs1 := hk1.size
  go_wp2_with fail
  refine (tokensof_spec t _ l b HR.out (by omega)).mono ?_
  rintro e w2 ⟨v, rfl, hA, hb2⟩
  have hk2 : Keep c w w2 := hk1.trans (Keep.ofBelow hb2)
  have C2 : Hid (Cur w2 c a len cap) := C1.out.below hb2
  have hvn := hA.2
  have hcb : c < w1.heap.size := by omega
  obtain ⟨g, cq, rfl⟩ : ∃ g cq, v = .slice (some ⟨g, 0, none⟩) l.length cq := by
    rcases hA.1.2 with ⟨h', _⟩ | ⟨g, cq, cur, h', _⟩
    · exact absurd h' hvn
    · exact ⟨g, cq, h'⟩
  have O2 : Hid (w2.ownsRow w1.heap.size 56 5 (.slice (some ⟨g, 0, none⟩) l.length cq) l.length (flatTok l)) := hA.1
  have hgb := (hA.1.lt g rfl).1
  obtain ⟨n, hn⟩ : ∃ n, l.length = n := ⟨_, rfl⟩
  have HN : Hid (l.length = n) := hn
  have hn100 : n ≤ 100 := by rw [← hn]; exact HFew.out.1
  rw [hn]
  clear hA hb2 C1 hk1 HC hvn hn
  by_cases hn0 : n = 0
  · subst hn0
    have fin : Hid (DrawnTok w2 w.heap.size (.slice (some ⟨g, 0, none⟩) 0 cq) l) := ⟨g, cq, by rw [HN.out], by omega, ownTok O2.out⟩
    go_wp2
    go_ret
    exact ⟨_, l, rfl, HFew.out, fin.out, C2.out, hk2⟩
  have hnp : (0 : Int) < (n : Int) := by omega
  have hk02 : Keep c w w2 := hk2
  clear hk2
  go_wp2_with fail
  refine (once_draw C2.out 8 (by omega) (by omega)).mono ?_
  rintro e w3 ⟨bb, rfl, hc3, hk3⟩
  have C3 : Hid (Cur w3 c a len cap) := hc3
  have hk03 := hk02.trans hk3
  have O3 : Hid (w3.ownsRow w1.heap.size 56 5 (.slice (some ⟨g, 0, none⟩) l.length cq) l.length (flatTok l)) := own_keep O2.out hk3 hcb
  clear hc3 hk3 C2 O2
  cases bb
  · have fin : Hid (DrawnTok w3 w.heap.size (.slice (some ⟨g, 0, none⟩) n cq) l) := ⟨g, cq, by rw [HN.out], by omega, ownTok O3.out⟩
    go_wp2
    go_ret
    exact ⟨_, l, rfl, HFew.out, fin.out, C3.out, hk03⟩
  have hnw : wrap64 (n : Int) = (n : Int) := by unfold wrap64; omega
  go_wp2_with fail
  refine (below_draw C3.out (n : Int) (by omega) (by omega)).mono ?_
  rintro e w4 ⟨k, rfl, hkz, hkn, hc4, hk4⟩
  have C4 : Hid (Cur w4 c a len cap) := hc4
  have hk04 := hk03.trans hk4
  have O4 : Hid (w4.ownsRow w1.heap.size 56 5 (.slice (some ⟨g, 0, none⟩) l.length cq) l.length (flatTok l)) := own_keep O3.out hk4 hcb
  clear hc4 hk4 C3 O3
  obtain ⟨k, rfl⟩ : ∃ m : Nat, k = m := ⟨k.toNat, by omega⟩
  have hkl : Hid (k < l.length) := by have := HN.out; exact (show k < l.length by omega)
  go_wp2_with fail
  refine (below_draw C4.out 3 (by omega) (by omega)).mono ?_
  rintro e w5 ⟨x, rfl, hx0, hx1, hc5, hk5⟩
  have C5 : Hid (Cur w5 c a len cap) := hc5
  have hk05 := hk04.trans hk5
  have O5 : Hid (w5.ownsRow w1.heap.size 56 5 (.slice (some ⟨g, 0, none⟩) l.length cq) l.length (flatTok l)) := own_keep O4.out hk5 hcb
  clear hc5 hk5 C4 O4
  rcases (by omega : x = 0 ∨ x = 1 ∨ x = 2) with rfl | rfl | rfl
  · go_wp2_with fail
    refine (from04_draw C5.out).mono ?_
    rintro e w6 ⟨z, rfl, hc6, hk6⟩
    have C6 : Hid (Cur w6 c a len cap) := hc6
    have hk06 := hk05.trans hk6
    have O6 : Hid (w6.ownsRow w1.heap.size 56 5 (.slice (some ⟨g, 0, none⟩) l.length cq) l.length (flatTok l)) := own_keep O5.out hk6 hcb
    clear hc6 hk6 C5 O5
    have R6 : Hid (TokAt w6 (some ⟨g, 0, none⟩) l) := ownTok O6.out
    obtain ⟨b', o', eq, hgl, c0, c1, c2, c3, c4⟩ := R6.out k hkl.out
    simp only [Option.some.injEq, Addr.mk.injEq, and_true] at eq
    obtain ⟨rfl, rfl⟩ := eq
    rw [Nat.zero_add] at c0 c1 c2 c3 c4
    have f0 := O6.out.frozenAt (k * 5)
    have f1 := O6.out.frozenAt (k * 5 + 1)
    have f2 := O6.out.frozenAt (k * 5 + 2)
    have f3 := O6.out.frozenAt (k * 5 + 3)
    have f4 := O6.out.frozenAt (k * 5 + 4)
    clear O6
    have fin : Hid (DrawnTok (w6.setCell ⟨g, k * 5, none⟩ (.int .i64 z)) w.heap.size (.slice (some ⟨g, 0, none⟩) n cq) (l.set k (z, (l[k]'hkl.out).2))) := ⟨g, cq, by rw [List.length_set, HN.out], by omega, R6.out.set0 hkl.out z⟩
    have ff : Hid (FewTok (l.set k (z, (l[k]'hkl.out).2))) := HFew.out.set k _ (HFew.out.2 _ (List.getElem_mem hkl.out)).1 (HFew.out.2 _ (List.getElem_mem hkl.out)).2
    have cf : Hid (Cur (w6.setCell ⟨g, k * 5, none⟩ (.int .i64 z)) c a len cap) := C6.out.setAbove (by omega) _
    have kf : Hid (Keep c w (w6.setCell ⟨g, k * 5, none⟩ (.int .i64 z))) := hk06.setCell (.inr (show w.heap.size ≤ g by omega)) _
    clear R6 C6 hk06
    go_wp2
    go_ret
    exact ⟨_, _, rfl, ff.out, fin.out, cf.out, kf.out⟩
  · go_wp2_with fail
    refine (below_draw (C5.out.alloc (.cells (tokX.map Value.string).toArray 9)) 5 (by omega) (by omega)).mono ?_
    rintro e w6 ⟨z, rfl, hz0, hz1, hc6, hk6⟩
    have hcell : ∀ j, w6.cell? ⟨w5.heap.size, j, none⟩ = (w5.alloc (.cells (tokX.map Value.string).toArray 9)).cell? ⟨w5.heap.size, j, none⟩ := fun j => hk6.cell (by simp) (by have := C5.out.lt; omega)
    replace hk6 := ((Keep.refl c w5).alloc (.cells (tokX.map Value.string).toArray 9)).trans hk6
    have hs5 := hk6.size
    have C6 : Hid (Cur w6 c a len cap) := hc6
    have hk06 := hk05.trans hk6
    have O6 : Hid (w6.ownsRow w1.heap.size 56 5 (.slice (some ⟨g, 0, none⟩) l.length cq) l.length (flatTok l)) := own_keep O5.out hk6 hcb
    clear hc6 hk6 C5 O5
    have R6 : Hid (TokAt w6 (some ⟨g, 0, none⟩) l) := ownTok O6.out
    obtain ⟨b', o', eq, hgl, c0, c1, c2, c3, c4⟩ := R6.out k hkl.out
    simp only [Option.some.injEq, Addr.mk.injEq, and_true] at eq
    obtain ⟨rfl, rfl⟩ := eq
    rw [Nat.zero_add] at c0 c1 c2 c3 c4
    have f0 := O6.out.frozenAt (k * 5)
    have f1 := O6.out.frozenAt (k * 5 + 1)
    have f2 := O6.out.frozenAt (k * 5 + 2)
    have f3 := O6.out.frozenAt (k * 5 + 3)
    have f4 := O6.out.frozenAt (k * 5 + 4)
    clear O6
    obtain ⟨z, rfl⟩ : ∃ m : Nat, z = m := ⟨z.toNat, by omega⟩
    have hz : z < tokX.length := by rw [tokX_len]; omega
    have hu := tokX_size _ (List.getElem_mem hz)
    have hcz : w6.cell? ⟨w5.heap.size, z, none⟩ = some (.string (tokX[z]'hz)) := by
      rw [hcell]
      simp [hz]
    generalize (tokX[z]'hz) = u at hu hcz
    have hz5 : (z : Int) < 5 := by omega
    have hz00 : (0 : Int) ≤ (z : Int) := by omega
    clear hcell hz hz0 hz1
    have fin : Hid (DrawnTok (w6.setCell ⟨g, k * 5 + 1, none⟩ (.string u)) w.heap.size (.slice (some ⟨g, 0, none⟩) n cq) (l.set k ((l[k]'hkl.out).1, u, (l[k]'hkl.out).2.2))) := ⟨g, cq, by rw [List.length_set, HN.out], by omega, R6.out.set1 hkl.out u⟩
    have ff : Hid (FewTok (l.set k ((l[k]'hkl.out).1, u, (l[k]'hkl.out).2.2))) := HFew.out.set k _ (show u.size ≤ 1048576 by omega) (HFew.out.2 _ (List.getElem_mem hkl.out)).2
    have cf : Hid (Cur (w6.setCell ⟨g, k * 5 + 1, none⟩ (.string u)) c a len cap) := C6.out.setAbove (by omega) _
    have kf : Hid (Keep c w (w6.setCell ⟨g, k * 5 + 1, none⟩ (.string u))) := hk06.setCell (.inr (show w.heap.size ≤ g by omega)) _
    clear R6 C6 hk06
    go_wp2
    go_ret
    exact ⟨_, _, rfl, ff.out, fin.out, cf.out, kf.out⟩
  · go_wp2_with fail
    refine (any_draw C5.out).mono ?_
    rintro e w6 ⟨ck, cn, ct, rfl, hct, hc6, hk6⟩
    have C6 : Hid (Cur w6 c a len cap) := hc6
    have hk06 := hk05.trans hk6
    have O6 : Hid (w6.ownsRow w1.heap.size 56 5 (.slice (some ⟨g, 0, none⟩) l.length cq) l.length (flatTok l)) := own_keep O5.out hk6 hcb
    clear hc6 hk6 C5 O5
    have R6 : Hid (TokAt w6 (some ⟨g, 0, none⟩) l) := ownTok O6.out
    obtain ⟨b', o', eq, hgl, c0, c1, c2, c3, c4⟩ := R6.out k hkl.out
    simp only [Option.some.injEq, Addr.mk.injEq, and_true] at eq
    obtain ⟨rfl, rfl⟩ := eq
    rw [Nat.zero_add] at c0 c1 c2 c3 c4
    have f0 := O6.out.frozenAt (k * 5)
    have f1 := O6.out.frozenAt (k * 5 + 1)
    have f2 := O6.out.frozenAt (k * 5 + 2)
    have f3 := O6.out.frozenAt (k * 5 + 3)
    have f4 := O6.out.frozenAt (k * 5 + 4)
    clear O6
    have hw : w.heap.size ≤ g := by omega
    have fin : Hid (DrawnTok (((w6.setCell ⟨g, k * 5 + 2, none⟩ (.int .i64 ck)).setCell ⟨g, k * 5 + 3, none⟩ (.int .i64 cn)).setCell ⟨g, k * 5 + 4, none⟩ (.string ct)) w.heap.size (.slice (some ⟨g, 0, none⟩) n cq) (l.set k ((l[k]'hkl.out).1, (l[k]'hkl.out).2.1, ck, cn, ct))) := ⟨g, cq, by rw [List.length_set, HN.out], by omega, R6.out.set2 hkl.out ck cn ct⟩
    have ff : Hid (FewTok (l.set k ((l[k]'hkl.out).1, (l[k]'hkl.out).2.1, ck, cn, ct))) := HFew.out.set k _ (HFew.out.2 _ (List.getElem_mem hkl.out)).1 hct
    have cf : Hid (Cur (((w6.setCell ⟨g, k * 5 + 2, none⟩ (.int .i64 ck)).setCell ⟨g, k * 5 + 3, none⟩ (.int .i64 cn)).setCell ⟨g, k * 5 + 4, none⟩ (.string ct)) c a len cap) := ((C6.out.setAbove (by omega) _).setAbove (by omega) _).setAbove (by omega) _
    have kf : Hid (Keep c w (((w6.setCell ⟨g, k * 5 + 2, none⟩ (.int .i64 ck)).setCell ⟨g, k * 5 + 3, none⟩ (.int .i64 cn)).setCell ⟨g, k * 5 + 4, none⟩ (.string ct))) := ((hk06.setCell (.inr hw) _).setCell (.inr hw) _).setCell (.inr hw) _
    clear R6 C6 hk06
    go_wp2
    go_ret
    exact ⟨_, _, rfl, ff.out, fin.out, cf.out, kf.out⟩
end Go.Proofs.YtfokdblojlmnlabGreatDoor

/-
  The contracts of the model's three draws of stage 7.
-/
namespace Go.Proofs.YtfokdblojlmnlabGreatDoor
open Go.ChangeShapes Go.WideShapes Go.ChangeAt Go.RowKit
attribute [local go_sem ↓] Go.wp_at_zero Go.wp_at_succ
attribute [local simp] World.cell?_alloc_past World.cell?_alloc_at World.frozen?_alloc_at cell_far cell_off cell_here World.frozen?_alloc_past

theorem Tok5.keep {w w' : World} {B c : Nat} (h : Tok5 w B) (hk : Keep c w w') (hc : B ≠ c) : Tok5 w' B := by
  obtain ⟨h0, h1, h2, h3, h4, hB, f0, f1, f2, f3, f4⟩ := h
  have key : ∀ o, w'.cell? ⟨B, o, none⟩ = w.cell? ⟨B, o, none⟩ := fun o => hk.cell hB hc
  have fro : ∀ o, w'.frozen? ⟨B, o, none⟩ = w.frozen? ⟨B, o, none⟩ := fun o => hk.frozen hB hc
  have hs := hk.size
  exact ⟨(key _).trans h0, (key _).trans h1, (key _).trans h2, (key _).trans h3, (key _).trans h4, by omega, (fro _).trans f0, (fro _).trans f1, (fro _).trans f2, (fro _).trans f3, (fro _).trans f4⟩
theorem DrawnTok.lower {w : World} {base base' : Nat} {v : Value} {l : List TT} (h : DrawnTok w base v l) (hb : base' ≤ base) : DrawnTok w base' v l := by
  obtain ⟨g, cap, e, h1, h2⟩ := h
  exact ⟨g, cap, e, Nat.le_trans hb h1, h2⟩
theorem TokAt.keepC {w w' : World} {c g : Nat} {l : List TT} (h : TokAt w (some ⟨g, 0, none⟩) l) (hk : Keep c w w') (hg : g ≠ c) : TokAt w' (some ⟨g, 0, none⟩) l := by
  intro j hj
  obtain ⟨b, o, ha, hlt, c0, c1, c2, c3, c4⟩ := h j hj
  simp only [Option.some.injEq, Addr.mk.injEq, and_true] at ha
  obtain ⟨rfl, rfl⟩ := ha
  have key : ∀ q, w'.cell? ⟨g, q, none⟩ = w.cell? ⟨g, q, none⟩ := fun q => hk.cell hlt hg
  exact ⟨g, 0, rfl, Nat.lt_of_lt_of_le hlt hk.size, by rw [key]; exact c0, by rw [key]; exact c1, by rw [key]; exact c2, by rw [key]; exact c3, by rw [key]; exact c4⟩
theorem textof_draw {w : World} {a : Option Addr} {len cap : Nat} (hlen : len ≤ 4096)
    (row : ∀ j, j < len → ∃ (rb ro : Nat) (v : Int), a = some ⟨rb, ro, none⟩ ∧ rb < w.heap.size ∧ w.cell? ⟨rb, ro + j, none⟩ = some (.int .u8 v) ∧ 0 ≤ v ∧ v ≤ 255) :
    Calls Tryz.prog 25 #[.slice a len cap] w fun e w' => ∃ v l, e = .returned v ∧ FewTok l ∧ DrawnTok w' w.heap.size v l ∧ Below w.heap.size w w' := by
  have hR : Hid (∀ j, j < len → ∃ (rb ro : Nat) (v : Int), a = some ⟨rb, ro, none⟩ ∧ rb < w.heap.size ∧ w.cell? ⟨rb, ro + j, none⟩ = some (.int .u8 v) ∧ 0 ≤ v ∧ v ≤ 255) := row
  clear row
  go_enter Tryz.func25, Tryz.ntmps25
  go_wp2_with fail
  refine (new_draw hlen hR.out).mono ?_
  rintro e w1 ⟨c, rfl, hcs, hc1, hb1⟩
  go_wp2_with fail
  refine (toks_draw hc1).mono ?_
  rintro e w2 ⟨v, l, rfl, hf, hd, hc2, hk2⟩
  have hx2 : Below w.heap.size w w2 := hb1.trans (hk2.below hcs hb1.size)
  have HF : Hid (FewTok l) := hf
  have HD : Hid (DrawnTok w2 w.heap.size v l) := hd.lower hb1.size
  clear hf hd hc2 hk2 hc1 hb1
  go_wp2
  go_ret
  exact ⟨_, l, rfl, HF.out, HD.out, hx2⟩
set_option maxRecDepth 100000 in
set_option maxHeartbeats 2000000 in
theorem tokenok_draw {w : World} {a : Option Addr} {len cap : Nat} (hlen : len ≤ 4096)
    (row : ∀ j, j < len → ∃ (rb ro : Nat) (v : Int), a = some ⟨rb, ro, none⟩ ∧ rb < w.heap.size ∧ w.cell? ⟨rb, ro + j, none⟩ = some (.int .u8 v) ∧ 0 ≤ v ∧ v ≤ 255) :
    Calls Tryz.prog 29 #[.slice a len cap] w fun e w' => ∃ t : TT, e = .returned (.agg #[.int .i64 t.1, .string t.2.1, .int .i64 t.2.2.1, .int .i64 t.2.2.2.1, .string t.2.2.2.2]) ∧ t.2.1.size ≤ 1048576 ∧ t.2.2.2.2.size ≤ maxLen ∧ Below w.heap.size w w' := by
  have hR : Hid (∀ j, j < len → ∃ (rb ro : Nat) (v : Int), a = some ⟨rb, ro, none⟩ ∧ rb < w.heap.size ∧ w.cell? ⟨rb, ro + j, none⟩ = some (.int .u8 v) ∧ 0 ≤ v ∧ v ≤ 255) := row
  clear row
  obtain ⟨V, hV⟩ : ∃ V, V = w.alloc (.cells #[.int .i64 0, .string ⟨#[]⟩, .int .i64 0, .int .i64 0, .string ⟨#[]⟩] 56) := ⟨_, rfl⟩
  have hxV : Below w.heap.size w V := by rw [hV]; exact (Below.refl _ _).alloc (Nat.le_refl _) _
  have hT : Tok5 V w.heap.size := by rw [hV]; exact Tok5.new w
  have hBV : w.heap.size < V.heap.size := by rw [hV]; simp
  go_enter Tryz.func29, Tryz.ntmps29
  go_wp2_with fail
  rw [← hV]
  obtain ⟨B, hB⟩ : ∃ B, w.heap.size = B := ⟨_, rfl⟩
  have hw : w.heap.size ≤ B := by omega
  rw [hB] at hT hBV
  have HT : Hid (Tok5 V B) := hT
  have hR2 : Hid (∀ j, j < len → ∃ (rb ro : Nat) (v : Int), a = some ⟨rb, ro, none⟩ ∧ rb < V.heap.size ∧ V.cell? ⟨rb, ro + j, none⟩ = some (.int .u8 v) ∧ 0 ≤ v ∧ v ≤ 255) := by
    intro j hj
    obtain ⟨rb, ro, v, ha, hrb, hcell, hv⟩ := hR.out j hj
    exact ⟨rb, ro, v, ha, by omega, by rw [hxV.cell (p := ⟨rb, ro + j, none⟩) hrb]; exact hcell, hv⟩
  rw [hB]
  clear hT hV hB hR
  refine (new_draw hlen hR2.out).mono ?_
  rintro e w1 ⟨c, rfl, hcs, hc1, hb1⟩
  have T1 : Hid (Tok5 w1 B) := HT.out.below hb1
  have hx1 := hxV.trans (hb1.mono (by omega))
  have C1 : Hid (Cur w1 c a len cap) := hc1
  clear hc1 hb1 HT
  go_wp2_with fail
  refine (toks_draw C1.out).mono ?_
  rintro e w2 ⟨v, l, rfl, hf, hd, hc2, hk2⟩
  have T2 : Hid (Tok5 w2 B) := T1.out.keep hk2 (by omega)
  have hx2 : Below w.heap.size w w2 := hx1.trans (hk2.below (by omega) hx1.size)
  have C2 : Hid (Cur w2 c a len cap) := hc2
  have HF : Hid (FewTok l) := hf
  obtain ⟨g, cq, rfl, hgb, hrow⟩ := hd
  have HRW : Hid (TokAt w2 (some ⟨g, 0, none⟩) l) := hrow
  have hcl := C1.out.lt
  obtain ⟨n, hn⟩ : ∃ n, l.length = n := ⟨_, rfl⟩
  have HN : Hid (l.length = n) := hn
  have hn100 : n ≤ 100 := by rw [← hn]; exact hf.1
  rw [hn]
  clear hf hc2 hk2 T1 C1 hrow hn hx1
  by_cases hn0 : n = 0
  · subst hn0
    go_wp2_with fail
    refine (below_draw C2.out 3 (by omega) (by omega)).mono ?_
    rintro e w3 ⟨x, rfl, hx0, hx1, hc3, hk3⟩
    have T3 : Hid (Tok5 w3 B) := T2.out.keep hk3 (by omega)
    have hx3 : Below w.heap.size w w3 := hx2.trans (hk3.below (by omega) hx2.size)
    clear hc3 hk3 T2 C2 HRW
    obtain ⟨a0, a1, a2, a3, a4, aB, a5, a6, a7, a8, a9⟩ := T3.out
    go_wp2_with fail
    generalize hZ : (((((w3.setCell ⟨B, 0, none⟩ _).setCell ⟨B, 1, none⟩ _).setCell ⟨B, 2, none⟩ _).setCell ⟨B, 3, none⟩ _).setCell ⟨B, 4, none⟩ _) = Z
    obtain ⟨y0, y1, y2, y3, y4, yB⟩ := out5 _ _ _ _ _ ⟨a0, a1, a2, a3, a4, aB⟩ Z hZ.symm
    have hbZ : Below w.heap.size w Z := by rw [← hZ]; exact ((((hx3.setCell hw _).setCell hw _).setCell hw _).setCell hw _).setCell hw _
    refine bodyPost_ret (by simp [results, Tryz.results29, go_sem, y0, y1, y2, y3, y4]; try rfl) rfl ?_
    exact ⟨(_, ⟨#[]⟩, 0, 0, ⟨#[]⟩), rfl, Nat.zero_le _, Nat.zero_le _, hbZ⟩
  have hnp : ((n : Int) == 0) = false := by simpa using (show ¬ (n : Int) = 0 by omega)
  have hnw : wrap64 (n : Int) = (n : Int) := by unfold wrap64; omega
  go_wp2_with fail
  refine (below_draw C2.out (n : Int) (by omega) (by omega)).mono ?_
  rintro e w3 ⟨k, rfl, hkz, hkn, hc3, hk3⟩
  have T3 : Hid (Tok5 w3 B) := T2.out.keep hk3 (by omega)
  have hx3 : Below w.heap.size w w3 := hx2.trans (hk3.below (by omega) hx2.size)
  have R3 : Hid (TokAt w3 (some ⟨g, 0, none⟩) l) := HRW.out.keepC hk3 (by omega)
  obtain ⟨k, rfl⟩ : ∃ m : Nat, k = m := ⟨k.toNat, by omega⟩
  have hkl : k < l.length := by have := HN.out; omega
  obtain ⟨hf1, hf2⟩ := HF.out.2 _ (List.getElem_mem hkl)
  obtain ⟨b', o', eq, hgl, c0, c1, c2, c3, c4⟩ := R3.out k hkl
  simp only [Option.some.injEq, Addr.mk.injEq, and_true] at eq
  obtain ⟨rfl, rfl⟩ := eq
  rw [Nat.zero_add] at c0 c1 c2 c3 c4
  generalize l[k] = x at c0 c1 c2 c3 c4 hf1 hf2
  obtain ⟨xk, xs, xa, xb, xc⟩ := x
  dsimp only at c0 c1 c2 c3 c4 hf1 hf2
  have hkn' : (k : Int) < (n : Int) := hkn
  clear hc3 hk3 T2 C2 HRW R3 HN HF hkl
  obtain ⟨a0, a1, a2, a3, a4, aB, a5, a6, a7, a8, a9⟩ := T3.out
  go_wp2_with fail
  generalize hZ : (((((w3.setCell ⟨B, 0, none⟩ _).setCell ⟨B, 1, none⟩ _).setCell ⟨B, 2, none⟩ _).setCell ⟨B, 3, none⟩ _).setCell ⟨B, 4, none⟩ _) = Z
  obtain ⟨y0, y1, y2, y3, y4, yB⟩ := out5 _ _ _ _ _ ⟨a0, a1, a2, a3, a4, aB⟩ Z hZ.symm
  have hbZ : Below w.heap.size w Z := by rw [← hZ]; exact ((((hx3.setCell hw _).setCell hw _).setCell hw _).setCell hw _).setCell hw _
  refine bodyPost_ret (by simp [results, Tryz.results29, go_sem, y0, y1, y2, y3, y4]; try rfl) rfl ?_
  exact ⟨(xk, xs, xa, xb, xc), rfl, hf1, hf2, hbZ⟩
set_option maxRecDepth 100000 in
set_option maxHeartbeats 2000000 in
theorem tokensof_draw {w : World} {a : Option Addr} {len cap : Nat} (hlen : len ≤ 4096)
    (row : ∀ j, j < len → ∃ (rb ro : Nat) (v : Int), a = some ⟨rb, ro, none⟩ ∧ rb < w.heap.size ∧ w.cell? ⟨rb, ro + j, none⟩ = some (.int .u8 v) ∧ 0 ≤ v ∧ v ≤ 255) :
    Calls Tryz.prog 27 #[.slice a len cap] w fun e w' => ∃ t : ByteArray, e = .returned (.string t) ∧ t.size ≤ 3000 ∧ Below w.heap.size w w' := by
  have hR : Hid (∀ j, j < len → ∃ (rb ro : Nat) (v : Int), a = some ⟨rb, ro, none⟩ ∧ rb < w.heap.size ∧ w.cell? ⟨rb, ro + j, none⟩ = some (.int .u8 v) ∧ 0 ≤ v ∧ v ≤ 255) := row
  clear row
  go_enter Tryz.func27, Tryz.ntmps27
  go_wp2_with fail
  refine (new_draw hlen hR.out).mono ?_
  rintro e w1 ⟨c, rfl, hcs, hc1, hb1⟩
  go_wp2_with fail
  refine (once_draw hc1 40 (by omega) (by omega)).mono ?_
  rintro e w2 ⟨bb, rfl, hc2, hk2⟩
  have hx2 : Below w.heap.size w w2 := hb1.trans (hk2.below hcs hb1.size)
  have C2 : Hid (Cur w2 c a len cap) := hc2
  clear hc2 hk2 hc1 hb1
  cases bb
  · go_wp2_with fail
    refine (text_draw7 C2.out).mono ?_
    rintro e w3 ⟨t, rfl, ht, hc3, hk3⟩
    have hx3 : Below w.heap.size w w3 := hx2.trans (hk3.below hcs hx2.size)
    clear hc3 hk3
    go_wp2
    go_ret
    exact ⟨_, rfl, by omega, hx3⟩
  · go_wp2_with fail
    refine (below_draw C2.out 2 (by omega) (by omega)).mono ?_
    rintro e w3 ⟨x, rfl, hx0, hx1, hc3, hk3⟩
    have hx3 : Below w.heap.size w w3 := hx2.trans (hk3.below hcs hx2.size)
    clear hc3 hk3
    obtain ⟨x, rfl⟩ : ∃ m : Nat, x = m := ⟨x.toNat, by omega⟩
    obtain ⟨n, hn⟩ : ∃ n, 2000 + x = n := ⟨_, rfl⟩
    have hnI : 2000 + (x : Int) = (n : Int) := by omega
    have hn3 : n ≤ 3000 := by omega
    obtain ⟨i0, hti, hz0, hz1, hz2⟩ := info_parts infoByte
    clear hn hx0 hx1
    go_wp2_with (at_make; refine wpList_make_full _ rfl _ _ 22 rfl w.heap.size 5 i0 (.int .u8 0) 1 Tryz.underlying22 hti hz0 hz1 .i64 .i64 _ _ n rfl rfl (by omega) (by omega) (by rw [hz2]; omega) (by unfold maxLen; omega) hx3.size ?_)
    intro w4 hown hgrow
    have hx4 : Below w.heap.size w w4 := hx3.grown hgrow hx3.size (by intro k h; cases h)
    have e1 : (madeCells #[Value.int .u8 0] n).toList = u8s (List.replicate n 0) := by
      rw [toList_madeCells_one]
      unfold u8s
      rw [List.map_replicate]
      rfl
    rw [e1] at hown
    have hlen' : (List.replicate n (0 : UInt8)).length = n := List.length_replicate
    obtain ⟨g, cq, hv, hB⟩ := BRow.ofOwn (l := List.replicate n 0) (by rw [hlen']; exact hown) (by simp)
    simp only [Value.slice.injEq, Option.some.injEq, Addr.mk.injEq, and_true] at hv
    have hconv := back_bytes hB
    rw [hlen'] at hconv hv
    obtain ⟨rfl, _, rfl⟩ := hv
    have hts : (⟨(List.replicate n (0 : UInt8)).toArray⟩ : ByteArray).size ≤ 3000 := by
      show (List.replicate n (0 : UInt8)).toArray.size ≤ 3000
      rw [List.size_toArray, hlen']; exact hn3
    generalize (⟨(List.replicate n (0 : UInt8)).toArray⟩ : ByteArray) = t at hconv hts
    clear hown hgrow hB e1 hlen'
    go_wp2
    go_ret
    exact ⟨_, rfl, hts, hx4⟩
end Go.Proofs.YtfokdblojlmnlabGreatDoor

/-
  The contracts of the model's questions for an item and for a sum.
-/
namespace Go.Proofs.YtfokdblojlmnlabGreatDoor
open Go.ChangeShapes Go.WideShapes Go.ChangeAt Go.RowKit
attribute [local go_sem ↓] Go.wp_at_zero Go.wp_at_succ
attribute [local simp] World.cell?_alloc_past World.cell?_alloc_at World.frozen?_alloc_at cell_far cell_off cell_here World.frozen?_alloc_past

theorem needs_spec (k : Int) (n : Nat) (hn : needsI k = n) (w : World) :
    Calls Tryz.prog 92 #[.int .i64 k] w fun e w' => e = .returned (.int .i64 (n : Int)) ∧ w' = w := by
  unfold needsI at hn
  by_cases h1 : k ≤ 2
  · rw [if_pos h1] at hn
    subst hn
    go_enter Tryz.func92, Tryz.ntmps92
    go_wp2
    go_ret
    exact ⟨rfl, rfl⟩
  rw [if_neg h1] at hn
  by_cases h2 : 11 ≤ k
  · rw [if_pos h2] at hn
    subst hn
    go_enter Tryz.func92, Tryz.ntmps92
    go_wp2
    go_ret
    exact ⟨rfl, rfl⟩
  rw [if_neg h2] at hn
  subst hn
  go_enter Tryz.func92, Tryz.ntmps92
  go_wp2
  go_ret
  exact ⟨rfl, rfl⟩
theorem zero_txt (s : ByteArray) (b : Bool) (h : decide (s = ⟨#[]⟩) = b) : (s.toList == []) = b := by
  rw [← h]
  by_cases e : s = ⟨#[]⟩
  · rw [decide_eq_true e, e]; simp [Lib.toList_data]
  · rw [decide_eq_false e]
    have := txt_other e
    rw [show (⟨#[]⟩ : ByteArray).toList = [] from by rw [Lib.toList_data]] at this
    exact this
theorem run_eqlI (k ck cn : Int) (ct s : ByteArray) (w : World) :
    (binOp .eql 102 (.agg #[.int .i64 k, .int .i64 ck, .int .i64 cn, .string ct, .string s]) (.agg #[.int .i64 k, .int .i64 0, .int .i64 0, .string ⟨#[]⟩, .string ⟨#[]⟩])).run Tryz.prog w = .ok (.bool ((ck == 0 && cn == 0) && (ct.toList == [] && s.toList == []))) w := by
  by_cases h1 : ck = 0
  · by_cases h2 : cn = 0
    · subst h1 h2
      by_cases h3 : ct.toList = []
      · by_cases h4 : s.toList = []
        · go_simp
        · go_simp
      · go_simp
    · go_simp
  · go_simp
set_option maxHeartbeats 2000000 in
theorem item_spec (x : TI) (w : World) (h1 : x.2.2.size ≤ maxLen) (h2 : x.2.1.2.2.size ≤ maxLen) (b : Bool) (hb : itemB x = b) :
    Calls Tryz.prog 91 #[.agg #[.int .i64 x.1, .int .i64 x.2.1.1, .int .i64 x.2.1.2.1, .string x.2.1.2.2, .string x.2.2]] w fun e w' => e = .returned (.bool b) ∧ Below w.heap.size w w' := by
  obtain ⟨k, ⟨ck, cn, ct⟩, s⟩ := x
  dsimp only at h1 h2 ⊢
  have hA : Below w.heap.size w (w.alloc (.cells #[.int .i64 k, .int .i64 ck, .int .i64 cn, .string ct, .string s] 102)) := (Below.refl _ _).alloc (Nat.le_refl _) _
  unfold itemB at hb
  dsimp only at hb
  by_cases k1 : k = 1
  · subst k1
    rw [if_pos rfl] at hb
    obtain ⟨b1, e1⟩ : ∃ x, okC (ck, cn, ct) = x := ⟨_, rfl⟩
    obtain ⟨b2, e2⟩ : ∃ x, decide (s = ⟨#[]⟩) = x := ⟨_, rfl⟩
    rw [e1, e2] at hb
    have hq := zero_txt s b2 e2
    have E1 : Hid (okB ck cn ct = b1) := e1
    clear e1 e2
    cases b1
    · obtain rfl : false = b := hb
      go_enter Tryz.func91, Tryz.ntmps91
      go_wp2_with fail
      refine (ok_specb ck cn ct false E1.out _ h2).mono ?_
      rintro e w1 ⟨rfl, hb1⟩
      have hx := chain hA hb1
      go_wp2
      go_ret
      exact ⟨rfl, hx⟩
    · obtain rfl : b2 = b := hb
      go_enter Tryz.func91, Tryz.ntmps91
      go_wp2_with fail
      refine (ok_specb ck cn ct true E1.out _ h2).mono ?_
      rintro e w1 ⟨rfl, hb1⟩
      have hx := chain hA hb1
      obtain ⟨hc, hf⟩ := bcell hb1
      have c1 : w1.cell? ⟨w.heap.size, 4, none⟩ = some (.string s) := by rw [hc _ _ (by simp)]; simp
      clear hc hf
      go_wp2
      go_ret
      exact ⟨rfl, hx⟩
  rw [if_neg k1] at hb
  by_cases k2 : k = 2
  · subst k2
    rw [if_pos rfl] at hb
    obtain ⟨b1, e1⟩ : ∃ x, nameK s = x := ⟨_, rfl⟩
    obtain ⟨b2, e2⟩ : ∃ x, decide ((ck, cn, ct) = zeroC) = x := ⟨_, rfl⟩
    rw [e1, e2] at hb
    have hz := zeroC_same (ck, cn, ct) b2 e2
    dsimp only at hz
    have hq := fun w' => run_eql ck cn ct 0 0 ⟨#[]⟩ w'
    rw [hz] at hq
    have E1 : Hid (nameK s = b1) := e1
    clear e1 e2 hz
    cases b1
    · obtain rfl : false = b := hb
      go_enter Tryz.func91, Tryz.ntmps91
      go_wp2_with fail
      refine (namek_spec s _ h1 false E1.out).mono ?_
      rintro e w1 ⟨rfl, hb1⟩
      have hx := chain hA hb1
      go_wp2
      go_ret
      exact ⟨rfl, hx⟩
    · obtain rfl : b2 = b := hb
      go_enter Tryz.func91, Tryz.ntmps91
      go_wp2_with fail
      refine (namek_spec s _ h1 true E1.out).mono ?_
      rintro e w1 ⟨rfl, hb1⟩
      have hx := chain hA hb1
      obtain ⟨hc, hf⟩ := bcell hb1
      have c1 : w1.cell? ⟨w.heap.size, 1, none⟩ = some (.int .i64 ck) := by rw [hc _ _ (by simp)]; simp
      have c2 : w1.cell? ⟨w.heap.size, 2, none⟩ = some (.int .i64 cn) := by rw [hc _ _ (by simp)]; simp
      have c3 : w1.cell? ⟨w.heap.size, 3, none⟩ = some (.string ct) := by rw [hc _ _ (by simp)]; simp
      clear hc hf
      go_wp2
      go_ret
      exact ⟨rfl, hx⟩
  rw [if_neg k2] at hb
  have hq := fun w' => run_eqlI k ck cn ct s w'
  obtain ⟨b2, e2⟩ : ∃ x, ((ck == 0 && cn == 0) && (ct.toList == [] && s.toList == [])) = x := ⟨_, rfl⟩
  rw [e2] at hq
  have e3 : decide (((k, (ck, cn, ct), s) : TI) = opI k) = b2 := by
    rw [← e2]
    have g1 := zero_txt ct _ rfl
    have g2 := zero_txt s _ rfl
    rw [g1, g2, Bool.eq_iff_iff, decide_eq_true_eq]
    unfold opI zeroC
    simp [and_assoc]
  rw [e3] at hb
  clear e2 e3
  by_cases h3 : 3 ≤ k ∧ k ≤ 12
  · rw [decide_eq_true h3.1, decide_eq_true h3.2] at hb
    obtain rfl : b2 = b := by simpa using hb
    clear hb
    go_enter Tryz.func91, Tryz.ntmps91
    go_wp2_with fail
    refine (in_spec k 3 12 _).mono ?_
    rintro e w1 ⟨rfl, rfl⟩
    rw [decide_eq_true h3.1, decide_eq_true h3.2]
    go_wp2
    go_ret
    exact ⟨rfl, hA⟩
  · have hbf : b = false := by
      rw [← hb]
      by_cases h4 : 3 ≤ k
      · rw [decide_eq_false (fun h5 => h3 ⟨h4, h5⟩)]; simp
      · rw [decide_eq_false h4]; simp
    subst hbf
    clear hb
    have h5 : (decide (3 ≤ k) && decide (k ≤ 12)) = false := by
      by_cases h4 : 3 ≤ k
      · rw [decide_eq_false (fun h5 => h3 ⟨h4, h5⟩)]; simp
      · rw [decide_eq_false h4]; simp
    go_enter Tryz.func91, Tryz.ntmps91
    go_wp2_with fail
    refine (in_spec k 3 12 _).mono ?_
    rintro e w1 ⟨rfl, rfl⟩
    rw [h5]
    go_wp2
    go_ret
    exact ⟨rfl, hA⟩
theorem heap_step (l : List TI) (k : Nat) (h : k < l.length) (c : Nat) (hc : heapN (l.take k) 0 = some c) : heapN (l.take (k + 1)) 0 = if itemB l[k] = true ∧ needsI l[k].1 ≤ c then some (c + 1 - needsI l[k].1) else none := by
  rw [List.take_succ_eq_append_getElem h, heapN_append, hc]
  simp only [Option.bind_some, heapN]
theorem heap_no (l : List TI) (k : Nat) (h : heapN (l.take k) 0 = none) : sumB l = false := by
  unfold sumB
  have : heapN l 0 = none := by
    conv => lhs; rw [← List.take_append_drop k l]
    rw [heapN_append, h]; rfl
  rw [this]; simp
set_option maxRecDepth 100000 in
set_option maxHeartbeats 2000000 in
theorem sum_spec (a : Option Addr) (cap : Nat) (l : List TI) (n : Nat) (hn : l.length = n) (w : World) (hrow : ItmAt w a l) (hfit : FitItm l) (hm : n ≤ maxLen) (b : Bool) (hb : sumB l = b) :
    Calls Tryz.prog 43 #[.slice a n cap] w fun e w' => e = .returned (.bool b) ∧ Below w.heap.size w w' := by
  subst hn
  have HR : Hid (ItmAt w a l) := hrow
  have HF : Hid (FitItm l) := hfit
  have HB : Hid (sumB l = b) := hb
  clear hrow hfit hb
  unfold maxLen at hm
  go_enter Tryz.func43, Tryz.ntmps43
  go_wp2
  go_loopw [3, 4] (fun nv kk wr => ∃ k c : Nat, k ≤ l.length ∧ kk = .int .i64 k ∧ nv = .int .i64 c ∧ c ≤ k ∧ Hid (heapN (l.take k) 0 = some c) ∧ Below w.heap.size w wr) (fun _ kk _ => l.length - (intOf kk).toNat)
  case atStart => exact ⟨0, 0, Nat.zero_le _, rfl, rfl, Nat.le_refl _, rfl, Below.refl _ _⟩
  case round =>
    obtain ⟨k, c, hk, rfl, rfl, hck, hhp, hbw⟩ := hrel
    by_cases hlt : k < l.length
    · obtain ⟨g, o, rfl, hgw, c0, c1, c2, c3, c4⟩ := HR.out.below hbw k hlt
      have hi0 : (0 : Int) ≤ (k : Int) := by omega
      have hi1 : (k : Int) < (l.length : Int) := by omega
      obtain ⟨hf1, hf2⟩ := HF.out k hlt
      have hst := heap_step l k hlt c hhp.out
      have HNO : Hid (heapN (l.take (k + 1)) 0 = none → b = false) := by
        have : heapN (l.take (k + 1)) 0 = none → b = false := fun h => by rw [← HB.out]; exact heap_no l (k + 1) h
        exact this
      obtain ⟨r, hr⟩ : ∃ r, itemB l[k] = r := ⟨_, rfl⟩
      obtain ⟨d, hd⟩ : ∃ d, needsI l[k].1 = d := ⟨_, rfl⟩
      rw [hr, hd] at hst
      have HST : Hid (heapN (l.take (k + 1)) 0 = if r = true ∧ d ≤ c then some (c + 1 - d) else none) := hst
      have HRR : Hid (itemB l[k] = r) := hr
      have HD : Hid (needsI l[k].1 = d) := hd
      have hd2 : d ≤ 2 := by rw [← hd]; unfold needsI; (repeat' split) <;> omega
      clear hst hr hd
      generalize l[k] = x at c0 c1 c2 c3 c4 hf1 hf2 HRR HD
      go_wp2_with fail
      refine (item_spec x _ hf2 hf1 r HRR.out).mono ?_
      rintro e w1 ⟨rfl, hb1⟩
      have hx1 := chain hbw hb1
      cases r
      · obtain rfl : b = false := HNO.out (by rw [HST.out, if_neg (by simp)])
        clear c0 c1 c2 c3 c4
        go_wp2
        go_ret
        exact ⟨rfl, hx1⟩
      rw [← hb1.cell (p := ⟨g, _, none⟩) hgw] at c0 c1 c2 c3 c4
      clear hb1
      go_wp2_with fail
      refine (needs_spec x.1 d HD.out _).mono ?_
      rintro e w2 ⟨rfl, rfl⟩
      by_cases hcd : d ≤ c
      · have h1 : ¬ (c : Int) < (d : Int) := by omega
        have HS2 : Hid (heapN (l.take (k + 1)) 0 = some (c + 1 - d)) := by
          have : heapN (l.take (k + 1)) 0 = some (c + 1 - d) := by rw [HST.out]; simp [hcd]
          exact this
        have hz : ((c + 1 - d : Nat) : Int) = (c : Int) + 1 - (d : Int) := by omega
        go_wp2_with fail
        refine (needs_spec x.1 d HD.out _).mono ?_
        rintro e w3 ⟨rfl, rfl⟩
        clear c0 c1 c2 c3 c4
        go_wp2
        go_roundw
        case rel => exact ⟨k + 1, c + 1 - d, by omega, by go_num, by rw [hz], by omega, HS2, hx1⟩
        case measure => simp [intOf]; omega
      · have h1 : (c : Int) < (d : Int) := by omega
        obtain rfl : b = false := HNO.out (by rw [HST.out, if_neg (fun h => hcd h.2)])
        clear c0 c1 c2 c3 c4
        go_wp2
        go_ret
        exact ⟨rfl, hx1⟩
    · have hkl : k = l.length := by omega
      subst hkl
      have hi1 : ¬ (l.length : Int) < (l.length : Int) := by omega
      have hh := hhp.out
      rw [List.take_length] at hh
      have HBB : Hid ((decide (c = 1) && decide (l.length ≤ 40)) = b) := by
        have : (decide (c = 1) && decide (l.length ≤ 40)) = b := by
          rw [← HB.out]; unfold sumB; rw [hh]; simp
        exact this
      clear hh
      by_cases e1 : c = 1
      · subst e1
        go_wp2
        go_ret
        exact ⟨ret_bool (by rw [← HBB.out]; simp; omega), hbw⟩
      · have e2 : ¬ (c : Int) = 1 := by omega
        have e3 : ((c : Int) == 1) = false := by simpa using e2
        go_wp2
        go_ret
        exact ⟨ret_bool (by rw [← HBB.out]; simp [e1]), hbw⟩
end Go.Proofs.YtfokdblojlmnlabGreatDoor
