/-
  The contract of the model's TokensOf.
-/
import Derived.Test.YtgiknjlifocioaaDoorNextS
namespace Go.Proofs.YtgiknjlifocioaaDoor
open Go.ChangeShapes Go.WideShapes Go.ChangeAt Go.RowKit
attribute [local go_sem ↓] Go.wp_at_zero Go.wp_at_succ

theorem Rest.one {s : ByteArray} {k : Nat} {out : List TT} (h : Rest s k out) (hk : k < s.size) (h32 : (s[k]'hk).toNat = 32) : Rest s (k + 1) out := by
  unfold Rest at h ⊢
  have e : s.data.toList.drop k = s[k] :: s.data.toList.drop (k + 1) := by rw [List.drop_eq_getElem_cons (by simpa using hk)]; rfl
  rw [h, e, byteIs h32 (by decide)]
  exact congrArg (Option.map (out ++ ·)) (toksL_blank _)
theorem Rest.next {s : ByteArray} {k : Nat} {out : List TT} (h : Rest s k out) (hs : s.size ≤ 2000) (hk : k < s.size) (h32 : ¬ (s[k]'hk).toNat = 32) {t : TT} {r : Nat} (hr : nextR s k = (t, r)) :
    (r = k ∧ toksR s = ([], false)) ∨ (k < r ∧ r ≤ s.size ∧ Rest s r (out ++ [t])) := by
  have e : s.data.toList.drop k = s[k] :: s.data.toList.drop (k + 1) := by rw [List.drop_eq_getElem_cons (by simpa using hk)]; rfl
  have hx := toksL_next s[k] (s.data.toList.drop (k + 1)) (fun e => h32 (by rw [e]; rfl))
  rw [← e] at hx
  unfold Rest at h
  unfold nextR at hr
  cases hn : nextT (s.data.toList.drop k) with
  | none =>
    rw [hn] at hr hx
    injection hr with _ h2
    refine .inl ⟨h2.symm, ?_⟩
    rw [hx] at h
    unfold toksR
    rw [toksB_L hs, h]
    rfl
  | some p =>
    obtain ⟨u, m⟩ := p
    rw [hn] at hr hx
    injection hr with h1 h2
    subst h1 h2
    obtain ⟨_, hm, hml, _⟩ := nextT_ok (by rw [e]; simp) hn
    rw [List.length_drop, ← Lib.size_eq] at hml
    refine .inr ⟨by omega, by omega, ?_⟩
    unfold Rest
    rw [h, hx]
    simp only []
    rw [List.drop_drop, Option.map_map]
    congr 1
    funext x
    simp
set_option maxRecDepth 100000 in
set_option maxHeartbeats 4000000 in
theorem tokensof_spec (s : ByteArray) (w : World) (l : List TT) (b : Bool) (hR : toksR s = (l, b)) (hm : s.size ≤ 1048576) :
    Calls Tryd.prog 4 #[.string s] w fun e w' => ∃ v, e = .returned (.tuple #[v, .bool b]) ∧ AnsTok w' w.heap.size v l ∧ Below w.heap.size w w' := by
  obtain ⟨i0, hti, hz0, hz1, hz2⟩ := info_parts infoTok5
  have own0 : Hid (AnsTok (w.alloc (.cells #[] 31)) w.heap.size (.slice (some ⟨w.heap.size, 0, none⟩) 0 0) []) := ansTok_none w _ (Nat.le_refl _)
  have hb0 : Below w.heap.size w (w.alloc (.cells #[] 31)) := (Below.refl _ _).alloc (Nat.le_refl _) _
  have HR : Hid (toksR s = (l, b)) := hR
  clear hR
  by_cases hs : (2000 : Int) < (s.size : Int)
  · have hf := HR.out
    unfold toksR at hf
    rw [toksB_long (by omega)] at hf
    injection hf with e1 e2
    subst e1 e2
    have hs1 : ¬ (s.size : Int) ≤ 2000 := by omega
    have hs0 : (0 : Int) < (s.size : Int) := by omega
    have hs3 : ((0 : Int) == (s.size : Int)) = false := by simpa using (show ¬ (0 : Int) = (s.size : Int) by omega)
    go_enter Tryd.func4, Tryd.ntmps4
    go_wp2
    go_loopw [4, 5] (fun v kk wr => v = .slice (some ⟨w.heap.size, 0, none⟩) 0 0 ∧ kk = .int .i64 0 ∧ wr = w.alloc (.cells #[] 31)) (fun _ _ _ => 0)
    case atStart => exact ⟨rfl, rfl, rfl⟩
    case round =>
      obtain ⟨rfl, rfl, rfl⟩ := hrel
      go_wp2
      go_ret2
      exact ⟨_, rfl, own0.out, hb0⟩
  have hs2 : s.size ≤ 2000 := by omega
  have hs1 : (s.size : Int) ≤ 2000 := by omega
  clear hs
  go_enter Tryd.func4, Tryd.ntmps4
  go_wp2
  go_loopw [4, 5] (fun v kk wr => ∃ (k : Nat) (out : List TT), k ≤ s.size ∧ kk = .int .i64 k ∧ Hid (Rest s k out) ∧ Hid (AnsTok wr w.heap.size v out) ∧ out.length ≤ k ∧ Below w.heap.size w wr) (fun _ kk _ => s.size - (intOf kk).toNat)
  case atStart => exact ⟨0, [], Nat.zero_le _, rfl, Rest.start s, own0, Nat.le_refl _, hb0⟩
  case round =>
    obtain ⟨k, out, hk, rfl, hRd, hO, hol, hb⟩ := hrel
    by_cases hlt : k < s.size
    · have hi0 : (0 : Int) ≤ (k : Int) := by omega
      have hi1 : (k : Int) < (s.size : Int) := by omega
      obtain ⟨x, hx⟩ : ∃ x, (s[k]'hlt).toNat = x := ⟨_, rfl⟩
      by_cases h32 : x = 32
      · subst h32
        have hRd2 : Hid (Rest s (k + 1) out) := hRd.out.one hlt hx
        go_wp2
        go_roundw
        case rel => exact ⟨k + 1, out, by omega, by go_num, hRd2, hO, by omega, hb⟩
        case measure => simp [intOf]; omega
      have g32 : ((x : Int) == 32) = false := by simpa using (show ¬ (x : Int) = 32 by omega)
      obtain ⟨t, r, hN⟩ : ∃ t r, nextR s k = (t, r) := ⟨_, _, rfl⟩
      have hst := hRd.out.next hs2 hlt (by rw [hx]; exact h32) hN
      have HN : Hid (nextR s k = (t, r)) := hN
      clear hN
      go_wp2_with fail
      refine (next_spec s hs2 k hlt t r HN.out _).mono ?_
      rintro e w2 ⟨rfl, hb2⟩
      have hbx2 := chain hb hb2
      have O1 := own_below hO.out.1 hb2
      have hvn := hO.out.2
      obtain ⟨tk, ts, ck, cn, ct⟩ := t
      dsimp only
      rcases hst with ⟨hrk, hno⟩ | ⟨hkr, hrs, hyes⟩
      · have hf := HR.out
        rw [hno] at hf
        injection hf with e1 e2
        subst e1 e2 hrk
        clear O1 hO hx hno
        have hA : Hid (AnsTok ((w2.alloc (.cells #[.int .i64 tk, .string ts, .int .i64 ck, .int .i64 cn, .string ct] 31)).alloc (.cells #[] 31)) w.heap.size (.slice (some ⟨w2.heap.size + 1, 0, none⟩) 0 0) []) := by
          have := ansTok_none (w2.alloc (.cells #[.int .i64 tk, .string ts, .int .i64 ck, .int .i64 cn, .string ct] 31)) w.heap.size (by have := hbx2.size; simp; omega)
          have e : (w2.alloc (.cells #[.int .i64 tk, .string ts, .int .i64 ck, .int .i64 cn, .string ct] 31)).heap.size = w2.heap.size + 1 := by simp
          rw [e] at this
          exact this
        have hbe : Below w.heap.size w ((w2.alloc (.cells #[.int .i64 tk, .string ts, .int .i64 ck, .int .i64 cn, .string ct] 31)).alloc (.cells #[] 31)) := (hbx2.alloc hbx2.size _).alloc (by have := hbx2.size; simp; omega) _
        go_wp2
        go_ret2
        exact ⟨_, rfl, hA.out, hbe⟩
      · have hrk : ((r : Int) == (k : Int)) = false := by simpa using (show ¬ (r : Int) = (k : Int) by omega)
        have hYes : Hid (Rest s r (out ++ [(tk, ts, ck, cn, ct)])) := hyes
        clear hyes hx
        have O2 := (O1.alloc (.cells #[.int .i64 tk, .string ts, .int .i64 ck, .int .i64 cn, .string ct] 31))
        clear O1 hO
        go_wp2_with (at_builtin; refine wpList_append_own _ rfl _ _ 22 rfl w.heap.size 31 i0 (.agg #[.int .i64 0, .string ⟨#[]⟩, .int .i64 0, .int .i64 0, .string ⟨#[]⟩]) 5 56 Tryd.underlying22 hti hz0 hz1 hz2 rfl (by decide) _ _ _ rfl (O2.alloc _) ⟨w2.heap.size + 1, 0, none⟩ 1 1 [.int .i64 tk, .string ts, .int .i64 ck, .int .i64 cn, .string ct] rfl rfl (cells5 w2 _ _ _ _ _ _ _ _ _ _) ?c2 ?c3 ?c4 ?c5 ?_)
        case c2 => intro u hu; simp at hu; rcases hu with rfl | rfl | rfl | rfl | rfl <;> rfl
        case c3 => unfold maxLen; omega
        case c4 => omega
        case c5 => have := hbx2.size; simp; omega
        intro v' w3 own3 hgrow hnn
        have hx2 : Below w.heap.size w w3 := by
          have hbA := hbx2.alloc hbx2.size (.cells #[.int .i64 tk, .string ts, .int .i64 ck, .int .i64 cn, .string ct] 31)
          refine (hbA.alloc hbA.size _).grown hgrow (by have := hbA.size; simp at this ⊢; omega) ?_
          intro kk hkk
          exact (O2.lt kk hkk).1
        have hvn2 : v' ≠ .slice none 0 0 := by first | exact hnn | exact fun e => hvn (hnn.1 e).1
        have SS : Hid (AnsTok w3 w.heap.size v' (out ++ [(tk, ts, ck, cn, ct)])) := by
          refine ⟨?_, hvn2⟩
          rw [flatTok_snoc, List.length_append]
          exact own3
        clear own3 hgrow hnn O2
        go_wp2
        go_roundw
        case rel => exact ⟨r, _, hrs, rfl, hYes, SS, by rw [List.length_append, List.length_singleton]; omega, hx2⟩
        case measure => simp [intOf]; omega
    · have hkl : k = s.size := by omega
      subst hkl
      have hi1 : ¬ (s.size : Int) < (s.size : Int) := by omega
      have hf := HR.out
      rw [hRd.out.done (Nat.le_refl _) hs2] at hf
      injection hf with e1 e2
      subst e1 e2
      go_wp2
      go_ret2
      exact ⟨_, by simp, hO.out, hb⟩
end Go.Proofs.YtgiknjlifocioaaDoor
