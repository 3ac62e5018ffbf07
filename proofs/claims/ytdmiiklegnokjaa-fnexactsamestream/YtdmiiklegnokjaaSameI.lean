/-
  SameStream, of the model and of the program.
-/
import Derived.Test.YtdmiiklegnokjaaStrmL
import Derived.Test.YtdmiiklegnokjaaDistI
namespace Go.Proofs.Ytdmiiklegnokjaa
open Go.ChangeShapes Go.WideShapes Go.ChangeAt Go.RowKit
attribute [local go_sem ↓] Go.wp_at_zero Go.wp_at_succ
attribute [local simp] World.cell?_alloc_past World.cell?_alloc_at World.frozen?_alloc_at cell_far cell_off cell_here World.frozen?_alloc_past

set_option maxRecDepth 100000 in
set_option maxHeartbeats 4000000 in
theorem samestream_spec (a b : Option Addr) (n m ca cb : Nat) (L M : List (List CT)) (hn : L.length = n) (hm : M.length = m) (f g : Int) (w : World) (ha : RowsAt w a L) (hb : RowsAt w b M) (hl : n ≤ maxLen) (hl2 : m ≤ maxLen) (r : Bool) (hr : sameS L M f g = r) :
    Calls Try.prog 5 #[.agg #[.slice a n ca, .int .i64 f], .agg #[.slice b m cb, .int .i64 g]] w fun e w' => e = .returned (.bool r) ∧ Below w.heap.size w w' := by
  have HA : Hid (RowsAt w a L) := ha
  have HB : Hid (RowsAt w b M) := hb
  have HN : Hid (L.length = n) := hn
  have HM : Hid (M.length = m) := hm
  unfold maxLen at hl hl2
  obtain ⟨V, hV⟩ : ∃ V, V = (w.alloc (.cells #[.slice a n ca, .int .i64 f] 29)).alloc (.cells #[.slice b m cb, .int .i64 g] 29) := ⟨_, rfl⟩
  have hA : Below w.heap.size w V := by rw [hV]; exact ((Below.refl _ _).alloc (Nat.le_refl _) _).alloc (by simp) _
  have hs : w.heap.size + 2 ≤ V.heap.size := by rw [hV]; simp
  have p0 : V.cell? ⟨w.heap.size, 0, none⟩ = some (.slice a n ca) := by rw [hV]; simp [go_sem]
  have p1 : V.cell? ⟨w.heap.size, 1, none⟩ = some (.int .i64 f) := by rw [hV]; simp [go_sem]
  have q0 : V.cell? ⟨w.heap.size + 1, 0, none⟩ = some (.slice b m cb) := by rw [hV]; simp [go_sem]
  have q1 : V.cell? ⟨w.heap.size + 1, 1, none⟩ = some (.int .i64 g) := by rw [hV]; simp [go_sem]
  by_cases hnm : n = m
  · by_cases hfg : f = g
    · subst hnm
      subst hfg
      have HR : Hid (sameRows L M = r) := by
        have : sameRows L M = r := by rw [← hr]; simp [sameS]
        exact this
      clear ha hb hn hm hr
      go_enter Try.func5, Try.ntmps5
      go_wp2
      rw [← hV]
      clear hV
      go_loopw [5] (fun kk wr => ∃ k : Nat, k ≤ n ∧ kk = .int .i64 k ∧ Hid (∀ j (h1 : j < L.length) (h2 : j < M.length), j < k → sameRow L[j] M[j] = true) ∧ Below V.heap.size V wr) (fun kk _ => n - (intOf kk).toNat)
      case atStart => exact ⟨0, Nat.zero_le _, rfl, fun j _ _ h => by omega, Below.refl _ _⟩
      case round =>
        obtain ⟨k, hk, rfl, hall, hbw⟩ := hrel
        have c00 := (hbw.cell (p := ⟨w.heap.size, 0, none⟩) (show w.heap.size < V.heap.size by omega)).trans p0
        have d00 := (hbw.cell (p := ⟨w.heap.size + 1, 0, none⟩) (show w.heap.size + 1 < V.heap.size by omega)).trans q0
        have hbx := chain hA hbw
        have hsr : w.heap.size + 2 ≤ wr.heap.size := Nat.le_trans hs hbw.size
        by_cases hlt : k < n
        · have hk1 : k < L.length := by rw [HN.out]; exact hlt
          have hk2 : k < M.length := by rw [HM.out]; exact hlt
          obtain ⟨b1, o1, a1, i1, rfl, hb1w, c0, hra, _, hml, _⟩ := HA.out.below hbx k hk1
          obtain ⟨b2, o2, a2, i2, rfl, hb2w, d0, hrb, _, hml2, _⟩ := HB.out.below hbx k hk2
          have hi0 : (0 : Int) ≤ (k : Int) := by omega
          have hi1 : (k : Int) < (n : Int) := by omega
          have RA : Hid (RowAt wr a1 L[k]) := hra
          have RB : Hid (RowAt wr a2 M[k]) := hrb
          obtain ⟨q, hq⟩ : ∃ q, sameRow L[k] M[k] = q := ⟨_, rfl⟩
          have HQ : Hid (sameRow L[k] M[k] = q) := hq
          have hyes : Hid (q = true → ∀ j (h1 : j < L.length) (h2 : j < M.length), j < k + 1 → sameRow L[j] M[j] = true) := by
            have : q = true → ∀ j (h1 : j < L.length) (h2 : j < M.length), j < k + 1 → sameRow L[j] M[j] = true := by
              intro e j h1 h2 hj
              by_cases hjk : j < k
              · exact hall.out j h1 h2 hjk
              · obtain rfl : j = k := by omega
                rw [hq, e]
            exact this
          have hno : Hid (q = false → r = false) := by
            have : q = false → r = false := fun e => by rw [← HR.out]; exact sameRows_at k hk1 hk2 (by rw [hq, e])
            exact this
          clear hra hrb hq hbx
          generalize L[k] = x at c0 RA HQ hml
          generalize M[k] = y at d0 RB HQ hml2
          go_wp2_with fail
          go_region_held3 (fun w' => w'.cell? ⟨b1, o1 + k, none⟩ = some (.slice a1 x.length i1) ∧ w'.cell? ⟨b2, o2 + k, none⟩ = some (.slice a2 y.length i2) ∧ w'.cell? ⟨w.heap.size, 0, none⟩ = some (.slice (some ⟨b1, o1, none⟩) n ca) ∧ w'.cell? ⟨w.heap.size + 1, 0, none⟩ = some (.slice (some ⟨b2, o2, none⟩) n cb))
            (((try dsimp only); (repeat' apply And.intro) <;> first | (go_keep; done) | (simp (disch := first | omega | (simp <;> omega) | fail) [*]; done) | fail))
            ((go_at_call 10; refine (same_specR _ _ _ _ x y _ (RA.out.below (Below.refl _ _).drew) (RB.out.below (Below.refl _ _).drew) hml q HQ.out).mono ?_; rintro e w1 ⟨rfl, hb1⟩; obtain ⟨hc, hf⟩ := bcell hb1))
          all_goals
            clear hc hf c0 d0 c00 d00
            cases q
            · have e := hno.out rfl
              subst e
              go_wp2
              go_ret
              exact ⟨rfl, chain (chain hA hbw) (undrew hb1)⟩
            · go_wp2
              go_roundw
              case rel => exact ⟨k + 1, by omega, by go_num, hyes.out (by trivial), chain hbw (undrew hb1)⟩
              case measure => simp [intOf]; omega
        · have hkl : k = n := by omega
          subst hkl
          have hi1 : ¬ (k : Int) < (k : Int) := by omega
          have e : r = true := by
            rw [← HR.out]
            exact sameRows_all (by rw [HN.out, HM.out]) (fun j h1 h2 => hall.out j h1 h2 (by rw [← HN.out]; exact h1))
          subst e
          go_wp2
          go_ret
          exact ⟨rfl, hbx⟩
    · have e : r = false := by rw [← hr]; simp [sameS, hfg]
      subst e
      subst hnm
      have hfg' : (f != g) = true := by simp [hfg]
      clear ha hb hn hm hr hfg
      go_enter Try.func5, Try.ntmps5
      go_wp2
      rw [← hV]
      go_ret
      exact ⟨rfl, hA⟩
  · have e : r = false := by rw [← hr]; simp [sameS, sameRows_len (l := L) (m := M) (by rw [hn, hm]; exact hnm)]
    subst e
    have hnm' : ((n : Int) != (m : Int)) = true := by simp; omega
    clear ha hb hn hm hr
    go_enter Try.func5, Try.ntmps5
    go_wp2
    rw [← hV]
    go_ret
    exact ⟨rfl, hA⟩
theorem samerow_impl (a b : Option Addr) (ca cb : Nat) (l m : List CT) (w : World) (ha : RowAt w a l) (hb : RowAt w b m) (hl : l.length ≤ maxLen) (r : Bool) (hr : sameRow l m = r) :
    Calls Try.prog 12 #[.slice a l.length ca, .slice b m.length cb] w fun e w' => e = .returned (.bool r) ∧ Below w.heap.size w w' := by
  have HA : Hid (RowAt w a l) := ha
  have HB : Hid (RowAt w b m) := hb
  have HR : Hid (sameRow l m = r) := hr
  have HM : Hid (l.length ≤ maxLen) := hl
  clear ha hb hr hl
  go_enter Try.func12, Try.ntmps12
  go_wp2_with fail
  refine (equal_impl _ _ _ _ l m _ HA.out HB.out HM.out r HR.out).mono ?_
  rintro e w1 ⟨rfl, hb1⟩
  go_wp2
  go_ret
  exact ⟨rfl, hb1⟩
set_option maxRecDepth 100000 in
set_option maxHeartbeats 4000000 in
theorem equalfunc_impl (a b : Option Addr) (n m ca cb : Nat) (L M : List (List CT)) (hn : L.length = n) (hm : M.length = m) (w : World) (ha : RowsAt w a L) (hb : RowsAt w b M) (hl : n ≤ maxLen) (hl2 : m ≤ maxLen) (r : Bool) (hr : sameRows L M = r) :
    Calls Try.prog 14 #[.slice a n ca, .slice b m cb, .func (.func 12) #[] #[]] w fun e w' => e = .returned (.bool r) ∧ Below w.heap.size w w' := by
  have HA : Hid (RowsAt w a L) := ha
  have HB : Hid (RowsAt w b M) := hb
  have HN : Hid (L.length = n) := hn
  have HM : Hid (M.length = m) := hm
  unfold maxLen at hl hl2
  by_cases hnm : n = m
  · subst hnm
    have HR : Hid (sameRows L M = r) := hr
    clear ha hb hn hm hr
    go_enter Try.func14, Try.ntmps14
    go_wp2
    go_loopw [17] (fun kk wr => ∃ k : Nat, k ≤ n ∧ kk = .int .i64 k ∧ Hid (∀ j (h1 : j < L.length) (h2 : j < M.length), j < k → sameRow L[j] M[j] = true) ∧ Below w.heap.size w wr) (fun kk _ => n - (intOf kk).toNat)
    case atStart => exact ⟨0, Nat.zero_le _, rfl, fun j _ _ h => by omega, Below.refl _ _⟩
    case round =>
      obtain ⟨k, hk, rfl, hall, hbw⟩ := hrel
      by_cases hlt : k < n
      · have hk1 : k < L.length := by rw [HN.out]; exact hlt
        have hk2 : k < M.length := by rw [HM.out]; exact hlt
        obtain ⟨b1, o1, a1, i1, rfl, hb1w, c0, hra, _, hml, _⟩ := HA.out.below hbw k hk1
        obtain ⟨b2, o2, a2, i2, rfl, hb2w, d0, hrb, _, hml2, _⟩ := HB.out.below hbw k hk2
        have hi0 : (0 : Int) ≤ (k : Int) := by omega
        have hi1 : (k : Int) < (n : Int) := by omega
        have RA : Hid (RowAt wr a1 L[k]) := hra
        have RB : Hid (RowAt wr a2 M[k]) := hrb
        obtain ⟨q, hq⟩ : ∃ q, sameRow L[k] M[k] = q := ⟨_, rfl⟩
        have HQ : Hid (sameRow L[k] M[k] = q) := hq
        have hyes : Hid (q = true → ∀ j (h1 : j < L.length) (h2 : j < M.length), j < k + 1 → sameRow L[j] M[j] = true) := by
          have : q = true → ∀ j (h1 : j < L.length) (h2 : j < M.length), j < k + 1 → sameRow L[j] M[j] = true := by
            intro e j h1 h2 hj
            by_cases hjk : j < k
            · exact hall.out j h1 h2 hjk
            · obtain rfl : j = k := by omega
              rw [hq, e]
          exact this
        have hno : Hid (q = false → r = false) := by
          have : q = false → r = false := fun e => by rw [← HR.out]; exact sameRows_at k hk1 hk2 (by rw [hq, e])
          exact this
        clear hra hrb hq
        generalize L[k] = x at c0 RA HQ hml
        generalize M[k] = y at d0 RB HQ hml2
        go_wp2_with fail
        refine (samerow_impl _ _ _ _ x y _ RA.out RB.out hml q HQ.out).mono ?_
        rintro e w1 ⟨rfl, hb1⟩
        clear c0 d0
        cases q
        · have e := hno.out rfl
          subst e
          go_wp2
          go_ret
          exact ⟨rfl, chain hbw hb1⟩
        · go_wp2
          go_roundw
          case rel => exact ⟨k + 1, by omega, by go_num, hyes.out (by trivial), chain hbw hb1⟩
          case measure => simp [intOf]; omega
      · have hkl : k = n := by omega
        subst hkl
        have hi1 : ¬ (k : Int) < (k : Int) := by omega
        have e : r = true := by
          rw [← HR.out]
          exact sameRows_all (by rw [HN.out, HM.out]) (fun j h1 h2 => hall.out j h1 h2 (by rw [← HN.out]; exact h1))
        subst e
        go_wp2
        go_ret
        exact ⟨rfl, hbw⟩
  · have e : r = false := by rw [← hr]; exact sameRows_len (by rw [hn, hm]; exact hnm)
    subst e
    have hnm' : ((n : Int) != (m : Int)) = true := by simp; omega
    clear ha hb hn hm hr
    go_enter Try.func14, Try.ntmps14
    go_wp2
    go_ret
    exact ⟨rfl, Below.refl _ _⟩
set_option maxRecDepth 100000 in
set_option maxHeartbeats 4000000 in
theorem samestream_impl (a b : Option Addr) (n m ca cb : Nat) (L M : List (List CT)) (hn : L.length = n) (hm : M.length = m) (f g : Int) (w : World) (ha : RowsAt w a L) (hb : RowsAt w b M) (hl : n ≤ maxLen) (hl2 : m ≤ maxLen) (r : Bool) (hr : sameS L M f g = r) :
    Calls Try.prog 7 #[.agg #[.slice a n ca, .int .i64 f], .agg #[.slice b m cb, .int .i64 g]] w fun e w' => e = .returned (.bool r) ∧ Below w.heap.size w w' := by
  have HA : Hid (RowsAt w a L) := ha
  have HB : Hid (RowsAt w b M) := hb
  have HN : Hid (L.length = n) := hn
  have HM : Hid (M.length = m) := hm
  obtain ⟨V, hV⟩ : ∃ V, V = (w.alloc (.cells #[.slice a n ca, .int .i64 f] 29)).alloc (.cells #[.slice b m cb, .int .i64 g] 29) := ⟨_, rfl⟩
  have hA : Below w.heap.size w V := by rw [hV]; exact ((Below.refl _ _).alloc (Nat.le_refl _) _).alloc (by simp) _
  by_cases hfg : f = g
  · subst hfg
    have HR : Hid (sameRows L M = r) := by
      have : sameRows L M = r := by rw [← hr]; simp [sameS]
      exact this
    clear ha hb hn hm hr
    go_enter Try.func7, Try.ntmps7
    go_wp2_with fail
    rw [← hV]
    refine (equalfunc_impl _ _ n m _ _ L M HN.out HM.out _ (HA.out.below hA) (HB.out.below hA) hl hl2 r HR.out).mono ?_
    rintro e w1 ⟨rfl, hb1⟩
    clear hV
    go_wp2
    go_ret
    exact ⟨rfl, chain hA hb1⟩
  · have e : r = false := by rw [← hr]; simp [sameS, hfg]
    subst e
    have hfg' : (f == g) = false := by simp [hfg]
    clear ha hb hn hm hr hfg
    go_enter Try.func7, Try.ntmps7
    go_wp2
    rw [← hV]
    go_ret
    exact ⟨rfl, hA⟩
end Go.Proofs.Ytdmiiklegnokjaa
