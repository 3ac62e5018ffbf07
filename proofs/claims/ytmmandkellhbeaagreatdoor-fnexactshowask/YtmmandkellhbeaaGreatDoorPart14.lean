/-
  A part of the proof: ShowI8, Until.
-/
import Derived.Test.YtmmandkellhbeaaGreatDoorPart13
import Derived.Test.YtmmandkellhbeaaGreatDoorPart5
import Derived.Deep.RegionHeld3

/-
  The contracts of the program's text of an item and of a sum.
-/
namespace Go.Proofs.YtmmandkellhbeaaGreatDoor
open Go.ChangeShapes Go.WideShapes Go.ChangeAt Go.RowKit
attribute [local go_sem ↓] Go.wp_at_zero Go.wp_at_succ
attribute [local simp] World.cell?_alloc_past World.cell?_alloc_at World.frozen?_alloc_at cell_far cell_off cell_here World.frozen?_alloc_past

theorem tkOf_fits {x : TI} (h : itemB x = true) : (tkOf x).2.1.size ≤ 12 ∧ (tkOf x).2.2.2.2.size ≤ 12 := by
  have := itemB_fits h
  unfold tkOf
  split
  · exact ⟨Nat.zero_le _, this.1⟩
  · exact ⟨this.2, Nat.zero_le _⟩
theorem tok_one (w : World) (t : TT) : TokAt (w.alloc (.cells #[.int .i64 t.1, .string t.2.1, .int .i64 t.2.2.1, .int .i64 t.2.2.2.1, .string t.2.2.2.2] 105)) (some ⟨w.heap.size, 0, none⟩) [t] := by
  intro j hj
  have e : j = 0 := by simp at hj; omega
  subst e
  refine ⟨w.heap.size, 0, rfl, by simp, ?_, ?_, ?_, ?_, ?_⟩ <;> simp [World.cell?_alloc_at]
theorem agg5 (x : TI) : Value.agg #[.int .i64 x.1, .int .i64 x.2.1.1, .int .i64 x.2.1.2.1, .string x.2.1.2.2, .string x.2.2] = .agg #[.int .i64 x.1, .int .i64 x.2.1.1, .int .i64 x.2.1.2.1, .string x.2.1.2.2, .string x.2.2] := rfl
set_option maxHeartbeats 1000000 in
theorem alone_impl (x : TI) (hx : x.1 = 1 ∨ x.1 = 2) (hi : itemB x = true) (t : TT) (ht : tkOf x = t) (w : World) :
    Calls Tryz.prog 145 #[.agg #[.int .i64 x.1, .int .i64 x.2.1.1, .int .i64 x.2.1.2.1, .string x.2.1.2.2, .string x.2.2]] w fun e w' => e = .returned (.agg #[.int .i64 t.1, .string t.2.1, .int .i64 t.2.2.1, .int .i64 t.2.2.2.1, .string t.2.2.2.2]) ∧ Below w.heap.size w w' := by
  obtain ⟨k, ⟨ck, cn, ct⟩, s⟩ := x
  dsimp only at hx ⊢
  rcases hx with rfl | rfl
  · obtain rfl : ((2, ⟨#[]⟩, ck, cn, ct) : TT) = t := ht
    dsimp only
    go_enter Tryz.func145, Tryz.ntmps145
    go_wp2
    exact bodyPost_ret (v := .agg #[.int .i64 2, .string ⟨#[]⟩, .int .i64 ck, .int .i64 cn, .string ct]) (by simp [results, Tryz.results145, go_sem, World.cell?_alloc_at]) rfl ⟨rfl, by go_grown⟩
  · obtain rfl : ((1, s, zeroC) : TT) = t := ht
    unfold zeroC
    dsimp only
    go_enter Tryz.func145, Tryz.ntmps145
    go_wp2
    exact bodyPost_ret (v := .agg #[.int .i64 1, .string s, .int .i64 0, .int .i64 0, .string ⟨#[]⟩]) (by simp [results, Tryz.results145, go_sem, World.cell?_alloc_at]) rfl ⟨rfl, by go_grown⟩
theorem joined2 (w0 : World) (b : Nat) (hb : b = w0.heap.size) (x z sep : ByteArray) (hsz : x.size + z.size + sep.size ≤ 1099511627776) (y : ByteArray) (hy : bytesOf (x.data.toList ++ (sep.data.toList ++ z.data.toList)) = y) :
    Calls Tryz.prog 37 #[.string sep, .slice (some ⟨b, 0, none⟩) 2 2] (w0.alloc (.cells #[.string x, .string z] 9)) fun e w' => e = .returned (.string y) ∧ Below (w0.alloc (.cells #[.string x, .string z] 9)).heap.size (w0.alloc (.cells #[.string x, .string z] 9)) w' := by
  subst hb
  have ej : Lib.join ([x, z].map (·.data.toList)) sep.data.toList = x.data.toList ++ (sep.data.toList ++ z.data.toList) := by simp [Lib.join]
  refine joined_impl w0.heap.size 2 [x, z] sep _ (fun j u hj => ?_) (by simp) (by simp) (by simp) ?_ y (by rw [ej]; exact hy)
  · match j, hj with
    | 0, hj => simp at hj; subst hj; simp [World.cell?_alloc_at]
    | 1, hj => simp at hj; subst hj; simp [World.cell?_alloc_at]
  · rw [ej]
    simp only [List.length_append]
    rw [← Lib.size_eq, ← Lib.size_eq, ← Lib.size_eq]
    omega
theorem joined3 (w0 : World) (b : Nat) (hb : b = w0.heap.size) (x z u sep : ByteArray) (hsz : x.size + z.size + u.size + 2 * sep.size ≤ 1099511627776) (y : ByteArray) (hy : bytesOf (x.data.toList ++ (sep.data.toList ++ (z.data.toList ++ (sep.data.toList ++ u.data.toList)))) = y) :
    Calls Tryz.prog 37 #[.string sep, .slice (some ⟨b, 0, none⟩) 3 3] (w0.alloc (.cells #[.string x, .string z, .string u] 9)) fun e w' => e = .returned (.string y) ∧ Below (w0.alloc (.cells #[.string x, .string z, .string u] 9)).heap.size (w0.alloc (.cells #[.string x, .string z, .string u] 9)) w' := by
  subst hb
  have ej : Lib.join ([x, z, u].map (·.data.toList)) sep.data.toList = x.data.toList ++ (sep.data.toList ++ (z.data.toList ++ (sep.data.toList ++ u.data.toList))) := by simp [Lib.join]
  refine joined_impl w0.heap.size 3 [x, z, u] sep _ (fun j v hj => ?_) (by simp) (by simp) (by simp) ?_ y (by rw [ej]; exact hy)
  · match j, hj with
    | 0, hj => simp at hj; subst hj; simp [World.cell?_alloc_at]
    | 1, hj => simp at hj; subst hj; simp [World.cell?_alloc_at]
    | 2, hj => simp at hj; subst hj; simp [World.cell?_alloc_at]
  · rw [ej]
    simp only [List.length_append]
    rw [← Lib.size_eq, ← Lib.size_eq, ← Lib.size_eq, ← Lib.size_eq]
    omega
theorem joined3c (w : World) (b : Nat) (hb : b < w.heap.size) (x z u sep : ByteArray) (h0 : w.cell? ⟨b, 0, none⟩ = some (.string x)) (h1 : w.cell? ⟨b, 1, none⟩ = some (.string z)) (h2 : w.cell? ⟨b, 2, none⟩ = some (.string u)) (hsz : x.size + z.size + u.size + 2 * sep.size ≤ 1099511627776) (y : ByteArray) (hy : bytesOf (x.data.toList ++ (sep.data.toList ++ (z.data.toList ++ (sep.data.toList ++ u.data.toList)))) = y) :
    Calls Tryz.prog 37 #[.string sep, .slice (some ⟨b, 0, none⟩) 3 3] w fun e w' => e = .returned (.string y) ∧ Below w.heap.size w w' := by
  have ej : Lib.join ([x, z, u].map (·.data.toList)) sep.data.toList = x.data.toList ++ (sep.data.toList ++ (z.data.toList ++ (sep.data.toList ++ u.data.toList))) := by simp [Lib.join]
  refine joined_impl b 3 [x, z, u] sep _ (fun j v hj => ?_) hb (by simp) (by simp) ?_ y (by rw [ej]; exact hy)
  · match j, hj with
    | 0, hj => simp at hj; subst hj; exact h0
    | 1, hj => simp at hj; subst hj; exact h1
    | 2, hj => simp at hj; subst hj; exact h2
  · rw [ej]
    simp only [List.length_append]
    rw [← Lib.size_eq, ← Lib.size_eq, ← Lib.size_eq, ← Lib.size_eq]
    omega
theorem leaf_text {x : TI} (h : itemB x = true) (hx : x.1 = 1 ∨ x.1 = 2) : toksT [tkOf x] = leafX x := by
  unfold toksT leafX
  rw [if_pos (by simp [tkOf_ok h hx])]
  first | rfl | simp [Lib.join, bytesOf]
set_option maxRecDepth 100000 in
set_option maxHeartbeats 4000000 in
theorem text0_impl (x : TI) (hi : itemB x = true) (hx : x.1 = 1 ∨ x.1 = 2) (pa : Option Addr) (pc : Nat) (w : World) (hp : PowAt w) (he : ErrAt w) (hs : SgnAt w) (y : ByteArray) (hy : leafX x = y) :
    Calls Tryz.prog 115 #[.agg #[.int .i64 x.1, .int .i64 x.2.1.1, .int .i64 x.2.1.2.1, .string x.2.1.2.2, .string x.2.2], .slice pa 0 pc] w fun e w' => e = .returned (.string y) ∧ Below w.heap.size w w' := by
  obtain ⟨k, ⟨ck, cn, ct⟩, s⟩ := x
  dsimp only at hx ⊢
  obtain ⟨m, rfl⟩ : ∃ m : Nat, k = (m : Int) := ⟨k.toNat, by omega⟩
  obtain ⟨t, ht⟩ : ∃ t, tkOf ((m : Int), (ck, cn, ct), s) = t := ⟨_, rfl⟩
  have HT : Hid (tkOf ((m : Int), (ck, cn, ct), s) = t) := ht
  have HI : Hid (itemB ((m : Int), (ck, cn, ct), s) = true) := hi
  have HX : Hid ((m : Int) = 1 ∨ (m : Int) = 2) := hx
  have HY : Hid (toksT [t] = y) := by
    have : toksT [t] = y := by rw [← ht, leaf_text hi hx]; exact hy
    exact this
  have hfit : t.2.1.size ≤ 1048576 ∧ t.2.2.2.2.size ≤ maxLen := by
    have := tkOf_fits hi
    rw [ht] at this
    unfold maxLen; omega
  clear hi ht hy
  have hc := hs.cell m (by omega)
  have hg0 := hs.lt
  have HP : Hid (PowAt w) := hp
  have HE : Hid (ErrAt w) := he
  have hi0 : (0 : Int) ≤ (m : Int) := by omega
  have hi1 : (m : Int) < 13 := by omega
  clear hp he hx
  go_enter Tryz.func115, Tryz.ntmps115
  go_wp2_with fail
  have hA : Below w.heap.size w (w.alloc (.cells #[.int .i64 (m : Int), .int .i64 ck, .int .i64 cn, .string ct, .string s] 79)) := (Below.refl _ _).alloc (Nat.le_refl _) _
  refine (alone_impl (m, (ck, cn, ct), s) HX.out HI.out t HT.out _).mono ?_
  rintro e w1 ⟨rfl, hb1⟩
  have hx1 := chain hA hb1
  clear hc hg0 hA hb1
  go_wp2_with fail
  have hx2 : Below w.heap.size w (w1.alloc (.cells #[.int .i64 t.1, .string t.2.1, .int .i64 t.2.2.1, .int .i64 t.2.2.2.1, .string t.2.2.2.2] 105)) := hx1.alloc hx1.size _
  refine (textof_impl (some ⟨w1.heap.size, 0, none⟩) 1 [t] _ (tok_one _ t) (by simpa using hfit) (by simp) (HP.out.below hx2) (HE.out.below hx2) y HY.out).mono ?_
  rintro e w2 ⟨rfl, hb2⟩
  have hx3 := chain hx2 hb2
  go_wp2
  go_ret
  exact ⟨rfl, hx3⟩
set_option maxRecDepth 100000 in
set_option maxHeartbeats 4000000 in
theorem text1_impl (x : TI) (hx : x.1 = 11 ∨ x.1 = 12) (g o pc : Nat) (u : ByteArray) (w : World) (hu : w.cell? ⟨g, o, none⟩ = some (.string u)) (hsz : u.size ≤ 1048576) (hs : SgnAt w) (y : ByteArray) (hy : oneX x.1 u = y) :
    Calls Tryz.prog 115 #[.agg #[.int .i64 x.1, .int .i64 x.2.1.1, .int .i64 x.2.1.2.1, .string x.2.1.2.2, .string x.2.2], .slice (some ⟨g, o, none⟩) 1 pc] w fun e w' => e = .returned (.string y) ∧ Below w.heap.size w w' := by
  obtain ⟨k, ⟨ck, cn, ct⟩, s⟩ := x
  dsimp only at hx hy ⊢
  obtain ⟨m, rfl⟩ : ∃ m : Nat, k = (m : Int) := ⟨k.toNat, by omega⟩
  have hc := hs.cell m (by omega)
  have hg0 := hs.lt
  have hgu := World.block_lt_of_cell? w _ hu
  have hi0 : (0 : Int) ≤ (m : Int) := by omega
  have hi1 : (m : Int) < 13 := by omega
  have hsg : sgn0 m = sgn (m : Int) := by unfold sgn0; rw [if_neg (by omega)]
  rw [hsg] at hc
  obtain ⟨q, hq⟩ : ∃ q, sgn (m : Int) = q := ⟨_, rfl⟩
  rw [hq] at hc
  have hqs := sgn_size (m : Int)
  rw [hq] at hqs
  obtain ⟨p1, hp1⟩ : ∃ p1, bytesOf (q.data.toList ++ (32 :: u.data.toList)) = p1 := ⟨_, rfl⟩
  have HP1 : Hid (bytesOf (q.data.toList ++ (([32] : List UInt8) ++ u.data.toList)) = p1) := hp1
  have HS1 : Hid ((⟨#[40]⟩ : ByteArray).size + p1.size + (⟨#[41]⟩ : ByteArray).size + 2 * (⟨#[]⟩ : ByteArray).size ≤ 1099511627776) := by
    have e1 : p1.size = (q.data.toList ++ (32 :: u.data.toList)).length := by rw [← hp1, bytesOf_size]
    have : (⟨#[40]⟩ : ByteArray).size + p1.size + (⟨#[41]⟩ : ByteArray).size + 2 * (⟨#[]⟩ : ByteArray).size ≤ 1099511627776 := by
      rw [e1]
      simp only [List.length_append, List.length_cons]
      rw [← Lib.size_eq, ← Lib.size_eq]
      have h1 : (⟨#[40]⟩ : ByteArray).size = 1 := rfl
      have h2 : (⟨#[41]⟩ : ByteArray).size = 1 := rfl
      have h3 : (⟨#[]⟩ : ByteArray).size = 0 := rfl
      omega
    exact this
  have HP2 : Hid (bytesOf (([40] : List UInt8) ++ (([] : List UInt8) ++ (p1.data.toList ++ (([] : List UInt8) ++ ([41] : List UInt8))))) = y) := by
    have : bytesOf (([40] : List UInt8) ++ (([] : List UInt8) ++ (p1.data.toList ++ (([] : List UInt8) ++ ([41] : List UInt8))))) = y := by
      rw [← hy, ← hp1]
      unfold oneX bytesOf
      rw [hq]
      simp
    exact this
  clear hs hx hsg hp1 hq hy
  go_enter Tryz.func115, Tryz.ntmps115
  go_wp2_with fail
  have hA : Below w.heap.size w ((w.alloc (.cells #[.int .i64 (m : Int), .int .i64 ck, .int .i64 cn, .string ct, .string s] 79)).alloc (.cells #[.string q, .string u] 9)) := by go_grown
  refine (joined2 (w.alloc (.cells #[.int .i64 (m : Int), .int .i64 ck, .int .i64 cn, .string ct, .string s] 79)) _ (by simp) q u ⟨#[32]⟩ (by have h : (⟨#[32]⟩ : ByteArray).size = 1 := rfl; omega) p1 HP1.out).mono ?_
  rintro e w1 ⟨rfl, hb1⟩
  have hx1 := chain hA hb1
  clear hc hu hA hb1
  go_wp2_with fail
  have hA2 : Below w.heap.size w (w1.alloc (.cells #[.string ⟨#[40]⟩, .string p1, .string ⟨#[41]⟩] 9)) := hx1.alloc hx1.size _
  refine (joined3 w1 _ rfl ⟨#[40]⟩ p1 ⟨#[41]⟩ ⟨#[]⟩ HS1.out y HP2.out).mono ?_
  rintro e w2 ⟨rfl, hb2⟩
  have hx2 := chain hA2 hb2
  go_wp2
  go_ret
  exact ⟨rfl, hx2⟩
set_option maxRecDepth 100000 in
set_option maxHeartbeats 4000000 in
theorem text2_impl (x : TI) (hx : 3 ≤ x.1 ∧ x.1 ≤ 10) (g o pc : Nat) (u v : ByteArray) (w : World) (hu : w.cell? ⟨g, o, none⟩ = some (.string u)) (hv : w.cell? ⟨g, o + 1, none⟩ = some (.string v)) (hsz : u.size ≤ 1048576) (hsv : v.size ≤ 1048576) (hs : SgnAt w) (y : ByteArray) (hy : twoX x.1 u v = y) :
    Calls Tryz.prog 115 #[.agg #[.int .i64 x.1, .int .i64 x.2.1.1, .int .i64 x.2.1.2.1, .string x.2.1.2.2, .string x.2.2], .slice (some ⟨g, o, none⟩) 2 pc] w fun e w' => e = .returned (.string y) ∧ Below w.heap.size w w' := by
  obtain ⟨k, ⟨ck, cn, ct⟩, s⟩ := x
  dsimp only at hx hy ⊢
  obtain ⟨m, rfl⟩ : ∃ m : Nat, k = (m : Int) := ⟨k.toNat, by omega⟩
  have hc := hs.cell m (by omega)
  have hg0 := hs.lt
  have hgu := World.block_lt_of_cell? w _ hu
  have hi0 : (0 : Int) ≤ (m : Int) := by omega
  have hi1 : (m : Int) < 13 := by omega
  have hsg : sgn0 m = sgn (m : Int) := by unfold sgn0; rw [if_neg (by omega)]
  rw [hsg] at hc
  have hqs := sgn_size (m : Int)
  obtain ⟨q, hq⟩ : ∃ q, sgn (m : Int) = q := ⟨_, rfl⟩
  rw [hq] at hc hqs
  obtain ⟨p1, hp1⟩ : ∃ p1, bytesOf (u.data.toList ++ (32 :: (q.data.toList ++ (32 :: v.data.toList)))) = p1 := ⟨_, rfl⟩
  have HP1 : Hid (bytesOf (u.data.toList ++ (([32] : List UInt8) ++ (q.data.toList ++ (([32] : List UInt8) ++ v.data.toList)))) = p1) := hp1
  have HS1 : Hid ((⟨#[40]⟩ : ByteArray).size + p1.size + (⟨#[41]⟩ : ByteArray).size + 2 * (⟨#[]⟩ : ByteArray).size ≤ 1099511627776) := by
    have e1 : p1.size = (u.data.toList ++ (32 :: (q.data.toList ++ (32 :: v.data.toList)))).length := by rw [← hp1, bytesOf_size]
    have : (⟨#[40]⟩ : ByteArray).size + p1.size + (⟨#[41]⟩ : ByteArray).size + 2 * (⟨#[]⟩ : ByteArray).size ≤ 1099511627776 := by
      rw [e1]
      simp only [List.length_append, List.length_cons]
      rw [← Lib.size_eq, ← Lib.size_eq, ← Lib.size_eq]
      have h1 : (⟨#[40]⟩ : ByteArray).size = 1 := rfl
      have h2 : (⟨#[41]⟩ : ByteArray).size = 1 := rfl
      have h3 : (⟨#[]⟩ : ByteArray).size = 0 := rfl
      omega
    exact this
  have HP2 : Hid (bytesOf (([40] : List UInt8) ++ (([] : List UInt8) ++ (p1.data.toList ++ (([] : List UInt8) ++ ([41] : List UInt8))))) = y) := by
    have : bytesOf (([40] : List UInt8) ++ (([] : List UInt8) ++ (p1.data.toList ++ (([] : List UInt8) ++ ([41] : List UInt8))))) = y := by
      rw [← hy, ← hp1]
      unfold twoX bytesOf
      rw [hq]
      simp
    exact this
  clear hs hx hsg hp1 hq hy
  go_enter Tryz.func115, Tryz.ntmps115
  go_wp2_with fail
  obtain ⟨V, hV⟩ : ∃ V, V = w.alloc (.cells #[.int .i64 (m : Int), .int .i64 ck, .int .i64 cn, .string ct, .string s] 79) := ⟨_, rfl⟩
  have hxV : Below w.heap.size w V := by rw [hV]; exact (Below.refl _ _).alloc (Nat.le_refl _) _
  rw [← hV]
  rw [← hxV.cell (p := ⟨g, _, none⟩) hgu] at hu hv
  have hgV : g < V.heap.size := by have := hxV.size; omega
  clear hV hc
  refine wp_region_held_drew (S := (fun w' => w'.cell? ⟨g, o, none⟩ = some (.string u) ∧ w'.cell? ⟨g, o + 1, none⟩ = some (.string v))) (by kernel_rfl) ?_ (fun hHeld => ?_)
  · (((try dsimp only); (repeat' apply And.intro) <;> first | (go_keep; done) | (simp (disch := first | omega | (simp <;> omega) | fail) [*]; done) | fail))
  refine wpAnyH_take (i := 0) (by simp only [List.getElem?_toArray, List.getElem?_cons_zero]; rfl) (by kernel_rfl) (by kernel_rfl) (by kernel_rfl) (by intro _ _ _ h; exact h) (Or.inl ⟨by rfl, fun w hSw => by (dsimp only at hSw; go_simp; (try with_reducible rfl))⟩) (by assumption) ?_
  simp only [Act.put, List.setIfInBounds_toArray, List.set_cons_zero, List.set_cons_succ]
  refine wpAnyH_take (i := 1) (by simp only [List.getElem?_toArray, List.getElem?_cons_zero, List.getElem?_cons_succ]; rfl) (by kernel_rfl) (by kernel_rfl) (by kernel_rfl) (by intro _ _ _ h; exact h) (Or.inl ⟨by rfl, fun w hSw => by (dsimp only at hSw; go_simp; (try with_reducible rfl))⟩) (by assumption) ?_
  simp only [Act.put, List.setIfInBounds_toArray, List.set_cons_zero, List.set_cons_succ]
  refine wpAnyH_take (i := 2) (by simp only [List.getElem?_toArray, List.getElem?_cons_zero, List.getElem?_cons_succ]; rfl) (by kernel_rfl) (by kernel_rfl) (by kernel_rfl) (by intro _ _ _ h; exact h) (Or.inl ⟨by rfl, fun w hSw => by (dsimp only at hSw; go_simp; (try with_reducible rfl))⟩) (by assumption) ?_
  simp only [Act.put, List.setIfInBounds_toArray, List.set_cons_zero, List.set_cons_succ]
  refine wpAnyH_take (i := 3) (by simp only [List.getElem?_toArray, List.getElem?_cons_zero, List.getElem?_cons_succ]; rfl) (by kernel_rfl) (by kernel_rfl) (by kernel_rfl) (by intro _ _ _ h; exact h) (Or.inl ⟨by rfl, fun w hSw => by (dsimp only at hSw; go_simp; (try with_reducible rfl))⟩) (by assumption) ?_
  simp only [Act.put, List.setIfInBounds_toArray, List.set_cons_zero, List.set_cons_succ]
  refine wpAnyH_take (i := 4) (by simp only [List.getElem?_toArray, List.getElem?_cons_zero, List.getElem?_cons_succ]; rfl) (by kernel_rfl) (by kernel_rfl) (by kernel_rfl) (by intro _ _ _ h; exact h) (Or.inl ⟨by rfl, fun w hSw => by (dsimp only at hSw; go_simp; (try with_reducible rfl))⟩) (by assumption) ?_
  simp only [Act.put, List.setIfInBounds_toArray, List.set_cons_zero, List.set_cons_succ]
  refine wpAnyH_take (i := 5) (by simp only [List.getElem?_toArray, List.getElem?_cons_zero, List.getElem?_cons_succ]; rfl) (by kernel_rfl) (by kernel_rfl) (by kernel_rfl) (by intro _ _ _ h; exact h) (Or.inl ⟨by rfl, fun w hSw => by (dsimp only at hSw; go_simp; (try with_reducible rfl))⟩) (by assumption) ?_
  simp only [Act.put, List.setIfInBounds_toArray, List.set_cons_zero, List.set_cons_succ]
  refine wpAnyH_take (i := 6) (by simp only [List.getElem?_toArray, List.getElem?_cons_zero, List.getElem?_cons_succ]; rfl) (by kernel_rfl) (by kernel_rfl) (by kernel_rfl) (by intro _ _ _ h; exact h) (Or.inl ⟨by rfl, fun w hSw => by (dsimp only at hSw; go_simp; (try with_reducible rfl))⟩) (by assumption) ?_
  simp only [Act.put, List.setIfInBounds_toArray, List.set_cons_zero, List.set_cons_succ]
  refine wpAnyH_ready (rs := [7]) (by kernel_rfl) (by simp) ?_
  refine AllReadyH.cons (by simp only [List.getElem?_toArray, List.getElem?_cons_zero, List.getElem?_cons_succ]; rfl) ?_ AllReadyH.nil
  intro K hK
  go_simp
  obtain ⟨V2, hV2⟩ : ∃ V2, V2 = (V.alloc (.cells #[.string u, .string q, .string v] 9)).drew := ⟨_, rfl⟩
  have hb2 : Below V.heap.size V V2 := by rw [hV2]; exact ((Below.refl _ _).alloc (Nat.le_refl _) _).drew
  have z0 : V2.cell? ⟨V.heap.size, 0, none⟩ = some (.string u) := by rw [hV2, World.cell?_drew]; simp
  have z1 : V2.cell? ⟨V.heap.size, 1, none⟩ = some (.string q) := by rw [hV2, World.cell?_drew]; simp
  have z2 : V2.cell? ⟨V.heap.size, 2, none⟩ = some (.string v) := by rw [hV2, World.cell?_drew]; simp
  have hu2 : V2.cell? ⟨g, o, none⟩ = some (.string u) := by rw [hb2.cell (p := ⟨g, o, none⟩) hgV]; exact hu
  have hv2 : V2.cell? ⟨g, o + 1, none⟩ = some (.string v) := by rw [hb2.cell (p := ⟨g, o + 1, none⟩) hgV]; exact hv
  have hx2 : Below w.heap.size w V2 := hxV.trans (hb2.mono hxV.size)
  have hg2 : V.heap.size < V2.heap.size := World.block_lt_of_cell? V2 _ z0
  have hgg : g < V2.heap.size := by omega
  rw [← hV2]
  obtain ⟨B, hB⟩ : ∃ B, V.heap.size = B := ⟨_, rfl⟩
  rw [hB] at z0 z1 z2 hg2 ⊢
  clear hV2 hu hv hgV hxV hb2 hB
  refine hK.out _ _ ?_ (fun hHeld => ?_)
  · exact ⟨hu2, hv2⟩
  clear hK K
  try simp only [Act.put, List.setIfInBounds_toArray, List.set_cons_zero, List.set_cons_succ]
  refine wpAnyH_ready (rs := [8]) (by kernel_rfl) (by simp) ?_
  refine AllReadyH.cons (by simp only [List.getElem?_toArray, List.getElem?_cons_zero, List.getElem?_cons_succ]; rfl) ?_ AllReadyH.nil
  intro K hK
  go_simp
  refine (joined3c V2 B hg2 u q v ⟨#[32]⟩ z0 z1 z2 (by have h : (⟨#[32]⟩ : ByteArray).size = 1 := rfl; omega) p1 HP1.out).mono ?_
  rintro e w3 ⟨rfl, hb3⟩
  have hx3 := chain hx2 hb3
  have hu3 : w3.cell? ⟨g, o, none⟩ = some (.string u) := by rw [hb3.cell (p := ⟨g, o, none⟩) hgg]; exact hu2
  have hv3 : w3.cell? ⟨g, o + 1, none⟩ = some (.string v) := by rw [hb3.cell (p := ⟨g, o + 1, none⟩) hgg]; exact hv2
  have hg3 : g < w3.heap.size := World.block_lt_of_cell? w3 _ hu3
  clear z0 z1 z2 hu2 hv2 hgg hx2 hg2 hb3
  go_wp2_with fail
  refine hK.out _ _ ?_ (fun hHeld => ?_)
  · exact ⟨hu3, hv3⟩
  clear hK K
  try simp only [Act.put, List.setIfInBounds_toArray, List.set_cons_zero, List.set_cons_succ]
  refine wpAnyH_ready (rs := [9]) (by kernel_rfl) (by simp) ?_
  refine AllReadyH.cons (by simp only [List.getElem?_toArray, List.getElem?_cons_zero, List.getElem?_cons_succ]; rfl) ?_ AllReadyH.nil
  intro K hK
  go_simp
  obtain ⟨V4, hV4⟩ : ∃ V4, V4 = w3.alloc (.cells #[.string ⟨#[40]⟩, .string p1, .string ⟨#[41]⟩] 9) := ⟨_, rfl⟩
  have hb4 : Below w3.heap.size w3 V4 := by rw [hV4]; exact (Below.refl _ _).alloc (Nat.le_refl _) _
  have z0 : V4.cell? ⟨w3.heap.size, 0, none⟩ = some (.string ⟨#[40]⟩) := by rw [hV4]; simp
  have z1 : V4.cell? ⟨w3.heap.size, 1, none⟩ = some (.string p1) := by rw [hV4]; simp
  have z2 : V4.cell? ⟨w3.heap.size, 2, none⟩ = some (.string ⟨#[41]⟩) := by rw [hV4]; simp
  have hu4 : V4.cell? ⟨g, o, none⟩ = some (.string u) := by rw [hb4.cell (p := ⟨g, o, none⟩) hg3]; exact hu3
  have hv4 : V4.cell? ⟨g, o + 1, none⟩ = some (.string v) := by rw [hb4.cell (p := ⟨g, o + 1, none⟩) hg3]; exact hv3
  have hx4 : Below w.heap.size w V4 := chain hx3 hb4
  have hg4 : w3.heap.size < V4.heap.size := World.block_lt_of_cell? V4 _ z0
  have hgg : g < V4.heap.size := by omega
  rw [← hV4]
  obtain ⟨B2, hB2⟩ : ∃ B, w3.heap.size = B := ⟨_, rfl⟩
  rw [hB2] at z0 z1 z2 hg4 ⊢
  clear hV4 hu3 hv3 hg3 hx3 hb4 hB2
  refine hK.out _ _ ?_ (fun hHeld => ?_)
  · exact ⟨hu4, hv4⟩
  clear hK K
  try simp only [Act.put, List.setIfInBounds_toArray, List.set_cons_zero, List.set_cons_succ]
  refine wpAnyH_ready (rs := [10]) (by kernel_rfl) (by simp) ?_
  refine AllReadyH.cons (by simp only [List.getElem?_toArray, List.getElem?_cons_zero, List.getElem?_cons_succ]; rfl) ?_ AllReadyH.nil
  intro K hK
  go_simp
  refine (joined3c V4 B2 hg4 ⟨#[40]⟩ p1 ⟨#[41]⟩ ⟨#[]⟩ z0 z1 z2 HS1.out y HP2.out).mono ?_
  rintro e w5 ⟨rfl, hb5⟩
  have hx5 := chain hx4 hb5
  have hu5 : w5.cell? ⟨g, o, none⟩ = some (.string u) := by rw [hb5.cell (p := ⟨g, o, none⟩) hgg]; exact hu4
  have hv5 : w5.cell? ⟨g, o + 1, none⟩ = some (.string v) := by rw [hb5.cell (p := ⟨g, o + 1, none⟩) hgg]; exact hv4
  clear z0 z1 z2 hu4 hv4 hgg hx4 hg4 hb5
  go_wp2_with fail
  refine hK.out _ _ ?_ (fun hHeld => ?_)
  · exact ⟨hu5, hv5⟩
  clear hK K
  try simp only [Act.put, List.setIfInBounds_toArray, List.set_cons_zero, List.set_cons_succ]
  refine wpAnyH_take (i := 11) (by simp only [List.getElem?_toArray, List.getElem?_cons_zero, List.getElem?_cons_succ]; rfl) (by kernel_rfl) (by kernel_rfl) (by kernel_rfl) (by intro _ _ _ h; exact h) (Or.inl ⟨by rfl, fun w hSw => by (dsimp only at hSw; go_simp; (try with_reducible rfl))⟩) (by assumption) ?_
  simp only [Act.put, List.setIfInBounds_toArray, List.set_cons_zero, List.set_cons_succ]
  refine wpAnyH_done (by kernel_rfl) ?_ _
  clear hu5 hv5 hHeld
  go_wp2
  go_ret
  exact ⟨rfl, hx5⟩
end Go.Proofs.YtmmandkellhbeaaGreatDoor

/-
  A region that draws its order and whose last operation writes what the others read: a condition on the world that holds until that one comes up.
-/
namespace Go.Proofs.YtmmandkellhbeaaGreatDoor

section
variable {P : Program} {ops : Array Oper} {Q : Exit → Act → World → Prop} {md : Region.Mode} {S : World → Prop} {z : Nat}

/-- Whatever order is picked: behind each operation but z the condition S holds. -/
def wpAnyU (P : Program) (md : Region.Mode) (ops : Array Oper) (Q : Exit → Act → World → Prop) (S : World → Prop) (z : Nat) : Nat → Array Bool → Act → World → Prop
  | 0, listed, a, w => Region.ready md ops listed = [] ∧ Q .normal a w
  | n + 1, listed, a, w => (Region.ready md ops listed = [] → Q .normal a w) ∧ ∀ i ∈ Region.ready md ops listed, wpOp P ops Q i (fun a' w' => (i = z ∨ S w') ∧ wpAnyU P md ops Q S z n (listed.setIfInBounds i true) a' w') a w

theorem wpAnyU.any : ∀ {n : Nat} {listed : Array Bool} {a : Act} {w : World}, wpAnyU P md ops Q S z n listed a w → wpAny P md ops Q n listed a w
  | 0, _, _, _, h => h
  | _ + 1, _, _, _, h => ⟨h.1, fun i hi => wpOp_mono (fun _ _ h' => wpAnyU.any h'.2) (h.2 i hi)⟩

/-- Does z wait for i? -/
def waits (md : Region.Mode) (ops : Array Oper) (z i : Nat) : Bool := match ops[z]? with
  | some o => o.after.any (fun e => Region.binds md e && e.on == i)
  | none => false
theorem waits_some {i : Nat} {o : Oper} (h : waits md ops z i = true) (ho : ops[z]? = some o) : ∃ e ∈ o.after, Region.binds md e = true ∧ e.on = i := by
  unfold waits at h
  rw [ho] at h
  obtain ⟨k, hk, he⟩ := Array.any_eq_true.1 h
  simp only [Bool.and_eq_true, beq_iff_eq] at he
  exact ⟨o.after[k], Array.getElem_mem hk, he.1, he.2⟩

theorem wpAnyU_first {i : Nat} {oi : Oper} {v : Value} (hi : ops[i]? = some oi) (hz : waits md ops z i = true) (hsel : ∀ (j : Nat) (o : Oper) cs b, ops[j]? = some o → o.op ≠ .select cs b)
    (hQ : ∀ c a w, Q (.panic c) (a.put oi.dst v) w → Q (.panic c) a w) : ∀ (n : Nat) (listed : Array Bool) (a : Act) (w : World),
      (∀ j oj, ops[j]? = some oj → j ≠ i → listed.getD j true = false → (∀ e ∈ oj.after, Region.binds md e = true → e.on ≠ i) → oi.apart ops oj = true) →
      i ∈ Region.ready md ops listed → YieldsIf P ops S oi v a → S w →
      wpAnyU P md ops Q S z n (listed.setIfInBounds i true) (a.put oi.dst v) w → wpAnyU P md ops Q S z (n + 1) listed a w
  | 0, listed, a, w, _, hr, hy, hS, H => ⟨fun h => (by rw [h] at hr; cases hr), fun j hj => by
      by_cases e : j = i
      · subst e; exact hy.wpOp hi hS ⟨.inr hS, H⟩
      · have := ready_mono hj e
        rw [H.1] at this
        cases this⟩
  | n + 1, listed, a, w, hfree, hr, hy, hS, H => ⟨fun h => (by rw [h] at hr; cases hr), fun j hj => by
      by_cases e : j = i
      · subst e; exact hy.wpOp hi hS ⟨.inr hS, H⟩
      · have h1 := H.2 j (ready_mono hj e)
        obtain ⟨hun, oj, hoj, hall⟩ := mem_ready.1 hj
        have hnot : ∀ x ∈ oj.after, Region.binds md x = true → x.on ≠ i := by
          intro x hx hb heq
          have k1 := hall x hx hb
          have k0 := (mem_ready.1 hr).1
          rw [heq] at k1
          rcases Nat.lt_or_ge i listed.size with h' | h'
          · simp [h'] at k0 k1; rw [k0] at k1; cases k1
          · simp [Array.getElem?_eq_none h'] at k1
        have hjz : j ≠ z := by
          intro ez
          subst ez
          obtain ⟨x, hx, hb, heq⟩ := waits_some hz hoj
          exact hnot x hx hb heq
        have h2 := wpOp_putIf hoj (hfree j oj hoj e hun hnot) (fun cs b => hsel i oi cs b hi) (fun cs b => hsel j oj cs b hoj) hQ hy h1
        refine wpOp_mono (fun a' w' h3 => ?_) h2
        have hSw : S w' := by rcases h3.2.1 with h4 | h4; exact absurd h4 hjz; exact h4
        refine ⟨.inr hSw, wpAnyU_first hi hz hsel hQ n (listed.setIfInBounds j true) a' w' ?_ (ready_mono hr (Ne.symm e)) h3.1 hSw ?_⟩
        · intro k ok hk hki hku hno
          refine hfree k ok hk hki ?_ hno
          by_cases hjk : j = k
          · subst hjk; exact hun
          · rw [getD_set_ne true hjk] at hku; exact hku
        · rw [Array.setIfInBounds_comm _ _ e]; exact h3.2.2⟩
theorem wpAnyU_take {i : Nat} {oi : Oper} {v : Value} {n : Nat} {listed : Array Bool} {a : Act} {w : World} (hi : ops[i]? = some oi) (hz : waits md ops z i = true)
    (hs : Region.noSelect ops = true) (hf : Region.free md ops listed i = true) (hr : (Region.ready md ops listed).contains i = true)
    (hQ : ∀ c a w, Q (.panic c) (a.put oi.dst v) w → Q (.panic c) a w) (hy : YieldsIf P ops S oi v a) (hS : S w)
    (h : wpAnyU P md ops Q S z n (listed.setIfInBounds i true) (a.put oi.dst v) w) : wpAnyU P md ops Q S z (n + 1) listed a w :=
  wpAnyU_first hi hz (Region.noSelect_spec hs) hQ n listed a w (Region.free_spec hi hf) (by simpa using hr) hy hS h
/-- The one that is ready is carried out; behind it S is shown anew. -/
theorem wpAnyU_one {i : Nat} {o : Oper} {n : Nat} {listed : Array Bool} {a : Act} {w : World} (hr : Region.ready md ops listed = [i]) (ho : ops[i]? = some o)
    (h : ∀ K' : Act → World → Prop, Shut (∀ a w, S w → (S w → wpAnyU P md ops Q S z n (listed.setIfInBounds i true) a w) → K' a w) → if Region.wanted o (yielded ops a.tmps) = true then Oper.wp P o a w K' Q else K' (a.put o.dst undef) w) :
    wpAnyU P md ops Q S z (n + 1) listed a w :=
  ⟨fun h0 => (by rw [hr] at h0; cases h0), fun j hj => by
    rw [hr] at hj
    obtain rfl : j = i := by simpa using hj
    exact wpOp_step ho (fun K' hK => h K' (fun a w hS hW => hK a w ⟨.inr hS, hW hS⟩))⟩
/-- The last one is carried out: S is asked no more. -/
theorem wpAnyU_last {o : Oper} {n : Nat} {listed : Array Bool} {a : Act} {w : World} (hr : Region.ready md ops listed = [z]) (ho : ops[z]? = some o)
    (h : ∀ K' : Act → World → Prop, Shut (∀ a w, wpAnyU P md ops Q S z n (listed.setIfInBounds z true) a w → K' a w) → if Region.wanted o (yielded ops a.tmps) = true then Oper.wp P o a w K' Q else K' (a.put o.dst undef) w) :
    wpAnyU P md ops Q S z (n + 1) listed a w :=
  ⟨fun h0 => (by rw [hr] at h0; cases h0), fun j hj => by
    rw [hr] at hj
    obtain rfl : j = z := by simpa using hj
    exact wpOp_step ho (fun K' hK => h K' (fun a w hW => hK a w ⟨.inl rfl, hW⟩))⟩
theorem wp_region_until {id : Nat} {a : Act} {w : World} (hm : P.follows .mixedOrders = true) (hS : S w.drew)
    (h : S w.drew → wpAnyU P .any ops Q S z ops.size (Array.replicate ops.size false) a w.drew) : (Code.region id ops true).wp P Q a w :=
  wp_region_any hm (h hS).any
theorem wpAnyU_done {listed : Array Bool} {a : Act} {w : World} (hr : Region.ready md ops listed = []) (h : Q .normal a w) : ∀ n, wpAnyU P md ops Q S z n listed a w
  | 0 => ⟨hr, h⟩
  | _ + 1 => ⟨fun _ => h, by rw [hr]; simp⟩
end
end Go.Proofs.YtmmandkellhbeaaGreatDoor
