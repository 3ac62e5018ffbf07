/-
  A part of the proof: NameMath2, NamesI, ErrVar, ErrIs, ErrAs, ConcatI, ColOf, Tabs1, Base1, Sh1, ShMath, ShI1, ShI2.
-/
import Derived.Test.YtegnekbbbfncgaaGreatDoorPart17
import Derived.Lib.SlicesCompact
import Derived.Test.YtegnekbbbfncgaaGreatDoorPart16
import Derived.Sort.OwnSorted
import Derived.Lib.OwnBridge
import Derived.Lib.RowBridge
import Derived.Test.YtegnekbbbfncgaaGreatDoorPart14
import Derived.WalkKit
import Derived.LaidEql
import Derived.Stop.Asserts
import Derived.RowKitTokens
import Derived.Test.YtegnekbbbfncgaaGreatDoorPart2
import Derived.Test.YtegnekbbbfncgaaGreatDoorPart13
import Derived.Test.YtegnekbbbfncgaaGreatDoorPart11
import Derived.Test.YtegnekbbbfncgaaGreatDoorPart1
import Derived.Maps.OwnSet
import Derived.Sort.KeysCollected
import Derived.Test.YtegnekbbbfncgaaGreatDoorIter
import Derived.Laws.IdiomCopy

/-
  Texts sorted, then each once, without any program: they are the names put in one by one.
-/
namespace Go.Proofs.YtegnekbbbfncgaaGreatDoor

abbrev leB8 : List UInt8 → List UInt8 → Bool := fun x y => decide (x ≤ y)
theorem leB8_trans (a b c : List UInt8) (h1 : leB8 a b = true) (h2 : leB8 b c = true) : leB8 a c = true := by
  simp only [leB8, decide_eq_true_eq] at *; exact List.le_trans h1 h2
theorem leB8_total (a b : List UInt8) : (leB8 a b || leB8 b a) = true := by
  simp only [leB8, Bool.or_eq_true, decide_eq_true_eq]; exact List.le_total a b
theorem lt_of_ne8 {a b : List UInt8} (h : a ≤ b) (hn : a ≠ b) : a < b := by
  by_cases hlt : a < b
  · exact hlt
  · exact absurd (List.le_antisymm h (List.not_lt.1 hlt)) hn
/-- Of what is sorted the first ones of each run rise, and they are all that there are. -/
theorem compact_rises (d : Array (List UInt8)) (hd : ∀ i j, i ≤ j → j < d.size → d[i]! ≤ d[j]!) : ∀ m, m ≤ d.size →
    (Lib.compactUpTo d m).Pairwise (fun x y => x < y) ∧ ∀ x, x ∈ Lib.compactUpTo d m ↔ ∃ j, j < m ∧ d[j]! = x
  | 0, _ => ⟨List.Pairwise.nil, fun x => ⟨fun h => by simp [Lib.compactUpTo] at h, fun ⟨j, h, _⟩ => by omega⟩⟩
  | m + 1, hm => by
    obtain ⟨h1, h2⟩ := compact_rises d hd m (by omega)
    rw [Lib.compactUpTo_succ]
    by_cases hk : Lib.keeps d m = true
    · rw [if_pos hk]
      refine ⟨?_, fun x => ?_⟩
      · rw [List.pairwise_append]
        refine ⟨h1, List.pairwise_singleton _ _, fun a ha b hb => ?_⟩
        rw [List.mem_singleton] at hb
        subst hb
        obtain ⟨j, hj, rfl⟩ := (h2 a).1 ha
        have hne : d[m]! ≠ d[m - 1]! := by
          unfold Lib.keeps at hk
          rw [decide_eq_true_eq] at hk
          rcases hk with hk | hk
          · omega
          · exact hk
        have l1 := hd j (m - 1) (by omega) (by omega)
        have l2 := lt_of_ne8 (hd (m - 1) m (by omega) (by omega)) (fun e => hne e.symm)
        exact List.lt_of_le_of_lt l1 l2
      · rw [List.mem_append, h2, List.mem_singleton]
        constructor
        · rintro (⟨j, hj, rfl⟩ | rfl)
          · exact ⟨j, by omega, rfl⟩
          · exact ⟨m, by omega, rfl⟩
        · rintro ⟨j, hj, rfl⟩
          by_cases hjm : j = m
          · subst hjm; exact .inr rfl
          · exact .inl ⟨j, by omega, rfl⟩
    · rw [if_neg hk, List.append_nil]
      refine ⟨h1, fun x => ?_⟩
      rw [h2]
      constructor
      · rintro ⟨j, hj, rfl⟩; exact ⟨j, by omega, rfl⟩
      · rintro ⟨j, hj, rfl⟩
        by_cases hjm : j = m
        · subst hjm
          unfold Lib.keeps at hk
          rw [decide_eq_true_eq, not_or, Decidable.not_not] at hk
          exact ⟨j - 1, by omega, hk.2.symm⟩
        · exact ⟨j, by omega, rfl⟩
/-- What rises is told by its members. -/
theorem rises_eq {l m : List (List UInt8)} (hl : l.Pairwise (fun x y => x < y)) (hm : m.Pairwise (fun x y => x < y)) (h : ∀ x, x ∈ l ↔ x ∈ m) : l = m := by
  have nd : ∀ {l : List (List UInt8)}, l.Pairwise (fun x y => x < y) → l.Nodup := fun h => h.imp fun hlt e => by subst e; exact List.lt_irrefl _ hlt
  refine List.Perm.eq_of_pairwise (le := fun a b => a ≤ b) (fun a b _ _ h1 h2 => List.le_antisymm h1 h2) (hl.imp fun h => List.le_of_lt h) (hm.imp fun h => List.le_of_lt h) ?_
  exact (List.perm_ext_iff_of_nodup (nd hl) (nd hm)).2 h
/-- The names of items as they come. -/
def namesL (l : List TI) : List ByteArray := (l.filter (fun x => decide (x.1 = 2))).map (fun x => x.2.2)
theorem namesL_snoc (l : List TI) (k : Nat) (h : k < l.length) : namesL (l.take (k + 1)) = namesL (l.take k) ++ (if l[k].1 = 2 then [l[k].2.2] else []) := by
  unfold namesL
  rw [List.take_succ_eq_append_getElem h, List.filter_append, List.map_append]
  congr 1
  by_cases e : l[k].1 = 2
  · rw [if_pos e]; simp [e]
  · rw [if_neg e]; simp [e]
theorem mem_namesL (l : List TI) (y : ByteArray) : y ∈ namesL l ↔ ∃ x ∈ l, x.1 = 2 ∧ x.2.2 = y := by
  unfold namesL
  simp [and_assoc]
def rawB (l : List ByteArray) : List (List UInt8) := l.map (fun s => s.data.toList)
/-- Sorted and each once: the names put in one by one. -/
theorem names_sorted (l : List TI) : Lib.compact ((rawB (namesL l)).mergeSort leB8) = rawB (namesN l) := by
  have hs := List.pairwise_mergeSort leB8_trans leB8_total (rawB (namesL l))
  have hp := List.mergeSort_perm (rawB (namesL l)) leB8
  generalize (rawB (namesL l)).mergeSort leB8 = zs at hs hp
  have hd : ∀ i j, i ≤ j → j < zs.toArray.size → zs.toArray[i]! ≤ zs.toArray[j]! := by
    intro i j hij hj
    have hj' : j < zs.length := by simpa using hj
    have hi' : i < zs.length := by omega
    have e1 : zs.toArray[i]! = zs[i] := by simp [hi']
    have e2 : zs.toArray[j]! = zs[j] := by simp [hj']
    rw [e1, e2]
    by_cases e : i = j
    · subst e; exact List.le_refl _
    · have := List.pairwise_iff_getElem.1 hs i j hi' hj' (by omega)
      simpa [leB8] using this
  obtain ⟨h1, h2⟩ := compact_rises zs.toArray hd zs.length (by simp)
  refine rises_eq h1 ?_ (fun x => ?_)
  · unfold rawB
    rw [List.pairwise_map]
    refine (namesN_rises l).imp fun {a b} h => ?_
    unfold blt at h
    rw [bytesLess_eq, decide_eq_true_iff, Lib.toList_data, Lib.toList_data] at h
    exact h
  · have e1 : x ∈ Lib.compact zs ↔ x ∈ zs := by
      show x ∈ Lib.compactUpTo zs.toArray zs.length ↔ _
      rw [h2, List.mem_iff_getElem]
      constructor
      · rintro ⟨j, hj, rfl⟩; exact ⟨j, hj, by simp [hj]⟩
      · rintro ⟨j, hj, rfl⟩; exact ⟨j, hj, by simp [hj]⟩
    rw [e1, hp.mem_iff]
    unfold rawB
    rw [List.mem_map, List.mem_map]
    constructor
    · rintro ⟨s, hs, rfl⟩; exact ⟨s, (mem_namesN l s).2 ((mem_namesL l s).1 hs), rfl⟩
    · rintro ⟨s, hs, rfl⟩; exact ⟨s, (mem_namesL l s).2 ((mem_namesN l s).1 hs), rfl⟩
theorem namesN_len (l : List TI) : (namesN l).length ≤ l.length := by
  suffices h : ∀ (l : List TI) (L : List ByteArray), (l.foldl (fun L x => if x.1 = 2 then putN L x.2.2 else L) L).length ≤ L.length + l.length by
    have := h l []
    simpa [namesN] using this
  intro l
  induction l with
  | nil => intro L; simp
  | cons x l ih =>
    intro L
    rw [List.foldl_cons]
    have h1 := ih (if x.1 = 2 then putN L x.2.2 else L)
    have h2 : (if x.1 = 2 then putN L x.2.2 else L).length ≤ L.length + 1 := by
      split
      · exact putN_length L _
      · omega
    simp only [List.length_cons]
    omega
theorem namesR_len (l : List TI) : (namesR l).length ≤ 1000 := by
  unfold namesR
  split
  · rename_i h
    unfold sumB at h
    simp only [Bool.and_eq_true, decide_eq_true_eq] at h
    have := namesN_len l
    omega
  · simp
end Go.Proofs.YtegnekbbbfncgaaGreatDoor

/-
  The contract of the program's NamesOf.
-/
namespace Go.Proofs.YtegnekbbbfncgaaGreatDoor
open Go.ChangeShapes Go.WideShapes Go.ChangeAt Go.RowKit
attribute [local go_sem ↓] Go.wp_at_zero Go.wp_at_succ
attribute [local simp] World.cell?_alloc_past World.cell?_alloc_at World.frozen?_alloc_at cell_far cell_off cell_here World.frozen?_alloc_past

theorem enc_raw (L : List ByteArray) : (rawB L).map encStr = L.map Value.string := Lib.map_encStr L
/-- An answer of texts in memory of its own. -/
def AnsStr (w : World) (B : Nat) (v : Value) (L : List ByteArray) : Prop := w.ownsRow B 9 1 v L.length (L.map Value.string) ∧ v ≠ .slice none 0 0
theorem sort_lib (base g cap n : Nat) (ss : List (List UInt8)) (w : World) (hn : n ≤ 1048576) (h : w.ownsRow base 9 1 (.slice (some ⟨g, 0, none⟩) n cap) n (ss.map encStr)) :
    Calls Tryz.prog 134 #[.slice (some ⟨g, 0, none⟩) n cap] w fun e w' => e = .returned (.tuple #[]) ∧ w'.ownsRow base 9 1 (.slice (some ⟨g, 0, none⟩) n cap) n ((ss.mergeSort leB8).map encStr) ∧ w.grownBy w' (some g) := by
  obtain ⟨g', cap', hv, hbg, hgl, hncap, hcm, hlen, hH⟩ := Lib.holds_of_ownsRow h (by simp)
  simp only [Value.slice.injEq, Option.some.injEq, Addr.mk.injEq, and_true, true_and] at hv
  obtain ⟨rfl, rfl⟩ := hv
  subst hlen
  unfold maxLen at hcm
  refine (Tryz.slices_Sort_string g 0 cap ss w hH hgl (by omega)).mono ?_
  rintro e w' ⟨rfl, nn, os, rfl⟩
  refine ⟨rfl, ?_, grownBy_sorted _⟩
  rcases h.2 with ⟨h0, _⟩ | ⟨g', cap', cur, hv, hbase, hb, h1, h2, h3, h4⟩
  · cases h0
  cases hv
  have hl2 : (ss.mergeSort fun x y => decide (x ≤ y)).length = ss.length := List.length_mergeSort ss
  exact ownsRow_sorted (n := nn) (os := os) (ts := ss.mergeSort fun x y => decide (x ≤ y)) hl2 hbase hb h1 h2 h3
theorem compact_lib (base g cap n : Nat) (zs : List (List UInt8)) (w : World) (h : w.ownsRow base 9 1 (.slice (some ⟨g, 0, none⟩) n cap) n (zs.map encStr)) :
    Calls Tryz.prog 135 #[.slice (some ⟨g, 0, none⟩) n cap] w fun e w' => e = .returned (.slice (some ⟨g, 0, none⟩) (Lib.compact zs).length cap) ∧ w'.ownsRow base 9 1 (.slice (some ⟨g, 0, none⟩) (Lib.compact zs).length cap) (Lib.compact zs).length ((Lib.compact zs).map encStr) ∧ ∀ B w0, B ≤ g → Below B w0 w → Below B w0 w' := by
  obtain ⟨g', cap', hv, hbg, hgl, hncap, hcm, hlen, hH⟩ := Lib.holds_of_ownsRow h (by simp)
  simp only [Value.slice.injEq, Option.some.injEq, Addr.mk.injEq, and_true, true_and] at hv
  obtain ⟨rfl, rfl⟩ := hv
  subst hlen
  unfold maxLen at hcm
  refine (Tryz.slices_Compact_string g 0 cap zs w hH (by omega) hncap).mono ?_
  rintro e w' ⟨rfl, q, rfl⟩
  have hle := Lib.compact_length_le zs
  refine ⟨rfl, ?_, fun B w0 hB hb => Lib.below_putRow hb hB⟩
  have hc := Lib.ownsRow_putRow (q := q) (k := (Lib.compact zs).length) (ys := Lib.compact zs ++ List.replicate (zs.length - (Lib.compact zs).length) []) h (by simp; omega) (by omega)
  rw [List.take_left] at hc
  exact hc
set_option maxRecDepth 100000 in
set_option maxHeartbeats 4000000 in
theorem namesof_impl (a : Option Addr) (cap : Nat) (l : List TI) (n : Nat) (hnl : l.length = n) (w : World) (hrow : ItmAt w a l) (hfit : FitI l) (hm : n ≤ maxLen) (hp : PowAt w) (he : ErrAt w) (L : List ByteArray) (hL : namesR l = L) :
    Calls Tryz.prog 70 #[.slice a n cap] w fun e w' => ∃ v, e = .returned v ∧ AnsStr w' w.heap.size v L ∧ Below w.heap.size w w' := by
  obtain ⟨i0, hti, hz0, hz1, hz2⟩ := info_parts infoStr
  have HR : Hid (ItmAt w a l) := hrow
  have HF : Hid (FitI l) := hfit
  have HP : Hid (PowAt w) := hp
  have HE : Hid (ErrAt w) := he
  have HL : Hid (l.length = n) := hnl
  have HY : Hid (namesR l = L) := hL
  obtain ⟨b, hb⟩ : ∃ b, sumB l = b := ⟨_, rfl⟩
  have HB : Hid (sumB l = b) := hb
  have hb0 : Below w.heap.size w (w.alloc (.cells #[] 9)) := (Below.refl _ _).alloc (Nat.le_refl _) _
  have own0 : Hid ((w.alloc (.cells #[] 9)).ownsRow w.heap.size 9 1 (.slice (some ⟨w.heap.size, 0, none⟩) 0 0) ([] : List ByteArray).length (([] : List ByteArray).map Value.string)) :=
    ⟨rfl, .inr ⟨w.heap.size, 0, #[], rfl, Nat.le_refl _, by show (w.heap.push _)[w.heap.size]? = _; simp, Nat.le_refl _, by unfold maxLen; omega, rfl, rfl⟩⟩
  clear hrow hfit hp he hnl hL hb
  go_enter Tryz.func70, Tryz.ntmps70
  go_wp2_with fail
  refine (sum_impl a cap l n HL.out _ (HR.out.below hb0) HF.out hm (HP.out.below hb0) (HE.out.below hb0) b HB.out).mono ?_
  rintro e w1 ⟨rfl, hb1⟩
  have hx1 := chain hb0 hb1
  have own1 : Hid (w1.ownsRow w.heap.size 9 1 (.slice (some ⟨w.heap.size, 0, none⟩) 0 0) ([] : List ByteArray).length (([] : List ByteArray).map Value.string)) := own_below own0.out hb1
  clear own0 hb1 hb0
  cases b
  · have e : L = [] := by rw [← HY.out]; unfold namesR; rw [if_neg (by rw [HB.out]; decide)]
    subst e
    go_wp2
    go_ret
    exact ⟨_, rfl, ⟨own1.out, by simp⟩, hx1⟩
  have hN : rawB L = Lib.compact ((rawB (namesL l)).mergeSort leB8) := by
    rw [names_sorted, ← HY.out]; unfold namesR; rw [if_pos HB.out]
  have HN : Hid (rawB L = Lib.compact ((rawB (namesL l)).mergeSort leB8)) := hN
  have h40 : n ≤ 40 := by
    have := HB.out
    unfold sumB at this
    simp only [Bool.and_eq_true, decide_eq_true_eq] at this
    rw [← HL.out]; exact this.2
  clear hN
  go_wp2
  go_loopw [3, 13] (fun v kk wr => ∃ k : Nat, k ≤ n ∧ kk = .int .i64 k ∧ Hid (wr.ownsRow w.heap.size 9 1 v (namesL (l.take k)).length ((namesL (l.take k)).map Value.string)) ∧ Below w.heap.size w wr ∧ v ≠ .slice none 0 0) (fun _ kk _ => n - (intOf kk).toNat)
  case atStart => exact ⟨0, Nat.zero_le _, rfl, own1, hx1, by simp⟩
  case round =>
    obtain ⟨k, hk, rfl, hO, hb, hvn⟩ := hrel
    clear own1 hx1
    have hlen : (namesL (l.take k)).length ≤ k := by
      unfold namesL
      rw [List.length_map]
      have h1 := List.length_filter_le (fun x : TI => decide (x.1 = 2)) (l.take k)
      have h2 := List.length_take_le k l
      omega
    by_cases hlt : k < n
    · have hlk : k < l.length := by rw [HL.out]; exact hlt
      obtain ⟨g, o, rfl, hgw, c0, c1, c2, c3, c4⟩ := HR.out.below hb k hlk
      have hi0 : (0 : Int) ≤ (k : Int) := by omega
      have hi1 : (k : Int) < (n : Int) := by omega
      have hsn := namesL_snoc l k hlk
      have HS : Hid (namesL (l.take (k + 1)) = namesL (l.take k) ++ (if l[k].1 = 2 then [l[k].2.2] else [])) := hsn
      have hOO := hO.out
      clear hsn hO
      obtain ⟨P, hP⟩ : ∃ P, namesL (l.take k) = P := ⟨_, rfl⟩
      rw [hP] at HS hOO hlen
      clear hP
      generalize l[k] = x at c0 c1 c2 c3 c4 HS
      obtain ⟨xk, ⟨xa, xb, xc⟩, xs⟩ := x
      dsimp only at c0 c1 c2 c3 c4 HS
      obtain ⟨p, hp⟩ : ∃ p, P.length = p := ⟨_, rfl⟩
      rw [hp] at hOO hlen
      have HPL : Hid (P.length = p) := hp
      clear hp
      by_cases h2 : xk = 2
      · subst h2
        have hS2 : namesL (l.take (k + 1)) = P ++ [xs] := by rw [HS.out, if_pos rfl]
        have HS2 : Hid (namesL (l.take (k + 1)) = P ++ [xs]) := hS2
        obtain ⟨V, hV⟩ : ∃ V, V = wr.alloc (.cells #[.int .i64 2, .int .i64 xa, .int .i64 xb, .string xc, .string xs] 124) := ⟨_, rfl⟩
        have hbV : Below wr.heap.size wr V := by rw [hV]; exact (Below.refl _ _).alloc (Nat.le_refl _) _
        have O4 : Hid (V.ownsRow w.heap.size 9 1 u3 p (P.map Value.string)) := own_below hOO hbV
        have hx3 := chain hb hbV
        obtain ⟨d0, d1, d2, d3, d4, d5⟩ := box5 (w := wr) (w1 := V) (a := .int .i64 2) (b := .int .i64 xa) (c := .int .i64 xb) (d := .string xc) (e := .string xs) (T := 124) (by rw [hV]; exact Below.refl _ _)
        clear HS hS2
        go_upto_region 8 with fail
        rw [← hV]
        clear hV hbV hOO c0 c1 c2 c3 c4
        go_wp2_with (at_builtin; refine wpList_append_own _ rfl _ _ 23 rfl w.heap.size 9 i0 (.string ⟨#[]⟩) 1 16 Tryz.underlying23 hti hz0 hz1 hz2 rfl (by decide) _ _ _ rfl (O4.out.alloc _) ⟨V.heap.size, 0, none⟩ 1 1 [.string xs] rfl rfl (cells1S V _) (by intro u hu; simp at hu; subst hu; rfl) (by unfold maxLen; omega) (by omega) (by have := hx3.size; simp; omega) ?_)
        intro v' w4 own4 hgrow hnn
        have hx4 : Below w.heap.size w w4 := by
          refine (hx3.alloc hx3.size _).grown hgrow (by have := hx3.size; simp; omega) ?_
          intro kk hkk
          exact (O4.out.lt kk hkk).1
        have hvn2 : v' ≠ .slice none 0 0 := by first | exact hnn | exact fun e => hvn (hnn.1 e).1
        have SS : Hid (w4.ownsRow w.heap.size 9 1 v' (namesL (l.take (k + 1))).length ((namesL (l.take (k + 1))).map Value.string)) := by
          have : w4.ownsRow w.heap.size 9 1 v' (namesL (l.take (k + 1))).length ((namesL (l.take (k + 1))).map Value.string) := by
            rw [HS2.out, List.length_append, HPL.out, List.map_append]
            exact own4
          exact this
        clear own4 hgrow hnn O4
        go_wp2
        go_roundw
        case rel => exact ⟨k + 1, by omega, by go_num, SS, hx4, hvn2⟩
        case measure => simp [intOf]; omega
      · have hS2 : namesL (l.take (k + 1)) = P := by rw [HS.out, if_neg h2, List.append_nil]
        have q2 : (xk == 2) = false := neq_k h2
        have hbV : Below wr.heap.size wr (wr.alloc (.cells #[.int .i64 xk, .int .i64 xa, .int .i64 xb, .string xc, .string xs] 124)) := (Below.refl _ _).alloc (Nat.le_refl _) _
        have SS : Hid ((wr.alloc (.cells #[.int .i64 xk, .int .i64 xa, .int .i64 xb, .string xc, .string xs] 124)).ownsRow w.heap.size 9 1 u3 (namesL (l.take (k + 1))).length ((namesL (l.take (k + 1))).map Value.string)) := by
          have : (wr.alloc (.cells #[.int .i64 xk, .int .i64 xa, .int .i64 xb, .string xc, .string xs] 124)).ownsRow w.heap.size 9 1 u3 (namesL (l.take (k + 1))).length ((namesL (l.take (k + 1))).map Value.string) := by
            rw [hS2, HPL.out]; exact own_below hOO hbV
          exact this
        have hx4 := chain hb hbV
        clear HS hS2 hOO hbV
        go_wp2
        go_roundw
        case rel => exact ⟨k + 1, by omega, by go_num, SS, hx4, hvn⟩
        case measure => simp [intOf]; omega
    · have hkl : k = n := by omega
      subst hkl
      have hi1 : ¬ (k : Int) < (k : Int) := by omega
      have hOO := hO.out
      rw [List.take_of_length_le (by rw [HL.out]; exact Nat.le_refl _)] at hOO hlen
      obtain ⟨p, hp⟩ : ∃ p, (namesL l).length = p := ⟨_, rfl⟩
      rw [hp, ← enc_raw] at hOO
      rw [hp] at hlen
      rcases hOO.2 with ⟨h', _⟩ | ⟨gp, cp, cur, h', hbg, _⟩
      · exact absurd h' hvn
      subst h'
      have O1 : Hid (wr.ownsRow w.heap.size 9 1 (.slice (some ⟨gp, 0, none⟩) p cp) p ((rawB (namesL l)).map encStr)) := hOO
      clear hO hOO hp
      go_wp2_with fail
      refine (sort_lib w.heap.size gp cp p (rawB (namesL l)) _ (by omega) O1.out).mono ?_
      rintro e w2 ⟨rfl, own2, hgr⟩
      have hx2 : Below w.heap.size w w2 := hb.grown hgr hb.size (fun kk hkk => by cases hkk; exact hbg)
      have O2 : Hid (w2.ownsRow w.heap.size 9 1 (.slice (some ⟨gp, 0, none⟩) p cp) p (((rawB (namesL l)).mergeSort leB8).map encStr)) := own2
      clear O1 own2 hgr hb
      go_wp2_with fail
      refine (compact_lib w.heap.size gp cp p ((rawB (namesL l)).mergeSort leB8) _ O2.out).mono ?_
      rintro e w3 ⟨rfl, own3, hbl⟩
      have hx3 := hbl _ _ hbg hx2
      rw [← HN.out] at own3
      have hl3 : (rawB L).length = L.length := List.length_map _
      rw [hl3, enc_raw] at own3
      rw [← HN.out, hl3]
      have fin : Hid (AnsStr w3 w.heap.size (.slice (some ⟨gp, 0, none⟩) L.length cp) L) := ⟨own3, by simp⟩
      clear own3 hbl O2
      go_wp2
      go_ret
      exact ⟨_, rfl, fin.out, hx3⟩
end Go.Proofs.YtegnekbbbfncgaaGreatDoor

/-
  The program's five sentinels, errors' own handle and the library's variables in later worlds; what an error of the program is.
-/
namespace Go.Proofs.YtegnekbbbfncgaaGreatDoor
open Go.ChangeShapes Go.WideShapes Go.ChangeAt Go.RowKit

/-- Where the sentinels lie: no table, twice, no column, too many, not right. -/
structure Sen where
  e1 : Addr
  e2 : Addr
  e3 : Addr
  e4 : Addr
  e5 : Addr
/-- A block that is a variable's. -/
def Blk (w : World) (a : Addr) : Prop := ∃ c t, w.heap[a.block]? = some (.cells c t (0, 0))
theorem Blk.below {w w' : World} {a : Addr} (h : Blk w a) (hb : Below w.heap.size w w') : Blk w' a := by
  obtain ⟨c, t, h⟩ := h
  have hl : a.block < w.heap.size := by
    by_cases hl : a.block < w.heap.size
    · exact hl
    · rw [Array.getElem?_eq_none (by omega)] at h; cases h
  exact ⟨c, t, by rw [hb.block _ hl]; exact h⟩
structure SenAt (w : World) (A : Sen) : Prop where
  lt : 2 < w.heap.size ∧ 3 < w.heap.size ∧ 1 < w.heap.size ∧ 4 < w.heap.size ∧ 0 < w.heap.size ∧ 5 < w.heap.size
  v1 : w.cell? ⟨2, 0, none⟩ = some (.iface 398 (.pointer (some A.e1)))
  v2 : w.cell? ⟨3, 0, none⟩ = some (.iface 398 (.pointer (some A.e2)))
  v3 : w.cell? ⟨1, 0, none⟩ = some (.iface 398 (.pointer (some A.e3)))
  v4 : w.cell? ⟨4, 0, none⟩ = some (.iface 398 (.pointer (some A.e4)))
  v5 : w.cell? ⟨0, 0, none⟩ = some (.iface 398 (.pointer (some A.e5)))
  b1 : Blk w A.e1
  b2 : Blk w A.e2
  b3 : Blk w A.e3
  b4 : Blk w A.e4
  b5 : Blk w A.e5
  n12 : A.e1 ≠ A.e2
  n13 : A.e1 ≠ A.e3
  n14 : A.e1 ≠ A.e4
  n15 : A.e1 ≠ A.e5
  n23 : A.e2 ≠ A.e3
  n24 : A.e2 ≠ A.e4
  n25 : A.e2 ≠ A.e5
  n34 : A.e3 ≠ A.e4
  n35 : A.e3 ≠ A.e5
  n45 : A.e4 ≠ A.e5
  et : w.cell? ⟨5, 0, none⟩ = some (.iface 308 (.agg #[.pointer (some ⟨12, 99, none⟩)]))
  pow : PowAt w
  err : ErrAt w
theorem SenAt.below {w w' : World} {A : Sen} (h : SenAt w A) (hb : Below w.heap.size w w') : SenAt w' A := by
  obtain ⟨l1, l2, l3, l4, l5, l6⟩ := h.lt
  have hs := hb.size
  exact ⟨⟨by omega, by omega, by omega, by omega, by omega, by omega⟩,
    by rw [hb.cell (p := ⟨_, _, none⟩) l1]; exact h.v1, by rw [hb.cell (p := ⟨_, _, none⟩) l2]; exact h.v2, by rw [hb.cell (p := ⟨_, _, none⟩) l3]; exact h.v3,
    by rw [hb.cell (p := ⟨_, _, none⟩) l4]; exact h.v4, by rw [hb.cell (p := ⟨_, _, none⟩) l5]; exact h.v5,
    h.b1.below hb, h.b2.below hb, h.b3.below hb, h.b4.below hb, h.b5.below hb, h.n12, h.n13, h.n14, h.n15, h.n23, h.n24, h.n25, h.n34, h.n35, h.n45,
    by rw [hb.cell (p := ⟨_, _, none⟩) l6]; exact h.et, h.pow.below hb, h.err.below hb⟩

end Go.Proofs.YtegnekbbbfncgaaGreatDoor

/-
  The library's errors.Is at the program's errors: Go's own text is walked.
-/
namespace Go.Proofs.YtegnekbbbfncgaaGreatDoor
open Go.ChangeShapes Go.WideShapes Go.ChangeAt Go.RowKit Go.Extern.Stop Go.Stop Go.Extern
attribute [local simp] World.cell?_alloc_past World.cell?_alloc_at World.frozen?_alloc_at World.frozen?_alloc_past

end Go.Proofs.YtegnekbbbfncgaaGreatDoor

/-
  The library's errors.As at a nil error and at a notThere, the target a notThere: Go's own text is walked.
-/
namespace Go.Proofs.YtegnekbbbfncgaaGreatDoor
open Go.ChangeShapes Go.WideShapes Go.ChangeAt Go.RowKit Go.Extern.Stop Go.Stop Go.Extern

end Go.Proofs.YtegnekbbbfncgaaGreatDoor

/-
  The library's slices.Grow of nothing and slices.Concat of two lists of texts: Go's own text is walked.
-/
namespace Go.Proofs.YtegnekbbbfncgaaGreatDoor
open Go.ChangeShapes Go.WideShapes Go.ChangeAt Go.RowKit
attribute [local go_sem ↓] Go.wp_at_zero Go.wp_at_succ

/-- An append whose run is known, as one operation of a list. -/
theorem wpList_app {P : Program} {w : World} {ops : Array Oper} {rest : List Oper} {o : Oper} {a : Act} {Q : Exit → Act → World → Prop} (hgd : o.guard = none) (s x : Operand) (t u : TypeId)
    (ho : o.op = .call { callee := .builtin .append, args := #[s, x], argTypes := #[t, u] }) (vs vx : Value) (hs : a.eval s = vs) (hx : a.eval x = vx) (v' : Value) (w' : World)
    (hr : (Builtin.append_ #[t, u] o.type #[vs, vx]).run P w = .ok v' w') (h : wpList P ops Q rest (a.put o.dst v') w') : wpList P ops Q (o :: rest) a w := by
  refine wpList_plain hgd fun K hK => ?_
  unfold Oper.wp execOp
  simp only [ho, resolve, invoke, builtin, Sem.run_bind, Sem.run_pure, Result.andThen_ok, List.map_toArray, List.map_cons, List.map_nil, hs, hx, hr]
  exact hK _ _ h
end Go.Proofs.YtegnekbbbfncgaaGreatDoor

/-
  The contracts of the program's and the model's ColumnOf.
-/
namespace Go.Proofs.YtegnekbbbfncgaaGreatDoor
open Go.ChangeShapes Go.WideShapes Go.ChangeAt Go.RowKit
attribute [local go_sem ↓] Go.wp_at_zero Go.wp_at_succ

theorem columnof_impl (n : Nat) (a : Option Addr) (cap : Nat) (l : List ByteArray) (hn : l.length = n) (s : ByteArray) (w : World) (hrow : StrsAt w a l) (hm : n ≤ maxLen) :
    Calls Tryz.prog 111 #[.slice a n cap, .string s] w fun e w' => ∃ r, e = .returned (.int .i64 r) ∧ AtIs l s r ∧ Below w.heap.size w w' := by
  have HI : Hid (Calls Tryz.prog 138 #[.slice a n cap, .string s] w fun e w' => ∃ r, e = .returned (.int .i64 r) ∧ AtIs l s r ∧ Below w.heap.size w w') := index_str n a cap l hn s w hrow hm
  have HN : Hid (l.length = n) := hn
  clear hrow hn
  unfold maxLen at hm
  go_enter Tryz.func111, Tryz.ntmps111
  go_wp2_with fail
  refine HI.out.mono ?_
  rintro e w1 ⟨r, rfl, hat, hb1⟩
  obtain ⟨h1, h2⟩ := hat.lt
  rw [HN.out] at h2
  have HA : Hid (AtIs l s r) := hat
  clear hat
  go_wp2
  go_ret
  exact ⟨_, rfl, HA.out, hb1⟩
end Go.Proofs.YtegnekbbbfncgaaGreatDoor

/-
  Lists of tables: how a slice of tables lies in memory, and the contracts of the law's helpers that measure one and hold two that are one against each other.
-/
namespace Go.Proofs.YtegnekbbbfncgaaGreatDoor
open Go.ChangeShapes Go.WideShapes Go.ChangeAt Go.RowKit
attribute [local go_sem ↓] Go.wp_at_zero Go.wp_at_succ

/-- The tables of a slice lie where it says. -/
def TabsAt (w : World) (a : Option Addr) (T : List TB) : Prop :=
  ∀ i (h : i < T.length), ∃ b o ca cc ra cr, a = some ⟨b, o, none⟩ ∧ b < w.heap.size ∧ w.cell? ⟨b, o + i * 3, none⟩ = some (.string T[i].1) ∧ w.cell? ⟨b, o + i * 3 + 1, none⟩ = some (.slice ca T[i].2.1.length cc) ∧ w.cell? ⟨b, o + i * 3 + 2, none⟩ = some (.slice ra T[i].2.2.length cr) ∧ TabAt w ca cc ra T[i]
theorem TabsAt.below {w w' : World} {a : Option Addr} {T : List TB} (h : TabsAt w a T) (hb : Below w.heap.size w w') : TabsAt w' a T := by
  intro i hi
  obtain ⟨b, o, ca, cc, ra, cr, ha, hlt, h0, h1, h2, h3⟩ := h i hi
  refine ⟨b, o, ca, cc, ra, cr, ha, Nat.lt_of_lt_of_le hlt hb.size, ?_, ?_, ?_, h3.below hb⟩
  · rw [hb.cell (p := ⟨b, _, none⟩) hlt]; exact h0
  · rw [hb.cell (p := ⟨b, _, none⟩) hlt]; exact h1
  · rw [hb.cell (p := ⟨b, _, none⟩) hlt]; exact h2

end Go.Proofs.YtegnekbbbfncgaaGreatDoor

/-
  Bases: what a right one is, and the contracts of the model's question for it and of its search by name.
-/
namespace Go.Proofs.YtegnekbbbfncgaaGreatDoor
open Go.ChangeShapes Go.WideShapes Go.ChangeAt Go.RowKit
attribute [local go_sem ↓] Go.wp_at_zero Go.wp_at_succ

/-- The names of tables. -/
def namesT (T : List TB) : List ByteArray := T.map (·.1)
end Go.Proofs.YtegnekbbbfncgaaGreatDoor

/-
  A map from names to values, as the program's shelf is one: what it holds, told by the list of its names and by what stands at each; made, written, asked, struck and cleared.
-/
namespace Go.Proofs.YtegnekbbbfncgaaGreatDoor
open Go.ChangeShapes Go.WideShapes Go.ChangeAt Go.RowKit Go.Maps

/-- What stands in the map is told as it is. -/
def tokR (v : Value) : Option (DataW Value × List MemPlace) := some (.held v, [])
def keyL (s : ByteArray) : Lit := .string s.data.toList
theorem keyL_inj {s t : ByteArray} (h : keyL s = keyL t) : s = t := by
  unfold keyL at h
  injection h with h
  exact ByteArray.ext (Array.toList_inj.1 h)
instance decMemB (s : ByteArray) (ks : List ByteArray) : Decidable (s ∈ ks) :=
  decidable_of_iff (s.data.toList ∈ ks.map (fun x => x.data.toList)) ⟨fun h => by
    obtain ⟨x, hx, e⟩ := List.mem_map.1 h
    rw [← ByteArray.ext (Array.toList_inj.1 e)]; exact hx, fun h => List.mem_map.2 ⟨s, h, rfl⟩⟩
theorem keyL_key (s : ByteArray) : WideAt.IsKeyLit (keyL s) := True.intro
/-- The map holds these names, each once, and at each what f says. -/
structure Says (D : DataW Value) (ks : List ByteArray) (f : ByteArray → Value) : Prop where
  nodup : ks.Nodup
  has : ∀ s, Maps.has D (keyL s) = decide (s ∈ ks)
  holds : ∀ s, s ∈ ks → ∀ z, D.atKey (keyL s) z = .held (f s)
theorem Says.same {D : DataW Value} {ks : List ByteArray} {f g : ByteArray → Value} (h : Says D ks f) (e : ∀ s, s ∈ ks → f s = g s) : Says D ks g :=
  ⟨h.nodup, h.has, fun s hs z => by rw [h.holds s hs z, e s hs]⟩
/-- A name more, or another value at one that is there. -/
def putK (ks : List ByteArray) (s : ByteArray) : List ByteArray := if s ∈ ks then ks else ks ++ [s]
def putF (f : ByteArray → Value) (s : ByteArray) (v : Value) : ByteArray → Value := fun x => if x = s then v else f x
theorem mem_putK (ks : List ByteArray) (s x : ByteArray) : x ∈ putK ks s ↔ (x = s ∨ x ∈ ks) := by
  unfold putK
  split
  · rename_i h
    exact ⟨Or.inr, fun e => by rcases e with rfl | e <;> assumption⟩
  · simp only [List.mem_append, List.mem_singleton]
    exact Or.comm
theorem nodup_putK {ks : List ByteArray} (h : ks.Nodup) (s : ByteArray) : (putK ks s).Nodup := by
  unfold putK
  split
  · exact h
  · rename_i hn
    refine List.nodup_append.2 ⟨h, List.pairwise_singleton _ _, fun a ha b hb e => ?_⟩
    rw [List.mem_singleton] at hb
    subst hb; subst e; exact hn ha
theorem Says.put {D : DataW Value} {ks : List ByteArray} {f : ByteArray → Value} (h : Says D ks f) (hD : IsMap D) (s : ByteArray) (v : Value) : Says (D.put (keyL s) (.held v)) (putK ks s) (putF f s v) := by
  refine ⟨nodup_putK h.nodup s, fun x => ?_, fun x hx z => ?_⟩
  · by_cases e : x = s
    · subst e
      rw [has_put_same hD (keyL_key x)]
      exact (decide_eq_true ((mem_putK ks x x).2 (Or.inl rfl))).symm
    · rw [has_put_other (fun e' => e (keyL_inj e')), h.has x]
      have : (x ∈ putK ks s) ↔ x ∈ ks := by rw [mem_putK]; exact ⟨fun q => q.resolve_left e, Or.inr⟩
      rw [decide_eq_decide]; exact this.symm
  · by_cases e : x = s
    · subst e
      rw [atKey_put_same hD (keyL_key x)]
      simp [putF]
    · rw [atKey_put_other (fun e' => e (keyL_inj e')), h.holds x (((mem_putK ks s x).1 hx).resolve_left e)]
      simp [putF, e]
theorem str_keyed : Keyed Tryz.prog 9 := string_keyed Tryz.underlying9
/-- Block B is a map of at most n names that holds these. -/
def ShelfAt (w : World) (B n : Nat) (ks : List ByteArray) (f : ByteArray → Value) : Prop :=
  ∃ D, w.ownsMap Tryz.prog 9 tokR B n D ∧ Says D ks f
theorem ShelfAt.lt {w : World} {B n : Nat} {ks : List ByteArray} {f : ByteArray → Value} (h : ShelfAt w B n ks f) : B < w.heap.size := by
  obtain ⟨D, h, _⟩ := h
  exact h.lt
theorem ShelfAt.block {w w' : World} {B n : Nat} {ks : List ByteArray} {f : ByteArray → Value} (h : ShelfAt w B n ks f) (hb : w'.heap[B]? = w.heap[B]?) : ShelfAt w' B n ks f := by
  obtain ⟨D, ⟨es, clock, he, F, hs, hD⟩, S⟩ := h
  exact ⟨D, ⟨es, clock, hb.trans he, F, hs, hD⟩, S⟩
theorem ShelfAt.below {w w' : World} {B n : Nat} {ks : List ByteArray} {f : ByteArray → Value} (h : ShelfAt w B n ks f) (hb : Below w.heap.size w w') : ShelfAt w' B n ks f :=
  h.block (hb.block B h.lt)
theorem strs_of_keys {w : World} {B n : Nat} {D : DataW Value} {ks : List ByteArray} {f : ByteArray → Value} (h : w.ownsMap Tryz.prog 9 tokR B n D) (S : Says D ks f) : (ks.map (fun s => s.data.toList)).Perm (strKeys D) := by
  obtain ⟨es, rfl, hk⟩ := h.keysOf
  obtain ⟨es', e, hp⟩ := h.tidy str_keyed
  injection e with e
  subst e
  refine perm_strKeys hp (fun p hpm => ?_) ?_ (fun x => ?_)
  · obtain ⟨v, hv⟩ := hk p hpm
    obtain ⟨x, _, e, _⟩ := Maps.keyOf_str Tryz.underlying9 hv
    exact ⟨x, e⟩
  · refine List.pairwise_map.2 (S.nodup.imp fun {a b} hne e => hne (ByteArray.ext (Array.toList_inj.1 e)))
  · have e := S.has ⟨x.toArray⟩
    have ek : keyL ⟨x.toArray⟩ = .string x := rfl
    rw [ek] at e
    rw [e, List.mem_map]
    rw [show (decide ((⟨x.toArray⟩ : ByteArray) ∈ ks) = true) = ((⟨x.toArray⟩ : ByteArray) ∈ ks) from propext decide_eq_true_iff]
    exact ⟨fun ⟨s, hs, e⟩ => by subst e; exact hs, fun hs => ⟨_, hs, rfl⟩⟩
theorem size_keys {w : World} {B n : Nat} {D : DataW Value} {ks : List ByteArray} {f : ByteArray → Value} (h : w.ownsMap Tryz.prog 9 tokR B n D) (S : Says D ks f) : Maps.size D = ks.length := by
  have p := (strs_of_keys h S).length_eq
  obtain ⟨es, rfl, _⟩ := h.keysOf
  rw [List.length_map] at p
  rw [p, size_eq]
  simp [strKeys]
end Go.Proofs.YtegnekbbbfncgaaGreatDoor

/-
  Names in their order, without any program: sorted there is but one list; a list of names is its own sorted one, each once, just where the names rise.
-/
namespace Go.Proofs.YtegnekbbbfncgaaGreatDoor
open Go.Maps

/-- The names of a list, each once, where it comes first. -/
def ksOf (l : List ByteArray) : List ByteArray := l.foldl putK []
theorem ksOf_snoc (l : List ByteArray) (x : ByteArray) : ksOf (l ++ [x]) = putK (ksOf l) x := by simp [ksOf, List.foldl_append]
theorem mem_ksOf (l : List ByteArray) (s : ByteArray) : s ∈ ksOf l ↔ s ∈ l := by
  suffices ∀ (l acc : List ByteArray), s ∈ l.foldl putK acc ↔ (s ∈ acc ∨ s ∈ l) by simpa [ksOf] using this l []
  intro l
  induction l with
  | nil => intro acc; simp
  | cons x l ih =>
    intro acc
    rw [List.foldl_cons, ih, mem_putK, List.mem_cons]
    constructor
    · rintro ((h | h) | h)
      · exact .inr (.inl h)
      · exact .inl h
      · exact .inr (.inr h)
    · rintro (h | h | h)
      · exact .inl (.inr h)
      · exact .inl (.inl h)
      · exact .inr h
end Go.Proofs.YtegnekbbbfncgaaGreatDoor

/-
  The contract of the program's shelf that tells its names in order.
-/
namespace Go.Proofs.YtegnekbbbfncgaaGreatDoor
open Go.ChangeShapes Go.WideShapes Go.ChangeAt Go.RowKit Go.Maps Go.Sort Go.Shelf
attribute [local go_sem ↓] Go.wp_at_zero Go.wp_at_succ

end Go.Proofs.YtegnekbbbfncgaaGreatDoor

/-
  The contract of the program's order of names: a count and the first five of them, in a struct that can be held against another one.
-/
namespace Go.Proofs.YtegnekbbbfncgaaGreatDoor
open Go.ChangeShapes Go.WideShapes Go.ChangeAt Go.RowKit
attribute [local go_sem ↓] Go.wp_at_zero Go.wp_at_succ
attribute [local simp] World.cell?_alloc_past World.cell?_alloc_at World.frozen?_alloc_at cell_far cell_off cell_here World.frozen?_alloc_past

end Go.Proofs.YtegnekbbbfncgaaGreatDoor
