/-
  A part of the proof: NameMath2, NamesI, SvMath, SvMath2, SvMath3, SvMath4, SvForm, Walk5, Walk6, Walk7, Walk8.
-/
import Derived.Test.YtegnekbbbfncgaaGreatDoorPart11
import Derived.Lib.SlicesCompact
import Derived.Sort.OwnSorted
import Derived.Lib.OwnBridge
import Derived.Lib.RowBridge
import Derived.Test.YtegnekbbbfncgaaGreatDoorPart7
import Derived.Test.YtegnekbbbfncgaaGreatDoorPart3
import Derived.Test.YtegnekbbbfncgaaGreatDoorPart2
import Derived.Deep.QuietTactic
import Derived.BigQuiet
import Derived.Deep.RegionHeld3
import Derived.Deep.DeepCutAuto
import Derived.Deep.DrawnRows

/-
  Texts sorted, then each once, without any program: they are the names put in one by one.
-/
namespace Go.Proofs.YtegnekbbbfncgaaGreatDoor

abbrev leB8 : List UInt8 → List UInt8 → Bool := fun x y => decide (x ≤ y)
theorem leB8_trans (a b c : List UInt8) (h1 : leB8 a b = true) (h2 : leB8 b c = true) : leB8 a c = true := by
  simp only [leB8, decide_eq_true_eq] at *; exact List.le_trans h1 h2
theorem leB8_total (a b : List UInt8) : (leB8 a b || leB8 b a) = true := by
  simp only [leB8, Bool.or_eq_true, decide_eq_true_eq]; exact List.le_total a b
theorem lt_of_ne8 {a b : List UInt8} (h : a ≤ b) (hn : a ≠ b) : a < b := by
  by_cases hlt : a < b
  · exact hlt
  · exact absurd (List.le_antisymm h (List.not_lt.1 hlt)) hn
/-- Of what is sorted the first ones of each run rise, and they are all that there are. -/
theorem compact_rises (d : Array (List UInt8)) (hd : ∀ i j, i ≤ j → j < d.size → d[i]! ≤ d[j]!) : ∀ m, m ≤ d.size →
    (Lib.compactUpTo d m).Pairwise (fun x y => x < y) ∧ ∀ x, x ∈ Lib.compactUpTo d m ↔ ∃ j, j < m ∧ d[j]! = x
  | 0, _ => ⟨List.Pairwise.nil, fun x => ⟨fun h => by simp [Lib.compactUpTo] at h, fun ⟨j, h, _⟩ => by omega⟩⟩
  | m + 1, hm => by
    obtain ⟨h1, h2⟩ := compact_rises d hd m (by omega)
    rw [Lib.compactUpTo_succ]
    by_cases hk : Lib.keeps d m = true
    · rw [if_pos hk]
      refine ⟨?_, fun x => ?_⟩
      · rw [List.pairwise_append]
        refine ⟨h1, List.pairwise_singleton _ _, fun a ha b hb => ?_⟩
        rw [List.mem_singleton] at hb
        subst hb
        obtain ⟨j, hj, rfl⟩ := (h2 a).1 ha
        have hne : d[m]! ≠ d[m - 1]! := by
          unfold Lib.keeps at hk
          rw [decide_eq_true_eq] at hk
          rcases hk with hk | hk
          · omega
          · exact hk
        have l1 := hd j (m - 1) (by omega) (by omega)
        have l2 := lt_of_ne8 (hd (m - 1) m (by omega) (by omega)) (fun e => hne e.symm)
        exact List.lt_of_le_of_lt l1 l2
      · rw [List.mem_append, h2, List.mem_singleton]
        constructor
        · rintro (⟨j, hj, rfl⟩ | rfl)
          · exact ⟨j, by omega, rfl⟩
          · exact ⟨m, by omega, rfl⟩
        · rintro ⟨j, hj, rfl⟩
          by_cases hjm : j = m
          · subst hjm; exact .inr rfl
          · exact .inl ⟨j, by omega, rfl⟩
    · rw [if_neg hk, List.append_nil]
      refine ⟨h1, fun x => ?_⟩
      rw [h2]
      constructor
      · rintro ⟨j, hj, rfl⟩; exact ⟨j, by omega, rfl⟩
      · rintro ⟨j, hj, rfl⟩
        by_cases hjm : j = m
        · subst hjm
          unfold Lib.keeps at hk
          rw [decide_eq_true_eq, not_or, Decidable.not_not] at hk
          exact ⟨j - 1, by omega, hk.2.symm⟩
        · exact ⟨j, by omega, rfl⟩
/-- What rises is told by its members. -/
theorem rises_eq {l m : List (List UInt8)} (hl : l.Pairwise (fun x y => x < y)) (hm : m.Pairwise (fun x y => x < y)) (h : ∀ x, x ∈ l ↔ x ∈ m) : l = m := by
  have nd : ∀ {l : List (List UInt8)}, l.Pairwise (fun x y => x < y) → l.Nodup := fun h => h.imp fun hlt e => by subst e; exact List.lt_irrefl _ hlt
  refine List.Perm.eq_of_pairwise (le := fun a b => a ≤ b) (fun a b _ _ h1 h2 => List.le_antisymm h1 h2) (hl.imp fun h => List.le_of_lt h) (hm.imp fun h => List.le_of_lt h) ?_
  exact (List.perm_ext_iff_of_nodup (nd hl) (nd hm)).2 h
/-- The names of items as they come. -/
def namesL (l : List TI) : List ByteArray := (l.filter (fun x => decide (x.1 = 2))).map (fun x => x.2.2)
theorem namesL_snoc (l : List TI) (k : Nat) (h : k < l.length) : namesL (l.take (k + 1)) = namesL (l.take k) ++ (if l[k].1 = 2 then [l[k].2.2] else []) := by
  unfold namesL
  rw [List.take_succ_eq_append_getElem h, List.filter_append, List.map_append]
  congr 1
  by_cases e : l[k].1 = 2
  · rw [if_pos e]; simp [e]
  · rw [if_neg e]; simp [e]
theorem mem_namesL (l : List TI) (y : ByteArray) : y ∈ namesL l ↔ ∃ x ∈ l, x.1 = 2 ∧ x.2.2 = y := by
  unfold namesL
  simp [and_assoc]
def rawB (l : List ByteArray) : List (List UInt8) := l.map (fun s => s.data.toList)
/-- Sorted and each once: the names put in one by one. -/
theorem names_sorted (l : List TI) : Lib.compact ((rawB (namesL l)).mergeSort leB8) = rawB (namesN l) := by
  have hs := List.pairwise_mergeSort leB8_trans leB8_total (rawB (namesL l))
  have hp := List.mergeSort_perm (rawB (namesL l)) leB8
  generalize (rawB (namesL l)).mergeSort leB8 = zs at hs hp
  have hd : ∀ i j, i ≤ j → j < zs.toArray.size → zs.toArray[i]! ≤ zs.toArray[j]! := by
    intro i j hij hj
    have hj' : j < zs.length := by simpa using hj
    have hi' : i < zs.length := by omega
    have e1 : zs.toArray[i]! = zs[i] := by simp [hi']
    have e2 : zs.toArray[j]! = zs[j] := by simp [hj']
    rw [e1, e2]
    by_cases e : i = j
    · subst e; exact List.le_refl _
    · have := List.pairwise_iff_getElem.1 hs i j hi' hj' (by omega)
      simpa [leB8] using this
  obtain ⟨h1, h2⟩ := compact_rises zs.toArray hd zs.length (by simp)
  refine rises_eq h1 ?_ (fun x => ?_)
  · unfold rawB
    rw [List.pairwise_map]
    refine (namesN_rises l).imp fun {a b} h => ?_
    unfold blt at h
    rw [bytesLess_eq, decide_eq_true_iff, Lib.toList_data, Lib.toList_data] at h
    exact h
  · have e1 : x ∈ Lib.compact zs ↔ x ∈ zs := by
      show x ∈ Lib.compactUpTo zs.toArray zs.length ↔ _
      rw [h2, List.mem_iff_getElem]
      constructor
      · rintro ⟨j, hj, rfl⟩; exact ⟨j, hj, by simp [hj]⟩
      · rintro ⟨j, hj, rfl⟩; exact ⟨j, hj, by simp [hj]⟩
    rw [e1, hp.mem_iff]
    unfold rawB
    rw [List.mem_map, List.mem_map]
    constructor
    · rintro ⟨s, hs, rfl⟩; exact ⟨s, (mem_namesN l s).2 ((mem_namesL l s).1 hs), rfl⟩
    · rintro ⟨s, hs, rfl⟩; exact ⟨s, (mem_namesL l s).2 ((mem_namesN l s).1 hs), rfl⟩
theorem namesN_len (l : List TI) : (namesN l).length ≤ l.length := by
  suffices h : ∀ (l : List TI) (L : List ByteArray), (l.foldl (fun L x => if x.1 = 2 then putN L x.2.2 else L) L).length ≤ L.length + l.length by
    have := h l []
    simpa [namesN] using this
  intro l
  induction l with
  | nil => intro L; simp
  | cons x l ih =>
    intro L
    rw [List.foldl_cons]
    have h1 := ih (if x.1 = 2 then putN L x.2.2 else L)
    have h2 : (if x.1 = 2 then putN L x.2.2 else L).length ≤ L.length + 1 := by
      split
      · exact putN_length L _
      · omega
    simp only [List.length_cons]
    omega
theorem namesR_len (l : List TI) : (namesR l).length ≤ 1000 := by
  unfold namesR
  split
  · rename_i h
    unfold sumB at h
    simp only [Bool.and_eq_true, decide_eq_true_eq] at h
    have := namesN_len l
    omega
  · simp
end Go.Proofs.YtegnekbbbfncgaaGreatDoor

/-
  The contract of the program's NamesOf.
-/
namespace Go.Proofs.YtegnekbbbfncgaaGreatDoor
open Go.ChangeShapes Go.WideShapes Go.ChangeAt Go.RowKit
attribute [local go_sem ↓] Go.wp_at_zero Go.wp_at_succ
attribute [local simp] World.cell?_alloc_past World.cell?_alloc_at World.frozen?_alloc_at cell_far cell_off cell_here World.frozen?_alloc_past

theorem enc_raw (L : List ByteArray) : (rawB L).map encStr = L.map Value.string := Lib.map_encStr L
/-- An answer of texts in memory of its own. -/
def AnsStr (w : World) (B : Nat) (v : Value) (L : List ByteArray) : Prop := w.ownsRow B 9 1 v L.length (L.map Value.string) ∧ v ≠ .slice none 0 0
theorem sort_lib (base g cap n : Nat) (ss : List (List UInt8)) (w : World) (hn : n ≤ 1048576) (h : w.ownsRow base 9 1 (.slice (some ⟨g, 0, none⟩) n cap) n (ss.map encStr)) :
    Calls Tryz.prog 134 #[.slice (some ⟨g, 0, none⟩) n cap] w fun e w' => e = .returned (.tuple #[]) ∧ w'.ownsRow base 9 1 (.slice (some ⟨g, 0, none⟩) n cap) n ((ss.mergeSort leB8).map encStr) ∧ w.grownBy w' (some g) := by
  obtain ⟨g', cap', hv, hbg, hgl, hncap, hcm, hlen, hH⟩ := Lib.holds_of_ownsRow h (by simp)
  simp only [Value.slice.injEq, Option.some.injEq, Addr.mk.injEq, and_true, true_and] at hv
  obtain ⟨rfl, rfl⟩ := hv
  subst hlen
  unfold maxLen at hcm
  refine (Tryz.slices_Sort_string g 0 cap ss w hH hgl (by omega)).mono ?_
  rintro e w' ⟨rfl, nn, os, rfl⟩
  refine ⟨rfl, ?_, grownBy_sorted _⟩
  rcases h.2 with ⟨h0, _⟩ | ⟨g', cap', cur, hv, hbase, hb, h1, h2, h3, h4⟩
  · cases h0
  cases hv
  have hl2 : (ss.mergeSort fun x y => decide (x ≤ y)).length = ss.length := List.length_mergeSort ss
  exact ownsRow_sorted (n := nn) (os := os) (ts := ss.mergeSort fun x y => decide (x ≤ y)) hl2 hbase hb h1 h2 h3
theorem compact_lib (base g cap n : Nat) (zs : List (List UInt8)) (w : World) (h : w.ownsRow base 9 1 (.slice (some ⟨g, 0, none⟩) n cap) n (zs.map encStr)) :
    Calls Tryz.prog 135 #[.slice (some ⟨g, 0, none⟩) n cap] w fun e w' => e = .returned (.slice (some ⟨g, 0, none⟩) (Lib.compact zs).length cap) ∧ w'.ownsRow base 9 1 (.slice (some ⟨g, 0, none⟩) (Lib.compact zs).length cap) (Lib.compact zs).length ((Lib.compact zs).map encStr) ∧ ∀ B w0, B ≤ g → Below B w0 w → Below B w0 w' := by
  obtain ⟨g', cap', hv, hbg, hgl, hncap, hcm, hlen, hH⟩ := Lib.holds_of_ownsRow h (by simp)
  simp only [Value.slice.injEq, Option.some.injEq, Addr.mk.injEq, and_true, true_and] at hv
  obtain ⟨rfl, rfl⟩ := hv
  subst hlen
  unfold maxLen at hcm
  refine (Tryz.slices_Compact_string g 0 cap zs w hH (by omega) hncap).mono ?_
  rintro e w' ⟨rfl, q, rfl⟩
  have hle := Lib.compact_length_le zs
  refine ⟨rfl, ?_, fun B w0 hB hb => Lib.below_putRow hb hB⟩
  have hc := Lib.ownsRow_putRow (q := q) (k := (Lib.compact zs).length) (ys := Lib.compact zs ++ List.replicate (zs.length - (Lib.compact zs).length) []) h (by simp; omega) (by omega)
  rw [List.take_left] at hc
  exact hc
set_option maxRecDepth 100000 in
set_option maxHeartbeats 4000000 in
theorem namesof_impl (a : Option Addr) (cap : Nat) (l : List TI) (n : Nat) (hnl : l.length = n) (w : World) (hrow : ItmAt w a l) (hfit : FitI l) (hm : n ≤ maxLen) (hp : PowAt w) (he : ErrAt w) (L : List ByteArray) (hL : namesR l = L) :
    Calls Tryz.prog 70 #[.slice a n cap] w fun e w' => ∃ v, e = .returned v ∧ AnsStr w' w.heap.size v L ∧ Below w.heap.size w w' := by
  obtain ⟨i0, hti, hz0, hz1, hz2⟩ := info_parts infoStr
  have HR : Hid (ItmAt w a l) := hrow
  have HF : Hid (FitI l) := hfit
  have HP : Hid (PowAt w) := hp
  have HE : Hid (ErrAt w) := he
  have HL : Hid (l.length = n) := hnl
  have HY : Hid (namesR l = L) := hL
  obtain ⟨b, hb⟩ : ∃ b, sumB l = b := ⟨_, rfl⟩
  have HB : Hid (sumB l = b) := hb
  have hb0 : Below w.heap.size w (w.alloc (.cells #[] 9)) := (Below.refl _ _).alloc (Nat.le_refl _) _
  have own0 : Hid ((w.alloc (.cells #[] 9)).ownsRow w.heap.size 9 1 (.slice (some ⟨w.heap.size, 0, none⟩) 0 0) ([] : List ByteArray).length (([] : List ByteArray).map Value.string)) :=
    ⟨rfl, .inr ⟨w.heap.size, 0, #[], rfl, Nat.le_refl _, by show (w.heap.push _)[w.heap.size]? = _; simp, Nat.le_refl _, by unfold maxLen; omega, rfl, rfl⟩⟩
  clear hrow hfit hp he hnl hL hb
  go_enter Tryz.func70, Tryz.ntmps70
  go_wp2_with fail
  refine (sum_impl a cap l n HL.out _ (HR.out.below hb0) HF.out hm (HP.out.below hb0) (HE.out.below hb0) b HB.out).mono ?_
  rintro e w1 ⟨rfl, hb1⟩
  have hx1 := chain hb0 hb1
  have own1 : Hid (w1.ownsRow w.heap.size 9 1 (.slice (some ⟨w.heap.size, 0, none⟩) 0 0) ([] : List ByteArray).length (([] : List ByteArray).map Value.string)) := own_below own0.out hb1
  clear own0 hb1 hb0
  cases b
  · have e : L = [] := by rw [← HY.out]; unfold namesR; rw [if_neg (by rw [HB.out]; decide)]
    subst e
    go_wp2
    go_ret
    exact ⟨_, rfl, ⟨own1.out, by simp⟩, hx1⟩
  have hN : rawB L = Lib.compact ((rawB (namesL l)).mergeSort leB8) := by
    rw [names_sorted, ← HY.out]; unfold namesR; rw [if_pos HB.out]
  have HN : Hid (rawB L = Lib.compact ((rawB (namesL l)).mergeSort leB8)) := hN
  have h40 : n ≤ 40 := by
    have := HB.out
    unfold sumB at this
    simp only [Bool.and_eq_true, decide_eq_true_eq] at this
    rw [← HL.out]; exact this.2
  clear hN
  go_wp2
  go_loopw [3, 13] (fun v kk wr => ∃ k : Nat, k ≤ n ∧ kk = .int .i64 k ∧ Hid (wr.ownsRow w.heap.size 9 1 v (namesL (l.take k)).length ((namesL (l.take k)).map Value.string)) ∧ Below w.heap.size w wr ∧ v ≠ .slice none 0 0) (fun _ kk _ => n - (intOf kk).toNat)
  case atStart => exact ⟨0, Nat.zero_le _, rfl, own1, hx1, by simp⟩
  case round =>
    obtain ⟨k, hk, rfl, hO, hb, hvn⟩ := hrel
    clear own1 hx1
    have hlen : (namesL (l.take k)).length ≤ k := by
      unfold namesL
      rw [List.length_map]
      have h1 := List.length_filter_le (fun x : TI => decide (x.1 = 2)) (l.take k)
      have h2 := List.length_take_le k l
      omega
    by_cases hlt : k < n
    · have hlk : k < l.length := by rw [HL.out]; exact hlt
      obtain ⟨g, o, rfl, hgw, c0, c1, c2, c3, c4⟩ := HR.out.below hb k hlk
      have hi0 : (0 : Int) ≤ (k : Int) := by omega
      have hi1 : (k : Int) < (n : Int) := by omega
      have hsn := namesL_snoc l k hlk
      have HS : Hid (namesL (l.take (k + 1)) = namesL (l.take k) ++ (if l[k].1 = 2 then [l[k].2.2] else [])) := hsn
      have hOO := hO.out
      clear hsn hO
      obtain ⟨P, hP⟩ : ∃ P, namesL (l.take k) = P := ⟨_, rfl⟩
      rw [hP] at HS hOO hlen
      clear hP
      generalize l[k] = x at c0 c1 c2 c3 c4 HS
      obtain ⟨xk, ⟨xa, xb, xc⟩, xs⟩ := x
      dsimp only at c0 c1 c2 c3 c4 HS
      obtain ⟨p, hp⟩ : ∃ p, P.length = p := ⟨_, rfl⟩
      rw [hp] at hOO hlen
      have HPL : Hid (P.length = p) := hp
      clear hp
      by_cases h2 : xk = 2
      · subst h2
        have hS2 : namesL (l.take (k + 1)) = P ++ [xs] := by rw [HS.out, if_pos rfl]
        have HS2 : Hid (namesL (l.take (k + 1)) = P ++ [xs]) := hS2
        obtain ⟨V, hV⟩ : ∃ V, V = wr.alloc (.cells #[.int .i64 2, .int .i64 xa, .int .i64 xb, .string xc, .string xs] 124) := ⟨_, rfl⟩
        have hbV : Below wr.heap.size wr V := by rw [hV]; exact (Below.refl _ _).alloc (Nat.le_refl _) _
        have O4 : Hid (V.ownsRow w.heap.size 9 1 u3 p (P.map Value.string)) := own_below hOO hbV
        have hx3 := chain hb hbV
        obtain ⟨d0, d1, d2, d3, d4, d5⟩ := box5 (w := wr) (w1 := V) (a := .int .i64 2) (b := .int .i64 xa) (c := .int .i64 xb) (d := .string xc) (e := .string xs) (T := 124) (by rw [hV]; exact Below.refl _ _)
        clear HS hS2
        go_upto_region 8 with fail
        rw [← hV]
        clear hV hbV hOO c0 c1 c2 c3 c4
        go_wp2_with (at_builtin; refine wpList_append_own _ rfl _ _ 23 rfl w.heap.size 9 i0 (.string ⟨#[]⟩) 1 16 Tryz.underlying23 hti hz0 hz1 hz2 rfl (by decide) _ _ _ rfl (O4.out.alloc _) ⟨V.heap.size, 0, none⟩ 1 1 [.string xs] rfl rfl (cells1S V _) (by intro u hu; simp at hu; subst hu; rfl) (by unfold maxLen; omega) (by omega) (by have := hx3.size; simp; omega) ?_)
        intro v' w4 own4 hgrow hnn
        have hx4 : Below w.heap.size w w4 := by
          refine (hx3.alloc hx3.size _).grown hgrow (by have := hx3.size; simp; omega) ?_
          intro kk hkk
          exact (O4.out.lt kk hkk).1
        have hvn2 : v' ≠ .slice none 0 0 := by first | exact hnn | exact fun e => hvn (hnn.1 e).1
        have SS : Hid (w4.ownsRow w.heap.size 9 1 v' (namesL (l.take (k + 1))).length ((namesL (l.take (k + 1))).map Value.string)) := by
          have : w4.ownsRow w.heap.size 9 1 v' (namesL (l.take (k + 1))).length ((namesL (l.take (k + 1))).map Value.string) := by
            rw [HS2.out, List.length_append, HPL.out, List.map_append]
            exact own4
          exact this
        clear own4 hgrow hnn O4
        go_wp2
        go_roundw
        case rel => exact ⟨k + 1, by omega, by go_num, SS, hx4, hvn2⟩
        case measure => simp [intOf]; omega
      · have hS2 : namesL (l.take (k + 1)) = P := by rw [HS.out, if_neg h2, List.append_nil]
        have q2 : (xk == 2) = false := neq_k h2
        have hbV : Below wr.heap.size wr (wr.alloc (.cells #[.int .i64 xk, .int .i64 xa, .int .i64 xb, .string xc, .string xs] 124)) := (Below.refl _ _).alloc (Nat.le_refl _) _
        have SS : Hid ((wr.alloc (.cells #[.int .i64 xk, .int .i64 xa, .int .i64 xb, .string xc, .string xs] 124)).ownsRow w.heap.size 9 1 u3 (namesL (l.take (k + 1))).length ((namesL (l.take (k + 1))).map Value.string)) := by
          have : (wr.alloc (.cells #[.int .i64 xk, .int .i64 xa, .int .i64 xb, .string xc, .string xs] 124)).ownsRow w.heap.size 9 1 u3 (namesL (l.take (k + 1))).length ((namesL (l.take (k + 1))).map Value.string) := by
            rw [hS2, HPL.out]; exact own_below hOO hbV
          exact this
        have hx4 := chain hb hbV
        clear HS hS2 hOO hbV
        go_wp2
        go_roundw
        case rel => exact ⟨k + 1, by omega, by go_num, SS, hx4, hvn⟩
        case measure => simp [intOf]; omega
    · have hkl : k = n := by omega
      subst hkl
      have hi1 : ¬ (k : Int) < (k : Int) := by omega
      have hOO := hO.out
      rw [List.take_of_length_le (by rw [HL.out]; exact Nat.le_refl _)] at hOO hlen
      obtain ⟨p, hp⟩ : ∃ p, (namesL l).length = p := ⟨_, rfl⟩
      rw [hp, ← enc_raw] at hOO
      rw [hp] at hlen
      rcases hOO.2 with ⟨h', _⟩ | ⟨gp, cp, cur, h', hbg, _⟩
      · exact absurd h' hvn
      subst h'
      have O1 : Hid (wr.ownsRow w.heap.size 9 1 (.slice (some ⟨gp, 0, none⟩) p cp) p ((rawB (namesL l)).map encStr)) := hOO
      clear hO hOO hp
      go_wp2_with fail
      refine (sort_lib w.heap.size gp cp p (rawB (namesL l)) _ (by omega) O1.out).mono ?_
      rintro e w2 ⟨rfl, own2, hgr⟩
      have hx2 : Below w.heap.size w w2 := hb.grown hgr hb.size (fun kk hkk => by cases hkk; exact hbg)
      have O2 : Hid (w2.ownsRow w.heap.size 9 1 (.slice (some ⟨gp, 0, none⟩) p cp) p (((rawB (namesL l)).mergeSort leB8).map encStr)) := own2
      clear O1 own2 hgr hb
      go_wp2_with fail
      refine (compact_lib w.heap.size gp cp p ((rawB (namesL l)).mergeSort leB8) _ O2.out).mono ?_
      rintro e w3 ⟨rfl, own3, hbl⟩
      have hx3 := hbl _ _ hbg hx2
      rw [← HN.out] at own3
      have hl3 : (rawB L).length = L.length := List.length_map _
      rw [hl3, enc_raw] at own3
      rw [← HN.out, hl3]
      have fin : Hid (AnsStr w3 w.heap.size (.slice (some ⟨gp, 0, none⟩) L.length cp) L) := ⟨own3, by simp⟩
      clear own3 hbl O2
      go_wp2
      go_ret
      exact ⟨_, rfl, fin.out, hx3⟩
end Go.Proofs.YtegnekbbbfncgaaGreatDoor

/-
  Sieves without any program: right sieves, questions, their texts, what a text is read as, and that a question is read from its text.
-/
namespace Go.Proofs.YtegnekbbbfncgaaGreatDoor

/-- A sieve. -/
structure SV where
  kind : Int
  name : ByteArray
  names : List ByteArray
  sum : List TI
  down : Bool
  count : Int
  skip : Int
def nameS (k : Int) : Bool := k == 1 || k == 3 || k == 5 || k == 6 || k == 8
def sumS (k : Int) : Bool := k == 2 || k == 3 || k == 5 || k == 6
def listS (k : Int) : Bool := k == 4 || k == 7
/-- Nothing but what its kind tells. -/
def bareB (s : SV) : Bool :=
  ((nameS s.kind || decide (s.name = ⟨#[]⟩)) && ((sumS s.kind || s.sum.isEmpty) && (listS s.kind || s.names.isEmpty)))
  && (((!s.down || s.kind == 8) && (s.kind == 9 || (s.count == 0 && s.skip == 0)))
  && ((!nameS s.kind || nameK s.name) && (!sumS s.kind || sumB s.sum)))
def names10 (l : List ByteArray) (lo hi : Int) : Bool := l.all nameK && namesB l lo hi
def in1000 (n : Int) : Bool := decide (0 ≤ n) && decide (n ≤ 1000)
/-- Is the sieve right? -/
def sieveB (s : SV) : Bool :=
  if s.kind = 4 then bareB s && names10 s.names 1 6 else if s.kind = 7 then bareB s && names10 s.names 0 4
  else if s.kind = 9 then bareB s && (in1000 s.count && in1000 s.skip) else (decide (1 ≤ s.kind) && decide (s.kind ≤ 10)) && bareB s
end Go.Proofs.YtegnekbbbfncgaaGreatDoor

/-
  Sieves without any program: what the text of a sieve is read as, and that a right sieve is read from its text.
-/
namespace Go.Proofs.YtegnekbbbfncgaaGreatDoor

end Go.Proofs.YtegnekbbbfncgaaGreatDoor

/-
  Sieves without any program: a right sieve is read from its text.
-/
namespace Go.Proofs.YtegnekbbbfncgaaGreatDoor

end Go.Proofs.YtegnekbbbfncgaaGreatDoor

/-
  Questions without any program: what a text is read as, and that a question is read from its text.
-/
namespace Go.Proofs.YtegnekbbbfncgaaGreatDoor

end Go.Proofs.YtegnekbbbfncgaaGreatDoor

/-
  The program's forms of a sieve without any program: what a kind tells, that a sieve is right by its form just where it is right, and that its text is its pieces.
-/
namespace Go.Proofs.YtegnekbbbfncgaaGreatDoor

/-- What a kind tells. -/
structure FS where
  word : ByteArray
  hasName : Bool
  few : Int
  most : Int
  ahead : ByteArray
  hasSum : Bool
  fall : Bool
  cnt : Int
def formF (k : Int) : FS :=
  if k = 1 then ⟨⟨#[102, 114, 111, 109]⟩, true, 0, 0, ⟨#[]⟩, false, false, 0⟩
  else if k = 2 then ⟨⟨#[119, 104, 101, 114, 101]⟩, false, 0, 0, ⟨#[]⟩, true, false, 0⟩
  else if k = 3 then ⟨⟨#[108, 101, 116]⟩, true, 0, 0, ⟨#[61]⟩, true, false, 0⟩
  else if k = 4 then ⟨⟨#[107, 101, 101, 112]⟩, false, 1, 6, ⟨#[]⟩, false, false, 0⟩
  else if k = 5 then ⟨⟨#[106, 111, 105, 110]⟩, true, 0, 0, ⟨#[111, 110]⟩, true, false, 0⟩
  else if k = 6 then ⟨⟨#[108, 101, 102, 116]⟩, true, 0, 0, ⟨#[111, 110]⟩, true, false, 0⟩
  else if k = 7 then ⟨⟨#[103, 114, 111, 117, 112]⟩, false, 0, 4, ⟨#[]⟩, false, false, 0⟩
  else if k = 8 then ⟨⟨#[111, 114, 100, 101, 114]⟩, true, 0, 0, ⟨#[]⟩, false, true, 0⟩
  else if k = 9 then ⟨⟨#[108, 105, 109, 105, 116]⟩, false, 0, 0, ⟨#[]⟩, false, false, 1000⟩
  else if k = 10 then ⟨⟨#[111, 110, 99, 101]⟩, false, 0, 0, ⟨#[]⟩, false, false, 0⟩ else ⟨⟨#[]⟩, false, 0, 0, ⟨#[]⟩, false, false, 0⟩
def nameF (f : FS) (s : SV) : Bool := if f.hasName = true then nameK s.name else decide (s.name = ⟨#[]⟩)
def namesF (f : FS) (s : SV) : Bool := !(decide ((s.names.length : Int) < f.few) || decide (f.most < (s.names.length : Int))) && (s.names.all nameK && decide s.names.Nodup)
def sumF (f : FS) (s : SV) : Bool := if f.hasSum = true then sumB s.sum else decide (s.sum.length = 0)
def canF (f : FS) (n : Int) : Bool := decide (0 ≤ n) && decide (n ≤ f.cnt)
def rightF (f : FS) (s : SV) : Bool :=
  !decide (f.word = ⟨#[]⟩) && (nameF f s && (namesF f s && (sumF f s && ((f.fall || !s.down) && (canF f s.count && canF f s.skip)))))

theorem nameK_nameB {s : ByteArray} (h : nameK s = true) : nameB s = true := by
  unfold nameK at h
  rw [Bool.and_eq_true] at h
  exact h.1
theorem form_k (k : Int) (h : k < 1 ∨ 10 < k) : formF k = ⟨⟨#[]⟩, false, 0, 0, ⟨#[]⟩, false, false, 0⟩ := by
  unfold formF
  rw [if_neg (show ¬ k = 1 by omega), if_neg (show ¬ k = 2 by omega), if_neg (show ¬ k = 3 by omega), if_neg (show ¬ k = 4 by omega), if_neg (show ¬ k = 5 by omega), if_neg (show ¬ k = 6 by omega), if_neg (show ¬ k = 7 by omega), if_neg (show ¬ k = 8 by omega), if_neg (show ¬ k = 9 by omega), if_neg (show ¬ k = 10 by omega)]
theorem kind_cases {k : Int} (h : ¬ (k < 1 ∨ 10 < k)) : k = 1 ∨ k = 2 ∨ k = 3 ∨ k = 4 ∨ k = 5 ∨ k = 6 ∨ k = 7 ∨ k = 8 ∨ k = 9 ∨ k = 10 := by omega
set_option maxHeartbeats 2000000 in
/-- The program's forms say what a right sieve is. -/
theorem right_form (s : SV) : rightF (formF s.kind) s = sieveB s := by
  obtain ⟨k, nm, N, S, dn, ct, sk⟩ := s
  have hE : S.isEmpty = decide (S.length = 0) := by cases S <;> simp
  have hE2 : N.isEmpty = decide (N.length = 0) := by cases N <;> simp
  have z : ∀ n : Int, (decide (0 ≤ n) && decide (n ≤ 0)) = (n == 0) := by
    intro n
    rw [Bool.eq_iff_iff]
    simp
    omega
  have h0 : N.length = 0 → (N.all nameK && decide N.Nodup) = true := by intro h; have := List.length_eq_zero_iff.1 h; subst this; rfl
  have nz : (!(decide ((N.length : Int) < 0) || decide (0 < (N.length : Int))) && (N.all nameK && decide N.Nodup)) = N.isEmpty := by
    rw [hE2]
    by_cases h : N.length = 0
    · rw [h0 h, h]; rfl
    · rw [decide_eq_true (show (0 : Int) < (N.length : Int) by omega), decide_eq_false h, Bool.or_true]; rfl
  have nl : ∀ lo hi : Int, (!(decide ((N.length : Int) < lo) || decide (hi < (N.length : Int))) && (N.all nameK && decide N.Nodup)) = names10 N lo hi := by
    intro lo hi
    rw [Bool.eq_iff_iff]
    unfold names10 namesB namesD
    simp only [Bool.and_eq_true, Bool.not_eq_true', Bool.or_eq_false_iff, decide_eq_false_iff_not, decide_eq_true_eq, List.all_eq_true]
    constructor
    · rintro ⟨⟨a, b⟩, c, d⟩
      exact ⟨c, ⟨fun x hx => nameK_nameB (c x hx), d⟩, by omega, by omega⟩
    · rintro ⟨c, ⟨_, d⟩, a, b⟩
      exact ⟨⟨by omega, by omega⟩, c, d⟩
  by_cases hk : k < 1 ∨ 10 < k
  · dsimp only
    rw [form_k k hk]
    unfold rightF sieveB
    dsimp only
    rw [if_neg (by omega), if_neg (by omega), if_neg (by omega)]
    rw [show (decide (1 ≤ k) && decide (k ≤ 10)) = false by rw [Bool.eq_false_iff]; simp; omega]
    simp
  rcases kind_cases hk with rfl | rfl | rfl | rfl | rfl | rfl | rfl | rfl | rfl | rfl
  · show (!decide ((⟨#[102, 114, 111, 109]⟩ : ByteArray) = ⟨#[]⟩) && (nameK nm && ((!(decide ((N.length : Int) < 0) || decide (0 < (N.length : Int))) && (N.all nameK && decide N.Nodup)) && (decide (S.length = 0) && ((false || !dn) && ((decide (0 ≤ ct) && decide (ct ≤ 0)) && (decide (0 ≤ sk) && decide (sk ≤ 0)))))))) = sieveB _
    rw [show decide ((⟨#[102, 114, 111, 109]⟩ : ByteArray) = ⟨#[]⟩) = false from rfl, nz, ← hE, z, z]
    show _ = (true && bareB _)
    unfold bareB
    dsimp only
    generalize nameK nm = a
    generalize N.isEmpty = f
    generalize S.isEmpty = e
    generalize (ct == 0) = g
    generalize (sk == 0) = h
    cases a <;> cases f <;> cases e <;> cases g <;> cases h <;> cases dn <;> rfl
  · show (!decide ((⟨#[119, 104, 101, 114, 101]⟩ : ByteArray) = ⟨#[]⟩) && (decide (nm = ⟨#[]⟩) && ((!(decide ((N.length : Int) < 0) || decide (0 < (N.length : Int))) && (N.all nameK && decide N.Nodup)) && (sumB S && ((false || !dn) && ((decide (0 ≤ ct) && decide (ct ≤ 0)) && (decide (0 ≤ sk) && decide (sk ≤ 0)))))))) = sieveB _
    rw [show decide ((⟨#[119, 104, 101, 114, 101]⟩ : ByteArray) = ⟨#[]⟩) = false from rfl, nz, z, z]
    show _ = (true && bareB _)
    unfold bareB
    dsimp only
    generalize decide (nm = ⟨#[]⟩) = c
    generalize N.isEmpty = f
    generalize sumB S = d
    generalize (ct == 0) = g
    generalize (sk == 0) = h
    cases c <;> cases f <;> cases d <;> cases g <;> cases h <;> cases dn <;> rfl
  · show (!decide ((⟨#[108, 101, 116]⟩ : ByteArray) = ⟨#[]⟩) && (nameK nm && ((!(decide ((N.length : Int) < 0) || decide (0 < (N.length : Int))) && (N.all nameK && decide N.Nodup)) && (sumB S && ((false || !dn) && ((decide (0 ≤ ct) && decide (ct ≤ 0)) && (decide (0 ≤ sk) && decide (sk ≤ 0)))))))) = sieveB _
    rw [show decide ((⟨#[108, 101, 116]⟩ : ByteArray) = ⟨#[]⟩) = false from rfl, nz, z, z]
    show _ = (true && bareB _)
    unfold bareB
    dsimp only
    generalize nameK nm = a
    generalize N.isEmpty = f
    generalize sumB S = d
    generalize (ct == 0) = g
    generalize (sk == 0) = h
    cases a <;> cases f <;> cases d <;> cases g <;> cases h <;> cases dn <;> rfl
  · show (!decide ((⟨#[107, 101, 101, 112]⟩ : ByteArray) = ⟨#[]⟩) && (decide (nm = ⟨#[]⟩) && ((!(decide ((N.length : Int) < 1) || decide (6 < (N.length : Int))) && (N.all nameK && decide N.Nodup)) && (decide (S.length = 0) && ((false || !dn) && ((decide (0 ≤ ct) && decide (ct ≤ 0)) && (decide (0 ≤ sk) && decide (sk ≤ 0)))))))) = sieveB _
    rw [show decide ((⟨#[107, 101, 101, 112]⟩ : ByteArray) = ⟨#[]⟩) = false from rfl, nl, ← hE, z, z]
    show _ = (bareB _ && names10 N 1 6)
    unfold bareB
    dsimp only
    generalize decide (nm = ⟨#[]⟩) = c
    generalize names10 N 1 6 = i
    generalize S.isEmpty = e
    generalize (ct == 0) = g
    generalize (sk == 0) = h
    cases c <;> cases i <;> cases e <;> cases g <;> cases h <;> cases dn <;> rfl
  · show (!decide ((⟨#[106, 111, 105, 110]⟩ : ByteArray) = ⟨#[]⟩) && (nameK nm && ((!(decide ((N.length : Int) < 0) || decide (0 < (N.length : Int))) && (N.all nameK && decide N.Nodup)) && (sumB S && ((false || !dn) && ((decide (0 ≤ ct) && decide (ct ≤ 0)) && (decide (0 ≤ sk) && decide (sk ≤ 0)))))))) = sieveB _
    rw [show decide ((⟨#[106, 111, 105, 110]⟩ : ByteArray) = ⟨#[]⟩) = false from rfl, nz, z, z]
    show _ = (true && bareB _)
    unfold bareB
    dsimp only
    generalize nameK nm = a
    generalize N.isEmpty = f
    generalize sumB S = d
    generalize (ct == 0) = g
    generalize (sk == 0) = h
    cases a <;> cases f <;> cases d <;> cases g <;> cases h <;> cases dn <;> rfl
  · show (!decide ((⟨#[108, 101, 102, 116]⟩ : ByteArray) = ⟨#[]⟩) && (nameK nm && ((!(decide ((N.length : Int) < 0) || decide (0 < (N.length : Int))) && (N.all nameK && decide N.Nodup)) && (sumB S && ((false || !dn) && ((decide (0 ≤ ct) && decide (ct ≤ 0)) && (decide (0 ≤ sk) && decide (sk ≤ 0)))))))) = sieveB _
    rw [show decide ((⟨#[108, 101, 102, 116]⟩ : ByteArray) = ⟨#[]⟩) = false from rfl, nz, z, z]
    show _ = (true && bareB _)
    unfold bareB
    dsimp only
    generalize nameK nm = a
    generalize N.isEmpty = f
    generalize sumB S = d
    generalize (ct == 0) = g
    generalize (sk == 0) = h
    cases a <;> cases f <;> cases d <;> cases g <;> cases h <;> cases dn <;> rfl
  · show (!decide ((⟨#[103, 114, 111, 117, 112]⟩ : ByteArray) = ⟨#[]⟩) && (decide (nm = ⟨#[]⟩) && ((!(decide ((N.length : Int) < 0) || decide (4 < (N.length : Int))) && (N.all nameK && decide N.Nodup)) && (decide (S.length = 0) && ((false || !dn) && ((decide (0 ≤ ct) && decide (ct ≤ 0)) && (decide (0 ≤ sk) && decide (sk ≤ 0)))))))) = sieveB _
    rw [show decide ((⟨#[103, 114, 111, 117, 112]⟩ : ByteArray) = ⟨#[]⟩) = false from rfl, nl, ← hE, z, z]
    show _ = (bareB _ && names10 N 0 4)
    unfold bareB
    dsimp only
    generalize decide (nm = ⟨#[]⟩) = c
    generalize names10 N 0 4 = i
    generalize S.isEmpty = e
    generalize (ct == 0) = g
    generalize (sk == 0) = h
    cases c <;> cases i <;> cases e <;> cases g <;> cases h <;> cases dn <;> rfl
  · show (!decide ((⟨#[111, 114, 100, 101, 114]⟩ : ByteArray) = ⟨#[]⟩) && (nameK nm && ((!(decide ((N.length : Int) < 0) || decide (0 < (N.length : Int))) && (N.all nameK && decide N.Nodup)) && (decide (S.length = 0) && ((true || !dn) && ((decide (0 ≤ ct) && decide (ct ≤ 0)) && (decide (0 ≤ sk) && decide (sk ≤ 0)))))))) = sieveB _
    rw [show decide ((⟨#[111, 114, 100, 101, 114]⟩ : ByteArray) = ⟨#[]⟩) = false from rfl, nz, ← hE, z, z]
    show _ = (true && bareB _)
    unfold bareB
    dsimp only
    generalize nameK nm = a
    generalize N.isEmpty = f
    generalize S.isEmpty = e
    generalize (ct == 0) = g
    generalize (sk == 0) = h
    cases a <;> cases f <;> cases e <;> cases g <;> cases h <;> cases dn <;> rfl
  · show (!decide ((⟨#[108, 105, 109, 105, 116]⟩ : ByteArray) = ⟨#[]⟩) && (decide (nm = ⟨#[]⟩) && ((!(decide ((N.length : Int) < 0) || decide (0 < (N.length : Int))) && (N.all nameK && decide N.Nodup)) && (decide (S.length = 0) && ((false || !dn) && ((decide (0 ≤ ct) && decide (ct ≤ 1000)) && (decide (0 ≤ sk) && decide (sk ≤ 1000)))))))) = sieveB _
    rw [show decide ((⟨#[108, 105, 109, 105, 116]⟩ : ByteArray) = ⟨#[]⟩) = false from rfl, nz, ← hE]
    show _ = (bareB _ && ((decide (0 ≤ ct) && decide (ct ≤ 1000)) && (decide (0 ≤ sk) && decide (sk ≤ 1000))))
    unfold bareB
    dsimp only
    generalize decide (nm = ⟨#[]⟩) = c
    generalize N.isEmpty = f
    generalize S.isEmpty = e
    generalize (decide (0 ≤ ct) && decide (ct ≤ 1000)) = g
    generalize (decide (0 ≤ sk) && decide (sk ≤ 1000)) = h
    cases c <;> cases f <;> cases e <;> cases g <;> cases h <;> cases dn <;> rfl
  · show (!decide ((⟨#[111, 110, 99, 101]⟩ : ByteArray) = ⟨#[]⟩) && (decide (nm = ⟨#[]⟩) && ((!(decide ((N.length : Int) < 0) || decide (0 < (N.length : Int))) && (N.all nameK && decide N.Nodup)) && (decide (S.length = 0) && ((false || !dn) && ((decide (0 ≤ ct) && decide (ct ≤ 0)) && (decide (0 ≤ sk) && decide (sk ≤ 0)))))))) = sieveB _
    rw [show decide ((⟨#[111, 110, 99, 101]⟩ : ByteArray) = ⟨#[]⟩) = false from rfl, nz, ← hE, z, z]
    show _ = (true && bareB _)
    unfold bareB
    dsimp only
    generalize decide (nm = ⟨#[]⟩) = c
    generalize N.isEmpty = f
    generalize S.isEmpty = e
    generalize (ct == 0) = g
    generalize (sk == 0) = h
    cases c <;> cases f <;> cases e <;> cases g <;> cases h <;> cases dn <;> rfl
end Go.Proofs.YtegnekbbbfncgaaGreatDoor

/-
  The contracts of what is reckoned with: operands, the four small functions on numbers, the model's own helpers, two cells held against each other.
-/
namespace Go.Proofs.YtegnekbbbfncgaaGreatDoor
open Go.ChangeShapes Go.WideShapes Go.ChangeAt Go.RowKit

end Go.Proofs.YtegnekbbbfncgaaGreatDoor

/-
  The contract of the model's helper that asks whether two cells can be reckoned with.
-/
namespace Go.Proofs.YtegnekbbbfncgaaGreatDoor
open Go.ChangeShapes Go.WideShapes Go.ChangeAt Go.RowKit

end Go.Proofs.YtegnekbbbfncgaaGreatDoor

/-
  The contract of the program's own way to reckon with two cells.
-/
namespace Go.Proofs.YtegnekbbbfncgaaGreatDoor
open Go.ChangeShapes Go.WideShapes Go.ChangeAt Go.RowKit
attribute [local go_sem ↓] Go.wp_at_zero Go.wp_at_succ

attribute [local simp] World.cell?_alloc_past World.cell?_alloc_at World.frozen?_alloc_at cell_far cell_off cell_here World.frozen?_alloc_past

end Go.Proofs.YtegnekbbbfncgaaGreatDoor

/-
  The contracts of Plus, Less, Times and By: the program's and the model's come to the same.
-/
namespace Go.Proofs.YtegnekbbbfncgaaGreatDoor
open Go.ChangeShapes Go.WideShapes Go.ChangeAt Go.RowKit

end Go.Proofs.YtegnekbbbfncgaaGreatDoor
