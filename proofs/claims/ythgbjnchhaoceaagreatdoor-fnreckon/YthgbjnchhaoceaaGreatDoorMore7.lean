/-
  A part of the proof: Until, ShowSumS, NameMath2, NamesI, NamesS.
-/
import Derived.Deep.RegionHeld3
import Derived.Test.YthgbjnchhaoceaaGreatDoorPart13
import Derived.Test.YthgbjnchhaoceaaGreatDoorPart9
import Derived.Test.YthgbjnchhaoceaaGreatDoorPart10
import Derived.Test.YthgbjnchhaoceaaGreatDoorPart15
import Derived.Lib.SlicesCompact
import Derived.Test.YthgbjnchhaoceaaGreatDoorPart12
import Derived.Sort.OwnSorted
import Derived.Lib.OwnBridge
import Derived.Lib.RowBridge
import Derived.Test.YthgbjnchhaoceaaGreatDoorMore3

/-
  A region that draws its order and whose last operation writes what the others read: a condition on the world that holds until that one comes up.
-/
namespace Go.Proofs.YthgbjnchhaoceaaGreatDoor

section
variable {P : Program} {ops : Array Oper} {Q : Exit → Act → World → Prop} {md : Region.Mode} {S : World → Prop} {z : Nat}

/-- Whatever order is picked: behind each operation but z the condition S holds. -/
def wpAnyU (P : Program) (md : Region.Mode) (ops : Array Oper) (Q : Exit → Act → World → Prop) (S : World → Prop) (z : Nat) : Nat → Array Bool → Act → World → Prop
  | 0, listed, a, w => Region.ready md ops listed = [] ∧ Q .normal a w
  | n + 1, listed, a, w => (Region.ready md ops listed = [] → Q .normal a w) ∧ ∀ i ∈ Region.ready md ops listed, wpOp P ops Q i (fun a' w' => (i = z ∨ S w') ∧ wpAnyU P md ops Q S z n (listed.setIfInBounds i true) a' w') a w

theorem wpAnyU.any : ∀ {n : Nat} {listed : Array Bool} {a : Act} {w : World}, wpAnyU P md ops Q S z n listed a w → wpAny P md ops Q n listed a w
  | 0, _, _, _, h => h
  | _ + 1, _, _, _, h => ⟨h.1, fun i hi => wpOp_mono (fun _ _ h' => wpAnyU.any h'.2) (h.2 i hi)⟩

/-- Does z wait for i? -/
def waits (md : Region.Mode) (ops : Array Oper) (z i : Nat) : Bool := match ops[z]? with
  | some o => o.after.any (fun e => Region.binds md e && e.on == i)
  | none => false
theorem waits_some {i : Nat} {o : Oper} (h : waits md ops z i = true) (ho : ops[z]? = some o) : ∃ e ∈ o.after, Region.binds md e = true ∧ e.on = i := by
  unfold waits at h
  rw [ho] at h
  obtain ⟨k, hk, he⟩ := Array.any_eq_true.1 h
  simp only [Bool.and_eq_true, beq_iff_eq] at he
  exact ⟨o.after[k], Array.getElem_mem hk, he.1, he.2⟩

theorem wpAnyU_first {i : Nat} {oi : Oper} {v : Value} (hi : ops[i]? = some oi) (hz : waits md ops z i = true) (hsel : ∀ (j : Nat) (o : Oper) cs b, ops[j]? = some o → o.op ≠ .select cs b)
    (hQ : ∀ c a w, Q (.panic c) (a.put oi.dst v) w → Q (.panic c) a w) : ∀ (n : Nat) (listed : Array Bool) (a : Act) (w : World),
      (∀ j oj, ops[j]? = some oj → j ≠ i → listed.getD j true = false → (∀ e ∈ oj.after, Region.binds md e = true → e.on ≠ i) → oi.apart ops oj = true) →
      i ∈ Region.ready md ops listed → YieldsIf P ops S oi v a → S w →
      wpAnyU P md ops Q S z n (listed.setIfInBounds i true) (a.put oi.dst v) w → wpAnyU P md ops Q S z (n + 1) listed a w
  | 0, listed, a, w, _, hr, hy, hS, H => ⟨fun h => (by rw [h] at hr; cases hr), fun j hj => by
      by_cases e : j = i
      · subst e; exact hy.wpOp hi hS ⟨.inr hS, H⟩
      · have := ready_mono hj e
        rw [H.1] at this
        cases this⟩
  | n + 1, listed, a, w, hfree, hr, hy, hS, H => ⟨fun h => (by rw [h] at hr; cases hr), fun j hj => by
      by_cases e : j = i
      · subst e; exact hy.wpOp hi hS ⟨.inr hS, H⟩
      · have h1 := H.2 j (ready_mono hj e)
        obtain ⟨hun, oj, hoj, hall⟩ := mem_ready.1 hj
        have hnot : ∀ x ∈ oj.after, Region.binds md x = true → x.on ≠ i := by
          intro x hx hb heq
          have k1 := hall x hx hb
          have k0 := (mem_ready.1 hr).1
          rw [heq] at k1
          rcases Nat.lt_or_ge i listed.size with h' | h'
          · simp [h'] at k0 k1; rw [k0] at k1; cases k1
          · simp [Array.getElem?_eq_none h'] at k1
        have hjz : j ≠ z := by
          intro ez
          subst ez
          obtain ⟨x, hx, hb, heq⟩ := waits_some hz hoj
          exact hnot x hx hb heq
        have h2 := wpOp_putIf hoj (hfree j oj hoj e hun hnot) (fun cs b => hsel i oi cs b hi) (fun cs b => hsel j oj cs b hoj) hQ hy h1
        refine wpOp_mono (fun a' w' h3 => ?_) h2
        have hSw : S w' := by rcases h3.2.1 with h4 | h4; exact absurd h4 hjz; exact h4
        refine ⟨.inr hSw, wpAnyU_first hi hz hsel hQ n (listed.setIfInBounds j true) a' w' ?_ (ready_mono hr (Ne.symm e)) h3.1 hSw ?_⟩
        · intro k ok hk hki hku hno
          refine hfree k ok hk hki ?_ hno
          by_cases hjk : j = k
          · subst hjk; exact hun
          · rw [getD_set_ne true hjk] at hku; exact hku
        · rw [Array.setIfInBounds_comm _ _ e]; exact h3.2.2⟩
theorem wpAnyU_take {i : Nat} {oi : Oper} {v : Value} {n : Nat} {listed : Array Bool} {a : Act} {w : World} (hi : ops[i]? = some oi) (hz : waits md ops z i = true)
    (hs : Region.noSelect ops = true) (hf : Region.free md ops listed i = true) (hr : (Region.ready md ops listed).contains i = true)
    (hQ : ∀ c a w, Q (.panic c) (a.put oi.dst v) w → Q (.panic c) a w) (hy : YieldsIf P ops S oi v a) (hS : S w)
    (h : wpAnyU P md ops Q S z n (listed.setIfInBounds i true) (a.put oi.dst v) w) : wpAnyU P md ops Q S z (n + 1) listed a w :=
  wpAnyU_first hi hz (Region.noSelect_spec hs) hQ n listed a w (Region.free_spec hi hf) (by simpa using hr) hy hS h
/-- The one that is ready is carried out; behind it S is shown anew. -/
theorem wpAnyU_one {i : Nat} {o : Oper} {n : Nat} {listed : Array Bool} {a : Act} {w : World} (hr : Region.ready md ops listed = [i]) (ho : ops[i]? = some o)
    (h : ∀ K' : Act → World → Prop, Shut (∀ a w, S w → (S w → wpAnyU P md ops Q S z n (listed.setIfInBounds i true) a w) → K' a w) → if Region.wanted o (yielded ops a.tmps) = true then Oper.wp P o a w K' Q else K' (a.put o.dst undef) w) :
    wpAnyU P md ops Q S z (n + 1) listed a w :=
  ⟨fun h0 => (by rw [hr] at h0; cases h0), fun j hj => by
    rw [hr] at hj
    obtain rfl : j = i := by simpa using hj
    exact wpOp_step ho (fun K' hK => h K' (fun a w hS hW => hK a w ⟨.inr hS, hW hS⟩))⟩
/-- The last one is carried out: S is asked no more. -/
theorem wpAnyU_last {o : Oper} {n : Nat} {listed : Array Bool} {a : Act} {w : World} (hr : Region.ready md ops listed = [z]) (ho : ops[z]? = some o)
    (h : ∀ K' : Act → World → Prop, Shut (∀ a w, wpAnyU P md ops Q S z n (listed.setIfInBounds z true) a w → K' a w) → if Region.wanted o (yielded ops a.tmps) = true then Oper.wp P o a w K' Q else K' (a.put o.dst undef) w) :
    wpAnyU P md ops Q S z (n + 1) listed a w :=
  ⟨fun h0 => (by rw [hr] at h0; cases h0), fun j hj => by
    rw [hr] at hj
    obtain rfl : j = z := by simpa using hj
    exact wpOp_step ho (fun K' hK => h K' (fun a w hW => hK a w ⟨.inl rfl, hW⟩))⟩
theorem wp_region_until {id : Nat} {a : Act} {w : World} (hm : P.follows .mixedOrders = true) (hS : S w.drew)
    (h : S w.drew → wpAnyU P .any ops Q S z ops.size (Array.replicate ops.size false) a w.drew) : (Code.region id ops true).wp P Q a w :=
  wp_region_any hm (h hS).any
theorem wpAnyU_done {listed : Array Bool} {a : Act} {w : World} (hr : Region.ready md ops listed = []) (h : Q .normal a w) : ∀ n, wpAnyU P md ops Q S z n listed a w
  | 0 => ⟨hr, h⟩
  | _ + 1 => ⟨fun _ => h, by rw [hr]; simp⟩
end
end Go.Proofs.YthgbjnchhaoceaaGreatDoor

/-
  The contract of the model's ShowSum.
-/
namespace Go.Proofs.YthgbjnchhaoceaaGreatDoor
open Go.ChangeShapes Go.WideShapes Go.ChangeAt Go.RowKit
attribute [local go_sem ↓] Go.wp_at_zero Go.wp_at_succ
attribute [local simp] World.cell?_alloc_past World.cell?_alloc_at World.frozen?_alloc_at cell_far cell_off cell_here World.frozen?_alloc_past

def signL : List ByteArray := [sgn 3, sgn 4, sgn 5, sgn 6, sgn 7, sgn 8, sgn 9, sgn 10, sgn 11, sgn 12]
theorem own_shrink {w : World} {base g c n : Nat} {e : TypeId} {P : List ByteArray} (h : w.ownsRow base e 1 (.slice (some ⟨g, 0, none⟩) n c) n (P.map Value.string)) (m : Nat) (hm : m ≤ n) : w.ownsRow base e 1 (.slice (some ⟨g, 0, none⟩) m c) m ((P.take m).map Value.string) := by
  have hl : P.length = n := by have := h.1; rw [List.length_map, Nat.mul_one] at this; exact this
  rcases h.2 with ⟨h', _⟩ | ⟨g', c', cur, h', hb', hg', hc', hm', hz', ht'⟩
  · simp at h'
  · simp only [Value.slice.injEq, Option.some.injEq, Addr.mk.injEq, and_true, true_and] at h'
    obtain ⟨rfl, rfl⟩ := h'
    refine ⟨by rw [List.length_map, List.length_take]; omega, .inr ⟨g, c, cur, rfl, hb', hg', by omega, hm', hz', ?_⟩⟩
    have e2 : cur.toList.take (m * 1) = (cur.toList.take (n * 1)).take (m * 1) := by rw [List.take_take]; congr 1; omega
    rw [e2, ht', Nat.mul_one, List.map_take]
theorem cells1S (w : World) (x : Value) : ∀ j u, [x][j]? = some u → (w.alloc (.cells #[x] 9)).cell? ((⟨w.heap.size, 0, none⟩ : Addr).add j) = some u := by
  intro j u hj
  match j, hj with
  | 0, hj => simp at hj; subst hj; simp [Addr.add]
end Go.Proofs.YthgbjnchhaoceaaGreatDoor

/-
  Texts sorted, then each once, without any program: they are the names put in one by one.
-/
namespace Go.Proofs.YthgbjnchhaoceaaGreatDoor

abbrev leB8 : List UInt8 → List UInt8 → Bool := fun x y => decide (x ≤ y)
theorem leB8_trans (a b c : List UInt8) (h1 : leB8 a b = true) (h2 : leB8 b c = true) : leB8 a c = true := by
  simp only [leB8, decide_eq_true_eq] at *; exact List.le_trans h1 h2
theorem leB8_total (a b : List UInt8) : (leB8 a b || leB8 b a) = true := by
  simp only [leB8, Bool.or_eq_true, decide_eq_true_eq]; exact List.le_total a b
theorem lt_of_ne8 {a b : List UInt8} (h : a ≤ b) (hn : a ≠ b) : a < b := by
  by_cases hlt : a < b
  · exact hlt
  · exact absurd (List.le_antisymm h (List.not_lt.1 hlt)) hn
/-- Of what is sorted the first ones of each run rise, and they are all that there are. -/
theorem compact_rises (d : Array (List UInt8)) (hd : ∀ i j, i ≤ j → j < d.size → d[i]! ≤ d[j]!) : ∀ m, m ≤ d.size →
    (Lib.compactUpTo d m).Pairwise (fun x y => x < y) ∧ ∀ x, x ∈ Lib.compactUpTo d m ↔ ∃ j, j < m ∧ d[j]! = x
  | 0, _ => ⟨List.Pairwise.nil, fun x => ⟨fun h => by simp [Lib.compactUpTo] at h, fun ⟨j, h, _⟩ => by omega⟩⟩
  | m + 1, hm => by
    obtain ⟨h1, h2⟩ := compact_rises d hd m (by omega)
    rw [Lib.compactUpTo_succ]
    by_cases hk : Lib.keeps d m = true
    · rw [if_pos hk]
      refine ⟨?_, fun x => ?_⟩
      · rw [List.pairwise_append]
        refine ⟨h1, List.pairwise_singleton _ _, fun a ha b hb => ?_⟩
        rw [List.mem_singleton] at hb
        subst hb
        obtain ⟨j, hj, rfl⟩ := (h2 a).1 ha
        have hne : d[m]! ≠ d[m - 1]! := by
          unfold Lib.keeps at hk
          rw [decide_eq_true_eq] at hk
          rcases hk with hk | hk
          · omega
          · exact hk
        have l1 := hd j (m - 1) (by omega) (by omega)
        have l2 := lt_of_ne8 (hd (m - 1) m (by omega) (by omega)) (fun e => hne e.symm)
        exact List.lt_of_le_of_lt l1 l2
      · rw [List.mem_append, h2, List.mem_singleton]
        constructor
        · rintro (⟨j, hj, rfl⟩ | rfl)
          · exact ⟨j, by omega, rfl⟩
          · exact ⟨m, by omega, rfl⟩
        · rintro ⟨j, hj, rfl⟩
          by_cases hjm : j = m
          · subst hjm; exact .inr rfl
          · exact .inl ⟨j, by omega, rfl⟩
    · rw [if_neg hk, List.append_nil]
      refine ⟨h1, fun x => ?_⟩
      rw [h2]
      constructor
      · rintro ⟨j, hj, rfl⟩; exact ⟨j, by omega, rfl⟩
      · rintro ⟨j, hj, rfl⟩
        by_cases hjm : j = m
        · subst hjm
          unfold Lib.keeps at hk
          rw [decide_eq_true_eq, not_or, Decidable.not_not] at hk
          exact ⟨j - 1, by omega, hk.2.symm⟩
        · exact ⟨j, by omega, rfl⟩
/-- What rises is told by its members. -/
theorem rises_eq {l m : List (List UInt8)} (hl : l.Pairwise (fun x y => x < y)) (hm : m.Pairwise (fun x y => x < y)) (h : ∀ x, x ∈ l ↔ x ∈ m) : l = m := by
  have nd : ∀ {l : List (List UInt8)}, l.Pairwise (fun x y => x < y) → l.Nodup := fun h => h.imp fun hlt e => by subst e; exact List.lt_irrefl _ hlt
  refine List.Perm.eq_of_pairwise (le := fun a b => a ≤ b) (fun a b _ _ h1 h2 => List.le_antisymm h1 h2) (hl.imp fun h => List.le_of_lt h) (hm.imp fun h => List.le_of_lt h) ?_
  exact (List.perm_ext_iff_of_nodup (nd hl) (nd hm)).2 h
/-- The names of items as they come. -/
def namesL (l : List TI) : List ByteArray := (l.filter (fun x => decide (x.1 = 2))).map (fun x => x.2.2)
theorem namesL_snoc (l : List TI) (k : Nat) (h : k < l.length) : namesL (l.take (k + 1)) = namesL (l.take k) ++ (if l[k].1 = 2 then [l[k].2.2] else []) := by
  unfold namesL
  rw [List.take_succ_eq_append_getElem h, List.filter_append, List.map_append]
  congr 1
  by_cases e : l[k].1 = 2
  · rw [if_pos e]; simp [e]
  · rw [if_neg e]; simp [e]
theorem mem_namesL (l : List TI) (y : ByteArray) : y ∈ namesL l ↔ ∃ x ∈ l, x.1 = 2 ∧ x.2.2 = y := by
  unfold namesL
  simp [and_assoc]
def rawB (l : List ByteArray) : List (List UInt8) := l.map (fun s => s.data.toList)
/-- Sorted and each once: the names put in one by one. -/
theorem names_sorted (l : List TI) : Lib.compact ((rawB (namesL l)).mergeSort leB8) = rawB (namesN l) := by
  have hs := List.pairwise_mergeSort leB8_trans leB8_total (rawB (namesL l))
  have hp := List.mergeSort_perm (rawB (namesL l)) leB8
  generalize (rawB (namesL l)).mergeSort leB8 = zs at hs hp
  have hd : ∀ i j, i ≤ j → j < zs.toArray.size → zs.toArray[i]! ≤ zs.toArray[j]! := by
    intro i j hij hj
    have hj' : j < zs.length := by simpa using hj
    have hi' : i < zs.length := by omega
    have e1 : zs.toArray[i]! = zs[i] := by simp [hi']
    have e2 : zs.toArray[j]! = zs[j] := by simp [hj']
    rw [e1, e2]
    by_cases e : i = j
    · subst e; exact List.le_refl _
    · have := List.pairwise_iff_getElem.1 hs i j hi' hj' (by omega)
      simpa [leB8] using this
  obtain ⟨h1, h2⟩ := compact_rises zs.toArray hd zs.length (by simp)
  refine rises_eq h1 ?_ (fun x => ?_)
  · unfold rawB
    rw [List.pairwise_map]
    refine (namesN_rises l).imp fun {a b} h => ?_
    unfold blt at h
    rw [bytesLess_eq, decide_eq_true_iff, Lib.toList_data, Lib.toList_data] at h
    exact h
  · have e1 : x ∈ Lib.compact zs ↔ x ∈ zs := by
      show x ∈ Lib.compactUpTo zs.toArray zs.length ↔ _
      rw [h2, List.mem_iff_getElem]
      constructor
      · rintro ⟨j, hj, rfl⟩; exact ⟨j, hj, by simp [hj]⟩
      · rintro ⟨j, hj, rfl⟩; exact ⟨j, hj, by simp [hj]⟩
    rw [e1, hp.mem_iff]
    unfold rawB
    rw [List.mem_map, List.mem_map]
    constructor
    · rintro ⟨s, hs, rfl⟩; exact ⟨s, (mem_namesN l s).2 ((mem_namesL l s).1 hs), rfl⟩
    · rintro ⟨s, hs, rfl⟩; exact ⟨s, (mem_namesL l s).2 ((mem_namesN l s).1 hs), rfl⟩
theorem namesN_len (l : List TI) : (namesN l).length ≤ l.length := by
  suffices h : ∀ (l : List TI) (L : List ByteArray), (l.foldl (fun L x => if x.1 = 2 then putN L x.2.2 else L) L).length ≤ L.length + l.length by
    have := h l []
    simpa [namesN] using this
  intro l
  induction l with
  | nil => intro L; simp
  | cons x l ih =>
    intro L
    rw [List.foldl_cons]
    have h1 := ih (if x.1 = 2 then putN L x.2.2 else L)
    have h2 : (if x.1 = 2 then putN L x.2.2 else L).length ≤ L.length + 1 := by
      split
      · exact putN_length L _
      · omega
    simp only [List.length_cons]
    omega
theorem namesR_len (l : List TI) : (namesR l).length ≤ 1000 := by
  unfold namesR
  split
  · rename_i h
    unfold sumB at h
    simp only [Bool.and_eq_true, decide_eq_true_eq] at h
    have := namesN_len l
    omega
  · simp
end Go.Proofs.YthgbjnchhaoceaaGreatDoor

/-
  The contract of the program's NamesOf.
-/
namespace Go.Proofs.YthgbjnchhaoceaaGreatDoor
open Go.ChangeShapes Go.WideShapes Go.ChangeAt Go.RowKit
attribute [local go_sem ↓] Go.wp_at_zero Go.wp_at_succ
attribute [local simp] World.cell?_alloc_past World.cell?_alloc_at World.frozen?_alloc_at cell_far cell_off cell_here World.frozen?_alloc_past

theorem enc_raw (L : List ByteArray) : (rawB L).map encStr = L.map Value.string := Lib.map_encStr L
/-- An answer of texts in memory of its own. -/
def AnsStr (w : World) (B : Nat) (v : Value) (L : List ByteArray) : Prop := w.ownsRow B 9 1 v L.length (L.map Value.string) ∧ v ≠ .slice none 0 0
theorem sort_lib (base g cap n : Nat) (ss : List (List UInt8)) (w : World) (hn : n ≤ 1048576) (h : w.ownsRow base 9 1 (.slice (some ⟨g, 0, none⟩) n cap) n (ss.map encStr)) :
    Calls Tryz.prog 50 #[.slice (some ⟨g, 0, none⟩) n cap] w fun e w' => e = .returned (.tuple #[]) ∧ w'.ownsRow base 9 1 (.slice (some ⟨g, 0, none⟩) n cap) n ((ss.mergeSort leB8).map encStr) ∧ w.grownBy w' (some g) := by
  obtain ⟨g', cap', hv, hbg, hgl, hncap, hcm, hlen, hH⟩ := Lib.holds_of_ownsRow h (by simp)
  simp only [Value.slice.injEq, Option.some.injEq, Addr.mk.injEq, and_true, true_and] at hv
  obtain ⟨rfl, rfl⟩ := hv
  subst hlen
  unfold maxLen at hcm
  refine (Tryz.slices_Sort_string g 0 cap ss w hH hgl (by omega)).mono ?_
  rintro e w' ⟨rfl, nn, os, rfl⟩
  refine ⟨rfl, ?_, grownBy_sorted _⟩
  rcases h.2 with ⟨h0, _⟩ | ⟨g', cap', cur, hv, hbase, hb, h1, h2, h3, h4⟩
  · cases h0
  cases hv
  have hl2 : (ss.mergeSort fun x y => decide (x ≤ y)).length = ss.length := List.length_mergeSort ss
  exact ownsRow_sorted (n := nn) (os := os) (ts := ss.mergeSort fun x y => decide (x ≤ y)) hl2 hbase hb h1 h2 h3
theorem compact_lib (base g cap n : Nat) (zs : List (List UInt8)) (w : World) (h : w.ownsRow base 9 1 (.slice (some ⟨g, 0, none⟩) n cap) n (zs.map encStr)) :
    Calls Tryz.prog 51 #[.slice (some ⟨g, 0, none⟩) n cap] w fun e w' => e = .returned (.slice (some ⟨g, 0, none⟩) (Lib.compact zs).length cap) ∧ w'.ownsRow base 9 1 (.slice (some ⟨g, 0, none⟩) (Lib.compact zs).length cap) (Lib.compact zs).length ((Lib.compact zs).map encStr) ∧ ∀ B w0, B ≤ g → Below B w0 w → Below B w0 w' := by
  obtain ⟨g', cap', hv, hbg, hgl, hncap, hcm, hlen, hH⟩ := Lib.holds_of_ownsRow h (by simp)
  simp only [Value.slice.injEq, Option.some.injEq, Addr.mk.injEq, and_true, true_and] at hv
  obtain ⟨rfl, rfl⟩ := hv
  subst hlen
  unfold maxLen at hcm
  refine (Tryz.slices_Compact_string g 0 cap zs w hH (by omega) hncap).mono ?_
  rintro e w' ⟨rfl, q, rfl⟩
  have hle := Lib.compact_length_le zs
  refine ⟨rfl, ?_, fun B w0 hB hb => Lib.below_putRow hb hB⟩
  have hc := Lib.ownsRow_putRow (q := q) (k := (Lib.compact zs).length) (ys := Lib.compact zs ++ List.replicate (zs.length - (Lib.compact zs).length) []) h (by simp; omega) (by omega)
  rw [List.take_left] at hc
  exact hc
set_option maxRecDepth 100000 in
set_option maxHeartbeats 4000000 in
theorem names_impl (a : Option Addr) (cap : Nat) (l : List TI) (n : Nat) (hnl : l.length = n) (w : World) (hrow : ItmAt w a l) (hfit : FitI l) (hm : n ≤ maxLen) (hp : PowAt w) (he : ErrAt w) (L : List ByteArray) (hL : namesR l = L) :
    Calls Tryz.prog 16 #[.slice a n cap] w fun e w' => ∃ v, e = .returned v ∧ AnsStr w' w.heap.size v L ∧ Below w.heap.size w w' := by
  obtain ⟨i0, hti, hz0, hz1, hz2⟩ := info_parts infoStr
  have HR : Hid (ItmAt w a l) := hrow
  have HF : Hid (FitI l) := hfit
  have HP : Hid (PowAt w) := hp
  have HE : Hid (ErrAt w) := he
  have HL : Hid (l.length = n) := hnl
  have HY : Hid (namesR l = L) := hL
  obtain ⟨b, hb⟩ : ∃ b, sumB l = b := ⟨_, rfl⟩
  have HB : Hid (sumB l = b) := hb
  have hb0 : Below w.heap.size w (w.alloc (.cells #[] 9)) := (Below.refl _ _).alloc (Nat.le_refl _) _
  have own0 : Hid ((w.alloc (.cells #[] 9)).ownsRow w.heap.size 9 1 (.slice (some ⟨w.heap.size, 0, none⟩) 0 0) ([] : List ByteArray).length (([] : List ByteArray).map Value.string)) :=
    ⟨rfl, .inr ⟨w.heap.size, 0, #[], rfl, Nat.le_refl _, by show (w.heap.push _)[w.heap.size]? = _; simp, Nat.le_refl _, by unfold maxLen; omega, rfl, rfl⟩⟩
  clear hrow hfit hp he hnl hL hb
  go_enter Tryz.func16, Tryz.ntmps16
  go_wp2_with fail
  refine (sum_impl a cap l n HL.out _ (HR.out.below hb0) HF.out hm (HP.out.below hb0) (HE.out.below hb0) b HB.out).mono ?_
  rintro e w1 ⟨rfl, hb1⟩
  have hx1 := chain hb0 hb1
  have own1 : Hid (w1.ownsRow w.heap.size 9 1 (.slice (some ⟨w.heap.size, 0, none⟩) 0 0) ([] : List ByteArray).length (([] : List ByteArray).map Value.string)) := own_below own0.out hb1
  clear own0 hb1 hb0
  cases b
  · have e : L = [] := by rw [← HY.out]; unfold namesR; rw [if_neg (by rw [HB.out]; decide)]
    subst e
    go_wp2
    go_ret
    exact ⟨_, rfl, ⟨own1.out, by simp⟩, hx1⟩
  have hN : rawB L = Lib.compact ((rawB (namesL l)).mergeSort leB8) := by
    rw [names_sorted, ← HY.out]; unfold namesR; rw [if_pos HB.out]
  have HN : Hid (rawB L = Lib.compact ((rawB (namesL l)).mergeSort leB8)) := hN
  have h40 : n ≤ 40 := by
    have := HB.out
    unfold sumB at this
    simp only [Bool.and_eq_true, decide_eq_true_eq] at this
    rw [← HL.out]; exact this.2
  clear hN
  go_wp2
  go_loopw [3, 13] (fun v kk wr => ∃ k : Nat, k ≤ n ∧ kk = .int .i64 k ∧ Hid (wr.ownsRow w.heap.size 9 1 v (namesL (l.take k)).length ((namesL (l.take k)).map Value.string)) ∧ Below w.heap.size w wr ∧ v ≠ .slice none 0 0) (fun _ kk _ => n - (intOf kk).toNat)
  case atStart => exact ⟨0, Nat.zero_le _, rfl, own1, hx1, by simp⟩
  case round =>
    obtain ⟨k, hk, rfl, hO, hb, hvn⟩ := hrel
    clear own1 hx1
    have hlen : (namesL (l.take k)).length ≤ k := by
      unfold namesL
      rw [List.length_map]
      have h1 := List.length_filter_le (fun x : TI => decide (x.1 = 2)) (l.take k)
      have h2 := List.length_take_le k l
      omega
    by_cases hlt : k < n
    · have hlk : k < l.length := by rw [HL.out]; exact hlt
      obtain ⟨g, o, rfl, hgw, c0, c1, c2, c3, c4⟩ := HR.out.below hb k hlk
      have hi0 : (0 : Int) ≤ (k : Int) := by omega
      have hi1 : (k : Int) < (n : Int) := by omega
      have hsn := namesL_snoc l k hlk
      have HS : Hid (namesL (l.take (k + 1)) = namesL (l.take k) ++ (if l[k].1 = 2 then [l[k].2.2] else [])) := hsn
      have hOO := hO.out
      clear hsn hO
      obtain ⟨P, hP⟩ : ∃ P, namesL (l.take k) = P := ⟨_, rfl⟩
      rw [hP] at HS hOO hlen
      clear hP
      generalize l[k] = x at c0 c1 c2 c3 c4 HS
      obtain ⟨xk, ⟨xa, xb, xc⟩, xs⟩ := x
      dsimp only at c0 c1 c2 c3 c4 HS
      obtain ⟨p, hp⟩ : ∃ p, P.length = p := ⟨_, rfl⟩
      rw [hp] at hOO hlen
      have HPL : Hid (P.length = p) := hp
      clear hp
      by_cases h2 : xk = 2
      · subst h2
        have hS2 : namesL (l.take (k + 1)) = P ++ [xs] := by rw [HS.out, if_pos rfl]
        have HS2 : Hid (namesL (l.take (k + 1)) = P ++ [xs]) := hS2
        obtain ⟨V, hV⟩ : ∃ V, V = wr.alloc (.cells #[.int .i64 2, .int .i64 xa, .int .i64 xb, .string xc, .string xs] 69) := ⟨_, rfl⟩
        have hbV : Below wr.heap.size wr V := by rw [hV]; exact (Below.refl _ _).alloc (Nat.le_refl _) _
        have O4 : Hid (V.ownsRow w.heap.size 9 1 u3 p (P.map Value.string)) := own_below hOO hbV
        have hx3 := chain hb hbV
        obtain ⟨d0, d1, d2, d3, d4, d5⟩ := box5 (w := wr) (w1 := V) (a := .int .i64 2) (b := .int .i64 xa) (c := .int .i64 xb) (d := .string xc) (e := .string xs) (T := 69) (by rw [hV]; exact Below.refl _ _)
        clear HS hS2
        go_upto_region 8 with fail
        rw [← hV]
        clear hV hbV hOO c0 c1 c2 c3 c4
        go_wp2_with (at_builtin; refine wpList_append_own _ rfl _ _ 25 rfl w.heap.size 9 i0 (.string ⟨#[]⟩) 1 16 Tryz.underlying25 hti hz0 hz1 hz2 rfl (by decide) _ _ _ rfl (O4.out.alloc _) ⟨V.heap.size, 0, none⟩ 1 1 [.string xs] rfl rfl (cells1S V _) (by intro u hu; simp at hu; subst hu; rfl) (by unfold maxLen; omega) (by omega) (by have := hx3.size; simp; omega) ?_)
        intro v' w4 own4 hgrow hnn
        have hx4 : Below w.heap.size w w4 := by
          refine (hx3.alloc hx3.size _).grown hgrow (by have := hx3.size; simp; omega) ?_
          intro kk hkk
          exact (O4.out.lt kk hkk).1
        have hvn2 : v' ≠ .slice none 0 0 := by first | exact hnn | exact fun e => hvn (hnn.1 e).1
        have SS : Hid (w4.ownsRow w.heap.size 9 1 v' (namesL (l.take (k + 1))).length ((namesL (l.take (k + 1))).map Value.string)) := by
          have : w4.ownsRow w.heap.size 9 1 v' (namesL (l.take (k + 1))).length ((namesL (l.take (k + 1))).map Value.string) := by
            rw [HS2.out, List.length_append, HPL.out, List.map_append]
            exact own4
          exact this
        clear own4 hgrow hnn O4
        go_wp2
        go_roundw
        case rel => exact ⟨k + 1, by omega, by go_num, SS, hx4, hvn2⟩
        case measure => simp [intOf]; omega
      · have hS2 : namesL (l.take (k + 1)) = P := by rw [HS.out, if_neg h2, List.append_nil]
        have q2 : (xk == 2) = false := neq_k h2
        have hbV : Below wr.heap.size wr (wr.alloc (.cells #[.int .i64 xk, .int .i64 xa, .int .i64 xb, .string xc, .string xs] 69)) := (Below.refl _ _).alloc (Nat.le_refl _) _
        have SS : Hid ((wr.alloc (.cells #[.int .i64 xk, .int .i64 xa, .int .i64 xb, .string xc, .string xs] 69)).ownsRow w.heap.size 9 1 u3 (namesL (l.take (k + 1))).length ((namesL (l.take (k + 1))).map Value.string)) := by
          have : (wr.alloc (.cells #[.int .i64 xk, .int .i64 xa, .int .i64 xb, .string xc, .string xs] 69)).ownsRow w.heap.size 9 1 u3 (namesL (l.take (k + 1))).length ((namesL (l.take (k + 1))).map Value.string) := by
            rw [hS2, HPL.out]; exact own_below hOO hbV
          exact this
        have hx4 := chain hb hbV
        clear HS hS2 hOO hbV
        go_wp2
        go_roundw
        case rel => exact ⟨k + 1, by omega, by go_num, SS, hx4, hvn⟩
        case measure => simp [intOf]; omega
    · have hkl : k = n := by omega
      subst hkl
      have hi1 : ¬ (k : Int) < (k : Int) := by omega
      have hOO := hO.out
      rw [List.take_of_length_le (by rw [HL.out]; exact Nat.le_refl _)] at hOO hlen
      obtain ⟨p, hp⟩ : ∃ p, (namesL l).length = p := ⟨_, rfl⟩
      rw [hp, ← enc_raw] at hOO
      rw [hp] at hlen
      rcases hOO.2 with ⟨h', _⟩ | ⟨gp, cp, cur, h', hbg, _⟩
      · exact absurd h' hvn
      subst h'
      have O1 : Hid (wr.ownsRow w.heap.size 9 1 (.slice (some ⟨gp, 0, none⟩) p cp) p ((rawB (namesL l)).map encStr)) := hOO
      clear hO hOO hp
      go_wp2_with fail
      refine (sort_lib w.heap.size gp cp p (rawB (namesL l)) _ (by omega) O1.out).mono ?_
      rintro e w2 ⟨rfl, own2, hgr⟩
      have hx2 : Below w.heap.size w w2 := hb.grown hgr hb.size (fun kk hkk => by cases hkk; exact hbg)
      have O2 : Hid (w2.ownsRow w.heap.size 9 1 (.slice (some ⟨gp, 0, none⟩) p cp) p (((rawB (namesL l)).mergeSort leB8).map encStr)) := own2
      clear O1 own2 hgr hb
      go_wp2_with fail
      refine (compact_lib w.heap.size gp cp p ((rawB (namesL l)).mergeSort leB8) _ O2.out).mono ?_
      rintro e w3 ⟨rfl, own3, hbl⟩
      have hx3 := hbl _ _ hbg hx2
      rw [← HN.out] at own3
      have hl3 : (rawB L).length = L.length := List.length_map _
      rw [hl3, enc_raw] at own3
      rw [← HN.out, hl3]
      have fin : Hid (AnsStr w3 w.heap.size (.slice (some ⟨gp, 0, none⟩) L.length cp) L) := ⟨own3, by simp⟩
      clear own3 hbl O2
      go_wp2
      go_ret
      exact ⟨_, rfl, fin.out, hx3⟩
end Go.Proofs.YthgbjnchhaoceaaGreatDoor

/-
  The contracts of the model's l8Put and NamesOf.
-/
namespace Go.Proofs.YthgbjnchhaoceaaGreatDoor
open Go.ChangeShapes Go.WideShapes Go.ChangeAt Go.RowKit
attribute [local go_sem ↓] Go.wp_at_zero Go.wp_at_succ
attribute [local simp] World.cell?_alloc_past World.cell?_alloc_at World.frozen?_alloc_at cell_far cell_off cell_here World.frozen?_alloc_past

theorem own_strs1 {w : World} {base g c n : Nat} {e : TypeId} {L : List ByteArray} (h : w.ownsRow base e 1 (.slice (some ⟨g, 0, none⟩) n c) n (strV L)) (hn : L.length = n) : StrsAt w (some ⟨g, 0, none⟩) L := fun j hj => by
  refine ⟨g, 0, rfl, (h.lt g rfl).2, ?_⟩
  rw [Nat.zero_add]
  have := h.cellAt j (by omega)
  rw [this]
  unfold strV
  rw [List.getElem?_map, List.getElem?_eq_getElem hj]
  rfl
/-- A list of texts, as an answer that is read. -/
def TxPost (w : World) (L : List ByteArray) (e : Ending) (w' : World) : Prop := ∃ g c, e = .returned (.slice (some ⟨g, 0, none⟩) L.length c) ∧ L.length ≤ c ∧ c ≤ maxLen ∧ StrsAt w' (some ⟨g, 0, none⟩) L ∧ Below w.heap.size w w'
set_option maxRecDepth 100000 in
set_option maxHeartbeats 4000000 in
theorem put8_spec (g cap : Nat) (L : List ByteArray) (N : Nat) (hn : L.length = N) (s : ByteArray) (w : World) (hrow : StrsAt w (some ⟨g, 0, none⟩) L) (hc : N ≤ cap) (hm : N ≤ 1000) (hcm : cap ≤ maxLen) :
    Calls Tryz.prog 52 #[.slice (some ⟨g, 0, none⟩) N cap, .string s] w (TxPost w (putN L s)) := by
  obtain ⟨i0, hti, hz0, hz1, hz2⟩ := info_parts infoTx
  have HR : Hid (StrsAt w (some ⟨g, 0, none⟩) L) := hrow
  have HN : Hid (L.length = N) := hn
  have hcm2 : cap ≤ 9223372036854775807 := by unfold maxLen at hcm; omega
  clear hrow hn
  go_enter Tryz.func52, Tryz.ntmps52
  go_wp2_with fail
  go_loopw [5] (fun i wr => ∃ k : Nat, k ≤ N ∧ i = .int .i64 k ∧ Hid (∀ j (hj : j < L.length), j < k → blt L[j] s = true) ∧ wr = w) (fun i _ => N - (intOf i).toNat)
  case atStart => exact ⟨0, Nat.zero_le _, rfl, (fun j hj h => by omega), rfl⟩
  case round =>
    obtain ⟨k, hkN, rfl, hlt, hwr⟩ := hrel
    replace hwr := hwr.symm
    subst hwr
    by_cases hk : k < N
    · have hk' : k < L.length := by rw [HN.out]; exact hk
      obtain ⟨b, o, e, hgw, hcell⟩ := HR.out k hk'
      simp only [Option.some.injEq, Addr.mk.injEq, and_true] at e
      obtain ⟨rfl, rfl⟩ := e
      rw [Nat.zero_add] at hcell
      have hi0 : (0 : Int) ≤ (k : Int) := by omega
      have hi1 : (k : Int) < (N : Int) := by omega
      obtain ⟨x, hx⟩ : ∃ x, L[k] = x := ⟨_, rfl⟩
      rw [hx] at hcell
      have HX : Hid (L[k]'hk' = x) := hx
      clear hx
      cases hbl : Op.bytesLess x.toList s.toList with
      | true =>
        have hlt2 : Hid (∀ j (hj : j < L.length), j < k + 1 → blt L[j] s = true) := by
          have : ∀ j (hj : j < L.length), j < k + 1 → blt L[j] s = true := by
            intro j hj hjk
            by_cases e : j = k
            · subst e; rw [HX.out]; exact hbl
            · exact hlt.out j hj (by omega)
          exact this
        go_wp2
        go_roundw
        case rel => exact ⟨k + 1, by omega, by go_num, hlt2, by first | rfl | trivial⟩
        case measure => simp [intOf]; omega
      | false =>
        have HAt := putN_at (L := L) (s := s) (k := k) (by omega) hlt.out (fun h => by rw [HX.out]; exact hbl)
        rw [dif_pos hk', HX.out] at HAt
        by_cases hxs : x = s
        · rw [if_pos hxs] at HAt
          subst hxs
          have hss : (x.toList == x.toList) = true := by simp
          have fin : Hid (TxPost w (putN L x) (.returned (.slice (some ⟨g, 0, none⟩) N cap)) w) := ⟨g, cap, by rw [HAt, HN.out], by rw [HAt, HN.out]; exact hc, hcm, by rw [HAt]; exact HR.out, Below.refl _ _⟩
          clear HAt
          go_wp2
          go_ret
          exact fin.out
        · rw [if_neg hxs] at HAt
          have hss : (x.toList == s.toList) = false := txt_other hxs
          have HPut : Hid (putN L s = L.take k ++ s :: L.drop k) := HAt
          clear HAt hlt
          have hk0 : (0 : Int) ≤ (k : Int) := by omega
          have hk1 : (k : Int) ≤ (N : Int) := by omega
          have hk2 : (k : Int) ≤ (cap : Int) := by omega
          have hN2 : (N : Int) ≤ (cap : Int) := by omega
          obtain ⟨d, hd⟩ : ∃ d, N - k = d := ⟨_, rfl⟩
          have hdI : (N : Int) - (k : Int) = (d : Int) := by omega
          obtain ⟨f, hf⟩ : ∃ f, cap - k = f := ⟨_, rfl⟩
          have hfI : (cap : Int) - (k : Int) = (f : Int) := by omega
          have HD : Hid ((L.drop k).length = d) := by
            have : (L.drop k).length = d := by rw [List.length_drop, HN.out]; exact hd
            exact this
          have HT : Hid ((L.take k).length = k) := by
            have : (L.take k).length = k := by rw [List.length_take, HN.out]; omega
            exact this
          have HRd : Hid (StrsAt w (some ⟨g, k, none⟩) (L.drop k)) := by
            have : StrsAt w (some ⟨g, k, none⟩) (L.drop k) := by
              intro j hj
              rw [List.length_drop] at hj
              obtain ⟨b, o, e, h1, h2⟩ := HR.out (k + j) (by omega)
              simp only [Option.some.injEq, Addr.mk.injEq, and_true] at e
              obtain ⟨rfl, rfl⟩ := e
              refine ⟨g, k, rfl, h1, ?_⟩
              rw [Nat.zero_add] at h2
              rw [List.getElem_drop]
              exact h2
            exact this
          have HRt : Hid (StrsAt w (some ⟨g, 0, none⟩) (L.take k)) := by
            have : StrsAt w (some ⟨g, 0, none⟩) (L.take k) := by
              intro j hj
              rw [List.length_take] at hj
              obtain ⟨b, o, e, h1, h2⟩ := HR.out j (by omega)
              refine ⟨b, o, e, h1, ?_⟩
              rw [List.getElem_take]
              exact h2
            exact this
          have hdm : d ≤ 1000 := by omega
          go_wp2_with fail
          refine (texts_spec _ _ (L.drop k) d HD.out _ HRd.out (fun h => by cases h) (by omega)).mono ?_
          rintro e w1 ⟨g1, c1, rfl, hg1, hc1, own1, hb1⟩
          have O1 : Hid (w1.ownsRow w.heap.size 9 1 (.slice (some ⟨g1, 0, none⟩) (L.drop k).length c1) (L.drop k).length (strV (L.drop k))) := own1
          clear own1
          go_wp2_with fail
          refine (texts_spec _ _ (L.take k) k HT.out _ (HRt.out.below hb1) (fun h => by cases h) (by omega)).mono ?_
          rintro e w2 ⟨g2, c2, rfl, hg2, hc2, own2, hb2⟩
          have hx2 := chain hb1 hb2
          have O2 : Hid (w2.ownsRow w1.heap.size 9 1 (.slice (some ⟨g2, 0, none⟩) k c2) k (strV (L.take k))) := by
            have := own2
            rw [HT.out] at this
            exact this
          have O12 : Hid (w2.ownsRow w.heap.size 9 1 (.slice (some ⟨g1, 0, none⟩) d c1) d (strV (L.drop k))) := by
            have := own_below O1.out hb2
            rw [HD.out] at this
            exact this
          have hs1 := hb1.size
          have hs2 := hb2.size
          have hg1lt := (O1.out.lt g1 rfl).2
          clear own2 O1 hb1 hb2
          go_wp2_with (at_builtin; refine wpList_append_own _ rfl _ _ 25 rfl w1.heap.size 9 i0 (.string ⟨#[]⟩) 1 16 Tryz.underlying25 hti hz0 hz1 hz2 rfl (by decide) _ _ _ rfl (O2.out.alloc _) ⟨w2.heap.size, 0, none⟩ 1 1 [.string s] rfl rfl (cells1S w2 _) (by intro u hu; simp at hu; subst hu; rfl) (by unfold maxLen; omega) (by omega) (by simp; omega) ?_)
          intro v3 w3 own3 hgrow3 hnn3
          have hb23 : Below w1.heap.size w2 w3 := by
            refine (((Below.refl w1.heap.size w2).alloc (by omega) _).grown hgrow3 (by simp; omega) ?_)
            intro kk hkk
            exact (O2.out.lt kk hkk).1
          have hx3 : Below w.heap.size w w3 := hx2.trans (hb23.mono hs1)
          have HS3 : Hid (StrsAt w3 (some ⟨g1, 0, none⟩) (L.drop k)) := by
            have h2 := own_strs1 O12.out HD.out
            have : StrsAt w3 (some ⟨g1, 0, none⟩) (L.drop k) := by
              intro j hj
              obtain ⟨b, o, e, h1, h3⟩ := h2 j hj
              simp only [Option.some.injEq, Addr.mk.injEq, and_true] at e
              obtain ⟨rfl, rfl⟩ := e
              exact ⟨g1, 0, rfl, Nat.lt_of_lt_of_le h1 hb23.size, by rw [hb23.cell (p := ⟨g1, 0 + j, none⟩) hg1lt]; exact h3⟩
            exact this
          obtain ⟨m, hm1⟩ : ∃ m, k + 1 = m := ⟨_, rfl⟩
          have own3' : w3.ownsRow w1.heap.size 9 1 v3 m (strV (L.take k) ++ [.string s]) := by rw [← hm1]; exact own3
          obtain ⟨g3, c3, rfl⟩ : ∃ g3 c3, v3 = .slice (some ⟨g3, 0, none⟩) m c3 := by
            rcases own3'.2 with ⟨h', h''⟩ | ⟨g3, c3, cur, h', _⟩
            · exfalso; omega
            · exact ⟨g3, c3, h'⟩
          have O3 : Hid (w3.ownsRow w1.heap.size 9 1 (.slice (some ⟨g3, 0, none⟩) m c3) m (strV (L.take k) ++ [.string s])) := own3'
          have hs3 := hb23.size
          have HM : Hid (k + 1 = m) := hm1
          have hmm : m ≤ 1001 := by omega
          have hm0 : 1 ≤ m := by omega
          clear own3 own3' hgrow3 hnn3 O12 O2 hm1
          go_wp2_with (at_builtin; refine wpList_append_own _ rfl _ _ 25 rfl w1.heap.size 9 i0 (.string ⟨#[]⟩) 1 16 Tryz.underlying25 hti hz0 hz1 hz2 rfl (by decide) (.slice (some ⟨g3, 0, none⟩) m c3) m (strV (L.take k) ++ [.string s]) rfl O3.out ⟨g1, 0, none⟩ d c1 (strV (L.drop k)) rfl (by rw [strV_length, HD.out]; omega) (strV_cells HS3.out) (by intro u hu; unfold strV at hu; obtain ⟨y, _, rfl⟩ := List.mem_map.1 hu; rfl) (by unfold maxLen; omega) (by omega) (by omega) ?_)
          intro v4 w4 own4 hgrow4 hnn4
          have hb34 : Below w1.heap.size w3 w4 := by
            refine (Below.refl w1.heap.size w3).grown hgrow4 (by omega) ?_
            intro kk hkk
            exact (O3.out.lt kk hkk).1
          have hx4 : Below w.heap.size w w4 := hx3.trans (hb34.mono hs1)
          have hlen : (putN L s).length = m + d := by
            rw [HPut.out, List.length_append, List.length_cons, HT.out, HD.out, ← HM.out]; omega
          have own5 : w4.ownsRow w1.heap.size 9 1 v4 (m + d) (strV (putN L s)) := by
            have e : strV (putN L s) = strV (L.take k) ++ .string s :: strV (L.drop k) := by
              rw [HPut.out]; unfold strV; rw [List.map_append, List.map_cons]
            rw [e]
            exact own4
          obtain ⟨g4, c4, rfl, hc4, hc4m⟩ : ∃ g4 c4, v4 = .slice (some ⟨g4, 0, none⟩) (m + d) c4 ∧ m + d ≤ c4 ∧ c4 ≤ maxLen := by
            rcases own5.2 with ⟨h', h''⟩ | ⟨g4, c4, cur, h', _, _, h1, h2, _⟩
            · exfalso; omega
            · exact ⟨g4, c4, h', h1, h2⟩
          have fin : Hid (TxPost w (putN L s) (.returned (.slice (some ⟨g4, 0, none⟩) (m + d) c4)) w4) := ⟨g4, c4, by rw [hlen], by rw [hlen]; exact hc4, hc4m, own_strs1 own5 hlen, hx4⟩
          clear own4 own5 hgrow4 hnn4 O3 HS3 hlen
          go_wp2
          go_ret
          exact fin.out
    · have hi1 : ¬ (k : Int) < (N : Int) := by omega
      have hkE : k = N := by omega
      have HPut : Hid (putN L s = L.take k ++ s :: L.drop k) := by
        have h1 := putN_at (L := L) (s := s) (k := k) (by rw [HN.out]; exact hkN) hlt.out (fun h => absurd h (by rw [HN.out]; omega))
        rw [dif_neg (by rw [HN.out]; omega)] at h1
        have : putN L s = L.take k ++ s :: L.drop k := by
          rw [h1, List.take_of_length_le (by rw [HN.out]; omega), List.drop_eq_nil_of_le (by rw [HN.out]; omega)]
        exact this
      clear hlt hkE
      by_cases hkc : k < cap
      · have hkc2 : (k : Int) < (cap : Int) := by omega
        have hk0 : (0 : Int) ≤ (k : Int) := by omega
        have hk1 : (k : Int) ≤ (N : Int) := by omega
        have hk2 : (k : Int) ≤ (cap : Int) := by omega
        have hN2 : (N : Int) ≤ (cap : Int) := by omega
        obtain ⟨d, hd⟩ : ∃ d, N - k = d := ⟨_, rfl⟩
        have hdI : (N : Int) - (k : Int) = (d : Int) := by omega
        obtain ⟨f, hf⟩ : ∃ f, cap - k = f := ⟨_, rfl⟩
        have hfI : (cap : Int) - (k : Int) = (f : Int) := by omega
        have HD : Hid ((L.drop k).length = d) := by
          have : (L.drop k).length = d := by rw [List.length_drop, HN.out]; exact hd
          exact this
        have HT : Hid ((L.take k).length = k) := by
          have : (L.take k).length = k := by rw [List.length_take, HN.out]; omega
          exact this
        have HRd : Hid (StrsAt w (some ⟨g, k, none⟩) (L.drop k)) := by
          have : StrsAt w (some ⟨g, k, none⟩) (L.drop k) := by
            intro j hj
            rw [List.length_drop] at hj
            obtain ⟨b, o, e, h1, h2⟩ := HR.out (k + j) (by omega)
            simp only [Option.some.injEq, Addr.mk.injEq, and_true] at e
            obtain ⟨rfl, rfl⟩ := e
            refine ⟨g, k, rfl, h1, ?_⟩
            rw [Nat.zero_add] at h2
            rw [List.getElem_drop]
            exact h2
          exact this
        have HRt : Hid (StrsAt w (some ⟨g, 0, none⟩) (L.take k)) := by
          have : StrsAt w (some ⟨g, 0, none⟩) (L.take k) := by
            intro j hj
            rw [List.length_take] at hj
            obtain ⟨b, o, e, h1, h2⟩ := HR.out j (by omega)
            refine ⟨b, o, e, h1, ?_⟩
            rw [List.getElem_take]
            exact h2
          exact this
        have hdm : d ≤ 1000 := by omega
        go_wp2_with fail
        refine (texts_spec _ _ (L.drop k) d HD.out _ HRd.out (fun h => by cases h) (by omega)).mono ?_
        rintro e w1 ⟨g1, c1, rfl, hg1, hc1, own1, hb1⟩
        have O1 : Hid (w1.ownsRow w.heap.size 9 1 (.slice (some ⟨g1, 0, none⟩) (L.drop k).length c1) (L.drop k).length (strV (L.drop k))) := own1
        clear own1
        go_wp2_with fail
        refine (texts_spec _ _ (L.take k) k HT.out _ (HRt.out.below hb1) (fun h => by cases h) (by omega)).mono ?_
        rintro e w2 ⟨g2, c2, rfl, hg2, hc2, own2, hb2⟩
        have hx2 := chain hb1 hb2
        have O2 : Hid (w2.ownsRow w1.heap.size 9 1 (.slice (some ⟨g2, 0, none⟩) k c2) k (strV (L.take k))) := by
          have := own2
          rw [HT.out] at this
          exact this
        have O12 : Hid (w2.ownsRow w.heap.size 9 1 (.slice (some ⟨g1, 0, none⟩) d c1) d (strV (L.drop k))) := by
          have := own_below O1.out hb2
          rw [HD.out] at this
          exact this
        have hs1 := hb1.size
        have hs2 := hb2.size
        have hg1lt := (O1.out.lt g1 rfl).2
        clear own2 O1 hb1 hb2
        go_wp2_with (at_builtin; refine wpList_append_own _ rfl _ _ 25 rfl w1.heap.size 9 i0 (.string ⟨#[]⟩) 1 16 Tryz.underlying25 hti hz0 hz1 hz2 rfl (by decide) _ _ _ rfl (O2.out.alloc _) ⟨w2.heap.size, 0, none⟩ 1 1 [.string s] rfl rfl (cells1S w2 _) (by intro u hu; simp at hu; subst hu; rfl) (by unfold maxLen; omega) (by omega) (by simp; omega) ?_)
        intro v3 w3 own3 hgrow3 hnn3
        have hb23 : Below w1.heap.size w2 w3 := by
          refine (((Below.refl w1.heap.size w2).alloc (by omega) _).grown hgrow3 (by simp; omega) ?_)
          intro kk hkk
          exact (O2.out.lt kk hkk).1
        have hx3 : Below w.heap.size w w3 := hx2.trans (hb23.mono hs1)
        have HS3 : Hid (StrsAt w3 (some ⟨g1, 0, none⟩) (L.drop k)) := by
          have h2 := own_strs1 O12.out HD.out
          have : StrsAt w3 (some ⟨g1, 0, none⟩) (L.drop k) := by
            intro j hj
            obtain ⟨b, o, e, h1, h3⟩ := h2 j hj
            simp only [Option.some.injEq, Addr.mk.injEq, and_true] at e
            obtain ⟨rfl, rfl⟩ := e
            exact ⟨g1, 0, rfl, Nat.lt_of_lt_of_le h1 hb23.size, by rw [hb23.cell (p := ⟨g1, 0 + j, none⟩) hg1lt]; exact h3⟩
          exact this
        obtain ⟨m, hm1⟩ : ∃ m, k + 1 = m := ⟨_, rfl⟩
        have own3' : w3.ownsRow w1.heap.size 9 1 v3 m (strV (L.take k) ++ [.string s]) := by rw [← hm1]; exact own3
        obtain ⟨g3, c3, rfl⟩ : ∃ g3 c3, v3 = .slice (some ⟨g3, 0, none⟩) m c3 := by
          rcases own3'.2 with ⟨h', h''⟩ | ⟨g3, c3, cur, h', _⟩
          · exfalso; omega
          · exact ⟨g3, c3, h'⟩
        have O3 : Hid (w3.ownsRow w1.heap.size 9 1 (.slice (some ⟨g3, 0, none⟩) m c3) m (strV (L.take k) ++ [.string s])) := own3'
        have hs3 := hb23.size
        have HM : Hid (k + 1 = m) := hm1
        have hmm : m ≤ 1001 := by omega
        have hm0 : 1 ≤ m := by omega
        clear own3 own3' hgrow3 hnn3 O12 O2 hm1
        go_wp2_with (at_builtin; refine wpList_append_own _ rfl _ _ 25 rfl w1.heap.size 9 i0 (.string ⟨#[]⟩) 1 16 Tryz.underlying25 hti hz0 hz1 hz2 rfl (by decide) (.slice (some ⟨g3, 0, none⟩) m c3) m (strV (L.take k) ++ [.string s]) rfl O3.out ⟨g1, 0, none⟩ d c1 (strV (L.drop k)) rfl (by rw [strV_length, HD.out]; omega) (strV_cells HS3.out) (by intro u hu; unfold strV at hu; obtain ⟨y, _, rfl⟩ := List.mem_map.1 hu; rfl) (by unfold maxLen; omega) (by omega) (by omega) ?_)
        intro v4 w4 own4 hgrow4 hnn4
        have hb34 : Below w1.heap.size w3 w4 := by
          refine (Below.refl w1.heap.size w3).grown hgrow4 (by omega) ?_
          intro kk hkk
          exact (O3.out.lt kk hkk).1
        have hx4 : Below w.heap.size w w4 := hx3.trans (hb34.mono hs1)
        have hlen : (putN L s).length = m + d := by
          rw [HPut.out, List.length_append, List.length_cons, HT.out, HD.out, ← HM.out]; omega
        have own5 : w4.ownsRow w1.heap.size 9 1 v4 (m + d) (strV (putN L s)) := by
          have e : strV (putN L s) = strV (L.take k) ++ .string s :: strV (L.drop k) := by
            rw [HPut.out]; unfold strV; rw [List.map_append, List.map_cons]
          rw [e]
          exact own4
        obtain ⟨g4, c4, rfl, hc4, hc4m⟩ : ∃ g4 c4, v4 = .slice (some ⟨g4, 0, none⟩) (m + d) c4 ∧ m + d ≤ c4 ∧ c4 ≤ maxLen := by
          rcases own5.2 with ⟨h', h''⟩ | ⟨g4, c4, cur, h', _, _, h1, h2, _⟩
          · exfalso; omega
          · exact ⟨g4, c4, h', h1, h2⟩
        have fin : Hid (TxPost w (putN L s) (.returned (.slice (some ⟨g4, 0, none⟩) (m + d) c4)) w4) := ⟨g4, c4, by rw [hlen], by rw [hlen]; exact hc4, hc4m, own_strs1 own5 hlen, hx4⟩
        clear own4 own5 hgrow4 hnn4 O3 HS3 hlen
        go_wp2
        go_ret
        exact fin.out

      · obtain rfl : k = cap := by omega
        have hk0 : (0 : Int) ≤ (k : Int) := by omega
        have hk1 : (k : Int) ≤ (N : Int) := by omega
        have hk2 : (k : Int) ≤ (k : Int) := by omega
        have hN2 : (N : Int) ≤ (k : Int) := by omega
        obtain ⟨d, hd⟩ : ∃ d, N - k = d := ⟨_, rfl⟩
        have hdI : (N : Int) - (k : Int) = (d : Int) := by omega
        obtain ⟨f, hf⟩ : ∃ f, k - k = f := ⟨_, rfl⟩
        have hfI : (k : Int) - (k : Int) = (f : Int) := by omega
        have HD : Hid ((L.drop k).length = d) := by
          have : (L.drop k).length = d := by rw [List.length_drop, HN.out]; exact hd
          exact this
        have HT : Hid ((L.take k).length = k) := by
          have : (L.take k).length = k := by rw [List.length_take, HN.out]; omega
          exact this
        have HRd : Hid (StrsAt w (some ⟨g, 0, none⟩) (L.drop k)) := by
          have : StrsAt w (some ⟨g, 0, none⟩) (L.drop k) := by
            intro j hj
            exfalso
            rw [List.length_drop, HN.out] at hj
            omega
          exact this
        have HRt : Hid (StrsAt w (some ⟨g, 0, none⟩) (L.take k)) := by
          have : StrsAt w (some ⟨g, 0, none⟩) (L.take k) := by
            intro j hj
            rw [List.length_take] at hj
            obtain ⟨b, o, e, h1, h2⟩ := HR.out j (by omega)
            refine ⟨b, o, e, h1, ?_⟩
            rw [List.getElem_take]
            exact h2
          exact this
        have hdm : d ≤ 1000 := by omega
        go_wp2_with fail
        refine (texts_spec _ _ (L.drop k) d HD.out _ HRd.out (fun h => by cases h) (by omega)).mono ?_
        rintro e w1 ⟨g1, c1, rfl, hg1, hc1, own1, hb1⟩
        have O1 : Hid (w1.ownsRow w.heap.size 9 1 (.slice (some ⟨g1, 0, none⟩) (L.drop k).length c1) (L.drop k).length (strV (L.drop k))) := own1
        clear own1
        go_wp2_with fail
        refine (texts_spec _ _ (L.take k) k HT.out _ (HRt.out.below hb1) (fun h => by cases h) (by omega)).mono ?_
        rintro e w2 ⟨g2, c2, rfl, hg2, hc2, own2, hb2⟩
        have hx2 := chain hb1 hb2
        have O2 : Hid (w2.ownsRow w1.heap.size 9 1 (.slice (some ⟨g2, 0, none⟩) k c2) k (strV (L.take k))) := by
          have := own2
          rw [HT.out] at this
          exact this
        have O12 : Hid (w2.ownsRow w.heap.size 9 1 (.slice (some ⟨g1, 0, none⟩) d c1) d (strV (L.drop k))) := by
          have := own_below O1.out hb2
          rw [HD.out] at this
          exact this
        have hs1 := hb1.size
        have hs2 := hb2.size
        have hg1lt := (O1.out.lt g1 rfl).2
        clear own2 O1 hb1 hb2
        go_wp2_with (at_builtin; refine wpList_append_own _ rfl _ _ 25 rfl w1.heap.size 9 i0 (.string ⟨#[]⟩) 1 16 Tryz.underlying25 hti hz0 hz1 hz2 rfl (by decide) _ _ _ rfl (O2.out.alloc _) ⟨w2.heap.size, 0, none⟩ 1 1 [.string s] rfl rfl (cells1S w2 _) (by intro u hu; simp at hu; subst hu; rfl) (by unfold maxLen; omega) (by omega) (by simp; omega) ?_)
        intro v3 w3 own3 hgrow3 hnn3
        have hb23 : Below w1.heap.size w2 w3 := by
          refine (((Below.refl w1.heap.size w2).alloc (by omega) _).grown hgrow3 (by simp; omega) ?_)
          intro kk hkk
          exact (O2.out.lt kk hkk).1
        have hx3 : Below w.heap.size w w3 := hx2.trans (hb23.mono hs1)
        have HS3 : Hid (StrsAt w3 (some ⟨g1, 0, none⟩) (L.drop k)) := by
          have h2 := own_strs1 O12.out HD.out
          have : StrsAt w3 (some ⟨g1, 0, none⟩) (L.drop k) := by
            intro j hj
            obtain ⟨b, o, e, h1, h3⟩ := h2 j hj
            simp only [Option.some.injEq, Addr.mk.injEq, and_true] at e
            obtain ⟨rfl, rfl⟩ := e
            exact ⟨g1, 0, rfl, Nat.lt_of_lt_of_le h1 hb23.size, by rw [hb23.cell (p := ⟨g1, 0 + j, none⟩) hg1lt]; exact h3⟩
          exact this
        obtain ⟨m, hm1⟩ : ∃ m, k + 1 = m := ⟨_, rfl⟩
        have own3' : w3.ownsRow w1.heap.size 9 1 v3 m (strV (L.take k) ++ [.string s]) := by rw [← hm1]; exact own3
        obtain ⟨g3, c3, rfl⟩ : ∃ g3 c3, v3 = .slice (some ⟨g3, 0, none⟩) m c3 := by
          rcases own3'.2 with ⟨h', h''⟩ | ⟨g3, c3, cur, h', _⟩
          · exfalso; omega
          · exact ⟨g3, c3, h'⟩
        have O3 : Hid (w3.ownsRow w1.heap.size 9 1 (.slice (some ⟨g3, 0, none⟩) m c3) m (strV (L.take k) ++ [.string s])) := own3'
        have hs3 := hb23.size
        have HM : Hid (k + 1 = m) := hm1
        have hmm : m ≤ 1001 := by omega
        have hm0 : 1 ≤ m := by omega
        clear own3 own3' hgrow3 hnn3 O12 O2 hm1
        go_wp2_with (at_builtin; refine wpList_append_own _ rfl _ _ 25 rfl w1.heap.size 9 i0 (.string ⟨#[]⟩) 1 16 Tryz.underlying25 hti hz0 hz1 hz2 rfl (by decide) (.slice (some ⟨g3, 0, none⟩) m c3) m (strV (L.take k) ++ [.string s]) rfl O3.out ⟨g1, 0, none⟩ d c1 (strV (L.drop k)) rfl (by rw [strV_length, HD.out]; omega) (strV_cells HS3.out) (by intro u hu; unfold strV at hu; obtain ⟨y, _, rfl⟩ := List.mem_map.1 hu; rfl) (by unfold maxLen; omega) (by omega) (by omega) ?_)
        intro v4 w4 own4 hgrow4 hnn4
        have hb34 : Below w1.heap.size w3 w4 := by
          refine (Below.refl w1.heap.size w3).grown hgrow4 (by omega) ?_
          intro kk hkk
          exact (O3.out.lt kk hkk).1
        have hx4 : Below w.heap.size w w4 := hx3.trans (hb34.mono hs1)
        have hlen : (putN L s).length = m + d := by
          rw [HPut.out, List.length_append, List.length_cons, HT.out, HD.out, ← HM.out]; omega
        have own5 : w4.ownsRow w1.heap.size 9 1 v4 (m + d) (strV (putN L s)) := by
          have e : strV (putN L s) = strV (L.take k) ++ .string s :: strV (L.drop k) := by
            rw [HPut.out]; unfold strV; rw [List.map_append, List.map_cons]
          rw [e]
          exact own4
        obtain ⟨g4, c4, rfl, hc4, hc4m⟩ : ∃ g4 c4, v4 = .slice (some ⟨g4, 0, none⟩) (m + d) c4 ∧ m + d ≤ c4 ∧ c4 ≤ maxLen := by
          rcases own5.2 with ⟨h', h''⟩ | ⟨g4, c4, cur, h', _, _, h1, h2, _⟩
          · exfalso; omega
          · exact ⟨g4, c4, h', h1, h2⟩
        have fin : Hid (TxPost w (putN L s) (.returned (.slice (some ⟨g4, 0, none⟩) (m + d) c4)) w4) := ⟨g4, c4, by rw [hlen], by rw [hlen]; exact hc4, hc4m, own_strs1 own5 hlen, hx4⟩
        clear own4 own5 hgrow4 hnn4 O3 HS3 hlen
        go_wp2
        go_ret
        exact fin.out
theorem namesN_length (l : List TI) : (namesN l).length ≤ l.length := by
  suffices h : ∀ (l : List TI) (L : List ByteArray), (l.foldl (fun L x => if x.1 = 2 then putN L x.2.2 else L) L).length ≤ L.length + l.length by
    have := h l []
    simpa [namesN] using this
  intro l
  induction l with
  | nil => intro L; exact Nat.le_refl _
  | cons x l ih =>
    intro L
    rw [List.foldl_cons, List.length_cons]
    refine Nat.le_trans (ih _) ?_
    split
    · have := putN_length L x.2.2
      omega
    · omega
theorem strsAt_none (w : World) (a : Option Addr) : StrsAt w a [] := fun j hj => by simp at hj
set_option maxRecDepth 100000 in
set_option maxHeartbeats 4000000 in
theorem names_spec (a : Option Addr) (cap : Nat) (l : List TI) (n : Nat) (hn : l.length = n) (w : World) (hrow : ItmAt w a l) (hfit : FitItm l) (hm : n ≤ maxLen) :
    Calls Tryz.prog 17 #[.slice a n cap] w (TxPost w (namesR l)) := by
  have HN : Hid (l.length = n) := hn
  have HR : Hid (ItmAt w a l) := hrow
  have HF : Hid (FitItm l) := hfit
  have HM : Hid (n ≤ maxLen) := hm
  obtain ⟨b, hb⟩ : ∃ b, sumB l = b := ⟨_, rfl⟩
  have HB : Hid (sumB l = b) := hb
  clear hrow hfit hn hb
  unfold maxLen at hm
  go_enter Tryz.func17, Tryz.ntmps17
  go_wp2
  go_loopw [3, 4] (fun ov i wr => ∃ k N g c : Nat, k ≤ n ∧ i = .int .i64 k ∧ ov = .slice (some ⟨g, 0, none⟩) N c ∧ N ≤ c ∧ c ≤ maxLen ∧ (k = 0 ∨ b = true) ∧ Hid ((namesN (l.take k)).length = N) ∧ Hid (StrsAt wr (some ⟨g, 0, none⟩) (namesN (l.take k))) ∧ Below w.heap.size w wr) (fun _ i _ => n - (intOf i).toNat)
  case atStart => exact ⟨0, 0, _, 0, Nat.zero_le _, rfl, rfl, Nat.le_refl _, Nat.zero_le _, .inl rfl, rfl, strsAt_none _ _, (Below.refl _ _).alloc (Nat.le_refl _) _⟩
  case round =>
    obtain ⟨k, N, g, c, hkn, rfl, rfl, hNc, hcm, hkb, hL, hS, hbw⟩ := hrel
    by_cases hlt : k < n
    · have hi1 : (k : Int) < (n : Int) := by omega
      have hi0 : (0 : Int) ≤ (k : Int) := by omega
      go_wp2_with fail
      refine (sum_spec _ _ l n HN.out _ (HR.out.below hbw) HF.out HM.out b HB.out).mono ?_
      rintro e w1 ⟨rfl, hb1⟩
      have hx1 := chain hbw hb1
      cases b
      · have hk0 : k = 0 := by rcases hkb with h | h; exact h; cases h
        have fin : Hid (TxPost w (namesR l) (.returned (.slice (some ⟨g, 0, none⟩) N c)) w1) := by
          subst hk0
          have h1 := hL.out
          rw [List.take_zero] at h1
          have h2 : N = 0 := h1.symm
          subst h2
          have h3 : namesR l = [] := by unfold namesR; rw [HB.out]; rfl
          have : TxPost w (namesR l) (.returned (.slice (some ⟨g, 0, none⟩) 0 c)) w1 := by
            rw [h3]
            exact ⟨g, c, rfl, Nat.zero_le _, hcm, strsAt_none _ _, hx1⟩
          exact this
        clear hL hS hkb hk0
        go_wp2
        go_ret
        exact fin.out
      · have hlk : k < l.length := by rw [HN.out]; exact hlt
        have hn40 : n ≤ 40 := by
          have := HB.out
          unfold sumB at this
          simp at this
          rw [HN.out] at this
          exact this.2
        obtain ⟨gg, o, rfl, hgw, c0, c1, c2, c3, c4⟩ := HR.out.below hx1 k hlk
        have hsn := namesN_snoc (l.take k) l[k]
        rw [← List.take_succ_eq_append_getElem hlk] at hsn
        have HSn : Hid (namesN (l.take (k + 1)) = if l[k].1 = 2 then putN (namesN (l.take k)) l[k].2.2 else namesN (l.take k)) := hsn
        clear hsn
        have hN40 : N ≤ 40 := by
          have := namesN_length (l.take k)
          rw [hL.out, List.length_take] at this
          omega
        have HS1 : Hid (StrsAt w1 (some ⟨g, 0, none⟩) (namesN (l.take k))) := hS.out.below hb1
        clear hS hb1 hkb c1 c2 c3
        generalize l[k] = x at c0 c4 HSn
        by_cases hx2 : x.1 = 2
        · obtain ⟨kd, ⟨ck, nm⟩⟩ := x
          simp only at c0 c4 HSn hx2
          subst hx2
          have HS2 : Hid (namesN (l.take (k + 1)) = putN (namesN (l.take k)) nm) := by
            have : namesN (l.take (k + 1)) = putN (namesN (l.take k)) nm := by rw [HSn.out]; rfl
            exact this
          clear HSn
          go_wp2_with fail
          refine (put8_spec g c (namesN (l.take k)) N hL.out nm _ HS1.out hNc (by omega) hcm).mono ?_
          rintro e w2 ⟨g2, c2, rfl, h1, h2, h3, hb2⟩
          rw [← HS2.out] at h1 h3 ⊢
          have hx3 := chain hx1 hb2
          obtain ⟨N2, hN2⟩ : ∃ N2, (namesN (l.take (k + 1))).length = N2 := ⟨_, rfl⟩
          rw [hN2] at h1 ⊢
          have HN2 : Hid ((namesN (l.take (k + 1))).length = N2) := hN2
          have HS3 : Hid (StrsAt w2 (some ⟨g2, 0, none⟩) (namesN (l.take (k + 1)))) := h3
          clear hN2 h3 HS2 c0 c4 hb2
          go_wp2
          go_roundw
          case rel => exact ⟨k + 1, N2, g2, c2, by omega, by go_num, rfl, h1, h2, .inr (by first | rfl | trivial), HN2, HS3, hx3⟩
          case measure => simp [intOf]; omega
        · have HS2 : Hid (namesN (l.take (k + 1)) = namesN (l.take k)) := by
            have : namesN (l.take (k + 1)) = namesN (l.take k) := by rw [HSn.out, if_neg hx2]
            exact this
          clear HSn
          generalize x.1 = kd at c0 hx2
          go_wp2
          go_roundw
          case rel => exact ⟨k + 1, N, g, c, by omega, by go_num, rfl, hNc, hcm, .inr (by first | rfl | trivial), by rw [HS2.out]; exact hL, by rw [HS2.out]; exact HS1, hx1⟩
          case measure => simp [intOf]; omega
    · have hi1 : ¬ (k : Int) < (n : Int) := by omega
      have fin : Hid (TxPost w (namesR l) (.returned (.slice (some ⟨g, 0, none⟩) N c)) wr) := by
        have ht : l.take k = l := List.take_of_length_le (by rw [HN.out]; omega)
        have h1 := hL.out
        have h2 := hS.out
        rw [ht] at h1 h2
        have h3 : namesR l = namesN l := by
          unfold namesR
          rcases hkb with h | h
          · have : l = [] := List.length_eq_zero_iff.1 (by rw [HN.out]; omega)
            subst this
            split <;> rfl
          · rw [HB.out, h]; rfl
        have : TxPost w (namesR l) (.returned (.slice (some ⟨g, 0, none⟩) N c)) wr := by
          rw [h3]
          exact ⟨g, c, by rw [h1], by rw [h1]; exact hNc, hcm, h2, hbw⟩
        exact this
      clear hL hS hkb
      go_wp2
      go_ret
      exact fin.out
end Go.Proofs.YthgbjnchhaoceaaGreatDoor
