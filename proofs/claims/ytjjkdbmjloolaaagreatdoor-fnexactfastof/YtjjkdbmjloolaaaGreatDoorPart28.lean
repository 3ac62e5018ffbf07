/-
  A part of the proof: ShI4, Tabs2, TabsZ, TabsOut.
-/
import Derived.Test.YtjjkdbmjloolaaaGreatDoorPart1
import Derived.Test.YtjjkdbmjloolaaaGreatDoorPart25
import Derived.Test.YtjjkdbmjloolaaaGreatDoorPart26
import Derived.Test.YtjjkdbmjloolaaaGreatDoorPart27
import Derived.Test.YtjjkdbmjloolaaaGreatDoorPart10

namespace Go.Proofs.YtjjkdbmjloolaaaGreatDoor
open Go.ChangeShapes Go.WideShapes Go.ChangeAt Go.RowKit Go.Maps
attribute [local go_sem ↓] Go.wp_at_zero Go.wp_at_succ
attribute [local simp] World.cell?_alloc_past World.cell?_alloc_at World.frozen?_alloc_at cell_far cell_off cell_here World.frozen?_alloc_past
def HoldsT (w : World) (f : ByteArray → Value) (t : TB) : Prop :=
 ∃ ca cc ra cr, f t.1 = .agg #[.string t.1, .slice ca t.2.1.length cc, .slice ra t.2.2.length cr] ∧ TabAt w ca cc ra t
theorem HoldsT.below {w w' : World} {f : ByteArray → Value} {t : TB} (h : HoldsT w f t) (hb : Below w.heap.size w w') : HoldsT w' f t := by
 obtain ⟨ca, cc, ra, cr, e, ht⟩ := h
 exact ⟨ca, cc, ra, cr, e, ht.below hb⟩
def ShelfT (w0 w : World) (B n : Nat) (U : List TB) : Prop := (namesT U).Nodup ∧ ∃ f, ShelfAt w B n (namesT U) f ∧ ∀ t, t ∈ U → HoldsT w0 f t
theorem ShelfT.below {w0 w w' : World} {B n : Nat} {U : List TB} (h : ShelfT w0 w B n U) (hb : Below w.heap.size w w') : ShelfT w0 w' B n U := by
 obtain ⟨hn, f, hs, ht⟩ := h
 exact ⟨hn, f, hs.below hb, ht⟩
theorem turned_size {w w' : World} {B : Nat} (h : w.mapTurned w' B) : w'.heap.size = w.heap.size := by
 obtain ⟨es, clock, es', clock', he, rfl⟩ := h
 simp [ChangeMaps.setBlock]
def ShInv (w0 w : World) (B : Nat) (T : List TB) (k : Nat) : Prop :=
 ∃ f, ShelfAt w B k (ksOf (namesT (T.take k))) f ∧ ∀ j (hj : j < T.length), j < k → (∀ i (hi : i < T.length), i < j → T[i].1 ≠ T[j].1) → HoldsT w0 f T[j]
theorem ShInv.below {w0 w w' : World} {B : Nat} {T : List TB} {k : Nat} (h : ShInv w0 w B T k) (hb : Below w.heap.size w w') : ShInv w0 w' B T k := by
 obtain ⟨f, hs, ht⟩ := h
 exact ⟨f, hs.below hb, ht⟩
theorem namesT_snoc (T : List TB) (t : TB) : namesT (T ++ [t]) = namesT T ++ [t.1] := by simp [namesT]
theorem mem_names_take {T : List TB} {k : Nat} {s : ByteArray} (h : s ∈ namesT (T.take k)) : ∃ j, ∃ (hj : j < T.length), j < k ∧ T[j].1 = s := by
 obtain ⟨t, ht, e⟩ := List.mem_map.1 h
 obtain ⟨j, hj, ej⟩ := List.getElem_of_mem ht
 have hj' := hj
 rw [List.length_take] at hj'
 exact ⟨j, by omega, by omega, by rw [← e, ← ej, List.getElem_take]⟩
theorem names_take_mem {T : List TB} {k j : Nat} (hj : j < T.length) (hk : j < k) : T[j].1 ∈ namesT (T.take k) :=
 List.mem_map.2 ⟨T[j], List.mem_iff_getElem.2 ⟨j, by rw [List.length_take]; omega, List.getElem_take⟩, rfl⟩
theorem first_name {T : List TB} {s : ByteArray} : ∀ {k : Nat}, s ∈ namesT (T.take k) → ∃ j, ∃ (hj : j < T.length), j < k ∧ T[j].1 = s ∧ ∀ i (hi : i < T.length), i < j → T[i].1 ≠ T[j].1
 | 0, h => by simp [namesT] at h
 | k + 1, h => by
  by_cases hm : s ∈ namesT (T.take k)
  · obtain ⟨j, hj, hk, e, hf⟩ := first_name hm
   exact ⟨j, hj, by omega, e, hf⟩
  · obtain ⟨j, hj, hk, e⟩ := mem_names_take h
   refine ⟨j, hj, hk, e, fun i hi hij e2 => hm ?_⟩
   rw [← e, ← e2]
   exact names_take_mem hi (by omega)
theorem ShInv.tables {w0 : World} {f : ByteArray → Value} {T : List TB} {k : Nat} (h : ∀ j (hj : j < T.length), j < k → (∀ i (hi : i < T.length), i < j → T[i].1 ≠ T[j].1) → HoldsT w0 f T[j]) (s : ByteArray) (hs : s ∈ ksOf (namesT (T.take k))) : ∃ ca nc cc ra nr cr, f s = .agg #[.string s, .slice ca nc cc, .slice ra nr cr] := by
 rw [mem_ksOf] at hs
 obtain ⟨j, hj, hk, e, hf⟩ := first_name hs
 obtain ⟨ca, cc, ra, cr, ef, _⟩ := h j hj hk hf
 exact ⟨ca, _, cc, ra, _, cr, by rw [← e]; exact ef⟩
theorem ShInv.step {w0 w' : World} {B : Nat} {T : List TB} {k : Nat} {t : TB} {D : DataW Value} {f : ByteArray → Value} {ca : Option Addr} {cc : Nat} {ra : Option Addr} {cr : Nat} (hkl : k < T.length) (ht0 : T[k] = t)
  (hS : Says D (ksOf (namesT (T.take k))) f) (hD : IsMap D) (hH : ∀ j (hj : j < T.length), j < k → (∀ i (hi : i < T.length), i < j → T[i].1 ≠ T[j].1) → HoldsT w0 f T[j]) (ht : TabAt w0 ca cc ra t) (hno : t.1 ∉ ksOf (namesT (T.take k)))
  (hown : w'.ownsMap Tryz.prog 9 tokR B (k + 1) (D.put (keyL t.1) (.held (.agg #[.string t.1, .slice ca t.2.1.length cc, .slice ra t.2.2.length cr])))) : ShInv w0 w' B T (k + 1) := by
 refine ⟨putF f t.1 (.agg #[.string t.1, .slice ca t.2.1.length cc, .slice ra t.2.2.length cr]), ⟨_, hown, ?_⟩, ?_⟩
 · rw [List.take_succ_eq_append_getElem hkl, ht0, namesT_snoc, ksOf_snoc]
  exact hS.put hD t.1 _
 · intro j hj hjk hf
  by_cases e : j = k
  · subst e
   rw [ht0]
   exact ⟨ca, cc, ra, cr, by unfold putF; rw [if_pos rfl], ht⟩
  · have hne : T[j].1 ≠ t.1 := fun e2 => hno (by rw [mem_ksOf, ← e2]; exact names_take_mem hj (by omega))
   obtain ⟨a1, a2, a3, a4, e3, h⟩ := hH j hj (by omega) hf
   exact ⟨a1, a2, a3, a4, by unfold putF; rw [if_neg hne]; exact e3, h⟩
theorem ShInv.stay {w0 w' : World} {B : Nat} {T : List TB} {k : Nat} (hkl : k < T.length) (h : ShInv w0 w' B T k) (hin : T[k].1 ∈ ksOf (namesT (T.take k))) : ShInv w0 w' B T (k + 1) := by
 obtain ⟨f, ⟨D, hown, hS⟩, hH⟩ := h
 refine ⟨f, ⟨D, hown.mono (Nat.le_succ _), ?_⟩, fun j hj hjk hf => ?_⟩
 · rw [List.take_succ_eq_append_getElem hkl, namesT_snoc, ksOf_snoc, putK, if_pos hin]
  exact hS
 · by_cases e : j = k
  · subst e
   rw [mem_ksOf] at hin
   obtain ⟨i, hi, hij, e2⟩ := mem_names_take hin
   exact absurd e2 (hf i hi hij)
  · exact hH j hj (by omega) hf
theorem nodup_first {T : List TB} (h : (namesT T).Nodup) (j : Nat) (hj : j < T.length) (i : Nat) (hi : i < T.length) (hij : i < j) : T[i].1 ≠ T[j].1 := by
 have := List.pairwise_iff_getElem.1 h i j (by rw [namesT_length]; exact hi) (by rw [namesT_length]; exact hj) hij
 rw [namesT_at T i hi, namesT_at T j hj] at this
 exact this
theorem run_clear {w : World} {B n : Nat} {D : DataW Value} (h : w.ownsMap Tryz.prog 9 tokR B n D) : ∃ w', (∀ ty, (Builtin.clear_ #[125] ty #[.map (some B)]).run Tryz.prog w = .ok (.tuple #[]) w') ∧ w'.ownsMap Tryz.prog 9 tokR B 0 (.map []) ∧ w.mapTurned w' B := by
 obtain ⟨es, clock, hb, F, hs, hD⟩ := h
 refine ⟨_, fun ty => ?_, ⟨#[], clock, ChangeMaps.heap_setBlock_same hb _, ⟨by simp, MapKept.stamped_empty _, by simp⟩, Nat.le_refl _, rfl⟩, ⟨es, clock, #[], clock, hb, rfl⟩⟩
 simp [Builtin.clear_, run_underlying Tryz.underlying125, MapKept.run_getObj_map hb, MapKept.run_setObj_map _ hb, Result.andThen, ChangeMaps.setBlock]
theorem own_strsF {w : World} {base n : Nat} {v : Value} {l : List ByteArray} (h : w.ownsRow base 9 1 v n (strV l)) (hn : l.length = n) : ∃ a cap, v = .slice a n cap ∧ StrsAt w a l ∧ n ≤ cap ∧ (a = none → cap = 0) := by
 subst hn
 rcases h.2 with ⟨e, h0⟩ | ⟨g, cap, cur, e, hbg, hg, hc, _⟩
 · have : l = [] := List.eq_nil_of_length_eq_zero h0
  subst this
  exact ⟨none, 0, e, fun j hj => by simp at hj, Nat.le_refl _, fun _ => rfl⟩
 · subst e
  exact ⟨some ⟨g, 0, none⟩, cap, rfl, own_strs h, by omega, fun e => by cases e⟩
set_option maxRecDepth 100000 in
set_option maxHeartbeats 4000000 in
theorem shelved_impl (a : Option Addr) (cap : Nat) (T : List TB) (n : Nat) (hn : T.length = n) (w : World) (hrow : TabsAt w a T) (hm : n ≤ 1048576) :
  Calls Tryz.prog 93 #[.slice a n cap] w fun e w' => e = .returned (.map (some w.heap.size)) ∧ ShInv w w' w.heap.size T n ∧ Below w.heap.size w w' := by
 have HR := hid hrow
 have HN := hid hn
 clear hrow hn
 have hmm := @run_makeMap Tryz.prog
 go_enter Tryz.func93, Tryz.ntmps93
 have hb0 : Below w.heap.size w (w.alloc (.map #[] 0)) := (Below.refl _ _).alloc (Nat.le_refl _) _
 have inv0 : Hid (ShInv w (w.alloc (.map #[] 0)) w.heap.size T 0) := by
  have : ShInv w (w.alloc (.map #[] 0)) w.heap.size T 0 := ⟨fun _ => .nilFunc, ShelfAt.made w _, fun j _ hj => by omega⟩
  exact this
 go_wp2
 clear hmm
 go_loopw [9] (fun kk wr => ∃ k : Nat, k ≤ n ∧ kk = .int .i64 k ∧ Hid (ShInv w wr w.heap.size T k) ∧ Below w.heap.size w wr ∧ w.heap.size < wr.heap.size) (fun kk _ => n - (intOf kk).toNat)
 case atStart => exact ⟨0, Nat.zero_le _, rfl, inv0, hb0, by simp⟩
 case round =>
  obtain ⟨k, hk, rfl, hI, hbw, hsz⟩ := hrel
  by_cases hlt : k < n
  · have hlt' : Hid (k < T.length) := by have := HN.out; exact show k < T.length by omega
   obtain ⟨g, o, ca, cc, ra, cr, rfl, hgw, c0, c1, c2, hta⟩ := HR.out k hlt'.out
   rw [← hbw.cell (p := ⟨g, _, none⟩) hgw] at c0 c1 c2
   have hi0 : (0 : Int) ≤ (k : Int) := by omega
   have hi1 : (k : Int) < (n : Int) := by omega
   obtain ⟨t, ht⟩ : ∃ t, (T[k]'hlt'.out) = t := ⟨_, rfl⟩
   rw [ht] at c0 c1 c2 hta
   have HTK := hid ht
   have HTA := hid hta
   have hnmL : t.1.size ≤ maxLen := hta.name
   clear hta ht
   obtain ⟨nc, hnc⟩ : ∃ m, t.2.1.length = m := ⟨_, rfl⟩
   obtain ⟨nr, hnr⟩ : ∃ m, t.2.2.length = m := ⟨_, rfl⟩
   obtain ⟨nm, hnm⟩ : ∃ s, t.1 = s := ⟨_, rfl⟩
   rw [hnm] at c0 hnmL
   rw [hnc] at c1
   rw [hnr] at c2
   have HNM := hid hnm
   have HNC := hid hnc
   have HNR := hid hnr
   clear hnm hnc hnr
   obtain ⟨b, hb⟩ : ∃ b, decide (nm ∈ ksOf (namesT (T.take k))) = b := ⟨_, rfl⟩
   have HBN := hid hb
   clear hb
   obtain ⟨V, hV⟩ : ∃ V, V = (wr.alloc (.cells #[.string nm, .slice ca nc cc, .slice ra nr cr] 117)) := ⟨_, rfl⟩
   have hA : Below wr.heap.size wr V := by rw [hV]; exact (Below.refl _ _).alloc (Nat.le_refl _) _
   have HBX : Hid (Box V wr.heap.size (.string nm) (.slice ca nc cc) (.slice ra nr cr)) := by
    have : Box V wr.heap.size (.string nm) (.slice ca nc cc) (.slice ra nr cr) := by subst hV; exact box3 (Below.refl _ _)
    exact this
   have HI1 : Hid (ShInv w V w.heap.size T k) := hI.out.below hA
   have hb1 : Below w.heap.size w V := chain hbw hA
   have hs1 : wr.heap.size < V.heap.size := by rw [hV]; simp
   go_wp2_with fail
   rw [← hV]
   clear hV hI hA inv0 c0 c1 c2
   refine (has_at w.heap.size k _ _ V HI1.out.choose_spec.1 (ShInv.tables HI1.out.choose_spec.2) nm hnmL b HBN.out).mono ?_
   rintro e w1 ⟨rfl, hbx⟩
   have HI2 : Hid (ShInv w w1 w.heap.size T k) := HI1.out.below hbx
   have HBX2 : Hid (Box w1 wr.heap.size (.string nm) (.slice ca nc cc) (.slice ra nr cr)) := HBX.out.below hbx
   have hb2 : Below w.heap.size w w1 := chain hb1 hbx
   have hs2 : wr.heap.size < w1.heap.size := Nat.lt_of_lt_of_le hs1 hbx.size
   clear hbx HI1 HBX hb1 hs1
   cases b
   · obtain ⟨f, ⟨D, hown, hSay⟩, hHo⟩ := HI2.out
    have hownH := hid hown
    have hStep : Hid (∀ w', w'.ownsMap Tryz.prog 9 tokR w.heap.size (k + 1) (D.put (keyL t.1) (.held (.agg #[.string t.1, .slice ca t.2.1.length cc, .slice ra t.2.2.length cr]))) → ShInv w w' w.heap.size T (k + 1)) := by
     have : ∀ w', w'.ownsMap Tryz.prog 9 tokR w.heap.size (k + 1) (D.put (keyL t.1) (.held (.agg #[.string t.1, .slice ca t.2.1.length cc, .slice ra t.2.2.length cr]))) → ShInv w w' w.heap.size T (k + 1) :=
      fun w' h => ShInv.step hlt'.out HTK.out hSay hown.isMap hHo HTA.out (by rw [HNM.out]; exact of_decide_eq_false HBN.out) h
     exact this
    rw [HNM.out, HNC.out, HNR.out] at hStep
    clear hSay hHo hown HI2
    obtain ⟨p0, p1, p2, p3⟩ := HBX2.out
    go_wp2_with (at_mapUpdate; refine wpList_mapUpdate_in _ rfl _ _ _ 125 rfl 9 117 str_keyed Tryz.underlying125 tokR w.heap.size k D rfl hownH.out (by unfold maxLen; omega) _ _ _ rfl rfl (keyOf_txt nm hnmL) _ [] rfl ?_)
    intro w2 hown2 hturn2
    have hx2 : Below w.heap.size w w2 := below_turned hb2 hturn2 (Nat.le_refl _)
    have hs3 : w.heap.size < w2.heap.size := by rw [turned_size hturn2]; omega
    have I3 : Hid (ShInv w w2 w.heap.size T (k + 1)) := hStep.out w2 hown2
    clear hown2 hturn2 hStep hownH p0 p1 p2 p3 HBX2 hb2
    go_wp2
    go_roundw
    case rel => exact ⟨k + 1, by omega, by go_num, I3, hx2, hs3⟩
    case measure => simp [intOf]; omega
   · have I3 : Hid (ShInv w w1 w.heap.size T (k + 1)) := ShInv.stay hlt'.out HI2.out (by rw [HTK.out, HNM.out]; exact of_decide_eq_true HBN.out)
    clear HI2 HBX2
    go_wp2
    go_roundw
    case rel => exact ⟨k + 1, by omega, by go_num, I3, hb2, by omega⟩
    case measure => simp [intOf]; omega
  · have hkl : k = n := by omega
   subst hkl
   go_wp2
   go_ret
   exact ⟨rfl, hI.out, hbw⟩
theorem infoStrSh : (Tryz.prog.info? 9).map (fun i => (i.zero, i.size, i.bytes)) = some (some (.string ⟨#[]⟩), 1, 16) := by kernel_rfl
set_option maxRecDepth 100000 in
set_option maxHeartbeats 4000000 in
theorem shelf_impl (a : Option Addr) (cap : Nat) (T : List TB) (n : Nat) (hn : T.length = n) (w : World) (hrow : TabsAt w a T) (hm : n ≤ 1048576) (b : Bool) (hb : baseB T = b) :
  Calls Tryz.prog 77 #[.slice a n cap] w fun e w' => e = .returned (.tuple #[.map (some w.heap.size), .bool b]) ∧ ShelfT w w' w.heap.size n (if b then T else []) ∧ Below w.heap.size w w' := by
 obtain ⟨i0, hti, hz0, hz1, hz2⟩ := info_parts infoStrSh
 have HR := hid hrow
 have HN := hid hn
 have HB := hid hb
 clear hrow hn hb
 go_enter Tryz.func77, Tryz.ntmps77
 go_wp2_with fail
 refine (shelved_impl a cap T n HN.out w HR.out hm).mono ?_
 rintro e w9 ⟨rfl, hI9, hb9⟩
 have HI9 := hid hI9
 have hs9 : w.heap.size < w9.heap.size := hI9.choose_spec.1.lt
 clear hI9
 go_wp2_with (at_make; refine wpList_make_own _ rfl _ _ 22 rfl w9.heap.size 9 i0 (.string ⟨#[]⟩) 1 Tryz.underlying22 hti hz0 hz1 .i64 .i64 _ n rfl rfl rfl (by rw [hz2]; omega) (by unfold maxLen; omega) (by simp) ?_)
 intro w0 hown0 hgrow0
 have hb0 : Below w9.heap.size w9 w0 := (Below.refl _ _).grown hgrow0 (Nat.le_refl _) (by intro k h; cases h)
 have own0 : Hid (w0.ownsRow w9.heap.size 9 1 (.slice (some ⟨w9.heap.size, 0, none⟩) 0 n) 0 (strV (namesT (T.take 0)))) := by
  exact hown0
 clear hown0 hgrow0
 go_wp2
 go_loopw [5, 16] (fun v kk wr => ∃ k : Nat, k ≤ n ∧ kk = .int .i64 k ∧ Hid (wr.ownsRow w9.heap.size 9 1 v k (strV (namesT (T.take k)))) ∧ Below w9.heap.size w9 wr) (fun _ kk _ => n - (intOf kk).toNat)
 case atStart => exact ⟨0, Nat.zero_le _, rfl, own0, hb0⟩
 case round =>
  obtain ⟨k, hk, rfl, hO, hbq⟩ := hrel
  have hbw : Below w.heap.size w wr := chain hb9 hbq
  have hsz : w.heap.size + 1 ≤ wr.heap.size := Nat.le_trans hs9 hbq.size
  by_cases hlt : k < n
  · have hlt' : Hid (k < T.length) := by have := HN.out; exact show k < T.length by omega
   obtain ⟨g, o, ca, cc, ra, cr, rfl, hgw, c0, c1, c2, hta⟩ := HR.out k hlt'.out
   rw [← hbw.cell (p := ⟨g, _, none⟩) hgw] at c0 c1 c2
   have hi0 : (0 : Int) ≤ (k : Int) := by omega
   have hi1 : (k : Int) < (n : Int) := by omega
   have hsn : T.take (k + 1) = T.take k ++ [T[k]'hlt'.out] := List.take_succ_eq_append_getElem hlt'.out
   obtain ⟨t, ht⟩ : ∃ t, (T[k]'hlt'.out) = t := ⟨_, rfl⟩
   rw [ht] at c0 c1 c2 hsn
   have HSN := hid hsn
   clear hta hsn ht
   obtain ⟨nc, hnc⟩ : ∃ m, t.2.1.length = m := ⟨_, rfl⟩
   obtain ⟨nr, hnr⟩ : ∃ m, t.2.2.length = m := ⟨_, rfl⟩
   obtain ⟨nm, hnm⟩ : ∃ s, t.1 = s := ⟨_, rfl⟩
   rw [hnm] at c0
   rw [hnc] at c1
   rw [hnr] at c2
   have HNM := hid hnm
   clear hnm hnc hnr
   have O1 := hO.out.alloc (.cells #[.string nm, .slice ca nc cc, .slice ra nr cr] 117)
   have hsq : w9.heap.size ≤ wr.heap.size := hbq.size
   go_wp2_with (at_builtin; refine wpList_append_own _ rfl _ _ 22 rfl w9.heap.size 9 i0 (.string ⟨#[]⟩) 1 16 Tryz.underlying22 hti hz0 hz1 hz2 rfl (by decide) _ _ _ rfl (O1.alloc _) ⟨wr.heap.size + 1, 0, none⟩ 1 1 [.string nm] rfl rfl ?c1 ?c2 ?c3 ?c4 ?c5 ?_)
   case c1 =>
    intro j u hj
    match j, hj with
    | 0, hj => simp at hj; subst hj; simp [Addr.add]
   case c2 => intro u hu; simp at hu; subst hu; rfl
   case c3 => unfold maxLen; omega
   case c4 => omega
   case c5 => simp; omega
   intro v' w3 own2 hgrow hnn
   have hx3 : Below w9.heap.size w9 w3 := by
    refine ((hbq.alloc hbq.size _).alloc (by simp; omega) _).grown hgrow (by simp; omega) ?_
    intro kk hkk
    have := (O1.lt kk hkk).1
    omega
   have SS : Hid (w3.ownsRow w9.heap.size 9 1 v' (k + 1) (strV (namesT (T.take (k + 1))))) := by
    have : w3.ownsRow w9.heap.size 9 1 v' (k + 1) (strV (namesT (T.take (k + 1)))) := by
     rw [HSN.out, namesT_snoc, HNM.out, show strV (namesT (T.take k) ++ [nm]) = strV (namesT (T.take k)) ++ [.string nm] from List.map_append]; exact own2
    exact this
   clear own2 hgrow hnn O1 hbw
   go_wp2
   go_roundw
   case rel => exact ⟨k + 1, by omega, by go_num, SS, hx3⟩
   case measure => simp [intOf]; omega
  · have hkl : k = n := by omega
   subst hkl
   have hnn : ¬ (k : Int) < (k : Int) := by omega
   have hTk : T.take k = T := by rw [← HN.out, List.take_length]
   rw [hTk] at hO
   obtain ⟨f, hSh, hHo1⟩ := HI9.out.below hbq
   rw [hTk] at hSh
   have hHo : (namesT T).Nodup → ∀ t, t ∈ T → HoldsT w f t := fun hnd t ht => by
    obtain ⟨j, hj, ej⟩ := List.getElem_of_mem ht
    rw [← ej]
    exact hHo1 j hj (by have := HN.out; omega) (nodup_first hnd j hj)
   have HHo := hid hHo
   have HSh := hid hSh
   have hnl : (namesT T).length = k := by rw [namesT_length]; exact HN.out
   obtain ⟨ga, gc, hv, hst, hgc, _⟩ := own_strsF hO.out hnl
   subst hv
   have HST := hid hst
   have HNL := hid hnl
   have hks : Hid ((ksOf (namesT T)).length ≤ k) := by
    have : (ksOf (namesT T)).length ≤ k := by rw [← HNL.out]; exact ksOf_length _
    exact this
   clear hSh hHo hHo1 hTk hst hO hnl own0 hb0 HI9 hbq hb9 hs9
   by_cases h5 : (k : Int) ≤ 5
   · obtain ⟨b2, hb2⟩ : ∃ b2, T.all tableB = b2 := ⟨_, rfl⟩
    obtain ⟨r, hr⟩ : ∃ r, risesN (namesT T) = r := ⟨_, rfl⟩
    have hbb : (b2 && r) = b := by
     rw [← HB.out]
     unfold baseB
     rw [hb2, hr, decide_eq_true (by have := HN.out; omega), Bool.and_true]
    have HB2 := hid hb2
    have HRI := hid hr
    clear hb2 hr
    go_wp2_with fail
    refine (every_tables a cap T k HN.out _ (HR.out.below hbw) (by unfold maxLen; omega) b2 HB2.out).mono ?_
    rintro e w2 ⟨rfl, hbx2⟩
    have hx2 := chain hbw hbx2
    have hs2 : w.heap.size + 1 ≤ w2.heap.size := Nat.le_trans hsz hbx2.size
    have HS2 := HSh.out.below hbx2
    have HT2 := HST.out.below hbx2
    clear hbx2 HSh HST
    cases b2
    · rw [Bool.false_and] at hbb
     subst hbb
     obtain ⟨D, hown, hsay⟩ := HS2
     obtain ⟨wc, hcl, hownc, hturnc⟩ := run_clear hown
     have FIN : Hid (ShelfT w wc w.heap.size k [] ∧ Below w.heap.size w wc) := by
      have : ShelfT w wc w.heap.size k [] ∧ Below w.heap.size w wc := ⟨⟨List.nodup_nil, f, ⟨_, hownc.mono (Nat.zero_le _), says_none f⟩, fun t ht => by cases ht⟩, below_turned hx2 hturnc (Nat.le_refl _)⟩
      exact this
     clear hown hsay hownc hturnc
     go_wp2
     exact bodyPost_ret (v := .tuple #[.map (some w.heap.size), .bool false]) (by simp [results, Tryz.results77, go_sem]) rfl ⟨rfl, FIN.out⟩
    rw [Bool.true_and] at hbb
    subst hbb
    obtain ⟨o1, ho1⟩ : ∃ o1, ordL (namesT T) = o1 := ⟨_, rfl⟩
    obtain ⟨o2, ho2⟩ : ∃ o2, ordL (srt (ksOf (namesT T))) = o2 := ⟨_, rfl⟩
    have hneq : ∀ w, (binOp .neq 150 o1 o2).run Tryz.prog w = .ok (.bool !r) w := by
     intro w
     rw [← ho1, ← ho2]
     unfold ordL
     rw [run_ord_neq]
     have h1 : (namesT T).length ≤ 5 := by rw [HNL.out]; omega
     have h2 : (srt (ksOf (namesT T))).length ≤ 5 := by rw [srt_length]; have := hks.out; omega
     have := ordEq_iff (namesT T) (srt (ksOf (namesT T))) h1 h2
     rw [given_sorted, HRI.out] at this
     congr 3
     exact Bool.eq_iff_iff.2 this
    have heg : ∀ x y w, (eqGuard .neq 150 x y o1 o2).run Tryz.prog w = .ok () w := by
     intro x y w
     rw [← ho1, ← ho2]
     unfold ordL ordV
     go_simp
    have HO1 := hid ho1
    have HO2 := hid ho2
    obtain ⟨m, hml⟩ : ∃ m, (ksOf (namesT T)).length = m := ⟨_, rfl⟩
    have HML := hid hml
    clear ho1 ho2 hml
    go_wp2_with fail
    refine (order_impl ga gc (namesT T) k HNL.out (by rw [HNL.out]; omega) _ HT2).mono ?_
    rw [HO1.out]
    rintro e w3 ⟨rfl, hbx3⟩
    have hx3 := chain hx2 hbx3
    have HS3 := HS2.below hbx3
    clear HT2 HS2 hbx3
    go_wp2_with fail
    refine (names_impl w.heap.size k (ksOf (namesT T)) f _ HS3 (by have := hks.out; omega)).mono ?_
    rintro e w4 ⟨v4, rfl, own4, _, hbx4⟩
    obtain ⟨ga4, gc4, hv4, hst4, hgc4, _⟩ := own_strsF own4 (srt_length _)
    subst hv4
    have hx4 := chain hx3 hbx4
    have HS4 := HS3.below hbx4
    clear HS3 hbx4 own4
    rw [HML.out]
    go_wp2_with fail
    refine (order_impl ga4 gc4 (srt (ksOf (namesT T))) m (by rw [srt_length]; exact HML.out) (by rw [srt_length]; have := hks.out; omega) _ hst4).mono ?_
    rw [HO2.out]
    rintro e w5 ⟨rfl, hbx5⟩
    have hx5 := chain hx4 hbx5
    have HS5 := HS4.below hbx5
    clear HS4 hbx5 hst4
    cases r
    · obtain ⟨D, hown, hsay⟩ := HS5
     obtain ⟨wc, hcl, hownc, hturnc⟩ := run_clear hown
     have FIN : Hid (ShelfT w wc w.heap.size k [] ∧ Below w.heap.size w wc) := by
      have : ShelfT w wc w.heap.size k [] ∧ Below w.heap.size w wc := ⟨⟨List.nodup_nil, f, ⟨_, hownc.mono (Nat.zero_le _), says_none f⟩, fun t ht => by cases ht⟩, below_turned hx5 hturnc (Nat.le_refl _)⟩
      exact this
     clear hown hsay hownc hturnc
     go_wp2
     exact bodyPost_ret (v := .tuple #[.map (some w.heap.size), .bool false]) (by simp [results, Tryz.results77, go_sem]) rfl ⟨rfl, FIN.out⟩
    · have FIN : Hid (ShelfT w w5 w.heap.size k T ∧ Below w.heap.size w w5) := by
      have hnd := rises_nodup HRI.out
      have : ShelfT w w5 w.heap.size k T ∧ Below w.heap.size w w5 := ⟨⟨hnd, f, by rw [ksOf_self hnd] at HS5; exact HS5, HHo.out hnd⟩, hx5⟩
      exact this
     clear HS5
     go_wp2
     exact bodyPost_ret (v := .tuple #[.map (some w.heap.size), .bool true]) (by simp [results, Tryz.results77, go_sem]) rfl ⟨rfl, FIN.out⟩
   · have hb0 : b = false := by
     rw [← HB.out]
     unfold baseB
     rw [decide_eq_false (by have := HN.out; omega), Bool.and_false]
    subst hb0
    obtain ⟨D, hown, hsay⟩ := HSh.out
    obtain ⟨wc, hcl, hownc, hturnc⟩ := run_clear hown
    have FIN : Hid (ShelfT w wc w.heap.size k [] ∧ Below w.heap.size w wc) := by
     have : ShelfT w wc w.heap.size k [] ∧ Below w.heap.size w wc := ⟨⟨List.nodup_nil, f, ⟨_, hownc.mono (Nat.zero_le _), says_none f⟩, fun t ht => by cases ht⟩, below_turned hbw hturnc (Nat.le_refl _)⟩
     exact this
    clear hown hsay hownc hturnc HSh
    go_wp2
    exact bodyPost_ret (v := .tuple #[.map (some w.heap.size), .bool false]) (by simp [results, Tryz.results77, go_sem]) rfl ⟨rfl, FIN.out⟩
set_option maxHeartbeats 1000000 in
theorem baseok_impl (a : Option Addr) (cap : Nat) (T : List TB) (n : Nat) (hn : T.length = n) (w : World) (hrow : TabsAt w a T) (hm : n ≤ 1048576) (b : Bool) (hb : baseB T = b) :
  Calls Tryz.prog 59 #[.slice a n cap] w fun e w' => e = .returned (.bool b) ∧ Below w.heap.size w w' := by
 have E : Hid (Calls Tryz.prog 77 #[.slice a n cap] w fun e w' => e = .returned (.tuple #[.map (some w.heap.size), .bool b]) ∧ ShelfT w w' w.heap.size n (if b then T else []) ∧ Below w.heap.size w w') := shelf_impl a cap T n hn w hrow hm b hb
 clear hrow hn hb
 go_enter Tryz.func59, Tryz.ntmps59
 go_wp2_with fail
 refine E.out.mono ?_
 rintro e w1 ⟨rfl, _, hb1⟩
 go_wp2
 go_ret
 exact ⟨rfl, hb1⟩
end Go.Proofs.YtjjkdbmjloolaaaGreatDoor
namespace Go.Proofs.YtjjkdbmjloolaaaGreatDoor
open Go.ChangeShapes Go.WideShapes Go.ChangeAt Go.RowKit
attribute [local go_sem ↓] Go.wp_at_zero Go.wp_at_succ
end Go.Proofs.YtjjkdbmjloolaaaGreatDoor
namespace Go.Proofs.YtjjkdbmjloolaaaGreatDoor
open Go.ChangeShapes Go.WideShapes Go.ChangeAt Go.RowKit
end Go.Proofs.YtjjkdbmjloolaaaGreatDoor
namespace Go.Proofs.YtjjkdbmjloolaaaGreatDoor
open Go.ChangeShapes Go.WideShapes Go.ChangeAt Go.RowKit
attribute [local go_sem ↓] Go.wp_at_zero Go.wp_at_succ
attribute [local simp] World.cell?_alloc_past World.cell?_alloc_at World.frozen?_alloc_at cell_far cell_off cell_here World.frozen?_alloc_past
structure TAd where
 ca : Option Addr
 cc : Nat
 ra : Option Addr
 cr : Nat
 A : Nat → Option Addr
 C : Nat → Nat
def TAd.blks (q : TAd) (t : TB) (b : Nat) : Prop := tabBlks q.ca q.ra t q.A b
def OutT (w : World) (base : Nat) (q : TAd) (t : TB) : Prop := OutTab w base q.ca q.cc q.ra t q.A q.C
def HeadsT (w : World) (a : Option Addr) (T : List TB) (Q : Nat → TAd) (m : Nat) : Prop :=
 ∀ i (h : i < T.length), i < m → ∃ g o, a = some ⟨g, o, none⟩ ∧ g < w.heap.size ∧ w.cell? ⟨g, o + i * 3, none⟩ = some (.string T[i].1) ∧ w.cell? ⟨g, o + i * 3 + 1, none⟩ = some (.slice (Q i).ca T[i].2.1.length (Q i).cc) ∧ w.cell? ⟨g, o + i * 3 + 2, none⟩ = some (.slice (Q i).ra T[i].2.2.length (Q i).cr) ∧ w.frozen? ⟨g, o + i * 3, none⟩ = false
theorem HeadsT.keepS {P : Nat → Prop} {w w' : World} {a : Option Addr} {T : List TB} {Q : Nat → TAd} {m : Nat} (h : HeadsT w a T Q m) (hk : KeepS P w w') (hP : ∀ g o, 0 < m → a = some ⟨g, o, none⟩ → ¬ P g) : HeadsT w' a T Q m := by
 intro i hi hm
 obtain ⟨g, o, ha, hlt, c0, c1, c2, f0⟩ := h i hi hm
 have := hP g o (by omega) ha
 exact ⟨g, o, ha, Nat.lt_of_lt_of_le hlt hk.size, by rw [hk.cell hlt this]; exact c0, by rw [hk.cell hlt this]; exact c1, by rw [hk.cell hlt this]; exact c2, by rw [hk.frozen hlt this]; exact f0⟩
structure OutU (w : World) (base : Nat) (a : Option Addr) (T : List TB) (Q : Nat → TAd) (m : Nat) : Prop where
 heads : HeadsT w a T Q m
 tabs : ∀ i (_ : i < T.length), i < m → OutT w base (Q i) T[i]
 apart : ∀ i j (_ : i < T.length) (_ : j < T.length) b, i < m → j < m → i ≠ j → (Q i).blks T[i] b → ¬ (Q j).blks T[j] b
 head : ∀ i (_ : i < T.length) g o, i < m → a = some ⟨g, o, none⟩ → ¬ (Q i).blks T[i] g
 lo : ∀ g o, 0 < m → a = some ⟨g, o, none⟩ → base ≤ g
abbrev OutTs (w : World) (base : Nat) (a : Option Addr) (T : List TB) (Q : Nat → TAd) : Prop := OutU w base a T Q T.length
def tabsBlks (a : Option Addr) (T : List TB) (Q : Nat → TAd) (b : Nat) : Prop := (0 < T.length ∧ ∃ o, a = some ⟨b, o, none⟩) ∨ ∃ i, ∃ h : i < T.length, (Q i).blks T[i] b
theorem OutU.lies {w : World} {base : Nat} {a : Option Addr} {T : List TB} {Q : Nat → TAd} (h : OutTs w base a T Q) : TabsAt w a T := by
 intro i hi
 obtain ⟨g, o, ha, hlt, c0, c1, c2, _⟩ := h.heads i hi hi
 exact ⟨g, o, _, _, _, _, ha, hlt, c0, c1, c2, (h.tabs i hi hi).tab⟩
theorem OutU.keepS {P : Nat → Prop} {w w' : World} {base : Nat} {a : Option Addr} {T : List TB} {Q : Nat → TAd} {m : Nat} (h : OutU w base a T Q m) (hk : KeepS P w w') (hH : ∀ g o, 0 < m → a = some ⟨g, o, none⟩ → ¬ P g) (hP : ∀ i (hi : i < T.length) b, i < m → (Q i).blks T[i] b → ¬ P b) : OutU w' base a T Q m :=
 ⟨h.heads.keepS hk hH, fun i hi hm => (h.tabs i hi hm).keepS hk (fun b hb => hP i hi b hm hb), h.apart, h.head, h.lo⟩
theorem OutU.below {w w' : World} {base : Nat} {a : Option Addr} {T : List TB} {Q : Nat → TAd} {m : Nat} (h : OutU w base a T Q m) (hb : Below w.heap.size w w') : OutU w' base a T Q m :=
 h.keepS (KeepS.ofBelow (P := fun _ => False) hb) (fun _ _ _ _ h => h) (fun _ _ _ _ _ h => h)
theorem OutU.keepFar {P : Nat → Prop} {w w' : World} {base : Nat} {a : Option Addr} {T : List TB} {Q : Nat → TAd} {m : Nat} (h : OutU w base a T Q m) (hk : KeepS P w w') (hP : ∀ b, P b → b < base) : OutU w' base a T Q m :=
 h.keepS hk (fun g o h0 e hp => by have := hP g hp; have := h.lo g o h0 e; omega) (fun i hi b hm hb hp => by have := hP b hp; have := (h.tabs i hi hm).lo b hb; omega)
theorem OutU.blks_lo {w : World} {base : Nat} {a : Option Addr} {T : List TB} {Q : Nat → TAd} (h : OutTs w base a T Q) (b : Nat) (hb : tabsBlks a T Q b) : base ≤ b := by
 rcases hb with ⟨h0, o, e⟩ | ⟨i, hi, hb⟩
 · exact h.lo b o h0 e
 · exact (h.tabs i hi hi).lo b hb
theorem OutU.blks_lt {w : World} {base : Nat} {a : Option Addr} {T : List TB} {Q : Nat → TAd} (h : OutTs w base a T Q) (b : Nat) (hb : tabsBlks a T Q b) : b < w.heap.size := by
 rcases hb with ⟨h0, o, e⟩ | ⟨i, hi, hb⟩
 · obtain ⟨g, o', ha, hlt, _⟩ := h.heads 0 h0 h0
  rw [e] at ha; cases ha; exact hlt
 · exact (h.tabs i hi hi).lt b hb
theorem OutT.below {w w' : World} {base : Nat} {q : TAd} {t : TB} (h : OutT w base q t) (hb : Below w.heap.size w w') : OutT w' base q t := OutTab.below h hb
theorem OutT.lower {w : World} {base base' : Nat} {q : TAd} {t : TB} (h : OutT w base q t) (hb : base' ≤ base) : OutT w base' q t :=
 ⟨h.cols, h.fit, h.len, h.cap, h.nilC, h.lenR, h.name, h.fitR, h.lenL, h.nilR, h.free, h.heads, h.un, h.ap, h.colR, h.colH, fun b hb' => Nat.le_trans hb (h.lo b hb')⟩
def setQ (Q : Nat → TAd) (m : Nat) (q : TAd) : Nat → TAd := fun i => if i = m then q else Q i
theorem setQ_at (Q : Nat → TAd) (m : Nat) (q : TAd) : setQ Q m q m = q := if_pos rfl
theorem setQ_old (Q : Nat → TAd) {m i : Nat} (q : TAd) (h : i ≠ m) : setQ Q m q i = Q i := if_neg h
theorem OutU.snoc {w w' : World} {base : Nat} {a a' : Option Addr} {T : List TB} {Q : Nat → TAd} {m B : Nat} {q : TAd} (h : OutU w base a T Q m) (hm : m < T.length) (hB : w.heap.size ≤ B) (hbase : base ≤ B) (hq : OutT w' B q T[m])
  (hold : ∀ i (hi : i < T.length), i < m → OutT w' base (Q i) T[i]) (hh : HeadsT w' a' T (setQ Q m q) (m + 1)) (hlo : ∀ g o, a' = some ⟨g, o, none⟩ → base ≤ g)
  (hhd : ∀ g o, a' = some ⟨g, o, none⟩ → (∀ i (hi : i < T.length), i < m → ¬ (Q i).blks T[i] g) ∧ ¬ q.blks T[m] g) : OutU w' base a' T (setQ Q m q) (m + 1) := by
 have far : ∀ i (hi : i < T.length) b, i < m → (Q i).blks T[i] b → b < B := fun i hi b him hb => Nat.lt_of_lt_of_le ((h.tabs i hi him).lt b hb) hB
 have near : ∀ b, q.blks T[m] b → B ≤ b := fun b hb => hq.lo b hb
 refine ⟨hh, ?_, ?_, ?_, fun g o _ e => hlo g o e⟩
 · intro i hi hlt
  by_cases e : i = m
  · subst e; rw [setQ_at]; exact hq.lower hbase
  · rw [setQ_old Q q e]; exact hold i hi (by omega)
 · intro i j hi hj b hil hjl hij hbi hbj
  by_cases ei : i = m
  · subst ei
   rw [setQ_at] at hbi
   rw [setQ_old Q q (Ne.symm hij)] at hbj
   have := near b hbi
   have := far j hj b (by omega) hbj
   omega
  · rw [setQ_old Q q ei] at hbi
   by_cases ej : j = m
   · subst ej
    rw [setQ_at] at hbj
    have := near b hbj
    have := far i hi b (by omega) hbi
    omega
   · rw [setQ_old Q q ej] at hbj
    exact h.apart i j hi hj b (by omega) (by omega) hij hbi hbj
 · intro i hi g o hil e
  by_cases ei : i = m
  · subst ei; rw [setQ_at]; exact (hhd g o e).2
  · rw [setQ_old Q q ei]; exact (hhd g o e).1 i hi (by omega)
end Go.Proofs.YtjjkdbmjloolaaaGreatDoor
