/-
  A part of the proof: SpB1, SpB2, ShortS, TabInC.
-/
import Derived.Test.YtpggjgilklpncaaGreatPart15
import Derived.Test.YtpggjgilklpncaaGreatPart16
import Derived.Test.YtpggjgilklpncaaGreatPart7
import Derived.Test.YtpggjgilklpncaaGreatPart18
import Derived.Deep.RegionHeld3

/-
  The contract of the model's copy of a list of tables, and rows of tables' heads that are put one behind the other.
-/
namespace Go.Proofs.YtpggjgilklpncaaGreat
open Go.ChangeShapes Go.WideShapes Go.ChangeAt Go.RowKit
attribute [local go_sem ↓] Go.wp_at_zero Go.wp_at_succ
attribute [local simp] World.cell?_alloc_past World.cell?_alloc_at World.frozen?_alloc_at cell_far cell_off cell_here World.frozen?_alloc_past

theorem infoTS : (Tryz.prog.info? 40).map (fun i => (i.zero, i.size, i.bytes)) = some (some (.agg #[.string ⟨#[]⟩, .slice none 0 0, .slice none 0 0]), 3, 64) := by kernel_rfl
/-- Tables that can be copied. -/
def SmallS (t : TB) : Prop := t.2.1.length ≤ 1048576 ∧ t.2.2.length ≤ 1048576 ∧ ∀ i (h : i < t.2.2.length), t.2.2[i].length ≤ 1048576
theorem own_emptyT (w : World) (B : Nat) (hB : B ≤ w.heap.size) : (w.alloc (.cells #[] 40)).ownsRow B 40 3 (.slice (some ⟨w.heap.size, 0, none⟩) 0 0) 0 [] :=
  ⟨rfl, .inr ⟨w.heap.size, 0, #[], rfl, hB, by show (w.heap.push _)[w.heap.size]? = _; simp, Nat.le_refl _, by unfold maxLen; omega, rfl, rfl⟩⟩
/-- The same, with the room of each table's rows. -/
def CopyOutC (w : World) (n : Nat) (V : List TB) (e : Ending) (w' : World) : Prop := ∃ g cap Q, e = .returned (.slice (some ⟨g, 0, none⟩) n cap) ∧ w'.ownsRow w.heap.size 40 3 (.slice (some ⟨g, 0, none⟩) n cap) n (tabsV V Q n) ∧ OutTs w' w.heap.size (some ⟨g, 0, none⟩) V Q ∧ Below w.heap.size w w' ∧ n ≤ cap ∧ ∀ i (h : i < V.length), i < n → V[i].2.2.length ≤ (Q i).cr
set_option maxRecDepth 100000 in
set_option maxHeartbeats 4000000 in
theorem l6copyC_spec (a : Option Addr) (cap : Nat) (T : List TB) (n : Nat) (hn : T.length = n) (w : World) (hrow : TabsAt w a T) (hm : n ≤ 1048576) (hsm : ∀ t, t ∈ T → SmallS t) :
    Calls Tryz.prog 13 #[.slice a n cap] w (CopyOutC w n T) := by
  obtain ⟨i0, hti, hz0, hz1, hz2⟩ := info_parts infoTS
  have HR : Hid (TabsAt w a T) := hrow
  have HN : Hid (T.length = n) := hn
  have HSM : Hid (∀ t, t ∈ T → SmallS t) := hsm
  have own0 : Hid (∃ Q, OwnTs (w.alloc (.cells #[] 40)) w.heap.size (.slice (some ⟨w.heap.size, 0, none⟩) 0 0) T Q 0 ∧ ∀ i (h : i < T.length), i < 0 → T[i].2.2.length ≤ (Q i).cr) := ⟨fun _ => ⟨none, 0, none, 0, fun _ => none, fun _ => 0⟩, OwnTs.start _ (own_emptyT w _ (Nat.le_refl _)), fun i _ h => by omega⟩
  have hb0 : Below w.heap.size w (w.alloc (.cells #[] 40)) := (Below.refl _ _).alloc (Nat.le_refl _) _
  clear hrow hn hsm
  go_enter Tryz.func13, Tryz.ntmps13
  go_wp2
  go_loopw [3, 4] (fun v kk wr => ∃ k : Nat, k ≤ n ∧ kk = .int .i64 k ∧ Hid (∃ Q, OwnTs wr w.heap.size v T Q k ∧ ∀ i (h : i < T.length), i < k → T[i].2.2.length ≤ (Q i).cr) ∧ Below w.heap.size w wr ∧ v ≠ .slice none 0 0) (fun _ kk _ => n - (intOf kk).toNat)
  case atStart => exact ⟨0, Nat.zero_le _, rfl, own0, hb0, by simp⟩
  case round =>
    obtain ⟨k, hk, rfl, hOw, hbw, hvn⟩ := hrel
    by_cases hlt : k < n
    · have hlt' : Hid (k < T.length) := by have := HN.out; exact show k < T.length by omega
      obtain ⟨g, o, ca, cc, ra, cr, rfl, hgw, c0, c1, c2, hta⟩ := HR.out.below hbw k hlt'.out
      have hi0 : (0 : Int) ≤ (k : Int) := by omega
      have hi1 : (k : Int) < (n : Int) := by omega
      obtain ⟨Q, hO, hCR⟩ := hOw.out
      have HO : Hid (OwnTs wr w.heap.size _ T Q k) := hO
      have HCR : Hid (∀ i (h : i < T.length), i < k → T[i].2.2.length ≤ (Q i).cr) := hCR
      have HSS : Hid (SmallS (T[k]'hlt'.out)) := HSM.out _ (List.getElem_mem hlt'.out)
      have HTA : Hid (TabAt wr ca cc ra (T[k]'hlt'.out)) := hta
      obtain ⟨t, ht⟩ : ∃ t, (T[k]'hlt'.out) = t := ⟨_, rfl⟩
      rw [ht] at c0 c1 c2 HTA HSS
      have HVK : Hid ((T[k]'hlt'.out) = t) := ht
      clear hO hOw hta ht hCR
      obtain ⟨nc, hnc⟩ : ∃ z, t.2.1.length = z := ⟨_, rfl⟩
      obtain ⟨nr, hnr⟩ : ∃ z, t.2.2.length = z := ⟨_, rfl⟩
      obtain ⟨nm, hnm⟩ : ∃ z, t.1 = z := ⟨_, rfl⟩
      rw [hnm] at c0
      rw [hnc] at c1
      rw [hnr] at c2
      have HNC : Hid (t.2.1.length = nc) := hnc
      have HNR : Hid (t.2.2.length = nr) := hnr
      have HNM : Hid (t.1 = nm) := hnm
      clear hnc hnr hnm
      have hncS : nc ≤ 1048576 := by rw [← HNC.out]; exact HSS.out.1
      have hnrS : nr ≤ 1048576 := by rw [← HNR.out]; exact HSS.out.2.1
      go_wp2_with fail
      rw [← HNM.out]
      refine (copy_spec ca cc ra cr t nc nr HNC.out HNR.out _ HTA.out hncS hnrS HSS.out.2.2).mono ?_
      rintro e w3 ⟨g1, c1', g2, c2', G, D, rfl, _, hc1, hown, hrows, hb3⟩
      rw [HNM.out]
      have hq : Hid (OutT w3 wr.heap.size ⟨some ⟨g1, 0, none⟩, c1', some ⟨g2, 0, none⟩, c2', fun i => some ⟨G i, 0, none⟩, D⟩ (T[k]'hlt'.out)) := by
        have : OutT w3 wr.heap.size ⟨some ⟨g1, 0, none⟩, c1', some ⟨g2, 0, none⟩, c2', fun i => some ⟨G i, 0, none⟩, D⟩ (T[k]'hlt'.out) := by
          rw [HVK.out]
          have ht := HTA.out
          refine out_of_own (by decide) (by decide) hown (by rw [HNR.out]; exact hrows) (by rw [HNC.out]; exact hc1) ht.fit ht.name ht.len ht.lenR (fun i hi => ?_) (fun i hi => ?_)
          · obtain ⟨_, _, _, _, _, _, _, _, h, _⟩ := ht.rows i hi; exact h
          · obtain ⟨_, _, _, _, _, _, _, _, _, h, _⟩ := ht.rows i hi; exact h
        exact this
      have hc2' : Hid (nr ≤ c2') := by
        have h : nr ≤ c2' := by
          rcases hrows.outer.2 with ⟨e, _⟩ | ⟨g', cap', cur, e, _, _, h1, _⟩
          · cases e
          · cases e
            rw [← HNR.out]
            exact h1
        exact h
      have O3 := own_below HO.out.own hb3
      have HB3 : Hid (Below wr.heap.size wr w3) := hb3
      have hs3w : w.heap.size ≤ w3.heap.size := by have := hbw.size; have := hb3.size; omega
      clear hown hrows hb3 c0 c1 c2 HTA
      go_wp2_with (at_builtin; refine wpList_append_own_at _ rfl _ _ 24 rfl w.heap.size 40 i0 (.agg #[.string ⟨#[]⟩, .slice none 0 0, .slice none 0 0]) 3 64 Tryz.underlying24 hti hz0 hz1 hz2 rfl (by decide) _ _ _ rfl (O3.alloc _) ⟨w3.heap.size, 0, none⟩ 1 1 [.string nm, .slice (some ⟨g1, 0, none⟩) nc c1', .slice (some ⟨g2, 0, none⟩) nr c2'] rfl rfl ?c1 ?c2 ?c3 ?c4 ?c5 ?_)
      case c1 =>
        intro j u hj
        match j, hj with
        | 0, hj => simp at hj; subst hj; simp [Addr.add]
        | 1, hj => simp at hj; subst hj; simp [Addr.add]
        | 2, hj => simp at hj; subst hj; simp [Addr.add]
      case c2 => intro u hu; simp at hu; rcases hu with rfl | rfl | rfl <;> rfl
      case c3 => unfold maxLen; omega
      case c4 => omega
      case c5 => simp; omega
      intro v' w4 own4 hgrow hnn hloc
      have hx4 : Below w.heap.size w w4 := by
        refine ((hbw.trans (HB3.out.mono hbw.size)).alloc hs3w _).grown hgrow (by simp; omega) ?_
        intro j hj
        exact (O3.lt j hj).1
      have hsa : (w3.alloc (.cells #[.string nm, .slice (some ⟨g1, 0, none⟩) nc c1', .slice (some ⟨g2, 0, none⟩) nr c2'] 40)).heap.size = w3.heap.size + 1 := by simp
      have OW4 : Hid (∃ Q, OwnTs w4 w.heap.size v' T Q (k + 1) ∧ ∀ i (h : i < T.length), i < k + 1 → T[i].2.2.length ≤ (Q i).cr) := by
        refine ⟨_, OwnTs.snoc HO.out hlt'.out hbw.size HB3.out hq.out ?_ hgrow (by first | exact hloc | (rw [hsa]; exact hloc)), fun i hi hik => ?_⟩
        · unfold headV
          rw [HVK.out, HNM.out, HNC.out, HNR.out]
          exact own4
        · unfold setQ
          by_cases e : i = k
          · subst e
            rw [if_pos rfl, HVK.out, HNR.out]
            exact hc2'.out
          · rw [if_neg e]
            exact HCR.out i hi (by omega)
      have hvn4 : v' ≠ .slice none 0 0 := by first | exact hnn | exact fun e => hvn (hnn.1 e).1
      clear own4 hgrow hnn hloc O3 HO hq HB3 hsa HCR hc2'
      go_wp2
      go_roundw
      case rel => exact ⟨k + 1, by omega, by go_num, OW4, hx4, hvn4⟩
      case measure => simp [intOf]; omega
    · have hkl : k = n := by omega
      subst hkl
      have hnn : ¬ (k : Int) < (k : Int) := by omega
      obtain ⟨Q, hO, hCR⟩ := hOw.out
      obtain ⟨a', cap', hv, hout, hcap⟩ := hO.out HN.out
      have hown := hO.own
      rcases hown.2 with ⟨e, _⟩ | ⟨g, c, cur, e, _⟩
      · exact absurd e hvn
      rw [e] at hv
      injection hv with e1 e2 e3
      subst e1 e3 e
      have FIN : Hid (CopyOutC w k T (.returned (.slice (some ⟨g, 0, none⟩) k c)) wr) := ⟨g, c, Q, rfl, hown, hout, hbw, hcap, hCR⟩
      clear hO hout hOw hown hCR
      go_wp2
      go_ret
      exact FIN.out
end Go.Proofs.YtpggjgilklpncaaGreat

/-
  Rows of tables' heads, put one behind the other; and the contract of the model's Dropped.
-/
namespace Go.Proofs.YtpggjgilklpncaaGreat
open Go.ChangeShapes Go.WideShapes Go.ChangeAt Go.RowKit
attribute [local go_sem ↓] Go.wp_at_zero Go.wp_at_succ
attribute [local simp] World.cell?_alloc_past World.cell?_alloc_at World.frozen?_alloc_at cell_far cell_off cell_here World.frozen?_alloc_past

theorem small_s {t : TB} (h : tableB t = true) : SmallS t := tableB_small h

end Go.Proofs.YtpggjgilklpncaaGreat

/-
  The model's Shortened.
-/
namespace Go.Proofs.YtpggjgilklpncaaGreat
open Go.ChangeShapes Go.WideShapes Go.ChangeAt Go.RowKit
attribute [local go_sem ↓] Go.wp_at_zero Go.wp_at_succ
attribute [local simp] World.cell?_alloc_past World.cell?_alloc_at World.frozen?_alloc_at cell_far cell_off cell_here World.frozen?_alloc_past

def ShortAt (w : World) (V : List TB) (e : Ending) (w' : World) : Prop := ∃ a n c, V.length = n ∧ e = .returned (.slice a n c) ∧ TabsAt w' a V ∧ Below w.heap.size w w'
theorem cut_tabs {w W : World} {base n c k m cr : Nat} {ra : Option Addr} {g : Nat} {T : List TB} {Q : Nat → TAd} (hk : k < T.length) (hown : w.ownsRow base 40 3 (.slice (some ⟨g, 0, none⟩) n c) n (tabsV T Q n)) (hout : OutTs w base (some ⟨g, 0, none⟩) T Q) (hra : (Q k).ra = ra) (hm : m ≤ T[k].2.2.length)
    (hW : W = w.setCell ⟨g, k * 3 + 2, none⟩ (.slice ra m cr)) : TabsAt W (some ⟨g, 0, none⟩) (T.set k (cutT m T[k])) := by
  have hgw : g < w.heap.size := (hown.lt g rfl).2
  have K : KeepS (fun b => b = g) w W := by
    rw [hW]
    exact (KeepS.refl (fun b => b = g) w).setCell (p := ⟨g, k * 3 + 2, none⟩) rfl _
  have hgW : g < W.heap.size := Nat.lt_of_lt_of_le hgw K.size
  have there : ∀ i (hi : i < T.length), w.cell? ⟨g, i * 3, none⟩ = some (.string T[i].1) ∧ w.cell? ⟨g, i * 3 + 1, none⟩ = some (.slice (Q i).ca T[i].2.1.length (Q i).cc) ∧ w.cell? ⟨g, i * 3 + 2, none⟩ = some (.slice (Q i).ra T[i].2.2.length (Q i).cr) := by
    intro i hi
    obtain ⟨g', o', e, _, c0, c1, c2, _⟩ := hout.heads i hi hi
    cases e
    rw [Nat.zero_add] at c0 c1 c2
    exact ⟨c0, c1, c2⟩
  obtain ⟨e0, e1, e2⟩ := there k hk
  have off : ∀ p, p ≠ k * 3 + 2 → W.cell? ⟨g, p, none⟩ = w.cell? ⟨g, p, none⟩ := by
    intro p h2
    rw [hW, cell_off _ _ _ _ _ h2]
  have a2 : W.cell? ⟨g, k * 3 + 2, none⟩ = some (.slice ra m cr) := by
    rw [hW, cell_here _ _ _ _ (by rw [e2]; rfl)]
  have tabs : ∀ i (hi : i < T.length), TabAt W (Q i).ca (Q i).cc (Q i).ra T[i] := fun i hi => (OutTab.keepS (hout.tabs i hi hi) K (fun b hb' e => hout.head i hi g 0 hi rfl (by rw [← e]; exact hb'))).tab
  intro i hi
  have hi' : i < T.length := by simpa using hi
  by_cases e : k = i
  · subst e
    rw [List.getElem_set, if_pos rfl]
    have hl : (cutT m T[k]).2.2.length = m := by show (T[k].2.2.take m).length = m; rw [List.length_take]; omega
    refine ⟨g, 0, (Q k).ca, (Q k).cc, ra, cr, rfl, hgW, ?_, ?_, ?_, ?_⟩
    · rw [Nat.zero_add, off _ (by omega)]; exact e0
    · rw [Nat.zero_add, off _ (by omega)]; exact e1
    · rw [Nat.zero_add, hl]; exact a2
    · rw [← hra]
      exact (tabs k hk).cut m
  · rw [List.getElem_set, if_neg e]
    obtain ⟨d0, d1, d2⟩ := there i hi'
    refine ⟨g, 0, (Q i).ca, (Q i).cc, (Q i).ra, (Q i).cr, rfl, hgW, ?_, ?_, ?_, tabs i hi'⟩
    · rw [Nat.zero_add, off _ (by omega)]; exact d0
    · rw [Nat.zero_add, off _ (by omega)]; exact d1
    · rw [Nat.zero_add, off _ (by omega)]; exact d2
set_option maxRecDepth 100000 in
set_option maxHeartbeats 4000000 in
theorem short_spec (a : Option Addr) (cap : Nat) (T : List TB) (n : Nat) (hn : T.length = n) (s : ByteArray) (m : Int) (w : World) (hrow : TabsAt w a T) (hm : n ≤ 1048576) :
    Calls Tryz.prog 5 #[.slice a n cap, .string s, .int .i64 m] w (ShortAt w (shortR T s m)) := by
  obtain ⟨b, hb⟩ : ∃ b, baseB T = b := ⟨_, rfl⟩
  have HR : Hid (TabsAt w a T) := hrow
  have HN : Hid (T.length = n) := hn
  have HB : Hid (baseB T = b) := hb
  have hmL : n ≤ maxLen := by unfold maxLen; omega
  obtain ⟨V, hV⟩ : ∃ V, shortR T s m = V := ⟨_, rfl⟩
  have HV : Hid (shortR T s m = V) := hV
  rw [hV]
  clear hrow hn hV
  cases b
  · obtain rfl : [] = V := by
      rw [← HV.out]; unfold shortR; rw [if_neg (by rw [hb]; simp)]
    go_enter Tryz.func5, Tryz.ntmps5
    go_wp2_with fail
    refine (base_spec a cap T n HN.out _ HR.out hmL false HB.out).mono ?_
    rintro e w1 ⟨rfl, hb1⟩
    have FIN : Hid (ShortAt w [] (.returned (.slice (some ⟨w1.heap.size, 0, none⟩) 0 0)) (w1.alloc (.cells #[] 40))) := ⟨_, 0, 0, rfl, rfl, fun i hi => by simp at hi, hb1.alloc hb1.size _⟩
    go_wp2
    go_ret
    exact FIN.out
  obtain ⟨p1, p2, p3⟩ := baseB_parts hb
  have HSM : Hid (∀ t, t ∈ T → SmallS t) := by
    have : ∀ t, t ∈ T → SmallS t := fun t ht => small_s (p1 t ht)
    exact this
  have HRI : Hid (risesN (namesT T) = true) := p2
  have hn5 : n ≤ 5 := by rw [← HN.out]; exact p3
  clear p1 p2 p3
  by_cases hm0 : m < 0
  · obtain rfl : [] = V := by
      rw [← HV.out]; unfold shortR; rw [if_neg (by rintro ⟨_, h⟩; omega)]
    clear hb
    go_enter Tryz.func5, Tryz.ntmps5
    go_wp2_with fail
    refine (base_spec a cap T n HN.out _ HR.out hmL true HB.out).mono ?_
    rintro e w1 ⟨rfl, hb1⟩
    have FIN : Hid (ShortAt w [] (.returned (.slice (some ⟨w1.heap.size, 0, none⟩) 0 0)) (w1.alloc (.cells #[] 40))) := ⟨_, 0, 0, rfl, rfl, fun i hi => by simp at hi, hb1.alloc hb1.size _⟩
    go_wp2
    go_ret
    exact FIN.out
  have hm1 : 0 ≤ m := by omega
  have HVM : Hid (T.map (fun u => if u.1 = s then cutT m.toNat u else u) = V) := by
    have h : T.map (fun u => if u.1 = s then cutT m.toNat u else u) = V := by rw [← HV.out]; unfold shortR; rw [if_pos ⟨hb, hm1⟩]
    exact h
  clear hb HV
  go_enter Tryz.func5, Tryz.ntmps5
  go_wp2_with fail
  refine (base_spec a cap T n HN.out _ HR.out hmL true HB.out).mono ?_
  rintro e w1 ⟨rfl, hx⟩
  go_wp2_with fail
  refine (l6copyC_spec a cap T n HN.out _ (HR.out.below hx) hm HSM.out).mono ?_
  rintro e w2 ⟨g, c2, Q, rfl, hown, hout, hb2, hc2, hcr2⟩
  have HCR : Hid (∀ i (h : i < T.length), i < n → T[i].2.2.length ≤ (Q i).cr) := hcr2
  have hx2 := chain hx hb2
  have HOW : Hid (w2.ownsRow w1.heap.size 40 3 (.slice (some ⟨g, 0, none⟩) n c2) n (tabsV T Q n)) := hown
  have HOU : Hid (OutTs w2 w1.heap.size (some ⟨g, 0, none⟩) T Q) := hout
  have hw1 := hx.size
  clear hx hb2 hown hout hcr2
  go_wp2_with fail
  refine (find_spec a cap T n HN.out s _ (HR.out.below hx2) hmL).mono ?_
  rintro e w3 ⟨z, rfl, hz, hb3⟩
  have hx3 := chain hx2 hb3
  have HOW3 : Hid (w3.ownsRow w1.heap.size 40 3 (.slice (some ⟨g, 0, none⟩) n c2) n (tabsV T Q n)) := own_below HOW.out hb3
  have HOU3 : Hid (OutTs w3 w1.heap.size (some ⟨g, 0, none⟩) T Q) := HOU.out.below hb3
  clear hb3 hx2 HOW HOU
  rcases hz with ⟨rfl, hno⟩ | ⟨k, hk, rfl, hke, _⟩
  · have FIN : Hid (ShortAt w V (.returned (.slice (some ⟨g, 0, none⟩) n c2)) w3) := by
      have h : ShortAt w V (.returned (.slice (some ⟨g, 0, none⟩) n c2)) w3 := by
        rw [← HVM.out, short_none hno]
        exact ⟨_, n, c2, HN.out, rfl, HOU3.out.lies, hx3⟩
      exact h
    clear hno
    go_wp2
    go_ret
    exact FIN.out
  rw [namesT_length] at hk
  rw [namesT_at T k hk] at hke
  have hkn : k < n := by rw [← HN.out]; exact hk
  have HKE : Hid (∃ hk : k < T.length, T[k].1 = s) := ⟨hk, hke⟩
  have HSET : Hid (V = T.set k (cutT m.toNat T[k])) := by
    have h : V = T.set k (cutT m.toNat T[k]) := by rw [← HVM.out]; exact short_set HRI.out hk hke
    exact h
  obtain ⟨g', o', e', hgl, c0, c1, c3, _⟩ := HOU3.out.heads k hk hk
  cases e'
  rw [Nat.zero_add] at c0 c1 c3
  have hk0 : (0 : Int) ≤ (k : Int) := by omega
  have hk1 : (k : Int) < (n : Int) := by omega
  obtain ⟨nr, hnr⟩ : ∃ z, T[k].2.2.length = z := ⟨_, rfl⟩
  have HNR : Hid (T[k].2.2.length = nr) := hnr
  obtain ⟨ra, hra⟩ : ∃ z, (Q k).ra = z := ⟨_, rfl⟩
  have HRA : Hid ((Q k).ra = ra) := hra
  obtain ⟨cr, hcr⟩ : ∃ z, (Q k).cr = z := ⟨_, rfl⟩
  have hcrr : nr ≤ cr := by have h := HCR.out k hk hkn; omega
  rw [hnr, hra, hcr] at c3
  have f2 : w3.frozen? ⟨g, k * 3 + 2, none⟩ = false := HOW3.out.frozenAt _
  have HCC : Hid (w3.cell? ⟨g, k * 3 + 2, none⟩ = some (.slice ra nr cr)) := c3
  clear hke hra hcr c0 c1
  by_cases hmn : m < (nr : Int)
  · obtain ⟨mm, hmm⟩ : ∃ z, m.toNat = z := ⟨_, rfl⟩
    have hmz : m = (mm : Int) := by omega
    have hmc : (mm : Int) ≤ (cr : Int) := by omega
    have hmr : mm ≤ nr := by omega
    rw [hmm] at HSET
    subst hmz
    have FIN : Hid (ShortAt w V (.returned (.slice (some ⟨g, 0, none⟩) n c2)) (w3.setCell ⟨g, k * 3 + 2, none⟩ (.slice ra mm cr))) := by
      have h : ShortAt w V (.returned (.slice (some ⟨g, 0, none⟩) n c2)) (w3.setCell ⟨g, k * 3 + 2, none⟩ (.slice ra mm cr)) := by
        rw [HSET.out]
        refine ⟨_, n, c2, by rw [List.length_set]; exact HN.out, rfl, cut_tabs hk HOW3.out HOU3.out HRA.out (by rw [HNR.out]; exact hmr) rfl, hx3.setCell (p := ⟨g, k * 3 + 2, none⟩) ?_ _⟩
        have := (HOW3.out.lt g rfl).1
        show w.heap.size ≤ g
        omega
      exact h
    clear hnr HSET HRA HNR
    go_wp2
    go_ret
    exact FIN.out
  · have FIN : Hid (ShortAt w V (.returned (.slice (some ⟨g, 0, none⟩) n c2)) w3) := by
      have h : ShortAt w V (.returned (.slice (some ⟨g, 0, none⟩) n c2)) w3 := by
        rw [HSET.out, cut_all (by rw [hnr]; omega), List.set_getElem_self]
        exact ⟨_, n, c2, HN.out, rfl, HOU3.out.lies, hx3⟩
      exact h
    clear hnr HSET HRA HNR
    go_wp2
    go_ret
    exact FIN.out
end Go.Proofs.YtpggjgilklpncaaGreat

/-
  The contract of the program's TableIn at every list, with what stands of the rows' room.
-/
namespace Go.Proofs.YtpggjgilklpncaaGreat
open Go.ChangeShapes Go.WideShapes Go.ChangeAt Go.RowKit
attribute [local go_sem ↓] Go.wp_at_zero Go.wp_at_succ

def InOutC (w : World) (t : TB) (b : Bool) (e : Ending) (w' : World) : Prop :=
  ∃ nc nr ca cc ra cr A C, e = .returned (.tuple #[.agg #[.string t.1, .slice ca nc cc, .slice ra nr cr], .bool b]) ∧ t.2.1.length = nc ∧ t.2.2.length = nr ∧ OutTab w' w.heap.size ca cc ra t A C ∧ Below w.heap.size w w' ∧ nr ≤ cr ∧ (ra = none → cr = 0)
set_option maxRecDepth 100000 in
set_option maxHeartbeats 4000000 in
theorem tableinC_impl (a : Option Addr) (cap : Nat) (T : List TB) (n : Nat) (hn : T.length = n) (w : World) (hrow : TabsAt w a T) (hm : n ≤ 1048576) (hsm : ∀ t, t ∈ T → Small t) (s : ByteArray) (hsz : s.size ≤ maxLen) (u : TB) (b : Bool) (hu : InR T s u b) :
    Calls Tryz.prog 16 #[.slice a n cap, .string s] w (InOutC w u b) := by
  have E : Hid (Calls Tryz.prog 30 #[.slice a n cap] (w.alloc (.cells #[.string ⟨#[]⟩, .slice none 0 0, .slice none 0 0] 40)) fun e w' => e = .returned (.map (some (w.heap.size + 1))) ∧ ShInv (w.alloc (.cells #[.string ⟨#[]⟩, .slice none 0 0, .slice none 0 0] 40)) w' (w.heap.size + 1) T n ∧ Below (w.alloc (.cells #[.string ⟨#[]⟩, .slice none 0 0, .slice none 0 0] 40)).heap.size (w.alloc (.cells #[.string ⟨#[]⟩, .slice none 0 0, .slice none 0 0] 40)) w') := by
    have := shelved_impl a cap T n hn (w.alloc (.cells #[.string ⟨#[]⟩, .slice none 0 0, .slice none 0 0] 40)) (hrow.below ((Below.refl _ _).alloc (Nat.le_refl _) _)) hm
    unfold Hid
    simpa using this
  have hkn : T.take n = T := by rw [← hn, List.take_length]
  have HMEM : Hid (decide (s ∈ ksOf (namesT (T.take n))) = b) := by
    have : decide (s ∈ ksOf (namesT (T.take n))) = b := by
      rw [hkn]
      rcases hu with ⟨rfl, _, h⟩ | ⟨rfl, k, hk, e1, e2, _⟩
      · exact decide_eq_false (by rw [mem_ksOf]; exact h)
      · exact decide_eq_true (by rw [mem_ksOf, ← e2, ← e1]; exact List.mem_map_of_mem (List.getElem_mem hk))
    exact this
  have HN : Hid (T.length = n) := hn
  have HU : Hid (InR T s u b) := hu
  have HSM : Hid (∀ t, t ∈ T → Small t) := hsm
  clear hrow hn hu hkn hsm
  go_enter Tryz.func16, Tryz.ntmps16
  go_wp2_with fail
  refine E.out.mono ?_
  rintro e w1 ⟨rfl, hS1, hb1⟩
  have R1 : Hid (TBox w1 w.heap.size (.string ⟨#[]⟩) (.slice none 0 0) (.slice none 0 0)) := (TBox.new w _ _ _).below hb1
  have X1 : Hid (Below (w.alloc (.cells #[.string ⟨#[]⟩, .slice none 0 0, .slice none 0 0] 40)).heap.size (w.alloc (.cells #[.string ⟨#[]⟩, .slice none 0 0, .slice none 0 0] 40)) w1) := hb1
  obtain ⟨f, hSh, hHo⟩ := hS1
  have HSh1 : Hid (ShelfAt w1 (w.heap.size + 1) n (ksOf (namesT (T.take n))) f) := hSh
  have HHo : Hid (∀ j (hj : j < T.length), j < n → (∀ i (hi : i < T.length), i < j → T[i].1 ≠ T[j].1) → HoldsT (w.alloc (.cells #[.string ⟨#[]⟩, .slice none 0 0, .slice none 0 0] 40)) f T[j]) := hHo
  clear hb1 hSh hHo E
  go_wp2_with fail
  refine (has_at _ n _ f _ HSh1.out (ShInv.tables HHo.out) s hsz b HMEM.out).mono ?_
  rintro e w2 ⟨rfl, hb2⟩
  have R2 : Hid (TBox w2 w.heap.size (.string ⟨#[]⟩) (.slice none 0 0) (.slice none 0 0)) := R1.out.below hb2
  have X2 := chain X1.out hb2
  have HSh2 : Hid (ShelfAt w2 (w.heap.size + 1) n (ksOf (namesT (T.take n))) f) := HSh1.out.below hb2
  have XX : Hid (Below w.heap.size w w2) := chainA X2
  clear HSh1 hb2 X1 R1
  cases b
  · obtain rfl : u = zeroT := by
      rcases HU.out with ⟨_, h, _⟩ | ⟨h, _⟩
      · exact h
      · cases h
    obtain ⟨r0, r1, r2⟩ := R2.out.cells
    obtain ⟨f0, f1, f2⟩ := R2.out.free
    have fin : Hid (∀ x y z, InOutC w zeroT false (.returned (.tuple #[.agg #[.string ⟨#[]⟩, .slice none 0 0, .slice none 0 0], .bool false])) (((w2.setCell ⟨w.heap.size, 0, none⟩ x).setCell ⟨w.heap.size, 1, none⟩ y).setCell ⟨w.heap.size, 2, none⟩ z)) := by
      have : ∀ x y z, InOutC w zeroT false (.returned (.tuple #[.agg #[.string ⟨#[]⟩, .slice none 0 0, .slice none 0 0], .bool false])) (((w2.setCell ⟨w.heap.size, 0, none⟩ x).setCell ⟨w.heap.size, 1, none⟩ y).setCell ⟨w.heap.size, 2, none⟩ z) := fun x y z =>
        ⟨0, 0, none, 0, none, 0, _, _, rfl, rfl, rfl, out_zero _ _, ((XX.out.setCell (p := ⟨w.heap.size, 0, none⟩) (Nat.le_refl _) _).setCell (p := ⟨w.heap.size, 1, none⟩) (Nat.le_refl _) _).setCell (p := ⟨w.heap.size, 2, none⟩) (Nat.le_refl _) _, Nat.le_refl _, fun _ => rfl⟩
      exact this
    clear X2 R2 HSh2 HMEM
    go_wp2_with fail
    exact bodyPost_ret (v := .tuple #[.agg #[.string ⟨#[]⟩, .slice none 0 0, .slice none 0 0], .bool false]) (by simp [results, Tryz.results16, go_sem, r0, r1, r2]) rfl (fin.out _ _ _)
  have hrun := (HSh2.out.found s hsz (of_decide_eq_true HMEM.out)).1
  obtain ⟨k, hk, ek, es, hfk⟩ : ∃ k, ∃ h : k < T.length, T[k] = u ∧ u.1 = s ∧ ∀ j (hj : j < T.length), j < k → T[j].1 ≠ s := by
    rcases HU.out with ⟨h, _⟩ | ⟨_, h⟩
    · cases h
    · exact h
  obtain ⟨ca, cc, ra, cr, ef, hta⟩ := HHo.out k hk (by have := HN.out; omega) (fun i hi hik => by rw [ek, es]; exact hfk i hi hik)
  have HSU : Hid (Small u) := by
    have : Small u := by rw [← ek]; exact HSM.out _ (List.getElem_mem hk)
    exact this
  rw [ek] at ef hta
  obtain ⟨nc, hnc⟩ : ∃ z, u.2.1.length = z := ⟨_, rfl⟩
  obtain ⟨nr, hnr⟩ : ∃ z, u.2.2.length = z := ⟨_, rfl⟩
  have HNC : Hid (u.2.1.length = nc) := hnc
  have HNR : Hid (u.2.2.length = nr) := hnr
  have HS : Hid (s = u.1) := es.symm
  rw [es] at ef
  rw [ef] at hrun
  rw [HNC.out, HNR.out] at hrun
  have HTA : Hid (TabAt w2 ca cc ra u) := hta.below X2
  clear hta ef X2 hnc hnr hk ek es hfk HSh2 HHo HU HMEM
  go_wp2_with fail
  rw [HS.out]
  refine (copied_table ca cc ra cr u nc nr HNC.out HNR.out w2 HTA.out (by rw [← HNC.out]; exact HSU.out.1) (by rw [← HNR.out]; exact HSU.out.2.1) HSU.out.2.2).mono ?_
  rintro e w3 ⟨g, c, g2, c2, A, D, rfl, hO, hb3, hc2⟩
  have R3 : Hid (TBox w3 w.heap.size (.string ⟨#[]⟩) (.slice none 0 0) (.slice none 0 0)) := R2.out.below hb3
  obtain ⟨r0, r1, r2⟩ := R3.out.cells
  obtain ⟨f0, f1, f2⟩ := R3.out.free
  have fin : Hid (∀ x y z, InOutC w u true (.returned (.tuple #[.agg #[.string u.1, .slice (some ⟨g, 0, none⟩) nc c, .slice (some ⟨g2, 0, none⟩) nr c2], .bool true])) (((w3.setCell ⟨w.heap.size, 0, none⟩ x).setCell ⟨w.heap.size, 1, none⟩ y).setCell ⟨w.heap.size, 2, none⟩ z)) := by
    have hlt : w.heap.size < w2.heap.size := R2.out.lt
    have hbb : Below w.heap.size w w3 := chain XX.out hb3
    have : ∀ x y z, InOutC w u true (.returned (.tuple #[.agg #[.string u.1, .slice (some ⟨g, 0, none⟩) nc c, .slice (some ⟨g2, 0, none⟩) nr c2], .bool true])) (((w3.setCell ⟨w.heap.size, 0, none⟩ x).setCell ⟨w.heap.size, 1, none⟩ y).setCell ⟨w.heap.size, 2, none⟩ z) := fun x y z =>
      ⟨nc, nr, _, _, _, _, _, _, rfl, HNC.out, HNR.out, OutT.lower (q := ⟨_, _, _, c2, _, _⟩) (hO.set3 w.heap.size hlt 0 1 2 x y z) (Nat.le_of_lt hlt), ((hbb.setCell (p := ⟨w.heap.size, 0, none⟩) (Nat.le_refl _) _).setCell (p := ⟨w.heap.size, 1, none⟩) (Nat.le_refl _) _).setCell (p := ⟨w.heap.size, 2, none⟩) (Nat.le_refl _) _, hc2, fun e => by cases e⟩
    exact this
  clear hO hb3 R2 R3 XX HTA
  go_wp2_with fail
  exact bodyPost_ret (v := .tuple #[.agg #[.string u.1, .slice (some ⟨g, 0, none⟩) nc c, .slice (some ⟨g2, 0, none⟩) nr c2], .bool true]) (by simp [results, Tryz.results16, go_sem, r0, r1, r2]) rfl (fin.out _ _ _)
end Go.Proofs.YtpggjgilklpncaaGreat
