/-
  A part of the proof: RewI, PshI.
-/
import Derived.Test.YtadbbkpillfjaaaGreatDoorPart27
import Derived.Test.YtadbbkpillfjaaaGreatDoorPart26
import Derived.Test.YtadbbkpillfjaaaGreatDoorPart23
import Derived.Test.YtadbbkpillfjaaaGreatDoorPart10
import Derived.Test.YtadbbkpillfjaaaGreatDoorPart25

/-
  The program's rewritten, over any rule under which a measure of the kinds becomes less; and its Pushed.
-/
namespace Go.Proofs.YtadbbkpillfjaaaGreatDoor
open Go.ChangeShapes Go.WideShapes Go.ChangeAt Go.RowKit
attribute [local go_sem ↓] Go.wp_at_zero Go.wp_at_succ
attribute [local simp] World.cell?_alloc_past World.cell?_alloc_at World.frozen?_alloc_at cell_far cell_off cell_here World.frozen?_alloc_past

/-- The kinds of the sieves that lie where a slice says. -/
def kindsV (w : World) : Value → List Int
  | .slice (some ⟨b, o, _⟩) n _ => (List.range n).map fun j => match w.cell? ⟨b, o + j * 7, none⟩ with | some (.int _ k) => k | _ => 0
  | _ => []
theorem HeadsIn.kinds {w : World} {a : Option Addr} {n c : Nat} {P : List (SV × HAd)} (h : HeadsIn w a P) (hn : P.length = n) : kindsV w (.slice a n c) = (P.map Prod.fst).map (·.kind) := by
  subst hn
  by_cases h0 : P.length = 0
  · have hP : P = [] := List.eq_nil_of_length_eq_zero h0
    subst hP
    cases a with
    | none => rfl
    | some ad => rfl
  · obtain ⟨b, o, e, _⟩ := h.at 0 (by omega)
    subst e
    apply List.ext_getElem
    · simp [kindsV]
    · intro i h1 h2
      have hi : i < P.length := by simpa using h2
      obtain ⟨b', o', e', _, hc, _⟩ := h.at i hi
      cases e'
      simp [kindsV, hc]
def boolN : Value → Nat
  | .bool true => 1
  | _ => 0
/-- What stands while the list is rewritten. -/
def RewW (r : Rule) (Ok : SV → Prop) (w wr : World) (T : List SV) (v ch : Value) : Prop :=
  ∃ a n c P b, v = .slice a n c ∧ ch = .bool b ∧ P.length = n ∧ n ≤ 8 ∧ n ≤ c ∧ c ≤ maxLen ∧ (a = none → c = 0) ∧ HeadsIn wr a P ∧ (∀ p ∈ P, Ok p.1) ∧ (∀ K, Comes r (P.map Prod.fst) K → Comes r T K) ∧ (b = false → rwStep r (P.map Prod.fst) = none) ∧ Below w.heap.size w wr
theorem OutW.lower {w : World} {B B' : Nat} {a : Option Addr} {T : List SV} {Q : Nat → VAd} {m : Nat} (h : OutW w B a T Q m) (hB : B' ≤ B) : OutW w B' a T Q m :=
  ⟨h.heads, fun i hi him => ⟨(h.sivs i hi him).siv, (h.sivs i hi him).freeN, (h.sivs i hi him).freeI, (h.sivs i hi him).ap, fun b hb => Nat.le_trans hB ((h.sivs i hi him).lo b hb)⟩, h.apart, h.head, fun g o hm e => Nat.le_trans hB (h.lo g o hm e)⟩
theorem mildS_of {s : SV} (h : MildV s) : MildS s := ⟨h.2.1, h.2.2.2.1⟩
set_option maxRecDepth 100000 in
set_option maxHeartbeats 4000000 in
theorem rewritten_impl (f : Nat) (hent : ∀ (xs : Array Value) (w : World), (callFunc f xs).run Tryz.prog w = .ok (.enter f xs) w) (Ok : SV → Prop) (hms : ∀ s, Ok s → MildS s) (r : Rule) (M : List Int → Nat) (hdec : ∀ L L', (∀ s ∈ L, Ok s) → rwStep r L = some L' → M (L'.map (·.kind)) < M (L.map (·.kind))) (a : Option Addr) (cap : Nat) (P : List (SV × HAd)) (n : Nat) (hn : P.length = n) (hcap : n ≤ cap) (hnil : a = none → cap = 0) (w : World) (hrow : HeadsIn w a P) (hok : askB (P.map Prod.fst) = true → ∀ p ∈ P, Ok p.1) (hmild : ∀ p ∈ P, MildV p.1) (hcm : cap ≤ maxLen) (hp : PowAt w) (he : ErrAt w) (hr : RuleHv w f Ok r) :
    Calls Tryz.prog 16 #[.slice a n cap, .func (.func f) #[] #[]] w fun e w' => ∃ g m K Q, e = .returned (.slice (some ⟨g, 0, none⟩) m m) ∧ K.length = m ∧ PushAns r (P.map Prod.fst) K ∧ OutVs w' w.heap.size (some ⟨g, 0, none⟩) K Q ∧ Below w.heap.size w w' := by
  obtain ⟨b, hb⟩ : ∃ b, askB (P.map Prod.fst) = b := ⟨_, rfl⟩
  have HR : Hid (HeadsIn w a P) := hrow
  have HN : Hid (P.length = n) := hn
  have HO : Hid (askB (P.map Prod.fst) = true → ∀ p ∈ P, Ok p.1) := hok
  have HV : Hid (RuleHv w f Ok r) := hr
  have HB : Hid (askB (P.map Prod.fst) = b) := hb
  have HM : Hid (∀ s, Ok s → MildS s) := hms
  have HD : Hid (∀ L L', (∀ s ∈ L, Ok s) → rwStep r L = some L' → M (L'.map (·.kind)) < M (L.map (·.kind))) := hdec
  have h8 : b = true → n ≤ 8 := fun h => by have := ask_len (hb.trans h); rw [List.length_map] at this; omega
  have HA : Hid (Calls Tryz.prog 33 #[.slice a n cap] w fun e w' => e = .returned (.bool b) ∧ Below w.heap.size w w') := by
    have h : Calls Tryz.prog 33 #[.slice a n cap] w fun e w' => e = .returned (.bool b) ∧ Below w.heap.size w w' := ask_impl a cap (P.map Prod.fst) n (by rw [List.length_map]; exact hn) w hrow.sivs (fun i hi => by simpa using hmild _ (List.getElem_mem (by simpa using hi))) (by omega) hp he b hb
    exact h
  clear hrow hn hok hr hb hmild hms hdec hp he
  go_enter Tryz.func16, Tryz.ntmps16
  go_wp2_with fail
  refine HA.out.mono ?_
  rintro e w1 ⟨rfl, hb1⟩
  cases b
  · have FIN : Hid (∃ g m K Q, Ending.returned (.slice (some ⟨w1.heap.size, 0, none⟩) 0 0) = .returned (.slice (some ⟨g, 0, none⟩) m m) ∧ K.length = m ∧ PushAns r (P.map Prod.fst) K ∧ OutVs (w1.alloc (.cells #[] 38)) w.heap.size (some ⟨g, 0, none⟩) K Q ∧ Below w.heap.size w (w1.alloc (.cells #[] 38))) :=
      ⟨w1.heap.size, 0, [], fun _ => ⟨none, 0, none, 0⟩, rfl, rfl, ⟨fun h => absurd (HB.out.symm.trans h) (by simp), fun _ => rfl⟩, ⟨fun i hi => by simp at hi, fun i hi => by simp at hi, fun i j hi => by simp at hi, fun i hi => by simp at hi, fun g o h => by simp at h⟩, hb1.alloc hb1.size _⟩
    go_wp2
    go_ret
    exact FIN.out
  have hn8 := h8 rfl
  clear h8
  have HW : Hid (RewW r Ok w w1 (P.map Prod.fst) (.slice a n cap) (.bool true)) := ⟨a, n, cap, P, true, rfl, rfl, HN.out, hn8, hcap, hcm, hnil, HR.out.below hb1, HO.out HB.out, fun K h => h, (fun h => by cases h), hb1⟩
  clear hcap hcm hnil hb1 HR HN HO HA hn8
  go_wp2
  go_loopw [0, 5] (fun v ch wr => Hid (RewW r Ok w wr (P.map Prod.fst) v ch)) (fun v ch wr => M (kindsV wr v) + boolN ch)
  case atStart => exact HW
  case round =>
    obtain ⟨a', n', c', Q, b, rfl, rfl, hl, h8, hc, hcm, hnil, hH, hok, hC, hst, hbw⟩ := hrel.out
    have HC : Hid (∀ K, Comes r (Q.map Prod.fst) K → Comes r (P.map Prod.fst) K) := hC
    have HOK : Hid (∀ p ∈ Q, Ok p.1) := hok
    have HL : Hid (Q.length = n') := hl
    have HH : Hid (HeadsIn wr a' Q) := hH
    have hk : kindsV wr (.slice a' n' c') = (Q.map Prod.fst).map (·.kind) := hH.kinds hl
    cases b
    · have HST : Hid (rwStep r (Q.map Prod.fst) = none) := hst rfl
      have HCP : Hid (Calls Tryz.prog 35 #[.slice a' n' c'] wr fun e w' => ∃ g R, e = .returned (.slice (some ⟨g, 0, none⟩) n' n') ∧ OutVs w' wr.heap.size (some ⟨g, 0, none⟩) (Q.map Prod.fst) R ∧ Below wr.heap.size wr w') := by
        have h : Calls Tryz.prog 35 #[.slice a' n' c'] wr fun e w' => ∃ g R, e = .returned (.slice (some ⟨g, 0, none⟩) n' n') ∧ OutVs w' wr.heap.size (some ⟨g, 0, none⟩) (Q.map Prod.fst) R ∧ Below wr.heap.size wr w' := copiedsieves_impl a' c' Q n' hl wr hH hnil (by omega) (fun p hp => HM.out _ (hok p hp))
        exact h
      clear hrel hl hH hok hC hst hk
      go_wp2_with fail
      refine HCP.out.mono ?_
      rintro e w5 ⟨g, R, rfl, hO, hb5⟩
      have FIN : Hid (∃ g' m K Q', Ending.returned (.slice (some ⟨g, 0, none⟩) n' n') = .returned (.slice (some ⟨g', 0, none⟩) m m) ∧ K.length = m ∧ PushAns r (P.map Prod.fst) K ∧ OutVs w5 w.heap.size (some ⟨g', 0, none⟩) K Q' ∧ Below w.heap.size w w5) :=
        ⟨g, n', Q.map Prod.fst, R, rfl, by rw [List.length_map]; exact HL.out, ⟨fun _ => HC.out _ (.done HST.out), fun h => absurd (HB.out.symm.trans h) (by simp)⟩, hO.lower hbw.size, chain hbw hb5⟩
      clear hO hb5
      go_wp2
      go_ret
      exact FIN.out
    · have HCF : Hid (Calls Tryz.prog 34 #[.slice a' n' c', .func (.func f) #[] #[]] wr (FstOut wr Ok r a' n' c' Q)) := first_impl f hent Ok r a' c' Q n' hl hc wr hH hok h8 hcm (HV.out.below hbw)
      clear hrel hl hH hok hC hst
      go_wp2_with fail
      refine HCF.out.mono ?_
      rintro e w3 ⟨hb3, ⟨hst, rfl⟩ | ⟨g, m, c, X, hst, rfl, hxl, hmn, hmc, hc63, hX, hXok⟩⟩
      · have HNX : Hid (RewW r Ok w w3 (P.map Prod.fst) (.slice a' n' c') (.bool false)) := ⟨a', n', c', Q, false, rfl, rfl, HL.out, h8, hc, hcm, hnil, HH.out.below hb3, HOK.out, HC.out, fun _ => hst, chain hbw hb3⟩
        have hk3 : kindsV w3 (.slice a' n' c') = (Q.map Prod.fst).map (·.kind) := (HH.out.below hb3).kinds HL.out
        clear hst hb3
        go_wp2
        go_roundw
        case rel => exact HNX
        case measure => rw [hk3, hk]; simp [boolN]
      · have HNX : Hid (RewW r Ok w w3 (P.map Prod.fst) (.slice (some ⟨g, 0, none⟩) m c) (.bool true)) := ⟨_, m, c, X, true, rfl, rfl, hxl, by omega, hmc, hc63, (fun h => by cases h), hX, hXok, fun K h => HC.out K (.step hst h), (fun h => by cases h), chain hbw hb3⟩
        have hk3 : kindsV w3 (.slice (some ⟨g, 0, none⟩) m c) = (X.map Prod.fst).map (·.kind) := hX.kinds hxl
        have hlt : M ((X.map Prod.fst).map (·.kind)) < M ((Q.map Prod.fst).map (·.kind)) := HD.out _ _ (fun s hs => by obtain ⟨p, hp, rfl⟩ := List.mem_map.1 hs; exact HOK.out p hp) hst
        clear hst hb3 hX hXok
        go_wp2
        go_roundw
        case rel => exact HNX
        case measure => rw [hk3, hk]; simp [boolN]; simpa using hlt
end Go.Proofs.YtadbbkpillfjaaaGreatDoor

/-
  A law's list of sieves taken over, and the heads of it; a list of one's own read as heads.
-/
namespace Go.Proofs.YtadbbkpillfjaaaGreatDoor
open Go.ChangeShapes Go.WideShapes Go.ChangeAt Go.RowKit
attribute [local go_sem ↓] Go.wp_at_zero Go.wp_at_succ
attribute [local simp] World.cell?_alloc_past World.cell?_alloc_at World.frozen?_alloc_at cell_far cell_off cell_here World.frozen?_alloc_past

/-- Sieves in memory of their own, read as heads. -/
theorem out_heads {w : World} {B : Nat} {a : Option Addr} {T : List SV} {Q : Nat → VAd} (h : OutVs w B a T Q) (hs : ∀ i, i < T.length → (Q i).sa ≠ none) : ∃ P : List (SV × HAd), P.map Prod.fst = T ∧ HeadsIn w a P := by
  refine ⟨(List.range T.length).attach.map (fun i => (T[i.1]'(List.mem_range.1 i.2), ⟨(Q i.1).na, (Q i.1).nc, (Q i.1).sa, (Q i.1).sc⟩)), ?_, ?_, ?_, ?_⟩
  · apply List.ext_getElem
    · simp
    · intro i h1 h2
      simp
  · intro i hi
    have hi' : i < T.length := by simpa using hi
    obtain ⟨g, o, e, hlt, ⟨c0, c1, c2, c3, c4, c5, c6⟩, _⟩ := h.heads i hi' hi'
    refine ⟨g, o, e, hlt, fun j hj => ?_⟩
    simp only [List.getElem_map, List.getElem_attach, List.getElem_range, headSv]
    rcases (show j = 0 ∨ j = 1 ∨ j = 2 ∨ j = 3 ∨ j = 4 ∨ j = 5 ∨ j = 6 by omega) with rfl | rfl | rfl | rfl | rfl | rfl | rfl
    · exact c0
    · exact c1
    · exact c2
    · exact c3
    · exact c4
    · exact c5
    · exact c6
  · intro p hp
    obtain ⟨i, _, rfl⟩ := List.mem_map.1 hp
    exact (h.sivs i.1 (List.mem_range.1 i.2) (List.mem_range.1 i.2)).siv
  · intro p hp e
    obtain ⟨i, _, rfl⟩ := List.mem_map.1 hp
    exact absurd e (hs i.1 (List.mem_range.1 i.2))
set_option maxRecDepth 100000 in
set_option maxHeartbeats 4000000 in
theorem tosivs_some (a : Option Addr) (cap : Nat) (T : List SV) (n : Nat) (hn : T.length = n) (w : World) (hrow : SivsAt w a T) (hm : n ≤ 1048576) (hms : ∀ i (h : i < T.length), MildV T[i]) :
    Calls Tryz.prog 6 #[.slice a n cap] w fun e w' => ∃ g Q, e = .returned (.slice (some ⟨g, 0, none⟩) n n) ∧ OutVs w' w.heap.size (some ⟨g, 0, none⟩) T Q ∧ (∀ i, i < n → (Q i).sa ≠ none) ∧ Below w.heap.size w w' := by
  obtain ⟨i0, hi, hz0, hz1, hz2⟩ := info_parts infoV
  have hR : Hid (SivsAt w a T) := hrow
  have hN : Hid (T.length = n) := hn
  have hMS : Hid (∀ i (h : i < T.length), MildV T[i]) := hms
  clear hrow hn hms
  go_enter Tryz.func6, Tryz.ntmps6
  go_wp2_with (at_make; refine wpList_make_full _ rfl _ _ 24 rfl w.heap.size 38 i0 (.agg #[.int .i64 0, .string ⟨#[]⟩, .slice none 0 0, .slice none 0 0, .bool false, .int .i64 0, .int .i64 0]) 7 Tryz.underlying24 hi hz0 hz1 .i64 .i64 _ _ n rfl rfl rfl rfl ?b2 ?b3 (Nat.le_refl _) ?_)
  case b2 => rw [hz2]; omega
  case b3 => unfold maxLen; omega
  intro w1 hown hgrow
  have hb1 : Below w.heap.size w w1 := (Below.refl _ _).grown hgrow (Nat.le_refl _) (by intro k h; cases h)
  generalize (madeCells _ _).toList = z at hown
  have hT : Hid (∃ Q, TakW w1 w.heap.size T Q 0 ∧ ∀ i, i < 0 → (Q i).sa ≠ none) := by
    refine ⟨fun _ => ⟨none, 0, none, 0⟩, ⟨(hown.lt _ rfl).2, ?_, fun q => hown.frozenAt q, ⟨fun i _ h => by omega, fun i _ h => by omega, fun i j _ _ b h => by omega, fun i _ g o h => by omega, fun g o h => by omega⟩, fun i _ b h => by omega⟩, fun i h => by omega⟩
    intro q hq
    have := hN.out
    exact ⟨_, (hown.cellAt q (by omega)).trans (List.getElem?_eq_getElem (by rw [hown.1]; omega))⟩
  clear hown hgrow
  go_wp2
  go_loopw [4] (fun i wr => ∃ m : Nat, m ≤ n ∧ i = .int .i64 m ∧ Hid (∃ Q, TakW wr w.heap.size T Q m ∧ ∀ i, i < m → (Q i).sa ≠ none) ∧ Below w.heap.size w wr)
    (fun i _ => n - (intOf i).toNat)
  case atStart => exact ⟨0, Nat.zero_le _, rfl, hT, hb1⟩
  case round =>
    obtain ⟨m, hmL, rfl, hT1, hb⟩ := hrel
    obtain ⟨Q, hTQ, hSQ⟩ := hT1.out
    have HSQ : Hid (∀ i, i < m → (Q i).sa ≠ none) := hSQ
    have hT2 : Hid (TakW wr w.heap.size T Q m) := hTQ
    clear hTQ hT1 hSQ
    by_cases hlt : m < n
    · have hlt' : Hid (m < T.length) := by have := hN.out; exact show m < T.length by omega
      obtain ⟨b, o, na, nc, sa, sc, rfl, hbw, ⟨c0, c1, c2, c3, c4, c5, c6⟩, ht⟩ := hR.out.below hb m hlt'.out
      have hi0 : (0 : Int) ≤ (m : Int) := by omega
      have hi1 : (m : Int) < (n : Int) := by omega
      have HT : Hid (SivAt wr na nc sa (T[m]'hlt'.out)) := ht
      have HM : Hid (MildV (T[m]'hlt'.out)) := hMS.out m hlt'.out
      clear ht
      obtain ⟨x, hx⟩ : ∃ x, (T[m]'hlt'.out) = x := ⟨_, rfl⟩
      rw [hx] at c0 c1 c2 c3 c4 c5 c6 HT HM
      have HXE : Hid ((T[m]'hlt'.out) = x) := hx
      clear hx
      obtain ⟨nn, hnn⟩ : ∃ k, x.names.length = k := ⟨_, rfl⟩
      obtain ⟨sn, hsn⟩ : ∃ k, x.sum.length = k := ⟨_, rfl⟩
      rw [hnn] at c2
      rw [hsn] at c3
      have HNC : Hid (x.names.length = nn) := hnn
      have HNR : Hid (x.sum.length = sn) := hsn
      have hbg : w.heap.size < wr.heap.size := hT2.out.lt
      clear hnn hsn
      go_wp2_with fail
      refine (tosiv_laws na nc sa sc x nn sn HNC.out HNR.out _ HT.out (by have := HM.out.2.1; rw [HNC.out] at this; exact this) (by have := HM.out.2.2.2.1; rw [HNR.out] at this; exact this)).mono ?_
      rintro e w2 ⟨g1, g2, rfl, hnew, hb2⟩
      have hx2 := chain hb hb2
      have T2 := hT2.out.below hb2
      have hTT := TakW.step (q := ⟨some ⟨g1, 0, none⟩, x.names.length, some ⟨g2, 0, none⟩, x.sum.length⟩) hT2.out hb2 hlt'.out x HXE.out (hnew.out HT.out.fitN HT.out.name HT.out.lenN HT.out.fitI HT.out.lenI)
      dsimp only at hTT
      rw [HNC.out, HNR.out] at hTT
      have HTT : Hid (∃ Q, TakW (((((((w2.setCell ⟨w.heap.size, m * 7, none⟩ (.int .i64 x.kind)).setCell ⟨w.heap.size, m * 7 + 1, none⟩ (.string x.name)).setCell ⟨w.heap.size, m * 7 + 2, none⟩ (.slice (some ⟨g1, 0, none⟩) nn nn)).setCell ⟨w.heap.size, m * 7 + 3, none⟩ (.slice (some ⟨g2, 0, none⟩) sn sn)).setCell ⟨w.heap.size, m * 7 + 4, none⟩ (.bool x.down)).setCell ⟨w.heap.size, m * 7 + 5, none⟩ (.int .i64 x.count)).setCell ⟨w.heap.size, m * 7 + 6, none⟩ (.int .i64 x.skip)) w.heap.size T Q (m + 1) ∧ ∀ i, i < m + 1 → (Q i).sa ≠ none) := ⟨_, hTT, fun i hi => by
        by_cases e : i = m
        · subst e
          rw [setV_at]
          simp
        · rw [setV_old _ _ e]
          exact HSQ.out i (by omega)⟩
      have hlq := hlt'.out
      obtain ⟨u0, y0⟩ := T2.there (m * 7) (by omega)
      have f0 := T2.free (m * 7)
      obtain ⟨u1, y1⟩ := T2.there (m * 7 + 1) (by omega)
      have f1 := T2.free (m * 7 + 1)
      obtain ⟨u2, y2⟩ := T2.there (m * 7 + 2) (by omega)
      have f2 := T2.free (m * 7 + 2)
      obtain ⟨u3, y3⟩ := T2.there (m * 7 + 3) (by omega)
      have f3 := T2.free (m * 7 + 3)
      obtain ⟨u4, y4⟩ := T2.there (m * 7 + 4) (by omega)
      have f4 := T2.free (m * 7 + 4)
      obtain ⟨u5, y5⟩ := T2.there (m * 7 + 5) (by omega)
      have f5 := T2.free (m * 7 + 5)
      obtain ⟨u6, y6⟩ := T2.there (m * 7 + 6) (by omega)
      have f6 := T2.free (m * 7 + 6)
      clear hTT T2 hb2 hnew hlq hT2 HM HT HXE HNC HNR
      go_wp2
      go_roundw
      case rel => exact ⟨m + 1, by omega, by go_num, HTT, (((((((hx2.setCell (Nat.le_refl _) _).setCell (Nat.le_refl _) _).setCell (Nat.le_refl _) _).setCell (Nat.le_refl _) _).setCell (Nat.le_refl _) _).setCell (Nat.le_refl _) _).setCell (Nat.le_refl _) _)⟩
      case measure => simp [intOf]; omega
    · have hkl : m = n := by omega
      subst hkl
      go_wp2
      go_ret
      exact ⟨_, Q, rfl, by have := hT2.out.out; rw [← hN.out] at this; exact this, HSQ.out, hb⟩
end Go.Proofs.YtadbbkpillfjaaaGreatDoor
