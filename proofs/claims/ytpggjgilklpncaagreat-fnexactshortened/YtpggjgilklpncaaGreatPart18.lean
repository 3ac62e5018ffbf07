/-
  A part of the proof: ShI5, ShOps, Draw1, Draw2, Draw3, Draw4, Draw5, RowDraw, RowDraw2, RowsDraw, TabDraw1, TabInI, ShortMath.
-/
import Derived.Test.YtpggjgilklpncaaGreatPart14
import Derived.Test.YtpggjgilklpncaaGreatPart15
import Derived.Test.YtpggjgilklpncaaGreatPart17
import Derived.Test.YtpggjgilklpncaaGreatPart1
import Derived.Test.YtpggjgilklpncaaGreatPart2
import Derived.Deep.RegionHeld3
import Derived.Test.YtpggjgilklpncaaGreatPart11
import Derived.Test.YtpggjgilklpncaaGreatPart16

/-
  The contracts of the program's shelf: asked for a name, and told as a list of tables in memory of its own.
-/
namespace Go.Proofs.YtpggjgilklpncaaGreat
open Go.ChangeShapes Go.WideShapes Go.ChangeAt Go.RowKit Go.Maps
attribute [local go_sem ↓] Go.wp_at_zero Go.wp_at_succ
attribute [local simp] World.cell?_alloc_past World.cell?_alloc_at World.frozen?_alloc_at cell_far cell_off cell_here World.frozen?_alloc_past

/-- Tables that can be copied. -/
def Small (t : TB) : Prop := t.2.1.length ≤ 1048576 ∧ t.2.2.length ≤ 1048576 ∧ ∀ i (h : i < t.2.2.length), t.2.2[i].length ≤ 1048576
theorem has_impl (w0 : World) (B n : Nat) (U : List TB) (w : World) (h : ShelfT w0 w B n U) (s : ByteArray) (hs : s.size ≤ maxLen) (b : Bool) (hb : decide (s ∈ namesT U) = b) :
    Calls Tryz.prog 31 #[.map (some B), .string s] w fun e w' => e = .returned (.bool b) ∧ Below w.heap.size w w' := by
  obtain ⟨_, f, hS, hH⟩ := h
  refine has_at B n (namesT U) f w hS (fun x hx => ?_) s hs b hb
  obtain ⟨t, ht, e⟩ := List.mem_map.1 hx
  obtain ⟨ca, cc, ra, cr, ef, _⟩ := hH t ht
  exact ⟨ca, _, cc, ra, _, cr, by rw [← e]; exact ef⟩

theorem infoTI : (Tryz.prog.info? 40).map (fun i => (i.zero, i.size, i.bytes)) = some (some (.agg #[.string ⟨#[]⟩, .slice none 0 0, .slice none 0 0]), 3, 64) := by kernel_rfl


/-- What is told: a list of tables in memory of its own. -/
def ListOut (w : World) (n : Nat) (V : List TB) (e : Ending) (w' : World) : Prop := ∃ a cap Q, e = .returned (.slice a n cap) ∧ OutTs w' w.heap.size a V Q ∧ Below w.heap.size w w' ∧ n ≤ cap
set_option maxRecDepth 100000 in
set_option maxHeartbeats 4000000 in
theorem listed_impl (w0 : World) (B m : Nat) (U V : List TB) (hp : V.Perm U) (hr : risesN (namesT V) = true) (n : Nat) (hn : V.length = n) (hn6 : n ≤ 1048576) (hsm : ∀ t, t ∈ V → Small t) (w : World) (hS : ShelfT w0 w B m U) (h0 : Below w0.heap.size w0 w) :
    Calls Tryz.prog 35 #[.map (some B)] w (ListOut w n V) := by
  obtain ⟨i0, hti, hz0, hz1, hz2⟩ := info_parts infoTI
  obtain ⟨hnd, f, hSh, hH⟩ := hS
  have hlU : (namesT U).length = n := by rw [namesT_length, ← hp.length_eq]; exact hn
  have hsrt : srt (namesT U) = namesT V := srt_is hr (hp.map _)
  have HSh : Hid (ShelfAt w B m (namesT U) f) := hSh
  have hH2 : ∀ t, t ∈ V → t.1 ∈ namesT U ∧ HoldsT w0 f t := fun t ht => ⟨List.mem_map_of_mem (hp.mem_iff.1 ht), hH t (hp.mem_iff.1 ht)⟩
  have HH : Hid (∀ t, t ∈ V → t.1 ∈ namesT U ∧ HoldsT w0 f t) := hH2
  have HSM : Hid (∀ t, t ∈ V → Small t) := hsm
  have HN : Hid (V.length = n) := hn
  have HLU : Hid ((namesT U).length = n) := hlU
  have HSRT : Hid (srt (namesT U) = namesT V) := hsrt
  have hlen := fun ty => hSh.len ty
  have HSh0 : Hid (B < w.heap.size) := hSh.lt
  rw [hlU] at hlen
  clear hnd hH hp hr hn hsm hH2 hlU hsrt hSh
  go_enter Tryz.func35, Tryz.ntmps35
  go_wp2_with (at_make; refine wpList_make_own _ rfl _ _ 24 rfl w.heap.size 40 i0 (.agg #[.string ⟨#[]⟩, .slice none 0 0, .slice none 0 0]) 3 Tryz.underlying24 hti hz0 hz1 .i64 .i64 _ n rfl rfl rfl (by rw [hz2]; omega) (by unfold maxLen; omega) (by simp) ?_)
  intro w1 hown1 hgrow1
  have hb1 : Below w.heap.size w w1 := (Below.refl _ _).grown hgrow1 (Nat.le_refl _) (by intro k h; cases h)
  have own1 : Hid (OwnTs w1 w.heap.size (.slice (some ⟨w.heap.size, 0, none⟩) 0 n) V (fun _ => ⟨none, 0, none, 0, fun _ => none, fun _ => 0⟩) 0) := OwnTs.start _ hown1
  have HSh1 : Hid (ShelfAt w1 B m (namesT U) f) := HSh.out.below hb1
  have hs1 : w.heap.size ≤ w1.heap.size := hb1.size
  clear hown1 hgrow1 hlen HSh
  go_wp2_with fail
  refine (names_impl B m (namesT U) f _ HSh1.out (by rw [HLU.out]; omega)).mono ?_
  rintro e w2 ⟨v2, rfl, own2, _, hb2⟩
  rw [HSRT.out, HLU.out] at own2
  obtain ⟨ga, gc, hv2, hst, _, _⟩ := own_strsF own2 (by rw [namesT_length]; exact HN.out)
  subst hv2
  have hGN : ∀ b, inBlk ga (namesT V).length b → w1.heap.size ≤ b ∧ b < w2.heap.size := by
    rintro b ⟨_, o, rfl⟩
    exact own2.lt b rfl
  have HGN : Hid (∀ b, inBlk ga (namesT V).length b → w1.heap.size ≤ b ∧ b < w2.heap.size) := hGN
  have HST : Hid (StrsAt w2 ga (namesT V)) := hst
  have HSh2 : Hid (ShelfAt w2 B m (namesT U) f) := HSh1.out.below hb2
  have hBw : B < w.heap.size := HSh0.out
  have hx2 := chain hb1 hb2
  have hs12 : w1.heap.size ≤ w2.heap.size := hb2.size
  have hw1 : w.heap.size < w1.heap.size := (own1.out.own.lt _ rfl).2
  have own2' : Hid (∃ Q, OwnTs w2 w.heap.size (.slice (some ⟨w.heap.size, 0, none⟩) 0 n) V Q 0) := ⟨_, own1.out.below hb2⟩
  clear own2 own1 HSh1 hst hb1 hb2 hs1 hGN
  go_wp2
  go_loopw [3, 12] (fun v kk wr => ∃ k : Nat, k ≤ n ∧ kk = .int .i64 k ∧ Hid (∃ Q, OwnTs wr w.heap.size v V Q k) ∧ Hid (StrsAt wr ga (namesT V)) ∧ Hid (ShelfAt wr B m (namesT U) f) ∧ Hid (∀ g, v.ownBlock = some g → g < w1.heap.size ∨ w2.heap.size ≤ g) ∧ Below w.heap.size w wr ∧ w2.heap.size ≤ wr.heap.size) (fun _ kk _ => n - (intOf kk).toNat)
  case atStart =>
    have hg : ∀ g, (Value.slice (some ⟨w.heap.size, 0, none⟩) 0 n).ownBlock = some g → g < w1.heap.size ∨ w2.heap.size ≤ g := by
      intro g hg
      simp [Value.ownBlock] at hg
      omega
    exact ⟨0, Nat.zero_le _, rfl, own2', HST, HSh2, hg, hx2, Nat.le_refl _⟩
  case round =>
    obtain ⟨k, hk, rfl, hOw, hSt, hShr, hGv, hbw, hszr⟩ := hrel
    by_cases hlt : k < n
    · have hlt' : Hid (k < V.length) := by have := HN.out; exact show k < V.length by omega
      obtain ⟨gn, on, rfl, hgw, c0⟩ := hSt.out k (by rw [namesT_length]; exact hlt'.out)
      rw [namesT_at V k hlt'.out] at c0
      have hi0 : (0 : Int) ≤ (k : Int) := by omega
      have hi1 : (k : Int) < (n : Int) := by omega
      obtain ⟨Q, hO⟩ := hOw.out
      have HO : Hid (OwnTs wr w.heap.size _ V Q k) := hO
      have hmem : (V[k]'hlt'.out) ∈ V := List.getElem_mem hlt'.out
      obtain ⟨hin, ca, cc, ra, cr, hf, hta⟩ := HH.out _ hmem
      have hsml := HSM.out _ hmem
      have hnmL := hta.name
      have hrun := (hShr.out.found _ hnmL hin).1
      rw [hf] at hrun
      have HTA : Hid (TabAt wr ca cc ra (V[k]'hlt'.out)) := hta.below (h0.trans (hbw.mono h0.size))
      have HSS : Hid (Small (V[k]'hlt'.out)) := hsml
      obtain ⟨t, ht⟩ : ∃ t, (V[k]'hlt'.out) = t := ⟨_, rfl⟩
      rw [ht] at c0 hrun HTA HSS
      have HVK : Hid ((V[k]'hlt'.out) = t) := ht
      clear hO hOw hin hf hta hsml hnmL hmem ht
      obtain ⟨nc, hnc⟩ : ∃ z, t.2.1.length = z := ⟨_, rfl⟩
      obtain ⟨nr, hnr⟩ : ∃ z, t.2.2.length = z := ⟨_, rfl⟩
      obtain ⟨nm, hnm⟩ : ∃ z, t.1 = z := ⟨_, rfl⟩
      rw [hnc, hnr, hnm] at hrun
      rw [hnm] at c0
      have HNC : Hid (t.2.1.length = nc) := hnc
      have HNR : Hid (t.2.2.length = nr) := hnr
      have HNM : Hid (t.1 = nm) := hnm
      clear hnc hnr hnm
      have hncS : nc ≤ 1048576 := by rw [← HNC.out]; exact HSS.out.1
      have hnrS : nr ≤ 1048576 := by rw [← HNR.out]; exact HSS.out.2.1
      go_wp2_with fail
      rw [← HNM.out]
      refine (copied_table ca cc ra cr t nc nr HNC.out HNR.out _ HTA.out hncS hnrS HSS.out.2.2).mono ?_
      rintro e w3 ⟨g1, c1, g2, c2, A, D, rfl, hOT, hb3, _⟩
      rw [HNM.out]
      have hq : Hid (OutT w3 wr.heap.size ⟨some ⟨g1, 0, none⟩, c1, some ⟨g2, 0, none⟩, c2, A, D⟩ (V[k]'hlt'.out)) := by
        have : OutT w3 wr.heap.size ⟨some ⟨g1, 0, none⟩, c1, some ⟨g2, 0, none⟩, c2, A, D⟩ (V[k]'hlt'.out) := by rw [HVK.out]; exact hOT
        exact this
      have O3 := own_below HO.out.own hb3
      have HB3 : Hid (Below wr.heap.size wr w3) := hb3
      have hs3 : wr.heap.size ≤ w3.heap.size := hb3.size
      have hs3w : w.heap.size ≤ w3.heap.size := by have := hbw.size; omega
      clear hOT hb3 hrun c0 HTA
      go_wp2_with (at_builtin; refine wpList_append_own_at _ rfl _ _ 24 rfl w.heap.size 40 i0 (.agg #[.string ⟨#[]⟩, .slice none 0 0, .slice none 0 0]) 3 64 Tryz.underlying24 hti hz0 hz1 hz2 rfl (by decide) _ _ _ rfl (O3.alloc _) ⟨w3.heap.size, 0, none⟩ 1 1 [.string nm, .slice (some ⟨g1, 0, none⟩) nc c1, .slice (some ⟨g2, 0, none⟩) nr c2] rfl rfl ?c1 ?c2 ?c3 ?c4 ?c5 ?_)
      case c1 =>
        intro j u hj
        match j, hj with
        | 0, hj => simp at hj; subst hj; simp [Addr.add]
        | 1, hj => simp at hj; subst hj; simp [Addr.add]
        | 2, hj => simp at hj; subst hj; simp [Addr.add]
      case c2 => intro u hu; simp at hu; rcases hu with rfl | rfl | rfl <;> rfl
      case c3 => unfold maxLen; omega
      case c4 => omega
      case c5 => simp; omega
      intro v' w4 own4 hgrow hnn hloc
      have hx4 : Below w.heap.size w w4 := by
        refine ((hbw.trans (HB3.out.mono hbw.size)).alloc hs3w _).grown hgrow (by simp; omega) ?_
        intro j hj
        exact (O3.lt j hj).1
      have hsa : (w3.alloc (.cells #[.string nm, .slice (some ⟨g1, 0, none⟩) nc c1, .slice (some ⟨g2, 0, none⟩) nr c2] 40)).heap.size = w3.heap.size + 1 := by simp
      have hs4 : w2.heap.size ≤ w4.heap.size := by have := hgrow.size; omega
      have ST4 : Hid (StrsAt w4 (some ⟨gn, on, none⟩) (namesT V)) := by
        have h1 := (hSt.out.below HB3.out).below ((Below.refl _ _).alloc (Nat.le_refl _) (.cells #[.string nm, .slice (some ⟨g1, 0, none⟩) nc c1, .slice (some ⟨g2, 0, none⟩) nr c2] 40))
        have : StrsAt w4 (some ⟨gn, on, none⟩) (namesT V) := h1.keepS (KeepS.grown hgrow) (fun b hb e => by
          have h2 := HGN.out b hb
          have h3 := hGv.out b e.symm
          omega)
        exact this
      have SH4 : Hid (ShelfAt w4 B m (namesT U) f) := by
        have : ShelfAt w4 B m (namesT U) f := hShr.out.block ((hx4.block B hBw).trans (hbw.block B hBw).symm)
        exact this
      have GV4 : Hid (∀ g, v'.ownBlock = some g → g < w1.heap.size ∨ w2.heap.size ≤ g) := by
        have : ∀ g, v'.ownBlock = some g → g < w1.heap.size ∨ w2.heap.size ≤ g := by
          intro g hg
          rcases hloc with e | e
          · rw [e] at hg; exact hGv.out g hg
          · rw [hg] at e
            injection e with e
            omega
        exact this
      have OW4 : Hid (∃ Q, OwnTs w4 w.heap.size v' V Q (k + 1)) := by
        refine ⟨_, OwnTs.snoc HO.out hlt'.out hbw.size HB3.out hq.out ?_ hgrow (by first | exact hloc | (rw [hsa]; exact hloc))⟩
        unfold headV
        rw [HVK.out, HNM.out, HNC.out, HNR.out]
        exact own4
      clear own4 hgrow hnn hloc O3 HO hq HB3 hSt hShr hGv hsa
      go_wp2
      go_roundw
      case rel => exact ⟨k + 1, by omega, by go_num, OW4, ST4, SH4, GV4, hx4, hs4⟩
      case measure => simp [intOf]; omega
    · have hkl : k = n := by omega
      subst hkl
      have hnn : ¬ (k : Int) < (k : Int) := by omega
      obtain ⟨Q, hO⟩ := hOw.out
      obtain ⟨a, cap, hv, hout, hcap⟩ := hO.out HN.out
      subst hv
      have FIN : Hid (ListOut w k V (.returned (.slice a k cap)) wr) := ⟨a, cap, Q, rfl, hout, hbw, hcap⟩
      clear hO hout hOw
      go_wp2
      go_ret
      exact FIN.out
end Go.Proofs.YtpggjgilklpncaaGreat

/-
  What becomes of a base, without any program: with a table more, without one, with another one in its place.
-/
namespace Go.Proofs.YtpggjgilklpncaaGreat
open Go.ChangeShapes Go.WideShapes Go.ChangeAt Go.RowKit Go.Maps

theorem baseB_parts {T : List TB} (h : baseB T = true) : (∀ t, t ∈ T → tableB t = true) ∧ risesN (namesT T) = true ∧ T.length ≤ 5 := by
  unfold baseB at h
  simp only [Bool.and_eq_true, decide_eq_true_eq] at h
  exact ⟨fun t ht => List.all_eq_true.1 h.1.1 t ht, h.1.2, h.2⟩
theorem tableB_small {t : TB} (h : tableB t = true) : Small t := by
  unfold tableB namesB at h
  simp only [Bool.and_eq_true, decide_eq_true_eq] at h
  obtain ⟨⟨_, ⟨_, h2⟩, h3⟩, h4⟩ := h
  have hc : t.2.1.length ≤ 6 := by
    have := h2
    omega
  refine ⟨by omega, by omega, fun i hi => ?_⟩
  have := List.all_eq_true.1 h4 _ (List.getElem_mem hi)
  unfold rowOk at this
  simp only [Bool.and_eq_true, decide_eq_true_eq] at this
  omega
theorem rises_pair (T : List TB) : risesN (namesT T) = true ↔ T.Pairwise (fun u v => ltN u.1 v.1) := by
  rw [risesN_iff]; exact List.pairwise_map
/-- Without the table of that name. -/
def dropT (T : List TB) (s : ByteArray) : List TB := T.filter (fun u => decide (u.1 ≠ s))
theorem dropT_names (T : List TB) (s : ByteArray) : namesT (dropT T s) = cutK (namesT T) s := by
  unfold dropT namesT cutK
  rw [List.filter_map]; rfl
/-- With t in the place of the one of its name. -/
def replT (T : List TB) (t : TB) : List TB := T.map (fun u => if u.1 = t.1 then t else u)
theorem replT_names (T : List TB) (t : TB) : namesT (replT T t) = namesT T := by
  unfold replT namesT
  rw [List.map_map]
  refine List.map_congr_left fun u _ => ?_
  show (if u.1 = t.1 then t else u).1 = u.1
  split
  · rename_i e; exact e.symm
  · rfl
theorem replT_length (T : List TB) (t : TB) : (replT T t).length = T.length := List.length_map _

def replacedR (T : List TB) (t : TB) : List TB × Bool := if baseB T = true then (if t.1 ∈ namesT T ∧ tableB t = true then (replT T t, true) else (T, false)) else ([], false)
theorem ShelfT.swapped {w0 w w' : World} {B n : Nat} {U : List TB} {t : TB} {ca : Option Addr} {cc : Nat} {ra : Option Addr} {cr : Nat} {f : ByteArray → Value} {D : DataW Value} (hown : w.ownsMap Tryz.prog 9 tokR B n D) (hS : Says D (namesT U) f) (hH : ∀ u, u ∈ U → HoldsT w0 f u) (hn : t.1 ∈ namesT U) (ht : TabAt w0 ca cc ra t)
    (hown' : w'.ownsMap Tryz.prog 9 tokR B (n + 1) (D.put (keyL t.1) (.held (.agg #[.string t.1, .slice ca t.2.1.length cc, .slice ra t.2.2.length cr])))) : ShelfT w0 w' B (n + 1) (replT U t) := by
  have hS' := hS.put hown.isMap t.1 (.agg #[.string t.1, .slice ca t.2.1.length cc, .slice ra t.2.2.length cr])
  rw [show putK (namesT U) t.1 = namesT (replT U t) by rw [replT_names]; exact if_pos hn] at hS'
  refine ⟨hS'.nodup, _, ⟨_, hown', hS'⟩, fun u hu => ?_⟩
  unfold replT at hu
  obtain ⟨x, hx, e⟩ := List.mem_map.1 hu
  split at e
  · subst e
    exact ⟨ca, cc, ra, cr, by unfold putF; rw [if_pos rfl], ht⟩
  · rename_i hne
    subst e
    obtain ⟨a1, a2, a3, a4, e, h⟩ := hH x hx
    exact ⟨a1, a2, a3, a4, by unfold putF; rw [if_neg hne]; exact e, h⟩
theorem ShelfT.cut {w0 w' : World} {B n : Nat} {U : List TB} {s : ByteArray} {f : ByteArray → Value} {D : DataW Value} (hS : Says D (namesT U) f) (hH : ∀ u, u ∈ U → HoldsT w0 f u)
    (hown' : w'.ownsMap Tryz.prog 9 tokR B n (D.del (keyL s))) : ShelfT w0 w' B n (dropT U s) := by
  have hS' := hS.del s
  rw [← dropT_names] at hS'
  exact ⟨hS'.nodup, f, ⟨_, hown', hS'⟩, fun u hu => hH u (List.mem_filter.1 hu).1⟩
end Go.Proofs.YtpggjgilklpncaaGreat

/-
  The contracts of the drawing cursor: where it lies in memory, and that a byte drawn is from 0 to 255.
-/
namespace Go.Proofs.YtpggjgilklpncaaGreat
open Go.ChangeShapes Go.WideShapes Go.ChangeAt Go.RowKit

/-- A cursor lies at block c: its bytes, how far it has come, its number. -/
structure Cur (w : World) (c : Nat) (a : Option Addr) (len cap : Nat) : Prop where
  c0 : w.cell? ⟨c, 0, none⟩ = some (.slice a len cap)
  c1 : ∃ i : Nat, w.cell? ⟨c, 1, none⟩ = some (.int .i64 (i : Int)) ∧ i ≤ len
  c2 : ∃ h : Int, w.cell? ⟨c, 2, none⟩ = some (.int .i64 h)
  f0 : w.frozen? ⟨c, 0, none⟩ = false
  f1 : w.frozen? ⟨c, 1, none⟩ = false
  f2 : w.frozen? ⟨c, 2, none⟩ = false
  lt : c < w.heap.size
  hlen : len ≤ maxLen
  row : ∀ j, j < len → ∃ (rb ro : Nat) (v : Int), a = some ⟨rb, ro, none⟩ ∧ rb < c ∧ w.cell? ⟨rb, ro + j, none⟩ = some (.int .u8 v) ∧ 0 ≤ v ∧ v ≤ 255

theorem Cur.below {w w' : World} {c : Nat} {a : Option Addr} {len cap : Nat} (h : Cur w c a len cap) (hb : Below w.heap.size w w') : Cur w' c a len cap := by
  have hc : ∀ o, w'.cell? ⟨c, o, none⟩ = w.cell? ⟨c, o, none⟩ := fun o => hb.cell (p := ⟨c, o, none⟩) h.lt
  have hf : ∀ o, w'.frozen? ⟨c, o, none⟩ = w.frozen? ⟨c, o, none⟩ := fun o => hb.frozen (p := ⟨c, o, none⟩) h.lt
  refine ⟨by rw [hc]; exact h.c0, by rw [hc]; exact h.c1, by rw [hc]; exact h.c2, by rw [hf]; exact h.f0, by rw [hf]; exact h.f1, by rw [hf]; exact h.f2, Nat.lt_of_lt_of_le h.lt hb.size, h.hlen, ?_⟩
  intro j hj
  obtain ⟨rb, ro, v, ha, hlt, hcell, hv⟩ := h.row j hj
  exact ⟨rb, ro, v, ha, hlt, by rw [hb.cell (p := ⟨rb, ro + j, none⟩) (Nat.lt_trans hlt h.lt)]; exact hcell, hv⟩

theorem Cur.drewN {w : World} {c : Nat} {a : Option Addr} {len cap : Nat} (h : Cur w c a len cap) (n : Nat) : Cur (w.drewN n) c a len cap :=
  ⟨h.c0, h.c1, h.c2, h.f0, h.f1, h.f2, h.lt, h.hlen, h.row⟩
theorem Cur.drew {w : World} {c : Nat} {a : Option Addr} {len cap : Nat} (h : Cur w c a len cap) : Cur w.drew c a len cap :=
  ⟨h.c0, h.c1, h.c2, h.f0, h.f1, h.f2, h.lt, h.hlen, h.row⟩

theorem Cur.alloc {w : World} {c : Nat} {a : Option Addr} {len cap : Nat} (h : Cur w c a len cap) (o : Obj) : Cur (w.alloc o) c a len cap :=
  h.below ((Below.refl _ _).alloc (Nat.le_refl _) o)

end Go.Proofs.YtpggjgilklpncaaGreat

/-
  The contracts of the cursor's making and of a drawn cell: whatever is drawn, it is a cell whose text is no longer than a text may be.
-/
namespace Go.Proofs.YtpggjgilklpncaaGreat
open Go.ChangeShapes Go.WideShapes Go.ChangeAt Go.RowKit

end Go.Proofs.YtpggjgilklpncaaGreat

/-
  The contract of a drawn cell.
-/
namespace Go.Proofs.YtpggjgilklpncaaGreat
open Go.ChangeShapes Go.WideShapes Go.ChangeAt Go.RowKit

theorem old3 {w : World} {B : Nat} {x y z : Value} (o : Obj) (h : w.cell? ⟨B, 0, none⟩ = some x ∧ w.cell? ⟨B, 1, none⟩ = some y ∧ w.cell? ⟨B, 2, none⟩ = some z ∧ B < w.heap.size) :
    (w.alloc o).cell? ⟨B, 0, none⟩ = some x ∧ (w.alloc o).cell? ⟨B, 1, none⟩ = some y ∧ (w.alloc o).cell? ⟨B, 2, none⟩ = some z ∧ B < (w.alloc o).heap.size :=
  later3 ((Below.refl _ _).alloc (Nat.le_refl _) o) h
theorem oldF {w : World} {B : Nat} (o : Obj) (hB : B < w.heap.size) (h : w.frozen? ⟨B, 0, none⟩ = false ∧ w.frozen? ⟨B, 1, none⟩ = false ∧ w.frozen? ⟨B, 2, none⟩ = false) :
    (w.alloc o).frozen? ⟨B, 0, none⟩ = false ∧ (w.alloc o).frozen? ⟨B, 1, none⟩ = false ∧ (w.alloc o).frozen? ⟨B, 2, none⟩ = false :=
  frozen3 ((Below.refl _ _).alloc (Nat.le_refl _) o) hB h

end Go.Proofs.YtpggjgilklpncaaGreat

/-
  The contract of a drawn cell that may be wrong.
-/
namespace Go.Proofs.YtpggjgilklpncaaGreat
open Go.ChangeShapes Go.WideShapes Go.ChangeAt Go.RowKit

theorem keepN {c : Nat} {w1 w2 : World} {v0 v1 v2 : Value} {T : TypeId} (hk : Keep c (w1.alloc (.cells #[v0, v1, v2] T)) w2) (hne : w1.heap.size ≠ c) :
    w2.cell? ⟨w1.heap.size, 0, none⟩ = some v0 ∧ w2.cell? ⟨w1.heap.size, 1, none⟩ = some v1 ∧ w2.cell? ⟨w1.heap.size, 2, none⟩ = some v2 := by
  refine ⟨?_, ?_, ?_⟩
  · rw [hk.cell (by simp) hne]; simp [go_sem]
  · rw [hk.cell (by simp) hne]; simp [go_sem]
  · rw [hk.cell (by simp) hne]; simp [go_sem]

end Go.Proofs.YtpggjgilklpncaaGreat

/-
  The contract of two drawn cells.
-/
namespace Go.Proofs.YtpggjgilklpncaaGreat
open Go.ChangeShapes Go.WideShapes Go.ChangeAt Go.RowKit

/-- Three cells of a block, and that they may be written. -/
def Has3 (w : World) (B : Nat) (x y z : Value) : Prop :=
  (w.cell? ⟨B, 0, none⟩ = some x ∧ w.cell? ⟨B, 1, none⟩ = some y ∧ w.cell? ⟨B, 2, none⟩ = some z ∧ B < w.heap.size) ∧
  (w.frozen? ⟨B, 0, none⟩ = false ∧ w.frozen? ⟨B, 1, none⟩ = false ∧ w.frozen? ⟨B, 2, none⟩ = false)

theorem Has3.alloc {B : Nat} {w : World} {x y z : Value} (h : Has3 w B x y z) (o : Obj) : Has3 (w.alloc o) B x y z := ⟨old3 o h.1, oldF o h.1.2.2.2 h.2⟩
theorem Has3.new (w : World) (x y z : Value) (T : TypeId) : Has3 (w.alloc (.cells #[x, y, z] T)) w.heap.size x y z :=
  ⟨⟨by simp [go_sem], by simp [go_sem], by simp [go_sem], by simp⟩, by simp [go_sem], by simp [go_sem], by simp [go_sem]⟩
theorem Has3.drew {B : Nat} {w : World} {x y z : Value} (h : Has3 w B x y z) : Has3 w.drew B x y z := h
end Go.Proofs.YtpggjgilklpncaaGreat

/-
  Rows that are drawn: the contracts of the model's draws of a row, and of two rows that are held against each other.
-/
namespace Go.Proofs.YtpggjgilklpncaaGreat
open Go.ChangeShapes Go.WideShapes Go.ChangeAt Go.RowKit
attribute [local go_sem ↓] Go.wp_at_zero Go.wp_at_succ
attribute [local simp] World.cell?_alloc_past World.cell?_alloc_at World.frozen?_alloc_at cell_far cell_off cell_here World.frozen?_alloc_past

theorem Cur.far {w w' : World} {c B : Nat} {a : Option Addr} {len cap : Nat} (h : Cur w c a len cap) (hb : Below B w w') (hB : c < B) : Cur w' c a len cap := by
  refine ⟨?_, ?_, ?_, ?_, ?_, ?_, Nat.lt_of_lt_of_le h.lt hb.size, h.hlen, ?_⟩
  · rw [hb.cell (p := ⟨c, 0, none⟩) hB]; exact h.c0
  · rw [hb.cell (p := ⟨c, 1, none⟩) hB]; exact h.c1
  · rw [hb.cell (p := ⟨c, 2, none⟩) hB]; exact h.c2
  · rw [hb.frozen (p := ⟨c, 0, none⟩) hB]; exact h.f0
  · rw [hb.frozen (p := ⟨c, 1, none⟩) hB]; exact h.f1
  · rw [hb.frozen (p := ⟨c, 2, none⟩) hB]; exact h.f2
  · intro j hj
    obtain ⟨rb, ro, v, ha, hrb, hc, hv⟩ := h.row j hj
    exact ⟨rb, ro, v, ha, hrb, by rw [hb.cell (p := ⟨rb, _, none⟩) (by show rb < B; omega)]; exact hc, hv⟩
theorem Keep.far {c B : Nat} {w w1 w2 : World} (h : Keep c w w1) (hb : Below B w1 w2) (hB : w.heap.size ≤ B) : Keep c w w2 :=
  ⟨hb.os.trans h.os, hb.tape.trans h.tape, hb.output.trans h.output, Nat.le_trans h.size hb.size, fun k hk hc => (hb.block k (by omega)).trans (h.block k hk hc)⟩
theorem Fit.append {l : List CT} {x : CT} (h : Fit l) (hx : x.2.2.size ≤ maxLen) : Fit (l ++ [x]) := by
  intro j hj
  by_cases e : j < l.length
  · rw [List.getElem_append_left e]; exact h j e
  · rw [List.getElem_append_right (by omega)]; simpa using hx

end Go.Proofs.YtpggjgilklpncaaGreat

/-
  The contract of the draw of two rows.
-/
namespace Go.Proofs.YtpggjgilklpncaaGreat
open Go.ChangeShapes Go.WideShapes Go.ChangeAt Go.RowKit
attribute [local go_sem ↓] Go.wp_at_zero Go.wp_at_succ
attribute [local simp] World.cell?_alloc_past World.cell?_alloc_at World.frozen?_alloc_at cell_far cell_off cell_here World.frozen?_alloc_past

end Go.Proofs.YtpggjgilklpncaaGreat

/-
  The contract of the model's draw of several rows.
-/
namespace Go.Proofs.YtpggjgilklpncaaGreat
open Go.ChangeShapes Go.WideShapes Go.ChangeAt Go.RowKit
attribute [local go_sem ↓] Go.wp_at_zero Go.wp_at_succ
attribute [local simp] World.cell?_alloc_past World.cell?_alloc_at World.frozen?_alloc_at cell_far cell_off cell_here World.frozen?_alloc_past

theorem OwnRows.lt {w : World} {base : Nat} {v : Value} {L : List (List CT)} {G C : Nat → Nat} (h : OwnRows w base v L G C) (i : Nat) (hi : i < L.length) : G i < w.heap.size := by
  rcases (h.inner i hi).2 with ⟨h', _⟩ | ⟨g2, c2, cur2, h', _, hg2, _⟩
  · simp [headOf] at h'
  · simp only [headOf, Value.slice.injEq, Option.some.injEq, Addr.mk.injEq, and_true, true_and] at h'
    obtain ⟨rfl, rfl⟩ := h'
    by_cases hl : G i < w.heap.size
    · exact hl
    · rw [Array.getElem?_eq_none (by omega)] at hg2; cases hg2

/-- Rows that were drawn: few, short, and their texts fit. -/
def Drawn (L : List (List CT)) (n : Nat) : Prop := L.length ≤ n ∧ ∀ i (h : i < L.length), Fit L[i] ∧ L[i].length ≤ 1000
theorem Drawn.append {L : List (List CT)} {n : Nat} {x : List CT} (h : Drawn L n) (hf : Fit x) (hx : x.length ≤ 1000) : Drawn (L ++ [x]) (n + 1) := by
  refine ⟨by have := h.1; simp; omega, fun i hi => ?_⟩
  by_cases e : i < L.length
  · rw [List.getElem_append_left e]; exact h.2 i e
  · rw [List.getElem_append_right (by omega)]; simpa using ⟨hf, hx⟩
end Go.Proofs.YtpggjgilklpncaaGreat

/-
  A table that is being drawn: the block of its three fields, its columns and rows in memory of the call's own; the small draws of stage 5.
-/
namespace Go.Proofs.YtpggjgilklpncaaGreat
open Go.ChangeShapes Go.WideShapes Go.ChangeAt Go.RowKit
attribute [local go_sem ↓] Go.wp_at_zero Go.wp_at_succ
attribute [local simp] World.cell?_alloc_past World.cell?_alloc_at World.frozen?_alloc_at cell_far cell_off cell_here World.frozen?_alloc_past

/-- The three fields of a table in block B. -/
def TBox (w : World) (B : Nat) (x y z : Value) : Prop := w.heap[B]? = some (.cells #[x, y, z] 40 (0, 0))
theorem TBox.lt {w : World} {B : Nat} {x y z : Value} (h : TBox w B x y z) : B < w.heap.size := by
  by_cases hl : B < w.heap.size
  · exact hl
  · unfold TBox at h; rw [Array.getElem?_eq_none (by omega)] at h; cases h
theorem TBox.cells {w : World} {B : Nat} {x y z : Value} (h : TBox w B x y z) : w.cell? ⟨B, 0, none⟩ = some x ∧ w.cell? ⟨B, 1, none⟩ = some y ∧ w.cell? ⟨B, 2, none⟩ = some z := by
  unfold TBox at h
  refine ⟨?_, ?_, ?_⟩ <;> simp [World.cell?, h]
theorem TBox.free {w : World} {B : Nat} {x y z : Value} (h : TBox w B x y z) : w.frozen? ⟨B, 0, none⟩ = false ∧ w.frozen? ⟨B, 1, none⟩ = false ∧ w.frozen? ⟨B, 2, none⟩ = false := by
  unfold TBox at h
  refine ⟨?_, ?_, ?_⟩ <;> simp [World.frozen?, h]
theorem TBox.of {w w' : World} {B : Nat} {x y z : Value} (h : TBox w B x y z) (e : w'.heap[B]? = w.heap[B]?) : TBox w' B x y z := by unfold TBox at h ⊢; rw [e]; exact h
theorem TBox.below {w w' : World} {B : Nat} {x y z : Value} (h : TBox w B x y z) (hb : Below w.heap.size w w') : TBox w' B x y z := h.of (hb.block B h.lt)
theorem TBox.alloc {w : World} {B : Nat} {x y z : Value} (h : TBox w B x y z) (o : Obj) : TBox (w.alloc o) B x y z := by
  refine h.of ?_
  show (w.heap.push o)[B]? = _
  rw [Array.getElem?_push_lt h.lt, ← Array.getElem?_eq_getElem h.lt]
theorem TBox.grown {w w' : World} {B : Nat} {x y z : Value} {row : Option Nat} (h : TBox w B x y z) (hg : w.grownBy w' row) (hne : row ≠ some B) : TBox w' B x y z := h.of (hg.block B h.lt (fun e => hne e.symm))
theorem TBox.new (w : World) (x y z : Value) : TBox (w.alloc (.cells #[x, y, z] 40)) w.heap.size x y z := by
  unfold TBox
  show (w.heap.push _)[w.heap.size]? = _
  simp
/-- A table under way: its fields in block B, its columns and rows in memory of their own. -/
structure TD (w : World) (base B : Nat) (nm : ByteArray) (vc vr : Value) (C : List ByteArray) (L : List (List CT)) : Prop where
  box : TBox w B (.string nm) vc vr
  cols : w.ownsRow base 9 1 vc C.length (strV C)
  rows : ∃ G D, OwnRows w base vr L G D
theorem TD.alloc {w : World} {base B : Nat} {nm : ByteArray} {vc vr : Value} {C : List ByteArray} {L : List (List CT)} (h : TD w base B nm vc vr C L) (o : Obj) : TD (w.alloc o) base B nm vc vr C L :=
  ⟨h.box.alloc o, h.cols.alloc o, by obtain ⟨G, D, O⟩ := h.rows; exact ⟨G, D, O.outer.alloc o, fun i hi => (O.inner i hi).alloc o, O.apart⟩⟩
theorem TD.below {w w' : World} {base B : Nat} {nm : ByteArray} {vc vr : Value} {C : List ByteArray} {L : List (List CT)} (h : TD w base B nm vc vr C L) (hb : Below w.heap.size w w') : TD w' base B nm vc vr C L :=
  ⟨h.box.below hb, own_below h.cols hb, by obtain ⟨G, D, O⟩ := h.rows; exact ⟨G, D, O.below hb⟩⟩
theorem TD.drew {w : World} {base B : Nat} {nm : ByteArray} {vc vr : Value} {C : List ByteArray} {L : List (List CT)} (h : TD w base B nm vc vr C L) : TD w.drew base B nm vc vr C L := h.below (Below.refl _ _).drew
end Go.Proofs.YtpggjgilklpncaaGreat

/-
  TableIn: which table it is, and the contract of the program's.
-/
namespace Go.Proofs.YtpggjgilklpncaaGreat
open Go.ChangeShapes Go.WideShapes Go.ChangeAt Go.RowKit Go.Maps
attribute [local go_sem ↓] Go.wp_at_zero Go.wp_at_succ
attribute [local simp] World.cell?_alloc_past World.cell?_alloc_at World.frozen?_alloc_at cell_far cell_off cell_here World.frozen?_alloc_past

/-- The first table of that name and true, or the zero one and false. -/
def InR (T : List TB) (s : ByteArray) (t : TB) (b : Bool) : Prop :=
  (b = false ∧ t = zeroT ∧ s ∉ namesT T) ∨ (b = true ∧ ∃ k, ∃ h : k < T.length, T[k] = t ∧ t.1 = s ∧ ∀ j (hj : j < T.length), j < k → T[j].1 ≠ s)
theorem inR_some (T : List TB) (s : ByteArray) : ∃ t b, InR T s t b := by
  by_cases h : s ∈ namesT T
  · rw [← List.take_length (l := T)] at h
    obtain ⟨j, hj, _, e, hf⟩ := first_name h
    exact ⟨T[j], true, .inr ⟨rfl, j, hj, rfl, e, fun i hi hij => by rw [← e]; exact hf i hi hij⟩⟩
  · exact ⟨zeroT, false, .inl ⟨rfl, rfl, h⟩⟩
end Go.Proofs.YtpggjgilklpncaaGreat

/-
  A base of which one table is cut short.
-/
namespace Go.Proofs.YtpggjgilklpncaaGreat
open Go.ChangeShapes Go.WideShapes Go.ChangeAt Go.RowKit

def cutT (m : Nat) (u : TB) : TB := (u.1, u.2.1, u.2.2.take m)
def shortR (T : List TB) (s : ByteArray) (m : Int) : List TB := if baseB T = true ∧ 0 ≤ m then T.map (fun u => if u.1 = s then cutT m.toNat u else u) else []
theorem cut_ok {m : Nat} {u : TB} (h : tableB u = true) : tableB (cutT m u) = true := by
  unfold tableB cutT at *
  simp only [Bool.and_eq_true, decide_eq_true_eq, List.all_eq_true] at h ⊢
  obtain ⟨⟨h1, h2, h3⟩, h4⟩ := h
  exact ⟨⟨h1, h2, by rw [List.length_take]; omega⟩, fun x hx => h4 x (List.mem_of_mem_take hx)⟩
theorem cut_all {m : Nat} {u : TB} (h : u.2.2.length ≤ m) : cutT m u = u := by
  unfold cutT
  rw [List.take_of_length_le h]
theorem short_good {T : List TB} {s : ByteArray} {m : Int} : (∀ t, t ∈ shortR T s m → tableB t = true) ∧ (shortR T s m).length ≤ 5 := by
  unfold shortR
  split
  · rename_i h
    obtain ⟨p1, _, p3⟩ := baseB_parts h.1
    refine ⟨fun t ht => ?_, by rw [List.length_map]; exact p3⟩
    obtain ⟨u, hu, rfl⟩ := List.mem_map.1 ht
    split
    · exact cut_ok (p1 u hu)
    · exact p1 u hu
  · exact ⟨fun t ht => by simp at ht, by simp⟩
theorem name_once {T : List TB} (hr : risesN (namesT T) = true) {i k : Nat} (hi : i < T.length) (hk : k < T.length) (e : T[i].1 = T[k].1) : i = k := by
  have hp := List.pairwise_iff_getElem.1 ((rises_pair T).1 hr)
  rcases Nat.lt_trichotomy i k with h | h | h
  · have := hp i k hi hk h
    unfold ltN at this
    rw [e, bl_irr] at this
    cases this
  · exact h
  · have := hp k i hk hi h
    unfold ltN at this
    rw [e, bl_irr] at this
    cases this
theorem short_set {T : List TB} {s : ByteArray} {m : Nat} (hr : risesN (namesT T) = true) {k : Nat} (hk : k < T.length) (he : T[k].1 = s) : T.map (fun u => if u.1 = s then cutT m u else u) = T.set k (cutT m T[k]) := by
  refine List.ext_getElem (by simp) fun i h1 h2 => ?_
  have hi : i < T.length := by simpa using h1
  rw [List.getElem_map, List.getElem_set]
  by_cases e : k = i
  · subst e
    rw [if_pos he, if_pos rfl]
  · rw [if_neg e, if_neg]
    intro e2
    exact e (name_once hr hk hi (he.trans e2.symm))
theorem short_none {T : List TB} {s : ByteArray} {m : Nat} (h : s ∉ namesT T) : T.map (fun u => if u.1 = s then cutT m u else u) = T := by
  conv => rhs; rw [← List.map_id T]
  refine List.map_congr_left fun u hu => ?_
  rw [if_neg]
  · rfl
  · intro e
    exact h (List.mem_map.2 ⟨u, hu, e⟩)
/-- What Replaced makes of the table that was cut. -/
theorem short_repl {T : List TB} {s : ByteArray} {m : Int} {u : TB} {b : Bool} (h0 : 0 ≤ m) (hu : InR T s u b) : ∃ r, replacedR T (cutT m.toNat u) = (shortR T s m, r) := by
  cases hb : baseB T with
  | false => exact ⟨false, by unfold replacedR shortR; simp [hb]⟩
  | true =>
    obtain ⟨p1, p2, p3⟩ := baseB_parts hb
    have e1 : replacedR T (cutT m.toNat u) = (if (cutT m.toNat u).1 ∈ namesT T ∧ tableB (cutT m.toNat u) = true then (replT T (cutT m.toNat u), true) else (T, false)) := by unfold replacedR; rw [if_pos hb]
    have e2 : shortR T s m = T.map (fun u => if u.1 = s then cutT m.toNat u else u) := by unfold shortR; rw [if_pos ⟨hb, h0⟩]
    rw [e1, e2]
    clear e1 e2
    rcases hu with ⟨_, rfl, hn⟩ | ⟨_, k, hk, rfl, he, _⟩
    · rw [short_none hn, if_neg]
      · exact ⟨_, rfl⟩
      · rintro ⟨_, h⟩
        revert h
        unfold cutT zeroT tableB
        simp [nameB]
    · have hm : T[k].1 ∈ namesT T := List.mem_map.2 ⟨_, List.getElem_mem hk, rfl⟩
      rw [if_pos ⟨hm, cut_ok (p1 _ (List.getElem_mem hk))⟩]
      refine ⟨true, ?_⟩
      congr 1
      rw [short_set p2 hk he]
      unfold replT
      refine List.ext_getElem (by simp) fun i h1 h2 => ?_
      have hi : i < T.length := by simpa using h1
      rw [List.getElem_map, List.getElem_set]
      by_cases e : k = i
      · subst e
        rw [if_pos (show T[k].1 = (cutT m.toNat T[k]).1 from rfl), if_pos rfl]
      · rw [if_neg e, if_neg]
        intro e2
        exact e (name_once p2 hk hi e2.symm)
theorem TabAt.cut {w : World} {ca : Option Addr} {cc : Nat} {ra : Option Addr} {t : TB} (h : TabAt w ca cc ra t) (m : Nat) : TabAt w ca cc ra (cutT m t) := by
  refine ⟨h.cols, h.fit, h.len, h.cap, h.nilC, fun i hi => ?_, ?_, h.name⟩
  · have hi' : i < t.2.2.length := by
      have : i < (t.2.2.take m).length := hi
      rw [List.length_take] at this
      omega
    have e : (cutT m t).2.2[i] = t.2.2[i] := List.getElem_take
    rw [e]
    exact h.rows i hi'
  · show (t.2.2.take m).length ≤ maxLen
    rw [List.length_take]
    have := h.lenR
    omega
end Go.Proofs.YtpggjgilklpncaaGreat
