/-
  A part of the proof: FkTakes, FastKp, FastRt.
-/
import Derived.Test.YtjjkdbmjloolaaaGreatDoorPart23
import Derived.Test.YtjjkdbmjloolaaaGreatDoorPart40
import Derived.Test.YtjjkdbmjloolaaaGreatDoorPart15
import Derived.Test.YtjjkdbmjloolaaaGreatDoorPart14
import Derived.Test.YtjjkdbmjloolaaaGreatDoorPart8
import Derived.Test.YtjjkdbmjloolaaaGreatDoorPart13
import Derived.Test.YtjjkdbmjloolaaaGreatDoorPart38
import Derived.Test.YtjjkdbmjloolaaaGreatDoorPart3

namespace Go.Proofs.YtjjkdbmjloolaaaGreatDoor
open Go.ChangeShapes Go.WideShapes Go.ChangeAt Go.RowKit Go.Joins
attribute [local go_sem ↓] Go.wp_at_zero Go.wp_at_succ
attribute [local simp] World.cell?_alloc_past World.cell?_alloc_at World.frozen?_alloc_at cell_far cell_off cell_here World.frozen?_alloc_past
theorem ColR.mono {R R' : World → Option Addr → Prop} {w w' : World} {A : Sen} {D : List ByteArray} {k : Int} {e : Ending} (h : ColR R w A D k e w') (hR : ∀ w x, R w x → R' w x) : ColR R' w A D k e w' := by
 obtain ⟨a, n, c, v, h1, h2, h3, h4⟩ := h
 exact ⟨a, n, c, v, h1, h2, fun e => ⟨(h3 e).1, (h3 e).2.1, (h3 e).2.2.1, (h3 e).2.2.2.1, hR _ _ (h3 e).2.2.2.2⟩, h4⟩
theorem TakeO.from {w w1 w' : World} {base B : Nat} {r : Option Mkr} {e : Ending} (h : TakeO w1 base B r e w') (k : LowI XJ base w w1) : TakeO w base B r e w' := by
 obtain ⟨ok, h1, h2, h3⟩ := h
 exact ⟨ok, h1, k.trans h2, h3⟩
set_option maxRecDepth 100000 in
set_option maxHeartbeats 4000000 in
theorem takes_impl (B base : Nat) (M : Mkr) (kd : Int) (nm : ByteArray) (na : Option Addr) (nn nc : Nat) (N : List ByteArray) (hnn : N.length = nn) (sa : Option Addr) (sn sc : Nat) (S : List TI) (hsn : S.length = sn) (dn : Bool) (ct sk : Int) (cv uv ov : Value) (w : World) (h : MkI w base B M cv uv ov) (g : GoodM M) (hcn : namesB M.cols 1 6 = true) (hsv : ∀ w', Below base w w' → SivAt w' na nc sa ⟨kd, nm, N, S, dn, ct, sk⟩) (hnb : ∀ g o, na = some ⟨g, o, none⟩ → 0 < N.length → g < base) (hmild : MildV ⟨kd, nm, N, S, dn, ct, sk⟩) (A : Sen) (hS : ∀ w', Below base w w' → SenAt w' A) (hm : M.ops.length + 40 ≤ 1048576) (hbw : base ≤ w.heap.size) :
  Calls Tryz.prog 23 #[.pointer (some ⟨B, 0, none⟩), .agg #[.int .i64 kd, .string nm, .slice na nn nc, .slice sa sn sc, .bool dn, .int .i64 ct, .int .i64 sk]] w (TakeO w base B (stepP M ⟨kd, nm, N, S, dn, ct, sk⟩)) := by
 obtain ⟨E0, hE0⟩ : ∃ z, w.alloc (.cells #[.int .i64 kd, .string nm, .slice na nn nc, .slice sa sn sc, .bool dn, .int .i64 ct, .int .i64 sk] 55) = z := ⟨_, rfl⟩
 have hA : Below w.heap.size w E0 := by rw [← hE0]; exact (Below.refl _ _).alloc (Nat.le_refl _) _
 have hX := hid (p := E0.heap[w.heap.size]? = some (.cells #[.int .i64 kd, .string nm, .slice na nn nc, .slice sa sn sc, .bool dn, .int .i64 ct, .int .i64 sk] 55)) (by rw [← hE0]; exact _root_.Go.heap_alloc_new w _)
 have HM := hid (h.below hA)
 obtain ⟨ca, cc, rfl, hC, hnil, hcc, _⟩ := HM.out.cols.at'
 have hwl := lt_of_heapN hX.out
 have hBl := lt_of_heapN h.box
 have hAB : Below base w E0 := hA.mono hbw
 obtain ⟨D, k0, hD⟩ : ∃ D k0, stepShapeR [] M.cols ⟨kd, nm, N, S, dn, ct, sk⟩ = (D, k0) := ⟨_, _, rfl⟩
 obtain ⟨hf6, hc6⟩ := names_fits hcn
 have hcM : M.cols.length ≤ maxLen := by unfold maxLen; omega
 have hd0 : Below E0.heap.size E0 E0.drew := (Below.refl _ _).drew
 have hTT : TabsAt E0.drew none [] := fun i hi => absurd hi (by simp)
 have hAd : Below base w E0.drew := hAB.drew
 have HSC := hid (p := Calls Tryz.prog 43 #[.slice none 0 0, .slice ca M.cols.length cc, .agg #[.int .i64 kd, .string nm, .slice na nn nc, .slice sa sn sc, .bool dn, .int .i64 ct, .int .i64 sk]] E0.drew (ColR (fun w' x => (kd = 3 → NewS w' x) ∧ (kd = 4 → x = na)) E0.drew A D k0)) (by
  by_cases h3 : kd = 3
  · subst h3
   exact (stepcolumns_let none 0 0 [] rfl (by omega) (fun _ h => absurd h (by simp)) ca M.cols.length cc M.cols rfl nm na nn nc N hnn sa sn sc S hsn dn ct sk E0.drew hTT (hC.below hd0) hnil hcc (hsv _ hAd) hmild hf6 hcM A (hS _ hAd) D k0 hD).mono (fun _ _ h => h.mono (fun _ _ hx => ⟨fun _ => hx, fun e => absurd e (by decide)⟩))
  by_cases h4 : kd = 4
  · subst h4
   exact (stepcolumns_keep none 0 0 [] rfl (by omega) (fun _ h => absurd h (by simp)) ca M.cols.length cc M.cols rfl nm na nn nc N hnn sa sn sc S hsn dn ct sk E0.drew hTT (hC.below hd0) hnil hcc (hsv _ hAd) hmild hf6 hcM A (hS _ hAd) D k0 hD).mono (fun _ _ h => h.mono (fun _ _ hx => ⟨fun e => absurd e (by decide), fun _ => hx⟩))
  exact (stepcolumns_impl none 0 0 [] rfl (by omega) (fun _ h => absurd h (by simp)) ca M.cols.length cc M.cols rfl kd nm na nn nc N hnn sa sn sc S hsn dn ct sk E0.drew hTT (hC.below hd0) hnil hcc (hsv _ hAd) hmild hf6 hcM A (hS _ hAd) D k0 hD).mono (fun _ _ h => h.any.mono (fun _ _ _ => ⟨fun e => absurd e h3, fun e => absurd e h4⟩)))
 have hcl : M.cols.length ≤ 1000 := by omega
 have HKD := hid (p := (decide (2 ≤ kd) && decide (kd ≤ 4)) = true → k0 = 0 → AskM M ⟨kd, nm, N, S, dn, ct, sk⟩ ∧ D = (if kd = 2 then M.cols else if kd = 3 then M.cols ++ [nm] else N) ∧ stepP M ⟨kd, nm, N, S, dn, ct, sk⟩ = sieveO M ⟨kd, nm, N, S, dn, ct, sk⟩) (fun h1 h2 => by
  rw [h2] at hD
  obtain ⟨q1, q2⟩ := askM_of (s := ⟨kd, nm, N, S, dn, ct, sk⟩) h1 hD
  refine ⟨q1, q2, ?_⟩
  unfold stepP
  rw [if_pos ⟨h1, by rw [hD]⟩])
 have HNO := hid (p := ¬ ((decide (2 ≤ kd) && decide (kd ≤ 4)) = true ∧ k0 = 0) → stepP M ⟨kd, nm, N, S, dn, ct, sk⟩ = none) (fun h1 => by
  unfold stepP
  rw [if_neg (by rw [hD]; exact h1)])
 obtain ⟨R, hR⟩ : ∃ R, stepP M ⟨kd, nm, N, S, dn, ct, sk⟩ = R := ⟨_, rfl⟩
 rw [hR] at HKD HNO ⊢
 have HSV := hid hsv
 have HNB := hid hnb
 have HG := hid g
 have HNN := hid hnn
 have HSN := hid hsn
 have HLA := hid (LowI.of (X := XJ) hbw hA)
 obtain ⟨x0, x1, x2, x3, x4, x5, x6⟩ := cells7 hX.out
 obtain ⟨p0, p1, p2, p3⟩ := cells4 HM.out.box
 clear hR hD hsv hnb g hnn hsn hC hnil hcc hTT hf6 hAd hAB hd0 hmild hS hcn h
 go_enter Tryz.func23, Tryz.ntmps23
 go_wp2_with fail
 refine wp_region_held_drew (S := (fun w' => w'.cell? ⟨B, 0, none⟩ = some (.slice ca M.cols.length cc) ∧ ((w'.cell? ⟨w.heap.size, 0, none⟩ = some (.int .i64 kd) ∧ w'.cell? ⟨w.heap.size, 1, none⟩ = some (.string nm)) ∧ (w'.cell? ⟨w.heap.size, 2, none⟩ = some (.slice na nn nc) ∧ w'.cell? ⟨w.heap.size, 3, none⟩ = some (.slice sa sn sc))) ∧ w'.cell? ⟨w.heap.size, 4, none⟩ = some (.bool dn) ∧ w'.cell? ⟨w.heap.size, 5, none⟩ = some (.int .i64 ct) ∧ w'.cell? ⟨w.heap.size, 6, none⟩ = some (.int .i64 sk))) (by kernel_rfl) ⟨p0, ⟨⟨x0, x1⟩, x2, x3⟩, x4, x5, x6⟩ (fun hHeld => ?_)
 refine tkH 0 ?_
 simp only [Act.put, ptT, ptZ, ptS]
 refine tkH 1 ?_
 simp only [Act.put, ptT, ptZ, ptS]
 refine tkH 2 ?_
 simp only [Act.put, ptT, ptZ, ptS]
 refine tkH 3 ?_
 simp only [Act.put, ptT, ptZ, ptS]
 refine tkH 4 ?_
 simp only [Act.put, ptT, ptZ, ptS]
 refine oneH 5 ?_
 intro K hK
 go_simp
 refine HSC.out.mono ?_
 rintro e w2 ⟨a', n', c', v, rfl, hv, hk, hb2'⟩
 have hb2 := undrew hb2'
 have hMB := lt_of_heapN HM.out.box
 have hX2 := hid ((hb2.block _ hwl).trans hX.out)
 obtain ⟨y0, y1, y2, y3, y4, y5, y6⟩ := cells7 hX2.out
 have z0 := (hb2.cell (p := ⟨B, 0, none⟩) hMB).trans p0
 have HV := hid hv
 have HK := hid hk
 have HM2 := hid (HM.out.below hb2)
 have HL2 := hid (HLA.out.then hbw (hb2.mono (Nat.le_of_lt hwl)))
 have HB2 := hid (p := Below base w w2) (HL2.out.bel)
 have hbs : base ≤ w2.heap.size := Nat.le_trans hbw HL2.out.size
 clear hHeld hv hk hb2' x0 x1 x2 x3 x4 x5 x6 p0 p1 p2 p3
 go_wp2_with fail
 refine hK.out _ _ ⟨z0, ⟨⟨y0, y1⟩, y2, y3⟩, y4, y5, y6⟩ (fun hHeld => ?_)
 clear hK K
 try simp only [Act.put, ptT, ptZ, ptS]
 refine tkH 6 ?_
 simp only [Act.put, ptT, ptZ, ptS]
 refine tkH 7 ?_
 simp only [Act.put, ptT, ptZ, ptS]
 refine tkH 8 ?_
 simp only [Act.put, ptT, ptZ, ptS]
 refine tkH 9 ?_
 simp only [Act.put, ptT, ptZ, ptS]
 refine tkH 10 ?_
 simp only [Act.put, ptT, ptZ, ptS]
 refine wpAnyH_done (by kernel_rfl) ?_ _
 clear hHeld z0 y1 y2 y4 y5 y6
 rcases HV.out.shape with ⟨rfl, rfl⟩ | ⟨hk0, tt, xx, rfl⟩
 · obtain ⟨l1, l2, l3, l4, l5, l6⟩ := HK.out rfl
  have HS2 := hid l2
  by_cases h2 : kd = 2
  · subst h2
   obtain ⟨hask, _, hR⟩ := HKD.out rfl rfl
   obtain ⟨q1, q2⟩ := hask.sum (.inl rfl)
   have HT := hid (p := Calls Tryz.prog 44 #[.pointer (some ⟨B, 0, none⟩), .slice sa sn sc] w2 (TakeO w2 base B (sieveO M ⟨2, nm, N, S, dn, ct, sk⟩))) (tests_impl B base M sa sc sn S HSN.out _ uv ov w2 HM2.out (fun w' hw => (HSV.out w' (HB2.out.trans hw)).sum) HG.out q1 q2 hcl hm hbs)
   subst hR
   clear l1 l2 l3 l4 l5 l6 hask q1 q2 HK
   go_wp2_with fail
   refine HT.out.mono ?_
   rintro e w3 hT
   have FIN := hid (hT.from HL2.out)
   obtain ⟨ok, rfl, _⟩ := hT
   go_wp2
   go_ret
   exact FIN.out
  by_cases h3 : kd = 3
  · subst h3
   obtain ⟨hask, hDD, hR⟩ := HKD.out rfl rfl
   obtain ⟨q1, q2⟩ := hask.sum (.inr rfl)
   have hDD2 : D = M.cols ++ [nm] := hDD
   obtain ⟨gg, cs, rfl, hcs⟩ := l5 rfl
   have hcv : ColsAt w2 base (.slice (some ⟨gg, 0, none⟩) n' c') (M.cols ++ [nm]) := by
    rw [← hDD2]
    exact ⟨_, c', by rw [l1], l2, l3, by rw [l1]; exact l4, fun g o e _ => by cases e; exact ⟨lt_of_heapN hcs, .inr ⟨cs, hcs⟩⟩⟩
   have HT := hid (p := Calls Tryz.prog 45 #[.pointer (some ⟨B, 0, none⟩), .slice sa sn sc, .slice (some ⟨gg, 0, none⟩) n' c'] w2 (TakeO w2 base B (sieveO M ⟨3, nm, N, S, dn, ct, sk⟩))) (lets_impl B base M sa sc sn S HSN.out nm _ uv ov _ w2 HM2.out (fun w' hw => (HSV.out w' (HB2.out.trans hw)).sum) hcv HG.out q1 q2 hcl hm hbs)
   subst hR
   clear l1 l2 l3 l4 l5 l6 hask q1 q2 HK hDD hDD2 hcv hcs
   go_wp2_with fail
   refine HT.out.mono ?_
   rintro e w3 hT
   have FIN := hid (hT.from HL2.out)
   obtain ⟨ok, rfl, _⟩ := hT
   go_wp2
   go_ret
   exact FIN.out
  by_cases h4 : kd = 4
  · subst h4
   obtain ⟨hask, hDD, hR⟩ := HKD.out rfl rfl
   obtain ⟨q1, q2⟩ := hask.names rfl
   have hDD2 : D = N := hDD
   subst hDD2
   have ea := l6 rfl
   subst ea
   have hcv : ColsAt w2 base (.slice a' n' c') D := ⟨_, c', by rw [l1], l2, l3, by rw [l1]; exact l4, fun g o e hl => by
    have hg := HNB.out g o e hl
    exact ⟨by omega, .inl hg⟩⟩
   have HT := hid (keeps_impl B base M a' c' n' D l1 _ uv ov w2 HM2.out hcv HG.out q1 (by rw [← l1]; exact q2) hcl hbs)
   subst hR
   clear l1 l2 l3 l4 l5 l6 hask q1 q2 HK hDD hcv
   go_wp2_with fail
   refine HT.out.mono ?_
   rintro e w3 ⟨rfl, hL3, uv3, hM3⟩
   have FIN := hid (p := TakeO w base B (sieveO M ⟨4, nm, D, S, dn, ct, sk⟩) (.returned (.bool true)) w3) (by
    show TakeO w base B (some { M with cols := D, outs := D.map fun n => M.outs.getD (plcF M.cols n) zU }) (.returned (.bool true)) w3
    exact ⟨true, rfl, HL2.out.trans hL3, rfl, _, _, _, hM3⟩)
   clear hL3 hM3
   go_wp2
   go_ret
   exact FIN.out
  have e2 : (kd == 2) = false := by simp; omega
  have e3 : (kd == 3) = false := by simp; omega
  have e4 : (kd == 4) = false := by simp; omega
  have hR := HNO.out (fun hx => by
   have := hx.1
   simp only [Bool.and_eq_true, decide_eq_true_eq] at this
   omega)
  subst hR
  have FIN := hid (p := TakeO w base B none (.returned (.bool false)) w2) ⟨false, rfl, HL2.out, rfl⟩
  clear l1 l2 l3 l4 l5 l6 HK
  go_wp2
  go_ret
  exact FIN.out
 · have hR := HNO.out (fun hx => hk0 hx.2)
  subst hR
  have FIN := hid (p := TakeO w base B none (.returned (.bool false)) w2) ⟨false, rfl, HL2.out, rfl⟩
  clear HK hk0
  go_wp2
  go_ret
  exact FIN.out
theorem own_lower {w : World} {b1 b2 : Nat} {e : TypeId} {s : Nat} {v : Value} {n : Nat} {x : List Value} (h : w.ownsRow b1 e s v n x) (hb : b2 ≤ b1) : w.ownsRow b2 e s v n x := by
 refine ⟨h.1, ?_⟩
 rcases h.2 with h' | ⟨g, c, cur, rfl, h1, hr⟩
 · exact .inl h'
 · exact .inr ⟨g, c, cur, rfl, Nat.le_trans hb h1, hr⟩
theorem MkAt.setCols {w : World} {base B : Nat} {M : Mkr} {ov cv uv tv cv' : Value} {N : List ByteArray} (h : MkAt w base B M ov cv uv tv) (hc : w.ownsRow base 9 1 cv' N.length (strV N)) : MkAt (w.setCell ⟨B, 1, none⟩ cv') base B { M with cols := N } ov cv' uv tv := by
 have K := KeepS.set1 w B 1 cv'
 refine ⟨block_setCell h.box _, h.lo, own_keepF h.ops K (fun g e e2 => ?_), own_keepF hc K (fun g e e2 => ?_), own_keepF h.outs K (fun g e e2 => ?_), own_keepF h.tr K (fun g e e2 => ?_)⟩
 · subst e2; exact own_box h.ops h.box (by decide) e
 · subst e2; exact own_box hc h.box (by decide) e
 · subst e2; exact own_box h.outs h.box (by decide) e
 · subst e2; exact own_box h.tr h.box (by decide) e
theorem MkAt.setOuts {w : World} {base B : Nat} {M : Mkr} {ov cv uv tv uv' : Value} {us : List FU} (h : MkAt w base B M ov cv uv tv) (hc : w.ownsRow base 51 3 uv' us.length (flatFu us)) : MkAt (w.setCell ⟨B, 2, none⟩ uv') base B { M with outs := us } ov cv uv' tv := by
 have K := KeepS.set1 w B 2 uv'
 refine ⟨block_setCell h.box _, h.lo, own_keepF h.ops K (fun g e e2 => ?_), own_keepF h.cols K (fun g e e2 => ?_), own_keepF hc K (fun g e e2 => ?_), own_keepF h.tr K (fun g e e2 => ?_)⟩
 · subst e2; exact own_box h.ops h.box (by decide) e
 · subst e2; exact own_box h.cols h.box (by decide) e
 · subst e2; exact own_box hc h.box (by decide) e
 · subst e2; exact own_box h.tr h.box (by decide) e
set_option maxRecDepth 100000 in
set_option maxHeartbeats 4000000 in
theorem keep_spec15 (B base : Nat) (M : Mkr) (nm : ByteArray) (na : Option Addr) (nn nc : Nat) (N : List ByteArray) (hnn : N.length = nn) (sa : Option Addr) (sn sc : Nat) (S : List TI) (dn : Bool) (ct sk : Int) (ov cv uv tv : Value) (w : World) (h : MkAt w base B M ov cv uv tv) (hN : ∀ w', Below base w w' → StrsAt w' na N) (g : GoodM M) (hc : ∀ x ∈ N, x ∈ M.cols) (hnil : na = none → nc = 0) (hcl : M.cols.length ≤ 1000) (hnl : nn ≤ 1000) (hbw : base ≤ w.heap.size) :
  Calls Tryz.prog 20 #[.pointer (some ⟨B, 0, none⟩), .agg #[.int .i64 4, .string nm, .slice na nn nc, .slice sa sn sc, .bool dn, .int .i64 ct, .int .i64 sk]] w (SieveOut15 w base B M ⟨4, nm, N, S, dn, ct, sk⟩) := by
 have HG := hid g
 have HC := hid hc
 have HN := hid hN
 have HNN := hid hnn
 obtain ⟨W1, hW1⟩ : ∃ z, w.alloc (.cells #[.int .i64 4, .string nm, .slice na nn nc, .slice sa sn sc, .bool dn, .int .i64 ct, .int .i64 sk] 55) = z := ⟨_, rfl⟩
 have hA : Below w.heap.size w W1 := by rw [← hW1]; exact (Below.refl _ _).alloc (Nat.le_refl _) _
 have HX := hid (p := W1.heap[w.heap.size]? = some (.cells #[.int .i64 4, .string nm, .slice na nn nc, .slice sa sn sc, .bool dn, .int .i64 ct, .int .i64 sk] 55)) (by rw [← hW1]; exact _root_.Go.heap_alloc_new w _)
 have hs1 : W1.heap.size = w.heap.size + 1 := by rw [← hW1]; simp
 have hBw := lt_of_heapN h.box
 have hlo := h.lo
 have H1 := hid (h.below hA)
 have hb0 : Below W1.heap.size W1 (W1.alloc (.cells #[] 51)) := (Below.refl _ _).alloc (Nat.le_refl _) _
 have own0 := hid (p := World.ownsRow (W1.alloc (.cells #[] 51)) W1.heap.size 51 3 (.slice (some ⟨w.heap.size + 1, 0, none⟩) 0 0) 0 (flatFu [])) (by
  rw [← hs1]
  exact ⟨rfl, .inr ⟨W1.heap.size, 0, #[], rfl, Nat.le_refl _, _root_.Go.heap_alloc_new W1 _, Nat.le_refl _, by unfold maxLen; omega, rfl, rfl⟩⟩)
 have HS1 := hid hs1
 obtain ⟨B1, hB1⟩ : ∃ z, z = W1.heap.size := ⟨_, rfl⟩
 rw [← hB1] at own0 hb0
 have HB1 := hid hB1
 have hwB1 : w.heap.size < B1 := by omega
 have hbB1 : base ≤ B1 := by omega
 obtain ⟨ca, cc, rfl⟩ := slice_of_own h.cols
 obtain ⟨ua, uc, rfl⟩ := slice_of_own h.outs
 obtain ⟨j0, htj, hy0, hy1, hy2⟩ := info_parts infoFu15
 have hol : M.outs.length ≤ 1000 := by rw [HG.out.len]; exact hcl
 have HWE := hid hW1
 clear h g hc hN hnn hs1 hB1 hW1
 go_enter Tryz.func20, Tryz.ntmps20
 go_wp2
 rw [HWE.out]
 go_loopw [6, 7] (fun lv kk wr => ∃ (k : Nat) (la : Option Addr) (lc : Nat), k ≤ nn ∧ kk = .int .i64 k ∧ lv = .slice la k lc ∧ Hid (wr.ownsRow B1 51 3 (.slice la k lc) k (flatFu ((N.take k).map fun n => M.outs.getD (plcF M.cols n) zU))) ∧ Hid (Below B1 W1 wr)) (fun _ kk _ => nn - (intOf kk).toNat)
 case atStart => exact ⟨0, some ⟨w.heap.size + 1, 0, none⟩, 0, Nat.zero_le _, rfl, rfl, by rw [List.take_zero]; exact own0, hb0⟩
 case round =>
  obtain ⟨k, la, lc, hk, rfl, rfl, hO, hbw'⟩ := hrel
  have hbwl : Below W1.heap.size W1 wr := by rw [← HB1.out]; exact hbw'.out
  have hi0 : (0 : Int) ≤ (k : Int) := by omega
  have hx2 := (hbwl.block w.heap.size (by rw [← HB1.out]; exact hwB1)).trans HX.out
  have x2 := cell_of_row _ _ 2 _ _ _ hx2
  by_cases hlt : k < nn
  · have hi1 : (k : Int) < (nn : Int) := by omega
   have hlt' : k < N.length := by rw [HNN.out]; exact hlt
   obtain ⟨gn, on, rfl, hgn, n0⟩ := HN.out W1 (hA.mono hbw) k hlt'
   have hmem := HC.out _ (List.getElem_mem hlt')
   have HT := hid (p := (N.take (k + 1)).map (fun n => M.outs.getD (plcF M.cols n) zU) = (N.take k).map (fun n => M.outs.getD (plcF M.cols n) zU) ++ [M.outs.getD (plcF M.cols N[k]) zU]) (by rw [List.take_succ_eq_append_getElem hlt', List.map_append]; rfl)
   generalize N[k]'hlt' = x at n0 hmem HT
   obtain ⟨pk, hpk⟩ : ∃ z, z = plcF M.cols x := ⟨_, rfl⟩
   have HAT := hid (p := AtIs M.cols x (pk : Int)) (by rw [hpk]; exact plc_is hmem)
   have hpl : pk < M.outs.length := by rw [hpk, HG.out.len]; exact (plc_at hmem).1
   rw [← hpk] at HT
   rcases H1.out.cols.2 with ⟨_, e0⟩ | ⟨gc, capc, curc, e0, _⟩
   · have := (plc_at hmem).1
    omega
   cases e0
   rcases H1.out.outs.2 with ⟨_, e0⟩ | ⟨gu, capu, curu, e0, _⟩
   · omega
   cases e0
   have HSC := hid (own_strs1 H1.out.cols rfl)
   have HFU := hid (ownFu H1.out.outs)
   obtain ⟨g, o, hgo, hg, c0, c1, c2⟩ := HFU.out pk hpl
   cases hgo
   obtain ⟨u, hu⟩ : ∃ u, M.outs[pk] = u := ⟨_, rfl⟩
   have HGD := hid (p := M.outs.getD pk zU = u) (by rw [List.getD_eq_getElem?_getD, List.getElem?_eq_getElem hpl, ← hu]; rfl)
   rw [hu] at c0 c1 c2
   rw [HGD.out] at HT
   obtain ⟨ub, ur, ut⟩ := u
   dsimp only at c0 c1 c2
   simp only [Nat.zero_add] at c0 c1 c2
   obtain ⟨_, q1, q2, _, _⟩ := cells5 H1.out.box
   have hBB := lt_of_heapN H1.out.box
   have HSZ := hid (p := ∀ w', Below B1 W1 w' → (((w'.cell? ⟨B, 1, none⟩ = some (.slice (some ⟨gc, 0, none⟩) M.cols.length cc) ∧ w'.cell? ⟨B, 2, none⟩ = some (.slice (some ⟨gu, 0, none⟩) M.outs.length uc)) ∧ w'.cell? ⟨w.heap.size, 2, none⟩ = some (.slice (some ⟨gn, on, none⟩) nn nc)) ∧ w'.cell? ⟨gn, on + k, none⟩ = some (.string x) ∧ w'.cell? ⟨gu, pk * 3, none⟩ = some (.int .i64 ub) ∧ w'.cell? ⟨gu, pk * 3 + 1, none⟩ = some (.int .i64 ur) ∧ w'.cell? ⟨gu, pk * 3 + 2, none⟩ = some (.bool ut))) (fun w' hw => by
    rw [HB1.out] at hw
    exact ⟨⟨⟨(hw.cell (p := ⟨B, 1, none⟩) hBB).trans q1, (hw.cell (p := ⟨B, 2, none⟩) hBB).trans q2⟩, (hw.cell (p := ⟨w.heap.size, 2, none⟩) (lt_of_heapN HX.out)).trans (cell_of_row _ _ 2 _ _ _ HX.out)⟩, (hw.cell (p := ⟨gn, on + k, none⟩) hgn).trans n0, (hw.cell (p := ⟨gu, pk * 3, none⟩) hg).trans c0, (hw.cell (p := ⟨gu, pk * 3 + 1, none⟩) hg).trans c1, (hw.cell (p := ⟨gu, pk * 3 + 2, none⟩) hg).trans c2⟩)
   have hpL0 : (0 : Int) ≤ (pk : Int) := by omega
   have hpL1 : (pk : Int) < (M.outs.length : Int) := by omega
   have hLc : M.cols.length ≤ maxLen := by unfold maxLen; omega
   have HO := hid hO.out
   clear hu hpk hmem hlt' hx2 hO q1 q2 c0 c1 c2 n0
   go_wp2_with fail
   refine wp_region_held_drew (S := (fun w' => ((w'.cell? ⟨B, 1, none⟩ = some (.slice (some ⟨gc, 0, none⟩) M.cols.length cc) ∧ w'.cell? ⟨B, 2, none⟩ = some (.slice (some ⟨gu, 0, none⟩) M.outs.length uc)) ∧ w'.cell? ⟨w.heap.size, 2, none⟩ = some (.slice (some ⟨gn, on, none⟩) nn nc)) ∧ w'.cell? ⟨gn, on + k, none⟩ = some (.string x) ∧ w'.cell? ⟨gu, pk * 3, none⟩ = some (.int .i64 ub) ∧ w'.cell? ⟨gu, pk * 3 + 1, none⟩ = some (.int .i64 ur) ∧ w'.cell? ⟨gu, pk * 3 + 2, none⟩ = some (.bool ut))) (by kernel_rfl) (HSZ.out _ hbw'.out.drew) (fun hHeld => ?_)
   refine tkH 0 ?_
   simp only [Act.put, ptT, ptZ, ptS]
   refine tkH 1 ?_
   simp only [Act.put, ptT, ptZ, ptS]
   refine tkH 2 ?_
   simp only [Act.put, ptT, ptZ, ptS]
   refine tkH 3 ?_
   simp only [Act.put, ptT, ptZ, ptS]
   refine tkH 4 ?_
   simp only [Act.put, ptT, ptZ, ptS]
   refine tkH 5 ?_
   simp only [Act.put, ptT, ptZ, ptS]
   refine tkH 6 ?_
   simp only [Act.put, ptT, ptZ, ptS]
   refine tkH 7 ?_
   simp only [Act.put, ptT, ptZ, ptS]
   refine tkH 8 ?_
   simp only [Act.put, ptT, ptZ, ptS]
   refine tkH 9 ?_
   simp only [Act.put, ptT, ptZ, ptS]
   refine tkH 10 ?_
   simp only [Act.put, ptT, ptZ, ptS]
   refine tkH 11 ?_
   simp only [Act.put, ptT, ptZ, ptS]
   refine tkH 12 ?_
   simp only [Act.put, ptT, ptZ, ptS]
   refine tkH 13 ?_
   simp only [Act.put, ptT, ptZ, ptS]
   refine oneH 14 ?_
   intro K hK
   go_simp
   refine (at_specN M.cols.length _ _ M.cols rfl x _ ((HSC.out.below hbwl).below (Below.refl _ _).drew) hLc).mono ?_
   rintro e w2 ⟨r, rfl, hr, hb2'⟩
   obtain rfl := hr.one HAT.out
   have hb2 := undrew hb2'
   have HO2 := hid (own_below HO.out hb2)
   have HB2 := hid (hbw'.out.trans (hb2.mono (by rw [HB1.out]; exact hbwl.size)))
   have hB2s := HB2.out.size
   have hsz := hb2.size
   clear hHeld hb2' hr
   go_wp2_with fail
   refine hK.out _ _ (HSZ.out _ HB2.out) (fun hHeld => ?_)
   clear hK K
   try simp only [Act.put, ptT, ptZ, ptS]
   refine tkH 15 ?_
   simp only [Act.put, ptT, ptZ, ptS]
   refine tkH 16 ?_
   simp only [Act.put, ptT, ptZ, ptS]
   refine oneH 17 ?_
   intro K hK
   go_simp
   have hB1w2 : B1 ≤ w2.heap.size := by rw [HB1.out]; exact hB2s
   refine hK.out _ _ (HSZ.out _ (HB2.out.alloc hB1w2 _)) (fun hHeld => ?_)
   clear hK K
   try simp only [Act.put, ptT, ptZ, ptS]
   refine oneH 18 ?_
   intro K hK
   rw [if_pos (by rfl)]
   refine wp_append_own _ _ _ 27 rfl B1 51 j0 (.agg #[.int .i64 0, .int .i64 0, .bool false]) 3 24 Tryz.underlying27 htj hy0 hy1 hy2 rfl (by decide) (.slice la k lc) k _ rfl (HO2.out.alloc _) ⟨w2.heap.size, 0, none⟩ 1 1 [.int .i64 ub, .int .i64 ur, .bool ut] rfl rfl (cells3N15 w2 _ _ _ _) (by intro u hu; simp at hu; rcases hu with rfl | rfl | rfl <;> rfl) (by unfold maxLen; omega) (by omega) (by simp; omega) ?_
   intro v5 w5 own5 hgrow hnn
   obtain ⟨a5, c5, rfl⟩ := slice_of_own own5
   have hlaB : ∀ g, (Value.slice la k lc).ownBlock = some g → B1 ≤ g := fun g e => (HO2.out.lt g e).1
   have hbx : Below B1 W1 w5 := (HB2.out.alloc hB1w2 (.cells #[.int .i64 ub, .int .i64 ur, .bool ut] 51)).grown hgrow (by simp; omega) hlaB
   have F1 := hid (p := World.ownsRow w5 B1 51 3 (.slice a5 (k + 1) c5) (k + 1) (flatFu ((N.take (k + 1)).map fun n => M.outs.getD (plcF M.cols n) zU))) (by rw [HT.out, flatFu_append]; exact own5)
   have F2 := hid hbx
   clear own5 hgrow hnn hlaB hHeld
   refine hK.out _ _ (HSZ.out _ hbx) (fun hHeld => ?_)
   clear hK K
   try simp only [Act.put, ptT, ptZ, ptS]
   refine tkH 19 ?_
   simp only [Act.put, ptT, ptZ, ptS]
   refine wpAnyH_done (by kernel_rfl) ?_ _
   clear hHeld hbx
   go_wp2
   go_roundw
   case rel => exact ⟨k + 1, a5, c5, by omega, by go_num, by go_num, F1, F2⟩
   case measure => simp [intOf]; omega
  · have hkl : k = nn := by omega
   subst hkl
   have hnn : ¬ (k : Int) < (k : Int) := by omega
   have M2 := hid (H1.out.below hbwl)
   have HNW := hid (HN.out wr ((hA.mono hbw).trans (hbw'.out.mono hbB1)))
   have HBW := hid (hA.mono hbw |>.trans (hbw'.out.mono hbB1))
   rw [List.take_of_length_le (by rw [HNN.out]; exact Nat.le_refl _)] at hO
   have HO := hid hO.out
   clear hx2 hO
   have hwr := Nat.le_trans hbw HBW.out.size
   go_wp2_with fail
   refine (texts_spec na nc N k HNN.out wr HNW.out hnil (by omega)).mono ?_
   rintro e w2 ⟨g, c, rfl, hg2, hc2, own2, hb2⟩
   have M3 := M2.out.below hb2
   have own3 : w2.ownsRow base 9 1 (.slice (some ⟨g, 0, none⟩) N.length c) N.length (strV N) := own_lower own2 hwr
   have own4 := own_lower (own_below HO.out hb2) hbB1
   have hl : (N.map fun n => M.outs.getD (plcF M.cols n) zU).length = k := by rw [List.length_map, HNN.out]
   have M4 := M3.setCols own3
   have M5 := M4.setOuts (us := N.map fun n => M.outs.getD (plcF M.cols n) zU) (by
    have o5 := own_keepF own4 (KeepS.set1 w2 B 1 (.slice (some ⟨g, 0, none⟩) N.length c)) (fun i e1 e2 => by subst e2; exact own_box own4 M3.box (by decide) e1)
    rw [hl]
    exact o5)
   have FIN := hid (p := SieveOut15 w base B M ⟨4, nm, N, S, dn, ct, sk⟩ (.returned (.tuple #[])) ((w2.setCell ⟨B, 1, none⟩ (.slice (some ⟨g, 0, none⟩) k c)).setCell ⟨B, 2, none⟩ (.slice la k lc))) (by
    rw [HNN.out] at M5
    refine ⟨_, _, _, _, _, rfl, M5, ((HBW.out.trans (hb2.mono hwr)).setCell (p := ⟨B, 1, none⟩) hlo _).setCell (p := ⟨B, 2, none⟩) hlo _, ?_⟩
    unfold sieveO
    simp)
   obtain ⟨p0, p1, p2, p3, p4⟩ := cells5 M3.box
   have f1 := frozen5 M3.box 1
   have f2 := frozen5 M3.box 2
   clear M3 M4 M5 own2 own3 own4 hb2 hl
   go_wp2_with fail
   exact bodyPost_ret (results_none Tryz.results20 _ _ _) rfl FIN.out
end Go.Proofs.YtjjkdbmjloolaaaGreatDoor
namespace Go.Proofs.YtjjkdbmjloolaaaGreatDoor
open Go.ChangeShapes Go.WideShapes Go.ChangeAt Go.RowKit
attribute [local go_sem ↓] Go.wp_at_zero Go.wp_at_succ
attribute [local simp] World.cell?_alloc_past World.cell?_alloc_at World.frozen?_alloc_at cell_far cell_off cell_here World.frozen?_alloc_past
set_option maxRecDepth 100000 in
set_option maxHeartbeats 4000000 in
theorem right_spec15 (ca : Option Addr) (cn cc : Nat) (C : List ByteArray) (hcn : C.length = cn) (a : Option Addr) (cap n : Nat) (L : List SV) (hn : L.length = n) (w : World) (hC : StrsAt w ca C) (hnil : ca = none → cc = 0) (hcF : FitS C) (hcM : cn ≤ maxLen) (hcC : cn ≤ cc) (hL : SivsAt w a L) (hnM : n ≤ maxLen) (b : Bool) (hb : rightB3 C L = b) :
  Calls Tryz.prog 18 #[.slice ca cn cc, .slice a n cap] w fun e w' => e = .returned (.bool b) ∧ Below w.heap.size w w' := by
 have HL := hid hL
 have HN := hid hn
 have HC := hid hC
 have hnM' := hnM
 unfold maxLen at hnM'
 unfold rightB3 at hb
 obtain ⟨b1, hb1⟩ : ∃ b, namesB C 1 6 = b := ⟨_, rfl⟩
 have CN := hid (l5_specN cn ca cc C hcn 1 6 w hC hcF hcM hcC b1 hb1)
 rw [hb1] at hb
 cases b1
 · rw [Bool.false_and, Bool.false_and] at hb
  subst hb
  go_enter Tryz.func18, Tryz.ntmps18
  go_wp2_with fail
  refine CN.out.mono ?_
  rintro e w1 ⟨rfl, hx1⟩
  go_wp2
  go_ret
  exact ⟨rfl, hx1⟩
 rw [Bool.true_and] at hb
 by_cases h8 : 8 < n
 · rw [decide_eq_false (by omega), Bool.false_and] at hb
  subst hb
  go_enter Tryz.func18, Tryz.ntmps18
  go_wp2_with fail
  refine CN.out.mono ?_
  rintro e w1 ⟨rfl, hx1⟩
  go_wp2
  go_ret
  exact ⟨rfl, hx1⟩
 rw [decide_eq_true (by omega), Bool.true_and] at hb
 have h8' : n ≤ 8 := by omega
 have HB := hid hb
 have HF := hid hcF
 have HCN := hid hcn
 clear hL hn hC hb hb1 hcF hcn
 go_enter Tryz.func18, Tryz.ntmps18
 go_wp2_with fail
 refine CN.out.mono ?_
 rintro e w1 ⟨rfl, hx1⟩
 have h8i : ¬ (8 : Int) < (n : Int) := by omega
 clear CN
 go_wp2
 go_loopw [0, 5] (fun v kk wr => ∃ (j m c : Nat) (va : Option Addr) (D : List ByteArray), j ≤ n ∧ kk = .int .i64 j ∧ v = .slice va m c ∧ m ≤ c ∧ Hid (D.length = m) ∧ Hid (StrsAt wr va D) ∧ Hid (va = none → c = 0) ∧ Hid (FitS D) ∧ m ≤ maxLen ∧ Hid (fitsF3 D (L.drop j) = b) ∧ Below w.heap.size w wr) (fun _ kk _ => n - (intOf kk).toNat)
 case atStart => exact ⟨0, cn, cc, ca, C, Nat.zero_le _, rfl, rfl, hcC, HCN, hid (HC.out.below hx1), hid hnil, HF, hcM, by rw [List.drop_zero]; exact HB, hx1⟩
 case round =>
  obtain ⟨j, mj, cj, va, D, hj, rfl, rfl, hmc, hDl, hDC, hDn, hDF, hDM, hS, hbw⟩ := hrel
  have hi0 : (0 : Int) ≤ (j : Int) := by omega
  by_cases hlt : j < n
  · have hi2 : (j : Int) < (n : Int) := by omega
   have hlk : j < L.length := by rw [HN.out]; exact hlt
   obtain ⟨g1, o1, na1, nc1, sa1, sc1, rfl, hgw1, ⟨c0, c1, c2, c3, c4, c5, c6⟩, hsv⟩ := HL.out.below hbw j hlk
   have hst := hS.out
   rw [fits_drop D L j hlk] at hst
   generalize L[j]'hlk = s at c0 c1 c2 c3 c4 c5 c6 hsv hst
   obtain ⟨kd, nm1, N, S, dn, ct, sk⟩ := s
   dsimp only at c0 c1 c2 c3 c4 c5 c6 hst
   obtain ⟨nn, hnn⟩ : ∃ m, N.length = m := ⟨_, rfl⟩
   obtain ⟨sn, hsn⟩ : ∃ m, S.length = m := ⟨_, rfl⟩
   rw [hnn] at c2
   rw [hsn] at c3
   obtain ⟨D1, k1, hD1⟩ : ∃ D1 k1, stepShapeR [] D ⟨kd, nm1, N, S, dn, ct, sk⟩ = (D1, k1) := ⟨_, _, rfl⟩
   rw [hD1] at hst
   dsimp only at hst
   obtain ⟨kb, hkb⟩ : ∃ kb, (decide (2 ≤ kd) && decide (kd ≤ 4)) = kb := ⟨_, rfl⟩
   rw [hkb] at hst
   have HIN := hid (fun wz => l1in_spec kd 2 4 kb hkb wz)
   have CC := hid (fun wz (hz : Below wr.heap.size wr wz) => stepshape_spec none 0 0 [] rfl va mj cj D hDl.out kd nm1 na1 nn nc1 N hnn sa1 sn sc1 S hsn dn ct sk wz (fun i h => absurd h (Nat.not_lt_zero _)) (hDC.out.below hz) hDn.out (hsv.below hz) hDF.out hDM hmc (by decide) D1 k1 hD1)
   have HOKD := hid (p := k1 = 0 → namesB D1 1 6 = true) (by
     intro e
     subst e
     exact (stepShape_names hD1).1)
   have HST := hid hst
   clear hst hsv hD1 hnn hsn hlk hDl hDC hDn hDF hS hkb
   go_wp2_with fail
   refine (HIN.out _).mono ?_
   rintro e w2 ⟨rfl, rfl⟩
   cases kb
   · obtain rfl : b = false := by have := HST.out; rw [Bool.false_and] at this; exact this.symm
    clear HST HOKD CC HIN
    go_wp2
    go_ret
    exact ⟨rfl, hbw⟩
   go_wp2_with fail
   refine (CC.out _ (Below.refl _ _)).mono ?_
   rintro e w3 ⟨g3, m3, c3', hm3, rfl, hmc3, ho3, hb3⟩
   have hx3 := chain hbw hb3
   have O3 := hid (p := StrsAt w3 (some ⟨g3, 0, none⟩) D1) (own_strs (by rw [hm3]; exact ho3))
   have OL := hid hm3
   clear hm3 ho3 hb3 c0 c1 c2 c3 c4 c5 c6 CC HIN
   by_cases hk : k1 = 0
   · subst hk
    obtain ⟨hF3, hl3⟩ := names_fits (HOKD.out rfl)
    rw [OL.out] at hl3
    have HF3 := hid hF3
    have HS3 := hid (p := fitsF3 D1 (L.drop (j + 1)) = b) (by
     have h := HST.out
     rw [Bool.true_and, decide_eq_true rfl, Bool.true_and] at h
     exact h)
    have hm3M : m3 ≤ maxLen := by unfold maxLen; omega
    clear HST HOKD hF3
    go_wp2
    go_roundw
    case rel => exact ⟨j + 1, m3, c3', some ⟨g3, 0, none⟩, D1, by omega, by go_num, rfl, hmc3, OL, O3, hid (fun e => by cases e), HF3, hm3M, HS3, hx3⟩
    case measure => simp [intOf]; omega
   · have hk' : (k1 != 0) = true := by simp [hk]
    obtain rfl : b = false := by
     have h := HST.out
     rw [Bool.true_and, decide_eq_false hk, Bool.false_and] at h
     exact h.symm
    clear HST HOKD hk
    go_wp2
    go_ret
    exact ⟨rfl, hx3⟩
  · have hkl : j = n := by omega
   subst hkl
   have hi2 : ¬ (j : Int) < (j : Int) := by omega
   obtain rfl : b = true := by
    have h := hS.out
    rw [List.drop_eq_nil_of_le (by rw [HN.out]; exact Nat.le_refl _)] at h
    exact h.symm
   clear hS hlt hDl hDC hDn hDF
   go_wp2
   go_ret
   exact ⟨rfl, hbw⟩
end Go.Proofs.YtjjkdbmjloolaaaGreatDoor
