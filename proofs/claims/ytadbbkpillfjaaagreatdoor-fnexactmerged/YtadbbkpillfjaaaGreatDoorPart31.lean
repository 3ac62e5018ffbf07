/-
  A part of the proof: SpM1.
-/
import Derived.Test.YtadbbkpillfjaaaGreatDoorPart25
import Derived.Test.YtadbbkpillfjaaaGreatDoorPart30
import Derived.Deep.RegionHeld3

/-
  The model's l13Merge: two sieves made one.
-/
namespace Go.Proofs.YtadbbkpillfjaaaGreatDoor
open Go.ChangeShapes Go.WideShapes Go.ChangeAt Go.RowKit
attribute [local go_sem ↓] Go.wp_at_zero Go.wp_at_succ
attribute [local simp] World.cell?_alloc_past World.cell?_alloc_at World.frozen?_alloc_at cell_far cell_off cell_here World.frozen?_alloc_past

/-- Heads put behind a row. -/
theorem RowV.app {w w' : World} {base n m : Nat} {v v' : Value} {P R : List (SV × HAd)} (h : RowV w base v P n) (hlen : R.length = m) (hR : ∀ p ∈ R, SivNew w base p.2 p.1) (hfar : ∀ p ∈ R, ∀ b, listB p b → v.ownBlock ≠ some b) (hnil : ∀ p ∈ R, p.2.sa = none → p.2.sc = 0)
    (hown : w'.ownsRow base 38 7 v' (n + m) (hvS (P ++ R))) (hgrow : w.grownBy w' v.ownBlock) (hloc : v'.ownBlock = v.ownBlock ∨ v'.ownBlock = some w.heap.size) : RowV w' base v' (P ++ R) (n + m) := by
  have KG := KeepS.grown hgrow
  have hnew : ∀ p ∈ P ++ R, SivNew w base p.2 p.1 ∧ (∀ b, listB p b → v.ownBlock ≠ some b) ∧ (p.2.sa = none → p.2.sc = 0) := by
    intro p hp
    rcases List.mem_append.1 hp with hp | hp
    · exact ⟨h.new p hp, h.far p hp, h.nilI p hp⟩
    · exact ⟨hR p hp, hfar p hp, hnil p hp⟩
  refine ⟨hown, by rw [List.length_append, h.len, hlen], fun p hp => (hnew p hp).1.keepS KG (fun b hb e => (hnew p hp).2.1 b hb e.symm), fun p hp b hb e => ?_, fun p hp => (hnew p hp).2.2⟩
  rcases hloc with e1 | e1
  · rw [e1] at e
    exact (hnew p hp).2.1 b hb e
  · rw [e1] at e
    injection e with e
    have := (hnew p hp).1.lt b hb
    omega
theorem three_boxes (w : World) (x y z : Obj) : ∃ E0, (((w.alloc x).alloc y).alloc z) = E0 ∧ Below w.heap.size w E0 ∧ E0.heap[w.heap.size]? = some x ∧ E0.heap[w.heap.size + 1]? = some y ∧ E0.heap[w.heap.size + 1 + 1]? = some z ∧ E0.heap.size = w.heap.size + 3 := by
  obtain ⟨F, hF, hB, h1, h2⟩ := two_boxes w x y
  have hs : F.heap.size = w.heap.size + 2 := by rw [← hF]; simp
  refine ⟨_, rfl, ?_, ?_, ?_, ?_, ?_⟩
  · rw [hF]; exact hB.alloc (by omega) _
  · rw [hF]; exact (_root_.Go.heap_alloc_old _ _ (by omega)).trans h1
  · rw [hF]; exact (_root_.Go.heap_alloc_old _ _ (by omega)).trans h2
  · rw [hF, ← hs]; exact _root_.Go.heap_alloc_new _ _
  · simp
/-- What is answered of two: one made of both, or that they are not one. -/
def MergeOut (w : World) (s t : SV) (p : HAd) (e : Ending) (w' : World) : Prop :=
  Below w.heap.size w w' ∧ ((mergeR s t = none ∧ e = .returned (.tuple #[.agg (headSv s p).toArray, .bool false])) ∨ ∃ r x, mergeR s t = some [x] ∧ e = .returned (.tuple #[.agg (headSv x r).toArray, .bool true]) ∧ SivNew w' w.heap.size r x ∧ (r.sa = none → r.sc = 0))
/-- Items in a row of one's own, put behind each other. -/
structure SumRow (w W : World) (v : Value) (X : List TI) (n : Nat) : Prop where
  below : Below w.heap.size w W
  own : W.ownsRow w.heap.size 56 5 v n (flatItm X)
  len : X.length = n
  yes : v ≠ .slice none 0 0
def OneAt (W : World) (g : Nat) : Prop := ItmAt W (some ⟨g, 0, none⟩) [opI 9]
def OneBy (W : World) (v : Value) (g : Nat) : Prop := OneAt W g ∧ v.ownBlock ≠ some g
theorem OneAt.lt {W : World} {g : Nat} (h : OneAt W g) : g < W.heap.size := by
  obtain ⟨b, o, e, hl, _⟩ := h 0 (by simp)
  cases e
  exact hl
theorem SumRow.empty {w W : World} (h : Below w.heap.size w W) : SumRow w (W.alloc (.cells #[] 56)) (.slice (some ⟨W.heap.size, 0, none⟩) 0 0) [] 0 :=
  ⟨h.alloc h.size _, own_emptyI W _ h.size, rfl, by simp⟩
theorem SumRow.alloc {w W : World} {v : Value} {X : List TI} {n : Nat} (h : SumRow w W v X n) (ob : Obj) : SumRow w (W.alloc ob) v X n :=
  ⟨h.below.alloc h.below.size _, own_below h.own ((Below.refl _ _).alloc (Nat.le_refl _) _), h.len, h.yes⟩
theorem SumRow.drew {w W : World} {v : Value} {X : List TI} {n : Nat} (h : SumRow w W v X n) : SumRow w W.drew v X n := ⟨h.below.drew, h.own, h.len, h.yes⟩
theorem OneAt.drew {W : World} {g : Nat} (h : OneAt W g) : OneAt W.drew g := h.below (Below.refl _ _).drew
theorem OneBy.drew {W : World} {v : Value} {g : Nat} (h : OneBy W v g) : OneBy W.drew v g := ⟨h.1.drew, h.2⟩
theorem one_new (W : World) : OneAt (W.alloc (.cells #[.int .i64 9, .int .i64 0, .int .i64 0, .string ⟨#[]⟩, .string ⟨#[]⟩] 56)) W.heap.size := by
  have c : ∀ (j : Nat), (W.alloc (.cells #[.int .i64 9, .int .i64 0, .int .i64 0, .string ⟨#[]⟩, .string ⟨#[]⟩] 56)).cell? ⟨W.heap.size, j, none⟩ = (#[Value.int .i64 9, .int .i64 0, .int .i64 0, .string ⟨#[]⟩, .string ⟨#[]⟩] : Array Value)[j]? := fun j => by
    unfold World.cell?
    rw [show (W.alloc (.cells #[.int .i64 9, .int .i64 0, .int .i64 0, .string ⟨#[]⟩, .string ⟨#[]⟩] 56)).heap[W.heap.size]? = _ from _root_.Go.heap_alloc_new _ _]
    rfl
  intro i hi
  have hi0 : i = 0 := by simp at hi; omega
  subst hi0
  exact ⟨W.heap.size, 0, rfl, by simp, c 0, c 1, c 2, c 3, c 4⟩
theorem OneAt.empty {W : World} {g : Nat} (h : OneAt W g) : OneBy (W.alloc (.cells #[] 56)) (.slice (some ⟨W.heap.size, 0, none⟩) 0 0) g :=
  ⟨h.below ((Below.refl _ _).alloc (Nat.le_refl _) _), by have := h.lt; simp [Value.ownBlock]; omega⟩
theorem SumRow.one {w W : World} {v : Value} {X : List TI} {n : Nat} (h : SumRow w W v X n) : OneBy (W.alloc (.cells #[.int .i64 9, .int .i64 0, .int .i64 0, .string ⟨#[]⟩, .string ⟨#[]⟩] 56)) v W.heap.size :=
  ⟨one_new W, fun e => by have := (h.own.lt _ e).2; omega⟩
theorem SumRow.app {w W : World} {v : Value} {X : List TI} {n : Nat} (h : SumRow w W v X n) (ty : TypeId) (a : Option Addr) (m c : Nat) (S : List TI) (hl : S.length = m) (hs : ItmAt W a S) (hnil : a = none → c = 0) (hm : n + m ≤ 1048576) (k : Nat) (hk : n + m = k) :
    ∃ v' W', (Builtin.append_ #[36, 36] ty #[v, .slice a m c]).run Tryz.prog W = .ok v' W' ∧ SumRow w W' v' (X ++ S) k ∧ (∀ g, OneBy W v g → OneBy W' v' g) := by
  subst hk
  obtain ⟨v', W', hr, ho, hg, hv, hloc⟩ := run_append_itms_at (w := W) ty w.heap.size v X n h.len h.own h.yes a m c S hl hs hnil hm h.below.size
  refine ⟨v', W', hr, ⟨h.below.grown hg h.below.size (fun k hk => (h.own.lt k hk).1), ho, by rw [List.length_append, h.len, hl], hv⟩, fun g hb => ⟨hb.1.keepS (KeepS.grown hg) (fun b hbb e => ?_), fun e => ?_⟩⟩
  · obtain ⟨_, o, e2⟩ := hbb
    cases e2
    exact hb.2 e.symm
  · rcases hloc with e1 | e1
    · exact hb.2 (e1.symm.trans e)
    · rw [e1] at e
      injection e with e
      have := hb.1.lt
      omega
theorem SumRow.form {w W : World} {v : Value} {X : List TI} {n : Nat} (h : SumRow w W v X n) : ∃ g c, v = .slice (some ⟨g, 0, none⟩) n c := by
  rcases h.own.2 with ⟨e, _⟩ | ⟨g, c, cur, e, _⟩
  · exact absurd e h.yes
  · exact ⟨g, c, e⟩
/-- An append whose run is known, as an operation. -/
theorem op_app {w : World} {o : Oper} {a : Act} {K : Act → World → Prop} {Q : Exit → Act → World → Prop} (s x : Operand) (t u : TypeId) (ho : o.op = .call { callee := .builtin .append, args := #[s, x], argTypes := #[t, u] }) (vs vx : Value) (hs : a.eval s = vs) (hx : a.eval x = vx) (v' : Value) (w' : World) (hr : (Builtin.append_ #[t, u] o.type #[vs, vx]).run Tryz.prog w = .ok v' w') (h : K (a.put o.dst v') w') : o.wp Tryz.prog a w K Q := by
  unfold Oper.wp execOp
  simp only [ho, resolve, invoke, builtin, Sem.run_bind, Sem.run_pure, Result.andThen_ok, List.map_toArray, List.map_cons, List.map_nil, hs, hx, hr]
  exact h
theorem l13min_spec (x y : Int) (w : World) : Calls Tryz.prog 30 #[.int .i64 x, .int .i64 y] w fun e w' => e = .returned (.int .i64 (min x y)) ∧ w' = w := by
  by_cases h : x < y
  · rw [show min x y = x by omega]
    go_enter Tryz.func30, Tryz.ntmps30
    go_wp2
    go_ret
    exact ⟨rfl, rfl⟩
  · rw [show min x y = y by omega]
    go_enter Tryz.func30, Tryz.ntmps30
    go_wp2
    go_ret
    exact ⟨rfl, rfl⟩
set_option maxRecDepth 100000 in
set_option maxHeartbeats 4000000 in
theorem l13merge_spec (kd : Int) (nm : ByteArray) (na : Option Addr) (nn nc : Nat) (N : List ByteArray) (hnn : N.length = nn) (sa : Option Addr) (sn sc : Nat) (S : List TI) (hsn : S.length = sn) (dn : Bool) (ct sk : Int) (kt : Int) (mt : ByteArray) (ma : Option Addr) (mn mc : Nat) (M : List ByteArray) (hmn : M.length = mn) (ra : Option Addr) (rn rc : Nat) (R : List TI) (hrn : R.length = rn) (dt : Bool) (tt st : Int) (w : World) (hs : SivAt w na nc sa ⟨kd, nm, N, S, dn, ct, sk⟩) (ht : SivAt w ma mc ra ⟨kt, mt, M, R, dt, tt, st⟩) (oks : OkM ⟨kd, nm, N, S, dn, ct, sk⟩) (okt : OkM ⟨kt, mt, M, R, dt, tt, st⟩) (hns : sa = none → sc = 0) (hnr : ra = none → rc = 0) :
    Calls Tryz.prog 14 #[.agg #[.int .i64 kd, .string nm, .slice na nn nc, .slice sa sn sc, .bool dn, .int .i64 ct, .int .i64 sk], .agg #[.int .i64 kt, .string mt, .slice ma mn mc, .slice ra rn rc, .bool dt, .int .i64 tt, .int .i64 st]] w (MergeOut w ⟨kd, nm, N, S, dn, ct, sk⟩ ⟨kt, mt, M, R, dt, tt, st⟩ ⟨na, nc, sa, sc⟩) := by
  have HS : Hid (SivAt w na nc sa ⟨kd, nm, N, S, dn, ct, sk⟩) := hs
  have HT : Hid (SivAt w ma mc ra ⟨kt, mt, M, R, dt, tt, st⟩) := ht
  have HOS : Hid (OkM ⟨kd, nm, N, S, dn, ct, sk⟩) := oks
  have HOT : Hid (OkM ⟨kt, mt, M, R, dt, tt, st⟩) := okt
  have HNN : Hid (N.length = nn) := hnn
  have HSN : Hid (S.length = sn) := hsn
  have HMN : Hid (M.length = mn) := hmn
  have HRN : Hid (R.length = rn) := hrn
  have HNS : Hid (sa = none → sc = 0) := hns
  have HNR : Hid (ra = none → rc = 0) := hnr
  obtain ⟨z1, hz1⟩ : ∃ x, sureR S = x := ⟨_, rfl⟩
  obtain ⟨z2, hz2⟩ : ∃ x, sureR R = x := ⟨_, rfl⟩
  have HZ1 : Hid (sureR S = z1) := hz1
  have HZ2 : Hid (sureR R = z2) := hz2
  have C1 : Hid (∀ w', Below w.heap.size w w' → Calls Tryz.prog 29 #[.slice sa sn sc] w' fun e w'' => e = .returned (.bool z1) ∧ Below w'.heap.size w' w'') := by
    have h : ∀ w', Below w.heap.size w w' → Calls Tryz.prog 29 #[.slice sa sn sc] w' fun e w'' => e = .returned (.bool z1) ∧ Below w'.heap.size w' w'' := fun w' hw => sure_spec sa sc S sn hsn w' (hs.sum.below hw) hs.fitI (by rw [← hsn]; exact hs.lenI) z1 hz1
    exact h
  have C2 : Hid (∀ w', Below w.heap.size w w' → Calls Tryz.prog 29 #[.slice ra rn rc] w' fun e w'' => e = .returned (.bool z2) ∧ Below w'.heap.size w' w'') := by
    have h : ∀ w', Below w.heap.size w w' → Calls Tryz.prog 29 #[.slice ra rn rc] w' fun e w'' => e = .returned (.bool z2) ∧ Below w'.heap.size w' w'' := fun w' hw => sure_spec ra rc R rn hrn w' (ht.sum.below hw) ht.fitI (by rw [← hrn]; exact ht.lenI) z2 hz2
    exact h
  obtain ⟨E0, hE0, hA, hBS, hBT, hBR, hsz⟩ := three_boxes w (.cells #[.int .i64 kd, .string nm, .slice na nn nc, .slice sa sn sc, .bool dn, .int .i64 ct, .int .i64 sk] 38) (.cells #[.int .i64 kt, .string mt, .slice ma mn mc, .slice ra rn rc, .bool dt, .int .i64 tt, .int .i64 st] 38) (.cells #[.int .i64 0, .string ⟨#[]⟩, .slice none 0 0, .slice none 0 0, .bool false, .int .i64 0, .int .i64 0] 38)
  have HBS : Hid (E0.heap[w.heap.size]? = some (.cells #[.int .i64 kd, .string nm, .slice na nn nc, .slice sa sn sc, .bool dn, .int .i64 ct, .int .i64 sk] 38)) := hBS
  have HBT : Hid (E0.heap[w.heap.size + 1]? = some (.cells #[.int .i64 kt, .string mt, .slice ma mn mc, .slice ra rn rc, .bool dt, .int .i64 tt, .int .i64 st] 38)) := hBT
  have HBR : Hid (E0.heap[w.heap.size + 1 + 1]? = some (.cells #[.int .i64 0, .string ⟨#[]⟩, .slice none 0 0, .slice none 0 0, .bool false, .int .i64 0, .int .i64 0] 38)) := hBR
  have HE0 : Hid ((((w.alloc (.cells #[.int .i64 kd, .string nm, .slice na nn nc, .slice sa sn sc, .bool dn, .int .i64 ct, .int .i64 sk] 38)).alloc (.cells #[.int .i64 kt, .string mt, .slice ma mn mc, .slice ra rn rc, .bool dt, .int .i64 tt, .int .i64 st] 38)).alloc (.cells #[.int .i64 0, .string ⟨#[]⟩, .slice none 0 0, .slice none 0 0, .bool false, .int .i64 0, .int .i64 0] 38)) = E0) := hE0
  have HSZ : Hid (E0.heap.size = w.heap.size + 3) := hsz
  have P0 := Kept.refl w.heap.size E0
  clear hs ht oks okt hnn hsn hmn hrn hns hnr hz1 hz2 hE0 hBS hBT hBR hsz
  go_enter Tryz.func14, Tryz.ntmps14
  obtain ⟨p0, p1, p2, p3, p4, p5, p6⟩ := cells7 HBS.out
  obtain ⟨t0, t1, t2, t3, t4, t5, t6⟩ := cells7 HBT.out
  rw [← HE0.out] at p0 p1 p2 p3 p4 p5 p6 t0 t1 t2 t3 t4 t5 t6
  have FZ : Hid (∀ o, E0.frozen? ⟨w.heap.size + 1 + 1, o, none⟩ = false) := by
    have h : ∀ o, E0.frozen? ⟨w.heap.size + 1 + 1, o, none⟩ = false := by intro o; rw [← HE0.out]; simp
    exact h
  have FZB : Hid (∀ W, Below E0.heap.size E0 W → ∀ o, W.frozen? ⟨w.heap.size + 1 + 1, o, none⟩ = false) := by
    have h : ∀ W, Below E0.heap.size E0 W → ∀ o, W.frozen? ⟨w.heap.size + 1 + 1, o, none⟩ = false := fun W hb o => ((bcell hb).2 _ _ (by have := HSZ.out; omega)).trans (FZ.out o)
    exact h
  have FINN : Hid (∀ W', Below w.heap.size w W' → mergeR ⟨kd, nm, N, S, dn, ct, sk⟩ ⟨kt, mt, M, R, dt, tt, st⟩ = none → MergeOut w ⟨kd, nm, N, S, dn, ct, sk⟩ ⟨kt, mt, M, R, dt, tt, st⟩ ⟨na, nc, sa, sc⟩ (.returned (.tuple #[.agg #[.int .i64 kd, .string nm, .slice na nn nc, .slice sa sn sc, .bool dn, .int .i64 ct, .int .i64 sk], .bool false])) W') := by
    have h : ∀ W', Below w.heap.size w W' → mergeR ⟨kd, nm, N, S, dn, ct, sk⟩ ⟨kt, mt, M, R, dt, tt, st⟩ = none → MergeOut w ⟨kd, nm, N, S, dn, ct, sk⟩ ⟨kt, mt, M, R, dt, tt, st⟩ ⟨na, nc, sa, sc⟩ (.returned (.tuple #[.agg #[.int .i64 kd, .string nm, .slice na nn nc, .slice sa sn sc, .bool dn, .int .i64 ct, .int .i64 sk], .bool false])) W' := by
      intro W' hb hm
      refine ⟨hb, .inl ⟨hm, ?_⟩⟩
      simp [headSv, HNN.out, HSN.out]
    exact h
  have hsz2 : w.heap.size ≤ w.heap.size + 1 + 1 := by omega
  by_cases k2 : kd = 2
  · subst k2
    by_cases t2 : kt = 2
    · subst t2
      go_wp2_with fail
      rw [HE0.out]
      clear p0 p1 p2 p3 p4 p5 p6 t0 t1 t2 t3 t4 t5 t6
      refine (C1.out _ hA).mono ?_
      rintro e w1 ⟨rfl, hb1⟩
      have P1 := P0.below hb1
      have hx := chain hA hb1
      have hs1 := hb1.size
      have HBB := hb1
      clear hb1
      obtain ⟨p0, p1, p2, p3, p4, p5, p6⟩ := cells7 (P1.box (Nat.le_refl _) HBS.out)
      obtain ⟨t0, t1, t2, t3, t4, t5, t6⟩ := cells7 (P1.box (by omega) HBT.out)
      obtain ⟨r0, r1, r2, r3, r4, r5, r6⟩ := cells7 (P1.box (by omega) HBR.out)
      have fz : ∀ o, w1.frozen? ⟨w.heap.size + 1 + 1, o, none⟩ = false := fun o => (FZB.out _ HBB o)

      cases z1
      ·
        have NONE : Hid (mergeR ⟨2, nm, N, S, dn, ct, sk⟩ ⟨2, mt, M, R, dt, tt, st⟩ = none) := by
          have h : mergeR ⟨2, nm, N, S, dn, ct, sk⟩ ⟨2, mt, M, R, dt, tt, st⟩ = none := by
            unfold mergeR
            simp [show sureR S = false from HZ1.out]
          exact h

        go_wp2_with fail
        refine bodyPost_ret (v := .tuple #[.agg #[.int .i64 2, .string nm, .slice na nn nc, .slice sa sn sc, .bool dn, .int .i64 ct, .int .i64 sk], .bool false]) (by simp [results, Tryz.results14, go_sem, r0, r1, r2, r3, r4, r5, r6]) rfl ?_
        exact FINN.out _ (((((((hx.setCell (p := ⟨w.heap.size + 1 + 1, 0, none⟩) hsz2 _).setCell (p := ⟨w.heap.size + 1 + 1, 1, none⟩) hsz2 _).setCell (p := ⟨w.heap.size + 1 + 1, 2, none⟩) hsz2 _).setCell (p := ⟨w.heap.size + 1 + 1, 3, none⟩) hsz2 _).setCell (p := ⟨w.heap.size + 1 + 1, 4, none⟩) hsz2 _).setCell (p := ⟨w.heap.size + 1 + 1, 5, none⟩) hsz2 _).setCell (p := ⟨w.heap.size + 1 + 1, 6, none⟩) hsz2 _) NONE.out

      go_wp2_with fail
      refine (C2.out _ hx).mono ?_
      rintro e w2 ⟨rfl, hb2⟩
      have P2 := P1.below hb2
      replace HBB := chain HBB hb2
      replace hx := chain hx hb2
      have hs2 := hb2.size
      clear hb2 p0 p1 p2 p3 p4 p5 p6 t0 t1 t2 t3 t4 t5 t6 r0 r1 r2 r3 r4 r5 r6 fz
      obtain ⟨p0, p1, p2, p3, p4, p5, p6⟩ := cells7 (P2.box (Nat.le_refl _) HBS.out)
      obtain ⟨t0, t1, t2, t3, t4, t5, t6⟩ := cells7 (P2.box (by omega) HBT.out)
      obtain ⟨r0, r1, r2, r3, r4, r5, r6⟩ := cells7 (P2.box (by omega) HBR.out)
      have fz : ∀ o, w2.frozen? ⟨w.heap.size + 1 + 1, o, none⟩ = false := fun o => (FZB.out _ HBB o)

      cases z2
      ·
        have NONE : Hid (mergeR ⟨2, nm, N, S, dn, ct, sk⟩ ⟨2, mt, M, R, dt, tt, st⟩ = none) := by
          have h : mergeR ⟨2, nm, N, S, dn, ct, sk⟩ ⟨2, mt, M, R, dt, tt, st⟩ = none := by
            unfold mergeR
            simp [show sureR R = false from HZ2.out]
          exact h

        go_wp2_with fail
        refine bodyPost_ret (v := .tuple #[.agg #[.int .i64 2, .string nm, .slice na nn nc, .slice sa sn sc, .bool dn, .int .i64 ct, .int .i64 sk], .bool false]) (by simp [results, Tryz.results14, go_sem, r0, r1, r2, r3, r4, r5, r6]) rfl ?_
        exact FINN.out _ (((((((hx.setCell (p := ⟨w.heap.size + 1 + 1, 0, none⟩) hsz2 _).setCell (p := ⟨w.heap.size + 1 + 1, 1, none⟩) hsz2 _).setCell (p := ⟨w.heap.size + 1 + 1, 2, none⟩) hsz2 _).setCell (p := ⟨w.heap.size + 1 + 1, 3, none⟩) hsz2 _).setCell (p := ⟨w.heap.size + 1 + 1, 4, none⟩) hsz2 _).setCell (p := ⟨w.heap.size + 1 + 1, 5, none⟩) hsz2 _).setCell (p := ⟨w.heap.size + 1 + 1, 6, none⟩) hsz2 _) NONE.out

      have hs40 : sn ≤ 40 := by have h := HOS.out.2.2.1 rfl; dsimp only at h; rw [HSN.out] at h; exact h
      have hr40 : rn ≤ 40 := by have h := HOT.out.2.2.1 rfl; dsimp only at h; rw [HRN.out] at h; exact h
      by_cases h40 : sn + rn < 40
      case neg =>
        have h40' : ¬ (sn : Int) + (rn : Int) < 40 := by omega
        have NONE : Hid (mergeR ⟨2, nm, N, S, dn, ct, sk⟩ ⟨2, mt, M, R, dt, tt, st⟩ = none) := by
          have h : mergeR ⟨2, nm, N, S, dn, ct, sk⟩ ⟨2, mt, M, R, dt, tt, st⟩ = none := by
            unfold mergeR
            simp [show S.length = sn from HSN.out, show R.length = rn from HRN.out, h40]
          exact h

        go_wp2_with fail
        refine bodyPost_ret (v := .tuple #[.agg #[.int .i64 2, .string nm, .slice na nn nc, .slice sa sn sc, .bool dn, .int .i64 ct, .int .i64 sk], .bool false]) (by simp [results, Tryz.results14, go_sem, r0, r1, r2, r3, r4, r5, r6]) rfl ?_
        exact FINN.out _ (((((((hx.setCell (p := ⟨w.heap.size + 1 + 1, 0, none⟩) hsz2 _).setCell (p := ⟨w.heap.size + 1 + 1, 1, none⟩) hsz2 _).setCell (p := ⟨w.heap.size + 1 + 1, 2, none⟩) hsz2 _).setCell (p := ⟨w.heap.size + 1 + 1, 3, none⟩) hsz2 _).setCell (p := ⟨w.heap.size + 1 + 1, 4, none⟩) hsz2 _).setCell (p := ⟨w.heap.size + 1 + 1, 5, none⟩) hsz2 _).setCell (p := ⟨w.heap.size + 1 + 1, 6, none⟩) hsz2 _) NONE.out

      have h40' : (sn : Int) + (rn : Int) < 40 := by omega
      have FINY : Hid (∀ W' g c, SumRow w2 W' (.slice (some ⟨g, 0, none⟩) (sn + rn + 1) c) (S ++ R ++ [opI 9]) (sn + rn + 1) → MergeOut w ⟨2, nm, N, S, dn, ct, sk⟩ ⟨2, mt, M, R, dt, tt, st⟩ ⟨na, nc, sa, sc⟩ (.returned (.tuple #[.agg #[.int .i64 2, .string ⟨#[]⟩, .slice none 0 0, .slice (some ⟨g, 0, none⟩) (sn + rn + 1) c, .bool false, .int .i64 0, .int .i64 0], .bool true])) (((((((W'.setCell ⟨w.heap.size + 1 + 1, 0, none⟩ (.int .i64 2)).setCell ⟨w.heap.size + 1 + 1, 1, none⟩ (.string ⟨#[]⟩)).setCell ⟨w.heap.size + 1 + 1, 2, none⟩ (.slice none 0 0)).setCell ⟨w.heap.size + 1 + 1, 3, none⟩ (.slice (some ⟨g, 0, none⟩) (sn + rn + 1) c)).setCell ⟨w.heap.size + 1 + 1, 4, none⟩ (.bool false)).setCell ⟨w.heap.size + 1 + 1, 5, none⟩ (.int .i64 0)).setCell ⟨w.heap.size + 1 + 1, 6, none⟩ (.int .i64 0))) := by
        have h : ∀ W' g c, SumRow w2 W' (.slice (some ⟨g, 0, none⟩) (sn + rn + 1) c) (S ++ R ++ [opI 9]) (sn + rn + 1) → MergeOut w ⟨2, nm, N, S, dn, ct, sk⟩ ⟨2, mt, M, R, dt, tt, st⟩ ⟨na, nc, sa, sc⟩ (.returned (.tuple #[.agg #[.int .i64 2, .string ⟨#[]⟩, .slice none 0 0, .slice (some ⟨g, 0, none⟩) (sn + rn + 1) c, .bool false, .int .i64 0, .int .i64 0], .bool true])) (((((((W'.setCell ⟨w.heap.size + 1 + 1, 0, none⟩ (.int .i64 2)).setCell ⟨w.heap.size + 1 + 1, 1, none⟩ (.string ⟨#[]⟩)).setCell ⟨w.heap.size + 1 + 1, 2, none⟩ (.slice none 0 0)).setCell ⟨w.heap.size + 1 + 1, 3, none⟩ (.slice (some ⟨g, 0, none⟩) (sn + rn + 1) c)).setCell ⟨w.heap.size + 1 + 1, 4, none⟩ (.bool false)).setCell ⟨w.heap.size + 1 + 1, 5, none⟩ (.int .i64 0)).setCell ⟨w.heap.size + 1 + 1, 6, none⟩ (.int .i64 0)) := by
          intro W' g c hrow
          have hm : mergeR ⟨2, nm, N, S, dn, ct, sk⟩ ⟨2, mt, M, R, dt, tt, st⟩ = some [⟨2, ⟨#[]⟩, [], S ++ R ++ [opI 9], false, 0, 0⟩] := by
            unfold mergeR
            rw [if_pos]
            simp [show sureR S = true from HZ1.out, show sureR R = true from HZ2.out, show S.length = sn from HSN.out, show R.length = rn from HRN.out, h40]
          have hok := merge_ok HOS.out HOT.out hm _ (List.mem_cons_self ..)
          have hbb := chain hx hrow.below
          have hl : (S ++ R ++ [opI 9]).length = sn + rn + 1 := hrow.len
          have KF := ((((((((KeepS.refl (fun b => b = w.heap.size + 1 + 1) W').setCell (p := ⟨w.heap.size + 1 + 1, 0, none⟩) rfl (.int .i64 2)).setCell (p := ⟨w.heap.size + 1 + 1, 1, none⟩) rfl (.string ⟨#[]⟩)).setCell (p := ⟨w.heap.size + 1 + 1, 2, none⟩) rfl (.slice none 0 0)).setCell (p := ⟨w.heap.size + 1 + 1, 3, none⟩) rfl (.slice (some ⟨g, 0, none⟩) (sn + rn + 1) c)).setCell (p := ⟨w.heap.size + 1 + 1, 4, none⟩) rfl (.bool false)).setCell (p := ⟨w.heap.size + 1 + 1, 5, none⟩) rfl (.int .i64 0)).setCell (p := ⟨w.heap.size + 1 + 1, 6, none⟩) rfl (.int .i64 0))
          have hgl := (hrow.own.lt g rfl).1
          have hIt : ItmAt W' (some ⟨g, 0, none⟩) (S ++ R ++ [opI 9]) := by
            have h := hrow.own
            rw [← hl] at h
            exact ownItm h
          refine ⟨(((((((hbb.setCell (p := ⟨w.heap.size + 1 + 1, 0, none⟩) hsz2 _).setCell (p := ⟨w.heap.size + 1 + 1, 1, none⟩) hsz2 _).setCell (p := ⟨w.heap.size + 1 + 1, 2, none⟩) hsz2 _).setCell (p := ⟨w.heap.size + 1 + 1, 3, none⟩) hsz2 _).setCell (p := ⟨w.heap.size + 1 + 1, 4, none⟩) hsz2 _).setCell (p := ⟨w.heap.size + 1 + 1, 5, none⟩) hsz2 _).setCell (p := ⟨w.heap.size + 1 + 1, 6, none⟩) hsz2 _), .inr ⟨⟨none, 0, some ⟨g, 0, none⟩, c⟩, _, hm, ?_, ⟨⟨fun i hi => by simp at hi, fun i hi => by simp at hi, by simp, by simp, fun _ => rfl, hIt.keepS KF (fun b hb e => by obtain ⟨_, o, e2⟩ := hb; cases e2; have := HSZ.out; omega), ?_, ?_, Nat.zero_le _⟩, ?_⟩, fun h => by cases h⟩⟩
          · unfold headSv
            rw [hl]
            rfl
          · refine fit_appItm (fit_appItm HS.out.fitI HT.out.fitI) (fun i hi => ?_)
            have hi0 : i = 0 := by simp at hi; omega
            subst hi0
            exact ⟨Nat.zero_le _, Nat.zero_le _⟩
          · have h := hok.2.2.1 rfl
            dsimp only at h ⊢
            unfold maxLen
            omega
          · rintro b (⟨h0, _⟩ | ⟨_, o, e2⟩)
            · exact absurd h0 (by simp)
            · cases e2
              have := HSZ.out
              omega
        exact h
      go_wp2_with fail
      have hq1 : w.heap.size < w2.heap.size := by have := HSZ.out; omega
      have hq2 : w.heap.size + 1 < w2.heap.size := by have := HSZ.out; omega
      have QS : Hid (w2.cell? ⟨w.heap.size, 3, none⟩ = some (.slice sa sn sc)) := p3
      have QT : Hid (w2.cell? ⟨w.heap.size + 1, 3, none⟩ = some (.slice ra rn rc)) := t3
      have BL0 : Hid (Below w2.heap.size w2 w2.drew) := (Below.refl _ _).drew
      clear p0 p1 p2 p3 p4 p5 p6 t0 t1 t2 t3 t4 t5 t6 r0 r1 r2 r3 r4 r5 r6 fz
      have q3 := QS.out
      have q4 := QT.out
      refine wp_region_held_drew (S := (fun w' => w'.cell? ⟨w.heap.size, 3, none⟩ = some (.slice sa sn sc) ∧ w'.cell? ⟨w.heap.size + 1, 3, none⟩ = some (.slice ra rn rc))) (by kernel_rfl) ?_ (fun hHeld => ?_)
      · (((try dsimp only); (repeat' apply And.intro) <;> first | (go_keep; done) | (simp (disch := first | omega | (simp <;> omega) | fail) [*]; done) | fail))
      refine wpAnyH_take (i := 1) (by simp only [List.getElem?_toArray, List.getElem?_cons_zero, List.getElem?_cons_succ]; rfl) (by kernel_rfl) (by kernel_rfl) (by kernel_rfl) (by intro _ _ _ h; exact h) (Or.inl ⟨by rfl, fun w hSw => by (dsimp only at hSw; go_simp; (try with_reducible rfl))⟩) (by assumption) ?_
      simp only [Act.put, List.setIfInBounds_toArray, List.set_cons_zero, List.set_cons_succ]
      refine wpAnyH_take (i := 2) (by simp only [List.getElem?_toArray, List.getElem?_cons_zero, List.getElem?_cons_succ]; rfl) (by kernel_rfl) (by kernel_rfl) (by kernel_rfl) (by intro _ _ _ h; exact h) (Or.inl ⟨by rfl, fun w hSw => by (dsimp only at hSw; go_simp; (try with_reducible rfl))⟩) (by assumption) ?_
      simp only [Act.put, List.setIfInBounds_toArray, List.set_cons_zero, List.set_cons_succ]
      refine wpAnyH_take (i := 4) (by simp only [List.getElem?_toArray, List.getElem?_cons_zero, List.getElem?_cons_succ]; rfl) (by kernel_rfl) (by kernel_rfl) (by kernel_rfl) (by intro _ _ _ h; exact h) (Or.inl ⟨by rfl, fun w hSw => by (dsimp only at hSw; go_simp; (try with_reducible rfl))⟩) (by assumption) ?_
      simp only [Act.put, List.setIfInBounds_toArray, List.set_cons_zero, List.set_cons_succ]
      refine wpAnyH_take (i := 5) (by simp only [List.getElem?_toArray, List.getElem?_cons_zero, List.getElem?_cons_succ]; rfl) (by kernel_rfl) (by kernel_rfl) (by kernel_rfl) (by intro _ _ _ h; exact h) (Or.inl ⟨by rfl, fun w hSw => by (dsimp only at hSw; go_simp; (try with_reducible rfl))⟩) (by assumption) ?_
      simp only [Act.put, List.setIfInBounds_toArray, List.set_cons_zero, List.set_cons_succ]
      refine wpAnyH_take (i := 7) (by simp only [List.getElem?_toArray, List.getElem?_cons_zero, List.getElem?_cons_succ]; rfl) (by kernel_rfl) (by kernel_rfl) (by kernel_rfl) (by intro _ _ _ h; exact h) (Or.inl ⟨by rfl, fun w hSw => by (dsimp only at hSw; go_simp; (try with_reducible rfl))⟩) (by assumption) ?_
      simp only [Act.put, List.setIfInBounds_toArray, List.set_cons_zero, List.set_cons_succ]
      refine wpAnyH_ready (rs := [0, 8]) (by kernel_rfl) (by simp) ?_
      refine AllReadyH.cons (by simp only [List.getElem?_toArray, List.getElem?_cons_zero]; rfl) ?_ (AllReadyH.cons (by simp only [List.getElem?_toArray, List.getElem?_cons_zero, List.getElem?_cons_succ]; rfl) ?_ AllReadyH.nil)
      · intro K hK
        go_simp
        obtain ⟨V1, hV⟩ : ∃ V, V = w2.alloc (.cells #[] 56) := ⟨_, rfl⟩
        obtain ⟨g1, hg⟩ : ∃ z, z = w2.heap.size := ⟨_, rfl⟩
        have BL1 : Hid (Below w2.heap.size w2 V1.drew) := by rw [hV]; exact BL0.out.alloc BL0.out.size (.cells #[] 56)
        have RW1 : Hid (SumRow w2 V1.drew (.slice (some ⟨g1, 0, none⟩) 0 0) [] 0) := by rw [hV, hg]; exact SumRow.empty (W := w2.drew) BL0.out
        rw [← hV, ← hg]
        clear hV hg
        clear q3 q4 hHeld
        have q3 : V1.drew.cell? ⟨w.heap.size, 3, none⟩ = some (.slice sa sn sc) := (BL1.out.cell (p := ⟨w.heap.size, 3, none⟩) hq1).trans QS.out
        have q4 : V1.drew.cell? ⟨w.heap.size + 1, 3, none⟩ = some (.slice ra rn rc) := (BL1.out.cell (p := ⟨w.heap.size + 1, 3, none⟩) hq2).trans QT.out
        refine hK.out _ _ ⟨q3, q4⟩ (fun hHeld => ?_)
        clear hK K
        try simp only [Act.put, List.setIfInBounds_toArray, List.set_cons_zero, List.set_cons_succ]
        refine wpAnyH_ready (rs := [3, 8]) (by kernel_rfl) (by simp) ?_
        refine AllReadyH.cons (by simp only [List.getElem?_toArray, List.getElem?_cons_zero, List.getElem?_cons_succ]; rfl) ?_ (AllReadyH.cons (by simp only [List.getElem?_toArray, List.getElem?_cons_zero, List.getElem?_cons_succ]; rfl) ?_ AllReadyH.nil)
        · intro K hK
          rw [if_pos (by rfl)]
          obtain ⟨v2, W2, hrun, hrow, hone⟩ := RW1.out.app 36 sa sn sc S HSN.out (HS.out.sum.below (chain hx BL1.out)) HNS.out (by omega) sn (Nat.zero_add _)
          obtain ⟨g2, c2, rfl⟩ := hrow.form
          have RW2 : Hid (SumRow w2 W2 (.slice (some ⟨g2, 0, none⟩) sn c2) S sn) := hrow
          have BL2 : Hid (Below w2.heap.size w2 W2) := hrow.below
          refine op_app (.tmp 35) (.tmp 37) 36 36 rfl _ _ rfl rfl _ _ hrun ?_
          clear hrun hrow hone
          clear q3 q4 hHeld
          have q3 : W2.cell? ⟨w.heap.size, 3, none⟩ = some (.slice sa sn sc) := (BL2.out.cell (p := ⟨w.heap.size, 3, none⟩) hq1).trans QS.out
          have q4 : W2.cell? ⟨w.heap.size + 1, 3, none⟩ = some (.slice ra rn rc) := (BL2.out.cell (p := ⟨w.heap.size + 1, 3, none⟩) hq2).trans QT.out
          refine hK.out _ _ ⟨q3, q4⟩ (fun hHeld => ?_)
          clear hK K
          try simp only [Act.put, List.setIfInBounds_toArray, List.set_cons_zero, List.set_cons_succ]
          refine wpAnyH_ready (rs := [6, 8]) (by kernel_rfl) (by simp) ?_
          refine AllReadyH.cons (by simp only [List.getElem?_toArray, List.getElem?_cons_zero, List.getElem?_cons_succ]; rfl) ?_ (AllReadyH.cons (by simp only [List.getElem?_toArray, List.getElem?_cons_zero, List.getElem?_cons_succ]; rfl) ?_ AllReadyH.nil)
          · intro K hK
            rw [if_pos (by rfl)]
            obtain ⟨v3, W3, hrun, hrow, hone⟩ := RW2.out.app 36 ra rn rc R HRN.out (HT.out.sum.below (chain hx BL2.out)) HNR.out (by omega) (sn + rn) rfl
            obtain ⟨g3, c3, rfl⟩ := hrow.form
            have RW3 : Hid (SumRow w2 W3 (.slice (some ⟨g3, 0, none⟩) (sn + rn) c3) (S ++ R) (sn + rn)) := hrow
            have BL3 : Hid (Below w2.heap.size w2 W3) := hrow.below
            refine op_app (.tmp 38) (.tmp 40) 36 36 rfl _ _ rfl rfl _ _ hrun ?_
            clear hrun hrow hone
            clear q3 q4 hHeld
            have q3 : W3.cell? ⟨w.heap.size, 3, none⟩ = some (.slice sa sn sc) := (BL3.out.cell (p := ⟨w.heap.size, 3, none⟩) hq1).trans QS.out
            have q4 : W3.cell? ⟨w.heap.size + 1, 3, none⟩ = some (.slice ra rn rc) := (BL3.out.cell (p := ⟨w.heap.size + 1, 3, none⟩) hq2).trans QT.out
            refine hK.out _ _ ⟨q3, q4⟩ (fun hHeld => ?_)
            clear hK K
            try simp only [Act.put, List.setIfInBounds_toArray, List.set_cons_zero, List.set_cons_succ]
            refine wpAnyH_ready (rs := [8]) (by kernel_rfl) (by simp) ?_
            refine AllReadyH.cons (by simp only [List.getElem?_toArray, List.getElem?_cons_zero, List.getElem?_cons_succ]; rfl) ?_ AllReadyH.nil
            intro K hK
            go_simp
            obtain ⟨V4, hV⟩ : ∃ V, V = W3.alloc (.cells #[.int .i64 9, .int .i64 0, .int .i64 0, .string ⟨#[]⟩, .string ⟨#[]⟩] 56) := ⟨_, rfl⟩
            obtain ⟨g4, hg⟩ : ∃ z, z = W3.heap.size := ⟨_, rfl⟩
            have BL4 : Hid (Below w2.heap.size w2 V4) := by rw [hV]; exact BL3.out.alloc BL3.out.size (.cells #[.int .i64 9, .int .i64 0, .int .i64 0, .string ⟨#[]⟩, .string ⟨#[]⟩] 56)
            have RW4 : Hid (SumRow w2 V4 (.slice (some ⟨g3, 0, none⟩) (sn + rn) c3) (S ++ R) (sn + rn)) := by rw [hV]; exact SumRow.alloc (W := W3) RW3.out (.cells #[.int .i64 9, .int .i64 0, .int .i64 0, .string ⟨#[]⟩, .string ⟨#[]⟩] 56)
            have ON4 : Hid (OneBy V4 (.slice (some ⟨g3, 0, none⟩) (sn + rn) c3) g4) := by rw [hV, hg]; exact SumRow.one (W := W3) RW3.out
            rw [← hV, ← hg]
            clear hV hg
            clear q3 q4 hHeld
            have q3 : V4.cell? ⟨w.heap.size, 3, none⟩ = some (.slice sa sn sc) := (BL4.out.cell (p := ⟨w.heap.size, 3, none⟩) hq1).trans QS.out
            have q4 : V4.cell? ⟨w.heap.size + 1, 3, none⟩ = some (.slice ra rn rc) := (BL4.out.cell (p := ⟨w.heap.size + 1, 3, none⟩) hq2).trans QT.out
            refine hK.out _ _ ⟨q3, q4⟩ (fun hHeld => ?_)
            clear hK K
            try simp only [Act.put, List.setIfInBounds_toArray, List.set_cons_zero, List.set_cons_succ]
            refine wpAnyH_ready (rs := [9]) (by kernel_rfl) (by simp) ?_
            refine AllReadyH.cons (by simp only [List.getElem?_toArray, List.getElem?_cons_zero, List.getElem?_cons_succ]; rfl) ?_ AllReadyH.nil
            intro K hK
            rw [if_pos (by rfl)]
            obtain ⟨v5, W5, hrun, hrow, hone⟩ := RW4.out.app 36 (some ⟨g4, 0, none⟩) 1 1 [opI 9] rfl ON4.out.1 (fun h => by cases h) (by omega) (sn + rn + 1) rfl
            obtain ⟨g5, c5, rfl⟩ := hrow.form
            have RW5 : Hid (SumRow w2 W5 (.slice (some ⟨g5, 0, none⟩) (sn + rn + 1) c5) (S ++ R ++ [opI 9]) (sn + rn + 1)) := hrow
            have BL5 : Hid (Below w2.heap.size w2 W5) := hrow.below
            refine op_app (.tmp 41) (.tmp 43) 36 36 rfl _ _ rfl rfl _ _ hrun ?_
            clear hrun hrow hone
            clear q3 q4 hHeld
            have q3 : W5.cell? ⟨w.heap.size, 3, none⟩ = some (.slice sa sn sc) := (BL5.out.cell (p := ⟨w.heap.size, 3, none⟩) hq1).trans QS.out
            have q4 : W5.cell? ⟨w.heap.size + 1, 3, none⟩ = some (.slice ra rn rc) := (BL5.out.cell (p := ⟨w.heap.size + 1, 3, none⟩) hq2).trans QT.out
            refine hK.out _ _ ⟨q3, q4⟩ (fun hHeld => ?_)
            clear hK K
            try simp only [Act.put, List.setIfInBounds_toArray, List.set_cons_zero, List.set_cons_succ]
            refine wpAnyH_take (i := 10) (by simp only [List.getElem?_toArray, List.getElem?_cons_zero, List.getElem?_cons_succ]; rfl) (by kernel_rfl) (by kernel_rfl) (by kernel_rfl) (by intro _ _ _ h; exact h) (Or.inl ⟨by rfl, fun w hSw => by (dsimp only at hSw; go_simp; (try with_reducible rfl))⟩) (by assumption) ?_
            simp only [Act.put, List.setIfInBounds_toArray, List.set_cons_zero, List.set_cons_succ]
            refine wpAnyH_done (by kernel_rfl) ?_ _
            clear hHeld
            have hxx := chain hx BL5.out
            have hBB := chain HBB BL5.out
            have PX := P2.below BL5.out
            obtain ⟨r0, r1, r2, r3, r4, r5, r6⟩ := cells7 (PX.box (by omega) HBR.out)
            have fz : ∀ o, W5.frozen? ⟨w.heap.size + 1 + 1, o, none⟩ = false := fun o => FZB.out _ hBB o
            have hFIN := FINY.out _ _ _ RW5.out
            have HFIN : Hid _ := hFIN
            clear hFIN
            go_wp2_with fail
            refine bodyPost_ret (v := .tuple #[.agg #[.int .i64 2, .string ⟨#[]⟩, .slice none 0 0, .slice (some ⟨g5, 0, none⟩) (sn + rn + 1) c5, .bool false, .int .i64 0, .int .i64 0], .bool true]) (by simp [results, Tryz.results14, go_sem, r0, r1, r2, r3, r4, r5, r6]) rfl ?_
            exact HFIN.out
          · intro K hK
            go_simp
            obtain ⟨V6, hV⟩ : ∃ V, V = W2.alloc (.cells #[.int .i64 9, .int .i64 0, .int .i64 0, .string ⟨#[]⟩, .string ⟨#[]⟩] 56) := ⟨_, rfl⟩
            obtain ⟨g6, hg⟩ : ∃ z, z = W2.heap.size := ⟨_, rfl⟩
            have BL6 : Hid (Below w2.heap.size w2 V6) := by rw [hV]; exact BL2.out.alloc BL2.out.size (.cells #[.int .i64 9, .int .i64 0, .int .i64 0, .string ⟨#[]⟩, .string ⟨#[]⟩] 56)
            have RW6 : Hid (SumRow w2 V6 (.slice (some ⟨g2, 0, none⟩) sn c2) S sn) := by rw [hV]; exact SumRow.alloc (W := W2) RW2.out (.cells #[.int .i64 9, .int .i64 0, .int .i64 0, .string ⟨#[]⟩, .string ⟨#[]⟩] 56)
            have ON6 : Hid (OneBy V6 (.slice (some ⟨g2, 0, none⟩) sn c2) g6) := by rw [hV, hg]; exact SumRow.one (W := W2) RW2.out
            rw [← hV, ← hg]
            clear hV hg
            clear q3 q4 hHeld
            have q3 : V6.cell? ⟨w.heap.size, 3, none⟩ = some (.slice sa sn sc) := (BL6.out.cell (p := ⟨w.heap.size, 3, none⟩) hq1).trans QS.out
            have q4 : V6.cell? ⟨w.heap.size + 1, 3, none⟩ = some (.slice ra rn rc) := (BL6.out.cell (p := ⟨w.heap.size + 1, 3, none⟩) hq2).trans QT.out
            refine hK.out _ _ ⟨q3, q4⟩ (fun hHeld => ?_)
            clear hK K
            try simp only [Act.put, List.setIfInBounds_toArray, List.set_cons_zero, List.set_cons_succ]
            refine wpAnyH_ready (rs := [6]) (by kernel_rfl) (by simp) ?_
            refine AllReadyH.cons (by simp only [List.getElem?_toArray, List.getElem?_cons_zero, List.getElem?_cons_succ]; rfl) ?_ AllReadyH.nil
            intro K hK
            rw [if_pos (by rfl)]
            obtain ⟨v7, W7, hrun, hrow, hone⟩ := RW6.out.app 36 ra rn rc R HRN.out (HT.out.sum.below (chain hx BL6.out)) HNR.out (by omega) (sn + rn) rfl
            obtain ⟨g7, c7, rfl⟩ := hrow.form
            have RW7 : Hid (SumRow w2 W7 (.slice (some ⟨g7, 0, none⟩) (sn + rn) c7) (S ++ R) (sn + rn)) := hrow
            have BL7 : Hid (Below w2.heap.size w2 W7) := hrow.below
            have ON7 : Hid (OneBy W7 (.slice (some ⟨g7, 0, none⟩) (sn + rn) c7) g6) := hone _ ON6.out
            refine op_app (.tmp 38) (.tmp 40) 36 36 rfl _ _ rfl rfl _ _ hrun ?_
            clear hrun hrow hone
            clear q3 q4 hHeld
            have q3 : W7.cell? ⟨w.heap.size, 3, none⟩ = some (.slice sa sn sc) := (BL7.out.cell (p := ⟨w.heap.size, 3, none⟩) hq1).trans QS.out
            have q4 : W7.cell? ⟨w.heap.size + 1, 3, none⟩ = some (.slice ra rn rc) := (BL7.out.cell (p := ⟨w.heap.size + 1, 3, none⟩) hq2).trans QT.out
            refine hK.out _ _ ⟨q3, q4⟩ (fun hHeld => ?_)
            clear hK K
            try simp only [Act.put, List.setIfInBounds_toArray, List.set_cons_zero, List.set_cons_succ]
            refine wpAnyH_ready (rs := [9]) (by kernel_rfl) (by simp) ?_
            refine AllReadyH.cons (by simp only [List.getElem?_toArray, List.getElem?_cons_zero, List.getElem?_cons_succ]; rfl) ?_ AllReadyH.nil
            intro K hK
            rw [if_pos (by rfl)]
            obtain ⟨v8, W8, hrun, hrow, hone⟩ := RW7.out.app 36 (some ⟨g6, 0, none⟩) 1 1 [opI 9] rfl ON7.out.1 (fun h => by cases h) (by omega) (sn + rn + 1) rfl
            obtain ⟨g8, c8, rfl⟩ := hrow.form
            have RW8 : Hid (SumRow w2 W8 (.slice (some ⟨g8, 0, none⟩) (sn + rn + 1) c8) (S ++ R ++ [opI 9]) (sn + rn + 1)) := hrow
            have BL8 : Hid (Below w2.heap.size w2 W8) := hrow.below
            refine op_app (.tmp 41) (.tmp 43) 36 36 rfl _ _ rfl rfl _ _ hrun ?_
            clear hrun hrow hone
            clear q3 q4 hHeld
            have q3 : W8.cell? ⟨w.heap.size, 3, none⟩ = some (.slice sa sn sc) := (BL8.out.cell (p := ⟨w.heap.size, 3, none⟩) hq1).trans QS.out
            have q4 : W8.cell? ⟨w.heap.size + 1, 3, none⟩ = some (.slice ra rn rc) := (BL8.out.cell (p := ⟨w.heap.size + 1, 3, none⟩) hq2).trans QT.out
            refine hK.out _ _ ⟨q3, q4⟩ (fun hHeld => ?_)
            clear hK K
            try simp only [Act.put, List.setIfInBounds_toArray, List.set_cons_zero, List.set_cons_succ]
            refine wpAnyH_take (i := 10) (by simp only [List.getElem?_toArray, List.getElem?_cons_zero, List.getElem?_cons_succ]; rfl) (by kernel_rfl) (by kernel_rfl) (by kernel_rfl) (by intro _ _ _ h; exact h) (Or.inl ⟨by rfl, fun w hSw => by (dsimp only at hSw; go_simp; (try with_reducible rfl))⟩) (by assumption) ?_
            simp only [Act.put, List.setIfInBounds_toArray, List.set_cons_zero, List.set_cons_succ]
            refine wpAnyH_done (by kernel_rfl) ?_ _
            clear hHeld
            have hxx := chain hx BL8.out
            have hBB := chain HBB BL8.out
            have PX := P2.below BL8.out
            obtain ⟨r0, r1, r2, r3, r4, r5, r6⟩ := cells7 (PX.box (by omega) HBR.out)
            have fz : ∀ o, W8.frozen? ⟨w.heap.size + 1 + 1, o, none⟩ = false := fun o => FZB.out _ hBB o
            have hFIN := FINY.out _ _ _ RW8.out
            have HFIN : Hid _ := hFIN
            clear hFIN
            go_wp2_with fail
            refine bodyPost_ret (v := .tuple #[.agg #[.int .i64 2, .string ⟨#[]⟩, .slice none 0 0, .slice (some ⟨g8, 0, none⟩) (sn + rn + 1) c8, .bool false, .int .i64 0, .int .i64 0], .bool true]) (by simp [results, Tryz.results14, go_sem, r0, r1, r2, r3, r4, r5, r6]) rfl ?_
            exact HFIN.out
        · intro K hK
          go_simp
          obtain ⟨V9, hV⟩ : ∃ V, V = V1.alloc (.cells #[.int .i64 9, .int .i64 0, .int .i64 0, .string ⟨#[]⟩, .string ⟨#[]⟩] 56) := ⟨_, rfl⟩
          obtain ⟨g9, hg⟩ : ∃ z, z = V1.heap.size := ⟨_, rfl⟩
          have BL9 : Hid (Below w2.heap.size w2 V9.drew) := by rw [hV]; exact BL1.out.alloc BL1.out.size (.cells #[.int .i64 9, .int .i64 0, .int .i64 0, .string ⟨#[]⟩, .string ⟨#[]⟩] 56)
          have RW9 : Hid (SumRow w2 V9.drew (.slice (some ⟨g1, 0, none⟩) 0 0) [] 0) := by rw [hV]; exact SumRow.alloc (W := V1.drew) RW1.out (.cells #[.int .i64 9, .int .i64 0, .int .i64 0, .string ⟨#[]⟩, .string ⟨#[]⟩] 56)
          have ON9 : Hid (OneBy V9.drew (.slice (some ⟨g1, 0, none⟩) 0 0) g9) := by rw [hV, hg]; exact SumRow.one (W := V1.drew) RW1.out
          rw [← hV, ← hg]
          clear hV hg
          clear q3 q4 hHeld
          have q3 : V9.drew.cell? ⟨w.heap.size, 3, none⟩ = some (.slice sa sn sc) := (BL9.out.cell (p := ⟨w.heap.size, 3, none⟩) hq1).trans QS.out
          have q4 : V9.drew.cell? ⟨w.heap.size + 1, 3, none⟩ = some (.slice ra rn rc) := (BL9.out.cell (p := ⟨w.heap.size + 1, 3, none⟩) hq2).trans QT.out
          refine hK.out _ _ ⟨q3, q4⟩ (fun hHeld => ?_)
          clear hK K
          try simp only [Act.put, List.setIfInBounds_toArray, List.set_cons_zero, List.set_cons_succ]
          refine wpAnyH_ready (rs := [3]) (by kernel_rfl) (by simp) ?_
          refine AllReadyH.cons (by simp only [List.getElem?_toArray, List.getElem?_cons_zero, List.getElem?_cons_succ]; rfl) ?_ AllReadyH.nil
          intro K hK
          rw [if_pos (by rfl)]
          obtain ⟨v10, W10, hrun, hrow, hone⟩ := RW9.out.app 36 sa sn sc S HSN.out (HS.out.sum.below (chain hx BL9.out)) HNS.out (by omega) sn (Nat.zero_add _)
          obtain ⟨g10, c10, rfl⟩ := hrow.form
          have RW10 : Hid (SumRow w2 W10 (.slice (some ⟨g10, 0, none⟩) sn c10) S sn) := hrow
          have BL10 : Hid (Below w2.heap.size w2 W10) := hrow.below
          have ON10 : Hid (OneBy W10 (.slice (some ⟨g10, 0, none⟩) sn c10) g9) := hone _ ON9.out
          refine op_app (.tmp 35) (.tmp 37) 36 36 rfl _ _ rfl rfl _ _ hrun ?_
          clear hrun hrow hone
          clear q3 q4 hHeld
          have q3 : W10.cell? ⟨w.heap.size, 3, none⟩ = some (.slice sa sn sc) := (BL10.out.cell (p := ⟨w.heap.size, 3, none⟩) hq1).trans QS.out
          have q4 : W10.cell? ⟨w.heap.size + 1, 3, none⟩ = some (.slice ra rn rc) := (BL10.out.cell (p := ⟨w.heap.size + 1, 3, none⟩) hq2).trans QT.out
          refine hK.out _ _ ⟨q3, q4⟩ (fun hHeld => ?_)
          clear hK K
          try simp only [Act.put, List.setIfInBounds_toArray, List.set_cons_zero, List.set_cons_succ]
          refine wpAnyH_ready (rs := [6]) (by kernel_rfl) (by simp) ?_
          refine AllReadyH.cons (by simp only [List.getElem?_toArray, List.getElem?_cons_zero, List.getElem?_cons_succ]; rfl) ?_ AllReadyH.nil
          intro K hK
          rw [if_pos (by rfl)]
          obtain ⟨v11, W11, hrun, hrow, hone⟩ := RW10.out.app 36 ra rn rc R HRN.out (HT.out.sum.below (chain hx BL10.out)) HNR.out (by omega) (sn + rn) rfl
          obtain ⟨g11, c11, rfl⟩ := hrow.form
          have RW11 : Hid (SumRow w2 W11 (.slice (some ⟨g11, 0, none⟩) (sn + rn) c11) (S ++ R) (sn + rn)) := hrow
          have BL11 : Hid (Below w2.heap.size w2 W11) := hrow.below
          have ON11 : Hid (OneBy W11 (.slice (some ⟨g11, 0, none⟩) (sn + rn) c11) g9) := hone _ ON10.out
          refine op_app (.tmp 38) (.tmp 40) 36 36 rfl _ _ rfl rfl _ _ hrun ?_
          clear hrun hrow hone
          clear q3 q4 hHeld
          have q3 : W11.cell? ⟨w.heap.size, 3, none⟩ = some (.slice sa sn sc) := (BL11.out.cell (p := ⟨w.heap.size, 3, none⟩) hq1).trans QS.out
          have q4 : W11.cell? ⟨w.heap.size + 1, 3, none⟩ = some (.slice ra rn rc) := (BL11.out.cell (p := ⟨w.heap.size + 1, 3, none⟩) hq2).trans QT.out
          refine hK.out _ _ ⟨q3, q4⟩ (fun hHeld => ?_)
          clear hK K
          try simp only [Act.put, List.setIfInBounds_toArray, List.set_cons_zero, List.set_cons_succ]
          refine wpAnyH_ready (rs := [9]) (by kernel_rfl) (by simp) ?_
          refine AllReadyH.cons (by simp only [List.getElem?_toArray, List.getElem?_cons_zero, List.getElem?_cons_succ]; rfl) ?_ AllReadyH.nil
          intro K hK
          rw [if_pos (by rfl)]
          obtain ⟨v12, W12, hrun, hrow, hone⟩ := RW11.out.app 36 (some ⟨g9, 0, none⟩) 1 1 [opI 9] rfl ON11.out.1 (fun h => by cases h) (by omega) (sn + rn + 1) rfl
          obtain ⟨g12, c12, rfl⟩ := hrow.form
          have RW12 : Hid (SumRow w2 W12 (.slice (some ⟨g12, 0, none⟩) (sn + rn + 1) c12) (S ++ R ++ [opI 9]) (sn + rn + 1)) := hrow
          have BL12 : Hid (Below w2.heap.size w2 W12) := hrow.below
          refine op_app (.tmp 41) (.tmp 43) 36 36 rfl _ _ rfl rfl _ _ hrun ?_
          clear hrun hrow hone
          clear q3 q4 hHeld
          have q3 : W12.cell? ⟨w.heap.size, 3, none⟩ = some (.slice sa sn sc) := (BL12.out.cell (p := ⟨w.heap.size, 3, none⟩) hq1).trans QS.out
          have q4 : W12.cell? ⟨w.heap.size + 1, 3, none⟩ = some (.slice ra rn rc) := (BL12.out.cell (p := ⟨w.heap.size + 1, 3, none⟩) hq2).trans QT.out
          refine hK.out _ _ ⟨q3, q4⟩ (fun hHeld => ?_)
          clear hK K
          try simp only [Act.put, List.setIfInBounds_toArray, List.set_cons_zero, List.set_cons_succ]
          refine wpAnyH_take (i := 10) (by simp only [List.getElem?_toArray, List.getElem?_cons_zero, List.getElem?_cons_succ]; rfl) (by kernel_rfl) (by kernel_rfl) (by kernel_rfl) (by intro _ _ _ h; exact h) (Or.inl ⟨by rfl, fun w hSw => by (dsimp only at hSw; go_simp; (try with_reducible rfl))⟩) (by assumption) ?_
          simp only [Act.put, List.setIfInBounds_toArray, List.set_cons_zero, List.set_cons_succ]
          refine wpAnyH_done (by kernel_rfl) ?_ _
          clear hHeld
          have hxx := chain hx BL12.out
          have hBB := chain HBB BL12.out
          have PX := P2.below BL12.out
          obtain ⟨r0, r1, r2, r3, r4, r5, r6⟩ := cells7 (PX.box (by omega) HBR.out)
          have fz : ∀ o, W12.frozen? ⟨w.heap.size + 1 + 1, o, none⟩ = false := fun o => FZB.out _ hBB o
          have hFIN := FINY.out _ _ _ RW12.out
          have HFIN : Hid _ := hFIN
          clear hFIN
          go_wp2_with fail
          refine bodyPost_ret (v := .tuple #[.agg #[.int .i64 2, .string ⟨#[]⟩, .slice none 0 0, .slice (some ⟨g12, 0, none⟩) (sn + rn + 1) c12, .bool false, .int .i64 0, .int .i64 0], .bool true]) (by simp [results, Tryz.results14, go_sem, r0, r1, r2, r3, r4, r5, r6]) rfl ?_
          exact HFIN.out
      · intro K hK
        go_simp
        obtain ⟨V13, hV⟩ : ∃ V, V = w2.alloc (.cells #[.int .i64 9, .int .i64 0, .int .i64 0, .string ⟨#[]⟩, .string ⟨#[]⟩] 56) := ⟨_, rfl⟩
        obtain ⟨g13, hg⟩ : ∃ z, z = w2.heap.size := ⟨_, rfl⟩
        have BL13 : Hid (Below w2.heap.size w2 V13.drew) := by rw [hV]; exact BL0.out.alloc BL0.out.size (.cells #[.int .i64 9, .int .i64 0, .int .i64 0, .string ⟨#[]⟩, .string ⟨#[]⟩] 56)
        have ON13 : Hid (OneAt V13.drew g13) := by rw [hV, hg]; exact one_new w2.drew
        rw [← hV, ← hg]
        clear hV hg
        clear q3 q4 hHeld
        have q3 : V13.drew.cell? ⟨w.heap.size, 3, none⟩ = some (.slice sa sn sc) := (BL13.out.cell (p := ⟨w.heap.size, 3, none⟩) hq1).trans QS.out
        have q4 : V13.drew.cell? ⟨w.heap.size + 1, 3, none⟩ = some (.slice ra rn rc) := (BL13.out.cell (p := ⟨w.heap.size + 1, 3, none⟩) hq2).trans QT.out
        refine hK.out _ _ ⟨q3, q4⟩ (fun hHeld => ?_)
        clear hK K
        try simp only [Act.put, List.setIfInBounds_toArray, List.set_cons_zero, List.set_cons_succ]
        refine wpAnyH_ready (rs := [0]) (by kernel_rfl) (by simp) ?_
        refine AllReadyH.cons (by simp only [List.getElem?_toArray, List.getElem?_cons_zero]; rfl) ?_ AllReadyH.nil
        intro K hK
        go_simp
        obtain ⟨V14, hV⟩ : ∃ V, V = V13.alloc (.cells #[] 56) := ⟨_, rfl⟩
        obtain ⟨g14, hg⟩ : ∃ z, z = V13.heap.size := ⟨_, rfl⟩
        have BL14 : Hid (Below w2.heap.size w2 V14.drew) := by rw [hV]; exact BL13.out.alloc BL13.out.size (.cells #[] 56)
        have RW14 : Hid (SumRow w2 V14.drew (.slice (some ⟨g14, 0, none⟩) 0 0) [] 0) := by rw [hV, hg]; exact SumRow.empty (W := V13.drew) BL13.out
        have ON14 : Hid (OneBy V14.drew (.slice (some ⟨g14, 0, none⟩) 0 0) g13) := by rw [hV, hg]; exact OneAt.empty (W := V13.drew) ON13.out
        rw [← hV, ← hg]
        clear hV hg
        clear q3 q4 hHeld
        have q3 : V14.drew.cell? ⟨w.heap.size, 3, none⟩ = some (.slice sa sn sc) := (BL14.out.cell (p := ⟨w.heap.size, 3, none⟩) hq1).trans QS.out
        have q4 : V14.drew.cell? ⟨w.heap.size + 1, 3, none⟩ = some (.slice ra rn rc) := (BL14.out.cell (p := ⟨w.heap.size + 1, 3, none⟩) hq2).trans QT.out
        refine hK.out _ _ ⟨q3, q4⟩ (fun hHeld => ?_)
        clear hK K
        try simp only [Act.put, List.setIfInBounds_toArray, List.set_cons_zero, List.set_cons_succ]
        refine wpAnyH_ready (rs := [3]) (by kernel_rfl) (by simp) ?_
        refine AllReadyH.cons (by simp only [List.getElem?_toArray, List.getElem?_cons_zero, List.getElem?_cons_succ]; rfl) ?_ AllReadyH.nil
        intro K hK
        rw [if_pos (by rfl)]
        obtain ⟨v15, W15, hrun, hrow, hone⟩ := RW14.out.app 36 sa sn sc S HSN.out (HS.out.sum.below (chain hx BL14.out)) HNS.out (by omega) sn (Nat.zero_add _)
        obtain ⟨g15, c15, rfl⟩ := hrow.form
        have RW15 : Hid (SumRow w2 W15 (.slice (some ⟨g15, 0, none⟩) sn c15) S sn) := hrow
        have BL15 : Hid (Below w2.heap.size w2 W15) := hrow.below
        have ON15 : Hid (OneBy W15 (.slice (some ⟨g15, 0, none⟩) sn c15) g13) := hone _ ON14.out
        refine op_app (.tmp 35) (.tmp 37) 36 36 rfl _ _ rfl rfl _ _ hrun ?_
        clear hrun hrow hone
        clear q3 q4 hHeld
        have q3 : W15.cell? ⟨w.heap.size, 3, none⟩ = some (.slice sa sn sc) := (BL15.out.cell (p := ⟨w.heap.size, 3, none⟩) hq1).trans QS.out
        have q4 : W15.cell? ⟨w.heap.size + 1, 3, none⟩ = some (.slice ra rn rc) := (BL15.out.cell (p := ⟨w.heap.size + 1, 3, none⟩) hq2).trans QT.out
        refine hK.out _ _ ⟨q3, q4⟩ (fun hHeld => ?_)
        clear hK K
        try simp only [Act.put, List.setIfInBounds_toArray, List.set_cons_zero, List.set_cons_succ]
        refine wpAnyH_ready (rs := [6]) (by kernel_rfl) (by simp) ?_
        refine AllReadyH.cons (by simp only [List.getElem?_toArray, List.getElem?_cons_zero, List.getElem?_cons_succ]; rfl) ?_ AllReadyH.nil
        intro K hK
        rw [if_pos (by rfl)]
        obtain ⟨v16, W16, hrun, hrow, hone⟩ := RW15.out.app 36 ra rn rc R HRN.out (HT.out.sum.below (chain hx BL15.out)) HNR.out (by omega) (sn + rn) rfl
        obtain ⟨g16, c16, rfl⟩ := hrow.form
        have RW16 : Hid (SumRow w2 W16 (.slice (some ⟨g16, 0, none⟩) (sn + rn) c16) (S ++ R) (sn + rn)) := hrow
        have BL16 : Hid (Below w2.heap.size w2 W16) := hrow.below
        have ON16 : Hid (OneBy W16 (.slice (some ⟨g16, 0, none⟩) (sn + rn) c16) g13) := hone _ ON15.out
        refine op_app (.tmp 38) (.tmp 40) 36 36 rfl _ _ rfl rfl _ _ hrun ?_
        clear hrun hrow hone
        clear q3 q4 hHeld
        have q3 : W16.cell? ⟨w.heap.size, 3, none⟩ = some (.slice sa sn sc) := (BL16.out.cell (p := ⟨w.heap.size, 3, none⟩) hq1).trans QS.out
        have q4 : W16.cell? ⟨w.heap.size + 1, 3, none⟩ = some (.slice ra rn rc) := (BL16.out.cell (p := ⟨w.heap.size + 1, 3, none⟩) hq2).trans QT.out
        refine hK.out _ _ ⟨q3, q4⟩ (fun hHeld => ?_)
        clear hK K
        try simp only [Act.put, List.setIfInBounds_toArray, List.set_cons_zero, List.set_cons_succ]
        refine wpAnyH_ready (rs := [9]) (by kernel_rfl) (by simp) ?_
        refine AllReadyH.cons (by simp only [List.getElem?_toArray, List.getElem?_cons_zero, List.getElem?_cons_succ]; rfl) ?_ AllReadyH.nil
        intro K hK
        rw [if_pos (by rfl)]
        obtain ⟨v17, W17, hrun, hrow, hone⟩ := RW16.out.app 36 (some ⟨g13, 0, none⟩) 1 1 [opI 9] rfl ON16.out.1 (fun h => by cases h) (by omega) (sn + rn + 1) rfl
        obtain ⟨g17, c17, rfl⟩ := hrow.form
        have RW17 : Hid (SumRow w2 W17 (.slice (some ⟨g17, 0, none⟩) (sn + rn + 1) c17) (S ++ R ++ [opI 9]) (sn + rn + 1)) := hrow
        have BL17 : Hid (Below w2.heap.size w2 W17) := hrow.below
        refine op_app (.tmp 41) (.tmp 43) 36 36 rfl _ _ rfl rfl _ _ hrun ?_
        clear hrun hrow hone
        clear q3 q4 hHeld
        have q3 : W17.cell? ⟨w.heap.size, 3, none⟩ = some (.slice sa sn sc) := (BL17.out.cell (p := ⟨w.heap.size, 3, none⟩) hq1).trans QS.out
        have q4 : W17.cell? ⟨w.heap.size + 1, 3, none⟩ = some (.slice ra rn rc) := (BL17.out.cell (p := ⟨w.heap.size + 1, 3, none⟩) hq2).trans QT.out
        refine hK.out _ _ ⟨q3, q4⟩ (fun hHeld => ?_)
        clear hK K
        try simp only [Act.put, List.setIfInBounds_toArray, List.set_cons_zero, List.set_cons_succ]
        refine wpAnyH_take (i := 10) (by simp only [List.getElem?_toArray, List.getElem?_cons_zero, List.getElem?_cons_succ]; rfl) (by kernel_rfl) (by kernel_rfl) (by kernel_rfl) (by intro _ _ _ h; exact h) (Or.inl ⟨by rfl, fun w hSw => by (dsimp only at hSw; go_simp; (try with_reducible rfl))⟩) (by assumption) ?_
        simp only [Act.put, List.setIfInBounds_toArray, List.set_cons_zero, List.set_cons_succ]
        refine wpAnyH_done (by kernel_rfl) ?_ _
        clear hHeld
        have hxx := chain hx BL17.out
        have hBB := chain HBB BL17.out
        have PX := P2.below BL17.out
        obtain ⟨r0, r1, r2, r3, r4, r5, r6⟩ := cells7 (PX.box (by omega) HBR.out)
        have fz : ∀ o, W17.frozen? ⟨w.heap.size + 1 + 1, o, none⟩ = false := fun o => FZB.out _ hBB o
        have hFIN := FINY.out _ _ _ RW17.out
        have HFIN : Hid _ := hFIN
        clear hFIN
        go_wp2_with fail
        refine bodyPost_ret (v := .tuple #[.agg #[.int .i64 2, .string ⟨#[]⟩, .slice none 0 0, .slice (some ⟨g17, 0, none⟩) (sn + rn + 1) c17, .bool false, .int .i64 0, .int .i64 0], .bool true]) (by simp [results, Tryz.results14, go_sem, r0, r1, r2, r3, r4, r5, r6]) rfl ?_
        exact HFIN.out
    ·
      have NONE : Hid (mergeR ⟨2, nm, N, S, dn, ct, sk⟩ ⟨kt, mt, M, R, dt, tt, st⟩ = none) := by
        have h : mergeR ⟨2, nm, N, S, dn, ct, sk⟩ ⟨kt, mt, M, R, dt, tt, st⟩ = none := by
          unfold mergeR
          simp [t2]
        exact h
      go_wp2_with fail
      refine bodyPost_ret (v := .tuple #[.agg #[.int .i64 2, .string nm, .slice na nn nc, .slice sa sn sc, .bool dn, .int .i64 ct, .int .i64 sk], .bool false]) (by simp [results, Tryz.results14, go_sem]) rfl ?_
      exact FINN.out _ ((((Below.refl _ _).alloc (Nat.le_refl _) _).alloc (by simp) _).alloc (by simp; omega) _) NONE.out
  by_cases k9 : kd = 9
  · subst k9
    by_cases t9 : kt = 9
    · subst t9
      have h1 := HOS.out.2.2.2 rfl
      have h2 := HOT.out.2.2.2 rfl
      dsimp only at h1 h2
      have e1 : IntKind.i64.wrap (ct - st) = ct - st := by rw [IntKind.wrap_i64]; omega
      have e2 : IntKind.i64.wrap (sk + st) = sk + st := by rw [IntKind.wrap_i64]; omega
      by_cases hle : sk + st ≤ 1000
      · by_cases hlt : st < ct
        ·
          go_wp2_with fail
          rw [HE0.out]
          clear p0 p1 p2 p3 p4 p5 p6 t0 t1 t2 t3 t4 t5 t6
          obtain ⟨p0, p1, p2, p3, p4, p5, p6⟩ := cells7 HBS.out
          obtain ⟨t0, t1, t2, t3, t4, t5, t6⟩ := cells7 HBT.out
          obtain ⟨r0, r1, r2, r3, r4, r5, r6⟩ := cells7 HBR.out
          have fz := FZ.out
          clear p0 p1 p2 p3 p4 t0 t1 t2 t3 t4
          refine wp_region_held_drew (S := (fun w' => w'.cell? ⟨w.heap.size, 5, none⟩ = some (.int .i64 ct) ∧ w'.cell? ⟨w.heap.size, 6, none⟩ = some (.int .i64 sk) ∧ w'.cell? ⟨w.heap.size + 1, 5, none⟩ = some (.int .i64 tt) ∧ w'.cell? ⟨w.heap.size + 1, 6, none⟩ = some (.int .i64 st))) (by kernel_rfl) ?_ (fun hHeld => ?_)
          · (((try dsimp only); (repeat' apply And.intro) <;> first | (go_keep; done) | (simp (disch := first | omega | (simp <;> omega) | fail) [*]; done) | fail))
          refine wpAnyH_take (i := 0) (by simp only [List.getElem?_toArray, List.getElem?_cons_zero]; rfl) (by kernel_rfl) (by kernel_rfl) (by kernel_rfl) (by intro _ _ _ h; exact h) (Or.inl ⟨by rfl, fun w hSw => by (dsimp only at hSw; go_simp; (try with_reducible rfl))⟩) (by assumption) ?_
          simp only [Act.put, List.setIfInBounds_toArray, List.set_cons_zero, List.set_cons_succ]
          refine wpAnyH_take (i := 1) (by simp only [List.getElem?_toArray, List.getElem?_cons_zero, List.getElem?_cons_succ]; rfl) (by kernel_rfl) (by kernel_rfl) (by kernel_rfl) (by intro _ _ _ h; exact h) (Or.inl ⟨by rfl, fun w hSw => by (dsimp only at hSw; go_simp; (try with_reducible rfl))⟩) (by assumption) ?_
          simp only [Act.put, List.setIfInBounds_toArray, List.set_cons_zero, List.set_cons_succ]
          refine wpAnyH_take (i := 2) (by simp only [List.getElem?_toArray, List.getElem?_cons_zero, List.getElem?_cons_succ]; rfl) (by kernel_rfl) (by kernel_rfl) (by kernel_rfl) (by intro _ _ _ h; exact h) (Or.inl ⟨by rfl, fun w hSw => by (dsimp only at hSw; go_simp; (try with_reducible rfl))⟩) (by assumption) ?_
          simp only [Act.put, List.setIfInBounds_toArray, List.set_cons_zero, List.set_cons_succ]
          refine wpAnyH_take (i := 3) (by simp only [List.getElem?_toArray, List.getElem?_cons_zero, List.getElem?_cons_succ]; rfl) (by kernel_rfl) (by kernel_rfl) (by kernel_rfl) (by intro _ _ _ h; exact h) (Or.inl ⟨by rfl, fun w hSw => by (dsimp only at hSw; go_simp; (try with_reducible rfl))⟩) (by assumption) ?_
          simp only [Act.put, List.setIfInBounds_toArray, List.set_cons_zero, List.set_cons_succ]
          refine wpAnyH_take (i := 4) (by simp only [List.getElem?_toArray, List.getElem?_cons_zero, List.getElem?_cons_succ]; rfl) (by kernel_rfl) (by kernel_rfl) (by kernel_rfl) (by intro _ _ _ h; exact h) (Or.inl ⟨by rfl, fun w hSw => by (dsimp only at hSw; go_simp; (try with_reducible rfl))⟩) (by assumption) ?_
          simp only [Act.put, List.setIfInBounds_toArray, List.set_cons_zero, List.set_cons_succ]
          refine wpAnyH_take (i := 5) (by simp only [List.getElem?_toArray, List.getElem?_cons_zero, List.getElem?_cons_succ]; rfl) (by kernel_rfl) (by kernel_rfl) (by kernel_rfl) (by intro _ _ _ h; exact h) (Or.inl ⟨by rfl, fun w hSw => by (dsimp only at hSw; go_simp; (try with_reducible rfl))⟩) (by assumption) ?_
          simp only [Act.put, List.setIfInBounds_toArray, List.set_cons_zero, List.set_cons_succ]
          refine wpAnyH_take (i := 6) (by simp only [List.getElem?_toArray, List.getElem?_cons_zero, List.getElem?_cons_succ]; rfl) (by kernel_rfl) (by kernel_rfl) (by kernel_rfl) (by intro _ _ _ h; exact h) (Or.inl ⟨by rfl, fun w hSw => by (dsimp only at hSw; go_simp; (try with_reducible rfl))⟩) (by assumption) ?_
          simp only [Act.put, List.setIfInBounds_toArray, List.set_cons_zero, List.set_cons_succ]
          refine wpAnyH_take (i := 8) (by simp only [List.getElem?_toArray, List.getElem?_cons_zero, List.getElem?_cons_succ]; rfl) (by kernel_rfl) (by kernel_rfl) (by kernel_rfl) (by intro _ _ _ h; exact h) (Or.inl ⟨by rfl, fun w hSw => by (dsimp only at hSw; go_simp; (try with_reducible rfl))⟩) (by assumption) ?_
          simp only [Act.put, List.setIfInBounds_toArray, List.set_cons_zero, List.set_cons_succ]
          refine wpAnyH_take (i := 9) (by simp only [List.getElem?_toArray, List.getElem?_cons_zero, List.getElem?_cons_succ]; rfl) (by kernel_rfl) (by kernel_rfl) (by kernel_rfl) (by intro _ _ _ h; exact h) (Or.inl ⟨by rfl, fun w hSw => by (dsimp only at hSw; go_simp; (try with_reducible rfl))⟩) (by assumption) ?_
          simp only [Act.put, List.setIfInBounds_toArray, List.set_cons_zero, List.set_cons_succ]
          refine wpAnyH_take (i := 10) (by simp only [List.getElem?_toArray, List.getElem?_cons_zero, List.getElem?_cons_succ]; rfl) (by kernel_rfl) (by kernel_rfl) (by kernel_rfl) (by intro _ _ _ h; exact h) (Or.inl ⟨by rfl, fun w hSw => by (dsimp only at hSw; go_simp; (try with_reducible rfl))⟩) (by assumption) ?_
          simp only [Act.put, List.setIfInBounds_toArray, List.set_cons_zero, List.set_cons_succ]
          refine wpAnyH_take (i := 11) (by simp only [List.getElem?_toArray, List.getElem?_cons_zero, List.getElem?_cons_succ]; rfl) (by kernel_rfl) (by kernel_rfl) (by kernel_rfl) (by intro _ _ _ h; exact h) (Or.inl ⟨by rfl, fun w hSw => by (dsimp only at hSw; go_simp; (try with_reducible rfl))⟩) (by assumption) ?_
          simp only [Act.put, List.setIfInBounds_toArray, List.set_cons_zero, List.set_cons_succ]
          refine wpAnyH_take (i := 12) (by simp only [List.getElem?_toArray, List.getElem?_cons_zero, List.getElem?_cons_succ]; rfl) (by kernel_rfl) (by kernel_rfl) (by kernel_rfl) (by intro _ _ _ h; exact h) (Or.inl ⟨by rfl, fun w hSw => by (dsimp only at hSw; go_simp; (try with_reducible rfl))⟩) (by assumption) ?_
          simp only [Act.put, List.setIfInBounds_toArray, List.set_cons_zero, List.set_cons_succ]
          refine wpAnyH_ready (rs := [7]) (by kernel_rfl) (by simp) ?_
          refine AllReadyH.cons (by simp only [List.getElem?_toArray, List.getElem?_cons_zero, List.getElem?_cons_succ]; rfl) ?_ AllReadyH.nil
          intro K hK
          go_simp
          refine (l13min_spec _ _ _).mono ?_
          rintro e w3 ⟨rfl, rfl⟩
          go_wp2_with fail
          refine hK.out _ _ ?_ (fun hHeld => ?_)
          · (((try dsimp only); (repeat' apply And.intro) <;> first | (go_keep; done) | (simp (disch := first | omega | (simp <;> omega) | fail) [*]; done) | fail))
          clear hK K
          try simp only [Act.put, List.setIfInBounds_toArray, List.set_cons_zero, List.set_cons_succ]
          refine wpAnyH_take (i := 13) (by simp only [List.getElem?_toArray, List.getElem?_cons_zero, List.getElem?_cons_succ]; rfl) (by kernel_rfl) (by kernel_rfl) (by kernel_rfl) (by intro _ _ _ h; exact h) (Or.inl ⟨by rfl, fun w hSw => by (dsimp only at hSw; go_simp; (try with_reducible rfl))⟩) (by assumption) ?_
          simp only [Act.put, List.setIfInBounds_toArray, List.set_cons_zero, List.set_cons_succ]
          refine wpAnyH_ready (rs := [14]) (by kernel_rfl) (by simp) ?_
          refine AllReadyH.cons (by simp only [List.getElem?_toArray, List.getElem?_cons_zero, List.getElem?_cons_succ]; rfl) ?_ AllReadyH.nil
          intro K hK
          go_simp
          refine hK.out _ _ ?_ (fun hHeld => ?_)
          · (((try dsimp only); (repeat' apply And.intro) <;> first | (go_keep; done) | (simp (disch := first | omega | (simp <;> omega) | fail) [*]; done) | fail))
          clear hK K
          try simp only [Act.put, List.setIfInBounds_toArray, List.set_cons_zero, List.set_cons_succ]
          refine wpAnyH_take (i := 15) (by simp only [List.getElem?_toArray, List.getElem?_cons_zero, List.getElem?_cons_succ]; rfl) (by kernel_rfl) (by kernel_rfl) (by kernel_rfl) (by intro _ _ _ h; exact h) (Or.inl ⟨by rfl, fun w hSw => by (dsimp only at hSw; go_simp; (try with_reducible rfl))⟩) (by assumption) ?_
          simp only [Act.put, List.setIfInBounds_toArray, List.set_cons_zero, List.set_cons_succ]
          refine wpAnyH_done (by kernel_rfl) ?_ _
          clear hHeld
          go_wp2
          refine bodyPost_ret (v := .tuple #[.agg #[.int .i64 9, .string ⟨#[]⟩, .slice none 0 0, .slice none 0 0, .bool false, .int .i64 (min tt (ct - st)), .int .i64 (sk + st)], .bool true]) (by simp [results, Tryz.results14, go_sem, r0, r1, r2, r3, r4, r5, r6]) rfl ?_
          refine ⟨(((((((hA.setCell (p := ⟨w.heap.size + 1 + 1, 0, none⟩) hsz2 _).setCell (p := ⟨w.heap.size + 1 + 1, 1, none⟩) hsz2 _).setCell (p := ⟨w.heap.size + 1 + 1, 2, none⟩) hsz2 _).setCell (p := ⟨w.heap.size + 1 + 1, 3, none⟩) hsz2 _).setCell (p := ⟨w.heap.size + 1 + 1, 4, none⟩) hsz2 _).setCell (p := ⟨w.heap.size + 1 + 1, 5, none⟩) hsz2 _).setCell (p := ⟨w.heap.size + 1 + 1, 6, none⟩) hsz2 _).drew, .inr ⟨⟨none, 0, none, 0⟩, ⟨9, ⟨#[]⟩, [], [], false, min tt (ct - st), sk + st⟩, ?_, rfl, ⟨⟨fun i hi => by simp at hi, fun i hi => by simp at hi, by simp, by simp, fun _ => rfl, fun i hi => by simp at hi, fun i hi => by simp at hi, by simp, Nat.zero_le _⟩, ?_⟩, fun _ => rfl⟩⟩
          · unfold mergeR
            rw [if_neg (by simp), if_pos (by simp [hle, hlt])]
          · rintro b (⟨h0, _⟩ | ⟨h0, _⟩)
            · exact absurd h0 (by simp)
            · exact absurd h0 (by simp)
        ·
          have NONE : Hid (mergeR ⟨9, nm, N, S, dn, ct, sk⟩ ⟨9, mt, M, R, dt, tt, st⟩ = none) := by
            have h : mergeR ⟨9, nm, N, S, dn, ct, sk⟩ ⟨9, mt, M, R, dt, tt, st⟩ = none := by
              unfold mergeR
              simp [hlt]
            exact h
          go_wp2_with fail
          refine bodyPost_ret (v := .tuple #[.agg #[.int .i64 9, .string nm, .slice na nn nc, .slice sa sn sc, .bool dn, .int .i64 ct, .int .i64 sk], .bool false]) (by simp [results, Tryz.results14, go_sem]) rfl ?_
          exact FINN.out _ ((((Below.refl _ _).alloc (Nat.le_refl _) _).alloc (by simp) _).alloc (by simp; omega) _) NONE.out
      ·
        have NONE : Hid (mergeR ⟨9, nm, N, S, dn, ct, sk⟩ ⟨9, mt, M, R, dt, tt, st⟩ = none) := by
          have h : mergeR ⟨9, nm, N, S, dn, ct, sk⟩ ⟨9, mt, M, R, dt, tt, st⟩ = none := by
            unfold mergeR
            simp [hle]
          exact h
        go_wp2_with fail
        refine bodyPost_ret (v := .tuple #[.agg #[.int .i64 9, .string nm, .slice na nn nc, .slice sa sn sc, .bool dn, .int .i64 ct, .int .i64 sk], .bool false]) (by simp [results, Tryz.results14, go_sem]) rfl ?_
        exact FINN.out _ ((((Below.refl _ _).alloc (Nat.le_refl _) _).alloc (by simp) _).alloc (by simp; omega) _) NONE.out
    ·
      have NONE : Hid (mergeR ⟨9, nm, N, S, dn, ct, sk⟩ ⟨kt, mt, M, R, dt, tt, st⟩ = none) := by
        have h : mergeR ⟨9, nm, N, S, dn, ct, sk⟩ ⟨kt, mt, M, R, dt, tt, st⟩ = none := by
          unfold mergeR
          simp [t9]
        exact h
      go_wp2_with fail
      refine bodyPost_ret (v := .tuple #[.agg #[.int .i64 9, .string nm, .slice na nn nc, .slice sa sn sc, .bool dn, .int .i64 ct, .int .i64 sk], .bool false]) (by simp [results, Tryz.results14, go_sem]) rfl ?_
      exact FINN.out _ ((((Below.refl _ _).alloc (Nat.le_refl _) _).alloc (by simp) _).alloc (by simp; omega) _) NONE.out
  have NONE : Hid (mergeR ⟨kd, nm, N, S, dn, ct, sk⟩ ⟨kt, mt, M, R, dt, tt, st⟩ = none) := by
    have h : mergeR ⟨kd, nm, N, S, dn, ct, sk⟩ ⟨kt, mt, M, R, dt, tt, st⟩ = none := by
      unfold mergeR
      simp [k2, k9]
    exact h
  go_wp2_with fail
  refine bodyPost_ret (v := .tuple #[.agg #[.int .i64 kd, .string nm, .slice na nn nc, .slice sa sn sc, .bool dn, .int .i64 ct, .int .i64 sk], .bool false]) (by simp [results, Tryz.results14, go_sem]) rfl ?_
  exact FINN.out _ ((((Below.refl _ _).alloc (Nat.le_refl _) _).alloc (by simp) _).alloc (by simp; omega) _) NONE.out
end Go.Proofs.YtadbbkpillfjaaaGreatDoor
