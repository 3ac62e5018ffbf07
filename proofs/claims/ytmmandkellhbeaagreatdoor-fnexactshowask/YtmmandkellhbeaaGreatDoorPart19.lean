/-
  A part of the proof: SvI3.
-/
import Derived.Test.YtmmandkellhbeaaGreatDoorPart16
import Derived.Test.YtmmandkellhbeaaGreatDoorPart18
import Derived.Laws.AppendOwnNone

/-
  The contract of the program's text of a sieve.
-/
namespace Go.Proofs.YtmmandkellhbeaaGreatDoor
open Go.ChangeShapes Go.WideShapes Go.ChangeAt Go.RowKit
attribute [local go_sem ↓] Go.wp_at_zero Go.wp_at_succ
attribute [local simp] World.cell?_alloc_past World.cell?_alloc_at World.frozen?_alloc_at cell_far cell_off cell_here World.frozen?_alloc_past

theorem sieve_names_len {s : SV} (h : sieveB s = true) : s.names.length ≤ 6 := by
  obtain ⟨k, nm, N, S, dn, ct, sk⟩ := s
  rcases sieve_kind h with e | e | e | e | e | e | e | e | e | e <;> (dsimp only at e; subst e; simp [sieveB, bareB, nameS, sumS, listS] at h)
  · obtain ⟨⟨_, rfl⟩, _⟩ := h; simp
  · obtain ⟨⟨_, rfl⟩, _⟩ := h; simp
  · obtain ⟨rfl, _⟩ := h; simp
  · have := h.2
    unfold names10 namesB at this
    simp only [Bool.and_eq_true, decide_eq_true_eq] at this
    show N.length ≤ 6
    omega
  · obtain ⟨rfl, _⟩ := h; simp
  · obtain ⟨rfl, _⟩ := h; simp
  · have := h.2
    unfold names10 namesB at this
    simp only [Bool.and_eq_true, decide_eq_true_eq] at this
    show N.length ≤ 6
    omega
  · obtain ⟨⟨_, rfl⟩, _⟩ := h; simp
  · obtain ⟨⟨⟨_, _, rfl⟩, _⟩, _⟩ := h; simp
  · obtain ⟨⟨_, _, rfl⟩, _⟩ := h; simp
theorem own_formV {w : World} {base n k : Nat} {e : TypeId} {v : Value} {xs : List Value} (h : w.ownsRow base e k v n xs) (hn : v ≠ .slice none 0 0) : ∃ g c, v = .slice (some ⟨g, 0, none⟩) n c ∧ n ≤ c := by
  rcases h.2 with ⟨e', _⟩ | ⟨g, cap, cur, e', _, _, hc, _⟩
  · exact absurd e' hn
  · exact ⟨g, cap, e', hc⟩
theorem own_pair (w : World) (s u : ByteArray) : (w.alloc (.cells #[.string s, .string u] 9)).ownsRow w.heap.size 9 1 (.slice (some ⟨w.heap.size, 0, none⟩) 2 2) 2 [.string s, .string u] :=
  ⟨rfl, .inr ⟨w.heap.size, 2, #[.string s, .string u], rfl, Nat.le_refl _, by show (w.heap.push _)[w.heap.size]? = _; simp, Nat.le_refl _, by unfold maxLen; omega, rfl, rfl⟩⟩
theorem own_lowerV {w : World} {base base' n size : Nat} {e : TypeId} {v : Value} {xs : List Value} (h : w.ownsRow base e size v n xs) (hb : base' ≤ base) : w.ownsRow base' e size v n xs := by
  refine ⟨h.1, ?_⟩
  rcases h.2 with h' | ⟨g, cap, cur, h', hbg, hr⟩
  · exact .inl h'
  · exact .inr ⟨g, cap, cur, h', Nat.le_trans hb hbg, hr⟩
theorem strs_cells {w : World} {ad : Addr} {l : List ByteArray} (h : StrsAt w (some ad) l) : ∀ (j : Nat) v, (strV l)[j]? = some v → w.cell? (ad.add j) = some v := by
  intro j v hj
  unfold strV at hj
  rw [List.getElem?_map] at hj
  obtain ⟨x, hx, rfl⟩ := Option.map_eq_some_iff.1 hj
  obtain ⟨hlt, rfl⟩ := List.getElem?_eq_some_iff.1 hx
  obtain ⟨b, o, e, _, c⟩ := h j hlt
  cases e
  have : (⟨b, o, none⟩ : Addr).add j = ⟨b, o + j, none⟩ := by
    unfold Addr.add
    by_cases hq : j = 0 <;> simp [hq]
  rw [this]
  exact c
theorem pair_cells (w : World) (x z : ByteArray) : ∀ (j : Nat) v, [Value.string x, .string z][j]? = some v → (w.alloc (.cells #[.string x, .string z] 9)).cell? ((⟨w.heap.size, 0, none⟩ : Addr).add j) = some v := by
  intro j u hj
  match j, hj with
  | 0, hj => simp at hj; subst hj; simp [Addr.add, World.cell?_alloc_at]
  | 1, hj => simp at hj; subst hj; simp [Addr.add, World.cell?_alloc_at]
theorem one_cells (w : World) (x : ByteArray) : ∀ (j : Nat) v, [Value.string x][j]? = some v → (w.alloc (.cells #[.string x] 9)).cell? ((⟨w.heap.size, 0, none⟩ : Addr).add j) = some v := by
  intro j u hj
  match j, hj with
  | 0, hj => simp at hj; subst hj; simp [Addr.add, World.cell?_alloc_at]
theorem one_strs (l : List ByteArray) : ∀ v ∈ strV l, v.oneCell' = true := by
  intro v hv
  unfold strV at hv
  obtain ⟨x, _, rfl⟩ := List.mem_map.1 hv
  rfl
theorem sumtext_impl (sa : Option Addr) (sn sc : Nat) (S : List TI) (hsn : S.length = sn) (w : World) (hp : PowAt w) (he : ErrAt w) (hs : SgnAt w) (hS : ItmAt w sa S) (hF : FitI S) (hm : sn ≤ maxLen) (y : ByteArray) (hy : sumT S = y) :
    Calls Tryz.prog 61 #[.slice sa sn sc] w fun e w' => e = .returned (.string y) ∧ Below w.heap.size w w' := by
  have HP : Hid (PowAt w) := hp
  have HE : Hid (ErrAt w) := he
  have HG : Hid (SgnAt w) := hs
  have HS : Hid (ItmAt w sa S) := hS
  have HF : Hid (FitI S) := hF
  have HN : Hid (S.length = sn) := hsn
  have HY : Hid (sumT S = y) := hy
  clear hp he hs hS hF hsn hy
  go_enter Tryz.func61, Tryz.ntmps61
  go_wp2_with fail
  refine (showsum_impl sa sc S sn HN.out _ HS.out HF.out hm HP.out HE.out HG.out y HY.out).mono ?_
  rintro e w1 ⟨rfl, hb1⟩
  go_wp2
  go_ret
  exact ⟨rfl, hb1⟩
theorem form_fall (k : Int) (h : (formF k).fall = true) : (formF k).cnt ≤ 0 := by
  unfold formF at h ⊢
  repeat' split at h
  all_goals first | (exact absurd h (by decide)) | skip
  all_goals simp_all
theorem joinedV (gp cp : Nat) (Q : List ByteArray) (m : Nat) (hm : m = Q.length) (w : World) (hQ : StrsAt w (some ⟨gp, 0, none⟩) Q) (hg : gp < w.heap.size) (y : ByteArray) (hy : Q.length ≤ cp ∧ (⟨(Lib.join (rawT Q) [32]).toArray⟩ : ByteArray) = y ∧ (Lib.join (rawT Q) [32]).length ≤ 700 ∧ Q.length ≤ 4096) :
    Calls Tryz.prog 37 #[.string ⟨#[32]⟩, .slice (some ⟨gp, 0, none⟩) m cp] w fun e w' => e = .returned (.string y) ∧ Below w.heap.size w w' := by
  subst hm
  obtain ⟨h1, h2, h3, h4⟩ := hy
  refine joined_impl gp cp Q ⟨#[32]⟩ w (fun j x hj => ?_) hg (by omega) h1 (by unfold rawT at h3; exact Nat.le_trans h3 (by omega)) y (by unfold rawT at h2; exact h2)
  obtain ⟨hlt, rfl⟩ := List.getElem?_eq_some_iff.1 hj
  obtain ⟨b, o, e, _, c⟩ := hQ j hlt
  cases e
  exact c
set_option maxRecDepth 100000 in
set_option maxHeartbeats 4000000 in
theorem text_some (k : Int) (nm : ByteArray) (na : Option Addr) (nn nc : Nat) (N : List ByteArray) (hnn : N.length = nn) (sa : Option Addr) (sn sc : Nat) (S : List TI) (hsn : S.length = sn) (dn : Bool) (ct sk : Int) (fw : ByteArray) (fn : Bool) (ff fm : Int) (fa : ByteArray) (fs fl : Bool) (fc : Int) (ad : Addr) (hna : na = some ad) (w : World) (hp : PowAt w) (he : ErrAt w) (hs : SgnAt w) (hS : SivAt w na nc sa ⟨k, nm, N, S, dn, ct, sk⟩) (hmild : MildV ⟨k, nm, N, S, dn, ct, sk⟩) (hok : sieveB ⟨k, nm, N, S, dn, ct, sk⟩ = true) (hf : formF k = ⟨fw, fn, ff, fm, fa, fs, fl, fc⟩) (y : ByteArray) (hy : (⟨(showS ⟨k, nm, N, S, dn, ct, sk⟩).toArray⟩ : ByteArray) = y) :
    Calls Tryz.prog 36 #[.agg #[.slice sa sn sc, .string fw, .bool fn, .int .i64 ff, .int .i64 fm, .string fa, .bool fs, .bool fl, .int .i64 fc, .int .i64 k, .string nm, .slice na nn nc, .slice sa sn sc, .bool dn, .int .i64 ct, .int .i64 sk]] w fun e w' => e = .returned (.string y) ∧ Below w.heap.size w w' := by
  subst hna
  obtain ⟨i0, hti, hz0, hz1, hz2⟩ := info_parts infoStr
  have hn6 : nn ≤ 6 := by rw [← hnn]; exact sieve_names_len hok
  have hsM : sn ≤ maxLen := by rw [← hsn]; exact hS.lenI
  have hfitI : Hid (FitI S) := by
    have h : FitI S := by
      intro x hx
      have h1 := oneI_le hx
      have h3 : weightItm S ≤ 1048576 := hmild.2.2.2.2
      unfold oneItm at h1
      unfold maxLen
      exact ⟨by omega, by omega⟩
    exact h
  have HN : Hid (N.length = nn) := hnn
  have HS : Hid (SivAt w (some ad) nc sa ⟨k, nm, N, S, dn, ct, sk⟩) := hS
  have HV : Hid (PowAt w ∧ ErrAt w ∧ SgnAt w) := ⟨hp, he, hs⟩
  have HSN : Hid (S.length = sn) := hsn
  obtain ⟨Q, hQ⟩ : ∃ Q, fullP (piecesF ⟨fw, fn, ff, fm, fa, fs, fl, fc⟩ ⟨k, nm, N, S, dn, ct, sk⟩) = Q := ⟨_, rfl⟩
  have HJ : Hid ((⟨(Lib.join (rawT Q) [32]).toArray⟩ : ByteArray) = y ∧ (Lib.join (rawT Q) [32]).length ≤ 700) := by
    have h : Lib.join (rawT Q) [32] = showS ⟨k, nm, N, S, dn, ct, sk⟩ := by rw [← hQ, ← hf]; exact text_form ⟨k, nm, N, S, dn, ct, sk⟩ hok
    have h2 := showS_len ⟨k, nm, N, S, dn, ct, sk⟩ hok
    have h3 : (⟨(Lib.join (rawT Q) [32]).toArray⟩ : ByteArray) = y ∧ (Lib.join (rawT Q) [32]).length ≤ 700 := ⟨by rw [h]; exact hy, by rw [h]; exact h2⟩
    exact h3
  obtain ⟨u, hu⟩ : ∃ u, sumT S = u := ⟨_, rfl⟩
  have HU : Hid (sumT S = u) := hu
  have HQ0 : Hid (fullP ((((fw :: nm :: N) ++ [fa, u]) ++ (if dn = true then [downT] else [])) ++ (if 0 < fc then [numT ct, numT sk] else [])) = Q) := by
    have h : fullP ((((fw :: nm :: N) ++ [fa, u]) ++ (if dn = true then [downT] else [])) ++ (if 0 < fc then [numT ct, numT sk] else [])) = Q := by rw [← hu]; exact hQ
    exact h
  have HIN : Hid (0 < fc → (0 ≤ ct ∧ ct ≤ 1000) ∧ (0 ≤ sk ∧ sk ≤ 1000)) := by
    have h : 0 < fc → (0 ≤ ct ∧ ct ≤ 1000) ∧ (0 ≤ sk ∧ sk ≤ 1000) := by
      intro hc
      have hr := right_form ⟨k, nm, N, S, dn, ct, sk⟩
      dsimp only at hr
      rw [hf, hok] at hr
      unfold rightF canF at hr
      simp only [Bool.and_eq_true, decide_eq_true_eq] at hr
      have h9 : fc ≤ 1000 := by
        have e : (formF k).cnt = fc := by rw [hf]
        rw [← e]
        unfold formF
        repeat' split
        all_goals (dsimp only; omega)
      obtain ⟨_, _, _, _, _, q1, q2⟩ := hr
      omega
    exact h
  have HDC : Hid (dn = true → fc ≤ 0) := by
    have h : dn = true → fc ≤ 0 := by
      intro hd
      have hr := right_form ⟨k, nm, N, S, dn, ct, sk⟩
      dsimp only at hr
      rw [hf, hok] at hr
      unfold rightF at hr
      simp only [Bool.and_eq_true, hd, Bool.not_true, Bool.or_false] at hr
      have e1 : (formF k).fall = true := by rw [hf]; exact hr.2.2.2.2.1
      have e2 : (formF k).cnt = fc := by rw [hf]
      rw [← e2]
      exact form_fall k e1
    exact h
  clear hnn hsn hp he hs hS hmild hok hf hy hQ hu
  have own0 : ((w.alloc (.cells #[.slice sa sn sc, .string fw, .bool fn, .int .i64 ff, .int .i64 fm, .string fa, .bool fs, .bool fl, .int .i64 fc, .int .i64 k, .string nm, .slice (some ad) nn nc, .slice sa sn sc, .bool dn, .int .i64 ct, .int .i64 sk] 56)).alloc (.cells #[.string fw, .string nm] 9)).ownsRow (w.heap.size + 1) 9 1 (.slice (some ⟨w.heap.size + 1, 0, none⟩) 2 2) 2 [.string fw, .string nm] := by
    have h := own_pair (w.alloc (.cells #[.slice sa sn sc, .string fw, .bool fn, .int .i64 ff, .int .i64 fm, .string fa, .bool fs, .bool fl, .int .i64 fc, .int .i64 k, .string nm, .slice (some ad) nn nc, .slice sa sn sc, .bool dn, .int .i64 ct, .int .i64 sk] 56)) fw nm
    rw [alloc_one] at h
    exact h
  have hA0 : Below w.heap.size w ((w.alloc (.cells #[.slice sa sn sc, .string fw, .bool fn, .int .i64 ff, .int .i64 fm, .string fa, .bool fs, .bool fl, .int .i64 fc, .int .i64 k, .string nm, .slice (some ad) nn nc, .slice sa sn sc, .bool dn, .int .i64 ct, .int .i64 sk] 56)).alloc (.cells #[.string fw, .string nm] 9)) := ((Below.refl _ _).alloc (Nat.le_refl _) _).alloc (by simp) _
  have hA1 : Below (w.heap.size + 1) (w.alloc (.cells #[.slice sa sn sc, .string fw, .bool fn, .int .i64 ff, .int .i64 fm, .string fa, .bool fs, .bool fl, .int .i64 fc, .int .i64 k, .string nm, .slice (some ad) nn nc, .slice sa sn sc, .bool dn, .int .i64 ct, .int .i64 sk] 56)) ((w.alloc (.cells #[.slice sa sn sc, .string fw, .bool fn, .int .i64 ff, .int .i64 fm, .string fa, .bool fs, .bool fl, .int .i64 fc, .int .i64 k, .string nm, .slice (some ad) nn nc, .slice sa sn sc, .bool dn, .int .i64 ct, .int .i64 sk] 56)).alloc (.cells #[.string fw, .string nm] 9)) := (Below.refl _ _).alloc (by simp) _
  have HC0 : Hid (∀ (j : Nat) v, (strV N)[j]? = some v → ((w.alloc (.cells #[.slice sa sn sc, .string fw, .bool fn, .int .i64 ff, .int .i64 fm, .string fa, .bool fs, .bool fl, .int .i64 fc, .int .i64 k, .string nm, .slice (some ad) nn nc, .slice sa sn sc, .bool dn, .int .i64 ct, .int .i64 sk] 56)).alloc (.cells #[.string fw, .string nm] 9)).cell? (ad.add j) = some v) := strs_cells (HS.out.names.below hA0)
  go_enter Tryz.func36, Tryz.ntmps36
  go_wp2_with (at_builtin; refine wpList_append_own _ rfl _ _ 22 rfl (w.heap.size + 1) 9 i0 (.string ⟨#[]⟩) 1 16 Tryz.underlying22 hti hz0 hz1 hz2 rfl (by decide) (.slice (some ⟨w.heap.size + 1, 0, none⟩) 2 2) 2 [.string fw, .string nm] rfl own0 ad nn nc (strV N) rfl (by rw [strV_length, HN.out, Nat.mul_one]) HC0.out (one_strs N) (by unfold maxLen; omega) (by omega) (by simp) ?_)
  intro v1 W1 own1 hgrow1 hnn1
  have hvn : v1 ≠ .slice none 0 0 := by first | exact hnn1 | exact fun e => by simp at e hnn1
  obtain ⟨V, hV⟩ : ∃ V, V = w.alloc (.cells #[.slice sa sn sc, .string fw, .bool fn, .int .i64 ff, .int .i64 fm, .string fa, .bool fs, .bool fl, .int .i64 fc, .int .i64 k, .string nm, .slice (some ad) nn nc, .slice sa sn sc, .bool dn, .int .i64 ct, .int .i64 sk] 56) := ⟨_, rfl⟩
  have hx : Below (w.heap.size + 1) V W1 := by
    rw [hV]
    exact hA1.grown hgrow1 (by simp) (fun kk hkk => (own0.lt kk hkk).1)
  have HVW : Hid (Below w.heap.size w V ∧ V.heap.size = w.heap.size + 1) := by
    have h : Below w.heap.size w V ∧ V.heap.size = w.heap.size + 1 := ⟨by rw [hV]; exact (Below.refl _ _).alloc (Nat.le_refl _) _, by rw [hV]; simp⟩
    exact h
  have HG : Hid (V.heap[w.heap.size]? = some (.cells #[.slice sa sn sc, .string fw, .bool fn, .int .i64 ff, .int .i64 fm, .string fa, .bool fs, .bool fl, .int .i64 fc, .int .i64 k, .string nm, .slice (some ad) nn nc, .slice sa sn sc, .bool dn, .int .i64 ct, .int .i64 sk] 56)) := by rw [hV]; exact _root_.Go.heap_alloc_new _ _
  have OO : Hid (W1.ownsRow (w.heap.size + 1) 9 1 v1 (2 + nn) (strV (fw :: nm :: N))) := own1
  have p0 : W1.cell? ⟨w.heap.size, 0, none⟩ = some (.slice sa sn sc) := cell_of_row _ _ _ _ _ _ ((hx.block _ (by omega)).trans HG.out)
  have p5 : W1.cell? ⟨w.heap.size, 5, none⟩ = some (.string fa) := cell_of_row _ _ _ _ _ _ ((hx.block _ (by omega)).trans HG.out)
  clear own1 hgrow1 hnn1 own0 hA0 hA1 HC0 hV
  go_wp2_with fail
  refine wp_region_held_drew (S := (fun w' => w'.cell? ⟨w.heap.size, 0, none⟩ = some (.slice sa sn sc) ∧ w'.cell? ⟨w.heap.size, 5, none⟩ = some (.string fa))) (by kernel_rfl) ?_ (fun hHeld => ?_)
  · (((try dsimp only); (repeat' apply And.intro) <;> first | (go_keep; done) | (simp (disch := first | omega | (simp <;> omega) | fail) [*]; done) | fail))
  refine wpAnyH_take (i := 0) (by simp only [List.getElem?_toArray, List.getElem?_cons_zero]; rfl) (by kernel_rfl) (by kernel_rfl) (by kernel_rfl) (by intro _ _ _ h; exact h) (Or.inl ⟨by rfl, fun w hSw => by (dsimp only at hSw; go_simp; (try with_reducible rfl))⟩) (by assumption) ?_
  simp only [Act.put, List.setIfInBounds_toArray, List.set_cons_zero, List.set_cons_succ]
  refine wpAnyH_take (i := 1) (by simp only [List.getElem?_toArray, List.getElem?_cons_zero, List.getElem?_cons_succ]; rfl) (by kernel_rfl) (by kernel_rfl) (by kernel_rfl) (by intro _ _ _ h; exact h) (Or.inl ⟨by rfl, fun w hSw => by (dsimp only at hSw; go_simp; (try with_reducible rfl))⟩) (by assumption) ?_
  simp only [Act.put, List.setIfInBounds_toArray, List.set_cons_zero, List.set_cons_succ]
  refine wpAnyH_take (i := 2) (by simp only [List.getElem?_toArray, List.getElem?_cons_zero, List.getElem?_cons_succ]; rfl) (by kernel_rfl) (by kernel_rfl) (by kernel_rfl) (by intro _ _ _ h; exact h) (Or.inl ⟨by rfl, fun w hSw => by (dsimp only at hSw; go_simp; (try with_reducible rfl))⟩) (by assumption) ?_
  simp only [Act.put, List.setIfInBounds_toArray, List.set_cons_zero, List.set_cons_succ]
  refine wpAnyH_take (i := 3) (by simp only [List.getElem?_toArray, List.getElem?_cons_zero, List.getElem?_cons_succ]; rfl) (by kernel_rfl) (by kernel_rfl) (by kernel_rfl) (by intro _ _ _ h; exact h) (Or.inl ⟨by rfl, fun w hSw => by (dsimp only at hSw; go_simp; (try with_reducible rfl))⟩) (by assumption) ?_
  simp only [Act.put, List.setIfInBounds_toArray, List.set_cons_zero, List.set_cons_succ]
  refine wpAnyH_take (i := 4) (by simp only [List.getElem?_toArray, List.getElem?_cons_zero, List.getElem?_cons_succ]; rfl) (by kernel_rfl) (by kernel_rfl) (by kernel_rfl) (by intro _ _ _ h; exact h) (Or.inl ⟨by rfl, fun w hSw => by (dsimp only at hSw; go_simp; (try with_reducible rfl))⟩) (by assumption) ?_
  simp only [Act.put, List.setIfInBounds_toArray, List.set_cons_zero, List.set_cons_succ]
  refine wpAnyH_take (i := 5) (by simp only [List.getElem?_toArray, List.getElem?_cons_zero, List.getElem?_cons_succ]; rfl) (by kernel_rfl) (by kernel_rfl) (by kernel_rfl) (by intro _ _ _ h; exact h) (Or.inl ⟨by rfl, fun w hSw => by (dsimp only at hSw; go_simp; (try with_reducible rfl))⟩) (by assumption) ?_
  simp only [Act.put, List.setIfInBounds_toArray, List.set_cons_zero, List.set_cons_succ]
  refine wpAnyH_ready (rs := [6]) (by kernel_rfl) (by simp) ?_
  refine AllReadyH.cons (by simp only [List.getElem?_toArray, List.getElem?_cons_zero, List.getElem?_cons_succ]; rfl) ?_ AllReadyH.nil
  intro K hK
  go_simp
  have hD : Below w.heap.size w W1.drew := HVW.out.1.trans ((hx.mono (by omega)).drew)
  refine (sumtext_impl sa sn sc S HSN.out _ (HV.out.1.below hD) (HV.out.2.1.below hD) (HV.out.2.2.below hD) (HS.out.sum.below hD) hfitI.out hsM u HU.out).mono ?_
  rintro e W2 ⟨rfl, hb2⟩
  replace hb2 := undrew hb2
  have hlt1 : w.heap.size < W1.heap.size := by have := hx.size; have := HVW.out.2; omega
  have q0 : W2.cell? ⟨w.heap.size, 0, none⟩ = some (.slice sa sn sc) := by rw [hb2.cell (p := ⟨w.heap.size, 0, none⟩) hlt1]; exact p0
  have q5 : W2.cell? ⟨w.heap.size, 5, none⟩ = some (.string fa) := by rw [hb2.cell (p := ⟨w.heap.size, 5, none⟩) hlt1]; exact p5
  have O2 : Hid (W2.ownsRow (w.heap.size + 1) 9 1 v1 (2 + nn) (strV (fw :: nm :: N))) := own_below OO.out hb2
  have hx2 : Below (w.heap.size + 1) V W2 := hx.trans (hb2.mono (by omega))
  have hlt2 : w.heap.size < W2.heap.size := Nat.lt_of_lt_of_le hlt1 hb2.size
  clear p0 p5 OO hx hb2 hD hlt1
  go_wp2_with fail
  refine hK.out _ _ ?_ (fun hHeld => ?_)
  · (((try dsimp only); (repeat' apply And.intro) <;> first | (go_keep; done) | (simp (disch := first | omega | (simp <;> omega) | fail) [*]; done) | fail))
  clear hK K
  try simp only [Act.put, List.setIfInBounds_toArray, List.set_cons_zero, List.set_cons_succ]
  refine wpAnyH_ready (rs := [7]) (by kernel_rfl) (by simp) ?_
  refine AllReadyH.cons (by simp only [List.getElem?_toArray, List.getElem?_cons_zero, List.getElem?_cons_succ]; rfl) ?_ AllReadyH.nil
  intro K hK
  go_simp
  refine hK.out _ _ ?_ (fun hHeld => ?_)
  · (((try dsimp only); (repeat' apply And.intro) <;> first | (go_keep; done) | (simp (disch := first | omega | (simp <;> omega) | fail) [*]; done) | fail))
  clear hK K
  try simp only [Act.put, List.setIfInBounds_toArray, List.set_cons_zero, List.set_cons_succ]
  refine wpAnyH_ready (rs := [8]) (by kernel_rfl) (by simp) ?_
  refine AllReadyH.cons (by simp only [List.getElem?_toArray, List.getElem?_cons_zero, List.getElem?_cons_succ]; rfl) ?_ AllReadyH.nil
  intro K hK
  rw [if_pos (by rfl)]
  refine wp_append_own _ _ _ 22 rfl (w.heap.size + 1) 9 i0 (.string ⟨#[]⟩) 1 16 Tryz.underlying22 hti hz0 hz1 hz2 rfl (by decide) v1 (2 + nn) (strV (fw :: nm :: N)) rfl (O2.out.alloc _) ⟨W2.heap.size, 0, none⟩ 2 2 [.string fa, .string u] rfl rfl (pair_cells W2 fa u) (by intro z hz; simp at hz; rcases hz with rfl | rfl <;> rfl) (by unfold maxLen; omega) (by omega) (by simp; omega) ?_
  intro v2 W3 own3 hgrow3 hnn3
  have hvn2 : v2 ≠ .slice none 0 0 := by first | exact hnn3 | exact fun e => hvn (hnn3.1 e).1
  have hx3 : Below (w.heap.size + 1) V W3 := (hx2.alloc (by omega) _).grown hgrow3 (by have := hx2.size; have := HVW.out.2; simp; omega) (fun kk hkk => (O2.out.lt kk hkk).1)
  have HR : Hid (W3.heap[w.heap.size]? = some (.cells #[.slice sa sn sc, .string fw, .bool fn, .int .i64 ff, .int .i64 fm, .string fa, .bool fs, .bool fl, .int .i64 fc, .int .i64 k, .string nm, .slice (some ad) nn nc, .slice sa sn sc, .bool dn, .int .i64 ct, .int .i64 sk] 56)) := (hx3.block _ (by omega)).trans HG.out
  have q0 : W3.cell? ⟨w.heap.size, 0, none⟩ = some (.slice sa sn sc) := cell_of_row _ _ _ _ _ _ HR.out
  have q5 : W3.cell? ⟨w.heap.size, 5, none⟩ = some (.string fa) := cell_of_row _ _ _ _ _ _ HR.out
  have OO : Hid (W3.ownsRow (w.heap.size + 1) 9 1 v2 (2 + nn + 2) (strV ((fw :: nm :: N) ++ [fa, u]))) := by
    have h : W3.ownsRow (w.heap.size + 1) 9 1 v2 (2 + nn + 2) (strV ((fw :: nm :: N) ++ [fa, u])) := by
      rw [show strV ((fw :: nm :: N) ++ [fa, u]) = strV (fw :: nm :: N) ++ [.string fa, .string u] from List.map_append]
      exact own3
    exact h
  clear own3 hgrow3 hnn3 O2 hx2 hvn hlt2
  refine hK.out _ _ ?_ (fun hHeld => ?_)
  · (((try dsimp only); (repeat' apply And.intro) <;> first | assumption | (simp (disch := first | omega | (simp <;> omega) | fail) [*]; done) | fail))
  clear hK K
  try simp only [Act.put, List.setIfInBounds_toArray, List.set_cons_zero, List.set_cons_succ]
  refine wpAnyH_take (i := 9) (by simp only [List.getElem?_toArray, List.getElem?_cons_zero, List.getElem?_cons_succ]; rfl) (by kernel_rfl) (by kernel_rfl) (by kernel_rfl) (by intro _ _ _ h; exact h) (Or.inl ⟨by rfl, fun w hSw => by (dsimp only at hSw; go_simp; (try with_reducible rfl))⟩) (by assumption) ?_
  simp only [Act.put, List.setIfInBounds_toArray, List.set_cons_zero, List.set_cons_succ]
  refine wpAnyH_done (by kernel_rfl) ?_ _
  clear q0 q5 hHeld
  have p8 : W3.cell? ⟨w.heap.size, 8, none⟩ = some (.int .i64 fc) := cell_of_row _ _ _ _ _ _ HR.out
  have p13 : W3.cell? ⟨w.heap.size, 13, none⟩ = some (.bool dn) := cell_of_row _ _ _ _ _ _ HR.out
  obtain ⟨L2, hL2⟩ : ∃ L, L = (fw :: nm :: N) ++ [fa, u] := ⟨_, rfl⟩
  have HL2 : Hid (L2.length = 2 + nn + 2) := by
    have h : L2.length = 2 + nn + 2 := by (rw [hL2, List.length_append, List.length_cons, List.length_cons, HN.out]) <;> (simp <;> omega)
    exact h
  rw [← hL2] at OO HQ0
  clear hL2
  cases dn
  · rw [if_neg (by decide), List.append_nil] at HQ0
    by_cases hc : 0 < fc
    · obtain ⟨⟨hc0, hc1⟩, hk0, hk1⟩ := HIN.out hc
      have HQ1 : Hid (fullP (L2 ++ [numT ct, numT sk]) = Q) := by
        have h := HQ0.out
        rw [if_pos hc] at h
        exact h
      have HL4 : Hid ((L2 ++ [numT ct, numT sk]).length = 2 + nn + 2 + 2) := by
        have h : (L2 ++ [numT ct, numT sk]).length = 2 + nn + 2 + 2 := by rw [List.length_append, HL2.out]; rfl
        exact h
      have p14 : W3.cell? ⟨w.heap.size, 14, none⟩ = some (.int .i64 ct) := cell_of_row _ _ _ _ _ _ HR.out
      have p15 : W3.cell? ⟨w.heap.size, 15, none⟩ = some (.int .i64 sk) := cell_of_row _ _ _ _ _ _ HR.out
      have hlt3 : w.heap.size < W3.heap.size := by have := hx3.size; have := HVW.out.2; omega
      go_wp2_with fail
      clear p8 p13
      refine wp_region_held_drew (S := (fun w' => w'.cell? ⟨w.heap.size, 14, none⟩ = some (.int .i64 ct) ∧ w'.cell? ⟨w.heap.size, 15, none⟩ = some (.int .i64 sk))) (by kernel_rfl) ?_ (fun hHeld => ?_)
      · (((try dsimp only); (repeat' apply And.intro) <;> first | (go_keep; done) | (simp (disch := first | omega | (simp <;> omega) | fail) [*]; done) | fail))
      refine wpAnyH_take (i := 0) (by simp only [List.getElem?_toArray, List.getElem?_cons_zero]; rfl) (by kernel_rfl) (by kernel_rfl) (by kernel_rfl) (by intro _ _ _ h; exact h) (Or.inl ⟨by rfl, fun w hSw => by (dsimp only at hSw; go_simp; (try with_reducible rfl))⟩) (by assumption) ?_
      simp only [Act.put, List.setIfInBounds_toArray, List.set_cons_zero, List.set_cons_succ]
      refine wpAnyH_take (i := 1) (by simp only [List.getElem?_toArray, List.getElem?_cons_zero, List.getElem?_cons_succ]; rfl) (by kernel_rfl) (by kernel_rfl) (by kernel_rfl) (by intro _ _ _ h; exact h) (Or.inl ⟨by rfl, fun w hSw => by (dsimp only at hSw; go_simp; (try with_reducible rfl))⟩) (by assumption) ?_
      simp only [Act.put, List.setIfInBounds_toArray, List.set_cons_zero, List.set_cons_succ]
      refine wpAnyH_take (i := 2) (by simp only [List.getElem?_toArray, List.getElem?_cons_zero, List.getElem?_cons_succ]; rfl) (by kernel_rfl) (by kernel_rfl) (by kernel_rfl) (by intro _ _ _ h; exact h) (Or.inl ⟨by rfl, fun w hSw => by (dsimp only at hSw; go_simp; (try with_reducible rfl))⟩) (by assumption) ?_
      simp only [Act.put, List.setIfInBounds_toArray, List.set_cons_zero, List.set_cons_succ]
      refine wpAnyH_take (i := 3) (by simp only [List.getElem?_toArray, List.getElem?_cons_zero, List.getElem?_cons_succ]; rfl) (by kernel_rfl) (by kernel_rfl) (by kernel_rfl) (by intro _ _ _ h; exact h) (Or.inl ⟨by rfl, fun w hSw => by (dsimp only at hSw; go_simp; (try with_reducible rfl))⟩) (by assumption) ?_
      simp only [Act.put, List.setIfInBounds_toArray, List.set_cons_zero, List.set_cons_succ]
      refine wpAnyH_take (i := 5) (by simp only [List.getElem?_toArray, List.getElem?_cons_zero, List.getElem?_cons_succ]; rfl) (by kernel_rfl) (by kernel_rfl) (by kernel_rfl) (by intro _ _ _ h; exact h) (Or.inl ⟨by rfl, fun w hSw => by (dsimp only at hSw; go_simp; (try with_reducible rfl))⟩) (by assumption) ?_
      simp only [Act.put, List.setIfInBounds_toArray, List.set_cons_zero, List.set_cons_succ]
      refine wpAnyH_take (i := 6) (by simp only [List.getElem?_toArray, List.getElem?_cons_zero, List.getElem?_cons_succ]; rfl) (by kernel_rfl) (by kernel_rfl) (by kernel_rfl) (by intro _ _ _ h; exact h) (Or.inl ⟨by rfl, fun w hSw => by (dsimp only at hSw; go_simp; (try with_reducible rfl))⟩) (by assumption) ?_
      simp only [Act.put, List.setIfInBounds_toArray, List.set_cons_zero, List.set_cons_succ]
      refine wpAnyH_take (i := 7) (by simp only [List.getElem?_toArray, List.getElem?_cons_zero, List.getElem?_cons_succ]; rfl) (by kernel_rfl) (by kernel_rfl) (by kernel_rfl) (by intro _ _ _ h; exact h) (Or.inl ⟨by rfl, fun w hSw => by (dsimp only at hSw; go_simp; (try with_reducible rfl))⟩) (by assumption) ?_
      simp only [Act.put, List.setIfInBounds_toArray, List.set_cons_zero, List.set_cons_succ]
      refine wpAnyH_ready (rs := [4]) (by kernel_rfl) (by simp) ?_
      refine AllReadyH.cons (by simp only [List.getElem?_toArray, List.getElem?_cons_zero, List.getElem?_cons_succ]; rfl) ?_ AllReadyH.nil
      intro K hK
      go_simp
      have hD : Below w.heap.size w W3.drew := HVW.out.1.trans ((hx3.mono (by omega)).drew)
      refine (format_lib ct (by omega) (by omega) _ (HV.out.1.below hD)).mono ?_
      rintro e W4 ⟨rfl, hb4⟩
      replace hb4 := undrew hb4
      have q14 : W4.cell? ⟨w.heap.size, 14, none⟩ = some (.int .i64 ct) := by rw [hb4.cell (p := ⟨w.heap.size, 14, none⟩) hlt3]; exact p14
      have q15 : W4.cell? ⟨w.heap.size, 15, none⟩ = some (.int .i64 sk) := by rw [hb4.cell (p := ⟨w.heap.size, 15, none⟩) hlt3]; exact p15
      have hx4 : Below (w.heap.size + 1) V W4 := hx3.trans (hb4.mono (by omega))
      have O4 : Hid (W4.ownsRow (w.heap.size + 1) 9 1 v2 (2 + nn + 2) (strV L2)) := own_below OO.out hb4
      have hlt4 : w.heap.size < W4.heap.size := Nat.lt_of_lt_of_le hlt3 hb4.size
      clear p14 p15 OO hb4 hlt3 hD
      go_wp2_with fail
      refine hK.out _ _ ?_ (fun hHeld => ?_)
      · (((try dsimp only); (repeat' apply And.intro) <;> first | (go_keep; done) | (simp (disch := first | omega | (simp <;> omega) | fail) [*]; done) | fail))
      clear hK K
      try simp only [Act.put, List.setIfInBounds_toArray, List.set_cons_zero, List.set_cons_succ]
      refine wpAnyH_ready (rs := [8]) (by kernel_rfl) (by simp) ?_
      refine AllReadyH.cons (by simp only [List.getElem?_toArray, List.getElem?_cons_zero, List.getElem?_cons_succ]; rfl) ?_ AllReadyH.nil
      intro K hK
      go_simp
      have hD : Below w.heap.size w W4 := HVW.out.1.trans (hx4.mono (by omega))
      refine (format_lib sk (by omega) (by omega) _ (HV.out.1.below hD)).mono ?_
      rintro e W5 ⟨rfl, hb5⟩
      have r14 : W5.cell? ⟨w.heap.size, 14, none⟩ = some (.int .i64 ct) := by rw [hb5.cell (p := ⟨w.heap.size, 14, none⟩) hlt4]; exact q14
      have r15 : W5.cell? ⟨w.heap.size, 15, none⟩ = some (.int .i64 sk) := by rw [hb5.cell (p := ⟨w.heap.size, 15, none⟩) hlt4]; exact q15
      have hx5 : Below (w.heap.size + 1) V W5 := hx4.trans (hb5.mono (by omega))
      have O5 : Hid (W5.ownsRow (w.heap.size + 1) 9 1 v2 (2 + nn + 2) (strV L2)) := own_below O4.out hb5
      have hlt5 : w.heap.size < W5.heap.size := Nat.lt_of_lt_of_le hlt4 hb5.size
      clear q14 q15 O4 hb5 hlt4 hD hx4
      go_wp2_with fail
      refine hK.out _ _ ?_ (fun hHeld => ?_)
      · (((try dsimp only); (repeat' apply And.intro) <;> first | (go_keep; done) | (simp (disch := first | omega | (simp <;> omega) | fail) [*]; done) | fail))
      clear hK K
      try simp only [Act.put, List.setIfInBounds_toArray, List.set_cons_zero, List.set_cons_succ]
      refine wpAnyH_ready (rs := [9]) (by kernel_rfl) (by simp) ?_
      refine AllReadyH.cons (by simp only [List.getElem?_toArray, List.getElem?_cons_zero, List.getElem?_cons_succ]; rfl) ?_ AllReadyH.nil
      intro K hK
      go_simp
      refine hK.out _ _ ?_ (fun hHeld => ?_)
      · (((try dsimp only); (repeat' apply And.intro) <;> first | (go_keep; done) | (simp (disch := first | omega | (simp <;> omega) | fail) [*]; done) | fail))
      clear hK K
      try simp only [Act.put, List.setIfInBounds_toArray, List.set_cons_zero, List.set_cons_succ]
      refine wpAnyH_ready (rs := [10]) (by kernel_rfl) (by simp) ?_
      refine AllReadyH.cons (by simp only [List.getElem?_toArray, List.getElem?_cons_zero, List.getElem?_cons_succ]; rfl) ?_ AllReadyH.nil
      intro K hK
      rw [if_pos (by rfl)]
      refine wp_append_own _ _ _ 22 rfl (w.heap.size + 1) 9 i0 (.string ⟨#[]⟩) 1 16 Tryz.underlying22 hti hz0 hz1 hz2 rfl (by decide) v2 (2 + nn + 2) (strV L2) rfl (O5.out.alloc _) ⟨W5.heap.size, 0, none⟩ 2 2 [.string (numT ct), .string (numT sk)] rfl rfl (pair_cells W5 (numT ct) (numT sk)) (by intro z hz; simp at hz; rcases hz with rfl | rfl <;> rfl) (by unfold maxLen; omega) (by omega) (by simp; omega) ?_
      intro v4 W6 own6 hgrow6 hnn6
      have hvn4 : v4 ≠ .slice none 0 0 := by first | exact hnn6 | exact fun e => hvn2 (hnn6.1 e).1
      have hx6 : Below (w.heap.size + 1) V W6 := (hx5.alloc (by omega) _).grown hgrow6 (by have := hx5.size; have := HVW.out.2; simp; omega) (fun kk hkk => (O5.out.lt kk hkk).1)
      have HR6 : Hid (_ = _) := (hx6.block w.heap.size (by omega)).trans HG.out
      have q14 : W6.cell? ⟨w.heap.size, 14, none⟩ = some (.int .i64 ct) := cell_of_row _ _ _ _ _ _ HR6.out
      have q15 : W6.cell? ⟨w.heap.size, 15, none⟩ = some (.int .i64 sk) := cell_of_row _ _ _ _ _ _ HR6.out
      have O6 : Hid (W6.ownsRow (w.heap.size + 1) 9 1 v4 (2 + nn + 2 + 2) (strV (L2 ++ [numT ct, numT sk]))) := by
        have h : W6.ownsRow (w.heap.size + 1) 9 1 v4 (2 + nn + 2 + 2) (strV (L2 ++ [numT ct, numT sk])) := by
          rw [show strV (L2 ++ [numT ct, numT sk]) = strV L2 ++ [.string (numT ct), .string (numT sk)] from List.map_append]
          exact own6
        exact h
      clear own6 hgrow6 hnn6 O5 hx5 hvn2 hlt5
      refine hK.out _ _ ?_ (fun hHeld => ?_)
      · (((try dsimp only); (repeat' apply And.intro) <;> first | assumption | (simp (disch := first | omega | (simp <;> omega) | fail) [*]; done) | fail))
      clear hK K
      try simp only [Act.put, List.setIfInBounds_toArray, List.set_cons_zero, List.set_cons_succ]
      refine wpAnyH_take (i := 11) (by simp only [List.getElem?_toArray, List.getElem?_cons_zero, List.getElem?_cons_succ]; rfl) (by kernel_rfl) (by kernel_rfl) (by kernel_rfl) (by intro _ _ _ h; exact h) (Or.inl ⟨by rfl, fun w hSw => by (dsimp only at hSw; go_simp; (try with_reducible rfl))⟩) (by assumption) ?_
      simp only [Act.put, List.setIfInBounds_toArray, List.set_cons_zero, List.set_cons_succ]
      refine wpAnyH_done (by kernel_rfl) ?_ _
      clear q14 q15 hHeld r14 r15
      obtain ⟨gp, cp, hvp, hcp⟩ := own_formV O6.out hvn4
      subst hvp
      clear hvn4
      go_wp2_with fail
      refine (delfunc_impl (w.heap.size + 1) gp cp _ (L2 ++ [numT ct, numT sk]) HL4.out _ O6.out (by omega) hcp).mono ?_
      rintro e wd ⟨m, rfl, hm0, hSd, hgd, hbd⟩
      have hxd := hx6.trans hbd
      rw [HQ1.out] at hm0 hSd
      have HSD : Hid (StrsAt wd (some ⟨gp, 0, none⟩) Q) := hSd
      have HM0 : Hid (m = Q.length) := hm0
      have HQL : Hid (Q.length ≤ 2 + nn + 2 + 2) := by
        have h := fullP_len (L2 ++ [numT ct, numT sk])
        rw [HQ1.out, HL4.out] at h
        exact h
      clear hSd hm0 hbd O6 
      go_wp2_with fail
      refine (joinedV gp cp Q m HM0.out _ HSD.out hgd y ⟨by have := HQL.out; omega, HJ.out.1, HJ.out.2, by have := HQL.out; omega⟩).mono ?_
      rintro e we ⟨rfl, hbe⟩
      have hxe : Below w.heap.size w we := HVW.out.1.trans ((hxd.trans (hbe.mono (by have := hxd.size; have := HVW.out.2; omega))).mono (by omega))
      go_wp2
      go_ret
      exact ⟨rfl, hxe⟩
    · have HQ1 : Hid (fullP L2 = Q) := by
        have h := HQ0.out
        rw [if_neg hc, List.append_nil] at h
        exact h
      have hc2 : fc ≤ 0 := by omega
      obtain ⟨gp, cp, hvp, hcp⟩ := own_formV OO.out hvn2
      subst hvp
      clear hvn2
      go_wp2_with fail
      refine (delfunc_impl (w.heap.size + 1) gp cp _ L2 HL2.out _ OO.out (by omega) hcp).mono ?_
      rintro e wd ⟨m, rfl, hm0, hSd, hgd, hbd⟩
      have hxd := hx3.trans hbd
      rw [HQ1.out] at hm0 hSd
      have HSD : Hid (StrsAt wd (some ⟨gp, 0, none⟩) Q) := hSd
      have HM0 : Hid (m = Q.length) := hm0
      have HQL : Hid (Q.length ≤ 2 + nn + 2) := by
        have h := fullP_len L2
        rw [HQ1.out, HL2.out] at h
        exact h
      clear hSd hm0 hbd OO p8 p13
      go_wp2_with fail
      refine (joinedV gp cp Q m HM0.out _ HSD.out hgd y ⟨by have := HQL.out; omega, HJ.out.1, HJ.out.2, by have := HQL.out; omega⟩).mono ?_
      rintro e we ⟨rfl, hbe⟩
      have hxe : Below w.heap.size w we := HVW.out.1.trans ((hxd.trans (hbe.mono (by have := hxd.size; have := HVW.out.2; omega))).mono (by omega))
      go_wp2
      go_ret
      exact ⟨rfl, hxe⟩
  · have hc2 : fc ≤ 0 := HDC.out rfl
    have HQ1 : Hid (fullP (L2 ++ [downT]) = Q) := by
      have h := HQ0.out
      rw [if_pos rfl, if_neg (by omega), List.append_nil] at h
      exact h
    have HL4 : Hid ((L2 ++ [downT]).length = 2 + nn + 2 + 1) := by
      have h : (L2 ++ [downT]).length = 2 + nn + 2 + 1 := by rw [List.length_append, HL2.out]; rfl
      exact h
    have hlt3 : w.heap.size < W3.heap.size := by have := hx3.size; have := HVW.out.2; omega
    go_wp2_with (at_builtin; refine wpList_append_own _ rfl _ _ 22 rfl (w.heap.size + 1) 9 i0 (.string ⟨#[]⟩) 1 16 Tryz.underlying22 hti hz0 hz1 hz2 rfl (by decide) v2 (2 + nn + 2) (strV L2) rfl (OO.out.alloc _) ⟨W3.heap.size, 0, none⟩ 1 1 [.string downT] rfl rfl (one_cells W3 downT) (by intro z hz; simp at hz; subst hz; rfl) (by unfold maxLen; omega) (by omega) (by simp; omega) ?_)
    intro v4 W6 own6 hgrow6 hnn6
    have hvn4 : v4 ≠ .slice none 0 0 := by first | exact hnn6 | exact fun e => hvn2 (hnn6.1 e).1
    have hx6 : Below (w.heap.size + 1) V W6 := (hx3.alloc (by omega) _).grown hgrow6 (by have := hx3.size; have := HVW.out.2; simp; omega) (fun kk hkk => (OO.out.lt kk hkk).1)
    have HR6 : Hid (_ = _) := (hx6.block w.heap.size (by omega)).trans HG.out
    have r8 : W6.cell? ⟨w.heap.size, 8, none⟩ = some (.int .i64 fc) := cell_of_row _ _ _ _ _ _ HR6.out
    have O6 : Hid (W6.ownsRow (w.heap.size + 1) 9 1 v4 (2 + nn + 2 + 1) (strV (L2 ++ [downT]))) := by
      have h : W6.ownsRow (w.heap.size + 1) 9 1 v4 (2 + nn + 2 + 1) (strV (L2 ++ [downT])) := by
        rw [show strV (L2 ++ [downT]) = strV L2 ++ [.string downT] from List.map_append]
        exact own6
      exact h
    clear own6 hgrow6 hnn6 OO hvn2 hlt3 p8 p13 HQ0
    obtain ⟨gp, cp, hvp, hcp⟩ := own_formV O6.out hvn4
    subst hvp
    clear hvn4
    go_wp2_with fail
    refine (delfunc_impl (w.heap.size + 1) gp cp _ (L2 ++ [downT]) HL4.out _ O6.out (by omega) hcp).mono ?_
    rintro e wd ⟨m, rfl, hm0, hSd, hgd, hbd⟩
    have hxd := hx6.trans hbd
    rw [HQ1.out] at hm0 hSd
    have HSD : Hid (StrsAt wd (some ⟨gp, 0, none⟩) Q) := hSd
    have HM0 : Hid (m = Q.length) := hm0
    have HQL : Hid (Q.length ≤ 2 + nn + 2 + 1) := by
      have h := fullP_len (L2 ++ [downT])
      rw [HQ1.out, HL4.out] at h
      exact h
    clear hSd hm0 hbd O6 r8
    go_wp2_with fail
    refine (joinedV gp cp Q m HM0.out _ HSD.out hgd y ⟨by have := HQL.out; omega, HJ.out.1, HJ.out.2, by have := HQL.out; omega⟩).mono ?_
    rintro e we ⟨rfl, hbe⟩
    have hxe : Below w.heap.size w we := HVW.out.1.trans ((hxd.trans (hbe.mono (by have := hxd.size; have := HVW.out.2; omega))).mono (by omega))
    go_wp2
    go_ret
    exact ⟨rfl, hxe⟩
set_option maxRecDepth 100000 in
set_option maxHeartbeats 4000000 in
theorem text_none (k : Int) (nm : ByteArray) (na : Option Addr) (nn nc : Nat) (N : List ByteArray) (hnn : N.length = nn) (sa : Option Addr) (sn sc : Nat) (S : List TI) (hsn : S.length = sn) (dn : Bool) (ct sk : Int) (fw : ByteArray) (fn : Bool) (ff fm : Int) (fa : ByteArray) (fs fl : Bool) (fc : Int) (hna : na = none) (w : World) (hp : PowAt w) (he : ErrAt w) (hs : SgnAt w) (hS : SivAt w na nc sa ⟨k, nm, N, S, dn, ct, sk⟩) (hmild : MildV ⟨k, nm, N, S, dn, ct, sk⟩) (hok : sieveB ⟨k, nm, N, S, dn, ct, sk⟩ = true) (hf : formF k = ⟨fw, fn, ff, fm, fa, fs, fl, fc⟩) (y : ByteArray) (hy : (⟨(showS ⟨k, nm, N, S, dn, ct, sk⟩).toArray⟩ : ByteArray) = y) :
    Calls Tryz.prog 36 #[.agg #[.slice sa sn sc, .string fw, .bool fn, .int .i64 ff, .int .i64 fm, .string fa, .bool fs, .bool fl, .int .i64 fc, .int .i64 k, .string nm, .slice na nn nc, .slice sa sn sc, .bool dn, .int .i64 ct, .int .i64 sk]] w fun e w' => e = .returned (.string y) ∧ Below w.heap.size w w' := by
  subst hna
  obtain rfl : nc = 0 := hS.nilN rfl
  obtain rfl : N = [] := List.length_eq_zero_iff.1 (Nat.le_zero.1 hS.capN)
  obtain rfl : nn = 0 := hnn.symm
  obtain ⟨i0, hti, hz0, hz1, hz2⟩ := info_parts infoStr
  have hn6 : 0 ≤ 6 := by rw [← hnn]; exact sieve_names_len hok
  have hsM : sn ≤ maxLen := by rw [← hsn]; exact hS.lenI
  have hfitI : Hid (FitI S) := by
    have h : FitI S := by
      intro x hx
      have h1 := oneI_le hx
      have h3 : weightItm S ≤ 1048576 := hmild.2.2.2.2
      unfold oneItm at h1
      unfold maxLen
      exact ⟨by omega, by omega⟩
    exact h
  have HN : Hid ([].length = 0) := hnn
  have HS : Hid (SivAt w none 0 sa ⟨k, nm, [], S, dn, ct, sk⟩) := hS
  have HV : Hid (PowAt w ∧ ErrAt w ∧ SgnAt w) := ⟨hp, he, hs⟩
  have HSN : Hid (S.length = sn) := hsn
  obtain ⟨Q, hQ⟩ : ∃ Q, fullP (piecesF ⟨fw, fn, ff, fm, fa, fs, fl, fc⟩ ⟨k, nm, [], S, dn, ct, sk⟩) = Q := ⟨_, rfl⟩
  have HJ : Hid ((⟨(Lib.join (rawT Q) [32]).toArray⟩ : ByteArray) = y ∧ (Lib.join (rawT Q) [32]).length ≤ 700) := by
    have h : Lib.join (rawT Q) [32] = showS ⟨k, nm, [], S, dn, ct, sk⟩ := by rw [← hQ, ← hf]; exact text_form ⟨k, nm, [], S, dn, ct, sk⟩ hok
    have h2 := showS_len ⟨k, nm, [], S, dn, ct, sk⟩ hok
    have h3 : (⟨(Lib.join (rawT Q) [32]).toArray⟩ : ByteArray) = y ∧ (Lib.join (rawT Q) [32]).length ≤ 700 := ⟨by rw [h]; exact hy, by rw [h]; exact h2⟩
    exact h3
  obtain ⟨u, hu⟩ : ∃ u, sumT S = u := ⟨_, rfl⟩
  have HU : Hid (sumT S = u) := hu
  have HQ0 : Hid (fullP ((((fw :: nm :: []) ++ [fa, u]) ++ (if dn = true then [downT] else [])) ++ (if 0 < fc then [numT ct, numT sk] else [])) = Q) := by
    have h : fullP ((((fw :: nm :: []) ++ [fa, u]) ++ (if dn = true then [downT] else [])) ++ (if 0 < fc then [numT ct, numT sk] else [])) = Q := by rw [← hu]; exact hQ
    exact h
  have HIN : Hid (0 < fc → (0 ≤ ct ∧ ct ≤ 1000) ∧ (0 ≤ sk ∧ sk ≤ 1000)) := by
    have h : 0 < fc → (0 ≤ ct ∧ ct ≤ 1000) ∧ (0 ≤ sk ∧ sk ≤ 1000) := by
      intro hc
      have hr := right_form ⟨k, nm, [], S, dn, ct, sk⟩
      dsimp only at hr
      rw [hf, hok] at hr
      unfold rightF canF at hr
      simp only [Bool.and_eq_true, decide_eq_true_eq] at hr
      have h9 : fc ≤ 1000 := by
        have e : (formF k).cnt = fc := by rw [hf]
        rw [← e]
        unfold formF
        repeat' split
        all_goals (dsimp only; omega)
      obtain ⟨_, _, _, _, _, q1, q2⟩ := hr
      omega
    exact h
  have HDC : Hid (dn = true → fc ≤ 0) := by
    have h : dn = true → fc ≤ 0 := by
      intro hd
      have hr := right_form ⟨k, nm, [], S, dn, ct, sk⟩
      dsimp only at hr
      rw [hf, hok] at hr
      unfold rightF at hr
      simp only [Bool.and_eq_true, hd, Bool.not_true, Bool.or_false] at hr
      have e1 : (formF k).fall = true := by rw [hf]; exact hr.2.2.2.2.1
      have e2 : (formF k).cnt = fc := by rw [hf]
      rw [← e2]
      exact form_fall k e1
    exact h
  clear hnn hsn hp he hs hS hmild hok hf hy hQ hu
  have own0 : ((w.alloc (.cells #[.slice sa sn sc, .string fw, .bool fn, .int .i64 ff, .int .i64 fm, .string fa, .bool fs, .bool fl, .int .i64 fc, .int .i64 k, .string nm, .slice none 0 0, .slice sa sn sc, .bool dn, .int .i64 ct, .int .i64 sk] 56)).alloc (.cells #[.string fw, .string nm] 9)).ownsRow (w.heap.size + 1) 9 1 (.slice (some ⟨w.heap.size + 1, 0, none⟩) 2 2) 2 [.string fw, .string nm] := by
    have h := own_pair (w.alloc (.cells #[.slice sa sn sc, .string fw, .bool fn, .int .i64 ff, .int .i64 fm, .string fa, .bool fs, .bool fl, .int .i64 fc, .int .i64 k, .string nm, .slice none 0 0, .slice sa sn sc, .bool dn, .int .i64 ct, .int .i64 sk] 56)) fw nm
    rw [alloc_one] at h
    exact h
  have hA0 : Below w.heap.size w ((w.alloc (.cells #[.slice sa sn sc, .string fw, .bool fn, .int .i64 ff, .int .i64 fm, .string fa, .bool fs, .bool fl, .int .i64 fc, .int .i64 k, .string nm, .slice none 0 0, .slice sa sn sc, .bool dn, .int .i64 ct, .int .i64 sk] 56)).alloc (.cells #[.string fw, .string nm] 9)) := ((Below.refl _ _).alloc (Nat.le_refl _) _).alloc (by simp) _
  have hA1 : Below (w.heap.size + 1) (w.alloc (.cells #[.slice sa sn sc, .string fw, .bool fn, .int .i64 ff, .int .i64 fm, .string fa, .bool fs, .bool fl, .int .i64 fc, .int .i64 k, .string nm, .slice none 0 0, .slice sa sn sc, .bool dn, .int .i64 ct, .int .i64 sk] 56)) ((w.alloc (.cells #[.slice sa sn sc, .string fw, .bool fn, .int .i64 ff, .int .i64 fm, .string fa, .bool fs, .bool fl, .int .i64 fc, .int .i64 k, .string nm, .slice none 0 0, .slice sa sn sc, .bool dn, .int .i64 ct, .int .i64 sk] 56)).alloc (.cells #[.string fw, .string nm] 9)) := (Below.refl _ _).alloc (by simp) _
  go_enter Tryz.func36, Tryz.ntmps36
  go_wp2_with (at_builtin; refine wpList_append_own_none rfl _ _ 22 rfl (w.heap.size + 1) 9 i0 1 Tryz.underlying22 hti (.slice (some ⟨w.heap.size + 1, 0, none⟩) 2 2) 2 [.string fw, .string nm] rfl own0 rfl ?_)
  obtain ⟨v1, hv1⟩ : ∃ v, v = Value.slice (some ⟨w.heap.size + 1, 0, none⟩) 2 2 := ⟨_, rfl⟩
  rw [← hv1] at own0 ⊢
  have hvn : v1 ≠ .slice none 0 0 := by rw [hv1]; simp
  clear hv1
  obtain ⟨W1, hW1⟩ : ∃ W, W = ((w.alloc (.cells #[.slice sa sn sc, .string fw, .bool fn, .int .i64 ff, .int .i64 fm, .string fa, .bool fs, .bool fl, .int .i64 fc, .int .i64 k, .string nm, .slice none 0 0, .slice sa sn sc, .bool dn, .int .i64 ct, .int .i64 sk] 56)).alloc (.cells #[.string fw, .string nm] 9)) := ⟨_, rfl⟩
  rw [← hW1] at own0 hA1 ⊢
  have own1 := own0
  clear hW1
  obtain ⟨V, hV⟩ : ∃ V, V = w.alloc (.cells #[.slice sa sn sc, .string fw, .bool fn, .int .i64 ff, .int .i64 fm, .string fa, .bool fs, .bool fl, .int .i64 fc, .int .i64 k, .string nm, .slice none 0 0, .slice sa sn sc, .bool dn, .int .i64 ct, .int .i64 sk] 56) := ⟨_, rfl⟩
  have hx : Below (w.heap.size + 1) V W1 := by
    rw [hV]
    exact hA1
  have HVW : Hid (Below w.heap.size w V ∧ V.heap.size = w.heap.size + 1) := by
    have h : Below w.heap.size w V ∧ V.heap.size = w.heap.size + 1 := ⟨by rw [hV]; exact (Below.refl _ _).alloc (Nat.le_refl _) _, by rw [hV]; simp⟩
    exact h
  have HG : Hid (V.heap[w.heap.size]? = some (.cells #[.slice sa sn sc, .string fw, .bool fn, .int .i64 ff, .int .i64 fm, .string fa, .bool fs, .bool fl, .int .i64 fc, .int .i64 k, .string nm, .slice none 0 0, .slice sa sn sc, .bool dn, .int .i64 ct, .int .i64 sk] 56)) := by rw [hV]; exact _root_.Go.heap_alloc_new _ _
  have OO : Hid (W1.ownsRow (w.heap.size + 1) 9 1 v1 (2 + 0) (strV (fw :: nm :: []))) := own1
  have p0 : W1.cell? ⟨w.heap.size, 0, none⟩ = some (.slice sa sn sc) := cell_of_row _ _ _ _ _ _ ((hx.block _ (by omega)).trans HG.out)
  have p5 : W1.cell? ⟨w.heap.size, 5, none⟩ = some (.string fa) := cell_of_row _ _ _ _ _ _ ((hx.block _ (by omega)).trans HG.out)
  clear own1 own0 hA0 hA1 hV
  go_wp2_with fail
  refine wp_region_held_drew (S := (fun w' => w'.cell? ⟨w.heap.size, 0, none⟩ = some (.slice sa sn sc) ∧ w'.cell? ⟨w.heap.size, 5, none⟩ = some (.string fa))) (by kernel_rfl) ?_ (fun hHeld => ?_)
  · (((try dsimp only); (repeat' apply And.intro) <;> first | (go_keep; done) | (simp (disch := first | omega | (simp <;> omega) | fail) [*]; done) | fail))
  refine wpAnyH_take (i := 0) (by simp only [List.getElem?_toArray, List.getElem?_cons_zero]; rfl) (by kernel_rfl) (by kernel_rfl) (by kernel_rfl) (by intro _ _ _ h; exact h) (Or.inl ⟨by rfl, fun w hSw => by (dsimp only at hSw; go_simp; (try with_reducible rfl))⟩) (by assumption) ?_
  simp only [Act.put, List.setIfInBounds_toArray, List.set_cons_zero, List.set_cons_succ]
  refine wpAnyH_take (i := 1) (by simp only [List.getElem?_toArray, List.getElem?_cons_zero, List.getElem?_cons_succ]; rfl) (by kernel_rfl) (by kernel_rfl) (by kernel_rfl) (by intro _ _ _ h; exact h) (Or.inl ⟨by rfl, fun w hSw => by (dsimp only at hSw; go_simp; (try with_reducible rfl))⟩) (by assumption) ?_
  simp only [Act.put, List.setIfInBounds_toArray, List.set_cons_zero, List.set_cons_succ]
  refine wpAnyH_take (i := 2) (by simp only [List.getElem?_toArray, List.getElem?_cons_zero, List.getElem?_cons_succ]; rfl) (by kernel_rfl) (by kernel_rfl) (by kernel_rfl) (by intro _ _ _ h; exact h) (Or.inl ⟨by rfl, fun w hSw => by (dsimp only at hSw; go_simp; (try with_reducible rfl))⟩) (by assumption) ?_
  simp only [Act.put, List.setIfInBounds_toArray, List.set_cons_zero, List.set_cons_succ]
  refine wpAnyH_take (i := 3) (by simp only [List.getElem?_toArray, List.getElem?_cons_zero, List.getElem?_cons_succ]; rfl) (by kernel_rfl) (by kernel_rfl) (by kernel_rfl) (by intro _ _ _ h; exact h) (Or.inl ⟨by rfl, fun w hSw => by (dsimp only at hSw; go_simp; (try with_reducible rfl))⟩) (by assumption) ?_
  simp only [Act.put, List.setIfInBounds_toArray, List.set_cons_zero, List.set_cons_succ]
  refine wpAnyH_take (i := 4) (by simp only [List.getElem?_toArray, List.getElem?_cons_zero, List.getElem?_cons_succ]; rfl) (by kernel_rfl) (by kernel_rfl) (by kernel_rfl) (by intro _ _ _ h; exact h) (Or.inl ⟨by rfl, fun w hSw => by (dsimp only at hSw; go_simp; (try with_reducible rfl))⟩) (by assumption) ?_
  simp only [Act.put, List.setIfInBounds_toArray, List.set_cons_zero, List.set_cons_succ]
  refine wpAnyH_take (i := 5) (by simp only [List.getElem?_toArray, List.getElem?_cons_zero, List.getElem?_cons_succ]; rfl) (by kernel_rfl) (by kernel_rfl) (by kernel_rfl) (by intro _ _ _ h; exact h) (Or.inl ⟨by rfl, fun w hSw => by (dsimp only at hSw; go_simp; (try with_reducible rfl))⟩) (by assumption) ?_
  simp only [Act.put, List.setIfInBounds_toArray, List.set_cons_zero, List.set_cons_succ]
  refine wpAnyH_ready (rs := [6]) (by kernel_rfl) (by simp) ?_
  refine AllReadyH.cons (by simp only [List.getElem?_toArray, List.getElem?_cons_zero, List.getElem?_cons_succ]; rfl) ?_ AllReadyH.nil
  intro K hK
  go_simp
  have hD : Below w.heap.size w W1.drew := HVW.out.1.trans ((hx.mono (by omega)).drew)
  refine (sumtext_impl sa sn sc S HSN.out _ (HV.out.1.below hD) (HV.out.2.1.below hD) (HV.out.2.2.below hD) (HS.out.sum.below hD) hfitI.out hsM u HU.out).mono ?_
  rintro e W2 ⟨rfl, hb2⟩
  replace hb2 := undrew hb2
  have hlt1 : w.heap.size < W1.heap.size := by have := hx.size; have := HVW.out.2; omega
  have q0 : W2.cell? ⟨w.heap.size, 0, none⟩ = some (.slice sa sn sc) := by rw [hb2.cell (p := ⟨w.heap.size, 0, none⟩) hlt1]; exact p0
  have q5 : W2.cell? ⟨w.heap.size, 5, none⟩ = some (.string fa) := by rw [hb2.cell (p := ⟨w.heap.size, 5, none⟩) hlt1]; exact p5
  have O2 : Hid (W2.ownsRow (w.heap.size + 1) 9 1 v1 (2 + 0) (strV (fw :: nm :: []))) := own_below OO.out hb2
  have hx2 : Below (w.heap.size + 1) V W2 := hx.trans (hb2.mono (by omega))
  have hlt2 : w.heap.size < W2.heap.size := Nat.lt_of_lt_of_le hlt1 hb2.size
  clear p0 p5 OO hx hb2 hD hlt1
  go_wp2_with fail
  refine hK.out _ _ ?_ (fun hHeld => ?_)
  · (((try dsimp only); (repeat' apply And.intro) <;> first | (go_keep; done) | (simp (disch := first | omega | (simp <;> omega) | fail) [*]; done) | fail))
  clear hK K
  try simp only [Act.put, List.setIfInBounds_toArray, List.set_cons_zero, List.set_cons_succ]
  refine wpAnyH_ready (rs := [7]) (by kernel_rfl) (by simp) ?_
  refine AllReadyH.cons (by simp only [List.getElem?_toArray, List.getElem?_cons_zero, List.getElem?_cons_succ]; rfl) ?_ AllReadyH.nil
  intro K hK
  go_simp
  refine hK.out _ _ ?_ (fun hHeld => ?_)
  · (((try dsimp only); (repeat' apply And.intro) <;> first | (go_keep; done) | (simp (disch := first | omega | (simp <;> omega) | fail) [*]; done) | fail))
  clear hK K
  try simp only [Act.put, List.setIfInBounds_toArray, List.set_cons_zero, List.set_cons_succ]
  refine wpAnyH_ready (rs := [8]) (by kernel_rfl) (by simp) ?_
  refine AllReadyH.cons (by simp only [List.getElem?_toArray, List.getElem?_cons_zero, List.getElem?_cons_succ]; rfl) ?_ AllReadyH.nil
  intro K hK
  rw [if_pos (by rfl)]
  refine wp_append_own _ _ _ 22 rfl (w.heap.size + 1) 9 i0 (.string ⟨#[]⟩) 1 16 Tryz.underlying22 hti hz0 hz1 hz2 rfl (by decide) v1 (2 + 0) (strV (fw :: nm :: [])) rfl (O2.out.alloc _) ⟨W2.heap.size, 0, none⟩ 2 2 [.string fa, .string u] rfl rfl (pair_cells W2 fa u) (by intro z hz; simp at hz; rcases hz with rfl | rfl <;> rfl) (by unfold maxLen; omega) (by omega) (by simp; omega) ?_
  intro v2 W3 own3 hgrow3 hnn3
  have hvn2 : v2 ≠ .slice none 0 0 := by first | exact hnn3 | exact fun e => hvn (hnn3.1 e).1
  have hx3 : Below (w.heap.size + 1) V W3 := (hx2.alloc (by omega) _).grown hgrow3 (by have := hx2.size; have := HVW.out.2; simp; omega) (fun kk hkk => (O2.out.lt kk hkk).1)
  have HR : Hid (W3.heap[w.heap.size]? = some (.cells #[.slice sa sn sc, .string fw, .bool fn, .int .i64 ff, .int .i64 fm, .string fa, .bool fs, .bool fl, .int .i64 fc, .int .i64 k, .string nm, .slice none 0 0, .slice sa sn sc, .bool dn, .int .i64 ct, .int .i64 sk] 56)) := (hx3.block _ (by omega)).trans HG.out
  have q0 : W3.cell? ⟨w.heap.size, 0, none⟩ = some (.slice sa sn sc) := cell_of_row _ _ _ _ _ _ HR.out
  have q5 : W3.cell? ⟨w.heap.size, 5, none⟩ = some (.string fa) := cell_of_row _ _ _ _ _ _ HR.out
  have OO : Hid (W3.ownsRow (w.heap.size + 1) 9 1 v2 (2 + 0 + 2) (strV ((fw :: nm :: []) ++ [fa, u]))) := by
    have h : W3.ownsRow (w.heap.size + 1) 9 1 v2 (2 + 0 + 2) (strV ((fw :: nm :: []) ++ [fa, u])) := by
      rw [show strV ((fw :: nm :: []) ++ [fa, u]) = strV (fw :: nm :: []) ++ [.string fa, .string u] from List.map_append]
      exact own3
    exact h
  clear own3 hgrow3 hnn3 O2 hx2 hvn hlt2
  refine hK.out _ _ ?_ (fun hHeld => ?_)
  · (((try dsimp only); (repeat' apply And.intro) <;> first | assumption | (simp (disch := first | omega | (simp <;> omega) | fail) [*]; done) | fail))
  clear hK K
  try simp only [Act.put, List.setIfInBounds_toArray, List.set_cons_zero, List.set_cons_succ]
  refine wpAnyH_take (i := 9) (by simp only [List.getElem?_toArray, List.getElem?_cons_zero, List.getElem?_cons_succ]; rfl) (by kernel_rfl) (by kernel_rfl) (by kernel_rfl) (by intro _ _ _ h; exact h) (Or.inl ⟨by rfl, fun w hSw => by (dsimp only at hSw; go_simp; (try with_reducible rfl))⟩) (by assumption) ?_
  simp only [Act.put, List.setIfInBounds_toArray, List.set_cons_zero, List.set_cons_succ]
  refine wpAnyH_done (by kernel_rfl) ?_ _
  clear q0 q5 hHeld
  have p8 : W3.cell? ⟨w.heap.size, 8, none⟩ = some (.int .i64 fc) := cell_of_row _ _ _ _ _ _ HR.out
  have p13 : W3.cell? ⟨w.heap.size, 13, none⟩ = some (.bool dn) := cell_of_row _ _ _ _ _ _ HR.out
  obtain ⟨L2, hL2⟩ : ∃ L, L = (fw :: nm :: []) ++ [fa, u] := ⟨_, rfl⟩
  have HL2 : Hid (L2.length = 2 + 0 + 2) := by
    have h : L2.length = 2 + 0 + 2 := by (rw [hL2, List.length_append, List.length_cons, List.length_cons, HN.out]) <;> (simp <;> omega)
    exact h
  rw [← hL2] at OO HQ0
  clear hL2
  cases dn
  · rw [if_neg (by decide), List.append_nil] at HQ0
    by_cases hc : 0 < fc
    · obtain ⟨⟨hc0, hc1⟩, hk0, hk1⟩ := HIN.out hc
      have HQ1 : Hid (fullP (L2 ++ [numT ct, numT sk]) = Q) := by
        have h := HQ0.out
        rw [if_pos hc] at h
        exact h
      have HL4 : Hid ((L2 ++ [numT ct, numT sk]).length = 2 + 0 + 2 + 2) := by
        have h : (L2 ++ [numT ct, numT sk]).length = 2 + 0 + 2 + 2 := by rw [List.length_append, HL2.out]; rfl
        exact h
      have p14 : W3.cell? ⟨w.heap.size, 14, none⟩ = some (.int .i64 ct) := cell_of_row _ _ _ _ _ _ HR.out
      have p15 : W3.cell? ⟨w.heap.size, 15, none⟩ = some (.int .i64 sk) := cell_of_row _ _ _ _ _ _ HR.out
      have hlt3 : w.heap.size < W3.heap.size := by have := hx3.size; have := HVW.out.2; omega
      go_wp2_with fail
      clear p8 p13
      refine wp_region_held_drew (S := (fun w' => w'.cell? ⟨w.heap.size, 14, none⟩ = some (.int .i64 ct) ∧ w'.cell? ⟨w.heap.size, 15, none⟩ = some (.int .i64 sk))) (by kernel_rfl) ?_ (fun hHeld => ?_)
      · (((try dsimp only); (repeat' apply And.intro) <;> first | (go_keep; done) | (simp (disch := first | omega | (simp <;> omega) | fail) [*]; done) | fail))
      refine wpAnyH_take (i := 0) (by simp only [List.getElem?_toArray, List.getElem?_cons_zero]; rfl) (by kernel_rfl) (by kernel_rfl) (by kernel_rfl) (by intro _ _ _ h; exact h) (Or.inl ⟨by rfl, fun w hSw => by (dsimp only at hSw; go_simp; (try with_reducible rfl))⟩) (by assumption) ?_
      simp only [Act.put, List.setIfInBounds_toArray, List.set_cons_zero, List.set_cons_succ]
      refine wpAnyH_take (i := 1) (by simp only [List.getElem?_toArray, List.getElem?_cons_zero, List.getElem?_cons_succ]; rfl) (by kernel_rfl) (by kernel_rfl) (by kernel_rfl) (by intro _ _ _ h; exact h) (Or.inl ⟨by rfl, fun w hSw => by (dsimp only at hSw; go_simp; (try with_reducible rfl))⟩) (by assumption) ?_
      simp only [Act.put, List.setIfInBounds_toArray, List.set_cons_zero, List.set_cons_succ]
      refine wpAnyH_take (i := 2) (by simp only [List.getElem?_toArray, List.getElem?_cons_zero, List.getElem?_cons_succ]; rfl) (by kernel_rfl) (by kernel_rfl) (by kernel_rfl) (by intro _ _ _ h; exact h) (Or.inl ⟨by rfl, fun w hSw => by (dsimp only at hSw; go_simp; (try with_reducible rfl))⟩) (by assumption) ?_
      simp only [Act.put, List.setIfInBounds_toArray, List.set_cons_zero, List.set_cons_succ]
      refine wpAnyH_take (i := 3) (by simp only [List.getElem?_toArray, List.getElem?_cons_zero, List.getElem?_cons_succ]; rfl) (by kernel_rfl) (by kernel_rfl) (by kernel_rfl) (by intro _ _ _ h; exact h) (Or.inl ⟨by rfl, fun w hSw => by (dsimp only at hSw; go_simp; (try with_reducible rfl))⟩) (by assumption) ?_
      simp only [Act.put, List.setIfInBounds_toArray, List.set_cons_zero, List.set_cons_succ]
      refine wpAnyH_take (i := 5) (by simp only [List.getElem?_toArray, List.getElem?_cons_zero, List.getElem?_cons_succ]; rfl) (by kernel_rfl) (by kernel_rfl) (by kernel_rfl) (by intro _ _ _ h; exact h) (Or.inl ⟨by rfl, fun w hSw => by (dsimp only at hSw; go_simp; (try with_reducible rfl))⟩) (by assumption) ?_
      simp only [Act.put, List.setIfInBounds_toArray, List.set_cons_zero, List.set_cons_succ]
      refine wpAnyH_take (i := 6) (by simp only [List.getElem?_toArray, List.getElem?_cons_zero, List.getElem?_cons_succ]; rfl) (by kernel_rfl) (by kernel_rfl) (by kernel_rfl) (by intro _ _ _ h; exact h) (Or.inl ⟨by rfl, fun w hSw => by (dsimp only at hSw; go_simp; (try with_reducible rfl))⟩) (by assumption) ?_
      simp only [Act.put, List.setIfInBounds_toArray, List.set_cons_zero, List.set_cons_succ]
      refine wpAnyH_take (i := 7) (by simp only [List.getElem?_toArray, List.getElem?_cons_zero, List.getElem?_cons_succ]; rfl) (by kernel_rfl) (by kernel_rfl) (by kernel_rfl) (by intro _ _ _ h; exact h) (Or.inl ⟨by rfl, fun w hSw => by (dsimp only at hSw; go_simp; (try with_reducible rfl))⟩) (by assumption) ?_
      simp only [Act.put, List.setIfInBounds_toArray, List.set_cons_zero, List.set_cons_succ]
      refine wpAnyH_ready (rs := [4]) (by kernel_rfl) (by simp) ?_
      refine AllReadyH.cons (by simp only [List.getElem?_toArray, List.getElem?_cons_zero, List.getElem?_cons_succ]; rfl) ?_ AllReadyH.nil
      intro K hK
      go_simp
      have hD : Below w.heap.size w W3.drew := HVW.out.1.trans ((hx3.mono (by omega)).drew)
      refine (format_lib ct (by omega) (by omega) _ (HV.out.1.below hD)).mono ?_
      rintro e W4 ⟨rfl, hb4⟩
      replace hb4 := undrew hb4
      have q14 : W4.cell? ⟨w.heap.size, 14, none⟩ = some (.int .i64 ct) := by rw [hb4.cell (p := ⟨w.heap.size, 14, none⟩) hlt3]; exact p14
      have q15 : W4.cell? ⟨w.heap.size, 15, none⟩ = some (.int .i64 sk) := by rw [hb4.cell (p := ⟨w.heap.size, 15, none⟩) hlt3]; exact p15
      have hx4 : Below (w.heap.size + 1) V W4 := hx3.trans (hb4.mono (by omega))
      have O4 : Hid (W4.ownsRow (w.heap.size + 1) 9 1 v2 (2 + 0 + 2) (strV L2)) := own_below OO.out hb4
      have hlt4 : w.heap.size < W4.heap.size := Nat.lt_of_lt_of_le hlt3 hb4.size
      clear p14 p15 OO hb4 hlt3 hD
      go_wp2_with fail
      refine hK.out _ _ ?_ (fun hHeld => ?_)
      · (((try dsimp only); (repeat' apply And.intro) <;> first | (go_keep; done) | (simp (disch := first | omega | (simp <;> omega) | fail) [*]; done) | fail))
      clear hK K
      try simp only [Act.put, List.setIfInBounds_toArray, List.set_cons_zero, List.set_cons_succ]
      refine wpAnyH_ready (rs := [8]) (by kernel_rfl) (by simp) ?_
      refine AllReadyH.cons (by simp only [List.getElem?_toArray, List.getElem?_cons_zero, List.getElem?_cons_succ]; rfl) ?_ AllReadyH.nil
      intro K hK
      go_simp
      have hD : Below w.heap.size w W4 := HVW.out.1.trans (hx4.mono (by omega))
      refine (format_lib sk (by omega) (by omega) _ (HV.out.1.below hD)).mono ?_
      rintro e W5 ⟨rfl, hb5⟩
      have r14 : W5.cell? ⟨w.heap.size, 14, none⟩ = some (.int .i64 ct) := by rw [hb5.cell (p := ⟨w.heap.size, 14, none⟩) hlt4]; exact q14
      have r15 : W5.cell? ⟨w.heap.size, 15, none⟩ = some (.int .i64 sk) := by rw [hb5.cell (p := ⟨w.heap.size, 15, none⟩) hlt4]; exact q15
      have hx5 : Below (w.heap.size + 1) V W5 := hx4.trans (hb5.mono (by omega))
      have O5 : Hid (W5.ownsRow (w.heap.size + 1) 9 1 v2 (2 + 0 + 2) (strV L2)) := own_below O4.out hb5
      have hlt5 : w.heap.size < W5.heap.size := Nat.lt_of_lt_of_le hlt4 hb5.size
      clear q14 q15 O4 hb5 hlt4 hD hx4
      go_wp2_with fail
      refine hK.out _ _ ?_ (fun hHeld => ?_)
      · (((try dsimp only); (repeat' apply And.intro) <;> first | (go_keep; done) | (simp (disch := first | omega | (simp <;> omega) | fail) [*]; done) | fail))
      clear hK K
      try simp only [Act.put, List.setIfInBounds_toArray, List.set_cons_zero, List.set_cons_succ]
      refine wpAnyH_ready (rs := [9]) (by kernel_rfl) (by simp) ?_
      refine AllReadyH.cons (by simp only [List.getElem?_toArray, List.getElem?_cons_zero, List.getElem?_cons_succ]; rfl) ?_ AllReadyH.nil
      intro K hK
      go_simp
      refine hK.out _ _ ?_ (fun hHeld => ?_)
      · (((try dsimp only); (repeat' apply And.intro) <;> first | (go_keep; done) | (simp (disch := first | omega | (simp <;> omega) | fail) [*]; done) | fail))
      clear hK K
      try simp only [Act.put, List.setIfInBounds_toArray, List.set_cons_zero, List.set_cons_succ]
      refine wpAnyH_ready (rs := [10]) (by kernel_rfl) (by simp) ?_
      refine AllReadyH.cons (by simp only [List.getElem?_toArray, List.getElem?_cons_zero, List.getElem?_cons_succ]; rfl) ?_ AllReadyH.nil
      intro K hK
      rw [if_pos (by rfl)]
      refine wp_append_own _ _ _ 22 rfl (w.heap.size + 1) 9 i0 (.string ⟨#[]⟩) 1 16 Tryz.underlying22 hti hz0 hz1 hz2 rfl (by decide) v2 (2 + 0 + 2) (strV L2) rfl (O5.out.alloc _) ⟨W5.heap.size, 0, none⟩ 2 2 [.string (numT ct), .string (numT sk)] rfl rfl (pair_cells W5 (numT ct) (numT sk)) (by intro z hz; simp at hz; rcases hz with rfl | rfl <;> rfl) (by unfold maxLen; omega) (by omega) (by simp; omega) ?_
      intro v4 W6 own6 hgrow6 hnn6
      have hvn4 : v4 ≠ .slice none 0 0 := by first | exact hnn6 | exact fun e => hvn2 (hnn6.1 e).1
      have hx6 : Below (w.heap.size + 1) V W6 := (hx5.alloc (by omega) _).grown hgrow6 (by have := hx5.size; have := HVW.out.2; simp; omega) (fun kk hkk => (O5.out.lt kk hkk).1)
      have HR6 : Hid (_ = _) := (hx6.block w.heap.size (by omega)).trans HG.out
      have q14 : W6.cell? ⟨w.heap.size, 14, none⟩ = some (.int .i64 ct) := cell_of_row _ _ _ _ _ _ HR6.out
      have q15 : W6.cell? ⟨w.heap.size, 15, none⟩ = some (.int .i64 sk) := cell_of_row _ _ _ _ _ _ HR6.out
      have O6 : Hid (W6.ownsRow (w.heap.size + 1) 9 1 v4 (2 + 0 + 2 + 2) (strV (L2 ++ [numT ct, numT sk]))) := by
        have h : W6.ownsRow (w.heap.size + 1) 9 1 v4 (2 + 0 + 2 + 2) (strV (L2 ++ [numT ct, numT sk])) := by
          rw [show strV (L2 ++ [numT ct, numT sk]) = strV L2 ++ [.string (numT ct), .string (numT sk)] from List.map_append]
          exact own6
        exact h
      clear own6 hgrow6 hnn6 O5 hx5 hvn2 hlt5
      refine hK.out _ _ ?_ (fun hHeld => ?_)
      · (((try dsimp only); (repeat' apply And.intro) <;> first | assumption | (simp (disch := first | omega | (simp <;> omega) | fail) [*]; done) | fail))
      clear hK K
      try simp only [Act.put, List.setIfInBounds_toArray, List.set_cons_zero, List.set_cons_succ]
      refine wpAnyH_take (i := 11) (by simp only [List.getElem?_toArray, List.getElem?_cons_zero, List.getElem?_cons_succ]; rfl) (by kernel_rfl) (by kernel_rfl) (by kernel_rfl) (by intro _ _ _ h; exact h) (Or.inl ⟨by rfl, fun w hSw => by (dsimp only at hSw; go_simp; (try with_reducible rfl))⟩) (by assumption) ?_
      simp only [Act.put, List.setIfInBounds_toArray, List.set_cons_zero, List.set_cons_succ]
      refine wpAnyH_done (by kernel_rfl) ?_ _
      clear q14 q15 hHeld r14 r15
      obtain ⟨gp, cp, hvp, hcp⟩ := own_formV O6.out hvn4
      subst hvp
      clear hvn4
      go_wp2_with fail
      refine (delfunc_impl (w.heap.size + 1) gp cp _ (L2 ++ [numT ct, numT sk]) HL4.out _ O6.out (by omega) hcp).mono ?_
      rintro e wd ⟨m, rfl, hm0, hSd, hgd, hbd⟩
      have hxd := hx6.trans hbd
      rw [HQ1.out] at hm0 hSd
      have HSD : Hid (StrsAt wd (some ⟨gp, 0, none⟩) Q) := hSd
      have HM0 : Hid (m = Q.length) := hm0
      have HQL : Hid (Q.length ≤ 2 + 0 + 2 + 2) := by
        have h := fullP_len (L2 ++ [numT ct, numT sk])
        rw [HQ1.out, HL4.out] at h
        exact h
      clear hSd hm0 hbd O6 
      go_wp2_with fail
      refine (joinedV gp cp Q m HM0.out _ HSD.out hgd y ⟨by have := HQL.out; omega, HJ.out.1, HJ.out.2, by have := HQL.out; omega⟩).mono ?_
      rintro e we ⟨rfl, hbe⟩
      have hxe : Below w.heap.size w we := HVW.out.1.trans ((hxd.trans (hbe.mono (by have := hxd.size; have := HVW.out.2; omega))).mono (by omega))
      go_wp2
      go_ret
      exact ⟨rfl, hxe⟩
    · have HQ1 : Hid (fullP L2 = Q) := by
        have h := HQ0.out
        rw [if_neg hc, List.append_nil] at h
        exact h
      have hc2 : fc ≤ 0 := by omega
      obtain ⟨gp, cp, hvp, hcp⟩ := own_formV OO.out hvn2
      subst hvp
      clear hvn2
      go_wp2_with fail
      refine (delfunc_impl (w.heap.size + 1) gp cp _ L2 HL2.out _ OO.out (by omega) hcp).mono ?_
      rintro e wd ⟨m, rfl, hm0, hSd, hgd, hbd⟩
      have hxd := hx3.trans hbd
      rw [HQ1.out] at hm0 hSd
      have HSD : Hid (StrsAt wd (some ⟨gp, 0, none⟩) Q) := hSd
      have HM0 : Hid (m = Q.length) := hm0
      have HQL : Hid (Q.length ≤ 2 + 0 + 2) := by
        have h := fullP_len L2
        rw [HQ1.out, HL2.out] at h
        exact h
      clear hSd hm0 hbd OO p8 p13
      go_wp2_with fail
      refine (joinedV gp cp Q m HM0.out _ HSD.out hgd y ⟨by have := HQL.out; omega, HJ.out.1, HJ.out.2, by have := HQL.out; omega⟩).mono ?_
      rintro e we ⟨rfl, hbe⟩
      have hxe : Below w.heap.size w we := HVW.out.1.trans ((hxd.trans (hbe.mono (by have := hxd.size; have := HVW.out.2; omega))).mono (by omega))
      go_wp2
      go_ret
      exact ⟨rfl, hxe⟩
  · have hc2 : fc ≤ 0 := HDC.out rfl
    have HQ1 : Hid (fullP (L2 ++ [downT]) = Q) := by
      have h := HQ0.out
      rw [if_pos rfl, if_neg (by omega), List.append_nil] at h
      exact h
    have HL4 : Hid ((L2 ++ [downT]).length = 2 + 0 + 2 + 1) := by
      have h : (L2 ++ [downT]).length = 2 + 0 + 2 + 1 := by rw [List.length_append, HL2.out]; rfl
      exact h
    have hlt3 : w.heap.size < W3.heap.size := by have := hx3.size; have := HVW.out.2; omega
    go_wp2_with (at_builtin; refine wpList_append_own _ rfl _ _ 22 rfl (w.heap.size + 1) 9 i0 (.string ⟨#[]⟩) 1 16 Tryz.underlying22 hti hz0 hz1 hz2 rfl (by decide) v2 (2 + 0 + 2) (strV L2) rfl (OO.out.alloc _) ⟨W3.heap.size, 0, none⟩ 1 1 [.string downT] rfl rfl (one_cells W3 downT) (by intro z hz; simp at hz; subst hz; rfl) (by unfold maxLen; omega) (by omega) (by simp; omega) ?_)
    intro v4 W6 own6 hgrow6 hnn6
    have hvn4 : v4 ≠ .slice none 0 0 := by first | exact hnn6 | exact fun e => hvn2 (hnn6.1 e).1
    have hx6 : Below (w.heap.size + 1) V W6 := (hx3.alloc (by omega) _).grown hgrow6 (by have := hx3.size; have := HVW.out.2; simp; omega) (fun kk hkk => (OO.out.lt kk hkk).1)
    have HR6 : Hid (_ = _) := (hx6.block w.heap.size (by omega)).trans HG.out
    have r8 : W6.cell? ⟨w.heap.size, 8, none⟩ = some (.int .i64 fc) := cell_of_row _ _ _ _ _ _ HR6.out
    have O6 : Hid (W6.ownsRow (w.heap.size + 1) 9 1 v4 (2 + 0 + 2 + 1) (strV (L2 ++ [downT]))) := by
      have h : W6.ownsRow (w.heap.size + 1) 9 1 v4 (2 + 0 + 2 + 1) (strV (L2 ++ [downT])) := by
        rw [show strV (L2 ++ [downT]) = strV L2 ++ [.string downT] from List.map_append]
        exact own6
      exact h
    clear own6 hgrow6 hnn6 OO hvn2 hlt3 p8 p13 HQ0
    obtain ⟨gp, cp, hvp, hcp⟩ := own_formV O6.out hvn4
    subst hvp
    clear hvn4
    go_wp2_with fail
    refine (delfunc_impl (w.heap.size + 1) gp cp _ (L2 ++ [downT]) HL4.out _ O6.out (by omega) hcp).mono ?_
    rintro e wd ⟨m, rfl, hm0, hSd, hgd, hbd⟩
    have hxd := hx6.trans hbd
    rw [HQ1.out] at hm0 hSd
    have HSD : Hid (StrsAt wd (some ⟨gp, 0, none⟩) Q) := hSd
    have HM0 : Hid (m = Q.length) := hm0
    have HQL : Hid (Q.length ≤ 2 + 0 + 2 + 1) := by
      have h := fullP_len (L2 ++ [downT])
      rw [HQ1.out, HL4.out] at h
      exact h
    clear hSd hm0 hbd O6 r8
    go_wp2_with fail
    refine (joinedV gp cp Q m HM0.out _ HSD.out hgd y ⟨by have := HQL.out; omega, HJ.out.1, HJ.out.2, by have := HQL.out; omega⟩).mono ?_
    rintro e we ⟨rfl, hbe⟩
    have hxe : Below w.heap.size w we := HVW.out.1.trans ((hxd.trans (hbe.mono (by have := hxd.size; have := HVW.out.2; omega))).mono (by omega))
    go_wp2
    go_ret
    exact ⟨rfl, hxe⟩
set_option maxHeartbeats 1000000 in
theorem text_impl (k : Int) (nm : ByteArray) (na : Option Addr) (nn nc : Nat) (N : List ByteArray) (hnn : N.length = nn) (sa : Option Addr) (sn sc : Nat) (S : List TI) (hsn : S.length = sn) (dn : Bool) (ct sk : Int) (fw : ByteArray) (fn : Bool) (ff fm : Int) (fa : ByteArray) (fs fl : Bool) (fc : Int) (w : World) (hp : PowAt w) (he : ErrAt w) (hs : SgnAt w) (hS : SivAt w na nc sa ⟨k, nm, N, S, dn, ct, sk⟩) (hmild : MildV ⟨k, nm, N, S, dn, ct, sk⟩) (hok : sieveB ⟨k, nm, N, S, dn, ct, sk⟩ = true) (hf : formF k = ⟨fw, fn, ff, fm, fa, fs, fl, fc⟩) (y : ByteArray) (hy : (⟨(showS ⟨k, nm, N, S, dn, ct, sk⟩).toArray⟩ : ByteArray) = y) :
    Calls Tryz.prog 36 #[.agg #[.slice sa sn sc, .string fw, .bool fn, .int .i64 ff, .int .i64 fm, .string fa, .bool fs, .bool fl, .int .i64 fc, .int .i64 k, .string nm, .slice na nn nc, .slice sa sn sc, .bool dn, .int .i64 ct, .int .i64 sk]] w fun e w' => e = .returned (.string y) ∧ Below w.heap.size w w' := by
  cases hna : na with
  | none => subst hna; exact text_none k nm none nn nc N hnn sa sn sc S hsn dn ct sk fw fn ff fm fa fs fl fc rfl w hp he hs hS hmild hok hf y hy
  | some ad => subst hna; exact text_some k nm (some ad) nn nc N hnn sa sn sc S hsn dn ct sk fw fn ff fm fa fs fl fc ad rfl w hp he hs hS hmild hok hf y hy
end Go.Proofs.YtmmandkellhbeaaGreatDoor
