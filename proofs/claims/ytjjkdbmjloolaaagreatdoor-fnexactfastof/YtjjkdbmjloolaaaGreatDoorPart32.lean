/-
  A part of the proof: ShpI1, ShpI2.
-/
import Derived.Test.YtjjkdbmjloolaaaGreatDoorPart1
import Derived.Test.YtjjkdbmjloolaaaGreatDoorPart24
import Derived.Test.YtjjkdbmjloolaaaGreatDoorPart17
import Derived.Test.YtjjkdbmjloolaaaGreatDoorPart31
import Derived.Test.YtjjkdbmjloolaaaGreatDoorPart11
import Derived.BigQuiet

namespace Go.Proofs.YtjjkdbmjloolaaaGreatDoor
open Go.ChangeShapes Go.WideShapes Go.ChangeAt Go.RowKit
attribute [local go_sem ↓] Go.wp_at_zero Go.wp_at_succ
attribute [local simp] World.cell?_alloc_past World.cell?_alloc_at World.frozen?_alloc_at cell_far cell_off cell_here World.frozen?_alloc_past
theorem errV_inv0 {A : Sen} {v : Value} (h : ErrV A 0 v) : v = .nilIface := by
 rcases h with ⟨_, h⟩ | ⟨h, _⟩ | ⟨h, _⟩ | ⟨h, _⟩ | ⟨h, _⟩ | ⟨h, _⟩
 · exact h
 all_goals exact absurd h (by decide)
theorem errV_inv3 {A : Sen} {v : Value} (h : ErrV A 3 v) : ∃ nm, v = .iface 159 (.agg #[.string nm, .iface 292 (.pointer (some A.e3))]) := by
 rcases h with ⟨h, _⟩ | ⟨h, _⟩ | ⟨h, _⟩ | ⟨_, h⟩ | ⟨h, _⟩ | ⟨h, _⟩
 all_goals first | exact h | exact absurd h (by decide)
set_option maxRecDepth 100000 in
set_option maxHeartbeats 4000000 in
theorem looked_impl (n : Nat) (a : Option Addr) (cap : Nat) (l : List ByteArray) (hn : l.length = n) (s : ByteArray) (w : World) (hrow : StrsAt w a l) (hm : n ≤ maxLen) (A : Sen) (hS : SenAt w A) (b : Bool) (hb : inB l s = b) :
  Calls Tryz.prog 85 #[.slice a n cap, .string s] w fun e w' => ∃ v, e = .returned v ∧ ErrV A (if b = true then 0 else 3) v ∧ Below w.heap.size w w' := by
 have HC : Hid (Calls Tryz.prog 88 #[.slice a n cap, .string s] w fun e w' => ∃ r, e = .returned (.int .i64 r) ∧ AtIs l s r ∧ Below w.heap.size w w') := columnof_impl n a cap l hn s w hrow hm
 have HS := hid hS
 have HB := hid hb
 clear hrow hn hb hS
 go_enter Tryz.func85, Tryz.ntmps85
 go_wp2_with fail
 refine HC.out.mono ?_
 rintro e w1 ⟨r, rfl, hat, hb1⟩
 have HAT := hid hat
 clear hat HC
 by_cases hr : 0 ≤ r
 · have e : b = true := by rw [← HB.out]; exact inB_iff.2 (HAT.out.neg.1 hr)
  subst e
  have hr2 : ¬ r < 0 := by omega
  go_wp2
  go_ret
  exact ⟨_, rfl, errV_0, hb1⟩
 · have e : b = false := by rw [← HB.out]; exact inB_no.2 (fun h => hr (HAT.out.neg.2 h))
  subst e
  have hr2 : r < 0 := by omega
  have hv := (HS.out.below hb1).v3
  go_wp2
  go_ret
  exact ⟨_, rfl, errV_3 _, hb1⟩
set_option maxRecDepth 100000 in
set_option maxHeartbeats 4000000 in
theorem free_col_impl (n : Nat) (a : Option Addr) (cap : Nat) (l : List ByteArray) (hn : l.length = n) (s : ByteArray) (w : World) (hrow : StrsAt w a l) (hm : n ≤ maxLen) (A : Sen) (hS : SenAt w A) (b : Bool) (hb : inB l s = b) :
  Calls Tryz.prog 106 #[.slice a n cap, .string s] w fun e w' => e = .returned (.bool !b) ∧ Below w.heap.size w w' := by
 have hA : Below w.heap.size w (w.alloc (.cells #[.string ⟨#[]⟩, .nilIface] 159)) := (Below.refl _ _).alloc (Nat.le_refl _) _
 have HC : Hid (Calls Tryz.prog 85 #[.slice a n cap, .string s] (w.alloc (.cells #[.string ⟨#[]⟩, .nilIface] 159)) fun e w' => ∃ v, e = .returned v ∧ ErrV A (if b = true then 0 else 3) v ∧ Below (w.alloc (.cells #[.string ⟨#[]⟩, .nilIface] 159)).heap.size (w.alloc (.cells #[.string ⟨#[]⟩, .nilIface] 159)) w') :=
  looked_impl n a cap l hn s _ (hrow.below hA) hm A (hS.below hA) b hb
 have HS := hid hS
 clear hrow hn hb hS
 go_enter Tryz.func106, Tryz.ntmps106
 go_wp2_with fail
 refine HC.out.mono ?_
 rintro e w1 ⟨v, rfl, hv, hb1⟩
 have hx : Below w.heap.size w w1 := chain hA hb1
 have hsz := hb1.size
 simp only [World.size_alloc] at hsz
 clear HC
 cases b
 · obtain ⟨nm, rfl⟩ := errV_inv3 hv
  have c0 : w1.cell? ⟨w.heap.size, 0, none⟩ = some (.string ⟨#[]⟩) := by rw [hb1.cell (p := ⟨w.heap.size, 0, none⟩) (by simp)]; simp
  have c1 : w1.cell? ⟨w.heap.size, 1, none⟩ = some .nilIface := by rw [hb1.cell (p := ⟨w.heap.size, 1, none⟩) (by simp)]; simp
  have f0 : w1.frozen? ⟨w.heap.size, 0, none⟩ = false := by rw [hb1.frozen (p := ⟨w.heap.size, 0, none⟩) (by simp)]; simp
  have f1 : w1.frozen? ⟨w.heap.size, 1, none⟩ = false := by rw [hb1.frozen (p := ⟨w.heap.size, 1, none⟩) (by simp)]; simp
  have C4 : Hid (w1.cell? ⟨w.heap.size, 0, none⟩ = some (.string ⟨#[]⟩) ∧ w1.cell? ⟨w.heap.size, 1, none⟩ = some .nilIface ∧ w1.frozen? ⟨w.heap.size, 0, none⟩ = false ∧ w1.frozen? ⟨w.heap.size, 1, none⟩ = false) := ⟨c0, c1, f0, f1⟩
  clear hv c0 c1 f0 f1
  go_wp2_with fail
  refine (as_hit nm (.iface 292 (.pointer (some A.e3))) (.string ⟨#[]⟩) .nilIface w.heap.size w1 A (HS.out.below hx) rfl C4.out.1 C4.out.2.1 C4.out.2.2.1 C4.out.2.2.2 (by omega)).mono ?_
  rintro e w2 ⟨rfl, hk⟩
  go_wp2
  go_ret
  exact ⟨rfl, hx.trans (hk.below (Nat.le_refl _) hx.size)⟩
 · obtain rfl := errV_inv0 hv
  clear hv
  go_wp2_with fail
  refine (as_nil _ _).mono ?_
  rintro e w2 ⟨rfl, rfl⟩
  go_wp2
  go_ret
  exact ⟨rfl, hx⟩
set_option maxRecDepth 100000 in
set_option maxHeartbeats 4000000 in
theorem all_there_impl (n : Nat) (a : Option Addr) (cap : Nat) (C : List ByteArray) (hn : C.length = n) (m : Nat) (a2 : Option Addr) (cap2 : Nat) (N : List ByteArray) (hm2 : N.length = m) (w : World) (hrow : StrsAt w a C) (hrow2 : StrsAt w a2 N) (hm : n ≤ maxLen) (hmm : m ≤ maxLen) (A : Sen) (hS : SenAt w A) (b : Bool) (hb : N.all (inB C) = b) :
  Calls Tryz.prog 80 #[.slice a n cap, .slice a2 m cap2] w fun e w' => ∃ v, e = .returned v ∧ ErrV A (if b = true then 0 else 3) v ∧ Below w.heap.size w w' := by
 have HR := hid hrow
 have HR2 := hid hrow2
 have HS := hid hS
 have HB := hid hb
 have HN := hid hn
 subst hm2
 clear hrow hrow2 hS hb hn
 unfold maxLen at hm hmm
 go_enter Tryz.func80, Tryz.ntmps80
 go_wp2
 go_loopw [10] (fun kk wr => ∃ k : Nat, k ≤ N.length ∧ kk = .int .i64 k ∧ Hid ((N.take k).all (inB C) = true) ∧ Below w.heap.size w wr) (fun kk _ => N.length - (intOf kk).toNat)
 case atStart => exact ⟨0, Nat.zero_le _, rfl, rfl, Below.refl _ _⟩
 case round =>
  obtain ⟨k, hk, rfl, hall, hbw⟩ := hrel
  by_cases hlt : k < N.length
  · obtain ⟨g, o, rfl, hgw, c0⟩ := HR2.out.below hbw k hlt
   have hi0 : (0 : Int) ≤ (k : Int) := by omega
   have hi1 : (k : Int) < (N.length : Int) := by omega
   have HT : Hid ((N.take (k + 1)).all (inB C) = inB C N[k]) := by
    have : (N.take (k + 1)).all (inB C) = inB C N[k] := by
     rw [List.take_succ_eq_append_getElem hlt, List.all_append, hall.out, Bool.true_and, List.all_cons, List.all_nil, Bool.and_true]
    exact this
   have hno : Hid (inB C N[k] = false → b = false) := by
    have : inB C N[k] = false → b = false := by
     intro e
     rw [← HB.out, Bool.eq_false_iff]
     intro h
     rw [List.all_eq_true.1 h _ (List.getElem_mem hlt)] at e
     cases e
    exact this
   obtain ⟨r, hr⟩ : ∃ r, inB C N[k] = r := ⟨_, rfl⟩
   generalize N[k] = x at c0 HT hr hno
   have HRR := hid hr
   clear hr
   go_wp2_with fail
   refine (looked_impl n a cap C HN.out x _ (HR.out.below hbw) (by unfold maxLen; omega) A (HS.out.below hbw) r HRR.out).mono ?_
   rintro e wA ⟨v, rfl, hv, hbA⟩
   cases r
   · have e := hno.out HRR.out
    subst e
    obtain ⟨nm, rfl⟩ := errV_inv3 hv
    clear hv
    go_wp2
    go_ret
    exact ⟨_, rfl, errV_3 _, chain hbw hbA⟩
   · obtain rfl := errV_inv0 hv
    clear hv
    go_wp2
    go_roundw
    case rel => exact ⟨k + 1, by omega, by go_num, by rw [HT.out]; exact HRR.out, chain hbw hbA⟩
    case measure => simp [intOf]; omega
  · have hkl : k = N.length := by omega
   subst hkl
   have hnn : ¬ (N.length : Int) < (N.length : Int) := by omega
   have e : b = true := by
    rw [← HB.out]
    have := hall.out
    rw [List.take_length] at this
    exact this
   subst e
   go_wp2
   go_ret
   exact ⟨_, rfl, errV_0, hbw⟩
def ColOut (w : World) (A : Sen) (D : List ByteArray) (k : Int) (e : Ending) (w' : World) : Prop :=
 ∃ a n c v, e = .returned (.tuple #[.slice a n c, v]) ∧ ErrV A k v ∧ (k = 0 → D.length = n ∧ StrsAt w' a D ∧ (a = none → c = 0) ∧ n ≤ c) ∧ Below w.heap.size w w'
def ColR (R : World → Option Addr → Prop) (w : World) (A : Sen) (D : List ByteArray) (k : Int) (e : Ending) (w' : World) : Prop :=
 ∃ a n c v, e = .returned (.tuple #[.slice a n c, v]) ∧ ErrV A k v ∧ (k = 0 → D.length = n ∧ StrsAt w' a D ∧ (a = none → c = 0) ∧ n ≤ c ∧ R w' a) ∧ Below w.heap.size w w'
theorem ColR.out {R : World → Option Addr → Prop} {w w' : World} {A : Sen} {D : List ByteArray} {k : Int} {e : Ending} (h : ColR R w A D k e w') : ColOut w A D k e w' := by
 obtain ⟨a, n, c, v, h1, h2, h3, h4⟩ := h
 exact ⟨a, n, c, v, h1, h2, fun e => ⟨(h3 e).1, (h3 e).2.1, (h3 e).2.2.1, (h3 e).2.2.2.1⟩, h4⟩
theorem ColOut.any {w w' : World} {A : Sen} {D : List ByteArray} {k : Int} {e : Ending} (h : ColOut w A D k e w') : ColR (fun _ _ => True) w A D k e w' := by
 obtain ⟨a, n, c, v, h1, h2, h3, h4⟩ := h
 exact ⟨a, n, c, v, h1, h2, fun e => ⟨(h3 e).1, (h3 e).2.1, (h3 e).2.2.1, (h3 e).2.2.2, trivial⟩, h4⟩
def NewS (w : World) (a : Option Addr) : Prop := ∃ g cs, a = some ⟨g, 0, none⟩ ∧ w.heap[g]? = some (.cells cs 9)
theorem InR.cols {T : List TB} {s : ByteArray} {u : TB} (h : InR T s u true) : inB (namesT T) s = true ∧ colsOf T s = u.2.1 ∧ u ∈ T := by
 rcases h with ⟨h, _⟩ | ⟨_, k, hk, e1, e2, hf⟩
 · cases h
 · have hfd := findT_at hk (e1 ▸ e2) (fun j hj hjk => hf j hj hjk)
  refine ⟨inB_iff.2 ?_, ?_, ?_⟩
  · rw [← e2, ← e1]; exact List.mem_map_of_mem (List.getElem_mem hk)
  · unfold colsOf; rw [hfd, e1]; rfl
  · rw [← e1]; exact List.getElem_mem hk
theorem InR.none {T : List TB} {s : ByteArray} {u : TB} (h : InR T s u false) : inB (namesT T) s = false := by
 rcases h with ⟨_, _, h⟩ | ⟨h, _⟩
 · exact inB_no.2 h
 · cases h
set_option maxRecDepth 100000 in
set_option maxHeartbeats 4000000 in
theorem tablecols_impl (a : Option Addr) (cap : Nat) (T : List TB) (n : Nat) (hn : T.length = n) (w : World) (hrow : TabsAt w a T) (hm : n ≤ 1048576) (hsm : ∀ t, t ∈ T → Small t) (s : ByteArray) (hsz : s.size ≤ maxLen) (A : Sen) (hS : SenAt w A) (D : List ByteArray) (hD : colsOf T s = D) (k : Int) (hk : (if inB (namesT T) s = true then 0 else 1) = k) :
  Calls Tryz.prog 108 #[.slice a n cap, .string s] w (ColOut w A D k) := by
 obtain ⟨u, b, hu⟩ := inR_some T s
 have HC : Hid (Calls Tryz.prog 131 #[.slice a n cap, .string s] w (InOut w u b)) := tablein_impl a cap T n hn w hrow hm hsm s hsz u b hu
 have HS := hid hS
 have HU := hid hu
 have HK := hid hk
 have HD := hid hD
 clear hrow hn hS hu hsm hk hD
 go_enter Tryz.func108, Tryz.ntmps108
 go_wp2_with fail
 refine HC.out.mono ?_
 rintro e w1 ⟨nc, nr, ca, cc, ra, cr, P, Q, rfl, hnc, hnr, hO, hb1⟩
 have HO := hid hO
 have HN := hid hnc
 have hsz1 := hb1.size
 clear HC hO hnc hnr
 cases b
 · have hv := (HS.out.below hb1).v1
  have hlt := (HS.out.below hb1).lt.1
  have ek := HK.out
  rw [HU.out.none] at ek
  have ek2 : (1 : Int) = k := ek
  subst ek2
  clear ek
  go_wp2_with fail
  go_quiet (fail)
  go_wp2
  refine bodyPost_ret (v := .tuple #[.slice none 0 0, .iface 159 (.agg #[.string s, .iface 292 (.pointer (some A.e1))])]) (by simp [results, Tryz.results108, go_sem]) rfl ?_
  exact ⟨_, _, _, _, rfl, errV_1 _, fun h => absurd h (by decide), belowN (hb1.alloc hb1.size _) _⟩
 · have ek := HK.out
  rw [HU.out.cols.1] at ek
  have ek2 : (0 : Int) = k := ek
  subst ek2
  clear ek
  have ed := HD.out
  rw [HU.out.cols.2.1] at ed
  subst ed
  go_wp2
  refine bodyPost_ret (v := .tuple #[.slice ca nc cc, .nilIface]) (by simp [results, Tryz.results108, go_sem]) rfl ?_
  exact ⟨_, _, _, _, rfl, errV_0, fun _ => ⟨HN.out, HO.out.cols.below ((Below.refl _ _).alloc (Nat.le_refl _) _), HO.out.nilC, by rw [← HN.out]; exact HO.out.cap⟩, hb1.alloc hb1.size _⟩
def widR (C M : List ByteArray) (S : List TI) (K : List ByteArray) : List ByteArray × Int :=
 if M.any (inB C) = true then ([], 2) else if (namesR S).all (inB K) = true then manyC (C ++ M) else ([], 3)
set_option maxRecDepth 100000 in
set_option maxHeartbeats 8000000 in
theorem widened_new (n : Nat) (a : Option Addr) (cap : Nat) (C : List ByteArray) (hn : C.length = n) (m : Nat) (a2 : Option Addr) (cap2 : Nat) (M : List ByteArray) (hm2 : M.length = m) (sa : Option Addr) (sn sc : Nat) (S : List TI) (hsn : S.length = sn)
  (n3 : Nat) (a3 : Option Addr) (cap3 : Nat) (K : List ByteArray) (hn3 : K.length = n3) (w : World) (hrow : StrsAt w a C) (hrow2 : StrsAt w a2 M) (hI : ItmAt w sa S) (hrow3 : StrsAt w a3 K) (hfit : FitI S) (hna : a = none → cap = 0) (hnb : a2 = none → cap2 = 0) (hpos : 0 < n + m) (hmax : n + m ≤ 1048576) (hm3 : n3 ≤ maxLen) (hsm : sn ≤ maxLen) (hNM : (namesR S).length ≤ maxLen) (A : Sen) (hS : SenAt w A) (D : List ByteArray) (k0 : Int) (hD : widR C M S K = (D, k0)) :
  Calls Tryz.prog 82 #[.slice a n cap, .slice a2 m cap2, .slice sa sn sc, .slice a3 n3 cap3] w (ColR NewS w A D k0) := by
 have HR := hid hrow
 have HR2 := hid hrow2
 have HR3 := hid hrow3
 have HI := hid hI
 have HF := hid hfit
 have HS := hid hS
 have HN := hid hn
 have HN3 := hid hn3
 have HSN := hid hsn
 have HNA := hid hna
 have HNB := hid hnb
 have HM3 := hid hm3
 have HSM := hid hsm
 have HNM := hid hNM
 have T2 : Hid (M.any (inB C) = true → k0 = 2) := by
  have : M.any (inB C) = true → k0 = 2 := fun h => by
   have h2 := hD
   unfold widR at h2
   rw [if_pos h] at h2
   exact (congrArg Prod.snd h2).symm
  exact this
 have T3 : Hid (M.any (inB C) = false → (namesR S).all (inB K) = false → k0 = 3) := by
  have : M.any (inB C) = false → (namesR S).all (inB K) = false → k0 = 3 := fun h h' => by
   have h2 := hD
   unfold widR at h2
   rw [if_neg (by rw [h]; decide), if_neg (by rw [h']; decide)] at h2
   exact (congrArg Prod.snd h2).symm
  exact this
 have T4 : Hid (M.any (inB C) = false → (namesR S).all (inB K) = true → (n + m ≤ 6 → D = C ++ M ∧ k0 = 0) ∧ (¬ n + m ≤ 6 → k0 = 4)) := by
  have : M.any (inB C) = false → (namesR S).all (inB K) = true → (n + m ≤ 6 → D = C ++ M ∧ k0 = 0) ∧ (¬ n + m ≤ 6 → k0 = 4) := fun h h' => by
   have h2 := hD
   unfold widR at h2
   rw [if_neg (by rw [h]; decide), if_pos h'] at h2
   unfold manyC at h2
   rw [List.length_append, hn, hm2] at h2
   refine ⟨fun h3 => ?_, fun h3 => ?_⟩
   · rw [if_pos h3] at h2
    exact ⟨(congrArg Prod.fst h2).symm, (congrArg Prod.snd h2).symm⟩
   · rw [if_neg h3] at h2
    exact (congrArg Prod.snd h2).symm
  exact this
 subst hm2
 clear hrow hrow2 hrow3 hI hfit hS hn hn3 hsn hD hna hnb hm3 hsm hNM
 go_enter Tryz.func82, Tryz.ntmps82
 go_wp2
 go_loopw [16] (fun kk wr => ∃ k : Nat, k ≤ M.length ∧ kk = .int .i64 k ∧ Hid ((M.take k).any (inB C) = false) ∧ Below w.heap.size w wr) (fun kk _ => M.length - (intOf kk).toNat)
 case atStart => exact ⟨0, Nat.zero_le _, rfl, rfl, Below.refl _ _⟩
 case round =>
  obtain ⟨k, hk, rfl, hall, hbw⟩ := hrel
  by_cases hlt : k < M.length
  · obtain ⟨g, o, rfl, hgw, c0⟩ := HR2.out.below hbw k hlt
   have hi0 : (0 : Int) ≤ (k : Int) := by omega
   have hi1 : (k : Int) < (M.length : Int) := by omega
   have HT : Hid ((M.take (k + 1)).any (inB C) = inB C M[k]) := by
    have : (M.take (k + 1)).any (inB C) = inB C M[k] := by
     rw [List.take_succ_eq_append_getElem hlt, List.any_append, hall.out, Bool.false_or, List.any_cons, List.any_nil, Bool.or_false]
    exact this
   have hno : Hid (inB C M[k] = true → M.any (inB C) = true) := by
    have : inB C M[k] = true → M.any (inB C) = true := fun e => List.any_eq_true.2 ⟨_, List.getElem_mem hlt, e⟩
    exact this
   obtain ⟨r, hr⟩ : ∃ r, inB C M[k] = r := ⟨_, rfl⟩
   generalize M[k] = x at c0 HT hr hno
   have HRR := hid hr
   clear hr
   go_wp2_with fail
   refine (free_col_impl n a cap C HN.out x _ (HR.out.below hbw) (by unfold maxLen; omega) A (HS.out.below hbw) r HRR.out).mono ?_
   rintro e wA ⟨rfl, hbA⟩
   cases r
   · go_wp2
    go_roundw
    case rel => exact ⟨k + 1, by omega, by go_num, by rw [HT.out]; exact HRR.out, chain hbw hbA⟩
    case measure => simp [intOf]; omega
   · have e := T2.out (hno.out HRR.out)
    subst e
    have hv := (HS.out.below (chain hbw hbA)).v2
    go_wp2_with fail
    go_quiet (fail)
    go_wp2
    refine bodyPost_ret (v := .tuple #[.slice none 0 0, .iface 292 (.pointer (some A.e2))]) (by simp [results, Tryz.results82, go_sem]) rfl ?_
    exact ⟨_, _, _, _, rfl, errV_2, fun h => absurd h (by decide), belowN (chain hbw hbA) _⟩
  · have hkl : k = M.length := by omega
   subst hkl
   have hnn : ¬ (M.length : Int) < (M.length : Int) := by omega
   have HAny : Hid (M.any (inB C) = false) := by
    have := hall.out
    rw [List.take_length] at this
    exact this
   clear hall T2
   go_wp2_with fail
   refine (namesof_impl sa sc S sn HSN.out _ (HI.out.below hbw) HF.out HSM.out (HS.out.below hbw).pow (HS.out.below hbw).err _ rfl).mono ?_
   rintro e w1 ⟨v, rfl, ⟨hown, hvn⟩, hb1⟩
   obtain ⟨g1, c1, rfl⟩ : ∃ g c, v = .slice (some ⟨g, 0, none⟩) (namesR S).length c := by
    rcases hown.2 with ⟨e', _⟩ | ⟨g, cap, cur, e', _⟩
    · exact absurd e' hvn
    · exact ⟨g, cap, e'⟩
   have HO1 : Hid (StrsAt w1 (some ⟨g1, 0, none⟩) (namesR S)) := own_strs hown
   have hb2 : Below w.heap.size w w1 := chain hbw hb1
   obtain ⟨r, hr⟩ : ∃ r, (namesR S).all (inB K) = r := ⟨_, rfl⟩
   have HRR := hid hr
   clear hown hvn hr hb1 hbw
   go_wp2_with fail
   refine (all_there_impl n3 a3 cap3 K HN3.out _ (some ⟨g1, 0, none⟩) c1 (namesR S) rfl w1 (HR3.out.below hb2) HO1.out HM3.out HNM.out A (HS.out.below hb2) r HRR.out).mono ?_
   rintro e w2 ⟨v, rfl, hv, hb3⟩
   have hb4 : Below w.heap.size w w2 := chain hb2 hb3
   clear hb2 hb3 HO1
   cases r
   · have e := T3.out HAny.out HRR.out
    subst e
    obtain ⟨nm, rfl⟩ := errV_inv3 hv
    clear hv
    go_wp2
    refine bodyPost_ret (v := .tuple #[.slice none 0 0, .iface 159 (.agg #[.string nm, .iface 292 (.pointer (some A.e3))])]) (by simp [results, Tryz.results82, go_sem]) rfl ?_
    exact ⟨_, _, _, _, rfl, errV_3 _, fun h => absurd h (by decide), hb4⟩
   · obtain rfl := errV_inv0 hv
    clear hv
    have hA : Below w2.heap.size w2 (w2.alloc (.cells #[.slice a n cap, .slice a2 M.length cap2] 22)) := (Below.refl _ _).alloc (Nat.le_refl _) _
    have hx := chain hb4 hA
    go_wp2_with fail
    refine (concat_impl w2.heap.size 2 a n cap C a2 M.length cap2 M HN.out rfl (w2.alloc (.cells #[.slice a n cap, .slice a2 M.length cap2] 22)) (by simp) (by simp) (by simp) (HR.out.below hx) (HR2.out.below hx) HNA.out HNB.out hpos hmax).mono ?_
    rintro e w3 ⟨g, c, rfl, hc, hown, hb5⟩
    have hb6 : Below w.heap.size w w3 := chain hx hb5
    have HO : Hid (StrsAt w3 (some ⟨g, 0, none⟩) (C ++ M)) := by
     have hl : (C ++ M).length = n + M.length := by rw [List.length_append, HN.out]
     rw [← hl] at hown
     exact own_strs hown
    have HNS := hid (p := NewS w3 (some ⟨g, 0, none⟩)) (by
     rcases hown.2 with ⟨e, _⟩ | ⟨g', c', cur, e, _, hg, _⟩
     · cases e
     · cases e; exact ⟨_, _, rfl, hg⟩)
    have h4 := T4.out HAny.out HRR.out
    clear hown hA hx hb5 hb4
    by_cases h6 : n + M.length ≤ 6
    · obtain ⟨e1, e2⟩ := h4.1 h6
     subst e1 e2
     clear h4
     have hi6 : ¬ ((n : Int) + (M.length : Int) > 6) := by omega
     go_wp2
     refine bodyPost_ret (v := .tuple #[.slice (some ⟨g, 0, none⟩) (n + M.length) c, .nilIface]) (by simp [results, Tryz.results82, go_sem]) rfl ?_
     exact ⟨_, _, _, _, rfl, errV_0, fun _ => ⟨by rw [List.length_append, HN.out], HO.out, (fun h => by cases h), hc, HNS.out⟩, hb6⟩
    · have e1 := h4.2 h6
     subst e1
     clear h4
     have hi6 : ((n : Int) + (M.length : Int) > 6) := by omega
     have hv := (HS.out.below hb6).v4
     go_wp2_with fail
     go_quiet (fail)
     go_wp2
     refine bodyPost_ret (v := .tuple #[.slice none 0 0, .iface 292 (.pointer (some A.e4))]) (by simp [results, Tryz.results82, go_sem]) rfl ?_
     exact ⟨_, _, _, _, rfl, errV_4, fun h => absurd h (by decide), belowN hb6 _⟩
theorem widened_impl (n : Nat) (a : Option Addr) (cap : Nat) (C : List ByteArray) (hn : C.length = n) (m : Nat) (a2 : Option Addr) (cap2 : Nat) (M : List ByteArray) (hm2 : M.length = m) (sa : Option Addr) (sn sc : Nat) (S : List TI) (hsn : S.length = sn)
  (n3 : Nat) (a3 : Option Addr) (cap3 : Nat) (K : List ByteArray) (hn3 : K.length = n3) (w : World) (hrow : StrsAt w a C) (hrow2 : StrsAt w a2 M) (hI : ItmAt w sa S) (hrow3 : StrsAt w a3 K) (hfit : FitI S) (hna : a = none → cap = 0) (hnb : a2 = none → cap2 = 0) (hpos : 0 < n + m) (hmax : n + m ≤ 1048576) (hm3 : n3 ≤ maxLen) (hsm : sn ≤ maxLen) (hNM : (namesR S).length ≤ maxLen) (A : Sen) (hS : SenAt w A) (D : List ByteArray) (k0 : Int) (hD : widR C M S K = (D, k0)) :
  Calls Tryz.prog 82 #[.slice a n cap, .slice a2 m cap2, .slice sa sn sc, .slice a3 n3 cap3] w (ColOut w A D k0) :=
 (widened_new n a cap C hn m a2 cap2 M hm2 sa sn sc S hsn n3 a3 cap3 K hn3 w hrow hrow2 hI hrow3 hfit hna hnb hpos hmax hm3 hsm hNM A hS D k0 hD).mono (fun _ _ h => h.out)
end Go.Proofs.YtjjkdbmjloolaaaGreatDoor
