/-
  A part of the proof: SvMath2, SvMath3, SvMath4, SvForm, Lists4, Open1.
-/
import Derived.Test.YtmmandkellhbeaaGreatDoorPart5
import Derived.Deep.SlicePairs

/-
  Sieves without any program: what the text of a sieve is read as, and that a right sieve is read from its text.
-/
namespace Go.Proofs.YtmmandkellhbeaaGreatDoor

/-- A number of at most nine digits. -/
def read9 (l : List UInt8) : Option Int := if (if l.head? = some 45 then l.length - 1 else l.length) ≤ 9 then readMost l else none
/-- The sum of a text. -/
def textSum (l : List UInt8) : Option (List TI) := match toksB ⟨l.toArray⟩ with
  | none => none
  | some t => if (sumR t).2 = true then some (sumR t).1 else none
def bareV (k : Int) : SV := ⟨k, ⟨#[]⟩, [], [], false, 0, 0⟩
def withSum (k : Int) (e : List UInt8) (l : List UInt8) : List (List UInt8) → Option SV
  | n :: e' :: _ :: _ => if e' = e then (textSum (restW 3 l)).map (fun o => ⟨k, ⟨n.toArray⟩, [], o, false, 0, 0⟩) else none
  | _ => none
def orderV : List (List UInt8) → Option SV
  | [n] => some ⟨8, ⟨n.toArray⟩, [], [], false, 0, 0⟩
  | [n, d] => if d = [100, 111, 119, 110] then some ⟨8, ⟨n.toArray⟩, [], [], true, 0, 0⟩ else none
  | _ => none
def limitV : List (List UInt8) → Option SV
  | [a, b] => match read9 a, read9 b with
    | some x, some y => some ⟨9, ⟨#[]⟩, [], [], false, x, y⟩
    | _, _ => none
  | _ => none
def fromV : List (List UInt8) → Option SV
  | [n] => some ⟨1, ⟨n.toArray⟩, [], [], false, 0, 0⟩
  | _ => none
def onceV : List (List UInt8) → Option SV
  | [] => some (bareV 10)
  | _ => none
/-- What the words of a text stand for, be it right or not. -/
def candS (l w : List UInt8) (ws : List (List UInt8)) : Option SV :=
  if w = wordS 1 then fromV ws
  else if w = wordS 2 then (textSum (restW 1 l)).map (fun o => ⟨2, ⟨#[]⟩, [], o, false, 0, 0⟩)
  else if w = wordS 3 then withSum 3 [61] l ws
  else if w = wordS 4 then some ⟨4, ⟨#[]⟩, ws.map (fun x => ⟨x.toArray⟩), [], false, 0, 0⟩
  else if w = wordS 5 then withSum 5 [111, 110] l ws
  else if w = wordS 6 then withSum 6 [111, 110] l ws
  else if w = wordS 7 then some ⟨7, ⟨#[]⟩, ws.map (fun x => ⟨x.toArray⟩), [], false, 0, 0⟩
  else if w = wordS 8 then orderV ws
  else if w = wordS 9 then limitV ws
  else if w = wordS 10 then onceV ws else none
/-- The sieve of a text. -/
def readS (l : List UInt8) : Option SV := match wordsW l with
  | [] => none
  | w :: ws => match candS l w ws with
    | some s => if sieveB s = true then some s else none
    | none => none
theorem nameK_word {s : ByteArray} (h : nameK s = true) : (32 : UInt8) ∉ s.data.toList ∧ s.data.toList ≠ [] := by
  unfold nameK nameB at h
  simp only [Bool.and_eq_true, decide_eq_true_eq] at h
  refine ⟨fun hm => ?_, fun e => ?_⟩
  · have := List.all_eq_true.1 h.1.2.1 _ hm
    simp at this
  · exact h.1.1 (by cases s; simp_all)
theorem sumL_tree {t : Tr} (h : t.ok) (hs : sumB t.post = true) : sumL t.post = t.text := by
  unfold sumL
  rw [sumT_tree h hs]
  rfl
theorem textSum_show {l : List TI} (h : sumB l = true) {b : List UInt8} (hb : Bl b) (hz : (sumL l).length ≤ 1990) : textSum (32 :: (sumL l ++ b)) = some l := by
  obtain ⟨t, ht, rfl⟩ := sum_tree h
  rw [sumL_tree ht h] at hz ⊢
  have hbl : b.length ≤ 1 := by rcases hb with rfl | rfl <;> simp
  have he : Ends b := by
    rcases hb with rfl | rfl
    · exact .inl rfl
    · exact Ends.blank []
  have hb0 : toksL b = some [] := by
    rcases hb with rfl | rfl
    · exact toksL_nil
    · rw [toksL_blank]; exact toksL_nil
  have h1 : toksB ⟨(32 :: (t.text ++ b)).toArray⟩ = some t.toks := by
    rw [toksB_L (by rw [Lib.size_eq]; simp; omega)]
    show toksL (32 :: (t.text ++ b)) = _
    rw [toksL_blank, toksL_text ht he, hb0]
    simp
  have ha : t.toks.all tokB = true := by
    have e : toksB ⟨(t.text).toArray⟩ = some t.toks := toksB_sum ht _ rfl (by rw [Lib.size_eq]; simp; omega)
    exact toksB_ok e
  unfold textSum
  rw [h1]
  dsimp only
  rw [sumR_end ha ((par_sum ht).levR (by omega)), if_pos h]
  rfl
theorem wordS_free (k : Int) : (32 : UInt8) ∉ wordS k ∧ wordS k ≠ [] := by
  unfold wordS
  (repeat' split) <;> decide
theorem readS_of {l w : List UInt8} {ws : List (List UInt8)} {s : SV} (hw : wordsW l = w :: ws) (hc : candS l w ws = some s) (hs : sieveB s = true) : readS l = some s := by
  unfold readS
  rw [hw]
  dsimp only
  rw [hc]
  dsimp only
  rw [if_pos hs]
theorem bytes_back (s : ByteArray) : (⟨s.data.toList.toArray⟩ : ByteArray) = s := by cases s; simp
theorem wordsW_names {b : List UInt8} (hb : Bl b) : ∀ (ns : List ByteArray) (w : List UInt8), (32 : UInt8) ∉ w → w ≠ [] → ns.all nameK = true → wordsW (Lib.join (w :: ns.map (·.data.toList)) [32] ++ b) = w :: ns.map (·.data.toList)
  | [], w, h, h0, _ => by
    show wordsW (Lib.join [w] [32] ++ b) = [w]
    have : Lib.join [w] [32] = w := by simp [Lib.join]
    rw [this]
    exact wordsW_last h h0 hb
  | n :: ns, w, h, h0, ha => by
    simp only [List.all_cons, Bool.and_eq_true] at ha
    obtain ⟨h1, h2⟩ := nameK_word ha.1
    have e : Lib.join (w :: (n :: ns).map (·.data.toList)) [32] ++ b = w ++ 32 :: (Lib.join (n.data.toList :: ns.map (·.data.toList)) [32] ++ b) := by
      simp [Lib.join]
    rw [e, wordsW_word h h0, wordsW_names hb ns n.data.toList h1 h2 ha.2]
    rfl
theorem valFrom_big : ∀ (m : List UInt8) (acc : Nat), acc * 10 ^ m.length ≤ valFrom acc m
  | [], acc => by
    rw [valFrom_nil, List.length_nil, Nat.pow_zero, Nat.mul_one]
    exact Nat.le_refl _
  | c :: m, acc => by
    have ih := valFrom_big m (acc * 10 + (c.toNat - 48))
    have hv : valFrom acc (c :: m) = valFrom (acc * 10 + (c.toNat - 48)) m := rfl
    rw [hv, List.length_cons, Nat.pow_succ]
    generalize 10 ^ m.length = K at ih ⊢
    have e : acc * (K * 10) = acc * 10 * K := by rw [Nat.mul_comm K 10, Nat.mul_assoc]
    have h2 : acc * (K * 10) ≤ (acc * 10 + (c.toNat - 48)) * K := by
      rw [Nat.add_mul, e]
      exact Nat.le_add_right _ _
    exact Nat.le_trans h2 ih
theorem itoa_free {n : Int} (h : in1000 n = true) : (32 : UInt8) ∉ Lib.itoa n ∧ Lib.itoa n ≠ [] ∧ read9 (Lib.itoa n) = some n := by
  unfold in1000 at h
  simp only [Bool.and_eq_true, decide_eq_true_eq] at h
  obtain ⟨v, p, _⟩ := decDigits_plain n.toNat
  rw [itoa_nonneg n h.1]
  refine ⟨fun hm => ?_, p.1, ?_⟩
  · have := p.2.1 _ hm
    unfold isDig at this
    simp at this
  · have h1 := readMost_itoa n (by omega) (by omega)
    rw [itoa_nonneg n h.1] at h1
    have hl : (Lib.decDigits n.toNat).length ≤ 9 := by
      by_cases hc : (Lib.decDigits n.toNat).length ≤ 9
      · exact hc
      · exfalso
        have h10 := decDigits_len n.toNat (by omega)
        have hp := p.2.2
        have e10 : (Lib.decDigits n.toNat).length = 10 := by omega
        cases hd : Lib.decDigits n.toNat with
        | nil => rw [hd] at e10; simp at e10
        | cons a r =>
          have hne : a ≠ 48 := fun e => by
            rw [hd, e] at hp
            have h48 := hp rfl
            rw [hd] at e10
            simp only [List.length_cons] at h48 e10
            omega
          have ha := p.2.1 a (by rw [hd]; simp)
          have hge : 1 ≤ a.toNat - 48 := by
            unfold isDig at ha
            simp only [Bool.and_eq_true, decide_eq_true_eq] at ha
            have : a.toNat ≠ 48 := fun e => hne (UInt8.toNat_inj.1 e)
            omega
          have hv := v
          rw [hd] at hv
          have hmono := valFrom_mono r (0 * 10 + (a.toNat - 48))
          have hlen9 : r.length = 9 := by rw [hd] at e10; simpa using e10
          have hb := valFrom_big r (0 * 10 + (a.toNat - 48))
          rw [hlen9, show (10 : Nat) ^ 9 = 1000000000 from rfl] at hb
          have hv' : valFrom (0 * 10 + (a.toNat - 48)) r = n.toNat := hv
          rw [hv'] at hb
          omega
    unfold read9
    have hh : (Lib.decDigits n.toNat).head? ≠ some 45 := fun e => by
      cases hd : Lib.decDigits n.toNat with
      | nil => rw [hd] at e; cases e
      | cons a r =>
        rw [hd] at e
        cases e
        have := p.2.1 45 (by rw [hd]; simp)
        unfold isDig at this
        simp at this
    rw [if_neg hh, if_pos hl, h1]
end Go.Proofs.YtmmandkellhbeaaGreatDoor

/-
  Sieves without any program: a right sieve is read from its text.
-/
namespace Go.Proofs.YtmmandkellhbeaaGreatDoor

theorem sieve_kind {s : SV} (h : sieveB s = true) : s.kind = 1 ∨ s.kind = 2 ∨ s.kind = 3 ∨ s.kind = 4 ∨ s.kind = 5 ∨ s.kind = 6 ∨ s.kind = 7 ∨ s.kind = 8 ∨ s.kind = 9 ∨ s.kind = 10 := by
  unfold sieveB at h
  split at h
  · omega
  · split at h
    · omega
    · split at h
      · omega
      · simp only [Bool.and_eq_true, decide_eq_true_eq] at h
        omega
theorem back_names (ns : List ByteArray) : (ns.map (·.data.toList)).map (fun x => (⟨x.toArray⟩ : ByteArray)) = ns := by
  rw [List.map_map]
  have : ((fun x : List UInt8 => (⟨x.toArray⟩ : ByteArray)) ∘ fun s : ByteArray => s.data.toList) = id := by
    funext s
    exact bytes_back s
  rw [this, List.map_id]
theorem candS_at (l : List UInt8) (ws : List (List UInt8)) : candS l (wordS 1) ws = fromV ws ∧ candS l (wordS 2) ws = (textSum (restW 1 l)).map (fun o => ⟨2, ⟨#[]⟩, [], o, false, 0, 0⟩) ∧ candS l (wordS 3) ws = withSum 3 [61] l ws
    ∧ candS l (wordS 4) ws = some ⟨4, ⟨#[]⟩, ws.map (fun x => ⟨x.toArray⟩), [], false, 0, 0⟩ ∧ candS l (wordS 5) ws = withSum 5 [111, 110] l ws ∧ candS l (wordS 6) ws = withSum 6 [111, 110] l ws
    ∧ candS l (wordS 7) ws = some ⟨7, ⟨#[]⟩, ws.map (fun x => ⟨x.toArray⟩), [], false, 0, 0⟩ ∧ candS l (wordS 8) ws = orderV ws ∧ candS l (wordS 9) ws = limitV ws ∧ candS l (wordS 10) ws = onceV ws :=
  ⟨rfl, rfl, rfl, rfl, rfl, rfl, rfl, rfl, rfl, rfl⟩
/-- A sieve with a name, a word and a sum. -/
theorem read_sum {k : Int} {e : List UInt8} (he : (32 : UInt8) ∉ e) (he0 : e ≠ []) {nm : ByteArray} (hn : nameK nm = true) {sm : List TI} (hs : sumB sm = true) (hz : (sumL sm).length ≤ 1990) {b b' : List UInt8} (hb : Bl b) (hb' : Bl b')
    (l : List UInt8) (hl : l = b ++ (wordS k ++ 32 :: (nm.data.toList ++ 32 :: (e ++ 32 :: (sumL sm ++ b'))))) : ∃ x ws, wordsW l = wordS k :: nm.data.toList :: e :: x :: ws ∧ withSum k e l (nm.data.toList :: e :: x :: ws) = some ⟨k, nm, [], sm, false, 0, 0⟩ := by
  obtain ⟨h1, h2⟩ := wordS_free k
  obtain ⟨n1, n2⟩ := nameK_word hn
  have hw : wordsW l = wordS k :: nm.data.toList :: e :: wordsW (sumL sm ++ b') := by
    rw [hl, wordsW_front hb, wordsW_word h1 h2, wordsW_word n1 n2, wordsW_word he he0]
  have hr : restW 3 l = 32 :: (sumL sm ++ b') := by
    rw [hl, restW_front hb, restW_word h1 h2, restW_blank, restW_word n1 n2, restW_blank, restW_word he he0]
    rfl
  have hne : wordsW (sumL sm ++ b') ≠ [] := by
    intro e0
    have h0 := textSum_show hs hb' hz
    have : ∀ (m : List UInt8), wordsW m = [] → toksL m = some [] := by
      intro m
      induction m with
      | nil => intro _; exact toksL_nil
      | cons c m ih =>
        intro hm
        by_cases hc : c = 32
        · subst hc
          rw [wordsW_blank] at hm
          rw [toksL_blank]
          exact ih hm
        · exfalso
          unfold wordsW at hm
          have hp : ∃ q ps, pieces (c :: m) = (c :: q) :: ps := by
            unfold pieces
            show ∃ q ps, (if c = 32 then _ else cutAt 32 ([] ++ [c]) m) = _
            rw [if_neg hc, cutAt_split]
            cases hsp : Lib.splitK [32] 0 (Lib.count m [32]) m with
            | nil => exact absurd hsp (splitK_ne_nil 32 _ m)
            | cons a t => exact ⟨a, t, rfl⟩
          obtain ⟨q, ps, hq⟩ := hp
          rw [hq, List.filter_cons] at hm
          simp at hm
    have ht := this _ e0
    unfold textSum at h0
    have hsz : (⟨(32 :: (sumL sm ++ b')).toArray⟩ : ByteArray).size ≤ 2000 := by
      have : b'.length ≤ 1 := by rcases hb' with rfl | rfl <;> simp
      rw [Lib.size_eq]
      simp
      omega
    rw [toksB_L hsz] at h0
    have e1 : toksL (32 :: (sumL sm ++ b')) = some [] := by rw [toksL_blank]; exact ht
    have e2 : (⟨(32 :: (sumL sm ++ b')).toArray⟩ : ByteArray).data.toList = 32 :: (sumL sm ++ b') := rfl
    rw [e2, e1] at h0
    dsimp only at h0
    have e3 : (sumR []).2 = false := by rfl
    rw [e3] at h0
    simp at h0
  cases hws : wordsW (sumL sm ++ b') with
  | nil => exact absurd hws hne
  | cons x ws =>
    refine ⟨x, ws, by rw [hw, hws], ?_⟩
    show (if e = e then _ else _) = _
    rw [if_pos rfl, hr, textSum_show hs hb' hz]
    show some _ = some _
    rw [bytes_back]
theorem read_show (s : SV) (h : sieveB s = true) (hz : (sumL s.sum).length ≤ 1990) {b b' : List UInt8} (hb : Bl b) (hb' : Bl b') : readS (b ++ (showS s ++ b')) = some s := by
  obtain ⟨k, nm, ns, sm, dn, ct, sk⟩ := s
  have h0 := h
  dsimp only at hz
  rcases sieve_kind h with e | e | e | e | e | e | e | e | e | e <;> (dsimp only at e; subst e; simp [sieveB, bareB, nameS, sumS, listS] at h)
  · obtain ⟨⟨rfl, rfl⟩, ⟨rfl, rfl, rfl⟩, hn⟩ := h
    obtain ⟨n1, n2⟩ := nameK_word hn
    refine readS_of (w := wordS 1) (ws := [nm.data.toList]) ?_ ?_ h0
    · show wordsW (b ++ ((wordS 1 ++ 32 :: nm.data.toList) ++ b')) = _
      rw [wordsW_front hb, List.append_assoc, List.cons_append, wordsW_word (wordS_free 1).1 (wordS_free 1).2, wordsW_last n1 n2 hb']
    · rw [(candS_at _ _).1]
      show some _ = some _
      rw [bytes_back]
  · obtain ⟨⟨rfl, rfl⟩, ⟨rfl, rfl, rfl⟩, hs⟩ := h
    refine readS_of (w := wordS 2) (ws := wordsW (sumL sm ++ b')) ?_ ?_ h0
    · show wordsW (b ++ ((wordS 2 ++ 32 :: sumL sm) ++ b')) = _
      rw [wordsW_front hb, List.append_assoc, List.cons_append, wordsW_word (wordS_free 2).1 (wordS_free 2).2]
    · rw [(candS_at _ _).2.1]
      have hr : restW 1 (b ++ (showS ⟨2, ⟨#[]⟩, [], sm, false, 0, 0⟩ ++ b')) = 32 :: (sumL sm ++ b') := by
        show restW 1 (b ++ ((wordS 2 ++ 32 :: sumL sm) ++ b')) = _
        rw [restW_front hb, List.append_assoc, List.cons_append, restW_word (wordS_free 2).1 (wordS_free 2).2]
        rfl
      rw [hr, textSum_show hs hb' hz]
      rfl
  · obtain ⟨rfl, ⟨rfl, rfl, rfl⟩, hn, hs⟩ := h
    obtain ⟨x, ws, hw, hc⟩ := read_sum (k := 3) (e := [61]) (by decide) (by decide) hn hs hz hb hb' _ (show b ++ (showS ⟨3, nm, [], sm, false, 0, 0⟩ ++ b') = _ by
      show b ++ ((wordS 3 ++ 32 :: (nm.data.toList ++ 32 :: 61 :: 32 :: sumL sm)) ++ b') = _
      simp)
    exact readS_of hw ((candS_at _ _).2.2.1.trans hc) h0
  · obtain ⟨⟨⟨rfl, rfl⟩, rfl, rfl, rfl⟩, hn⟩ := h
    unfold names10 at hn
    rw [Bool.and_eq_true] at hn
    refine readS_of (w := wordS 4) (ws := ns.map (·.data.toList)) ?_ ?_ h0
    · show wordsW (b ++ (Lib.join (wordS 4 :: ns.map (·.data.toList)) [32] ++ b')) = _
      rw [wordsW_front hb, wordsW_names hb' ns (wordS 4) (wordS_free 4).1 (wordS_free 4).2 hn.1]
    · rw [(candS_at _ _).2.2.2.1, back_names]
  · obtain ⟨rfl, ⟨rfl, rfl, rfl⟩, hn, hs⟩ := h
    obtain ⟨x, ws, hw, hc⟩ := read_sum (k := 5) (e := [111, 110]) (by decide) (by decide) hn hs hz hb hb' _ (show b ++ (showS ⟨5, nm, [], sm, false, 0, 0⟩ ++ b') = _ by
      show b ++ ((wordS 5 ++ 32 :: (nm.data.toList ++ 32 :: 111 :: 110 :: 32 :: sumL sm)) ++ b') = _
      simp)
    exact readS_of hw ((candS_at _ _).2.2.2.2.1.trans hc) h0
  · obtain ⟨rfl, ⟨rfl, rfl, rfl⟩, hn, hs⟩ := h
    obtain ⟨x, ws, hw, hc⟩ := read_sum (k := 6) (e := [111, 110]) (by decide) (by decide) hn hs hz hb hb' _ (show b ++ (showS ⟨6, nm, [], sm, false, 0, 0⟩ ++ b') = _ by
      show b ++ ((wordS 6 ++ 32 :: (nm.data.toList ++ 32 :: 111 :: 110 :: 32 :: sumL sm)) ++ b') = _
      simp)
    exact readS_of hw ((candS_at _ _).2.2.2.2.2.1.trans hc) h0
  · obtain ⟨⟨⟨rfl, rfl⟩, rfl, rfl, rfl⟩, hn⟩ := h
    unfold names10 at hn
    rw [Bool.and_eq_true] at hn
    refine readS_of (w := wordS 7) (ws := ns.map (·.data.toList)) ?_ ?_ h0
    · show wordsW (b ++ (Lib.join (wordS 7 :: ns.map (·.data.toList)) [32] ++ b')) = _
      rw [wordsW_front hb, wordsW_names hb' ns (wordS 7) (wordS_free 7).1 (wordS_free 7).2 hn.1]
    · rw [(candS_at _ _).2.2.2.2.2.2.1, back_names]
  · obtain ⟨⟨rfl, rfl⟩, ⟨rfl, rfl⟩, hn⟩ := h
    obtain ⟨n1, n2⟩ := nameK_word hn
    cases dn
    · refine readS_of (w := wordS 8) (ws := [nm.data.toList]) ?_ ?_ h0
      · show wordsW (b ++ ((wordS 8 ++ 32 :: nm.data.toList) ++ b')) = _
        rw [wordsW_front hb, List.append_assoc, List.cons_append, wordsW_word (wordS_free 8).1 (wordS_free 8).2, wordsW_last n1 n2 hb']
      · rw [(candS_at _ _).2.2.2.2.2.2.2.1]
        show some _ = some _
        rw [bytes_back]
    · refine readS_of (w := wordS 8) (ws := [nm.data.toList, [100, 111, 119, 110]]) ?_ ?_ h0
      · show wordsW (b ++ ((wordS 8 ++ 32 :: (nm.data.toList ++ [32, 100, 111, 119, 110])) ++ b')) = _
        have e : b ++ ((wordS 8 ++ 32 :: (nm.data.toList ++ [32, 100, 111, 119, 110])) ++ b') = b ++ (wordS 8 ++ 32 :: (nm.data.toList ++ 32 :: ([100, 111, 119, 110] ++ b'))) := by simp
        rw [e, wordsW_front hb, wordsW_word (wordS_free 8).1 (wordS_free 8).2, wordsW_word n1 n2, wordsW_last (by decide) (by decide) hb']
      · rw [(candS_at _ _).2.2.2.2.2.2.2.1]
        show (if ([100, 111, 119, 110] : List UInt8) = [100, 111, 119, 110] then some (⟨8, ⟨nm.data.toList.toArray⟩, [], [], true, 0, 0⟩ : SV) else none) = _
        rw [if_pos rfl, bytes_back]
  · obtain ⟨⟨⟨rfl, rfl, rfl⟩, rfl⟩, hc1, hc2⟩ := h
    obtain ⟨c1, c2, c3⟩ := itoa_free hc1
    obtain ⟨d1, d2, d3⟩ := itoa_free hc2
    refine readS_of (w := wordS 9) (ws := [Lib.itoa ct, Lib.itoa sk]) ?_ ?_ h0
    · show wordsW (b ++ ((wordS 9 ++ 32 :: (Lib.itoa ct ++ 32 :: Lib.itoa sk)) ++ b')) = _
      have e : b ++ ((wordS 9 ++ 32 :: (Lib.itoa ct ++ 32 :: Lib.itoa sk)) ++ b') = b ++ (wordS 9 ++ 32 :: (Lib.itoa ct ++ 32 :: (Lib.itoa sk ++ b'))) := by simp
      rw [e, wordsW_front hb, wordsW_word (wordS_free 9).1 (wordS_free 9).2, wordsW_word c1 c2, wordsW_last d1 d2 hb']
    · rw [(candS_at _ _).2.2.2.2.2.2.2.2.1]
      unfold limitV
      dsimp only
      rw [c3, d3]
  · obtain ⟨⟨rfl, rfl, rfl⟩, rfl, rfl, rfl⟩ := h
    refine readS_of (w := wordS 10) (ws := []) ?_ ?_ h0
    · show wordsW (b ++ (wordS 10 ++ b')) = _
      rw [wordsW_front hb, wordsW_last (wordS_free 10).1 (wordS_free 10).2 hb']
    · rw [(candS_at _ _).2.2.2.2.2.2.2.2.2]
      rfl
end Go.Proofs.YtmmandkellhbeaaGreatDoor

/-
  Questions without any program: what a text is read as, and that a question is read from its text.
-/
namespace Go.Proofs.YtmmandkellhbeaaGreatDoor

def readEach : List (List UInt8) → Option (List SV)
  | [] => some []
  | p :: ps => match readS p with
    | none => none
    | some s => (readEach ps).map (s :: ·)
/-- The question of a text. -/
def readA (l : List UInt8) : Option (List SV) := match readEach (cutAt 124 [] l) with
  | none => none
  | some x => if askB x = true then some x else none
theorem lets_free {l : List UInt8} (h : lets l = true) (c : UInt8) (hc : ¬ (97 ≤ c.toNat ∧ c.toNat ≤ 122)) : c ∉ l := fun hm => by
  have := List.all_eq_true.1 h c hm
  simp only [Bool.and_eq_true, decide_eq_true_eq] at this
  exact hc this
theorem itoa_bar (n : Int) : (124 : UInt8) ∉ Lib.itoa n := fun hm => by
  by_cases hn : n < 0
  · rw [itoa_neg n hn] at hm
    obtain ⟨_, p, _⟩ := decDigits_plain n.natAbs
    rcases List.mem_cons.1 hm with h | h
    · cases h
    · have := p.2.1 _ h
      unfold isDig at this
      simp at this
  · rw [itoa_nonneg n (by omega)] at hm
    obtain ⟨_, p, _⟩ := decDigits_plain n.toNat
    have := p.2.1 _ hm
    unfold isDig at this
    simp at this
theorem textC_bar {c : CK} (h : okC c = true) : (124 : UInt8) ∉ textC c := by
  obtain ⟨k, n, t⟩ := c
  unfold textC l4T
  dsimp only
  split
  · exact itoa_bar n
  · split
    · rename_i h2
      have hl : lets t.data.toList = true := by
        have h' : okB k n t = true := h
        subst h2
        unfold okB at h'
        simp at h'
        exact h'.1.1
      intro hm
      rcases List.mem_cons.1 hm with h' | h'
      · cases h'
      · rcases List.mem_append.1 h' with h' | h'
        · exact lets_free hl 124 (by decide) h'
        · simp at h'
    · split
      · split <;> decide
      · decide
theorem nameK_bar {s : ByteArray} (h : nameK s = true) : (124 : UInt8) ∉ s.data.toList := by
  unfold nameK nameB at h
  simp only [Bool.and_eq_true, decide_eq_true_eq] at h
  exact lets_free h.1.2.1 124 (by decide)
theorem sgn_bar (k : Int) : (124 : UInt8) ∉ (sgn k).data.toList := by
  unfold sgn
  (repeat' split) <;> decide
theorem text_bar : ∀ (t : Tr), t.ok → (124 : UInt8) ∉ t.text
  | .leaf x, h => by
    show (124 : UInt8) ∉ tokT (tkOf x)
    obtain ⟨h1, h2⟩ := h
    unfold tkOf
    unfold itemB at h1
    split
    · rename_i hk
      rw [if_pos hk, Bool.and_eq_true] at h1
      show (124 : UInt8) ∉ (if (2 : Int) = 2 then textC x.2.1 else _)
      rw [if_pos rfl]
      exact textC_bar h1.1
    · rename_i hk
      have h2' : x.1 = 2 := by omega
      rw [if_neg hk, if_pos h2', Bool.and_eq_true] at h1
      show (124 : UInt8) ∉ (if (1 : Int) = 2 then _ else x.2.2.data.toList)
      rw [if_neg (by decide)]
      exact nameK_bar h1.1
  | .one k t, h => by
    have ih := text_bar t h.2
    show (124 : UInt8) ∉ 40 :: ((sgn k).data.toList ++ 32 :: (t.text ++ [41]))
    have hs := sgn_bar k
    simp only [List.mem_cons, List.mem_append, List.not_mem_nil, or_false, not_or]
    exact ⟨by decide, hs, by decide, ih, by decide⟩
  | .two k a b, h => by
    have ih1 := text_bar a h.2.1
    have ih2 := text_bar b h.2.2
    show (124 : UInt8) ∉ 40 :: (a.text ++ 32 :: ((sgn k).data.toList ++ 32 :: (b.text ++ [41])))
    have hs := sgn_bar k
    simp only [List.mem_cons, List.mem_append, List.not_mem_nil, or_false, not_or]
    exact ⟨by decide, ih1, by decide, hs, by decide, ih2, by decide⟩
theorem sumL_bar {l : List TI} (h : sumB l = true) : (124 : UInt8) ∉ sumL l := by
  obtain ⟨t, ht, rfl⟩ := sum_tree h
  rw [sumL_tree ht h]
  exact text_bar t ht
theorem wordS_bar (k : Int) : (124 : UInt8) ∉ wordS k := by
  unfold wordS
  (repeat' split) <;> decide
theorem join_bar : ∀ (w : List UInt8) (ns : List ByteArray), (124 : UInt8) ∉ w → ns.all nameK = true → (124 : UInt8) ∉ Lib.join (w :: ns.map (·.data.toList)) [32]
  | w, [], h, _ => by
    show (124 : UInt8) ∉ Lib.join [w] [32]
    rw [Lib.join_one]
    exact h
  | w, n :: ns, h, ha => by
    simp only [List.all_cons, Bool.and_eq_true] at ha
    have ih := join_bar n.data.toList ns (nameK_bar ha.1) ha.2
    have e : Lib.join (w :: (n :: ns).map (·.data.toList)) [32] = w ++ 32 :: Lib.join (n.data.toList :: ns.map (·.data.toList)) [32] := by simp [Lib.join]
    rw [e]
    simp only [List.mem_append, List.mem_cons, not_or]
    exact ⟨h, by decide, ih⟩
theorem show_bar (s : SV) (h : sieveB s = true) : (124 : UInt8) ∉ showS s := by
  obtain ⟨k, nm, ns, sm, dn, ct, sk⟩ := s
  rcases sieve_kind h with e | e | e | e | e | e | e | e | e | e <;> (dsimp only at e; subst e; simp [sieveB, bareB, nameS, sumS, listS] at h)
  · have hw := wordS_bar 1
    have hn := nameK_bar h.2.2
    show (124 : UInt8) ∉ wordS 1 ++ 32 :: nm.data.toList
    simp only [List.mem_append, List.mem_cons, not_or]
    exact ⟨hw, by decide, hn⟩
  · have hw := wordS_bar 2
    have hs := sumL_bar h.2.2
    show (124 : UInt8) ∉ wordS 2 ++ 32 :: sumL sm
    simp only [List.mem_append, List.mem_cons, not_or]
    exact ⟨hw, by decide, hs⟩
  · have hw := wordS_bar 3
    have hn := nameK_bar h.2.2.1
    have hs := sumL_bar h.2.2.2
    show (124 : UInt8) ∉ wordS 3 ++ 32 :: (nm.data.toList ++ 32 :: 61 :: 32 :: sumL sm)
    simp only [List.mem_append, List.mem_cons, not_or]
    exact ⟨hw, by decide, hn, by decide, by decide, by decide, hs⟩
  · have hn := h.2
    unfold names10 at hn
    rw [Bool.and_eq_true] at hn
    exact join_bar (wordS 4) ns (wordS_bar 4) hn.1
  · have hw := wordS_bar 5
    have hn := nameK_bar h.2.2.1
    have hs := sumL_bar h.2.2.2
    show (124 : UInt8) ∉ wordS 5 ++ 32 :: (nm.data.toList ++ 32 :: 111 :: 110 :: 32 :: sumL sm)
    simp only [List.mem_append, List.mem_cons, not_or]
    exact ⟨hw, by decide, hn, by decide, by decide, by decide, by decide, hs⟩
  · have hw := wordS_bar 6
    have hn := nameK_bar h.2.2.1
    have hs := sumL_bar h.2.2.2
    show (124 : UInt8) ∉ wordS 6 ++ 32 :: (nm.data.toList ++ 32 :: 111 :: 110 :: 32 :: sumL sm)
    simp only [List.mem_append, List.mem_cons, not_or]
    exact ⟨hw, by decide, hn, by decide, by decide, by decide, by decide, hs⟩
  · have hn := h.2
    unfold names10 at hn
    rw [Bool.and_eq_true] at hn
    exact join_bar (wordS 7) ns (wordS_bar 7) hn.1
  · have hw := wordS_bar 8
    have hn := nameK_bar h.2.2
    cases dn
    · show (124 : UInt8) ∉ wordS 8 ++ 32 :: nm.data.toList
      simp only [List.mem_append, List.mem_cons, not_or]
      exact ⟨hw, by decide, hn⟩
    · show (124 : UInt8) ∉ wordS 8 ++ 32 :: (nm.data.toList ++ [32, 100, 111, 119, 110])
      simp only [List.mem_append, List.mem_cons, List.not_mem_nil, or_false, not_or]
      exact ⟨hw, by decide, hn, by decide, by decide, by decide, by decide, by decide⟩
  · have hw := wordS_bar 9
    show (124 : UInt8) ∉ wordS 9 ++ 32 :: (Lib.itoa ct ++ 32 :: Lib.itoa sk)
    simp only [List.mem_append, List.mem_cons, not_or]
    exact ⟨hw, by decide, itoa_bar ct, by decide, itoa_bar sk⟩
  · exact wordS_bar 10
theorem cutAt_bar {x : List UInt8} (h : (124 : UInt8) ∉ x) (l : List UInt8) : cutAt 124 [] (x ++ 124 :: l) = x :: cutAt 124 [] l := by
  rw [cutAt_free 124 x h [] (124 :: l)]
  show (if (124 : UInt8) = 124 then _ else _) = _
  rw [if_pos rfl, List.nil_append]
theorem cutAt_one {x : List UInt8} (h : (124 : UInt8) ∉ x) : cutAt 124 [] x = [x] := by
  have := cutAt_free 124 x h [] []
  rw [List.append_nil] at this
  rw [this]
  rfl
theorem each_show : ∀ (l : List SV) (x : SV) (b : List UInt8), Bl b → (∀ s ∈ x :: l, sieveB s = true ∧ (sumL s.sum).length ≤ 1990) → readEach (cutAt 124 [] (b ++ Lib.join ((x :: l).map showS) [32, 124, 32])) = some (x :: l)
  | [], x, b, hb, h => by
    obtain ⟨h1, h2⟩ := h x (by simp)
    have hbar : (124 : UInt8) ∉ b ++ showS x := by
      have := show_bar x h1
      rcases hb with rfl | rfl
      · exact this
      · simp only [List.mem_append, List.mem_cons, List.not_mem_nil, or_false, not_or]; exact ⟨by decide, this⟩
    show readEach (cutAt 124 [] (b ++ Lib.join [showS x] [32, 124, 32])) = _
    rw [Lib.join_one, cutAt_one hbar]
    have := read_show x h1 h2 hb (.inl rfl)
    rw [List.append_nil] at this
    unfold readEach
    rw [this]
    rfl
  | y :: l, x, b, hb, h => by
    obtain ⟨h1, h2⟩ := h x (by simp)
    have ih := each_show l y [32] (.inr rfl) (fun s hs => h s (List.mem_cons_of_mem _ hs))
    have hbar : (124 : UInt8) ∉ b ++ (showS x ++ [32]) := by
      have := show_bar x h1
      rcases hb with rfl | rfl
      · simp only [List.nil_append, List.mem_append, List.mem_cons, List.not_mem_nil, or_false, not_or]; exact ⟨this, by decide⟩
      · simp only [List.mem_append, List.mem_cons, List.not_mem_nil, or_false, not_or]; exact ⟨by decide, this, by decide⟩
    have e : b ++ Lib.join ((x :: y :: l).map showS) [32, 124, 32] = (b ++ (showS x ++ [32])) ++ 124 :: ([32] ++ Lib.join ((y :: l).map showS) [32, 124, 32]) := by
      simp [Lib.join]
    rw [e, cutAt_bar hbar]
    have hr := read_show x h1 h2 hb (.inr rfl)
    unfold readEach
    rw [hr]
    dsimp only
    rw [ih]
    rfl
/-- A question is read from its text. -/
theorem ask_show {l : List SV} (h : askB l = true) (hz : ∀ s ∈ l, (sumL s.sum).length ≤ 1990) : readA (askT l).data.toList = some l := by
  have h' := h
  unfold askB at h'
  simp only [Bool.and_eq_true] at h'
  cases l with
  | nil => exact absurd h'.1.2 (by decide)
  | cons x l =>
    have e : (askT (x :: l)).data.toList = [] ++ Lib.join ((x :: l).map showS) [32, 124, 32] := by
      unfold askT
      rw [if_pos h]
      rfl
    unfold readA
    rw [e, each_show l x [] (.inl rfl) (fun s hs => ⟨List.all_eq_true.1 h'.1.1 s hs, hz s hs⟩)]
    dsimp only
    rw [if_pos h]
end Go.Proofs.YtmmandkellhbeaaGreatDoor

/-
  The program's forms of a sieve without any program: what a kind tells, that a sieve is right by its form just where it is right, and that its text is its pieces.
-/
namespace Go.Proofs.YtmmandkellhbeaaGreatDoor

/-- What a kind tells. -/
structure FS where
  word : ByteArray
  hasName : Bool
  few : Int
  most : Int
  ahead : ByteArray
  hasSum : Bool
  fall : Bool
  cnt : Int
def formF (k : Int) : FS :=
  if k = 1 then ⟨⟨#[102, 114, 111, 109]⟩, true, 0, 0, ⟨#[]⟩, false, false, 0⟩
  else if k = 2 then ⟨⟨#[119, 104, 101, 114, 101]⟩, false, 0, 0, ⟨#[]⟩, true, false, 0⟩
  else if k = 3 then ⟨⟨#[108, 101, 116]⟩, true, 0, 0, ⟨#[61]⟩, true, false, 0⟩
  else if k = 4 then ⟨⟨#[107, 101, 101, 112]⟩, false, 1, 6, ⟨#[]⟩, false, false, 0⟩
  else if k = 5 then ⟨⟨#[106, 111, 105, 110]⟩, true, 0, 0, ⟨#[111, 110]⟩, true, false, 0⟩
  else if k = 6 then ⟨⟨#[108, 101, 102, 116]⟩, true, 0, 0, ⟨#[111, 110]⟩, true, false, 0⟩
  else if k = 7 then ⟨⟨#[103, 114, 111, 117, 112]⟩, false, 0, 4, ⟨#[]⟩, false, false, 0⟩
  else if k = 8 then ⟨⟨#[111, 114, 100, 101, 114]⟩, true, 0, 0, ⟨#[]⟩, false, true, 0⟩
  else if k = 9 then ⟨⟨#[108, 105, 109, 105, 116]⟩, false, 0, 0, ⟨#[]⟩, false, false, 1000⟩
  else if k = 10 then ⟨⟨#[111, 110, 99, 101]⟩, false, 0, 0, ⟨#[]⟩, false, false, 0⟩ else ⟨⟨#[]⟩, false, 0, 0, ⟨#[]⟩, false, false, 0⟩
def nameF (f : FS) (s : SV) : Bool := if f.hasName = true then nameK s.name else decide (s.name = ⟨#[]⟩)
def namesF (f : FS) (s : SV) : Bool := !(decide ((s.names.length : Int) < f.few) || decide (f.most < (s.names.length : Int))) && (s.names.all nameK && decide s.names.Nodup)
def sumF (f : FS) (s : SV) : Bool := if f.hasSum = true then sumB s.sum else decide (s.sum.length = 0)
def canF (f : FS) (n : Int) : Bool := decide (0 ≤ n) && decide (n ≤ f.cnt)
def rightF (f : FS) (s : SV) : Bool :=
  !decide (f.word = ⟨#[]⟩) && (nameF f s && (namesF f s && (sumF f s && ((f.fall || !s.down) && (canF f s.count && canF f s.skip)))))

theorem nameK_nameB {s : ByteArray} (h : nameK s = true) : nameB s = true := by
  unfold nameK at h
  rw [Bool.and_eq_true] at h
  exact h.1
theorem form_k (k : Int) (h : k < 1 ∨ 10 < k) : formF k = ⟨⟨#[]⟩, false, 0, 0, ⟨#[]⟩, false, false, 0⟩ := by
  unfold formF
  rw [if_neg (show ¬ k = 1 by omega), if_neg (show ¬ k = 2 by omega), if_neg (show ¬ k = 3 by omega), if_neg (show ¬ k = 4 by omega), if_neg (show ¬ k = 5 by omega), if_neg (show ¬ k = 6 by omega), if_neg (show ¬ k = 7 by omega), if_neg (show ¬ k = 8 by omega), if_neg (show ¬ k = 9 by omega), if_neg (show ¬ k = 10 by omega)]
theorem kind_cases {k : Int} (h : ¬ (k < 1 ∨ 10 < k)) : k = 1 ∨ k = 2 ∨ k = 3 ∨ k = 4 ∨ k = 5 ∨ k = 6 ∨ k = 7 ∨ k = 8 ∨ k = 9 ∨ k = 10 := by omega
set_option maxHeartbeats 2000000 in
/-- The program's forms say what a right sieve is. -/
theorem right_form (s : SV) : rightF (formF s.kind) s = sieveB s := by
  obtain ⟨k, nm, N, S, dn, ct, sk⟩ := s
  have hE : S.isEmpty = decide (S.length = 0) := by cases S <;> simp
  have hE2 : N.isEmpty = decide (N.length = 0) := by cases N <;> simp
  have z : ∀ n : Int, (decide (0 ≤ n) && decide (n ≤ 0)) = (n == 0) := by
    intro n
    rw [Bool.eq_iff_iff]
    simp
    omega
  have h0 : N.length = 0 → (N.all nameK && decide N.Nodup) = true := by intro h; have := List.length_eq_zero_iff.1 h; subst this; rfl
  have nz : (!(decide ((N.length : Int) < 0) || decide (0 < (N.length : Int))) && (N.all nameK && decide N.Nodup)) = N.isEmpty := by
    rw [hE2]
    by_cases h : N.length = 0
    · rw [h0 h, h]; rfl
    · rw [decide_eq_true (show (0 : Int) < (N.length : Int) by omega), decide_eq_false h, Bool.or_true]; rfl
  have nl : ∀ lo hi : Int, (!(decide ((N.length : Int) < lo) || decide (hi < (N.length : Int))) && (N.all nameK && decide N.Nodup)) = names10 N lo hi := by
    intro lo hi
    rw [Bool.eq_iff_iff]
    unfold names10 namesB namesD
    simp only [Bool.and_eq_true, Bool.not_eq_true', Bool.or_eq_false_iff, decide_eq_false_iff_not, decide_eq_true_eq, List.all_eq_true]
    constructor
    · rintro ⟨⟨a, b⟩, c, d⟩
      exact ⟨c, ⟨fun x hx => nameK_nameB (c x hx), d⟩, by omega, by omega⟩
    · rintro ⟨c, ⟨_, d⟩, a, b⟩
      exact ⟨⟨by omega, by omega⟩, c, d⟩
  by_cases hk : k < 1 ∨ 10 < k
  · dsimp only
    rw [form_k k hk]
    unfold rightF sieveB
    dsimp only
    rw [if_neg (by omega), if_neg (by omega), if_neg (by omega)]
    rw [show (decide (1 ≤ k) && decide (k ≤ 10)) = false by rw [Bool.eq_false_iff]; simp; omega]
    simp
  rcases kind_cases hk with rfl | rfl | rfl | rfl | rfl | rfl | rfl | rfl | rfl | rfl
  · show (!decide ((⟨#[102, 114, 111, 109]⟩ : ByteArray) = ⟨#[]⟩) && (nameK nm && ((!(decide ((N.length : Int) < 0) || decide (0 < (N.length : Int))) && (N.all nameK && decide N.Nodup)) && (decide (S.length = 0) && ((false || !dn) && ((decide (0 ≤ ct) && decide (ct ≤ 0)) && (decide (0 ≤ sk) && decide (sk ≤ 0)))))))) = sieveB _
    rw [show decide ((⟨#[102, 114, 111, 109]⟩ : ByteArray) = ⟨#[]⟩) = false from rfl, nz, ← hE, z, z]
    show _ = (true && bareB _)
    unfold bareB
    dsimp only
    generalize nameK nm = a
    generalize N.isEmpty = f
    generalize S.isEmpty = e
    generalize (ct == 0) = g
    generalize (sk == 0) = h
    cases a <;> cases f <;> cases e <;> cases g <;> cases h <;> cases dn <;> rfl
  · show (!decide ((⟨#[119, 104, 101, 114, 101]⟩ : ByteArray) = ⟨#[]⟩) && (decide (nm = ⟨#[]⟩) && ((!(decide ((N.length : Int) < 0) || decide (0 < (N.length : Int))) && (N.all nameK && decide N.Nodup)) && (sumB S && ((false || !dn) && ((decide (0 ≤ ct) && decide (ct ≤ 0)) && (decide (0 ≤ sk) && decide (sk ≤ 0)))))))) = sieveB _
    rw [show decide ((⟨#[119, 104, 101, 114, 101]⟩ : ByteArray) = ⟨#[]⟩) = false from rfl, nz, z, z]
    show _ = (true && bareB _)
    unfold bareB
    dsimp only
    generalize decide (nm = ⟨#[]⟩) = c
    generalize N.isEmpty = f
    generalize sumB S = d
    generalize (ct == 0) = g
    generalize (sk == 0) = h
    cases c <;> cases f <;> cases d <;> cases g <;> cases h <;> cases dn <;> rfl
  · show (!decide ((⟨#[108, 101, 116]⟩ : ByteArray) = ⟨#[]⟩) && (nameK nm && ((!(decide ((N.length : Int) < 0) || decide (0 < (N.length : Int))) && (N.all nameK && decide N.Nodup)) && (sumB S && ((false || !dn) && ((decide (0 ≤ ct) && decide (ct ≤ 0)) && (decide (0 ≤ sk) && decide (sk ≤ 0)))))))) = sieveB _
    rw [show decide ((⟨#[108, 101, 116]⟩ : ByteArray) = ⟨#[]⟩) = false from rfl, nz, z, z]
    show _ = (true && bareB _)
    unfold bareB
    dsimp only
    generalize nameK nm = a
    generalize N.isEmpty = f
    generalize sumB S = d
    generalize (ct == 0) = g
    generalize (sk == 0) = h
    cases a <;> cases f <;> cases d <;> cases g <;> cases h <;> cases dn <;> rfl
  · show (!decide ((⟨#[107, 101, 101, 112]⟩ : ByteArray) = ⟨#[]⟩) && (decide (nm = ⟨#[]⟩) && ((!(decide ((N.length : Int) < 1) || decide (6 < (N.length : Int))) && (N.all nameK && decide N.Nodup)) && (decide (S.length = 0) && ((false || !dn) && ((decide (0 ≤ ct) && decide (ct ≤ 0)) && (decide (0 ≤ sk) && decide (sk ≤ 0)))))))) = sieveB _
    rw [show decide ((⟨#[107, 101, 101, 112]⟩ : ByteArray) = ⟨#[]⟩) = false from rfl, nl, ← hE, z, z]
    show _ = (bareB _ && names10 N 1 6)
    unfold bareB
    dsimp only
    generalize decide (nm = ⟨#[]⟩) = c
    generalize names10 N 1 6 = i
    generalize S.isEmpty = e
    generalize (ct == 0) = g
    generalize (sk == 0) = h
    cases c <;> cases i <;> cases e <;> cases g <;> cases h <;> cases dn <;> rfl
  · show (!decide ((⟨#[106, 111, 105, 110]⟩ : ByteArray) = ⟨#[]⟩) && (nameK nm && ((!(decide ((N.length : Int) < 0) || decide (0 < (N.length : Int))) && (N.all nameK && decide N.Nodup)) && (sumB S && ((false || !dn) && ((decide (0 ≤ ct) && decide (ct ≤ 0)) && (decide (0 ≤ sk) && decide (sk ≤ 0)))))))) = sieveB _
    rw [show decide ((⟨#[106, 111, 105, 110]⟩ : ByteArray) = ⟨#[]⟩) = false from rfl, nz, z, z]
    show _ = (true && bareB _)
    unfold bareB
    dsimp only
    generalize nameK nm = a
    generalize N.isEmpty = f
    generalize sumB S = d
    generalize (ct == 0) = g
    generalize (sk == 0) = h
    cases a <;> cases f <;> cases d <;> cases g <;> cases h <;> cases dn <;> rfl
  · show (!decide ((⟨#[108, 101, 102, 116]⟩ : ByteArray) = ⟨#[]⟩) && (nameK nm && ((!(decide ((N.length : Int) < 0) || decide (0 < (N.length : Int))) && (N.all nameK && decide N.Nodup)) && (sumB S && ((false || !dn) && ((decide (0 ≤ ct) && decide (ct ≤ 0)) && (decide (0 ≤ sk) && decide (sk ≤ 0)))))))) = sieveB _
    rw [show decide ((⟨#[108, 101, 102, 116]⟩ : ByteArray) = ⟨#[]⟩) = false from rfl, nz, z, z]
    show _ = (true && bareB _)
    unfold bareB
    dsimp only
    generalize nameK nm = a
    generalize N.isEmpty = f
    generalize sumB S = d
    generalize (ct == 0) = g
    generalize (sk == 0) = h
    cases a <;> cases f <;> cases d <;> cases g <;> cases h <;> cases dn <;> rfl
  · show (!decide ((⟨#[103, 114, 111, 117, 112]⟩ : ByteArray) = ⟨#[]⟩) && (decide (nm = ⟨#[]⟩) && ((!(decide ((N.length : Int) < 0) || decide (4 < (N.length : Int))) && (N.all nameK && decide N.Nodup)) && (decide (S.length = 0) && ((false || !dn) && ((decide (0 ≤ ct) && decide (ct ≤ 0)) && (decide (0 ≤ sk) && decide (sk ≤ 0)))))))) = sieveB _
    rw [show decide ((⟨#[103, 114, 111, 117, 112]⟩ : ByteArray) = ⟨#[]⟩) = false from rfl, nl, ← hE, z, z]
    show _ = (bareB _ && names10 N 0 4)
    unfold bareB
    dsimp only
    generalize decide (nm = ⟨#[]⟩) = c
    generalize names10 N 0 4 = i
    generalize S.isEmpty = e
    generalize (ct == 0) = g
    generalize (sk == 0) = h
    cases c <;> cases i <;> cases e <;> cases g <;> cases h <;> cases dn <;> rfl
  · show (!decide ((⟨#[111, 114, 100, 101, 114]⟩ : ByteArray) = ⟨#[]⟩) && (nameK nm && ((!(decide ((N.length : Int) < 0) || decide (0 < (N.length : Int))) && (N.all nameK && decide N.Nodup)) && (decide (S.length = 0) && ((true || !dn) && ((decide (0 ≤ ct) && decide (ct ≤ 0)) && (decide (0 ≤ sk) && decide (sk ≤ 0)))))))) = sieveB _
    rw [show decide ((⟨#[111, 114, 100, 101, 114]⟩ : ByteArray) = ⟨#[]⟩) = false from rfl, nz, ← hE, z, z]
    show _ = (true && bareB _)
    unfold bareB
    dsimp only
    generalize nameK nm = a
    generalize N.isEmpty = f
    generalize S.isEmpty = e
    generalize (ct == 0) = g
    generalize (sk == 0) = h
    cases a <;> cases f <;> cases e <;> cases g <;> cases h <;> cases dn <;> rfl
  · show (!decide ((⟨#[108, 105, 109, 105, 116]⟩ : ByteArray) = ⟨#[]⟩) && (decide (nm = ⟨#[]⟩) && ((!(decide ((N.length : Int) < 0) || decide (0 < (N.length : Int))) && (N.all nameK && decide N.Nodup)) && (decide (S.length = 0) && ((false || !dn) && ((decide (0 ≤ ct) && decide (ct ≤ 1000)) && (decide (0 ≤ sk) && decide (sk ≤ 1000)))))))) = sieveB _
    rw [show decide ((⟨#[108, 105, 109, 105, 116]⟩ : ByteArray) = ⟨#[]⟩) = false from rfl, nz, ← hE]
    show _ = (bareB _ && ((decide (0 ≤ ct) && decide (ct ≤ 1000)) && (decide (0 ≤ sk) && decide (sk ≤ 1000))))
    unfold bareB
    dsimp only
    generalize decide (nm = ⟨#[]⟩) = c
    generalize N.isEmpty = f
    generalize S.isEmpty = e
    generalize (decide (0 ≤ ct) && decide (ct ≤ 1000)) = g
    generalize (decide (0 ≤ sk) && decide (sk ≤ 1000)) = h
    cases c <;> cases f <;> cases e <;> cases g <;> cases h <;> cases dn <;> rfl
  · show (!decide ((⟨#[111, 110, 99, 101]⟩ : ByteArray) = ⟨#[]⟩) && (decide (nm = ⟨#[]⟩) && ((!(decide ((N.length : Int) < 0) || decide (0 < (N.length : Int))) && (N.all nameK && decide N.Nodup)) && (decide (S.length = 0) && ((false || !dn) && ((decide (0 ≤ ct) && decide (ct ≤ 0)) && (decide (0 ≤ sk) && decide (sk ≤ 0)))))))) = sieveB _
    rw [show decide ((⟨#[111, 110, 99, 101]⟩ : ByteArray) = ⟨#[]⟩) = false from rfl, nz, ← hE, z, z]
    show _ = (true && bareB _)
    unfold bareB
    dsimp only
    generalize decide (nm = ⟨#[]⟩) = c
    generalize N.isEmpty = f
    generalize S.isEmpty = e
    generalize (ct == 0) = g
    generalize (sk == 0) = h
    cases c <;> cases f <;> cases e <;> cases g <;> cases h <;> cases dn <;> rfl
end Go.Proofs.YtmmandkellhbeaaGreatDoor

/-
  Lists of lists of cells: how they lie in memory, and the contracts of the law's helpers that measure them and hold two of them against each other.
-/
namespace Go.Proofs.YtmmandkellhbeaaGreatDoor
open Go.ChangeShapes Go.WideShapes Go.ChangeAt Go.RowKit
attribute [local go_sem ↓] Go.wp_at_zero Go.wp_at_succ

/-- The lists of a slice of slices lie where it says. -/
def RowsAt (w : World) (a : Option Addr) (L : List (List CT)) : Prop :=
  ∀ i (h : i < L.length), ∃ b o ai ci, a = some ⟨b, o, none⟩ ∧ b < w.heap.size ∧ w.cell? ⟨b, o + i, none⟩ = some (.slice ai L[i].length ci) ∧ RowAt w ai L[i] ∧ Fit L[i] ∧ L[i].length ≤ maxLen ∧ (ai = none → ci = 0)
theorem RowsAt.below {w w' : World} {a : Option Addr} {L : List (List CT)} (h : RowsAt w a L) (hb : Below w.heap.size w w') : RowsAt w' a L := by
  intro i hi
  obtain ⟨b, o, ai, ci, ha, hlt, h0, h1, h2⟩ := h i hi
  refine ⟨b, o, ai, ci, ha, Nat.lt_of_lt_of_le hlt hb.size, ?_, h1.below hb, h2⟩
  rw [hb.cell (p := ⟨b, _, none⟩) hlt]; exact h0
/-- How much a list of lists takes of a measure. -/
def total (L : List (List CT)) : Nat := (L.map fun l => l.length + weight l).sum
theorem total_take (L : List (List CT)) (k : Nat) (h : k < L.length) : total (L.take (k + 1)) = total (L.take k) + ((L[k]).length + weight L[k]) := by
  unfold total
  rw [List.take_succ_eq_append_getElem h, List.map_append, List.sum_append]; simp
theorem total_le (L : List (List CT)) (k : Nat) : total (L.take k) ≤ total L := by
  unfold total
  conv => rhs; rw [← List.take_append_drop k L, List.map_append, List.sum_append]
  omega

end Go.Proofs.YtmmandkellhbeaaGreatDoor

/-
  A law's argument that is a slice of cells, opened: which list of cells it is, and where they lie.
-/
namespace Go.Proofs.YtmmandkellhbeaaGreatDoor
open Go.ChangeShapes Go.WideShapes Go.ChangeAt Go.RowKit Go.Deep

theorem open_cells {H : Type} {enc : TypeId × Value → H} {P : Program} {w : World} {base : Nat} {spare : Nat → Bool} {held : Bool} {t e : TypeId} {f0 f1 f2 : Field} {fuel : Nat} {a : Option Addr} {len cap : Nat} {x : DataW H × List MemPlace}
    (ht : P.underlying t = some (.slice e)) (he : P.underlying e = some (.struct #[f0, f1, f2])) (ce : P.cellsOf e = 3) (o0 : f0.offset = 0) (o1 : f1.offset = 1) (o2 : f2.offset = 2)
    (c0 : P.cellsOf f0.type = 1) (c1 : P.cellsOf f1.type = 1) (c2 : P.cellsOf f2.type = 1) (u0 : P.underlying f0.type = some (.int .i64)) (u1 : P.underlying f1.type = some (.int .i64)) (u2 : P.underlying f2.type = some .string)
    (h : DataW.trod enc P w base spare held fuel t [.slice a len cap] = some x) :
    ∃ l : List CT, l.length = len ∧ RowAt w a l ∧ Fit l ∧ len ≤ maxLen ∧ (a = none → cap = 0) := by
  rcases open_slice ht h with ⟨h0, _⟩ | ⟨ad, len', cap', m, n, D, Pl, hcs, hb, hl, hm, hmm, _, hx⟩
  · simp at h0
    obtain ⟨rfl, rfl, rfl⟩ := h0
    exact ⟨[], rfl, fun j hj => by simp at hj, fun j hj => by simp at hj, by unfold maxLen; omega, fun _ => rfl⟩
  simp at hcs
  obtain ⟨rfl, rfl, rfl⟩ := hcs
  have hlm : len ≤ m := by rw [hmm]; split <;> omega
  have each : ∀ i, i < len → ∃ q : CT, w.cell? (ad.add (i * 3)) = some (.int .i64 q.1) ∧ w.cell? (ad.add (i * 3 + 1)) = some (.int .i64 q.2.1) ∧ w.cell? (ad.add (i * 3 + 2)) = some (.string q.2.2) ∧ q.2.2.size ≤ maxLen := by
    intro i hi
    obtain ⟨cs', h1, h2⟩ := hx i (by omega)
    rw [ce] at h1
    obtain ⟨_, hlen, hcell⟩ := World.cells?_some h1
    obtain ⟨xs, k, hk, hxy, _, hxl, hf⟩ := DataW.trod_struct he h2
    match xs, hxl, cs', hlen with
    | [y0, y1, y2], _, [v0, v1, v2], _ =>
      have g0 := hf 0 f0 rfl
      have g1 := hf 1 f1 rfl
      have g2 := hf 2 f2 rfl
      simp [o0, o1, o2, c0, c1, c2] at g0 g1 g2
      have e0 := hcell 0 (by omega)
      have e1 := hcell 1 (by omega)
      have e2 := hcell 2 (by omega)
      rw [add_add] at e0 e1 e2
      obtain ⟨k0, ek, _, _⟩ := DataW.trod_int u0 g0
      obtain ⟨n0, en, _, _⟩ := DataW.trod_int u1 g1
      obtain ⟨s0, es, _, hs⟩ := DataW.trod_string u2 g2
      simp at ek en es
      subst ek en es
      exact ⟨(k0, n0, s0), by simpa using e0, by simpa using e1, by simpa using e2, hs⟩
  obtain ⟨q, hq⟩ := choose_lt each
  have spot : 0 < len → ad.spot = none := by
    intro h0
    obtain ⟨e0, _⟩ := hq 0 h0
    simpa [Addr.add] using World.cell?_spot e0
  refine ⟨(List.range len).map q, by simp, ?_, ?_, by omega, fun h => by cases h⟩
  · intro j hj
    have hj' : j < len := by simpa using hj
    obtain ⟨b, o, sp⟩ := ad
    have hsp := spot (by omega)
    simp at hsp
    subst hsp
    obtain ⟨e0, e1, e2, _⟩ := hq j hj'
    have hadd : ∀ q, ((⟨b, o, none⟩ : Addr).add q) = ⟨b, o + q, none⟩ := by
      intro q
      unfold Addr.add
      by_cases hq : q = 0 <;> simp [hq]
    rw [hadd] at e0 e1 e2
    refine ⟨b, o, rfl, World.block_lt_of_cell? w _ e0, ?_, ?_, ?_⟩
    · simpa using e0
    · simpa [Nat.add_assoc] using e1
    · simpa [Nat.add_assoc] using e2
  · intro j hj
    have hj' : j < len := by simpa using hj
    simpa using (hq j hj').2.2.2

theorem open_rows {H : Type} {enc : TypeId × Value → H} {P : Program} {w : World} {base : Nat} {spare : Nat → Bool} {held : Bool} {tt t e : TypeId} {f0 f1 f2 : Field} {fuel : Nat} {a : Option Addr} {len cap : Nat} {x : DataW H × List MemPlace}
    (htt : P.underlying tt = some (.slice t)) (ct : P.cellsOf t = 1) (ht : P.underlying t = some (.slice e)) (he : P.underlying e = some (.struct #[f0, f1, f2])) (ce : P.cellsOf e = 3) (o0 : f0.offset = 0) (o1 : f1.offset = 1) (o2 : f2.offset = 2)
    (c0 : P.cellsOf f0.type = 1) (c1 : P.cellsOf f1.type = 1) (c2 : P.cellsOf f2.type = 1) (u0 : P.underlying f0.type = some (.int .i64)) (u1 : P.underlying f1.type = some (.int .i64)) (u2 : P.underlying f2.type = some .string)
    (h : DataW.trod enc P w base spare held fuel tt [.slice a len cap] = some x) :
    ∃ L : List (List CT), L.length = len ∧ RowsAt w a L ∧ len ≤ maxLen ∧ (a = none → cap = 0) := by
  rcases open_slice htt h with ⟨h0, _⟩ | ⟨ad, len', cap', m, n, D, Pl, hcs, hb, hl, hm, hmm, _, hx⟩
  · simp at h0
    obtain ⟨rfl, rfl, rfl⟩ := h0
    exact ⟨[], rfl, fun j hj => by simp at hj, by unfold maxLen; omega, fun _ => rfl⟩
  simp at hcs
  obtain ⟨rfl, rfl, rfl⟩ := hcs
  have hlm : len ≤ m := by rw [hmm]; split <;> omega
  have each : ∀ i, i < len → ∃ l : List CT, ∃ ai ci, w.cell? (ad.add i) = some (.slice ai l.length ci) ∧ RowAt w ai l ∧ Fit l ∧ l.length ≤ maxLen ∧ (ai = none → ci = 0) := by
    intro i hi
    obtain ⟨cs', h1, h2⟩ := hx i (by omega)
    rw [ct, Nat.mul_one] at h1
    obtain ⟨_, hlen, hcell⟩ := World.cells?_some h1
    match cs', hlen with
    | [v], _ =>
      have e0 := hcell 0 (by omega)
      rw [add_add] at e0
      have e1 : w.cell? (ad.add i) = some v := by simpa using e0
      obtain ⟨ai, li, ci, rfl⟩ : ∃ ai li ci, v = .slice ai li ci := by
        rcases open_slice ht h2 with ⟨hv, _⟩ | ⟨a', l', c', _, _, _, _, hv, _⟩
        · simp at hv; exact ⟨_, _, _, hv⟩
        · simp at hv; exact ⟨_, _, _, hv⟩
      obtain ⟨l, hll, hr, hf, hml, hn⟩ := open_cells ht he ce o0 o1 o2 c0 c1 c2 u0 u1 u2 h2
      subst hll
      exact ⟨l, ai, ci, e1, hr, hf, hml, hn⟩
  obtain ⟨q, hq⟩ := choose_lt each
  have spot : 0 < len → ad.spot = none := by
    intro h0
    obtain ⟨ai, ci, e0, _⟩ := hq 0 h0
    simpa [Addr.add] using World.cell?_spot e0
  refine ⟨(List.range len).map q, by simp, ?_, by omega, fun h => by cases h⟩
  intro j hj
  have hj' : j < len := by simpa using hj
  obtain ⟨b, o, sp⟩ := ad
  have hsp := spot (by omega)
  simp at hsp
  subst hsp
  obtain ⟨ai, ci, e0, hr, hf, hml, hn⟩ := hq j hj'
  have hadd : ((⟨b, o, none⟩ : Addr).add j) = ⟨b, o + j, none⟩ := by
    unfold Addr.add
    by_cases hq : j = 0 <;> simp [hq]
  rw [hadd] at e0
  have hg : ((List.range len).map q)[j] = q j := by simp
  rw [hg]
  exact ⟨b, o, ai, ci, rfl, World.block_lt_of_cell? w _ e0, e0, hr, hf, hml, hn⟩

end Go.Proofs.YtmmandkellhbeaaGreatDoor
