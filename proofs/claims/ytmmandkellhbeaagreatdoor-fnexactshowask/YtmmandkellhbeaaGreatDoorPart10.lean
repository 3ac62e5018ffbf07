/-
  A part of the proof: SvMath4, SvForm, DelI, Box5, TabI1, KeyVar, KeyI.
-/
import Derived.Test.YtmmandkellhbeaaGreatDoorPart9
import Derived.Test.YtmmandkellhbeaaGreatDoorPart2
import Derived.Test.YtmmandkellhbeaaGreatDoorPart6
import Derived.Lib.SliceRun
import Derived.Test.YtmmandkellhbeaaGreatDoorPart1
import Derived.Test.YtmmandkellhbeaaGreatDoorPart7
import Derived.Test.YtmmandkellhbeaaGreatDoorShelf

/-
  Questions without any program: what a text is read as, and that a question is read from its text.
-/
namespace Go.Proofs.YtmmandkellhbeaaGreatDoor

def readEach : List (List UInt8) → Option (List SV)
  | [] => some []
  | p :: ps => match readS p with
    | none => none
    | some s => (readEach ps).map (s :: ·)
/-- The question of a text. -/
def readA (l : List UInt8) : Option (List SV) := match readEach (cutAt 124 [] l) with
  | none => none
  | some x => if askB x = true then some x else none
theorem lets_free {l : List UInt8} (h : lets l = true) (c : UInt8) (hc : ¬ (97 ≤ c.toNat ∧ c.toNat ≤ 122)) : c ∉ l := fun hm => by
  have := List.all_eq_true.1 h c hm
  simp only [Bool.and_eq_true, decide_eq_true_eq] at this
  exact hc this
theorem itoa_bar (n : Int) : (124 : UInt8) ∉ Lib.itoa n := fun hm => by
  by_cases hn : n < 0
  · rw [itoa_neg n hn] at hm
    obtain ⟨_, p, _⟩ := decDigits_plain n.natAbs
    rcases List.mem_cons.1 hm with h | h
    · cases h
    · have := p.2.1 _ h
      unfold isDig at this
      simp at this
  · rw [itoa_nonneg n (by omega)] at hm
    obtain ⟨_, p, _⟩ := decDigits_plain n.toNat
    have := p.2.1 _ hm
    unfold isDig at this
    simp at this
theorem textC_bar {c : CK} (h : okC c = true) : (124 : UInt8) ∉ textC c := by
  obtain ⟨k, n, t⟩ := c
  unfold textC l4T
  dsimp only
  split
  · exact itoa_bar n
  · split
    · rename_i h2
      have hl : lets t.data.toList = true := by
        have h' : okB k n t = true := h
        subst h2
        unfold okB at h'
        simp at h'
        exact h'.1.1
      intro hm
      rcases List.mem_cons.1 hm with h' | h'
      · cases h'
      · rcases List.mem_append.1 h' with h' | h'
        · exact lets_free hl 124 (by decide) h'
        · simp at h'
    · split
      · split <;> decide
      · decide
theorem nameK_bar {s : ByteArray} (h : nameK s = true) : (124 : UInt8) ∉ s.data.toList := by
  unfold nameK nameB at h
  simp only [Bool.and_eq_true, decide_eq_true_eq] at h
  exact lets_free h.1.2.1 124 (by decide)
theorem sgn_bar (k : Int) : (124 : UInt8) ∉ (sgn k).data.toList := by
  unfold sgn
  (repeat' split) <;> decide
theorem text_bar : ∀ (t : Tr), t.ok → (124 : UInt8) ∉ t.text
  | .leaf x, h => by
    show (124 : UInt8) ∉ tokT (tkOf x)
    obtain ⟨h1, h2⟩ := h
    unfold tkOf
    unfold itemB at h1
    split
    · rename_i hk
      rw [if_pos hk, Bool.and_eq_true] at h1
      show (124 : UInt8) ∉ (if (2 : Int) = 2 then textC x.2.1 else _)
      rw [if_pos rfl]
      exact textC_bar h1.1
    · rename_i hk
      have h2' : x.1 = 2 := by omega
      rw [if_neg hk, if_pos h2', Bool.and_eq_true] at h1
      show (124 : UInt8) ∉ (if (1 : Int) = 2 then _ else x.2.2.data.toList)
      rw [if_neg (by decide)]
      exact nameK_bar h1.1
  | .one k t, h => by
    have ih := text_bar t h.2
    show (124 : UInt8) ∉ 40 :: ((sgn k).data.toList ++ 32 :: (t.text ++ [41]))
    have hs := sgn_bar k
    simp only [List.mem_cons, List.mem_append, List.not_mem_nil, or_false, not_or]
    exact ⟨by decide, hs, by decide, ih, by decide⟩
  | .two k a b, h => by
    have ih1 := text_bar a h.2.1
    have ih2 := text_bar b h.2.2
    show (124 : UInt8) ∉ 40 :: (a.text ++ 32 :: ((sgn k).data.toList ++ 32 :: (b.text ++ [41])))
    have hs := sgn_bar k
    simp only [List.mem_cons, List.mem_append, List.not_mem_nil, or_false, not_or]
    exact ⟨by decide, ih1, by decide, hs, by decide, ih2, by decide⟩
theorem sumL_bar {l : List TI} (h : sumB l = true) : (124 : UInt8) ∉ sumL l := by
  obtain ⟨t, ht, rfl⟩ := sum_tree h
  rw [sumL_tree ht h]
  exact text_bar t ht
theorem wordS_bar (k : Int) : (124 : UInt8) ∉ wordS k := by
  unfold wordS
  (repeat' split) <;> decide
theorem join_bar : ∀ (w : List UInt8) (ns : List ByteArray), (124 : UInt8) ∉ w → ns.all nameK = true → (124 : UInt8) ∉ Lib.join (w :: ns.map (·.data.toList)) [32]
  | w, [], h, _ => by
    show (124 : UInt8) ∉ Lib.join [w] [32]
    rw [Lib.join_one]
    exact h
  | w, n :: ns, h, ha => by
    simp only [List.all_cons, Bool.and_eq_true] at ha
    have ih := join_bar n.data.toList ns (nameK_bar ha.1) ha.2
    have e : Lib.join (w :: (n :: ns).map (·.data.toList)) [32] = w ++ 32 :: Lib.join (n.data.toList :: ns.map (·.data.toList)) [32] := by simp [Lib.join]
    rw [e]
    simp only [List.mem_append, List.mem_cons, not_or]
    exact ⟨h, by decide, ih⟩
theorem show_bar (s : SV) (h : sieveB s = true) : (124 : UInt8) ∉ showS s := by
  obtain ⟨k, nm, ns, sm, dn, ct, sk⟩ := s
  rcases sieve_kind h with e | e | e | e | e | e | e | e | e | e <;> (dsimp only at e; subst e; simp [sieveB, bareB, nameS, sumS, listS] at h)
  · have hw := wordS_bar 1
    have hn := nameK_bar h.2.2
    show (124 : UInt8) ∉ wordS 1 ++ 32 :: nm.data.toList
    simp only [List.mem_append, List.mem_cons, not_or]
    exact ⟨hw, by decide, hn⟩
  · have hw := wordS_bar 2
    have hs := sumL_bar h.2.2
    show (124 : UInt8) ∉ wordS 2 ++ 32 :: sumL sm
    simp only [List.mem_append, List.mem_cons, not_or]
    exact ⟨hw, by decide, hs⟩
  · have hw := wordS_bar 3
    have hn := nameK_bar h.2.2.1
    have hs := sumL_bar h.2.2.2
    show (124 : UInt8) ∉ wordS 3 ++ 32 :: (nm.data.toList ++ 32 :: 61 :: 32 :: sumL sm)
    simp only [List.mem_append, List.mem_cons, not_or]
    exact ⟨hw, by decide, hn, by decide, by decide, by decide, hs⟩
  · have hn := h.2
    unfold names10 at hn
    rw [Bool.and_eq_true] at hn
    exact join_bar (wordS 4) ns (wordS_bar 4) hn.1
  · have hw := wordS_bar 5
    have hn := nameK_bar h.2.2.1
    have hs := sumL_bar h.2.2.2
    show (124 : UInt8) ∉ wordS 5 ++ 32 :: (nm.data.toList ++ 32 :: 111 :: 110 :: 32 :: sumL sm)
    simp only [List.mem_append, List.mem_cons, not_or]
    exact ⟨hw, by decide, hn, by decide, by decide, by decide, by decide, hs⟩
  · have hw := wordS_bar 6
    have hn := nameK_bar h.2.2.1
    have hs := sumL_bar h.2.2.2
    show (124 : UInt8) ∉ wordS 6 ++ 32 :: (nm.data.toList ++ 32 :: 111 :: 110 :: 32 :: sumL sm)
    simp only [List.mem_append, List.mem_cons, not_or]
    exact ⟨hw, by decide, hn, by decide, by decide, by decide, by decide, hs⟩
  · have hn := h.2
    unfold names10 at hn
    rw [Bool.and_eq_true] at hn
    exact join_bar (wordS 7) ns (wordS_bar 7) hn.1
  · have hw := wordS_bar 8
    have hn := nameK_bar h.2.2
    cases dn
    · show (124 : UInt8) ∉ wordS 8 ++ 32 :: nm.data.toList
      simp only [List.mem_append, List.mem_cons, not_or]
      exact ⟨hw, by decide, hn⟩
    · show (124 : UInt8) ∉ wordS 8 ++ 32 :: (nm.data.toList ++ [32, 100, 111, 119, 110])
      simp only [List.mem_append, List.mem_cons, List.not_mem_nil, or_false, not_or]
      exact ⟨hw, by decide, hn, by decide, by decide, by decide, by decide, by decide⟩
  · have hw := wordS_bar 9
    show (124 : UInt8) ∉ wordS 9 ++ 32 :: (Lib.itoa ct ++ 32 :: Lib.itoa sk)
    simp only [List.mem_append, List.mem_cons, not_or]
    exact ⟨hw, by decide, itoa_bar ct, by decide, itoa_bar sk⟩
  · exact wordS_bar 10
theorem cutAt_bar {x : List UInt8} (h : (124 : UInt8) ∉ x) (l : List UInt8) : cutAt 124 [] (x ++ 124 :: l) = x :: cutAt 124 [] l := by
  rw [cutAt_free 124 x h [] (124 :: l)]
  show (if (124 : UInt8) = 124 then _ else _) = _
  rw [if_pos rfl, List.nil_append]
theorem cutAt_one {x : List UInt8} (h : (124 : UInt8) ∉ x) : cutAt 124 [] x = [x] := by
  have := cutAt_free 124 x h [] []
  rw [List.append_nil] at this
  rw [this]
  rfl
theorem each_show : ∀ (l : List SV) (x : SV) (b : List UInt8), Bl b → (∀ s ∈ x :: l, sieveB s = true ∧ (sumL s.sum).length ≤ 1990) → readEach (cutAt 124 [] (b ++ Lib.join ((x :: l).map showS) [32, 124, 32])) = some (x :: l)
  | [], x, b, hb, h => by
    obtain ⟨h1, h2⟩ := h x (by simp)
    have hbar : (124 : UInt8) ∉ b ++ showS x := by
      have := show_bar x h1
      rcases hb with rfl | rfl
      · exact this
      · simp only [List.mem_append, List.mem_cons, List.not_mem_nil, or_false, not_or]; exact ⟨by decide, this⟩
    show readEach (cutAt 124 [] (b ++ Lib.join [showS x] [32, 124, 32])) = _
    rw [Lib.join_one, cutAt_one hbar]
    have := read_show x h1 h2 hb (.inl rfl)
    rw [List.append_nil] at this
    unfold readEach
    rw [this]
    rfl
  | y :: l, x, b, hb, h => by
    obtain ⟨h1, h2⟩ := h x (by simp)
    have ih := each_show l y [32] (.inr rfl) (fun s hs => h s (List.mem_cons_of_mem _ hs))
    have hbar : (124 : UInt8) ∉ b ++ (showS x ++ [32]) := by
      have := show_bar x h1
      rcases hb with rfl | rfl
      · simp only [List.nil_append, List.mem_append, List.mem_cons, List.not_mem_nil, or_false, not_or]; exact ⟨this, by decide⟩
      · simp only [List.mem_append, List.mem_cons, List.not_mem_nil, or_false, not_or]; exact ⟨by decide, this, by decide⟩
    have e : b ++ Lib.join ((x :: y :: l).map showS) [32, 124, 32] = (b ++ (showS x ++ [32])) ++ 124 :: ([32] ++ Lib.join ((y :: l).map showS) [32, 124, 32]) := by
      simp [Lib.join]
    rw [e, cutAt_bar hbar]
    have hr := read_show x h1 h2 hb (.inr rfl)
    unfold readEach
    rw [hr]
    dsimp only
    rw [ih]
    rfl
/-- A question is read from its text. -/
theorem ask_show {l : List SV} (h : askB l = true) (hz : ∀ s ∈ l, (sumL s.sum).length ≤ 1990) : readA (askT l).data.toList = some l := by
  have h' := h
  unfold askB at h'
  simp only [Bool.and_eq_true] at h'
  cases l with
  | nil => exact absurd h'.1.2 (by decide)
  | cons x l =>
    have e : (askT (x :: l)).data.toList = [] ++ Lib.join ((x :: l).map showS) [32, 124, 32] := by
      unfold askT
      rw [if_pos h]
      rfl
    unfold readA
    rw [e, each_show l x [] (.inl rfl) (fun s hs => ⟨List.all_eq_true.1 h'.1.1 s hs, hz s hs⟩)]
    dsimp only
    rw [if_pos h]
end Go.Proofs.YtmmandkellhbeaaGreatDoor

/-
  The program's forms of a sieve without any program: what a kind tells, that a sieve is right by its form just where it is right, and that its text is its pieces.
-/
namespace Go.Proofs.YtmmandkellhbeaaGreatDoor

/-- What a kind tells. -/
structure FS where
  word : ByteArray
  hasName : Bool
  few : Int
  most : Int
  ahead : ByteArray
  hasSum : Bool
  fall : Bool
  cnt : Int
def formF (k : Int) : FS :=
  if k = 1 then ⟨⟨#[102, 114, 111, 109]⟩, true, 0, 0, ⟨#[]⟩, false, false, 0⟩
  else if k = 2 then ⟨⟨#[119, 104, 101, 114, 101]⟩, false, 0, 0, ⟨#[]⟩, true, false, 0⟩
  else if k = 3 then ⟨⟨#[108, 101, 116]⟩, true, 0, 0, ⟨#[61]⟩, true, false, 0⟩
  else if k = 4 then ⟨⟨#[107, 101, 101, 112]⟩, false, 1, 6, ⟨#[]⟩, false, false, 0⟩
  else if k = 5 then ⟨⟨#[106, 111, 105, 110]⟩, true, 0, 0, ⟨#[111, 110]⟩, true, false, 0⟩
  else if k = 6 then ⟨⟨#[108, 101, 102, 116]⟩, true, 0, 0, ⟨#[111, 110]⟩, true, false, 0⟩
  else if k = 7 then ⟨⟨#[103, 114, 111, 117, 112]⟩, false, 0, 4, ⟨#[]⟩, false, false, 0⟩
  else if k = 8 then ⟨⟨#[111, 114, 100, 101, 114]⟩, true, 0, 0, ⟨#[]⟩, false, true, 0⟩
  else if k = 9 then ⟨⟨#[108, 105, 109, 105, 116]⟩, false, 0, 0, ⟨#[]⟩, false, false, 1000⟩
  else if k = 10 then ⟨⟨#[111, 110, 99, 101]⟩, false, 0, 0, ⟨#[]⟩, false, false, 0⟩ else ⟨⟨#[]⟩, false, 0, 0, ⟨#[]⟩, false, false, 0⟩
def nameF (f : FS) (s : SV) : Bool := if f.hasName = true then nameK s.name else decide (s.name = ⟨#[]⟩)
def namesF (f : FS) (s : SV) : Bool := !(decide ((s.names.length : Int) < f.few) || decide (f.most < (s.names.length : Int))) && (s.names.all nameK && decide s.names.Nodup)
def sumF (f : FS) (s : SV) : Bool := if f.hasSum = true then sumB s.sum else decide (s.sum.length = 0)
def canF (f : FS) (n : Int) : Bool := decide (0 ≤ n) && decide (n ≤ f.cnt)
def rightF (f : FS) (s : SV) : Bool :=
  !decide (f.word = ⟨#[]⟩) && (nameF f s && (namesF f s && (sumF f s && ((f.fall || !s.down) && (canF f s.count && canF f s.skip)))))

theorem nameK_nameB {s : ByteArray} (h : nameK s = true) : nameB s = true := by
  unfold nameK at h
  rw [Bool.and_eq_true] at h
  exact h.1
theorem form_k (k : Int) (h : k < 1 ∨ 10 < k) : formF k = ⟨⟨#[]⟩, false, 0, 0, ⟨#[]⟩, false, false, 0⟩ := by
  unfold formF
  rw [if_neg (show ¬ k = 1 by omega), if_neg (show ¬ k = 2 by omega), if_neg (show ¬ k = 3 by omega), if_neg (show ¬ k = 4 by omega), if_neg (show ¬ k = 5 by omega), if_neg (show ¬ k = 6 by omega), if_neg (show ¬ k = 7 by omega), if_neg (show ¬ k = 8 by omega), if_neg (show ¬ k = 9 by omega), if_neg (show ¬ k = 10 by omega)]
theorem kind_cases {k : Int} (h : ¬ (k < 1 ∨ 10 < k)) : k = 1 ∨ k = 2 ∨ k = 3 ∨ k = 4 ∨ k = 5 ∨ k = 6 ∨ k = 7 ∨ k = 8 ∨ k = 9 ∨ k = 10 := by omega
set_option maxHeartbeats 2000000 in
/-- The program's forms say what a right sieve is. -/
theorem right_form (s : SV) : rightF (formF s.kind) s = sieveB s := by
  obtain ⟨k, nm, N, S, dn, ct, sk⟩ := s
  have hE : S.isEmpty = decide (S.length = 0) := by cases S <;> simp
  have hE2 : N.isEmpty = decide (N.length = 0) := by cases N <;> simp
  have z : ∀ n : Int, (decide (0 ≤ n) && decide (n ≤ 0)) = (n == 0) := by
    intro n
    rw [Bool.eq_iff_iff]
    simp
    omega
  have h0 : N.length = 0 → (N.all nameK && decide N.Nodup) = true := by intro h; have := List.length_eq_zero_iff.1 h; subst this; rfl
  have nz : (!(decide ((N.length : Int) < 0) || decide (0 < (N.length : Int))) && (N.all nameK && decide N.Nodup)) = N.isEmpty := by
    rw [hE2]
    by_cases h : N.length = 0
    · rw [h0 h, h]; rfl
    · rw [decide_eq_true (show (0 : Int) < (N.length : Int) by omega), decide_eq_false h, Bool.or_true]; rfl
  have nl : ∀ lo hi : Int, (!(decide ((N.length : Int) < lo) || decide (hi < (N.length : Int))) && (N.all nameK && decide N.Nodup)) = names10 N lo hi := by
    intro lo hi
    rw [Bool.eq_iff_iff]
    unfold names10 namesB namesD
    simp only [Bool.and_eq_true, Bool.not_eq_true', Bool.or_eq_false_iff, decide_eq_false_iff_not, decide_eq_true_eq, List.all_eq_true]
    constructor
    · rintro ⟨⟨a, b⟩, c, d⟩
      exact ⟨c, ⟨fun x hx => nameK_nameB (c x hx), d⟩, by omega, by omega⟩
    · rintro ⟨c, ⟨_, d⟩, a, b⟩
      exact ⟨⟨by omega, by omega⟩, c, d⟩
  by_cases hk : k < 1 ∨ 10 < k
  · dsimp only
    rw [form_k k hk]
    unfold rightF sieveB
    dsimp only
    rw [if_neg (by omega), if_neg (by omega), if_neg (by omega)]
    rw [show (decide (1 ≤ k) && decide (k ≤ 10)) = false by rw [Bool.eq_false_iff]; simp; omega]
    simp
  rcases kind_cases hk with rfl | rfl | rfl | rfl | rfl | rfl | rfl | rfl | rfl | rfl
  · show (!decide ((⟨#[102, 114, 111, 109]⟩ : ByteArray) = ⟨#[]⟩) && (nameK nm && ((!(decide ((N.length : Int) < 0) || decide (0 < (N.length : Int))) && (N.all nameK && decide N.Nodup)) && (decide (S.length = 0) && ((false || !dn) && ((decide (0 ≤ ct) && decide (ct ≤ 0)) && (decide (0 ≤ sk) && decide (sk ≤ 0)))))))) = sieveB _
    rw [show decide ((⟨#[102, 114, 111, 109]⟩ : ByteArray) = ⟨#[]⟩) = false from rfl, nz, ← hE, z, z]
    show _ = (true && bareB _)
    unfold bareB
    dsimp only
    generalize nameK nm = a
    generalize N.isEmpty = f
    generalize S.isEmpty = e
    generalize (ct == 0) = g
    generalize (sk == 0) = h
    cases a <;> cases f <;> cases e <;> cases g <;> cases h <;> cases dn <;> rfl
  · show (!decide ((⟨#[119, 104, 101, 114, 101]⟩ : ByteArray) = ⟨#[]⟩) && (decide (nm = ⟨#[]⟩) && ((!(decide ((N.length : Int) < 0) || decide (0 < (N.length : Int))) && (N.all nameK && decide N.Nodup)) && (sumB S && ((false || !dn) && ((decide (0 ≤ ct) && decide (ct ≤ 0)) && (decide (0 ≤ sk) && decide (sk ≤ 0)))))))) = sieveB _
    rw [show decide ((⟨#[119, 104, 101, 114, 101]⟩ : ByteArray) = ⟨#[]⟩) = false from rfl, nz, z, z]
    show _ = (true && bareB _)
    unfold bareB
    dsimp only
    generalize decide (nm = ⟨#[]⟩) = c
    generalize N.isEmpty = f
    generalize sumB S = d
    generalize (ct == 0) = g
    generalize (sk == 0) = h
    cases c <;> cases f <;> cases d <;> cases g <;> cases h <;> cases dn <;> rfl
  · show (!decide ((⟨#[108, 101, 116]⟩ : ByteArray) = ⟨#[]⟩) && (nameK nm && ((!(decide ((N.length : Int) < 0) || decide (0 < (N.length : Int))) && (N.all nameK && decide N.Nodup)) && (sumB S && ((false || !dn) && ((decide (0 ≤ ct) && decide (ct ≤ 0)) && (decide (0 ≤ sk) && decide (sk ≤ 0)))))))) = sieveB _
    rw [show decide ((⟨#[108, 101, 116]⟩ : ByteArray) = ⟨#[]⟩) = false from rfl, nz, z, z]
    show _ = (true && bareB _)
    unfold bareB
    dsimp only
    generalize nameK nm = a
    generalize N.isEmpty = f
    generalize sumB S = d
    generalize (ct == 0) = g
    generalize (sk == 0) = h
    cases a <;> cases f <;> cases d <;> cases g <;> cases h <;> cases dn <;> rfl
  · show (!decide ((⟨#[107, 101, 101, 112]⟩ : ByteArray) = ⟨#[]⟩) && (decide (nm = ⟨#[]⟩) && ((!(decide ((N.length : Int) < 1) || decide (6 < (N.length : Int))) && (N.all nameK && decide N.Nodup)) && (decide (S.length = 0) && ((false || !dn) && ((decide (0 ≤ ct) && decide (ct ≤ 0)) && (decide (0 ≤ sk) && decide (sk ≤ 0)))))))) = sieveB _
    rw [show decide ((⟨#[107, 101, 101, 112]⟩ : ByteArray) = ⟨#[]⟩) = false from rfl, nl, ← hE, z, z]
    show _ = (bareB _ && names10 N 1 6)
    unfold bareB
    dsimp only
    generalize decide (nm = ⟨#[]⟩) = c
    generalize names10 N 1 6 = i
    generalize S.isEmpty = e
    generalize (ct == 0) = g
    generalize (sk == 0) = h
    cases c <;> cases i <;> cases e <;> cases g <;> cases h <;> cases dn <;> rfl
  · show (!decide ((⟨#[106, 111, 105, 110]⟩ : ByteArray) = ⟨#[]⟩) && (nameK nm && ((!(decide ((N.length : Int) < 0) || decide (0 < (N.length : Int))) && (N.all nameK && decide N.Nodup)) && (sumB S && ((false || !dn) && ((decide (0 ≤ ct) && decide (ct ≤ 0)) && (decide (0 ≤ sk) && decide (sk ≤ 0)))))))) = sieveB _
    rw [show decide ((⟨#[106, 111, 105, 110]⟩ : ByteArray) = ⟨#[]⟩) = false from rfl, nz, z, z]
    show _ = (true && bareB _)
    unfold bareB
    dsimp only
    generalize nameK nm = a
    generalize N.isEmpty = f
    generalize sumB S = d
    generalize (ct == 0) = g
    generalize (sk == 0) = h
    cases a <;> cases f <;> cases d <;> cases g <;> cases h <;> cases dn <;> rfl
  · show (!decide ((⟨#[108, 101, 102, 116]⟩ : ByteArray) = ⟨#[]⟩) && (nameK nm && ((!(decide ((N.length : Int) < 0) || decide (0 < (N.length : Int))) && (N.all nameK && decide N.Nodup)) && (sumB S && ((false || !dn) && ((decide (0 ≤ ct) && decide (ct ≤ 0)) && (decide (0 ≤ sk) && decide (sk ≤ 0)))))))) = sieveB _
    rw [show decide ((⟨#[108, 101, 102, 116]⟩ : ByteArray) = ⟨#[]⟩) = false from rfl, nz, z, z]
    show _ = (true && bareB _)
    unfold bareB
    dsimp only
    generalize nameK nm = a
    generalize N.isEmpty = f
    generalize sumB S = d
    generalize (ct == 0) = g
    generalize (sk == 0) = h
    cases a <;> cases f <;> cases d <;> cases g <;> cases h <;> cases dn <;> rfl
  · show (!decide ((⟨#[103, 114, 111, 117, 112]⟩ : ByteArray) = ⟨#[]⟩) && (decide (nm = ⟨#[]⟩) && ((!(decide ((N.length : Int) < 0) || decide (4 < (N.length : Int))) && (N.all nameK && decide N.Nodup)) && (decide (S.length = 0) && ((false || !dn) && ((decide (0 ≤ ct) && decide (ct ≤ 0)) && (decide (0 ≤ sk) && decide (sk ≤ 0)))))))) = sieveB _
    rw [show decide ((⟨#[103, 114, 111, 117, 112]⟩ : ByteArray) = ⟨#[]⟩) = false from rfl, nl, ← hE, z, z]
    show _ = (bareB _ && names10 N 0 4)
    unfold bareB
    dsimp only
    generalize decide (nm = ⟨#[]⟩) = c
    generalize names10 N 0 4 = i
    generalize S.isEmpty = e
    generalize (ct == 0) = g
    generalize (sk == 0) = h
    cases c <;> cases i <;> cases e <;> cases g <;> cases h <;> cases dn <;> rfl
  · show (!decide ((⟨#[111, 114, 100, 101, 114]⟩ : ByteArray) = ⟨#[]⟩) && (nameK nm && ((!(decide ((N.length : Int) < 0) || decide (0 < (N.length : Int))) && (N.all nameK && decide N.Nodup)) && (decide (S.length = 0) && ((true || !dn) && ((decide (0 ≤ ct) && decide (ct ≤ 0)) && (decide (0 ≤ sk) && decide (sk ≤ 0)))))))) = sieveB _
    rw [show decide ((⟨#[111, 114, 100, 101, 114]⟩ : ByteArray) = ⟨#[]⟩) = false from rfl, nz, ← hE, z, z]
    show _ = (true && bareB _)
    unfold bareB
    dsimp only
    generalize nameK nm = a
    generalize N.isEmpty = f
    generalize S.isEmpty = e
    generalize (ct == 0) = g
    generalize (sk == 0) = h
    cases a <;> cases f <;> cases e <;> cases g <;> cases h <;> cases dn <;> rfl
  · show (!decide ((⟨#[108, 105, 109, 105, 116]⟩ : ByteArray) = ⟨#[]⟩) && (decide (nm = ⟨#[]⟩) && ((!(decide ((N.length : Int) < 0) || decide (0 < (N.length : Int))) && (N.all nameK && decide N.Nodup)) && (decide (S.length = 0) && ((false || !dn) && ((decide (0 ≤ ct) && decide (ct ≤ 1000)) && (decide (0 ≤ sk) && decide (sk ≤ 1000)))))))) = sieveB _
    rw [show decide ((⟨#[108, 105, 109, 105, 116]⟩ : ByteArray) = ⟨#[]⟩) = false from rfl, nz, ← hE]
    show _ = (bareB _ && ((decide (0 ≤ ct) && decide (ct ≤ 1000)) && (decide (0 ≤ sk) && decide (sk ≤ 1000))))
    unfold bareB
    dsimp only
    generalize decide (nm = ⟨#[]⟩) = c
    generalize N.isEmpty = f
    generalize S.isEmpty = e
    generalize (decide (0 ≤ ct) && decide (ct ≤ 1000)) = g
    generalize (decide (0 ≤ sk) && decide (sk ≤ 1000)) = h
    cases c <;> cases f <;> cases e <;> cases g <;> cases h <;> cases dn <;> rfl
  · show (!decide ((⟨#[111, 110, 99, 101]⟩ : ByteArray) = ⟨#[]⟩) && (decide (nm = ⟨#[]⟩) && ((!(decide ((N.length : Int) < 0) || decide (0 < (N.length : Int))) && (N.all nameK && decide N.Nodup)) && (decide (S.length = 0) && ((false || !dn) && ((decide (0 ≤ ct) && decide (ct ≤ 0)) && (decide (0 ≤ sk) && decide (sk ≤ 0)))))))) = sieveB _
    rw [show decide ((⟨#[111, 110, 99, 101]⟩ : ByteArray) = ⟨#[]⟩) = false from rfl, nz, ← hE, z, z]
    show _ = (true && bareB _)
    unfold bareB
    dsimp only
    generalize decide (nm = ⟨#[]⟩) = c
    generalize N.isEmpty = f
    generalize S.isEmpty = e
    generalize (ct == 0) = g
    generalize (sk == 0) = h
    cases c <;> cases f <;> cases e <;> cases g <;> cases h <;> cases dn <;> rfl
end Go.Proofs.YtmmandkellhbeaaGreatDoor

/-
  The contract of slices.DeleteFunc over texts, with the program's question whether a piece is empty: what is left are the pieces that are not.
-/
namespace Go.Proofs.YtmmandkellhbeaaGreatDoor
open Go.ChangeShapes Go.WideShapes Go.ChangeAt Go.RowKit
attribute [local go_sem ↓] Go.wp_at_zero Go.wp_at_succ
attribute [local simp] World.cell?_alloc_past World.cell?_alloc_at World.frozen?_alloc_at cell_far cell_off cell_here World.frozen?_alloc_past

def fullB (x : ByteArray) : Bool := !decide (x = ⟨#[]⟩)
/-- The pieces that are not empty. -/
def fullP (l : List ByteArray) : List ByteArray := l.filter fullB
theorem fullP_take (l : List ByteArray) (j : Nat) (h : j < l.length) : fullP (l.take (j + 1)) = fullP (l.take j) ++ (if fullB l[j] = true then [l[j]] else []) := by
  unfold fullP
  rw [List.take_succ_eq_append_getElem h, List.filter_append, List.filter_cons]
  split <;> rfl
theorem fullP_all {l : List ByteArray} (h : l.all fullB = true) : fullP l = l := by
  unfold fullP
  rw [List.filter_eq_self]
  exact List.all_eq_true.1 h
theorem fullP_len (l : List ByteArray) : (fullP l).length ≤ l.length := List.length_filter_le _ _
theorem below_sets {B g : Nat} (hg : B ≤ g) : ∀ (vs : List Value) (o : Nat) (w : World), Below B w (w.setCells g o vs)
  | [], _, _ => Below.refl _ _
  | v :: vs, o, w => ((Below.refl B w).setCell (p := ⟨g, o, none⟩) hg v).trans (below_sets hg vs (o + 1) (w.setCell ⟨g, o, none⟩ v))
/-- While pieces are cut out: i are kept of the first j; what stands from j on is as it was. -/
structure Cutting (w : World) (B g c n : Nat) (xs L : List ByteArray) (i j : Nat) : Prop where
  own : w.ownsRow B 9 1 (.slice (some ⟨g, 0, none⟩) n c) n (strV L)
  len : L.length = n
  kept : L.take i = fullP (xs.take j)
  num : i = (fullP (xs.take j)).length
  lt : i < j
  rest : ∀ q, j ≤ q → L[q]? = xs[q]?
theorem Cutting.skip {w : World} {B g c n : Nat} {xs L : List ByteArray} {i j : Nat} (h : Cutting w B g c n xs L i j) (hj : j < xs.length) (he : fullB xs[j] = false) : Cutting w B g c n xs L i (j + 1) where
  own := h.own
  len := h.len
  kept := by rw [fullP_take xs j hj, he, if_neg (by decide), List.append_nil]; exact h.kept
  num := by rw [fullP_take xs j hj, he, if_neg (by decide), List.append_nil]; exact h.num
  lt := by have := h.lt; omega
  rest q hq := h.rest q (by omega)
theorem Cutting.keep {w : World} {B g c n : Nat} {xs L : List ByteArray} {i j : Nat} (h : Cutting w B g c n xs L i j) (hj : j < xs.length) (hn : xs.length = n) (he : fullB xs[j] = true) : Cutting (w.setCell ⟨g, i, none⟩ (.string xs[j])) B g c n xs (L.set i xs[j]) (i + 1) (j + 1) where
  own := by
    have h1 := (h.own.stored i (.string xs[j])).1
    unfold strV at h1 ⊢
    rw [List.map_set]
    exact h1
  len := by rw [List.length_set]; exact h.len
  kept := by
    have hl := h.lt
    have hi : i < L.length := by have := h.len; omega
    rw [fullP_take xs j hj, he, if_pos rfl, ← h.kept, List.take_succ_eq_append_getElem (by rw [List.length_set]; exact hi), List.getElem_set_self, List.take_set_of_le (Nat.le_refl _)]
  num := by rw [fullP_take xs j hj, he, if_pos rfl, List.length_append, ← h.num]; rfl
  lt := by have := h.lt; omega
  rest q hq := by
    have hl := h.lt
    rw [List.getElem?_set_ne (by omega)]
    exact h.rest q (by omega)
theorem empty_impl (s : ByteArray) (w : World) (b : Bool) (hb : fullB s = b) :
    Calls Tryz.prog 64 #[.string s] w fun e w' => e = .returned (.bool (!b)) ∧ w' = w := by
  have hz := zero_txt s (!b) (by rw [← hb]; unfold fullB; cases decide (s = ⟨#[]⟩) <;> rfl)
  go_enter Tryz.func64, Tryz.ntmps64
  go_wp2
  go_ret
  exact ⟨rfl, rfl⟩
set_option maxHeartbeats 2000000 in
theorem indexf_impl (g c n : Nat) (xs : List ByteArray) (hn : xs.length = n) (w : World) (hx : StrsAt w (some ⟨g, 0, none⟩) xs) (hm : n ≤ 4096) :
    Calls Tryz.prog 94 #[.slice (some ⟨g, 0, none⟩) n c, .func (.func 64) #[] #[]] w fun e w' => w' = w ∧
      ((e = .returned (.int .i64 (-1)) ∧ xs.all fullB = true) ∨ ∃ k : Nat, ∃ h : k < xs.length, e = .returned (.int .i64 k) ∧ (xs.take k).all fullB = true ∧ fullB xs[k] = false) := by
  have HX : Hid (StrsAt w (some ⟨g, 0, none⟩) xs) := hx
  have HN : Hid (xs.length = n) := hn
  clear hx hn
  go_enter Tryz.func94, Tryz.ntmps94
  go_wp2
  go_loopw [8] (fun kk wr => ∃ k : Nat, k ≤ n ∧ kk = .int .i64 k ∧ Hid ((xs.take k).all fullB = true) ∧ wr = w) (fun kk _ => n - (intOf kk).toNat)
  case atStart => exact ⟨0, Nat.zero_le _, rfl, rfl, rfl⟩
  case round =>
    obtain ⟨k, hk, rfl, hall, rfl⟩ := hrel
    by_cases hlt : k < n
    · have hlk : k < xs.length := by rw [HN.out]; exact hlt
      obtain ⟨g', o', e1, hgw, c0⟩ := HX.out k hlk
      cases e1
      rw [Nat.zero_add] at c0
      have hi0 : (0 : Int) ≤ (k : Int) := by omega
      have hi1 : (k : Int) < (n : Int) := by omega
      obtain ⟨r, hr⟩ : ∃ r, fullB xs[k] = r := ⟨_, rfl⟩
      have HS : Hid ((xs.take (k + 1)).all fullB = r) := by
        have : (xs.take (k + 1)).all fullB = r := by
          rw [List.take_succ_eq_append_getElem hlk, List.all_append, hall.out, Bool.true_and, List.all_cons, List.all_nil, Bool.and_true, hr]
        exact this
      have HF : Hid (r = false → ∃ k' : Nat, ∃ h : k' < xs.length, (k' = k) ∧ (xs.take k').all fullB = true ∧ fullB xs[k'] = false) := by
        have : r = false → ∃ k' : Nat, ∃ h : k' < xs.length, (k' = k) ∧ (xs.take k').all fullB = true ∧ fullB xs[k'] = false := fun e => ⟨k, hlk, rfl, hall.out, by rw [hr, e]⟩
        exact this
      generalize xs[k] = x at c0 hr
      have HRR : Hid (fullB x = r) := hr
      clear hr hall
      go_wp2_with fail
      refine (empty_impl x _ r HRR.out).mono ?_
      rintro e wA ⟨rfl, hwA⟩
      obtain rfl : wr = wA := hwA.symm
      cases r
      · obtain ⟨k', hk', rfl, h1, h2⟩ := HF.out rfl
        go_wp2
        go_ret
        exact ⟨rfl, .inr ⟨k', hk', rfl, h1, h2⟩⟩
      · go_wp2
        go_roundw
        case rel => exact ⟨k + 1, by omega, by go_num, HS, by trivial⟩
        case measure => simp [intOf]; omega
    · have hkl : k = n := by omega
      subst hkl
      have hnn : ¬ (k : Int) < (k : Int) := by omega
      have HA : Hid (xs.all fullB = true) := by
        have h := hall.out
        rw [List.take_of_length_le (by rw [HN.out]; exact Nat.le_refl _)] at h
        exact h
      clear hall
      go_wp2
      go_ret
      exact ⟨rfl, .inl ⟨rfl, by first | exact HA.out | exact List.all_eq_true.1 HA.out⟩⟩
set_option maxRecDepth 100000 in
set_option maxHeartbeats 4000000 in
theorem delfunc_impl (B g c n : Nat) (xs : List ByteArray) (hn : xs.length = n) (w : World) (hown : w.ownsRow B 9 1 (.slice (some ⟨g, 0, none⟩) n c) n (strV xs)) (hm : n ≤ 4096) (hcn : n ≤ c) :
    Calls Tryz.prog 63 #[.slice (some ⟨g, 0, none⟩) n c, .func (.func 64) #[] #[]] w fun e w' => ∃ m : Nat, e = .returned (.slice (some ⟨g, 0, none⟩) m c) ∧ m = (fullP xs).length ∧ StrsAt w' (some ⟨g, 0, none⟩) (fullP xs) ∧ g < w'.heap.size ∧ Below B w w' := by
  have hX : StrsAt w (some ⟨g, 0, none⟩) xs := by subst hn; exact own_strs hown
  have hgB : B ≤ g := (hown.lt g rfl).1
  have hgw : g < w.heap.size := (hown.lt g rfl).2
  have HX : Hid (StrsAt w (some ⟨g, 0, none⟩) xs) := hX
  have HO : Hid (w.ownsRow B 9 1 (.slice (some ⟨g, 0, none⟩) n c) n (strV xs)) := hown
  have HN : Hid (xs.length = n) := hn
  clear hX hown hn
  go_enter Tryz.func63, Tryz.ntmps63
  go_wp2_with fail
  refine (indexf_impl g c n xs HN.out _ HX.out hm).mono ?_
  rintro e w1 ⟨hw1, hor⟩
  obtain rfl : w = w1 := hw1.symm
  rcases hor with ⟨rfl, hall⟩ | ⟨k, hk, rfl, hall, hno⟩
  · have HE : Hid (fullP xs = xs) := fullP_all hall
    clear hall
    go_wp2
    go_ret
    exact ⟨n, rfl, by rw [HE.out]; exact HN.out.symm, by rw [HE.out]; exact HX.out, hgw, Below.refl _ _⟩
  have hkn : k < n := by rw [← HN.out]; exact hk
  have hk1 : ((k : Int) == -1) = false := by first | (simp; done) | (simp; omega)
  have C0 : Hid (∃ L, Cutting w B g c n xs L k (k + 1)) := by
    have h : Cutting w B g c n xs xs k (k + 1) := by
      have e : fullP (xs.take (k + 1)) = xs.take k := by
        rw [fullP_take xs k hk, hno, if_neg (by decide), List.append_nil, fullP_all hall]
      exact ⟨HO.out, HN.out, e.symm, by rw [e, List.length_take]; omega, by omega, fun q _ => rfl⟩
    exact ⟨xs, h⟩
  clear hk hall hno HO HX
  go_wp2
  go_loopw [5, 6] (fun iv jv wr => ∃ i j : Nat, iv = .int .i64 i ∧ jv = .int .i64 j ∧ j ≤ n ∧ Hid (∃ L, Cutting wr B g c n xs L i j) ∧ Below B w wr) (fun _ jv _ => n - (intOf jv).toNat)
  case atStart => exact ⟨k, k + 1, rfl, by go_num, by omega, C0, Below.refl _ _⟩
  case round =>
    obtain ⟨i, j, rfl, rfl, hj, hC, hb⟩ := hrel
    obtain ⟨L, HC⟩ := hC.out
    have hij := HC.lt
    by_cases hlt : j < n
    · have hlk : j < xs.length := by rw [HN.out]; exact hlt
      have hi0 : (0 : Int) ≤ (j : Int) := by omega
      have hi1 : (j : Int) < (n : Int) := by omega
      have hi2 : (0 : Int) ≤ (i : Int) := by omega
      have hi3 : (i : Int) < (n : Int) := by omega
      have hjL : j < L.length := by rw [HC.len]; exact hlt
      have cj : wr.cell? ⟨g, j, none⟩ = some (.string xs[j]) := by
        rw [HC.own.cellAt j (by omega)]
        unfold strV
        rw [List.getElem?_map, HC.rest j (Nat.le_refl _), List.getElem?_eq_getElem hlk]; rfl
      have ci : wr.cell? ⟨g, i, none⟩ = some (.string (L[i]'(by omega))) := by
        rw [HC.own.cellAt i (by omega)]
        unfold strV
        rw [List.getElem?_map, List.getElem?_eq_getElem (by omega)]; rfl
      have fi := HC.own.frozenAt i
      obtain ⟨r, hr⟩ : ∃ r, fullB xs[j] = r := ⟨_, rfl⟩
      have HK : Hid (r = true → ∃ L', Cutting (wr.setCell ⟨g, i, none⟩ (.string xs[j])) B g c n xs L' (i + 1) (j + 1)) := by
        have h : r = true → ∃ L', Cutting (wr.setCell ⟨g, i, none⟩ (.string xs[j])) B g c n xs L' (i + 1) (j + 1) := fun e => ⟨_, HC.keep hlk HN.out (by rw [hr, e])⟩
        exact h
      have HS : Hid (r = false → ∃ L', Cutting wr B g c n xs L' i (j + 1)) := by
        have h : r = false → ∃ L', Cutting wr B g c n xs L' i (j + 1) := fun e => ⟨_, HC.skip hlk (by rw [hr, e])⟩
        exact h
      have hgw2 : g < wr.heap.size := Nat.lt_of_lt_of_le hgw hb.size
      clear HC hC
      generalize (L[i]'(by omega)) = y at ci
      generalize xs[j] = x at cj hr HK
      have HRR : Hid (fullB x = r) := hr
      clear hr
      go_wp2_with fail
      refine (empty_impl x _ r HRR.out).mono ?_
      rintro e wA ⟨rfl, hwA⟩
      obtain rfl : wr = wA := hwA.symm
      cases r
      · have HS2 : Hid (∃ L', Cutting wr B g c n xs L' i (j + 1)) := HS.out rfl
        clear HK HS
        go_wp2
        go_roundw
        case rel => exact ⟨i, j + 1, rfl, by go_num, by omega, HS2, hb⟩
        case measure => simp [intOf]; omega
      · have HK2 : Hid (∃ L', Cutting (wr.setCell ⟨g, i, none⟩ (.string x)) B g c n xs L' (i + 1) (j + 1)) := HK.out rfl
        have hb2 : Below B w (wr.setCell ⟨g, i, none⟩ (.string x)) := hb.setCell hgB _
        clear HK HS
        go_wp2
        go_roundw
        case rel => exact ⟨i + 1, j + 1, by go_num, by go_num, by omega, HK2, hb2⟩
        case measure => simp [intOf]; omega
    · have hjn : j = n := by omega
      subst hjn
      have hnn : ¬ (j : Int) < (j : Int) := by omega
      have hi0 : (0 : Int) ≤ (i : Int) := by omega
      have hi1 : (i : Int) ≤ (j : Int) := by omega
      have hic : (i : Int) ≤ (c : Int) := by omega
      have hne : ¬ c = i := by omega
      have hnx : ¬ (c : Int) = (i : Int) := by omega
      have hcl : ∀ ty, (Builtin.clear_ #[22] ty #[.slice (some ⟨g, i, none⟩) (j - i) (c - i)]).run Tryz.prog wr = .ok (.tuple #[]) (wr.setCells g i (List.replicate (j - i) (.string ⟨#[]⟩))) :=
        fun ty => Lib.run_clear_slice wr _ _ ty (.string ⟨#[]⟩) Tryz.underlying22 (fun w => by kernel_rfl) rfl rfl g i _ _ (by omega) (fun t ht => by rw [HC.own.cellAt (i + t) (by omega)]; unfold strV; rw [List.getElem?_map, List.getElem?_eq_getElem (by rw [HC.len]; omega)]; rfl) (fun t ht => HC.own.frozenAt _)
      have hfin : Hid (∃ m : Nat, i = m ∧ m = (fullP xs).length ∧ StrsAt (wr.setCells g i (List.replicate (j - i) (.string ⟨#[]⟩))) (some ⟨g, 0, none⟩) (fullP xs) ∧ g < (wr.setCells g i (List.replicate (j - i) (.string ⟨#[]⟩))).heap.size ∧ Below B w (wr.setCells g i (List.replicate (j - i) (.string ⟨#[]⟩)))) := by
        have hT : xs.take j = xs := List.take_of_length_le (by rw [HN.out]; exact Nat.le_refl _)
        have hB2 := below_sets hgB (List.replicate (j - i) (.string ⟨#[]⟩)) i wr
        have hn2 := HC.num
        have hk2 := HC.kept
        rw [hT] at hn2 hk2
        have h : ∃ m : Nat, i = m ∧ m = (fullP xs).length ∧ StrsAt (wr.setCells g i (List.replicate (j - i) (.string ⟨#[]⟩))) (some ⟨g, 0, none⟩) (fullP xs) ∧ g < (wr.setCells g i (List.replicate (j - i) (.string ⟨#[]⟩))).heap.size ∧ Below B w (wr.setCells g i (List.replicate (j - i) (.string ⟨#[]⟩))) := by
          refine ⟨i, rfl, hn2, ?_, Nat.lt_of_lt_of_le hgw (Nat.le_trans hb.size hB2.size), hb.trans hB2⟩
          intro q hq
          have hqi : q < i := by rw [hn2]; exact hq
          refine ⟨g, 0, rfl, Nat.lt_of_lt_of_le hgw (Nat.le_trans hb.size hB2.size), ?_⟩
          rw [Nat.zero_add, World.cell?_setCells_out g _ i wr ⟨g, q, none⟩ (fun _ _ => .inl hqi), HC.own.cellAt q (by omega)]
          unfold strV
          have e : L[q]? = (fullP xs)[q]? := by rw [← hk2, List.getElem?_take, if_pos hqi]
          rw [List.getElem?_map, e, List.getElem?_eq_getElem hq]; rfl
        exact h
      clear HC hC
      go_wp2
      go_ret
      obtain ⟨m, rfl, h2, h3, h4, h5⟩ := hfin.out
      exact ⟨_, rfl, h2, h3, h4, h5⟩
end Go.Proofs.YtmmandkellhbeaaGreatDoor

/-
  A block of five cells that was laid, behind what came later.
-/
namespace Go.Proofs.YtmmandkellhbeaaGreatDoor
open Go.ChangeShapes Go.WideShapes Go.ChangeAt Go.RowKit

theorem box5 {w w1 : World} {a b c d e : Value} {T : TypeId} (h : Below (w.alloc (.cells #[a, b, c, d, e] T)).heap.size (w.alloc (.cells #[a, b, c, d, e] T)) w1) :
    w1.cell? ⟨w.heap.size, 0, none⟩ = some a ∧ w1.cell? ⟨w.heap.size, 1, none⟩ = some b ∧ w1.cell? ⟨w.heap.size, 2, none⟩ = some c ∧ w1.cell? ⟨w.heap.size, 3, none⟩ = some d ∧ w1.cell? ⟨w.heap.size, 4, none⟩ = some e ∧ w.heap.size < w1.heap.size := by
  have hs := h.size
  have key : ∀ o, w1.cell? ⟨w.heap.size, o, none⟩ = (w.alloc (.cells #[a, b, c, d, e] T)).cell? ⟨w.heap.size, o, none⟩ := fun o => h.cell (p := ⟨w.heap.size, o, none⟩) (by simp)
  simp only [key]
  refine ⟨?_, ?_, ?_, ?_, ?_, by simp at hs; omega⟩ <;> simp [World.cell?_alloc_at]

theorem later5 {w w' : World} {B : Nat} {a b c d e : Value} (hb : Below w.heap.size w w') (h : w.cell? ⟨B, 0, none⟩ = some a ∧ w.cell? ⟨B, 1, none⟩ = some b ∧ w.cell? ⟨B, 2, none⟩ = some c ∧ w.cell? ⟨B, 3, none⟩ = some d ∧ w.cell? ⟨B, 4, none⟩ = some e ∧ B < w.heap.size) :
    w'.cell? ⟨B, 0, none⟩ = some a ∧ w'.cell? ⟨B, 1, none⟩ = some b ∧ w'.cell? ⟨B, 2, none⟩ = some c ∧ w'.cell? ⟨B, 3, none⟩ = some d ∧ w'.cell? ⟨B, 4, none⟩ = some e ∧ B < w'.heap.size := by
  obtain ⟨h0, h1, h2, h3, h4, hB⟩ := h
  have key : ∀ o, w'.cell? ⟨B, o, none⟩ = w.cell? ⟨B, o, none⟩ := fun o => hb.cell (p := ⟨B, o, none⟩) hB
  have hs := hb.size
  exact ⟨(key _).trans h0, (key _).trans h1, (key _).trans h2, (key _).trans h3, (key _).trans h4, by omega⟩

end Go.Proofs.YtmmandkellhbeaaGreatDoor

/-
  The contracts of the program's questions on names: whether a text is one, whether all of a list are, whether no two are alike.
-/
namespace Go.Proofs.YtmmandkellhbeaaGreatDoor
open Go.ChangeShapes Go.WideShapes Go.ChangeAt Go.RowKit
attribute [local go_sem ↓] Go.wp_at_zero Go.wp_at_succ
attribute [local simp] World.cell?_alloc_past World.cell?_alloc_at World.frozen?_alloc_at cell_far cell_off cell_here World.frozen?_alloc_past

theorem nameB_short {s : ByteArray} (h : ¬ (1 : Int) ≤ (s.size : Int)) : nameB s = false := by
  have : s = ⟨#[]⟩ := by
    apply ByteArray.ext
    apply Array.eq_empty_of_size_eq_zero
    have : s.size = 0 := by omega
    exact this
  rw [this]; rfl
theorem nameB_long {s : ByteArray} (h : ¬ (s.size : Int) ≤ 6) : nameB s = false := by
  unfold nameB
  rw [decide_eq_false h, Bool.and_false, Bool.and_false]
theorem nameB_mid {s : ByteArray} (h : (1 : Int) ≤ (s.size : Int)) (h6 : (s.size : Int) ≤ 6) : nameB s = (lets s.data.toList && decide ((s.size : Int) ≤ 12)) := by
  unfold nameB
  rw [decide_eq_true h6, decide_eq_true (by omega : (s.size : Int) ≤ 12), decide_eq_true, Bool.true_and]
  intro e
  rw [e] at h
  exact absurd h (by decide)

theorem name_impl (s : ByteArray) (w : World) (hs : s.size ≤ maxLen) (b : Bool) (hb : nameB s = b) :
    Calls Tryz.prog 110 #[.string s] w fun e w' => e = .returned (.bool b) ∧ w' = w := by
  have hm := hs
  unfold maxLen at hm
  by_cases h1 : (1 : Int) ≤ (s.size : Int)
  · by_cases h6 : (s.size : Int) ≤ 6
    · rw [nameB_mid h1 h6] at hb
      have HB : Hid ((lets s.data.toList && decide ((s.size : Int) ≤ 12)) = b) := hb
      clear hb
      go_enter Tryz.func110, Tryz.ntmps110
      go_wp2_with fail
      refine (textFits_impl s _ hs).mono ?_
      rintro e w' ⟨rfl, rfl⟩
      rw [HB.out]
      go_wp2
      go_ret
      exact ⟨rfl, rfl⟩
    · rw [nameB_long h6] at hb
      subst hb
      go_enter Tryz.func110, Tryz.ntmps110
      go_wp2
      go_ret
      exact ⟨rfl, rfl⟩
  · rw [nameB_short h1] at hb
    subst hb
    go_enter Tryz.func110, Tryz.ntmps110
    go_wp2
    go_ret
    exact ⟨rfl, rfl⟩

set_option maxHeartbeats 1000000 in
theorem index_str (n : Nat) (a : Option Addr) (cap : Nat) (l : List ByteArray) (hn : l.length = n) (s : ByteArray) (w : World) (hrow : StrsAt w a l) (hm : n ≤ maxLen) :
    Calls Tryz.prog 142 #[.slice a n cap, .string s] w fun e w' => ∃ r, e = .returned (.int .i64 r) ∧ AtIs l s r ∧ Below w.heap.size w w' := by
  subst hn
  have HR : Hid (StrsAt w a l) := hrow
  clear hrow
  unfold maxLen at hm
  go_enter Tryz.func142, Tryz.ntmps142
  go_wp2
  go_loopw [8] (fun kk wr => ∃ k : Nat, k ≤ l.length ∧ kk = .int .i64 k ∧ Hid (∀ j (hj : j < l.length), j < k → l[j] ≠ s) ∧ Below w.heap.size w wr) (fun kk _ => l.length - (intOf kk).toNat)
  case atStart => exact ⟨0, Nat.zero_le _, rfl, fun j _ h => by omega, Below.refl _ _⟩
  case round =>
    obtain ⟨k, hk, rfl, hall, hbw⟩ := hrel
    by_cases hlt : k < l.length
    · obtain ⟨g, o, rfl, hgw, c0⟩ := HR.out.below hbw k hlt
      have hi0 : (0 : Int) ≤ (k : Int) := by omega
      have hi1 : (k : Int) < (l.length : Int) := by omega
      by_cases e : l[k] = s
      · have fin : Hid (AtIs l s (k : Int)) := Or.inr ⟨k, hlt, rfl, e, hall.out⟩
        have hq := txt_same e.symm
        clear e
        generalize l[k] = x at c0 hq
        go_wp2
        go_ret
        exact ⟨_, rfl, fin.out, hbw⟩
      · have hall2 : Hid (∀ j (hj : j < l.length), j < k + 1 → l[j] ≠ s) := by
          have : ∀ j (hj : j < l.length), j < k + 1 → l[j] ≠ s := by
            intro j hj hjk
            by_cases ej : j = k
            · subst ej; exact e
            · exact hall.out j hj (by omega)
          exact this
        have hq := txt_other (Ne.symm e)
        clear e
        generalize l[k] = x at c0 hq
        go_wp2
        go_roundw
        case rel => exact ⟨k + 1, by omega, by go_num, hall2, hbw⟩
        case measure => simp [intOf]; omega
    · have fin : Hid (AtIs l s (-1)) := Or.inl ⟨rfl, fun hmem => by
        obtain ⟨j, hj, e⟩ := List.getElem_of_mem hmem
        exact hall.out j hj (by omega) e⟩
      have hkl : k = l.length := by omega
      subst hkl
      have hnn : ¬ (l.length : Int) < (l.length : Int) := by omega
      go_wp2
      go_ret
      exact ⟨_, rfl, fin.out, hbw⟩

theorem contains_str (n : Nat) (a : Option Addr) (cap : Nat) (l : List ByteArray) (hn : l.length = n) (s : ByteArray) (w : World) (hrow : StrsAt w a l) (hm : n ≤ maxLen) (b : Bool) (hb : inB l s = b) :
    Calls Tryz.prog 112 #[.slice a n cap, .string s] w fun e w' => e = .returned (.bool b) ∧ Below w.heap.size w w' := by
  have HI : Hid (Calls Tryz.prog 142 #[.slice a n cap, .string s] w fun e w' => ∃ r, e = .returned (.int .i64 r) ∧ AtIs l s r ∧ Below w.heap.size w w') := index_str n a cap l hn s w hrow hm
  have HB : Hid (inB l s = b) := hb
  clear hrow hn hb
  go_enter Tryz.func112, Tryz.ntmps112
  go_wp2_with fail
  refine HI.out.mono ?_
  rintro e w1 ⟨r, rfl, hat, hb1⟩
  have HAT : Hid (AtIs l s r) := hat
  clear hat HI
  by_cases hr : 0 ≤ r
  · have e : b = true := by rw [← HB.out]; exact inB_iff.2 (HAT.out.neg.1 hr)
    subst e
    go_wp2
    go_ret
    exact ⟨by first | rfl | simp, hb1⟩
  · have e : b = false := by rw [← HB.out]; exact inB_no.2 (fun h => hr (HAT.out.neg.2 h))
    subst e
    go_wp2
    go_ret
    exact ⟨by first | rfl | (simp; done) | (simp; omega), hb1⟩

theorem nodup_snoc (l : List ByteArray) (k : Nat) (h : k < l.length) (h0 : (l.take k).Nodup) : (l.take (k + 1)).Nodup ↔ inB (l.take k) l[k] = false := by
  rw [List.take_succ_eq_append_getElem h, List.nodup_append, inB_no]
  constructor
  · rintro ⟨_, _, h4⟩ hm
    exact h4 _ hm _ (List.mem_singleton.2 rfl) rfl
  · intro hn
    exact ⟨h0, by simp, fun x hx y hy e => hn (by rw [List.mem_singleton] at hy; rw [← hy, ← e]; exact hx)⟩

set_option maxHeartbeats 2000000 in
theorem differ_impl (n : Nat) (a : Option Addr) (cap : Nat) (l : List ByteArray) (hn : l.length = n) (w : World) (hrow : StrsAt w a l) (hm : n ≤ maxLen) (hcap : n ≤ cap) (b : Bool) (hb : decide l.Nodup = b) :
    Calls Tryz.prog 87 #[.slice a n cap] w fun e w' => e = .returned (.bool b) ∧ Below w.heap.size w w' := by
  have HR : Hid (StrsAt w a l) := hrow
  have HB : Hid (decide l.Nodup = b) := hb
  have HN : Hid (l.length = n) := hn
  clear hrow hb hn
  unfold maxLen at hm
  go_enter Tryz.func87, Tryz.ntmps87
  go_wp2
  go_loopw [7] (fun kk wr => ∃ k : Nat, k ≤ n ∧ kk = .int .i64 k ∧ Hid ((l.take k).Nodup) ∧ Below w.heap.size w wr) (fun kk _ => n - (intOf kk).toNat)
  case atStart => exact ⟨0, Nat.zero_le _, rfl, List.nodup_nil, Below.refl _ _⟩
  case round =>
    obtain ⟨k, hk, rfl, hall, hbw⟩ := hrel
    by_cases hlt : k < n
    · have hlt' : k < l.length := by rw [HN.out]; exact hlt
      have HW : Hid (StrsAt wr a l) := HR.out.below hbw
      obtain ⟨g, o, rfl, hgw, c0⟩ := HW.out k hlt'
      have hi0 : (0 : Int) ≤ (k : Int) := by omega
      have hi1 : (k : Int) < (n : Int) := by omega
      have hkc : (k : Int) ≤ (cap : Int) := by omega
      have HS : Hid ((l.take (k + 1)).Nodup ↔ inB (l.take k) l[k] = false) := nodup_snoc l k hlt' hall.out
      have hno : Hid (inB (l.take k) l[k] = true → b = false) := by
        have : inB (l.take k) l[k] = true → b = false := by
          intro e
          rw [← HB.out, decide_eq_false_iff_not]
          intro h
          have := (nodup_snoc l k hlt' hall.out).1 (h.sublist (List.take_sublist _ _))
          rw [this] at e; cases e
        exact this
      have HT : Hid ((l.take k).length = k) := by
        have : (l.take k).length = k := by rw [List.length_take]; omega
        exact this
      obtain ⟨r, hr⟩ : ∃ r, inB (l.take k) l[k] = r := ⟨_, rfl⟩
      generalize l[k] = x at c0 HS hr hno
      have HRR : Hid (inB (l.take k) x = r) := hr
      clear hr
      go_wp2_with fail
      refine (contains_str k _ _ (l.take k) HT.out x _ (HW.out.take k) (by unfold maxLen; omega) r HRR.out).mono ?_
      rintro e wA ⟨rfl, hbA⟩
      cases r
      · go_wp2
        go_roundw
        case rel => exact ⟨k + 1, by omega, by go_num, HS.out.2 HRR.out, chain hbw hbA⟩
        case measure => simp [intOf]; omega
      · have e := hno.out HRR.out
        subst e
        go_wp2
        go_ret
        exact ⟨rfl, chain hbw hbA⟩
    · have hkl : k = n := by omega
      subst hkl
      have hnn : ¬ (k : Int) < (k : Int) := by omega
      have e : b = true := by
        rw [← HB.out, decide_eq_true_eq]
        have := hall.out
        rw [← HN.out, List.take_length] at this
        exact this
      subst e
      go_wp2
      go_ret
      exact ⟨rfl, hbw⟩

end Go.Proofs.YtmmandkellhbeaaGreatDoor

/-
  Package-level variables of the library in later worlds: the table of powers of ten, the two sentinels.
-/
namespace Go.Proofs.YtmmandkellhbeaaGreatDoor
open Go.ChangeShapes Go.WideShapes Go.ChangeAt Go.RowKit

theorem var_below {P : Program} {w w' : World} {name : String} {v : Array Value} (h : w.var? P name = some v) (hb : Below w.heap.size w w') : w'.var? P name = some v := by
  unfold World.var? at h ⊢
  cases hg : P.globalNamed name with
  | none => rw [hg] at h; cases h
  | some g =>
    rw [hg] at h
    have h2 : (match w.heap[g]? with | some (.cells cs _ _) => some cs | _ => none) = some v := h
    have hlt : g < w.heap.size := by
      by_cases hl : g < w.heap.size
      · exact hl
      · rw [Array.getElem?_eq_none (by omega)] at h2; cases h2
    show (match w'.heap[g]? with | some (.cells cs _ _) => some cs | _ => none) = some v
    rw [hb.block g hlt]; exact h2
/-- The table of powers of ten holds them. -/
def PowAt (w : World) : Prop := Lib.TabIs Tryz.prog w "internal/strconv.uint64pow10" .u64 Lib.pow10Tab
theorem PowAt.below {w w' : World} (h : PowAt w) (hb : Below w.heap.size w w') : PowAt w' := var_below h hb
/-- The two sentinels hold something. -/
def ErrAt (w : World) : Prop := (∃ tp p, w.var? Tryz.prog "strconv.ErrSyntax" = some #[.iface tp p]) ∧ (∃ tp p, w.var? Tryz.prog "strconv.ErrRange" = some #[.iface tp p])
theorem ErrAt.below {w w' : World} (h : ErrAt w) (hb : Below w.heap.size w w') : ErrAt w' := by
  obtain ⟨⟨a, b, h1⟩, ⟨c, d, h2⟩⟩ := h
  exact ⟨⟨a, b, var_below h1 hb⟩, ⟨c, d, var_below h2 hb⟩⟩
theorem grow_below (w : World) (os : Array Obj) : Below w.heap.size w (Sort.grow w os) :=
  ⟨rfl, rfl, rfl, by unfold Sort.grow; simp, fun k hk => by
    unfold Sort.grow
    show (w.heap ++ os)[k]? = w.heap[k]?
    rw [Array.getElem?_append_left hk]⟩

theorem format_lib (n : Int) (h0 : -9223372036854775808 ≤ n) (h1 : n ≤ 9223372036854775807) (w : World) (hp : PowAt w) :
    Calls Tryz.prog 62 #[.int .i64 n, .int .i64 10] w fun e w' => e = .returned (.string ⟨(Lib.itoa n).toArray⟩) ∧ Below w.heap.size w w' := by
  refine (Tryz.strconv_FormatInt_10 n h0 h1 w hp).mono ?_
  rintro e w' ⟨rfl, k, os, rfl⟩
  exact ⟨rfl, (belowN (Below.refl _ _) k).trans (grow_below (w.drewN k) os)⟩

end Go.Proofs.YtmmandkellhbeaaGreatDoor

/-
  The contracts of the program's texts of cells.
-/
namespace Go.Proofs.YtmmandkellhbeaaGreatDoor
open Go.ChangeShapes Go.WideShapes Go.ChangeAt Go.RowKit

theorem joined_impl (bk c : Nat) (xs : List ByteArray) (sep : ByteArray) (w : World) (hcells : ∀ (j : Nat) x, xs[j]? = some x → w.cell? ⟨bk, 0 + j, none⟩ = some (.string x)) (hbk : bk < w.heap.size) (hN : xs.length ≤ 140737488355328) (hcap : xs.length ≤ c) (hlen : (Lib.join (xs.map (·.data.toList)) sep.data.toList).length ≤ 140737488355328) (y : ByteArray) (hy : (⟨(Lib.join (xs.map (·.data.toList)) sep.data.toList).toArray⟩ : ByteArray) = y) :
    Calls Tryz.prog 37 #[.string sep, .slice (some ⟨bk, 0, none⟩) xs.length c] w fun e w' => e = .returned (.string y) ∧ Below w.heap.size w w' := by
  subst hy
  go_enter Tryz.func37, Tryz.ntmps37
  go_wp2_with fail
  refine (Tryz.strings_Join bk 0 c xs sep _ hcells hbk hN hcap hlen).mono ?_
  rintro e w1 ⟨rfl, hb⟩
  go_wp2
  go_ret
  exact ⟨rfl, hb⟩

theorem joined_none (a : Option Addr) (c : Nat) (sep : ByteArray) (w : World) :
    Calls Tryz.prog 37 #[.string sep, .slice a 0 c] w fun e w' => e = .returned (.string ⟨#[]⟩) ∧ w' = w := by
  go_enter Tryz.func37, Tryz.ntmps37
  go_wp2_with fail
  refine (Tryz.strings_Join_none a c sep _).mono ?_
  rintro e w1 ⟨rfl, rfl⟩
  go_wp2
  go_ret
  exact ⟨rfl, rfl⟩

theorem st0 (w : World) :
    Calls Tryz.prog 181 #[.iface 188 (.agg #[])] w fun e w' => e = .returned (.string ⟨wNone.toArray⟩) ∧ Below w.heap.size w w' := by
  have h1 := asserts_noneShape
  go_enter Tryz.func181, Tryz.ntmps181
  go_wp2
  go_ret
  exact ⟨rfl, by go_grown⟩
theorem st1 (n : Int) (h0 : -9223372036854775808 ≤ n) (h1 : n ≤ 9223372036854775807) (w : World) (hp : PowAt w) :
    Calls Tryz.prog 181 #[.iface 198 (.agg #[.int .i64 n])] w fun e w' => e = .returned (.string ⟨(Lib.itoa n).toArray⟩) ∧ Below w.heap.size w w' := by
  obtain ⟨a1, a2⟩ := asserts_numberShape
  have HP : Hid (PowAt w) := hp
  clear hp
  go_enter Tryz.func181, Tryz.ntmps181
  go_wp2_with fail
  refine (format_lib n h0 h1 _ (HP.out.below (by go_grown))).mono ?_
  rintro e w1 ⟨rfl, hb⟩
  go_wp2
  go_ret
  exact ⟨rfl, chainA hb⟩
theorem st3 (n : Int) (w : World) :
    Calls Tryz.prog 181 #[.iface 213 (.agg #[.int .i64 n])] w fun e w' => e = .returned (.string ⟨(if n = 1 then wYes else wNo).toArray⟩) ∧ Below w.heap.size w w' := by
  obtain ⟨a1, a2, a3, a4⟩ := asserts_truthShape
  by_cases hn : n = 1
  · subst hn
    go_enter Tryz.func181, Tryz.ntmps181
    go_wp2
    go_ret
    exact ⟨rfl, by go_grown⟩
  · rw [if_neg hn]
    go_enter Tryz.func181, Tryz.ntmps181
    go_wp2
    go_ret
    exact ⟨rfl, by go_grown⟩
theorem st3b (n : Int) (y : ByteArray) (hy : (⟨(if n = 1 then wYes else wNo).toArray⟩ : ByteArray) = y) (w : World) :
    Calls Tryz.prog 181 #[.iface 213 (.agg #[.int .i64 n])] w fun e w' => e = .returned (.string y) ∧ Below w.heap.size w w' := by
  subst hy; exact st3 n w
theorem st2 (t : ByteArray) (ht : t.size ≤ 1000) (w : World) :
    Calls Tryz.prog 181 #[.iface 194 (.agg #[.string t])] w fun e w' => e = .returned (.string ⟨(39 :: (t.data.toList ++ [39])).toArray⟩) ∧ Below w.heap.size w w' := by
  obtain ⟨a1, a2, a3⟩ := asserts_textShape
  obtain ⟨y, hy⟩ : ∃ y : ByteArray, (⟨(39 :: (t.data.toList ++ [39])).toArray⟩ : ByteArray) = y := ⟨_, rfl⟩
  rw [hy]
  go_enter Tryz.func181, Tryz.ntmps181
  go_wp2_with fail
  refine (joined_impl _ _ [⟨#[39]⟩, t, ⟨#[39]⟩] ⟨#[]⟩ _ ?_ (by simp) (by simp) (by simp) ?_ y (by rw [← hy]; simp [Lib.join_cons, Lib.joinTail])).mono ?_
  · intro j x hj
    match j, hj with
    | 0, hj => simp at hj; subst hj; simp [go_sem]
    | 1, hj => simp at hj; subst hj; simp [go_sem]
    | 2, hj => simp at hj; subst hj; simp [go_sem]
  · have hsz := Lib.size_eq t
    simp [Lib.join_cons, Lib.joinTail]
    omega
  rintro e w1 ⟨rfl, hb⟩
  go_wp2
  go_ret
  exact ⟨rfl, chainAA hb⟩

theorem ctext_impl (k n : Int) (t : ByteArray) (w : World) (ht : t.size ≤ maxLen) (hp : PowAt w) :
    Calls Tryz.prog 140 #[.agg #[.int .i64 k, .int .i64 n, .string t]] w fun e w' => e = .returned (.string (cellT k n t)) ∧ Below w.heap.size w w' := by
  have HP : Hid (PowAt w) := hp
  clear hp
  cases ho : okB k n t with
  | false =>
    rw [cellT_no ho]
    go_enter Tryz.func140, Tryz.ntmps140
    go_wp2_with fail
    refine (ok_implb _ _ _ _ ho _ ht).mono ?_
    rintro e w1 ⟨rfl, hb⟩
    go_wp2
    go_ret
    exact ⟨rfl, by first | exact hb | exact chainA hb⟩
  | true =>
    have hc : cellT k n t = ⟨(l4T k n t.data.toList).toArray⟩ := by unfold cellT; rw [if_pos ho]
    rw [hc]
    clear hc
    rcases okB_kind ho with rfl | rfl | rfl | rfl
    · go_enter Tryz.func140, Tryz.ntmps140
      go_wp2_with fail
      refine (ok_implb _ _ _ _ ho _ ht).mono ?_
      rintro e w1 ⟨rfl, hb⟩
      obtain ⟨a1, b1, c1, d1⟩ := box3 hb
      go_wp2_with fail
      refine (shape0 _ _ _).mono ?_
      rintro e w2 ⟨rfl, hb2⟩
      go_wp2_with fail
      refine (st0 _).mono ?_
      rintro e w3 ⟨rfl, hb3⟩
      go_wp2
      go_ret
      exact ⟨rfl, chain (chain (chainA hb) hb2) hb3⟩
    · have hb := numB_iff.1 (okB_1 ho).1
      go_enter Tryz.func140, Tryz.ntmps140
      go_wp2_with fail
      refine (ok_implb _ _ _ _ ho _ ht).mono ?_
      rintro e w1 ⟨rfl, hb1⟩
      obtain ⟨a1, b1, c1, d1⟩ := box3 hb1
      go_wp2_with fail
      refine (shape1 _ _ _).mono ?_
      rintro e w2 ⟨rfl, hb2⟩
      go_wp2_with fail
      refine (st1 n (by omega) (by omega) _ (HP.out.below (chain (chainA hb1) hb2))).mono ?_
      rintro e w3 ⟨rfl, hb3⟩
      go_wp2
      go_ret
      exact ⟨rfl, chain (chain (chainA hb1) hb2) hb3⟩
    · have h12 : t.size ≤ 1000 := by
        have := (okB_2 ho).2
        unfold textB at this
        rw [Bool.and_eq_true, decide_eq_true_eq] at this
        omega
      go_enter Tryz.func140, Tryz.ntmps140
      go_wp2_with fail
      refine (ok_implb _ _ _ _ ho _ ht).mono ?_
      rintro e w1 ⟨rfl, hb1⟩
      obtain ⟨a1, b1, c1, d1⟩ := box3 hb1
      go_wp2_with fail
      refine (shape2 _ _ _).mono ?_
      rintro e w2 ⟨rfl, hb2⟩
      go_wp2_with fail
      refine (st2 t h12 _).mono ?_
      rintro e w3 ⟨rfl, hb3⟩
      go_wp2
      go_ret
      exact ⟨rfl, chain (chain (chainA hb1) hb2) hb3⟩
    · obtain ⟨y, hy⟩ : ∃ y : ByteArray, (⟨(l4T 3 n t.data.toList).toArray⟩ : ByteArray) = y := ⟨_, rfl⟩
      rw [hy]
      go_enter Tryz.func140, Tryz.ntmps140
      go_wp2_with fail
      refine (ok_implb _ _ _ _ ho _ ht).mono ?_
      rintro e w1 ⟨rfl, hb1⟩
      obtain ⟨a1, b1, c1, d1⟩ := box3 hb1
      go_wp2_with fail
      refine (shape3 _ _ _).mono ?_
      rintro e w2 ⟨rfl, hb2⟩
      go_wp2_with fail
      refine (st3b n y hy _).mono ?_
      rintro e w3 ⟨rfl, hb3⟩
      go_wp2
      go_ret
      exact ⟨rfl, chain (chain (chainA hb1) hb2) hb3⟩

theorem ctext_implb (k n : Int) (t : ByteArray) (y : ByteArray) (hy : cellT k n t = y) (w : World) (ht : t.size ≤ maxLen) (hp : PowAt w) :
    Calls Tryz.prog 140 #[.agg #[.int .i64 k, .int .i64 n, .string t]] w fun e w' => e = .returned (.string y) ∧ Below w.heap.size w w' := by
  subst hy; exact ctext_impl k n t w ht hp

end Go.Proofs.YtmmandkellhbeaaGreatDoor
