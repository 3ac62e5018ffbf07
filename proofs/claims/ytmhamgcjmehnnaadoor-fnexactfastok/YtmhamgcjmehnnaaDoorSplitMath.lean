/-
  Pieces of a text between the blanks, without any program: byte by byte, and as the library's own word has it.
-/
import Derived.Lib.SplitLaws
import Derived.Lib.Join
namespace Go.Proofs.YtmhamgcjmehnnaaDoor

/-- The pieces between the signs c; cur: what stands of the first one. -/
def cutAt (c : UInt8) (cur : List UInt8) : List UInt8 → List (List UInt8)
  | [] => [cur]
  | b :: l => if b = c then cur :: cutAt c [] l else cutAt c (cur ++ [b]) l
def onHead (cur : List UInt8) : List (List UInt8) → List (List UInt8)
  | [] => [cur]
  | p :: ps => (cur ++ p) :: ps
theorem onHead_cons (cur p : List UInt8) (ps : List (List UInt8)) : onHead cur (p :: ps) = (cur ++ p) :: ps := rfl
theorem index_cons_ne (b c : UInt8) (l : List UInt8) (h : b ≠ c) : Lib.index (b :: l) [c] = if Lib.index l [c] == -1 then -1 else Lib.index l [c] + 1 := by
  rw [Lib.index, if_neg]
  intro e
  simp at e
  exact h e.symm
theorem index_cons_eq (c : UInt8) (l : List UInt8) : Lib.index (c :: l) [c] = 0 := by
  rw [Lib.index, if_pos (by simp)]
theorem splitK_ne (c : UInt8) : ∀ (k : Nat) (b : UInt8) (l : List UInt8), b ≠ c → Lib.splitK [c] 0 k (b :: l) = onHead [b] (Lib.splitK [c] 0 k l)
  | 0, b, l, h => rfl
  | k + 1, b, l, h => by
    rw [Lib.splitK, Lib.splitK, index_cons_ne b c l h]
    by_cases hi : (Lib.index l [c] == -1) = true
    · rw [if_pos hi, if_pos (by decide), if_pos hi]; rfl
    · rw [if_neg hi, if_neg hi]
      have hg := Lib.index_ge l [c]
      have hne : Lib.index l [c] ≠ -1 := fun e => hi (by rw [e]; decide)
      obtain ⟨i, e⟩ : ∃ i : Nat, Lib.index l [c] = i := ⟨(Lib.index l [c]).toNat, by omega⟩
      rw [e, if_neg (by simp; omega)]
      have e1 : ((i : Int) + 1).toNat = i + 1 := by omega
      have e2 : ((i : Int)).toNat = i := by omega
      rw [e1, e2]
      simp [onHead, List.take_succ_cons, List.drop_succ_cons]
theorem splitK_eq (c : UInt8) (k : Nat) (l : List UInt8) : Lib.splitK [c] 0 (k + 1) (c :: l) = [] :: Lib.splitK [c] 0 k l := by
  rw [Lib.splitK, index_cons_eq, if_neg (by decide)]
  simp
theorem splitK_ne_nil (c : UInt8) (k : Nat) (l : List UInt8) : Lib.splitK [c] 0 k l ≠ [] := by
  cases k with
  | zero => simp [Lib.splitK]
  | succ k => rw [Lib.splitK]; split <;> simp
theorem cutAt_split (c : UInt8) (l : List UInt8) : ∀ cur, cutAt c cur l = onHead cur (Lib.splitK [c] 0 (Lib.count l [c]) l) := by
  induction l with
  | nil => intro cur; simp [cutAt, Lib.count, Lib.countFrom, Lib.index, Lib.splitK, onHead]
  | cons b l ih =>
    intro cur
    by_cases h : b = c
    · subst h
      rw [Lib.count_cons_eq, Nat.add_comm, splitK_eq, cutAt, if_pos rfl, ih [], onHead_cons, List.append_nil]
      cases hS : Lib.splitK [b] 0 (Lib.count l [b]) l with
      | nil => exact absurd hS (splitK_ne_nil _ _ _)
      | cons p ps => rfl
    · rw [Lib.count_cons_ne b c l h, splitK_ne c _ b l h, cutAt, if_neg h, ih]
      cases hS : Lib.splitK [c] 0 (Lib.count l [c]) l with
      | nil => exact absurd hS (splitK_ne_nil _ _ _)
      | cons p ps => simp [onHead]
/-- All pieces of a text. -/
def pieces (l : List UInt8) : List (List UInt8) := cutAt 32 [] l
theorem pieces_split (s : ByteArray) : (Lib.splitB ⟨#[32]⟩ 0 (Lib.countB s ⟨#[32]⟩) s).map (·.data.toList) = pieces s.data.toList := by
  rw [Lib.splitB_data]
  unfold pieces
  rw [cutAt_split]
  show Lib.splitK [32] 0 (Lib.count s.data.toList [32]) s.data.toList = _
  cases hS : Lib.splitK [32] 0 (Lib.count s.data.toList [32]) s.data.toList with
  | nil => exact absurd hS (splitK_ne_nil _ _ _)
  | cons p ps => rfl
theorem cutAt_length (c : UInt8) (l : List UInt8) : ∀ cur, (cutAt c cur l).length ≤ l.length + 1 := by
  induction l with
  | nil => intro cur; simp [cutAt]
  | cons b l ih =>
    intro cur
    rw [cutAt]
    split
    · have := ih []; simp only [List.length_cons]; omega
    · have := ih (cur ++ [b]); simp only [List.length_cons]; omega
/-- No piece is longer than the text. -/
theorem cutAt_each (c : UInt8) (l : List UInt8) : ∀ cur, ∀ p ∈ cutAt c cur l, p.length ≤ cur.length + l.length := by
  induction l with
  | nil => intro cur p hp; simp [cutAt] at hp; subst hp; simp
  | cons b l ih =>
    intro cur p hp
    rw [cutAt] at hp
    split at hp
    · rcases List.mem_cons.1 hp with rfl | h
      · omega
      · have := ih [] p h; simp at this ⊢; omega
    · have := ih _ p hp; simp at this ⊢; omega
/-- What has no sign c within joined by c is cut there again. -/
theorem cutAt_free (c : UInt8) (x : List UInt8) (h : c ∉ x) : ∀ (cur l : List UInt8), cutAt c cur (x ++ l) = cutAt c (cur ++ x) l := by
  induction x with
  | nil => intro cur l; simp
  | cons b x ih =>
    intro cur l
    have hb : b ≠ c := fun e => h (by simp [e])
    rw [List.cons_append, cutAt, if_neg hb, ih (fun e => h (by simp [e]))]
    simp
theorem pieces_join (xs : List (List UInt8)) (hx : xs ≠ []) (h : ∀ x ∈ xs, (32 : UInt8) ∉ x) : pieces (Lib.join xs [32]) = xs := by
  have key : ∀ (xs : List (List UInt8)) (x : List UInt8), (32 : UInt8) ∉ x → (∀ y ∈ xs, (32 : UInt8) ∉ y) → cutAt 32 [] (x ++ Lib.joinTail [32] xs) = x :: xs := by
    intro xs
    induction xs with
    | nil => intro x hx _; rw [cutAt_free _ _ hx]; simp [Lib.joinTail, cutAt]
    | cons y ys ih =>
      intro x hx hys
      rw [cutAt_free _ _ hx]
      have e : Lib.joinTail [32] (y :: ys) = 32 :: (y ++ Lib.joinTail [32] ys) := by simp [Lib.joinTail]
      rw [e, cutAt, if_pos rfl, ih y (hys y (by simp)) (fun z hz => hys z (by simp [hz]))]
      simp
  cases xs with
  | nil => exact absurd rfl hx
  | cons x xs =>
    rw [Lib.join_cons]
    exact key xs x (h x (by simp)) (fun y hy => h y (by simp [hy]))
theorem cutAt_ne_nil (c : UInt8) (cur l : List UInt8) : cutAt c cur l ≠ [] := by
  induction l generalizing cur with
  | nil => simp [cutAt]
  | cons b l ih => rw [cutAt]; split; · simp
                   · exact ih _
theorem join_cutAt (l : List UInt8) : ∀ cur, Lib.join (cutAt 32 cur l) [32] = cur ++ l := by
  induction l with
  | nil => intro cur; rw [cutAt, Lib.join_one, List.append_nil]
  | cons b l ih =>
    intro cur
    rw [cutAt]
    split
    · rename_i h
      subst h
      have := ih []
      cases hD : cutAt 32 [] l with
      | nil => exact absurd hD (cutAt_ne_nil _ _ _)
      | cons p ps =>
        rw [hD, Lib.join_cons] at this
        rw [Lib.join_cons]
        have e : Lib.joinTail [32] (p :: ps) = 32 :: (p ++ Lib.joinTail [32] ps) := by simp [Lib.joinTail]
        rw [e, this]
        simp
    · rw [ih]; simp
/-- The pieces, joined again, are the text. -/
theorem join_pieces (l : List UInt8) : Lib.join (pieces l) [32] = l := by
  have := join_cutAt l []
  simpa [pieces] using this
theorem pieces_ne_nil (l : List UInt8) : pieces l ≠ [] := cutAt_ne_nil _ _ _
end Go.Proofs.YtmhamgcjmehnnaaDoor
