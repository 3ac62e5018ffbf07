/-
  The text of quick steps (no program).
-/
import Derived.Test.YtmhamgcjmehnnaaDoorFastL
import Derived.Test.YtmhamgcjmehnnaaDoorRowS
import Derived.Test.YtmhamgcjmehnnaaDoorStrs1
namespace Go.Proofs.YtmhamgcjmehnnaaDoor

def I64 (n : Int) : Prop := -9223372036854775808 ≤ n ∧ n ≤ 9223372036854775807
def RngO (O : List FO) : Prop := ∀ o ∈ O, I64 o.1 ∧ I64 o.2.1 ∧ I64 o.2.2.1 ∧ I64 o.2.2.2
def RngU (U : List FU) : Prop := ∀ u ∈ U, I64 u.1 ∧ I64 u.2.1
def itF (n : Int) : ByteArray := ⟨(Lib.itoa n).toArray⟩
def spF : ByteArray := ⟨#[32]⟩
def wordsF : List ByteArray := [⟨#[99, 111, 108, 117, 109, 110]⟩, ⟨#[110, 117, 109, 98, 101, 114]⟩, ⟨#[112, 108, 117, 115]⟩, ⟨#[108, 101, 115, 115]⟩, ⟨#[116, 105, 109, 101, 115]⟩, ⟨#[98, 121]⟩, ⟨#[115, 97, 109, 101]⟩, ⟨#[98, 101, 108, 111, 119]⟩, ⟨#[98, 111, 116, 104]⟩, ⟨#[101, 105, 116, 104, 101, 114]⟩, ⟨#[110, 111, 116]⟩, ⟨#[116, 101, 115, 116]⟩]
def wordF (k : Int) : ByteArray := wordsF.getD (k - 1).toNat ⟨#[]⟩
def cellF : ByteArray := ⟨#[99, 101, 108, 108, 32]⟩
def truthF : ByteArray := ⟨#[116, 114, 117, 116, 104, 32]⟩
def outF : ByteArray := ⟨#[111, 117, 116, 32]⟩
/-- The text of a step. -/
def opTx (o : FO) : ByteArray :=
  if o.1 = 12 then wordF o.1 ++ spF ++ itF o.2.2.1
  else if 3 ≤ o.1 ∧ o.1 ≤ 10 then wordF o.1 ++ spF ++ itF o.2.1 ++ spF ++ itF o.2.2.1 ++ spF ++ itF o.2.2.2
  else wordF o.1 ++ spF ++ itF o.2.1 ++ spF ++ itF o.2.2.1
def outTx (u : FU) : ByteArray := if u.2.1 < 0 then cellF ++ itF u.1 else if u.2.2 = true then truthF ++ itF u.2.1 else outF ++ itF u.2.1
def kindsB (O : List FO) : Bool := O.all fun o => decide (1 ≤ o.1) && decide (o.1 ≤ 12)
def showF (O : List FO) (U : List FU) : ByteArray := if kindsB O = true then ⟨(Lib.join (rawT (O.map opTx ++ U.map outTx)) [59, 32]).toArray⟩ else ⟨#[]⟩
theorem wordF_size (k : Int) : (wordF k).size ≤ 6 := by
  unfold wordF
  by_cases h : (k - 1).toNat < wordsF.length
  · rw [List.getD_eq_getElem?_getD, List.getElem?_eq_getElem h]
    have : ∀ x ∈ wordsF, x.size ≤ 6 := by decide
    exact this _ (List.getElem_mem h)
  · rw [List.getD_eq_getElem?_getD, List.getElem?_eq_none (by omega)]
    decide
end Go.Proofs.YtmhamgcjmehnnaaDoor
