/- Texts in the model; strings.Cut at one stroke. -/
import Derived.Test.YtokakhlkanakcaaTrlM
import Derived.Test.YtokakhlkanakcaaBase
import Derived.WalkSpells
import Derived.WalkLawsBesides
import Derived.Outline
import Derived.LoopTactic
import Derived.Deep.LoopGhost
import Derived.Deep.OwnRows
import Derived.Lib.Bytealg
import Derived.Laws.StandIn
import Derived.Laws.Strings3
import Derived.Deep.QuietTactic
import Derived.BigQuiet
namespace Go.Proofs.Ytokakhlkanakcaa
open Go.ChangeShapes Go.WideShapes Go.ChangeAt Go.RowKit Go.Deep
set_option linter.unusedVariables false
/-- a text of these bytes -/
def tx (L : Tx) : ByteArray := ⟨L.toArray⟩
theorem tx_size (L : Tx) : (tx L).size = L.length := by simp [tx, ByteArray.size]
theorem tx_data (L : Tx) : (tx L).data.toList = L := by simp [tx]
theorem tx_toList (L : Tx) : (tx L).toList = L := by rw [ByteArray.toList_eq, tx_data]
theorem tx_mk (S : ByteArray) : S = tx S.data.toList := by simp [tx]
theorem tx_extract (L : Tx) (a b : Nat) : (tx L).extract a b = tx ((L.drop a).take (b - a)) := ByteArray.extract_mk L a b
theorem tx_append (A B : Tx) : tx A ++ tx B = tx (A ++ B) := by
  apply ByteArray.ext
  rw [ByteArray.data_append]
  simp [tx]
theorem tx_inj {A B : Tx} (h : tx A = tx B) : A = B := by rw [← tx_data A, h, tx_data]
theorem tx_eq (A B : Tx) : ((tx A).toList == (tx B).toList) = decide (A = B) := by
  rw [tx_toList, tx_toList, Bool.eq_iff_iff, beq_iff_eq, decide_eq_true_iff]
theorem bytesLess_lt (A B : Tx) : Op.bytesLess A B = ltB A B := by
  induction A generalizing B with
  | nil => cases B <;> rfl
  | cons a A ih => cases B with
    | nil => rfl
    | cons b B =>
      simp only [Op.bytesLess, ltB, ih]
      by_cases e : a = b
      · subst e
        simp
      · rw [if_neg e, Bool.eq_iff_iff]
        simp only [Bool.or_eq_true, decide_eq_true_eq, Bool.and_eq_true, beq_iff_eq, e, false_and, or_false]
        exact UInt8.lt_iff_toNat_lt
/-- what stands ahead of the first stroke, and behind it -/
def cutAz (L : Tx) : Tx := L.takeWhile (· != 47)
def cutBz (L : Tx) : Tx := (L.dropWhile (· != 47)).tail
def cutFz (L : Tx) : Bool := L.contains 47
end Go.Proofs.Ytokakhlkanakcaa
