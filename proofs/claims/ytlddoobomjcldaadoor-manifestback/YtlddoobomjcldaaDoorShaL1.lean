/- From the condition on the listed tables to what the walks ask of the numbers k (the table k stands second on the list). -/
import Derived.Test.YtlddoobomjcldaaDoorShaE
import Derived.Test.YtlddoobomjcldaaDoorCards
import Derived.Test.YtlddoobomjcldaaDoorTie
import Derived.ProofKit
import Derived.LaidMore
import Derived.OpenShut
import Derived.Stop.Joined
import Derived.Stop.LaidErr
import Derived.Lib.LaidTab
import Derived.MakeChecks
import Derived.SevenTiedAt
namespace Go.Proofs.YtlddoobomjcldaaDoor
open Go.ChangeShapes Go.WideShapes Go.ChangeAt Go.RowKit Go.Deep
set_option linter.unusedVariables false
theorem gK : Tryd.prog.globalNamed "veneer/sha.k" = some 0 := by kernel_rfl
theorem gKType : (Tryd.prog.globals[0]?).map (·.type) = some 129 := by kernel_rfl
theorem cellsK : Tryd.prog.cellsOf 129 = 64 := by kernel_rfl
theorem cells32 : Tryd.prog.cellsOf 76 = 1 := by kernel_rfl
theorem datumK : (Rows.laid_veneer_sha_k : DataW Unit) = Lib.tabData .u32 (kT.map fun x : Nat => (x : Int)) := by kernel_rfl
abbrev laid3 : List (String × DataW Unit) := [("unicode/utf8.acceptRanges", Rows.laid_unicode_utf8_acceptRanges), ("veneer/sha.k", Rows.laid_veneer_sha_k), ("unicode/utf8.first", Rows.laid_unicode_utf8_first)]
theorem k_of_laid {W : World} (h : laidMetH Tryd.prog laid3 W) : KIs W := by
  rw [MakeChecks.laidMetH_plain _ _ _ (by kernel_rfl)] at h
  have h2 := h.tail
  rw [datumK] at h2
  have hT := Lib.tabIs_of_head gK gKType Tryd.underlying129 Tryd.underlying76 cells32 cellsK h2
  intro i hi
  have hl : i < (kT.map fun x : Nat => (x : Int)).length := by
    have : (kT.map fun x : Nat => (x : Int)).length = 64 := by decide
    omega
  rw [hT.cell gK i hl]
  have hk : i < kT.length := by simpa using hl
  simp [List.getD, List.getElem?_eq_getElem hk]
end Go.Proofs.YtlddoobomjcldaaDoor
