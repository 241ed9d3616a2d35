/- A slice of pieces that came in: bytes, and two flags, opened at every index. -/
import Derived.Test.YtlngnhkadbjgbaaDoorShaP
import Derived.Test.YtlngnhkadbjgbaaDoorShaL
import Derived.Deep.Slices
import Derived.ChangeSame
namespace Go.Proofs.YtlngnhkadbjgbaaDoor
open Go.ChangeShapes Go.WideShapes Go.ChangeAt Go.RowKit Go.Deep
set_option linter.unusedVariables false
/-- pieces that came in: where each one's bytes lie, what they are, the two flags -/
def InP (w : World) (a : Option Addr) (len : Nat) (V : Nat → Option Addr × Nat × Nat) (M : Nat → List Int) (lk fk : Nat → Bool) : Prop :=
  (0 < len → ∃ b off, a = some ⟨b, off, none⟩ ∧ b < w.heap.size ∧ ∀ i, i < len → w.cell? ⟨b, off + i * 3, none⟩ = some (.slice (V i).1 (V i).2.1 (V i).2.2) ∧ w.cell? ⟨b, off + i * 3 + 1, none⟩ = some (.bool (lk i)) ∧ w.cell? ⟨b, off + i * 3 + 2, none⟩ = some (.bool (fk i))) ∧
  ∀ i, i < len → Holds w (V i).1 (M i) ∧ (M i).length = (V i).2.1 ∧ IsBytes (M i) ∧ ((V i).1 = none → (V i).2.2 = 0) ∧ (∀ x, (V i).1 = some x → M i ≠ [] → x.block < w.heap.size) ∧ (V i).2.1 ≤ (V i).2.2 ∧ (V i).2.2 ≤ 9223372036854775807
theorem cellsP : Tryd.prog.cellsOf 32 = 3 := by kernel_rfl
theorem cellsS : Tryd.prog.cellsOf 22 = 1 := by kernel_rfl
theorem cellsB : Tryd.prog.cellsOf 4 = 1 := by kernel_rfl
end Go.Proofs.YtlngnhkadbjgbaaDoor
