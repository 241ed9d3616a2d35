/- Entries held against each other; the document's Same, Size; the law's own. -/
import Derived.Test.YtbefmcagpmgkiabDoorLayC
import Derived.Laws.StructEq
namespace Go.Proofs.YtbefmcagpmgkiabDoor
open Go.ChangeShapes Go.WideShapes Go.ChangeAt Go.RowKit Go.Deep
set_option linter.unusedVariables false
theorem en_eq (x y : En) : (x = y) ↔ (x.p = y.p ∧ x.k = y.k ∧ x.m = y.m ∧ x.b = y.b) := by
  obtain ⟨p, k, m, b⟩ := x
  obtain ⟨p', k', m', b'⟩ := y
  simp [En.p, En.k, En.m, En.b]
theorem equal_entry (d : Nat) (x y : En) (w : World) : (Op.equalIn (d + 2) 31 (ag x) (ag y)).run Tryd.prog w = .ok (decide (x = y)) w := by
  unfold ag
  rw [run_equalIn_struct w (d + 1) 31 _ _ (by simp [Program.fieldsOf, Tryd.underlying31]) (by kernel_rfl)]
  have e1 := tx_eq x.p y.p
  have e4 := tx_eq x.b y.b
  have ex : decide (x = y) = (decide (x.p = y.p) && (decide (x.k = y.k) && (decide (x.m = y.m) && decide (x.b = y.b)))) := by
    rw [Bool.eq_iff_iff]
    simp [en_eq]
  rw [ex]
  simp only [Program.fieldsOf, Tryd.underlying31, Op.eqFields]
  simp [part, isAgg, run_underlying Tryd.underlying9, run_underlying Tryd.underlying3, run_equalIn_string w d 9 _ _ Tryd.underlying9, run_equalIn_int w d 3 .i64 .i64 _ _ Tryd.underlying3, e1, e4]
  by_cases h1 : x.p = y.p <;> by_cases h2 : x.k = y.k <;> by_cases h3 : x.m = y.m <;> by_cases h4 : x.b = y.b <;> simp [h1, h2, h3, h4]
theorem neq_entry (x y : En) (w : World) : (binOp .neq 31 (ag x) (ag y)).run Tryd.prog w = .ok (.bool (!decide (x = y))) w := by
  have e : (Op.equal 31 (ag x) (ag y)).run Tryd.prog w = .ok (decide (x = y)) w := equal_entry 9998 x y w
  unfold ag at e ⊢
  simp [binOp, e]
theorem guardE : Tryd.prog.eqGuardType Tryd.prog.depth 31 = false := by kernel_rfl
end Go.Proofs.YtbefmcagpmgkiabDoor
