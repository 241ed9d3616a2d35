/- ReadVar over any slice of bytes; a row of bytes that has just been laid. -/
import Derived.Test.YtpolnhpefcmilaaNumV
import Derived.Test.YtpolnhpefcmilaaNumS
namespace Go.Proofs.Ytpolnhpefcmilaa
open Go.ChangeShapes Go.WideShapes Go.ChangeAt Go.RowKit Go.Deep
set_option linter.unusedVariables false
theorem readVar_all (L : List Int) (n : Nat) (a : Option Addr) (cap : Nat) (hn : L.length = n) (hm : n ≤ 140737488355328) (hb : IsBytes L) (w : World) (hh : Holds w a L) :
    Calls Try.prog 14 #[.slice a n cap] w fun e w' => e = rvEnd (rv L 0 0) ∧ w' = w := by
  rcases hh with rfl | ⟨b, off, rfl, hc⟩
  · simp at hn
    subst hn
    exact readVar_none a cap w
  · subst hn
    exact readVar_any L b off _ cap rfl hm hb w hc
theorem holds_laid (A : List Int) (w : World) (T : TypeId) : Holds (w.alloc (.cells (A.map (Value.int .u8)).toArray T)) (some ⟨w.heap.size, 0, none⟩) A :=
  .inr ⟨w.heap.size, 0, rfl, fun i hi => by
    simp only [Nat.zero_add]
    simp [go_sem, List.getD, List.getElem?_eq_getElem hi]⟩
end Go.Proofs.Ytpolnhpefcmilaa
