/- The walk of ShaPieces. -/
import Derived.Test.YtlngnhkadbjgbaaDoorShaS
import Derived.Test.YtlngnhkadbjgbaaDoorShaPO
namespace Go.Proofs.YtlngnhkadbjgbaaDoor
open Go.ChangeShapes Go.WideShapes Go.ChangeAt Go.RowKit Go.Deep
set_option linter.unusedVariables false
theorem shaPieces_walk (a : Option Addr) (len cap : Nat) (V : Nat → Option Addr × Nat × Nat) (M : Nat → List Int) (lk fk : Nat → Bool) (w : World) (w0 : InP w a len V M lk fk) (hl62 : len ≤ 4611686018427387904) (hk : KIs w)
    (hup : ∀ j, j ≤ len → (catM M j).length ≤ 1048576) :
    Calls Tryd.prog 4 #[.slice a len cap] w fun e w' => e = .returned (.bool true) ∧ Below w.heap.size w w' :=
  shaPieces_walk0 (fun L a n cap w h1 h2 h3 h4 h5 h6 => rsum_is L a n cap w h1 h2 h3 h4 h5 h6) a len cap V M lk fk w w0 hl62 hk hup
end Go.Proofs.YtlngnhkadbjgbaaDoor
