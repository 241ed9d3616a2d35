/- The walk of ShaSums. -/
import Derived.Test.YtlngnhkadbjgbaaDoorShaS
import Derived.Test.YtlngnhkadbjgbaaDoorShaSS
namespace Go.Proofs.YtlngnhkadbjgbaaDoor
open Go.ChangeShapes Go.WideShapes Go.ChangeAt Go.RowKit Go.Deep
set_option linter.unusedVariables false
theorem shaSums_walk (a : Option Addr) (len cap : Nat) (zs : List Int) (w : World) (w0 : IsRow .u8 w a len cap zs) (hk : KIs w) :
    Calls Tryd.prog 3 #[.slice a len cap] w fun e w' => e = .returned (.bool true) ∧ Below w.heap.size w w' :=
  shaSums_walk0 (fun L a n cap w h1 h2 h3 h4 h5 h6 h7 => rsum_is L a n cap w h1 h2 (Nat.le_trans h3 h4) h5 h6 h7) a len cap zs w w0 hk
end Go.Proofs.YtlngnhkadbjgbaaDoor
