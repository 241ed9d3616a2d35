/- The document's Size of a manifest. -/
import Derived.Test.YtlddoobomjcldaaDoorManU
namespace Go.Proofs.YtlddoobomjcldaaDoor
open Go.ChangeShapes Go.WideShapes Go.ChangeAt Go.RowKit Go.Deep Go.Maps
set_option linter.unusedVariables false
end Go.Proofs.YtlddoobomjcldaaDoor
