/- The package sector: Fork. -/
import Derived.Test.YtochifbbefbehaaScP
namespace Go.Proofs.Ytochifbbefbehaa
open Go.RowKit Go.Shelf
set_option linter.unusedVariables false
end Go.Proofs.Ytochifbbefbehaa
