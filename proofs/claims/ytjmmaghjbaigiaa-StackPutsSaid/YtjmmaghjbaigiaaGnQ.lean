/- What comes in: texts, rows of bytes, fates. -/
import Derived.Test.YtjmmaghjbaigiaaGnP
import Derived.Test.YtjmmaghjbaigiaaGnB
import Derived.Test.YtjmmaghjbaigiaaGnS
namespace Go.Proofs.Ytjmmaghjbaigiaa
open Go.ChangeShapes Go.WideShapes Go.ChangeAt Go.RowKit
set_option linter.unusedVariables false
theorem opensB : Opens Try.prog KB (fun l => ∀ x ∈ l, True) 25 := opens_list Try.underlying25 (by kernel_rfl) (opens_u8 Try.underlying5)
theorem opensSs : Opens Try.prog (CR.list CR.str) (fun l => ∀ x ∈ l, x.length ≤ maxLen) 85 := opens_list Try.underlying85 (by kernel_rfl) (opens_str Try.underlying9)
end Go.Proofs.Ytjmmaghjbaigiaa
