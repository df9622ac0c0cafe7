/- What comes in: texts, rows of bytes, fates. -/
import Derived.Test.YtchfpgdioclajaaGnP
import Derived.Test.YtchfpgdioclajaaGnB
import Derived.Test.YtchfpgdioclajaaGnS
namespace Go.Proofs.Ytchfpgdioclajaa
open Go.ChangeShapes Go.WideShapes Go.ChangeAt Go.RowKit
set_option linter.unusedVariables false
theorem opensB : Opens Try.prog KB (fun l => ∀ x ∈ l, True) 40 := opens_list Try.underlying40 (by kernel_rfl) (opens_u8 Try.underlying5)
theorem opensSs : Opens Try.prog (CR.list CR.str) (fun l => ∀ x ∈ l, x.length ≤ maxLen) 91 := opens_list Try.underlying91 (by kernel_rfl) (opens_str Try.underlying9)
end Go.Proofs.Ytchfpgdioclajaa
