/- What comes in: texts, rows of bytes, fates. -/
import Derived.Test.YtkfpjbefjflhfaaGnP
import Derived.Test.YtkfpjbefjflhfaaGnB
import Derived.Test.YtkfpjbefjflhfaaGnS
namespace Go.Proofs.Ytkfpjbefjflhfaa
open Go.ChangeShapes Go.WideShapes Go.ChangeAt Go.RowKit
set_option linter.unusedVariables false
theorem opensB : Opens Try.prog KB (fun l => ∀ x ∈ l, True) 34 := opens_list Try.underlying34 (by kernel_rfl) (opens_u8 Try.underlying5)
theorem opensBB : Opens Try.prog (CR.list KB) (fun l => ∀ x ∈ l, ∀ y ∈ x, True) 25 := opens_list Try.underlying25 (by kernel_rfl) opensB
theorem opensSs : Opens Try.prog (CR.list CR.str) (fun l => ∀ x ∈ l, x.length ≤ maxLen) 22 := opens_list Try.underlying22 (by kernel_rfl) (opens_str Try.underlying9)
end Go.Proofs.Ytkfpjbefjflhfaa
