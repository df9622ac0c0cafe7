/- What comes in: texts, rows of bytes, fates. -/
import Derived.Test.YtochifbbefbehaaGnP
import Derived.Test.YtochifbbefbehaaGnB
import Derived.Test.YtochifbbefbehaaGnS
namespace Go.Proofs.Ytochifbbefbehaa
open Go.ChangeShapes Go.WideShapes Go.ChangeAt Go.RowKit
set_option linter.unusedVariables false
theorem opensB : Opens Try.prog KB (fun l => ∀ x ∈ l, True) 32 := opens_list Try.underlying32 (by kernel_rfl) (opens_u8 Try.underlying5)
theorem opensBB : Opens Try.prog (CR.list KB) (fun l => ∀ x ∈ l, ∀ y ∈ x, True) 59 := opens_list Try.underlying59 (by kernel_rfl) opensB
theorem opensSs : Opens Try.prog (CR.list CR.str) (fun l => ∀ x ∈ l, x.length ≤ maxLen) 31 := opens_list Try.underlying31 (by kernel_rfl) (opens_str Try.underlying9)
end Go.Proofs.Ytochifbbefbehaa
