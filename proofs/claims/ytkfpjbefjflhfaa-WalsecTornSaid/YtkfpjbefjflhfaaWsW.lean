/- What comes in to the law WalsecTorn: fates. -/
import Derived.Test.YtkfpjbefjflhfaaGnQ
import Derived.Test.YtkfpjbefjflhfaaKWalsecTorn2
namespace Go.Proofs.Ytkfpjbefjflhfaa
open Go.ChangeShapes Go.WideShapes Go.ChangeAt Go.RowKit
set_option linter.unusedVariables false
theorem opensF9 : Opens Try.prog (CR.list KF) (fun l => ∀ x ∈ l, True ∧ True) 41 := by
  refine opens_list (K := KF) (Q := fun x => True ∧ True) Try.underlying41 (by kernel_rfl) ?_
  refine opens_struct (K := KF) (Q := fun x => True ∧ True) Try.underlying43 (by kernel_rfl) ?_
  refine @opensF_cons Try.prog UInt8 UInt8 CR.u8 CR.u8 (fun _ => True) (fun _ => True) _ _ 0 ?_ rfl (by kernel_rfl) ?_
  · exact opens_u8 (by kernel_rfl)
  · refine @opensF_last Try.prog UInt8 CR.u8 (fun _ => True) _ _ ?_ rfl (by kernel_rfl)
    exact opens_u8 (by kernel_rfl)
end Go.Proofs.Ytkfpjbefjflhfaa
