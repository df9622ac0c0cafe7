/- The document's messages: Get. -/
import Derived.Test.YtjmmaghjbaigiaaMhD
import Derived.Test.YtjmmaghjbaigiaaMhE
namespace Go.Proofs.Ytjmmaghjbaigiaa
open Go.RowKit
set_option linter.unusedVariables false
theorem refGetM_any (A : Option Addr) (n c : Nat) (l : List UInt8) (w : World) (hN : n ≤ 1000000) (hl : l.length = n) (hc : n ≤ c) (hr : RB w A l) :
    Calls Try.prog 21 #[.slice A n c] w fun e w' => ∃ m j z, e = .returned (.tuple #[Ms.v m, .int .i64 (j : Nat), .int .i64 (z : Nat)]) ∧ GetOfM l m j z ∧ Below w.heap.size w w' := by
  cases l with
  | nil =>
    obtain rfl : n = 0 := by rw [← hl]; rfl
    exact refGetM_nil A c w
  | cons k r => exact refGetM_cons A n c k r w hN hl hc hr
end Go.Proofs.Ytjmmaghjbaigiaa
