/- Records in sectors: the document's Parts and Pack. -/
import Derived.Test.YtochifbbefbehaaWsL
namespace Go.Proofs.Ytochifbbefbehaa
open Go.RowKit
set_option linter.unusedVariables false
set_option linter.unusedSimpArgs false
theorem wsParts_any (A : Option Addr) (n c : Nat) (L : List (List UInt8)) (w : World) (hl : L.length = n) (hn : n ≤ 1000) (hs : ∀ t ∈ L, t.length ≤ 1000) (hr : RS w A L) :
    Calls Try.prog 19 #[.slice A n c] w fun x w' => x = .returned (.int .i64 ((grp L).length : Int)) ∧ Below w.heap.size w w' := by
  have KG := Lib.hid (groups_any A n c L w hl hn hs hr)
  clear hl hr hs
  go_enter Try.func19, Try.ntmps19
  go_wp2_with (go_at_call 36; refine KG.out.mono ?_; rintro x w1 ⟨v, rfl, o, b⟩; obtain ⟨A1, c1, rfl, _, _, _, _⟩ := o.rg; (have B1 := Lib.hid b); clear o b)
  go_ret
  exact ⟨rfl, B1.out⟩
end Go.Proofs.Ytochifbbefbehaa
