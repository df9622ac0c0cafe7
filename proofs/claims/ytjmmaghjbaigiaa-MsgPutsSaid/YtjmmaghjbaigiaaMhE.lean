/- The document's messages: Get, of no bytes too. -/
import Derived.Test.YtjmmaghjbaigiaaMhC
import Derived.Test.YtjmmaghjbaigiaaMgG
namespace Go.Proofs.Ytjmmaghjbaigiaa
open Go.RowKit
set_option linter.unusedVariables false
set_option linter.unusedSimpArgs false
set_option maxHeartbeats 1000000 in
set_option maxRecDepth 100000 in
theorem refGetM_nil (A : Option Addr) (c : Nat) (w : World) :
    Calls Try.prog 21 #[.slice A 0 c] w fun e w' => ∃ m j z, e = .returned (.tuple #[Ms.v m, .int .i64 (j : Nat), .int .i64 (z : Nat)]) ∧ GetOfM [] m j z ∧ Below w.heap.size w w' := by
  have HO : Hid (GetOfM [] ms0 0 4) := Lib.hid (GetOfM.no [] ms0 (fun x R h1 h2 => by unfold putM layM at h2; simp at h2) (fun h => by obtain ⟨_, R, h2⟩ := h; unfold putM layM at h2; simp at h2))
  have HB := Lib.hid (below1 w (.cells #[.int .u8 0, .string ⟨#[]⟩, .int .i64 0, .int .i64 0, .bool false, .string ⟨#[]⟩] 40))
  have P0 := Lib.hid (MsBox.new w ms0 40)
  unfold ms0 at P0
  dsimp only at P0
  go_enter Try.func21, Try.ntmps21
  go_wp2
  refine bodyPost_ret (v := .tuple #[.agg #[.int .u8 0, .string ⟨#[]⟩, .int .i64 0, .int .i64 0, .bool false, .string ⟨#[]⟩], .int .i64 0, .int .i64 4]) (by simp [results, Try.results21, go_sem]) rfl ⟨ms0, 0, 4, rfl, HO.out, HB.out⟩
end Go.Proofs.Ytjmmaghjbaigiaa
