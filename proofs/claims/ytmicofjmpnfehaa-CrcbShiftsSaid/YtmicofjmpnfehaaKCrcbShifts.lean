/- The walk of the law CrcbShifts out of the contracts. -/
import Derived.Test.YtmicofjmpnfehaaCrG
namespace Go.Proofs.Ytmicofjmpnfehaa.crcbShifts
open Go.RowKit
set_option linter.unusedVariables false

set_option maxHeartbeats 800000 in
theorem core (s : BitVec 32) (n : Int) (w : World) (hlo : -9223372036854775808 ≤ n) (hhi : n ≤ 9223372036854775807) :
    Calls Try.prog 5 #[.int .u32 s.toNat, .int .i64 n] w fun e w' => e = .returned (.bool true) ∧ Below w.heap.size w w' := by
  by_cases h1 : 2000 < n
  · go_enter Try.func5, Try.ntmps5
    go_wp2_with (go_at_call 8; refine (awake_any _).mono ?_; rintro e w1 ⟨rfl, hb1⟩)
    go_ret
    exact ⟨rfl, hb1⟩
  by_cases h2 : n < 0
  · go_enter Try.func5, Try.ntmps5
    go_wp2_with fail
    refine (shiftNeg_any s n _ hlo h2).mono ?_
    rintro e w' ⟨rfl, rfl⟩
    go_wp2_with fail
    refine (refShiftNeg_any s n _ hlo h2).mono ?_
    rintro e w' ⟨rfl, rfl⟩
    go_wp2_with (go_at_call 8; refine (awake_any _).mono ?_; rintro e w1 ⟨rfl, hb1⟩)
    go_ret
    exact ⟨rfl, hb1⟩
  obtain ⟨k, rfl⟩ : ∃ k : Nat, n = (k : Int) := ⟨n.toNat, by omega⟩
  have hk : k ≤ 2000 := by omega
  have h3 : (k : Int) ≤ 2000 := by omega
  clear h1 h2 hlo hhi
  go_enter Try.func5, Try.ntmps5
  go_wp2_with fail
  refine (shiftNat_any s k _ hk).mono ?_
  rintro e w' ⟨rfl, rfl⟩
  have HR := Lib.hid (refShiftNat_any s k w hk)
  generalize stn (8 * k) s = u at *
  go_wp2_with fail
  refine HR.out.mono ?_
  rintro e w' ⟨rfl, rfl⟩
  go_wp2_with (go_at_call 8; refine (awake_any _).mono ?_; rintro e w1 ⟨rfl, hb1⟩)
  go_ret
  exact ⟨rfl, hb1⟩
end Go.Proofs.Ytmicofjmpnfehaa.crcbShifts
