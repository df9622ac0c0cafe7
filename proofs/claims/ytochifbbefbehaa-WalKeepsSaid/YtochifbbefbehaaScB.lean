/- The package sector: what tells why nothing can be done, and the looks. -/
import Derived.Test.YtochifbbefbehaaScA
import Derived.BigQuiet
namespace Go.Proofs.Ytochifbbefbehaa
open Go.RowKit
set_option linter.unusedVariables false

/-- Why nothing can be done with a disk. -/
def Dk.fault (s : Dk) : Nat := if s.off then 8 else 0
def Dk.faultAt (s : Dk) (n : Int) : Nat := if s.off then 8 else if n < 0 ∨ (s.rows.length : Int) ≤ n then 9 else 0

set_option maxHeartbeats 400000 in
theorem fault_nil (w : World) : Calls Try.prog 29 #[.pointer none] w fun e w' => e = .returned (.int .i64 1) ∧ w = w' := by
  go_enter Try.func29, Try.ntmps29
  go_wp2
  go_ret
  exact ⟨rfl, rfl⟩
set_option maxHeartbeats 400000 in
theorem fault_any {base : Nat} {F : Ft} {w : World} {s : Dk} (h : DkAt base F w s) : Calls Try.prog 29 #[.pointer (some ⟨F.b, 0, none⟩)] w fun e w' => e = .returned (.int .i64 (s.fault : Int)) ∧ w = w' := by
  have c3 := h.c3
  cases ho : s.off
  all_goals
    have HF := Lib.hid (show s.fault = _ from by unfold Dk.fault; rw [ho])
    rw [ho] at c3
    clear ho h
    go_enter Try.func29, Try.ntmps29
    go_wp2
    go_ret
    exact ⟨by rw [HF.out]; rfl, rfl⟩
set_option maxHeartbeats 400000 in
theorem faultAt_nil (n : Int) (w : World) : Calls Try.prog 53 #[.pointer none, .int .i64 n] w fun e w' => e = .returned (.int .i64 1) ∧ w = w' := by
  go_enter Try.func53, Try.ntmps53
  go_wp2_with (go_at_call 29; refine (fault_nil _).mono ?_; rintro e w' ⟨rfl, rfl⟩)
  go_ret
  exact ⟨rfl, rfl⟩
set_option maxHeartbeats 400000 in
theorem faultAt_any {base : Nat} {F : Ft} {w : World} {s : Dk} (h : DkAt base F w s) (n : Int) : Calls Try.prog 53 #[.pointer (some ⟨F.b, 0, none⟩), .int .i64 n] w fun e w' => e = .returned (.int .i64 (s.faultAt n : Int)) ∧ w = w' := by
  have c0 := h.c0
  have hf := fault_any h
  have hm := h.ok.many
  generalize hR : s.rows.length = N at c0 hm
  by_cases ho : s.off = true
  · have HF := Lib.hid (show s.faultAt n = 8 from by unfold Dk.faultAt; rw [if_pos ho])
    rw [show s.fault = 8 from by unfold Dk.fault; rw [if_pos ho]] at hf
    clear ho h hR
    have Hf := Lib.hid hf
    clear hf
    go_enter Try.func53, Try.ntmps53
    go_wp2_with (go_at_call 29; refine Hf.out.mono ?_; rintro e w' ⟨rfl, rfl⟩)
    go_ret
    exact ⟨by rw [HF.out]; rfl, rfl⟩
  · rw [show s.fault = 0 from by unfold Dk.fault; rw [if_neg ho]] at hf
    have Hf := Lib.hid hf
    clear hf
    have HF := Lib.hid (show s.faultAt n = if n < 0 ∨ (N : Int) ≤ n then 9 else 0 from by unfold Dk.faultAt; rw [if_neg ho, hR])
    clear ho h hR
    by_cases h1 : n < 0
    · rw [if_pos (.inl h1)] at HF
      go_enter Try.func53, Try.ntmps53
      go_wp2_with (go_at_call 29; refine Hf.out.mono ?_; rintro e w' ⟨rfl, rfl⟩)
      go_ret
      exact ⟨by rw [HF.out]; rfl, rfl⟩
    · have h1' : 0 ≤ n := by omega
      by_cases h2 : (N : Int) ≤ n
      · rw [if_pos (.inr h2)] at HF
        go_enter Try.func53, Try.ntmps53
        go_wp2_with (go_at_call 29; refine Hf.out.mono ?_; rintro e w' ⟨rfl, rfl⟩)
        go_ret
        exact ⟨by rw [HF.out]; rfl, rfl⟩
      · rw [if_neg (by omega)] at HF
        have h2' : n < (N : Int) := by omega
        clear h1 h2
        go_enter Try.func53, Try.ntmps53
        go_wp2_with (go_at_call 29; refine Hf.out.mono ?_; rintro e w' ⟨rfl, rfl⟩)
        go_ret
        exact ⟨by rw [HF.out]; rfl, rfl⟩
set_option maxHeartbeats 400000 in
theorem size_any {base : Nat} {F : Ft} {w : World} {s : Dk} (h : DkAt base F w s) : Calls Try.prog 38 #[.pointer (some ⟨F.b, 0, none⟩)] w fun e w' => e = .returned (.int .i64 (s.rows.length : Int)) ∧ w = w' := by
  have c0 := h.c0
  have hm := h.ok.many
  clear h
  generalize s.rows.length = N at *
  go_enter Try.func38, Try.ntmps38
  go_wp2
  go_ret
  exact ⟨rfl, rfl⟩
set_option maxHeartbeats 400000 in
theorem off_any {base : Nat} {F : Ft} {w : World} {s : Dk} (h : DkAt base F w s) : Calls Try.prog 15 #[.pointer (some ⟨F.b, 0, none⟩)] w fun e w' => e = .returned (.bool s.off) ∧ w = w' := by
  have c3 := h.c3
  clear h
  go_enter Try.func15, Try.ntmps15
  go_wp2
  go_ret
  exact ⟨rfl, rfl⟩
end Go.Proofs.Ytochifbbefbehaa
