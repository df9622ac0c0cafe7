/- The contract of the statements' function awake: it answers true, and changes nothing that was there. -/
import Derived.Test.YtmicofjmpnfehaaCrE
namespace Go.Proofs.Ytmicofjmpnfehaa
open Go.RowKit
set_option linter.unusedVariables false

theorem shift_one (w : World) : Calls Try.prog 16 #[.int .u32 1, .int .i64 0] w fun e w' => e = .returned (.int .u32 1) ∧ w = w' :=
  shiftNat_any 1#32 0 w (by omega)
theorem seal_x (A : Option Addr) (c : Nat) (w : World) (hr : RB w A [120]) :
    Calls Try.prog 12 #[.slice A 1 c, .int .i64 12] w fun e w' => ∃ v', e = .returned (.tuple #[v', .int .i64 0]) ∧ OB w.heap.size w' v' (sealL [120] 12) ∧ Below w.heap.size w w' :=
  seal_ok A 1 c 12 [120] w rfl (by omega) (by omega) hr
theorem open_x (A : Option Addr) (c : Nat) (hc : 12 ≤ c) (w : World) (hr : RB w A (sealL [120] 12)) :
    Calls Try.prog 14 #[.slice A 12 c, .int .i64 12] w fun e w' => ∃ v', e = .returned (.tuple #[v', .int .i64 0]) ∧ OB w.heap.size w' v' [120] ∧ Below w.heap.size w w' := by
  have h := open_any A 12 c (sealL [120] 12) w (seal_len _ _ (by simp)) hc (by omega) (by omega) hr
  rw [opn_seal (by simp) (by omega)] at h
  exact h
theorem of_all (A : Option Addr) (c : Nat) (w : World) (hr : RB w A [49, 50, 51, 52, 53, 54, 55, 56, 57]) :
    Calls Try.prog 10 #[.slice A 9 c] w fun e w' => e = .returned (.int .u32 4236843288) ∧ w = w' := by
  have h := of_any A 9 c _ w rfl (by omega) hr
  rw [crc_check] at h
  exact h
theorem of_first (A : Option Addr) (c : Nat) (w : World) (hr : RB w A [49, 50, 51, 52]) :
    Calls Try.prog 10 #[.slice A 4 c] w fun e w' => e = .returned (.int .u32 (crc [49, 50, 51, 52]).toNat) ∧ w = w' :=
  of_any A 4 c _ w rfl (by omega) hr
theorem update_last (A : Option Addr) (c : Nat) (w : World) (hr : RB w A [53, 54, 55, 56, 57]) :
    Calls Try.prog 11 #[.int .u32 (crc [49, 50, 51, 52]).toNat, .slice A 5 c] w fun e w' => e = .returned (.int .u32 4236843288) ∧ w = w' := by
  have h := update_any (crc [49, 50, 51, 52]) A 5 c _ w rfl (by omega) hr
  rw [show updc (crc [49, 50, 51, 52]) [53, 54, 55, 56, 57] = 4236843288#32 from by rw [← crc_check]; exact (updc_append 0#32 [49, 50, 51, 52] [53, 54, 55, 56, 57]).symm] at h
  exact h

set_option maxRecDepth 100000 in
set_option maxHeartbeats 1600000 in
theorem awake_any (w : World) : Calls Try.prog 8 #[] w fun e w' => e = .returned (.bool true) ∧ Below w.heap.size w w' := by
  have kc := fun (w : World) (C : Array Value) (n c : Nat) => Lib.run_convert_bytes_const (P := Try.prog) w 22 5 C n c Try.underlying22 Try.underlying5
  have hu := Lib.hid (crc [49, 50, 51, 52]).isLt
  go_enter Try.func8, Try.ntmps8
  go_wp2_with fail
  refine (seal_x _ _ _ (RB.mark _ _ _ _ (by simp [cellsB, cellB]))).mono ?_
  rintro e w1 ⟨v1, rfl, ho1, hb1⟩
  have hB1 : Below w.heap.size w w1 := ((Below.refl _ _).alloc (Nat.le_refl _) _).trans (hb1.mono (by simp))
  clear hb1
  obtain ⟨A1, c1, rfl, hc1, hr1⟩ := ho1.form
  rw [show (sealL [120] 12).length = 12 from seal_len _ _ (by simp)] at hc1 ⊢
  clear ho1
  go_wp2_with fail
  refine (open_x A1 c1 hc1 _ hr1).mono ?_
  rintro e w2 ⟨v2, rfl, ho2, hb2⟩
  have hB2 : Below w.heap.size w w2 := hB1.trans (hb2.mono hB1.size)
  clear hB1 hb2 hr1 hc1
  obtain ⟨A2, c2, rfl, hc2, hr2⟩ := ho2.form
  clear ho2
  have hz2 := hB2.size
  go_wp2_with fail
  refine (of_all _ _ _ (RB.mark _ _ _ _ (by simp [cellsB, cellB]))).mono ?_
  rintro e w3 ⟨rfl, rfl⟩
  have hB3 := hB2.alloc hz2 (.cells #[.int .u8 49, .int .u8 50, .int .u8 51, .int .u8 52, .int .u8 53, .int .u8 54, .int .u8 55, .int .u8 56, .int .u8 57] 5 (9, 10))
  have hr3 := hr2.alloc (.cells #[.int .u8 49, .int .u8 50, .int .u8 51, .int .u8 52, .int .u8 53, .int .u8 54, .int .u8 55, .int .u8 56, .int .u8 57] 5 (9, 10))
  generalize w2.alloc (.cells #[.int .u8 49, .int .u8 50, .int .u8 51, .int .u8 52, .int .u8 53, .int .u8 54, .int .u8 55, .int .u8 56, .int .u8 57] 5 (9, 10)) = w3 at *
  clear hB2 hr2 hz2 hc2
  have hz3 := hB3.size
  go_wp2_with fail
  refine (of_first _ _ _ (RB.mark _ _ _ _ (by simp [cellsB, cellB]))).mono ?_
  rintro e w4 ⟨rfl, rfl⟩
  have hB4 := hB3.alloc hz3 (.cells #[.int .u8 49, .int .u8 50, .int .u8 51, .int .u8 52] 5 (4, 5))
  have hr4 := hr3.alloc (.cells #[.int .u8 49, .int .u8 50, .int .u8 51, .int .u8 52] 5 (4, 5))
  generalize w3.alloc (.cells #[.int .u8 49, .int .u8 50, .int .u8 51, .int .u8 52] 5 (4, 5)) = w4 at *
  clear hB3 hr3 hz3
  have hz4 := hB4.size
  have HU := Lib.hid (fun A c w hr => update_last A c w hr)
  generalize crc [49, 50, 51, 52] = u4 at *
  go_wp2_with fail
  refine (HU.out _ _ _ (RB.mark _ _ _ _ (by simp [cellsB, cellB]))).mono ?_
  rintro e w5 ⟨rfl, rfl⟩
  have hB5 := hB4.alloc hz4 (.cells #[.int .u8 53, .int .u8 54, .int .u8 55, .int .u8 56, .int .u8 57] 5 (5, 6))
  have hr5 := hr4.alloc (.cells #[.int .u8 53, .int .u8 54, .int .u8 55, .int .u8 56, .int .u8 57] 5 (5, 6))
  generalize w4.alloc (.cells #[.int .u8 53, .int .u8 54, .int .u8 55, .int .u8 56, .int .u8 57] 5 (5, 6)) = w5 at *
  clear hB4 hr4 hz4 HU
  have hcv := run_str w5 A2 1 c2 [120] rfl hr5
  rw [show str [120] = ⟨#[120]⟩ from rfl] at hcv
  go_wp2_with (go_at_call 16; refine (shift_one _).mono ?_; rintro e w6 ⟨rfl, rfl⟩)
  go_ret
  exact ⟨rfl, hB5⟩
end Go.Proofs.Ytmicofjmpnfehaa
