/- Contracts of the functions that make steps of a register. -/
import Derived.Test.YtidnpokjaklfpaaWords
import Derived.Test.YtidnpokjaklfpaaCrPlain
import Derived.Laws.BitsAllLaws
namespace Go.Proofs.Ytidnpokjaklfpaa
open Go.RowKit
set_option linter.unusedVariables false

theorem xor_reg (a b : BitVec 32) : bits .xor .u32 (a.toNat : Int) (b.toNat : Int) = ((a ^^^ b).toNat : Int) := by
  rw [u32_xor_nat _ _ a.isLt b.isLt, BitVec.toNat_xor]

theorem shl_reg (x : BitVec 32) : (x <<< 1).toNat = x.toNat * 2 % 4294967296 := by rw [BitVec.toNat_shiftLeft, Nat.shiftLeft_eq]
theorem msb_reg (x : BitVec 32) : x.msb = decide (2147483648 ≤ x.toNat) := by rw [BitVec.msb_eq_decide]
theorem stp_low {x : BitVec 32} (h : x.toNat < 2147483648) : (stp x).toNat = x.toNat * 2 := by
  unfold stp
  rw [msb_reg, decide_eq_false (by omega)]
  simp only [Bool.false_eq_true, if_false, BitVec.xor_zero]
  rw [shl_reg]
  omega
theorem stp_high {x : BitVec 32} (h : ¬ x.toNat < 2147483648) : bits .xor .u32 ((x.toNat : Int) * 2 % 4294967296) 79764919 = ((stp x).toNat : Int) := by
  have e : (x.toNat : Int) * (2 : Int) % (4294967296 : Int) = ((x <<< 1).toNat : Int) := by rw [shl_reg]; omega
  rw [e]
  have e2 : (79764919 : Int) = ((79764919#32).toNat : Int) := rfl
  rw [e2, xor_reg]
  unfold stp
  rw [msb_reg, decide_eq_true (by omega), if_pos rfl]
theorem stp_both (x : BitVec 32) : bits .xor .u32 ((x.toNat : Int) * 2 % 4294967296) ((x.toNat : Int) / 2147483648 * 79764919) = ((stp x).toNat : Int) := by
  have h0 : x.toNat < 4294967296 := x.isLt
  by_cases h : x.toNat < 2147483648
  · rw [show (x.toNat : Int) / 2147483648 * 79764919 = ((0#32).toNat : Int) by simp; omega]
    rw [show (x.toNat : Int) * (2 : Int) % (4294967296 : Int) = ((x <<< 1).toNat : Int) by rw [shl_reg]; omega, xor_reg, BitVec.xor_zero, stp_low h, shl_reg]
    omega
  · rw [show (x.toNat : Int) / 2147483648 * 79764919 = 79764919 by omega]
    exact stp_high h

set_option maxRecDepth 100000 in
set_option maxHeartbeats 400000 in
theorem refStep_any (r : BitVec 32) (w : World) :
    Calls Try.prog 82 #[.int .u32 r.toNat] w fun e w' => e = .returned (.int .u32 (stp r).toNat) ∧ w = w' := by
  have h0 : r.toNat < 4294967296 := r.isLt
  obtain ⟨z, hz⟩ : ∃ z : Int, z = (r.toNat : Int) := ⟨_, rfl⟩
  rw [← hz]
  have HZ := Lib.hid hz
  have h1 : 0 ≤ z := by omega
  have h2 : z < 4294967296 := by omega
  clear h0 hz
  by_cases h : z < 2147483648
  · go_enter Try.func82, Try.ntmps82
    go_wp2
    go_ret
    refine ⟨?_, rfl⟩
    have e := HZ.out
    subst e
    rw [stp_low (by omega)]
    show Ending.returned (.int .u32 ((r.toNat : Int) * 2)) = _
    simp
  · go_enter Try.func82, Try.ntmps82
    go_wp2
    go_ret
    refine ⟨?_, rfl⟩
    have e := HZ.out
    subst e
    rw [← stp_high (by omega)]
    rfl

set_option maxHeartbeats 400000 in
theorem stepByte_any (r : BitVec 32) (w : World) :
    Calls Try.prog 94 #[.int .u32 r.toNat] w fun e w' => e = .returned (.int .u32 (stn 8 r).toNat) ∧ w = w' := by
  go_enter Try.func94, Try.ntmps94
  go_wp2
  go_loop [0, 3] (fun t i => ∃ k : Nat, k ≤ 8 ∧ i = .int .i64 k ∧ t = .int .u32 ((stn k r).toNat : Nat)) (fun _ i => 8 - (intOf i).toNat)
  case atStart => exact ⟨0, Nat.zero_le _, rfl, rfl⟩
  case round =>
    obtain ⟨k, hk, rfl, rfl⟩ := hrel
    have HS : Hid (stn (k + 1) r = stp (stn k r)) := rfl
    have h0 : (stn k r).toNat < 4294967296 := (stn k r).isLt
    generalize hx : stn k r = x at *
    have HX := Lib.hid hx
    clear hx
    by_cases hlt : k < 8
    · go_wp2
      go_round
      case rel =>
        refine ⟨k + 1, by omega, by go_num, ?_⟩
        rw [HS.out]
        rw [stp_both]
      case measure => simp [intOf]; omega
    · go_wp2
      go_ret
      obtain rfl : k = 8 := by omega
      rw [HX.out]
      exact ⟨rfl, rfl⟩

theorem top8_toNat (x : UInt8) : (top8 x).toNat = x.toNat * 16777216 := by
  have := x.toNat_lt
  simp [top8]
  omega
theorem xor_top (r : BitVec 32) (x : UInt8) : bits .xor .u32 (r.toNat : Int) ((x.toNat : Int) * 16777216) = ((r ^^^ top8 x).toNat : Int) := by
  rw [show (x.toNat : Int) * (16777216 : Int) = ((top8 x).toNat : Int) by rw [top8_toNat]; omega, xor_reg]

theorem not_reg (s : BitVec 32) : bits .xor .u32 IntKind.u32.max (s.toNat : Int) = ((~~~ s).toNat : Int) := by
  rw [show IntKind.u32.max = ((BitVec.allOnes 32).toNat : Int) from rfl, xor_reg]
  congr 2
theorem not_reg' (s : BitVec 32) : bits .xor .u32 (s.toNat : Int) 4294967295 = ((~~~ s).toNat : Int) := by
  rw [show (4294967295 : Int) = ((BitVec.allOnes 32).toNat : Int) from rfl, xor_reg, BitVec.xor_comm]
  congr 2

set_option maxHeartbeats 400000 in
theorem update_any (s : BitVec 32) (A : Option Addr) (n c : Nat) (l : List UInt8) (w : World) (hl : l.length = n) (hn : n ≤ 70368744177664) (hr : RB w A l) :
    Calls Try.prog 81 #[.int .u32 s.toNat, .slice A n c] w fun e w' => e = .returned (.int .u32 (updc s l).toNat) ∧ w = w' := by
  have HL := Lib.hid hl
  clear hl
  have h0 : s.toNat < 4294967296 := s.isLt
  go_enter Try.func81, Try.ntmps81
  go_wp2
  go_loop [5, 11] (fun t i => ∃ k : Nat, k ≤ n ∧ i = .int .i64 k ∧ t = .int .u32 ((upd (~~~ s) (l.take k)).toNat : Nat)) (fun _ i => n - (intOf i).toNat)
  case atStart =>
    refine ⟨0, Nat.zero_le _, rfl, ?_⟩
    rw [not_reg]
    rfl
  case round =>
    obtain ⟨k, hk, rfl, rfl⟩ := hrel
    by_cases hlt : k < n
    · obtain ⟨ad, x, rfl, hx, hc⟩ := hr.at_ (k := k) (by rw [HL.out]; exact hlt)
      have HS := Lib.hid (show upd (~~~ s) (l.take (k + 1)) = stn 8 (upd (~~~ s) (l.take k) ^^^ top8 x) from by rw [take_snoc hx, upd_snoc])
      have hx8 : x.toNat < 256 := x.toNat_lt
      clear hx
      generalize hu : upd (~~~ s) (l.take k) = u at *
      clear hu
      have HX := Lib.hid (xor_top u x)
      generalize u ^^^ top8 x = v at *
      go_wp2_with fail
      rw [HX.out]
      refine (stepByte_any _ _).mono ?_
      rintro e w' ⟨rfl, rfl⟩
      go_wp2
      go_round
      case rel => exact ⟨k + 1, by omega, by go_num, by rw [HS.out]⟩
      case measure => simp [intOf]; omega
    · go_wp2
      go_ret
      refine ⟨?_, rfl⟩
      rw [List.take_of_length_le (by rw [HL.out]; omega)]
      show Ending.returned (.int .u32 (bits .xor .u32 IntKind.u32.max ((upd (~~~ s) l).toNat : Int))) = _
      rw [not_reg]
      rfl

theorem update0_any (A : Option Addr) (n c : Nat) (l : List UInt8) (w : World) (hl : l.length = n) (hn : n ≤ 70368744177664) (hr : RB w A l) :
    Calls Try.prog 81 #[.int .u32 0, .slice A n c] w fun e w' => e = .returned (.int .u32 (crc l).toNat) ∧ w = w' :=
  update_any 0#32 A n c l w hl hn hr

theorem of_any (A : Option Addr) (n c : Nat) (l : List UInt8) (w : World) (hl : l.length = n) (hn : n ≤ 70368744177664) (hr : RB w A l) :
    Calls Try.prog 74 #[.slice A n c] w fun e w' => e = .returned (.int .u32 (crc l).toNat) ∧ w = w' := by
  have HL := Lib.hid hl
  clear hl
  go_enter Try.func74, Try.ntmps74
  go_wp2_with fail
  refine (update0_any A n c l w HL.out hn hr).mono ?_
  rintro e w' ⟨rfl, rfl⟩
  go_wp2
  go_ret
  exact ⟨rfl, rfl⟩

set_option maxHeartbeats 400000 in
theorem refOf_any (A : Option Addr) (n c : Nat) (l : List UInt8) (w : World) (hl : l.length = n) (hn : n ≤ 70368744177664) (hr : RB w A l) :
    Calls Try.prog 77 #[.slice A n c] w fun e w' => e = .returned (.int .u32 (crc l).toNat) ∧ w = w' := by
  have HL := Lib.hid hl
  clear hl
  go_enter Try.func77, Try.ntmps77
  go_wp2
  go_loop [3, 4] (fun t i => ∃ k : Nat, k ≤ n ∧ i = .int .i64 k ∧ t = .int .u32 ((upd (~~~ 0#32) (l.take k)).toNat : Nat)) (fun _ i => n - (intOf i).toNat)
  case atStart => exact ⟨0, Nat.zero_le _, rfl, rfl⟩
  case round =>
    obtain ⟨k, hk, rfl, rfl⟩ := hrel
    by_cases hlt : k < n
    · obtain ⟨ad, x, rfl, hx, hc⟩ := hr.at_ (k := k) (by rw [HL.out]; exact hlt)
      have HS := Lib.hid (show upd (~~~ 0#32) (l.take (k + 1)) = stn 8 (upd (~~~ 0#32) (l.take k) ^^^ top8 x) from by rw [take_snoc hx, upd_snoc])
      have hx8 : x.toNat < 256 := x.toNat_lt
      clear hx
      generalize hu : upd (~~~ 0#32) (l.take k) = u at *
      clear hu
      have HX := Lib.hid (xor_top u x)
      generalize u ^^^ top8 x = v at *
      go_wp2
      rw [HX.out]
      go_loop [3, 5] (fun t i => ∃ j : Nat, j ≤ 8 ∧ i = .int .i64 j ∧ t = .int .u32 ((stn j v).toNat : Nat)) (fun _ i => 8 - (intOf i).toNat)
      case atStart => exact ⟨0, Nat.zero_le _, rfl, rfl⟩
      case round =>
        obtain ⟨j, hj, rfl, rfl⟩ := hrel
        have HT : Hid (stn (j + 1) v = stp (stn j v)) := rfl
        generalize hy : stn j v = y at *
        have HY := Lib.hid hy
        clear hy
        by_cases hlj : j < 8
        · go_wp2_with fail
          refine (refStep_any _ _).mono ?_
          rintro e w' ⟨rfl, rfl⟩
          go_wp2
          go_round
          case rel => exact ⟨j + 1, by omega, by go_num, by rw [HT.out]⟩
          case measure => simp [intOf]; omega
        · go_wp2
          go_round
          case rel =>
            obtain rfl : j = 8 := by omega
            exact ⟨k + 1, by omega, by go_num, by rw [HS.out, HY.out]⟩
          case measure => simp [intOf]; omega
    · go_wp2
      go_ret
      refine ⟨?_, rfl⟩
      rw [List.take_of_length_le (by rw [HL.out]; omega)]
      show Ending.returned (.int .u32 (bits .xor .u32 ((upd (~~~ 0#32) l).toNat : Int) 4294967295)) = _
      rw [not_reg']
      rfl

end Go.Proofs.Ytidnpokjaklfpaa
