/- The package bitmap: Set. -/
import Derived.Test.YtmmehomobmoapaaDoorQN
import Derived.Laws.Bits64
import Derived.Laws.Bits64b
namespace Go.Proofs.YtmmehomobmoapaaDoor
open Go.RowKit
set_option linter.unusedVariables false
set_option linter.unusedSimpArgs false
/-- The word x with its bit k as told. -/
def setW (x k : Nat) (on : Bool) : Nat := if x.testBit k = on then x else x ^^^ 2 ^ k
theorem pow_lt64 {k : Nat} (hk : k < 64) : 2 ^ k < 18446744073709551616 := by
  rw [show (18446744073709551616 : Nat) = 2 ^ 64 by decide]
  exact Nat.pow_lt_pow_right (by omega) hk
theorem setW_lt {x k : Nat} {on : Bool} (h : x < 18446744073709551616) (hk : k < 64) : setW x k on < 18446744073709551616 := by
  unfold setW
  split
  · exact h
  · rw [show (18446744073709551616 : Nat) = 2 ^ 64 by decide] at h ⊢
    exact Nat.xor_lt_two_pow h (Nat.pow_lt_pow_right (by omega) hk)
theorem setW_bit (x k : Nat) (on : Bool) (i : Nat) : (setW x k on).testBit i = if i = k then on else x.testBit i := by
  unfold setW
  by_cases h : x.testBit k = on
  · rw [if_pos h]
    by_cases e : i = k
    · subst e; rw [if_pos rfl, h]
    · rw [if_neg e]
  · rw [if_neg h, Nat.testBit_xor, Nat.testBit_two_pow]
    by_cases e : i = k
    · subst e
      rw [if_pos rfl, decide_eq_true rfl]
      cases on <;> cases hx : x.testBit i <;> simp_all
    · rw [if_neg e, decide_eq_false (fun h => e h.symm), Bool.xor_false]
theorem setW_or (x k : Nat) : x ||| 2 ^ k = setW x k true := by
  apply Nat.eq_of_testBit_eq
  intro i
  rw [setW_bit, Nat.testBit_or, Nat.testBit_two_pow]
  by_cases e : i = k
  · subst e; simp
  · rw [if_neg e, decide_eq_false (fun h => e h.symm), Bool.or_false]
theorem and_not_run (x k : Nat) (hx : x < 18446744073709551616) (hk : k < 64) : bits .andNot .u64 (x : Int) ((2 ^ k : Nat) : Int) = ((setW x k false : Nat) : Int) := by
  have hp := pow_lt64 hk
  have h1 : (BitVec.ofInt 64 (x : Int)).toNat = x := by
    rw [BitVec.ofInt_natCast, BitVec.toNat_ofNat]; exact Nat.mod_eq_of_lt (by omega)
  have h2 : BitVec.ofInt 64 ((2 ^ k : Nat) : Int) = BitVec.ofNat 64 (2 ^ k) := by rw [BitVec.ofInt_natCast]
  show IntKind.u64.wrap ((BitVec.ofInt 64 (x : Int) &&& ~~~ BitVec.ofInt 64 ((2 ^ k : Nat) : Int)).toNat : Int) = _
  have e : (BitVec.ofInt 64 (x : Int) &&& ~~~ BitVec.ofInt 64 ((2 ^ k : Nat) : Int)).toNat = setW x k false := by
    apply Nat.eq_of_testBit_eq
    intro i
    rw [BitVec.toNat_and, h1, h2, Nat.testBit_and, setW_bit, BitVec.toNat_not, BitVec.toNat_ofNat, Nat.mod_eq_of_lt (by omega), show (2 : Nat) ^ 64 - 1 - 2 ^ k = 2 ^ 64 - (2 ^ k + 1) by omega, Nat.testBit_two_pow_sub_succ (by omega), Nat.testBit_two_pow]
    by_cases e : i = k
    · subst e; simp
    · rw [if_neg e, decide_eq_false (show ¬ k = i from fun h => e h.symm)]
      by_cases hi : i < 64
      · simp [hi]
      · rw [Nat.testBit_lt_two_pow (Nat.lt_of_lt_of_le hx (by rw [show (18446744073709551616 : Nat) = 2 ^ 64 by decide]; exact Nat.pow_le_pow_right (by omega) (by omega)))]
        rfl
  have := setW_lt (on := false) hx hk
  rw [e, IntKind.wrap_u64]
  omega
def setU (x : UInt64) (k : Nat) (on : Bool) : UInt64 := UInt64.ofNat (setW x.toNat k on)
theorem setU_nat (x : UInt64) {k : Nat} (on : Bool) (hk : k < 64) : (setU x k on).toNat = setW x.toNat k on := by
  have := setW_lt (on := on) x.toNat_lt hk
  unfold setU
  rw [UInt64.toNat_ofNat']
  exact Nat.mod_eq_of_lt this
def setOk (s : Int) (L : List UInt64) (n : Int) : Bool := okB s L && decide (0 ≤ n ∧ n < s)
def setL (s : Int) (L : List UInt64) (n : Int) (on : Bool) : List UInt64 := if setOk s L n = true then L.set (n.toNat / 64) (setU (L.getD (n.toNat / 64) 0) (n.toNat % 64) on) else L
theorem setL_no {s : Int} {L : List UInt64} {n : Int} {on : Bool} (h : setOk s L n = false) : setL s L n on = L := by unfold setL; rw [if_neg (by rw [h]; simp)]
theorem setL_len (s : Int) (L : List UInt64) (n : Int) (on : Bool) : (setL s L n on).length = L.length := by
  unfold setL; split <;> simp
theorem setL_bit {s : Int} {L : List UInt64} {n : Int} {on : Bool} (h : setOk s L n = true) (i : Nat) : bitL (setL s L n on) i = if i = n.toNat then on else bitL L i := by
  unfold setL
  rw [if_pos h]
  unfold setOk at h
  simp only [Bool.and_eq_true, decide_eq_true_eq] at h
  obtain ⟨k, rfl, hk, hl, _⟩ := okB_nat h.1
  obtain ⟨m, rfl⟩ := Int.eq_ofNat_of_zero_le h.2.1
  rw [Int.toNat_natCast]
  have hm : m / 64 < L.length := by omega
  unfold bitL
  rw [List.getD_eq_getElem?_getD, List.getElem?_set]
  by_cases e : m / 64 = i / 64
  · rw [if_pos e, if_pos (by omega)]
    show (setU _ _ on).toNat.testBit _ = _
    rw [setU_nat _ _ (by omega), setW_bit]
    by_cases e2 : i = m
    · subst e2; rw [if_pos rfl, if_pos rfl]
    · rw [if_neg (by omega), if_neg e2, e]
  · rw [if_neg e, if_neg (by omega), List.getD_eq_getElem?_getD]
theorem setL_ok {s : Int} {L : List UInt64} {n : Int} {on : Bool} (h : okB s L = true) : okB s (setL s L n on) = true := by
  cases hs : setOk s L n with
  | false => rw [setL_no hs]; exact h
  | true =>
    have hb := setL_bit (on := on) hs
    obtain ⟨k, rfl, hk, hl, hc⟩ := okB_nat h
    unfold okB fitB cleanB
    rw [setL_len, Bool.and_eq_true, decide_eq_true_eq, decide_eq_true_eq]
    refine ⟨by omega, fun i h1 h2 => ?_⟩
    rw [hb, if_neg, hc i h1 (by omega)]
    unfold setOk at hs
    simp only [Bool.and_eq_true, decide_eq_true_eq] at hs
    omega
end Go.Proofs.YtmmehomobmoapaaDoor
