/- Contracts of the functions that lay numbers as bytes. -/
import Derived.Test.YtgjahlknefobeaaPlain
import Derived.Test.YtgjahlknefobeaaW1
namespace Go.Proofs.Ytgjahlknefobeaa
open Go.RowKit
set_option linter.unusedVariables false

set_option maxHeartbeats 400000 in
theorem width_any (n : Nat) (w : World) (hn : n < 18446744073709551616) :
    Calls Try.prog 37 #[.int .u64 n] w fun e w' => e = .returned (.int .i64 (wid n : Nat)) ∧ w = w' := by
  have h8 := wid_le8 n hn
  go_enter Try.func37, Try.ntmps37
  go_wp2
  go_loop [0, 3] (fun t i => ∃ m j : Nat, m < 18446744073709551616 ∧ t = .int .u64 m ∧ i = .int .i64 j ∧ wid n = wid m + j) (fun t _ => (intOf t).toNat)
  case atStart => exact ⟨n, 0, hn, rfl, rfl, rfl⟩
  case round =>
    obtain ⟨m, j, hm, rfl, rfl, hw⟩ := hrel
    have HW := Lib.hid hw
    have hj : j ≤ 8 := by omega
    clear hw
    by_cases h0 : 0 < m
    · have HP := Lib.hid (wid_pos h0)
      go_wp2
      go_round
      case rel => exact ⟨m / 256, j + 1, by omega, by go_num, by go_num, by rw [HW.out, HP.out]; omega⟩
      case measure => simp [intOf]; omega
    · go_wp2
      go_ret
      refine ⟨?_, rfl⟩
      obtain rfl : m = 0 := by omega
      rw [HW.out, wid_zero]
      simp

theorem byte_high (n k j : Nat) : (n : Int) / 2 ^ (8 * (k - 1 - j)) % 256 = ((UInt8.ofNat (n / 256 ^ (k - 1 - j))).toNat : Int) := by
  rw [ofNat_toNat, show (256 : Nat) = 2 ^ 8 from rfl, ← Nat.pow_mul]
  simp

set_option maxHeartbeats 400000 in
theorem appendHigh_any (v : Value) (n k : Nat) (l : List UInt8) (w : World) (base : Nat) (hn : n < 18446744073709551616) (hk : k ≤ 8) (hl : l.length ≤ 8) (hbase : base ≤ w.heap.size) (ho : OB base w v l) :
    Calls Try.prog 35 #[v, .int .u64 n, .int .i64 k] w fun e w' => ∃ v', e = .returned v' ∧ OB base w' v' (l ++ hi k n) ∧ Below base w w' := by
  go_enter Try.func35, Try.ntmps35
  go_wp2
  go_loopw [0, 9] (fun t i wr => ∃ j : Nat, j ≤ k ∧ i = .int .i64 j ∧ OB base wr t (l ++ (hi k n).take j) ∧ Below base w wr) (fun _ i _ => k - (intOf i).toNat)
  case atStart => exact ⟨0, Nat.zero_le _, rfl, by simpa using ho, Below.refl _ _⟩
  case round =>
    obtain ⟨j, hj, rfl, hown, hbel⟩ := hrel
    by_cases hlt : j < k
    · have hlen : (l ++ (hi k n).take j).length ≤ 16 := by simp [hi_len]; omega
      have HT := Lib.hid (hi_take k n j hlt)
      have hbs : base ≤ wr.heap.size := Nat.le_trans hbase hbel.size
      go_wp2_with (at_builtin; refine wpList_append_B rfl (.tmp 12) (.tmp 21) rfl base _ (l ++ (hi k n).take j) rfl (hown.alloc _) _ 1 _ [UInt8.ofNat (n / 256 ^ (k - 1 - j))] rfl rfl (RB.one _ _ _ (byte_high n k j)) (by omega) (by simp; omega) ?_; intro v1 w1 hown1 hb1)
      go_roundw
      case rel =>
        refine ⟨j + 1, by omega, by go_num, by rw [HT.out, ← List.append_assoc]; exact hown1, (hbel.alloc hbs _).trans hb1⟩
      case measure => simp [intOf]; omega
    · go_wp2
      go_ret
      refine ⟨_, rfl, ?_, hbel⟩
      rw [List.take_of_length_le (by rw [hi_len]; omega)] at hown
      exact hown

theorem byte_low (n i : Nat) : (n : Int) % 256 = ((UInt8.ofNat n).toNat : Int) := by
  rw [ofNat_toNat]
  simp

set_option maxHeartbeats 400000 in
theorem high_any (n k : Nat) (w : World) (hn : n < 18446744073709551616) (hk : k ≤ 8) :
    Calls Try.prog 36 #[.int .u64 n, .int .i64 k] w fun e w' => ∃ v', e = .returned v' ∧ OB w.heap.size w' v' (hi k n) ∧ Below w.heap.size w w' := by
  go_enter Try.func36, Try.ntmps36
  go_wp2
  go_loopw [0, 5, 6] (fun t u i wr => ∃ j : Nat, j ≤ k ∧ i = .int .i64 j ∧ t = .int .u64 (n / 256 ^ j : Nat) ∧ OB w.heap.size wr u (hi j n) ∧ Below w.heap.size w wr) (fun _ _ i _ => k - (intOf i).toNat)
  case atStart => exact ⟨0, Nat.zero_le _, rfl, by simp, OB.nil, Below.refl _ _⟩
  case round =>
    obtain ⟨j, hj, rfl, rfl, hown, hbel⟩ := hrel
    have hm : n / 256 ^ j < 18446744073709551616 := Nat.lt_of_le_of_lt (Nat.div_le_self _ _) hn
    have HM := Lib.hid (show n / 256 ^ (j + 1) = n / 256 ^ j / 256 from by rw [Nat.pow_succ, Nat.div_div_eq_div_mul])
    have HH : Hid (hi (j + 1) n = UInt8.ofNat (n / 256 ^ j) :: hi j n) := rfl
    generalize n / 256 ^ j = m at *
    by_cases hlt : j < k
    · have hlen := hi_len j n
      have HL := Lib.hid hlen
      obtain ⟨A, c, rfl, hc, hr⟩ := hown.form
      clear hlen
      have hbs : w.heap.size ≤ wr.heap.size := hbel.size
      go_wp2_with (at_builtin; refine wpList_append_B rfl (.tmp 19) (.tmp 20) rfl w.heap.size _ [UInt8.ofNat m] rfl (OB.lit _ _ [UInt8.ofNat m] _ (by simp [cellsB, cellB]) hbs (by simp [maxLen])) _ _ _ (hi j n) rfl rfl (hr.alloc _) (by rw [HL.out]; simp; omega) (by simp; omega) ?_; intro v1 w1 hown1 hb1)
      go_roundw
      case rel =>
        refine ⟨j + 1, by omega, by go_num, by rw [HM.out]; go_num, by rw [HH.out]; exact hown1, (hbel.alloc hbs _).trans hb1⟩
      case measure => simp [intOf]; omega
    · go_wp2
      go_ret
      obtain rfl : j = k := by omega
      exact ⟨_, rfl, hown, hbel⟩

end Go.Proofs.Ytgjahlknefobeaa
