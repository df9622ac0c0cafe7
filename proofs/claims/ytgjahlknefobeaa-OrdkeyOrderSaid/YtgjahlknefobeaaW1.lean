/- Contracts of the functions that make numbers of bytes. -/
import Derived.Test.YtgjahlknefobeaaBase
import Derived.Laws.BitsAllLaws
namespace Go.Proofs.Ytgjahlknefobeaa
open Go.RowKit

theorem or_join (a x : Nat) (ha : a < 72057594037927936) (hx : x < 256) : bits .or .u64 ((a : Int) * 256) (x : Int) = ((a * 256 + x : Nat) : Int) := by
  have h := u64_or_nat (a * 256) x (by omega) (by omega)
  have e : a * 256 ||| x = a * 256 + x := by
    have := Nat.shiftLeft_add_eq_or_of_lt (i := 8) (b := x) (by omega) a
    rw [Nat.shiftLeft_eq, show (2 : Nat) ^ 8 = 256 from rfl] at this
    omega
  rw [← e, ← h]
  congr 1

set_option maxHeartbeats 400000 in
theorem low_any (A : Option Addr) (n c : Nat) (l : List UInt8) (w : World) (hl : l.length = n) (h8 : n ≤ 8) (hr : RB w A l) :
    Calls Try.prog 34 #[.slice A n c] w fun e w' => e = .returned (.int .u64 (be l : Nat)) ∧ w = w' := by
  have HL := Lib.hid hl
  clear hl
  go_enter Try.func34, Try.ntmps34
  go_wp2
  go_loop [3, 4] (fun t i => ∃ k : Nat, k ≤ n ∧ i = .int .i64 k ∧ t = .int .u64 (be (l.take k) : Nat)) (fun _ i => n - (intOf i).toNat)
  case atStart => exact ⟨0, Nat.zero_le _, rfl, rfl⟩
  case round =>
    obtain ⟨k, hk, rfl, rfl⟩ := hrel
    by_cases hlt : k < n
    · obtain ⟨ad, x, rfl, hx, hc⟩ := hr.at_ (k := k) (by rw [HL.out]; exact hlt)
      have hb := be_le7 (l.take k) (by have := List.length_take_le k l; omega)
      have hs : be (l.take (k + 1)) = be (l.take k) * 256 + x.toNat := by rw [take_snoc hx, be_snoc]
      have hx8 : x.toNat < 256 := x.toNat_lt
      have HS := Lib.hid hs
      clear hs hx
      go_wp2
      go_round
      case rel => exact ⟨k + 1, by omega, by go_num, by rw [HS.out]; go_num⟩
      case measure => simp [intOf]; omega
    · go_wp2
      go_ret
      refine ⟨?_, rfl⟩
      rw [List.take_of_length_le (by rw [HL.out]; omega)]
      rfl

set_option maxHeartbeats 400000 in
theorem joinHigh_any (A : Option Addr) (n c : Nat) (l : List UInt8) (w : World) (hl : l.length = n) (h8 : n ≤ 8) (hr : RB w A l) :
    Calls Try.prog 33 #[.slice A n c] w fun e w' => e = .returned (.int .u64 (be l : Nat)) ∧ w = w' := by
  have HL := Lib.hid hl
  clear hl
  go_enter Try.func33, Try.ntmps33
  go_wp2
  go_loop [3, 7] (fun t i => ∃ k : Nat, k ≤ n ∧ i = .int .i64 k ∧ t = .int .u64 (be (l.take k) : Nat)) (fun _ i => n - (intOf i).toNat)
  case atStart => exact ⟨0, Nat.zero_le _, rfl, rfl⟩
  case round =>
    obtain ⟨k, hk, rfl, rfl⟩ := hrel
    by_cases hlt : k < n
    · obtain ⟨ad, x, rfl, hx, hc⟩ := hr.at_ (k := k) (by rw [HL.out]; exact hlt)
      have hb := be_le7 (l.take k) (by have := List.length_take_le k l; omega)
      have hs : be (l.take (k + 1)) = be (l.take k) * 256 + x.toNat := by rw [take_snoc hx, be_snoc]
      have hx8 : x.toNat < 256 := x.toNat_lt
      have HS := Lib.hid hs
      clear hs hx
      go_wp2
      go_round
      case rel => exact ⟨k + 1, by omega, by go_num, by rw [HS.out, or_join _ _ hb hx8]⟩
      case measure => simp [intOf]; omega
    · go_wp2
      go_ret
      refine ⟨?_, rfl⟩
      rw [List.take_of_length_le (by rw [HL.out]; omega)]
      rfl

end Go.Proofs.Ytgjahlknefobeaa
