/- The walk of the law OrdkeyNumbers out of the contracts. -/
import Derived.Test.YtgjahlknefobeaaReg
import Derived.Deep.RegionWith
import Derived.Deep.RegionLaw
import Derived.Deep.RegionHeld3
import Derived.OrdersHeld
import Derived.Deep.QuietTactic
import Derived.BigQuiet
import Derived.Test.YtgjahlknefobeaaPlainL
namespace Go.Proofs.Ytgjahlknefobeaa.ordkeyNumbers
open Go.RowKit
set_option linter.unusedVariables false

def sg (l m : Bool) : Int := if l then -1 else if m then 1 else 0
theorem sg_eq (a b : Int) : sg (decide (a < b)) (decide (b < a)) = sgn a b := by unfold sg sgn; simp
set_option maxHeartbeats 400000 in
theorem sign_any (l m : Bool) (w : World) : Calls Try.prog 28 #[.bool l, .bool m] w fun e w' => e = .returned (.int .i64 (sg l m)) ∧ w = w' := by
  cases l <;> cases m <;> (go_enter Try.func28, Try.ntmps28; go_wp2; go_ret; exact ⟨rfl, rfl⟩)
theorem sign_lt (a b : Int) (w : World) : Calls Try.prog 28 #[.bool (decide (a < b)), .bool (decide (b < a))] w fun e w' => e = .returned (.int .i64 (sgn a b)) ∧ w = w' := by
  have h := sign_any (decide (a < b)) (decide (b < a)) w
  rw [sg_eq] at h
  exact h

theorem sg_eqN (a b : Nat) : sg (decide (a < b)) (decide (b < a)) = sgn a b := by unfold sg sgn; simp
theorem sign_ltN (a b : Nat) (w : World) : Calls Try.prog 28 #[.bool (decide (a < b)), .bool (decide (b < a))] w fun e w' => e = .returned (.int .i64 (sgn a b)) ∧ w = w' := by
  have h := sign_any (decide (a < b)) (decide (b < a)) w
  rw [sg_eqN] at h
  exact h

set_option maxRecDepth 100000 in
set_option maxHeartbeats 3200000 in
theorem core (a b : Int) (n m : Nat) (w : World) (h1 : -9223372036854775808 ≤ a) (h2 : a < 9223372036854775808) (h3 : -9223372036854775808 ≤ b) (h4 : b < 9223372036854775808) (hn : n < 18446744073709551616) (hm : m < 18446744073709551616) :
    Calls Try.prog 8 #[.int .i64 a, .int .i64 b, .agg #[.int .u64 n, .int .u64 m]] w fun e w' => e = .returned (.bool true) ∧ Below w.heap.size w w' := by
  have C18a := Lib.hid (fun W => putInt_any a W h1 h2)
  have C18b := Lib.hid (fun W => putInt_any b W h3 h4)
  have C22a := Lib.hid (fun W => putSmall_any n W hn)
  have C22b := Lib.hid (fun W => putSmall_any m W hm)
  have hl1 : (putInt a).length ≤ 100 := by rw [putInt_len]; omega
  have hl2 : (putInt b).length ≤ 100 := by rw [putInt_len]; omega
  have hl3 : (putSmall n).length ≤ 100 := by rw [putSmall_len]; have := wid_le8 n hn; omega
  have hl4 : (putSmall m).length ≤ 100 := by rw [putSmall_len]; have := wid_le8 m hm; omega
  have HC1 := Lib.hid (cmpB_putInt a b h1 h2 h3 h4)
  have HC2 := Lib.hid (cmpB_putSmall n m hn hm)
  have S1 := Lib.hid (fun W => sign_lt a b W)
  have S2 := Lib.hid (fun W => sign_ltN n m W)
  generalize putInt a = p1 at *
  generalize putInt b = p2 at *
  generalize putSmall n = p3 at *
  generalize putSmall m = p4 at *
  generalize sgn a b = k1 at *
  generalize sgn (n : Int) (m : Int) = k2 at *
  have HK := Lib.hid (show ∀ w', Below (w.alloc (.cells #[.int .u64 (n : Int), .int .u64 (m : Int)] 51)).heap.size (w.alloc (.cells #[.int .u64 (n : Int), .int .u64 (m : Int)] 51)) w' → w'.cell? ⟨w.heap.size, 0, none⟩ = some (.int .u64 (n : Int)) ∧ w'.cell? ⟨w.heap.size, 1, none⟩ = some (.int .u64 (m : Int)) from fun w' hb => ⟨(hb.cell (p := ⟨w.heap.size, 0, none⟩) (by simp)).trans (by simp), (hb.cell (p := ⟨w.heap.size, 1, none⟩) (by simp)).trans (by simp)⟩)
  have hB0 : Below w.heap.size w (w.alloc (.cells #[.int .u64 (n : Int), .int .u64 (m : Int)] 51)) := (Below.refl _ _).alloc (Nat.le_refl _) _
  go_enter Try.func8, Try.ntmps8
  go_wp2_with fail
  generalize hW : w.alloc (.cells #[.int .u64 (n : Int), .int .u64 (m : Int)] 51) = W at *
  clear hW
  go_region_held3 (fun w' => w'.cell? ⟨w.heap.size, 0, none⟩ = some (.int .u64 (n : Int)) ∧ w'.cell? ⟨w.heap.size, 1, none⟩ = some (.int .u64 (m : Int)))
    (first | exact HK.out _ (Below.refl _ _).drew | exact HK.out _ hB1 | exact HK.out _ hB2 | exact HK.out _ hB3 | exact HK.out _ hB4 | exact HK.out _ hB5 | exact HK.out _ hB6 | exact HK.out _ hB7)
    (first
      | (go_at_call_of 18 (Value.int IntKind.i64 a); refine (C18a.out _).mono ?_; rintro e w1 ⟨v1, rfl, ho1, hb1⟩; obtain ⟨A1, c1, rfl, hc1, hx1⟩ := ho1.form; have hB1 : Below W.heap.size W w1 := (Below.refl _ _).drew.trans hb1)
      | (go_at_call_of 18 (Value.int IntKind.i64 b); refine (C18b.out _).mono ?_; rintro e w2 ⟨v2, rfl, ho2, hb2⟩; obtain ⟨A2, c2, rfl, hc2, hx2⟩ := ho2.form; have hx1' := hx1.below hb2; have hB2 : Below W.heap.size W w2 := hB1.trans (hb2.mono hB1.size))
      | (go_at_call_of 26 (Value.slice A2 p2.length c2); refine (compare_below A1 A2 p1.length c1 p2.length c2 p1 p2 _ (by omega) (by omega) rfl rfl hx1' hx2).mono ?_; rw [HC1.out]; rintro e w3 ⟨rfl, hb3⟩; have hB3 : Below W.heap.size W w3 := hB2.trans (hb3.mono hB2.size))
      | (go_at_call_of 28 (Value.bool (decide (a < b))); refine (S1.out _).mono ?_; rintro e w3' ⟨rfl, rfl⟩)
      | (go_at_call_of 22 (Value.int IntKind.u64 (n : Int)); refine (C22a.out _).mono ?_; rintro e w4 ⟨v4, rfl, ho4, hb4⟩; obtain ⟨A4, c4, rfl, hc4, hx4⟩ := ho4.form; have hB4 : Below W.heap.size W w4 := hB3.trans (hb4.mono hB3.size))
      | (go_at_call_of 22 (Value.int IntKind.u64 (m : Int)); refine (C22b.out _).mono ?_; rintro e w5 ⟨v5, rfl, ho5, hb5⟩; obtain ⟨A5, c5, rfl, hc5, hx5⟩ := ho5.form; have hx4' := hx4.below hb5; have hB5 : Below W.heap.size W w5 := hB4.trans (hb5.mono hB4.size))
      | (go_at_call_of 26 (Value.slice A5 p4.length c5); refine (compare_below A4 A5 p3.length c4 p4.length c5 p3 p4 _ (by omega) (by omega) rfl rfl hx4' hx5).mono ?_; rw [HC2.out]; rintro e w6 ⟨rfl, hb6⟩; have hB6 : Below W.heap.size W w6 := hB5.trans (hb6.mono hB5.size))
      | (go_at_call 28; refine (S2.out _).mono ?_; rintro e w6' ⟨rfl, rfl⟩)
      | (go_at_call 11; refine (awake_any _).mono ?_; rintro e w7 ⟨rfl, hb7⟩; have hB7 : Below W.heap.size W w7 := hB6.trans (hb7.mono hB6.size)))
  all_goals
    go_wp2
    go_ret
    exact ⟨rfl, hB0.trans (hB7.mono hB0.size)⟩

end Go.Proofs.Ytgjahlknefobeaa.ordkeyNumbers
