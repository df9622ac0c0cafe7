/- The library's functions that bitmap calls: bits that are 1, zeros at the low end, a clone, equal rows. -/
import Derived.Test.YtmmehomobmoapaaDoorQB
import Derived.Test.YtmmehomobmoapaaDoorQP
import Derived.Shelf.Spec.TrailingZeros
namespace Go.Proofs.YtmmehomobmoapaaDoor
open Go.RowKit
set_option linter.unusedVariables false
set_option linter.unusedSimpArgs false
theorem mask55 : mask 0x55 8 = 6148914691236517205 := by decide +kernel
theorem mask33 : mask 0x33 8 = 3689348814741910323 := by decide +kernel
theorem mask0f : mask 0x0f 8 = 1085102592571150095 := by decide +kernel
theorem and127 (a : Nat) (ha : a < 9223372036854775808) : bits .and .i64 (a : Int) 127 = ((a % 128 : Nat) : Int) := by
  have hx : a &&& 127 = a % 128 := by rw [show (127 : Nat) = 2 ^ 7 - 1 by decide, Nat.and_two_pow_sub_one_eq_mod]
  have h1 : (BitVec.ofInt 64 (a : Int)).toNat = a := by
    rw [BitVec.ofInt_natCast, BitVec.toNat_ofNat]; exact Nat.mod_eq_of_lt (by omega)
  show IntKind.i64.wrap ((BitVec.ofInt 64 (a : Int) &&& BitVec.ofInt 64 127).toNat : Int) = _
  rw [BitVec.toNat_and, h1, show (BitVec.ofInt 64 127).toNat = 127 by decide, hx, IntKind.wrap_i64]
  omega
set_option maxRecDepth 100000 in
theorem ones_any (x : Nat) (w : World) (hx : x < 18446744073709551616) : Calls Tryd.prog 44 #[.int .u64 (x : Int)] w fun e w' => e = .returned (.int .i64 (onesOf x : Int)) ∧ w = w' := by
  obtain ⟨a, ha⟩ : ∃ a, a = stage1 8 x := ⟨_, rfl⟩
  obtain ⟨b, hb⟩ : ∃ b, b = stage2 8 a := ⟨_, rfl⟩
  obtain ⟨c, hc⟩ : ∃ c, c = stage3 8 b := ⟨_, rfl⟩
  obtain ⟨za, zb, zc, zd, ze, zf, hf⟩ := swar x a b c hx ha hb hc
  have K1 : IntKind.u64.wrap (bits .and .u64 ((x : Int) / 2) 6148914691236517205 + bits .and .u64 (x : Int) 6148914691236517205) = (a : Int) := by
    rw [show (x : Int) / 2 = ((x / 2 : Nat) : Int) by omega, show (6148914691236517205 : Int) = ((6148914691236517205 : Nat) : Int) from rfl, bits_and_u64_nat _ _ (by omega) (by omega), bits_and_u64_nat _ _ hx (by omega), IntKind.wrap_u64]
    unfold stage1 at ha
    rw [mask55] at ha
    omega
  have K2 : IntKind.u64.wrap (bits .and .u64 ((a : Int) / 4) 3689348814741910323 + bits .and .u64 (a : Int) 3689348814741910323) = (b : Int) := by
    rw [show (a : Int) / 4 = ((a / 4 : Nat) : Int) by omega, show (3689348814741910323 : Int) = ((3689348814741910323 : Nat) : Int) from rfl, bits_and_u64_nat _ _ (by omega) (by omega), bits_and_u64_nat _ _ za (by omega), IntKind.wrap_u64]
    unfold stage2 at hb
    rw [mask33] at hb
    omega
  have K3 : bits .and .u64 (IntKind.u64.wrap ((b : Int) / 16 + (b : Int))) 1085102592571150095 = (c : Int) := by
    have e : IntKind.u64.wrap ((b : Int) / 16 + (b : Int)) = ((b / 16 + b : Nat) : Int) := by rw [IntKind.wrap_u64]; omega
    rw [e, show (1085102592571150095 : Int) = ((1085102592571150095 : Nat) : Int) from rfl, bits_and_u64_nat _ _ zc (by omega)]
    unfold stage3 at hc
    rw [mask0f] at hc
    rw [hc]
  obtain ⟨d, hd⟩ : ∃ d, d = c + c / 256 := ⟨_, rfl⟩
  rw [← hd] at zd ze zf hf
  obtain ⟨f, hf1⟩ : ∃ f, f = d + d / 65536 := ⟨_, rfl⟩
  rw [← hf1] at ze zf hf
  obtain ⟨g, hg⟩ : ∃ g, g = f + f / 4294967296 := ⟨_, rfl⟩
  rw [← hg] at zf hf
  have K4 : IntKind.u64.wrap ((c : Int) + (c : Int) / 256) = (d : Int) := by rw [IntKind.wrap_u64]; omega
  have K5 : IntKind.u64.wrap ((d : Int) + (d : Int) / 65536) = (f : Int) := by rw [IntKind.wrap_u64]; omega
  have K6 : IntKind.u64.wrap ((f : Int) + (f : Int) / 4294967296) = (g : Int) := by rw [IntKind.wrap_u64]; omega
  clear ha hb hc za zb zc zd ze hd hf1 hg
  go_enter Tryd.func44, Tryd.ntmps44
  go_wp2
  go_ret
  simp only [K1, K2, K3, K4, K5, K6]
  refine ⟨?_, trivial⟩
  rw [and127 _ zf, hf]
  rfl
set_option maxRecDepth 100000 in
theorem tz_core (x k idx : Nat) (w : World) (hx0 : ((x : Int) == 0) = false)
    (key : IntKind.u64.wrap (bits BinOp.and IntKind.u64 (x : Int) (IntKind.u64.wrap (-(x : Int))) * 285870213051353865) / 288230376151711744 = (idx : Int))
    (hi : idx < 64) (hk : k < 64) (hcell : w.cell? ⟨0, idx, none⟩ = some (.int .u8 k)) :
    Calls Tryd.prog 59 #[.int .u64 x] w fun e w' => e = .returned (.int .i64 k) ∧ w = w' := by
  go_enter Tryd.func59, Tryd.ntmps59
  go_wp2_with (simp only [key])
  go_ret
  exact ⟨rfl, rfl⟩
theorem tz_any (x : Nat) (w : World) (hx : x < 18446744073709551616) (hx0 : x ≠ 0) (hT : TabAt 0 Lib.deBruijn64tab w) : Calls Tryd.prog 59 #[.int .u64 x] w fun e w' => e = .returned (.int .i64 (Lib.ctz 64 x)) ∧ w = w' := by
  obtain ⟨hlow, hk⟩ := Lib.lowest_bit 64 x hx0 hx
  obtain ⟨hi, htab⟩ := Lib.deBruijn64_at _ hk
  have hcell := hT _ hi
  rw [htab] at hcell
  exact tz_core x _ _ w (by simp; omega) (tz64_key x _ hx hx0 hlow) hi hk hcell
set_option maxRecDepth 100000 in
theorem cloneQ_any (A : Option Addr) (n c : Nat) (l : List UInt64) (w : World) (hl : l.length = n) (hn : n ≤ 1000) (hr : RQ w A l) : Calls Tryd.prog 36 #[.slice A n c] w fun e w' => ∃ v, e = .returned v ∧ OQ w.heap.size w' v l ∧ Below w.heap.size w w' := by
  have HL := Lib.hid hl
  have q22 : ∀ (w : World) (a : Option Addr) (n c n' c' : Nat), (binOp .eql 22 (.slice a n c) (.slice none n' c')).run Tryd.prog w = .ok (.bool a.isNone) w := fun w a n c n' c' => Lib.run_eql_slice_nil w _ _ a n c n' c' Tryd.underlying22
  rcases A with _ | ad
  · obtain rfl : l = [] := by
      rcases hr with h | ⟨ad, h, _⟩
      · exact h
      · cases h
    obtain rfl : n = 0 := hl.symm
    go_enter Tryd.func36, Tryd.ntmps36
    go_wp2
    go_ret
    exact ⟨_, rfl, OQ.nil, Below.refl _ _⟩
  · go_enter Tryd.func36, Tryd.ntmps36
    go_wp2_with (at_builtin; refine wpList_append_Q rfl (.tmp 5) (.tmp 6) rfl w.heap.size _ [] rfl (OQ.lit w w.heap.size [] _ (by simp [cellsQ]) (Nat.le_refl _) (by simp [maxLen])) _ _ _ l rfl HL.out (hr.alloc _) (by simp; omega) (by simp) ?_; intro v1 w1 hown1 hb1)
    go_ret
    exact ⟨_, rfl, hown1, ((Below.refl _ _).alloc (Nat.le_refl _) _).trans hb1⟩
end Go.Proofs.YtmmehomobmoapaaDoor
