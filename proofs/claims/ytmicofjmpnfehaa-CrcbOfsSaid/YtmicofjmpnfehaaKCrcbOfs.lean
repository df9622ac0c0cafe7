/- The walk of the law CrcbOfs out of the contracts. -/
import Derived.Test.YtmicofjmpnfehaaCrG
import Derived.Deep.RegionHeld3
import Derived.OrdersHeld
namespace Go.Proofs.Ytmicofjmpnfehaa.crcbOfs
open Go.RowKit
set_option linter.unusedVariables false

set_option maxRecDepth 100000 in
set_option maxHeartbeats 800000 in
theorem core (A : Option Addr) (n c : Nat) (l : List UInt8) (q : Nat) (w : World) (hl : l.length = n) (hc : n ≤ c) (hr : RB w A l) (hq : q ≤ 65535) (hcap : A = none → c = 0) :
    Calls Try.prog 3 #[.slice A n c, .int .u16 q] w fun e w' => e = .returned (.bool true) ∧ Below w.heap.size w w' := by
  have HL := Lib.hid hl
  clear hl
  by_cases h1 : 1500 < n
  · go_enter Try.func3, Try.ntmps3
    go_wp2_with (go_at_call 8; refine (awake_any _).mono ?_; rintro e w1 ⟨rfl, hb1⟩)
    go_ret
    exact ⟨rfl, hb1⟩
  obtain ⟨k, hk⟩ : ∃ k, k = q % (n + 1) := ⟨_, rfl⟩
  have HK := Lib.hid (show (q : Int) % ((n : Int) + 1) = (k : Int) from by rw [hk]; simp)
  have hkn : k ≤ n := by rw [hk]; have := Nat.mod_lt q (show 0 < n + 1 by omega); omega
  clear hk
  go_enter Try.func3, Try.ntmps3
  go_wp2_with fail
  refine (refOf_any A n c l _ HL.out (by omega) hr).mono ?_
  rintro e w' ⟨rfl, rfl⟩
  have HO := Lib.hid (fun w hr => of_any A n c l w HL.out (by omega) hr)
  have HP := Lib.hid (crc_parts l k)
  have L1 := Lib.hid (show (l.take k).length = k from by rw [List.length_take, HL.out]; omega)
  have L2 := Lib.hid (show (l.drop k).length = n - k from by rw [List.length_drop, HL.out])
  have hb0 : 0 ≤ (k : Int) := by omega
  have hb1 : (k : Int) ≤ (c : Int) := by omega
  have hb2 : (k : Int) ≤ (n : Int) := by omega
  by_cases hck : c = k
  · obtain rfl : n = k := by omega
    obtain rfl : n = c := by omega
    have e1 : l.take n = l := List.take_of_length_le (by rw [HL.out]; omega)
    have e2 : l.drop n = [] := List.drop_of_length_le (by rw [HL.out]; omega)
    rw [e1, e2] at HP
    have HUP := Lib.hid (fun (A' : Option Addr) (d : Nat) (W : World) => update_any (crc l) A' 0 d [] W rfl (by omega) (.inl rfl))
    rw [HP.out] at HUP
    clear e1 e2 HP L1 L2
    generalize crc l = u at *
    rcases A with _ | ad
    · obtain rfl : n = 0 := hcap rfl
      clear hcap hb0 hb1 hb2 h1 hkn hc hck
      go_wp2
      go_region_held3 (fun _ => True) (exact trivial)
        (first
          | (go_at_call 10; refine (HO.out _ hr.drew).mono ?_; rintro e w1 ⟨rfl, rfl⟩)
          | (go_at_call 11; refine (HUP.out _ _ _).mono ?_; rintro e w1 ⟨rfl, rfl⟩)
          | (go_at_call 8; refine (awake_any _).mono ?_; rintro e w7 ⟨rfl, hb7⟩))
      all_goals
        go_wp2
        go_ret
        exact ⟨rfl, (Below.refl _ _).drew.trans hb7⟩
    · clear hcap
      go_wp2
      rw [HK.out]
      go_region_held3 (fun _ => True) (exact trivial)
        (first
          | (go_at_call 10; refine (HO.out _ hr.drew).mono ?_; rintro e w1 ⟨rfl, rfl⟩)
          | (go_at_call 11; refine (HUP.out _ _ _).mono ?_; rintro e w1 ⟨rfl, rfl⟩)
          | (go_at_call 8; refine (awake_any _).mono ?_; rintro e w7 ⟨rfl, hb7⟩))
      all_goals
        go_wp2
        go_ret
        exact ⟨rfl, (Below.refl _ _).drew.trans hb7⟩
  · have HUP := Lib.hid (fun (A' : Option Addr) (d : Nat) (W : World) (hr' : RB W A' (l.drop k)) => update_any (crc (l.take k)) A' (n - k) d (l.drop k) W L2.out (by omega) hr')
    have HOP := Lib.hid (fun (d : Nat) (W : World) (hr' : RB W A (l.take k)) => of_any A k d (l.take k) W L1.out (by omega) hr')
    rw [HP.out] at HUP
    clear HP
    have R1 := hr.take k
    generalize crc (l.take k) = u1 at *
    generalize crc l = u at *
    rcases A with _ | ad
    · exact absurd (hcap rfl) (by omega)
    · have R2 := hr.drop k
      clear hcap
      go_wp2
      rw [HK.out]
      go_region_held3 (fun _ => True) (exact trivial)
        (first
          | (go_at_call_of 10 (Value.slice (some ad) n c); refine (HO.out _ hr.drew).mono ?_; rintro e w1 ⟨rfl, rfl⟩)
          | (go_at_call_of 10 (Value.slice (some ad) k c); refine (HOP.out _ _ R1.drew).mono ?_; rintro e w1 ⟨rfl, rfl⟩)
          | (go_at_call 11; refine (HUP.out _ _ _ R2.drew).mono ?_; rintro e w1 ⟨rfl, rfl⟩)
          | (go_at_call 8; refine (awake_any _).mono ?_; rintro e w7 ⟨rfl, hb7⟩))
      all_goals
        go_wp2
        go_ret
        exact ⟨rfl, (Below.refl _ _).drew.trans hb7⟩
end Go.Proofs.Ytmicofjmpnfehaa.crcbOfs
