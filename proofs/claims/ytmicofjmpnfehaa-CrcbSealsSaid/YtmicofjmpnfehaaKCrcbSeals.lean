/- The walk of the law CrcbSeals out of the contracts. -/
import Derived.Test.YtmicofjmpnfehaaCrG
import Derived.Test.YtmicofjmpnfehaaCrF
namespace Go.Proofs.Ytmicofjmpnfehaa.crcbSeals
open Go.RowKit
set_option linter.unusedVariables false

/-- What Seal tells, whatever the size is. -/
def sealR (l : List UInt8) (z : Int) : List UInt8 × Nat := if z < 8 ∨ 65536 < z then ([], 2) else if z < (l.length : Int) + 8 then ([], 5) else (sealL l z.toNat, 0)
/-- What Open tells, whatever the size is. -/
def openR (l : List UInt8) (z : Int) : List UInt8 × Nat := if z < 8 ∨ 65536 < z then ([], 2) else if (l.length : Int) ≠ z then ([], 3) else opn l l.length

theorem seal_all (A : Option Addr) (n c : Nat) (l : List UInt8) (z : Int) (w : World) (hl : l.length = n) (hr : RB w A l) :
    Calls Try.prog 12 #[.slice A n c, .int .i64 z] w fun e w' => ∃ v', e = .returned (.tuple #[v', .int .i64 ((sealR l z).2 : Nat)]) ∧ OB w.heap.size w' v' (sealR l z).1 ∧ Below w.heap.size w w' := by
  unfold sealR
  by_cases h : z < 8 ∨ 65536 < z
  · rw [if_pos h]
    refine (seal_arg A n c z w h).mono ?_
    rintro e w' ⟨rfl, rfl⟩
    exact ⟨_, rfl, OB.nil, Below.refl _ _⟩
  · rw [if_neg h]
    obtain ⟨s, rfl⟩ : ∃ s : Nat, z = (s : Int) := ⟨z.toNat, by omega⟩
    by_cases h2 : (s : Int) < (l.length : Int) + 8
    · rw [if_pos h2]
      refine (seal_big A n c s w (by omega) (by omega) (by omega)).mono ?_
      rintro e w' ⟨rfl, rfl⟩
      exact ⟨_, rfl, OB.nil, Below.refl _ _⟩
    · rw [if_neg h2]
      exact seal_ok A n c s l w hl (by omega) (by omega) hr
theorem refSeal_all (A : Option Addr) (n c : Nat) (l : List UInt8) (z : Int) (w : World) (hl : l.length = n) (hr : RB w A l) :
    Calls Try.prog 13 #[.slice A n c, .int .i64 z] w fun e w' => ∃ v', e = .returned (.tuple #[v', .int .i64 ((sealR l z).2 : Nat)]) ∧ OB w.heap.size w' v' (sealR l z).1 ∧ Below w.heap.size w w' := by
  unfold sealR
  by_cases h : z < 8 ∨ 65536 < z
  · rw [if_pos h]
    refine (refSeal_arg A n c z w h).mono ?_
    rintro e w' ⟨rfl, rfl⟩
    exact ⟨_, rfl, OB.nil, Below.refl _ _⟩
  · rw [if_neg h]
    obtain ⟨s, rfl⟩ : ∃ s : Nat, z = (s : Int) := ⟨z.toNat, by omega⟩
    by_cases h2 : (s : Int) < (l.length : Int) + 8
    · rw [if_pos h2]
      refine (refSeal_big A n c s w (by omega) (by omega) (by omega)).mono ?_
      rintro e w' ⟨rfl, rfl⟩
      exact ⟨_, rfl, OB.nil, Below.refl _ _⟩
    · rw [if_neg h2]
      exact refSeal_ok A n c s l w hl (by omega) (by omega) hr
theorem open_all (A : Option Addr) (n c : Nat) (l : List UInt8) (z : Int) (w : World) (hl : l.length = n) (hc : n ≤ c) (hr : RB w A l) :
    Calls Try.prog 14 #[.slice A n c, .int .i64 z] w fun e w' => ∃ v', e = .returned (.tuple #[v', .int .i64 ((openR l z).2 : Nat)]) ∧ OB w.heap.size w' v' (openR l z).1 ∧ Below w.heap.size w w' := by
  unfold openR
  by_cases h : z < 8 ∨ 65536 < z
  · rw [if_pos h]
    refine (open_arg A n c z w h).mono ?_
    rintro e w' ⟨rfl, rfl⟩
    exact ⟨_, rfl, OB.nil, Below.refl _ _⟩
  · rw [if_neg h]
    obtain ⟨s, rfl⟩ : ∃ s : Nat, z = (s : Int) := ⟨z.toNat, by omega⟩
    by_cases h2 : (l.length : Int) ≠ (s : Int)
    · rw [if_pos h2]
      refine (open_cut A n c s w (by omega) (by omega) (by omega)).mono ?_
      rintro e w' ⟨rfl, rfl⟩
      exact ⟨_, rfl, OB.nil, Below.refl _ _⟩
    · rw [if_neg h2]
      obtain rfl : n = s := by omega
      subst hl
      exact open_any A l.length c l w rfl hc (by omega) (by omega) hr
theorem refOpen_all (A : Option Addr) (n c : Nat) (l : List UInt8) (z : Int) (w : World) (hl : l.length = n) (hc : n ≤ c) (hr : RB w A l) :
    Calls Try.prog 15 #[.slice A n c, .int .i64 z] w fun e w' => ∃ v', e = .returned (.tuple #[v', .int .i64 ((openR l z).2 : Nat)]) ∧ OB w.heap.size w' v' (openR l z).1 ∧ Below w.heap.size w w' := by
  unfold openR
  by_cases h : z < 8 ∨ 65536 < z
  · rw [if_pos h]
    refine (refOpen_arg A n c z w h).mono ?_
    rintro e w' ⟨rfl, rfl⟩
    exact ⟨_, rfl, OB.nil, Below.refl _ _⟩
  · rw [if_neg h]
    obtain ⟨s, rfl⟩ : ∃ s : Nat, z = (s : Int) := ⟨z.toNat, by omega⟩
    by_cases h2 : (l.length : Int) ≠ (s : Int)
    · rw [if_pos h2]
      refine (refOpen_cut A n c s w (by omega) (by omega) (by omega)).mono ?_
      rintro e w' ⟨rfl, rfl⟩
      exact ⟨_, rfl, OB.nil, Below.refl _ _⟩
    · rw [if_neg h2]
      obtain rfl : n = s := by omega
      subst hl
      exact refOpen_any A l.length c l w rfl hc (by omega) (by omega) hr

set_option maxRecDepth 100000 in
set_option maxHeartbeats 1600000 in
theorem core (A : Option Addr) (n c : Nat) (l : List UInt8) (B : Option Addr) (m d : Nat) (r : List UInt8) (z : Int) (w : World) (hl : l.length = n) (hr : RB w A l) (hm : r.length = m) (hd : m ≤ d) (hs : RB w B r) :
    Calls Try.prog 4 #[.slice A n c, .slice B m d, .int .i64 z] w fun e w' => e = .returned (.bool true) ∧ Below w.heap.size w w' := by
  have HL := Lib.hid hl
  have HM := Lib.hid hm
  clear hl hm
  by_cases hguard : 1500 < n ∨ 1500 < m ∨ (3000 < z ∧ z ≤ 65536)
  · rcases Classical.em (1500 < n) with h1 | h1
    · go_enter Try.func4, Try.ntmps4
      go_wp2_with (go_at_call 8; refine (awake_any _).mono ?_; rintro e w1 ⟨rfl, hb1⟩)
      go_ret
      exact ⟨rfl, hb1⟩
    rcases Classical.em (1500 < m) with h2 | h2
    · go_enter Try.func4, Try.ntmps4
      go_wp2_with (go_at_call 8; refine (awake_any _).mono ?_; rintro e w1 ⟨rfl, hb1⟩)
      go_ret
      exact ⟨rfl, hb1⟩
    obtain ⟨h3, h4⟩ : 3000 < z ∧ z ≤ 65536 := by omega
    clear hguard
    go_enter Try.func4, Try.ntmps4
    go_wp2_with (go_at_call 8; refine (awake_any _).mono ?_; rintro e w1 ⟨rfl, hb1⟩)
    go_ret
    exact ⟨rfl, hb1⟩
  have g1 : ¬ 1500 < n := by omega
  have g2 : ¬ 1500 < m := by omega
  have g3 : z ≤ 3000 ∨ 65536 < z := by omega
  clear hguard
  have C1 := Lib.hid (fun w hr => seal_all A n c l z w HL.out hr)
  have C2 := Lib.hid (fun w hr => refSeal_all A n c l z w HL.out hr)
  have C3 := Lib.hid (fun w hr => open_all B m d r z w HM.out hd hr)
  have C4 := Lib.hid (fun w hr => refOpen_all B m d r z w HM.out hd hr)
  generalize sealR l z = S at *
  generalize openR r z = O at *
  obtain ⟨S1, S2⟩ := S
  obtain ⟨O1, O2⟩ := O
  rcases g3 with g3 | g3
  case inl =>
    have g4 : decide (3000 < z) = false := by simp; omega
    go_enter Try.func4, Try.ntmps4
    go_wp2_with fail
    refine (C1.out _ hr).mono ?_
    rintro e w1 ⟨v1, rfl, ho1, hb1⟩
    obtain ⟨A1, c1, rfl, hc1, hr1⟩ := ho1.form
    clear ho1 hc1
    go_wp2_with fail
    refine (C2.out _ (hr.below hb1)).mono ?_
    rintro e w2 ⟨v2, rfl, ho2, hb2⟩
    obtain ⟨A2, c2, rfl, hc2, hr2⟩ := ho2.form
    clear ho2 hc2
    have hB2 : Below w.heap.size w w2 := hb1.trans (hb2.mono hb1.size)
    have hr1' := hr1.below hb2
    clear hr1 hb1 hb2
    go_wp2_with fail
    refine (C3.out _ (hs.below hB2)).mono ?_
    rintro e w3 ⟨v3, rfl, ho3, hb3⟩
    obtain ⟨A3, c3, rfl, hc3, hr3⟩ := ho3.form
    clear ho3 hc3
    have hB3 : Below w.heap.size w w3 := hB2.trans (hb3.mono hB2.size)
    have hr1'' := hr1'.below hb3
    have hr2' := hr2.below hb3
    clear hr1' hr2 hb3 hB2
    go_wp2_with fail
    refine (C4.out _ (hs.below hB3)).mono ?_
    rintro e w4 ⟨v4, rfl, ho4, hb4⟩
    obtain ⟨A4, c4, rfl, hc4, hr4⟩ := ho4.form
    clear ho4 hc4
    have hB4 : Below w.heap.size w w4 := hB3.trans (hb4.mono hB3.size)
    have k1 := run_str w4 A1 _ c1 _ rfl (hr1''.below hb4)
    have k2 := run_str w4 A2 _ c2 _ rfl (hr2'.below hb4)
    have k3 := run_str w4 A3 _ c3 _ rfl (hr3.below hb4)
    have k4 := run_str w4 A4 _ c4 _ rfl hr4
    clear hr1'' hr2' hr3 hr4 hb4 hB3 C1 C2 C3 C4
    go_wp2_with (go_at_call 8; refine (awake_any _).mono ?_; rintro e w5 ⟨rfl, hb5⟩)
    go_ret
    exact ⟨rfl, hB4.trans (hb5.mono hB4.size)⟩
  case inr =>
    have g5 : 3000 < z := by omega
    have g4 : decide (z ≤ 65536) = false := by simp; omega
    go_enter Try.func4, Try.ntmps4
    go_wp2_with fail
    refine (C1.out _ hr).mono ?_
    rintro e w1 ⟨v1, rfl, ho1, hb1⟩
    obtain ⟨A1, c1, rfl, hc1, hr1⟩ := ho1.form
    clear ho1 hc1
    go_wp2_with fail
    refine (C2.out _ (hr.below hb1)).mono ?_
    rintro e w2 ⟨v2, rfl, ho2, hb2⟩
    obtain ⟨A2, c2, rfl, hc2, hr2⟩ := ho2.form
    clear ho2 hc2
    have hB2 : Below w.heap.size w w2 := hb1.trans (hb2.mono hb1.size)
    have hr1' := hr1.below hb2
    clear hr1 hb1 hb2
    go_wp2_with fail
    refine (C3.out _ (hs.below hB2)).mono ?_
    rintro e w3 ⟨v3, rfl, ho3, hb3⟩
    obtain ⟨A3, c3, rfl, hc3, hr3⟩ := ho3.form
    clear ho3 hc3
    have hB3 : Below w.heap.size w w3 := hB2.trans (hb3.mono hB2.size)
    have hr1'' := hr1'.below hb3
    have hr2' := hr2.below hb3
    clear hr1' hr2 hb3 hB2
    go_wp2_with fail
    refine (C4.out _ (hs.below hB3)).mono ?_
    rintro e w4 ⟨v4, rfl, ho4, hb4⟩
    obtain ⟨A4, c4, rfl, hc4, hr4⟩ := ho4.form
    clear ho4 hc4
    have hB4 : Below w.heap.size w w4 := hB3.trans (hb4.mono hB3.size)
    have k1 := run_str w4 A1 _ c1 _ rfl (hr1''.below hb4)
    have k2 := run_str w4 A2 _ c2 _ rfl (hr2'.below hb4)
    have k3 := run_str w4 A3 _ c3 _ rfl (hr3.below hb4)
    have k4 := run_str w4 A4 _ c4 _ rfl hr4
    clear hr1'' hr2' hr3 hr4 hb4 hB3 C1 C2 C3 C4
    go_wp2_with (go_at_call 8; refine (awake_any _).mono ?_; rintro e w5 ⟨rfl, hb5⟩)
    go_ret
    exact ⟨rfl, hB4.trans (hb5.mono hB4.size)⟩
end Go.Proofs.Ytmicofjmpnfehaa.crcbSeals
