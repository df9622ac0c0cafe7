/- The walk of the law CrcbTurned out of the contracts. -/
import Derived.Test.YtmicofjmpnfehaaCrG
namespace Go.Proofs.Ytmicofjmpnfehaa.crcbTurned
open Go.RowKit
set_option linter.unusedVariables false

theorem seal520 (A : Option Addr) (n c : Nat) (l : List UInt8) (w : World) (hl : l.length = n) (h : n ≤ 500) (hr : RB w A l) :
    Calls Try.prog 12 #[.slice A n c, .int .i64 520] w fun e w' => ∃ v', e = .returned (.tuple #[v', .int .i64 0]) ∧ OB w.heap.size w' v' (sealL l 520) ∧ Below w.heap.size w w' :=
  seal_ok A n c 520 l w hl (by omega) (by omega) hr
theorem open520 (A : Option Addr) (c : Nat) (Y : List UInt8) (w : World) (hl : Y.length = 520) (hc : 520 ≤ c) (hr : RB w A Y) :
    Calls Try.prog 14 #[.slice A 520 c, .int .i64 520] w fun e w' => ∃ v', e = .returned (.tuple #[v', .int .i64 ((opn Y 520).2 : Nat)]) ∧ OB w.heap.size w' v' (opn Y 520).1 ∧ Below w.heap.size w w' :=
  open_any A 520 c Y w hl hc (by omega) (by omega) hr
theorem turned_byte (x : UInt8) (q : Nat) (hq : q < 256) : ∃ y : UInt8, x ≠ y ∧ bits .xor .u8 (x.toNat : Int) (1 + (q : Int) % 255) = (y.toNat : Int) := by
  refine ⟨x ^^^ UInt8.ofNat (1 + q % 255), ?_, ?_⟩
  · intro h
    have h1 : x ^^^ x = x ^^^ (x ^^^ UInt8.ofNat (1 + q % 255)) := by rw [← h]
    rw [← UInt8.xor_assoc, UInt8.xor_self, UInt8.zero_xor] at h1
    have h2 := congrArg UInt8.toNat h1
    rw [ofNat_toNat] at h2
    simp at h2
    omega
  · have h1 := u8_xor_nat x.toNat (1 + q % 255) x.toNat_lt (by omega)
    rw [show (1 + (q : Int) % 255) = ((1 + q % 255 : Nat) : Int) by omega, h1, UInt8.toNat_xor, ofNat_toNat, Nat.mod_eq_of_lt (by omega : 1 + q % 255 < 256)]

set_option maxRecDepth 100000 in
set_option maxHeartbeats 800000 in
theorem core (A : Option Addr) (n c : Nat) (l : List UInt8) (p q : Nat) (w : World) (hl : l.length = n) (hr : RB w A l) (hp : p ≤ 65535) (hq : q < 256) :
    Calls Try.prog 6 #[.slice A n c, .int .u16 p, .int .u8 q] w fun e w' => e = .returned (.bool true) ∧ Below w.heap.size w w' := by
  have HL := Lib.hid hl
  clear hl
  by_cases h1 : 500 < n
  · go_enter Try.func6, Try.ntmps6
    go_wp2_with (go_at_call 8; refine (awake_any _).mono ?_; rintro e w1 ⟨rfl, hb1⟩)
    go_ret
    exact ⟨rfl, hb1⟩
  have HYL := Lib.hid (show (sealL l 520).length = 520 from seal_len l 520 (by rw [HL.out]; omega))
  have HO1 := Lib.hid (show opn (sealL l 520) 520 = (l, 0) from opn_seal (by rw [HL.out]; omega) (by omega))
  obtain ⟨i, hi⟩ : ∃ i, i = p % 520 := ⟨_, rfl⟩
  have HI := Lib.hid (show (p : Int) % 520 = (i : Int) from by omega)
  have hi5 : i < 520 := by omega
  obtain ⟨x, hx⟩ : ∃ x, (sealL l 520)[i]? = some x := ⟨_, List.getElem?_eq_getElem (by rw [HYL.out]; exact hi5)⟩
  obtain ⟨y, hxy, hy⟩ := turned_byte x q hq
  have HO2 := Lib.hid (opn_turned (b := l) (size := 520) (by rw [HL.out]; omega) hx hxy)
  have HX := Lib.hid hx
  have HY := Lib.hid hy
  clear hx hy hi hxy
  have hx8 : x.toNat < 256 := x.toNat_lt
  go_enter Try.func6, Try.ntmps6
  go_wp2_with fail
  refine (seal520 A n c l _ HL.out (by omega) hr).mono ?_
  rintro e w1 ⟨v1, rfl, ho1, hb1⟩
  obtain ⟨A1, c1, rfl, hc1, hr1⟩ := ho1.form
  rw [HYL.out] at ho1 hc1 ⊢
  obtain ⟨g, rfl, hg1, hg2, _, _, _⟩ := ho1.at_ HX.out
  go_wp2_with fail
  refine (open520 _ c1 (sealL l 520) _ HYL.out hc1 hr1).mono ?_
  rw [HO1.out]
  rintro e w2 ⟨v2, rfl, ho2, hb2⟩
  obtain ⟨A2, c2, rfl, hc2, hr2⟩ := ho2.form
  rw [show ((l, 0) : List UInt8 × Nat).1 = l from rfl, HL.out] at ho2 ⊢
  have hB2 : Below w.heap.size w w2 := hb1.trans (hb2.mono hb1.size)
  have hcv1 := run_str w2 A2 n c2 l HL.out hr2
  have hcv2 := run_str w2 A n c l HL.out (hr.below hB2)
  have ho3 := ho1.keep hb2 (Nat.le_refl _)
  obtain ⟨_, hg3, hcell, hfr, hset⟩ := ho3.atg x HX.out
  have HSET := Lib.hid (hset y _ HY.out)
  clear hset ho3 ho2 hr2 ho1 hr1 hc2 hb1 hb2
  have hi0 : (i : Int) < 520 := by omega
  go_upto_region 8 with (fail)
  rw [HI.out]
  go_upto_region 9 with (fail)
  have hB3 := hB2.setCell hg1 (p := ⟨g, i, none⟩) (.int .u8 (bits .xor .u8 (x.toNat : Int) (1 + (q : Int) % 255)))
  generalize w2.setCell ⟨g, i, none⟩ (.int .u8 (bits .xor .u8 (x.toNat : Int) (1 + (q : Int) % 255))) = w3 at *
  have HYL3 := Lib.hid (show ((sealL l 520).set i y).length = 520 from by rw [List.length_set]; exact HYL.out)
  have hr3 := HSET.out.reads
  clear hcv1 hcv2 hcell hfr hB2
  go_wp2_with fail
  refine (open520 _ c1 ((sealL l 520).set i y) _ HYL3.out hc1 hr3).mono ?_
  rw [HO2.out]
  rintro e w4 ⟨v4, rfl, ho4, hb4⟩
  have hB4 : Below w.heap.size w w4 := hB3.trans (hb4.mono hB3.size)
  clear ho4 hb4 hB3 hr3
  go_wp2_with (go_at_call 8; refine (awake_any _).mono ?_; rintro e w5 ⟨rfl, hb5⟩)
  go_ret
  exact ⟨rfl, hB4.trans (hb5.mono hB4.size)⟩
end Go.Proofs.Ytmicofjmpnfehaa.crcbTurned
