/- The package bitmap: the search for the next number. -/
import Derived.Test.YtmmehomobmoapaaDoorQK
import Derived.Deep.Cut
namespace Go.Proofs.YtmmehomobmoapaaDoor
open Go.RowKit
set_option linter.unusedVariables false
set_option linter.unusedSimpArgs false
theorem ctzFrom_bits : ∀ (f x : Nat), 0 < x → x < 2 ^ f → x.testBit (Lib.ctzFrom f x) = true ∧ ∀ i, i < Lib.ctzFrom f x → x.testBit i = false
  | 0, x, h0, h => by simp at h; omega
  | f + 1, x, h0, h => by
    unfold Lib.ctzFrom
    by_cases h1 : x % 2 = 1
    · rw [if_pos h1]
      exact ⟨by rw [Nat.testBit_zero]; exact decide_eq_true h1, fun i hi => by omega⟩
    · rw [if_neg h1]
      obtain ⟨a, b⟩ := ctzFrom_bits f (x / 2) (by omega) (by rw [Nat.pow_succ] at h; omega)
      refine ⟨by rw [Nat.add_comm, Nat.testBit_succ]; exact a, fun i hi => ?_⟩
      cases i with
      | zero => rw [Nat.testBit_zero]; exact decide_eq_false h1
      | succ i => rw [Nat.testBit_succ]; exact b i (by omega)
theorem ctz_bits {x : Nat} (h0 : x ≠ 0) (h : x < 18446744073709551616) : x.testBit (Lib.ctz 64 x) = true ∧ (∀ i, i < Lib.ctz 64 x → x.testBit i = false) ∧ Lib.ctz 64 x < 64 := by
  have e : Lib.ctz 64 x = Lib.ctzFrom 64 x := if_neg h0
  obtain ⟨a, b⟩ := ctzFrom_bits 64 x (by omega) h
  rw [e]
  refine ⟨a, b, ?_⟩
  rw [← e]
  exact (Lib.lowest_bit 64 x h0 h).2
def turn (on : Bool) (x : Nat) : Nat := if on = true then x else 18446744073709551615 - x
theorem turn_lt (on : Bool) {x : Nat} (h : x < 18446744073709551616) : turn on x < 18446744073709551616 := by
  unfold turn; split <;> omega
theorem turn_bit (on : Bool) {x : Nat} (h : x < 18446744073709551616) {i : Nat} (hi : i < 64) : (turn on x).testBit i = (x.testBit i == on) := by
  unfold turn
  cases on
  · rw [if_neg (by simp)]
    have := Nat.testBit_two_pow_sub_succ (x := x) (n := 64) h i
    rw [show (2 : Nat) ^ 64 - (x + 1) = 18446744073709551615 - x by omega] at this
    rw [this, decide_eq_true hi]
    cases x.testBit i <;> rfl
  · rw [if_pos rfl]
    cases x.testBit i <;> rfl
theorem xor_all (x : Nat) (h : x < 18446744073709551616) : bits .xor .u64 18446744073709551615 (x : Int) = ((18446744073709551615 - x : Nat) : Int) := by
  have hx : 18446744073709551615 ^^^ x = 18446744073709551615 - x := by
    apply Nat.eq_of_testBit_eq
    intro i
    have e1 : (18446744073709551615 : Nat) = 2 ^ 64 - 1 := by decide
    have := Nat.testBit_two_pow_sub_succ (x := x) (n := 64) h i
    rw [show (2 : Nat) ^ 64 - (x + 1) = 18446744073709551615 - x by omega] at this
    rw [this, Nat.testBit_xor, e1, Nat.testBit_two_pow_sub_one]
    by_cases hi : i < 64
    · rw [decide_eq_true hi]
      cases x.testBit i <;> rfl
    · rw [decide_eq_false hi, Nat.testBit_lt_two_pow (Nat.lt_of_lt_of_le h (by rw [show (18446744073709551616 : Nat) = 2 ^ 64 by decide]; exact Nat.pow_le_pow_right (by omega) (by omega)))]
      rfl
  have h1 : (BitVec.ofInt 64 (x : Int)).toNat = x := by
    rw [BitVec.ofInt_natCast, BitVec.toNat_ofNat]; exact Nat.mod_eq_of_lt (by omega)
  show IntKind.u64.wrap ((BitVec.ofInt 64 18446744073709551615 ^^^ BitVec.ofInt 64 (x : Int)).toNat : Int) = _
  rw [BitVec.toNat_xor, h1, show (BitVec.ofInt 64 18446744073709551615).toNat = 18446744073709551615 by decide, hx, IntKind.wrap_u64]
  omega
theorem xor_max (x : Nat) (h : x < 18446744073709551616) : bits .xor .u64 (if IntKind.u64.signed = true then -1 else IntKind.u64.max) (x : Int) = ((18446744073709551615 - x : Nat) : Int) := by
  rw [show (if IntKind.u64.signed = true then -1 else IntKind.u64.max) = (18446744073709551615 : Int) from rfl]
  exact xor_all x h
def seekR (s : Nat) (L : List UInt64) (a : Nat) (on : Bool) : Nat := if a < s then seekN (isOn L on) a (s - a) else s
/-- What the search tells at a word: the first place that it finds is not above the size. -/
theorem seek_found {s a j t : Nat} {L : List UInt64} {on : Bool} {x : UInt64} (hc : ∀ n, n < 64 * L.length → s ≤ n → bitL L n = false) (hl : L.length = (s + 63) / 64) (ha : a ≤ j) (hj : j < s) (hx : L[j / 64]? = some x) (hall : ∀ i, a ≤ i → i < j → isOn L on i = false)
    (h1 : (turn on x.toNat / 2 ^ (j % 64)).testBit t = true) (h2 : ∀ i, i < t → (turn on x.toNat / 2 ^ (j % 64)).testBit i = false) (h3 : turn on x.toNat / 2 ^ (j % 64) < 2 ^ (64 - j % 64)) : j + t ≤ s ∧ j + t < j + 64 - j % 64 ∧ seekR s L a on = j + t := by
  have hb : ∀ i, i < 64 - j % 64 → (turn on x.toNat / 2 ^ (j % 64)).testBit i = isOn L on (j + i) := by
    intro i hi
    rw [Nat.testBit_div_two_pow, turn_bit on x.toNat_lt (by omega)]
    unfold isOn bitL
    rw [show (j + i) / 64 = j / 64 by omega, List.getD_eq_getElem?_getD, hx, show (j + i) % 64 = i + j % 64 by omega]
    rfl
  have ht : t < 64 - j % 64 := by
    apply Classical.byContradiction
    intro hn
    rw [Nat.testBit_lt_two_pow (Nat.lt_of_lt_of_le h3 (Nat.pow_le_pow_right (by omega) (by omega)))] at h1
    cases h1
  have hits : isOn L on (j + t) = true := by rw [← hb t ht]; exact h1
  have miss : ∀ i, a ≤ i → i < j + t → isOn L on i = false := by
    intro i h5 h6
    by_cases hij : i < j
    · exact hall i h5 hij
    · have := h2 (i - j) (by omega)
      rw [hb _ (by omega), show j + (i - j) = i by omega] at this
      exact this
  have hle : j + t ≤ s := by
    apply Classical.byContradiction
    intro hn
    cases on with
    | true =>
      have e : bitL L (j + t) = true := by simpa [isOn] using hits
      rw [hc (j + t) (by omega) (by omega)] at e
      cases e
    | false =>
      have e := miss s (by omega) (by omega)
      have e2 : bitL L s = true := by simpa [isOn] using e
      rw [hc s (by omega) (Nat.le_refl _)] at e2
      cases e2
  refine ⟨hle, by omega, ?_⟩
  unfold seekR
  rw [if_pos (by omega)]
  by_cases e : j + t = s
  · rw [e, seek_none (fun i h5 h6 => miss i h5 (by omega))]
    omega
  · exact seek_hit (by omega) (by omega) hits miss
theorem seek_past {j : Nat} {L : List UInt64} {on : Bool} {x : UInt64} (hx : L[j / 64]? = some x) (h : turn on x.toNat / 2 ^ (j % 64) = 0) : ∀ i, j ≤ i → i < j + 64 - j % 64 → isOn L on i = false := by
  intro i h1 h2
  have := high_zero.1 h (i % 64) (by omega)
  rw [turn_bit on x.toNat_lt (by omega)] at this
  unfold isOn bitL
  rw [show i / 64 = j / 64 by omega, List.getD_eq_getElem?_getD, hx]
  exact this
theorem seek_over {s a : Nat} {L : List UInt64} {on : Bool} (h : ∀ i, a ≤ i → i < s → isOn L on i = false) : seekR s L a on = s := by
  unfold seekR
  split
  · rw [seek_none (fun i h1 h2 => h i h1 (by omega))]; omega
  · rfl
theorem TabAt.below {w W : World} (h : TabAt 0 Lib.deBruijn64tab w) (hb : Below w.heap.size w W) (h0 : 0 < w.heap.size) : TabAt 0 Lib.deBruijn64tab W := fun j hj => (hb.cell (p := ⟨0, j, none⟩) h0).trans (h j hj)
theorem TabAt.pos {w : World} (h : TabAt 0 Lib.deBruijn64tab w) : 0 < w.heap.size := lt_of_cell (h 0 (by decide))
set_option maxHeartbeats 2000000 in
set_option maxRecDepth 100000 in
theorem seek_any (s : Nat) (A : Option Addr) (c : Nat) (L : List UInt64) (a : Nat) (on : Bool) (w : World) (hs : s ≤ 4096) (hl : L.length = (s + 63) / 64) (hc : ∀ n, n < 64 * L.length → s ≤ n → bitL L n = false) (hr : RQ w A L) (hT : TabAt 0 Lib.deBruijn64tab w) :
    Calls Tryd.prog 43 #[.agg #[.int .i64 (s : Int), .slice A L.length c], .int .i64 (a : Int), .bool on] w fun e w' => e = .returned (.int .i64 (seekR s L a on : Int)) ∧ Below w.heap.size w w' := by
  have BX := Lib.hid (bx2 w (.int .i64 (s : Int)) (.slice A L.length c) 27 (Below.refl _ _))
  have B0 := Lib.hid ((Below.refl _ w).alloc (Nat.le_refl _) (.cells #[.int .i64 (s : Int), .slice A L.length c] 27))
  obtain ⟨x0, x1⟩ := BX.out
  have HR := Lib.hid (hr.below B0.out)
  have HT := Lib.hid (TabAt.below hT B0.out (TabAt.pos hT))
  have HF := Lib.hid (fun j t x h1 h2 h3 h4 h5 h6 h7 => seek_found (s := s) (a := a) (j := j) (t := t) (L := L) (on := on) (x := x) hc hl h1 h2 h3 h4 h5 h6 h7)
  have HO := Lib.hid (fun h => seek_over (s := s) (a := a) (L := L) (on := on) h)
  obtain ⟨N, hN⟩ : ∃ N, N = L.length := ⟨_, rfl⟩
  have HN := Lib.hid hN
  have hNs : N = (s + 63) / 64 := by omega
  have HNS := Lib.hid hNs
  rw [← hN] at x0 x1 B0 ⊢
  rw [← hN] at HR HT BX
  clear hr hT hc hl hN hNs
  go_enter Tryd.func43, Tryd.ntmps43
  go_wp2
  generalize w.alloc (.cells #[.int .i64 (s : Int), .slice A N c] 27) = V at *
  go_loop [7, 8, 9] (fun i _ _ => ∃ j : Nat, a ≤ j ∧ (j ≤ 4160 ∨ j = a) ∧ i = .int .i64 (j : Int) ∧ (∀ i, a ≤ i → i < j → i < s → isOn L on i = false)) (fun i _ _ => 4160 - (RowKit.intOf i).toNat)
  case atStart => exact ⟨a, Nat.le_refl _, .inr rfl, rfl, fun i h1 h2 => by omega⟩
  case round =>
    obtain ⟨j, hj, hjm, rfl, hall⟩ := hrel
    have HALL := Lib.hid hall
    clear hall hjm
    by_cases hlt : j < s
    · have hlt' : (j : Int) < (s : Int) := by omega
      obtain ⟨ad, x, rfl, hx, cx⟩ := HR.out.at_ (k := j / 64) (by rw [← HN.out, HNS.out]; omega)
      have hq : (j : Int).tdiv 64 = ((j / 64 : Nat) : Int) := tdiv64 j
      have hq2 : (j : Int) / 64 = ((j / 64 : Nat) : Int) := by omega
      have hm2 : (j : Int).tmod 64 = ((j % 64 : Nat) : Int) := tmod64 j
      have hqN : ((j / 64 : Nat) : Int) < (N : Int) := by have := HNS.out; omega
      have hq64 : j / 64 < 64 := by omega
      have hm64 : j % 64 < 64 := by omega
      have KX := xor_max x.toNat x.toNat_lt
      have HX := Lib.hid hx
      have HJ := Lib.hid (show j = 64 * (j / 64) + j % 64 from by omega)
      obtain ⟨y, hy⟩ : ∃ y, y = turn on x.toNat := ⟨_, rfl⟩
      have hylt : y < 18446744073709551616 := by rw [hy]; exact turn_lt on x.toNat_lt
      obtain ⟨z, hz⟩ : ∃ z, z = y / 2 ^ (j % 64) := ⟨_, rfl⟩
      have hzlt : z < 18446744073709551616 := by rw [hz]; exact Nat.lt_of_le_of_lt (Nat.div_le_self _ _) hylt
      have KZ : (y : Int) / 2 ^ (j % 64) = (z : Int) := by rw [shr_nat, hz]
      have HZ := Lib.hid hz
      have HY := Lib.hid hy
      clear hx hz hy
      have HP := Lib.hid (fun (h : turn on x.toNat / 2 ^ (j % 64) = 0) => seek_past (on := on) HX.out h)
      have HG := Lib.hid (fun t => HF.out j t x hj hlt HX.out (fun i h1 h2 => HALL.out i h1 h2 (by omega)))
      rw [← HY.out, ← HZ.out] at HP HG
      have HZ3 : Hid (z < 2 ^ (64 - j % 64)) := Lib.hid (by
        rw [HZ.out]
        refine Nat.div_lt_of_lt_mul ?_
        rw [← Nat.pow_add, show j % 64 + (64 - j % 64) = 64 by omega]
        exact hylt)
      have HYC : Hid ((on = true ∧ y = x.toNat) ∨ (on = false ∧ y = 18446744073709551615 - x.toNat)) := Lib.hid (by
        have h := HY.out
        cases on
        · exact .inr ⟨rfl, h⟩
        · exact .inl ⟨rfl, h⟩)
      generalize j / 64 = jq at *
      generalize j % 64 = jm at *
      clear HY HZ HF
      by_cases hz0 : z = 0
      · subst hz0
        have HP2 := Lib.hid (HP.out rfl)
        clear HP HG
        rcases HYC.out with ⟨rfl, rfl⟩ | ⟨rfl, hy⟩
        · clear HYC
          go_wp2
          go_round
          case rel =>
            refine ⟨j + 64 - jm, by omega, .inl (by have := HJ.out; omega), congrArg (Value.int .i64) (by omega), fun i h1 h2 h3 => ?_⟩
            by_cases hij : i < j
            · exact HALL.out i h1 hij h3
            · exact HP2.out i (by omega) h2
          case measure =>
            rw [show (j : Int) + (64 - (jm : Int)) = ((j + 64 - jm : Nat) : Int) by omega]
            simp only [RowKit.intOf, Int.toNat_natCast]
            omega
        · rw [← hy] at KX
          clear HYC hy
          go_wp2
          go_round
          case rel =>
            refine ⟨j + 64 - jm, by omega, .inl (by have := HJ.out; omega), congrArg (Value.int .i64) (by omega), fun i h1 h2 h3 => ?_⟩
            by_cases hij : i < j
            · exact HALL.out i h1 hij h3
            · exact HP2.out i (by omega) h2
          case measure =>
            rw [show (j : Int) + (64 - (jm : Int)) = ((j + 64 - jm : Nat) : Int) by omega]
            simp only [RowKit.intOf, Int.toNat_natCast]
            omega
      · have KT := Lib.hid (tz_any z V hzlt hz0 HT.out)
        obtain ⟨c1, c2, c3⟩ := ctz_bits hz0 hzlt
        obtain ⟨g1, g2, g3⟩ := HG.out _ c1 c2 HZ3.out
        have G3 := Lib.hid g3
        have hne : ((z : Int) != 0) = true := by simp; omega
        generalize Lib.ctz 64 z = t at *
        clear c1 c2 g3 HP HG hz0
        rcases HYC.out with ⟨rfl, rfl⟩ | ⟨rfl, hy⟩
        · clear HYC
          go_wp2_with fail
          refine KT.out.mono ?_
          rintro e w1 ⟨rfl, rfl⟩
          go_wp2
          go_ret
          rw [G3.out]
          exact ⟨rfl, B0.out⟩
        · rw [← hy] at KX
          clear HYC hy
          go_wp2_with fail
          refine KT.out.mono ?_
          rintro e w1 ⟨rfl, rfl⟩
          go_wp2
          go_ret
          rw [G3.out]
          exact ⟨rfl, B0.out⟩
    · have hle : s ≤ j := by omega
      have hd : decide ((j : Int) < (s : Int)) = false := by simp; omega
      have T := Lib.hid (HO.out fun i h1 h2 => HALL.out i h1 (by omega) h2)
      go_wp2
      go_ret
      rw [T.out]
      exact ⟨rfl, B0.out⟩
end Go.Proofs.YtmmehomobmoapaaDoor
