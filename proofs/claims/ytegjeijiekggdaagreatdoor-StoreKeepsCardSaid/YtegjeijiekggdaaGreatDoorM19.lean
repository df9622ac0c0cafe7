/- Joined: QL QM QN. -/
import Derived.Test.YtegjeijiekggdaaGreatDoorM18
import Derived.Deep.Cut
section
/- The package bitmap: the search for the next number. -/
namespace Go.Proofs.YtegjeijiekggdaaGreatDoor
open Go.RowKit
set_option linter.unusedVariables false
set_option linter.unusedSimpArgs false
theorem ctzFrom_bits : ∀ (f x : Nat), 0 < x → x < 2 ^ f → x.testBit (Lib.ctzFrom f x) = true ∧ ∀ i, i < Lib.ctzFrom f x → x.testBit i = false
  | 0, x, h0, h => by simp at h; omega
  | f + 1, x, h0, h => by
    unfold Lib.ctzFrom
    by_cases h1 : x % 2 = 1
    · rw [if_pos h1]
      exact ⟨by rw [Nat.testBit_zero]; exact decide_eq_true h1, fun i hi => by omega⟩
    · rw [if_neg h1]
      obtain ⟨a, b⟩ := ctzFrom_bits f (x / 2) (by omega) (by rw [Nat.pow_succ] at h; omega)
      refine ⟨by rw [Nat.add_comm, Nat.testBit_succ]; exact a, fun i hi => ?_⟩
      cases i with
      | zero => rw [Nat.testBit_zero]; exact decide_eq_false h1
      | succ i => rw [Nat.testBit_succ]; exact b i (by omega)
theorem ctz_bits {x : Nat} (h0 : x ≠ 0) (h : x < 18446744073709551616) : x.testBit (Lib.ctz 64 x) = true ∧ (∀ i, i < Lib.ctz 64 x → x.testBit i = false) ∧ Lib.ctz 64 x < 64 := by
  have e : Lib.ctz 64 x = Lib.ctzFrom 64 x := if_neg h0
  obtain ⟨a, b⟩ := ctzFrom_bits 64 x (by omega) h
  rw [e]
  refine ⟨a, b, ?_⟩
  rw [← e]
  exact (Lib.lowest_bit 64 x h0 h).2
def turn (on : Bool) (x : Nat) : Nat := if on = true then x else 18446744073709551615 - x
theorem turn_lt (on : Bool) {x : Nat} (h : x < 18446744073709551616) : turn on x < 18446744073709551616 := by
  unfold turn; split <;> omega
theorem turn_bit (on : Bool) {x : Nat} (h : x < 18446744073709551616) {i : Nat} (hi : i < 64) : (turn on x).testBit i = (x.testBit i == on) := by
  unfold turn
  cases on
  · rw [if_neg (by simp)]
    have := Nat.testBit_two_pow_sub_succ (x := x) (n := 64) h i
    rw [show (2 : Nat) ^ 64 - (x + 1) = 18446744073709551615 - x by omega] at this
    rw [this, decide_eq_true hi]
    cases x.testBit i <;> rfl
  · rw [if_pos rfl]
    cases x.testBit i <;> rfl
theorem xor_all (x : Nat) (h : x < 18446744073709551616) : bits .xor .u64 18446744073709551615 (x : Int) = ((18446744073709551615 - x : Nat) : Int) := by
  have hx : 18446744073709551615 ^^^ x = 18446744073709551615 - x := by
    apply Nat.eq_of_testBit_eq
    intro i
    have e1 : (18446744073709551615 : Nat) = 2 ^ 64 - 1 := by decide
    have := Nat.testBit_two_pow_sub_succ (x := x) (n := 64) h i
    rw [show (2 : Nat) ^ 64 - (x + 1) = 18446744073709551615 - x by omega] at this
    rw [this, Nat.testBit_xor, e1, Nat.testBit_two_pow_sub_one]
    by_cases hi : i < 64
    · rw [decide_eq_true hi]
      cases x.testBit i <;> rfl
    · rw [decide_eq_false hi, Nat.testBit_lt_two_pow (Nat.lt_of_lt_of_le h (by rw [show (18446744073709551616 : Nat) = 2 ^ 64 by decide]; exact Nat.pow_le_pow_right (by omega) (by omega)))]
      rfl
  have h1 : (BitVec.ofInt 64 (x : Int)).toNat = x := by
    rw [BitVec.ofInt_natCast, BitVec.toNat_ofNat]; exact Nat.mod_eq_of_lt (by omega)
  show IntKind.u64.wrap ((BitVec.ofInt 64 18446744073709551615 ^^^ BitVec.ofInt 64 (x : Int)).toNat : Int) = _
  rw [BitVec.toNat_xor, h1, show (BitVec.ofInt 64 18446744073709551615).toNat = 18446744073709551615 by decide, hx, IntKind.wrap_u64]
  omega
theorem xor_max (x : Nat) (h : x < 18446744073709551616) : bits .xor .u64 (if IntKind.u64.signed = true then -1 else IntKind.u64.max) (x : Int) = ((18446744073709551615 - x : Nat) : Int) := by
  rw [show (if IntKind.u64.signed = true then -1 else IntKind.u64.max) = (18446744073709551615 : Int) from rfl]
  exact xor_all x h
def seekR (s : Nat) (L : List UInt64) (a : Nat) (on : Bool) : Nat := if a < s then seekN (isOn L on) a (s - a) else s
/-- What the search tells at a word: the first place that it finds is not above the size. -/
theorem seek_found {s a j t : Nat} {L : List UInt64} {on : Bool} {x : UInt64} (hc : ∀ n, n < 64 * L.length → s ≤ n → bitL L n = false) (hl : L.length = (s + 63) / 64) (ha : a ≤ j) (hj : j < s) (hx : L[j / 64]? = some x) (hall : ∀ i, a ≤ i → i < j → isOn L on i = false)
    (h1 : (turn on x.toNat / 2 ^ (j % 64)).testBit t = true) (h2 : ∀ i, i < t → (turn on x.toNat / 2 ^ (j % 64)).testBit i = false) (h3 : turn on x.toNat / 2 ^ (j % 64) < 2 ^ (64 - j % 64)) : j + t ≤ s ∧ j + t < j + 64 - j % 64 ∧ seekR s L a on = j + t := by
  have hb : ∀ i, i < 64 - j % 64 → (turn on x.toNat / 2 ^ (j % 64)).testBit i = isOn L on (j + i) := by
    intro i hi
    rw [Nat.testBit_div_two_pow, turn_bit on x.toNat_lt (by omega)]
    unfold isOn bitL
    rw [show (j + i) / 64 = j / 64 by omega, List.getD_eq_getElem?_getD, hx, show (j + i) % 64 = i + j % 64 by omega]
    rfl
  have ht : t < 64 - j % 64 := by
    apply Classical.byContradiction
    intro hn
    rw [Nat.testBit_lt_two_pow (Nat.lt_of_lt_of_le h3 (Nat.pow_le_pow_right (by omega) (by omega)))] at h1
    cases h1
  have hits : isOn L on (j + t) = true := by rw [← hb t ht]; exact h1
  have miss : ∀ i, a ≤ i → i < j + t → isOn L on i = false := by
    intro i h5 h6
    by_cases hij : i < j
    · exact hall i h5 hij
    · have := h2 (i - j) (by omega)
      rw [hb _ (by omega), show j + (i - j) = i by omega] at this
      exact this
  have hle : j + t ≤ s := by
    apply Classical.byContradiction
    intro hn
    cases on with
    | true =>
      have e : bitL L (j + t) = true := by simpa [isOn] using hits
      rw [hc (j + t) (by omega) (by omega)] at e
      cases e
    | false =>
      have e := miss s (by omega) (by omega)
      have e2 : bitL L s = true := by simpa [isOn] using e
      rw [hc s (by omega) (Nat.le_refl _)] at e2
      cases e2
  refine ⟨hle, by omega, ?_⟩
  unfold seekR
  rw [if_pos (by omega)]
  by_cases e : j + t = s
  · rw [e, seek_none (fun i h5 h6 => miss i h5 (by omega))]
    omega
  · exact seek_hit (by omega) (by omega) hits miss
theorem seek_past {j : Nat} {L : List UInt64} {on : Bool} {x : UInt64} (hx : L[j / 64]? = some x) (h : turn on x.toNat / 2 ^ (j % 64) = 0) : ∀ i, j ≤ i → i < j + 64 - j % 64 → isOn L on i = false := by
  intro i h1 h2
  have := high_zero.1 h (i % 64) (by omega)
  rw [turn_bit on x.toNat_lt (by omega)] at this
  unfold isOn bitL
  rw [show i / 64 = j / 64 by omega, List.getD_eq_getElem?_getD, hx]
  exact this
theorem seek_over {s a : Nat} {L : List UInt64} {on : Bool} (h : ∀ i, a ≤ i → i < s → isOn L on i = false) : seekR s L a on = s := by
  unfold seekR
  split
  · rw [seek_none (fun i h1 h2 => h i h1 (by omega))]; omega
  · rfl
theorem TabAt.below {w W : World} (h : TabAt 0 Lib.deBruijn64tab w) (hb : Below w.heap.size w W) (h0 : 0 < w.heap.size) : TabAt 0 Lib.deBruijn64tab W := fun j hj => (hb.cell (p := ⟨0, j, none⟩) h0).trans (h j hj)
theorem TabAt.pos {w : World} (h : TabAt 0 Lib.deBruijn64tab w) : 0 < w.heap.size := lt_of_cell (h 0 (by decide))
set_option maxHeartbeats 2000000 in
set_option maxRecDepth 100000 in
theorem seek_any (s : Nat) (A : Option Addr) (c : Nat) (L : List UInt64) (a : Nat) (on : Bool) (w : World) (hs : s ≤ 4096) (hl : L.length = (s + 63) / 64) (hc : ∀ n, n < 64 * L.length → s ≤ n → bitL L n = false) (hr : RQ w A L) (hT : TabAt 0 Lib.deBruijn64tab w) :
    Calls Tryz.prog 116 #[.agg #[.int .i64 (s : Int), .slice A L.length c], .int .i64 (a : Int), .bool on] w fun e w' => e = .returned (.int .i64 (seekR s L a on : Int)) ∧ Below w.heap.size w w' := by
  have BX := Lib.hid (bx2 w (.int .i64 (s : Int)) (.slice A L.length c) 64 (Below.refl _ _))
  have B0 := Lib.hid ((Below.refl _ w).alloc (Nat.le_refl _) (.cells #[.int .i64 (s : Int), .slice A L.length c] 64))
  obtain ⟨x0, x1⟩ := BX.out
  have HR := Lib.hid (hr.below B0.out)
  have HT := Lib.hid (TabAt.below hT B0.out (TabAt.pos hT))
  have HF := Lib.hid (fun j t x h1 h2 h3 h4 h5 h6 h7 => seek_found (s := s) (a := a) (j := j) (t := t) (L := L) (on := on) (x := x) hc hl h1 h2 h3 h4 h5 h6 h7)
  have HO := Lib.hid (fun h => seek_over (s := s) (a := a) (L := L) (on := on) h)
  obtain ⟨N, hN⟩ : ∃ N, N = L.length := ⟨_, rfl⟩
  have HN := Lib.hid hN
  have hNs : N = (s + 63) / 64 := by omega
  have HNS := Lib.hid hNs
  rw [← hN] at x0 x1 B0 ⊢
  rw [← hN] at HR HT BX
  clear hr hT hc hl hN hNs
  go_enter Tryz.func116, Tryz.ntmps116
  go_wp2
  generalize w.alloc (.cells #[.int .i64 (s : Int), .slice A N c] 64) = V at *
  go_loop [7, 8, 9] (fun i _ _ => ∃ j : Nat, a ≤ j ∧ (j ≤ 4160 ∨ j = a) ∧ i = .int .i64 (j : Int) ∧ (∀ i, a ≤ i → i < j → i < s → isOn L on i = false)) (fun i _ _ => 4160 - (RowKit.intOf i).toNat)
  case atStart => exact ⟨a, Nat.le_refl _, .inr rfl, rfl, fun i h1 h2 => by omega⟩
  case round =>
    obtain ⟨j, hj, hjm, rfl, hall⟩ := hrel
    have HALL := Lib.hid hall
    clear hall hjm
    by_cases hlt : j < s
    · have hlt' : (j : Int) < (s : Int) := by omega
      obtain ⟨ad, x, rfl, hx, cx⟩ := HR.out.at_ (k := j / 64) (by rw [← HN.out, HNS.out]; omega)
      have hq : (j : Int).tdiv 64 = ((j / 64 : Nat) : Int) := tdiv64 j
      have hq2 : (j : Int) / 64 = ((j / 64 : Nat) : Int) := by omega
      have hm2 : (j : Int).tmod 64 = ((j % 64 : Nat) : Int) := tmod64 j
      have hqN : ((j / 64 : Nat) : Int) < (N : Int) := by have := HNS.out; omega
      have hq64 : j / 64 < 64 := by omega
      have hm64 : j % 64 < 64 := by omega
      have KX := xor_max x.toNat x.toNat_lt
      have HX := Lib.hid hx
      have HJ := Lib.hid (show j = 64 * (j / 64) + j % 64 from by omega)
      obtain ⟨y, hy⟩ : ∃ y, y = turn on x.toNat := ⟨_, rfl⟩
      have hylt : y < 18446744073709551616 := by rw [hy]; exact turn_lt on x.toNat_lt
      obtain ⟨z, hz⟩ : ∃ z, z = y / 2 ^ (j % 64) := ⟨_, rfl⟩
      have hzlt : z < 18446744073709551616 := by rw [hz]; exact Nat.lt_of_le_of_lt (Nat.div_le_self _ _) hylt
      have KZ : (y : Int) / 2 ^ (j % 64) = (z : Int) := by rw [shr_nat, hz]
      have HZ := Lib.hid hz
      have HY := Lib.hid hy
      clear hx hz hy
      have HP := Lib.hid (fun (h : turn on x.toNat / 2 ^ (j % 64) = 0) => seek_past (on := on) HX.out h)
      have HG := Lib.hid (fun t => HF.out j t x hj hlt HX.out (fun i h1 h2 => HALL.out i h1 h2 (by omega)))
      rw [← HY.out, ← HZ.out] at HP HG
      have HZ3 : Hid (z < 2 ^ (64 - j % 64)) := Lib.hid (by
        rw [HZ.out]
        refine Nat.div_lt_of_lt_mul ?_
        rw [← Nat.pow_add, show j % 64 + (64 - j % 64) = 64 by omega]
        exact hylt)
      have HYC : Hid ((on = true ∧ y = x.toNat) ∨ (on = false ∧ y = 18446744073709551615 - x.toNat)) := Lib.hid (by
        have h := HY.out
        cases on
        · exact .inr ⟨rfl, h⟩
        · exact .inl ⟨rfl, h⟩)
      generalize j / 64 = jq at *
      generalize j % 64 = jm at *
      clear HY HZ HF
      by_cases hz0 : z = 0
      · subst hz0
        have HP2 := Lib.hid (HP.out rfl)
        clear HP HG
        rcases HYC.out with ⟨rfl, rfl⟩ | ⟨rfl, hy⟩
        · clear HYC
          go_wp2
          go_round
          case rel =>
            refine ⟨j + 64 - jm, by omega, .inl (by have := HJ.out; omega), congrArg (Value.int .i64) (by omega), fun i h1 h2 h3 => ?_⟩
            by_cases hij : i < j
            · exact HALL.out i h1 hij h3
            · exact HP2.out i (by omega) h2
          case measure =>
            rw [show (j : Int) + (64 - (jm : Int)) = ((j + 64 - jm : Nat) : Int) by omega]
            simp only [RowKit.intOf, Int.toNat_natCast]
            omega
        · rw [← hy] at KX
          clear HYC hy
          go_wp2
          go_round
          case rel =>
            refine ⟨j + 64 - jm, by omega, .inl (by have := HJ.out; omega), congrArg (Value.int .i64) (by omega), fun i h1 h2 h3 => ?_⟩
            by_cases hij : i < j
            · exact HALL.out i h1 hij h3
            · exact HP2.out i (by omega) h2
          case measure =>
            rw [show (j : Int) + (64 - (jm : Int)) = ((j + 64 - jm : Nat) : Int) by omega]
            simp only [RowKit.intOf, Int.toNat_natCast]
            omega
      · have KT := Lib.hid (tz_any z V hzlt hz0 HT.out)
        obtain ⟨c1, c2, c3⟩ := ctz_bits hz0 hzlt
        obtain ⟨g1, g2, g3⟩ := HG.out _ c1 c2 HZ3.out
        have G3 := Lib.hid g3
        have hne : ((z : Int) != 0) = true := by simp; omega
        generalize Lib.ctz 64 z = t at *
        clear c1 c2 g3 HP HG hz0
        rcases HYC.out with ⟨rfl, rfl⟩ | ⟨rfl, hy⟩
        · clear HYC
          go_wp2_with fail
          refine KT.out.mono ?_
          rintro e w1 ⟨rfl, rfl⟩
          go_wp2
          go_ret
          rw [G3.out]
          exact ⟨rfl, B0.out⟩
        · rw [← hy] at KX
          clear HYC hy
          go_wp2_with fail
          refine KT.out.mono ?_
          rintro e w1 ⟨rfl, rfl⟩
          go_wp2
          go_ret
          rw [G3.out]
          exact ⟨rfl, B0.out⟩
    · have hle : s ≤ j := by omega
      have hd : decide ((j : Int) < (s : Int)) = false := by simp; omega
      have T := Lib.hid (HO.out fun i h1 h2 => HALL.out i h1 (by omega) h2)
      go_wp2
      go_ret
      rw [T.out]
      exact ⟨rfl, B0.out⟩
end Go.Proofs.YtegjeijiekggdaaGreatDoor
end
section
/- The package bitmap: Next and Rank. -/
namespace Go.Proofs.YtegjeijiekggdaaGreatDoor
open Go.RowKit
set_option linter.unusedVariables false
set_option linter.unusedSimpArgs false
theorem seekN_le (p : Nat → Bool) : ∀ a k, seekN p a k ≤ a + k
  | a, 0 => Nat.le_refl _
  | a, k + 1 => by
    unfold seekN
    split
    · omega
    · have := seekN_le p (a + 1) k; omega
theorem seekR_next {s a : Nat} {L : List UInt64} {on : Bool} {f : Int} (ho : okB (s : Int) L = true) (hf : f.toNat = a) : (seekR s L a on = s ∧ nextB (s : Int) L f on = false ∧ nextN (s : Int) L f on = 0) ∨ (seekR s L a on < s ∧ nextB (s : Int) L f on = true ∧ nextN (s : Int) L f on = seekR s L a on) := by
  unfold seekR nextN nextB nextR
  rw [ho, hf, Int.toNat_natCast]
  by_cases h : a < s
  · rw [if_pos h, decide_eq_true h]
    have := seekN_le (isOn L on) a (s - a)
    by_cases e : seekN (isOn L on) a (s - a) < s
    · rw [decide_eq_true e]
      exact .inr ⟨e, rfl, rfl⟩
    · rw [decide_eq_false e]
      exact .inl ⟨by omega, rfl, rfl⟩
  · rw [if_neg h, decide_eq_false h]
    exact .inl ⟨rfl, rfl, rfl⟩
set_option maxHeartbeats 1000000 in
set_option maxRecDepth 100000 in
theorem qNext_any (s : Int) (A : Option Addr) (c : Nat) (L : List UInt64) (f : Int) (on : Bool) (w : World) (hr : RQ w A L) (hT : TabAt 0 Lib.deBruijn64tab w) : Calls Tryz.prog 61 #[.agg #[.int .i64 s, .slice A L.length c], .int .i64 f, .bool on] w fun e w' => e = .returned (.tuple #[.int .i64 (nextN s L f on : Int), .bool (nextB s L f on)]) ∧ Below w.heap.size w w' := by
  have HR := Lib.hid hr
  have BX := Lib.hid (fun W h => bx2 w (.int .i64 s) (.slice A L.length c) 64 (W := W) h)
  have B0 := Lib.hid ((Below.refl _ w).alloc (Nat.le_refl _) (.cells #[.int .i64 s, .slice A L.length c] 64))
  obtain ⟨x0, x1⟩ := BX.out _ (Below.refl _ _)
  have KC := fun W (hb : Below w.heap.size w W) => qCheck_any s A c L W (HR.out.below hb)
  obtain ⟨a, ha⟩ : ∃ a, a = f.toNat := ⟨_, rfl⟩
  have hmax : (if (f : Int) < 0 then 0 else f) = (a : Int) := by split <;> omega
  have hmax1 : (if (0 : Int) < f then f else 0) = (a : Int) := by split <;> omega
  have hmax2 : max f (0 : Int) = (a : Int) := by omega
  have hmax3 : (if (f : Int) ≤ 0 then 0 else f) = (a : Int) := by split <;> omega
  rcases chk_cases s L with ⟨h0, h1⟩ | ⟨h0, h1⟩
  · rw [h1] at KC
    have KC := Lib.hid KC
    obtain ⟨m, rfl, hm, hl, hcl⟩ := okB_nat h0
    have KS := Lib.hid (fun W (hb : Below w.heap.size w W) => seek_any m A c L a on W hm hl hcl (HR.out.below hb) (TabAt.below hT hb (TabAt.pos hT)))
    have HS := Lib.hid (seekR_next (on := on) h0 ha.symm)
    generalize nextB (m : Int) L f on = RB at *
    generalize nextN (m : Int) L f on = RN at *
    generalize seekR m L a on = R at *
    generalize L.length = N at *
    clear h0 h1 hl hr ha hT hcl
    go_enter Tryz.func61, Tryz.ntmps61
    go_wp2_with fail
    refine (KC.out _ B0.out).mono ?_
    rintro e w1 ⟨rfl, b1⟩
    have B1 := Lib.hid (B0.out.trans (b1.mono B0.out.size))
    have BV1 := Lib.hid b1
    obtain ⟨y0, y1⟩ := BX.out w1 b1
    clear b1 x0 x1
    go_wp2_with fail
    refine (KS.out _ B1.out).mono ?_
    rintro e w2 ⟨rfl, b2⟩
    have B2 := Lib.hid (B1.out.trans (b2.mono B1.out.size))
    obtain ⟨z0, z1⟩ := BX.out w2 (BV1.out.trans (b2.mono BV1.out.size))
    clear b2 y0 y1
    rcases HS.out with ⟨e1, e2, e3⟩ | ⟨e1, e2, e3⟩
    · have hd : ((R : Int) == (m : Int)) = true := by rw [e1]; simp
      have E2 := Lib.hid e2
      have E3 := Lib.hid e3
      clear e1 e2 e3 HS
      go_wp2
      go_ret2
      rw [E2.out, E3.out]
      exact ⟨rfl, B2.out⟩
    · have hd : ((R : Int) == (m : Int)) = false := by simp; omega
      have E2 := Lib.hid e2
      have E3 := Lib.hid e3
      clear e2 e3 HS
      go_wp2
      go_ret2
      rw [E2.out, E3.out]
      exact ⟨rfl, B2.out⟩
  · rw [h1] at KC
    have KC := Lib.hid KC
    obtain ⟨t1, t2⟩ := next_bad (on := on) (f := f) h0
    rw [t1, t2]
    generalize L.length = N at *
    clear h0 h1 hr ha t1 t2 hT
    go_enter Tryz.func61, Tryz.ntmps61
    go_wp2_with fail
    refine (KC.out _ B0.out).mono ?_
    rintro e w1 ⟨rfl, b1⟩
    have B1 := Lib.hid (B0.out.trans (b1.mono B0.out.size))
    clear b1 x0 x1
    go_wp2
    go_ret2
    exact ⟨rfl, B1.out⟩
theorem shl_nat (x k : Nat) : IntKind.u64.wrap ((x : Int) * 2 ^ k) = ((x * 2 ^ k % 18446744073709551616 : Nat) : Int) := by
  rw [IntKind.wrap_u64, show (x : Int) * 2 ^ k = ((x * 2 ^ k : Nat) : Int) by simp]
  omega
theorem cnt_false {p : Nat → Bool} : ∀ n, (∀ i, i < n → p i = false) → cnt p n = 0
  | 0, _ => rfl
  | n + 1, h => by
    show cnt p n + (p n).toNat = 0
    rw [cnt_false n (fun i hi => h i (by omega)), h n (by omega)]
    rfl
theorem bitL_word {L : List UInt64} {i : Nat} {x : UInt64} (hx : L[i]? = some x) {t : Nat} (ht : t < 64) : bitL L (64 * i + t) = x.toNat.testBit t := by
  unfold bitL
  rw [show (64 * i + t) / 64 = i by omega, show (64 * i + t) % 64 = t by omega, List.getD_eq_getElem?_getD, hx]
  rfl
theorem cnt_word {L : List UInt64} {i : Nat} {x : UInt64} (hx : L[i]? = some x) : cnt (bitL L) (64 * (i + 1)) = cnt (bitL L) (64 * i) + onesOf x.toNat := by
  rw [show 64 * (i + 1) = 64 * i + 64 by omega, cnt_add]
  congr 1
  exact cnt_congr 64 fun t ht => bitL_word hx ht
theorem cnt_part {L : List UInt64} {i p : Nat} {x : UInt64} (hx : L[i]? = some x) (hp : p < 64) : cnt (bitL L) (64 * i + p) = cnt (bitL L) (64 * i) + onesOf (x.toNat * 2 ^ (64 - p) % 18446744073709551616) := by
  rw [cnt_add]
  congr 1
  unfold onesOf
  rw [show (64 : Nat) = (64 - p) + p by omega, cnt_add, show (64 - p) + p = 64 by omega]
  have hb : ∀ i, i < 64 → (x.toNat * 2 ^ (64 - p) % 18446744073709551616).testBit i = (decide (64 - p ≤ i) && x.toNat.testBit (i - (64 - p))) := by
    intro i hi
    rw [show (18446744073709551616 : Nat) = 2 ^ 64 by decide, Nat.testBit_mod_two_pow, Nat.testBit_mul_two_pow, decide_eq_true hi, Bool.true_and]
  rw [cnt_false (64 - p) (fun t ht => by rw [hb t (by omega), decide_eq_false (by omega)]; rfl), Nat.zero_add]
  exact cnt_congr p fun t ht => by
    show bitL L (64 * i + t) = _
    rw [bitL_word hx (by omega), hb _ (by omega), decide_eq_true (by omega), Bool.true_and, show 64 - p + t - (64 - p) = t by omega]
set_option maxHeartbeats 1000000 in
set_option maxRecDepth 100000 in
theorem rank_any (s : Int) (A : Option Addr) (c : Nat) (L : List UInt64) (n : Int) (w : World) (hcap : L.length ≤ c) (hr : RQ w A L) : Calls Tryz.prog 33 #[.agg #[.int .i64 s, .slice A L.length c], .int .i64 n] w fun e w' => e = .returned (.int .i64 (rankB s L n : Int)) ∧ Below w.heap.size w w' := by
  have HR := Lib.hid hr
  have BX := Lib.hid (fun W h => bx2 w (.int .i64 s) (.slice A L.length c) 64 (W := W) h)
  have B0 := Lib.hid ((Below.refl _ w).alloc (Nat.le_refl _) (.cells #[.int .i64 s, .slice A L.length c] 64))
  obtain ⟨x0, x1⟩ := BX.out _ (Below.refl _ _)
  have KC := fun W (hb : Below w.heap.size w W) => qCheck_any s A c L W (HR.out.below hb)
  rcases chk_cases s L with ⟨h0, h1⟩ | ⟨h0, h1⟩
  · rw [h1] at KC
    have KC := Lib.hid KC
    obtain ⟨m, rfl, hm, hl, hcl⟩ := okB_nat h0
    obtain ⟨b, hbe⟩ : ∃ b, b = min n.toNat m := ⟨_, rfl⟩
    have HF : Hid (rankB (m : Int) L n = cnt (bitL L) b) := Lib.hid (by unfold rankB; rw [if_pos h0, Int.toNat_natCast, ← hbe])
    generalize rankB (m : Int) L n = R at *
    have hNc : (L.length : Int) ≤ (c : Int) := by omega
    obtain ⟨N, hN⟩ : ∃ N, N = L.length := ⟨_, rfl⟩
    have HN := Lib.hid hN
    have hbm : b ≤ m := by omega
    have HNM := Lib.hid (show N = (m + 63) / 64 from by omega)
    rw [← hN] at hNc x0 x1 B0 BX KC ⊢
    clear h0 h1 hl hr hcl hN hcap
    by_cases hneg : n < 0
    · have HR0 : Hid (R = 0) := Lib.hid (by rw [HF.out, show b = 0 by omega]; rfl)
      clear hbe
      go_enter Tryz.func33, Tryz.ntmps33
      go_wp2_with fail
      refine (KC.out _ B0.out).mono ?_
      rintro e w1 ⟨rfl, b1⟩
      have B1 := Lib.hid (B0.out.trans (b1.mono B0.out.size))
      obtain ⟨y0, y1⟩ := BX.out w1 b1
      have hm0 : (0 : Int) ≤ (m : Int) := by omega
      clear b1 x0 x1
      go_wp2
      go_loop [5, 7, 23] (fun k _ i => k = .int .i64 0 ∧ i = .int .i64 0) (fun _ _ _ => 0)
      case atStart => exact ⟨rfl, rfl⟩
      case round =>
        obtain ⟨rfl, rfl⟩ := hrel
        go_wp2
        go_ret
        rw [HR0.out]
        exact ⟨rfl, B1.out⟩
    · have H3 : ((b : Int) < (m : Int) ∧ n = (b : Int)) ∨ ((m : Int) < n ∧ m = b) ∨ (n = (m : Int) ∧ m = b) := by omega
      clear hbe
      rcases H3 with ⟨hlt, rfl⟩ | ⟨hlt, rfl⟩ | ⟨rfl, rfl⟩
      · have hq : (b : Int).tdiv 64 = ((b / 64 : Nat) : Int) := tdiv64 _
        have hq2 : (b : Int) / 64 = ((b / 64 : Nat) : Int) := by omega
        have hm2 : (b : Int).tmod 64 = ((b % 64 : Nat) : Int) := tmod64 _
        have hNN := HNM.out
        have hqc : ((b / 64 : Nat) : Int) ≤ (c : Int) := by omega
        have hqN : b / 64 ≤ N := by omega
        have hq64 : b / 64 ≤ 64 := by omega
        have hm64 : b % 64 < 64 := by omega
        have HBD := Lib.hid (show b = 64 * (b / 64) + b % 64 from by omega)
        have HQP := Lib.hid (show 0 < b % 64 → b / 64 < N from by omega)
        clear hNN hneg
        generalize b / 64 = q at *
        generalize b % 64 = p at *
        go_enter Tryz.func33, Tryz.ntmps33
        go_wp2_with fail
        refine (KC.out _ B0.out).mono ?_
        rintro e w1 ⟨rfl, b1⟩
        have B1 := Lib.hid (B0.out.trans (b1.mono B0.out.size))
        have BV1 := Lib.hid b1
        obtain ⟨y0, y1⟩ := BX.out w1 b1
        clear b1 x0 x1
        have R1 := Lib.hid (HR.out.below B1.out)
        go_wp2
        go_loop [5, 7, 23] (fun k _ i => ∃ j : Nat, j ≤ q ∧ i = .int .i64 (j : Int) ∧ k = .int .i64 ((cnt (bitL L) (64 * j) : Nat) : Int)) (fun _ _ i => q - (RowKit.intOf i).toNat)
        case atStart => exact ⟨0, Nat.zero_le _, rfl, rfl⟩
        case round =>
          obtain ⟨j, hj, rfl, rfl⟩ := hrel
          by_cases hjq : j < q
          · have hjq' : (j : Int) < (q : Int) := by omega
            obtain ⟨ad, x, rfl, hx, cx⟩ := R1.out.at_ (k := j) (by rw [← HN.out]; omega)
            have KO := Lib.hid (ones_any x.toNat w1 x.toNat_lt)
            have HW := Lib.hid (cnt_word hx)
            have hcb := cnt_le (bitL L) (64 * j)
            have hob : onesOf x.toNat ≤ 64 := cnt_le _ 64
            clear hx
            generalize onesOf x.toNat = o at *
            generalize cnt (bitL L) (64 * j) = cj at *
            go_wp2_with fail
            refine KO.out.mono ?_
            rintro e w' ⟨rfl, rfl⟩
            go_wp2
            go_round
            case rel => exact ⟨j + 1, by omega, by go_num, by rw [HW.out]; rfl⟩
            case measure => simp [RowKit.intOf]; omega
          · obtain rfl : j = q := by omega
            by_cases hp : 0 < p
            · have hp' : (0 : Int) < (p : Int) := by omega
              have hjN := HQP.out hp
              have hjN' : (j : Int) < (N : Int) := by omega
              obtain ⟨ad, x, rfl, hx, cx⟩ := R1.out.at_ (k := j) (by rw [← HN.out]; omega)
              have KO := Lib.hid (ones_any (x.toNat * 2 ^ (64 - p) % 18446744073709551616) w1 (Nat.mod_lt _ (by omega)))
              have HW := Lib.hid (cnt_part hx hm64)
              have hcb := cnt_le (bitL L) (64 * j)
              have hob : onesOf (x.toNat * 2 ^ (64 - p) % 18446744073709551616) ≤ 64 := cnt_le _ 64
              have hsub : (64 : Int) - (p : Int) = ((64 - p : Nat) : Int) := by omega
              clear hx
              rw [← HBD.out] at HW
              have HF2 := Lib.hid (HF.out.trans HW.out)
              clear HW HF HBD
              generalize onesOf (x.toNat * 2 ^ (64 - p) % 18446744073709551616) = o at *
              generalize cnt (bitL L) (64 * j) = cj at *
              go_wp2_with fail
              rw [shl_nat]
              refine KO.out.mono ?_
              rintro e w' ⟨rfl, rfl⟩
              go_wp2
              go_ret
              rw [HF2.out]
              exact ⟨rfl, B1.out⟩
            · obtain rfl : p = 0 := by omega
              have HF2 := Lib.hid (HF.out.trans (by rw [HBD.out, Nat.add_zero]))
              clear HF HBD
              go_wp2
              go_ret
              rw [HF2.out]
              exact ⟨rfl, B1.out⟩
      all_goals
        have hq : (m : Int).tdiv 64 = ((m / 64 : Nat) : Int) := tdiv64 _
        have hq2 : (m : Int) / 64 = ((m / 64 : Nat) : Int) := by omega
        have hm2 : (m : Int).tmod 64 = ((m % 64 : Nat) : Int) := tmod64 _
        have hNN := HNM.out
        have hqc : ((m / 64 : Nat) : Int) ≤ (c : Int) := by omega
        have hqN : m / 64 ≤ N := by omega
        have hq64 : m / 64 ≤ 64 := by omega
        have hm64 : m % 64 < 64 := by omega
        have HBD := Lib.hid (show m = 64 * (m / 64) + m % 64 from by omega)
        have HQP := Lib.hid (show 0 < m % 64 → m / 64 < N from by omega)
        clear hNN hneg
        generalize m / 64 = q at *
        generalize m % 64 = p at *
        go_enter Tryz.func33, Tryz.ntmps33
        go_wp2_with fail
        refine (KC.out _ B0.out).mono ?_
        rintro e w1 ⟨rfl, b1⟩
        have B1 := Lib.hid (B0.out.trans (b1.mono B0.out.size))
        have BV1 := Lib.hid b1
        obtain ⟨y0, y1⟩ := BX.out w1 b1
        clear b1 x0 x1
        have R1 := Lib.hid (HR.out.below B1.out)
        go_wp2
        go_loop [5, 7, 23] (fun k _ i => ∃ j : Nat, j ≤ q ∧ i = .int .i64 (j : Int) ∧ k = .int .i64 ((cnt (bitL L) (64 * j) : Nat) : Int)) (fun _ _ i => q - (RowKit.intOf i).toNat)
        case atStart => exact ⟨0, Nat.zero_le _, rfl, rfl⟩
        case round =>
          obtain ⟨j, hj, rfl, rfl⟩ := hrel
          by_cases hjq : j < q
          · have hjq' : (j : Int) < (q : Int) := by omega
            obtain ⟨ad, x, rfl, hx, cx⟩ := R1.out.at_ (k := j) (by rw [← HN.out]; omega)
            have KO := Lib.hid (ones_any x.toNat w1 x.toNat_lt)
            have HW := Lib.hid (cnt_word hx)
            have hcb := cnt_le (bitL L) (64 * j)
            have hob : onesOf x.toNat ≤ 64 := cnt_le _ 64
            clear hx
            generalize onesOf x.toNat = o at *
            generalize cnt (bitL L) (64 * j) = cj at *
            go_wp2_with fail
            refine KO.out.mono ?_
            rintro e w' ⟨rfl, rfl⟩
            go_wp2
            go_round
            case rel => exact ⟨j + 1, by omega, by go_num, by rw [HW.out]; rfl⟩
            case measure => simp [RowKit.intOf]; omega
          · obtain rfl : j = q := by omega
            by_cases hp : 0 < p
            · have hp' : (0 : Int) < (p : Int) := by omega
              have hjN := HQP.out hp
              have hjN' : (j : Int) < (N : Int) := by omega
              obtain ⟨ad, x, rfl, hx, cx⟩ := R1.out.at_ (k := j) (by rw [← HN.out]; omega)
              have KO := Lib.hid (ones_any (x.toNat * 2 ^ (64 - p) % 18446744073709551616) w1 (Nat.mod_lt _ (by omega)))
              have HW := Lib.hid (cnt_part hx hm64)
              have hcb := cnt_le (bitL L) (64 * j)
              have hob : onesOf (x.toNat * 2 ^ (64 - p) % 18446744073709551616) ≤ 64 := cnt_le _ 64
              have hsub : (64 : Int) - (p : Int) = ((64 - p : Nat) : Int) := by omega
              clear hx
              rw [← HBD.out] at HW
              have HF2 := Lib.hid (HF.out.trans HW.out)
              clear HW HF HBD
              generalize onesOf (x.toNat * 2 ^ (64 - p) % 18446744073709551616) = o at *
              generalize cnt (bitL L) (64 * j) = cj at *
              go_wp2_with fail
              rw [shl_nat]
              refine KO.out.mono ?_
              rintro e w' ⟨rfl, rfl⟩
              go_wp2
              go_ret
              rw [HF2.out]
              exact ⟨rfl, B1.out⟩
            · obtain rfl : p = 0 := by omega
              have HF2 := Lib.hid (HF.out.trans (by rw [HBD.out, Nat.add_zero]))
              clear HF HBD
              go_wp2
              go_ret
              rw [HF2.out]
              exact ⟨rfl, B1.out⟩
  · rw [h1] at KC
    have KC := Lib.hid KC
    have HF : Hid (rankB s L n = 0) := Lib.hid (by unfold rankB; rw [if_neg (by rw [h0]; simp)])
    generalize rankB s L n = R at *
    generalize L.length = N at *
    clear h0 h1 hr
    go_enter Tryz.func33, Tryz.ntmps33
    go_wp2_with fail
    refine (KC.out _ B0.out).mono ?_
    rintro e w1 ⟨rfl, b1⟩
    have B1 := Lib.hid (B0.out.trans (b1.mono B0.out.size))
    clear b1 x0 x1
    go_wp2
    go_ret
    rw [HF.out]
    exact ⟨rfl, B1.out⟩
end Go.Proofs.YtegjeijiekggdaaGreatDoor
end
section
/- The package bitmap: Select. -/
namespace Go.Proofs.YtegjeijiekggdaaGreatDoor
open Go.RowKit
set_option linter.unusedVariables false
set_option linter.unusedSimpArgs false
theorem cnt_mono (p : Nat → Bool) {a b : Nat} (h : a ≤ b) : cnt p a ≤ cnt p b := by
  obtain ⟨c, rfl⟩ := Nat.le.dest h
  rw [cnt_add]
  omega
theorem cnt_step {p : Nat → Bool} {a b : Nat} (h : a < b) (hp : p a = true) : cnt p a + 1 ≤ cnt p b := by
  have h1 : cnt p (a + 1) = cnt p a + (p a).toNat := rfl
  rw [hp] at h1
  have h2 := cnt_mono p (show a + 1 ≤ b from h)
  have h3 : true.toNat = 1 := rfl
  omega
theorem rank_ex {p : Nat → Bool} {j : Nat} : ∀ {n : Nat}, j < cnt p n → ∃ i, i < n ∧ p i = true ∧ cnt p i = j
  | 0, h => by cases h
  | n + 1, h => by
    have h1 : cnt p (n + 1) = cnt p n + (p n).toNat := rfl
    by_cases h2 : j < cnt p n
    · obtain ⟨i, a, b, c⟩ := rank_ex h2
      exact ⟨i, by omega, b, c⟩
    · cases hp : p n with
      | false => rw [hp] at h1; have h3 : false.toNat = 0 := rfl; omega
      | true => rw [hp] at h1; have h3 : true.toNat = 1 := rfl; exact ⟨n, by omega, hp, by omega⟩
theorem clear_bit : ∀ (f x : Nat), 0 < x → x < 2 ^ f → ∀ i, (x &&& (x - 1)).testBit i = (x.testBit i && decide (i ≠ Lib.ctzFrom f x))
  | 0, x, h0, h, i => by simp at h; omega
  | f + 1, x, h0, h, i => by
    unfold Lib.ctzFrom
    rw [Nat.testBit_and]
    by_cases h1 : x % 2 = 1
    · rw [if_pos h1]
      cases i with
      | zero => rw [Nat.testBit_zero, Nat.testBit_zero, decide_eq_false (show ¬ (x - 1) % 2 = 1 by omega)]; simp
      | succ i => rw [Nat.testBit_succ, Nat.testBit_succ, show (x - 1) / 2 = x / 2 by omega]; simp
    · rw [if_neg h1]
      cases i with
      | zero => rw [Nat.testBit_zero, decide_eq_false h1]; simp
      | succ i =>
        rw [Nat.testBit_succ, Nat.testBit_succ, show (x - 1) / 2 = x / 2 - 1 by omega, ← Nat.testBit_and, clear_bit f (x / 2) (by omega) (by rw [Nat.pow_succ] at h; omega) i]
        congr 1
        rw [decide_eq_decide]
        omega
theorem clear_ctz {x : Nat} (h0 : x ≠ 0) (h : x < 18446744073709551616) (i : Nat) : (x &&& (x - 1)).testBit i = (x.testBit i && decide (i ≠ Lib.ctz 64 x)) := by
  have e : Lib.ctz 64 x = Lib.ctzFrom 64 x := if_neg h0
  rw [e]
  exact clear_bit 64 x (by omega) h i
/-- What is left of x once the j lowest of its bits are gone. -/
def LeftOf (x j y : Nat) : Prop := ∀ i, y.testBit i = (x.testBit i && decide (j ≤ cnt x.testBit i))
theorem LeftOf.zero (x : Nat) : LeftOf x 0 x := fun i => by simp
theorem LeftOf.ne {x j y : Nat} (h : LeftOf x j y) (hj : j < onesOf x) : y ≠ 0 := by
  obtain ⟨i, _, b, c⟩ := rank_ex hj
  intro e
  have := h i
  rw [b, c, e, Nat.zero_testBit, decide_eq_true (Nat.le_refl _)] at this
  cases this
theorem LeftOf.low {x j y : Nat} (h : LeftOf x j y) (h0 : y ≠ 0) (hy : y < 18446744073709551616) : x.testBit (Lib.ctz 64 y) = true ∧ cnt x.testBit (Lib.ctz 64 y) = j := by
  obtain ⟨a, b, _⟩ := ctz_bits h0 hy
  generalize Lib.ctz 64 y = t at *
  have h1 := h t
  rw [a] at h1
  have h2 : x.testBit t = true ∧ j ≤ cnt x.testBit t := by
    have := h1.symm
    simp only [Bool.and_eq_true, decide_eq_true_eq] at this
    exact this
  refine ⟨h2.1, ?_⟩
  apply Nat.le_antisymm _ h2.2
  apply Classical.byContradiction
  intro hn
  obtain ⟨i, hi, c, d⟩ := rank_ex (show j < cnt x.testBit t by omega)
  have h3 := h i
  rw [b i hi, c, d, decide_eq_true (Nat.le_refl _)] at h3
  cases h3
theorem LeftOf.step {x j y : Nat} (h : LeftOf x j y) (h0 : y ≠ 0) (hy : y < 18446744073709551616) : LeftOf x (j + 1) (y &&& (y - 1)) := by
  obtain ⟨a, b⟩ := h.low h0 hy
  obtain ⟨_, lo, _⟩ := ctz_bits h0 hy
  intro i
  rw [clear_ctz h0 hy, h i]
  cases hx : x.testBit i with
  | false => rfl
  | true =>
    rw [Bool.true_and, Bool.true_and, ← Bool.decide_and, decide_eq_decide]
    generalize Lib.ctz 64 y = t at *
    constructor
    · rintro ⟨h1, h2⟩
      by_cases hlt : i < t
      · have := lo i hlt
        rw [h i, hx, decide_eq_true h1] at this
        cases this
      · have := cnt_step (show t < i by omega) a
        omega
    · intro h1
      refine ⟨by omega, fun e => ?_⟩
      subst e
      omega
theorem hit_word {L : List UInt64} {j t k q : Nat} {x : UInt64} (hx : L[j]? = some x) (ht : t < 64) (hq : q + cnt (bitL L) (64 * j) = k) : hitS L k (64 * j + t) = (x.toNat.testBit t && decide (cnt x.toNat.testBit t = q)) := by
  unfold hitS
  rw [bitL_word hx ht, cnt_add, cnt_congr t (fun i hi => bitL_word hx (by omega))]
  congr 1
  rw [decide_eq_decide]
  show cnt (bitL L) (64 * j) + cnt x.toNat.testBit t = k ↔ _
  omega
end Go.Proofs.YtegjeijiekggdaaGreatDoor
end
