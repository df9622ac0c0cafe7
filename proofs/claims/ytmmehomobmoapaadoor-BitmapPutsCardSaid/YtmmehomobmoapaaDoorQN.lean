/- The package bitmap: Select. -/
import Derived.Test.YtmmehomobmoapaaDoorQM
namespace Go.Proofs.YtmmehomobmoapaaDoor
open Go.RowKit
set_option linter.unusedVariables false
set_option linter.unusedSimpArgs false
theorem cnt_mono (p : Nat → Bool) {a b : Nat} (h : a ≤ b) : cnt p a ≤ cnt p b := by
  obtain ⟨c, rfl⟩ := Nat.le.dest h
  rw [cnt_add]
  omega
theorem cnt_step {p : Nat → Bool} {a b : Nat} (h : a < b) (hp : p a = true) : cnt p a + 1 ≤ cnt p b := by
  have h1 : cnt p (a + 1) = cnt p a + (p a).toNat := rfl
  rw [hp] at h1
  have h2 := cnt_mono p (show a + 1 ≤ b from h)
  have h3 : true.toNat = 1 := rfl
  omega
theorem rank_ex {p : Nat → Bool} {j : Nat} : ∀ {n : Nat}, j < cnt p n → ∃ i, i < n ∧ p i = true ∧ cnt p i = j
  | 0, h => by cases h
  | n + 1, h => by
    have h1 : cnt p (n + 1) = cnt p n + (p n).toNat := rfl
    by_cases h2 : j < cnt p n
    · obtain ⟨i, a, b, c⟩ := rank_ex h2
      exact ⟨i, by omega, b, c⟩
    · cases hp : p n with
      | false => rw [hp] at h1; have h3 : false.toNat = 0 := rfl; omega
      | true => rw [hp] at h1; have h3 : true.toNat = 1 := rfl; exact ⟨n, by omega, hp, by omega⟩
theorem clear_bit : ∀ (f x : Nat), 0 < x → x < 2 ^ f → ∀ i, (x &&& (x - 1)).testBit i = (x.testBit i && decide (i ≠ Lib.ctzFrom f x))
  | 0, x, h0, h, i => by simp at h; omega
  | f + 1, x, h0, h, i => by
    unfold Lib.ctzFrom
    rw [Nat.testBit_and]
    by_cases h1 : x % 2 = 1
    · rw [if_pos h1]
      cases i with
      | zero => rw [Nat.testBit_zero, Nat.testBit_zero, decide_eq_false (show ¬ (x - 1) % 2 = 1 by omega)]; simp
      | succ i => rw [Nat.testBit_succ, Nat.testBit_succ, show (x - 1) / 2 = x / 2 by omega]; simp
    · rw [if_neg h1]
      cases i with
      | zero => rw [Nat.testBit_zero, decide_eq_false h1]; simp
      | succ i =>
        rw [Nat.testBit_succ, Nat.testBit_succ, show (x - 1) / 2 = x / 2 - 1 by omega, ← Nat.testBit_and, clear_bit f (x / 2) (by omega) (by rw [Nat.pow_succ] at h; omega) i]
        congr 1
        rw [decide_eq_decide]
        omega
theorem clear_ctz {x : Nat} (h0 : x ≠ 0) (h : x < 18446744073709551616) (i : Nat) : (x &&& (x - 1)).testBit i = (x.testBit i && decide (i ≠ Lib.ctz 64 x)) := by
  have e : Lib.ctz 64 x = Lib.ctzFrom 64 x := if_neg h0
  rw [e]
  exact clear_bit 64 x (by omega) h i
/-- What is left of x once the j lowest of its bits are gone. -/
def LeftOf (x j y : Nat) : Prop := ∀ i, y.testBit i = (x.testBit i && decide (j ≤ cnt x.testBit i))
theorem LeftOf.zero (x : Nat) : LeftOf x 0 x := fun i => by simp
theorem LeftOf.ne {x j y : Nat} (h : LeftOf x j y) (hj : j < onesOf x) : y ≠ 0 := by
  obtain ⟨i, _, b, c⟩ := rank_ex hj
  intro e
  have := h i
  rw [b, c, e, Nat.zero_testBit, decide_eq_true (Nat.le_refl _)] at this
  cases this
theorem LeftOf.low {x j y : Nat} (h : LeftOf x j y) (h0 : y ≠ 0) (hy : y < 18446744073709551616) : x.testBit (Lib.ctz 64 y) = true ∧ cnt x.testBit (Lib.ctz 64 y) = j := by
  obtain ⟨a, b, _⟩ := ctz_bits h0 hy
  generalize Lib.ctz 64 y = t at *
  have h1 := h t
  rw [a] at h1
  have h2 : x.testBit t = true ∧ j ≤ cnt x.testBit t := by
    have := h1.symm
    simp only [Bool.and_eq_true, decide_eq_true_eq] at this
    exact this
  refine ⟨h2.1, ?_⟩
  apply Nat.le_antisymm _ h2.2
  apply Classical.byContradiction
  intro hn
  obtain ⟨i, hi, c, d⟩ := rank_ex (show j < cnt x.testBit t by omega)
  have h3 := h i
  rw [b i hi, c, d, decide_eq_true (Nat.le_refl _)] at h3
  cases h3
theorem LeftOf.step {x j y : Nat} (h : LeftOf x j y) (h0 : y ≠ 0) (hy : y < 18446744073709551616) : LeftOf x (j + 1) (y &&& (y - 1)) := by
  obtain ⟨a, b⟩ := h.low h0 hy
  obtain ⟨_, lo, _⟩ := ctz_bits h0 hy
  intro i
  rw [clear_ctz h0 hy, h i]
  cases hx : x.testBit i with
  | false => rfl
  | true =>
    rw [Bool.true_and, Bool.true_and, ← Bool.decide_and, decide_eq_decide]
    generalize Lib.ctz 64 y = t at *
    constructor
    · rintro ⟨h1, h2⟩
      by_cases hlt : i < t
      · have := lo i hlt
        rw [h i, hx, decide_eq_true h1] at this
        cases this
      · have := cnt_step (show t < i by omega) a
        omega
    · intro h1
      refine ⟨by omega, fun e => ?_⟩
      subst e
      omega
set_option maxHeartbeats 1000000 in
set_option maxRecDepth 100000 in
theorem placeOf_any (x k : Nat) (w : World) (hx : x < 18446744073709551616) (hk : k < onesOf x) (hT : TabAt 0 Lib.deBruijn64tab w) : Calls Tryd.prog 45 #[.int .u64 (x : Int), .int .i64 (k : Int)] w fun e w' => ∃ t : Nat, e = .returned (.int .i64 (t : Int)) ∧ x.testBit t = true ∧ cnt x.testBit t = k ∧ t < 64 ∧ w = w' := by
  have hk64 : k < 64 := Nat.lt_of_lt_of_le hk (cnt_le _ 64)
  have HK := Lib.hid hk
  have HT := Lib.hid hT
  clear hk hT
  go_enter Tryd.func45, Tryd.ntmps45
  go_wp2
  go_loop [0, 6] (fun v i => ∃ j y : Nat, j ≤ k ∧ i = .int .i64 (j : Int) ∧ v = .int .u64 (y : Int) ∧ LeftOf x j y ∧ y < 18446744073709551616) (fun _ i => k - (RowKit.intOf i).toNat)
  case atStart => exact ⟨0, x, Nat.zero_le _, rfl, rfl, LeftOf.zero x, hx⟩
  case round =>
    obtain ⟨j, y, hj, rfl, rfl, hl, hy⟩ := hrel
    have HL := Lib.hid hl
    have h0 := hl.ne (Nat.lt_of_le_of_lt hj HK.out)
    clear hl
    by_cases hjk : j < k
    · have hjk' : (j : Int) < (k : Int) := by omega
      have KA : bits .and .u64 (y : Int) ((y : Int) - 1) = ((y &&& (y - 1) : Nat) : Int) := by
        rw [show (y : Int) - 1 = ((y - 1 : Nat) : Int) by omega]
        exact bits_and_u64_nat _ _ hy (by omega)
      have KA2 : IntKind.u64.wrap ((y : Int) - 1) = (y : Int) - 1 := by rw [IntKind.wrap_u64]; omega
      have HS := Lib.hid (HL.out.step h0 hy)
      have HY : Hid (y &&& (y - 1) < 18446744073709551616) := Lib.hid (Nat.lt_of_le_of_lt Nat.and_le_left hy)
      clear h0 hy
      go_wp2
      go_round
      case rel => exact ⟨j + 1, _, by omega, by go_num, by simp only [KA, KA2], HS.out, HY.out⟩
      case measure => simp [RowKit.intOf]; omega
    · obtain rfl : j = k := by omega
      have KT := Lib.hid (tz_any y w hy h0 HT.out)
      obtain ⟨a, b⟩ := HL.out.low h0 hy
      obtain ⟨_, _, c⟩ := ctz_bits h0 hy
      have P := Lib.hid (And.intro a (And.intro b c))
      generalize Lib.ctz 64 y = t at *
      clear a b c h0 hy
      go_wp2_with fail
      refine KT.out.mono ?_
      rintro e w' ⟨rfl, rfl⟩
      go_wp2
      go_ret
      exact ⟨t, rfl, P.out.1, P.out.2.1, P.out.2.2, rfl⟩
theorem hit_word {L : List UInt64} {j t k q : Nat} {x : UInt64} (hx : L[j]? = some x) (ht : t < 64) (hq : q + cnt (bitL L) (64 * j) = k) : hitS L k (64 * j + t) = (x.toNat.testBit t && decide (cnt x.toNat.testBit t = q)) := by
  unfold hitS
  rw [bitL_word hx ht, cnt_add, cnt_congr t (fun i hi => bitL_word hx (by omega))]
  congr 1
  rw [decide_eq_decide]
  show cnt (bitL L) (64 * j) + cnt x.toNat.testBit t = k ↔ _
  omega
set_option maxHeartbeats 1000000 in
set_option maxRecDepth 100000 in
theorem select_any (s : Int) (A : Option Addr) (c : Nat) (L : List UInt64) (k : Int) (w : World) (hi : k ≤ 9223372036854775807) (hr : RQ w A L) (hT : TabAt 0 Lib.deBruijn64tab w) : Calls Tryd.prog 22 #[.agg #[.int .i64 s, .slice A L.length c], .int .i64 k] w fun e w' => e = .returned (.tuple #[.int .i64 (selN s L k : Int), .bool (selB s L k)]) ∧ Below w.heap.size w w' := by
  have HR := Lib.hid hr
  have BX := Lib.hid (fun W h => bx2 w (.int .i64 s) (.slice A L.length c) 27 (W := W) h)
  have B0 := Lib.hid ((Below.refl _ w).alloc (Nat.le_refl _) (.cells #[.int .i64 s, .slice A L.length c] 27))
  obtain ⟨x0, x1⟩ := BX.out _ (Below.refl _ _)
  have KC := fun W (hb : Below w.heap.size w W) => check_any s A c L W (HR.out.below hb)
  rcases chk_cases s L with ⟨h0, h1⟩ | ⟨h0, h1⟩
  · rw [h1] at KC
    have KC := Lib.hid KC
    by_cases hk : 0 ≤ k
    · obtain ⟨k, rfl⟩ := Int.eq_ofNat_of_zero_le hk
      have hkn : decide ((k : Int) < 0) = false := by simp
      obtain ⟨m, rfl, hm, hl, hcl⟩ := okB_nat h0
      have HT1 := Lib.hid (fun r h1 h2 h3 => sel_hit (k := k) h0 (r := r) h1 h2 h3)
      have HNO := Lib.hid (fun h => sel_none (s := m) (k := k) (L := L) h)
      have HCL := Lib.hid hcl
      generalize selB (m : Int) L (k : Int) = RB at *
      generalize selN (m : Int) L (k : Int) = RN at *
      obtain ⟨N, hN⟩ : ∃ N, N = L.length := ⟨_, rfl⟩
      have HN := Lib.hid hN
      have HNM := Lib.hid (show N = (m + 63) / 64 from by omega)
      have hN64 : N ≤ 64 := by omega
      rw [← hN] at x0 x1 B0 BX KC ⊢
      have HTT := Lib.hid (fun W (hb : Below w.heap.size w W) => TabAt.below hT hb (TabAt.pos hT))
      clear h0 h1 hl hr hk hcl hN hT
      go_enter Tryd.func22, Tryd.ntmps22
      go_wp2_with fail
      refine (KC.out _ B0.out).mono ?_
      rintro e w1 ⟨rfl, b1⟩
      have B1 := Lib.hid (B0.out.trans (b1.mono B0.out.size))
      obtain ⟨y0, y1⟩ := BX.out w1 b1
      clear b1 x0 x1
      have R1 := Lib.hid (HR.out.below B1.out)
      have T1 := Lib.hid (HTT.out w1 B1.out)
      clear HTT
      go_wp2
      go_loop [1, 6, 7, 8, 19] (fun v _ _ _ i => ∃ j q : Nat, j ≤ N ∧ i = .int .i64 (j : Int) ∧ v = .int .i64 (q : Int) ∧ q + cnt (bitL L) (64 * j) = k ∧ ∀ i, i < 64 * j → hitS L k i = false) (fun _ _ _ _ i => N - (RowKit.intOf i).toNat)
      case atStart => exact ⟨0, k, Nat.zero_le _, rfl, rfl, rfl, fun i h => by omega⟩
      case round =>
        obtain ⟨j, q, hj, rfl, rfl, hq, hall⟩ := hrel
        have HALL := Lib.hid hall
        have HQ := Lib.hid hq
        have hqi : (q : Int) ≤ 9223372036854775807 := by omega
        clear hall hq
        by_cases hjN : j < N
        · have hjN' : (j : Int) < (N : Int) := by omega
          obtain ⟨ad, x, rfl, hx, cx⟩ := R1.out.at_ (k := j) (by rw [← HN.out]; omega)
          have KO := Lib.hid (ones_any x.toNat w1 x.toNat_lt)
          have HW := Lib.hid (cnt_word hx)
          have HX := Lib.hid hx
          have hob : onesOf x.toNat ≤ 64 := cnt_le _ 64
          by_cases hlt : q < onesOf x.toNat
          · have hlt' : (q : Int) < (onesOf x.toNat : Int) := by omega
            have KP := Lib.hid (placeOf_any x.toNat q w1 x.toNat_lt hlt T1.out)
            have HCN := Lib.hid (show 64 * j + 64 ≤ 64 * N from by omega)
            clear hx hlt
            generalize onesOf x.toNat = o at *
            go_wp2_with fail
            refine KO.out.mono ?_
            rintro e w' ⟨rfl, rfl⟩
            go_wp2_with fail
            refine KP.out.mono ?_
            rintro e w' ⟨t, rfl, ht1, ht2, ht3, rfl⟩
            have hit : hitS L k (64 * j + t) = true := by rw [hit_word HX.out ht3 HQ.out, ht1, ht2, decide_eq_true rfl]; rfl
            have hms : 64 * j + t < m := by
              apply Classical.byContradiction
              intro hn
              have h1 := HCL.out (64 * j + t) (by rw [← HN.out]; omega) (by omega)
              unfold hitS at hit
              rw [h1] at hit
              cases hit
            obtain ⟨t1, t2⟩ := HT1.out (64 * j + t) hms hit (fun i hi => by
              by_cases hij : i < 64 * j
              · exact HALL.out i hij
              · have e : i = 64 * j + (i - 64 * j) := by omega
                rw [e, hit_word HX.out (by omega) HQ.out]
                cases hb : x.toNat.testBit (i - 64 * j) with
                | false => rfl
                | true =>
                  have := cnt_step (show i - 64 * j < t by omega) hb
                  rw [Bool.true_and]
                  exact decide_eq_false (by omega))
            have E1 := Lib.hid t1
            have E2 := Lib.hid (show ((RN : Nat) : Int) = (j : Int) * 64 + (t : Int) from by rw [t2]; omega)
            clear t1 t2 hit hms ht1 ht2
            go_wp2
            go_ret2
            rw [E1.out, E2.out]
            exact ⟨rfl, B1.out⟩
          · have hlt' : decide ((q : Int) < (onesOf x.toNat : Int)) = false := by simp; omega
            have HNH := Lib.hid (show ∀ t, t < 64 → hitS L k (64 * j + t) = false from fun t ht => by
              rw [hit_word HX.out ht HQ.out]
              cases hb : x.toNat.testBit t with
              | false => rfl
              | true =>
                have := cnt_step ht hb
                rw [Bool.true_and]
                have hoo : onesOf x.toNat = cnt x.toNat.testBit 64 := rfl
                exact decide_eq_false (by omega))
            have hge : onesOf x.toNat ≤ q := by omega
            clear hx hlt
            generalize onesOf x.toNat = o at *
            go_wp2_with fail
            refine KO.out.mono ?_
            rintro e w' ⟨rfl, rfl⟩
            go_wp2
            go_round
            case rel =>
              refine ⟨j + 1, q - o, by omega, by go_num, by go_num, by rw [HW.out]; have := HQ.out; omega, fun i hi => ?_⟩
              by_cases hij : i < 64 * j
              · exact HALL.out i hij
              · have := HNH.out (i - 64 * j) (by omega)
                rw [show 64 * j + (i - 64 * j) = i by omega] at this
                exact this
            case measure => simp [RowKit.intOf]; omega
        · obtain rfl : j = N := by omega
          obtain ⟨t1, t2⟩ := HNO.out (fun i hi => HALL.out i (by have := HNM.out; omega))
          have E1 := Lib.hid t1
          have E2 := Lib.hid t2
          clear t1 t2
          go_wp2
          go_ret2
          rw [E1.out, E2.out]
          exact ⟨rfl, B1.out⟩
    · have hkn : k < 0 := by omega
      obtain ⟨t1, t2⟩ := sel_bad (s := s) (L := L) (k := k) (.inr hkn)
      rw [t1, t2]
      generalize L.length = N at *
      clear h0 h1 hr t1 t2 hk hT
      go_enter Tryd.func22, Tryd.ntmps22
      go_wp2_with fail
      refine (KC.out _ B0.out).mono ?_
      rintro e w1 ⟨rfl, b1⟩
      have B1 := Lib.hid (B0.out.trans (b1.mono B0.out.size))
      clear b1 x0 x1
      go_wp2
      go_ret2
      exact ⟨rfl, B1.out⟩
  · rw [h1] at KC
    have KC := Lib.hid KC
    obtain ⟨t1, t2⟩ := sel_bad (k := k) (.inl h0)
    rw [t1, t2]
    generalize L.length = N at *
    clear h0 h1 hr t1 t2 hT
    go_enter Tryd.func22, Tryd.ntmps22
    go_wp2_with fail
    refine (KC.out _ B0.out).mono ?_
    rintro e w1 ⟨rfl, b1⟩
    have B1 := Lib.hid (B0.out.trans (b1.mono B0.out.size))
    clear b1 x0 x1
    go_wp2
    go_ret2
    exact ⟨rfl, B1.out⟩
end Go.Proofs.YtmmehomobmoapaaDoor
