/- The package bitmap: Next and Rank. -/
import Derived.Test.YtmmehomobmoapaaDoorQL
namespace Go.Proofs.YtmmehomobmoapaaDoor
open Go.RowKit
set_option linter.unusedVariables false
set_option linter.unusedSimpArgs false
theorem seekN_le (p : Nat → Bool) : ∀ a k, seekN p a k ≤ a + k
  | a, 0 => Nat.le_refl _
  | a, k + 1 => by
    unfold seekN
    split
    · omega
    · have := seekN_le p (a + 1) k; omega
theorem seekR_next {s a : Nat} {L : List UInt64} {on : Bool} {f : Int} (ho : okB (s : Int) L = true) (hf : f.toNat = a) : (seekR s L a on = s ∧ nextB (s : Int) L f on = false ∧ nextN (s : Int) L f on = 0) ∨ (seekR s L a on < s ∧ nextB (s : Int) L f on = true ∧ nextN (s : Int) L f on = seekR s L a on) := by
  unfold seekR nextN nextB nextR
  rw [ho, hf, Int.toNat_natCast]
  by_cases h : a < s
  · rw [if_pos h, decide_eq_true h]
    have := seekN_le (isOn L on) a (s - a)
    by_cases e : seekN (isOn L on) a (s - a) < s
    · rw [decide_eq_true e]
      exact .inr ⟨e, rfl, rfl⟩
    · rw [decide_eq_false e]
      exact .inl ⟨by omega, rfl, rfl⟩
  · rw [if_neg h, decide_eq_false h]
    exact .inl ⟨rfl, rfl, rfl⟩
set_option maxHeartbeats 1000000 in
set_option maxRecDepth 100000 in
theorem next_any (s : Int) (A : Option Addr) (c : Nat) (L : List UInt64) (f : Int) (on : Bool) (w : World) (hr : RQ w A L) (hT : TabAt 0 Lib.deBruijn64tab w) : Calls Tryd.prog 20 #[.agg #[.int .i64 s, .slice A L.length c], .int .i64 f, .bool on] w fun e w' => e = .returned (.tuple #[.int .i64 (nextN s L f on : Int), .bool (nextB s L f on)]) ∧ Below w.heap.size w w' := by
  have HR := Lib.hid hr
  have BX := Lib.hid (fun W h => bx2 w (.int .i64 s) (.slice A L.length c) 27 (W := W) h)
  have B0 := Lib.hid ((Below.refl _ w).alloc (Nat.le_refl _) (.cells #[.int .i64 s, .slice A L.length c] 27))
  obtain ⟨x0, x1⟩ := BX.out _ (Below.refl _ _)
  have KC := fun W (hb : Below w.heap.size w W) => check_any s A c L W (HR.out.below hb)
  obtain ⟨a, ha⟩ : ∃ a, a = f.toNat := ⟨_, rfl⟩
  have hmax : (if (f : Int) < 0 then 0 else f) = (a : Int) := by split <;> omega
  have hmax1 : (if (0 : Int) < f then f else 0) = (a : Int) := by split <;> omega
  have hmax2 : max f (0 : Int) = (a : Int) := by omega
  have hmax3 : (if (f : Int) ≤ 0 then 0 else f) = (a : Int) := by split <;> omega
  rcases chk_cases s L with ⟨h0, h1⟩ | ⟨h0, h1⟩
  · rw [h1] at KC
    have KC := Lib.hid KC
    obtain ⟨m, rfl, hm, hl, hcl⟩ := okB_nat h0
    have KS := Lib.hid (fun W (hb : Below w.heap.size w W) => seek_any m A c L a on W hm hl hcl (HR.out.below hb) (TabAt.below hT hb (TabAt.pos hT)))
    have HS := Lib.hid (seekR_next (on := on) h0 ha.symm)
    generalize nextB (m : Int) L f on = RB at *
    generalize nextN (m : Int) L f on = RN at *
    generalize seekR m L a on = R at *
    generalize L.length = N at *
    clear h0 h1 hl hr ha hT hcl
    go_enter Tryd.func20, Tryd.ntmps20
    go_wp2_with fail
    refine (KC.out _ B0.out).mono ?_
    rintro e w1 ⟨rfl, b1⟩
    have B1 := Lib.hid (B0.out.trans (b1.mono B0.out.size))
    have BV1 := Lib.hid b1
    obtain ⟨y0, y1⟩ := BX.out w1 b1
    clear b1 x0 x1
    go_wp2_with fail
    refine (KS.out _ B1.out).mono ?_
    rintro e w2 ⟨rfl, b2⟩
    have B2 := Lib.hid (B1.out.trans (b2.mono B1.out.size))
    obtain ⟨z0, z1⟩ := BX.out w2 (BV1.out.trans (b2.mono BV1.out.size))
    clear b2 y0 y1
    rcases HS.out with ⟨e1, e2, e3⟩ | ⟨e1, e2, e3⟩
    · have hd : ((R : Int) == (m : Int)) = true := by rw [e1]; simp
      have E2 := Lib.hid e2
      have E3 := Lib.hid e3
      clear e1 e2 e3 HS
      go_wp2
      go_ret2
      rw [E2.out, E3.out]
      exact ⟨rfl, B2.out⟩
    · have hd : ((R : Int) == (m : Int)) = false := by simp; omega
      have E2 := Lib.hid e2
      have E3 := Lib.hid e3
      clear e2 e3 HS
      go_wp2
      go_ret2
      rw [E2.out, E3.out]
      exact ⟨rfl, B2.out⟩
  · rw [h1] at KC
    have KC := Lib.hid KC
    obtain ⟨t1, t2⟩ := next_bad (on := on) (f := f) h0
    rw [t1, t2]
    generalize L.length = N at *
    clear h0 h1 hr ha t1 t2 hT
    go_enter Tryd.func20, Tryd.ntmps20
    go_wp2_with fail
    refine (KC.out _ B0.out).mono ?_
    rintro e w1 ⟨rfl, b1⟩
    have B1 := Lib.hid (B0.out.trans (b1.mono B0.out.size))
    clear b1 x0 x1
    go_wp2
    go_ret2
    exact ⟨rfl, B1.out⟩
theorem shl_nat (x k : Nat) : IntKind.u64.wrap ((x : Int) * 2 ^ k) = ((x * 2 ^ k % 18446744073709551616 : Nat) : Int) := by
  rw [IntKind.wrap_u64, show (x : Int) * 2 ^ k = ((x * 2 ^ k : Nat) : Int) by simp]
  omega
theorem cnt_false {p : Nat → Bool} : ∀ n, (∀ i, i < n → p i = false) → cnt p n = 0
  | 0, _ => rfl
  | n + 1, h => by
    show cnt p n + (p n).toNat = 0
    rw [cnt_false n (fun i hi => h i (by omega)), h n (by omega)]
    rfl
theorem bitL_word {L : List UInt64} {i : Nat} {x : UInt64} (hx : L[i]? = some x) {t : Nat} (ht : t < 64) : bitL L (64 * i + t) = x.toNat.testBit t := by
  unfold bitL
  rw [show (64 * i + t) / 64 = i by omega, show (64 * i + t) % 64 = t by omega, List.getD_eq_getElem?_getD, hx]
  rfl
theorem cnt_word {L : List UInt64} {i : Nat} {x : UInt64} (hx : L[i]? = some x) : cnt (bitL L) (64 * (i + 1)) = cnt (bitL L) (64 * i) + onesOf x.toNat := by
  rw [show 64 * (i + 1) = 64 * i + 64 by omega, cnt_add]
  congr 1
  exact cnt_congr 64 fun t ht => bitL_word hx ht
theorem cnt_part {L : List UInt64} {i p : Nat} {x : UInt64} (hx : L[i]? = some x) (hp : p < 64) : cnt (bitL L) (64 * i + p) = cnt (bitL L) (64 * i) + onesOf (x.toNat * 2 ^ (64 - p) % 18446744073709551616) := by
  rw [cnt_add]
  congr 1
  unfold onesOf
  rw [show (64 : Nat) = (64 - p) + p by omega, cnt_add, show (64 - p) + p = 64 by omega]
  have hb : ∀ i, i < 64 → (x.toNat * 2 ^ (64 - p) % 18446744073709551616).testBit i = (decide (64 - p ≤ i) && x.toNat.testBit (i - (64 - p))) := by
    intro i hi
    rw [show (18446744073709551616 : Nat) = 2 ^ 64 by decide, Nat.testBit_mod_two_pow, Nat.testBit_mul_two_pow, decide_eq_true hi, Bool.true_and]
  rw [cnt_false (64 - p) (fun t ht => by rw [hb t (by omega), decide_eq_false (by omega)]; rfl), Nat.zero_add]
  exact cnt_congr p fun t ht => by
    show bitL L (64 * i + t) = _
    rw [bitL_word hx (by omega), hb _ (by omega), decide_eq_true (by omega), Bool.true_and, show 64 - p + t - (64 - p) = t by omega]
set_option maxHeartbeats 1000000 in
set_option maxRecDepth 100000 in
theorem rank_any (s : Int) (A : Option Addr) (c : Nat) (L : List UInt64) (n : Int) (w : World) (hcap : L.length ≤ c) (hr : RQ w A L) : Calls Tryd.prog 24 #[.agg #[.int .i64 s, .slice A L.length c], .int .i64 n] w fun e w' => e = .returned (.int .i64 (rankB s L n : Int)) ∧ Below w.heap.size w w' := by
  have HR := Lib.hid hr
  have BX := Lib.hid (fun W h => bx2 w (.int .i64 s) (.slice A L.length c) 27 (W := W) h)
  have B0 := Lib.hid ((Below.refl _ w).alloc (Nat.le_refl _) (.cells #[.int .i64 s, .slice A L.length c] 27))
  obtain ⟨x0, x1⟩ := BX.out _ (Below.refl _ _)
  have KC := fun W (hb : Below w.heap.size w W) => check_any s A c L W (HR.out.below hb)
  rcases chk_cases s L with ⟨h0, h1⟩ | ⟨h0, h1⟩
  · rw [h1] at KC
    have KC := Lib.hid KC
    obtain ⟨m, rfl, hm, hl, hcl⟩ := okB_nat h0
    obtain ⟨b, hbe⟩ : ∃ b, b = min n.toNat m := ⟨_, rfl⟩
    have HF : Hid (rankB (m : Int) L n = cnt (bitL L) b) := Lib.hid (by unfold rankB; rw [if_pos h0, Int.toNat_natCast, ← hbe])
    generalize rankB (m : Int) L n = R at *
    have hNc : (L.length : Int) ≤ (c : Int) := by omega
    obtain ⟨N, hN⟩ : ∃ N, N = L.length := ⟨_, rfl⟩
    have HN := Lib.hid hN
    have hbm : b ≤ m := by omega
    have HNM := Lib.hid (show N = (m + 63) / 64 from by omega)
    rw [← hN] at hNc x0 x1 B0 BX KC ⊢
    clear h0 h1 hl hr hcl hN hcap
    by_cases hneg : n < 0
    · have HR0 : Hid (R = 0) := Lib.hid (by rw [HF.out, show b = 0 by omega]; rfl)
      clear hbe
      go_enter Tryd.func24, Tryd.ntmps24
      go_wp2_with fail
      refine (KC.out _ B0.out).mono ?_
      rintro e w1 ⟨rfl, b1⟩
      have B1 := Lib.hid (B0.out.trans (b1.mono B0.out.size))
      obtain ⟨y0, y1⟩ := BX.out w1 b1
      have hm0 : (0 : Int) ≤ (m : Int) := by omega
      clear b1 x0 x1
      go_wp2
      go_loop [5, 7, 23] (fun k _ i => k = .int .i64 0 ∧ i = .int .i64 0) (fun _ _ _ => 0)
      case atStart => exact ⟨rfl, rfl⟩
      case round =>
        obtain ⟨rfl, rfl⟩ := hrel
        go_wp2
        go_ret
        rw [HR0.out]
        exact ⟨rfl, B1.out⟩
    · have H3 : ((b : Int) < (m : Int) ∧ n = (b : Int)) ∨ ((m : Int) < n ∧ m = b) ∨ (n = (m : Int) ∧ m = b) := by omega
      clear hbe
      rcases H3 with ⟨hlt, rfl⟩ | ⟨hlt, rfl⟩ | ⟨rfl, rfl⟩
      · have hq : (b : Int).tdiv 64 = ((b / 64 : Nat) : Int) := tdiv64 _
        have hq2 : (b : Int) / 64 = ((b / 64 : Nat) : Int) := by omega
        have hm2 : (b : Int).tmod 64 = ((b % 64 : Nat) : Int) := tmod64 _
        have hNN := HNM.out
        have hqc : ((b / 64 : Nat) : Int) ≤ (c : Int) := by omega
        have hqN : b / 64 ≤ N := by omega
        have hq64 : b / 64 ≤ 64 := by omega
        have hm64 : b % 64 < 64 := by omega
        have HBD := Lib.hid (show b = 64 * (b / 64) + b % 64 from by omega)
        have HQP := Lib.hid (show 0 < b % 64 → b / 64 < N from by omega)
        clear hNN hneg
        generalize b / 64 = q at *
        generalize b % 64 = p at *
        go_enter Tryd.func24, Tryd.ntmps24
        go_wp2_with fail
        refine (KC.out _ B0.out).mono ?_
        rintro e w1 ⟨rfl, b1⟩
        have B1 := Lib.hid (B0.out.trans (b1.mono B0.out.size))
        have BV1 := Lib.hid b1
        obtain ⟨y0, y1⟩ := BX.out w1 b1
        clear b1 x0 x1
        have R1 := Lib.hid (HR.out.below B1.out)
        go_wp2
        go_loop [5, 7, 23] (fun k _ i => ∃ j : Nat, j ≤ q ∧ i = .int .i64 (j : Int) ∧ k = .int .i64 ((cnt (bitL L) (64 * j) : Nat) : Int)) (fun _ _ i => q - (RowKit.intOf i).toNat)
        case atStart => exact ⟨0, Nat.zero_le _, rfl, rfl⟩
        case round =>
          obtain ⟨j, hj, rfl, rfl⟩ := hrel
          by_cases hjq : j < q
          · have hjq' : (j : Int) < (q : Int) := by omega
            obtain ⟨ad, x, rfl, hx, cx⟩ := R1.out.at_ (k := j) (by rw [← HN.out]; omega)
            have KO := Lib.hid (ones_any x.toNat w1 x.toNat_lt)
            have HW := Lib.hid (cnt_word hx)
            have hcb := cnt_le (bitL L) (64 * j)
            have hob : onesOf x.toNat ≤ 64 := cnt_le _ 64
            clear hx
            generalize onesOf x.toNat = o at *
            generalize cnt (bitL L) (64 * j) = cj at *
            go_wp2_with fail
            refine KO.out.mono ?_
            rintro e w' ⟨rfl, rfl⟩
            go_wp2
            go_round
            case rel => exact ⟨j + 1, by omega, by go_num, by rw [HW.out]; rfl⟩
            case measure => simp [RowKit.intOf]; omega
          · obtain rfl : j = q := by omega
            by_cases hp : 0 < p
            · have hp' : (0 : Int) < (p : Int) := by omega
              have hjN := HQP.out hp
              have hjN' : (j : Int) < (N : Int) := by omega
              obtain ⟨ad, x, rfl, hx, cx⟩ := R1.out.at_ (k := j) (by rw [← HN.out]; omega)
              have KO := Lib.hid (ones_any (x.toNat * 2 ^ (64 - p) % 18446744073709551616) w1 (Nat.mod_lt _ (by omega)))
              have HW := Lib.hid (cnt_part hx hm64)
              have hcb := cnt_le (bitL L) (64 * j)
              have hob : onesOf (x.toNat * 2 ^ (64 - p) % 18446744073709551616) ≤ 64 := cnt_le _ 64
              have hsub : (64 : Int) - (p : Int) = ((64 - p : Nat) : Int) := by omega
              clear hx
              rw [← HBD.out] at HW
              have HF2 := Lib.hid (HF.out.trans HW.out)
              clear HW HF HBD
              generalize onesOf (x.toNat * 2 ^ (64 - p) % 18446744073709551616) = o at *
              generalize cnt (bitL L) (64 * j) = cj at *
              go_wp2_with fail
              rw [shl_nat]
              refine KO.out.mono ?_
              rintro e w' ⟨rfl, rfl⟩
              go_wp2
              go_ret
              rw [HF2.out]
              exact ⟨rfl, B1.out⟩
            · obtain rfl : p = 0 := by omega
              have HF2 := Lib.hid (HF.out.trans (by rw [HBD.out, Nat.add_zero]))
              clear HF HBD
              go_wp2
              go_ret
              rw [HF2.out]
              exact ⟨rfl, B1.out⟩
      all_goals
        have hq : (m : Int).tdiv 64 = ((m / 64 : Nat) : Int) := tdiv64 _
        have hq2 : (m : Int) / 64 = ((m / 64 : Nat) : Int) := by omega
        have hm2 : (m : Int).tmod 64 = ((m % 64 : Nat) : Int) := tmod64 _
        have hNN := HNM.out
        have hqc : ((m / 64 : Nat) : Int) ≤ (c : Int) := by omega
        have hqN : m / 64 ≤ N := by omega
        have hq64 : m / 64 ≤ 64 := by omega
        have hm64 : m % 64 < 64 := by omega
        have HBD := Lib.hid (show m = 64 * (m / 64) + m % 64 from by omega)
        have HQP := Lib.hid (show 0 < m % 64 → m / 64 < N from by omega)
        clear hNN hneg
        generalize m / 64 = q at *
        generalize m % 64 = p at *
        go_enter Tryd.func24, Tryd.ntmps24
        go_wp2_with fail
        refine (KC.out _ B0.out).mono ?_
        rintro e w1 ⟨rfl, b1⟩
        have B1 := Lib.hid (B0.out.trans (b1.mono B0.out.size))
        have BV1 := Lib.hid b1
        obtain ⟨y0, y1⟩ := BX.out w1 b1
        clear b1 x0 x1
        have R1 := Lib.hid (HR.out.below B1.out)
        go_wp2
        go_loop [5, 7, 23] (fun k _ i => ∃ j : Nat, j ≤ q ∧ i = .int .i64 (j : Int) ∧ k = .int .i64 ((cnt (bitL L) (64 * j) : Nat) : Int)) (fun _ _ i => q - (RowKit.intOf i).toNat)
        case atStart => exact ⟨0, Nat.zero_le _, rfl, rfl⟩
        case round =>
          obtain ⟨j, hj, rfl, rfl⟩ := hrel
          by_cases hjq : j < q
          · have hjq' : (j : Int) < (q : Int) := by omega
            obtain ⟨ad, x, rfl, hx, cx⟩ := R1.out.at_ (k := j) (by rw [← HN.out]; omega)
            have KO := Lib.hid (ones_any x.toNat w1 x.toNat_lt)
            have HW := Lib.hid (cnt_word hx)
            have hcb := cnt_le (bitL L) (64 * j)
            have hob : onesOf x.toNat ≤ 64 := cnt_le _ 64
            clear hx
            generalize onesOf x.toNat = o at *
            generalize cnt (bitL L) (64 * j) = cj at *
            go_wp2_with fail
            refine KO.out.mono ?_
            rintro e w' ⟨rfl, rfl⟩
            go_wp2
            go_round
            case rel => exact ⟨j + 1, by omega, by go_num, by rw [HW.out]; rfl⟩
            case measure => simp [RowKit.intOf]; omega
          · obtain rfl : j = q := by omega
            by_cases hp : 0 < p
            · have hp' : (0 : Int) < (p : Int) := by omega
              have hjN := HQP.out hp
              have hjN' : (j : Int) < (N : Int) := by omega
              obtain ⟨ad, x, rfl, hx, cx⟩ := R1.out.at_ (k := j) (by rw [← HN.out]; omega)
              have KO := Lib.hid (ones_any (x.toNat * 2 ^ (64 - p) % 18446744073709551616) w1 (Nat.mod_lt _ (by omega)))
              have HW := Lib.hid (cnt_part hx hm64)
              have hcb := cnt_le (bitL L) (64 * j)
              have hob : onesOf (x.toNat * 2 ^ (64 - p) % 18446744073709551616) ≤ 64 := cnt_le _ 64
              have hsub : (64 : Int) - (p : Int) = ((64 - p : Nat) : Int) := by omega
              clear hx
              rw [← HBD.out] at HW
              have HF2 := Lib.hid (HF.out.trans HW.out)
              clear HW HF HBD
              generalize onesOf (x.toNat * 2 ^ (64 - p) % 18446744073709551616) = o at *
              generalize cnt (bitL L) (64 * j) = cj at *
              go_wp2_with fail
              rw [shl_nat]
              refine KO.out.mono ?_
              rintro e w' ⟨rfl, rfl⟩
              go_wp2
              go_ret
              rw [HF2.out]
              exact ⟨rfl, B1.out⟩
            · obtain rfl : p = 0 := by omega
              have HF2 := Lib.hid (HF.out.trans (by rw [HBD.out, Nat.add_zero]))
              clear HF HBD
              go_wp2
              go_ret
              rw [HF2.out]
              exact ⟨rfl, B1.out⟩
  · rw [h1] at KC
    have KC := Lib.hid KC
    have HF : Hid (rankB s L n = 0) := Lib.hid (by unfold rankB; rw [if_neg (by rw [h0]; simp)])
    generalize rankB s L n = R at *
    generalize L.length = N at *
    clear h0 h1 hr
    go_enter Tryd.func24, Tryd.ntmps24
    go_wp2_with fail
    refine (KC.out _ B0.out).mono ?_
    rintro e w1 ⟨rfl, b1⟩
    have B1 := Lib.hid (B0.out.trans (b1.mono B0.out.size))
    clear b1 x0 x1
    go_wp2
    go_ret
    rw [HF.out]
    exact ⟨rfl, B1.out⟩
end Go.Proofs.YtmmehomobmoapaaDoor
