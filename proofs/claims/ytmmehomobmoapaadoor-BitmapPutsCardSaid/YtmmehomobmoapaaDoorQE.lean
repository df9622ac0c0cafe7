/- The package bitmap: Has; the document's words, bit, Check, Has. -/
import Derived.Test.YtmmehomobmoapaaDoorQD
namespace Go.Proofs.YtmmehomobmoapaaDoor
open Go.RowKit
set_option linter.unusedVariables false
set_option linter.unusedSimpArgs false
theorem chk_cases (s : Int) (L : List UInt64) : (okB s L = true ∧ chk s L = 0) ∨ (okB s L = false ∧ chk s L = 4) := by
  unfold chk
  cases okB s L
  · exact .inr ⟨rfl, rfl⟩
  · exact .inl ⟨rfl, rfl⟩
theorem bit_and (x k : Nat) : (x / 2 ^ k &&& 1) = (x.testBit k).toNat := by
  rw [Nat.and_one_is_mod, bit_div]
  have := Nat.mod_two_eq_zero_or_one (x / 2 ^ k)
  rcases this with h | h
  · rw [h]; rfl
  · rw [h]; rfl
theorem bool1 (b : Bool) : (((b.toNat : Nat) : Int) == 1) = b := by cases b <;> rfl
theorem tdiv64 (s : Nat) : (s : Int).tdiv 64 = ((s / 64 : Nat) : Int) := by rw [Int.tdiv_eq_ediv_of_nonneg (by omega)]; omega
theorem bit_at {w : World} {A : Option Addr} {L : List UInt64} (hr : RQ w A L) {k : Nat} (hk : k < 64 * L.length) : ∃ ad x, A = some ad ∧ L[k / 64]? = some x ∧ w.cell? (ad.add (k / 64)) = some (.int .u64 (x.toNat : Int)) ∧ bitL L k = x.toNat.testBit (k % 64) := by
  obtain ⟨ad, x, e, hx, hc⟩ := hr.at_ (k := k / 64) (by omega)
  refine ⟨ad, x, e, hx, hc, ?_⟩
  unfold bitL
  rw [List.getD_eq_getElem?_getD, hx]
  rfl
set_option maxHeartbeats 1000000 in
set_option maxRecDepth 100000 in
theorem has_any (s : Int) (A : Option Addr) (c : Nat) (L : List UInt64) (n : Int) (w : World) (hr : RQ w A L) : Calls Tryd.prog 14 #[.agg #[.int .i64 s, .slice A L.length c], .int .i64 n] w fun e w' => e = .returned (.bool (hasB s L n)) ∧ Below w.heap.size w w' := by
  have HR := Lib.hid hr
  have BX := Lib.hid (fun W h => bx2 w (.int .i64 s) (.slice A L.length c) 27 (W := W) h)
  have B0 := Lib.hid ((Below.refl _ w).alloc (Nat.le_refl _) (.cells #[.int .i64 s, .slice A L.length c] 27))
  have x0 := BX.out _ (Below.refl _ _)
  have KC := fun W (hb : Below w.heap.size w W) => check_any s A c L W (HR.out.below hb)
  have KB := fun W => below_any s n (.slice A L.length c) W
  rcases chk_cases s L with ⟨h0, h1⟩ | ⟨h0, h1⟩
  · rw [h1] at KC
    have KC := Lib.hid KC
    by_cases h2 : 0 ≤ n ∧ n < s
    · rw [decide_eq_true h2] at KB
      have KB := Lib.hid KB
      have HH : Hid (hasB s L n = bitL L n.toNat) := Lib.hid (by unfold hasB; rw [h0, decide_eq_true h2]; rfl)
      obtain ⟨m, rfl, hm, hl, _⟩ := okB_nat h0
      obtain ⟨k, rfl⟩ := Int.eq_ofNat_of_zero_le h2.1
      obtain ⟨ad, x, rfl, hx, hc, hb⟩ := bit_at hr (k := k) (by omega)
      rw [Int.toNat_natCast, hb] at HH
      have hq : (k : Int).tdiv 64 = ((k / 64 : Nat) : Int) := tdiv64 k
      have hq2 : (k : Int) / 64 = ((k / 64 : Nat) : Int) := by omega
      have hm2 : (k : Int).tmod 64 = ((k % 64 : Nat) : Int) := tmod64 k
      have hlt : ((k / 64 : Nat) : Int) < (L.length : Int) := by omega
      have hk0 : (0 : Int) ≤ ((k / 64 : Nat) : Int) := by omega
      have hkq : k / 64 < 64 := by omega
      have hkm : k % 64 < 64 := by omega
      have KEY : bits .and .u64 ((x.toNat : Int) / 2 ^ (k % 64)) 1 = (((x.toNat.testBit (k % 64)).toNat : Nat) : Int) := by
        rw [shr_nat, show (1 : Int) = ((1 : Nat) : Int) from rfl, bits_and_u64_nat _ _ (Nat.lt_of_le_of_lt (Nat.div_le_self _ _) x.toNat_lt) (by omega), bit_and]
      have b1 := bool1 (x.toNat.testBit (k % 64))
      have CX := Lib.hid (fun W (h : Below w.heap.size w W) => (h.cell (p := ad.add (k / 64)) (lt_of_cell hc)).trans hc)
      generalize x.toNat.testBit (k % 64) = tb at *
      generalize hasB (m : Int) L (k : Int) = R at *
      generalize L.length = N at *
      generalize k / 64 = kq at *
      generalize k % 64 = km at *
      clear h0 h1 h2 hr hx hb hl
      go_enter Tryd.func14, Tryd.ntmps14
      go_wp2_with fail
      refine (KC.out _ B0.out).mono ?_
      rintro e w1 ⟨rfl, b1⟩
      have B1 := Lib.hid (B0.out.trans (b1.mono B0.out.size))
      obtain ⟨y0, y1⟩ := BX.out w1 b1
      clear b1 x0
      go_wp2_with fail
      refine (KB.out _).mono ?_
      rintro e w2 ⟨rfl, b2⟩
      have B2 := Lib.hid (B1.out.trans (b2.mono B1.out.size))
      have x2 := (b2.cell (p := ⟨w.heap.size, 1, none⟩) (lt_of_cell y1)).trans y1
      have cx := CX.out w2 B2.out
      clear b2 y0 y1
      go_wp2
      go_ret
      simp only [KEY, b1]
      rw [HH.out]
      exact ⟨rfl, B2.out⟩
    · rw [decide_eq_false h2] at KB
      have KB := Lib.hid KB
      have HH : Hid (hasB s L n = false) := Lib.hid (by unfold hasB; rw [decide_eq_false h2, Bool.and_false]; rfl)
      generalize hasB s L n = R at *
      generalize L.length = N at *
      clear h0 h1 h2 hr
      go_enter Tryd.func14, Tryd.ntmps14
      go_wp2_with fail
      refine (KC.out _ B0.out).mono ?_
      rintro e w1 ⟨rfl, b1⟩
      have B1 := Lib.hid (B0.out.trans (b1.mono B0.out.size))
      obtain ⟨y0, y1⟩ := BX.out w1 b1
      clear b1 x0
      go_wp2_with fail
      refine (KB.out _).mono ?_
      rintro e w2 ⟨rfl, b2⟩
      have B2 := Lib.hid (B1.out.trans (b2.mono B1.out.size))
      clear b2 y0 y1
      go_wp2
      go_ret
      rw [HH.out]
      exact ⟨rfl, B2.out⟩
  · rw [h1] at KC
    have KC := Lib.hid KC
    have HH : Hid (hasB s L n = false) := Lib.hid (by unfold hasB; rw [h0]; rfl)
    generalize hasB s L n = R at *
    generalize L.length = N at *
    clear h0 h1 hr KB
    go_enter Tryd.func14, Tryd.ntmps14
    go_wp2_with fail
    refine (KC.out _ B0.out).mono ?_
    rintro e w1 ⟨rfl, b1⟩
    have B1 := Lib.hid (B0.out.trans (b1.mono B0.out.size))
    clear b1 x0
    go_wp2
    go_ret
    rw [HH.out]
    exact ⟨rfl, B1.out⟩
theorem refWords_any (s : Nat) (hs : s ≤ 4096) (w : World) : Calls Tryd.prog 42 #[.int .i64 (s : Int)] w fun e w' => e = .returned (.int .i64 (((s + 63) / 64 : Nat) : Int)) ∧ w = w' := by
  go_enter Tryd.func42, Tryd.ntmps42
  go_wp2
  go_loop [3] (fun i => ∃ k : Nat, k ≤ (s + 63) / 64 ∧ i = .int .i64 (k : Int)) (fun i => 65 - (RowKit.intOf i).toNat)
  case atStart => exact ⟨0, Nat.zero_le _, rfl⟩
  case round =>
    obtain ⟨k, hk, rfl⟩ := hrel
    by_cases hlt : 64 * k < s
    · have hlt' : 64 * (k : Int) < (s : Int) := by omega
      have HK := Lib.hid (show k + 1 ≤ (s + 63) / 64 from by omega)
      have hk2 : k < 65 := by omega
      clear hlt hk
      go_wp2
      go_round
      case rel => exact ⟨k + 1, HK.out, by go_num⟩
      case measure => simp [RowKit.intOf]; omega
    · have hlt' : decide (64 * (k : Int) < (s : Int)) = false := by simp; omega
      have HK := Lib.hid (show ((k : Nat) : Int) = ((s : Int) + 63) / 64 from by omega)
      have hk2 : k < 65 := by omega
      clear hlt hk
      go_wp2
      go_ret
      rw [← HK.out]
      exact ⟨rfl, rfl⟩
set_option maxHeartbeats 1000000 in
set_option maxRecDepth 100000 in
theorem refBit_any (s : Int) (A : Option Addr) (c : Nat) (L : List UInt64) (k : Nat) (w : World) (hk : k < 64 * L.length) (hb : L.length ≤ 64) (hr : RQ w A L) : Calls Tryd.prog 38 #[.agg #[.int .i64 s, .slice A L.length c], .int .i64 (k : Int)] w fun e w' => e = .returned (.bool (bitL L k)) ∧ Below w.heap.size w w' := by
  have B0 := Lib.hid ((Below.refl _ w).alloc (Nat.le_refl _) (.cells #[.int .i64 s, .slice A L.length c] 24))
  obtain ⟨ad, x, rfl, hx, hc, hbit⟩ := bit_at hr hk
  have hq : (k : Int).tdiv 64 = ((k / 64 : Nat) : Int) := tdiv64 k
  have hq2 : (k : Int) / 64 = ((k / 64 : Nat) : Int) := by omega
  have hm2 : (k : Int).tmod 64 = ((k % 64 : Nat) : Int) := tmod64 k
  have hlt : ((k / 64 : Nat) : Int) < (L.length : Int) := by omega
  have hk0 : (0 : Int) ≤ ((k / 64 : Nat) : Int) := by omega
  have hkq : k / 64 < 64 := by omega
  have hkm : k % 64 < 64 := by omega
  have HH : Hid (bitL L k = (((x.toNat : Int) / 2 ^ (k % 64)).tmod 2 == 1)) := Lib.hid (by
    rw [hbit, bit_div, shr_nat, Int.tmod_eq_emod_of_nonneg (Int.natCast_nonneg _)]
    generalize x.toNat / 2 ^ (k % 64) = y
    by_cases h : y % 2 = 1
    · rw [decide_eq_true h]; symm; rw [beq_iff_eq]; omega
    · rw [decide_eq_false h]; symm; rw [beq_eq_false_iff_ne]; omega)
  have hc' := (World.cell?_alloc_lt w (.cells #[.int .i64 s, .slice (some ad) L.length c] 24) _ (lt_of_cell hc)).trans hc
  generalize bitL L k = R at *
  generalize L.length = N at *
  generalize k / 64 = kq at *
  generalize k % 64 = km at *
  clear hr hx hbit hk hb hc
  go_enter Tryd.func38, Tryd.ntmps38
  go_wp2
  go_ret
  rw [HH.out]
  exact ⟨rfl, B0.out⟩
end Go.Proofs.YtmmehomobmoapaaDoor
