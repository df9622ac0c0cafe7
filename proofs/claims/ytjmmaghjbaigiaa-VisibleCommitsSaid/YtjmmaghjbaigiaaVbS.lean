/- What a snapshot sees: the program's Settled. -/
import Derived.Test.YtjmmaghjbaigiaaVbA
namespace Go.Proofs.Ytjmmaghjbaigiaa
open Go.RowKit
set_option linter.unusedVariables false
set_option linter.unusedSimpArgs false
theorem vbCount_snoc {l : List Vn} {k : Nat} {x : Vn} (t : Int) (h : l[k]? = some x) : vbCount (l.take (k + 1)) t = vbCount (l.take k) t + if vsOld t x then 1 else 0 := by
  unfold vbCount
  rw [List.take_add_one, h, Option.toList_some, List.countP_append, List.countP_singleton]
theorem vbLast_snoc {l : List Vn} {k : Nat} {x : Vn} (t : Int) (hk : k ≤ l.length) (h : l[k]? = some x) : vsLast (vsOld t) (l.take (k + 1)) = if vsOld t x then k + 1 else vsLast (vsOld t) (l.take k) := by
  rw [List.take_add_one, h, Option.toList_some, vsLast_snoc, List.length_take, Nat.min_eq_left hk]
theorem vbSettled_zero {l : List Vn} {t : Int} (h : vbCount l t = 0) : vbSettled l t = true := by unfold vbSettled; rw [h]; rfl
theorem vbSettled_many {l : List Vn} {t : Int} (h : vbCount l t = 1) (hl : 1 < l.length) : vbSettled l t = true := by unfold vbSettled; rw [h, decide_eq_true hl]; rfl
theorem vbSettled_two {l : List Vn} {t : Int} (h : 2 ≤ vbCount l t) : vbSettled l t = false := by
  unfold vbSettled
  rw [decide_eq_false (by omega), decide_eq_false (by omega)]; rfl
theorem vbSettled_one {l : List Vn} {t : Int} (h : vbCount l t = 1) (hl : ¬ 1 < l.length) : ∃ x, l[0]? = some x ∧ l.length = 1 ∧ vsLast (vsOld t) l = 1 ∧ vbSettled l t = !x.gone := by
  match l, hl with
  | [], _ => simp [vbCount] at h
  | [x], _ =>
    have hx : vsOld t x = true := by
      cases e : vsOld t x with
      | true => rfl
      | false => simp [vbCount, e] at h
    refine ⟨x, rfl, rfl, by simp [vsLast, hx], ?_⟩
    unfold vbSettled
    rw [h]
    simp
  | x :: y :: r, hl => exact absurd (by simp) hl
theorem vbCount_le (l : List Vn) (t : Int) : vbCount l t ≤ l.length := List.countP_le_length
set_option maxHeartbeats 2000000 in
set_option maxRecDepth 100000 in
theorem vbSettled_any (key : ByteArray) (A : Option Addr) (n c : Nat) (l : List Vn) (t : Int) (w : World) (hl : l.length = n) (hn : n ≤ 1000) (hr : RG KV w A l) :
    Calls Try.prog 31 #[.agg #[.string key, .slice A n c], .int .i64 t] w fun e w' => e = .returned (.bool (vbSettled l t)) ∧ Below w.heap.size w w' := by
  have HB := Lib.hid (below1 w (.cells #[.string key, .slice A n c] 24))
  have SX := Lib.hid (StBox.new w key A n c 24)
  have HL := Lib.hid hl
  have HR := Lib.hid (fun W (h : Below w.heap.size w W) => hr.below h)
  have KC := Lib.hid (fun (x : Vn) (W : World) => vbComm_any x t W)
  unfold Vn.v at KC
  clear hl hr
  go_enter Try.func31, Try.ntmps31
  go_upto_region 1 with fail
  generalize w.alloc (.cells #[.string key, .slice A n c] 24) = W0 at *
  have s1 := SX.out.c1
  go_wp2
  go_loopw [5, 6, 7, 8, 12] (fun ct la _ _ i wr => ∃ (k m j : Nat) (z : Int), k ≤ n ∧ i = .int .i64 (k : Int) ∧ ct = .int .i64 (m : Int) ∧ la = .int .i64 z ∧ z = (j : Int) - 1 ∧ m ≤ k ∧ m = vbCount (l.take k) t ∧ j = vsLast (vsOld t) (l.take k) ∧ Below w.heap.size w wr ∧ StBox wr w.heap.size key A n c) (fun _ _ _ _ i _ => n - (intOf i).toNat)
  case atStart => exact ⟨0, 0, 0, _, Nat.zero_le _, rfl, rfl, rfl, rfl, Nat.le_refl _, rfl, rfl, HB.out, SX.out⟩
  case round =>
    clear s1
    obtain ⟨k, m, j, z, hk, rfl, rfl, rfl, hz, hmk, hm, hj, hb, hs⟩ := hrel
    have HM := Lib.hid hm
    have HJ := Lib.hid hj
    have HZ := Lib.hid hz
    have s1 := hs.c1
    clear hm hj hz
    by_cases hlt : k < n
    · obtain ⟨x, hx⟩ : ∃ x, l[k]? = some x := ⟨l[k]'(by rw [HL.out]; exact hlt), List.getElem?_eq_getElem _⟩
      obtain ⟨ad, rfl, hv⟩ := (HR.out _ hb).vn hx
      have c0 := hv.d0; have c1 := hv.d1; have c2 := hv.d2; have c3 := hv.d3
      have HX := Lib.hid hx
      have HB2 := Lib.hid (hb.alloc hb.size (.cells #[.int .i64 x.txn, .int .i64 x.ts, .bool x.gone, .string x.val] 66))
      have SX2 := Lib.hid (hs.alloc (.cells #[.int .i64 x.txn, .int .i64 x.ts, .bool x.gone, .string x.val] 66))
      have K1 := Lib.hid (KC.out x)
      have HC2 := Lib.hid (vbCount_snoc t hx)
      have HJ2 := Lib.hid (vbLast_snoc t (by rw [HL.out]; exact hk) hx)
      clear hx hv hb hs
      cases ho : vsOld t x with
      | true =>
        rw [ho] at K1 HC2 HJ2
        clear ho
        go_wp2_with (first | (go_at_call 68; refine (K1.out _).mono ?_; rintro e w1 ⟨rfl, b1⟩; have HB2 := Lib.hid (HB2.out.trans (b1.mono HB2.out.size)); have SX2 := Lib.hid (SX2.out.on b1); clear b1) | fail)
        go_round
        case rel => exact ⟨k + 1, m + 1, k + 1, _, by omega, by go_num, by go_num, rfl, by omega, by omega, by rw [HC2.out, HM.out]; rfl, by rw [HJ2.out]; rfl, HB2.out, SX2.out⟩
        case measure => simp [intOf]; omega
      | false =>
        rw [ho] at K1 HC2 HJ2
        clear ho
        go_wp2_with (first | (go_at_call 68; refine (K1.out _).mono ?_; rintro e w1 ⟨rfl, b1⟩; have HB2 := Lib.hid (HB2.out.trans (b1.mono HB2.out.size)); have SX2 := Lib.hid (SX2.out.on b1); clear b1) | fail)
        go_round
        case rel => exact ⟨k + 1, m, j, _, by omega, by go_num, rfl, rfl, HZ.out, by omega, by rw [HC2.out, HM.out]; rfl, by rw [HJ2.out, HJ.out]; rfl, HB2.out, SX2.out⟩
        case measure => simp [intOf]; omega
    · obtain rfl : k = n := by omega
      have HMM : Hid (m = vbCount l t) := Lib.hid (by have := HM.out; rwa [List.take_of_length_le (by rw [HL.out]; exact Nat.le_refl _)] at this)
      have HJJ : Hid (j = vsLast (vsOld t) l) := Lib.hid (by have := HJ.out; rwa [List.take_of_length_le (by rw [HL.out]; exact Nat.le_refl _)] at this)
      have HB2 := Lib.hid hb
      by_cases h0 : m = 0
      · have e2 := vbSettled_zero (l := l) (t := t) (by rw [← HMM.out]; exact h0)
        have d0 : ((m : Int) == 0) = true := by simp [h0]
        clear h0 hb
        go_wp2
        go_ret
        exact ⟨by first | rfl | (rw [e2]; rfl) | (rw [e2]), HB2.out⟩
      · have d0 : ((m : Int) == 0) = false := by simp [h0]
        by_cases h1 : m = 1
        · have d1 : ((m : Int) == 1) = true := by simp [h1]
          by_cases h2 : 1 < k
          · have e2 := vbSettled_many (l := l) (t := t) (by rw [← HMM.out]; exact h1) (by rw [HL.out]; exact h2)
            have d2 : decide ((1 : Int) < (k : Int)) = true := by simp; omega
            clear h0 h1 hb
            go_wp2
            go_ret
            exact ⟨by first | rfl | (rw [e2]; rfl) | (rw [e2]), HB2.out⟩
          · obtain ⟨x, hx, hl1, hla, e2⟩ := vbSettled_one (l := l) (t := t) (by rw [← HMM.out]; exact h1) (by rw [HL.out]; exact h2)
            obtain rfl : k = 1 := by rw [← HL.out]; exact hl1
            obtain rfl : z = 0 := by have h3 := HZ.out; have h4 := HJJ.out; rw [hla] at h4; omega
            obtain ⟨ad, rfl, hv⟩ := (HR.out _ hb).vn hx
            have c2 := hv.d2
            simp only [Nat.zero_mul, Addr.add_nought] at c2
            clear h0 h1 hb hx hl1 hla h2 hv
            go_wp2
            go_ret
            exact ⟨by first | rfl | (rw [e2]; rfl) | (rw [e2]), HB2.out⟩
        · have e2 := vbSettled_two (l := l) (t := t) (by rw [← HMM.out]; omega)
          have d1 : ((m : Int) == 1) = false := by rw [beq_eq_false_iff_ne]; omega
          clear h0 h1 hb
          go_wp2
          go_ret
          exact ⟨by first | rfl | (rw [e2]; rfl) | (rw [e2]), HB2.out⟩
end Go.Proofs.Ytjmmaghjbaigiaa
