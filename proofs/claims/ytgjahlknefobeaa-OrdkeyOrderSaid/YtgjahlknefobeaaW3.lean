/- Contracts of PutInt, GetInt, PutSmall, GetSmall, of the program's and of the document's. -/
import Derived.Test.YtgjahlknefobeaaW2
import Derived.Deep.QuietTactic
import Derived.BigQuiet
namespace Go.Proofs.Ytgjahlknefobeaa
open Go.RowKit
set_option linter.unusedVariables false

theorem xor63 (r : Nat) (h : r < 2 ^ 63) : r ^^^ 2 ^ 63 = 2 ^ 63 + r := by
  apply Nat.eq_of_testBit_eq
  intro i
  rw [Nat.testBit_xor, Nat.testBit_two_pow]
  rcases Nat.lt_trichotomy i 63 with h1 | rfl | h1
  · rw [Nat.testBit_two_pow_add_gt h1]
    have : decide (63 = i) = false := by simp; omega
    rw [this]; simp
  · rw [Nat.testBit_two_pow_add_eq]; simp
  · have h2 : 2 ^ 64 ≤ 2 ^ i := Nat.pow_le_pow_right (by omega) (by omega)
    have h3 : (2 : Nat) ^ 64 = 2 ^ 63 + 2 ^ 63 := by decide
    rw [Nat.testBit_lt_two_pow (show r < 2 ^ i by omega), Nat.testBit_lt_two_pow (show 2 ^ 63 + r < 2 ^ i by omega)]
    simp; omega
theorem xor63' (b : Nat) (h : b < 18446744073709551616) : b ^^^ 9223372036854775808 = if b < 9223372036854775808 then b + 9223372036854775808 else b - 9223372036854775808 := by
  have e : (9223372036854775808 : Nat) = 2 ^ 63 := by decide
  split
  · rename_i h1
    rw [e, xor63 b (by omega)]; omega
  · rename_i h1
    have h2 := xor63 (b - 9223372036854775808) (by omega)
    rw [← e] at h2
    have h3 : 9223372036854775808 + (b - 9223372036854775808) = b := by omega
    rw [h3] at h2
    conv => lhs; rw [← h2]
    rw [Nat.xor_assoc, Nat.xor_self, Nat.xor_zero]
theorem sign_xor (b : Nat) (h : b < 18446744073709551616) : wrap64 (bits .xor .u64 (b : Int) 9223372036854775808) = (b : Int) - 9223372036854775808 := by
  have h1 := u64_xor_nat b 9223372036854775808 h (by omega)
  rw [show ((9223372036854775808 : Nat) : Int) = 9223372036854775808 from rfl] at h1
  rw [h1, xor63' b h]
  unfold wrap64
  split <;> omega

theorem sign_add (b : Nat) (h : b < 18446744073709551616) : wrap64 (IntKind.u64.wrap ((b : Int) + 9223372036854775808)) = (b : Int) - 9223372036854775808 := by
  rw [IntKind.wrap_u64]
  unfold wrap64
  omega
theorem put_xor (z : Int) (h1 : -9223372036854775808 ≤ z) (h2 : z < 9223372036854775808) : bits .xor .u64 (IntKind.u64.wrap z) 9223372036854775808 = ((z + 9223372036854775808).toNat : Int) := by
  rw [IntKind.wrap_u64]
  obtain ⟨b, hb⟩ : ∃ b : Nat, z % 18446744073709551616 = (b : Int) := ⟨(z % 18446744073709551616).toNat, by omega⟩
  have h := u64_xor_nat b 9223372036854775808 (by omega) (by omega)
  rw [show ((9223372036854775808 : Nat) : Int) = 9223372036854775808 from rfl] at h
  rw [hb, h, xor63' b (by omega)]
  split <;> omega
theorem put_add (z : Int) (h1 : -9223372036854775808 ≤ z) (h2 : z < 9223372036854775808) : IntKind.u64.wrap (IntKind.u64.wrap z + 9223372036854775808) = ((z + 9223372036854775808).toNat : Int) := by
  rw [IntKind.wrap_u64, IntKind.wrap_u64]
  omega
theorem appendHigh_8 (n : Nat) (w : World) (hn : n < 18446744073709551616) :
    Calls Try.prog 35 #[.slice none 0 0, .int .u64 n, .int .i64 8] w fun e w' => ∃ v', e = .returned v' ∧ OB w.heap.size w' v' (hi 8 n) ∧ Below w.heap.size w w' := by
  have h := appendHigh_any (.slice none 0 0) n 8 [] w w.heap.size hn (by omega) (by simp) (Nat.le_refl _) OB.nil
  exact h
theorem high_8 (n : Nat) (w : World) (hn : n < 18446744073709551616) :
    Calls Try.prog 36 #[.int .u64 n, .int .i64 8] w fun e w' => ∃ v', e = .returned v' ∧ OB w.heap.size w' v' (hi 8 n) ∧ Below w.heap.size w w' := by
  have h := high_any n 8 w hn (by omega)
  exact h

set_option maxHeartbeats 400000 in
theorem getInt_any (A : Option Addr) (n c : Nat) (l : List UInt8) (w : World) (hl : l.length = n) (hc : n ≤ c) (hr : RB w A l) :
    Calls Try.prog 16 #[.slice A n c] w fun e w' => e = .returned (.tuple #[.int .i64 (getInt l).1, .int .i64 (getInt l).2.1, .int .i64 (getInt l).2.2]) ∧ w = w' := by
  by_cases h8 : n < 8
  · have HF := Lib.hid (show getInt l = (0, 0, 3) from by unfold getInt; rw [if_pos (by omega)])
    clear hl
    go_enter Try.func16, Try.ntmps16
    go_wp2
    go_ret3
    exact ⟨by rw [HF.out]; rfl, rfl⟩
  · have HF := Lib.hid (show getInt l = ((be (l.take 8) : Int) - 9223372036854775808, 8, 0) from by unfold getInt; rw [if_neg (by omega)])
    have hb := be_le8 (l.take 8) (List.length_take_le _ _)
    have hS := Lib.hid (sign_xor (be (l.take 8)) hb)
    have HT := Lib.hid (show (l.take 8).length = 8 from by rw [List.length_take]; omega)
    clear hl
    have h8' : 8 ≤ n := by omega
    go_enter Try.func16, Try.ntmps16
    go_wp2_with fail
    refine (joinHigh_any A 8 c (l.take 8) _ HT.out (by omega) (hr.take 8)).mono ?_
    rintro e w' ⟨rfl, rfl⟩
    go_wp2
    go_ret3
    rw [hS.out, HF.out]
    exact ⟨rfl, rfl⟩

set_option maxHeartbeats 400000 in
theorem refGetInt_any (A : Option Addr) (n c : Nat) (l : List UInt8) (w : World) (hl : l.length = n) (hc : n ≤ c) (hr : RB w A l) :
    Calls Try.prog 17 #[.slice A n c] w fun e w' => e = .returned (.tuple #[.int .i64 (getInt l).1, .int .i64 (getInt l).2.1, .int .i64 (getInt l).2.2]) ∧ w = w' := by
  by_cases h8 : n < 8
  · have HF := Lib.hid (show getInt l = (0, 0, 3) from by unfold getInt; rw [if_pos (by omega)])
    clear hl
    go_enter Try.func17, Try.ntmps17
    go_wp2
    go_ret3
    exact ⟨by rw [HF.out]; rfl, rfl⟩
  · have HF := Lib.hid (show getInt l = ((be (l.take 8) : Int) - 9223372036854775808, 8, 0) from by unfold getInt; rw [if_neg (by omega)])
    have hb := be_le8 (l.take 8) (List.length_take_le _ _)
    have HT := Lib.hid (show (l.take 8).length = 8 from by rw [List.length_take]; omega)
    clear hl
    have h8' : 8 ≤ n := by omega
    go_enter Try.func17, Try.ntmps17
    go_wp2_with fail
    refine (low_any A 8 c (l.take 8) _ HT.out (by omega) (hr.take 8)).mono ?_
    rintro e w' ⟨rfl, rfl⟩
    go_wp2
    go_ret3
    rw [HF.out, sign_add _ hb]
    exact ⟨rfl, rfl⟩

set_option maxHeartbeats 400000 in
theorem putInt_any (z : Int) (w : World) (h1 : -9223372036854775808 ≤ z) (h2 : z < 9223372036854775808) :
    Calls Try.prog 18 #[.int .i64 z] w fun e w' => ∃ v', e = .returned v' ∧ OB w.heap.size w' v' (putInt z) ∧ Below w.heap.size w w' := by
  go_enter Try.func18, Try.ntmps18
  go_wp2_with fail
  rw [put_xor z h1 h2]
  refine (appendHigh_8 _ _ (by omega)).mono ?_
  rintro e w' ⟨v', rfl, ho, hb⟩
  go_wp2
  go_ret
  exact ⟨_, rfl, ho, hb⟩
set_option maxHeartbeats 400000 in
theorem refPutInt_any (z : Int) (w : World) (h1 : -9223372036854775808 ≤ z) (h2 : z < 9223372036854775808) :
    Calls Try.prog 19 #[.int .i64 z] w fun e w' => ∃ v', e = .returned v' ∧ OB w.heap.size w' v' (putInt z) ∧ Below w.heap.size w w' := by
  go_enter Try.func19, Try.ntmps19
  go_wp2_with fail
  rw [put_add z h1 h2]
  refine (high_8 _ _ (by omega)).mono ?_
  rintro e w' ⟨v', rfl, ho, hb⟩
  go_wp2
  go_ret
  exact ⟨_, rfl, ho, hb⟩

theorem OB.one (w : World) (base : Nat) (z : Int) (x : UInt8) (h : z = (x.toNat : Int)) (hb : base ≤ w.heap.size) : OB base (w.alloc (.cells #[.int .u8 z] 5)) (.slice (some ⟨w.heap.size, 0, none⟩) 1 1) [x] :=
  OB.lit w base [x] _ (by simp [cellsB, cellB, h]) hb (by simp [maxLen])
theorem wid_byte (n : Nat) (h : wid n ≤ 8) : ((wid n : Nat) : Int) = ((UInt8.ofNat (wid n)).toNat : Int) := by
  rw [ofNat_toNat]
  omega

set_option maxHeartbeats 400000 in
theorem putSmall_any (n : Nat) (w : World) (hn : n < 18446744073709551616) :
    Calls Try.prog 22 #[.int .u64 n] w fun e w' => ∃ v', e = .returned v' ∧ OB w.heap.size w' v' (putSmall n) ∧ Below w.heap.size w w' := by
  have h8 := wid_le8 n hn
  go_enter Try.func22, Try.ntmps22
  go_wp2_with fail
  refine (width_any n _ hn).mono ?_
  rintro e w' ⟨rfl, rfl⟩
  go_wp2_with fail
  refine (appendHigh_any _ n (wid n) [UInt8.ofNat (wid n)] _ w.heap.size hn h8 (by simp) (by simp) (OB.one w _ _ _ (wid_byte n h8) (Nat.le_refl _))).mono ?_
  rintro e w' ⟨v', rfl, ho, hb⟩
  go_wp2
  go_ret
  exact ⟨_, rfl, ho, ((Below.refl _ _).alloc (Nat.le_refl _) _).trans hb⟩

set_option maxHeartbeats 400000 in
theorem refPutSmall_any (n : Nat) (w : World) (hn : n < 18446744073709551616) :
    Calls Try.prog 23 #[.int .u64 n] w fun e w' => ∃ v', e = .returned v' ∧ OB w.heap.size w' v' (putSmall n) ∧ Below w.heap.size w w' := by
  have h8 := wid_le8 n hn
  go_enter Try.func23, Try.ntmps23
  go_wp2
  go_loop [4, 3] (fun t i => ∃ m j : Nat, m < 18446744073709551616 ∧ t = .int .u64 m ∧ i = .int .i64 j ∧ wid n = wid m + j) (fun t _ => (intOf t).toNat)
  case atStart => exact ⟨n, 0, hn, rfl, rfl, rfl⟩
  case round =>
    obtain ⟨m, j, hm, rfl, rfl, hw⟩ := hrel
    have HW := Lib.hid hw
    have hj : j ≤ 8 := by omega
    clear hw
    by_cases h0 : 0 < m
    · have HP := Lib.hid (wid_pos h0)
      go_wp2
      go_round
      case rel => exact ⟨m / 256, j + 1, by omega, by go_num, by go_num, by rw [HW.out, HP.out]; omega⟩
      case measure => simp [intOf]; omega
    · have hj2 : j = wid n := by
        obtain rfl : m = 0 := by omega
        have := HW.out
        rw [wid_zero] at this
        omega
      subst hj2
      clear HW
      go_wp2_with fail
      refine (high_any n (wid n) _ hn h8).mono ?_
      rintro e w1 ⟨v1, rfl, ho, hb⟩
      have hz : w.heap.size + 1 ≤ w1.heap.size := by have := hb.size; simpa using this
      obtain ⟨A, c, rfl, hc, hr⟩ := ho.form
      have h1 := (OB.one w w.heap.size _ _ (wid_byte n h8) (Nat.le_refl _)).keep hb (by simp)
      have HL := Lib.hid (hi_len (wid n) n)
      go_wp2_with (at_builtin; refine wpList_append_B rfl (.tmp 14) (.tmp 17) rfl w.heap.size _ [UInt8.ofNat (wid n)] rfl h1 _ _ _ (hi (wid n) n) rfl rfl hr (by rw [HL.out]; simp; omega) (by omega) ?_; intro v2 w2 hown2 hb2)
      go_ret
      exact ⟨_, rfl, hown2, (((Below.refl _ _).alloc (Nat.le_refl _) _).trans (hb.mono (by simp))).trans hb2⟩

set_option maxHeartbeats 400000 in
theorem getSmall_any (A : Option Addr) (n c : Nat) (l : List UInt8) (w : World) (hN : n ≤ 70368744177664) (hl : l.length = n) (hc : n ≤ c) (hr : RB w A l) :
    Calls Try.prog 20 #[.slice A n c] w fun e w' => e = .returned (.tuple #[.int .u64 (getSmall l).1, .int .i64 (getSmall l).2.1, .int .i64 (getSmall l).2.2]) ∧ w = w' := by
  rcases l with _ | ⟨x, r⟩
  · obtain rfl : n = 0 := by simpa using hl.symm
    clear hl
    go_enter Try.func20, Try.ntmps20
    go_wp2
    go_ret3
    exact ⟨rfl, rfl⟩
  · obtain ⟨ad, x', rfl, hx, hcell⟩ := hr.at_ (k := 0) (by simp)
    obtain rfl : x = x' := by simpa using hx
    rw [Addr.add_nought] at hcell
    have hn : 0 < n := by simp at hl; omega
    have HL := Lib.hid (show r.length + 1 = n from by simpa using hl)
    have hx8 : x.toNat < 256 := x.toNat_lt
    clear hl hx
    by_cases h8 : 8 < x.toNat
    · have HF := Lib.hid (show getSmall (x :: r) = (0, 0, 4) from by rw [getSmall_cons, if_pos h8])
      go_enter Try.func20, Try.ntmps20
      go_wp2
      go_ret3
      exact ⟨by rw [HF.out]; rfl, rfl⟩
    by_cases hs : n - 1 < x.toNat
    · have HF := Lib.hid (show getSmall (x :: r) = (0, 0, 3) from by rw [getSmall_cons, if_neg h8, if_pos (by have := HL.out; omega)])
      go_enter Try.func20, Try.ntmps20
      go_wp2
      go_ret3
      exact ⟨by rw [HF.out]; rfl, rfl⟩
    have hxn : x.toNat + 1 ≤ n := by omega
    have HT := Lib.hid (show (r.take x.toNat).length = x.toNat from by rw [List.length_take]; have := HL.out; omega)
    have hrd : RB w (some (ad.add 1)) (r.take x.toNat) := by
      have := (hr.drop 1).take x.toNat
      simpa using this
    rw [Addr.add_one_] at hrd
    by_cases h0 : 0 < x.toNat
    · obtain ⟨_, y, e, hy, hcy⟩ := hr.at_ (k := 1) (by simp; have := HL.out; omega)
      injection e with e
      subst e
      rw [Addr.add_one_] at hcy
      have hyr : r.head? = some y := by cases r <;> simp_all
      have hy8 : y.toNat < 256 := y.toNat_lt
      clear hy
      by_cases hy0 : y.toNat = 0
      · have HF := Lib.hid (show getSmall (x :: r) = (0, 0, 4) from by
          have hy00 : y = 0 := by apply UInt8.toNat_inj.1; simpa using hy0
          rw [getSmall_cons, if_neg h8, if_neg (by have := HL.out; omega), if_pos ⟨h0, by rw [hyr, hy00]⟩])
        clear hyr
        go_enter Try.func20, Try.ntmps20
        go_wp2
        go_ret3
        exact ⟨by rw [HF.out]; rfl, rfl⟩
      · have HF := Lib.hid (show getSmall (x :: r) = (be (r.take x.toNat), 1 + x.toNat, 0) from by
          rw [getSmall_cons, if_neg h8, if_neg (by have := HL.out; omega), if_neg (by
            rintro ⟨_, h⟩
            rw [hyr] at h
            injection h with h
            subst h
            exact hy0 rfl)])
        clear hyr
        go_enter Try.func20, Try.ntmps20
        go_wp2_with fail
        refine (joinHigh_any _ x.toNat _ (r.take x.toNat) _ HT.out (by omega) hrd).mono ?_
        rintro e w' ⟨rfl, rfl⟩
        go_wp2
        go_ret3
        rw [HF.out]
        exact ⟨rfl, rfl⟩
    · have HF := Lib.hid (show getSmall (x :: r) = (be (r.take x.toNat), 1 + x.toNat, 0) from by
        rw [getSmall_cons, if_neg h8, if_neg (by have := HL.out; omega), if_neg (by
          rintro ⟨h, _⟩
          exact h0 h)])
      have HN := Lib.hid (show r.take x.toNat = [] from by rw [show x.toNat = 0 by omega]; rfl)
      go_enter Try.func20, Try.ntmps20
      go_wp2_with fail
      all_goals
        refine (joinHigh_any _ x.toNat _ (r.take x.toNat) _ HT.out (by omega) (.inl HN.out)).mono ?_
        rintro e w' ⟨rfl, rfl⟩
        go_wp2
        go_ret3
        rw [HF.out]
        exact ⟨rfl, rfl⟩

set_option maxHeartbeats 400000 in
theorem refGetSmall_any (A : Option Addr) (n c : Nat) (l : List UInt8) (w : World) (hN : n ≤ 70368744177664) (hl : l.length = n) (hc : n ≤ c) (hr : RB w A l) :
    Calls Try.prog 21 #[.slice A n c] w fun e w' => e = .returned (.tuple #[.int .u64 (getSmall l).1, .int .i64 (getSmall l).2.1, .int .i64 (getSmall l).2.2]) ∧ ∃ q, w' = w.drewN q := by
  rcases l with _ | ⟨x, r⟩
  · obtain rfl : n = 0 := by simpa using hl.symm
    clear hl
    go_enter Try.func21, Try.ntmps21
    go_wp2
    go_ret3
    exact ⟨rfl, 0, rfl⟩
  · obtain ⟨ad, x', rfl, hx, hcell⟩ := hr.at_ (k := 0) (by simp)
    obtain rfl : x = x' := by simpa using hx
    rw [Addr.add_nought] at hcell
    have hn : 0 < n := by simp at hl; omega
    have HL := Lib.hid (show r.length + 1 = n from by simpa using hl)
    have hx8 : x.toNat < 256 := x.toNat_lt
    clear hl hx
    by_cases h8 : 8 < x.toNat
    · have HF := Lib.hid (show getSmall (x :: r) = (0, 0, 4) from by rw [getSmall_cons, if_pos h8])
      go_enter Try.func21, Try.ntmps21
      go_wp2
      go_ret3
      exact ⟨by rw [HF.out]; rfl, 0, rfl⟩
    by_cases hs : n - 1 < x.toNat
    · have HF := Lib.hid (show getSmall (x :: r) = (0, 0, 3) from by rw [getSmall_cons, if_neg h8, if_pos (by have := HL.out; omega)])
      go_enter Try.func21, Try.ntmps21
      go_wp2
      go_ret3
      exact ⟨by rw [HF.out]; rfl, 0, rfl⟩
    have hxn : x.toNat + 1 ≤ n := by omega
    have HT := Lib.hid (show (r.take x.toNat).length = x.toNat from by rw [List.length_take]; have := HL.out; omega)
    have hrd : RB w (some (ad.add 1)) (r.take x.toNat) := by
      have := (hr.drop 1).take x.toNat
      simpa using this
    rw [Addr.add_one_] at hrd
    by_cases h0 : 0 < x.toNat
    · obtain ⟨_, y, e, hy, hcy⟩ := hr.at_ (k := 1) (by simp; have := HL.out; omega)
      injection e with e
      subst e
      rw [Addr.add_one_] at hcy
      have hyr : r.head? = some y := by cases r <;> simp_all
      have hy8 : y.toNat < 256 := y.toNat_lt
      clear hy
      by_cases hy0 : y.toNat = 0
      · have HF := Lib.hid (show getSmall (x :: r) = (0, 0, 4) from by
          have hy00 : y = 0 := by apply UInt8.toNat_inj.1; simpa using hy0
          rw [getSmall_cons, if_neg h8, if_neg (by have := HL.out; omega), if_pos ⟨h0, by rw [hyr, hy00]⟩])
        clear hyr
        go_enter Try.func21, Try.ntmps21
        go_wp2
        go_ret3
        exact ⟨by rw [HF.out]; rfl, 0, rfl⟩
      · have HF := Lib.hid (show getSmall (x :: r) = (be (r.take x.toNat), 1 + x.toNat, 0) from by
          rw [getSmall_cons, if_neg h8, if_neg (by have := HL.out; omega), if_neg (by
            rintro ⟨_, h⟩
            rw [hyr] at h
            injection h with h
            subst h
            exact hy0 rfl)])
        clear hyr
        go_enter Try.func21, Try.ntmps21
        go_wp2
        go_quiet ((go_at_call 34; exact Calls.quiet_of_same ((low_any _ x.toNat _ (r.take x.toNat) _ HT.out (by omega) (hrd.drewN _)).mono fun _ _ h => ⟨h.1, h.2.symm⟩)))
        go_wp2
        go_ret3
        rw [HF.out]
        exact ⟨rfl, _, rfl⟩
    · have HF := Lib.hid (show getSmall (x :: r) = (be (r.take x.toNat), 1 + x.toNat, 0) from by
        rw [getSmall_cons, if_neg h8, if_neg (by have := HL.out; omega), if_neg (by
          rintro ⟨h, _⟩
          exact h0 h)])
      have HN := Lib.hid (show r.take x.toNat = [] from by rw [show x.toNat = 0 by omega]; rfl)
      by_cases hc1 : c = 1
      all_goals
        go_enter Try.func21, Try.ntmps21
        go_wp2
        go_quiet ((go_at_call 34; exact Calls.quiet_of_same ((low_any _ x.toNat _ (r.take x.toNat) _ HT.out (by omega) (.inl HN.out)).mono fun _ _ h => ⟨h.1, h.2.symm⟩)))
        go_wp2
        go_ret3
        rw [HF.out]
        exact ⟨rfl, _, rfl⟩

end Go.Proofs.Ytgjahlknefobeaa
