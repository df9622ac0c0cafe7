/- PutSmall, GetSmall of both. -/
import Derived.Test.YtjmmaghjbaigiaaOkA
import Derived.Deep.QuietTactic
import Derived.BigQuiet
import Derived.Lib.SliceRun
namespace Go.Proofs.Ytjmmaghjbaigiaa
open Go.RowKit
set_option linter.unusedVariables false
set_option linter.unusedSimpArgs false
theorem OB.one (w : World) (base : Nat) (z : Int) (x : UInt8) (h : z = (x.toNat : Int)) (hb : base ≤ w.heap.size) : OB base (w.alloc (.cells #[.int .u8 z] 5)) (.slice (some ⟨w.heap.size, 0, none⟩) 1 1) [x] :=
  OB.lit w base [x] _ (by simp [cellsB, cellB, h]) hb (by simp [maxLen])
theorem wid_byte (n : Nat) (h : wid n ≤ 8) : ((wid n : Nat) : Int) = ((UInt8.ofNat (wid n)).toNat : Int) := by
  rw [ofNat_toNat]
  omega
set_option maxHeartbeats 400000 in
theorem putSmall_any (n : Nat) (w : World) (hn : n < 18446744073709551616) :
    Calls Try.prog 38 #[.int .u64 n] w fun e w' => ∃ v', e = .returned v' ∧ OB w.heap.size w' v' (putSmall n) ∧ Below w.heap.size w w' := by
  have h8 := wid_le8 n hn
  go_enter Try.func38, Try.ntmps38
  go_wp2_with fail
  refine (width_any n _ hn).mono ?_
  rintro e w' ⟨rfl, rfl⟩
  go_wp2_with fail
  refine (appendHigh_any _ n (wid n) [UInt8.ofNat (wid n)] _ w.heap.size hn h8 (by simp) (by simp) (OB.one w _ _ _ (wid_byte n h8) (Nat.le_refl _))).mono ?_
  rintro e w' ⟨v', rfl, ho, hb⟩
  go_wp2
  go_ret
  exact ⟨_, rfl, ho, ((Below.refl _ _).alloc (Nat.le_refl _) _).trans hb⟩
set_option maxHeartbeats 400000 in
theorem refPutSmall_any (n : Nat) (w : World) (hn : n < 18446744073709551616) :
    Calls Try.prog 42 #[.int .u64 n] w fun e w' => ∃ v', e = .returned v' ∧ OB w.heap.size w' v' (putSmall n) ∧ Below w.heap.size w w' := by
  have h8 := wid_le8 n hn
  go_enter Try.func42, Try.ntmps42
  go_wp2
  go_loop [4, 3] (fun t i => ∃ m j : Nat, m < 18446744073709551616 ∧ t = .int .u64 m ∧ i = .int .i64 j ∧ wid n = wid m + j) (fun t _ => (intOf t).toNat)
  case atStart => exact ⟨n, 0, hn, rfl, rfl, rfl⟩
  case round =>
    obtain ⟨m, j, hm, rfl, rfl, hw⟩ := hrel
    have HW := Lib.hid hw
    have hj : j ≤ 8 := by omega
    clear hw
    by_cases h0 : 0 < m
    · have HP := Lib.hid (wid_pos h0)
      go_wp2
      go_round
      case rel => exact ⟨m / 256, j + 1, by omega, by go_num, by go_num, by rw [HW.out, HP.out]; omega⟩
      case measure => simp [intOf]; omega
    · have hj2 : j = wid n := by
        obtain rfl : m = 0 := by omega
        have := HW.out
        rw [wid_zero] at this
        omega
      subst hj2
      clear HW
      go_wp2_with fail
      refine (high_any n (wid n) _ hn h8).mono ?_
      rintro e w1 ⟨v1, rfl, ho, hb⟩
      have hz : w.heap.size + 1 ≤ w1.heap.size := by have := hb.size; simpa using this
      obtain ⟨A, c, rfl, hc, hr⟩ := ho.form
      have h1 := (OB.one w w.heap.size _ _ (wid_byte n h8) (Nat.le_refl _)).keep hb (by simp)
      have HL := Lib.hid (hi_len (wid n) n)
      go_wp2_with (at_builtin; refine wpList_append_B rfl (.tmp 14) (.tmp 17) rfl w.heap.size _ [UInt8.ofNat (wid n)] rfl h1 _ _ _ (hi (wid n) n) rfl rfl hr (by rw [HL.out]; simp; omega) (by omega) ?_; intro v2 w2 hown2 hb2)
      go_ret
      exact ⟨_, rfl, hown2, (((Below.refl _ _).alloc (Nat.le_refl _) _).trans (hb.mono (by simp))).trans hb2⟩
set_option maxHeartbeats 400000 in
theorem getSmall_any (A : Option Addr) (n c : Nat) (l : List UInt8) (w : World) (hN : n ≤ 70368744177664) (hl : l.length = n) (hc : n ≤ c) (hr : RB w A l) :
    Calls Try.prog 108 #[.slice A n c] w fun e w' => e = .returned (.tuple #[.int .u64 (getSmall l).1, .int .i64 (getSmall l).2.1, .int .i64 (getSmall l).2.2]) ∧ w = w' := by
  rcases l with _ | ⟨x, r⟩
  · obtain rfl : n = 0 := by simpa using hl.symm
    clear hl
    go_enter Try.func108, Try.ntmps108
    go_wp2
    go_ret3
    exact ⟨rfl, rfl⟩
  · obtain ⟨ad, x', rfl, hx, hcell⟩ := hr.at_ (k := 0) (by simp)
    obtain rfl : x = x' := by simpa using hx
    rw [Addr.add_nought] at hcell
    have hn : 0 < n := by simp at hl; omega
    have HL := Lib.hid (show r.length + 1 = n from by simpa using hl)
    have hx8 : x.toNat < 256 := x.toNat_lt
    clear hl hx
    by_cases h8 : 8 < x.toNat
    · have HF := Lib.hid (show getSmall (x :: r) = (0, 0, 4) from by rw [getSmall_cons, if_pos h8])
      go_enter Try.func108, Try.ntmps108
      go_wp2
      go_ret3
      exact ⟨by rw [HF.out]; rfl, rfl⟩
    by_cases hs : n - 1 < x.toNat
    · have HF := Lib.hid (show getSmall (x :: r) = (0, 0, 3) from by rw [getSmall_cons, if_neg h8, if_pos (by have := HL.out; omega)])
      go_enter Try.func108, Try.ntmps108
      go_wp2
      go_ret3
      exact ⟨by rw [HF.out]; rfl, rfl⟩
    have hxn : x.toNat + 1 ≤ n := by omega
    have HT := Lib.hid (show (r.take x.toNat).length = x.toNat from by rw [List.length_take]; have := HL.out; omega)
    have hrd : RB w (some (ad.add 1)) (r.take x.toNat) := by
      have := (hr.drop 1).take x.toNat
      simpa using this
    rw [Addr.add_one_] at hrd
    by_cases h0 : 0 < x.toNat
    · obtain ⟨_, y, e, hy, hcy⟩ := hr.at_ (k := 1) (by simp; have := HL.out; omega)
      injection e with e
      subst e
      rw [Addr.add_one_] at hcy
      have hyr : r.head? = some y := by cases r <;> simp_all
      have hy8 : y.toNat < 256 := y.toNat_lt
      clear hy
      by_cases hy0 : y.toNat = 0
      · have HF := Lib.hid (show getSmall (x :: r) = (0, 0, 4) from by
          have hy00 : y = 0 := by apply UInt8.toNat_inj.1; simpa using hy0
          rw [getSmall_cons, if_neg h8, if_neg (by have := HL.out; omega), if_pos ⟨h0, by rw [hyr, hy00]⟩])
        clear hyr
        go_enter Try.func108, Try.ntmps108
        go_wp2
        go_ret3
        exact ⟨by rw [HF.out]; rfl, rfl⟩
      · have HF := Lib.hid (show getSmall (x :: r) = (be (r.take x.toNat), 1 + x.toNat, 0) from by
          rw [getSmall_cons, if_neg h8, if_neg (by have := HL.out; omega), if_neg (by
            rintro ⟨_, h⟩
            rw [hyr] at h
            injection h with h
            subst h
            exact hy0 rfl)])
        clear hyr
        go_enter Try.func108, Try.ntmps108
        go_wp2_with fail
        refine (joinHigh_any _ x.toNat _ (r.take x.toNat) _ HT.out (by omega) hrd).mono ?_
        rintro e w' ⟨rfl, rfl⟩
        go_wp2
        go_ret3
        rw [HF.out]
        exact ⟨rfl, rfl⟩
    · have HF := Lib.hid (show getSmall (x :: r) = (be (r.take x.toNat), 1 + x.toNat, 0) from by
        rw [getSmall_cons, if_neg h8, if_neg (by have := HL.out; omega), if_neg (by
          rintro ⟨h, _⟩
          exact h0 h)])
      have HN := Lib.hid (show r.take x.toNat = [] from by rw [show x.toNat = 0 by omega]; rfl)
      go_enter Try.func108, Try.ntmps108
      go_wp2_with fail
      all_goals
        refine (joinHigh_any _ x.toNat _ (r.take x.toNat) _ HT.out (by omega) (.inl HN.out)).mono ?_
        rintro e w' ⟨rfl, rfl⟩
        go_wp2
        go_ret3
        rw [HF.out]
        exact ⟨rfl, rfl⟩
set_option maxHeartbeats 400000 in
theorem refGetSmall_any (A : Option Addr) (n c : Nat) (l : List UInt8) (w : World) (hN : n ≤ 70368744177664) (hl : l.length = n) (hc : n ≤ c) (hr : RB w A l) :
    Calls Try.prog 97 #[.slice A n c] w fun e w' => e = .returned (.tuple #[.int .u64 (getSmall l).1, .int .i64 (getSmall l).2.1, .int .i64 (getSmall l).2.2]) ∧ ∃ q, w' = w.drewN q := by
  rcases l with _ | ⟨x, r⟩
  · obtain rfl : n = 0 := by simpa using hl.symm
    clear hl
    go_enter Try.func97, Try.ntmps97
    go_wp2
    go_ret3
    exact ⟨rfl, 0, rfl⟩
  · obtain ⟨ad, x', rfl, hx, hcell⟩ := hr.at_ (k := 0) (by simp)
    obtain rfl : x = x' := by simpa using hx
    rw [Addr.add_nought] at hcell
    have hn : 0 < n := by simp at hl; omega
    have HL := Lib.hid (show r.length + 1 = n from by simpa using hl)
    have hx8 : x.toNat < 256 := x.toNat_lt
    clear hl hx
    by_cases h8 : 8 < x.toNat
    · have HF := Lib.hid (show getSmall (x :: r) = (0, 0, 4) from by rw [getSmall_cons, if_pos h8])
      go_enter Try.func97, Try.ntmps97
      go_wp2
      go_ret3
      exact ⟨by rw [HF.out]; rfl, 0, rfl⟩
    by_cases hs : n - 1 < x.toNat
    · have HF := Lib.hid (show getSmall (x :: r) = (0, 0, 3) from by rw [getSmall_cons, if_neg h8, if_pos (by have := HL.out; omega)])
      go_enter Try.func97, Try.ntmps97
      go_wp2
      go_ret3
      exact ⟨by rw [HF.out]; rfl, 0, rfl⟩
    have hxn : x.toNat + 1 ≤ n := by omega
    have HT := Lib.hid (show (r.take x.toNat).length = x.toNat from by rw [List.length_take]; have := HL.out; omega)
    have hrd : RB w (some (ad.add 1)) (r.take x.toNat) := by
      have := (hr.drop 1).take x.toNat
      simpa using this
    rw [Addr.add_one_] at hrd
    by_cases h0 : 0 < x.toNat
    · obtain ⟨_, y, e, hy, hcy⟩ := hr.at_ (k := 1) (by simp; have := HL.out; omega)
      injection e with e
      subst e
      rw [Addr.add_one_] at hcy
      have hyr : r.head? = some y := by cases r <;> simp_all
      have hy8 : y.toNat < 256 := y.toNat_lt
      clear hy
      by_cases hy0 : y.toNat = 0
      · have HF := Lib.hid (show getSmall (x :: r) = (0, 0, 4) from by
          have hy00 : y = 0 := by apply UInt8.toNat_inj.1; simpa using hy0
          rw [getSmall_cons, if_neg h8, if_neg (by have := HL.out; omega), if_pos ⟨h0, by rw [hyr, hy00]⟩])
        clear hyr
        go_enter Try.func97, Try.ntmps97
        go_wp2
        go_ret3
        exact ⟨by rw [HF.out]; rfl, 0, rfl⟩
      · have HF := Lib.hid (show getSmall (x :: r) = (be (r.take x.toNat), 1 + x.toNat, 0) from by
          rw [getSmall_cons, if_neg h8, if_neg (by have := HL.out; omega), if_neg (by
            rintro ⟨_, h⟩
            rw [hyr] at h
            injection h with h
            subst h
            exact hy0 rfl)])
        clear hyr
        go_enter Try.func97, Try.ntmps97
        go_wp2
        go_quiet ((go_at_call 112; exact Calls.quiet_of_same ((low_any _ x.toNat _ (r.take x.toNat) _ HT.out (by omega) (hrd.drewN _)).mono fun _ _ h => ⟨h.1, h.2.symm⟩)))
        go_wp2
        go_ret3
        rw [HF.out]
        exact ⟨rfl, _, rfl⟩
    · have HF := Lib.hid (show getSmall (x :: r) = (be (r.take x.toNat), 1 + x.toNat, 0) from by
        rw [getSmall_cons, if_neg h8, if_neg (by have := HL.out; omega), if_neg (by
          rintro ⟨h, _⟩
          exact h0 h)])
      have HN := Lib.hid (show r.take x.toNat = [] from by rw [show x.toNat = 0 by omega]; rfl)
      by_cases hc1 : c = 1
      all_goals
        go_enter Try.func97, Try.ntmps97
        go_wp2
        go_quiet ((go_at_call 112; exact Calls.quiet_of_same ((low_any _ x.toNat _ (r.take x.toNat) _ HT.out (by omega) (.inl HN.out)).mono fun _ _ h => ⟨h.1, h.2.symm⟩)))
        go_wp2
        go_ret3
        rw [HF.out]
        exact ⟨rfl, _, rfl⟩
end Go.Proofs.Ytjmmaghjbaigiaa
