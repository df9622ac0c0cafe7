/- Contracts of Compare, of the program's and of the document's. -/
import Derived.Test.YtgjahlknefobeaaPlainB
import Derived.Deep.QuietTactic
import Derived.BigQuiet
namespace Go.Proofs.Ytgjahlknefobeaa
open Go.RowKit
set_option linter.unusedVariables false

/-- A call that leaves the world as it is, within a region that draws its order behind draws. -/
theorem quiet_add_same {P : Program} {f : FuncId} {args : Array Value} {w : World} {a n : Nat} {v : Value}
    (h : Calls P f args (w.drewN (a + n)) fun e w' => e = .returned v ∧ w' = w.drewN (a + n)) :
    Calls P f args (w.drewN (a + n)) fun e w'' => e = .returned v ∧ ∃ m, w'' = w.drewN (a + m) :=
  h.mono fun _ _ ⟨he, hm⟩ => ⟨he, n, hm⟩

set_option maxHeartbeats 400000 in
theorem cmpByte_any (x y : Int) (w : World) : Calls Try.prog 39 #[.int .u8 x, .int .u8 y] w fun e w' => e = .returned (.int .i64 (sgn x y)) ∧ w' = w := by
  have hxx : (x != x) = false := by simp
  have hyy : (y != y) = false := by simp
  rcases Int.lt_trichotomy x y with h | h | h
  · have HF := Lib.hid (show sgn x y = -1 from by unfold sgn; rw [if_pos h])
    go_enter Try.func39, Try.ntmps39
    go_wp2
    go_ret
    exact ⟨by rw [HF.out]; rfl, rfl⟩
  · subst h
    have HF := Lib.hid (sgn_self x)
    go_enter Try.func39, Try.ntmps39
    go_wp2
    go_ret
    exact ⟨by rw [HF.out]; rfl, rfl⟩
  · have HF := Lib.hid (show sgn x y = 1 from by unfold sgn; rw [if_neg (by omega), if_pos h])
    have h' : ¬ x < y := by omega
    go_enter Try.func39, Try.ntmps39
    go_wp2
    go_ret
    exact ⟨by rw [HF.out]; rfl, rfl⟩

set_option maxHeartbeats 400000 in
theorem cmpInt_any (x y : Int) (w : World) : Calls Try.prog 40 #[.int .i64 x, .int .i64 y] w fun e w' => e = .returned (.int .i64 (sgn x y)) ∧ w' = w := by
  have hxx : (x != x) = false := by simp
  have hyy : (y != y) = false := by simp
  rcases Int.lt_trichotomy x y with h | h | h
  · have HF := Lib.hid (show sgn x y = -1 from by unfold sgn; rw [if_pos h])
    go_enter Try.func40, Try.ntmps40
    go_wp2
    go_ret
    exact ⟨by rw [HF.out]; rfl, rfl⟩
  · subst h
    have HF := Lib.hid (sgn_self x)
    go_enter Try.func40, Try.ntmps40
    go_wp2
    go_ret
    exact ⟨by rw [HF.out]; rfl, rfl⟩
  · have HF := Lib.hid (show sgn x y = 1 from by unfold sgn; rw [if_neg (by omega), if_pos h])
    have h' : ¬ x < y := by omega
    go_enter Try.func40, Try.ntmps40
    go_wp2
    go_ret
    exact ⟨by rw [HF.out]; rfl, rfl⟩

set_option maxHeartbeats 800000 in
theorem compare_any (A B : Option Addr) (n c m d : Nat) (a b : List UInt8) (w : World) (hn : n ≤ 70368744177664) (hm : m ≤ 70368744177664) (ha : a.length = n) (hb : b.length = m) (hra : RB w A a) (hrb : RB w B b) :
    Calls Try.prog 26 #[.slice A n c, .slice B m d] w fun e w' => e = .returned (.int .i64 (cmpB a b)) ∧ ∃ q, w' = w.drewN q := by
  have HA := Lib.hid ha
  have HB := Lib.hid hb
  clear ha hb
  rcases Nat.lt_or_ge m n with hmn | hmn
  all_goals
    go_enter Try.func26, Try.ntmps26
    go_wp2
    go_loopw [12] (fun i wr => ∃ k q : Nat, k ≤ n ∧ k ≤ m ∧ i = .int .i64 k ∧ cmpB a b = cmpB (a.drop k) (b.drop k) ∧ wr = w.drewN q) (fun i _ => n - (intOf i).toNat)
    case atStart => exact ⟨0, 0, Nat.zero_le _, Nat.zero_le _, rfl, rfl, rfl⟩
    case round =>
      obtain ⟨k, q, hk, hk', rfl, hcm, rfl⟩ := hrel
      have HC := Lib.hid hcm
      clear hcm
      by_cases hlt : k < n ∧ k < m
      · obtain ⟨h1, h2⟩ := hlt
        obtain ⟨ad, x, rfl, hx, hcx⟩ := hra.at_ (k := k) (by rw [HA.out]; exact h1)
        obtain ⟨bd, y, rfl, hy, hcy⟩ := hrb.at_ (k := k) (by rw [HB.out]; exact h2)
        have HS := Lib.hid (cmpB_step hx hy)
        clear hx hy
        rcases Nat.lt_trichotomy x.toNat y.toNat with h | h | h
        · have HF := Lib.hid (show sgn x.toNat y.toNat = -1 from by unfold sgn; rw [if_pos (by omega)])
          have HG := Lib.hid (show cmpB a b = -1 from by rw [HC.out, HS.out, if_pos h])
          go_wp2
          go_quiet ((go_at_call 39; exact quiet_add_same (cmpByte_any _ _ _)))
          rw [HF.out]
          go_wp2
          go_ret
          exact ⟨by rw [HG.out]; rfl, (by (try simp only [World.drewN_drewN]); exact ⟨_, rfl⟩)⟩
        · have HF := Lib.hid (show sgn x.toNat y.toNat = 0 from by unfold sgn; rw [if_neg (by omega), if_neg (by omega)])
          have HG := Lib.hid (show cmpB a b = cmpB (a.drop (k + 1)) (b.drop (k + 1)) from by rw [HC.out, HS.out, if_neg (by omega), if_neg (by omega)])
          have H := Lib.hid h
          clear h
          go_wp2
          go_quiet ((go_at_call 39; exact quiet_add_same (cmpByte_any _ _ _)))
          rw [HF.out]
          go_wp2
          go_roundw
          case rel => exact ⟨k + 1, _, by omega, by omega, by go_num, HG.out, rfl⟩
          case measure => simp [intOf]; omega
        · have HF := Lib.hid (show sgn x.toNat y.toNat = 1 from by unfold sgn; rw [if_neg (by omega), if_pos (by omega)])
          have HG := Lib.hid (show cmpB a b = 1 from by rw [HC.out, HS.out, if_neg (by omega), if_pos h])
          go_wp2
          go_quiet ((go_at_call 39; exact quiet_add_same (cmpByte_any _ _ _)))
          rw [HF.out]
          go_wp2
          go_ret
          exact ⟨by rw [HG.out]; rfl, (by (try simp only [World.drewN_drewN]); exact ⟨_, rfl⟩)⟩
      · have HG := Lib.hid (show cmpB a b = sgn n m from by rw [HC.out, cmpB_done HA.out HB.out hk hk' hlt])
        go_wp2_with (go_at_call 40; refine (cmpInt_any _ _ _).mono ?_; rintro e w' ⟨rfl, rfl⟩)
        go_ret
        exact ⟨by rw [HG.out]; rfl, (by (try simp only [World.drewN_drewN]); exact ⟨_, rfl⟩)⟩

set_option maxHeartbeats 800000 in
theorem refCompare_any (A B : Option Addr) (n c m d : Nat) (a b : List UInt8) (w : World) (hn : n ≤ 70368744177664) (hm : m ≤ 70368744177664) (ha : a.length = n) (hb : b.length = m) (hra : RB w A a) (hrb : RB w B b) :
    Calls Try.prog 27 #[.slice A n c, .slice B m d] w fun e w' => e = .returned (.int .i64 (cmpB a b)) ∧ ∃ q, w' = w.drewN q := by
  have HA := Lib.hid ha
  have HB := Lib.hid hb
  clear ha hb
  go_enter Try.func27, Try.ntmps27
  go_wp2
  go_loopw [5] (fun i wr => ∃ k q : Nat, k ≤ n ∧ k ≤ m ∧ i = .int .i64 k ∧ cmpB a b = cmpB (a.drop k) (b.drop k) ∧ wr = w.drewN q) (fun i _ => n - (intOf i).toNat)
  case atStart => exact ⟨0, 0, Nat.zero_le _, Nat.zero_le _, rfl, rfl, rfl⟩
  case round =>
    obtain ⟨k, q, hk, hk', rfl, hcm, rfl⟩ := hrel
    have HC := Lib.hid hcm
    clear hcm
    by_cases hlt : k < n ∧ k < m
    · obtain ⟨h1, h2⟩ := hlt
      obtain ⟨ad, x, rfl, hx, hcx⟩ := hra.at_ (k := k) (by rw [HA.out]; exact h1)
      obtain ⟨bd, y, rfl, hy, hcy⟩ := hrb.at_ (k := k) (by rw [HB.out]; exact h2)
      have HS := Lib.hid (cmpB_step hx hy)
      clear hx hy
      rcases Nat.lt_trichotomy x.toNat y.toNat with h | h | h
      · have HG := Lib.hid (show cmpB a b = -1 from by rw [HC.out, HS.out, if_pos h])
        go_wp2
        go_quiet (fail)
        go_wp2
        go_ret
        exact ⟨by rw [HG.out]; rfl, (by (try simp only [World.drewN_drewN]); exact ⟨_, rfl⟩)⟩
      · have HG := Lib.hid (show cmpB a b = cmpB (a.drop (k + 1)) (b.drop (k + 1)) from by rw [HC.out, HS.out, if_neg (by omega), if_neg (by omega)])
        have h3 : x.toNat ≤ y.toNat := by omega
        have h4 : y.toNat ≤ x.toNat := by omega
        clear h
        go_wp2
        go_quiet (fail)
        go_wp2
        go_quiet (fail)
        go_wp2
        go_roundw
        case rel => exact ⟨k + 1, _, by omega, by omega, by go_num, HG.out, rfl⟩
        case measure => simp [intOf]; omega
      · have HG := Lib.hid (show cmpB a b = 1 from by rw [HC.out, HS.out, if_neg (by omega), if_pos h])
        have h3 : ¬ x.toNat < y.toNat := by omega
        go_wp2
        go_quiet (fail)
        go_wp2
        go_quiet (fail)
        go_wp2
        go_ret
        exact ⟨by rw [HG.out]; rfl, (by (try simp only [World.drewN_drewN]); exact ⟨_, rfl⟩)⟩
    · have HG := Lib.hid (show cmpB a b = sgn n m from by rw [HC.out, cmpB_done HA.out HB.out hk hk' hlt])
      rcases Nat.lt_trichotomy n m with h | h | h
      · have HF := Lib.hid (show sgn n m = -1 from by unfold sgn; rw [if_pos (by omega)])
        go_wp2
        go_ret
        exact ⟨by rw [HG.out, HF.out]; rfl, _, rfl⟩
      · have HF := Lib.hid (show sgn n m = 0 from by unfold sgn; rw [if_neg (by omega), if_neg (by omega)])
        have h3 : n ≤ m := by omega
        have h4 : m ≤ n := by omega
        clear h
        go_wp2
        go_ret
        exact ⟨by rw [HG.out, HF.out]; rfl, _, rfl⟩
      · have HF := Lib.hid (show sgn n m = 1 from by unfold sgn; rw [if_neg (by omega), if_pos (by omega)])
        have h3 : ¬ n < m := by omega
        go_wp2
        go_ret
        exact ⟨by rw [HG.out, HF.out]; rfl, _, rfl⟩

end Go.Proofs.Ytgjahlknefobeaa
