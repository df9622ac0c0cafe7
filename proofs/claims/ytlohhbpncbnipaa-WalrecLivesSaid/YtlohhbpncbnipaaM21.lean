/- Joined: OkA OkB OkC. -/
import Derived.Test.YtlohhbpncbnipaaM01
import Derived.Laws.BitsAllLaws
import Derived.Deep.QuietTactic
import Derived.BigQuiet
import Derived.Lib.SliceRun
section
/- Numbers of few bytes: what is laid and read (plain), and the contracts of joinHigh, width, appendHigh and the document's. -/
namespace Go.Proofs.Ytlohhbpncbnipaa
open Go.RowKit
set_option linter.unusedVariables false
set_option linter.unusedSimpArgs false
/-- k bytes of n, the highest first. -/
def hi : Nat → Nat → List UInt8
  | 0, _ => []
  | k + 1, n => UInt8.ofNat (n / 256 ^ k) :: hi k n
theorem hi_len (k n : Nat) : (hi k n).length = k := by
  induction k with
  | zero => rfl
  | succ k ih => simp [hi, ih]
theorem hi_at (k n i : Nat) (h : i < k) : (hi k n)[i]? = some (UInt8.ofNat (n / 256 ^ (k - 1 - i))) := by
  induction k generalizing i with
  | zero => omega
  | succ k ih =>
    cases i with
    | zero => simp [hi]
    | succ i =>
      simp only [hi, List.getElem?_cons_succ]
      rw [ih i (by omega)]
      congr 4
      omega
theorem hi_take (k n i : Nat) (h : i < k) : (hi k n).take (i + 1) = (hi k n).take i ++ [UInt8.ofNat (n / 256 ^ (k - 1 - i))] := take_snoc (hi_at k n i h)
/-- How many bytes a number needs. -/
def wid (n : Nat) : Nat := if h : n = 0 then 0 else wid (n / 256) + 1
termination_by n
decreasing_by omega
theorem wid_zero : wid 0 = 0 := by unfold wid; simp
theorem wid_pos {n : Nat} (h : 0 < n) : wid n = wid (n / 256) + 1 := by
  rw [wid, dif_neg (by omega)]
theorem wid_le (k n : Nat) (h : n < 256 ^ k) : wid n ≤ k := by
  induction k generalizing n with
  | zero =>
    have : n = 0 := by simpa using h
    subst this
    rw [wid_zero]
    exact Nat.le_refl _
  | succ k ih =>
    rcases Nat.eq_zero_or_pos n with rfl | h0
    · rw [wid_zero]; omega
    · rw [wid_pos h0]
      have := ih (n / 256) (by rw [Nat.pow_succ] at h; exact Nat.div_lt_of_lt_mul (by omega))
      omega
theorem wid_le8 (n : Nat) (h : n < 18446744073709551616) : wid n ≤ 8 := wid_le 8 n (by have : (256 : Nat) ^ 8 = 18446744073709551616 := by decide
                                                                                       omega)
def putSmall (n : Nat) : List UInt8 := UInt8.ofNat (wid n) :: hi (wid n) n
/-- value, how many bytes, the error's number. -/
def getSmall : List UInt8 → Nat × Nat × Nat
  | [] => (0, 0, 3)
  | x :: r => if 8 < x.toNat then (0, 0, 4) else if r.length < x.toNat then (0, 0, 3) else if 0 < x.toNat ∧ r.head? = some 0 then (0, 0, 4) else (be (r.take x.toNat), 1 + x.toNat, 0)
theorem getSmall_cons (x : UInt8) (r : List UInt8) : getSmall (x :: r) = if 8 < x.toNat then (0, 0, 4) else if r.length < x.toNat then (0, 0, 3) else if 0 < x.toNat ∧ r.head? = some 0 then (0, 0, 4) else (be (r.take x.toNat), 1 + x.toNat, 0) := rfl
theorem or_join (a x : Nat) (ha : a < 72057594037927936) (hx : x < 256) : bits .or .u64 ((a : Int) * 256) (x : Int) = ((a * 256 + x : Nat) : Int) := by
  have h := u64_or_nat (a * 256) x (by omega) (by omega)
  have e : a * 256 ||| x = a * 256 + x := by
    have := Nat.shiftLeft_add_eq_or_of_lt (i := 8) (b := x) (by omega) a
    rw [Nat.shiftLeft_eq, show (2 : Nat) ^ 8 = 256 from rfl] at this
    omega
  rw [← e, ← h]
  congr 1
set_option maxHeartbeats 400000 in
theorem low_any (A : Option Addr) (n c : Nat) (l : List UInt8) (w : World) (hl : l.length = n) (h8 : n ≤ 8) (hr : RB w A l) :
    Calls Try.prog 55 #[.slice A n c] w fun e w' => e = .returned (.int .u64 (be l : Nat)) ∧ w = w' := by
  have HL := Lib.hid hl
  clear hl
  go_enter Try.func55, Try.ntmps55
  go_wp2
  go_loop [3, 4] (fun t i => ∃ k : Nat, k ≤ n ∧ i = .int .i64 k ∧ t = .int .u64 (be (l.take k) : Nat)) (fun _ i => n - (intOf i).toNat)
  case atStart => exact ⟨0, Nat.zero_le _, rfl, rfl⟩
  case round =>
    obtain ⟨k, hk, rfl, rfl⟩ := hrel
    by_cases hlt : k < n
    · obtain ⟨ad, x, rfl, hx, hc⟩ := hr.at_ (k := k) (by rw [HL.out]; exact hlt)
      have hb := be_le7 (l.take k) (by have := List.length_take_le k l; omega)
      have hs : be (l.take (k + 1)) = be (l.take k) * 256 + x.toNat := by rw [take_snoc hx, be_snoc]
      have hx8 : x.toNat < 256 := x.toNat_lt
      have HS := Lib.hid hs
      clear hs hx
      go_wp2
      go_round
      case rel => exact ⟨k + 1, by omega, by go_num, by rw [HS.out]; go_num⟩
      case measure => simp [intOf]; omega
    · go_wp2
      go_ret
      refine ⟨?_, rfl⟩
      rw [List.take_of_length_le (by rw [HL.out]; omega)]
      rfl
set_option maxHeartbeats 400000 in
theorem joinHigh_any (A : Option Addr) (n c : Nat) (l : List UInt8) (w : World) (hl : l.length = n) (h8 : n ≤ 8) (hr : RB w A l) :
    Calls Try.prog 59 #[.slice A n c] w fun e w' => e = .returned (.int .u64 (be l : Nat)) ∧ w = w' := by
  have HL := Lib.hid hl
  clear hl
  go_enter Try.func59, Try.ntmps59
  go_wp2
  go_loop [3, 7] (fun t i => ∃ k : Nat, k ≤ n ∧ i = .int .i64 k ∧ t = .int .u64 (be (l.take k) : Nat)) (fun _ i => n - (intOf i).toNat)
  case atStart => exact ⟨0, Nat.zero_le _, rfl, rfl⟩
  case round =>
    obtain ⟨k, hk, rfl, rfl⟩ := hrel
    by_cases hlt : k < n
    · obtain ⟨ad, x, rfl, hx, hc⟩ := hr.at_ (k := k) (by rw [HL.out]; exact hlt)
      have hb := be_le7 (l.take k) (by have := List.length_take_le k l; omega)
      have hs : be (l.take (k + 1)) = be (l.take k) * 256 + x.toNat := by rw [take_snoc hx, be_snoc]
      have hx8 : x.toNat < 256 := x.toNat_lt
      have HS := Lib.hid hs
      clear hs hx
      go_wp2
      go_round
      case rel => exact ⟨k + 1, by omega, by go_num, by rw [HS.out, or_join _ _ hb hx8]⟩
      case measure => simp [intOf]; omega
    · go_wp2
      go_ret
      refine ⟨?_, rfl⟩
      rw [List.take_of_length_le (by rw [HL.out]; omega)]
      rfl
set_option maxHeartbeats 400000 in
theorem width_any (n : Nat) (w : World) (hn : n < 18446744073709551616) :
    Calls Try.prog 38 #[.int .u64 n] w fun e w' => e = .returned (.int .i64 (wid n : Nat)) ∧ w = w' := by
  have h8 := wid_le8 n hn
  go_enter Try.func38, Try.ntmps38
  go_wp2
  go_loop [0, 3] (fun t i => ∃ m j : Nat, m < 18446744073709551616 ∧ t = .int .u64 m ∧ i = .int .i64 j ∧ wid n = wid m + j) (fun t _ => (intOf t).toNat)
  case atStart => exact ⟨n, 0, hn, rfl, rfl, rfl⟩
  case round =>
    obtain ⟨m, j, hm, rfl, rfl, hw⟩ := hrel
    have HW := Lib.hid hw
    have hj : j ≤ 8 := by omega
    clear hw
    by_cases h0 : 0 < m
    · have HP := Lib.hid (wid_pos h0)
      go_wp2
      go_round
      case rel => exact ⟨m / 256, j + 1, by omega, by go_num, by go_num, by rw [HW.out, HP.out]; omega⟩
      case measure => simp [intOf]; omega
    · go_wp2
      go_ret
      refine ⟨?_, rfl⟩
      obtain rfl : m = 0 := by omega
      rw [HW.out, wid_zero]
      simp
theorem byte_high (n k j : Nat) : (n : Int) / 2 ^ (8 * (k - 1 - j)) % 256 = ((UInt8.ofNat (n / 256 ^ (k - 1 - j))).toNat : Int) := by
  rw [ofNat_toNat, show (256 : Nat) = 2 ^ 8 from rfl, ← Nat.pow_mul]
  simp
set_option maxHeartbeats 400000 in
theorem appendHigh_any (v : Value) (n k : Nat) (l : List UInt8) (w : World) (base : Nat) (hn : n < 18446744073709551616) (hk : k ≤ 8) (hl : l.length ≤ 8) (hbase : base ≤ w.heap.size) (ho : OB base w v l) :
    Calls Try.prog 39 #[v, .int .u64 n, .int .i64 k] w fun e w' => ∃ v', e = .returned v' ∧ OB base w' v' (l ++ hi k n) ∧ Below base w w' := by
  go_enter Try.func39, Try.ntmps39
  go_wp2
  go_loopw [0, 9] (fun t i wr => ∃ j : Nat, j ≤ k ∧ i = .int .i64 j ∧ OB base wr t (l ++ (hi k n).take j) ∧ Below base w wr) (fun _ i _ => k - (intOf i).toNat)
  case atStart => exact ⟨0, Nat.zero_le _, rfl, by simpa using ho, Below.refl _ _⟩
  case round =>
    obtain ⟨j, hj, rfl, hown, hbel⟩ := hrel
    by_cases hlt : j < k
    · have hlen : (l ++ (hi k n).take j).length ≤ 16 := by simp [hi_len]; omega
      have HT := Lib.hid (hi_take k n j hlt)
      have hbs : base ≤ wr.heap.size := Nat.le_trans hbase hbel.size
      go_wp2_with (at_builtin; refine wpList_append_B rfl (.tmp 12) (.tmp 21) rfl base _ (l ++ (hi k n).take j) rfl (hown.alloc _) _ 1 _ [UInt8.ofNat (n / 256 ^ (k - 1 - j))] rfl rfl (RB.one _ _ _ (byte_high n k j)) (by omega) (by simp; omega) ?_; intro v1 w1 hown1 hb1)
      go_roundw
      case rel =>
        refine ⟨j + 1, by omega, by go_num, by rw [HT.out, ← List.append_assoc]; exact hown1, (hbel.alloc hbs _).trans hb1⟩
      case measure => simp [intOf]; omega
    · go_wp2
      go_ret
      refine ⟨_, rfl, ?_, hbel⟩
      rw [List.take_of_length_le (by rw [hi_len]; omega)] at hown
      exact hown
theorem byte_low (n i : Nat) : (n : Int) % 256 = ((UInt8.ofNat n).toNat : Int) := by
  rw [ofNat_toNat]
  simp
set_option maxHeartbeats 400000 in
theorem high_any (n k : Nat) (w : World) (hn : n < 18446744073709551616) (hk : k ≤ 8) :
    Calls Try.prog 40 #[.int .u64 n, .int .i64 k] w fun e w' => ∃ v', e = .returned v' ∧ OB w.heap.size w' v' (hi k n) ∧ Below w.heap.size w w' := by
  go_enter Try.func40, Try.ntmps40
  go_wp2
  go_loopw [0, 5, 6] (fun t u i wr => ∃ j : Nat, j ≤ k ∧ i = .int .i64 j ∧ t = .int .u64 (n / 256 ^ j : Nat) ∧ OB w.heap.size wr u (hi j n) ∧ Below w.heap.size w wr) (fun _ _ i _ => k - (intOf i).toNat)
  case atStart => exact ⟨0, Nat.zero_le _, rfl, by simp, OB.nil, Below.refl _ _⟩
  case round =>
    obtain ⟨j, hj, rfl, rfl, hown, hbel⟩ := hrel
    have hm : n / 256 ^ j < 18446744073709551616 := Nat.lt_of_le_of_lt (Nat.div_le_self _ _) hn
    have HM := Lib.hid (show n / 256 ^ (j + 1) = n / 256 ^ j / 256 from by rw [Nat.pow_succ, Nat.div_div_eq_div_mul])
    have HH : Hid (hi (j + 1) n = UInt8.ofNat (n / 256 ^ j) :: hi j n) := rfl
    generalize n / 256 ^ j = m at *
    by_cases hlt : j < k
    · have hlen := hi_len j n
      have HL := Lib.hid hlen
      obtain ⟨A, c, rfl, hc, hr⟩ := hown.form
      clear hlen
      have hbs : w.heap.size ≤ wr.heap.size := hbel.size
      go_wp2_with (at_builtin; refine wpList_append_B rfl (.tmp 19) (.tmp 20) rfl w.heap.size _ [UInt8.ofNat m] rfl (OB.lit _ _ [UInt8.ofNat m] _ (by simp [cellsB, cellB]) hbs (by simp [maxLen])) _ _ _ (hi j n) rfl rfl (hr.alloc _) (by rw [HL.out]; simp; omega) (by simp; omega) ?_; intro v1 w1 hown1 hb1)
      go_roundw
      case rel =>
        refine ⟨j + 1, by omega, by go_num, by rw [HM.out]; go_num, by rw [HH.out]; exact hown1, (hbel.alloc hbs _).trans hb1⟩
      case measure => simp [intOf]; omega
    · go_wp2
      go_ret
      obtain rfl : j = k := by omega
      exact ⟨_, rfl, hown, hbel⟩
end Go.Proofs.Ytlohhbpncbnipaa
end
section
/- PutSmall, GetSmall of both. -/
namespace Go.Proofs.Ytlohhbpncbnipaa
open Go.RowKit
set_option linter.unusedVariables false
set_option linter.unusedSimpArgs false
theorem OB.one (w : World) (base : Nat) (z : Int) (x : UInt8) (h : z = (x.toNat : Int)) (hb : base ≤ w.heap.size) : OB base (w.alloc (.cells #[.int .u8 z] 5)) (.slice (some ⟨w.heap.size, 0, none⟩) 1 1) [x] :=
  OB.lit w base [x] _ (by simp [cellsB, cellB, h]) hb (by simp [maxLen])
theorem wid_byte (n : Nat) (h : wid n ≤ 8) : ((wid n : Nat) : Int) = ((UInt8.ofNat (wid n)).toNat : Int) := by
  rw [ofNat_toNat]
  omega
set_option maxHeartbeats 400000 in
theorem putSmall_any (n : Nat) (w : World) (hn : n < 18446744073709551616) :
    Calls Try.prog 22 #[.int .u64 n] w fun e w' => ∃ v', e = .returned v' ∧ OB w.heap.size w' v' (putSmall n) ∧ Below w.heap.size w w' := by
  have h8 := wid_le8 n hn
  go_enter Try.func22, Try.ntmps22
  go_wp2_with fail
  refine (width_any n _ hn).mono ?_
  rintro e w' ⟨rfl, rfl⟩
  go_wp2_with fail
  refine (appendHigh_any _ n (wid n) [UInt8.ofNat (wid n)] _ w.heap.size hn h8 (by simp) (by simp) (OB.one w _ _ _ (wid_byte n h8) (Nat.le_refl _))).mono ?_
  rintro e w' ⟨v', rfl, ho, hb⟩
  go_wp2
  go_ret
  exact ⟨_, rfl, ho, ((Below.refl _ _).alloc (Nat.le_refl _) _).trans hb⟩
set_option maxHeartbeats 400000 in
theorem refPutSmall_any (n : Nat) (w : World) (hn : n < 18446744073709551616) :
    Calls Try.prog 27 #[.int .u64 n] w fun e w' => ∃ v', e = .returned v' ∧ OB w.heap.size w' v' (putSmall n) ∧ Below w.heap.size w w' := by
  have h8 := wid_le8 n hn
  go_enter Try.func27, Try.ntmps27
  go_wp2
  go_loop [4, 3] (fun t i => ∃ m j : Nat, m < 18446744073709551616 ∧ t = .int .u64 m ∧ i = .int .i64 j ∧ wid n = wid m + j) (fun t _ => (intOf t).toNat)
  case atStart => exact ⟨n, 0, hn, rfl, rfl, rfl⟩
  case round =>
    obtain ⟨m, j, hm, rfl, rfl, hw⟩ := hrel
    have HW := Lib.hid hw
    have hj : j ≤ 8 := by omega
    clear hw
    by_cases h0 : 0 < m
    · have HP := Lib.hid (wid_pos h0)
      go_wp2
      go_round
      case rel => exact ⟨m / 256, j + 1, by omega, by go_num, by go_num, by rw [HW.out, HP.out]; omega⟩
      case measure => simp [intOf]; omega
    · have hj2 : j = wid n := by
        obtain rfl : m = 0 := by omega
        have := HW.out
        rw [wid_zero] at this
        omega
      subst hj2
      clear HW
      go_wp2_with fail
      refine (high_any n (wid n) _ hn h8).mono ?_
      rintro e w1 ⟨v1, rfl, ho, hb⟩
      have hz : w.heap.size + 1 ≤ w1.heap.size := by have := hb.size; simpa using this
      obtain ⟨A, c, rfl, hc, hr⟩ := ho.form
      have h1 := (OB.one w w.heap.size _ _ (wid_byte n h8) (Nat.le_refl _)).keep hb (by simp)
      have HL := Lib.hid (hi_len (wid n) n)
      go_wp2_with (at_builtin; refine wpList_append_B rfl (.tmp 14) (.tmp 17) rfl w.heap.size _ [UInt8.ofNat (wid n)] rfl h1 _ _ _ (hi (wid n) n) rfl rfl hr (by rw [HL.out]; simp; omega) (by omega) ?_; intro v2 w2 hown2 hb2)
      go_ret
      exact ⟨_, rfl, hown2, (((Below.refl _ _).alloc (Nat.le_refl _) _).trans (hb.mono (by simp))).trans hb2⟩
set_option maxHeartbeats 400000 in
theorem getSmall_any (A : Option Addr) (n c : Nat) (l : List UInt8) (w : World) (hN : n ≤ 70368744177664) (hl : l.length = n) (hc : n ≤ c) (hr : RB w A l) :
    Calls Try.prog 52 #[.slice A n c] w fun e w' => e = .returned (.tuple #[.int .u64 (getSmall l).1, .int .i64 (getSmall l).2.1, .int .i64 (getSmall l).2.2]) ∧ w = w' := by
  rcases l with _ | ⟨x, r⟩
  · obtain rfl : n = 0 := by simpa using hl.symm
    clear hl
    go_enter Try.func52, Try.ntmps52
    go_wp2
    go_ret3
    exact ⟨rfl, rfl⟩
  · obtain ⟨ad, x', rfl, hx, hcell⟩ := hr.at_ (k := 0) (by simp)
    obtain rfl : x = x' := by simpa using hx
    rw [Addr.add_nought] at hcell
    have hn : 0 < n := by simp at hl; omega
    have HL := Lib.hid (show r.length + 1 = n from by simpa using hl)
    have hx8 : x.toNat < 256 := x.toNat_lt
    clear hl hx
    by_cases h8 : 8 < x.toNat
    · have HF := Lib.hid (show getSmall (x :: r) = (0, 0, 4) from by rw [getSmall_cons, if_pos h8])
      go_enter Try.func52, Try.ntmps52
      go_wp2
      go_ret3
      exact ⟨by rw [HF.out]; rfl, rfl⟩
    by_cases hs : n - 1 < x.toNat
    · have HF := Lib.hid (show getSmall (x :: r) = (0, 0, 3) from by rw [getSmall_cons, if_neg h8, if_pos (by have := HL.out; omega)])
      go_enter Try.func52, Try.ntmps52
      go_wp2
      go_ret3
      exact ⟨by rw [HF.out]; rfl, rfl⟩
    have hxn : x.toNat + 1 ≤ n := by omega
    have HT := Lib.hid (show (r.take x.toNat).length = x.toNat from by rw [List.length_take]; have := HL.out; omega)
    have hrd : RB w (some (ad.add 1)) (r.take x.toNat) := by
      have := (hr.drop 1).take x.toNat
      simpa using this
    rw [Addr.add_one_] at hrd
    by_cases h0 : 0 < x.toNat
    · obtain ⟨_, y, e, hy, hcy⟩ := hr.at_ (k := 1) (by simp; have := HL.out; omega)
      injection e with e
      subst e
      rw [Addr.add_one_] at hcy
      have hyr : r.head? = some y := by cases r <;> simp_all
      have hy8 : y.toNat < 256 := y.toNat_lt
      clear hy
      by_cases hy0 : y.toNat = 0
      · have HF := Lib.hid (show getSmall (x :: r) = (0, 0, 4) from by
          have hy00 : y = 0 := by apply UInt8.toNat_inj.1; simpa using hy0
          rw [getSmall_cons, if_neg h8, if_neg (by have := HL.out; omega), if_pos ⟨h0, by rw [hyr, hy00]⟩])
        clear hyr
        go_enter Try.func52, Try.ntmps52
        go_wp2
        go_ret3
        exact ⟨by rw [HF.out]; rfl, rfl⟩
      · have HF := Lib.hid (show getSmall (x :: r) = (be (r.take x.toNat), 1 + x.toNat, 0) from by
          rw [getSmall_cons, if_neg h8, if_neg (by have := HL.out; omega), if_neg (by
            rintro ⟨_, h⟩
            rw [hyr] at h
            injection h with h
            subst h
            exact hy0 rfl)])
        clear hyr
        go_enter Try.func52, Try.ntmps52
        go_wp2_with fail
        refine (joinHigh_any _ x.toNat _ (r.take x.toNat) _ HT.out (by omega) hrd).mono ?_
        rintro e w' ⟨rfl, rfl⟩
        go_wp2
        go_ret3
        rw [HF.out]
        exact ⟨rfl, rfl⟩
    · have HF := Lib.hid (show getSmall (x :: r) = (be (r.take x.toNat), 1 + x.toNat, 0) from by
        rw [getSmall_cons, if_neg h8, if_neg (by have := HL.out; omega), if_neg (by
          rintro ⟨h, _⟩
          exact h0 h)])
      have HN := Lib.hid (show r.take x.toNat = [] from by rw [show x.toNat = 0 by omega]; rfl)
      go_enter Try.func52, Try.ntmps52
      go_wp2_with fail
      all_goals
        refine (joinHigh_any _ x.toNat _ (r.take x.toNat) _ HT.out (by omega) (.inl HN.out)).mono ?_
        rintro e w' ⟨rfl, rfl⟩
        go_wp2
        go_ret3
        rw [HF.out]
        exact ⟨rfl, rfl⟩
set_option maxHeartbeats 400000 in
theorem refGetSmall_any (A : Option Addr) (n c : Nat) (l : List UInt8) (w : World) (hN : n ≤ 70368744177664) (hl : l.length = n) (hc : n ≤ c) (hr : RB w A l) :
    Calls Try.prog 46 #[.slice A n c] w fun e w' => e = .returned (.tuple #[.int .u64 (getSmall l).1, .int .i64 (getSmall l).2.1, .int .i64 (getSmall l).2.2]) ∧ ∃ q, w' = w.drewN q := by
  rcases l with _ | ⟨x, r⟩
  · obtain rfl : n = 0 := by simpa using hl.symm
    clear hl
    go_enter Try.func46, Try.ntmps46
    go_wp2
    go_ret3
    exact ⟨rfl, 0, rfl⟩
  · obtain ⟨ad, x', rfl, hx, hcell⟩ := hr.at_ (k := 0) (by simp)
    obtain rfl : x = x' := by simpa using hx
    rw [Addr.add_nought] at hcell
    have hn : 0 < n := by simp at hl; omega
    have HL := Lib.hid (show r.length + 1 = n from by simpa using hl)
    have hx8 : x.toNat < 256 := x.toNat_lt
    clear hl hx
    by_cases h8 : 8 < x.toNat
    · have HF := Lib.hid (show getSmall (x :: r) = (0, 0, 4) from by rw [getSmall_cons, if_pos h8])
      go_enter Try.func46, Try.ntmps46
      go_wp2
      go_ret3
      exact ⟨by rw [HF.out]; rfl, 0, rfl⟩
    by_cases hs : n - 1 < x.toNat
    · have HF := Lib.hid (show getSmall (x :: r) = (0, 0, 3) from by rw [getSmall_cons, if_neg h8, if_pos (by have := HL.out; omega)])
      go_enter Try.func46, Try.ntmps46
      go_wp2
      go_ret3
      exact ⟨by rw [HF.out]; rfl, 0, rfl⟩
    have hxn : x.toNat + 1 ≤ n := by omega
    have HT := Lib.hid (show (r.take x.toNat).length = x.toNat from by rw [List.length_take]; have := HL.out; omega)
    have hrd : RB w (some (ad.add 1)) (r.take x.toNat) := by
      have := (hr.drop 1).take x.toNat
      simpa using this
    rw [Addr.add_one_] at hrd
    by_cases h0 : 0 < x.toNat
    · obtain ⟨_, y, e, hy, hcy⟩ := hr.at_ (k := 1) (by simp; have := HL.out; omega)
      injection e with e
      subst e
      rw [Addr.add_one_] at hcy
      have hyr : r.head? = some y := by cases r <;> simp_all
      have hy8 : y.toNat < 256 := y.toNat_lt
      clear hy
      by_cases hy0 : y.toNat = 0
      · have HF := Lib.hid (show getSmall (x :: r) = (0, 0, 4) from by
          have hy00 : y = 0 := by apply UInt8.toNat_inj.1; simpa using hy0
          rw [getSmall_cons, if_neg h8, if_neg (by have := HL.out; omega), if_pos ⟨h0, by rw [hyr, hy00]⟩])
        clear hyr
        go_enter Try.func46, Try.ntmps46
        go_wp2
        go_ret3
        exact ⟨by rw [HF.out]; rfl, 0, rfl⟩
      · have HF := Lib.hid (show getSmall (x :: r) = (be (r.take x.toNat), 1 + x.toNat, 0) from by
          rw [getSmall_cons, if_neg h8, if_neg (by have := HL.out; omega), if_neg (by
            rintro ⟨_, h⟩
            rw [hyr] at h
            injection h with h
            subst h
            exact hy0 rfl)])
        clear hyr
        go_enter Try.func46, Try.ntmps46
        go_wp2
        go_quiet ((go_at_call 55; exact Calls.quiet_of_same ((low_any _ x.toNat _ (r.take x.toNat) _ HT.out (by omega) (hrd.drewN _)).mono fun _ _ h => ⟨h.1, h.2.symm⟩)))
        go_wp2
        go_ret3
        rw [HF.out]
        exact ⟨rfl, _, rfl⟩
    · have HF := Lib.hid (show getSmall (x :: r) = (be (r.take x.toNat), 1 + x.toNat, 0) from by
        rw [getSmall_cons, if_neg h8, if_neg (by have := HL.out; omega), if_neg (by
          rintro ⟨h, _⟩
          exact h0 h)])
      have HN := Lib.hid (show r.take x.toNat = [] from by rw [show x.toNat = 0 by omega]; rfl)
      by_cases hc1 : c = 1
      all_goals
        go_enter Try.func46, Try.ntmps46
        go_wp2
        go_quiet ((go_at_call 55; exact Calls.quiet_of_same ((low_any _ x.toNat _ (r.take x.toNat) _ HT.out (by omega) (.inl HN.out)).mono fun _ _ h => ⟨h.1, h.2.symm⟩)))
        go_wp2
        go_ret3
        rw [HF.out]
        exact ⟨rfl, _, rfl⟩
end Go.Proofs.Ytlohhbpncbnipaa
end
section
/- A reader of numbers, with and without an error. -/
namespace Go.Proofs.Ytlohhbpncbnipaa
open Go.RowKit
set_option linter.unusedVariables false
set_option linter.unusedSimpArgs false
/-- Nothing but block g may have changed. -/
structure OnlyB (g : Nat) (w w' : World) : Prop where
  os : w'.os = w.os
  tape : w'.tape = w.tape
  output : w'.output = w.output
  size : w'.heap.size = w.heap.size
  block : ∀ b, b ≠ g → w'.heap[b]? = w.heap[b]?
theorem OnlyB.refl (g : Nat) (w : World) : OnlyB g w w := ⟨rfl, rfl, rfl, rfl, fun _ _ => rfl⟩
theorem OnlyB.set (g i : Nat) (w : World) (v : Value) : OnlyB g w (w.setCell ⟨g, i, none⟩ v) := by
  have h := (Below.refl 0 w).setCell (p := ⟨g, i, none⟩) (Nat.zero_le _) v
  refine ⟨h.os, h.tape, h.output, ?_, fun b hb => ?_⟩
  · simp [World.setCell]
  · unfold World.setCell
    simp [Array.getElem?_modify, Ne.symm hb]
theorem OnlyB.below {g base : Nat} {w w' : World} (h : OnlyB g w w') (hb : base ≤ g) : Below base w w' := ⟨h.os, h.tape, h.output, Nat.le_of_eq h.size.symm, fun b hlt => h.block b (by omega)⟩
theorem cell_block {w w' : World} {p : Addr} (h : w'.heap[p.block]? = w.heap[p.block]?) : w'.cell? p = w.cell? p := by
  unfold World.cell?
  rw [h]
theorem frozen_block {w w' : World} {p : Addr} (h : w'.heap[p.block]? = w.heap[p.block]?) : w'.frozen? p = w.frozen? p := by
  unfold World.frozen?
  rw [h]
/-- What a reader of the bytes l with the error f tells, and what it has behind that. -/
def rdV (l : List UInt8) (f : Nat) : Nat := if f = 0 ∧ (getSmall l).2.2 = 0 ∧ (getSmall l).1 ≤ 1099511627776 then (getSmall l).1 else 0
def rdL (l : List UInt8) (f : Nat) : List UInt8 := if f = 0 ∧ (getSmall l).2.2 = 0 ∧ (getSmall l).1 ≤ 1099511627776 then l.drop (getSmall l).2.1 else l
def rdF (l : List UInt8) (f : Nat) : Nat := if f = 0 then (if (getSmall l).2.2 = 0 then (if (getSmall l).1 ≤ 1099511627776 then 0 else 9) else (getSmall l).2.2) else f
theorem getSmall_use (l : List UInt8) : (getSmall l).2.1 ≤ l.length := by
  cases l with
  | nil => exact Nat.le_refl _
  | cons x r =>
    rw [getSmall_cons]
    split
    · exact Nat.zero_le _
    · split
      · exact Nat.zero_le _
      · split
        · exact Nat.zero_le _
        · simp; omega
theorem getSmall_lt (l : List UInt8) : (getSmall l).1 < 18446744073709551616 := by
  cases l with
  | nil => decide
  | cons x r =>
    rw [getSmall_cons]
    split
    · decide
    · split
      · decide
      · split
        · decide
        · exact be_le8 _ (by rw [List.length_take]; omega)
theorem getSmall_err (l : List UInt8) : (getSmall l).2.2 ≤ 4 := by
  cases l with
  | nil => decide
  | cons x r =>
    rw [getSmall_cons]
    split
    · decide
    · split
      · decide
      · split
        · decide
        · exact Nat.zero_le _
/-- Block g is a reader that has the bytes l left, and the error f. -/
def RDF (w : World) (g : Nat) (l : List UInt8) (f : Nat) : Prop :=
  ∃ A c, l.length ≤ c ∧ RB w A l ∧ (∀ ad, A = some ad → ad.block < g) ∧ w.cell? ⟨g, 0, none⟩ = some (.slice A l.length c) ∧ w.cell? ⟨g, 1, none⟩ = some (.int .i64 (f : Int)) ∧ w.frozen? ⟨g, 0, none⟩ = false ∧ w.frozen? ⟨g, 1, none⟩ = false
theorem RDF.keep {w w' : World} {g f : Nat} {l : List UInt8} (h : RDF w g l f) (hb : Below w.heap.size w w') : RDF w' g l f := by
  obtain ⟨A, c, h1, h2, h3, h4, h5, h6, h7⟩ := h
  have hg := lt_of_cell h4
  exact ⟨A, c, h1, h2.below hb, h3, (hb.cell (p := ⟨g, 0, none⟩) hg).trans h4, (hb.cell (p := ⟨g, 1, none⟩) hg).trans h5, (hb.frozen (p := ⟨g, 0, none⟩) hg).trans h6, (hb.frozen (p := ⟨g, 1, none⟩) hg).trans h7⟩
theorem RDF.stay {w w' : World} {g f : Nat} {l : List UInt8} (h : RDF w g l f) {base : Nat} (hg : g < base) (hb : Below base w w') : RDF w' g l f := by
  obtain ⟨A, c, h1, h2, h3, h4, h5, h6, h7⟩ := h
  refine ⟨A, c, h1, ?_, h3, (hb.cell (p := ⟨g, 0, none⟩) hg).trans h4, (hb.cell (p := ⟨g, 1, none⟩) hg).trans h5, (hb.frozen (p := ⟨g, 0, none⟩) hg).trans h6, (hb.frozen (p := ⟨g, 1, none⟩) hg).trans h7⟩
  rcases h2 with rfl | ⟨ad, rfl, hc⟩
  · exact .inl rfl
  · refine .inr ⟨ad, rfl, fun j x hx => ?_⟩
    have := h3 ad rfl
    exact (hb.cell (p := ad.add j) (by rw [block_of_add]; omega)).trans (hc j x hx)
theorem RDF.lt {w : World} {g f : Nat} {l : List UInt8} (h : RDF w g l f) : g < w.heap.size := by
  obtain ⟨A, c, h1, h2, h3, h4, h5, h6, h7⟩ := h
  exact lt_of_cell h4
theorem OB.blt {base : Nat} {w : World} {ad : Addr} {n c : Nat} {l : List UInt8} (h : OB base w (.slice (some ad) n c) l) : ad.block < w.heap.size := by
  unfold OB at h
  exact (World.ownsRow.lt h ad.block rfl).2
theorem RB.setCell {w : World} {A : Option Addr} {l : List UInt8} (h : RB w A l) {p : Addr} (hne : ∀ ad, A = some ad → ad.block < p.block) (u : Value) : RB (w.setCell p u) A l := by
  rcases h with rfl | ⟨ad, rfl, hc⟩
  · exact .inl rfl
  · refine .inr ⟨ad, rfl, fun j x hx => ?_⟩
    rw [World.cell?_setCell_other w p (ad.add j) u (fun e => by have := hne ad rfl; rw [e, block_of_add] at this; omega)]
    exact hc j x hx
set_option maxHeartbeats 400000 in
theorem okNew_any (A : Option Addr) (n c : Nat) (l : List UInt8) (w : World) (hn : n ≤ 70368744177664) (hl : l.length = n) (hr : RB w A l) :
    Calls Try.prog 41 #[.slice A n c] w fun e w' => ∃ g, e = .returned (.pointer (some ⟨g, 0, none⟩)) ∧ RDF w' g l 0 ∧ w.heap.size ≤ g ∧ Below w.heap.size w w' := by
  go_enter Try.func41, Try.ntmps41
  go_wp2_with fail
  refine (clone_any A n c l _ hn hl hr).mono ?_
  rintro e w1 ⟨v1, rfl, ho, hb⟩
  obtain ⟨A1, c1, rfl, hc1, hr1⟩ := ho.form
  go_wp2
  go_ret
  refine ⟨w1.heap.size, rfl, ⟨A1, c1, hc1, hr1.alloc _, ?_, by simp [hl], by simp, by simp, by simp⟩, hb.size, hb.alloc hb.size _⟩
  intro ad e
  subst e
  exact ho.blt
theorem RDF.moved {w : World} {g m : Nat} {l : List UInt8} {A : Option Addr} {c : Nat} {B : Option Addr} {n d : Nat} (hm : m ≤ l.length) (h1 : l.length ≤ c) (h2 : RB w A l) (h3 : ∀ ad, A = some ad → ad.block < g)
    (h4 : w.cell? ⟨g, 0, none⟩ = some (.slice A l.length c)) (h5 : w.cell? ⟨g, 1, none⟩ = some (.int .i64 ((0 : Nat) : Int))) (h6 : w.frozen? ⟨g, 0, none⟩ = false) (h7 : w.frozen? ⟨g, 1, none⟩ = false)
    (hB : B = A ∧ m = l.length ∨ B = A.map (fun x => x.add m)) (hn : n = l.length - m) (hd : d = c - m) :
    RDF (w.setCell ⟨g, 0, none⟩ (.slice B n d)) g (l.drop m) 0 ∧ OnlyB g w (w.setCell ⟨g, 0, none⟩ (.slice B n d)) := by
  subst hn hd
  have hb3 : ∀ ad, B = some ad → ad.block < g := by
    rcases hB with ⟨rfl, _⟩ | rfl
    · exact h3
    · intro ad e
      rcases A with _ | a
      · cases e
      · simp only [Option.map_some, Option.some.injEq] at e
        subst e
        rw [block_of_add]
        exact h3 a rfl
  have hrb : RB w B (l.drop m) := by
    rcases hB with ⟨rfl, rfl⟩ | rfl
    · exact .inl (by simp)
    · rcases A with _ | a
      · rcases h2 with h | ⟨_, h, _⟩
        · subst h; exact .inl (by simp)
        · cases h
      · exact h2.drop m
  refine ⟨⟨B, c - m, by simp; omega, hrb.setCell hb3 _, hb3, ?_, ?_, ?_, ?_⟩, OnlyB.set _ _ _ _⟩
  · rw [World.cell?_setCell_same' _ _ _ (by rw [h4]; rfl)]; simp
  · rw [World.cell?_setCell_other w _ _ _ (by simp)]; exact h5
  · simpa using h6
  · simpa using h7
theorem RDF.fail {w : World} {g f e : Nat} {l : List UInt8} (h : RDF w g l f) (z : Int) (hz : z = (e : Int)) : RDF (w.setCell ⟨g, 1, none⟩ (.int .i64 z)) g l e ∧ OnlyB g w (w.setCell ⟨g, 1, none⟩ (.int .i64 z)) := by
  subst hz
  obtain ⟨A, c, h1, h2, h3, h4, h5, h6, h7⟩ := h
  refine ⟨⟨A, c, h1, h2.setCell h3 _, h3, ?_, ?_, ?_, ?_⟩, OnlyB.set _ _ _ _⟩
  · rw [World.cell?_setCell_other w _ _ _ (by simp)]; exact h4
  · rw [World.cell?_setCell_same' _ _ _ (by rw [h5]; rfl)]
  · simpa using h6
  · simpa using h7
set_option maxHeartbeats 400000 in
theorem okTake_ok (g m : Nat) (l : List UInt8) (w : World) (hR : RDF w g l 0) (hm : m ≤ l.length) (hl : l.length ≤ 70368744177664) :
    Calls Try.prog 53 #[.pointer (some ⟨g, 0, none⟩), .int .i64 m, .int .i64 0] w fun e w' => e = .returned (.bool true) ∧ RDF w' g (l.drop m) 0 ∧ OnlyB g w w' := by
  obtain ⟨A, c, h1, h2, h3, h4, h5, h6, h7⟩ := hR
  have HM := Lib.hid (fun (B : Option Addr) (n d : Nat) => RDF.moved (B := B) (n := n) (d := d) hm h1 h2 h3 h4 h5 h6 h7)
  clear h3
  by_cases hc : c = m
  · have HC := Lib.hid (show m = l.length from by omega)
    go_enter Try.func53, Try.ntmps53
    go_wp2
    go_ret
    exact ⟨rfl, HM.out _ _ _ (.inl ⟨rfl, HC.out⟩) rfl (by omega)⟩
  · go_enter Try.func53, Try.ntmps53
    go_wp2
    go_ret
    exact ⟨rfl, HM.out _ _ _ (.inr rfl) rfl rfl⟩
set_option maxHeartbeats 400000 in
theorem okTake_bad (g m f : Nat) (l : List UInt8) (w : World) (hR : RDF w g l 0) (hf : 0 < f) :
    Calls Try.prog 53 #[.pointer (some ⟨g, 0, none⟩), .int .i64 m, .int .i64 (f : Int)] w fun e w' => e = .returned (.bool false) ∧ RDF w' g l f ∧ OnlyB g w w' := by
  have HM := Lib.hid (fun z (hz : z = (f : Int)) => hR.fail z hz)
  obtain ⟨A, c, h1, h2, h3, h4, h5, h6, h7⟩ := hR
  have hne : ((f : Int) != 0) = true := by simp; omega
  clear h3
  go_enter Try.func53, Try.ntmps53
  go_wp2
  go_ret
  exact ⟨rfl, HM.out _ rfl⟩
set_option maxHeartbeats 800000 in
theorem okSmall_any (g f : Nat) (l : List UInt8) (w : World) (hR : RDF w g l f) (hl : l.length ≤ 17592186044416) :
    Calls Try.prog 42 #[.pointer (some ⟨g, 0, none⟩)] w fun e w' => e = .returned (.int .i64 (rdV l f : Int)) ∧ RDF w' g (rdL l f) (rdF l f) ∧ OnlyB g w w' := by
  have HR := Lib.hid hR
  obtain ⟨A, c, h1, h2, h3, h4, h5, h6, h7⟩ := hR
  have KG := getSmall_any A l.length c l w (by omega) rfl h1 h2
  have hu := getSmall_use l
  have hv := getSmall_lt l
  have he := getSmall_err l
  unfold rdV rdL rdF
  clear h3
  by_cases hf : f = 0
  · subst hf
    generalize getSmall l = G at *
    obtain ⟨v, m, e⟩ := G
    dsimp only at *
    by_cases he0 : e = 0
    · subst he0
      by_cases hv2 : v ≤ 1099511627776
      · rw [if_pos ⟨rfl, rfl, hv2⟩, if_pos ⟨rfl, rfl, hv2⟩, if_pos rfl, if_pos rfl, if_pos hv2]
        have d : decide ((1099511627776 : Int) < (v : Int)) = false := by simp; omega
        have KG := Lib.hid KG
        have KT := Lib.hid (okTake_ok g m l w HR.out hu (by omega))
        go_enter Try.func42, Try.ntmps42
        go_wp2_with fail
        refine KG.out.mono ?_
        rintro e w1 ⟨rfl, rfl⟩
        go_wp2_with fail
        refine KT.out.mono ?_
        rintro e w2 ⟨rfl, hR2, hb2⟩
        go_wp2
        go_ret
        exact ⟨rfl, hR2, hb2⟩
      · rw [if_neg (fun h => hv2 h.2.2), if_neg (fun h => hv2 h.2.2), if_pos rfl, if_pos rfl, if_neg hv2]
        have d : (1099511627776 : Int) < (v : Int) := by omega
        have KG := Lib.hid KG
        have KT := Lib.hid (okTake_bad g m 9 l w HR.out (by omega))
        go_enter Try.func42, Try.ntmps42
        go_wp2_with fail
        refine KG.out.mono ?_
        rintro e w1 ⟨rfl, rfl⟩
        go_wp2_with fail
        refine KT.out.mono ?_
        rintro e w2 ⟨rfl, hR2, hb2⟩
        go_wp2
        go_ret
        exact ⟨rfl, hR2, hb2⟩
    · rw [if_neg (fun h => he0 h.2.1), if_neg (fun h => he0 h.2.1), if_pos rfl, if_neg he0]
      have d : ((e : Int) == 0) = false := by simp; omega
      have KG := Lib.hid KG
      have KT := Lib.hid (okTake_bad g m e l w HR.out (by omega))
      go_enter Try.func42, Try.ntmps42
      go_wp2_with fail
      refine KG.out.mono ?_
      rintro e w1 ⟨rfl, rfl⟩
      go_wp2_with fail
      refine KT.out.mono ?_
      rintro e w2 ⟨rfl, hR2, hb2⟩
      go_wp2
      go_ret
      exact ⟨rfl, hR2, hb2⟩
  · rw [if_neg (fun h => hf h.1), if_neg (fun h => hf h.1), if_neg hf]
    have d : ((f : Int) != 0) = true := by simp; omega
    clear KG hu hv he
    go_enter Try.func42, Try.ntmps42
    go_wp2
    go_ret
    exact ⟨rfl, HR.out, OnlyB.refl _ _⟩
/-- What Done tells. -/
def rdD (l : List UInt8) (f : Nat) : Nat := if f = 0 then (if l = [] then 0 else 4) else f
end Go.Proofs.Ytlohhbpncbnipaa
end
