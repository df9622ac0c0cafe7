/- Numbers of few bytes: what is laid and read (plain), and the contracts of joinHigh, width, appendHigh and the document's. -/
import Derived.Test.YtjmmaghjbaigiaaOwn
import Derived.Laws.BitsAllLaws
namespace Go.Proofs.Ytjmmaghjbaigiaa
open Go.RowKit
set_option linter.unusedVariables false
set_option linter.unusedSimpArgs false
/-- k bytes of n, the highest first. -/
def hi : Nat → Nat → List UInt8
  | 0, _ => []
  | k + 1, n => UInt8.ofNat (n / 256 ^ k) :: hi k n
theorem hi_len (k n : Nat) : (hi k n).length = k := by
  induction k with
  | zero => rfl
  | succ k ih => simp [hi, ih]
theorem hi_at (k n i : Nat) (h : i < k) : (hi k n)[i]? = some (UInt8.ofNat (n / 256 ^ (k - 1 - i))) := by
  induction k generalizing i with
  | zero => omega
  | succ k ih =>
    cases i with
    | zero => simp [hi]
    | succ i =>
      simp only [hi, List.getElem?_cons_succ]
      rw [ih i (by omega)]
      congr 4
      omega
theorem hi_take (k n i : Nat) (h : i < k) : (hi k n).take (i + 1) = (hi k n).take i ++ [UInt8.ofNat (n / 256 ^ (k - 1 - i))] := take_snoc (hi_at k n i h)
/-- How many bytes a number needs. -/
def wid (n : Nat) : Nat := if h : n = 0 then 0 else wid (n / 256) + 1
termination_by n
decreasing_by omega
theorem wid_zero : wid 0 = 0 := by unfold wid; simp
theorem wid_pos {n : Nat} (h : 0 < n) : wid n = wid (n / 256) + 1 := by
  rw [wid, dif_neg (by omega)]
theorem wid_le (k n : Nat) (h : n < 256 ^ k) : wid n ≤ k := by
  induction k generalizing n with
  | zero =>
    have : n = 0 := by simpa using h
    subst this
    rw [wid_zero]
    exact Nat.le_refl _
  | succ k ih =>
    rcases Nat.eq_zero_or_pos n with rfl | h0
    · rw [wid_zero]; omega
    · rw [wid_pos h0]
      have := ih (n / 256) (by rw [Nat.pow_succ] at h; exact Nat.div_lt_of_lt_mul (by omega))
      omega
theorem wid_le8 (n : Nat) (h : n < 18446744073709551616) : wid n ≤ 8 := wid_le 8 n (by have : (256 : Nat) ^ 8 = 18446744073709551616 := by decide
                                                                                       omega)
def putSmall (n : Nat) : List UInt8 := UInt8.ofNat (wid n) :: hi (wid n) n
/-- value, how many bytes, the error's number. -/
def getSmall : List UInt8 → Nat × Nat × Nat
  | [] => (0, 0, 3)
  | x :: r => if 8 < x.toNat then (0, 0, 4) else if r.length < x.toNat then (0, 0, 3) else if 0 < x.toNat ∧ r.head? = some 0 then (0, 0, 4) else (be (r.take x.toNat), 1 + x.toNat, 0)
theorem getSmall_cons (x : UInt8) (r : List UInt8) : getSmall (x :: r) = if 8 < x.toNat then (0, 0, 4) else if r.length < x.toNat then (0, 0, 3) else if 0 < x.toNat ∧ r.head? = some 0 then (0, 0, 4) else (be (r.take x.toNat), 1 + x.toNat, 0) := rfl
theorem or_join (a x : Nat) (ha : a < 72057594037927936) (hx : x < 256) : bits .or .u64 ((a : Int) * 256) (x : Int) = ((a * 256 + x : Nat) : Int) := by
  have h := u64_or_nat (a * 256) x (by omega) (by omega)
  have e : a * 256 ||| x = a * 256 + x := by
    have := Nat.shiftLeft_add_eq_or_of_lt (i := 8) (b := x) (by omega) a
    rw [Nat.shiftLeft_eq, show (2 : Nat) ^ 8 = 256 from rfl] at this
    omega
  rw [← e, ← h]
  congr 1
set_option maxHeartbeats 400000 in
theorem low_any (A : Option Addr) (n c : Nat) (l : List UInt8) (w : World) (hl : l.length = n) (h8 : n ≤ 8) (hr : RB w A l) :
    Calls Try.prog 112 #[.slice A n c] w fun e w' => e = .returned (.int .u64 (be l : Nat)) ∧ w = w' := by
  have HL := Lib.hid hl
  clear hl
  go_enter Try.func112, Try.ntmps112
  go_wp2
  go_loop [3, 4] (fun t i => ∃ k : Nat, k ≤ n ∧ i = .int .i64 k ∧ t = .int .u64 (be (l.take k) : Nat)) (fun _ i => n - (intOf i).toNat)
  case atStart => exact ⟨0, Nat.zero_le _, rfl, rfl⟩
  case round =>
    obtain ⟨k, hk, rfl, rfl⟩ := hrel
    by_cases hlt : k < n
    · obtain ⟨ad, x, rfl, hx, hc⟩ := hr.at_ (k := k) (by rw [HL.out]; exact hlt)
      have hb := be_le7 (l.take k) (by have := List.length_take_le k l; omega)
      have hs : be (l.take (k + 1)) = be (l.take k) * 256 + x.toNat := by rw [take_snoc hx, be_snoc]
      have hx8 : x.toNat < 256 := x.toNat_lt
      have HS := Lib.hid hs
      clear hs hx
      go_wp2
      go_round
      case rel => exact ⟨k + 1, by omega, by go_num, by rw [HS.out]; go_num⟩
      case measure => simp [intOf]; omega
    · go_wp2
      go_ret
      refine ⟨?_, rfl⟩
      rw [List.take_of_length_le (by rw [HL.out]; omega)]
      rfl
set_option maxHeartbeats 400000 in
theorem joinHigh_any (A : Option Addr) (n c : Nat) (l : List UInt8) (w : World) (hl : l.length = n) (h8 : n ≤ 8) (hr : RB w A l) :
    Calls Try.prog 114 #[.slice A n c] w fun e w' => e = .returned (.int .u64 (be l : Nat)) ∧ w = w' := by
  have HL := Lib.hid hl
  clear hl
  go_enter Try.func114, Try.ntmps114
  go_wp2
  go_loop [3, 7] (fun t i => ∃ k : Nat, k ≤ n ∧ i = .int .i64 k ∧ t = .int .u64 (be (l.take k) : Nat)) (fun _ i => n - (intOf i).toNat)
  case atStart => exact ⟨0, Nat.zero_le _, rfl, rfl⟩
  case round =>
    obtain ⟨k, hk, rfl, rfl⟩ := hrel
    by_cases hlt : k < n
    · obtain ⟨ad, x, rfl, hx, hc⟩ := hr.at_ (k := k) (by rw [HL.out]; exact hlt)
      have hb := be_le7 (l.take k) (by have := List.length_take_le k l; omega)
      have hs : be (l.take (k + 1)) = be (l.take k) * 256 + x.toNat := by rw [take_snoc hx, be_snoc]
      have hx8 : x.toNat < 256 := x.toNat_lt
      have HS := Lib.hid hs
      clear hs hx
      go_wp2
      go_round
      case rel => exact ⟨k + 1, by omega, by go_num, by rw [HS.out, or_join _ _ hb hx8]⟩
      case measure => simp [intOf]; omega
    · go_wp2
      go_ret
      refine ⟨?_, rfl⟩
      rw [List.take_of_length_le (by rw [HL.out]; omega)]
      rfl
set_option maxHeartbeats 400000 in
theorem width_any (n : Nat) (w : World) (hn : n < 18446744073709551616) :
    Calls Try.prog 77 #[.int .u64 n] w fun e w' => e = .returned (.int .i64 (wid n : Nat)) ∧ w = w' := by
  have h8 := wid_le8 n hn
  go_enter Try.func77, Try.ntmps77
  go_wp2
  go_loop [0, 3] (fun t i => ∃ m j : Nat, m < 18446744073709551616 ∧ t = .int .u64 m ∧ i = .int .i64 j ∧ wid n = wid m + j) (fun t _ => (intOf t).toNat)
  case atStart => exact ⟨n, 0, hn, rfl, rfl, rfl⟩
  case round =>
    obtain ⟨m, j, hm, rfl, rfl, hw⟩ := hrel
    have HW := Lib.hid hw
    have hj : j ≤ 8 := by omega
    clear hw
    by_cases h0 : 0 < m
    · have HP := Lib.hid (wid_pos h0)
      go_wp2
      go_round
      case rel => exact ⟨m / 256, j + 1, by omega, by go_num, by go_num, by rw [HW.out, HP.out]; omega⟩
      case measure => simp [intOf]; omega
    · go_wp2
      go_ret
      refine ⟨?_, rfl⟩
      obtain rfl : m = 0 := by omega
      rw [HW.out, wid_zero]
      simp
theorem byte_high (n k j : Nat) : (n : Int) / 2 ^ (8 * (k - 1 - j)) % 256 = ((UInt8.ofNat (n / 256 ^ (k - 1 - j))).toNat : Int) := by
  rw [ofNat_toNat, show (256 : Nat) = 2 ^ 8 from rfl, ← Nat.pow_mul]
  simp
set_option maxHeartbeats 400000 in
theorem appendHigh_any (v : Value) (n k : Nat) (l : List UInt8) (w : World) (base : Nat) (hn : n < 18446744073709551616) (hk : k ≤ 8) (hl : l.length ≤ 8) (hbase : base ≤ w.heap.size) (ho : OB base w v l) :
    Calls Try.prog 78 #[v, .int .u64 n, .int .i64 k] w fun e w' => ∃ v', e = .returned v' ∧ OB base w' v' (l ++ hi k n) ∧ Below base w w' := by
  go_enter Try.func78, Try.ntmps78
  go_wp2
  go_loopw [0, 9] (fun t i wr => ∃ j : Nat, j ≤ k ∧ i = .int .i64 j ∧ OB base wr t (l ++ (hi k n).take j) ∧ Below base w wr) (fun _ i _ => k - (intOf i).toNat)
  case atStart => exact ⟨0, Nat.zero_le _, rfl, by simpa using ho, Below.refl _ _⟩
  case round =>
    obtain ⟨j, hj, rfl, hown, hbel⟩ := hrel
    by_cases hlt : j < k
    · have hlen : (l ++ (hi k n).take j).length ≤ 16 := by simp [hi_len]; omega
      have HT := Lib.hid (hi_take k n j hlt)
      have hbs : base ≤ wr.heap.size := Nat.le_trans hbase hbel.size
      go_wp2_with (at_builtin; refine wpList_append_B rfl (.tmp 12) (.tmp 21) rfl base _ (l ++ (hi k n).take j) rfl (hown.alloc _) _ 1 _ [UInt8.ofNat (n / 256 ^ (k - 1 - j))] rfl rfl (RB.one _ _ _ (byte_high n k j)) (by omega) (by simp; omega) ?_; intro v1 w1 hown1 hb1)
      go_roundw
      case rel =>
        refine ⟨j + 1, by omega, by go_num, by rw [HT.out, ← List.append_assoc]; exact hown1, (hbel.alloc hbs _).trans hb1⟩
      case measure => simp [intOf]; omega
    · go_wp2
      go_ret
      refine ⟨_, rfl, ?_, hbel⟩
      rw [List.take_of_length_le (by rw [hi_len]; omega)] at hown
      exact hown
theorem byte_low (n i : Nat) : (n : Int) % 256 = ((UInt8.ofNat n).toNat : Int) := by
  rw [ofNat_toNat]
  simp
set_option maxHeartbeats 400000 in
theorem high_any (n k : Nat) (w : World) (hn : n < 18446744073709551616) (hk : k ≤ 8) :
    Calls Try.prog 80 #[.int .u64 n, .int .i64 k] w fun e w' => ∃ v', e = .returned v' ∧ OB w.heap.size w' v' (hi k n) ∧ Below w.heap.size w w' := by
  go_enter Try.func80, Try.ntmps80
  go_wp2
  go_loopw [0, 5, 6] (fun t u i wr => ∃ j : Nat, j ≤ k ∧ i = .int .i64 j ∧ t = .int .u64 (n / 256 ^ j : Nat) ∧ OB w.heap.size wr u (hi j n) ∧ Below w.heap.size w wr) (fun _ _ i _ => k - (intOf i).toNat)
  case atStart => exact ⟨0, Nat.zero_le _, rfl, by simp, OB.nil, Below.refl _ _⟩
  case round =>
    obtain ⟨j, hj, rfl, rfl, hown, hbel⟩ := hrel
    have hm : n / 256 ^ j < 18446744073709551616 := Nat.lt_of_le_of_lt (Nat.div_le_self _ _) hn
    have HM := Lib.hid (show n / 256 ^ (j + 1) = n / 256 ^ j / 256 from by rw [Nat.pow_succ, Nat.div_div_eq_div_mul])
    have HH : Hid (hi (j + 1) n = UInt8.ofNat (n / 256 ^ j) :: hi j n) := rfl
    generalize n / 256 ^ j = m at *
    by_cases hlt : j < k
    · have hlen := hi_len j n
      have HL := Lib.hid hlen
      obtain ⟨A, c, rfl, hc, hr⟩ := hown.form
      clear hlen
      have hbs : w.heap.size ≤ wr.heap.size := hbel.size
      go_wp2_with (at_builtin; refine wpList_append_B rfl (.tmp 19) (.tmp 20) rfl w.heap.size _ [UInt8.ofNat m] rfl (OB.lit _ _ [UInt8.ofNat m] _ (by simp [cellsB, cellB]) hbs (by simp [maxLen])) _ _ _ (hi j n) rfl rfl (hr.alloc _) (by rw [HL.out]; simp; omega) (by simp; omega) ?_; intro v1 w1 hown1 hb1)
      go_roundw
      case rel =>
        refine ⟨j + 1, by omega, by go_num, by rw [HM.out]; go_num, by rw [HH.out]; exact hown1, (hbel.alloc hbs _).trans hb1⟩
      case measure => simp [intOf]; omega
    · go_wp2
      go_ret
      obtain rfl : j = k := by omega
      exact ⟨_, rfl, hown, hbel⟩
end Go.Proofs.Ytjmmaghjbaigiaa
