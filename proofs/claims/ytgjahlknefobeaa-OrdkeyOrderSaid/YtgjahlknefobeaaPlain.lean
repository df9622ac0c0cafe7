/- Plain functions on bytes and numbers that say what the package ordkey lays and reads, and their laws; nothing of the program is named here. -/
import Derived.Test.YtgjahlknefobeaaBase
namespace Go.Proofs.Ytgjahlknefobeaa

/-- k bytes of n, the highest first. -/
def hi : Nat → Nat → List UInt8
  | 0, _ => []
  | k + 1, n => UInt8.ofNat (n / 256 ^ k) :: hi k n
theorem hi_len (k n : Nat) : (hi k n).length = k := by
  induction k with
  | zero => rfl
  | succ k ih => simp [hi, ih]
theorem hi_at (k n i : Nat) (h : i < k) : (hi k n)[i]? = some (UInt8.ofNat (n / 256 ^ (k - 1 - i))) := by
  induction k generalizing i with
  | zero => omega
  | succ k ih =>
    cases i with
    | zero => simp [hi]
    | succ i =>
      simp only [hi, List.getElem?_cons_succ]
      rw [ih i (by omega)]
      congr 4
      omega
theorem hi_take (k n i : Nat) (h : i < k) : (hi k n).take (i + 1) = (hi k n).take i ++ [UInt8.ofNat (n / 256 ^ (k - 1 - i))] := take_snoc (hi_at k n i h)
theorem ofNat_toNat (n : Nat) : (UInt8.ofNat n).toNat = n % 256 := by simp

/-- How many bytes a number needs. -/
def wid (n : Nat) : Nat := if h : n = 0 then 0 else wid (n / 256) + 1
termination_by n
decreasing_by omega
theorem wid_zero : wid 0 = 0 := by unfold wid; simp
theorem wid_pos {n : Nat} (h : 0 < n) : wid n = wid (n / 256) + 1 := by
  rw [wid, dif_neg (by omega)]
theorem wid_le (k n : Nat) (h : n < 256 ^ k) : wid n ≤ k := by
  induction k generalizing n with
  | zero =>
    have : n = 0 := by simpa using h
    subst this
    rw [wid_zero]
    exact Nat.le_refl _
  | succ k ih =>
    rcases Nat.eq_zero_or_pos n with rfl | h0
    · rw [wid_zero]; omega
    · rw [wid_pos h0]
      have := ih (n / 256) (by rw [Nat.pow_succ] at h; exact Nat.div_lt_of_lt_mul (by omega))
      omega
theorem wid_le8 (n : Nat) (h : n < 18446744073709551616) : wid n ≤ 8 := wid_le 8 n (by have : (256 : Nat) ^ 8 = 18446744073709551616 := by decide
                                                                                       omega)
def putSmall (n : Nat) : List UInt8 := UInt8.ofNat (wid n) :: hi (wid n) n
def putInt (z : Int) : List UInt8 := hi 8 (z + 9223372036854775808).toNat

/-- value, how many bytes, the error's number. -/
def getSmall : List UInt8 → Nat × Nat × Nat
  | [] => (0, 0, 3)
  | x :: r => if 8 < x.toNat then (0, 0, 4) else if r.length < x.toNat then (0, 0, 3) else if 0 < x.toNat ∧ r.head? = some 0 then (0, 0, 4) else (be (r.take x.toNat), 1 + x.toNat, 0)
theorem getSmall_cons (x : UInt8) (r : List UInt8) : getSmall (x :: r) = if 8 < x.toNat then (0, 0, 4) else if r.length < x.toNat then (0, 0, 3) else if 0 < x.toNat ∧ r.head? = some 0 then (0, 0, 4) else (be (r.take x.toNat), 1 + x.toNat, 0) := rfl
theorem Addr.add_nought (a : Go.Addr) : a.add 0 = a := by simp [Go.Addr.add]
theorem Addr.add_one_ (a : Go.Addr) : a.add 1 = ⟨a.block, a.off + 1, none⟩ := by simp [Go.Addr.add]
def getInt (l : List UInt8) : Int × Nat × Nat := if l.length < 8 then (0, 0, 3) else ((be (l.take 8) : Int) - 9223372036854775808, 8, 0)

end Go.Proofs.Ytgjahlknefobeaa
