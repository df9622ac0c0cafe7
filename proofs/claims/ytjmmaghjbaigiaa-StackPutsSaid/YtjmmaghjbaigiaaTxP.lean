/- What is laid is read again: numbers of few bytes, texts (plain). -/
import Derived.Test.YtjmmaghjbaigiaaTxD
namespace Go.Proofs.Ytjmmaghjbaigiaa
set_option linter.unusedVariables false
set_option linter.unusedSimpArgs false
theorem txU8 {x y : UInt8} (h : x.toNat = y.toNat) : x = y := UInt8.toNat_inj.1 h

theorem txFold (l : List UInt8) (a : Nat) : l.foldl (fun a (x : UInt8) => a * 256 + x.toNat) a = a * 256 ^ l.length + be l := by
  induction l generalizing a with
  | nil => simp [be]
  | cons x l ih =>
    simp only [List.foldl_cons, List.length_cons, be]
    rw [ih, ih (0 * 256 + x.toNat), Nat.pow_succ, Nat.add_mul, Nat.zero_mul, Nat.zero_add, Nat.mul_assoc, Nat.mul_comm 256]
    omega
theorem txBeCons (x : UInt8) (l : List UInt8) : be (x :: l) = x.toNat * 256 ^ l.length + be l := by
  have := txFold l x.toNat
  simpa [be] using this
theorem txBeHi (k n : Nat) : be (hi k n) = n % 256 ^ k := by
  induction k with
  | zero => simp [hi, be, Nat.mod_one]
  | succ k ih =>
    rw [hi, txBeCons, hi_len, ih, ofNat_toNat, Nat.mod_pow_succ, Nat.mul_comm]
    omega

theorem txWidLt (n : Nat) : n < 256 ^ wid n := by
  induction n using Nat.strongRecOn with
  | _ n ih =>
    rcases Nat.eq_zero_or_pos n with rfl | h0
    · rw [wid_zero]; decide
    · rw [wid_pos h0, Nat.pow_succ]
      have := ih (n / 256) (by omega)
      omega
theorem txWidGe (n : Nat) (h : 0 < n) : 256 ^ (wid n - 1) ≤ n := by
  induction n using Nat.strongRecOn with
  | _ n ih =>
    rw [wid_pos h, Nat.add_sub_cancel]
    rcases Nat.eq_zero_or_pos (n / 256) with h0 | h0
    · rw [h0, wid_zero, Nat.pow_zero]; omega
    · have h1 := ih (n / 256) (by omega) h0
      have h2 : 0 < wid (n / 256) := by rw [wid_pos h0]; omega
      have h3 : 256 ^ wid (n / 256) = 256 ^ (wid (n / 256) - 1) * 256 := by rw [← Nat.pow_succ]; congr 1; omega
      omega
theorem getTS_enc (l r acc : List UInt8) (i : Nat) : getTS false (encT l ++ r) acc i = getTS false r (acc ++ l) (i + (encT l).length) := by
  induction l generalizing acc i with
  | nil => simp [encT]
  | cons x l ih =>
    simp only [encT]
    by_cases hx : x.toNat = 0
    · obtain rfl : x = 0 := txU8 hx
      rw [if_pos hx]
      simp only [List.cons_append, getTS]
      simp [ih]
      congr 1
      omega
    · rw [if_neg hx]
      simp only [List.cons_append, getTS]
      rw [if_neg hx, ih]
      simp
      congr 1
      omega
theorem getText_put (l r : List UInt8) : getText (putText l ++ r) = (l, (putText l).length, 0) := by
  unfold getText putText
  rw [List.append_assoc, getTS_enc]
  simp [getTS]
theorem txSmallLen (n : Nat) : (putSmall n).length = wid n + 1 := by simp [putSmall, hi_len]
theorem txSmallPut (n : Nat) (r : List UInt8) (hn : n < 18446744073709551616) : getSmall (putSmall n ++ r) = (n, (putSmall n).length, 0) := by
  have h8 := wid_le8 n hn
  rw [txSmallLen]
  unfold putSmall
  rw [List.cons_append, getSmall_cons, ofNat_toNat, Nat.mod_eq_of_lt (by omega), if_neg (by omega), if_neg (by simp [hi_len]), if_neg]
  · rw [List.take_append_of_le_length (by rw [hi_len]; omega), List.take_of_length_le (by rw [hi_len]; omega), txBeHi, Nat.mod_eq_of_lt (txWidLt n)]
    simp
    omega
  · rintro ⟨h0, h⟩
    have hn0 : 0 < n := by
      rcases Nat.eq_zero_or_pos n with rfl | hn0
      · rw [wid_zero] at h0; omega
      · exact hn0
    obtain ⟨k, hk⟩ : ∃ k, wid n = k + 1 := ⟨wid n - 1, by omega⟩
    rw [hk, hi] at h
    simp only [List.cons_append, List.head?_cons, Option.some.injEq] at h
    have h1 := txWidGe n hn0
    have h2 := txWidLt n
    rw [hk, Nat.add_sub_cancel] at h1
    rw [hk, Nat.pow_succ] at h2
    have h3 : 1 ≤ n / 256 ^ k := by
      rw [Nat.le_div_iff_mul_le (Nat.pow_pos (by omega))]; omega
    have h4 : n / 256 ^ k < 256 := Nat.div_lt_of_lt_mul (by omega)
    have h5 := congrArg UInt8.toNat h
    rw [ofNat_toNat] at h5
    simp at h5
    omega
theorem rd_put (n : Nat) (r : List UInt8) (h : n ≤ 1099511627776) : rdV (putSmall n ++ r) 0 = n ∧ rdL (putSmall n ++ r) 0 = r ∧ rdF (putSmall n ++ r) 0 = 0 := by
  have e := txSmallPut n r (by omega)
  obtain ⟨a, b, c⟩ := rd_good' (l := putSmall n ++ r) (by rw [e]) (by rw [e]; exact h)
  rw [a, b, c, e]
  simp
theorem rt_put (t r : List UInt8) (m : Nat) (h : t.length ≤ m) : rtV (putText t ++ r) 0 m = t ∧ rtL (putText t ++ r) 0 m = r ∧ rtF (putText t ++ r) 0 m = 0 := by
  have e := getText_put t r
  obtain ⟨a, b, c⟩ := rt_good (l := putText t ++ r) (m := m) (by rw [e]) (by rw [e]; exact h)
  rw [a, b, c, e]
  simp
theorem rd_suffix (l : List UInt8) (f : Nat) : ∃ k, k ≤ l.length ∧ rdL l f = l.drop k := by
  unfold rdL
  split
  · exact ⟨_, getSmall_use l, rfl⟩
  · exact ⟨0, Nat.zero_le _, rfl⟩
theorem rt_suffix (l : List UInt8) (f m : Nat) : ∃ k, k ≤ l.length ∧ rtL l f m = l.drop k := by
  unfold rtL
  split
  · exact ⟨_, getText_use l, rfl⟩
  · exact ⟨0, Nat.zero_le _, rfl⟩
end Go.Proofs.Ytjmmaghjbaigiaa
