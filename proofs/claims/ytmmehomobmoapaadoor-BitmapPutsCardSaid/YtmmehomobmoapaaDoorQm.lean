/- Numbers of few bytes, read back (plain). -/
import Derived.Test.YtmmehomobmoapaaDoorQY
namespace Go.Proofs.YtmmehomobmoapaaDoor
set_option linter.unusedVariables false
theorem fold_be (l : List UInt8) (a : Nat) : l.foldl (fun a (x : UInt8) => a * 256 + x.toNat) a = a * 256 ^ l.length + be l := by
  induction l generalizing a with
  | nil => simp [be]
  | cons x l ih =>
    simp only [List.foldl_cons, List.length_cons, be]
    rw [ih, ih (0 * 256 + x.toNat), Nat.pow_succ, Nat.add_mul, Nat.zero_mul, Nat.zero_add, Nat.mul_assoc, Nat.mul_comm 256]
    omega
theorem be_cons (x : UInt8) (l : List UInt8) : be (x :: l) = x.toNat * 256 ^ l.length + be l := by
  have := fold_be l x.toNat
  simpa [be] using this
theorem be_hi (k n : Nat) : be (hi k n) = n % 256 ^ k := by
  induction k with
  | zero => simp [hi, be, Nat.mod_one]
  | succ k ih =>
    rw [hi, be_cons, hi_len, ih, ofNat_toNat, Nat.mod_pow_succ, Nat.mul_comm]
    omega
theorem wid_lt (n : Nat) : n < 256 ^ wid n := by
  induction n using Nat.strongRecOn with
  | _ n ih =>
    rcases Nat.eq_zero_or_pos n with rfl | h0
    · rw [wid_zero]; decide
    · rw [wid_pos h0, Nat.pow_succ]
      have := ih (n / 256) (by omega)
      omega
theorem wid_ge (n : Nat) (h : 0 < n) : 256 ^ (wid n - 1) ≤ n := by
  induction n using Nat.strongRecOn with
  | _ n ih =>
    rw [wid_pos h, Nat.add_sub_cancel]
    rcases Nat.eq_zero_or_pos (n / 256) with h0 | h0
    · rw [h0, wid_zero, Nat.pow_zero]; omega
    · have h1 := ih (n / 256) (by omega) h0
      have h2 : 0 < wid (n / 256) := by rw [wid_pos h0]; omega
      have h3 : 256 ^ wid (n / 256) = 256 ^ (wid (n / 256) - 1) * 256 := by rw [← Nat.pow_succ]; congr 1; omega
      omega
theorem putSmall_size (n : Nat) : (putSmall n).length = wid n + 1 := by simp [putSmall, hi_len]
theorem getSmall_put (n : Nat) (r : List UInt8) (hn : n < 18446744073709551616) : getSmall (putSmall n ++ r) = (n, (putSmall n).length, 0) := by
  have h8 := wid_le8 n hn
  rw [putSmall_size]
  unfold putSmall
  rw [List.cons_append, getSmall_cons, ofNat_toNat, Nat.mod_eq_of_lt (by omega), if_neg (by omega), if_neg (by simp [hi_len]), if_neg]
  · rw [List.take_append_of_le_length (by rw [hi_len]; omega), List.take_of_length_le (by rw [hi_len]; omega), be_hi, Nat.mod_eq_of_lt (wid_lt n)]
    simp
    omega
  · rintro ⟨h0, h⟩
    have hn0 : 0 < n := by
      rcases Nat.eq_zero_or_pos n with rfl | hn0
      · rw [wid_zero] at h0; omega
      · exact hn0
    obtain ⟨k, hk⟩ : ∃ k, wid n = k + 1 := ⟨wid n - 1, by omega⟩
    rw [hk, hi] at h
    simp only [List.cons_append, List.head?_cons, Option.some.injEq] at h
    have h1 := wid_ge n hn0
    have h2 := wid_lt n
    rw [hk, Nat.add_sub_cancel] at h1
    rw [hk, Nat.pow_succ] at h2
    have h3 : 1 ≤ n / 256 ^ k := by
      rw [Nat.le_div_iff_mul_le (Nat.pow_pos (by omega))]; omega
    have h4 : n / 256 ^ k < 256 := Nat.div_lt_of_lt_mul (by omega)
    have h5 := congrArg UInt8.toNat h
    rw [ofNat_toNat] at h5
    simp at h5
    omega
theorem getSmall_cut (n : Nat) (hn : n < 18446744073709551616) : (getSmall ((putSmall n).take ((putSmall n).length - 1))).2.2 = 3 := by
  have h8 := wid_le8 n hn
  rw [putSmall_size, Nat.add_sub_cancel]
  unfold putSmall
  rcases Nat.eq_zero_or_pos (wid n) with h0 | h0
  · rw [h0]; rfl
  · obtain ⟨k, hk⟩ : ∃ k, wid n = k + 1 := ⟨wid n - 1, by omega⟩
    rw [hk, List.take_succ_cons, getSmall_cons, ofNat_toNat, Nat.mod_eq_of_lt (by omega), if_neg (by omega), if_pos (by simp [hi_len])]
theorem be_inj : ∀ {a b : List UInt8}, a.length = b.length → be a = be b → a = b
  | [], [], _, _ => rfl
  | [], _ :: _, h, _ => by simp at h
  | _ :: _, [], h, _ => by simp at h
  | x :: a, y :: b, h, e => by
    have hl : a.length = b.length := by simpa using h
    rw [be_cons, be_cons, hl] at e
    have h1 := be_lt a
    have h2 := be_lt b
    rw [hl] at h1
    have hp : 0 < 256 ^ b.length := Nat.pow_pos (by omega)
    have hx : x.toNat = y.toNat := by
      have e1 := congrArg (fun z => z / 256 ^ b.length) e
      simp only [Nat.mul_comm _ (256 ^ b.length), Nat.mul_add_div hp, Nat.div_eq_of_lt h1, Nat.div_eq_of_lt h2, Nat.add_zero] at e1
      exact e1
    rw [hx] at e
    have hb : be a = be b := by omega
    rw [UInt8.toNat_inj.1 hx, be_inj hl hb]
theorem wid_is {v k : Nat} (h1 : v < 256 ^ k) (h2 : 0 < k → 256 ^ (k - 1) ≤ v) : wid v = k := by
  have h3 := wid_le k v h1
  by_cases hk : wid v = k
  · exact hk
  · have h4 := h2 (by omega)
    have h5 := wid_lt v
    have h6 : 256 ^ wid v ≤ 256 ^ (k - 1) := Nat.pow_le_pow_right (by omega) (by omega)
    omega
/-- Bytes that are read as a number begin with that number's bytes. -/
theorem getSmall_inv {l : List UInt8} (h : (getSmall l).2.2 = 0) : l = putSmall (getSmall l).1 ++ l.drop (getSmall l).2.1 := by
  cases l with
  | nil => simp [getSmall] at h
  | cons x r =>
    rw [getSmall_cons] at h ⊢
    by_cases h8 : 8 < x.toNat
    · rw [if_pos h8] at h; simp at h
    · rw [if_neg h8] at h ⊢
      by_cases hl : r.length < x.toNat
      · rw [if_pos hl] at h; simp at h
      · rw [if_neg hl] at h ⊢
        by_cases hz : 0 < x.toNat ∧ r.head? = some 0
        · rw [if_pos hz] at h; simp at h
        · rw [if_neg hz]
          have htl : (r.take x.toNat).length = x.toNat := by rw [List.length_take]; omega
          have hw : wid (be (r.take x.toNat)) = x.toNat := by
            refine wid_is (by have := be_lt (r.take x.toNat); rw [htl] at this; exact this) fun hx => ?_
            cases r with
            | nil => simp at htl; omega
            | cons y r =>
              have hy : y.toNat ≠ 0 := by
                intro e
                apply hz
                refine ⟨hx, ?_⟩
                rw [List.head?_cons, show y = 0 from UInt8.toNat_inj.1 e]
              obtain ⟨k, hk⟩ : ∃ k, x.toNat = k + 1 := ⟨x.toNat - 1, by omega⟩
              rw [hk] at htl ⊢
              rw [List.take_succ_cons, be_cons]
              have hlk : (r.take k).length = k := by simpa using htl
              rw [hlk, show k + 1 - 1 = k by omega]
              have : 1 * 256 ^ k ≤ y.toNat * 256 ^ k := Nat.mul_le_mul_right _ (by omega)
              omega
          show x :: r = putSmall (be (r.take x.toNat)) ++ (x :: r).drop (1 + x.toNat)
          unfold putSmall
          rw [hw]
          have hh : hi x.toNat (be (r.take x.toNat)) = r.take x.toNat := by
            apply be_inj (by rw [hi_len, htl])
            rw [be_hi]
            apply Nat.mod_eq_of_lt
            have := be_lt (r.take x.toNat)
            rw [htl] at this
            exact this
          rw [hh, Nat.add_comm 1, List.drop_succ_cons]
          simp
theorem rd_put {n : Nat} (h : n ≤ 1099511627776) (t : List UInt8) : rdV (putSmall n ++ t) 0 = n ∧ rdL (putSmall n ++ t) 0 = t ∧ rdF (putSmall n ++ t) 0 = 0 := by
  have e := getSmall_put n t (by omega)
  unfold rdV rdL rdF
  rw [e]
  rw [if_pos ⟨rfl, rfl, h⟩, if_pos ⟨rfl, rfl, h⟩, if_pos rfl, if_pos rfl, if_pos h]
  exact ⟨rfl, by simp, rfl⟩
theorem rd_inv {l : List UInt8} {f : Nat} (h : rdF l f = 0) : f = 0 ∧ l = putSmall (rdV l f) ++ rdL l f ∧ rdV l f ≤ 1099511627776 := by
  unfold rdF at h
  by_cases hf : f = 0
  · rw [if_pos hf] at h
    by_cases he : (getSmall l).2.2 = 0
    · rw [if_pos he] at h
      by_cases hv : (getSmall l).1 ≤ 1099511627776
      · unfold rdV rdL
        rw [if_pos ⟨hf, he, hv⟩, if_pos ⟨hf, he, hv⟩]
        exact ⟨hf, getSmall_inv he, hv⟩
      · rw [if_neg hv] at h; omega
    · rw [if_neg he] at h; exact absurd h he
  · rw [if_neg hf] at h; exact absurd h hf
end Go.Proofs.YtmmehomobmoapaaDoor
