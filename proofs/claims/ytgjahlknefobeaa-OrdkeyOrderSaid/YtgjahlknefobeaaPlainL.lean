/- Plain laws: bytes keep the order of texts and of numbers, what is laid is read again, and which bytes stand behind all that begin with some. -/
import Derived.Test.YtgjahlknefobeaaPlainT
namespace Go.Proofs.Ytgjahlknefobeaa

theorem u8_eq {x y : UInt8} (h : x.toNat = y.toNat) : x = y := UInt8.toNat_inj.1 h

theorem fold_be (l : List UInt8) (a : Nat) : l.foldl (fun a (x : UInt8) => a * 256 + x.toNat) a = a * 256 ^ l.length + be l := by
  induction l generalizing a with
  | nil => simp [be]
  | cons x l ih =>
    simp only [List.foldl_cons, List.length_cons, be]
    rw [ih, ih (0 * 256 + x.toNat), Nat.pow_succ, Nat.add_mul, Nat.zero_mul, Nat.zero_add, Nat.mul_assoc, Nat.mul_comm 256]
    omega
theorem be_cons (x : UInt8) (l : List UInt8) : be (x :: l) = x.toNat * 256 ^ l.length + be l := by
  have := fold_be l x.toNat
  simpa [be] using this
theorem be_hi (k n : Nat) : be (hi k n) = n % 256 ^ k := by
  induction k with
  | zero => simp [hi, be, Nat.mod_one]
  | succ k ih =>
    rw [hi, be_cons, hi_len, ih, ofNat_toNat, Nat.mod_pow_succ, Nat.mul_comm]
    omega

theorem cmpB_self (a : List UInt8) : cmpB a a = 0 := by
  induction a with
  | nil => rfl
  | cons x a ih => simp [cmpB_cons, ih]
theorem cmpB_be (a b : List UInt8) (h : a.length = b.length) : cmpB a b = sgn (be a) (be b) := by
  induction a generalizing b with
  | nil =>
    cases b with
    | nil => rfl
    | cons y b => simp at h
  | cons x a ih =>
    cases b with
    | nil => simp at h
    | cons y b =>
      have h' : a.length = b.length := by simpa using h
      rw [cmpB_cons, ih b h', be_cons, be_cons, h']
      have ha := be_lt a
      have hb := be_lt b
      rw [h'] at ha
      generalize be a = p at *
      generalize be b = q at *
      generalize 256 ^ b.length = m at *
      rcases Nat.lt_trichotomy x.toNat y.toNat with hx | hx | hx
      · rw [if_pos hx]
        have : (x.toNat + 1) * m ≤ y.toNat * m := Nat.mul_le_mul_right m hx
        rw [Nat.add_mul] at this
        unfold sgn
        rw [if_pos (by omega)]
      · rw [if_neg (by omega), if_neg (by omega), hx]
        unfold sgn
        rcases Nat.lt_trichotomy p q with hp | hp | hp
        · rw [if_pos (by omega), if_pos (by omega)]
        · rw [if_neg (by omega), if_neg (by omega), if_neg (by omega), if_neg (by omega)]
        · rw [if_neg (by omega), if_pos (by omega), if_neg (by omega), if_pos (by omega)]
      · rw [if_neg (by omega), if_pos hx]
        have : (y.toNat + 1) * m ≤ x.toNat * m := Nat.mul_le_mul_right m hx
        rw [Nat.add_mul] at this
        unfold sgn
        rw [if_neg (by omega), if_pos (by omega)]
theorem sgn_shift (a b c d k : Int) (h1 : c = a + k) (h2 : d = b + k) : sgn c d = sgn a b := by
  subst h1 h2
  unfold sgn
  rcases Int.lt_trichotomy a b with h | h | h
  · rw [if_pos (by omega), if_pos h]
  · subst h; simp
  · rw [if_neg (by omega), if_pos (by omega), if_neg (by omega), if_pos h]
theorem pow8 : (256 : Nat) ^ 8 = 18446744073709551616 := by decide
theorem cmpB_putInt (a b : Int) (h1 : -9223372036854775808 ≤ a) (h2 : a < 9223372036854775808) (h3 : -9223372036854775808 ≤ b) (h4 : b < 9223372036854775808) : cmpB (putInt a) (putInt b) = sgn a b := by
  unfold putInt
  rw [cmpB_be _ _ (by rw [hi_len, hi_len]), be_hi, be_hi, pow8, Nat.mod_eq_of_lt (by omega), Nat.mod_eq_of_lt (by omega)]
  exact sgn_shift a b _ _ 9223372036854775808 (by omega) (by omega)

theorem wid_lt (n : Nat) : n < 256 ^ wid n := by
  induction n using Nat.strongRecOn with
  | _ n ih =>
    rcases Nat.eq_zero_or_pos n with rfl | h0
    · rw [wid_zero]; decide
    · rw [wid_pos h0, Nat.pow_succ]
      have := ih (n / 256) (by omega)
      omega
theorem wid_ge (n : Nat) (h : 0 < n) : 256 ^ (wid n - 1) ≤ n := by
  induction n using Nat.strongRecOn with
  | _ n ih =>
    rw [wid_pos h, Nat.add_sub_cancel]
    rcases Nat.eq_zero_or_pos (n / 256) with h0 | h0
    · rw [h0, wid_zero, Nat.pow_zero]; omega
    · have h1 := ih (n / 256) (by omega) h0
      have h2 : 0 < wid (n / 256) := by rw [wid_pos h0]; omega
      have h3 : 256 ^ wid (n / 256) = 256 ^ (wid (n / 256) - 1) * 256 := by rw [← Nat.pow_succ]; congr 1; omega
      omega
theorem wid_mono {n m : Nat} (h : wid n < wid m) : n < m := by
  have hm : 0 < m := by
    rcases Nat.eq_zero_or_pos m with rfl | hm
    · rw [wid_zero] at h; omega
    · exact hm
  have h1 := wid_lt n
  have h2 := wid_ge m hm
  have h3 : 256 ^ wid n ≤ 256 ^ (wid m - 1) := pow256_le (by omega)
  omega
theorem cmpB_putSmall (n m : Nat) (hn : n < 18446744073709551616) (hm : m < 18446744073709551616) : cmpB (putSmall n) (putSmall m) = sgn n m := by
  have h1 := wid_le8 n hn
  have h2 := wid_le8 m hm
  unfold putSmall
  rw [cmpB_cons, ofNat_toNat, ofNat_toNat, Nat.mod_eq_of_lt (by omega), Nat.mod_eq_of_lt (by omega)]
  rcases Nat.lt_trichotomy (wid n) (wid m) with h | h | h
  · rw [if_pos h]
    have := wid_mono h
    unfold sgn; rw [if_pos (by omega)]
  · rw [if_neg (by omega), if_neg (by omega), h, cmpB_be _ _ (by rw [hi_len, hi_len]), be_hi, be_hi, Nat.mod_eq_of_lt (by rw [← h]; exact wid_lt n), Nat.mod_eq_of_lt (wid_lt m)]
  · rw [if_neg (by omega), if_pos h]
    have := wid_mono h
    unfold sgn; rw [if_neg (by omega), if_pos (by omega)]

/-- Texts whose bytes part keep their order, whatever stands behind. -/
theorem cmpB_text (a b s t : List UInt8) (h : cmpB a b ≠ 0) : cmpB (encT a ++ 0 :: 1 :: s) (encT b ++ 0 :: 1 :: t) = cmpB a b := by
  induction a generalizing b with
  | nil =>
    cases b with
    | nil => exact absurd rfl h
    | cons y b =>
      simp only [encT]
      by_cases hy : y.toNat = 0
      · rw [if_pos hy]; simp [cmpB]
      · rw [if_neg hy]
        simp only [List.nil_append, List.cons_append, cmpB_cons]
        rw [if_pos (by simp; omega)]
        rfl
  | cons x a ih =>
    cases b with
    | nil =>
      simp only [encT]
      by_cases hx : x.toNat = 0
      · rw [if_pos hx]; simp [cmpB]
      · rw [if_neg hx]
        simp only [List.nil_append, List.cons_append, cmpB_cons]
        rw [if_neg (by simp), if_pos (by simp; omega)]
        rfl
    | cons y b =>
      rw [cmpB_cons] at h ⊢
      simp only [encT]
      rcases Nat.lt_trichotomy x.toNat y.toNat with hxy | hxy | hxy
      · rw [if_pos hxy, if_neg (show ¬ y.toNat = 0 by omega)]
        by_cases hx : x.toNat = 0
        · rw [if_pos hx]
          simp only [List.cons_append, cmpB_cons]
          rw [if_pos (by simp; omega)]
        · rw [if_neg hx]
          simp only [List.cons_append, cmpB_cons]
          rw [if_pos hxy]
      · have e : (if x.toNat < y.toNat then (-1 : Int) else if y.toNat < x.toNat then 1 else cmpB a b) = cmpB a b := by rw [if_neg (by omega), if_neg (by omega)]
        rw [e] at h ⊢
        by_cases hx : x.toNat = 0
        · rw [if_pos hx, if_pos (by omega)]
          simp only [List.cons_append, cmpB_cons]
          simp [ih b h]
        · rw [if_neg hx, if_neg (by omega)]
          simp only [List.cons_append, cmpB_cons]
          rw [if_neg (by omega), if_neg (by omega), ih b h]
      · have e : (if x.toNat < y.toNat then (-1 : Int) else if y.toNat < x.toNat then 1 else cmpB a b) = 1 := by rw [if_neg (by omega), if_pos hxy]
        rw [e, if_neg (show ¬ x.toNat = 0 by omega)]
        by_cases hy : y.toNat = 0
        · rw [if_pos hy]
          simp only [List.cons_append, cmpB_cons]
          rw [if_neg (by simp), if_pos (by simp; omega)]
        · rw [if_neg hy]
          simp only [List.cons_append, cmpB_cons]
          rw [if_neg (by omega), if_pos hxy]
theorem cmpB_zero {a b : List UInt8} (h : cmpB a b = 0) : a = b := by
  induction a generalizing b with
  | nil =>
    cases b with
    | nil => rfl
    | cons y b => simp [cmpB] at h
  | cons x a ih =>
    cases b with
    | nil => simp [cmpB] at h
    | cons y b =>
      rw [cmpB_cons] at h
      split at h
      · omega
      · split at h
        · omega
        · rw [ih h, u8_eq (show x.toNat = y.toNat by omega)]
theorem cmpB_putText (a b : List UInt8) : cmpB (putText a) (putText b) = cmpB a b := by
  by_cases h : cmpB a b = 0
  · rw [h, cmpB_zero h, cmpB_self]
  · exact cmpB_text a b [] [] h
theorem cmpB_putText_more (a b s t : List UInt8) (h : cmpB a b ≠ 0) : cmpB (putText a ++ s) (putText b ++ t) = cmpB a b := by
  unfold putText
  rw [List.append_assoc, List.append_assoc]
  exact cmpB_text a b s t h

theorem getS_enc (l r acc : List UInt8) (i : Nat) : getS false (encT l ++ r) acc i = getS false r (acc ++ l) (i + (encT l).length) := by
  induction l generalizing acc i with
  | nil => simp [encT]
  | cons x l ih =>
    simp only [encT]
    by_cases hx : x.toNat = 0
    · obtain rfl : x = 0 := u8_eq hx
      rw [if_pos hx]
      simp only [List.cons_append, getS]
      simp [ih]
      congr 1
      omega
    · rw [if_neg hx]
      simp only [List.cons_append, getS]
      rw [if_neg hx, ih]
      simp
      congr 1
      omega
theorem getText_put (l r : List UInt8) : getText (putText l ++ r) = (l, (putText l).length, 0) := by
  unfold getText putText
  rw [List.append_assoc, getS_enc]
  simp [getS]
theorem getText_cut (l : List UInt8) : getText ((putText l).take ((putText l).length - 1)) = ([], 0, 3) := by
  have h : (putText l).take ((putText l).length - 1) = encT l ++ [0] := by
    have e : putText l = (encT l ++ [0]) ++ [1] := by simp [putText]
    have n : (putText l).length - 1 = (encT l ++ [0]).length := by simp [putText]
    rw [n, e, List.take_left]
  rw [h]
  unfold getText
  rw [getS_enc]
  simp [getS]
theorem putText_len (l : List UInt8) : 2 ≤ (putText l).length ∧ (putText l).length ≤ 2 * l.length + 2 := by
  have := encT_len l
  unfold putText
  simp
  omega
theorem putSmall_len (n : Nat) : (putSmall n).length = wid n + 1 := by simp [putSmall, hi_len]
theorem getSmall_put (n : Nat) (r : List UInt8) (hn : n < 18446744073709551616) : getSmall (putSmall n ++ r) = (n, (putSmall n).length, 0) := by
  have h8 := wid_le8 n hn
  rw [putSmall_len]
  unfold putSmall
  rw [List.cons_append, getSmall_cons, ofNat_toNat, Nat.mod_eq_of_lt (by omega), if_neg (by omega), if_neg (by simp [hi_len]), if_neg]
  · rw [List.take_append_of_le_length (by rw [hi_len]; omega), List.take_of_length_le (by rw [hi_len]; omega), be_hi, Nat.mod_eq_of_lt (wid_lt n)]
    simp
    omega
  · rintro ⟨h0, h⟩
    have hn0 : 0 < n := by
      rcases Nat.eq_zero_or_pos n with rfl | hn0
      · rw [wid_zero] at h0; omega
      · exact hn0
    obtain ⟨k, hk⟩ : ∃ k, wid n = k + 1 := ⟨wid n - 1, by omega⟩
    rw [hk, hi] at h
    simp only [List.cons_append, List.head?_cons, Option.some.injEq] at h
    have h1 := wid_ge n hn0
    have h2 := wid_lt n
    rw [hk, Nat.add_sub_cancel] at h1
    rw [hk, Nat.pow_succ] at h2
    have h3 : 1 ≤ n / 256 ^ k := by
      rw [Nat.le_div_iff_mul_le (Nat.pow_pos (by omega))]; omega
    have h4 : n / 256 ^ k < 256 := Nat.div_lt_of_lt_mul (by omega)
    have h5 := congrArg UInt8.toNat h
    rw [ofNat_toNat] at h5
    simp at h5
    omega
theorem getSmall_cut (n : Nat) (hn : n < 18446744073709551616) : (getSmall ((putSmall n).take ((putSmall n).length - 1))).2.2 = 3 := by
  have h8 := wid_le8 n hn
  rw [putSmall_len, Nat.add_sub_cancel]
  unfold putSmall
  rcases Nat.eq_zero_or_pos (wid n) with h0 | h0
  · rw [h0]; rfl
  · obtain ⟨k, hk⟩ : ∃ k, wid n = k + 1 := ⟨wid n - 1, by omega⟩
    rw [hk, List.take_succ_cons, getSmall_cons, ofNat_toNat, Nat.mod_eq_of_lt (by omega), if_neg (by omega), if_pos (by simp [hi_len])]
theorem putInt_len (z : Int) : (putInt z).length = 8 := hi_len 8 _
theorem getInt_put (z : Int) (r : List UInt8) (h1 : -9223372036854775808 ≤ z) (h2 : z < 9223372036854775808) : getInt (putInt z ++ r) = (z, 8, 0) := by
  have h : (putInt z ++ r).take 8 = putInt z := by
    rw [List.take_append_of_le_length (by rw [putInt_len]; omega), List.take_of_length_le (by rw [putInt_len]; omega)]
  unfold getInt
  rw [if_neg (by rw [List.length_append, putInt_len]; omega), h]
  unfold putInt
  rw [be_hi, pow8, Nat.mod_eq_of_lt (by omega)]
  refine Prod.ext ?_ rfl
  show ((z + 9223372036854775808).toNat : Int) - 9223372036854775808 = z
  omega

/-- The bytes behind all that begin with l, from the front. -/
def behF : List UInt8 → Option (List UInt8)
  | [] => none
  | y :: l => match behF l with
    | some x => some (y :: x)
    | none => if y.toNat = 255 then none else some [UInt8.ofNat (y.toNat + 1)]
theorem behF_snoc (l : List UInt8) (x : UInt8) : behF (l ++ [x]) = if x.toNat = 255 then behF l else some (l ++ [UInt8.ofNat (x.toNat + 1)]) := by
  induction l with
  | nil => simp [behF]
  | cons y l ih =>
    simp only [List.cons_append, behF, ih]
    by_cases hx : x.toNat = 255
    · rw [if_pos hx, if_pos hx]
    · rw [if_neg hx, if_neg hx]
theorem behR_F (l : List UInt8) (k : Nat) (h : k ≤ l.length) : behR k l = behF (l.take k) := by
  induction k with
  | zero => rfl
  | succ k ih =>
    have hx : l[k]? = some l[k] := List.getElem?_eq_getElem (by omega)
    rw [take_snoc hx, behF_snoc]
    by_cases hf : l[k].toNat = 255
    · rw [behR_ff hx hf, if_pos hf, ih (by omega)]
    · rw [behR_hit hx hf, if_neg hf]
theorem behB_F (l : List UInt8) : behB l = behF l := by
  unfold behB
  rw [behR_F l l.length (Nat.le_refl _), List.take_length]

theorem behF_len {b x : List UInt8} (h : behF b = some x) : x.length ≤ b.length := by
  induction b generalizing x with
  | nil => cases h
  | cons y b ih =>
    simp only [behF] at h
    split at h
    · rename_i x' hb
      injection h with h
      subst h
      have := ih hb
      simp
      omega
    · split at h
      · cases h
      · injection h with h
        subst h
        simp

def begins (o b : List UInt8) : Prop := b.length ≤ o.length ∧ o.take b.length = b
theorem begins_nil (o : List UInt8) : begins o [] := ⟨Nat.zero_le _, rfl⟩
theorem begins_cons (z y : UInt8) (o b : List UInt8) : begins (z :: o) (y :: b) ↔ z = y ∧ begins o b := by
  unfold begins
  simp
  constructor
  · rintro ⟨h1, h2, h3⟩; exact ⟨h2, h1, h3⟩
  · rintro ⟨h1, h2, h3⟩; exact ⟨h2, h1, h3⟩
theorem begins_short (y : UInt8) (b : List UInt8) : ¬ begins [] (y :: b) := by unfold begins; simp
theorem cmpB_begins {o b : List UInt8} (h : begins o b) : 0 ≤ cmpB o b := by
  induction b generalizing o with
  | nil => cases o <;> simp [cmpB]
  | cons y b ih =>
    cases o with
    | nil => exact absurd h (begins_short y b)
    | cons z o =>
      obtain ⟨rfl, h'⟩ := (begins_cons _ _ _ _).1 h
      rw [cmpB_cons, if_neg (by omega), if_neg (by omega)]
      exact ih h'
theorem behF_none {b : List UInt8} (h : behF b = none) (o : List UInt8) : begins o b ∨ cmpB o b < 0 := by
  induction b generalizing o with
  | nil => exact .inl (begins_nil o)
  | cons y b ih =>
    have hn : behF b = none ∧ y.toNat = 255 := by
      simp only [behF] at h
      split at h
      · cases h
      · rename_i hb
        split at h
        · exact ⟨hb, by assumption⟩
        · cases h
    cases o with
    | nil => right; simp [cmpB]
    | cons z o =>
      have hz : z.toNat < 256 := z.toNat_lt
      rcases Nat.lt_or_ge z.toNat y.toNat with hzy | hzy
      · right; rw [cmpB_cons, if_pos hzy]; decide
      · obtain rfl : z = y := u8_eq (by omega)
        rcases ih hn.1 o with h1 | h1
        · exact .inl ((begins_cons _ _ _ _).2 ⟨rfl, h1⟩)
        · right; rw [cmpB_cons, if_neg (by omega), if_neg (by omega)]; exact h1
theorem behF_long {b x : List UInt8} (h : behF b = some x) (m : List UInt8) : cmpB (b ++ m) x < 0 := by
  induction b generalizing x with
  | nil => cases h
  | cons y b ih =>
    simp only [behF] at h
    split at h
    · rename_i x' hb
      injection h with h
      subst h
      rw [List.cons_append, cmpB_cons, if_neg (by omega), if_neg (by omega)]
      exact ih hb
    · split at h
      · cases h
      · rename_i hy
        injection h with h
        subst h
        have hy8 : y.toNat < 256 := y.toNat_lt
        rw [List.cons_append, cmpB_cons, if_pos (by rw [ofNat_toNat]; omega)]
        decide
theorem behF_between {b x : List UInt8} (h : behF b = some x) (o : List UInt8) : (0 ≤ cmpB o b ∧ cmpB o x < 0) ↔ begins o b := by
  induction b generalizing x o with
  | nil => cases h
  | cons y b ih =>
    have hy8 : y.toNat < 256 := y.toNat_lt
    cases o with
    | nil =>
      constructor
      · rintro ⟨h1, _⟩; simp [cmpB] at h1
      · intro h1; exact absurd h1 (begins_short y b)
    | cons z o =>
      have hz8 : z.toNat < 256 := z.toNat_lt
      rw [begins_cons, cmpB_cons]
      simp only [behF] at h
      rcases Nat.lt_trichotomy z.toNat y.toNat with hzy | hzy | hzy
      · rw [if_pos hzy]
        constructor
        · rintro ⟨h1, _⟩; omega
        · rintro ⟨rfl, _⟩; omega
      · obtain rfl : z = y := u8_eq hzy
        rw [if_neg (by omega), if_neg (by omega)]
        split at h
        · rename_i x' hb
          injection h with h
          subst h
          rw [cmpB_cons, if_neg (by omega), if_neg (by omega), ih hb o]
          simp
        · rename_i hb
          split at h
          · cases h
          · injection h with h
            subst h
            rw [cmpB_cons, if_pos (by rw [ofNat_toNat]; omega)]
            constructor
            · rintro ⟨h1, _⟩
              rcases behF_none hb o with h2 | h2
              · exact ⟨rfl, h2⟩
              · omega
            · rintro ⟨_, h2⟩
              exact ⟨cmpB_begins h2, by decide⟩
      · rw [if_neg (by omega), if_pos hzy]
        constructor
        · rintro ⟨_, h2⟩
          exfalso
          split at h
          · injection h with h
            subst h
            rw [cmpB_cons, if_neg (by omega), if_pos hzy] at h2
            omega
          · split at h
            · cases h
            · injection h with h
              subst h
              rw [cmpB_cons, ofNat_toNat, if_neg (by omega)] at h2
              split at h2
              · omega
              · cases o <;> simp [cmpB] at h2
        · rintro ⟨rfl, _⟩; omega
end Go.Proofs.Ytgjahlknefobeaa
