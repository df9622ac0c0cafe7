/- How many bits of a word are 1: what the sums of pairs, of fours and of bytes come to (plain). -/
import Derived.Lib.Hide
namespace Go.Proofs.YtmmehomobmoapaaDoor
set_option linter.unusedVariables false
/-- How many numbers below n have p. -/
def cnt (p : Nat → Bool) : Nat → Nat
  | 0 => 0
  | n + 1 => cnt p n + (p n).toNat
theorem cnt_le (p : Nat → Bool) : ∀ n, cnt p n ≤ n
  | 0 => Nat.le_refl _
  | n + 1 => by
    have := cnt_le p n
    have := Bool.toNat_le (p n)
    show cnt p n + (p n).toNat ≤ n + 1
    omega
theorem cnt_congr {p q : Nat → Bool} : ∀ n, (∀ i, i < n → p i = q i) → cnt p n = cnt q n
  | 0, _ => rfl
  | n + 1, h => by
    show cnt p n + (p n).toNat = cnt q n + (q n).toNat
    rw [cnt_congr n (fun i hi => h i (by omega)), h n (by omega)]
theorem cnt_add (p : Nat → Bool) (a : Nat) : ∀ b, cnt p (a + b) = cnt p a + cnt (fun i => p (a + i)) b
  | 0 => rfl
  | b + 1 => by
    show cnt p (a + b) + (p (a + b)).toNat = cnt p a + (cnt (fun i => p (a + i)) b + (p (a + b)).toNat)
    rw [cnt_add p a b]
    omega
def mask (k : Nat) : Nat → Nat
  | 0 => 0
  | n + 1 => k + 256 * mask k n
def f1 (b : Nat) : Nat := (b / 2 &&& 0x55) + (b &&& 0x55)
def f2 (b : Nat) : Nat := (b / 4 &&& 0x33) + (b &&& 0x33)
def f3 (b : Nat) : Nat := b / 16 + b &&& 0x0f
theorem and_split (x y : Nat) : x &&& y = (x % 256 &&& y % 256) + 256 * (x / 256 &&& y / 256) := by
  have h1 : (x &&& y) % 2 ^ 8 = x % 2 ^ 8 &&& y % 2 ^ 8 := Nat.and_mod_two_pow
  have h2 : (x &&& y) / 2 ^ 8 = x / 2 ^ 8 &&& y / 2 ^ 8 := Nat.and_div_two_pow
  have h3 : (2 : Nat) ^ 8 = 256 := by decide
  rw [h3] at h1 h2
  have := Nat.div_add_mod (x &&& y) 256
  omega
theorem and_mask (x k n : Nat) (hk : k < 256) : x &&& mask k (n + 1) = (x % 256 &&& k) + 256 * (x / 256 &&& mask k n) := by
  rw [and_split]
  have e1 : mask k (n + 1) % 256 = k := by show (k + 256 * mask k n) % 256 = k; omega
  have e2 : mask k (n + 1) / 256 = mask k n := by show (k + 256 * mask k n) / 256 = mask k n; omega
  rw [e1, e2]
theorem t1 : ∀ b : Fin 256, ∀ c : Fin 2, (b.val / 2 + 128 * c.val) &&& 0x55 = b.val / 2 &&& 0x55 := by decide +kernel
theorem t2 : ∀ b : Fin 256, ∀ c : Fin 4, (b.val / 4 + 64 * c.val) &&& 0x33 = b.val / 4 &&& 0x33 := by decide +kernel
theorem t3 : ∀ b : Fin 256, ∀ c : Fin 16, b.val / 16 ≤ 4 → b.val % 16 ≤ 4 → c.val ≤ 4 → (b.val / 16 + 16 * c.val + b.val) &&& 0x0f = b.val / 16 + b.val &&& 0x0f := by decide +kernel
theorem t4 : ∀ b : Fin 256, f2 (f1 b.val) / 16 ≤ 4 ∧ f2 (f1 b.val) % 16 ≤ 4 ∧ f1 b.val < 256 ∧ f2 (f1 b.val) < 256 := by decide +kernel
def stage1 (n x : Nat) : Nat := (x / 2 &&& mask 0x55 n) + (x &&& mask 0x55 n)
def stage2 (n x : Nat) : Nat := (x / 4 &&& mask 0x33 n) + (x &&& mask 0x33 n)
def stage3 (n x : Nat) : Nat := x / 16 + x &&& mask 0x0f n
theorem stage1_cons (n b x : Nat) (hb : b < 256) : stage1 (n + 1) (b + 256 * x) = f1 b + 256 * stage1 n x := by
  unfold stage1 f1
  rw [and_mask _ _ _ (by omega), and_mask _ _ _ (by omega)]
  have e1 : (b + 256 * x) / 2 % 256 = b / 2 + 128 * (x % 2) := by omega
  have e2 : (b + 256 * x) / 2 / 256 = x / 2 := by omega
  have e3 : (b + 256 * x) % 256 = b := by omega
  have e4 : (b + 256 * x) / 256 = x := by omega
  have := t1 ⟨b, hb⟩ ⟨x % 2, by omega⟩
  simp only at this
  rw [e1, e2, e3, e4, this]
  omega
theorem stage2_cons (n b x : Nat) (hb : b < 256) : stage2 (n + 1) (b + 256 * x) = f2 b + 256 * stage2 n x := by
  unfold stage2 f2
  rw [and_mask _ _ _ (by omega), and_mask _ _ _ (by omega)]
  have e1 : (b + 256 * x) / 4 % 256 = b / 4 + 64 * (x % 4) := by omega
  have e2 : (b + 256 * x) / 4 / 256 = x / 4 := by omega
  have e3 : (b + 256 * x) % 256 = b := by omega
  have e4 : (b + 256 * x) / 256 = x := by omega
  have := t2 ⟨b, hb⟩ ⟨x % 4, by omega⟩
  simp only at this
  rw [e1, e2, e3, e4, this]
  omega
theorem stage3_cons (n b x : Nat) (hb : b < 256) (h1 : b / 16 ≤ 4) (h2 : b % 16 ≤ 4) (h3 : x % 16 ≤ 4) : stage3 (n + 1) (b + 256 * x) = f3 b + 256 * stage3 n x := by
  unfold stage3 f3
  rw [and_mask _ _ _ (by omega)]
  have e1 : ((b + 256 * x) / 16 + (b + 256 * x)) % 256 = b / 16 + 16 * (x % 16) + b := by omega
  have e2 : ((b + 256 * x) / 16 + (b + 256 * x)) / 256 = x / 16 + x := by omega
  have := t3 ⟨b, hb⟩ ⟨x % 16, by omega⟩ h1 h2 h3
  simp only at this
  rw [e1, e2, this]
/-- The bytes of x, the low one first. -/
def low8 : Nat → Nat → List Nat
  | 0, _ => []
  | n + 1, x => x % 256 :: low8 n (x / 256)
def tot : List Nat → Nat
  | [] => 0
  | b :: l => b + 256 * tot l
theorem tot_low8 : ∀ n x, x < 256 ^ n → tot (low8 n x) = x
  | 0, x, h => by simp at h; subst h; rfl
  | n + 1, x, h => by
    show x % 256 + 256 * tot (low8 n (x / 256)) = x
    rw [tot_low8 n (x / 256) (by rw [Nat.pow_succ] at h; omega)]
    omega
theorem low8_lt : ∀ n x, ∀ b ∈ low8 n x, b < 256
  | 0, _, _, h => by cases h
  | n + 1, x, b, h => by
    rcases List.mem_cons.1 h with rfl | h
    · omega
    · exact low8_lt n _ b h
theorem low8_len : ∀ n x, (low8 n x).length = n
  | 0, _ => rfl
  | n + 1, x => by show (low8 n (x / 256)).length + 1 = n + 1; rw [low8_len]
theorem stage1_tot : ∀ l : List Nat, (∀ b ∈ l, b < 256) → stage1 l.length (tot l) = tot (l.map f1)
  | [], _ => by decide
  | b :: l, h => by
    show stage1 (l.length + 1) (b + 256 * tot l) = f1 b + 256 * tot (l.map f1)
    rw [stage1_cons _ _ _ (h b (by simp)), stage1_tot l (fun c hc => h c (by simp [hc]))]
theorem stage2_tot : ∀ l : List Nat, (∀ b ∈ l, b < 256) → stage2 l.length (tot l) = tot (l.map f2)
  | [], _ => by decide
  | b :: l, h => by
    show stage2 (l.length + 1) (b + 256 * tot l) = f2 b + 256 * tot (l.map f2)
    rw [stage2_cons _ _ _ (h b (by simp)), stage2_tot l (fun c hc => h c (by simp [hc]))]
theorem tot_mod (l : List Nat) (h : ∀ b ∈ l, b % 16 ≤ 4) : tot l % 16 ≤ 4 := by
  cases l with
  | nil => decide
  | cons b l => have := h b (by simp); show (b + 256 * tot l) % 16 ≤ 4; omega
theorem stage3_tot : ∀ l : List Nat, (∀ b ∈ l, b < 256 ∧ b / 16 ≤ 4 ∧ b % 16 ≤ 4) → stage3 l.length (tot l) = tot (l.map f3)
  | [], _ => by decide
  | b :: l, h => by
    show stage3 (l.length + 1) (b + 256 * tot l) = f3 b + 256 * tot (l.map f3)
    have hb := h b (by simp)
    rw [stage3_cons _ _ _ hb.1 hb.2.1 hb.2.2 (tot_mod l (fun c hc => (h c (by simp [hc])).2.2)), stage3_tot l (fun c hc => h c (by simp [hc]))]
def ones8 (b : Nat) : Nat := cnt b.testBit 8
theorem t5 : ∀ b : Fin 256, f3 (f2 (f1 b.val)) = ones8 b.val ∧ ones8 b.val ≤ 8 := by decide +kernel
def onesOf (x : Nat) : Nat := cnt x.testBit 64
theorem bits_low8 : ∀ n x, cnt x.testBit (8 * n) = ((low8 n x).map ones8).sum
  | 0, _ => rfl
  | n + 1, x => by
    show cnt x.testBit (8 * (n + 1)) = ones8 (x % 256) + ((low8 n (x / 256)).map ones8).sum
    rw [show 8 * (n + 1) = 8 + 8 * n by omega, cnt_add, ← bits_low8 n (x / 256)]
    have e1 : cnt x.testBit 8 = ones8 (x % 256) := cnt_congr 8 fun i hi => by
      rw [show (256 : Nat) = 2 ^ 8 by decide, Nat.testBit_mod_two_pow]
      simp [hi]
    have e2 : cnt (fun i => x.testBit (8 + i)) (8 * n) = cnt (x / 256).testBit (8 * n) := cnt_congr _ fun i _ => by
      show x.testBit (8 + i) = _
      rw [show (256 : Nat) = 2 ^ 8 by decide, Nat.testBit_div_two_pow, Nat.add_comm]
    rw [e1, e2]
theorem tot_lt : ∀ l : List Nat, (∀ b ∈ l, b < 256) → tot l < 256 ^ l.length
  | [], _ => by decide
  | b :: l, h => by
    have h1 := tot_lt l (fun c hc => h c (by simp [hc]))
    have h2 := h b (by simp)
    show b + 256 * tot l < 256 ^ (l.length + 1)
    rw [Nat.pow_succ]
    omega
theorem tot_half : ∀ l : List Nat, (∀ b ∈ l, b ≤ 79) → tot l * 2 < 256 ^ l.length
  | [], _ => by decide
  | b :: l, h => by
    have h1 := tot_half l (fun c hc => h c (by simp [hc]))
    have h2 := h b (by simp)
    show (b + 256 * tot l) * 2 < 256 ^ (l.length + 1)
    rw [Nat.pow_succ]
    omega
theorem list8 {l : List Nat} (h : l.length = 8) : ∃ a b c d e f g i, l = [a, b, c, d, e, f, g, i] := by
  match l, h with
  | [a, b, c, d, e, f, g, i], _ => exact ⟨a, b, c, d, e, f, g, i, rfl⟩
theorem fin8 (o0 o1 o2 o3 o4 o5 o6 o7 T0 T1 T2 T3 T4 T5 T6 : Nat) (c0 : o0 ≤ 8) (c1 : o1 ≤ 8) (c2 : o2 ≤ 8) (c3 : o3 ≤ 8) (c4 : o4 ≤ 8) (c5 : o5 ≤ 8) (c6 : o6 ≤ 8) (c7 : o7 ≤ 8)
    (h0 : T0 = o0 + 256 * T1) (h1 : T1 = o1 + 256 * T2) (h2 : T2 = o2 + 256 * T3) (h3 : T3 = o3 + 256 * T4) (h4 : T4 = o4 + 256 * T5) (h5 : T5 = o5 + 256 * T6) (h6 : T6 = o6 + 256 * o7) :
    T0 + T0 / 256 < 18446744073709551616 ∧ (T0 + T0 / 256) + (T0 + T0 / 256) / 65536 < 18446744073709551616 ∧ ((T0 + T0 / 256) + (T0 + T0 / 256) / 65536) + ((T0 + T0 / 256) + (T0 + T0 / 256) / 65536) / 4294967296 < 9223372036854775808 ∧ (((T0 + T0 / 256) + (T0 + T0 / 256) / 65536) + ((T0 + T0 / 256) + (T0 + T0 / 256) / 65536) / 4294967296) % 128 = o0 + (o1 + (o2 + (o3 + (o4 + (o5 + (o6 + o7)))))) := by
  have k1 : T0 / 256 = T1 := by clear h1 h2 h3 h4 h5 h6; omega
  rw [k1]
  have k2 : (T0 + T1) / 65536 = T2 + T3 := by
    have e : T0 + T1 = (o0 + o1) + 256 * (o1 + o2) + 65536 * (T2 + T3) := by clear h3 h4 h5 h6; omega
    rw [e]
    clear h0 h1 h2 h3 h4 h5 h6 k1 e
    omega
  rw [k2]
  have k3 : (T0 + T1 + (T2 + T3)) / 4294967296 = T4 + T5 + T6 + o7 := by
    have e : T0 + T1 + (T2 + T3) = (o0 + o1 + o2 + o3) + 256 * (o1 + o2 + o3 + o4) + 65536 * (o2 + o3 + o4 + o5) + 16777216 * (o3 + o4 + o5 + o6) + 4294967296 * (T4 + T5 + T6 + o7) := by clear k1 k2; omega
    rw [e]
    clear h0 h1 h2 h3 h4 h5 h6 k1 k2 e
    omega
  rw [k3]
  have z6 : T6 ≤ 2056 := by omega
  have z5 : T5 ≤ 526344 := by omega
  have z4 : T4 ≤ 134744072 := by omega
  have z3 : T3 ≤ 34494482440 := by omega
  have z2 : T2 ≤ 8830587504648 := by omega
  have z1 : T1 ≤ 2260630401189896 := by omega
  have z0 : T0 ≤ 578721382704613384 := by omega
  refine ⟨by omega, by omega, by omega, ?_⟩
  clear z0 z1 z2 z3 z4 z5 z6 k1 k2 k3
  omega
/-- The whole: what math/bits.OnesCount64 makes of x. -/
theorem swar (x a b c : Nat) (hx : x < 18446744073709551616) (ha : a = stage1 8 x) (hb : b = stage2 8 a) (hc : c = stage3 8 b) :
    a < 18446744073709551616 ∧ b < 18446744073709551616 ∧ b / 16 + b < 18446744073709551616 ∧ c + c / 256 < 18446744073709551616 ∧ (c + c / 256) + (c + c / 256) / 65536 < 18446744073709551616 ∧ ((c + c / 256) + (c + c / 256) / 65536) + ((c + c / 256) + (c + c / 256) / 65536) / 4294967296 < 9223372036854775808 ∧ (((c + c / 256) + (c + c / 256) / 65536) + ((c + c / 256) + (c + c / 256) / 65536) / 4294967296) % 128 = onesOf x := by
  have hl := low8_len 8 x
  have hlt := low8_lt 8 x
  have ht := tot_low8 8 x (by show x < 256 ^ 8; rw [show (256 : Nat) ^ 8 = 18446744073709551616 by decide]; exact hx)
  have hs : onesOf x = ((low8 8 x).map ones8).sum := bits_low8 8 x
  generalize low8 8 x = l at *
  have e1 : a = tot (l.map f1) := by rw [ha, ← ht]; have := stage1_tot l hlt; rw [hl] at this; exact this
  have e2 : b = tot ((l.map f1).map f2) := by
    rw [hb, e1]
    have := stage2_tot (l.map f1) (fun y hy => by obtain ⟨z, hz, rfl⟩ := List.mem_map.1 hy; exact (t4 ⟨z, hlt z hz⟩).2.2.1)
    rw [List.length_map, hl] at this
    exact this
  have e3 : c = tot (((l.map f1).map f2).map f3) := by
    rw [hc, e2]
    have := stage3_tot ((l.map f1).map f2) (fun y hy => by
      obtain ⟨z, hz, rfl⟩ := List.mem_map.1 hy
      obtain ⟨u, hu, rfl⟩ := List.mem_map.1 hz
      have := t4 ⟨u, hlt u hu⟩
      exact ⟨this.2.2.2, this.1, this.2.1⟩)
    rw [List.length_map, List.length_map, hl] at this
    exact this
  have ba : a < 18446744073709551616 := by
    have := tot_lt (l.map f1) (fun y hy => by obtain ⟨z, hz, rfl⟩ := List.mem_map.1 hy; exact (t4 ⟨z, hlt z hz⟩).2.2.1)
    rw [List.length_map, hl, show (256 : Nat) ^ 8 = 18446744073709551616 by decide, ← e1] at this
    exact this
  have bb : b * 2 < 18446744073709551616 := by
    have := tot_half ((l.map f1).map f2) (fun y hy => by
      obtain ⟨z, hz, rfl⟩ := List.mem_map.1 hy
      obtain ⟨u, hu, rfl⟩ := List.mem_map.1 hz
      have := t4 ⟨u, hlt u hu⟩
      simp only at this
      omega)
    rw [List.length_map, List.length_map, hl, show (256 : Nat) ^ 8 = 18446744073709551616 by decide, ← e2] at this
    exact this
  refine ⟨ba, by omega, by omega, ?_⟩
  clear e1 e2 ba bb ha hb hc ht hx
  obtain ⟨b0, b1, b2, b3, b4, b5, b6, b7, rfl⟩ := list8 hl
  have g : ∀ z, z ∈ [b0, b1, b2, b3, b4, b5, b6, b7] → f3 (f2 (f1 z)) = ones8 z ∧ ones8 z ≤ 8 := fun z hz => t5 ⟨z, hlt z hz⟩
  have g0 := g b0 (by simp); have g1 := g b1 (by simp); have g2 := g b2 (by simp); have g3 := g b3 (by simp)
  have g4 := g b4 (by simp); have g5 := g b5 (by simp); have g6 := g b6 (by simp); have g7 := g b7 (by simp)
  simp only [List.map_cons, List.map_nil, tot, List.sum_cons, List.sum_nil, Nat.mul_zero, Nat.add_zero] at e3 hs
  rw [g0.1, g1.1, g2.1, g3.1, g4.1, g5.1, g6.1, g7.1] at e3
  rw [hs]
  exact fin8 _ _ _ _ _ _ _ _ c _ _ _ _ _ _ g0.2 g1.2 g2.2 g3.2 g4.2 g5.2 g6.2 g7.2 e3 rfl rfl rfl rfl rfl rfl
end Go.Proofs.YtmmehomobmoapaaDoor
