/- Plain facts on the sums of layer 2: steps of a register, linear and one to one. Nothing of the program is proved here. -/
namespace Go.Proofs.Ytidnpokjaklfpaa

/-- A step of a register. -/
def stp (r : BitVec 32) : BitVec 32 := (r <<< 1) ^^^ (if r.msb then 79764919#32 else 0#32)
/-- Many steps. -/
def stn : Nat → BitVec 32 → BitVec 32
  | 0, r => r
  | k + 1, r => stp (stn k r)
/-- A byte as the highest eight bits. -/
def top8 (x : UInt8) : BitVec 32 := BitVec.ofNat 32 (x.toNat * 16777216)
/-- The register behind some bytes. -/
def upd (r : BitVec 32) (l : List UInt8) : BitVec 32 := l.foldl (fun r x => stn 8 (r ^^^ top8 x)) r
/-- The sum of some bytes and more behind them. -/
def updc (s : BitVec 32) (l : List UInt8) : BitVec 32 := ~~~ (upd (~~~ s) l)
def crc (l : List UInt8) : BitVec 32 := updc 0#32 l

theorem stp_xor (a b : BitVec 32) : stp (a ^^^ b) = stp a ^^^ stp b := by
  unfold stp
  rw [BitVec.shiftLeft_xor_distrib, BitVec.msb_xor]
  generalize a <<< 1 = x
  generalize b <<< 1 = y
  cases a.msb <;> cases b.msb <;> simp only [Bool.xor_false, Bool.xor_true, Bool.not_true, Bool.not_false, if_true, if_false, Bool.false_eq_true, BitVec.xor_zero]
  · rw [BitVec.xor_assoc]
  · rw [BitVec.xor_assoc, BitVec.xor_assoc, BitVec.xor_comm y]
  · rw [BitVec.xor_assoc, ← BitVec.xor_assoc 79764919#32, BitVec.xor_comm 79764919#32 y, BitVec.xor_assoc y, BitVec.xor_self, BitVec.xor_zero]
theorem stp_eq_zero {x : BitVec 32} (h : stp x = 0#32) : x = 0#32 := by
  unfold stp at h
  cases hm : x.msb with
  | true =>
    rw [hm, if_pos rfl] at h
    have := congrArg (fun v => v.getLsbD 0) h
    simp at this
  | false =>
    rw [hm] at h
    simp only [Bool.false_eq_true, if_false, BitVec.xor_zero] at h
    have h1 := congrArg BitVec.toNat h
    rw [BitVec.toNat_shiftLeft] at h1
    rw [BitVec.msb_eq_false_iff_two_mul_lt] at hm
    simp [Nat.shiftLeft_eq] at h1
    have h2 := x.isLt
    apply BitVec.eq_of_toNat_eq
    simp
    omega
theorem xor_eq_zero {a b : BitVec 32} (h : a ^^^ b = 0#32) : a = b := by
  have h1 := congrArg (fun v => v ^^^ b) h
  simp only [BitVec.xor_assoc, BitVec.xor_self, BitVec.xor_zero, BitVec.zero_xor] at h1
  exact h1
theorem stp_inj {a b : BitVec 32} (h : stp a = stp b) : a = b :=
  xor_eq_zero (stp_eq_zero (by rw [stp_xor, h, BitVec.xor_self]))
theorem stn_xor (k : Nat) (a b : BitVec 32) : stn k (a ^^^ b) = stn k a ^^^ stn k b := by
  induction k with
  | zero => rfl
  | succ k ih => simp only [stn, ih, stp_xor]
theorem stn_inj (k : Nat) {a b : BitVec 32} (h : stn k a = stn k b) : a = b := by
  induction k with
  | zero => exact h
  | succ k ih => exact ih (stp_inj h)
theorem stn_add (j k : Nat) (r : BitVec 32) : stn (j + k) r = stn j (stn k r) := by
  induction j with
  | zero => simp [stn]
  | succ j ih => rw [show j + 1 + k = (j + k) + 1 by omega]; simp only [stn, ih]
theorem upd_snoc (r : BitVec 32) (l : List UInt8) (x : UInt8) : upd r (l ++ [x]) = stn 8 (upd r l ^^^ top8 x) := by simp [upd, List.foldl_append]
theorem upd_append (r : BitVec 32) (a b : List UInt8) : upd r (a ++ b) = upd (upd r a) b := by simp [upd, List.foldl_append]
theorem updc_append (s : BitVec 32) (a b : List UInt8) : updc s (a ++ b) = updc (updc s a) b := by simp [updc, upd_append]
theorem crc_parts (l : List UInt8) (k : Nat) : updc (crc (l.take k)) (l.drop k) = crc l := by
  unfold crc
  rw [← updc_append, List.take_append_drop]
theorem upd_xor (l : List UInt8) (r s : BitVec 32) : upd r l ^^^ upd s l = stn (8 * l.length) (r ^^^ s) := by
  induction l generalizing r s with
  | nil => rfl
  | cons x l ih =>
    show upd (stn 8 (r ^^^ top8 x)) l ^^^ upd (stn 8 (s ^^^ top8 x)) l = _
    rw [ih, ← stn_xor, List.length_cons, show 8 * (l.length + 1) = 8 * l.length + 8 by omega, stn_add]
    congr 2
    rw [BitVec.xor_assoc, ← BitVec.xor_assoc (top8 x), BitVec.xor_comm (top8 x) s, BitVec.xor_assoc s, BitVec.xor_self, BitVec.xor_zero]
theorem not_xor_not (a b : BitVec 32) : ~~~ a ^^^ ~~~ b = a ^^^ b := by
  apply BitVec.eq_of_getLsbD_eq
  intro i hi
  simp [hi]
theorem updc_xor (l : List UInt8) (r s : BitVec 32) : updc r l ^^^ updc s l = stn (8 * l.length) (r ^^^ s) := by
  unfold updc
  rw [not_xor_not, upd_xor, not_xor_not]
theorem updc_inj (l : List UInt8) {r s : BitVec 32} (h : updc r l = updc s l) : r = s := by
  have h1 := updc_xor l r s
  rw [h, BitVec.xor_self] at h1
  have h2 : stn (8 * l.length) (r ^^^ s) = stn (8 * l.length) 0#32 := by
    rw [← h1]
    have := stn_xor (8 * l.length) 0#32 0#32
    rw [BitVec.xor_self] at this
    rw [BitVec.xor_self] at this
    exact this.symm
  exact xor_eq_zero (stn_inj _ h2)
theorem top8_inj {x y : UInt8} (h : top8 x = top8 y) : x = y := by
  have h1 := congrArg BitVec.toNat h
  have hx := x.toNat_lt
  have hy := y.toNat_lt
  simp [top8] at h1
  exact UInt8.toNat_inj.1 (by omega)
theorem crc_set {l : List UInt8} {j : Nat} {x y : UInt8} (hj : l[j]? = some x) (hne : x ≠ y) : crc (l.set j y) ≠ crc l := by
  intro h
  obtain ⟨hlt, hx⟩ := List.getElem?_eq_some_iff.1 hj
  have e1 : l = l.take j ++ ([x] ++ l.drop (j + 1)) := by
    rw [← List.append_assoc, ← hx]; simp
  have e2 : l.set j y = l.take j ++ ([y] ++ l.drop (j + 1)) := by
    rw [List.set_eq_take_append_cons_drop, if_pos hlt]; rfl
  rw [e2] at h
  have h' : crc (l.take j ++ ([y] ++ l.drop (j + 1))) = crc (l.take j ++ ([x] ++ l.drop (j + 1))) := by rw [h, ← e1]
  unfold crc at h'
  rw [updc_append, updc_append, updc_append, updc_append] at h'
  have h2 := updc_inj _ h'
  have h3 : stn 8 (~~~ (updc 0#32 (l.take j)) ^^^ top8 y) = stn 8 (~~~ (updc 0#32 (l.take j)) ^^^ top8 x) := by
    have := congrArg (fun v => ~~~ v) h2
    simpa [updc, upd] using this
  have h4 := stn_inj _ h3
  have h5 := congrArg (fun v => ~~~ (updc 0#32 (l.take j)) ^^^ v) h4
  simp only [← BitVec.xor_assoc, BitVec.xor_self, BitVec.zero_xor] at h5
  exact hne (top8_inj h5.symm)

/-- What stands behind the sum: the length, two zeros, the bytes, zeros. -/
def body (b : List UInt8) (size : Nat) : List UInt8 := [UInt8.ofNat (b.length / 256), UInt8.ofNat b.length, 0, 0] ++ (b ++ List.replicate (size - 8 - b.length) 0)
/-- A sum's bytes, the highest first. -/
def hi4 (s : BitVec 32) : List UInt8 := [UInt8.ofNat (s.toNat / 16777216), UInt8.ofNat (s.toNat / 65536), UInt8.ofNat (s.toNat / 256), UInt8.ofNat s.toNat]
def sealL (b : List UInt8) (size : Nat) : List UInt8 := hi4 (crc (body b size)) ++ body b size
theorem body_len (b : List UInt8) (size : Nat) (h : b.length + 8 ≤ size) : (body b size).length = size - 4 := by simp [body]; omega
theorem seal_len (b : List UInt8) (size : Nat) (h : b.length + 8 ≤ size) : (sealL b size).length = size := by simp [sealL, hi4, body_len b size h]; omega
theorem set_take_drop {X Y : List UInt8} {k : Nat} {y : UInt8} (hk : k < X.length) (hy : Y[k]? = some y) : (Y.take k ++ X.drop k).set k y = Y.take (k + 1) ++ X.drop (k + 1) := by
  have hl : k < Y.length := (List.getElem?_eq_some_iff.1 hy).1
  rw [List.take_add_one, hy, List.set_append, List.length_take, if_neg (by omega), Nat.min_eq_left (by omega), Nat.sub_self, List.append_assoc]
  congr 1
  rw [List.drop_eq_getElem_cons hk]
  rfl
theorem crc_check : crc [49, 50, 51, 52, 53, 54, 55, 56, 57] = 4236843288#32 := by decide +kernel
end Go.Proofs.Ytidnpokjaklfpaa
