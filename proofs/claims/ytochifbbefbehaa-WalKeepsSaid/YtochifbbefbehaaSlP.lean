/- Plain facts on slots: the eight bytes of a number, sectors, what is put, got, and seen; nothing of the program is proved here. -/
import Derived.Test.YtochifbbefbehaaBase
namespace Go.Proofs.Ytochifbbefbehaa
set_option linter.unusedVariables false
set_option linter.unusedSimpArgs false

/-- The eight bytes of a number, the highest first. -/
def st (g : Nat) : List UInt8 := (List.range 8).map fun i => UInt8.ofNat (g / 256 ^ (7 - i))
theorem st_len (g : Nat) : (st g).length = 8 := by simp [st]
theorem st_eq (g : Nat) : st g = [UInt8.ofNat (g / 256 ^ 7), UInt8.ofNat (g / 256 ^ 6), UInt8.ofNat (g / 256 ^ 5), UInt8.ofNat (g / 256 ^ 4), UInt8.ofNat (g / 256 ^ 3), UInt8.ofNat (g / 256 ^ 2), UInt8.ofNat (g / 256 ^ 1), UInt8.ofNat (g / 256 ^ 0)] := rfl
theorem be8 (a b c d e f g h : UInt8) : be [a, b, c, d, e, f, g, h] = ((((((a.toNat * 256 + b.toNat) * 256 + c.toNat) * 256 + d.toNat) * 256 + e.toNat) * 256 + f.toNat) * 256 + g.toNat) * 256 + h.toNat := by
  simp [be]
theorem toNat_of (n : Nat) : (UInt8.ofNat n).toNat = n % 256 := by simp
theorem be_st (g : Nat) (h : g < 18446744073709551616) : be (st g) = g := by
  rw [st_eq, be8]
  simp only [toNat_of]
  omega
theorem slList8 {α : Type} (l : List α) (h : l.length = 8) : ∃ a b c d e f g k, l = [a, b, c, d, e, f, g, k] := by
  match l, h with
  | [a, b, c, d, e, f, g, k], _ => exact ⟨a, b, c, d, e, f, g, k, rfl⟩
theorem ofNat_eq (x : UInt8) (n : Nat) (h : n % 256 = x.toNat) : UInt8.ofNat n = x := by
  apply UInt8.toNat_inj.1
  rw [toNat_of, h]
theorem st_be (l : List UInt8) (h : l.length = 8) : st (be l) = l := by
  obtain ⟨a, b, c, d, e, f, g, k, rfl⟩ := slList8 l h
  rw [be8, st_eq]
  have := a.toNat_lt; have := b.toNat_lt; have := c.toNat_lt; have := d.toNat_lt; have := e.toNat_lt; have := f.toNat_lt; have := g.toNat_lt; have := k.toNat_lt
  rw [ofNat_eq a _ (by omega), ofNat_eq b _ (by omega), ofNat_eq c _ (by omega), ofNat_eq d _ (by omega), ofNat_eq e _ (by omega), ofNat_eq f _ (by omega), ofNat_eq g _ (by omega), ofNat_eq k _ (by omega)]
theorem st_inj {a b : Nat} (ha : a < 18446744073709551616) (hb : b < 18446744073709551616) (h : st a = st b) : a = b := by
  rw [← be_st a ha, ← be_st b hb, h]

def maxNum : Nat := 1099511627776
/-- A stamp's number; 0: none. -/
def genOf (l : List UInt8) : Nat := if be l ≤ maxNum then be l else 0
theorem genOf_le (l : List UInt8) : genOf l ≤ 1099511627776 := by unfold genOf maxNum; split <;> omega
theorem genOf_st {g : Nat} (h : g ≤ maxNum) : genOf (st g) = g := by
  unfold maxNum at h
  unfold genOf maxNum
  rw [be_st g (by omega), if_pos h]

/-- What the four have together. -/
def allOf (b : List UInt8) : List UInt8 := [UInt8.ofNat (b.length / 256), UInt8.ofNat b.length] ++ b ++ List.replicate (954 - b.length) 0
theorem allOf_len {b : List UInt8} (h : b.length ≤ 954) : (allOf b).length = 956 := by simp [allOf]; omega
/-- A sector. -/
def sec (g i : Nat) (p : List UInt8) : List UInt8 := st g ++ [UInt8.ofNat i] ++ p ++ st g
theorem sec_len {g i : Nat} {p : List UInt8} (h : p.length = 239) : (sec g i p).length = 256 := by simp [sec, st_len, h]
def partOf (l : List UInt8) (i : Nat) : List UInt8 := (l.drop (i * 239)).take 239
theorem partOf_len {l : List UInt8} {i : Nat} (h : l.length = 956) (hi : i < 4) : (partOf l i).length = 239 := by simp [partOf]; omega
def putL (g : Nat) (b : List UInt8) : List (List UInt8) := (List.range 4).map fun i => sec g i (partOf (allOf b) i)
theorem putL_len (g : Nat) (b : List UInt8) : (putL g b).length = 4 := by simp [putL]
theorem putL_at (g : Nat) (b : List UInt8) {i : Nat} (h : i < 4) : (putL g b)[i]? = some (sec g i (partOf (allOf b) i)) := by simp [putL, h]

/-- What a sector's stamp tells; 0: nothing. -/
def stampP (b : List UInt8) : Nat := if b.length = 256 ∧ b.take 8 = b.drop 248 then genOf (b.take 8) else 0
theorem stampP_le (b : List UInt8) : stampP b ≤ 1099511627776 := by
  unfold stampP; split
  · exact genOf_le _
  · omega
theorem sec_take {g i : Nat} {p : List UInt8} : (sec g i p).take 8 = st g := by
  unfold sec
  rw [List.append_assoc, List.append_assoc, List.take_left' (st_len g)]
theorem sec_drop {g i : Nat} {p : List UInt8} (h : p.length = 239) : (sec g i p).drop 248 = st g := by
  unfold sec
  rw [List.drop_left' (by simp [st_len, h])]
theorem sec_part {g i : Nat} {p : List UInt8} (h : p.length = 239) : ((sec g i p).drop 9).take 239 = p := by
  unfold sec
  rw [List.append_assoc, List.drop_left' (by simp [st_len]), List.take_left' h]
theorem stampP_sec {g i : Nat} {p : List UInt8} (h : p.length = 239) (hg : g ≤ maxNum) : stampP (sec g i p) = g := by
  unfold stampP
  rw [sec_take, sec_drop h, if_pos ⟨sec_len h, rfl⟩, genOf_st hg]

/-- The number that all four tell; 0: none. -/
def sharedP (L : List (List UInt8)) : Nat := if L.length = 4 ∧ ∀ b ∈ L, stampP b = stampP (L.getD 0 []) then stampP (L.getD 0 []) else 0
def allP (L : List (List UInt8)) : List UInt8 := L.flatMap fun b => (b.drop 9).take 239
def lenP (l : List UInt8) : Nat := (l.getD 0 0).toNat * 256 + (l.getD 1 0).toNat
def bodyP (l : List UInt8) : List UInt8 := (l.drop 2).take (lenP l)
/-- What is got: the number, the body, the error. -/
def slGetE (L : List (List UInt8)) : Nat := if sharedP L = 0 then 3 else if 954 < lenP (allP L) then 4 else if putL (sharedP L) (bodyP (allP L)) = L then 0 else 4
def getG (L : List (List UInt8)) : Nat := if slGetE L = 0 then sharedP L else 0
def getB (L : List (List UInt8)) : List UInt8 := if slGetE L = 0 then bodyP (allP L) else []
def seen1 (n : Nat) (b : List UInt8) : Nat := if b.length = 256 then max (max n (genOf (b.take 8))) (genOf (b.drop 248)) else n
def seenP (L : List (List UInt8)) : Nat := L.foldl seen1 0

theorem foldl_seen_ge (L : List (List UInt8)) : ∀ n, n ≤ L.foldl seen1 n := by
  induction L with
  | nil => intro n; exact Nat.le_refl _
  | cons b L ih =>
    intro n
    refine Nat.le_trans ?_ (ih _)
    unfold seen1
    split
    · omega
    · exact Nat.le_refl _
theorem seen_mem {L : List (List UInt8)} {b : List UInt8} (h : b ∈ L) : ∀ n, stampP b ≤ L.foldl seen1 n := by
  induction L with
  | nil => cases h
  | cons c L ih =>
    intro n
    simp only [List.foldl_cons]
    rcases List.mem_cons.1 h with rfl | h
    · refine Nat.le_trans ?_ (foldl_seen_ge _ _)
      unfold stampP seen1
      split
      · rename_i h1
        rw [if_pos h1.1]
        omega
      · omega
    · exact ih h _
theorem seen1_le (n : Nat) (b : List UInt8) (h : n ≤ 1099511627776) : seen1 n b ≤ 1099511627776 := by
  unfold seen1
  have h1 := genOf_le (b.take 8)
  have h2 := genOf_le (b.drop 248)
  split <;> omega

theorem getD0 {α : Type} (l : List α) (d : α) (h : 0 < l.length) : l.getD 0 d ∈ l := by
  cases l with
  | nil => simp at h
  | cons a l => simp
theorem four_ext {α : Type} {L M : List α} (hl : L.length = 4) (hm : M.length = 4) (h : ∀ i, i < 4 → L[i]? = M[i]?) : L = M := by
  apply List.ext_getElem?
  intro i
  by_cases hi : i < 4
  · exact h i hi
  · rw [List.getElem?_eq_none (by omega), List.getElem?_eq_none (by omega)]

theorem range4 : List.range 4 = [0, 1, 2, 3] := rfl
theorem parts_all {l : List UInt8} (h : l.length = 956) : (List.range 4).flatMap (fun i => partOf l i) = l := by
  rw [range4]
  simp only [List.flatMap_cons, List.flatMap_nil, List.append_nil, partOf]
  have e : ∀ i, (l.drop i).take 239 ++ l.drop (i + 239) = l.drop i := fun i => by
    rw [← List.drop_drop, List.take_append_drop]
  have h3 : (l.drop (3 * 239)).take 239 = l.drop 717 := List.take_of_length_le (by simp; omega)
  rw [h3, show (2 * 239) = 478 from rfl, show (1 * 239) = 239 from rfl, show (0 * 239) = 0 from rfl, e 478, e 239, e 0]
  rfl
theorem mem_putL {g : Nat} {b c : List UInt8} (h : c ∈ putL g b) (hb : b.length ≤ 954) : ∃ i, i < 4 ∧ c = sec g i (partOf (allOf b) i) := by
  simp only [putL, List.mem_map, List.mem_range] at h
  obtain ⟨i, hi, rfl⟩ := h
  exact ⟨i, hi, rfl⟩
theorem shared_putL {g : Nat} {b : List UInt8} (hb : b.length ≤ 954) (hg : g ≤ maxNum) : sharedP (putL g b) = g := by
  have key : ∀ c ∈ putL g b, stampP c = g := by
    intro c hc
    obtain ⟨i, hi, rfl⟩ := mem_putL hc hb
    exact stampP_sec (partOf_len (allOf_len hb) hi) hg
  have h0 := key _ (getD0 (putL g b) [] (by rw [putL_len]; omega))
  unfold sharedP
  rw [if_pos ⟨putL_len g b, fun c hc => by rw [key c hc, h0]⟩, h0]
theorem all_putL {g : Nat} {b : List UInt8} (hb : b.length ≤ 954) : allP (putL g b) = allOf b := by
  unfold allP putL
  rw [List.flatMap_map]
  rw [← parts_all (allOf_len hb)]
  have : ∀ i ∈ List.range 4, ((sec g i (partOf (allOf b) i)).drop 9).take 239 = partOf (allOf b) i := fun i hi => sec_part (partOf_len (allOf_len hb) (List.mem_range.1 hi))
  rw [parts_all (allOf_len hb)]
  conv => rhs; rw [← parts_all (allOf_len hb)]
  simp only [List.flatMap_def]
  exact congrArg List.flatten (List.map_congr_left this)
theorem len_allOf {b : List UInt8} (hb : b.length ≤ 954) : lenP (allOf b) = b.length := by
  unfold lenP allOf
  simp only [List.cons_append, List.getD_cons_zero, List.getD_cons_succ, toNat_of]
  omega
theorem body_allOf {b : List UInt8} (hb : b.length ≤ 954) : bodyP (allOf b) = b := by
  unfold bodyP
  rw [len_allOf hb]
  simp [allOf]
theorem get_putL {g : Nat} {b : List UInt8} (hb : b.length ≤ 954) (h1 : 1 ≤ g) (hg : g ≤ maxNum) : slGetE (putL g b) = 0 ∧ getG (putL g b) = g ∧ getB (putL g b) = b := by
  have he : slGetE (putL g b) = 0 := by
    unfold slGetE
    rw [shared_putL hb hg, all_putL hb, len_allOf hb, body_allOf hb, if_neg (by omega), if_neg (by omega), if_pos rfl]
  refine ⟨he, ?_, ?_⟩
  · unfold getG
    rw [if_pos he, shared_putL hb hg]
  · unfold getB
    rw [if_pos he, all_putL hb, body_allOf hb]

/-- A torn sector. -/
def torn (k : Nat) (x y : List UInt8) : List UInt8 := y.take k ++ x.drop k
theorem torn_len {k : Nat} {x y : List UInt8} (hx : x.length = 256) (hy : y.length = 256) (hk : k ≤ 256) : (torn k x y).length = 256 := by simp [torn]; omega
/-- A sector with the same bytes at both its ends, of two that part there, is one of both. -/
theorem torn_whole {k a b : Nat} {x y : List UInt8} (hx : x.length = 256) (hy : y.length = 256) (hk : k ≤ 255) (ha : a < 18446744073709551616) (hb : b < 18446744073709551616) (hab : a ≠ b)
    (x1 : x.take 8 = st a) (x2 : x.drop 248 = st a) (y1 : y.take 8 = st b) (y2 : y.drop 248 = st b) (h : (torn k x y).take 8 = (torn k x y).drop 248) : torn k x y = x ∨ torn k x y = y := by
  have hne : st a ≠ st b := fun e => hab (st_inj ha hb e)
  have hkl : (y.take k).length = k := by rw [List.length_take]; omega
  by_cases h8 : k < 8
  · left
    have d : (torn k x y).drop 248 = st a := by
      unfold torn
      rw [List.drop_append, hkl, List.drop_of_length_le (by omega), List.nil_append, List.drop_drop, show k + (248 - k) = 248 by omega, x2]
    rw [d, ← x1] at h
    have h' : y.take k = x.take k := by
      have h2 := congrArg (List.take k) h
      unfold torn at h2
      rw [List.take_take, List.take_take, Nat.min_eq_left (by omega), List.take_left' hkl] at h2
      exact h2
    unfold torn
    rw [h', List.take_append_drop]
  · by_cases h248 : k ≤ 248
    · exfalso
      have d : (torn k x y).drop 248 = st a := by
        unfold torn
        rw [List.drop_append, hkl, List.drop_of_length_le (by omega), List.nil_append, List.drop_drop, show k + (248 - k) = 248 by omega, x2]
      have t : (torn k x y).take 8 = st b := by
        unfold torn
        rw [List.take_append_of_le_length (by omega), List.take_take, Nat.min_eq_left (by omega), y1]
      exact hne (by rw [← d, ← t, h])
    · right
      have t : (torn k x y).take 8 = st b := by
        unfold torn
        rw [List.take_append_of_le_length (by omega), List.take_take, Nat.min_eq_left (by omega), y1]
      rw [t, ← y2] at h
      have h2 := congrArg (List.drop (k - 248)) h
      rw [List.drop_drop, List.drop_drop, show 248 + (k - 248) = k by omega] at h2
      unfold torn at h2 ⊢
      rw [List.drop_left' hkl] at h2
      rw [← h2, List.take_append_drop]

/-- What becomes of a sector. -/
def fated (kd k : Nat) (x y : List UInt8) : List UInt8 := if kd % 3 = 0 then x else if kd % 3 = 1 then y else torn k x y
theorem fated_whole {kd k a b : Nat} {x y : List UInt8} (hx : x.length = 256) (hy : y.length = 256) (hk : k ≤ 255) (ha : a < 18446744073709551616) (hb : b < 18446744073709551616) (hab : a ≠ b)
    (x1 : x.take 8 = st a) (x2 : x.drop 248 = st a) (y1 : y.take 8 = st b) (y2 : y.drop 248 = st b) (h : stampP (fated kd k x y) ≠ 0) : fated kd k x y = x ∨ fated kd k x y = y := by
  unfold fated at h ⊢
  split
  · exact .inl rfl
  · split
    · exact .inr rfl
    · rename_i h1 h2
      rw [if_neg h1, if_neg h2] at h
      refine torn_whole hx hy hk ha hb hab x1 x2 y1 y2 ?_
      unfold stampP at h
      split at h
      · rename_i h3; exact h3.2
      · exact absurd rfl h

theorem st_at (g k : Nat) (h : k < 8) : (st g)[k]? = some (UInt8.ofNat (g / 256 ^ (7 - k))) := by simp [st, h]
theorem set_rep {l : List UInt8} {k : Nat} {y : UInt8} (h : k < 8) (hl : l.length = 8) (hy : l[k]? = some y) : (l.take k ++ List.replicate (8 - k) 0).set k y = l.take (k + 1) ++ List.replicate (8 - (k + 1)) 0 := by
  rw [take_snoc hy, show 8 - k = (8 - (k + 1)) + 1 by omega, List.replicate_succ, List.set_append_right _ _ (by simp; omega)]
  simp [Nat.min_eq_left (by omega : k ≤ l.length), hl, Nat.min_eq_left (by omega : k ≤ 8)]
theorem shr_byte (n k : Nat) : ((n : Int) / 2 ^ (8 * (7 - k)) % 256) = ((UInt8.ofNat (n / 256 ^ (7 - k))).toNat : Int) := by
  have e : (2 : Int) ^ (8 * (7 - k)) = ((256 ^ (7 - k) : Nat) : Int) := by
    have h : (2 : Nat) ^ (8 * (7 - k)) = 256 ^ (7 - k) := Nat.pow_mul 2 8 (7 - k)
    rw [← h]
    simp
  rw [toNat_of, e]
  omega
end Go.Proofs.Ytochifbbefbehaa
