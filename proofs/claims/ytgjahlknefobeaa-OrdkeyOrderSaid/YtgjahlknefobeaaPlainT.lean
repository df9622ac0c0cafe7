/- Plain functions that say how a text is laid and read, and their laws. -/
import Derived.Test.YtgjahlknefobeaaPlainB
namespace Go.Proofs.Ytgjahlknefobeaa

/-- The bytes of a text, without its end. -/
def encT : List UInt8 → List UInt8
  | [] => []
  | x :: l => if x.toNat = 0 then 0 :: 255 :: encT l else x :: encT l
def putText (l : List UInt8) : List UInt8 := encT l ++ [0, 1]
theorem encT_snoc (l : List UInt8) (x : UInt8) : encT (l ++ [x]) = encT l ++ if x.toNat = 0 then [0, 255] else [x] := by
  induction l with
  | nil => simp only [List.nil_append, encT]
  | cons y l ih =>
    simp only [List.cons_append, encT, ih]
    split <;> simp
theorem encT_len (l : List UInt8) : (encT l).length ≤ 2 * l.length := by
  induction l with
  | nil => simp [encT]
  | cons y l ih =>
    simp only [encT]
    split <;> simp <;> omega

/-- Reading a text: whether a 00 stands ahead; the bytes that are left; the text so far; how many were read. -/
def getS : Bool → List UInt8 → List UInt8 → Nat → List UInt8 × Nat × Nat
  | _, [], _, _ => ([], 0, 3)
  | false, x :: r, acc, i => if x.toNat = 0 then getS true r acc (i + 1) else getS false r (acc ++ [x]) (i + 1)
  | true, x :: r, acc, i => if x.toNat = 255 then getS false r (acc ++ [0]) (i + 1) else if x.toNat = 1 then (acc, i + 1, 0) else ([], 0, 4)
def getText (l : List UInt8) : List UInt8 × Nat × Nat := getS false l [] 0
theorem getS_end {z : Bool} {l acc : List UInt8} {k : Nat} (h : l.length ≤ k) : getS z (l.drop k) acc k = ([], 0, 3) := by
  rw [List.drop_eq_nil_of_le h]; cases z <;> rfl
theorem getS_zero {l acc : List UInt8} {k : Nat} {x : UInt8} (h : l[k]? = some x) (hx : x.toNat = 0) : getS false (l.drop k) acc k = getS true (l.drop (k + 1)) acc (k + 1) := by
  rw [drop_cons h, getS, if_pos hx]
theorem getS_byte {l acc : List UInt8} {k : Nat} {x : UInt8} (h : l[k]? = some x) (hx : x.toNat ≠ 0) : getS false (l.drop k) acc k = getS false (l.drop (k + 1)) (acc ++ [x]) (k + 1) := by
  rw [drop_cons h, getS, if_neg hx]
theorem getS_mark {l acc : List UInt8} {k : Nat} {x : UInt8} (h : l[k]? = some x) (hx : x.toNat = 255) : getS true (l.drop k) acc k = getS false (l.drop (k + 1)) (acc ++ [0]) (k + 1) := by
  rw [drop_cons h, getS, if_pos hx]
theorem getS_done {l acc : List UInt8} {k : Nat} {x : UInt8} (h : l[k]? = some x) (hx : x.toNat = 1) : getS true (l.drop k) acc k = (acc, k + 1, 0) := by
  rw [drop_cons h, getS, if_neg (by omega), if_pos hx]
theorem getS_form {l acc : List UInt8} {k : Nat} {x : UInt8} (h : l[k]? = some x) (h1 : x.toNat ≠ 255) (h2 : x.toNat ≠ 1) : getS true (l.drop k) acc k = ([], 0, 4) := by
  rw [drop_cons h, getS, if_neg h1, if_neg h2]
end Go.Proofs.Ytgjahlknefobeaa
