/- Plain functions that say how bytes stand and which stand behind all that begin with them, and their laws. -/
import Derived.Test.YtgjahlknefobeaaPlain
namespace Go.Proofs.Ytgjahlknefobeaa

def sgn (x y : Int) : Int := if x < y then -1 else if y < x then 1 else 0
theorem sgn_self (x : Int) : sgn x x = 0 := by simp [sgn]
/-- How bytes stand. -/
def cmpB : List UInt8 → List UInt8 → Int
  | [], [] => 0
  | [], _ :: _ => -1
  | _ :: _, [] => 1
  | x :: a, y :: b => if x.toNat < y.toNat then -1 else if y.toNat < x.toNat then 1 else cmpB a b
theorem cmpB_cons (x y : UInt8) (a b : List UInt8) : cmpB (x :: a) (y :: b) = if x.toNat < y.toNat then -1 else if y.toNat < x.toNat then 1 else cmpB a b := rfl
theorem cmpB_end (a b : List UInt8) (k : Nat) (h : a.length ≤ k ∨ b.length ≤ k) : cmpB (a.drop k) (b.drop k) = sgn (a.length - k : Nat) (b.length - k : Nat) := by
  have ha : (a.drop k).length = a.length - k := by simp
  have hb : (b.drop k).length = b.length - k := by simp
  rw [← ha, ← hb]
  have h' : (a.drop k) = [] ∨ (b.drop k) = [] := by simpa using h
  generalize a.drop k = p at *
  generalize b.drop k = q at *
  rcases h' with rfl | rfl
  · cases q with
    | nil => rfl
    | cons y q => simp [cmpB, sgn] <;> omega
  · cases p with
    | nil => rfl
    | cons y q => simp [cmpB, sgn] <;> omega
theorem drop_cons {l : List UInt8} {k : Nat} {x : UInt8} (h : l[k]? = some x) : l.drop k = x :: l.drop (k + 1) := by
  obtain ⟨hk, rfl⟩ := List.getElem?_eq_some_iff.1 h
  exact List.drop_eq_getElem_cons hk
theorem cmpB_step {a b : List UInt8} {k : Nat} {x y : UInt8} (hx : a[k]? = some x) (hy : b[k]? = some y) :
    cmpB (a.drop k) (b.drop k) = if x.toNat < y.toNat then -1 else if y.toNat < x.toNat then 1 else cmpB (a.drop (k + 1)) (b.drop (k + 1)) := by
  rw [drop_cons hx, drop_cons hy, cmpB_cons]
theorem sgn_sub {n m k : Nat} (h1 : k ≤ n) (h2 : k ≤ m) : sgn (n - k : Nat) (m - k : Nat) = sgn n m := by
  unfold sgn
  rcases Nat.lt_trichotomy n m with h | h | h
  · rw [if_pos (by omega), if_pos (by omega)]
  · rw [if_neg (by omega), if_neg (by omega), if_neg (by omega), if_neg (by omega)]
  · rw [if_neg (by omega), if_pos (by omega), if_neg (by omega), if_pos (by omega)]
theorem cmpB_done {a b : List UInt8} {n m k : Nat} (ha : a.length = n) (hb : b.length = m) (h1 : k ≤ n) (h2 : k ≤ m) (h : ¬ (k < n ∧ k < m)) : cmpB (a.drop k) (b.drop k) = sgn n m := by
  rw [cmpB_end a b k (by omega), ha, hb, sgn_sub h1 h2]
/-- The least bytes behind all that begin with l, looked for among the first k. -/
def behR : Nat → List UInt8 → Option (List UInt8)
  | 0, _ => none
  | k + 1, l => match l[k]? with
    | some x => if x.toNat = 255 then behR k l else some (l.take k ++ [UInt8.ofNat (x.toNat + 1)])
    | none => none
def behB (l : List UInt8) : Option (List UInt8) := behR l.length l
theorem behR_ff {l : List UInt8} {k : Nat} {x : UInt8} (h : l[k]? = some x) (hx : x.toNat = 255) : behR (k + 1) l = behR k l := by simp [behR, h, hx]
theorem behR_hit {l : List UInt8} {k : Nat} {x : UInt8} (h : l[k]? = some x) (hx : x.toNat ≠ 255) : behR (k + 1) l = some (l.take k ++ [UInt8.ofNat (x.toNat + 1)]) := by simp [behR, h, hx]
end Go.Proofs.Ytgjahlknefobeaa
