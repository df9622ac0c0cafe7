/- Stacks of versions, plain: what each call makes of a list, what may be, and what stays so. -/
import Derived.Test.YtjmmaghjbaigiaaTxP
namespace Go.Proofs.Ytjmmaghjbaigiaa
set_option linter.unusedVariables false
set_option linter.unusedSimpArgs false
/-- A version. -/
structure Vn where
  txn : Int
  ts : Int
  gone : Bool
  val : ByteArray
deriving DecidableEq, Inhabited
theorem Vn.ext' {a b : Vn} (h1 : a.txn = b.txn) (h2 : a.ts = b.ts) (h3 : a.gone = b.gone) (h4 : a.val = b.val) : a = b := by cases a; cases b; simp_all
def vsPend (t : Int) (v : Vn) : Bool := decide (v.ts = 0) && decide (v.txn = t)

/-- Where the first pending one of a transaction stands, or the length. -/
def vsAt (l : List Vn) (t : Int) : Nat := l.findIdx (vsPend t)
theorem vsAt_spec' {l : List Vn} {t : Int} (h : vsAt l t < l.length) : vsPend t (l[vsAt l t]'h) = true := List.findIdx_getElem (w := h)
def vsWrite (l : List Vn) (v : Vn) : List Vn := if vsAt l v.txn < l.length then l.set (vsAt l v.txn) { v with ts := 0 } else if l.length < 8 then l ++ [{ v with ts := 0 }] else l
/-- Where the last one stands of which p holds, and one; or 0. -/
def vsLast (p : Vn → Bool) : List Vn → Nat
  | [] => 0
  | x :: r => if vsLast p r = 0 then (if p x then 1 else 0) else vsLast p r + 1
def vsBy (t : Int) (v : Vn) : Bool := decide (v.ts ≠ 0) && decide (v.ts ≤ t)
def vsPut (l : List Vn) (k : Nat) (v : Vn) : List Vn := l.take k ++ v :: l.drop k
def vsCommit (l : List Vn) (t s : Int) : List Vn :=
  if h : vsAt l t < l.length then
    if 1 ≤ s then vsPut (l.eraseIdx (vsAt l t)) (vsLast (vsBy s) (l.eraseIdx (vsAt l t))) { (l[vsAt l t]) with ts := s } else l
  else l
def vsAbort (l : List Vn) (t : Int) : List Vn := l.filter fun v => !vsPend t v
/-- All but those of which g holds, by where they stand. -/
def vsKeep (g : Nat → Vn → Bool) : Nat → List Vn → List Vn
  | _, [] => []
  | i, x :: r => if g i x then vsKeep g (i + 1) r else x :: vsKeep g (i + 1) r
def vsOld (t : Int) (v : Vn) : Bool := decide (1 ≤ v.ts) && decide (v.ts ≤ t)
def vsPrune (l : List Vn) (t : Int) : List Vn := vsKeep (fun i v => vsOld t v && (decide (i + 1 ≠ vsLast (vsOld t) l) || v.gone)) 0 l
def vsIn (n : Int) : Bool := decide (0 ≤ n) && decide (n ≤ 1099511627776)
def vsFault (v : Vn) : Nat := if 24 < v.val.size then 5 else if v.gone = true ∧ v.val ≠ ⟨#[]⟩ then 4 else if !vsIn v.txn || !vsIn v.ts then 9 else 0
def vsFaults : List Vn → Nat
  | [] => 0
  | x :: r => if vsFault x = 0 then vsFaults r else vsFault x
/-- May a stand behind b? -/
def vsFol (a b : Vn) : Bool := if b.ts = 0 then decide (a.ts = 0) && decide (a.txn ≠ b.txn) else decide (a.ts = 0) || decide (b.ts ≤ a.ts)
def vsOrd (l : List Vn) : Prop := ∀ (i k : Nat) (a b : Vn), i < k → l[i]? = some a → l[k]? = some b → vsFol b a = true
theorem vsOrd_iff (l : List Vn) : vsOrd l ↔ l.Pairwise fun a b => vsFol b a = true := by
  rw [List.pairwise_iff_getElem]
  constructor
  · intro h i j hi hj hij
    exact h i j _ _ hij (List.getElem?_eq_getElem hi) (List.getElem?_eq_getElem hj)
  · intro h i k a b hik ha hb
    obtain ⟨hi, rfl⟩ := List.getElem?_eq_some_iff.1 ha
    obtain ⟨hk, rfl⟩ := List.getElem?_eq_some_iff.1 hb
    exact h i k hi hk hik
instance (l : List Vn) : Decidable (vsOrd l) := decidable_of_iff (l.Pairwise fun a b => vsFol b a = true) (vsOrd_iff l).symm
def vsCheck (key : ByteArray) (l : List Vn) : Nat := if 16 < key.size then 5 else if 8 < l.length then 7 else if vsFaults l = 0 then (if vsOrd l then 0 else 12) else vsFaults l
theorem vsFaults_zero {l : List Vn} : vsFaults l = 0 ↔ ∀ v ∈ l, vsFault v = 0 := by
  induction l with
  | nil => simp [vsFaults]
  | cons x r ih =>
    rw [vsFaults]
    split
    · rename_i h; simp [ih, h]
    · rename_i h; simp [h]
theorem vsFault_zero {v : Vn} : vsFault v = 0 ↔ v.val.size ≤ 24 ∧ (v.gone = true → v.val = ⟨#[]⟩) ∧ (0 ≤ v.txn ∧ v.txn ≤ 1099511627776) ∧ 0 ≤ v.ts ∧ v.ts ≤ 1099511627776 := by
  unfold vsFault vsIn
  split
  · constructor
    · intro h; cases h
    · intro h; omega
  · split
    · rename_i h
      constructor
      · intro h; cases h
      · intro g; exact (h.2 (g.2.1 h.1)).elim
    · rename_i h1 h2
      split
      · rename_i h3
        simp at h3
        constructor
        · intro h; cases h
        · intro h; omega
      · rename_i h3
        simp only [Bool.or_eq_true, Bool.not_eq_true', Bool.and_eq_false_iff, decide_eq_false_iff_not, not_or, Decidable.not_not, Classical.not_not] at h3
        refine ⟨fun _ => ⟨by omega, fun hg => Classical.byContradiction fun hv => h2 ⟨hg, hv⟩, by omega, by omega⟩, fun _ => rfl⟩
theorem vsCheck_zero {key : ByteArray} {l : List Vn} : vsCheck key l = 0 ↔ key.size ≤ 16 ∧ l.length ≤ 8 ∧ (∀ v ∈ l, vsFault v = 0) ∧ l.Pairwise fun a b => vsFol b a = true := by
  unfold vsCheck
  split
  · constructor
    · intro h; cases h
    · intro h; omega
  · split
    · constructor
      · intro h; cases h
      · intro h; omega
    · split
      · rename_i h1
        rw [vsFaults_zero] at h1
        split
        · rename_i h2
          exact ⟨fun _ => ⟨by omega, by omega, h1, (vsOrd_iff l).1 h2⟩, fun _ => rfl⟩
        · rename_i h2
          constructor
          · intro h; cases h
          · intro h; exact (h2 ((vsOrd_iff l).2 h.2.2.2)).elim
      · rename_i h1
        constructor
        · intro h; exact (h1 h).elim
        · intro h; exact (h1 (vsFaults_zero.2 h.2.2.1)).elim
theorem vsLast_snoc (p : Vn → Bool) (l : List Vn) (x : Vn) : vsLast p (l ++ [x]) = if p x then l.length + 1 else vsLast p l := by
  induction l with
  | nil => simp [vsLast]
  | cons y r ih =>
    rw [List.cons_append, vsLast, ih, vsLast]
    by_cases h : p x = true
    · simp [h]
    · simp [h]
theorem vsLast_le (p : Vn → Bool) (l : List Vn) : vsLast p l ≤ l.length := by
  induction l with
  | nil => simp [vsLast]
  | cons x r ih =>
    rw [vsLast, List.length_cons]
    split
    · split <;> omega
    · omega
theorem vsKeep_snoc (g : Nat → Vn → Bool) (i : Nat) (l : List Vn) (x : Vn) : vsKeep g i (l ++ [x]) = if g (i + l.length) x then vsKeep g i l else vsKeep g i l ++ [x] := by
  induction l generalizing i with
  | nil => simp [vsKeep]
  | cons y r ih =>
    rw [List.cons_append, vsKeep, ih, vsKeep, List.length_cons, show i + 1 + r.length = i + (r.length + 1) by omega]
    split <;> split <;> simp
theorem vsKeep_filter (p : Vn → Bool) (i : Nat) (l : List Vn) : vsKeep (fun _ v => p v) i l = l.filter fun v => !p v := by
  induction l generalizing i with
  | nil => rfl
  | cons x r ih =>
    rw [vsKeep, ih, List.filter_cons]
    cases p x <;> simp
theorem vsKeep_erase (a i : Nat) (l : List Vn) : vsKeep (fun j _ => decide (j = i + a)) i l = l.eraseIdx a := by
  have none : ∀ (l : List Vn) (i n : Nat), n < i → vsKeep (fun j _ => decide (j = n)) i l = l := by
    intro l
    induction l with
    | nil => intros; rfl
    | cons x r ih =>
      intro i n h
      rw [vsKeep, if_neg (by simp; omega), ih _ _ (by omega)]
  induction l generalizing i a with
  | nil => simp [vsKeep]
  | cons x r ih =>
    cases a with
    | zero => rw [vsKeep, if_pos (by simp), List.eraseIdx_cons_zero, Nat.add_zero]; exact none _ _ _ (by omega)
    | succ a =>
      rw [vsKeep, if_neg (by simp), List.eraseIdx_cons_succ, ← ih a (i + 1), show i + (a + 1) = i + 1 + a by omega]
theorem vsKeep_sub (g : Nat → Vn → Bool) (i : Nat) (l : List Vn) : (vsKeep g i l).Sublist l := by
  induction l generalizing i with
  | nil => exact List.Sublist.refl _
  | cons x r ih =>
    rw [vsKeep]
    split
    · exact (ih _).cons _
    · exact (ih _).cons_cons _
end Go.Proofs.Ytjmmaghjbaigiaa
