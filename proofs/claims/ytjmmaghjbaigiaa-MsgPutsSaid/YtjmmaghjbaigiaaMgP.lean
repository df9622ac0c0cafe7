/- Messages in plain words: which may be, what they make of a stack, their bytes. -/
import Derived.Test.YtjmmaghjbaigiaaVsR
namespace Go.Proofs.Ytjmmaghjbaigiaa
set_option linter.unusedVariables false
set_option linter.unusedSimpArgs false
/-- A message. -/
structure Ms where
  kind : UInt8
  key : ByteArray
  txn : Int
  ts : Int
  gone : Bool
  val : ByteArray
def mgPair (k : Nat) : Bool := k == 0
def mgTxn (k : Nat) : Bool := k == 0 || k == 1 || k == 2
def mgTS (k : Nat) : Bool := k == 1 || k == 3
def mgWide (k : Nat) : Bool := k == 1 || k == 2 || k == 3
def mgIn (n : Int) : Bool := decide (0 ≤ n ∧ n ≤ 1099511627776)
def mgStrays (m : Ms) : Bool := (!mgTxn m.kind.toNat && m.txn != 0) || (!mgTS m.kind.toNat && m.ts != 0) || (!mgPair m.kind.toNat && (!m.key.toList.isEmpty || m.gone || !m.val.toList.isEmpty))
/-- The number of the error that Check tells. -/
def checkM (m : Ms) : Nat := if 3 < m.kind.toNat then 13 else if (mgStrays m || m.gone && !m.val.toList.isEmpty) = true then 4 else if (!mgIn m.txn || !mgIn m.ts || (m.kind.toNat == 1 && m.ts == 0)) = true then 9 else if 16 < m.key.size ∨ 24 < m.val.size then 5 else 0
theorem checkM_kind {m : Ms} (h : 3 < m.kind.toNat) : checkM m = 13 := if_pos h
theorem checkM_form {m : Ms} (h : ¬ 3 < m.kind.toNat) (h1 : (mgStrays m || m.gone && !m.val.toList.isEmpty) = true) : checkM m = 4 := by rw [checkM, if_neg h, if_pos h1]
theorem checkM_range {m : Ms} (h : ¬ 3 < m.kind.toNat) (h1 : ¬ (mgStrays m || m.gone && !m.val.toList.isEmpty) = true) (h2 : (!mgIn m.txn || !mgIn m.ts || (m.kind.toNat == 1 && m.ts == 0)) = true) : checkM m = 9 := by rw [checkM, if_neg h, if_neg h1, if_pos h2]
theorem checkM_big {m : Ms} (h : ¬ 3 < m.kind.toNat) (h1 : ¬ (mgStrays m || m.gone && !m.val.toList.isEmpty) = true) (h2 : ¬ (!mgIn m.txn || !mgIn m.ts || (m.kind.toNat == 1 && m.ts == 0)) = true) (h3 : 16 < m.key.size ∨ 24 < m.val.size) : checkM m = 5 := by rw [checkM, if_neg h, if_neg h1, if_neg h2, if_pos h3]
theorem checkM_ok {m : Ms} (h : ¬ 3 < m.kind.toNat) (h1 : ¬ (mgStrays m || m.gone && !m.val.toList.isEmpty) = true) (h2 : ¬ (!mgIn m.txn || !mgIn m.ts || (m.kind.toNat == 1 && m.ts == 0)) = true) (h3 : ¬ (16 < m.key.size ∨ 24 < m.val.size)) : checkM m = 0 := by rw [checkM, if_neg h, if_neg h1, if_neg h2, if_neg h3]
theorem mg_nil {b : ByteArray} (h : b.toList = []) : b = ⟨#[]⟩ := by
  have := ByteArray.toList_eq b
  rw [h] at this
  cases b with
  | mk d => cases d with
    | mk l => simp at this; subst this; rfl
theorem checkM_zero {m : Ms} (h : checkM m = 0) : m.kind.toNat ≤ 3 ∧ mgStrays m = false ∧ (m.gone = true → m.val = ⟨#[]⟩) ∧ (0 ≤ m.txn ∧ m.txn ≤ 1099511627776) ∧ (0 ≤ m.ts ∧ m.ts ≤ 1099511627776) ∧ m.key.size ≤ 16 ∧ m.val.size ≤ 24 := by
  unfold checkM at h
  split at h
  · cases h
  · split at h
    · cases h
    · split at h
      · cases h
      · split at h
        · cases h
        · rename_i h1 h2 h3 h4
          simp only [mgIn, Bool.or_eq_true, Bool.not_eq_true', decide_eq_false_iff_not, not_or, Decidable.not_not, Bool.and_eq_true, not_and, Bool.not_eq_false, Bool.not_eq_true, List.isEmpty_iff] at h2 h3
          exact ⟨by omega, h2.1, fun g => mg_nil (h2.2 g), by omega, by omega, by omega, by omega⟩
theorem mgStrays_not {m : Ms} (h : mgStrays m = false) : (mgTxn m.kind.toNat = false → m.txn = 0) ∧ (mgTS m.kind.toNat = false → m.ts = 0) ∧ (mgPair m.kind.toNat = false → m.key = ⟨#[]⟩ ∧ m.gone = false ∧ m.val = ⟨#[]⟩) := by
  simp only [mgStrays, Bool.or_eq_false_iff] at h
  obtain ⟨⟨h1, h2⟩, h3⟩ := h
  refine ⟨fun e => ?_, fun e => ?_, fun e => ?_⟩
  · rw [e] at h1; simpa using h1
  · rw [e] at h2; simpa using h2
  · rw [e] at h3
    simp only [Bool.not_false, Bool.true_and, Bool.or_eq_false_iff, Bool.not_eq_false', List.isEmpty_iff] at h3
    exact ⟨mg_nil h3.1.1, h3.1.2, mg_nil h3.2⟩
def mgAbout (key : ByteArray) (m : Ms) : Bool := mgWide m.kind.toNat || decide (m.key = key)
/-- A message that is about a stack's key, done to it. -/
def mgApply (l : List Vn) (m : Ms) : List Vn := if checkM m = 0 then (if m.kind.toNat = 0 then vsWrite l ⟨m.txn, 0, m.gone, m.val⟩ else if m.kind.toNat = 1 then vsCommit l m.txn m.ts else if m.kind.toNat = 2 then vsAbort l m.txn else vsPrune l m.ts) else l
def mgFold (key : ByteArray) (l : List Vn) (ms : List Ms) : List Vn := (ms.filter (mgAbout key)).foldl mgApply l
theorem mgApply_len (l : List Vn) (m : Ms) (h : l.length ≤ 12) : (mgApply l m).length ≤ 12 := by
  unfold mgApply
  split
  · split
    · unfold vsWrite
      split
      · rw [List.length_set]; exact h
      · split
        · rw [List.length_append]; simp; omega
        · exact h
    · split
      · rw [vsCommit_len]; exact h
      · split
        · exact Nat.le_trans (vsAbort_sub l m.txn).length_le h
        · exact Nat.le_trans (vsPrune_sub l m.ts).length_le h
  · exact h
theorem foldl_len (ms : List Ms) : ∀ (l : List Vn), l.length ≤ 12 → (ms.foldl mgApply l).length ≤ 12 := by
  induction ms with
  | nil => exact fun l h => h
  | cons m r ih => exact fun l h => ih _ (mgApply_len l m h)
theorem mgFold_len (key : ByteArray) (l : List Vn) (ms : List Ms) (h : l.length ≤ 12) : (mgFold key l ms).length ≤ 12 := foldl_len _ l h
theorem mgFold_append (key : ByteArray) (l : List Vn) (a b : List Ms) : mgFold key l (a ++ b) = mgFold key (mgFold key l a) b := by
  unfold mgFold
  rw [List.filter_append, List.foldl_append]
theorem mgFold_for (key : ByteArray) (l : List Vn) (ms : List Ms) : mgFold key l (ms.filter (mgAbout key)) = mgFold key l ms := by
  unfold mgFold
  rw [List.filter_filter]
  simp
theorem mgApply_check {key : ByteArray} {l : List Vn} (m : Ms) (h : vsCheck key l = 0) : vsCheck key (mgApply l m) = 0 := by
  unfold mgApply
  split
  · rename_i h0
    obtain ⟨c1, c2, c3, ⟨c4, c5⟩, ⟨c6, c7⟩, c8, c9⟩ := checkM_zero h0
    split
    · exact vsCheck_write h (vsFault_zero.2 ⟨c9, c3, ⟨c4, c5⟩, by show (0 : Int) ≤ 0; omega, by show (0 : Int) ≤ _; omega⟩)
    · split
      · exact vsCheck_commit h c7
      · split
        · exact vsCheck_sub h (vsAbort_sub l m.txn)
        · exact vsCheck_sub h (vsPrune_sub l m.ts)
  · exact h
theorem foldl_check {key : ByteArray} (ms : List Ms) : ∀ (l : List Vn), vsCheck key l = 0 → vsCheck key (ms.foldl mgApply l) = 0 := by
  induction ms with
  | nil => exact fun l h => h
  | cons m r ih => exact fun l h => ih _ (mgApply_check m h)
theorem mgFold_check {key : ByteArray} {l : List Vn} (ms : List Ms) (h : vsCheck key l = 0) : vsCheck key (mgFold key l ms) = 0 := foldl_check _ l h
theorem mgFold_snoc (key : ByteArray) (l : List Vn) (a : List Ms) (m : Ms) : (a ++ [m]).foldl mgApply l = mgApply (a.foldl mgApply l) m := by rw [List.foldl_append]; rfl
/-- A message's bytes, by what its kind has. -/
def layM (k : UInt8) (a b c : Bool) (n m : Nat) (key : List UInt8) (g : Bool) (val : List UInt8) : List UInt8 := k :: (if a then putText key else []) ++ (if b then putSmall n else []) ++ (if c then putSmall m else []) ++ (if a then vsMark g :: putText val else [])
def putM (m : Ms) : List UInt8 := layM m.kind (mgPair m.kind.toNat) (mgTxn m.kind.toNat) (mgTS m.kind.toNat) m.txn.toNat m.ts.toNat m.key.data.toList m.gone m.val.data.toList
theorem mg_kinds (k : Nat) : (mgPair k = true ∧ mgTxn k = true ∧ mgTS k = false) ∨ (mgPair k = false ∧ mgTxn k = true ∧ mgTS k = true) ∨ (mgPair k = false ∧ mgTxn k = true ∧ mgTS k = false) ∨ (mgPair k = false ∧ mgTxn k = false ∧ mgTS k = true) ∨ (mgPair k = false ∧ mgTxn k = false ∧ mgTS k = false) := by
  unfold mgPair mgTxn mgTS
  by_cases h0 : k = 0
  · subst h0; simp
  · by_cases h1 : k = 1
    · subst h1; simp
    · by_cases h2 : k = 2
      · subst h2; simp
      · by_cases h3 : k = 3
        · subst h3; simp
        · right; right; right; right; simp [h0, h1, h2, h3]
theorem putM_len {m : Ms} (h : checkM m = 0) : 1 ≤ (putM m).length ∧ (putM m).length ≤ 95 := by
  obtain ⟨c1, c2, c3, ⟨c4, c5⟩, ⟨c6, c7⟩, c8, c9⟩ := checkM_zero h
  have a := vs_ba m.key 16 c8
  have b := vs_small m.txn.toNat (by omega)
  have c := vs_small m.ts.toNat (by omega)
  have d := vs_ba m.val 24 c9
  unfold putM layM
  rcases mg_kinds m.kind.toNat with ⟨e1, e2, e3⟩ | ⟨e1, e2, e3⟩ | ⟨e1, e2, e3⟩ | ⟨e1, e2, e3⟩ | ⟨e1, e2, e3⟩ <;> rw [e1, e2, e3] <;> simp <;> omega
def mgT (a : Bool) (l : List UInt8) (f : Nat) : Nat := if a then rdV l f else 0
def mgL (a : Bool) (l : List UInt8) (f : Nat) : List UInt8 := if a then rdL l f else l
def mgF (a : Bool) (l : List UInt8) (f : Nat) : Nat := if a then rdF l f else f
def mgxT (a : Bool) (l : List UInt8) (f : Nat) : List UInt8 := if a then rtV l f 16 else []
def mgxL (a : Bool) (l : List UInt8) (f : Nat) : List UInt8 := if a then rtL l f 16 else l
def mgxF (a : Bool) (l : List UInt8) (f : Nat) : Nat := if a then rtF l f 16 else f
def mgWrit : List UInt8 → Bool × List UInt8
  | [] => (false, [])
  | x :: r => (x == 1, rtV r 0 24)
def ms0 : Ms := ⟨0, ⟨#[]⟩, 0, 0, false, ⟨#[]⟩⟩
/-- What the program guesses. -/
def mgGuessL (k : UInt8) (a b c : Bool) (r : List UInt8) : Ms :=
  let l1 := mgxL a r 0
  let f1 := mgxF a r 0
  let l2 := mgL b l1 f1
  let f2 := mgF b l1 f1
  let l3 := mgL c l2 f2
  ⟨k, if a then str (rtV r 0 16) else ⟨#[]⟩, mgT b l1 f1, mgT c l2 f2, if a then (mgWrit l3).1 else false, if a then str (mgWrit l3).2 else ⟨#[]⟩⟩
def mgGuess : List UInt8 → Ms
  | [] => ms0
  | k :: r => mgGuessL k (mgPair k.toNat) (mgTxn k.toNat) (mgTS k.toNat) r
theorem mgWrit_put (g : Bool) (v r : List UInt8) (h : v.length ≤ 24) : mgWrit (vsMark g :: (putText v ++ r)) = (g, v) := by
  simp only [mgWrit, (rt_put v r 24 h).1, mark_eq]
theorem mgGuess_put {m : Ms} (h : checkM m = 0) (R : List UInt8) : mgGuess (putM m ++ R) = m := by
  obtain ⟨c1, c2, c3, ⟨t1, t2⟩, ⟨s1, s2⟩, c4, c5⟩ := checkM_zero h
  obtain ⟨e1, e2, e3⟩ := mgStrays_not c2
  clear h c2 c3
  obtain ⟨kind, key, txn, ts, gone, val⟩ := m
  dsimp only at *
  obtain ⟨n, rfl⟩ := Int.eq_ofNat_of_zero_le t1
  obtain ⟨k, rfl⟩ := Int.eq_ofNat_of_zero_le s1
  have hn : n ≤ 1099511627776 := by omega
  have hm : k ≤ 1099511627776 := by omega
  unfold putM layM
  simp only [List.cons_append, mgGuess, Int.toNat_natCast, List.append_assoc]
  generalize mgTxn kind.toNat = b at *
  generalize mgTS kind.toNat = c at *
  generalize mgPair kind.toNat = a at *
  have p0 : ∀ R, (a = true → rtV ((if a = true then putText key.data.toList else []) ++ R) 0 16 = key.data.toList) ∧ mgxL a ((if a = true then putText key.data.toList else []) ++ R) 0 = R ∧ mgxF a ((if a = true then putText key.data.toList else []) ++ R) 0 = 0 := by
    intro R
    cases a with
    | false => simp [mgxL, mgxF]
    | true => have := rt_put key.data.toList R 16 (show key.data.toList.length ≤ 16 from c4); simpa [mgxL, mgxF] using this
  have p1 : ∀ R, mgT b ((if b = true then putSmall n else []) ++ R) 0 = n ∧ mgL b ((if b = true then putSmall n else []) ++ R) 0 = R ∧ mgF b ((if b = true then putSmall n else []) ++ R) 0 = 0 := by
    intro R
    cases b with
    | false => have := e1 rfl; simp [mgT, mgL, mgF]; omega
    | true => simpa [mgT, mgL, mgF] using rd_put n R hn
  have p2 : ∀ R, mgT c ((if c = true then putSmall k else []) ++ R) 0 = k ∧ mgL c ((if c = true then putSmall k else []) ++ R) 0 = R ∧ mgF c ((if c = true then putSmall k else []) ++ R) 0 = 0 := by
    intro R
    cases c with
    | false => have := e2 rfl; simp [mgT, mgL, mgF]; omega
    | true => simpa [mgT, mgL, mgF] using rd_put k R hm
  unfold mgGuessL
  obtain ⟨q0, q1, q2⟩ := p0 ((if b = true then putSmall n else []) ++ ((if c = true then putSmall k else []) ++ ((if a = true then vsMark gone :: putText val.data.toList else []) ++ R)))
  simp only [q1, q2]
  obtain ⟨r1, r2, r3⟩ := p1 ((if c = true then putSmall k else []) ++ ((if a = true then vsMark gone :: putText val.data.toList else []) ++ R))
  simp only [r1, r2, r3]
  obtain ⟨u1, u2, u3⟩ := p2 ((if a = true then vsMark gone :: putText val.data.toList else []) ++ R)
  simp only [u1, u2, u3]
  cases a with
  | false => obtain ⟨rfl, rfl, rfl⟩ := e3 rfl; simp
  | true =>
    simp only [if_true] at q0 ⊢
    rw [q0 trivial, List.cons_append, mgWrit_put _ _ _ (show val.data.toList.length ≤ 24 from c5), str_data', str_data']
/-- What Get tells of bytes. -/
def GetOfM (b : List UInt8) (m : Ms) (n e : Nat) : Prop := (checkM m = 0 ∧ (∃ R, b = putM m ++ R) ∧ n = (putM m).length ∧ e = 0) ∨ ((∀ x R, checkM x = 0 → b ≠ putM x ++ R) ∧ m = ms0 ∧ n = 0 ∧ e = 4)
theorem putM_one {x y : Ms} {R T : List UInt8} (hx : checkM x = 0) (hy : checkM y = 0) (h : putM x ++ R = putM y ++ T) : x = y := by
  have a := mgGuess_put hx R
  rw [h, mgGuess_put hy T] at a
  exact a.symm
theorem GetOfM.one {b : List UInt8} {m x : Ms} {n k e f : Nat} (h : GetOfM b m n e) (g : GetOfM b x k f) : m = x ∧ n = k ∧ e = f := by
  rcases h with ⟨h1, ⟨R, h2⟩, h3, h4⟩ | ⟨h1, h2, h3, h4⟩ <;> rcases g with ⟨g1, ⟨T, g2⟩, g3, g4⟩ | ⟨g1, g2, g3, g4⟩
  · obtain rfl := putM_one h1 g1 (h2.symm.trans g2)
    exact ⟨rfl, h3.trans g3.symm, h4.trans g4.symm⟩
  · exact (g1 _ _ h1 h2).elim
  · exact (h1 _ _ g1 g2).elim
  · exact ⟨h2.trans g2.symm, h3.trans g3.symm, h4.trans g4.symm⟩
theorem GetOfM.put {m : Ms} (h : checkM m = 0) {R : List UInt8} {x : Ms} {k e : Nat} (g : GetOfM (putM m ++ R) x k e) : x = m ∧ k = (putM m).length ∧ e = 0 := g.one (.inl ⟨h, ⟨R, rfl⟩, rfl, rfl⟩)
theorem GetOfM.cut {m : Ms} (h : checkM m = 0) {R : List UInt8} {x : Ms} {k e : Nat} (g : GetOfM ((putM m ++ R).take ((putM m).length - 1)) x k e) : e = 4 := by
  rcases g with ⟨g1, ⟨T, g2⟩, g3, g4⟩ | ⟨_, _, _, g4⟩
  · have h1 := (putM_len h).1
    have e1 : putM m ++ R = putM x ++ (T ++ (putM m ++ R).drop ((putM m).length - 1)) := by
      rw [← List.append_assoc, ← g2, List.take_append_drop]
    obtain rfl := putM_one h g1 e1
    have := congrArg List.length g2
    rw [List.length_take, List.length_append, List.length_append] at this
    omega
  · exact g4
/-- What is guessed of some of the bytes, laid anew, tells all. -/
theorem GetOfM.guess (b c : List UInt8) (g : Ms) (hg : ∀ x R, checkM x = 0 → b = putM x ++ R → g = x) (h : checkM g = 0 ∧ ∃ R, b = putM g ++ R) : GetOfM b g (putM g).length 0 := .inl ⟨h.1, h.2, rfl, rfl⟩
theorem GetOfM.no (b : List UInt8) (g : Ms) (hg : ∀ x R, checkM x = 0 → b = putM x ++ R → g = x) (h : ¬ (checkM g = 0 ∧ ∃ R, b = putM g ++ R)) : GetOfM b ms0 0 4 := .inr ⟨fun x R h1 h2 => by obtain rfl := hg x R h1 h2; exact h ⟨h1, R, h2⟩, rfl, rfl, rfl⟩
theorem mgGuess_of (b : List UInt8) : ∀ x R, checkM x = 0 → b = putM x ++ R → mgGuess (b.take 95) = x := fun x R h1 h2 => by
  have hl := (putM_len h1).2
  rw [h2, List.take_append, List.take_of_length_le hl]
  exact mgGuess_put h1 _
end Go.Proofs.Ytjmmaghjbaigiaa
