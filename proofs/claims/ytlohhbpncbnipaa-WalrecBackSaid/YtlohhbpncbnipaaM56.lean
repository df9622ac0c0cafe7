/- Joined: WrP. -/
import Derived.Test.YtlohhbpncbnipaaM48
section
/- A byte more is no record; a record's bytes are few; unlike records have unlike bytes. -/
namespace Go.Proofs.Ytlohhbpncbnipaa
open Go.RowKit
set_option linter.unusedVariables false
set_option linter.unusedSimpArgs false
theorem writ_put_more (g : Bool) (v s : List UInt8) (h : v.length ≤ 24) : writ (wrMark g :: (putText v ++ s)) = (g, v) := by
  have e := (rt_put v s 24 h).1
  simp only [writ, e]
  cases g <;> rfl
theorem guess_put_more {r : Rec} (h : checkR r = 0) (z : List UInt8) : guessR (putR r ++ z) = r := by
  obtain ⟨c1, c2, c3, ⟨t1, t2⟩, ⟨s1, s2⟩, c4, c5⟩ := checkR_zero h
  obtain ⟨e1, e2, e3⟩ := strays_not c2
  clear h c2
  obtain ⟨kind, txn, ts, key, gone, val⟩ := r
  dsimp only at *
  obtain ⟨n, rfl⟩ := Int.eq_ofNat_of_zero_le t1
  obtain ⟨m, rfl⟩ := Int.eq_ofNat_of_zero_le s1
  have hn : n ≤ 1099511627776 := by omega
  have hm : m ≤ 1099511627776 := by omega
  have hk : (UInt8.ofNat kind).toNat = kind := by rw [ofNat_toNat]; omega
  unfold putR layR
  simp only [List.cons_append, guessR, hk, Int.toNat_natCast]
  generalize wrHasTxn kind = a at *
  generalize wrHasTS kind = b at *
  generalize wrHasPair kind = c at *
  have p1 : ∀ R, guT a ((if a = true then putSmall n else []) ++ R) 0 = n ∧ guL a ((if a = true then putSmall n else []) ++ R) 0 = R ∧ guF a ((if a = true then putSmall n else []) ++ R) 0 = 0 := by
    intro R
    cases a with
    | false => have := e1 rfl; simp [guT, guL, guF]; omega
    | true => simpa [guT, guL, guF] using rd_put n R hn
  have p2 : ∀ R, guT b ((if b = true then putSmall m else []) ++ R) 0 = m ∧ guL b ((if b = true then putSmall m else []) ++ R) 0 = R ∧ guF b ((if b = true then putSmall m else []) ++ R) 0 = 0 := by
    intro R
    cases b with
    | false => have := e2 rfl; simp [guT, guL, guF]; omega
    | true => simpa [guT, guL, guF] using rd_put m R hm
  unfold guessL
  simp only [List.nil_append, List.append_assoc]
  obtain ⟨q1, q2, q3⟩ := p1 ((if b = true then putSmall m else []) ++ ((if c = true then putText key.data.toList ++ wrMark gone :: putText val.data.toList else []) ++ z))
  rw [q1, q2, q3]
  obtain ⟨q1, q2, q3⟩ := p2 ((if c = true then putText key.data.toList ++ wrMark gone :: putText val.data.toList else []) ++ z)
  rw [q1, q2, q3]
  cases c with
  | false => obtain ⟨rfl, rfl, rfl⟩ := e3 rfl; simp
  | true =>
    simp only [if_true, List.append_assoc, List.cons_append]
    obtain ⟨q1, q2, q3⟩ := rt_put key.data.toList (wrMark gone :: (putText val.data.toList ++ z)) 16 (show key.data.toList.length ≤ 16 from c4)
    rw [q1, q2, writ_put_more _ _ _ (show val.data.toList.length ≤ 24 from c5), str_data, str_data]
theorem GetOf.more {r : Rec} (h : checkR r = 0) (x : UInt8) : GetOf (putR r ++ [x]) ⟨0, 0, 0, ⟨#[]⟩, false, ⟨#[]⟩⟩ 4 := by
  refine .inr ⟨fun y hy e => ?_, rfl, rfl⟩
  have a := guess_put hy
  rw [e, guess_put_more h] at a
  subst a
  have := congrArg List.length e
  simp at this
theorem putR_inj {a b : Rec} (ha : checkR a = 0) (hb : checkR b = 0) (h : putR a = putR b) : a = b := by
  have e := guess_put ha
  rw [h, guess_put hb] at e
  exact e.symm
theorem wid_le6 (n : Nat) (h : n ≤ 1099511627776) : wid n ≤ 6 := by
  rcases Nat.eq_zero_or_pos n with rfl | h0
  · have := txWidGe
    rcases Nat.lt_or_ge 6 (wid 0) with h1 | h1
    · exfalso
      have : wid 0 = 0 := by kernel_rfl
      omega
    · exact h1
  · have h2 := txWidGe n h0
    rcases Nat.lt_or_ge 6 (wid n) with h1 | h1
    · exfalso
      have : 256 ^ 6 ≤ 256 ^ (wid n - 1) := Nat.pow_le_pow_right (by omega) (by omega)
      have : (256 : Nat) ^ 6 = 281474976710656 := by decide
      omega
    · exact h1
theorem putR_len {r : Rec} (h : checkR r = 0) : (putR r).length ≤ 96 := by
  obtain ⟨c1, c2, c3, ⟨t1, t2⟩, ⟨s1, s2⟩, c4, c5⟩ := checkR_zero h
  have a1 : (putSmall r.txn.toNat).length ≤ 7 := by rw [txSmallLen]; have := wid_le6 r.txn.toNat (by omega); omega
  have a2 : (putSmall r.ts.toNat).length ≤ 7 := by rw [txSmallLen]; have := wid_le6 r.ts.toNat (by omega); omega
  have a3 := putText_ba r.key 16 c4
  have a4 := putText_ba r.val 24 c5
  rcases wr_kinds r.kind with ⟨h1, h2, h3⟩ | ⟨h1, h2, h3⟩ | ⟨h1, h2, h3⟩ | ⟨h1, h2, h3⟩ <;> simp only [putR, layR, h1, h2, h3] <;> simp <;> omega
end Go.Proofs.Ytlohhbpncbnipaa
end
