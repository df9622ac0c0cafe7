/- What the document's Get reads, in plain words. -/
import Derived.Test.YtmmehomobmoapaaDoorQs
namespace Go.Proofs.YtmmehomobmoapaaDoor
set_option linter.unusedVariables false
/-- The document's loop: as long as there are bytes, no error, and the place is not above the size. -/
def refF (S : Nat) : Nat → List UInt8 → Nat → Nat → Bool → List UInt64 → List UInt64
  | 0, _, _, _, _, Lc => Lc
  | k + 1, l, f, n, on, Lc => if l ≠ [] ∧ f = 0 ∧ n ≤ S then refF S k (rdL l f) (rdF l f) (n + min (rdV l f) 4097) (!on) (if on = true then fillL Lc n (min (rdV l f) (S - n)) else Lc) else Lc
def refM (l : List UInt8) (f : Nat) : Nat := l.length + (if f = 0 then 1 else 0)
theorem refM_step {l : List UInt8} (hl : l ≠ []) : refM (rdL l 0) (rdF l 0) + 1 ≤ refM l 0 := by
  have h1 : 0 < l.length := by cases l with
    | nil => exact absurd rfl hl
    | cons => simp
  have h2 := rdL_len l 0
  unfold refM
  rw [if_pos rfl]
  by_cases h : rdF l 0 = 0
  · obtain ⟨_, e, _⟩ := rd_inv h
    rw [if_pos h]
    have e2 := congrArg List.length e
    rw [List.length_append, putSmall_size] at e2
    omega
  · rw [if_neg h]; omega
theorem set_put {S : Nat} {L : List UInt64} {n : Nat} (ho : okB (S : Int) L = true) (hn : n < S) : setL (S : Int) L (n : Int) true = putBit L n := by
  unfold setL setOk putBit
  rw [ho, decide_eq_true (show (0 : Int) ≤ (n : Int) ∧ (n : Int) < (S : Int) by omega)]
  rfl
theorem fill_ok {S : Nat} {L : List UInt64} (ho : okB (S : Int) L = true) (a : Nat) : ∀ k, a + k ≤ S → okB (S : Int) (fillL L a k) = true
  | 0, _ => ho
  | k + 1, h => by
    have ih := fill_ok ho a k (by omega)
    have e : fillL L a (k + 1) = setL (S : Int) (fillL L a k) ((a + k : Nat) : Int) true := (set_put ih (by omega)).symm
    rw [e]
    exact setL_ok ih
theorem fill_set {S : Nat} {L : List UInt64} (ho : okB (S : Int) L = true) (a k : Nat) (h : a + k < S) : setL (S : Int) (fillL L a k) ((a + k : Nat) : Int) true = fillL L a (k + 1) := set_put (fill_ok ho a k (by omega)) h
theorem refF_ok {S : Nat} : ∀ (k : Nat) (l : List UInt8) (f n : Nat) (on : Bool) (Lc : List UInt64), okB (S : Int) Lc = true → okB (S : Int) (refF S k l f n on Lc) = true
  | 0, _, _, _, _, _, h => h
  | k + 1, l, f, n, on, Lc, h => by
    rw [refF]
    split
    · rename_i hc
      apply refF_ok
      split
      · exact fill_ok h _ _ (by omega)
      · exact h
    · exact h
theorem ref_runs {s : Nat} {L : List UInt64} (hs : s ≤ 4096) (hl : L.length = (s + 63) / 64) (hc : ∀ i, s ≤ i → bitL L i = false) :
    ∀ (k f a : Nat) (on : Bool) (Lc : List UInt64), refM (layR (runsF s L f a on)) 0 ≤ k → runM s L a on ≤ f → a ≤ s → (a = 0 ∧ on = false ∨ (a < s → isOn L on a = true)) → Lc.length = L.length → (∀ i, bitL Lc i = (decide (i < a) && bitL L i)) →
      refF s k (layR (runsF s L f a on)) 0 a on Lc = L
  | 0, f, a, on, Lc, h1, _, _, _, _, _ => by unfold refM at h1; rw [if_pos rfl] at h1; omega
  | k + 1, f, a, on, Lc, h1, h2, h3, h4, h5, h6 => by
    by_cases hlt : a < s
    · have hm := runM_step (L := L) (on := on) hlt
      obtain ⟨f', rfl⟩ : ∃ f', f = f' + 1 := ⟨f - 1, by omega⟩
      have e1 := seekR_le (s := s) (a := a) L (!on)
      have e2 := seekR_ge (s := s) L (!on) h3
      have hmiss : ∀ i, a ≤ i → i < seekR s L a (!on) → bitL L i = on := fun i h7 h8 => isOn_off.1 (seekR_miss h3 h7 h8)
      have hhit : seekR s L a (!on) < s → isOn L (!on) (seekR s L a (!on)) = true := seekR_hit
      have e3 : layR (runsF s L (f' + 1) a on) = putSmall (seekR s L a (!on) - a) ++ layR (runsF s L f' (seekR s L a (!on)) (!on)) := by
        rw [runsF, if_pos hlt]
        show putSmall (min (seekR s L a (!on) - a) 4096) ++ layR (runsF s L f' (seekR s L a (!on)) (!on)) = _
        rw [show min (seekR s L a (!on) - a) 4096 = seekR s L a (!on) - a by omega]
      rw [e3] at h1 ⊢
      generalize seekR s L a (!on) = E at *
      obtain ⟨r1, r2, r3⟩ := rd_put (n := E - a) (by omega) (layR (runsF s L f' E (!on)))
      have hne : putSmall (E - a) ++ layR (runsF s L f' E (!on)) ≠ [] := by simp [putSmall]
      rw [refF, if_pos ⟨hne, rfl, h3⟩, r1, r2, r3, show min (E - a) 4097 = E - a by omega, show a + (E - a) = E by omega, show min (E - a) (s - a) = E - a by omega]
      apply ref_runs hs hl hc k f' E (!on)
      · unfold refM at h1 ⊢
        rw [if_pos rfl] at h1 ⊢
        rw [List.length_append, putSmall_size] at h1
        omega
      · omega
      · exact e1
      · exact .inr hhit
      · split
        · rw [fillL_len]; exact h5
        · exact h5
      · intro i
        cases on with
        | true =>
          rw [if_pos rfl, fillL_bit _ _ _ _ (by rw [h5, hl]; omega), h6]
          by_cases c1 : i < a
          · rw [decide_eq_true c1, decide_eq_false (by omega), decide_eq_true (by omega), Bool.or_false]
          · by_cases c2 : i < E
            · rw [decide_eq_false c1, decide_eq_true (by omega), decide_eq_true c2, hmiss i (by omega) c2]; rfl
            · rw [decide_eq_false c1, decide_eq_false (by omega), decide_eq_false c2]; rfl
        | false =>
          rw [if_neg (by simp), h6]
          by_cases c1 : i < a
          · rw [decide_eq_true c1, decide_eq_true (by omega)]
          · by_cases c2 : i < E
            · rw [decide_eq_false c1, decide_eq_true c2, hmiss i (by omega) c2]; rfl
            · rw [decide_eq_false c1, decide_eq_false c2]
    · obtain rfl : a = s := by omega
      have hr : runsF a L f a on = [] := runs_over
      have : Lc = L := bit_ext h5 fun i _ => by
        rw [h6]
        by_cases c : i < a
        · rw [decide_eq_true c, Bool.true_and]
        · rw [decide_eq_false c, Bool.false_and, hc i (by omega)]
      rw [hr, refF, if_neg (fun x => x.1 rfl)]
      exact this
def refS (b : List UInt8) : List UInt64 := refF (rdV b 0) (b.length + 1) (rdL b 0) (rdF b 0) 0 false (newL (rdV b 0 : Nat))
theorem refS_ok {b : List UInt8} (h : rdV b 0 ≤ 4096) : okB (rdV b 0 : Int) (refS b) = true := refF_ok _ _ _ _ _ _ (newL_ok h)
theorem ref_yes {b : List UInt8} (h : rdV b 0 ≤ 4096) (e : putB (rdV b 0 : Int) (refS b) = b) : getR b = some (rdV b 0, refS b) := by
  have h1 := get_put (refS_ok h) []
  rw [List.append_nil, if_pos rfl, e] at h1
  exact h1
theorem ref_no {b : List UInt8} (h : rdV b 0 ≤ 4096) (e : putB (rdV b 0 : Int) (refS b) ≠ b) : getR b = none := by
  cases hg : getR b with
  | none => rfl
  | some p =>
    exfalso
    obtain ⟨s, L⟩ := p
    obtain ⟨ho, hp⟩ := put_get hg
    obtain ⟨m, em, hm, hl, hcl⟩ := okB_nat ho
    obtain rfl : s = m := by omega
    apply e
    have hb : b = putSmall s ++ layR (runs s L) := by
      rw [← hp]
      unfold putB
      rw [if_pos ho, Int.toNat_natCast]
    obtain ⟨r1, r2, r3⟩ := rd_put (n := s) (by omega) (layR (runs s L))
    rw [← hb] at r1 r2 r3
    have : refS b = L := by
      unfold refS
      rw [r1, r2, r3]
      refine ref_runs hm hl (fun i hi => bit_big ho hi) _ _ 0 false _ ?_ (runM_start s L) (Nat.zero_le _) (.inl ⟨rfl, rfl⟩) (by rw [newL_len hm, hl]) (fun i => by rw [newL_bit, decide_eq_false (by omega)]; rfl)
      have e2 := congrArg List.length hb
      rw [List.length_append, putSmall_size] at e2
      unfold refM
      rw [if_pos rfl]
      show (layR (runs s L)).length + 1 ≤ b.length + 1
      omega
    rw [r1, this]
    exact hp
theorem ref_wide {b : List UInt8} (h : ¬rdV b 0 ≤ 4096) : getR b = none := by
  unfold getR
  rw [if_neg h]
end Go.Proofs.YtmmehomobmoapaaDoor
