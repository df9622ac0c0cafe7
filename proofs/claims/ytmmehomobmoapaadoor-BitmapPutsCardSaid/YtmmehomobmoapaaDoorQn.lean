/- A map's bytes are read as the map, whatever stands behind; bytes that are read are the map's (plain). -/
import Derived.Test.YtmmehomobmoapaaDoorQm
import Derived.Test.YtmmehomobmoapaaDoorQj
namespace Go.Proofs.YtmmehomobmoapaaDoor
set_option linter.unusedVariables false
theorem isOn_bit {L : List UInt64} {on : Bool} {i : Nat} : isOn L on i = true ↔ bitL L i = on := by unfold isOn; simp
theorem isOn_off {L : List UInt64} {on : Bool} {i : Nat} : isOn L (!on) i = false ↔ bitL L i = on := by
  unfold isOn
  cases bitL L i <;> cases on <;> simp
/-- Reading the runs of L from a on makes L of what L has below a. -/
theorem get_runs {s : Nat} {L : List UInt64} (hs : s ≤ 4096) (hl : L.length = (s + 63) / 64) (hc : ∀ i, s ≤ i → bitL L i = false) (t : List UInt8) :
    ∀ (k f a : Nat) (on : Bool) (Lc : List UInt64), getM s a on ≤ k → runM s L a on ≤ f → a ≤ s → (a = 0 ∧ on = false ∨ (a < s → isOn L on a = true)) → Lc.length = L.length → (∀ i, bitL Lc i = (decide (i < a) && bitL L i)) →
      getF s k (layR (runsF s L f a on) ++ t) 0 a on Lc = some (L, t, 0)
  | 0, f, a, on, Lc, h1, _, _, _, _, _ => by unfold getM at h1; omega
  | k + 1, f, a, on, Lc, h1, h2, h3, h4, h5, h6 => by
    by_cases hlt : a < s
    · have hm := runM_step (L := L) (on := on) hlt
      obtain ⟨f', rfl⟩ : ∃ f', f = f' + 1 := ⟨f - 1, by omega⟩
      have e1 := seekR_le (s := s) (a := a) L (!on)
      have e2 := seekR_ge (s := s) L (!on) h3
      have hmiss : ∀ i, a ≤ i → i < seekR s L a (!on) → bitL L i = on := fun i h7 h8 => isOn_off.1 (seekR_miss h3 h7 h8)
      have hhit : seekR s L a (!on) < s → isOn L (!on) (seekR s L a (!on)) = true := seekR_hit
      rw [runsF, if_pos hlt]
      show getF s (k + 1) (putSmall (min (seekR s L a (!on) - a) 4096) ++ layR (runsF s L f' (seekR s L a (!on)) (!on)) ++ t) 0 a on Lc = _
      generalize seekR s L a (!on) = E at *
      have hd : min (E - a) 4096 = E - a := by omega
      rw [hd, List.append_assoc, getF, if_pos hlt]
      obtain ⟨r1, r2, r3⟩ := rd_put (n := E - a) (by omega) (layR (runsF s L f' E (!on)) ++ t)
      rw [r1, r2, r3]
      have hpos : ¬(a = 0 ∧ on = false) → 0 < E - a := by
        intro hf
        rcases h4 with h4 | h4
        · exact absurd h4 hf
        · have h9 := h4 hlt
          by_cases he : E = a
          · have := hhit (by omega)
            rw [he, isOn_not, h9] at this
            cases this
          · omega
      rw [if_neg (by
        rintro (h | ⟨h, h'⟩)
        · omega
        · have := hpos h'; omega)]
      rw [show a + (E - a) = E by omega]
      apply get_runs hs hl hc t k f' E (!on)
      · unfold getM at h1 ⊢
        by_cases hf : a = 0 ∧ on = false
        · rw [if_pos hf] at h1
          rw [if_neg (by rw [hf.2]; simp)]
          omega
        · rw [if_neg hf] at h1
          have := hpos hf
          rw [if_neg (by omega)]
          omega
      · omega
      · exact e1
      · exact .inr hhit
      · split
        · rw [fillL_len]; exact h5
        · exact h5
      · intro i
        cases on with
        | true =>
          rw [if_pos rfl, fillL_bit _ _ _ _ (by rw [h5, hl]; omega), h6]
          by_cases c1 : i < a
          · rw [decide_eq_true c1, decide_eq_false (by omega), decide_eq_true (by omega), Bool.or_false]
          · by_cases c2 : i < E
            · rw [decide_eq_false c1, decide_eq_true (by omega), decide_eq_true c2, hmiss i (by omega) c2]; rfl
            · rw [decide_eq_false c1, decide_eq_false (by omega), decide_eq_false c2]; rfl
        | false =>
          rw [if_neg (by simp), h6]
          by_cases c1 : i < a
          · rw [decide_eq_true c1, decide_eq_true (by omega)]
          · by_cases c2 : i < E
            · rw [decide_eq_false c1, decide_eq_true c2, hmiss i (by omega) c2]; rfl
            · rw [decide_eq_false c1, decide_eq_false c2]
    · obtain rfl : a = s := by omega
      have hr : runsF a L f a on = [] := by
        cases f with
        | zero => rfl
        | succ f => rw [runsF, if_neg hlt]
      rw [hr, getF, if_neg hlt]
      have : Lc = L := bit_ext h5 fun i _ => by
        rw [h6]
        by_cases c : i < a
        · rw [decide_eq_true c, Bool.true_and]
        · rw [decide_eq_false c, Bool.false_and, hc i (by omega)]
      rw [this]
      rfl
/-- A map's bytes, with others behind them. -/
theorem get_put {s : Nat} {L : List UInt64} (ho : okB (s : Int) L = true) (t : List UInt8) : getR (putB (s : Int) L ++ t) = if t = [] then some (s, L) else none := by
  obtain ⟨m, e, hm, hl, hc⟩ := okB_nat ho
  obtain rfl : s = m := by omega
  unfold putB
  rw [if_pos ho, Int.toNat_natCast, List.append_assoc]
  obtain ⟨r1, r2, r3⟩ := rd_put (n := s) (by omega) (layR (runs s L) ++ t)
  unfold getR
  rw [r1, r2, r3, if_pos hm]
  have h := get_runs hm hl (fun i hi => bit_big ho hi) t (s + 2) (2 * s + 1) 0 false (newL (s : Nat)) (by unfold getM; rw [if_pos ⟨rfl, rfl⟩]; omega) (runM_start s L) (Nat.zero_le _) (.inl ⟨rfl, rfl⟩) (by rw [newL_len hm, hl]) (fun i => by rw [newL_bit, decide_eq_false (by omega)]; rfl)
  rw [show runs s L = runsF s L (2 * s + 1) 0 false from rfl, h]
  show Option.map _ (if rdD t 0 = 0 then some L else none) = _
  unfold rdD
  rw [if_pos rfl]
  by_cases ht : t = []
  · rw [if_pos ht, if_pos rfl, if_pos ht]; rfl
  · rw [if_neg ht, if_neg (by omega), if_neg ht]; rfl
end Go.Proofs.YtmmehomobmoapaaDoor
