/- Joined: Qo Qq. -/
import Derived.Test.YtegjeijiekggdaaGreatDoorM24
import Derived.Test.YtegjeijiekggdaaGreatDoorM23
section
/- Bytes that are read as a map are its bytes (plain). -/
namespace Go.Proofs.YtegjeijiekggdaaGreatDoor
set_option linter.unusedVariables false
theorem rdD_zero {l : List UInt8} {f : Nat} (h : rdD l f = 0) : f = 0 ∧ l = [] := by
  unfold rdD at h
  by_cases hf : f = 0
  · rw [if_pos hf] at h
    by_cases hl : l = []
    · exact ⟨hf, hl⟩
    · rw [if_neg hl] at h; omega
  · rw [if_neg hf] at h; exact absurd h hf
theorem seekR_is {s a n : Nat} {L : List UInt64} {on : Bool} (ha : a < s) (hn : a + n ≤ s) (h1 : ∀ i, a ≤ i → i < a + n → bitL L i = on) (h2 : a + n < s → bitL L (a + n) = !on) : seekR s L a (!on) = a + n := by
  unfold seekR
  rw [if_pos ha]
  by_cases h : a + n < s
  · exact seek_hit (by omega) (by omega) (isOn_bit.2 (h2 h)) (fun i h3 h4 => isOn_off.2 (h1 i h3 h4))
  · rw [seek_none (fun i h3 h4 => isOn_off.2 (h1 i h3 (by omega)))]
    omega
theorem get_inv {s : Nat} (hs : s ≤ 4096) : ∀ (k : Nat) (l : List UInt8) (f a : Nat) (on : Bool) (Lc L' : List UInt64) (l' : List UInt8) (f' : Nat), getF s k l f a on Lc = some (L', l', f') → rdD l' f' = 0 → a ≤ s → Lc.length = (s + 63) / 64 → (∀ i, a ≤ i → bitL Lc i = false) →
    f = 0 ∧ L'.length = Lc.length ∧ (∀ i, i < a → bitL L' i = bitL Lc i) ∧ (∀ i, s ≤ i → bitL L' i = false) ∧ (a < s → ¬(a = 0 ∧ on = false) → bitL L' a = on) ∧ ∀ F, runM s L' a on ≤ F → l = layR (runsF s L' F a on)
  | 0, l, f, a, on, Lc, L', l', f', h, _, _, _, _ => by simp [getF] at h
  | k + 1, l, f, a, on, Lc, L', l', f', h, hd, ha, hl, hz => by
    rw [getF] at h
    by_cases hlt : a < s
    · rw [if_pos hlt] at h
      by_cases hbad : s - a < rdV l f ∨ (rdV l f = 0 ∧ ¬(a = 0 ∧ on = false))
      · rw [if_pos hbad] at h; cases h
      · rw [if_neg hbad] at h
        have hn : a + rdV l f ≤ s := by omega
        have hl2 : (if on = true then fillL Lc a (rdV l f) else Lc).length = (s + 63) / 64 := by
          split
          · rw [fillL_len]; exact hl
          · exact hl
        have hbits : ∀ i, bitL (if on = true then fillL Lc a (rdV l f) else Lc) i = (bitL Lc i || (on && decide (a ≤ i ∧ i < a + rdV l f))) := by
          intro i
          cases on with
          | true => rw [if_pos rfl, fillL_bit _ _ _ _ (by rw [hl]; omega), Bool.true_and]
          | false => rw [if_neg (by simp), Bool.false_and, Bool.or_false]
        obtain ⟨i1, i2, i3, i4, i5, i6⟩ := get_inv hs k _ _ _ _ _ _ _ _ h hd hn hl2 (fun i hi => by rw [hbits, hz i (by omega), decide_eq_false (by omega), Bool.and_false]; rfl)
        obtain ⟨j1, j2, j3⟩ := rd_inv i1
        have hmid : ∀ i, a ≤ i → i < a + rdV l f → bitL L' i = on := by
          intro i h1 h2
          rw [i3 i h2, hbits, hz i h1, decide_eq_true ⟨h1, h2⟩, Bool.and_true, Bool.false_or]
        refine ⟨j1, by rw [i2, hl2, hl], ?_, i4, ?_, ?_⟩
        · intro i hi
          rw [i3 i (by omega), hbits, decide_eq_false (by omega), Bool.and_false, Bool.or_false]
        · intro _ hf
          have h0 : rdV l f ≠ 0 := fun e => hbad (.inr ⟨e, hf⟩)
          exact hmid a (Nat.le_refl _) (by omega)
        · intro F hF
          have hE : seekR s L' a (!on) = a + rdV l f := seekR_is hlt hn hmid (fun h2 => i5 h2 (by
            rintro ⟨h3, h4⟩
            apply hbad
            refine .inr ⟨by omega, ?_⟩
            rintro ⟨_, h6⟩
            rw [h6] at h4
            cases h4))
          have hm := runM_step (L := L') (on := on) hlt
          rw [hE] at hm
          obtain ⟨F', rfl⟩ : ∃ F', F = F' + 1 := ⟨F - 1, by omega⟩
          have h7 := i6 F' (by omega)
          rw [runsF, if_pos hlt]
          show l = putSmall (min (seekR s L' a (!on) - a) 4096) ++ layR (runsF s L' F' (seekR s L' a (!on)) (!on))
          rw [hE, show min (a + rdV l f - a) 4096 = rdV l f by omega, ← h7]
          exact j2
    · rw [if_neg hlt] at h
      obtain ⟨rfl, rfl, rfl⟩ : Lc = L' ∧ l = l' ∧ f = f' := by simpa using h
      obtain ⟨d1, d2⟩ := rdD_zero hd
      refine ⟨d1, rfl, fun _ _ => rfl, fun i hi => hz i (by omega), fun h1 => absurd h1 hlt, fun F _ => ?_⟩
      rw [d2]
      cases F with
      | zero => rfl
      | succ F => rw [runsF, if_neg hlt]; rfl
/-- Bytes that are read are those of the map. -/
theorem put_get {b : List UInt8} {s : Nat} {L : List UInt64} (h : getR b = some (s, L)) : okB (s : Int) L = true ∧ putB (s : Int) L = b := by
  unfold getR at h
  by_cases hs : rdV b 0 ≤ 4096
  · rw [if_pos hs] at h
    cases hg : getF (rdV b 0) (rdV b 0 + 2) (rdL b 0) (rdF b 0) 0 false (newL (rdV b 0 : Nat)) with
    | none => rw [hg] at h; simp [getE2] at h
    | some p =>
      obtain ⟨L', l', f'⟩ := p
      rw [hg] at h
      have h' : Option.map (fun L => (rdV b 0, L)) (if rdD l' f' = 0 then some L' else none) = some (s, L) := h
      by_cases hd : rdD l' f' = 0
      · rw [if_pos hd] at h'
        obtain ⟨rfl, rfl⟩ : rdV b 0 = s ∧ L' = L := by simpa using h'
        obtain ⟨i1, i2, i3, i4, i5, i6⟩ := get_inv hs _ _ _ _ _ _ _ _ _ hg hd (Nat.zero_le _) (newL_len hs) (fun i _ => newL_bit)
        obtain ⟨_, j2, _⟩ := rd_inv i1
        have hok : okB (rdV b 0 : Int) L' = true := by
          unfold okB fitB cleanB
          rw [Bool.and_eq_true, decide_eq_true_eq, decide_eq_true_eq, Int.toNat_natCast, i2, newL_len hs]
          exact ⟨by omega, fun n _ h2 => i4 n h2⟩
        refine ⟨hok, ?_⟩
        unfold putB
        rw [if_pos hok, Int.toNat_natCast]
        have h7 := i6 (2 * rdV b 0 + 1) (runM_start _ _)
        rw [show runs (rdV b 0) L' = runsF (rdV b 0) L' (2 * rdV b 0 + 1) 0 false from rfl, ← h7]
        exact j2.symm
      · rw [if_neg hd] at h'; simp at h'
  · rw [if_neg hs] at h; cases h
/-- A byte less is no map's bytes. -/
theorem get_less {s : Nat} {L : List UInt64} (ho : okB (s : Int) L = true) {c : List UInt8} {x : UInt8} (h : putB (s : Int) L = c ++ [x]) : getR c = none := by
  cases hg : getR c with
  | none => rfl
  | some p =>
    obtain ⟨t, M⟩ := p
    obtain ⟨h1, h2⟩ := put_get hg
    have h3 := get_put h1 [x]
    rw [h2, ← h, if_neg (by simp)] at h3
    have h4 := get_put ho []
    rw [List.append_nil, if_pos rfl, h3] at h4
    cases h4
end Go.Proofs.YtegjeijiekggdaaGreatDoor
end
section
/- What BitmapBack leans on (plain): mixes of a map with itself, ranks of mixes, lengths. -/
namespace Go.Proofs.YtegjeijiekggdaaGreatDoor
set_option linter.unusedVariables false
theorem mixL_bit {s : Nat} {all : Bool} {L M : List UInt64} (h1 : okB (s : Int) L = true) (h2 : okB (s : Int) M = true) (i : Nat) : bitL (mixL all (s : Int) (s : Int) L M) i = mixB all (bitL L i) (bitL M i) := by
  rw [← mixRef_is h1 h2, Nat.max_self]
  obtain ⟨m, e, hm, _, _⟩ := okB_nat h1
  rw [mixRef_bit (by omega) all L M i _ (Nat.le_refl _)]
  by_cases h : i < s
  · rw [decide_eq_true h, Bool.true_and]
  · rw [decide_eq_false h, Bool.false_and, bit_big h1 (by omega), bit_big h2 (by omega), mixB_ff]
theorem mixL_self_ok {s : Nat} {all : Bool} {L M : List UInt64} (h1 : okB (s : Int) L = true) (h2 : okB (s : Int) M = true) : okB (s : Int) (mixL all (s : Int) (s : Int) L M) = true ∧ mixS (s : Int) (s : Int) L M = (s : Int) := by
  have hok : mixOk (s : Int) (s : Int) L M = true := by unfold mixOk; rw [h1, h2]; rfl
  have hS : mixS (s : Int) (s : Int) L M = (s : Int) := by unfold mixS; rw [if_pos hok, Int.max_self]
  have := mixL_ok (all := all) hok
  rw [hS] at this
  exact ⟨this, hS⟩
theorem okB_len {s : Nat} {L : List UInt64} (h : okB (s : Int) L = true) : L.length = (s + 63) / 64 := by
  obtain ⟨m, e, _, hl, _⟩ := okB_nat h
  omega
theorem mix_back {s : Nat} {all : Bool} {L M : List UInt64} (h1 : okB (s : Int) L = true) (h2 : okB (s : Int) M = true) : mixL all (s : Int) (s : Int) (mixL (!all) (s : Int) (s : Int) L M) L = L := by
  have o1 := (mixL_self_ok (all := !all) h1 h2).1
  have o2 := (mixL_self_ok (all := all) o1 h1).1
  apply bit_ext
  · rw [okB_len o2, okB_len h1]
  · intro i _
    rw [mixL_bit o1 h1, mixL_bit h1 h2]
    cases all <;> cases bitL L i <;> cases bitL M i <;> rfl
theorem cnt_mix (p q : Nat → Bool) : ∀ n, cnt (fun i => p i || q i) n + cnt (fun i => p i && q i) n = cnt p n + cnt q n
  | 0 => rfl
  | n + 1 => by
    have h := cnt_mix p q n
    show (cnt (fun i => p i || q i) n + (p n || q n).toNat) + (cnt (fun i => p i && q i) n + (p n && q n).toNat) = (cnt p n + (p n).toNat) + (cnt q n + (q n).toNat)
    cases p n <;> cases q n <;> simp <;> omega
theorem rank_mix {s : Nat} {L M : List UInt64} (h1 : okB (s : Int) L = true) (h2 : okB (s : Int) M = true) : rankB (s : Int) (mixL false (s : Int) (s : Int) L M) (s : Int) + rankB (s : Int) (mixL true (s : Int) (s : Int) L M) (s : Int) = rankB (s : Int) L (s : Int) + rankB (s : Int) M (s : Int) := by
  have k : ∀ {X : List UInt64}, okB (s : Int) X = true → rankB (s : Int) X (s : Int) = cnt (bitL X) s := fun h => by
    unfold rankB
    rw [if_pos h, Int.toNat_natCast, Nat.min_self]
  rw [k (mixL_self_ok h1 h2).1, k (mixL_self_ok h1 h2).1, k h1, k h2]
  rw [cnt_congr s (fun i _ => mixL_bit (all := false) h1 h2 i), cnt_congr s (fun i _ => mixL_bit (all := true) h1 h2 i)]
  exact cnt_mix (bitL L) (bitL M) s
theorem rank_small (s : Int) (L : List UInt64) (n : Int) (h : n ≤ 255) : rankB s L n ≤ 255 := by
  unfold rankB
  split
  · have := cnt_le (bitL L) (min n.toNat s.toNat); omega
  · omega
theorem putB_len {s : Nat} (hs : s ≤ 255) (L : List UInt64) (ho : okB (s : Int) L = true) : 0 < (putB (s : Int) L).length ∧ (putB (s : Int) L).length ≤ 10000 := by
  unfold putB
  rw [if_pos ho, Int.toNat_natCast, List.length_append]
  have h1 := putSmall_size s
  have h2 := putSmall_len s (by omega)
  have h3 := layR_len (runs s L)
  have h4 : (runs s L).length ≤ 2 * s + 1 := runsF_len s L _ _ _
  omega
/-- What Get tells of the bytes, of these with two more, and of one less. -/
theorem back_gets {s : Nat} {L : List UInt64} (ho : okB (s : Int) L = true) : (getS (putB (s : Int) L) = s ∧ getL (putB (s : Int) L) = L ∧ getE (putB (s : Int) L) = 0) ∧ getE (putB (s : Int) L ++ [1, 1]) = 4 ∧ getE ((putB (s : Int) L).take ((putB (s : Int) L).length - 1)) = 4 := by
  have h0 := get_put ho []
  rw [List.append_nil, if_pos rfl] at h0
  have h1 := get_put ho [1, 1]
  rw [if_neg (by simp)] at h1
  refine ⟨getR_some h0, (getR_none h1).2.2, ?_⟩
  have hne : putB (s : Int) L ≠ [] := by
    intro e
    unfold putB at e
    rw [if_pos ho] at e
    simp [putSmall] at e
  obtain ⟨c, x, e⟩ : ∃ c x, putB (s : Int) L = c ++ [x] := ⟨_, _, (List.dropLast_concat_getLast hne).symm⟩
  have h2 := get_less ho e
  rw [e]
  have : (c ++ [x]).take ((c ++ [x]).length - 1) = c := by simp
  rw [this]
  exact (getR_none h2).2.2
end Go.Proofs.YtegjeijiekggdaaGreatDoor
end
