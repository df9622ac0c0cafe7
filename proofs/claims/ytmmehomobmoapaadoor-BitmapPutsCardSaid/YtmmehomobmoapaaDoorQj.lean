/- The document's Both and Either. -/
import Derived.Test.YtmmehomobmoapaaDoorQi
namespace Go.Proofs.YtmmehomobmoapaaDoor
open Go.RowKit
set_option linter.unusedVariables false
set_option linter.unusedSimpArgs false
theorem word_ext {x y : UInt64} (h : ∀ i, i < 64 → x.toNat.testBit i = y.toNat.testBit i) : x = y := by
  apply UInt64.toNat_inj.1
  apply Nat.eq_of_testBit_eq
  intro i
  by_cases hi : i < 64
  · exact h i hi
  · have hp : (2 : Nat) ^ 64 ≤ 2 ^ i := Nat.pow_le_pow_right (by omega) (by omega)
    rw [Nat.testBit_lt_two_pow (Nat.lt_of_lt_of_le x.toNat_lt hp), Nat.testBit_lt_two_pow (Nat.lt_of_lt_of_le y.toNat_lt hp)]
theorem bit_ext {L M : List UInt64} (hl : L.length = M.length) (h : ∀ i, i < 64 * L.length → bitL L i = bitL M i) : L = M := by
  apply List.ext_getElem hl
  intro k h1 h2
  apply word_ext
  intro i hi
  have := h (64 * k + i) (by omega)
  rw [bitL_word (List.getElem?_eq_getElem h1) hi, bitL_word (List.getElem?_eq_getElem h2) hi] at this
  exact this
theorem has_bit {s n : Nat} {L : List UInt64} (ho : okB (s : Int) L = true) : hasB (s : Int) L (n : Int) = bitL L n := by
  obtain ⟨k, e, hk, hl, hc⟩ := okB_nat ho
  obtain rfl : s = k := by omega
  unfold hasB
  rw [ho, Bool.true_and, Int.toNat_natCast]
  by_cases h : n < s
  · rw [decide_eq_true (by omega), Bool.true_and]
  · rw [decide_eq_false (by omega), Bool.false_and]
    by_cases h2 : n < 64 * L.length
    · exact (hc n h2 (by omega)).symm
    · exact (bitL_out (by omega)).symm
theorem bit_big {s n : Nat} {L : List UInt64} (ho : okB (s : Int) L = true) (h : s ≤ n) : bitL L n = false := by
  obtain ⟨k, e, hk, hl, hc⟩ := okB_nat ho
  obtain rfl : s = k := by omega
  by_cases h2 : n < 64 * L.length
  · exact hc n h2 h
  · exact bitL_out (by omega)
/-- What the document mixes, number by number. -/
def mixRef (all : Bool) (S : Nat) (L M : List UInt64) : Nat → List UInt64
  | 0 => newL (S : Nat)
  | k + 1 => setL (S : Nat) (mixRef all S L M k) (k : Nat) (mixB all (bitL L k) (bitL M k))
theorem newL_ok' {s : Nat} (h : s ≤ 4096) : okB (s : Nat) (newL (s : Nat)) = true := newL_ok h
theorem mixRef_ok {S : Nat} (h : S ≤ 4096) (all : Bool) (L M : List UInt64) : ∀ k, okB (S : Nat) (mixRef all S L M k) = true
  | 0 => newL_ok h
  | k + 1 => setL_ok (mixRef_ok h all L M k)
theorem newL_len {s : Nat} (h : s ≤ 4096) : (newL (s : Nat)).length = (s + 63) / 64 := by
  obtain ⟨k, e, _, hl, _⟩ := okB_nat (newL_ok h)
  omega
theorem mixRef_len {S : Nat} (h : S ≤ 4096) (all : Bool) (L M : List UInt64) : ∀ k, (mixRef all S L M k).length = (S + 63) / 64
  | 0 => newL_len h
  | k + 1 => by rw [mixRef, setL_len, mixRef_len h]
theorem newL_bit {s i : Nat} : bitL (newL (s : Nat)) i = false := by
  unfold newL
  split
  · unfold bitL
    rw [List.getD_eq_getElem?_getD, List.getElem?_replicate]
    split <;> simp
  · exact bitL_out (by simp)
theorem mixRef_bit {S : Nat} (h : S ≤ 4096) (all : Bool) (L M : List UInt64) (i : Nat) : ∀ k, k ≤ S → bitL (mixRef all S L M k) i = (decide (i < k) && mixB all (bitL L i) (bitL M i))
  | 0, _ => by rw [mixRef, newL_bit, decide_eq_false (by omega)]; rfl
  | k + 1, hk => by
    have hs : setOk (S : Nat) (mixRef all S L M k) (k : Nat) = true := by
      unfold setOk
      rw [mixRef_ok h, decide_eq_true (by omega)]
      rfl
    rw [mixRef, setL_bit hs, Int.toNat_natCast, mixRef_bit h all L M i k (by omega)]
    by_cases e : i = k
    · subst e
      rw [if_pos rfl, decide_eq_true (by omega), Bool.true_and]
    · rw [if_neg e]
      congr 1
      rw [decide_eq_decide]
      omega
theorem mixRef_is {s t : Nat} {all : Bool} {L M : List UInt64} (ho : okB (s : Int) L = true) (hp : okB (t : Int) M = true) : mixRef all (max s t) L M (max s t) = mixL all (s : Int) (t : Int) L M := by
  have hok : mixOk (s : Int) (t : Int) L M = true := by unfold mixOk; rw [ho, hp]; rfl
  obtain ⟨a, ea, ha, _, _⟩ := okB_nat ho
  obtain ⟨b, eb, hb, _, _⟩ := okB_nat hp
  have hS : max s t ≤ 4096 := by omega
  have hmx : (max (s : Int) (t : Int)).toNat = max s t := by omega
  unfold mixL
  rw [if_pos hok, hmx]
  apply bit_ext
  · rw [mixRef_len hS, mixWs_len]
  · intro i hi
    rw [mixRef_len hS] at hi
    rw [mixRef_bit hS all L M i _ (Nat.le_refl _), mixWs_bit, decide_eq_true hi, Bool.true_and]
    by_cases h : i < max s t
    · rw [decide_eq_true h, Bool.true_and]
    · rw [decide_eq_false h, Bool.false_and, bit_big ho (by omega), bit_big hp (by omega), mixB_ff]
theorem RQ.setBox {W : World} {A : Option Addr} {L : List UInt64} {g : Nat} {S : Int} {v : Value} {t : TypeId} {Ax : Option Addr} {n c : Nat} (h : RQ W A L) (hg : W.heap[g]? = some (.cells #[.int .i64 S, .slice Ax n c] t (0, 0))) (a0 a1 : Value) : RQ ((W.setCell ⟨g, 0, none⟩ a0).setCell ⟨g, 1, none⟩ a1) A L := by
  rcases h with rfl | ⟨ad, rfl, hc⟩
  · exact .inl rfl
  · refine .inr ⟨ad, rfl, fun j x hx => ?_⟩
    have h1 := hc j x hx
    have hne : (ad.add j).block ≠ g := by
      intro e
      unfold World.cell? at h1
      rw [e, hg] at h1
      revert h1
      generalize (ad.add j) = p
      rcases p with ⟨b, off, r⟩
      intro h1
      match off, h1 with
      | 0, h1 => simp at h1
      | 1, h1 => simp at h1
      | k + 2, h1 => simp at h1
    have hw : ((W.setCell ⟨g, 0, none⟩ a0).setCell ⟨g, 1, none⟩ a1).heap[(ad.add j).block]? = W.heap[(ad.add j).block]? := by
      rw [heap_setCell_ne (fun e => hne e.symm), heap_setCell_ne (fun e => hne e.symm)]
    rw [cell_block hw]
    exact h1
end Go.Proofs.YtmmehomobmoapaaDoor
