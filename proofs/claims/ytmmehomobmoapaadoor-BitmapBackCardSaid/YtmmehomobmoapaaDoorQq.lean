/- What BitmapBack leans on (plain): mixes of a map with itself, ranks of mixes, lengths. -/
import Derived.Test.YtmmehomobmoapaaDoorQo
import Derived.Test.YtmmehomobmoapaaDoorQg
namespace Go.Proofs.YtmmehomobmoapaaDoor
set_option linter.unusedVariables false
theorem mixL_bit {s : Nat} {all : Bool} {L M : List UInt64} (h1 : okB (s : Int) L = true) (h2 : okB (s : Int) M = true) (i : Nat) : bitL (mixL all (s : Int) (s : Int) L M) i = mixB all (bitL L i) (bitL M i) := by
  rw [← mixRef_is h1 h2, Nat.max_self]
  obtain ⟨m, e, hm, _, _⟩ := okB_nat h1
  rw [mixRef_bit (by omega) all L M i _ (Nat.le_refl _)]
  by_cases h : i < s
  · rw [decide_eq_true h, Bool.true_and]
  · rw [decide_eq_false h, Bool.false_and, bit_big h1 (by omega), bit_big h2 (by omega), mixB_ff]
theorem mixL_self_ok {s : Nat} {all : Bool} {L M : List UInt64} (h1 : okB (s : Int) L = true) (h2 : okB (s : Int) M = true) : okB (s : Int) (mixL all (s : Int) (s : Int) L M) = true ∧ mixS (s : Int) (s : Int) L M = (s : Int) := by
  have hok : mixOk (s : Int) (s : Int) L M = true := by unfold mixOk; rw [h1, h2]; rfl
  have hS : mixS (s : Int) (s : Int) L M = (s : Int) := by unfold mixS; rw [if_pos hok, Int.max_self]
  have := mixL_ok (all := all) hok
  rw [hS] at this
  exact ⟨this, hS⟩
theorem okB_len {s : Nat} {L : List UInt64} (h : okB (s : Int) L = true) : L.length = (s + 63) / 64 := by
  obtain ⟨m, e, _, hl, _⟩ := okB_nat h
  omega
theorem mix_back {s : Nat} {all : Bool} {L M : List UInt64} (h1 : okB (s : Int) L = true) (h2 : okB (s : Int) M = true) : mixL all (s : Int) (s : Int) (mixL (!all) (s : Int) (s : Int) L M) L = L := by
  have o1 := (mixL_self_ok (all := !all) h1 h2).1
  have o2 := (mixL_self_ok (all := all) o1 h1).1
  apply bit_ext
  · rw [okB_len o2, okB_len h1]
  · intro i _
    rw [mixL_bit o1 h1, mixL_bit h1 h2]
    cases all <;> cases bitL L i <;> cases bitL M i <;> rfl
theorem cnt_mix (p q : Nat → Bool) : ∀ n, cnt (fun i => p i || q i) n + cnt (fun i => p i && q i) n = cnt p n + cnt q n
  | 0 => rfl
  | n + 1 => by
    have h := cnt_mix p q n
    show (cnt (fun i => p i || q i) n + (p n || q n).toNat) + (cnt (fun i => p i && q i) n + (p n && q n).toNat) = (cnt p n + (p n).toNat) + (cnt q n + (q n).toNat)
    cases p n <;> cases q n <;> simp <;> omega
theorem rank_mix {s : Nat} {L M : List UInt64} (h1 : okB (s : Int) L = true) (h2 : okB (s : Int) M = true) : rankB (s : Int) (mixL false (s : Int) (s : Int) L M) (s : Int) + rankB (s : Int) (mixL true (s : Int) (s : Int) L M) (s : Int) = rankB (s : Int) L (s : Int) + rankB (s : Int) M (s : Int) := by
  have k : ∀ {X : List UInt64}, okB (s : Int) X = true → rankB (s : Int) X (s : Int) = cnt (bitL X) s := fun h => by
    unfold rankB
    rw [if_pos h, Int.toNat_natCast, Nat.min_self]
  rw [k (mixL_self_ok h1 h2).1, k (mixL_self_ok h1 h2).1, k h1, k h2]
  rw [cnt_congr s (fun i _ => mixL_bit (all := false) h1 h2 i), cnt_congr s (fun i _ => mixL_bit (all := true) h1 h2 i)]
  exact cnt_mix (bitL L) (bitL M) s
theorem rank_small (s : Int) (L : List UInt64) (n : Int) (h : n ≤ 255) : rankB s L n ≤ 255 := by
  unfold rankB
  split
  · have := cnt_le (bitL L) (min n.toNat s.toNat); omega
  · omega
theorem putB_len {s : Nat} (hs : s ≤ 255) (L : List UInt64) (ho : okB (s : Int) L = true) : 0 < (putB (s : Int) L).length ∧ (putB (s : Int) L).length ≤ 10000 := by
  unfold putB
  rw [if_pos ho, Int.toNat_natCast, List.length_append]
  have h1 := putSmall_size s
  have h2 := putSmall_len s (by omega)
  have h3 := layR_len (runs s L)
  have h4 : (runs s L).length ≤ 2 * s + 1 := runsF_len s L _ _ _
  omega
/-- What Get tells of the bytes, of these with two more, and of one less. -/
theorem back_gets {s : Nat} {L : List UInt64} (ho : okB (s : Int) L = true) : (getS (putB (s : Int) L) = s ∧ getL (putB (s : Int) L) = L ∧ getE (putB (s : Int) L) = 0) ∧ getE (putB (s : Int) L ++ [1, 1]) = 4 ∧ getE ((putB (s : Int) L).take ((putB (s : Int) L).length - 1)) = 4 := by
  have h0 := get_put ho []
  rw [List.append_nil, if_pos rfl] at h0
  have h1 := get_put ho [1, 1]
  rw [if_neg (by simp)] at h1
  refine ⟨getR_some h0, (getR_none h1).2.2, ?_⟩
  have hne : putB (s : Int) L ≠ [] := by
    intro e
    unfold putB at e
    rw [if_pos ho] at e
    simp [putSmall] at e
  obtain ⟨c, x, e⟩ : ∃ c x, putB (s : Int) L = c ++ [x] := ⟨_, _, (List.dropLast_concat_getLast hne).symm⟩
  have h2 := get_less ho e
  rw [e]
  have : (c ++ [x]).take ((c ++ [x]).length - 1) = c := by simp
  rw [this]
  exact (getR_none h2).2.2
end Go.Proofs.YtmmehomobmoapaaDoor
