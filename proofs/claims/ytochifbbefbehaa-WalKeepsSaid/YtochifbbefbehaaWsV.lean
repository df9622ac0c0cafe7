/- Records in sectors, plain: what a sector has at both its ends; a sector of another place is none. -/
import Derived.Test.YtochifbbefbehaaWsP
namespace Go.Proofs.Ytochifbbefbehaa
set_option linter.unusedVariables false
set_option linter.unusedSimpArgs false
theorem IsSec.head8 {b : List UInt8} {e a : Int} {L : List (List UInt8)} (h : IsSec b e a L) : b.take 8 = st (256 * e.toNat + a.toNat) := by
  obtain ⟨_, _, _, _, _, _, rfl⟩ := h
  unfold wsSec
  rw [List.take_append_of_le_length (by rw [st_len]; exact Nat.le_refl _), List.take_of_length_le (by rw [st_len]; exact Nat.le_refl _)]
theorem IsSec.tail8 {b : List UInt8} {e a : Int} {L : List (List UInt8)} (h : IsSec b e a L) : b.drop 248 = st (256 * e.toNat + a.toNat) := by
  obtain ⟨_, _, _, _, _, hz, rfl⟩ := h
  unfold wsSec
  rw [show ∀ (s r : List UInt8) (x : UInt8) (p q : List UInt8), s ++ x :: (p ++ (q ++ r)) = (s ++ x :: (p ++ q)) ++ r from fun s r x p q => by simp]
  rw [List.drop_append_of_le_length (by simp [st_len, wsPut_len]; omega), List.drop_of_length_le (by simp [st_len, wsPut_len]; omega), List.nil_append]
theorem wsSec_st (e a : Nat) (g : List (List UInt8)) : (wsSec e a g).take 8 = st (256 * e + a) := by
  unfold wsSec
  rw [List.take_append_of_le_length (by rw [st_len]; exact Nat.le_refl _), List.take_of_length_le (by rw [st_len]; exact Nat.le_refl _)]
theorem rd_other {b : List UInt8} {e a : Int} {m : Nat} (hb : b.take 8 = st m) (hm : m < 18446744073709551616) (hne : 1 ≤ e → 0 ≤ a → (256 * e + a ≠ (m : Int))) : rdP b e a = none := rdP_none fun L hL => by
  have h1 := hL.head8
  rw [hb] at h1
  obtain ⟨h2, h3, h4, h5, _⟩ := hL
  have := st_inj hm (by omega) h1
  exact hne h2 h4 (by omega)
end Go.Proofs.Ytochifbbefbehaa
