/- The package sector: what each sector has behind a loss of power (plain). -/
import Derived.Test.YtgnoodafaofkiaaScT
namespace Go.Proofs.Ytgnoodafaofkiaa
open Go.RowKit
set_option linter.unusedVariables false
theorem powerGo_out (wt : Nat → Option (List UInt8)) : ∀ (ns : List Nat) (p : List (List UInt8) × List UInt8) (i : Nat), i ∉ ns → (powerGo wt ns p).1.getD i [] = p.1.getD i []
  | [], p, i, _ => rfl
  | n :: ns, p, i, h => by
    show (powerGo wt ns _).1.getD i [] = _
    have hn : n ≠ i := fun e => h (by rw [e]; exact .head _)
    rw [powerGo_out wt ns _ i (fun hm => h (.tail _ hm))]
    show (p.1.set n _).getD i [] = _
    rw [List.getD_eq_getElem?_getD, List.getElem?_set_ne hn, ← List.getD_eq_getElem?_getD]
theorem powerGo_in (wt : Nat → Option (List UInt8)) : ∀ (ns : List Nat) (p : List (List UInt8) × List UInt8) (i : Nat), ns.Nodup → i ∈ ns → i < p.1.length → ∃ fs, (powerGo wt ns p).1.getD i [] = (fate1 (p.1.getD i []) ((wt i).getD []) fs).1
  | [], p, i, _, h, _ => by cases h
  | n :: ns, p, i, hnd, h, hi => by
    obtain ⟨hn, hnd'⟩ := List.nodup_cons.1 hnd
    by_cases e : i = n
    · subst e
      refine ⟨p.2, ?_⟩
      show (powerGo wt ns _).1.getD i [] = _
      rw [powerGo_out wt ns _ i hn]
      show (p.1.set i _).getD i [] = _
      rw [List.getD_eq_getElem?_getD, List.getElem?_set_self hi]
      rfl
    · have hm : i ∈ ns := by
        rcases List.mem_cons.1 h with h | h
        · exact absurd h e
        · exact h
      obtain ⟨fs, hfs⟩ := powerGo_in wt ns (p.1.set n (fate1 (p.1.getD n []) ((wt n).getD []) p.2).1, (fate1 (p.1.getD n []) ((wt n).getD []) p.2).2) i hnd' hm (by simpa using hi)
      refine ⟨fs, hfs.trans ?_⟩
      have : (p.1.set n (fate1 (p.1.getD n []) ((wt n).getD []) p.2).1).getD i [] = p.1.getD i [] := by
        rw [List.getD_eq_getElem?_getD, List.getElem?_set_ne (fun e' => e e'.symm), ← List.getD_eq_getElem?_getD]
      show (fate1 ((p.1.set n _).getD i []) _ fs).1 = _
      rw [this]
/-- What a sector may have: the new one's beginning, and the old one's end. -/
theorem fate1_part (old new fs : List UInt8) (ho : old.length = 256) (hn : new.length = 256) : ∃ t, t ≤ 256 ∧ (fate1 old new fs).1 = new.take t ++ old.drop t := by
  unfold fate1
  split
  · exact ⟨256, Nat.le_refl _, by rw [List.take_of_length_le (by omega), List.drop_of_length_le (by omega), List.append_nil]⟩
  · split
    · exact ⟨_, by have := (tk (tk fs).2).1.toNat_lt; omega, rfl⟩
    · exact ⟨0, by omega, by simp⟩
theorem keysOf_nodup (f : Nat → Option (List UInt8)) (N : Nat) : (keysOf f N).Nodup := (keysOf_sorted f N).imp fun {a b} h => Nat.ne_of_lt h
/-- A sector behind a loss of power. -/
theorem Dk.power_at {s : Dk} (h : s.Ok) (f : List UInt8) {i : Nat} (hi : i < s.rows.length) : ∃ t, t ≤ 256 ∧ (s.power f).at_ i = (s.at_ i).take t ++ (s.rows.getD i []).drop t := by
  have hat : (s.power f).at_ i = (powerGo s.wt s.waits (s.rows, f)).1.getD i [] := rfl
  have hrow : (s.rows.getD i []).length = 256 := by
    refine h.each _ ?_
    rw [List.getD_eq_getElem?_getD, List.getElem?_eq_getElem hi]
    exact List.getElem_mem hi
  rw [hat]
  cases hw : s.wt i with
  | none =>
    have hni : i ∉ s.waits := fun hm => by
      have := (mem_keysOf.1 hm).2
      rw [hw] at this
      cases this
    refine ⟨0, by omega, ?_⟩
    rw [powerGo_out _ _ _ _ hni]
    simp
  | some l =>
    have hin : i ∈ s.waits := mem_keysOf.2 ⟨hi, by rw [hw]; rfl⟩
    obtain ⟨fs, hfs⟩ := powerGo_in s.wt s.waits (s.rows, f) i (keysOf_nodup _ _) hin hi
    rw [hfs, hw]
    have hl := h.wlen i l hw
    obtain ⟨t, ht, e⟩ := fate1_part (s.rows.getD i []) l fs hrow hl
    refine ⟨t, ht, ?_⟩
    have : s.at_ i = l := by unfold Dk.at_; rw [hw]; rfl
    rw [this]
    exact e
/-- Bytes of which the first t are x and the others m. -/
theorem part_at {x m : UInt8} {t k : Nat} (ht : t ≤ 256) {y : List UInt8} (hy : y = (oneB x).take t ++ (oneB m).drop t) : (k < t → y[k]? = some x) ∧ (t ≤ k → k < 256 → y[k]? = some m) := by
  subst hy
  have hl : ((oneB x).take t).length = t := by rw [List.length_take, oneB_len]; omega
  constructor
  · intro hk
    rw [List.getElem?_append_left (by omega), List.getElem?_take, if_pos hk]
    unfold oneB
    rw [List.getElem?_replicate, if_pos (by omega)]
  · intro h1 h2
    rw [List.getElem?_append_right (by omega), hl, List.getElem?_drop]
    unfold oneB
    rw [List.getElem?_replicate, if_pos (by omega)]
end Go.Proofs.Ytgnoodafaofkiaa
