/- The package bitmap: sizes, words, what spills. -/
import Derived.Test.YtmmehomobmoapaaDoorQA
namespace Go.Proofs.YtmmehomobmoapaaDoor
open Go.RowKit
set_option linter.unusedVariables false
set_option linter.unusedSimpArgs false
theorem shr_nat (x k : Nat) : (x : Int) / 2 ^ k = ((x / 2 ^ k : Nat) : Int) := by simp
theorem bne_int (y : Nat) : ((y : Int) != 0) = decide (y ≠ 0) := by
  by_cases h : y = 0
  · subst h; rfl
  · rw [decide_eq_true h]; simp; omega
theorem tmod64 (s : Nat) : (s : Int).tmod 64 = ((s % 64 : Nat) : Int) := by rw [Int.tmod_eq_emod_of_nonneg (by omega)]; omega
theorem goodSize_any (s : Int) (w : World) : Calls Tryd.prog 39 #[.int .i64 s] w fun e w' => e = .returned (.bool (decide (0 ≤ s ∧ s ≤ 4096))) ∧ w = w' := by
  by_cases h0 : 0 ≤ s
  · by_cases h1 : s ≤ 4096
    · go_enter Tryd.func39, Tryd.ntmps39
      go_wp2
      go_ret
      exact ⟨by simp [h0, h1], rfl⟩
    · have h1' : decide (s ≤ 4096) = false := by simp; omega
      go_enter Tryd.func39, Tryd.ntmps39
      go_wp2
      go_ret
      exact ⟨by simp [h0, h1], rfl⟩
  · have h0' : decide (0 ≤ s) = false := by simp; omega
    go_enter Tryd.func39, Tryd.ntmps39
    go_wp2
    go_ret
    exact ⟨by simp [h0], rfl⟩
theorem wordsOf_any (s : Nat) (hs : s ≤ 4096) (w : World) : Calls Tryd.prog 40 #[.int .i64 (s : Int)] w fun e w' => e = .returned (.int .i64 (((s + 63) / 64 : Nat) : Int)) ∧ w = w' := by
  go_enter Tryd.func40, Tryd.ntmps40
  go_wp2
  go_ret
  exact ⟨congrArg (fun z => Ending.returned (Value.int .i64 z)) (show ((s : Int) + 64 - 1) / 64 = (((s + 63) / 64 : Nat) : Int) from by omega), rfl⟩
theorem below_any (s n : Int) (v : Value) (w : World) : Calls Tryd.prog 37 #[.agg #[.int .i64 s, v], .int .i64 n] w fun e w' => e = .returned (.bool (decide (0 ≤ n ∧ n < s))) ∧ Below w.heap.size w w' := by
  have B0 := Lib.hid ((Below.refl _ w).alloc (Nat.le_refl _) (.cells #[.int .i64 s, v] 27))
  by_cases h0 : 0 ≤ n
  · by_cases h1 : n < s
    · go_enter Tryd.func37, Tryd.ntmps37
      go_wp2
      go_ret
      exact ⟨by simp [h0, h1], B0.out⟩
    · have h1' : decide (n < s) = false := by simp; omega
      go_enter Tryd.func37, Tryd.ntmps37
      go_wp2
      go_ret
      exact ⟨by simp [h0, h1], B0.out⟩
  · have h0' : decide (0 ≤ n) = false := by simp; omega
    go_enter Tryd.func37, Tryd.ntmps37
    go_wp2
    go_ret
    exact ⟨by simp [h0], B0.out⟩
theorem spills_no (s : Nat) (v : Value) (w : World) (hu : s % 64 = 0) : Calls Tryd.prog 41 #[.agg #[.int .i64 (s : Int), v]] w fun e w' => e = .returned (.bool false) ∧ Below w.heap.size w w' := by
  have B0 := Lib.hid ((Below.refl _ w).alloc (Nat.le_refl _) (.cells #[.int .i64 (s : Int), v] 27))
  have hm : (s : Int).tmod 64 = 0 := by rw [tmod64]; omega
  go_enter Tryd.func41, Tryd.ntmps41
  go_wp2
  go_ret
  exact ⟨rfl, B0.out⟩
theorem spills_yes (s k n : Nat) (x : UInt64) (ad : Addr) (c : Nat) (w : World) (hs : s ≤ 4096) (hk : s % 64 = k) (hk0 : 0 < k) (hx : w.cell? (ad.add (n - 1)) = some (.int .u64 (x.toNat : Int))) (hn : 0 < n) (hn2 : n ≤ 64) : Calls Tryd.prog 41 #[.agg #[.int .i64 (s : Int), .slice (some ad) n c]] w fun e w' => e = .returned (.bool (decide (x.toNat / 2 ^ k ≠ 0))) ∧ Below w.heap.size w w' := by
  have B0 := Lib.hid ((Below.refl _ w).alloc (Nat.le_refl _) (.cells #[.int .i64 (s : Int), .slice (some ad) n c] 27))
  have hm : (s : Int).tmod 64 = (k : Int) := by rw [tmod64]; omega
  have hx' := (World.cell?_alloc_lt w (.cells #[.int .i64 (s : Int), .slice (some ad) n c] 27) _ (lt_of_cell hx)).trans hx
  have hk0' : (0 : Int) < (k : Int) := by omega
  go_enter Tryd.func41, Tryd.ntmps41
  go_wp2
  go_ret
  refine ⟨?_, B0.out⟩
  rw [shr_nat]
  exact congrArg (fun b => Ending.returned (.bool b)) (by rw [bne_int])
end Go.Proofs.YtmmehomobmoapaaDoor
