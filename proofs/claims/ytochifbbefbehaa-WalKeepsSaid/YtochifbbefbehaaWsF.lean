/- Records in sectors: two arrays of a sector held against one another. -/
import Derived.Test.YtochifbbefbehaaWsE
import Derived.ChangeKeysEq
namespace Go.Proofs.Ytochifbbefbehaa
open Go.RowKit
set_option linter.unusedVariables false
set_option linter.unusedSimpArgs false
theorem infoU8 : (Try.prog.info? 5).isSome = true := by kernel_rfl
theorem plainU8 : Try.prog.plainKey 5 = true := by kernel_rfl
theorem cellsU8 : Try.prog.cellsOf 5 = 1 := by kernel_rfl
theorem cellB_at {a : List UInt8} {i : Nat} {x : UInt8} (h : a[i]? = some x) : (cellsB a).toArray[i]? = some (.int .u8 (x.toNat : Int)) := by
  simp [cellsB, h, cellB]
theorem run_eqItemsB (d : Nat) (w : World) (a b : List UInt8) (is : List Nat) (h : ∀ i ∈ is, i < a.length ∧ i < b.length) :
    (Op.eqItems (d + 1) 5 1 (cellsB a).toArray (cellsB b).toArray is).run Try.prog w = .ok (is.all fun i => a[i]? == b[i]?) w := by
  induction is with
  | nil => simp [Op.eqItems]
  | cons i is ih =>
    obtain ⟨h1, h2⟩ := h i (by simp)
    obtain ⟨x, hx⟩ : ∃ x, a[i]? = some x := ⟨a[i], List.getElem?_eq_getElem _⟩
    obtain ⟨y, hy⟩ : ∃ y, b[i]? = some y := ⟨b[i], List.getElem?_eq_getElem _⟩
    have p1 := run_part_plain w plainU8 (off := i * 1) (by rw [Nat.mul_one]; exact cellB_at hx)
    have p2 := run_part_plain w plainU8 (off := i * 1) (by rw [Nat.mul_one]; exact cellB_at hy)
    simp only [Op.eqItems, Sem.run_bind, p1, p2, equalIn_u8, Result.andThen_ok, List.all_cons, hx, hy]
    have hq : ((x.toNat : Int) == (y.toNat : Int)) = (some x == some y) := by
      rw [Bool.eq_iff_iff]
      simp only [beq_iff_eq, Option.some.injEq, ← UInt8.toNat_inj]
      omega
    rw [hq]
    cases hxy : (some x == some y)
    · simp
    · simpa using ih fun j hj => h j (by simp [hj])
set_option maxRecDepth 100000 in
theorem run_equalC (d : Nat) (w : World) (a b : List UInt8) (ha : a.length = 256) (hb : b.length = 256) :
    (Op.equalIn (d + 2) 77 (wsSecV a) (wsSecV b)).run Try.prog w = .ok (decide (a = b)) w := by
  have hu := typeC
  rw [lenC, elemC] at hu
  obtain ⟨i, hi⟩ := Option.isSome_iff_exists.1 infoU8
  unfold wsSecV
  rw [run_equalIn_array w (d + 1) (cellsB a).toArray (cellsB b).toArray hu hi, cellsU8, run_eqItemsB d w a b _ (fun i hi => by have := List.mem_range.1 hi; omega)]
  congr 1
  rw [Bool.eq_iff_iff]
  simp only [List.all_eq_true, List.mem_range, beq_iff_eq, decide_eq_true_eq]
  constructor
  · intro h
    refine List.ext_getElem? fun i => ?_
    by_cases hi : i < 256
    · exact h i hi
    · rw [List.getElem?_eq_none (by omega), List.getElem?_eq_none (by omega)]
  · rintro rfl i hi
    rfl
/-- When a sector tells nothing. -/
theorem rd_len {b : List UInt8} {e a : Int} (h : b.length ≠ 256) : rdP b e a = none := rdP_none fun L hL => h hL.part.1
theorem rd_epoch {b : List UInt8} {e a : Int} (h : ¬ (1 ≤ e ∧ e ≤ 1099511627776)) : rdP b e a = none := rdP_none fun L hL => h ⟨hL.1, hL.2.1⟩
theorem rd_place {b : List UInt8} {e a : Int} (h : ¬ (0 ≤ a ∧ a < 256)) : rdP b e a = none := rdP_none fun L hL => h ⟨hL.2.2.1, hL.2.2.2.1⟩
theorem rd_texts {b : List UInt8} {e a : Nat} {L : List (List UInt8)} (he : 1 ≤ e ∧ e ≤ 1099511627776) (ha : a < 256) (ht : TextsOf b L) : rdP b e a = if L ≠ [] ∧ wsSec e a L = b then some L else none := by
  have key : ∀ M, IsSec b e a M → M = L := fun M hM => ht.2 M hM.2.2.2.2.2.1 hM.part.2.1 hM.part.2.2
  by_cases h : L ≠ [] ∧ wsSec e a L = b
  · rw [if_pos h]
    exact rdP_some ⟨by omega, by omega, by omega, by omega, h.1, ht.1, by rw [Int.toNat_natCast, Int.toNat_natCast]; exact h.2.symm⟩
  · rw [if_neg h]
    refine rdP_none fun M hM => h ?_
    obtain rfl := key M hM
    exact ⟨hM.2.2.2.2.1, by have := hM.2.2.2.2.2.2; rw [Int.toNat_natCast, Int.toNat_natCast] at this; exact this.symm⟩
end Go.Proofs.Ytochifbbefbehaa
