/- The package bitmap, and the document's: Check and Has. -/
import Derived.Test.YtmmehomobmoapaaDoorQC
import Derived.Deep.WholeRow
import Derived.BigQuiet
namespace Go.Proofs.YtmmehomobmoapaaDoor
open Go.RowKit
set_option linter.unusedVariables false
set_option linter.unusedSimpArgs false
/-- Is the number n in the words? -/
def bitL (L : List UInt64) (n : Nat) : Bool := (L.getD (n / 64) 0).toNat.testBit (n % 64)
def fitB (s : Int) (len : Nat) : Bool := decide (0 ≤ s ∧ s ≤ 4096 ∧ (len : Int) = (s + 63) / 64)
def cleanB (s : Nat) (L : List UInt64) : Bool := decide (∀ n, n < 64 * L.length → s ≤ n → bitL L n = false)
def okB (s : Int) (L : List UInt64) : Bool := fitB s L.length && cleanB s.toNat L
def chk (s : Int) (L : List UInt64) : Nat := if okB s L = true then 0 else 4
def hasB (s : Int) (L : List UInt64) (n : Int) : Bool := okB s L && decide (0 ≤ n ∧ n < s) && bitL L n.toNat
theorem okB_nat {s : Int} {L : List UInt64} (h : okB s L = true) : ∃ k : Nat, s = (k : Int) ∧ k ≤ 4096 ∧ L.length = (k + 63) / 64 ∧ ∀ n, n < 64 * L.length → k ≤ n → bitL L n = false := by
  unfold okB fitB cleanB at h
  simp only [Bool.and_eq_true, decide_eq_true_eq] at h
  obtain ⟨⟨h0, h1, h2⟩, h3⟩ := h
  refine ⟨s.toNat, by omega, by omega, by omega, h3⟩
theorem bit_div (x k : Nat) : x.testBit k = decide (x / 2 ^ k % 2 = 1) := Nat.testBit_eq_decide_div_mod_eq
theorem high_zero {x k : Nat} : x / 2 ^ k = 0 ↔ ∀ i, k ≤ i → x.testBit i = false := by
  constructor
  · intro h i hi
    have : x < 2 ^ k := by
      rcases Nat.div_eq_zero_iff.1 h with h | h
      · exact absurd h (by have := Nat.two_pow_pos k; omega)
      · exact h
    exact Nat.testBit_lt_two_pow (Nat.lt_of_lt_of_le this (Nat.pow_le_pow_right (by omega) hi))
  · intro h
    apply Nat.eq_of_testBit_eq
    intro i
    rw [Nat.testBit_div_two_pow, h _ (by omega)]
    simp
theorem clean_spill {s : Nat} {L : List UInt64} {x : UInt64} (hl : L.length = (s + 63) / 64) (hk : 0 < s % 64) (hx : L[L.length - 1]? = some x) : cleanB s L = !decide (x.toNat / 2 ^ (s % 64) ≠ 0) := by
  have hb : ∀ n, n < 64 * L.length → s ≤ n → bitL L n = x.toNat.testBit (n % 64) := by
    intro n h1 h2
    unfold bitL
    have : n / 64 = L.length - 1 := by omega
    rw [this, List.getD_eq_getElem?_getD, hx]
    rfl
  unfold cleanB
  rw [← decide_not, decide_eq_decide, Classical.not_not, high_zero]
  constructor
  · intro h i hi
    by_cases h64 : i < 64
    · have := h (64 * (L.length - 1) + i) (by omega) (by omega)
      rw [hb _ (by omega) (by omega), show (64 * (L.length - 1) + i) % 64 = i by omega] at this
      exact this
    · exact Nat.testBit_lt_two_pow (Nat.lt_of_lt_of_le x.toNat_lt (Nat.pow_le_pow_right (by omega) (by omega)))
  · intro h n h1 h2
    rw [hb n h1 h2]
    exact h _ (by omega)
theorem clean_full {s : Nat} {L : List UInt64} (hl : L.length = (s + 63) / 64) (hk : s % 64 = 0) : cleanB s L = true := decide_eq_true fun n h1 h2 => by omega
theorem bdrewN {b : Nat} {w W : World} (h : Below b w W) (n : Nat) : Below b w (W.drewN n) := h.trans ⟨rfl, rfl, rfl, Nat.le_refl _, fun _ _ => rfl⟩
theorem flip_same {P : Program} {f : FuncId} {args : Array Value} {w : World} {r : Ending} (h : Calls P f args w fun e w' => e = r ∧ w = w') : Calls P f args w fun e w' => e = r ∧ w' = w :=
  h.mono fun _ _ h => ⟨h.1, h.2.symm⟩
theorem bx2 (w : World) (a b : Value) (t : TypeId) {W : World} (h : Below (w.alloc (.cells #[a, b] t)).heap.size (w.alloc (.cells #[a, b] t)) W) : W.cell? ⟨w.heap.size, 0, none⟩ = some a ∧ W.cell? ⟨w.heap.size, 1, none⟩ = some b := by
  have hx := heap_alloc_last w (.cells #[a, b] t)
  have hy := (h.block _ (Array.getElem?_eq_some_iff.1 hx).1).trans hx
  exact ⟨(cell_of_row W _ 0 _ _ _ hy).trans rfl, (cell_of_row W _ 1 _ _ _ hy).trans rfl⟩
theorem spills_any (s : Nat) (A : Option Addr) (c : Nat) (L : List UInt64) (w : World) (hs : s ≤ 4096) (hl : L.length = (s + 63) / 64) (hr : RQ w A L) : Calls Tryd.prog 41 #[.agg #[.int .i64 (s : Int), .slice A L.length c]] w fun e w' => e = .returned (.bool (!cleanB s L)) ∧ Below w.heap.size w w' := by
  by_cases hk : s % 64 = 0
  · rw [clean_full hl hk]
    exact spills_no s _ w hk
  · obtain ⟨ad, x, rfl, hx, hc⟩ := hr.at_ (k := L.length - 1) (by omega)
    rw [clean_spill hl (by omega) hx, Bool.not_not]
    exact spills_yes s _ L.length x ad c w hs rfl (by omega) hc (by omega) (by omega)
set_option maxRecDepth 100000 in
theorem check_any (s : Int) (A : Option Addr) (c : Nat) (L : List UInt64) (w : World) (hr : RQ w A L) : Calls Tryd.prog 16 #[.agg #[.int .i64 s, .slice A L.length c]] w fun e w' => e = .returned (.int .i64 (chk s L : Int)) ∧ Below w.heap.size w w' := by
  have HR := Lib.hid hr
  have BX := Lib.hid (fun W h => bx2 w (.int .i64 s) (.slice A L.length c) 27 (W := W) h)
  have B0 := Lib.hid ((Below.refl _ w).alloc (Nat.le_refl _) (.cells #[.int .i64 s, .slice A L.length c] 27))
  have BV : Hid (Below (w.alloc (.cells #[.int .i64 s, .slice A L.length c] 27)).heap.size (w.alloc (.cells #[.int .i64 s, .slice A L.length c] 27)) (w.alloc (.cells #[.int .i64 s, .slice A L.length c] 27)).drew) := Lib.hid (Below.refl _ _).drew
  have x0 := BX.out _ BV.out
  have KG := fun W => goodSize_any s W
  clear hr
  by_cases h0 : 0 ≤ s ∧ s ≤ 4096
  · rw [decide_eq_true h0] at KG
    have KG := Lib.hid KG
    obtain ⟨k, rfl⟩ := Int.eq_ofNat_of_zero_le h0.1
    have hk : k ≤ 4096 := by omega
    have KW := fun W => wordsOf_any k hk W
    obtain ⟨q, hq⟩ : ∃ q, q = (k + 63) / 64 := ⟨_, rfl⟩
    rw [← hq] at KW
    have KW := Lib.hid KW
    by_cases h1 : L.length = q
    · have KS := Lib.hid (fun W (hb : Below w.heap.size w W) => spills_any k A c L W hk (by omega) (HR.out.below hb))
      have HC : Hid (chk (k : Int) L = if (!cleanB k L) = true then 4 else 0) := Lib.hid (by
        unfold chk okB fitB
        rw [decide_eq_true ⟨h0.1, h0.2, by omega⟩, Bool.true_and, Int.toNat_natCast]
        cases cleanB k L <;> rfl)
      have d1 : ((L.length : Int) != (q : Int)) = false := by simp; omega
      generalize L.length = N at *
      generalize chk (k : Int) L = cc at *
      generalize (!cleanB k L) = bb at *
      clear h1 hq hk h0
      cases bb
      all_goals
        go_enter Tryd.func16, Tryd.ntmps16
        go_wp2
        generalize w.alloc (.cells #[.int .i64 (k : Int), .slice A N c] 27) = W0 at *
        go_region_held3 (fun W => W.cell? ⟨w.heap.size, 0, none⟩ = some (.int .i64 (k : Int)) ∧ W.cell? ⟨w.heap.size, 1, none⟩ = some (.slice A N c)) (first | with_reducible assumption | with_reducible exact x0 | with_reducible exact x2 | fail)
          (first
            | (go_at_call 39; refine (KG.out _).mono ?_; rintro e w1 ⟨rfl, rfl⟩)
            | (go_at_call 40; refine (KW.out _).mono ?_; rintro e w1 ⟨rfl, rfl⟩)
            | (go_at_call 41; refine (KS.out _ (B0.out.trans (BV.out.mono B0.out.size))).mono ?_; rintro e w2 ⟨rfl, b2⟩; have x2 := BX.out w2 (BV.out.trans b2); have B2 := Lib.hid (B0.out.trans ((BV.out.trans b2).mono B0.out.size)); clear b2)
            | fail)
        all_goals
          go_wp2
          go_ret
          rw [HC.out]
          exact ⟨rfl, B2.out⟩
    · have HC : Hid (chk (k : Int) L = 4) := Lib.hid (by
        unfold chk okB fitB
        rw [decide_eq_false (by omega)]
        rfl)
      have d1 : ((L.length : Int) != (q : Int)) = true := by simp; omega
      generalize L.length = N at *
      generalize chk (k : Int) L = cc at *
      clear h1 hq hk h0
      go_enter Tryd.func16, Tryd.ntmps16
      go_wp2
      generalize w.alloc (.cells #[.int .i64 (k : Int), .slice A N c] 27) = W0 at *
      have y0 : W0.cell? ⟨w.heap.size, 0, none⟩ = some (.int .i64 (k : Int)) := x0.1
      have y1 : W0.cell? ⟨w.heap.size, 1, none⟩ = some (.slice A N c) := x0.2
      go_quiet (first
        | (go_at_call 39; exact Calls.quiet_of_same (flip_same (KG.out _)))
        | (go_at_call 40; exact Calls.quiet_of_same (flip_same (KW.out _)))
        | fail)
      all_goals
        go_wp2
        go_ret
        rw [HC.out]
        exact ⟨rfl, bdrewN B0.out _⟩
  · rw [decide_eq_false h0] at KG
    have KG := Lib.hid KG
    have HC : Hid (chk s L = 4) := Lib.hid (by
      unfold chk okB fitB
      rw [decide_eq_false (by omega)]
      rfl)
    generalize L.length = N at *
    generalize chk s L = cc at *
    clear h0
    go_enter Tryd.func16, Tryd.ntmps16
    go_wp2
    generalize w.alloc (.cells #[.int .i64 s, .slice A N c] 27) = W0 at *
    have y0 : W0.cell? ⟨w.heap.size, 0, none⟩ = some (.int .i64 s) := x0.1
    have y1 : W0.cell? ⟨w.heap.size, 1, none⟩ = some (.slice A N c) := x0.2
    go_quiet (first
      | (go_at_call 39; exact Calls.quiet_of_same (flip_same (KG.out _)))
      | fail)
    all_goals
      go_wp2
      go_ret
      rw [HC.out]
      exact ⟨rfl, bdrewN B0.out _⟩
end Go.Proofs.YtmmehomobmoapaaDoor
