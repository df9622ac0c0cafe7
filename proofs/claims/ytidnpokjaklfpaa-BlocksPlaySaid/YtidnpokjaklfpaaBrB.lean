/- The document's blocks: Sectors; the law's sameInts. -/
import Derived.Test.YtidnpokjaklfpaaBrA
import Derived.RegionTactic
import Derived.Deep.QuietTactic
import Derived.BigQuiet
namespace Go.Proofs.Ytidnpokjaklfpaa
open Go.RowKit
set_option linter.unusedVariables false
def from4 (X k : Nat) : List Nat := (List.range k).map (X + ·)
theorem from4_succ (X k : Nat) : from4 X (k + 1) = from4 X k ++ [X + k] := by simp [from4, List.range_succ]
theorem from4_len (X k : Nat) : (from4 X k).length = k := by simp [from4]
theorem Four.rn {w : World} {g X : Nat} (h : Four w g (X : Int) 4) : RN w (some ⟨g, 0, none⟩) (from4 X 4) := by
  refine .inr ⟨_, rfl, fun j k hj => ?_⟩
  have hj4 : j < 4 := by
    rcases Nat.lt_or_ge j 4 with h | h
    · exact h
    · rw [List.getElem?_eq_none (by rw [from4_len]; exact h)] at hj; cases hj
  have e : (⟨g, 0, none⟩ : Addr).add j = ⟨g, j, none⟩ := by cases j <;> simp [Addr.add]
  rw [e, h.cell j]
  match j, hj4 with
  | 0, _ => obtain rfl : X + 0 = k := by simpa [from4] using hj
            simp [four]
  | 1, _ => obtain rfl : X + 1 = k := by simpa [from4] using hj
            simp [four]
  | 2, _ => obtain rfl : X + 2 = k := by simpa [from4] using hj
            simp [four]
  | 3, _ => obtain rfl : X + 3 = k := by simpa [from4] using hj
            simp [four]
set_option maxHeartbeats 1000000 in
set_option maxRecDepth 100000 in
theorem refSectors_none (a : Ar) (n : Int) (w : World) (h : (a.may && a.has n) = false) : Calls Try.prog 32 #[a.v, .int .i64 n] w fun e w' => e = .returned (.slice none 0 0) ∧ Below w.heap.size w w' := by
  have K1 := Lib.hid (fun W => refMay_any a W)
  have HH := Lib.hid (show a.has n = decide (0 ≤ n ∧ n < a.count) from rfl)
  obtain ⟨p, q⟩ := a
  have HH : Hid (Ar.has ⟨p, q⟩ n = decide (0 ≤ n ∧ n < q)) := HH
  generalize Ar.may ⟨p, q⟩ = m1 at *
  generalize Ar.has ⟨p, q⟩ n = m2 at *
  show Calls Try.prog 32 #[.agg #[.int .i64 p, .int .i64 q], .int .i64 n] w _
  have K1 : Hid (∀ W, Calls Try.prog 54 #[.agg #[.int .i64 p, .int .i64 q]] W fun e w' => e = .returned (.bool m1) ∧ Below W.heap.size W w') := K1
  have hz := heap_size_alloc w (.cells #[.int .i64 p, .int .i64 q] 50)
  have hcase : (m1 = false) ∨ (m1 = true ∧ n < 0) ∨ (m1 = true ∧ 0 ≤ n ∧ q ≤ n) := by
    cases m1 with
    | false => exact .inl rfl
    | true =>
      have h2 : ¬ (0 ≤ n ∧ n < q) := by
        intro h'
        rw [HH.out, decide_eq_true h'] at h
        cases h
      by_cases h1 : n < 0
      · exact .inr (.inl ⟨rfl, h1⟩)
      · exact .inr (.inr ⟨rfl, by omega, by omega⟩)
  clear h HH
  rcases hcase with rfl | ⟨rfl, h1⟩ | ⟨rfl, h1, h2⟩
  all_goals
    go_enter Try.func32, Try.ntmps32
    go_wp2_with fail
    refine (K1.out _).mono ?_
    rintro e w1 ⟨rfl, b1⟩
    have B1 := Lib.hid (((Below.refl _ w).alloc (Nat.le_refl _) _).trans (b1.mono (by omega)))
    have hh : w1.heap[w.heap.size]? = some (.cells #[.int .i64 p, .int .i64 q] 50 (0, 0)) := (b1.block _ (by omega)).trans (heap_alloc_last w _)
    have x1 : w1.cell? ⟨w.heap.size, 1, none⟩ = some (.int .i64 q) := (cell_of_row w1 _ 1 _ _ _ hh).trans rfl
    clear b1 hh
    go_wp2
    go_ret
    exact ⟨rfl, B1.out⟩
set_option maxHeartbeats 1000000 in
set_option maxRecDepth 100000 in
theorem refSectors_some (a : Ar) (n : Int) (X : Nat) (w : World) (h1 : a.may = true) (h2 : a.has n = true) (hX : a.first + 4 * n = (X : Int)) : Calls Try.prog 32 #[a.v, .int .i64 n] w fun e w' => ∃ v, e = .returned v ∧ w'.ownsRow (w.heap.size + 1) 3 1 v (from4 X 4).length (rowN (from4 X 4)) ∧ Below w.heap.size w w' := by
  obtain ⟨i0, hi, hz0, hz1, hz2⟩ := info_parts Try.infoInt
  have hi := Lib.hid hi; have hz0 := Lib.hid hz0; have hz1 := Lib.hid hz1; have hz2 := Lib.hid hz2
  have K1 := Lib.hid (fun W => refMay_any a W)
  rw [h1] at K1
  obtain ⟨p, q⟩ := a
  obtain ⟨p0, p1, q0, q1⟩ : 0 ≤ p ∧ p ≤ 4096 ∧ 0 ≤ q ∧ q ≤ 512 := of_decide_eq_true h1
  obtain ⟨n0, n1⟩ : 0 ≤ n ∧ n < q := of_decide_eq_true h2
  have n2 : n ≤ 511 := by omega
  have hX : p + 4 * n = (X : Int) := hX
  clear h1 h2
  show Calls Try.prog 32 #[.agg #[.int .i64 p, .int .i64 q], .int .i64 n] w _
  have K1 : Hid (∀ W, Calls Try.prog 54 #[.agg #[.int .i64 p, .int .i64 q]] W fun e w' => e = .returned (.bool true) ∧ Below W.heap.size W w') := K1
  have hz := heap_size_alloc w (.cells #[.int .i64 p, .int .i64 q] 50)
  have HX := Lib.hid hX
  clear hX
  go_enter Try.func32, Try.ntmps32
  go_wp2_with fail
  refine (K1.out _).mono ?_
  rintro e w1 ⟨rfl, b1⟩
  have ST : GrowI w (.cells #[.int .i64 p, .int .i64 q] 50 (0, 0)) [] (.slice none 0 0) w1 :=
    ⟨World.ownsRow_nil _ _ _ _, (b1.block _ (by omega)).trans (heap_alloc_last w _), ((Below.refl _ w).alloc (Nat.le_refl _) _).trans (b1.mono (by omega))⟩
  have x0 : w1.cell? ⟨w.heap.size, 0, none⟩ = some (.int .i64 p) := (cell_of_row w1 _ 0 _ _ _ ST.b0).trans rfl
  have x1 : w1.cell? ⟨w.heap.size, 1, none⟩ = some (.int .i64 q) := (cell_of_row w1 _ 1 _ _ _ ST.b0).trans rfl
  have ST := Lib.hid ST
  clear b1 K1
  go_wp2
  go_loopw [5, 6] (fun v i wr => ∃ k : Nat, k ≤ 4 ∧ i = .int .i64 (k : Int) ∧ GrowI w (.cells #[.int .i64 p, .int .i64 q] 50 (0, 0)) (from4 X k) v wr) (fun _ i _ => 4 - (RowKit.intOf i).toNat)
  case atStart => exact ⟨0, Nat.zero_le _, rfl, ST.out⟩
  case round =>
    obtain ⟨k, hk, rfl, st⟩ := hrel
    obtain ⟨A1, c1, rfl⟩ := st.form
    have y0 : wr.cell? ⟨w.heap.size, 0, none⟩ = some (.int .i64 p) := (cell_of_row wr _ 0 _ _ _ st.b0).trans rfl
    have STK := Lib.hid st
    have hw2 : w.heap.size < wr.heap.size := st.lt
    by_cases hlt : k < 4
    · have kk : (k : Int) < 4 := by omega
      have LB := Lib.hid (from4_len X k)
      have hxk : p + 4 * n + (k : Int) = ((X + k : Nat) : Int) := by have := HX.out; omega
      clear st
      go_wp2_with (at_builtin; refine wpList_append_own _ rfl (.tmp 24) (.tmp 32) 46 rfl (w.heap.size + 1) 3 i0 _ 1 8 Try.underlying46 hi.out hz0.out hz1.out hz2.out rfl (by omega) _ _ _ rfl (World.ownsRow.alloc STK.out.own _) ⟨wr.heap.size, 0, none⟩ 1 1 [.int .i64 ((X + k : Nat) : Int)] rfl ?qc1 ?qc2 ?qc3 ?qc4 ?qc5 ?qc6 ?_)
      case qc1 => rfl
      case qc2 =>
        intro j v hj
        match j, hj with
        | 0, hj =>
          obtain rfl : Value.int .i64 ((X + k : Nat) : Int) = v := by simpa using hj
          rw [Addr.add_nought]
          exact (cell_of_row _ _ 0 _ _ _ (heap_alloc_last wr _)).trans rfl
        | j + 1, hj => simp at hj
      case qc3 =>
        intro u hu
        simp only [List.mem_singleton] at hu
        subst hu
        rfl
      case qc4 =>
        have := LB.out
        simp only [maxLen]
        omega
      case qc5 =>
        have := LB.out
        omega
      case qc6 => rw [heap_size_alloc]; omega
      intro v' w3 hown hgrow hnil
      have ST3 := Lib.hid (STK.out.step _ (X + k) hown hgrow)
      clear hown hgrow hnil
      go_wp2
      go_roundw
      case rel =>
        refine ⟨k + 1, by omega, by go_num, ?_⟩
        rw [from4_succ]
        exact ST3.out
      case measure => simp [RowKit.intOf]; omega
    · obtain rfl : k = 4 := by omega
      clear st
      go_wp2
      go_ret
      exact ⟨_, rfl, STK.out.own, STK.out.below⟩
end Go.Proofs.Ytidnpokjaklfpaa
