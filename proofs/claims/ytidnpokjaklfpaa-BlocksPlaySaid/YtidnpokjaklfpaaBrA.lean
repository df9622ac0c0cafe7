/- The document's blocks: may, Check, at, Sectors. -/
import Derived.Test.YtidnpokjaklfpaaBlS
import Derived.Test.YtidnpokjaklfpaaRfT
import Derived.Test.YtidnpokjaklfpaaCrD
import Derived.Test.YtidnpokjaklfpaaCrF
namespace Go.Proofs.Ytidnpokjaklfpaa
open Go.RowKit
set_option linter.unusedVariables false
set_option maxHeartbeats 1000000 in
set_option maxRecDepth 100000 in
theorem refMay_any (a : Ar) (w : World) : Calls Try.prog 54 #[a.v] w fun e w' => e = .returned (.bool a.may) ∧ Below w.heap.size w w' := by
  obtain ⟨p, q⟩ := a
  show Calls Try.prog 54 #[.agg #[.int .i64 p, .int .i64 q]] w _
  by_cases h1 : 0 ≤ p
  · by_cases h2 : p ≤ 4096
    · by_cases h3 : 0 ≤ q
      · by_cases h4 : q ≤ 512
        · rw [show Ar.may ⟨p, q⟩ = true from decide_eq_true ⟨h1, h2, h3, h4⟩]
          go_enter Try.func54, Try.ntmps54
          go_wp2
          go_ret
          exact ⟨rfl, (Below.refl _ _).alloc (Nat.le_refl _) _⟩
        · rw [show Ar.may ⟨p, q⟩ = false from decide_eq_false (fun h => h4 h.2.2.2)]
          go_enter Try.func54, Try.ntmps54
          go_wp2
          go_ret
          exact ⟨rfl, (Below.refl _ _).alloc (Nat.le_refl _) _⟩
      · rw [show Ar.may ⟨p, q⟩ = false from decide_eq_false (fun h => h3 h.2.2.1)]
        go_enter Try.func54, Try.ntmps54
        go_wp2
        go_ret
        exact ⟨rfl, (Below.refl _ _).alloc (Nat.le_refl _) _⟩
    · rw [show Ar.may ⟨p, q⟩ = false from decide_eq_false (fun h => h2 h.2.1)]
      go_enter Try.func54, Try.ntmps54
      go_wp2
      go_ret
      exact ⟨rfl, (Below.refl _ _).alloc (Nat.le_refl _) _⟩
  · rw [show Ar.may ⟨p, q⟩ = false from decide_eq_false (fun h => h1 h.1)]
    go_enter Try.func54, Try.ntmps54
    go_wp2
    go_ret
    exact ⟨rfl, (Below.refl _ _).alloc (Nat.le_refl _) _⟩
/-- Two boxes of unlike types, made one behind the other. -/
theorem two_boxes (w : World) (x y : Array Value) (t u : TypeId) : ((w.alloc (.cells x t)).alloc (.cells y u)).heap[w.heap.size]? = some (.cells x t (0, 0)) ∧ ((w.alloc (.cells x t)).alloc (.cells y u)).heap[w.heap.size + 1]? = some (.cells y u (0, 0)) ∧ Below w.heap.size w ((w.alloc (.cells x t)).alloc (.cells y u)) ∧ ((w.alloc (.cells x t)).alloc (.cells y u)).heap.size = w.heap.size + 2 := by
  have hz := heap_size_alloc w (.cells x t)
  have hz1 := heap_size_alloc (w.alloc (.cells x t)) (.cells y u)
  refine ⟨(Below.heap_alloc _ _ _ (by omega)).trans (heap_alloc_last w _), ?_, ((Below.refl _ w).alloc (Nat.le_refl _) _).alloc (by omega) _, by omega⟩
  have := heap_alloc_last (w.alloc (.cells x t)) (.cells y u)
  rw [hz] at this
  exact this
set_option maxHeartbeats 1000000 in
set_option maxRecDepth 100000 in
theorem refCheck_any (A : Option Addr) (c : Nat) (r : Rk) (a : Ar) (w : World) (hs : r.S.length ≤ 4096) : Calls Try.prog 26 #[rkV A c r, a.v] w fun e w' => e = .returned (.int .i64 (a.check r.S.length : Int)) ∧ Below w.heap.size w w' := by
  have K1 := Lib.hid (fun W => refMay_any a W)
  obtain ⟨p, q⟩ := a
  have HC := Lib.hid (show Ar.check ⟨p, q⟩ r.S.length = if Ar.may ⟨p, q⟩ = true ∧ p + 4 * q ≤ (r.S.length : Int) then 0 else 2 from rfl)
  have K1 : Hid (∀ W, Calls Try.prog 54 #[.agg #[.int .i64 p, .int .i64 q]] W fun e w' => e = .returned (.bool (Ar.may ⟨p, q⟩)) ∧ Below W.heap.size W w') := K1
  show Calls Try.prog 26 #[.agg #[.slice A r.S.length c, .bool r.off, .int .i64 r.calls, .int .i64 r.after, .bool r.done], .agg #[.int .i64 p, .int .i64 q]] w _
  have hN := hs
  generalize r.S.length = N at *
  have T0 := Lib.hid (two_boxes w #[.slice A N c, .bool r.off, .int .i64 r.calls, .int .i64 r.after, .bool r.done] #[.int .i64 p, .int .i64 q] 28 50)
  by_cases hm : Ar.may ⟨p, q⟩ = true
  · obtain ⟨p0, p1, q0, q1⟩ : 0 ≤ p ∧ p ≤ 4096 ∧ 0 ≤ q ∧ q ≤ 512 := of_decide_eq_true hm
    rw [hm] at K1 HC
    simp only [true_and] at HC
    generalize Ar.check ⟨p, q⟩ N = cc at *
    clear hm
    by_cases hc : p + 4 * q ≤ (N : Int)
    · rw [if_pos hc] at HC
      have hd : decide ((N : Int) < p + 4 * q) = false := by simp; omega
      clear hc
      go_enter Try.func26, Try.ntmps26
      go_wp2_with fail
      obtain ⟨t0, t1, t2, t3⟩ := T0.out
      refine (K1.out _).mono ?_
      rintro e w1 ⟨rfl, b1⟩
      have hb0 := (b1.block _ (by omega)).trans t0
      have hb1 := (b1.block _ (by omega)).trans t1
      have x0 : w1.cell? ⟨w.heap.size, 0, none⟩ = some (.slice A N c) := (cell_of_row w1 _ 0 _ _ _ hb0).trans rfl
      have y0 : w1.cell? ⟨w.heap.size + 1, 0, none⟩ = some (.int .i64 p) := (cell_of_row w1 _ 0 _ _ _ hb1).trans rfl
      have y1 : w1.cell? ⟨w.heap.size + 1, 1, none⟩ = some (.int .i64 q) := (cell_of_row w1 _ 1 _ _ _ hb1).trans rfl
      have B1 := Lib.hid (t2.trans (b1.mono (by omega)))
      clear b1 t0 t1 t2 t3 hb0 hb1 T0
      go_wp2
      go_ret
      exact ⟨by rw [HC.out]; rfl, B1.out⟩
    · rw [if_neg hc] at HC
      have hd : (N : Int) < p + 4 * q := by omega
      clear hc
      go_enter Try.func26, Try.ntmps26
      go_wp2_with fail
      obtain ⟨t0, t1, t2, t3⟩ := T0.out
      refine (K1.out _).mono ?_
      rintro e w1 ⟨rfl, b1⟩
      have hb0 := (b1.block _ (by omega)).trans t0
      have hb1 := (b1.block _ (by omega)).trans t1
      have x0 : w1.cell? ⟨w.heap.size, 0, none⟩ = some (.slice A N c) := (cell_of_row w1 _ 0 _ _ _ hb0).trans rfl
      have y0 : w1.cell? ⟨w.heap.size + 1, 0, none⟩ = some (.int .i64 p) := (cell_of_row w1 _ 0 _ _ _ hb1).trans rfl
      have y1 : w1.cell? ⟨w.heap.size + 1, 1, none⟩ = some (.int .i64 q) := (cell_of_row w1 _ 1 _ _ _ hb1).trans rfl
      have B1 := Lib.hid (t2.trans (b1.mono (by omega)))
      clear b1 t0 t1 t2 t3 hb0 hb1 T0
      go_wp2
      go_ret
      exact ⟨by rw [HC.out]; rfl, B1.out⟩
  · have hm : Ar.may ⟨p, q⟩ = false := by simpa using hm
    rw [hm] at K1 HC
    rw [if_neg (by simp)] at HC
    generalize Ar.check ⟨p, q⟩ N = cc at *
    clear hm
    go_enter Try.func26, Try.ntmps26
    go_wp2_with fail
    obtain ⟨t0, t1, t2, t3⟩ := T0.out
    refine (K1.out _).mono ?_
    rintro e w1 ⟨rfl, b1⟩
    have B1 := Lib.hid (t2.trans (b1.mono (by omega)))
    clear b1 t0 t1 t2 t3 T0
    go_wp2
    go_ret
    exact ⟨by rw [HC.out]; rfl, B1.out⟩
set_option maxHeartbeats 1000000 in
set_option maxRecDepth 100000 in
theorem refBat_any (A : Option Addr) (c : Nat) (r : Rk) (a : Ar) (n : Int) (w : World) (hs : r.S.length ≤ 4096) : Calls Try.prog 58 #[rkV A c r, a.v, .int .i64 n] w fun e w' => e = .returned (.int .i64 (a.fault r.S.length n : Int)) ∧ Below w.heap.size w w' := by
  have K1 := Lib.hid (fun W => refCheck_any A c r a W hs)
  have HC := Lib.hid (a.check_two r.S.length)
  have HF := Lib.hid (show a.fault r.S.length n = if a.check r.S.length = 0 then if a.has n = true then 0 else 9 else 2 from rfl)
  have HH := Lib.hid (show a.has n = decide (0 ≤ n ∧ n < a.count) from rfl)
  unfold rkV at *
  obtain ⟨p, q⟩ := a
  have HH : Hid (Ar.has ⟨p, q⟩ n = decide (0 ≤ n ∧ n < q)) := HH
  generalize Ar.fault ⟨p, q⟩ r.S.length n = ff at *
  generalize Ar.check ⟨p, q⟩ r.S.length = cc at *
  generalize Ar.has ⟨p, q⟩ n = hh at *
  have K1 : Hid (∀ W, Calls Try.prog 26 #[.agg #[.slice A r.S.length c, .bool r.off, .int .i64 r.calls, .int .i64 r.after, .bool r.done], .agg #[.int .i64 p, .int .i64 q]] W fun e w' => e = .returned (.int .i64 (cc : Int)) ∧ Below W.heap.size W w') := K1
  show Calls Try.prog 58 #[.agg #[.slice A r.S.length c, .bool r.off, .int .i64 r.calls, .int .i64 r.after, .bool r.done], .agg #[.int .i64 p, .int .i64 q], .int .i64 n] w _
  generalize r.S.length = N at *
  have T0 := Lib.hid (two_boxes w #[.slice A N c, .bool r.off, .int .i64 r.calls, .int .i64 r.after, .bool r.done] #[.int .i64 p, .int .i64 q] 28 50)
  have hcase : (cc = 2 ∧ ff = 2) ∨ (cc = 0 ∧ n < 0 ∧ ff = 9) ∨ (cc = 0 ∧ 0 ≤ n ∧ q ≤ n ∧ ff = 9) ∨ (cc = 0 ∧ 0 ≤ n ∧ n < q ∧ ff = 0) := by
    have hf := HF.out
    rw [HH.out] at hf
    rcases HC.out with e | e
    · rw [e, if_pos rfl] at hf
      by_cases h : 0 ≤ n ∧ n < q
      · rw [if_pos (decide_eq_true h)] at hf
        exact .inr (.inr (.inr ⟨e, h.1, h.2, hf⟩))
      · rw [if_neg (by simpa using h)] at hf
        by_cases h1 : n < 0
        · exact .inr (.inl ⟨e, h1, hf⟩)
        · exact .inr (.inr (.inl ⟨e, by omega, by omega, hf⟩))
    · rw [e] at hf
      exact .inl ⟨e, hf⟩
  clear hs HF HC HH
  rcases hcase with ⟨rfl, rfl⟩ | ⟨rfl, h1, rfl⟩ | ⟨rfl, h1, h2, rfl⟩ | ⟨rfl, h1, h2, rfl⟩
  all_goals
    go_enter Try.func58, Try.ntmps58
    go_wp2_with fail
    obtain ⟨t0, t1, t2, t3⟩ := T0.out
    refine (K1.out _).mono ?_
    rintro e w1 ⟨rfl, b1⟩
    have hb1 := (b1.block _ (by omega)).trans t1
    have y1 : w1.cell? ⟨w.heap.size + 1, 1, none⟩ = some (.int .i64 q) := (cell_of_row w1 _ 1 _ _ _ hb1).trans rfl
    have B1 := Lib.hid (t2.trans (b1.mono (by omega)))
    clear b1 t0 t1 t2 t3 hb1 T0
    go_wp2
    go_ret
    exact ⟨rfl, B1.out⟩
end Go.Proofs.Ytidnpokjaklfpaa
