/- Stacks: whether one may be: a version's faults, and who may stand behind whom. -/
import Derived.Test.YtjmmaghjbaigiaaVsC
import Derived.Deep.CutBlock
namespace Go.Proofs.Ytjmmaghjbaigiaa
open Go.RowKit
set_option linter.unusedVariables false
set_option linter.unusedSimpArgs false
theorem vsIn_any (n : Int) (w : World) : Calls Try.prog 99 #[.int .i64 n] w fun e w' => e = .returned (.bool (vsIn n)) ∧ w = w' := by
  unfold vsIn
  by_cases h : 0 ≤ n
  · have HD := Lib.hid (decide_eq_true h)
    go_enter Try.func99, Try.ntmps99
    go_wp2
    go_ret
    rw [HD.out]
    exact ⟨rfl, rfl⟩
  · have HD := Lib.hid (decide_eq_false h)
    go_enter Try.func99, Try.ntmps99
    go_wp2
    go_ret
    rw [HD.out]
    exact ⟨rfl, rfl⟩
theorem ba_isEmpty (a : ByteArray) : a.toList.isEmpty = decide (a = ⟨#[]⟩) := by
  rw [Bool.eq_iff_iff, decide_eq_true_eq, List.isEmpty_iff, ByteArray.toList_eq]
  constructor
  · intro h
    cases a
    simpa using h
  · intro h
    rw [h]
set_option maxHeartbeats 2000000 in
theorem vsFault_any (v : Vn) (w : World) : Calls Try.prog 63 #[v.v] w fun e w' => e = .returned (.int .i64 (vsFault v : Int)) ∧ Below w.heap.size w w' := by
  have hb := Lib.hid (below1 w (.cells #[.int .i64 v.txn, .int .i64 v.ts, .bool v.gone, .string v.val] 66))
  have K1 := Lib.hid (fun (W : World) => vsIn_any v.txn W)
  have K2 := Lib.hid (fun (W : World) => vsIn_any v.ts W)
  have he := ba_isEmpty v.val
  unfold Vn.v vsFault
  obtain ⟨txn, ts, gone, val⟩ := v
  dsimp only at *
  by_cases h1 : 24 < val.size
  · rw [if_pos h1]
    have h1' : decide ((24 : Int) < (val.size : Int)) = true := by simp; omega
    go_enter Try.func63, Try.ntmps63
    go_wp2
    go_ret
    exact ⟨rfl, hb.out⟩
  · rw [if_neg h1]
    have h1' : decide ((24 : Int) < (val.size : Int)) = false := by simp; omega
    clear h1
    cases gone with
    | true =>
      by_cases h2 : val = ⟨#[]⟩
      · rw [if_neg (fun h => h.2 h2)]
        rw [decide_eq_true h2] at he
        generalize vsIn txn = d1 at K1 ⊢
        generalize vsIn ts = d2 at K2 ⊢
        clear h2
        cases d1 <;> cases d2
        all_goals
          go_enter Try.func63, Try.ntmps63
          go_wp2_with (first | (go_at_call 99; (with_reducible refine Calls.mono (K1.out _) ?_); rintro e w1 ⟨rfl, rfl⟩) | (go_at_call 99; (with_reducible refine Calls.mono (K2.out _) ?_); rintro e w1 ⟨rfl, rfl⟩) | fail)
          go_ret
          exact ⟨rfl, hb.out⟩
      · rw [if_pos ⟨rfl, h2⟩]
        rw [decide_eq_false h2] at he
        clear h2
        go_enter Try.func63, Try.ntmps63
        go_wp2
        go_ret
        exact ⟨rfl, hb.out⟩
    | false =>
      rw [if_neg (fun h => by cases h.1)]
      generalize vsIn txn = d1 at K1 ⊢
      generalize vsIn ts = d2 at K2 ⊢
      cases d1 <;> cases d2
      all_goals
        go_enter Try.func63, Try.ntmps63
        go_wp2_with (first | (go_at_call 99; (with_reducible refine Calls.mono (K1.out _) ?_); rintro e w1 ⟨rfl, rfl⟩) | (go_at_call 99; (with_reducible refine Calls.mono (K2.out _) ?_); rintro e w1 ⟨rfl, rfl⟩) | fail)
        go_ret
        exact ⟨rfl, hb.out⟩
set_option maxHeartbeats 2000000 in
theorem vsFol_any (a b : Vn) (w : World) : Calls Try.prog 100 #[a.v, b.v] w fun e w' => e = .returned (.bool (vsFol a b)) ∧ Below w.heap.size w w' := by
  have K1 := Lib.hid (fun (W : World) => vsPending_any a W)
  have K2 := Lib.hid (fun (W : World) => vsPending_any b W)
  have HB := Lib.hid (below2 w (.cells #[.int .i64 a.txn, .int .i64 a.ts, .bool a.gone, .string a.val] 66) (.cells #[.int .i64 b.txn, .int .i64 b.ts, .bool b.gone, .string b.val] 66))
  have AX := Lib.hid ((VnBox.new w a 66).alloc (.cells #[.int .i64 b.txn, .int .i64 b.ts, .bool b.gone, .string b.val] 66))
  have BX : Hid (VnBox ((w.alloc (.cells #[.int .i64 a.txn, .int .i64 a.ts, .bool a.gone, .string a.val] 66)).alloc (.cells #[.int .i64 b.txn, .int .i64 b.ts, .bool b.gone, .string b.val] 66)) (w.heap.size + 1) b) := Lib.hid (by
    have := VnBox.new (w.alloc (.cells #[.int .i64 a.txn, .int .i64 a.ts, .bool a.gone, .string a.val] 66)) b 66
    rw [heap_size_alloc] at this
    exact this)
  have hne : Hid ((a.txn != b.txn) = decide (a.txn ≠ b.txn)) := Lib.hid (by rw [Bool.eq_iff_iff]; simp)
  unfold Vn.v at *
  unfold vsFol
  by_cases h : b.ts = 0
  · rw [if_pos h]
    rw [decide_eq_true h] at K2
    clear h
    generalize decide (a.ts = 0) = d at K1 ⊢
    cases d
    all_goals
      go_enter Try.func100, Try.ntmps100
      go_upto_region 1 with fail
      generalize (w.alloc (.cells #[.int .i64 a.txn, .int .i64 a.ts, .bool a.gone, .string a.val] 66)).alloc (.cells #[.int .i64 b.txn, .int .i64 b.ts, .bool b.gone, .string b.val] 66) = W0 at *
      obtain ⟨x0, x1, x2, x3, _, _, _, _⟩ := BX.out
      go_wp2_with (first
        | (go_at_call 102; (with_reducible refine Calls.mono (K2.out _) ?_); rintro e w1 ⟨rfl, b1⟩; have HB := Lib.hid (HB.out.trans (b1.mono HB.out.size)); have AX := Lib.hid (AX.out.on b1); have BX := Lib.hid (BX.out.on b1); obtain ⟨x0, x1, x2, x3, _, _, _, _⟩ := AX.out; clear b1)
        | (go_at_call 102; (with_reducible refine Calls.mono (K1.out _) ?_); rintro e w1 ⟨rfl, b1⟩; have HB := Lib.hid (HB.out.trans (b1.mono HB.out.size)); have AX := Lib.hid (AX.out.on b1); have BX := Lib.hid (BX.out.on b1); have x0 := AX.out.c0; have y0 := BX.out.c0; clear b1)
        | fail)
      go_ret
      exact ⟨by simp [← hne.out], HB.out⟩
  · rw [if_neg h]
    rw [decide_eq_false h] at K2
    clear h
    generalize decide (a.ts = 0) = d at K1 ⊢
    cases d
    all_goals
      go_enter Try.func100, Try.ntmps100
      go_upto_region 1 with fail
      generalize (w.alloc (.cells #[.int .i64 a.txn, .int .i64 a.ts, .bool a.gone, .string a.val] 66)).alloc (.cells #[.int .i64 b.txn, .int .i64 b.ts, .bool b.gone, .string b.val] 66) = W0 at *
      obtain ⟨x0, x1, x2, x3, _, _, _, _⟩ := BX.out
      go_wp2_with (first
        | (go_at_call 102; (with_reducible refine Calls.mono (K2.out _) ?_); rintro e w1 ⟨rfl, b1⟩; have HB := Lib.hid (HB.out.trans (b1.mono HB.out.size)); have AX := Lib.hid (AX.out.on b1); have BX := Lib.hid (BX.out.on b1); obtain ⟨x0, x1, x2, x3, _, _, _, _⟩ := AX.out; clear b1)
        | (go_at_call 102; (with_reducible refine Calls.mono (K1.out _) ?_); rintro e w1 ⟨rfl, b1⟩; have HB := Lib.hid (HB.out.trans (b1.mono HB.out.size)); have AX := Lib.hid (AX.out.on b1); have BX := Lib.hid (BX.out.on b1); have x0 := AX.out.c1; have y0 := BX.out.c1; clear b1)
        | fail)
      go_ret
      exact ⟨by simp, HB.out⟩
end Go.Proofs.Ytjmmaghjbaigiaa
