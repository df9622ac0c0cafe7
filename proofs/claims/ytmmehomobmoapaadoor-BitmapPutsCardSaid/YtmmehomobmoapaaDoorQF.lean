/- The document's Check and Has. -/
import Derived.Test.YtmmehomobmoapaaDoorQE
namespace Go.Proofs.YtmmehomobmoapaaDoor
open Go.RowKit
set_option linter.unusedVariables false
set_option linter.unusedSimpArgs false
set_option maxHeartbeats 1000000 in
set_option maxRecDepth 100000 in
theorem refCheck_any (s : Int) (A : Option Addr) (c : Nat) (L : List UInt64) (w : World) (hr : RQ w A L) : Calls Tryd.prog 17 #[.agg #[.int .i64 s, .slice A L.length c]] w fun e w' => e = .returned (.int .i64 (chk s L : Int)) ∧ Below w.heap.size w w' := by
  have HR := Lib.hid hr
  have BX := Lib.hid (fun W h => bx2 w (.int .i64 s) (.slice A L.length c) 24 (W := W) h)
  have B0 := Lib.hid ((Below.refl _ w).alloc (Nat.le_refl _) (.cells #[.int .i64 s, .slice A L.length c] 24))
  have x0 := BX.out _ (Below.refl _ _)
  clear hr
  by_cases h0 : 0 ≤ s
  · obtain ⟨k, rfl⟩ := Int.eq_ofNat_of_zero_le h0
    have d0 : decide ((k : Int) < 0) = false := by simp
    by_cases h1 : k ≤ 4096
    · have d1 : decide ((4096 : Int) < (k : Int)) = false := by simp; omega
      have KW := fun W => refWords_any k h1 W
      obtain ⟨q, hq⟩ : ∃ q, q = (k + 63) / 64 := ⟨_, rfl⟩
      rw [← hq] at KW
      have KW := Lib.hid KW
      by_cases h2 : L.length = q
      · have d2 : ((L.length : Int) != (q : Int)) = false := by simp; omega
        have hN : L.length ≤ 64 := by omega
        have HC : Hid (chk (k : Int) L = if cleanB k L = true then 0 else 4) := Lib.hid (by
          unfold chk okB fitB
          rw [decide_eq_true ⟨h0, by omega, by omega⟩, Bool.true_and, Int.toNat_natCast])
        have KB := Lib.hid (fun (j : Nat) W (hj : j < 64 * L.length) (hb : Below w.heap.size w W) => refBit_any (k : Int) A c L j W hj hN (HR.out.below hb))
        have HY := Lib.hid (show (∀ j, j < 64 * L.length → k ≤ j → bitL L j = false) → cleanB k L = true from fun h => decide_eq_true h)
        have HX := Lib.hid (show ∀ j, j < 64 * L.length → k ≤ j → bitL L j = true → cleanB k L = false from fun j h1 h2 h3 => decide_eq_false fun h => by rw [h j h1 h2] at h3; cases h3)
        have hkN : k ≤ 64 * L.length := by omega
        generalize chk (k : Int) L = cc at *
        generalize L.length = N at *
        clear h2 hq h0 h1
        go_enter Tryd.func17, Tryd.ntmps17
        go_wp2
        generalize w.alloc (.cells #[.int .i64 (k : Int), .slice A N c] 24) = W0 at *
        have y0 : W0.cell? ⟨w.heap.size, 0, none⟩ = some (.int .i64 (k : Int)) := x0.1
        have y1 : W0.cell? ⟨w.heap.size, 1, none⟩ = some (.slice A N c) := x0.2
        go_quiet (first
          | (go_at_call 42; exact Calls.quiet_of_same (flip_same (KW.out _)))
          | fail)
        have B1 := Lib.hid (bdrewN B0.out nq)
        have X1 : Hid (∀ W, Below (W0.drewN nq).heap.size (W0.drewN nq) W → W.cell? ⟨w.heap.size, 0, none⟩ = some (.int .i64 (k : Int)) ∧ W.cell? ⟨w.heap.size, 1, none⟩ = some (.slice A N c)) := Lib.hid (fun W h => BX.out W ((bdrewN (Below.refl _ _) nq).trans h))
        have z0 : (W0.drewN nq).cell? ⟨w.heap.size, 0, none⟩ = some (.int .i64 (k : Int)) := x0.1
        have z1 : (W0.drewN nq).cell? ⟨w.heap.size, 1, none⟩ = some (.slice A N c) := x0.2
        clear x0 y0 y1 BX B0 KW
        generalize W0.drewN nq = V at *
        go_wp2
        go_loopw [3] (fun i wr => ∃ j : Nat, k ≤ j ∧ j ≤ 64 * N ∧ i = .int .i64 (j : Int) ∧ (∀ i, i < j → k ≤ i → bitL L i = false) ∧ Below V.heap.size V wr) (fun i _ => 64 * N - (RowKit.intOf i).toNat)
        case atStart => exact ⟨k, Nat.le_refl _, hkN, rfl, fun i h1 h2 => by omega, Below.refl _ _⟩
        case round =>
          obtain ⟨j, hj, hjN, rfl, hall, hb⟩ := hrel
          have HALL := Lib.hid hall
          have HB := Lib.hid hb
          obtain ⟨v0, v1⟩ := X1.out wr hb
          clear hall hb z0 z1
          by_cases hlt : j < 64 * N
          · have hlt' : (j : Int) < 64 * (N : Int) := by omega
            have KJ := Lib.hid (KB.out j wr hlt (B1.out.trans (HB.out.mono B1.out.size)))
            by_cases hbit : bitL L j = true
            · rw [hbit] at KJ
              have HF := Lib.hid (HX.out j hlt hj hbit)
              clear hbit
              go_wp2_with fail
              refine KJ.out.mono ?_
              rintro e w5 ⟨rfl, b5⟩
              have B5 := Lib.hid (B1.out.trans ((HB.out.trans (b5.mono HB.out.size)).mono B1.out.size))
              clear b5
              go_wp2
              go_ret
              rw [HC.out, if_neg (by rw [HF.out]; simp)]
              exact ⟨rfl, B5.out⟩
            · have hbit : bitL L j = false := by simpa using hbit
              rw [hbit] at KJ
              have HF := Lib.hid hbit
              clear hbit
              go_wp2_with fail
              refine KJ.out.mono ?_
              rintro e w5 ⟨rfl, b5⟩
              have B5 := Lib.hid (HB.out.trans (b5.mono HB.out.size))
              clear b5
              go_wp2
              go_roundw
              case rel =>
                refine ⟨j + 1, by omega, by omega, by go_num, fun i h1 h2 => ?_, B5.out⟩
                by_cases e : i = j
                · subst e; exact HF.out
                · exact HALL.out i (by omega) h2
              case measure => simp [RowKit.intOf]; omega
          · have hlt' : decide ((j : Int) < 64 * (N : Int)) = false := by simp; omega
            have HF := Lib.hid (HY.out fun i h1 h2 => HALL.out i (by omega) h2)
            clear hlt
            go_wp2
            go_ret
            rw [HC.out, if_pos HF.out]
            exact ⟨rfl, B1.out.trans (HB.out.mono B1.out.size)⟩
      · have d2 : ((L.length : Int) != (q : Int)) = true := by simp; omega
        have HC : Hid (chk (k : Int) L = 4) := Lib.hid (by
          unfold chk okB fitB
          rw [decide_eq_false (by omega)]
          rfl)
        generalize chk (k : Int) L = cc at *
        generalize L.length = N at *
        clear h2 hq h0 h1
        go_enter Tryd.func17, Tryd.ntmps17
        go_wp2
        generalize w.alloc (.cells #[.int .i64 (k : Int), .slice A N c] 24) = W0 at *
        have y0 : W0.cell? ⟨w.heap.size, 0, none⟩ = some (.int .i64 (k : Int)) := x0.1
        have y1 : W0.cell? ⟨w.heap.size, 1, none⟩ = some (.slice A N c) := x0.2
        go_quiet (first
          | (go_at_call 42; exact Calls.quiet_of_same (flip_same (KW.out _)))
          | fail)
        go_wp2
        go_ret
        rw [HC.out]
        exact ⟨rfl, bdrewN B0.out _⟩
    · have d1 : decide ((4096 : Int) < (k : Int)) = true := by simp; omega
      have HC : Hid (chk (k : Int) L = 4) := Lib.hid (by
        unfold chk okB fitB
        rw [decide_eq_false (by omega)]
        rfl)
      generalize chk (k : Int) L = cc at *
      generalize L.length = N at *
      clear h0 h1
      go_enter Tryd.func17, Tryd.ntmps17
      go_wp2
      generalize w.alloc (.cells #[.int .i64 (k : Int), .slice A N c] 24) = W0 at *
      have y0 : W0.cell? ⟨w.heap.size, 0, none⟩ = some (.int .i64 (k : Int)) := x0.1
      have y1 : W0.cell? ⟨w.heap.size, 1, none⟩ = some (.slice A N c) := x0.2
      go_quiet (fail)
      go_wp2
      go_ret
      rw [HC.out]
      exact ⟨rfl, bdrewN B0.out _⟩
  · have d0 : decide (s < 0) = true := by simp; omega
    have HC : Hid (chk s L = 4) := Lib.hid (by
      unfold chk okB fitB
      rw [decide_eq_false (by omega)]
      rfl)
    generalize chk s L = cc at *
    generalize L.length = N at *
    clear h0
    go_enter Tryd.func17, Tryd.ntmps17
    go_wp2
    generalize w.alloc (.cells #[.int .i64 s, .slice A N c] 24) = W0 at *
    have y0 : W0.cell? ⟨w.heap.size, 0, none⟩ = some (.int .i64 s) := x0.1
    have y1 : W0.cell? ⟨w.heap.size, 1, none⟩ = some (.slice A N c) := x0.2
    go_quiet (fail)
    go_wp2
    go_ret
    rw [HC.out]
    exact ⟨rfl, bdrewN B0.out _⟩
end Go.Proofs.YtmmehomobmoapaaDoor
