/- The document's Same and Has; New of both. -/
import Derived.Test.YtmmehomobmoapaaDoorQG
namespace Go.Proofs.YtmmehomobmoapaaDoor
open Go.RowKit
set_option linter.unusedVariables false
set_option linter.unusedSimpArgs false
set_option maxHeartbeats 1000000 in
set_option maxRecDepth 100000 in
theorem refSame_any (s t : Int) (A B : Option Addr) (c d : Nat) (L M : List UInt64) (w : World) (hA : RQ w A L) (hB : RQ w B M) (hn : L.length ≤ 1000) : Calls Tryd.prog 12 #[.agg #[.int .i64 s, .slice A L.length c], .agg #[.int .i64 t, .slice B M.length d]] w fun e w' => e = .returned (.bool (sameB s t L M)) ∧ Below w.heap.size w w' := by
  have B0 := Lib.hid (((Below.refl w.heap.size w).alloc (Nat.le_refl _) (.cells #[.int .i64 s, .slice A L.length c] 24)).alloc (by rw [heap_size_alloc]; omega) (.cells #[.int .i64 t, .slice B M.length d] 24))
  have BX := Lib.hid (fun W h => bx4 w (.int .i64 s) (.slice A L.length c) (.int .i64 t) (.slice B M.length d) 24 24 (W := W) h)
  obtain ⟨⟨x0, x1⟩, y0, y1⟩ := BX.out _ (Below.refl _ _)
  by_cases h : s = t
  · subst h
    have d0 : (s != s) = false := by simp
    by_cases hl : L.length = M.length
    · have HA := Lib.hid hA
      have HB := Lib.hid hB
      have HE := Lib.hid (fun h => ext_of hl h)
      have HF : Hid (sameB s s L M = decide (L = M)) := Lib.hid (by unfold sameB; rw [decide_eq_true rfl]; rfl)
      have d1 : ((L.length : Int) != (M.length : Int)) = false := by simp; omega
      obtain ⟨N, hN⟩ : ∃ N, N = L.length := ⟨_, rfl⟩
      have HN := Lib.hid hN
      have HN2 := Lib.hid (hN.trans hl)
      rw [← hl, ← hN] at d1 BX B0 x0 x1 y0 y1
      rw [← hl, ← hN]
      have hn' : N ≤ 1000 := by omega
      generalize sameB s s L M = R at *
      clear hA hB hl hn hN
      go_enter Tryd.func12, Tryd.ntmps12
      go_wp2
      generalize (w.alloc (.cells #[.int .i64 s, .slice A N c] 24)).alloc (.cells #[.int .i64 s, .slice B N d] 24) = V at *
      go_loopw [5] (fun i wr => ∃ k : Nat, k ≤ N ∧ i = .int .i64 (k : Int) ∧ (∀ j, j < k → L[j]? = M[j]?) ∧ Below V.heap.size V wr) (fun i _ => N - (RowKit.intOf i).toNat)
      case atStart => exact ⟨0, Nat.zero_le _, rfl, fun j hj => by omega, Below.refl _ _⟩
      case round =>
        obtain ⟨k, hk, rfl, hall, hb⟩ := hrel
        have HALL := Lib.hid hall
        have HBV := Lib.hid hb
        have HBE := Lib.hid (B0.out.trans (hb.mono B0.out.size))
        obtain ⟨⟨u0, u1⟩, v0, v1⟩ := BX.out wr hb
        clear hall hb x0 x1 y0 y1
        by_cases hlt : k < N
        · have hlt' : (k : Int) < (N : Int) := by omega
          obtain ⟨ad, x, rfl, hx, cx⟩ := (HA.out.below HBE.out).at_ (k := k) (by rw [← HN.out]; exact hlt)
          obtain ⟨bd, y, rfl, hy, cy⟩ := (HB.out.below HBE.out).at_ (k := k) (by rw [← HN2.out]; exact hlt)
          have HX := Lib.hid hx
          have HY := Lib.hid hy
          clear hx hy
          by_cases e : x = y
          · subst e
            have d2 : ((x.toNat : Int) != (x.toNat : Int)) = false := by simp
            go_wp2
            go_quiet (fail)
            have BV := Lib.hid (bdrewN HBV.out nq)
            generalize wr.drewN nq = V5 at *
            go_wp2
            go_roundw
            case rel =>
              refine ⟨k + 1, by omega, by go_num, fun j hj => ?_, BV.out⟩
              by_cases e : j = k
              · subst e; rw [HX.out, HY.out]
              · exact HALL.out j (by omega)
            case measure => simp [RowKit.intOf]; omega
          · have d2 := ne_u64 e
            have HG : Hid (decide (L = M) = false) := Lib.hid (decide_eq_false fun h => by
              have h1 := HX.out
              rw [h, HY.out] at h1
              injection h1 with h1
              exact e h1.symm)
            clear e
            go_wp2
            go_quiet (fail)
            have BV := Lib.hid (bdrewN HBE.out nq)
            generalize wr.drewN nq = V5 at *
            go_wp2
            go_ret
            rw [HF.out, HG.out]
            exact ⟨rfl, BV.out⟩
        · obtain rfl : k = N := by omega
          have HG : Hid (decide (L = M) = true) := Lib.hid (decide_eq_true (HE.out (by rw [← HN.out]; exact HALL.out)))
          go_wp2
          go_ret
          rw [HF.out, HG.out]
          exact ⟨rfl, HBE.out⟩
    · have d1 : ((L.length : Int) != (M.length : Int)) = true := by simp; omega
      have HF : Hid (sameB s s L M = false) := Lib.hid (by unfold sameB; rw [decide_eq_false (fun h : L = M => hl (by rw [h])), Bool.and_false])
      generalize sameB s s L M = R at *
      generalize L.length = N1 at *
      generalize M.length = N2 at *
      clear hl hA hB
      go_enter Tryd.func12, Tryd.ntmps12
      go_wp2
      go_ret
      rw [HF.out]
      exact ⟨rfl, B0.out⟩
  · have HF : Hid (sameB s t L M = false) := Lib.hid (by unfold sameB; rw [decide_eq_false h]; rfl)
    have e1 : (s != t) = true := by simpa using h
    generalize sameB s t L M = R at *
    generalize L.length = N1 at *
    generalize M.length = N2 at *
    clear hA hB h
    go_enter Tryd.func12, Tryd.ntmps12
    go_wp2
    go_ret
    rw [HF.out]
    exact ⟨rfl, B0.out⟩
set_option maxHeartbeats 1000000 in
set_option maxRecDepth 100000 in
theorem refHas_any (s : Int) (A : Option Addr) (c : Nat) (L : List UInt64) (n : Int) (w : World) (hr : RQ w A L) : Calls Tryd.prog 15 #[.agg #[.int .i64 s, .slice A L.length c], .int .i64 n] w fun e w' => e = .returned (.bool (hasB s L n)) ∧ Below w.heap.size w w' := by
  have HR := Lib.hid hr
  have BX := Lib.hid (fun W h => bx2 w (.int .i64 s) (.slice A L.length c) 24 (W := W) h)
  have B0 := Lib.hid ((Below.refl _ w).alloc (Nat.le_refl _) (.cells #[.int .i64 s, .slice A L.length c] 24))
  have x0 := BX.out _ (Below.refl _ _)
  have KC := fun W (hb : Below w.heap.size w W) => refCheck_any s A c L W (HR.out.below hb)
  rcases chk_cases s L with ⟨h0, h1⟩ | ⟨h0, h1⟩
  · rw [h1] at KC
    have KC := Lib.hid KC
    by_cases h2 : 0 ≤ n
    · obtain ⟨k, rfl⟩ := Int.eq_ofNat_of_zero_le h2
      by_cases h3 : (k : Int) < s
      · have HH : Hid (hasB s L (k : Int) = bitL L k) := Lib.hid (by unfold hasB; rw [h0, decide_eq_true ⟨h2, h3⟩]; rfl)
        obtain ⟨m, rfl, hm, hl, _⟩ := okB_nat h0
        have KB := Lib.hid (fun W (hb : Below w.heap.size w W) => refBit_any (m : Int) A c L k W (by omega) (by omega) (HR.out.below hb))
        generalize hasB (m : Int) L (k : Int) = R at *
        generalize bitL L k = R2 at *
        generalize L.length = N at *
        clear h0 h1 hl hr
        go_enter Tryd.func15, Tryd.ntmps15
        go_wp2_with fail
        refine (KC.out _ B0.out).mono ?_
        rintro e w1 ⟨rfl, b1⟩
        have B1 := Lib.hid (B0.out.trans (b1.mono B0.out.size))
        obtain ⟨y0, y1⟩ := BX.out w1 b1
        clear b1 x0
        go_wp2_with fail
        refine (KB.out _ B1.out).mono ?_
        rintro e w2 ⟨rfl, b2⟩
        have B2 := Lib.hid (B1.out.trans (b2.mono B1.out.size))
        clear b2 y0 y1
        go_wp2
        go_ret
        rw [HH.out]
        exact ⟨rfl, B2.out⟩
      · have h3' : decide ((k : Int) < s) = false := by simp; omega
        have HH : Hid (hasB s L (k : Int) = false) := Lib.hid (by unfold hasB; rw [decide_eq_false (by omega), Bool.and_false]; rfl)
        generalize hasB s L (k : Int) = R at *
        generalize L.length = N at *
        clear h0 h1 h3 hr
        go_enter Tryd.func15, Tryd.ntmps15
        go_wp2_with fail
        refine (KC.out _ B0.out).mono ?_
        rintro e w1 ⟨rfl, b1⟩
        have B1 := Lib.hid (B0.out.trans (b1.mono B0.out.size))
        obtain ⟨y0, y1⟩ := BX.out w1 b1
        clear b1 x0
        go_wp2
        go_ret
        rw [HH.out]
        exact ⟨rfl, B1.out⟩
    · have h2' : decide (0 ≤ n) = false := by simp; omega
      have HH : Hid (hasB s L n = false) := Lib.hid (by unfold hasB; rw [decide_eq_false (by omega), Bool.and_false]; rfl)
      generalize hasB s L n = R at *
      generalize L.length = N at *
      clear h0 h1 h2 hr
      go_enter Tryd.func15, Tryd.ntmps15
      go_wp2_with fail
      refine (KC.out _ B0.out).mono ?_
      rintro e w1 ⟨rfl, b1⟩
      have B1 := Lib.hid (B0.out.trans (b1.mono B0.out.size))
      obtain ⟨y0, y1⟩ := BX.out w1 b1
      clear b1 x0
      go_wp2
      go_ret
      rw [HH.out]
      exact ⟨rfl, B1.out⟩
  · rw [h1] at KC
    have KC := Lib.hid KC
    have HH : Hid (hasB s L n = false) := Lib.hid (by unfold hasB; rw [h0]; rfl)
    generalize hasB s L n = R at *
    generalize L.length = N at *
    clear h0 h1 hr
    go_enter Tryd.func15, Tryd.ntmps15
    go_wp2_with fail
    refine (KC.out _ B0.out).mono ?_
    rintro e w1 ⟨rfl, b1⟩
    have B1 := Lib.hid (B0.out.trans (b1.mono B0.out.size))
    clear b1 x0
    go_wp2
    go_ret
    rw [HH.out]
    exact ⟨rfl, B1.out⟩
end Go.Proofs.YtmmehomobmoapaaDoor
