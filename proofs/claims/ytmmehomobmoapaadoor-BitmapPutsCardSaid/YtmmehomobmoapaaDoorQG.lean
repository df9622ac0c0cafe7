/- Equal rows; Same of both; Light; the document's Has. -/
import Derived.Test.YtmmehomobmoapaaDoorQF
namespace Go.Proofs.YtmmehomobmoapaaDoor
open Go.RowKit
set_option linter.unusedVariables false
set_option linter.unusedSimpArgs false
theorem ne_u64 {x y : UInt64} (h : x ≠ y) : ((x.toNat : Int) != (y.toNat : Int)) = true := by
  have : x.toNat ≠ y.toNat := fun e => h (UInt64.toNat_inj.1 e)
  simp; omega
theorem ext_of {L M : List UInt64} (hl : L.length = M.length) (h : ∀ j, j < L.length → L[j]? = M[j]?) : L = M := by
  apply List.ext_getElem? 
  intro j
  by_cases hj : j < L.length
  · exact h j hj
  · rw [List.getElem?_eq_none (by omega), List.getElem?_eq_none (by omega)]
set_option maxHeartbeats 1000000 in
set_option maxRecDepth 100000 in
theorem equalQ_any (A B : Option Addr) (c d : Nat) (L M : List UInt64) (w : World) (hA : RQ w A L) (hB : RQ w B M) (hn : L.length ≤ 1000) : Calls Tryd.prog 50 #[.slice A L.length c, .slice B M.length d] w fun e w' => e = .returned (.bool (decide (L = M))) ∧ Below w.heap.size w w' := by
  by_cases hl : L.length = M.length
  · have HA := Lib.hid hA
    have HB := Lib.hid hB
    have HE := Lib.hid (fun h => ext_of hl h)
    have HL := Lib.hid hl
    have d1 : ((L.length : Int) != (M.length : Int)) = false := by simp; omega
    obtain ⟨N, hN⟩ : ∃ N, N = L.length := ⟨_, rfl⟩
    have HN := Lib.hid hN
    have HN2 := Lib.hid (hN.trans hl)
    rw [← hl, ← hN]
    rw [← hl, ← hN] at d1
    have hn' : N ≤ 1000 := by omega
    clear hA hB hl hn hN
    go_enter Tryd.func50, Tryd.ntmps50
    go_wp2
    go_loopw [5, 13] (fun _ i wr => ∃ k : Nat, k ≤ N ∧ i = .int .i64 (k : Int) ∧ (∀ j, j < k → L[j]? = M[j]?) ∧ Below w.heap.size w wr) (fun _ i _ => N - (RowKit.intOf i).toNat)
    case atStart => exact ⟨0, Nat.zero_le _, rfl, fun j hj => by omega, Below.refl _ _⟩
    case round =>
      obtain ⟨k, hk, rfl, hall, hb⟩ := hrel
      have HALL := Lib.hid hall
      have HBE := Lib.hid hb
      clear hall hb
      by_cases hlt : k < N
      · have hlt' : (k : Int) < (N : Int) := by omega
        obtain ⟨ad, x, rfl, hx, cx⟩ := (HA.out.below HBE.out).at_ (k := k) (by rw [← HN.out]; exact hlt)
        obtain ⟨bd, y, rfl, hy, cy⟩ := (HB.out.below HBE.out).at_ (k := k) (by rw [← HN2.out]; exact hlt)
        have HX := Lib.hid hx
        have HY := Lib.hid hy
        clear hx hy
        by_cases e : x = y
        · subst e
          have d2 : ((x.toNat : Int) != (x.toNat : Int)) = false := by simp
          go_wp2
          go_quiet (fail)
          have BV := Lib.hid (bdrewN HBE.out nq)
          generalize wr.drewN nq = V at *
          go_wp2
          go_roundw
          case rel =>
            refine ⟨k + 1, by omega, by go_num, fun j hj => ?_, BV.out⟩
            by_cases e : j = k
            · subst e; rw [HX.out, HY.out]
            · exact HALL.out j (by omega)
          case measure => simp [RowKit.intOf]; omega
        · have d2 := ne_u64 e
          have HF : Hid (decide (L = M) = false) := Lib.hid (decide_eq_false fun h => by
            have h1 := HX.out
            rw [h, HY.out] at h1
            injection h1 with h1
            exact e h1.symm)
          clear e
          go_wp2
          go_quiet (fail)
          have BV := Lib.hid (bdrewN HBE.out nq)
          generalize wr.drewN nq = V at *
          go_wp2
          go_ret
          rw [HF.out]
          exact ⟨rfl, BV.out⟩
      · obtain rfl : k = N := by omega
        have HF : Hid (decide (L = M) = true) := Lib.hid (decide_eq_true (HE.out (by rw [← HN.out]; exact HALL.out)))
        go_wp2
        go_ret
        rw [HF.out]
        exact ⟨rfl, HBE.out⟩
  · have d1 : ((L.length : Int) != (M.length : Int)) = true := by simp; omega
    have HF : Hid (decide (L = M) = false) := Lib.hid (decide_eq_false fun h => hl (by rw [h]))
    generalize decide (L = M) = R at *
    generalize L.length = N1 at *
    generalize M.length = N2 at *
    clear hl hA hB
    go_enter Tryd.func50, Tryd.ntmps50
    go_wp2
    go_ret
    rw [HF.out]
    exact ⟨rfl, Below.refl _ _⟩
def sameB (s t : Int) (L M : List UInt64) : Bool := decide (s = t) && decide (L = M)
theorem bx4 (w : World) (a b c d : Value) (t u : TypeId) {W : World} (h : Below ((w.alloc (.cells #[a, b] t)).alloc (.cells #[c, d] u)).heap.size ((w.alloc (.cells #[a, b] t)).alloc (.cells #[c, d] u)) W) : (W.cell? ⟨w.heap.size, 0, none⟩ = some a ∧ W.cell? ⟨w.heap.size, 1, none⟩ = some b) ∧ (W.cell? ⟨w.heap.size + 1, 0, none⟩ = some c ∧ W.cell? ⟨w.heap.size + 1, 1, none⟩ = some d) := by
  have h2 := bx2 (w.alloc (.cells #[a, b] t)) c d u h
  rw [heap_size_alloc] at h2
  refine ⟨bx2 w a b t ?_, h2⟩
  exact ((Below.refl _ _).alloc (Nat.le_refl _) _).trans (h.mono (by rw [heap_size_alloc (w.alloc _)]; omega))
set_option maxHeartbeats 1000000 in
set_option maxRecDepth 100000 in
theorem same_any (s t : Int) (A B : Option Addr) (c d : Nat) (L M : List UInt64) (w : World) (hA : RQ w A L) (hB : RQ w B M) (hn : L.length ≤ 1000) : Calls Tryd.prog 30 #[.agg #[.int .i64 s, .slice A L.length c], .agg #[.int .i64 t, .slice B M.length d]] w fun e w' => e = .returned (.bool (sameB s t L M)) ∧ Below w.heap.size w w' := by
  have B0 := Lib.hid (((Below.refl w.heap.size w).alloc (Nat.le_refl _) (.cells #[.int .i64 s, .slice A L.length c] 27)).alloc (by rw [heap_size_alloc]; omega) (.cells #[.int .i64 t, .slice B M.length d] 27))
  have KE := fun W (hb : Below w.heap.size w W) => equalQ_any A B c d L M W (hA.below hb) (hB.below hb) hn
  obtain ⟨⟨x0, x1⟩, y0, y1⟩ := bx4 w (.int .i64 s) (.slice A L.length c) (.int .i64 t) (.slice B M.length d) 27 27 (Below.refl _ _)
  have KE := Lib.hid KE
  by_cases h : s = t
  · subst h
    have HF : Hid (sameB s s L M = decide (L = M)) := Lib.hid (by unfold sameB; rw [decide_eq_true rfl]; rfl)
    have e1 : (s == s) = true := by simp
    generalize sameB s s L M = R at *
    generalize decide (L = M) = R2 at *
    generalize L.length = N1 at *
    generalize M.length = N2 at *
    clear hA hB
    go_enter Tryd.func30, Tryd.ntmps30
    go_wp2_with fail
    refine (KE.out _ B0.out).mono ?_
    rintro e w1 ⟨rfl, b1⟩
    have B1 := Lib.hid (B0.out.trans (b1.mono B0.out.size))
    clear b1 x0 x1 y0 y1
    go_wp2
    go_ret
    rw [HF.out]
    exact ⟨rfl, B1.out⟩
  · have HF : Hid (sameB s t L M = false) := Lib.hid (by unfold sameB; rw [decide_eq_false h]; rfl)
    have e1 : (s == t) = false := by simpa using h
    generalize sameB s t L M = R at *
    generalize L.length = N1 at *
    generalize M.length = N2 at *
    clear hA hB h
    go_enter Tryd.func30, Tryd.ntmps30
    go_wp2
    go_ret
    rw [HF.out]
    exact ⟨rfl, B0.out⟩
theorem light_any (s : Int) (A : Option Addr) (N c : Nat) (w : World) : Calls Tryd.prog 9 #[.agg #[.int .i64 s, .slice A N c]] w fun e w' => e = .returned (.bool (decide ((N : Int) ≤ 8))) ∧ Below w.heap.size w w' := by
  have B0 := Lib.hid ((Below.refl _ w).alloc (Nat.le_refl _) (.cells #[.int .i64 s, .slice A N c] 24))
  go_enter Tryd.func9, Tryd.ntmps9
  go_wp2
  go_ret
  exact ⟨rfl, B0.out⟩
end Go.Proofs.YtmmehomobmoapaaDoor
