/- Joined: QG QH QI QJ QK. -/
import Derived.Test.YtegjeijiekggdaaGreatDoorM17
section
/- Equal rows; Same of both; Light; the document's Has. -/
namespace Go.Proofs.YtegjeijiekggdaaGreatDoor
open Go.RowKit
set_option linter.unusedVariables false
set_option linter.unusedSimpArgs false
theorem ne_u64 {x y : UInt64} (h : x ≠ y) : ((x.toNat : Int) != (y.toNat : Int)) = true := by
  have : x.toNat ≠ y.toNat := fun e => h (UInt64.toNat_inj.1 e)
  simp; omega
theorem ext_of {L M : List UInt64} (hl : L.length = M.length) (h : ∀ j, j < L.length → L[j]? = M[j]?) : L = M := by
  apply List.ext_getElem? 
  intro j
  by_cases hj : j < L.length
  · exact h j hj
  · rw [List.getElem?_eq_none (by omega), List.getElem?_eq_none (by omega)]
set_option maxHeartbeats 1000000 in
set_option maxRecDepth 100000 in
theorem equalQ_any (A B : Option Addr) (c d : Nat) (L M : List UInt64) (w : World) (hA : RQ w A L) (hB : RQ w B M) (hn : L.length ≤ 1000) : Calls Tryz.prog 77 #[.slice A L.length c, .slice B M.length d] w fun e w' => e = .returned (.bool (decide (L = M))) ∧ Below w.heap.size w w' := by
  by_cases hl : L.length = M.length
  · have HA := Lib.hid hA
    have HB := Lib.hid hB
    have HE := Lib.hid (fun h => ext_of hl h)
    have HL := Lib.hid hl
    have d1 : ((L.length : Int) != (M.length : Int)) = false := by simp; omega
    obtain ⟨N, hN⟩ : ∃ N, N = L.length := ⟨_, rfl⟩
    have HN := Lib.hid hN
    have HN2 := Lib.hid (hN.trans hl)
    rw [← hl, ← hN]
    rw [← hl, ← hN] at d1
    have hn' : N ≤ 1000 := by omega
    clear hA hB hl hn hN
    go_enter Tryz.func77, Tryz.ntmps77
    go_wp2
    go_loopw [5, 13] (fun _ i wr => ∃ k : Nat, k ≤ N ∧ i = .int .i64 (k : Int) ∧ (∀ j, j < k → L[j]? = M[j]?) ∧ Below w.heap.size w wr) (fun _ i _ => N - (RowKit.intOf i).toNat)
    case atStart => exact ⟨0, Nat.zero_le _, rfl, fun j hj => by omega, Below.refl _ _⟩
    case round =>
      obtain ⟨k, hk, rfl, hall, hb⟩ := hrel
      have HALL := Lib.hid hall
      have HBE := Lib.hid hb
      clear hall hb
      by_cases hlt : k < N
      · have hlt' : (k : Int) < (N : Int) := by omega
        obtain ⟨ad, x, rfl, hx, cx⟩ := (HA.out.below HBE.out).at_ (k := k) (by rw [← HN.out]; exact hlt)
        obtain ⟨bd, y, rfl, hy, cy⟩ := (HB.out.below HBE.out).at_ (k := k) (by rw [← HN2.out]; exact hlt)
        have HX := Lib.hid hx
        have HY := Lib.hid hy
        clear hx hy
        by_cases e : x = y
        · subst e
          have d2 : ((x.toNat : Int) != (x.toNat : Int)) = false := by simp
          go_wp2
          go_quiet (fail)
          have BV := Lib.hid (bdrewN HBE.out nq)
          generalize wr.drewN nq = V at *
          go_wp2
          go_roundw
          case rel =>
            refine ⟨k + 1, by omega, by go_num, fun j hj => ?_, BV.out⟩
            by_cases e : j = k
            · subst e; rw [HX.out, HY.out]
            · exact HALL.out j (by omega)
          case measure => simp [RowKit.intOf]; omega
        · have d2 := ne_u64 e
          have HF : Hid (decide (L = M) = false) := Lib.hid (decide_eq_false fun h => by
            have h1 := HX.out
            rw [h, HY.out] at h1
            injection h1 with h1
            exact e h1.symm)
          clear e
          go_wp2
          go_quiet (fail)
          have BV := Lib.hid (bdrewN HBE.out nq)
          generalize wr.drewN nq = V at *
          go_wp2
          go_ret
          rw [HF.out]
          exact ⟨rfl, BV.out⟩
      · obtain rfl : k = N := by omega
        have HF : Hid (decide (L = M) = true) := Lib.hid (decide_eq_true (HE.out (by rw [← HN.out]; exact HALL.out)))
        go_wp2
        go_ret
        rw [HF.out]
        exact ⟨rfl, HBE.out⟩
  · have d1 : ((L.length : Int) != (M.length : Int)) = true := by simp; omega
    have HF : Hid (decide (L = M) = false) := Lib.hid (decide_eq_false fun h => hl (by rw [h]))
    generalize decide (L = M) = R at *
    generalize L.length = N1 at *
    generalize M.length = N2 at *
    clear hl hA hB
    go_enter Tryz.func77, Tryz.ntmps77
    go_wp2
    go_ret
    rw [HF.out]
    exact ⟨rfl, Below.refl _ _⟩
def sameB (s t : Int) (L M : List UInt64) : Bool := decide (s = t) && decide (L = M)
theorem bx4 (w : World) (a b c d : Value) (t u : TypeId) {W : World} (h : Below ((w.alloc (.cells #[a, b] t)).alloc (.cells #[c, d] u)).heap.size ((w.alloc (.cells #[a, b] t)).alloc (.cells #[c, d] u)) W) : (W.cell? ⟨w.heap.size, 0, none⟩ = some a ∧ W.cell? ⟨w.heap.size, 1, none⟩ = some b) ∧ (W.cell? ⟨w.heap.size + 1, 0, none⟩ = some c ∧ W.cell? ⟨w.heap.size + 1, 1, none⟩ = some d) := by
  have h2 := bx2 (w.alloc (.cells #[a, b] t)) c d u h
  rw [heap_size_alloc] at h2
  refine ⟨bx2 w a b t ?_, h2⟩
  exact ((Below.refl _ _).alloc (Nat.le_refl _) _).trans (h.mono (by rw [heap_size_alloc (w.alloc _)]; omega))
set_option maxHeartbeats 1000000 in
set_option maxRecDepth 100000 in
theorem qSame_any (s t : Int) (A B : Option Addr) (c d : Nat) (L M : List UInt64) (w : World) (hA : RQ w A L) (hB : RQ w B M) (hn : L.length ≤ 1000) : Calls Tryz.prog 35 #[.agg #[.int .i64 s, .slice A L.length c], .agg #[.int .i64 t, .slice B M.length d]] w fun e w' => e = .returned (.bool (sameB s t L M)) ∧ Below w.heap.size w w' := by
  have B0 := Lib.hid (((Below.refl w.heap.size w).alloc (Nat.le_refl _) (.cells #[.int .i64 s, .slice A L.length c] 64)).alloc (by rw [heap_size_alloc]; omega) (.cells #[.int .i64 t, .slice B M.length d] 64))
  have KE := fun W (hb : Below w.heap.size w W) => equalQ_any A B c d L M W (hA.below hb) (hB.below hb) hn
  obtain ⟨⟨x0, x1⟩, y0, y1⟩ := bx4 w (.int .i64 s) (.slice A L.length c) (.int .i64 t) (.slice B M.length d) 64 64 (Below.refl _ _)
  have KE := Lib.hid KE
  by_cases h : s = t
  · subst h
    have HF : Hid (sameB s s L M = decide (L = M)) := Lib.hid (by unfold sameB; rw [decide_eq_true rfl]; rfl)
    have e1 : (s == s) = true := by simp
    generalize sameB s s L M = R at *
    generalize decide (L = M) = R2 at *
    generalize L.length = N1 at *
    generalize M.length = N2 at *
    clear hA hB
    go_enter Tryz.func35, Tryz.ntmps35
    go_wp2_with fail
    refine (KE.out _ B0.out).mono ?_
    rintro e w1 ⟨rfl, b1⟩
    have B1 := Lib.hid (B0.out.trans (b1.mono B0.out.size))
    clear b1 x0 x1 y0 y1
    go_wp2
    go_ret
    rw [HF.out]
    exact ⟨rfl, B1.out⟩
  · have HF : Hid (sameB s t L M = false) := Lib.hid (by unfold sameB; rw [decide_eq_false h]; rfl)
    have e1 : (s == t) = false := by simpa using h
    generalize sameB s t L M = R at *
    generalize L.length = N1 at *
    generalize M.length = N2 at *
    clear hA hB h
    go_enter Tryz.func35, Tryz.ntmps35
    go_wp2
    go_ret
    rw [HF.out]
    exact ⟨rfl, B0.out⟩
end Go.Proofs.YtegjeijiekggdaaGreatDoor
end
section
/- The document's Same and Has; New of both. -/
namespace Go.Proofs.YtegjeijiekggdaaGreatDoor
open Go.RowKit
set_option linter.unusedVariables false
set_option linter.unusedSimpArgs false
set_option maxHeartbeats 1000000 in
set_option maxRecDepth 100000 in
theorem refSame_any (s t : Int) (A B : Option Addr) (c d : Nat) (L M : List UInt64) (w : World) (hA : RQ w A L) (hB : RQ w B M) (hn : L.length ≤ 1000) : Calls Tryz.prog 39 #[.agg #[.int .i64 s, .slice A L.length c], .agg #[.int .i64 t, .slice B M.length d]] w fun e w' => e = .returned (.bool (sameB s t L M)) ∧ Below w.heap.size w w' := by
  have B0 := Lib.hid (((Below.refl w.heap.size w).alloc (Nat.le_refl _) (.cells #[.int .i64 s, .slice A L.length c] 42)).alloc (by rw [heap_size_alloc]; omega) (.cells #[.int .i64 t, .slice B M.length d] 42))
  have BX := Lib.hid (fun W h => bx4 w (.int .i64 s) (.slice A L.length c) (.int .i64 t) (.slice B M.length d) 42 42 (W := W) h)
  obtain ⟨⟨x0, x1⟩, y0, y1⟩ := BX.out _ (Below.refl _ _)
  by_cases h : s = t
  · subst h
    have d0 : (s != s) = false := by simp
    by_cases hl : L.length = M.length
    · have HA := Lib.hid hA
      have HB := Lib.hid hB
      have HE := Lib.hid (fun h => ext_of hl h)
      have HF : Hid (sameB s s L M = decide (L = M)) := Lib.hid (by unfold sameB; rw [decide_eq_true rfl]; rfl)
      have d1 : ((L.length : Int) != (M.length : Int)) = false := by simp; omega
      obtain ⟨N, hN⟩ : ∃ N, N = L.length := ⟨_, rfl⟩
      have HN := Lib.hid hN
      have HN2 := Lib.hid (hN.trans hl)
      rw [← hl, ← hN] at d1 BX B0 x0 x1 y0 y1
      rw [← hl, ← hN]
      have hn' : N ≤ 1000 := by omega
      generalize sameB s s L M = R at *
      clear hA hB hl hn hN
      go_enter Tryz.func39, Tryz.ntmps39
      go_wp2
      generalize (w.alloc (.cells #[.int .i64 s, .slice A N c] 42)).alloc (.cells #[.int .i64 s, .slice B N d] 42) = V at *
      go_loopw [5] (fun i wr => ∃ k : Nat, k ≤ N ∧ i = .int .i64 (k : Int) ∧ (∀ j, j < k → L[j]? = M[j]?) ∧ Below V.heap.size V wr) (fun i _ => N - (RowKit.intOf i).toNat)
      case atStart => exact ⟨0, Nat.zero_le _, rfl, fun j hj => by omega, Below.refl _ _⟩
      case round =>
        obtain ⟨k, hk, rfl, hall, hb⟩ := hrel
        have HALL := Lib.hid hall
        have HBV := Lib.hid hb
        have HBE := Lib.hid (B0.out.trans (hb.mono B0.out.size))
        obtain ⟨⟨u0, u1⟩, v0, v1⟩ := BX.out wr hb
        clear hall hb x0 x1 y0 y1
        by_cases hlt : k < N
        · have hlt' : (k : Int) < (N : Int) := by omega
          obtain ⟨ad, x, rfl, hx, cx⟩ := (HA.out.below HBE.out).at_ (k := k) (by rw [← HN.out]; exact hlt)
          obtain ⟨bd, y, rfl, hy, cy⟩ := (HB.out.below HBE.out).at_ (k := k) (by rw [← HN2.out]; exact hlt)
          have HX := Lib.hid hx
          have HY := Lib.hid hy
          clear hx hy
          by_cases e : x = y
          · subst e
            have d2 : ((x.toNat : Int) != (x.toNat : Int)) = false := by simp
            go_wp2
            go_quiet (fail)
            have BV := Lib.hid (bdrewN HBV.out nq)
            generalize wr.drewN nq = V5 at *
            go_wp2
            go_roundw
            case rel =>
              refine ⟨k + 1, by omega, by go_num, fun j hj => ?_, BV.out⟩
              by_cases e : j = k
              · subst e; rw [HX.out, HY.out]
              · exact HALL.out j (by omega)
            case measure => simp [RowKit.intOf]; omega
          · have d2 := ne_u64 e
            have HG : Hid (decide (L = M) = false) := Lib.hid (decide_eq_false fun h => by
              have h1 := HX.out
              rw [h, HY.out] at h1
              injection h1 with h1
              exact e h1.symm)
            clear e
            go_wp2
            go_quiet (fail)
            have BV := Lib.hid (bdrewN HBE.out nq)
            generalize wr.drewN nq = V5 at *
            go_wp2
            go_ret
            rw [HF.out, HG.out]
            exact ⟨rfl, BV.out⟩
        · obtain rfl : k = N := by omega
          have HG : Hid (decide (L = M) = true) := Lib.hid (decide_eq_true (HE.out (by rw [← HN.out]; exact HALL.out)))
          go_wp2
          go_ret
          rw [HF.out, HG.out]
          exact ⟨rfl, HBE.out⟩
    · have d1 : ((L.length : Int) != (M.length : Int)) = true := by simp; omega
      have HF : Hid (sameB s s L M = false) := Lib.hid (by unfold sameB; rw [decide_eq_false (fun h : L = M => hl (by rw [h])), Bool.and_false])
      generalize sameB s s L M = R at *
      generalize L.length = N1 at *
      generalize M.length = N2 at *
      clear hl hA hB
      go_enter Tryz.func39, Tryz.ntmps39
      go_wp2
      go_ret
      rw [HF.out]
      exact ⟨rfl, B0.out⟩
  · have HF : Hid (sameB s t L M = false) := Lib.hid (by unfold sameB; rw [decide_eq_false h]; rfl)
    have e1 : (s != t) = true := by simpa using h
    generalize sameB s t L M = R at *
    generalize L.length = N1 at *
    generalize M.length = N2 at *
    clear hA hB h
    go_enter Tryz.func39, Tryz.ntmps39
    go_wp2
    go_ret
    rw [HF.out]
    exact ⟨rfl, B0.out⟩
set_option maxHeartbeats 1000000 in
set_option maxRecDepth 100000 in
theorem refHas_any (s : Int) (A : Option Addr) (c : Nat) (L : List UInt64) (n : Int) (w : World) (hr : RQ w A L) : Calls Tryz.prog 89 #[.agg #[.int .i64 s, .slice A L.length c], .int .i64 n] w fun e w' => e = .returned (.bool (hasB s L n)) ∧ Below w.heap.size w w' := by
  have HR := Lib.hid hr
  have BX := Lib.hid (fun W h => bx2 w (.int .i64 s) (.slice A L.length c) 42 (W := W) h)
  have B0 := Lib.hid ((Below.refl _ w).alloc (Nat.le_refl _) (.cells #[.int .i64 s, .slice A L.length c] 42))
  have x0 := BX.out _ (Below.refl _ _)
  have KC := fun W (hb : Below w.heap.size w W) => qRefCheck_any s A c L W (HR.out.below hb)
  rcases chk_cases s L with ⟨h0, h1⟩ | ⟨h0, h1⟩
  · rw [h1] at KC
    have KC := Lib.hid KC
    by_cases h2 : 0 ≤ n
    · obtain ⟨k, rfl⟩ := Int.eq_ofNat_of_zero_le h2
      by_cases h3 : (k : Int) < s
      · have HH : Hid (hasB s L (k : Int) = bitL L k) := Lib.hid (by unfold hasB; rw [h0, decide_eq_true ⟨h2, h3⟩]; rfl)
        obtain ⟨m, rfl, hm, hl, _⟩ := okB_nat h0
        have KB := Lib.hid (fun W (hb : Below w.heap.size w W) => refBit_any (m : Int) A c L k W (by omega) (by omega) (HR.out.below hb))
        generalize hasB (m : Int) L (k : Int) = R at *
        generalize bitL L k = R2 at *
        generalize L.length = N at *
        clear h0 h1 hl hr
        go_enter Tryz.func89, Tryz.ntmps89
        go_wp2_with fail
        refine (KC.out _ B0.out).mono ?_
        rintro e w1 ⟨rfl, b1⟩
        have B1 := Lib.hid (B0.out.trans (b1.mono B0.out.size))
        obtain ⟨y0, y1⟩ := BX.out w1 b1
        clear b1 x0
        go_wp2_with fail
        refine (KB.out _ B1.out).mono ?_
        rintro e w2 ⟨rfl, b2⟩
        have B2 := Lib.hid (B1.out.trans (b2.mono B1.out.size))
        clear b2 y0 y1
        go_wp2
        go_ret
        rw [HH.out]
        exact ⟨rfl, B2.out⟩
      · have h3' : decide ((k : Int) < s) = false := by simp; omega
        have HH : Hid (hasB s L (k : Int) = false) := Lib.hid (by unfold hasB; rw [decide_eq_false (by omega), Bool.and_false]; rfl)
        generalize hasB s L (k : Int) = R at *
        generalize L.length = N at *
        clear h0 h1 h3 hr
        go_enter Tryz.func89, Tryz.ntmps89
        go_wp2_with fail
        refine (KC.out _ B0.out).mono ?_
        rintro e w1 ⟨rfl, b1⟩
        have B1 := Lib.hid (B0.out.trans (b1.mono B0.out.size))
        obtain ⟨y0, y1⟩ := BX.out w1 b1
        clear b1 x0
        go_wp2
        go_ret
        rw [HH.out]
        exact ⟨rfl, B1.out⟩
    · have h2' : decide (0 ≤ n) = false := by simp; omega
      have HH : Hid (hasB s L n = false) := Lib.hid (by unfold hasB; rw [decide_eq_false (by omega), Bool.and_false]; rfl)
      generalize hasB s L n = R at *
      generalize L.length = N at *
      clear h0 h1 h2 hr
      go_enter Tryz.func89, Tryz.ntmps89
      go_wp2_with fail
      refine (KC.out _ B0.out).mono ?_
      rintro e w1 ⟨rfl, b1⟩
      have B1 := Lib.hid (B0.out.trans (b1.mono B0.out.size))
      obtain ⟨y0, y1⟩ := BX.out w1 b1
      clear b1 x0
      go_wp2
      go_ret
      rw [HH.out]
      exact ⟨rfl, B1.out⟩
  · rw [h1] at KC
    have KC := Lib.hid KC
    have HH : Hid (hasB s L n = false) := Lib.hid (by unfold hasB; rw [h0]; rfl)
    generalize hasB s L n = R at *
    generalize L.length = N at *
    clear h0 h1 hr
    go_enter Tryz.func89, Tryz.ntmps89
    go_wp2_with fail
    refine (KC.out _ B0.out).mono ?_
    rintro e w1 ⟨rfl, b1⟩
    have B1 := Lib.hid (B0.out.trans (b1.mono B0.out.size))
    clear b1 x0
    go_wp2
    go_ret
    rw [HH.out]
    exact ⟨rfl, B1.out⟩
end Go.Proofs.YtegjeijiekggdaaGreatDoor
end
section
/- New of both. -/
namespace Go.Proofs.YtegjeijiekggdaaGreatDoor
open Go.RowKit
set_option linter.unusedVariables false
set_option linter.unusedSimpArgs false
def newOk (n : Int) : Bool := decide (0 ≤ n ∧ n ≤ 4096)
def newS (n : Int) : Int := if newOk n = true then n else 0
def newL (n : Int) : List UInt64 := if newOk n = true then List.replicate ((n.toNat + 63) / 64) 0 else []
def newE (n : Int) : Nat := if newOk n = true then 0 else 2
theorem qHeap_setCell_block {w : World} {b i : Nat} {cs : Array Value} {t : TypeId} (v : Value) (h : w.heap[b]? = some (.cells cs t (0, 0))) : (w.setCell ⟨b, i, none⟩ v).heap[b]? = some (.cells (cs.setIfInBounds i v) t (0, 0)) := by
  simp [World.setCell, Array.getElem?_modify, h]
theorem heap_setC {W : World} {b : Nat} {x0 x1 : Value} {t : TypeId} (h : W.heap[b]? = some (.cells #[x0, x1] t (0, 0))) (a0 a1 : Value) : ((W.setCell ⟨b, 0, none⟩ a0).setCell ⟨b, 1, none⟩ a1).heap[b]? = some (.cells #[a0, a1] t (0, 0)) := by
  have h1 := qHeap_setCell_block (i := 0) a0 h
  have h2 := qHeap_setCell_block (i := 1) a1 h1
  rw [h2]
  rfl
theorem belowC {b : Nat} {w W : World} (h : Below b w W) {g : Nat} (hg : b ≤ g) (a0 a1 : Value) : Below b w ((W.setCell ⟨g, 0, none⟩ a0).setCell ⟨g, 1, none⟩ a1) := (h.setCell (p := ⟨g, 0, none⟩) hg _).setCell (p := ⟨g, 1, none⟩) hg _
theorem OQ.setB {base : Nat} {w : World} {v : Value} {l : List UInt64} (h : OQ base w v l) {b : Nat} (hb : b < base) (a0 a1 : Value) : OQ base ((w.setCell ⟨b, 0, none⟩ a0).setCell ⟨b, 1, none⟩ a1) v l :=
  ownsRow_setCell_below (ownsRow_setCell_below h (a := ⟨b, 0, none⟩) hb a0) (a := ⟨b, 1, none⟩) hb a1
set_option maxHeartbeats 1000000 in
set_option maxRecDepth 100000 in
theorem qNew_any (n : Int) (w : World) : Calls Tryz.prog 58 #[.int .i64 n] w fun e w' => ∃ v, e = .returned (.tuple #[.agg #[.int .i64 (newS n), v], .int .i64 (newE n : Int)]) ∧ OQ w.heap.size w' v (newL n) ∧ Below w.heap.size w w' := by
  have KG := fun W => goodSize_any n W
  have hX0 := heap_alloc_last w (.cells #[.int .i64 0, .slice none 0 0] 64)
  have hz0 := heap_size_alloc w (.cells #[.int .i64 0, .slice none 0 0] 64)
  have B0 := Lib.hid ((Below.refl _ w).alloc (Nat.le_refl _) (.cells #[.int .i64 0, .slice none 0 0] 64))
  by_cases h : 0 ≤ n ∧ n ≤ 4096
  · rw [decide_eq_true h] at KG
    have KG := Lib.hid KG
    obtain ⟨k, rfl⟩ := Int.eq_ofNat_of_zero_le h.1
    have hk : k ≤ 4096 := by omega
    have h1 : newS (k : Int) = (k : Int) := if_pos (decide_eq_true h)
    have h2 : newL (k : Int) = List.replicate ((k + 63) / 64) 0 := if_pos (decide_eq_true h)
    have h3 : newE (k : Int) = 0 := if_pos (decide_eq_true h)
    rw [h1, h2, h3]
    have KW := fun W => wordsOf_any k hk W
    have hq64 : (k + 63) / 64 ≤ 64 := by omega
    generalize (k + 63) / 64 = q at *
    have KW := Lib.hid KW
    have HX := Lib.hid hX0
    have HZ := Lib.hid hz0
    clear h h1 h2 h3 hX0 hz0 hk
    go_enter Tryz.func58, Tryz.ntmps58
    go_wp2_with fail
    refine (KG.out _).mono ?_
    rintro e w1 ⟨rfl, rfl⟩
    go_wp2_with fail
    refine (KW.out _).mono ?_
    rintro e w1 ⟨rfl, rfl⟩
    generalize w.alloc (.cells #[.int .i64 0, .slice none 0 0] 64) = W0 at *
    go_wp2_with (at_make; refine wpList_make_Q rfl _ _ rfl (w.heap.size + 1) q _ _ rfl rfl rfl rfl (by omega) (by rw [HZ.out]; exact Nat.le_refl _) ?_; intro w1 ho1 hb1; have hx1 := (hb1.block w.heap.size (by omega)).trans HX.out; have u0 : w1.cell? ⟨w.heap.size, 0, none⟩ = some (.int .i64 0) := (cell_of_row w1 _ 0 _ _ _ hx1).trans rfl; have u1 : w1.cell? ⟨w.heap.size, 1, none⟩ = some (.slice none 0 0) := (cell_of_row w1 _ 1 _ _ _ hx1).trans rfl; have f0 : w1.frozen? ⟨w.heap.size, 0, none⟩ = false := (by simp [World.frozen?, hx1]); have f1 : w1.frozen? ⟨w.heap.size, 1, none⟩ = false := (by simp [World.frozen?, hx1]); have HO := Lib.hid ho1; have HB := Lib.hid (B0.out.trans (hb1.mono (by omega))); clear hx1 ho1 hb1)
    refine bodyPost_ret (v := .tuple #[.agg #[.int .i64 (k : Int), .slice (some ⟨W0.heap.size, 0, none⟩) q q], .int .i64 0]) (by simp [results, Tryz.results58, go_sem, u0, u1]) rfl ⟨_, rfl, (OQ.setB HO.out (by omega) _ _).lift (by omega), belowC HB.out (Nat.le_refl _) _ _⟩
  · rw [decide_eq_false h] at KG
    have KG := Lib.hid KG
    have h1 : newS n = 0 := if_neg (by unfold newOk; simp; omega)
    have h2 : newL n = [] := if_neg (by unfold newOk; simp; omega)
    have h3 : newE n = 2 := if_neg (by unfold newOk; simp; omega)
    rw [h1, h2, h3]
    have HX := Lib.hid hX0
    clear h h1 h2 h3 hX0 hz0
    go_enter Tryz.func58, Tryz.ntmps58
    go_wp2_with fail
    refine (KG.out _).mono ?_
    rintro e w1 ⟨rfl, rfl⟩
    generalize w.alloc (.cells #[.int .i64 0, .slice none 0 0] 64) = W0 at *
    have u0 : W0.cell? ⟨w.heap.size, 0, none⟩ = some (.int .i64 0) := (cell_of_row _ _ 0 _ _ _ HX.out).trans rfl
    have u1 : W0.cell? ⟨w.heap.size, 1, none⟩ = some (.slice none 0 0) := (cell_of_row _ _ 1 _ _ _ HX.out).trans rfl
    have f0 : W0.frozen? ⟨w.heap.size, 0, none⟩ = false := by simp [World.frozen?, HX.out]
    have f1 : W0.frozen? ⟨w.heap.size, 1, none⟩ = false := by simp [World.frozen?, HX.out]
    go_wp2
    refine bodyPost_ret (v := .tuple #[.agg #[.int .i64 0, .slice none 0 0], .int .i64 2]) (by simp [results, Tryz.results58, go_sem, u0, u1]) rfl ⟨_, rfl, OQ.nil, belowC B0.out (Nat.le_refl _) _ _⟩
set_option maxHeartbeats 1000000 in
set_option maxRecDepth 100000 in
theorem qRefNew_any (n : Int) (w : World) : Calls Tryz.prog 79 #[.int .i64 n] w fun e w' => ∃ v, e = .returned (.tuple #[.agg #[.int .i64 (newS n), v], .int .i64 (newE n : Int)]) ∧ OQ w.heap.size w' v (newL n) ∧ Below w.heap.size w w' := by
  have hX0 := heap_alloc_last w (.cells #[.int .i64 0, .slice none 0 0] 42)
  have hz0 := heap_size_alloc w (.cells #[.int .i64 0, .slice none 0 0] 42)
  have B0 := Lib.hid ((Below.refl _ w).alloc (Nat.le_refl _) (.cells #[.int .i64 0, .slice none 0 0] 42))
  by_cases h : 0 ≤ n ∧ n ≤ 4096
  · obtain ⟨k, rfl⟩ := Int.eq_ofNat_of_zero_le h.1
    have hk : k ≤ 4096 := by omega
    have e0 : decide ((k : Int) < 0) = false := by simp
    have e1 : decide ((4096 : Int) < (k : Int)) = false := by simp; omega
    have h1 : newS (k : Int) = (k : Int) := if_pos (decide_eq_true h)
    have h2 : newL (k : Int) = List.replicate ((k + 63) / 64) 0 := if_pos (decide_eq_true h)
    have h3 : newE (k : Int) = 0 := if_pos (decide_eq_true h)
    rw [h1, h2, h3]
    have KW := fun W => refWords_any k hk W
    have hq64 : (k + 63) / 64 ≤ 64 := by omega
    generalize (k + 63) / 64 = q at *
    have KW := Lib.hid KW
    have HX := Lib.hid hX0
    have HZ := Lib.hid hz0
    clear h h1 h2 h3 hX0 hz0 hk
    go_enter Tryz.func79, Tryz.ntmps79
    go_wp2_with fail
    refine (KW.out _).mono ?_
    rintro e w1 ⟨rfl, rfl⟩
    generalize w.alloc (.cells #[.int .i64 0, .slice none 0 0] 42) = W0 at *
    go_wp2_with (at_make; refine wpList_make_Q rfl _ _ rfl (w.heap.size + 1) q _ _ rfl rfl rfl rfl (by omega) (by rw [HZ.out]; exact Nat.le_refl _) ?_; intro w1 ho1 hb1; have hx1 := (hb1.block w.heap.size (by omega)).trans HX.out; have u0 : w1.cell? ⟨w.heap.size, 0, none⟩ = some (.int .i64 0) := (cell_of_row w1 _ 0 _ _ _ hx1).trans rfl; have u1 : w1.cell? ⟨w.heap.size, 1, none⟩ = some (.slice none 0 0) := (cell_of_row w1 _ 1 _ _ _ hx1).trans rfl; have f0 : w1.frozen? ⟨w.heap.size, 0, none⟩ = false := (by simp [World.frozen?, hx1]); have f1 : w1.frozen? ⟨w.heap.size, 1, none⟩ = false := (by simp [World.frozen?, hx1]); have HO := Lib.hid ho1; have HB := Lib.hid (B0.out.trans (hb1.mono (by omega))); clear hx1 ho1 hb1)
    refine bodyPost_ret (v := .tuple #[.agg #[.int .i64 (k : Int), .slice (some ⟨W0.heap.size, 0, none⟩) q q], .int .i64 0]) (by simp [results, Tryz.results79, go_sem, u0, u1]) rfl ⟨_, rfl, (OQ.setB HO.out (by omega) _ _).lift (by omega), belowC HB.out (Nat.le_refl _) _ _⟩
  · have h1 : newS n = 0 := if_neg (by unfold newOk; simp; omega)
    have h2 : newL n = [] := if_neg (by unfold newOk; simp; omega)
    have h3 : newE n = 2 := if_neg (by unfold newOk; simp; omega)
    rw [h1, h2, h3]
    have HX := Lib.hid hX0
    have u0 := (cell_of_row _ _ 0 _ _ _ hX0).trans rfl
    have u1 := (cell_of_row _ _ 1 _ _ _ hX0).trans rfl
    obtain ⟨W0, hW0⟩ : ∃ W0, W0 = w.alloc (.cells #[.int .i64 0, .slice none 0 0] 42) := ⟨_, rfl⟩
    rw [← hW0] at HX B0
    have f0 : (w.alloc (.cells #[.int .i64 0, .slice none 0 0] 42)).frozen? ⟨w.heap.size, 0, none⟩ = false := by rw [← hW0]; simp [World.frozen?, HX.out]
    have f1 : (w.alloc (.cells #[.int .i64 0, .slice none 0 0] 42)).frozen? ⟨w.heap.size, 1, none⟩ = false := by rw [← hW0]; simp [World.frozen?, HX.out]
    rw [hW0] at B0
    clear h1 h2 h3 hX0 hz0 HX hW0
    by_cases h0 : n < 0
    · clear h
      go_enter Tryz.func79, Tryz.ntmps79
      go_wp2
      refine bodyPost_ret (v := .tuple #[.agg #[.int .i64 0, .slice none 0 0], .int .i64 2]) (by simp [results, Tryz.results79, go_sem, u0, u1]) rfl ⟨_, rfl, OQ.nil, B0.out⟩
    · have e0 : decide (n < 0) = false := by simp; omega
      have e1 : decide (4096 < n) = true := by simp; omega
      clear h h0
      go_enter Tryz.func79, Tryz.ntmps79
      go_wp2
      refine bodyPost_ret (v := .tuple #[.agg #[.int .i64 0, .slice none 0 0], .int .i64 2]) (by simp [results, Tryz.results79, go_sem, u0, u1]) rfl ⟨_, rfl, OQ.nil, B0.out⟩
end Go.Proofs.YtegjeijiekggdaaGreatDoor
end
section
/- The document's Next, Rank and Select. -/
namespace Go.Proofs.YtegjeijiekggdaaGreatDoor
open Go.RowKit
set_option linter.unusedVariables false
set_option linter.unusedSimpArgs false
/-- The least number from a on, below a + k, that has p; a + k, if there is none. -/
def seekN (p : Nat → Bool) (a : Nat) : Nat → Nat
  | 0 => a
  | k + 1 => if p a = true then a else seekN p (a + 1) k
theorem seek_hit {p : Nat → Bool} : ∀ {k a r : Nat}, a ≤ r → r < a + k → p r = true → (∀ i, a ≤ i → i < r → p i = false) → seekN p a k = r
  | 0, a, r, h1, h2, _, _ => by omega
  | k + 1, a, r, h1, h2, h3, h4 => by
    unfold seekN
    by_cases e : a = r
    · subst e; rw [if_pos h3]
    · rw [if_neg (by rw [h4 a (Nat.le_refl _) (by omega)]; simp)]
      exact seek_hit (by omega) (by omega) h3 (fun i hi hr => h4 i (by omega) hr)
theorem seek_none {p : Nat → Bool} : ∀ {k a : Nat}, (∀ i, a ≤ i → i < a + k → p i = false) → seekN p a k = a + k
  | 0, a, _ => rfl
  | k + 1, a, h => by
    unfold seekN
    rw [if_neg (by rw [h a (Nat.le_refl _) (by omega)]; simp), seek_none (fun i h1 h2 => h i (by omega) (by omega))]
    omega
def isOn (L : List UInt64) (on : Bool) (n : Nat) : Bool := bitL L n == on
def nextR (s : Int) (L : List UInt64) (a : Int) (on : Bool) : Nat := seekN (isOn L on) a.toNat (s.toNat - a.toNat)
def nextB (s : Int) (L : List UInt64) (a : Int) (on : Bool) : Bool := okB s L && decide (a.toNat < s.toNat) && decide (nextR s L a on < s.toNat)
def nextN (s : Int) (L : List UInt64) (a : Int) (on : Bool) : Nat := if nextB s L a on = true then nextR s L a on else 0
theorem next_hit {s a r : Nat} {L : List UInt64} {on : Bool} {f : Int} (ho : okB (s : Int) L = true) (hf : f.toNat = a) (h1 : a ≤ r) (h2 : r < s) (h3 : isOn L on r = true) (h4 : ∀ i, a ≤ i → i < r → isOn L on i = false) : nextB (s : Int) L f on = true ∧ nextN (s : Int) L f on = r := by
  have e : nextR (s : Int) L f on = r := by
    unfold nextR
    rw [hf, Int.toNat_natCast]
    exact seek_hit h1 (by omega) h3 h4
  have b : nextB (s : Int) L f on = true := by
    unfold nextB
    rw [ho, e, hf, Int.toNat_natCast, decide_eq_true (by omega), decide_eq_true h2]
    rfl
  refine ⟨b, ?_⟩
  unfold nextN
  rw [if_pos b, e]
theorem next_none {s a : Nat} {L : List UInt64} {on : Bool} {f : Int} (hf : f.toNat = a) (h : ∀ i, a ≤ i → i < s → isOn L on i = false) : nextB (s : Int) L f on = false ∧ nextN (s : Int) L f on = 0 := by
  have b : nextB (s : Int) L f on = false := by
    unfold nextB
    by_cases hs : a < s
    · have e : nextR (s : Int) L f on = s := by
        unfold nextR
        rw [hf, Int.toNat_natCast, seek_none (fun i h1 h2 => h i h1 (by omega))]
        omega
      rw [e, Int.toNat_natCast, decide_eq_false (Nat.lt_irrefl s), Bool.and_false]
    · rw [hf, Int.toNat_natCast, decide_eq_false hs, Bool.and_false]
      rfl
  refine ⟨b, ?_⟩
  unfold nextN
  rw [if_neg (by rw [b]; simp)]
theorem next_bad {s : Int} {L : List UInt64} {on : Bool} {f : Int} (ho : okB s L = false) : nextB s L f on = false ∧ nextN s L f on = 0 := by
  have b : nextB s L f on = false := by unfold nextB; rw [ho]; rfl
  refine ⟨b, ?_⟩
  unfold nextN
  rw [if_neg (by rw [b]; simp)]
end Go.Proofs.YtegjeijiekggdaaGreatDoor
end
section
/- The document's Rank and Select. -/
namespace Go.Proofs.YtegjeijiekggdaaGreatDoor
open Go.RowKit
set_option linter.unusedVariables false
set_option linter.unusedSimpArgs false
def rankB (s : Int) (L : List UInt64) (n : Int) : Nat := if okB s L = true then cnt (bitL L) (min n.toNat s.toNat) else 0
def hitS (L : List UInt64) (k n : Nat) : Bool := bitL L n && decide (cnt (bitL L) n = k)
def selR (s : Int) (L : List UInt64) (k : Int) : Nat := seekN (hitS L k.toNat) 0 s.toNat
def selB (s : Int) (L : List UInt64) (k : Int) : Bool := okB s L && decide (0 ≤ k) && decide (selR s L k < s.toNat)
def selN (s : Int) (L : List UInt64) (k : Int) : Nat := if selB s L k = true then selR s L k else 0
theorem sel_hit {s r k : Nat} {L : List UInt64} (ho : okB (s : Int) L = true) (h2 : r < s) (h3 : hitS L k r = true) (h4 : ∀ i, i < r → hitS L k i = false) : selB (s : Int) L (k : Int) = true ∧ selN (s : Int) L (k : Int) = r := by
  have e : selR (s : Int) L (k : Int) = r := by
    unfold selR
    rw [Int.toNat_natCast, Int.toNat_natCast]
    exact seek_hit (Nat.zero_le _) (by omega) h3 (fun i _ h => h4 i h)
  have b : selB (s : Int) L (k : Int) = true := by
    unfold selB
    rw [ho, e, Int.toNat_natCast, decide_eq_true (Int.natCast_nonneg _), decide_eq_true h2]
    rfl
  refine ⟨b, ?_⟩
  unfold selN
  rw [if_pos b, e]
theorem sel_none {s k : Nat} {L : List UInt64} (h : ∀ i, i < s → hitS L k i = false) : selB (s : Int) L (k : Int) = false ∧ selN (s : Int) L (k : Int) = 0 := by
  have e : selR (s : Int) L (k : Int) = s := by
    unfold selR
    rw [Int.toNat_natCast, Int.toNat_natCast, seek_none (fun i _ h2 => h i (by omega))]
    omega
  have b : selB (s : Int) L (k : Int) = false := by
    unfold selB
    rw [e, Int.toNat_natCast, decide_eq_false (Nat.lt_irrefl s), Bool.and_false]
  refine ⟨b, ?_⟩
  unfold selN
  rw [if_neg (by rw [b]; simp)]
theorem sel_bad {s : Int} {L : List UInt64} {k : Int} (h : okB s L = false ∨ k < 0) : selB s L k = false ∧ selN s L k = 0 := by
  have b : selB s L k = false := by
    unfold selB
    rcases h with h | h
    · rw [h]; rfl
    · rw [decide_eq_false (by omega), Bool.and_false]; rfl
  refine ⟨b, ?_⟩
  unfold selN
  rw [if_neg (by rw [b]; simp)]
set_option maxHeartbeats 1000000 in
set_option maxRecDepth 100000 in
theorem refRank_any (s : Int) (A : Option Addr) (c : Nat) (L : List UInt64) (n : Int) (w : World) (hr : RQ w A L) : Calls Tryz.prog 87 #[.agg #[.int .i64 s, .slice A L.length c], .int .i64 n] w fun e w' => e = .returned (.int .i64 (rankB s L n : Int)) ∧ Below w.heap.size w w' := by
  have HR := Lib.hid hr
  have BX := Lib.hid (fun W h => bx2 w (.int .i64 s) (.slice A L.length c) 42 (W := W) h)
  have B0 := Lib.hid ((Below.refl _ w).alloc (Nat.le_refl _) (.cells #[.int .i64 s, .slice A L.length c] 42))
  obtain ⟨x0, x1⟩ := BX.out _ (Below.refl _ _)
  have KC := fun W (hb : Below w.heap.size w W) => qRefCheck_any s A c L W (HR.out.below hb)
  rcases chk_cases s L with ⟨h0, h1⟩ | ⟨h0, h1⟩
  · rw [h1] at KC
    have KC := Lib.hid KC
    obtain ⟨m, rfl, hm, hl, _⟩ := okB_nat h0
    have KB := Lib.hid (fun (k : Nat) W (hk : k < m) (hb : Below w.heap.size w W) => refBit_any (m : Int) A c L k W (by omega) (by omega) (HR.out.below hb))
    obtain ⟨b, hbe⟩ : ∃ b, b = min n.toNat m := ⟨_, rfl⟩
    have HF : Hid (rankB (m : Int) L n = cnt (bitL L) b) := Lib.hid (by unfold rankB; rw [if_pos h0, Int.toNat_natCast, ← hbe])
    generalize rankB (m : Int) L n = R at *
    generalize L.length = N at *
    clear h0 h1 hl hr
    go_enter Tryz.func87, Tryz.ntmps87
    go_wp2
    generalize w.alloc (.cells #[.int .i64 (m : Int), .slice A N c] 42) = V at *
    have HBE0 := Lib.hid hbe
    clear hbe
    go_loopw [5, 6] (fun k i wr => ∃ j : Nat, j ≤ b ∧ i = .int .i64 (j : Int) ∧ k = .int .i64 ((cnt (bitL L) j : Nat) : Int) ∧ Below V.heap.size V wr) (fun _ i _ => b - (RowKit.intOf i).toNat)
    case atStart => exact ⟨0, Nat.zero_le _, rfl, rfl, Below.refl _ _⟩
    case round =>
      obtain ⟨j, hj, rfl, rfl, hb⟩ := hrel
      have HBV := Lib.hid hb
      have HBE := Lib.hid (B0.out.trans (hb.mono B0.out.size))
      obtain ⟨u0, u1⟩ := BX.out wr hb
      have hcj := cnt_le (bitL L) j
      clear hb x0 x1
      have hbm : b ≤ m := by have := HBE0.out; omega
      by_cases hlt : j < b
      · have hlt' : (j : Int) < n := by have := HBE0.out; omega
        have hlm : (j : Int) < (m : Int) := by omega
        have hjm : j < m := by omega
        have HC := Lib.hid (show cnt (bitL L) (j + 1) = cnt (bitL L) j + (bitL L j).toNat from rfl)
        go_wp2_with fail
        refine (KC.out _ HBE.out).mono ?_
        rintro e w1 ⟨rfl, b1⟩
        have BV1 := Lib.hid (HBV.out.trans (b1.mono HBV.out.size))
        have BE1 := Lib.hid (HBE.out.trans (b1.mono HBE.out.size))
        obtain ⟨v0, v1⟩ := BX.out w1 BV1.out
        clear b1 u0 u1
        go_wp2_with fail
        refine (KB.out j w1 hjm BE1.out).mono ?_
        rintro e w2 ⟨rfl, b2⟩
        have BV2 := Lib.hid (BV1.out.trans (b2.mono BV1.out.size))
        clear b2 v0 v1
        generalize bitL L j = bj at *
        have HC : Hid (cnt (bitL L) (j + 1) = cnt (bitL L) j + bj.toNat) := HC
        generalize cnt (bitL L) j = cj at *
        cases bj
        · go_wp2
          go_roundw
          case rel => exact ⟨j + 1, by omega, by go_num, by rw [HC.out]; rfl, BV2.out⟩
          case measure => simp [RowKit.intOf]; omega
        · go_wp2
          go_roundw
          case rel => exact ⟨j + 1, by omega, by go_num, by rw [HC.out]; rfl, BV2.out⟩
          case measure => simp [RowKit.intOf]; omega
      · obtain rfl : j = b := by omega
        by_cases hn : (j : Int) < n
        · have hle : m ≤ j := by have := HBE0.out; omega
          have hd : decide ((j : Int) < (m : Int)) = false := by simp; omega
          go_wp2
          go_ret
          rw [HF.out]
          exact ⟨rfl, HBE.out⟩
        · have hd : decide ((j : Int) < n) = false := by simp; omega
          clear hn
          go_wp2
          go_ret
          rw [HF.out]
          exact ⟨rfl, HBE.out⟩
  · rw [h1] at KC
    have KC := Lib.hid KC
    have HF : Hid (rankB s L n = 0) := Lib.hid (by unfold rankB; rw [if_neg (by rw [h0]; simp)])
    generalize rankB s L n = R at *
    generalize L.length = N at *
    clear h0 h1 hr
    by_cases hn : 0 < n
    · by_cases hs : 0 < s
      · go_enter Tryz.func87, Tryz.ntmps87
        go_wp2
        go_loopw [5, 6] (fun k i wr => k = .int .i64 0 ∧ i = .int .i64 0 ∧ wr = w.alloc (.cells #[.int .i64 s, .slice A N c] 42)) (fun _ _ _ => 0)
        case atStart => exact ⟨rfl, rfl, rfl⟩
        case round =>
          obtain ⟨rfl, rfl, rfl⟩ := hrel
          go_wp2_with fail
          refine (KC.out _ B0.out).mono ?_
          rintro e w1 ⟨rfl, b1⟩
          have BE1 := Lib.hid (B0.out.trans (b1.mono B0.out.size))
          clear b1
          go_wp2
          go_ret
          rw [HF.out]
          exact ⟨rfl, BE1.out⟩
      · have hd : decide (0 < s) = false := by simp; omega
        clear hs
        go_enter Tryz.func87, Tryz.ntmps87
        go_wp2
        go_loopw [5, 6] (fun k i wr => k = .int .i64 0 ∧ i = .int .i64 0 ∧ wr = w.alloc (.cells #[.int .i64 s, .slice A N c] 42)) (fun _ _ _ => 0)
        case atStart => exact ⟨rfl, rfl, rfl⟩
        case round =>
          obtain ⟨rfl, rfl, rfl⟩ := hrel
          go_wp2
          go_ret
          rw [HF.out]
          exact ⟨rfl, B0.out⟩
    · have hd : decide (0 < n) = false := by simp; omega
      clear hn
      go_enter Tryz.func87, Tryz.ntmps87
      go_wp2
      go_loopw [5, 6] (fun k i wr => k = .int .i64 0 ∧ i = .int .i64 0 ∧ wr = w.alloc (.cells #[.int .i64 s, .slice A N c] 42)) (fun _ _ _ => 0)
      case atStart => exact ⟨rfl, rfl, rfl⟩
      case round =>
        obtain ⟨rfl, rfl, rfl⟩ := hrel
        go_wp2
        go_ret
        rw [HF.out]
        exact ⟨rfl, B0.out⟩
end Go.Proofs.YtegjeijiekggdaaGreatDoor
end
