/- The walk of the law SlotTorn. -/
import Derived.Test.YtlpobinmkedgeaaKSlotBack
import Derived.Deep.QuietTactic
import Derived.BigQuiet
namespace Go.Proofs.Ytlpobinmkedgeaa
open Go.RowKit
set_option linter.unusedVariables false
set_option linter.unusedSimpArgs false
/-- Three boxes side by side. -/
theorem three_boxes (w : World) (a b c : Obj) : (((w.alloc a).alloc b).alloc c).heap[w.heap.size]? = some a ∧ (((w.alloc a).alloc b).alloc c).heap[w.heap.size + 1]? = some b ∧ (((w.alloc a).alloc b).alloc c).heap[w.heap.size + 2]? = some c ∧ (((w.alloc a).alloc b).alloc c).heap.size = w.heap.size + 3 ∧ Below w.heap.size w (((w.alloc a).alloc b).alloc c) := by
  have h1 : (w.alloc a).heap.size = w.heap.size + 1 := heap_size_alloc w a
  have h2 : ((w.alloc a).alloc b).heap.size = w.heap.size + 2 := by rw [heap_size_alloc, h1]
  refine ⟨?_, ?_, ?_, by rw [heap_size_alloc, h2], (((Below.refl _ w).alloc (Nat.le_refl _) _).alloc (by omega) _).alloc (by omega) _⟩
  · rw [Below.heap_alloc _ _ _ (by omega), Below.heap_alloc _ _ _ (by omega), heap_alloc_last]
  · rw [Below.heap_alloc _ _ _ (by omega), ← h1, heap_alloc_last]
  · rw [← h2, heap_alloc_last]
set_option maxHeartbeats 4000000 in
set_option maxRecDepth 100000 in
theorem slotTorn_core (g0 g1 : Nat) (A B : Option Addr) (ca cb : Nat) (x y fs : List UInt8) (w : World) (hg0 : g0 < 4294967296) (hg1 : g1 < 4294967296) (hca : x.length ≤ ca) (hcb : y.length ≤ cb) (hra : RB w A x) (hrb : RB w B y) (hf : fs.length = 8) :
    Calls Try.prog 5 #[.agg #[.int .u32 (g0 : Int), .int .u32 (g1 : Int)], .agg #[.slice A x.length ca, .slice B y.length cb], .agg (cellsB fs).toArray] w fun e w' => e = .returned (.bool true) ∧ Below w.heap.size w w' := by
  obtain ⟨n, hn⟩ : ∃ n, n = x.length := ⟨_, rfl⟩
  obtain ⟨m, hm⟩ : ∃ m, m = y.length := ⟨_, rfl⟩
  rw [← hn] at hca ⊢
  rw [← hm] at hcb ⊢
  obtain ⟨t0, t1, t2, t3, t4⟩ := three_boxes w (.cells #[.int .u32 (g0 : Int), .int .u32 (g1 : Int)] 41) (.cells #[.slice A n ca, .slice B m cb] 42) (.cells (cellsB fs).toArray 45)
  have HN := Lib.hid hn.symm
  have HM := Lib.hid hm.symm
  have HF := Lib.hid hf
  have HA := Lib.hid (hra.below t4)
  have HB := Lib.hid (hrb.below t4)
  have T0 := Lib.hid t0
  have T1 := Lib.hid t1
  have T2 : Hid (Arr _ (w.heap.size + 2) 45 fs) := Lib.hid t2
  have T3 := Lib.hid t3
  have T4 := Lib.hid t4
  have KA := Lib.hid (fun W => awake_any W)
  clear hn hm hf hra hrb t0 t1 t2 t3 t4
  have main : 954 < n ∨ 954 < m ∨ g0 = g1 ∨ (n ≤ 954 ∧ m ≤ 954 ∧ g0 ≠ g1) := by omega
  go_enter Try.func5, Try.ntmps5
  go_upto_region 1 with (fail)
  generalize ((w.alloc (.cells #[.int .u32 (g0 : Int), .int .u32 (g1 : Int)] 41)).alloc (.cells #[.slice A n ca, .slice B m cb] 42)).alloc (.cells (cellsB fs).toArray 45) = W at *
  have x0 : W.cell? ⟨w.heap.size, 0, none⟩ = some (.int .u32 (g0 : Int)) := (cell_of_row W _ 0 _ _ _ T0.out).trans rfl
  have x1 : W.cell? ⟨w.heap.size, 1, none⟩ = some (.int .u32 (g1 : Int)) := (cell_of_row W _ 1 _ _ _ T0.out).trans rfl
  have y0 : W.cell? ⟨w.heap.size + 1, 0, none⟩ = some (.slice A n ca) := (cell_of_row W _ 0 _ _ _ T1.out).trans rfl
  have y1 : W.cell? ⟨w.heap.size + 1, 1, none⟩ = some (.slice B m cb) := (cell_of_row W _ 1 _ _ _ T1.out).trans rfl
  have hge : w.heap.size ≤ W.heap.size := by have := T3.out; omega
  rcases main with h | h | h | ⟨h1, h2, h3⟩
  · have d0 : decide (954 < (n : Int)) = true := by simp; omega
    clear h
    go_wp2_with (go_at_call 7; refine (KA.out _).mono ?_; rintro e w1 ⟨rfl, b1⟩)
    go_ret
    exact ⟨rfl, T4.out.trans (b1.mono hge)⟩
  · have d1 : decide (954 < (m : Int)) = true := by simp; omega
    clear h
    by_cases hd : 954 < n
    · have d0 : decide (954 < (n : Int)) = true := by simp; omega
      clear hd
      go_wp2_with (go_at_call 7; refine (KA.out _).mono ?_; rintro e w1 ⟨rfl, b1⟩)
      go_ret
      exact ⟨rfl, T4.out.trans (b1.mono hge)⟩
    · have d0 : decide (954 < (n : Int)) = false := by simp; omega
      clear hd
      go_wp2_with (go_at_call 7; refine (KA.out _).mono ?_; rintro e w1 ⟨rfl, b1⟩)
      go_ret
      exact ⟨rfl, T4.out.trans (b1.mono hge)⟩
  · subst h
    have d2 : ((g0 : Int) == (g0 : Int)) = true := by simp
    by_cases hd : 954 < n
    · have d0 : decide (954 < (n : Int)) = true := by simp; omega
      clear hd
      go_wp2_with (go_at_call 7; refine (KA.out _).mono ?_; rintro e w1 ⟨rfl, b1⟩)
      go_ret
      exact ⟨rfl, T4.out.trans (b1.mono hge)⟩
    · have d0 : decide (954 < (n : Int)) = false := by simp; omega
      clear hd
      by_cases hd : 954 < m
      · have d1 : decide (954 < (m : Int)) = true := by simp; omega
        clear hd
        go_wp2_with (go_at_call 7; refine (KA.out _).mono ?_; rintro e w1 ⟨rfl, b1⟩)
        go_ret
        exact ⟨rfl, T4.out.trans (b1.mono hge)⟩
      · have d1 : decide (954 < (m : Int)) = false := by simp; omega
        clear hd
        go_wp2_with (go_at_call 7; refine (KA.out _).mono ?_; rintro e w1 ⟨rfl, b1⟩)
        go_ret
        exact ⟨rfl, T4.out.trans (b1.mono hge)⟩
  · have d0 : decide (954 < (n : Int)) = false := by simp; omega
    have d1 : decide (954 < (m : Int)) = false := by simp; omega
    have d2 : ((g0 : Int) == (g1 : Int)) = false := by simpa using (by omega : ¬ (g0 : Int) = (g1 : Int))
    go_upto_region 3 with (fail)
    clear d0 d1 d2
    go_quiet (fail)
    have DV : Below W.heap.size W (W.drewN nq) := ⟨rfl, rfl, rfl, Nat.le_refl _, fun _ _ => rfl⟩
    have z0 : (W.drewN nq).cell? ⟨w.heap.size + 1, 0, none⟩ = some (.slice A n ca) := y0
    have z1 : (W.drewN nq).cell? ⟨w.heap.size + 1, 1, none⟩ = some (.slice B m cb) := y1
    have HA2 := Lib.hid (HA.out.below DV)
    have HB2 := Lib.hid (HB.out.below DV)
    have A2 : Hid (Arr (W.drewN nq) (w.heap.size + 2) 45 fs) := Lib.hid (T2.out.same DV)
    have hV3 : Hid (w.heap.size + 3 ≤ (W.drewN nq).heap.size) := Lib.hid (by rw [← T3.out]; exact DV.size)
    have DW := Lib.hid (T4.out.trans (DV.mono hge))
    clear DV x0 x1 y0 y1 T0 T1 T2 T3 T4 HA HB hge
    generalize W.drewN nq = V at *
    have KP := put_ok (1 + g0) A n ca x V (by omega) (by omega) HN.out h1 hca HA2.out
    have hc0 : ((1 + g0 : Nat) : Int) = 1 + (g0 : Int) := by omega
    have hc1 : ((1 + g1 : Nat) : Int) = 1 + (g1 : Int) := by omega
    rw [hc0] at KP
    have KP := Lib.hid KP
    have KQ := Lib.hid (fun U (h : Below V.heap.size V U) => (by
      have h5 := put_ok (1 + g1) B m cb y U (by omega) (by omega) HM.out h2 hcb (HB2.out.below h)
      rw [hc1] at h5
      exact h5 : Calls Try.prog 8 #[.int .i64 (1 + (g1 : Int)), .slice B m cb] U fun e w' => ∃ ad, e = .returned (.tuple #[.slice (some ad) 4 4, .int .i64 0]) ∧ RBS w' (some ad) (putL (1 + g1) y) ∧ U.heap.size ≤ ad.block ∧ Below U.heap.size U w'))
    have EX := Lib.hid (ends_putL (g := 1 + g0) (b := x) (by rw [HN.out]; exact h1))
    have EY := Lib.hid (ends_putL (g := 1 + g1) (b := y) (by rw [HM.out]; exact h2))
    have HT := torn_plain (a := 1 + g0) (b := 1 + g1) (x := x) (y := y) (fs := fs) (by omega) (by unfold maxNum; omega) (by omega) (by unfold maxNum; omega) (by omega) (by rw [HN.out]; exact h1) (by rw [HM.out]; exact h2) HF.out
    have HML := Lib.hid (mixP_len (putL (1 + g0) x) (putL (1 + g1) y) fs)
    have HMX := Lib.hid (fun U ad1 ad2 (r1 : RBS U (some ad1) (putL (1 + g0) x)) (r2 : RBS U (some ad2) (putL (1 + g1) y)) => mixed_any ad1 ad2 4 4 (putL (1 + g0) x) (putL (1 + g1) y) fs U EX.out.1 EY.out.1 HF.out (Nat.le_refl _) (Nat.le_refl _) r1 r2 (fun b hb => (EX.out.2 b hb).1) (fun b hb => (EY.out.2 b hb).1))
    generalize mixP (putL (1 + g0) x) (putL (1 + g1) y) fs = M at *
    generalize putL (1 + g0) x = X at *
    generalize putL (1 + g1) y = Y at *
    have HT := Lib.hid HT
    clear hc0 hc1
    go_wp2_with fail
    refine KP.out.mono ?_
    rintro e w1 ⟨ad1, rfl, r1, _, b1⟩
    have D1 := Lib.hid b1
    have R1 := Lib.hid r1
    have u1 : w1.cell? ⟨w.heap.size + 1, 1, none⟩ = some (.slice B m cb) := (b1.cell (lt_of_cell z1)).trans z1
    clear KP b1 r1
    go_wp2_with fail
    refine (KQ.out w1 D1.out).mono ?_
    rintro e w2 ⟨ad2, rfl, r2, _, b2⟩
    have D2 := Lib.hid (D1.out.trans (b2.mono D1.out.size))
    have R2 := Lib.hid r2
    have R1' := Lib.hid (R1.out.below b2)
    clear KQ b2 r2 u1 R1
    go_wp2
    go_loop [13] (fun i => ∃ k : Nat, k ≤ 4 ∧ i = .int .i64 k) (fun i => 4 - (intOf i).toNat)
    case atStart => exact ⟨0, Nat.zero_le _, rfl⟩
    case round =>
      obtain ⟨k, hk, rfl⟩ := hrel
      by_cases hlt : k < 4
      · obtain ⟨l, hl⟩ : ∃ l, X[k]? = some l := ⟨X[k]'(by rw [EX.out.1]; exact hlt), List.getElem?_eq_getElem _⟩
        obtain ⟨l', hl'⟩ : ∃ l, Y[k]? = some l := ⟨Y[k]'(by rw [EY.out.1]; exact hlt), List.getElem?_eq_getElem _⟩
        obtain ⟨B1, c1, p0, _, _, _⟩ := R1'.out.at hl
        obtain ⟨B2, c2, q0, _, _, _⟩ := R2.out.at hl'
        rw [(EX.out.2 l (List.mem_of_getElem? hl)).1] at p0
        rw [(EY.out.2 l' (List.mem_of_getElem? hl')).1] at q0
        clear hl hl'
        go_wp2
        go_round
        case rel => exact ⟨k + 1, by omega, by go_num⟩
        case measure => simp [intOf]; omega
      · obtain rfl : k = 4 := by omega
        have A4 : Hid (Arr w2 (w.heap.size + 1 + 1) 45 fs) := Lib.hid (A2.out.below D2.out (by have := hV3.out; omega))
        have KM := Lib.hid (HMX.out w2 ad1 ad2 R1'.out R2.out)
        clear HMX R1' R2 A2 EX EY
        go_upto_region 15 with (first
          | (refine wpList_load_mid rfl 45 (.tmp 5) rfl (w.heap.size + 1 + 1) 0 rfl (cellsB fs) _ A4.out.range Try.underlying45 rfl (infoF HF.out) ?_)
          | (go_at_call 18; refine KM.out.mono ?_; rintro e w3 ⟨A3, c3, rfl, hc3, hm3, r3, b3⟩; obtain ⟨ad3, rfl⟩ := r3.some_of (by rw [HML.out]; omega); have D3 := Lib.hid (D2.out.trans (b3.mono D2.out.size)); have R3 := Lib.hid r3; have K4 := Lib.hid (show Calls Try.prog 12 #[.slice (some ad3) 4 c3] w3 (GetPost w3 M) from get_any (some ad3) 4 c3 M w3 HML.out hc3 hm3 r3); clear b3 r3)
          | (go_at_call 12; refine K4.out.mono ?_; rintro e w4 ⟨v4, rfl, o4, b4⟩; obtain ⟨A4', c4, rfl, _, q4⟩ := o4.form; have D4 := Lib.hid (D3.out.trans (b4.mono D3.out.size)); have R4 := Lib.hid (R3.out.below b4); have Q4 := Lib.hid q4; clear b4 o4 q4)
          | fail)
        have Z0 := Lib.hid (show ∀ U, Below w4.heap.size w4 U → (U.cell? ⟨w.heap.size + 1, 0, none⟩ = some (.slice A n ca) ∧ U.cell? ⟨w.heap.size + 1, 1, none⟩ = some (.slice B m cb)) from fun U h => by
          have h5 := D4.out.trans (h.mono D4.out.size)
          exact ⟨(h5.cell (lt_of_cell z0)).trans z0, (h5.cell (lt_of_cell z1)).trans z1⟩)
        have SX := Lib.hid (fun U (h : Below w4.heap.size w4 U) => run_str U A n ca x HN.out (HA2.out.below (D4.out.trans (h.mono D4.out.size))))
        have SY := Lib.hid (fun U (h : Below w4.heap.size w4 U) => run_str U B m cb y HM.out (HB2.out.below (D4.out.trans (h.mono D4.out.size))))
        have SB := Lib.hid (fun U (h : Below w4.heap.size w4 U) => run_str U A4' _ c4 _ rfl (Q4.out.below h))
        have HGE := Lib.hid (show ∀ l ∈ M, stampP l ≤ seenP M from fun l hl => seen_mem hl 0)
        have hsl := seen_le M 0 (by omega)
        have HSP : Hid (seenP M = M.foldl seen1 0) := Lib.hid rfl
        rw [← HSP.out] at hsl
        have KS := Lib.hid (fun U (h : Below w4.heap.size w4 U) => seen_any (some ad3) 4 c3 M U HML.out hc3 hm3 (R4.out.below h))
        generalize seenP M = sn at *
        generalize getE M = E at *
        generalize getG M = G at *
        generalize getB M = Bd at *
        obtain ⟨bl, hbl⟩ : ∃ bl, bl = Bd.length := ⟨_, rfl⟩
        rw [← hbl] at SB ⊢
        have HBL := Lib.hid hbl
        clear hbl z0 z1 A4 KM K4 D3 R3 HA2 HB2 Q4 D2
        go_wp2
        go_loopw [18, 19, 20] (fun i _ _ wr => ∃ k : Nat, k ≤ 4 ∧ i = .int .i64 k ∧ Below w4.heap.size w4 wr) (fun i _ _ _ => 4 - (intOf i).toNat)
        case atStart => exact ⟨0, Nat.zero_le _, rfl, Below.refl _ _⟩
        case round =>
          obtain ⟨k, hk, rfl, hB5⟩ := hrel
          by_cases hlt : k < 4
          · obtain ⟨l, hl⟩ : ∃ l, M[k]? = some l := ⟨M[k]'(by rw [HML.out]; exact hlt), List.getElem?_eq_getElem _⟩
            obtain ⟨B1, c1, p0, p1, p2, p3⟩ := (R4.out.below hB5).at hl
            have K5 := Lib.hid (stamp_any B1 l.length c1 l wr rfl p1 p2 p3)
            have hle := HGE.out l (List.mem_of_getElem? hl)
            have hd9 : decide ((sn : Int) < (stampP l : Int)) = false := by simp; omega
            have HB5 := Lib.hid hB5
            generalize stampP l = sp at *
            generalize l.length = nl at *
            clear p1 p2 p3 hl hB5
            cases hok : okP l
            all_goals
              rw [hok] at K5
              clear hok
            · go_wp2_with (go_at_call 14; refine K5.out.mono ?_; rintro e w5 ⟨rfl, b5⟩; have D5 := Lib.hid (HB5.out.trans (b5.mono HB5.out.size)); clear b5)
              go_roundw
              case rel => exact ⟨k + 1, by omega, by go_num, D5.out⟩
              case measure => simp [intOf]; omega
            · go_wp2_with (first
                | (go_at_call 14; refine K5.out.mono ?_; rintro e w5 ⟨rfl, b5⟩; have D5 := Lib.hid (HB5.out.trans (b5.mono HB5.out.size)); clear b5)
                | (go_at_call 16; refine (KS.out _ D5.out).mono ?_; rintro e w6 ⟨rfl, b6⟩; have D6 := Lib.hid (D5.out.trans (b6.mono D5.out.size)); clear b6)
                | fail)
              go_roundw
              case rel => exact ⟨k + 1, by omega, by go_num, D6.out⟩
              case measure => simp [intOf]; omega
          · obtain rfl : k = 4 := by omega
            have hlt : ¬ ((4 : Nat) : Int) < 4 := by omega
            have D5 := Lib.hid (D4.out.trans (hB5.mono D4.out.size))
            obtain ⟨v0, v1⟩ := Z0.out wr hB5
            have s1 := SX.out wr hB5
            have s2 := SY.out wr hB5
            have s3 := SB.out wr hB5
            have hne : ((1 + (g1 : Int)) == (1 + (g0 : Int))) = false := by simpa using (by omega : ¬ (1 + (g1 : Int)) = (1 + (g0 : Int)))
            clear hB5 Z0 SX SY SB KS R4 HGE HSP hsl HML D4
            rcases HT.out with rfl | ⟨rfl, ⟨hG, hB⟩ | ⟨hG, hB⟩⟩
            · clear s1 s2 s3 v0 v1 HT
              go_wp2_with (first
                | (go_at_call 7; refine (KA.out _).mono ?_; rintro e w7 ⟨rfl, b7⟩; have D7 := Lib.hid (D5.out.trans (b7.mono D5.out.size)); clear b7)
                | fail)
              go_ret
              exact ⟨rfl, DW.out.trans (D7.out.mono (by have := hV3.out; omega))⟩
            · have hGc : (G : Int) = 1 + (g0 : Int) := by omega
              rw [hGc]
              rw [hB] at s3
              have hss : ((str x).toList == (str x).toList) = true := by simp
              clear hG hGc hB HT HBL
              go_wp2_with (first
                | (go_at_call 7; refine (KA.out _).mono ?_; rintro e w7 ⟨rfl, b7⟩; have D7 := Lib.hid (D5.out.trans (b7.mono D5.out.size)); clear b7)
                | fail)
              go_ret
              exact ⟨rfl, DW.out.trans (D7.out.mono (by have := hV3.out; omega))⟩
            · have hGc : (G : Int) = 1 + (g1 : Int) := by omega
              rw [hGc]
              rw [hB] at s3
              have hss : ((str y).toList == (str y).toList) = true := by simp
              clear hG hGc hB HT HBL
              go_wp2_with (first
                | (go_at_call 7; refine (KA.out _).mono ?_; rintro e w7 ⟨rfl, b7⟩; have D7 := Lib.hid (D5.out.trans (b7.mono D5.out.size)); clear b7)
                | fail)
              go_ret
              exact ⟨rfl, DW.out.trans (D7.out.mono (by have := hV3.out; omega))⟩
end Go.Proofs.Ytlpobinmkedgeaa
