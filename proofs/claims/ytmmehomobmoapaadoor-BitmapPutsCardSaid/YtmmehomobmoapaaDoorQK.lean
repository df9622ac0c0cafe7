/- The document's Rank and Select. -/
import Derived.Test.YtmmehomobmoapaaDoorQJ
namespace Go.Proofs.YtmmehomobmoapaaDoor
open Go.RowKit
set_option linter.unusedVariables false
set_option linter.unusedSimpArgs false
def rankB (s : Int) (L : List UInt64) (n : Int) : Nat := if okB s L = true then cnt (bitL L) (min n.toNat s.toNat) else 0
def hitS (L : List UInt64) (k n : Nat) : Bool := bitL L n && decide (cnt (bitL L) n = k)
def selR (s : Int) (L : List UInt64) (k : Int) : Nat := seekN (hitS L k.toNat) 0 s.toNat
def selB (s : Int) (L : List UInt64) (k : Int) : Bool := okB s L && decide (0 ≤ k) && decide (selR s L k < s.toNat)
def selN (s : Int) (L : List UInt64) (k : Int) : Nat := if selB s L k = true then selR s L k else 0
theorem sel_hit {s r k : Nat} {L : List UInt64} (ho : okB (s : Int) L = true) (h2 : r < s) (h3 : hitS L k r = true) (h4 : ∀ i, i < r → hitS L k i = false) : selB (s : Int) L (k : Int) = true ∧ selN (s : Int) L (k : Int) = r := by
  have e : selR (s : Int) L (k : Int) = r := by
    unfold selR
    rw [Int.toNat_natCast, Int.toNat_natCast]
    exact seek_hit (Nat.zero_le _) (by omega) h3 (fun i _ h => h4 i h)
  have b : selB (s : Int) L (k : Int) = true := by
    unfold selB
    rw [ho, e, Int.toNat_natCast, decide_eq_true (Int.natCast_nonneg _), decide_eq_true h2]
    rfl
  refine ⟨b, ?_⟩
  unfold selN
  rw [if_pos b, e]
theorem sel_none {s k : Nat} {L : List UInt64} (h : ∀ i, i < s → hitS L k i = false) : selB (s : Int) L (k : Int) = false ∧ selN (s : Int) L (k : Int) = 0 := by
  have e : selR (s : Int) L (k : Int) = s := by
    unfold selR
    rw [Int.toNat_natCast, Int.toNat_natCast, seek_none (fun i _ h2 => h i (by omega))]
    omega
  have b : selB (s : Int) L (k : Int) = false := by
    unfold selB
    rw [e, Int.toNat_natCast, decide_eq_false (Nat.lt_irrefl s), Bool.and_false]
  refine ⟨b, ?_⟩
  unfold selN
  rw [if_neg (by rw [b]; simp)]
theorem sel_bad {s : Int} {L : List UInt64} {k : Int} (h : okB s L = false ∨ k < 0) : selB s L k = false ∧ selN s L k = 0 := by
  have b : selB s L k = false := by
    unfold selB
    rcases h with h | h
    · rw [h]; rfl
    · rw [decide_eq_false (by omega), Bool.and_false]; rfl
  refine ⟨b, ?_⟩
  unfold selN
  rw [if_neg (by rw [b]; simp)]
set_option maxHeartbeats 1000000 in
set_option maxRecDepth 100000 in
theorem refRank_any (s : Int) (A : Option Addr) (c : Nat) (L : List UInt64) (n : Int) (w : World) (hr : RQ w A L) : Calls Tryd.prog 25 #[.agg #[.int .i64 s, .slice A L.length c], .int .i64 n] w fun e w' => e = .returned (.int .i64 (rankB s L n : Int)) ∧ Below w.heap.size w w' := by
  have HR := Lib.hid hr
  have BX := Lib.hid (fun W h => bx2 w (.int .i64 s) (.slice A L.length c) 24 (W := W) h)
  have B0 := Lib.hid ((Below.refl _ w).alloc (Nat.le_refl _) (.cells #[.int .i64 s, .slice A L.length c] 24))
  obtain ⟨x0, x1⟩ := BX.out _ (Below.refl _ _)
  have KC := fun W (hb : Below w.heap.size w W) => refCheck_any s A c L W (HR.out.below hb)
  rcases chk_cases s L with ⟨h0, h1⟩ | ⟨h0, h1⟩
  · rw [h1] at KC
    have KC := Lib.hid KC
    obtain ⟨m, rfl, hm, hl, _⟩ := okB_nat h0
    have KB := Lib.hid (fun (k : Nat) W (hk : k < m) (hb : Below w.heap.size w W) => refBit_any (m : Int) A c L k W (by omega) (by omega) (HR.out.below hb))
    obtain ⟨b, hbe⟩ : ∃ b, b = min n.toNat m := ⟨_, rfl⟩
    have HF : Hid (rankB (m : Int) L n = cnt (bitL L) b) := Lib.hid (by unfold rankB; rw [if_pos h0, Int.toNat_natCast, ← hbe])
    generalize rankB (m : Int) L n = R at *
    generalize L.length = N at *
    clear h0 h1 hl hr
    go_enter Tryd.func25, Tryd.ntmps25
    go_wp2
    generalize w.alloc (.cells #[.int .i64 (m : Int), .slice A N c] 24) = V at *
    have HBE0 := Lib.hid hbe
    clear hbe
    go_loopw [5, 6] (fun k i wr => ∃ j : Nat, j ≤ b ∧ i = .int .i64 (j : Int) ∧ k = .int .i64 ((cnt (bitL L) j : Nat) : Int) ∧ Below V.heap.size V wr) (fun _ i _ => b - (RowKit.intOf i).toNat)
    case atStart => exact ⟨0, Nat.zero_le _, rfl, rfl, Below.refl _ _⟩
    case round =>
      obtain ⟨j, hj, rfl, rfl, hb⟩ := hrel
      have HBV := Lib.hid hb
      have HBE := Lib.hid (B0.out.trans (hb.mono B0.out.size))
      obtain ⟨u0, u1⟩ := BX.out wr hb
      have hcj := cnt_le (bitL L) j
      clear hb x0 x1
      have hbm : b ≤ m := by have := HBE0.out; omega
      by_cases hlt : j < b
      · have hlt' : (j : Int) < n := by have := HBE0.out; omega
        have hlm : (j : Int) < (m : Int) := by omega
        have hjm : j < m := by omega
        have HC := Lib.hid (show cnt (bitL L) (j + 1) = cnt (bitL L) j + (bitL L j).toNat from rfl)
        go_wp2_with fail
        refine (KC.out _ HBE.out).mono ?_
        rintro e w1 ⟨rfl, b1⟩
        have BV1 := Lib.hid (HBV.out.trans (b1.mono HBV.out.size))
        have BE1 := Lib.hid (HBE.out.trans (b1.mono HBE.out.size))
        obtain ⟨v0, v1⟩ := BX.out w1 BV1.out
        clear b1 u0 u1
        go_wp2_with fail
        refine (KB.out j w1 hjm BE1.out).mono ?_
        rintro e w2 ⟨rfl, b2⟩
        have BV2 := Lib.hid (BV1.out.trans (b2.mono BV1.out.size))
        clear b2 v0 v1
        generalize bitL L j = bj at *
        have HC : Hid (cnt (bitL L) (j + 1) = cnt (bitL L) j + bj.toNat) := HC
        generalize cnt (bitL L) j = cj at *
        cases bj
        · go_wp2
          go_roundw
          case rel => exact ⟨j + 1, by omega, by go_num, by rw [HC.out]; rfl, BV2.out⟩
          case measure => simp [RowKit.intOf]; omega
        · go_wp2
          go_roundw
          case rel => exact ⟨j + 1, by omega, by go_num, by rw [HC.out]; rfl, BV2.out⟩
          case measure => simp [RowKit.intOf]; omega
      · obtain rfl : j = b := by omega
        by_cases hn : (j : Int) < n
        · have hle : m ≤ j := by have := HBE0.out; omega
          have hd : decide ((j : Int) < (m : Int)) = false := by simp; omega
          go_wp2
          go_ret
          rw [HF.out]
          exact ⟨rfl, HBE.out⟩
        · have hd : decide ((j : Int) < n) = false := by simp; omega
          clear hn
          go_wp2
          go_ret
          rw [HF.out]
          exact ⟨rfl, HBE.out⟩
  · rw [h1] at KC
    have KC := Lib.hid KC
    have HF : Hid (rankB s L n = 0) := Lib.hid (by unfold rankB; rw [if_neg (by rw [h0]; simp)])
    generalize rankB s L n = R at *
    generalize L.length = N at *
    clear h0 h1 hr
    by_cases hn : 0 < n
    · by_cases hs : 0 < s
      · go_enter Tryd.func25, Tryd.ntmps25
        go_wp2
        go_loopw [5, 6] (fun k i wr => k = .int .i64 0 ∧ i = .int .i64 0 ∧ wr = w.alloc (.cells #[.int .i64 s, .slice A N c] 24)) (fun _ _ _ => 0)
        case atStart => exact ⟨rfl, rfl, rfl⟩
        case round =>
          obtain ⟨rfl, rfl, rfl⟩ := hrel
          go_wp2_with fail
          refine (KC.out _ B0.out).mono ?_
          rintro e w1 ⟨rfl, b1⟩
          have BE1 := Lib.hid (B0.out.trans (b1.mono B0.out.size))
          clear b1
          go_wp2
          go_ret
          rw [HF.out]
          exact ⟨rfl, BE1.out⟩
      · have hd : decide (0 < s) = false := by simp; omega
        clear hs
        go_enter Tryd.func25, Tryd.ntmps25
        go_wp2
        go_loopw [5, 6] (fun k i wr => k = .int .i64 0 ∧ i = .int .i64 0 ∧ wr = w.alloc (.cells #[.int .i64 s, .slice A N c] 24)) (fun _ _ _ => 0)
        case atStart => exact ⟨rfl, rfl, rfl⟩
        case round =>
          obtain ⟨rfl, rfl, rfl⟩ := hrel
          go_wp2
          go_ret
          rw [HF.out]
          exact ⟨rfl, B0.out⟩
    · have hd : decide (0 < n) = false := by simp; omega
      clear hn
      go_enter Tryd.func25, Tryd.ntmps25
      go_wp2
      go_loopw [5, 6] (fun k i wr => k = .int .i64 0 ∧ i = .int .i64 0 ∧ wr = w.alloc (.cells #[.int .i64 s, .slice A N c] 24)) (fun _ _ _ => 0)
      case atStart => exact ⟨rfl, rfl, rfl⟩
      case round =>
        obtain ⟨rfl, rfl, rfl⟩ := hrel
        go_wp2
        go_ret
        rw [HF.out]
        exact ⟨rfl, B0.out⟩
set_option maxHeartbeats 1000000 in
set_option maxRecDepth 100000 in
theorem refSelect_any (s : Int) (A : Option Addr) (c : Nat) (L : List UInt64) (k : Int) (w : World) (hi : k ≤ 9223372036854775807) (hr : RQ w A L) : Calls Tryd.prog 23 #[.agg #[.int .i64 s, .slice A L.length c], .int .i64 k] w fun e w' => e = .returned (.tuple #[.int .i64 (selN s L k : Int), .bool (selB s L k)]) ∧ Below w.heap.size w w' := by
  have HR := Lib.hid hr
  have BX := Lib.hid (fun W h => bx2 w (.int .i64 s) (.slice A L.length c) 24 (W := W) h)
  have B0 := Lib.hid ((Below.refl _ w).alloc (Nat.le_refl _) (.cells #[.int .i64 s, .slice A L.length c] 24))
  obtain ⟨x0, x1⟩ := BX.out _ (Below.refl _ _)
  have KC := fun W (hb : Below w.heap.size w W) => refCheck_any s A c L W (HR.out.below hb)
  by_cases hk : 0 ≤ k
  · obtain ⟨k, rfl⟩ := Int.eq_ofNat_of_zero_le hk
    rcases chk_cases s L with ⟨h0, h1⟩ | ⟨h0, h1⟩
    · rw [h1] at KC
      have KC := Lib.hid KC
      obtain ⟨m, rfl, hm, hl, _⟩ := okB_nat h0
      have KB := Lib.hid (fun (j : Nat) W (hk : j < m) (hb : Below w.heap.size w W) => refBit_any (m : Int) A c L j W (by omega) (by omega) (HR.out.below hb))
      have HT := Lib.hid (fun r h1 h2 h3 => sel_hit (k := k) h0 (r := r) h1 h2 h3)
      have HN := Lib.hid (fun h => sel_none (s := m) (k := k) (L := L) h)
      generalize selB (m : Int) L (k : Int) = RB at *
      generalize selN (m : Int) L (k : Int) = RN at *
      generalize L.length = N at *
      clear h0 h1 hl hr hk
      go_enter Tryd.func23, Tryd.ntmps23
      go_wp2
      generalize w.alloc (.cells #[.int .i64 (m : Int), .slice A N c] 24) = V at *
      go_loopw [1, 6] (fun q i wr => ∃ j t : Nat, j ≤ m ∧ i = .int .i64 (j : Int) ∧ q = .int .i64 (t : Int) ∧ t + cnt (bitL L) j = k ∧ (∀ i, i < j → hitS L k i = false) ∧ Below V.heap.size V wr) (fun _ i _ => m - (RowKit.intOf i).toNat)
      case atStart => exact ⟨0, k, Nat.zero_le _, rfl, rfl, rfl, fun i h => by omega, Below.refl _ _⟩
      case round =>
        obtain ⟨j, t, hj, rfl, rfl, ht, hall, hb⟩ := hrel
        have HALL := Lib.hid hall
        have HBV := Lib.hid hb
        have HBE := Lib.hid (B0.out.trans (hb.mono B0.out.size))
        obtain ⟨u0, u1⟩ := BX.out wr hb
        have HTE := Lib.hid ht
        clear hb x0 x1 ht hall
        by_cases hlt : j < m
        · have hlm : (j : Int) < (m : Int) := by omega
          have ht0 : (0 : Int) ≤ (t : Int) := by omega
          have HC := Lib.hid (show cnt (bitL L) (j + 1) = cnt (bitL L) j + (bitL L j).toNat from rfl)
          have HH := Lib.hid (show hitS L k j = (bitL L j && decide (cnt (bitL L) j = k)) from rfl)
          go_wp2_with fail
          refine (KC.out _ HBE.out).mono ?_
          rintro e w1 ⟨rfl, b1⟩
          have BV1 := Lib.hid (HBV.out.trans (b1.mono HBV.out.size))
          have BE1 := Lib.hid (HBE.out.trans (b1.mono HBE.out.size))
          obtain ⟨v0, v1⟩ := BX.out w1 BV1.out
          clear b1 u0 u1
          go_wp2_with fail
          refine (KB.out j w1 hlt BE1.out).mono ?_
          rintro e w2 ⟨rfl, b2⟩
          have BV2 := Lib.hid (BV1.out.trans (b2.mono BV1.out.size))
          have BE2 := Lib.hid (BE1.out.trans (b2.mono BE1.out.size))
          clear b2 v0 v1
          cases hbj : bitL L j with
          | false =>
            rw [hbj] at HC HH
            have HHF : Hid (hitS L k j = false) := Lib.hid (by rw [HH.out]; rfl)
            clear hbj HH
            go_wp2
            go_roundw
            case rel =>
              refine ⟨j + 1, t, by omega, by go_num, rfl, by rw [HC.out]; exact HTE.out, fun i hi => ?_, BV2.out⟩
              by_cases e : i = j
              · subst e; exact HHF.out
              · exact HALL.out i (by omega)
            case measure => simp [RowKit.intOf]; omega
          | true =>
            rw [hbj] at HC HH
            clear hbj
            by_cases h0 : t = 0
            · subst h0
              have hit : hitS L k j = true := by
                rw [HH.out, Bool.true_and]
                have := HTE.out
                exact decide_eq_true (by omega)
              obtain ⟨t1, t2⟩ := HT.out j hlt hit HALL.out
              have T1 := Lib.hid t1
              have T2 := Lib.hid t2
              clear t1 t2 hit
              go_wp2
              go_ret2
              rw [T1.out, T2.out]
              exact ⟨rfl, BE2.out⟩
            · have h0' : ((t : Int) == 0) = false := by simp; omega
              have HHF : Hid (hitS L k j = false) := Lib.hid (by
                rw [HH.out, Bool.true_and]
                have := HTE.out
                exact decide_eq_false (by omega))
              have htb : (t : Int) ≤ 9223372036854775807 := by have := HTE.out; omega
              go_wp2
              go_roundw
              case rel =>
                refine ⟨j + 1, t - 1, by omega, by go_num, by go_num, by rw [HC.out]; have := HTE.out; show t - 1 + (cnt (bitL L) j + 1) = k; omega, fun i hi => ?_, BV2.out⟩
                by_cases e : i = j
                · subst e; exact HHF.out
                · exact HALL.out i (by omega)
              case measure => simp [RowKit.intOf]; omega
        · obtain rfl : j = m := by omega
          obtain ⟨t1, t2⟩ := HN.out HALL.out
          have T1 := Lib.hid t1
          have T2 := Lib.hid t2
          clear t1 t2
          go_wp2
          go_ret2
          rw [T1.out, T2.out]
          exact ⟨rfl, HBE.out⟩
    · rw [h1] at KC
      have KC := Lib.hid KC
      obtain ⟨t1, t2⟩ := sel_bad (k := (k : Int)) (.inl h0)
      rw [t1, t2]
      generalize L.length = N at *
      clear h0 h1 hr t1 t2
      by_cases hs : 0 < s
      · go_enter Tryd.func23, Tryd.ntmps23
        go_wp2
        go_loopw [1, 6] (fun q i wr => q = .int .i64 (k : Int) ∧ i = .int .i64 0 ∧ wr = w.alloc (.cells #[.int .i64 s, .slice A N c] 24)) (fun _ _ _ => 0)
        case atStart => exact ⟨rfl, rfl, rfl⟩
        case round =>
          obtain ⟨rfl, rfl, rfl⟩ := hrel
          go_wp2_with fail
          refine (KC.out _ B0.out).mono ?_
          rintro e w1 ⟨rfl, b1⟩
          have BE1 := Lib.hid (B0.out.trans (b1.mono B0.out.size))
          clear b1
          go_wp2
          go_ret2
          exact ⟨rfl, BE1.out⟩
      · have hd : decide (0 < s) = false := by simp; omega
        clear hs
        go_enter Tryd.func23, Tryd.ntmps23
        go_wp2
        go_loopw [1, 6] (fun q i wr => q = .int .i64 (k : Int) ∧ i = .int .i64 0 ∧ wr = w.alloc (.cells #[.int .i64 s, .slice A N c] 24)) (fun _ _ _ => 0)
        case atStart => exact ⟨rfl, rfl, rfl⟩
        case round =>
          obtain ⟨rfl, rfl, rfl⟩ := hrel
          go_wp2
          go_ret2
          exact ⟨rfl, B0.out⟩
  · obtain ⟨t1, t2⟩ := sel_bad (s := s) (L := L) (k := k) (.inr (by omega))
    rw [t1, t2]
    have hd : decide (0 ≤ k) = false := by simp; omega
    generalize L.length = N at *
    clear hk hr t1 t2 KC
    by_cases hs : 0 < s
    · go_enter Tryd.func23, Tryd.ntmps23
      go_wp2
      go_loopw [1, 6] (fun q i wr => q = .int .i64 k ∧ i = .int .i64 0 ∧ wr = w.alloc (.cells #[.int .i64 s, .slice A N c] 24)) (fun _ _ _ => 0)
      case atStart => exact ⟨rfl, rfl, rfl⟩
      case round =>
        obtain ⟨rfl, rfl, rfl⟩ := hrel
        go_wp2
        go_ret2
        exact ⟨rfl, B0.out⟩
    · have hd2 : decide (0 < s) = false := by simp; omega
      clear hs
      go_enter Tryd.func23, Tryd.ntmps23
      go_wp2
      go_loopw [1, 6] (fun q i wr => q = .int .i64 k ∧ i = .int .i64 0 ∧ wr = w.alloc (.cells #[.int .i64 s, .slice A N c] 24)) (fun _ _ _ => 0)
      case atStart => exact ⟨rfl, rfl, rfl⟩
      case round =>
        obtain ⟨rfl, rfl, rfl⟩ := hrel
        go_wp2
        go_ret2
        exact ⟨rfl, B0.out⟩
end Go.Proofs.YtmmehomobmoapaaDoor
