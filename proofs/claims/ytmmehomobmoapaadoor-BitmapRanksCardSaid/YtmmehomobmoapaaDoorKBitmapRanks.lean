/- The law BitmapRanks: what it leans on (plain), and the walk. -/
import Derived.Test.YtmmehomobmoapaaDoorQg
namespace Go.Proofs.YtmmehomobmoapaaDoor.bitmapRanks
open Go.RowKit
set_option linter.unusedVariables false
set_option linter.unusedSimpArgs false
theorem seekN_le_of {p : Nat → Bool} : ∀ {k a r : Nat}, a ≤ r → r < a + k → p r = true → seekN p a k ≤ r
  | 0, a, r, h1, h2, _ => by omega
  | k + 1, a, r, h1, h2, h3 => by
    unfold seekN
    split
    · exact h1
    · rename_i hp
      by_cases e : a = r
      · subst e; exact absurd h3 hp
      · exact seekN_le_of (by omega) (by omega) h3
theorem hit_iff {L : List UInt64} {k r : Nat} : hitS L k r = true ↔ bitL L r = true ∧ cnt (bitL L) r = k := by
  unfold hitS
  simp only [Bool.and_eq_true, decide_eq_true_eq]
theorem sel_tell {s k : Nat} {L : List UInt64} (ho : okB (s : Int) L = true) : selB (s : Int) L (k : Int) = decide (k < cnt (bitL L) s) := by
  unfold selB selR
  rw [ho, Int.toNat_natCast, Int.toNat_natCast, decide_eq_true (Int.natCast_nonneg k), Bool.true_and, Bool.true_and, decide_eq_decide]
  constructor
  · intro h
    have := hit_iff.1 (seekN_hit (hitS L k) 0 s (by omega))
    have h2 := cnt_step h this.1
    omega
  · intro h
    obtain ⟨i, h1, h2, h3⟩ := rank_ex h
    exact Nat.lt_of_le_of_lt (seekN_le_of (Nat.zero_le _) (by omega) (by unfold hitS; rw [h2, h3, decide_eq_true rfl]; rfl)) h1
theorem sel_is {s k : Nat} {L : List UInt64} (h : selB (s : Int) L (k : Int) = true) : selN (s : Int) L (k : Int) < s ∧ bitL L (selN (s : Int) L (k : Int)) = true ∧ cnt (bitL L) (selN (s : Int) L (k : Int)) = k := by
  have e : selN (s : Int) L (k : Int) = seekN (hitS L k) 0 s := by
    unfold selN
    rw [if_pos h]
    unfold selR
    rw [Int.toNat_natCast, Int.toNat_natCast]
  have hlt : seekN (hitS L k) 0 s < s := by
    unfold selB selR at h
    rw [Int.toNat_natCast, Int.toNat_natCast] at h
    simp only [Bool.and_eq_true, decide_eq_true_eq] at h
    exact h.2
  have := seekN_hit (hitS L k) 0 s (by omega)
  rw [e]
  exact ⟨hlt, hit_iff.1 this⟩
theorem rank_at {s n : Nat} {L : List UInt64} (ho : okB (s : Int) L = true) (hn : n ≤ s) : rankB (s : Int) L (n : Int) = cnt (bitL L) n := by
  unfold rankB
  rw [if_pos ho, Int.toNat_natCast, Int.toNat_natCast, Nat.min_eq_left hn]
theorem has_at {s n : Nat} {L : List UInt64} (ho : okB (s : Int) L = true) : hasB (s : Int) L (n : Int) = (decide (n < s) && bitL L n) := by
  unfold hasB
  rw [ho, Bool.true_and, Int.toNat_natCast]
  congr 1
  rw [decide_eq_decide]
  omega
theorem sel_back {s n : Nat} {L : List UInt64} (ho : okB (s : Int) L = true) (hn : n < s) (hb : bitL L n = true) : selB (s : Int) L ((cnt (bitL L) n : Nat) : Int) = true ∧ selN (s : Int) L ((cnt (bitL L) n : Nat) : Int) = n := by
  refine sel_hit ho hn (by unfold hitS; rw [hb, decide_eq_true rfl]; rfl) fun i hi => ?_
  unfold hitS
  cases hbi : bitL L i with
  | false => rfl
  | true =>
    have := cnt_step hi hbi
    rw [Bool.true_and]
    exact decide_eq_false (by omega)
theorem next_free {s n : Nat} {L : List UInt64} (ho : okB (s : Int) L = true) (h : hasB (s : Int) L (n : Int) = false) : nextB (s : Int) L (n : Int) false = decide (n < s) ∧ (n < s → nextN (s : Int) L (n : Int) false = n) := by
  rw [has_at ho] at h
  by_cases hn : n < s
  · rw [decide_eq_true hn, Bool.true_and] at h
    obtain ⟨h1, h2⟩ := next_hit (on := false) (f := (n : Int)) (a := n) (r := n) ho (Int.toNat_natCast n) (Nat.le_refl _) hn (by unfold isOn; rw [h]; rfl) (fun i h1 h2 => by omega)
    exact ⟨by rw [h1, decide_eq_true hn], fun _ => h2⟩
  · obtain ⟨h1, h2⟩ := next_none (s := s) (L := L) (on := false) (f := (n : Int)) (a := n) (Int.toNat_natCast n) (fun i h1 h2 => by omega)
    exact ⟨by rw [h1, decide_eq_false hn], fun h => absurd h hn⟩
set_option maxHeartbeats 8000000 in
set_option maxRecDepth 100000 in
theorem core (s : Nat) (A : Option Addr) (len c : Nat) (l : List UInt8) (n : Nat) (w : World) (hs : s ≤ 255) (hn : n ≤ 255) (hlen : len ≤ 9223372036854775807) (hl : l.length = len) (hr : RB w A l) (hT : TabAt 0 Lib.deBruijn64tab w) :
    Calls Tryd.prog 7 #[.int .u8 (s : Int), .slice A len c, .int .u8 (n : Int)] w fun e w' => e = .returned (.bool true) ∧ Below w.heap.size w w' := by
  have HT := Lib.hid (fun W (hb : Below w.heap.size w W) => TabAt.below hT hb (TabAt.pos hT))
  have KA := Lib.hid (fun W (hb : Below w.heap.size w W) => awake_any W (HT.out W hb))
  have KM := Lib.hid (made_any s A len c l w hs hlen hl hr)
  have ho := madeL_ok (s := s) (by omega) l
  generalize madeL s l = L at *
  have HO := Lib.hid ho
  clear hl hr hT
  go_enter Tryd.func7, Tryd.ntmps7
  go_wp2_with fail
  refine KM.out.mono ?_
  rintro e w1 ⟨v, rfl, o1, b1⟩
  obtain ⟨Av, cv, rfl, hcv, hrv⟩ := o1.form
  obtain ⟨x0, x1⟩ := bx2 w1 (.int .i64 (s : Int)) (.slice Av L.length cv) 27 (Below.refl _ _)
  have B1 := Lib.hid (b1.alloc b1.size (.cells #[.int .i64 (s : Int), .slice Av L.length cv] 27))
  have R1 := Lib.hid (hrv.alloc (.cells #[.int .i64 (s : Int), .slice Av L.length cv] 27))
  obtain ⟨q, hq⟩ : ∃ q, q = w1.heap.size := ⟨_, rfl⟩
  have KR := Lib.hid (fun (k : Int) W (hb : RQ W Av L) => rank_any (s : Int) Av cv L k W hcv hb)
  have KS := Lib.hid (fun (k : Int) W (hk : k ≤ 9223372036854775807) (hb : RQ W Av L) (ht : TabAt 0 Lib.deBruijn64tab W) => select_any (s : Int) Av cv L k W hk hb ht)
  have KH := Lib.hid (fun (k : Int) W (hb : RQ W Av L) => has_any (s : Int) Av cv L k W hb)
  have KN := Lib.hid (fun (k : Int) W (hb : RQ W Av L) (ht : TabAt 0 Lib.deBruijn64tab W) => next_any (s : Int) Av cv L k false W hb ht)
  generalize L.length = N at *
  clear KM o1 b1 hrv hcv
  go_wp2_with fail
  generalize w1.alloc (.cells #[.int .i64 (s : Int), .slice Av N cv] 27) = W1 at *
  rw [← hq] at x0 x1 ⊢
  clear hq
  have CX := Lib.hid (fun W (h : Below W1.heap.size W1 W) => And.intro ((h.cell (p := ⟨q, 0, none⟩) (lt_of_cell x0)).trans x0) ((h.cell (p := ⟨q, 1, none⟩) (lt_of_cell x1)).trans x1))
  have K := KR.out (s : Int) W1 R1.out
  rw [rank_at ho (Nat.le_refl _)] at K
  refine K.mono ?_
  rintro e w2 ⟨rfl, b2⟩
  have V2 := Lib.hid b2
  obtain ⟨y0, y1⟩ := CX.out w2 b2
  clear K b2 x0 x1
  go_wp2_with fail
  have K := KS.out (n : Int) w2 (by omega) (R1.out.below V2.out) (HT.out _ (B1.out.trans (V2.out.mono B1.out.size)))
  refine K.mono ?_
  rintro e w3 ⟨rfl, b3⟩
  have V3 := Lib.hid (V2.out.trans (b3.mono V2.out.size))
  obtain ⟨z0, z1⟩ := CX.out w3 V3.out
  clear K b3 y0 y1 V2
  obtain ⟨xb, hxb⟩ : ∃ xb, xb = selB (s : Int) L (n : Int) := ⟨_, rfl⟩
  have HTell := Lib.hid (hxb.trans (sel_tell (k := n) ho))
  have HIs := Lib.hid (fun (h : xb = true) => sel_is (s := s) (k := n) (L := L) (hxb.symm.trans h))
  rw [← hxb]
  clear hxb
  have hcnt := cnt_le (bitL L) s
  have BE := Lib.hid (fun W (h : Below W1.heap.size W1 W) => B1.out.trans (h.mono B1.out.size))
  go_upto_region 6 with fail
  go_cut [57] from 35 to 57 (fun t wx => t = .bool false ∧ Below W1.heap.size W1 wx)
  case first =>
    cases xb with
    | true =>
      have hlt : n < cnt (bitL L) s := of_decide_eq_true HTell.out.symm
      obtain ⟨i1, i2, i3⟩ := HIs.out rfl
      have hd : (n : Int) < (cnt (bitL L) s : Int) := by omega
      have KR1 := KR.out (selN (s : Int) L (n : Int) : Int) w3 (R1.out.below V3.out)
      rw [rank_at ho (Nat.le_of_lt i1), i3] at KR1
      have KH1 := fun W (hb : Below W1.heap.size W1 W) => KH.out (selN (s : Int) L (n : Int) : Int) W (R1.out.below hb)
      have hh : hasB (s : Int) L (selN (s : Int) L (n : Int) : Int) = true := by rw [has_at ho, decide_eq_true i1, i2]; rfl
      rw [hh] at KH1
      have KR1 := Lib.hid KR1
      have KH1 := Lib.hid KH1
      generalize selN (s : Int) L (n : Int) = x at *
      generalize cnt (bitL L) s = al at *
      clear HTell hh i1 i2 i3 HIs ho
      go_wp2_with fail
      refine KR1.out.mono ?_
      rintro e w4 ⟨rfl, b4⟩
      have V4 := Lib.hid (V3.out.trans (b4.mono V3.out.size))
      obtain ⟨u0, u1⟩ := CX.out w4 V4.out
      clear b4 z0 z1
      go_wp2_with fail
      refine (KH1.out _ V4.out).mono ?_
      rintro e w5 ⟨rfl, b5⟩
      have V5 := Lib.hid (V4.out.trans (b5.mono V4.out.size))
      clear b5 u0 u1
      go_wp2_with fail
      go_meet
      exact ⟨rfl, V5.out⟩
    | false =>
      have hlt : ¬ n < cnt (bitL L) s := of_decide_eq_false HTell.out.symm
      have hd : decide ((n : Int) < (cnt (bitL L) s : Int)) = false := by simp; omega
      have hd2 : decide (n < cnt (bitL L) s) = false := decide_eq_false hlt
      have hle : cnt (bitL L) s ≤ n := by omega
      generalize selN (s : Int) L (n : Int) = x at *
      generalize cnt (bitL L) s = al at *
      clear HTell HIs hlt ho
      go_wp2_with fail
      go_meet
      exact ⟨rfl, V3.out⟩
  case rest =>
    obtain ⟨rfl, hv⟩ := hcut
    have V6 := Lib.hid hv
    obtain ⟨a0, a1⟩ := CX.out wc hv
    clear hv z0 z1 HTell HIs hcnt
    generalize selN (s : Int) L (n : Int) = x at *
    generalize cnt (bitL L) s = al at *
    have KH1 := KH.out (n : Int) wc (R1.out.below V6.out)
    cases hb : hasB (s : Int) L (n : Int) with
    | true =>
      rw [hb] at KH1
      rw [has_at ho] at hb
      simp only [Bool.and_eq_true, decide_eq_true_eq] at hb
      have KR1 := fun W (hb : Below W1.heap.size W1 W) => KR.out (n : Int) W (R1.out.below hb)
      rw [rank_at ho (Nat.le_of_lt hb.1)] at KR1
      obtain ⟨s1, s2⟩ := sel_back ho hb.1 hb.2
      have hcn := cnt_le (bitL L) n
      have KS1 := fun W (hb : Below W1.heap.size W1 W) => KS.out ((cnt (bitL L) n : Nat) : Int) W (by omega) (R1.out.below hb) (HT.out _ (BE.out _ hb))
      rw [s1, s2] at KS1
      generalize cnt (bitL L) n = cn at *
      have KH1 := Lib.hid KH1
      have KR1 := Lib.hid KR1
      have KS1 := Lib.hid KS1
      have hwn : IntKind.i64.wrap (n : Int) = (n : Int) := by rw [IntKind.wrap_i64]; omega
      have enn : ((n : Int) == (n : Int)) = true := by simp
      clear s1 s2 hb ho hcn
      go_wp2_with fail
      refine KH1.out.mono ?_
      rintro e w7 ⟨rfl, b7⟩
      have V7 := Lib.hid (V6.out.trans (b7.mono V6.out.size))
      clear b7 a0 a1
      go_upto_region 9 with fail
      have VV := Lib.hid V7.out.drew
      have cc := CX.out w7.drew VV.out
      go_region_held3 (fun W => W.cell? ⟨q, 0, none⟩ = some (.int .i64 (s : Int)) ∧ W.cell? ⟨q, 1, none⟩ = some (.slice Av N cv)) (first | with_reducible assumption | with_reducible exact cc | fail)
        (first
          | (go_at_call 24; with_reducible refine Calls.mono (KR1.out _ VV.out) ?_; rintro e w8 ⟨rfl, b8⟩; have VV := Lib.hid (VV.out.trans (b8.mono VV.out.size)); have cc := CX.out w8 VV.out; clear b8)
          | (go_at_call 22; with_reducible refine Calls.mono (KS1.out _ VV.out) ?_; rintro e w8 ⟨rfl, b8⟩; have VV := Lib.hid (VV.out.trans (b8.mono VV.out.size)); have cc := CX.out w8 VV.out; clear b8)
          | fail)
      all_goals
        go_wp2_with fail
        refine (KA.out _ (BE.out _ VV.out)).mono ?_
        rintro e w9 ⟨rfl, b9⟩
        have V9 := Lib.hid (VV.out.trans (b9.mono VV.out.size))
        clear b9
        go_wp2
        go_ret
        exact ⟨rfl, BE.out _ V9.out⟩
    | false =>
      rw [hb] at KH1
      obtain ⟨f1, f2⟩ := next_free ho hb
      have KN1 := fun W (hb : Below W1.heap.size W1 W) => KN.out (n : Int) W (R1.out.below hb) (HT.out _ (BE.out _ hb))
      rw [f1] at KN1
      have KH1 := Lib.hid KH1
      by_cases hns : n < s
      · rw [decide_eq_true hns, f2 hns] at KN1
        have KN1 := Lib.hid KN1
        have hd : (n : Int) < (s : Int) := by omega
        have enn : ((n : Int) == (n : Int)) = true := by simp
        clear f1 f2 hb ho
        go_wp2_with fail
        refine KH1.out.mono ?_
        rintro e w7 ⟨rfl, b7⟩
        have V7 := Lib.hid (V6.out.trans (b7.mono V6.out.size))
        clear b7 a0 a1
        obtain ⟨a0, a1⟩ := CX.out w7 V7.out
        go_wp2_with fail
        refine (KN1.out _ V7.out).mono ?_
        rintro e w8 ⟨rfl, b8⟩
        have V8 := Lib.hid (V7.out.trans (b8.mono V7.out.size))
        clear b8 a0 a1
        go_wp2_with fail
        refine (KA.out _ (BE.out _ V8.out)).mono ?_
        rintro e w9 ⟨rfl, b9⟩
        have V9 := Lib.hid (V8.out.trans (b9.mono V8.out.size))
        clear b9
        go_wp2
        go_ret
        exact ⟨rfl, BE.out _ V9.out⟩
      · rw [decide_eq_false hns] at KN1
        have KN1 := Lib.hid KN1
        have hd : decide ((n : Int) < (s : Int)) = false := by simp; omega
        have hd2 : decide (n < s) = false := decide_eq_false hns
        have hle : s ≤ n := by omega
        generalize nextN (s : Int) L (n : Int) false = nx at *
        clear f1 f2 hb ho hns
        go_wp2_with fail
        refine KH1.out.mono ?_
        rintro e w7 ⟨rfl, b7⟩
        have V7 := Lib.hid (V6.out.trans (b7.mono V6.out.size))
        clear b7 a0 a1
        obtain ⟨a0, a1⟩ := CX.out w7 V7.out
        go_wp2_with fail
        refine (KN1.out _ V7.out).mono ?_
        rintro e w8 ⟨rfl, b8⟩
        have V8 := Lib.hid (V7.out.trans (b8.mono V7.out.size))
        clear b8 a0 a1
        go_wp2_with fail
        refine (KA.out _ (BE.out _ V8.out)).mono ?_
        rintro e w9 ⟨rfl, b9⟩
        have V9 := Lib.hid (V8.out.trans (b9.mono V8.out.size))
        clear b9
        go_wp2
        go_ret
        exact ⟨rfl, BE.out _ V9.out⟩
end Go.Proofs.YtmmehomobmoapaaDoor.bitmapRanks
