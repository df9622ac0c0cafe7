/- The law BitmapFinds, the walk. -/
import Derived.Test.YtmmehomobmoapaaDoorQf
namespace Go.Proofs.YtmmehomobmoapaaDoor.bitmapFinds
open Go.RowKit
set_option linter.unusedVariables false
set_option linter.unusedSimpArgs false
set_option maxHeartbeats 4000000 in
set_option maxRecDepth 100000 in
theorem core (s : Int) (A : Option Addr) (c : Nat) (L : List UInt64) (n : Int) (on : Bool) (w : World) (hcap : L.length ≤ c) (hn : n ≤ 9223372036854775807) (hr : RQ w A L) (hT : TabAt 0 Lib.deBruijn64tab w) :
    Calls Tryd.prog 4 #[.agg #[.int .i64 s, .slice A L.length c], .int .i64 n, .bool on] w fun e w' => e = .returned (.bool true) ∧ Below w.heap.size w w' := by
  have HR := Lib.hid (fun W (hb : Below w.heap.size w W) => hr.below hb)
  have HT := Lib.hid (fun W (hb : Below w.heap.size w W) => TabAt.below hT hb (TabAt.pos hT))
  have KA := Lib.hid (fun W (hb : Below w.heap.size w W) => awake_any W (HT.out W hb))
  have KL := fun W => light_any s A L.length c W
  have B0 := Lib.hid ((Below.refl _ w).alloc (Nat.le_refl _) (.cells #[.int .i64 s, .slice A L.length c] 24))
  have BX := Lib.hid (fun W h => bx2 w (.int .i64 s) (.slice A L.length c) 24 (W := W) h)
  obtain ⟨x0, x1⟩ := BX.out _ (Below.refl _ _)
  by_cases h8 : ((L.length : Int) ≤ 8)
  · rw [decide_eq_true h8] at KL
    have KL := Lib.hid KL
    have KN := fun W (hb : Below w.heap.size w W) => next_any s A c L n on W (HR.out W hb) (HT.out W hb)
    have KM := fun W (hb : Below w.heap.size w W) => refNext_any s A c L n on W (HR.out W hb)
    have KS := fun W (hb : Below w.heap.size w W) => select_any s A c L n W hn (HR.out W hb) (HT.out W hb)
    have KU := fun W (hb : Below w.heap.size w W) => refSelect_any s A c L n W hn (HR.out W hb)
    have KR := fun W (hb : Below w.heap.size w W) => rank_any s A c L n W hcap (HR.out W hb)
    have KQ := fun W (hb : Below w.heap.size w W) => refRank_any s A c L n W (HR.out W hb)
    generalize nextN s L n on = a at *
    generalize nextB s L n on = ab at *
    generalize selN s L n = d at *
    generalize selB s L n = db at *
    generalize rankB s L n = rk at *
    generalize L.length = N at *
    have KN := Lib.hid KN
    have KM := Lib.hid KM
    have KS := Lib.hid KS
    have KU := Lib.hid KU
    have KR := Lib.hid KR
    have KQ := Lib.hid KQ
    clear hr hT h8 hcap
    go_enter Tryd.func4, Tryd.ntmps4
    go_wp2_with fail
    generalize w.alloc (.cells #[.int .i64 s, .slice A N c] 24) = W0 at *
    refine (KL.out _).mono ?_
    rintro e w1 ⟨rfl, b1⟩
    have B1 := Lib.hid ((B0.out.trans (b1.mono B0.out.size)).alloc (by have := B0.out.size; have := b1.size; omega) (.cells #[.int .i64 s, .slice A N c] 27))
    obtain ⟨y0, y1⟩ := BX.out w1 b1
    obtain ⟨z0, z1⟩ := bx2 w1 (.int .i64 s) (.slice A N c) 27 (Below.refl _ _)
    have k0 := (World.cell?_alloc_lt w1 (.cells #[.int .i64 s, .slice A N c] 27) ⟨w.heap.size, 0, none⟩ (lt_of_cell y0)).trans y0
    have k1 := (World.cell?_alloc_lt w1 (.cells #[.int .i64 s, .slice A N c] 27) ⟨w.heap.size, 1, none⟩ (lt_of_cell y1)).trans y1
    clear x0 x1 b1
    go_wp2_with fail
    generalize w1.alloc (.cells #[.int .i64 s, .slice A N c] 27) = W1 at *
    have CX := Lib.hid (fun W (h : Below W1.heap.size W1 W) => And.intro ((h.cell (p := ⟨w.heap.size, 0, none⟩) (lt_of_cell k0)).trans k0) (And.intro ((h.cell (p := ⟨w.heap.size, 1, none⟩) (lt_of_cell k1)).trans k1) (And.intro ((h.cell (p := ⟨w1.heap.size, 0, none⟩) (lt_of_cell z0)).trans z0) ((h.cell (p := ⟨w1.heap.size, 1, none⟩) (lt_of_cell z1)).trans z1))))
    refine (KN.out _ B1.out).mono ?_
    rintro e w2 ⟨rfl, b2⟩
    have V2 := Lib.hid b2
    have B2 := Lib.hid (B1.out.trans (b2.mono B1.out.size))
    obtain ⟨u0, u1, u2, u3⟩ := CX.out w2 b2
    clear k0 k1 z0 z1 y0 y1 b2
    go_wp2_with fail
    refine (KM.out _ B2.out).mono ?_
    rintro e w3 ⟨rfl, b3⟩
    have V3 := Lib.hid (V2.out.trans (b3.mono V2.out.size))
    have B3 := Lib.hid (B2.out.trans (b3.mono B2.out.size))
    clear u0 u1 u2 u3 b3 V2 B2
    obtain ⟨u0, u1, u2, u3⟩ := CX.out w3 V3.out
    go_wp2_with fail
    refine (KS.out _ B3.out).mono ?_
    rintro e w4 ⟨rfl, b4⟩
    have V4 := Lib.hid (V3.out.trans (b4.mono V3.out.size))
    have B4 := Lib.hid (B3.out.trans (b4.mono B3.out.size))
    clear u0 u1 u2 u3 b4 V3 B3
    obtain ⟨u0, u1, u2, u3⟩ := CX.out w4 V4.out
    go_wp2_with fail
    refine (KU.out _ B4.out).mono ?_
    rintro e w5 ⟨rfl, b5⟩
    have V5 := Lib.hid (V4.out.trans (b5.mono V4.out.size))
    have B5 := Lib.hid (B4.out.trans (b5.mono B4.out.size))
    clear u0 u1 u2 u3 b5 V4 B4
    obtain ⟨u0, u1, u2, u3⟩ := CX.out w5 V5.out
    have e1 : ((a : Int) == (a : Int)) = true := by simp
    have e2 : (ab == ab) = true := by simp
    have e3 : ((d : Int) == (d : Int)) = true := by simp
    have e4 : (db == db) = true := by simp
    have e5 : ((rk : Int) == (rk : Int)) = true := by simp
    go_upto_region 8 with fail
    have VV := Lib.hid V5.out.drew
    have BW := Lib.hid B5.out.drew
    have cc := CX.out w5.drew VV.out
    clear u0 u1 u2 u3 V5 B5
    go_region_held3 (fun W => W.cell? ⟨w.heap.size, 0, none⟩ = some (.int .i64 s) ∧ W.cell? ⟨w.heap.size, 1, none⟩ = some (.slice A N c) ∧ W.cell? ⟨w1.heap.size, 0, none⟩ = some (.int .i64 s) ∧ W.cell? ⟨w1.heap.size, 1, none⟩ = some (.slice A N c)) (first | with_reducible assumption | with_reducible exact cc | fail)
      (first
        | (go_at_call 24; with_reducible refine Calls.mono (KR.out _ BW.out) ?_; rintro e w6 ⟨rfl, b6⟩; have VV := Lib.hid (VV.out.trans (b6.mono VV.out.size)); have BW := Lib.hid (BW.out.trans (b6.mono BW.out.size)); have cc := CX.out w6 VV.out; clear b6)
        | (go_at_call 25; with_reducible refine Calls.mono (KQ.out _ BW.out) ?_; rintro e w6 ⟨rfl, b6⟩; have VV := Lib.hid (VV.out.trans (b6.mono VV.out.size)); have BW := Lib.hid (BW.out.trans (b6.mono BW.out.size)); have cc := CX.out w6 VV.out; clear b6)
        | (go_at_call 10; with_reducible refine Calls.mono (KA.out _ BW.out) ?_; rintro e w6 ⟨rfl, b6⟩; have VV := Lib.hid (VV.out.trans (b6.mono VV.out.size)); have BW := Lib.hid (BW.out.trans (b6.mono BW.out.size)); have cc := CX.out w6 VV.out; clear b6)
        | fail)
    all_goals
      go_wp2
      go_ret
      exact ⟨rfl, BW.out⟩
  · rw [decide_eq_false h8] at KL
    have KL := Lib.hid KL
    generalize L.length = N at *
    clear hr hT h8 hcap
    go_enter Tryd.func4, Tryd.ntmps4
    go_wp2_with fail
    refine (KL.out _).mono ?_
    rintro e w1 ⟨rfl, b1⟩
    have B1 := Lib.hid (B0.out.trans (b1.mono B0.out.size))
    clear x0 x1 b1
    go_wp2_with fail
    refine (KA.out _ B1.out).mono ?_
    rintro e w2 ⟨rfl, b2⟩
    have B2 := Lib.hid (B1.out.trans (b2.mono B1.out.size))
    go_wp2
    go_ret
    exact ⟨rfl, B2.out⟩
end Go.Proofs.YtmmehomobmoapaaDoor.bitmapFinds
