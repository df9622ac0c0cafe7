/- The law BitmapMixes, the walk. -/
import Derived.Test.YtmmehomobmoapaaDoorQl
namespace Go.Proofs.YtmmehomobmoapaaDoor.bitmapMixes
open Go.RowKit
set_option linter.unusedVariables false
set_option linter.unusedSimpArgs false
theorem sameEq (s : Int) (A B : Option Addr) (c d N : Nat) (L : List UInt64) (W : World) (hN : L.length = N) (hn : N ≤ 1000) (hA : RQ W A L) (hB : RQ W B L) : Calls Tryd.prog 12 #[.agg #[.int .i64 s, .slice A N c], .agg #[.int .i64 s, .slice B N d]] W fun e w' => e = .returned (.bool true) ∧ Below W.heap.size W w' := by
  have h := refSame_any s s A B c d L L W hA hB (by omega)
  rw [hN, show sameB s s L L = true from by unfold sameB; rw [decide_eq_true rfl, decide_eq_true rfl]; rfl] at h
  exact h
theorem mixL_small (all : Bool) (s t : Int) (L M : List UInt64) : (mixL all s t L M).length ≤ 64 := by
  unfold mixL
  split
  · rename_i h
    unfold mixOk at h
    rw [Bool.and_eq_true] at h
    obtain ⟨a, rfl, ha, _, _⟩ := okB_nat h.1
    obtain ⟨b, rfl, hb, _, _⟩ := okB_nat h.2
    rw [mixWs_len]
    omega
  · exact Nat.zero_le _
theorem asA {f : FuncId} {args : Array Value} {W : World} {S : Int} {R : List UInt64} (h : Calls Tryd.prog f args W fun e w' => ∃ v, e = .returned (.agg #[.int .i64 S, v]) ∧ OQ W.heap.size w' v R ∧ Below W.heap.size W w') : Calls Tryd.prog f args W fun e w' => ∃ A' c', e = .returned (.agg #[.int .i64 S, .slice A' R.length c']) ∧ RQ w' A' R ∧ Below W.heap.size W w' := by
  refine h.mono ?_
  rintro e w' ⟨v, rfl, ho, hb⟩
  obtain ⟨A', c', rfl, _, hr⟩ := ho.form
  exact ⟨A', c', rfl, hr, hb⟩
/-- What there is: the maps a and b at blocks p and q, and again at g and h. -/
structure St (w W : World) (p q g h : Nat) (s t : Int) (A B : Option Addr) (c d N Q : Nat) (L M : List UInt64) : Prop where
  bel : Below w.heap.size w W
  p0 : W.cell? ⟨p, 0, none⟩ = some (.int .i64 s)
  p1 : W.cell? ⟨p, 1, none⟩ = some (.slice A N c)
  q0 : W.cell? ⟨q, 0, none⟩ = some (.int .i64 t)
  q1 : W.cell? ⟨q, 1, none⟩ = some (.slice B Q d)
  g0 : W.cell? ⟨g, 0, none⟩ = some (.int .i64 s)
  g1 : W.cell? ⟨g, 1, none⟩ = some (.slice A N c)
  h0 : W.cell? ⟨h, 0, none⟩ = some (.int .i64 t)
  h1 : W.cell? ⟨h, 1, none⟩ = some (.slice B Q d)
  ra : RQ W A L
  rb : RQ W B M
theorem St.later {w W V : World} {p q g h : Nat} {s t : Int} {A B : Option Addr} {c d N Q : Nat} {L M : List UInt64} (x : St w W p q g h s t A B c d N Q L M) (hb : Below W.heap.size W V) : St w V p q g h s t A B c d N Q L M := by
  have k : ∀ {a : Addr} {v : Value}, W.cell? a = some v → V.cell? a = some v := fun hc => (hb.cell (lt_of_cell hc)).trans hc
  exact ⟨x.bel.trans (hb.mono x.bel.size), k x.p0, k x.p1, k x.q0, k x.q1, k x.g0, k x.g1, k x.h0, k x.h1, x.ra.below hb, x.rb.below hb⟩
theorem St.cc {w W : World} {p q g h : Nat} {s t : Int} {A B : Option Addr} {c d N Q : Nat} {L M : List UInt64} (x : St w W p q g h s t A B c d N Q L M) : W.cell? ⟨p, 0, none⟩ = some (.int .i64 s) ∧ W.cell? ⟨p, 1, none⟩ = some (.slice A N c) ∧ W.cell? ⟨q, 0, none⟩ = some (.int .i64 t) ∧ W.cell? ⟨q, 1, none⟩ = some (.slice B Q d) ∧ W.cell? ⟨g, 0, none⟩ = some (.int .i64 s) ∧ W.cell? ⟨g, 1, none⟩ = some (.slice A N c) ∧ W.cell? ⟨h, 0, none⟩ = some (.int .i64 t) ∧ W.cell? ⟨h, 1, none⟩ = some (.slice B Q d) := ⟨x.p0, x.p1, x.q0, x.q1, x.g0, x.g1, x.h0, x.h1⟩
/-- The two boxes that region 3 makes, in either order. -/
def Two (w1 W : World) (g h : Nat) (a0 a1 b0 b1 : Value) : Prop := (W.cell? ⟨g, 0, none⟩ = some a0 ∧ W.cell? ⟨g, 1, none⟩ = some a1 ∧ W.cell? ⟨h, 0, none⟩ = some b0 ∧ W.cell? ⟨h, 1, none⟩ = some b1) ∧ Below w1.heap.size w1 W
theorem two_a (w1 : World) (a0 a1 b0 b1 : Value) (t : TypeId) : Two w1 ((w1.alloc (.cells #[a0, a1] t)).alloc (.cells #[b0, b1] t)).drew w1.heap.size (w1.heap.size + 1) a0 a1 b0 b1 := by
  have h := bx4 w1 a0 a1 b0 b1 t t (Below.refl _ ((w1.alloc (.cells #[a0, a1] t)).alloc (.cells #[b0, b1] t)))
  exact ⟨⟨h.1.1, h.1.2, h.2.1, h.2.2⟩, (((Below.refl _ w1).alloc (Nat.le_refl _) _).alloc (by rw [heap_size_alloc]; omega) _).drew⟩
theorem two_b (w1 : World) (a0 a1 b0 b1 : Value) (t : TypeId) : Two w1 ((w1.alloc (.cells #[b0, b1] t)).alloc (.cells #[a0, a1] t)).drew (w1.heap.size + 1) w1.heap.size a0 a1 b0 b1 := by
  have h := bx4 w1 b0 b1 a0 a1 t t (Below.refl _ ((w1.alloc (.cells #[b0, b1] t)).alloc (.cells #[a0, a1] t)))
  exact ⟨⟨h.2.1, h.2.2, h.1.1, h.1.2⟩, (((Below.refl _ w1).alloc (Nat.le_refl _) _).alloc (by rw [heap_size_alloc]; omega) _).drew⟩
set_option maxHeartbeats 8000000 in
set_option maxRecDepth 100000 in
theorem core (s t : Int) (A B : Option Addr) (c d : Nat) (L M : List UInt64) (w : World) (hA : RQ w A L) (hB : RQ w B M) (hT : TabAt 0 Lib.deBruijn64tab w) :
    Calls Tryd.prog 5 #[.agg #[.int .i64 s, .slice A L.length c], .agg #[.int .i64 t, .slice B M.length d]] w fun e w' => e = .returned (.bool true) ∧ Below w.heap.size w w' := by
  have HT := Lib.hid (fun W (hb : Below w.heap.size w W) => TabAt.below hT hb (TabAt.pos hT))
  have KA := Lib.hid (fun W (hb : Below w.heap.size w W) => awake_any W (HT.out W hb))
  have KL1 := fun W => light_any s A L.length c W
  have KL2 := fun W => light_any t B M.length d W
  have B0 := Lib.hid (((Below.refl w.heap.size w).alloc (Nat.le_refl _) (.cells #[.int .i64 s, .slice A L.length c] 24)).alloc (by rw [heap_size_alloc]; omega) (.cells #[.int .i64 t, .slice B M.length d] 24))
  have BX := Lib.hid (fun W h => bx4 w (.int .i64 s) (.slice A L.length c) (.int .i64 t) (.slice B M.length d) 24 24 (W := W) h)
  obtain ⟨⟨x0, x1⟩, y0, y1⟩ := BX.out _ (Below.refl _ _)
  by_cases h8 : ((L.length : Int) ≤ 8)
  · rw [decide_eq_true h8] at KL1
    by_cases h9 : ((M.length : Int) ≤ 8)
    · rw [decide_eq_true h9] at KL2
      have HRA := Lib.hid (fun W (hb : Below w.heap.size w W) => hA.below hb)
      have HRB := Lib.hid (fun W (hb : Below w.heap.size w W) => hB.below hb)
      have K1 := fun W (h1 : RQ W A L) (h2 : RQ W B M) => asA (both_any s t A B c d L M W h1 h2)
      have K2 := fun W (h1 : RQ W A L) (h2 : RQ W B M) => refBoth_any s t A B c d L M W h1 h2
      have K3 := fun W (h1 : RQ W A L) (h2 : RQ W B M) => asA (either_any s t A B c d L M W h1 h2)
      have K4 := fun W (h1 : RQ W A L) (h2 : RQ W B M) => refEither_any s t A B c d L M W h1 h2
      have K5 := fun W (h1 : RQ W A L) (h2 : RQ W B M) => same_any s t A B c d L M W h1 h2 (by omega)
      have K6 := fun W (h1 : RQ W A L) (h2 : RQ W B M) => refSame_any s t A B c d L M W h1 h2 (by omega)
      have hs1 := mixL_small true s t L M
      have hs2 := mixL_small false s t L M
      generalize mixS s t L M = S at *
      generalize mixL true s t L M = R1 at *
      generalize mixL false s t L M = R2 at *
      generalize sameB s t L M = sb at *
      obtain ⟨N1, hN1⟩ : ∃ N1, N1 = R1.length := ⟨_, rfl⟩
      obtain ⟨N2, hN2⟩ : ∃ N2, N2 = R2.length := ⟨_, rfl⟩
      have HN1 := Lib.hid hN1.symm
      have HN2 := Lib.hid hN2.symm
      rw [← hN1] at K1 K2 hs1
      rw [← hN2] at K3 K4 hs2
      generalize L.length = N at *
      generalize M.length = Q at *
      have K1 := Lib.hid K1
      have K2 := Lib.hid K2
      have K3 := Lib.hid K3
      have K4 := Lib.hid K4
      have K5 := Lib.hid K5
      have K6 := Lib.hid K6
      have KL1 := Lib.hid KL1
      have KL2 := Lib.hid KL2
      clear hA hB hT h8 h9 hN1 hN2
      go_enter Tryd.func5, Tryd.ntmps5
      go_wp2_with fail
      generalize (w.alloc (.cells #[.int .i64 s, .slice A N c] 24)).alloc (.cells #[.int .i64 t, .slice B Q d] 24) = W0 at *
      refine (KL1.out _).mono ?_
      rintro e w0 ⟨rfl, b0⟩
      have V0 := Lib.hid b0
      obtain ⟨_, z0, z1⟩ := BX.out w0 b0
      clear x0 x1 y0 y1 b0
      go_wp2_with fail
      refine (KL2.out _).mono ?_
      rintro e w1 ⟨rfl, b1⟩
      have V1 := Lib.hid (V0.out.trans (b1.mono V0.out.size))
      have B1 := Lib.hid (B0.out.trans (V1.out.mono B0.out.size))
      clear z0 z1 b1
      obtain ⟨⟨x0, x1⟩, y0, y1⟩ := BX.out w1 V1.out
      go_upto_region 3 with fail
      go_cut [5, 6] from 16 to 17 (fun p5 p6 wx => ∃ g h, p5 = .pointer (some ⟨g, 0, none⟩) ∧ p6 = .pointer (some ⟨h, 0, none⟩) ∧ Two w1 wx g h (.int .i64 s) (.slice A N c) (.int .i64 t) (.slice B Q d))
      case first =>
        have n0 := World.new_ne w1 ⟨w.heap.size, 0, none⟩ x0
        have n1 := World.new_ne w1 ⟨w.heap.size, 1, none⟩ x1
        have n2 := World.new_ne w1 ⟨w.heap.size + 1, 0, none⟩ y0
        have n3 := World.new_ne w1 ⟨w.heap.size + 1, 1, none⟩ y1
        have TA := Lib.hid (two_a w1 (.int .i64 s) (.slice A N c) (.int .i64 t) (.slice B Q d) 27)
        have TB := Lib.hid (two_b w1 (.int .i64 s) (.slice A N c) (.int .i64 t) (.slice B Q d) 27)
        go_region_held3 (fun W => W.cell? ⟨w.heap.size, 0, none⟩ = some (.int .i64 s) ∧ W.cell? ⟨w.heap.size, 1, none⟩ = some (.slice A N c) ∧ W.cell? ⟨w.heap.size + 1, 0, none⟩ = some (.int .i64 t) ∧ W.cell? ⟨w.heap.size + 1, 1, none⟩ = some (.slice B Q d)) (first | go_keep | fail)
          (first | fail)
        all_goals
          go_wp2_with fail
          go_meet
          first
            | exact ⟨_, _, rfl, rfl, TA.out⟩
            | exact ⟨_, _, rfl, rfl, TB.out⟩
      case rest =>
        obtain ⟨g, h, rfl, rfl, hP⟩ := hcut
        have kk : ∀ {a : Addr} {v : Value}, w1.cell? a = some v → wc.cell? a = some v := fun hc => (hP.2.cell (lt_of_cell hc)).trans hc
        have hbb := B1.out.trans (hP.2.mono B1.out.size)
        have ST := Lib.hid (St.mk (L := L) (M := M) (p := w.heap.size) (q := w.heap.size + 1) hbb (kk x0) (kk x1) (kk y0) (kk y1) hP.1.1 hP.1.2.1 hP.1.2.2.1 hP.1.2.2.2 (HRA.out _ hbb) (HRB.out _ hbb))
        clear hP x0 x1 y0 y1 kk hbb
        have es : (sb == sb) = true := by simp
        have ST := Lib.hid (ST.out.later (Below.refl _ wc).drew)
        have cc := ST.out.cc
        go_upto_region 4 with fail
        go_region_held3 (fun W => W.cell? ⟨w.heap.size, 0, none⟩ = some (.int .i64 s) ∧ W.cell? ⟨w.heap.size, 1, none⟩ = some (.slice A N c) ∧ W.cell? ⟨w.heap.size + 1, 0, none⟩ = some (.int .i64 t) ∧ W.cell? ⟨w.heap.size + 1, 1, none⟩ = some (.slice B Q d) ∧ W.cell? ⟨g, 0, none⟩ = some (.int .i64 s) ∧ W.cell? ⟨g, 1, none⟩ = some (.slice A N c) ∧ W.cell? ⟨h, 0, none⟩ = some (.int .i64 t) ∧ W.cell? ⟨h, 1, none⟩ = some (.slice B Q d)) (first | with_reducible assumption | with_reducible exact cc | fail)
          (first
            | (go_at_call 26; with_reducible refine Calls.mono (K1.out _ ST.out.ra ST.out.rb) ?_; rintro e w6 ⟨A1, c1, rfl, r1, b6⟩; (try (have Q2 := Lib.hid (Q2.out.below b6))); have Q1 := Lib.hid r1; have ST := Lib.hid (ST.out.later b6); have cc := ST.out.cc; clear b6 r1)
            | (go_at_call 27; with_reducible refine Calls.mono (K2.out _ ST.out.ra ST.out.rb) ?_; rintro e w6 ⟨A2, c2, rfl, r2, b6⟩; (try (have Q1 := Lib.hid (Q1.out.below b6))); have Q2 := Lib.hid r2; have ST := Lib.hid (ST.out.later b6); have cc := ST.out.cc; clear b6 r2)
            | (go_at_call 28; with_reducible refine Calls.mono (K3.out _ ST.out.ra ST.out.rb) ?_; rintro e w6 ⟨A3, c3, rfl, r3, b6⟩; (try (have Q4 := Lib.hid (Q4.out.below b6))); have Q3 := Lib.hid r3; have ST := Lib.hid (ST.out.later b6); have cc := ST.out.cc; clear b6 r3)
            | (go_at_call 29; with_reducible refine Calls.mono (K4.out _ ST.out.ra ST.out.rb) ?_; rintro e w6 ⟨A4, c4, rfl, r4, b6⟩; (try (have Q3 := Lib.hid (Q3.out.below b6))); have Q4 := Lib.hid r4; have ST := Lib.hid (ST.out.later b6); have cc := ST.out.cc; clear b6 r4)
            | (go_at_call 12; with_reducible refine Calls.mono (sameEq S A1 A2 c1 c2 N1 R1 _ HN1.out (by omega) Q1.out Q2.out) ?_; rintro e w6 ⟨rfl, b6⟩; have ST := Lib.hid (ST.out.later b6); have cc := ST.out.cc; clear b6)
            | (go_at_call 12; with_reducible refine Calls.mono (sameEq S A3 A4 c3 c4 N2 R2 _ HN2.out (by omega) Q3.out Q4.out) ?_; rintro e w6 ⟨rfl, b6⟩; have ST := Lib.hid (ST.out.later b6); have cc := ST.out.cc; clear b6)
            | (go_at_call 12; with_reducible refine Calls.mono (K6.out _ ST.out.ra ST.out.rb) ?_; rintro e w6 ⟨rfl, b6⟩; have ST := Lib.hid (ST.out.later b6); have cc := ST.out.cc; clear b6)
            | (go_at_call 30; with_reducible refine Calls.mono (K5.out _ ST.out.ra ST.out.rb) ?_; rintro e w6 ⟨rfl, b6⟩; have ST := Lib.hid (ST.out.later b6); have cc := ST.out.cc; clear b6)
            | (go_at_call 10; with_reducible refine Calls.mono (KA.out _ ST.out.bel) ?_; rintro e w6 ⟨rfl, b6⟩; have ST := Lib.hid (ST.out.later b6); have cc := ST.out.cc; clear b6)
            | fail)
        all_goals
          go_wp2
          go_ret
          exact ⟨rfl, ST.out.bel⟩
    · rw [decide_eq_false h9] at KL2
      have KL1 := Lib.hid KL1
      have KL2 := Lib.hid KL2
      generalize L.length = N at *
      generalize M.length = Q at *
      clear hA hB hT h8 h9
      go_enter Tryd.func5, Tryd.ntmps5
      go_wp2_with fail
      generalize (w.alloc (.cells #[.int .i64 s, .slice A N c] 24)).alloc (.cells #[.int .i64 t, .slice B Q d] 24) = W0 at *
      refine (KL1.out _).mono ?_
      rintro e w0 ⟨rfl, b0⟩
      have V0 := Lib.hid b0
      obtain ⟨_, z0, z1⟩ := BX.out w0 b0
      clear x0 x1 y0 y1 b0
      go_wp2_with fail
      refine (KL2.out _).mono ?_
      rintro e w1 ⟨rfl, b1⟩
      have B1 := Lib.hid (B0.out.trans ((V0.out.trans (b1.mono V0.out.size)).mono B0.out.size))
      clear z0 z1 b1
      go_wp2_with fail
      refine (KA.out _ B1.out).mono ?_
      rintro e w2 ⟨rfl, b2⟩
      have B2 := Lib.hid (B1.out.trans (b2.mono B1.out.size))
      go_wp2
      go_ret
      exact ⟨rfl, B2.out⟩
  · rw [decide_eq_false h8] at KL1
    have KL1 := Lib.hid KL1
    generalize L.length = N at *
    generalize M.length = Q at *
    clear hA hB hT h8
    go_enter Tryd.func5, Tryd.ntmps5
    go_wp2_with fail
    refine (KL1.out _).mono ?_
    rintro e w1 ⟨rfl, b1⟩
    have B1 := Lib.hid (B0.out.trans (b1.mono B0.out.size))
    clear x0 x1 y0 y1 b1
    go_wp2_with fail
    refine (KA.out _ B1.out).mono ?_
    rintro e w2 ⟨rfl, b2⟩
    have B2 := Lib.hid (B1.out.trans (b2.mono B1.out.size))
    go_wp2
    go_ret
    exact ⟨rfl, B2.out⟩
end Go.Proofs.YtmmehomobmoapaaDoor.bitmapMixes
