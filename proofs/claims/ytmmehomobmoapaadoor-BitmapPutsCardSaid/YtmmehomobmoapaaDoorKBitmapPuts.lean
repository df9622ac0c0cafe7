/- The law BitmapPuts, the walk. -/
import Derived.Test.YtmmehomobmoapaaDoorQu
import Derived.Test.YtmmehomobmoapaaDoorQf
namespace Go.Proofs.YtmmehomobmoapaaDoor.bitmapPuts
open Go.RowKit
set_option linter.unusedVariables false
set_option linter.unusedSimpArgs false
theorem getL_small (b : List UInt8) : (getL b).length ≤ 64 := by
  cases h : getR b with
  | none => rw [(getR_none h).2.1]; exact Nat.zero_le _
  | some p =>
    obtain ⟨s, L⟩ := p
    rw [(getR_some h).2.1]
    obtain ⟨m, _, _, hl, _⟩ := okB_nat (put_get h).1
    omega
theorem asT {f : FuncId} {args : Array Value} {W : World} {S z : Value} {R : List UInt64} {N : Nat} (hN : R.length = N) (h : Calls Tryd.prog f args W fun e w' => ∃ v, e = .returned (.tuple #[.agg #[S, v], z]) ∧ OQ W.heap.size w' v R ∧ Below W.heap.size W w') : Calls Tryd.prog f args W fun e w' => ∃ A' c', e = .returned (.tuple #[.agg #[S, .slice A' N c'], z]) ∧ RQ w' A' R ∧ Below W.heap.size W w' := by
  refine h.mono ?_
  rintro e w' ⟨v, rfl, ho, hb⟩
  obtain ⟨A', c', rfl, hc, hr⟩ := ho.form
  rw [hN]
  exact ⟨A', c', rfl, hr, hb⟩
theorem asB {f : FuncId} {args : Array Value} {W : World} {z : Value} {R : List UInt8} {N : Nat} (hN : R.length = N) (h : Calls Tryd.prog f args W fun e w' => ∃ v, e = .returned (.tuple #[v, z]) ∧ OB W.heap.size w' v R ∧ Below W.heap.size W w') : Calls Tryd.prog f args W fun e w' => ∃ A' c', e = .returned (.tuple #[.slice A' N c', z]) ∧ RB w' A' R ∧ Below W.heap.size W w' := by
  refine h.mono ?_
  rintro e w' ⟨v, rfl, ho, hb⟩
  obtain ⟨A', c', rfl, hc, hr⟩ := ho.form
  rw [hN]
  exact ⟨A', c', rfl, hr, hb⟩
theorem sameR (s : Int) (A B : Option Addr) (c d N : Nat) (L : List UInt64) (W : World) (hN : L.length = N) (hn : L.length ≤ 1000) (hA : RQ W A L) (hB : RQ W B L) : Calls Tryd.prog 12 #[.agg #[.int .i64 s, .slice A N c], .agg #[.int .i64 s, .slice B N d]] W fun e w' => e = .returned (.bool true) ∧ Below W.heap.size W w' := by
  have h := refSame_any s s A B c d L L W hA hB hn
  rw [hN, show sameB s s L L = true from by unfold sameB; rw [decide_eq_true rfl, decide_eq_true rfl]; rfl] at h
  exact h
set_option maxHeartbeats 8000000 in
set_option maxRecDepth 100000 in
theorem core (s : Int) (A : Option Addr) (c : Nat) (L : List UInt64) (B : Option Addr) (len c2 : Nat) (b : List UInt8) (w : World) (hlen : len ≤ 9223372036854775807) (hl : b.length = len) (hc2 : len ≤ c2) (hr : RQ w A L) (hB : RB w B b) (hT : TabAt 0 Lib.deBruijn64tab w) :
    Calls Tryd.prog 6 #[.agg #[.int .i64 s, .slice A L.length c], .slice B len c2] w fun e w' => e = .returned (.bool true) ∧ Below w.heap.size w w' := by
  have HR := Lib.hid (fun W (hb : Below w.heap.size w W) => hr.below hb)
  have HT := Lib.hid (fun W (hb : Below w.heap.size w W) => TabAt.below hT hb (TabAt.pos hT))
  have KA := Lib.hid (fun W (hb : Below w.heap.size w W) => awake_any W (HT.out W hb))
  have KL := fun W => light_any s A L.length c W
  have B0 := Lib.hid ((Below.refl _ w).alloc (Nat.le_refl _) (.cells #[.int .i64 s, .slice A L.length c] 24))
  have BX := Lib.hid (fun W h => bx2 w (.int .i64 s) (.slice A L.length c) 24 (W := W) h)
  obtain ⟨x0, x1⟩ := BX.out _ (Below.refl _ _)
  by_cases h8 : ((L.length : Int) ≤ 8)
  · rw [decide_eq_true h8] at KL
    by_cases h3 : (len : Int) ≤ 300
    · have d3 : decide ((300 : Int) < (len : Int)) = false := by simp; omega
      obtain ⟨R, hR⟩ : ∃ R, putB s L = R := ⟨_, rfl⟩
      obtain ⟨nR, hnR⟩ : ∃ nR, R.length = nR := ⟨_, rfl⟩
      obtain ⟨G, hG⟩ : ∃ G, getL b = G := ⟨_, rfl⟩
      obtain ⟨nG, hnG⟩ : ∃ nG, G.length = nG := ⟨_, rfl⟩
      have hGs : G.length ≤ 64 := hG ▸ getL_small b
      have KP := fun W (hb : Below w.heap.size w W) => put_any s A c L W (HR.out W hb) (HT.out W hb)
      have KQ := fun W (hb : Below w.heap.size w W) => refPut_any s A c L W (HR.out W hb)
      have KG := fun W (hb : Below w.heap.size w W) => get_any B len c2 b W (by omega) hl (hB.below hb)
      have KH := fun W (hb : Below w.heap.size w W) => refGet_any B len c2 b W (by omega) hl hc2 (hB.below hb)
      rw [hR] at KP KQ
      rw [hG] at KG KH
      rw [hnG] at KH
      have KP := Lib.hid (fun W hb => asB hnR (KP W hb))
      have KQ := Lib.hid (fun W hb => asB hnR (KQ W hb))
      have KG := Lib.hid (fun W hb => asT hnG (KG W hb))
      have KH := Lib.hid KH
      have KL := Lib.hid KL
      have HNR := Lib.hid hnR
      have HNG := Lib.hid hnG
      have HGS := Lib.hid hGs
      generalize chk s L = ck at *
      generalize getS b = gs at *
      generalize getE b = ge at *
      generalize L.length = N at *
      have dck : ((ck : Int) == (ck : Int)) = true := by simp
      have dge : ((ge : Int) == (ge : Int)) = true := by simp
      have hss : ((str R).toList == (str R).toList) = true := by simp
      clear hr hT hB hl hR hnR hG hnG hGs h8
      go_enter Tryd.func6, Tryd.ntmps6
      go_wp2_with fail
      generalize w.alloc (.cells #[.int .i64 s, .slice A N c] 24) = W0 at *
      refine (KL.out _).mono ?_
      rintro e w1 ⟨rfl, b1⟩
      have V1 := Lib.hid b1
      have B1 := Lib.hid (B0.out.trans (b1.mono B0.out.size))
      obtain ⟨y0, y1⟩ := BX.out w1 b1
      clear x0 x1 b1
      go_wp2_with fail
      refine (KP.out _ B1.out).mono ?_
      rintro e w2 ⟨A2, d2, rfl, r2, b2⟩
      have V2 := Lib.hid (V1.out.trans (b2.mono V1.out.size))
      have B2 := Lib.hid (B1.out.trans (b2.mono B1.out.size))
      have R2 := Lib.hid r2
      clear y0 y1
      obtain ⟨y0, y1⟩ := BX.out w2 V2.out
      clear b2 r2
      go_wp2_with fail
      refine (KQ.out _ B2.out).mono ?_
      rintro e w3 ⟨A3, d3, rfl, r3, b3⟩
      have B3 := Lib.hid (B2.out.trans (b3.mono B2.out.size))
      have R2 := Lib.hid (R2.out.below b3)
      have R3 := Lib.hid r3
      clear y0 y1 b3 r3
      go_wp2_with fail
      refine (KG.out _ B3.out).mono ?_
      rintro e w4 ⟨A4, d4, rfl, r4, b4⟩
      obtain ⟨z0, z1⟩ := bx2 w4 (.int .i64 (gs : Int)) (.slice A4 nG d4) 27 (Below.refl _ _)
      have H4 := Lib.hid (b4.alloc b4.size (.cells #[.int .i64 (gs : Int), .slice A4 nG d4] 27))
      have B4 := Lib.hid (B3.out.trans (H4.out.mono B3.out.size))
      have R24 := Lib.hid (R2.out.below H4.out)
      have R34 := Lib.hid (R3.out.below H4.out)
      have R4 := Lib.hid (r4.alloc (.cells #[.int .i64 (gs : Int), .slice A4 nG d4] 27))
      obtain ⟨q, hq⟩ : ∃ q, q = w4.heap.size := ⟨_, rfl⟩
      clear b4 r4
      go_wp2_with fail
      generalize w4.alloc (.cells #[.int .i64 (gs : Int), .slice A4 nG d4] 27) = W4 at *
      rw [← hq] at z0 z1 ⊢
      clear hq
      have CX := Lib.hid (fun W (k : Below W4.heap.size W4 W) => And.intro ((k.cell (p := ⟨q, 0, none⟩) (lt_of_cell z0)).trans z0) ((k.cell (p := ⟨q, 1, none⟩) (lt_of_cell z1)).trans z1))
      refine (KH.out _ B4.out).mono ?_
      rintro e w5 ⟨A5, d5, rfl, r5, b5⟩
      obtain ⟨u0, u1⟩ := bx2 w5 (.int .i64 (gs : Int)) (.slice A5 nG d5) 24 (Below.refl _ _)
      have H5 := Lib.hid (b5.alloc b5.size (.cells #[.int .i64 (gs : Int), .slice A5 nG d5] 24))
      have B5 := Lib.hid (B4.out.trans (H5.out.mono B4.out.size))
      have R25 := Lib.hid (R24.out.below H5.out)
      have R35 := Lib.hid (R34.out.below H5.out)
      have R45 := Lib.hid (R4.out.below H5.out)
      have R5 := Lib.hid (r5.alloc (.cells #[.int .i64 (gs : Int), .slice A5 nG d5] 24))
      obtain ⟨q2, hq2⟩ : ∃ q2, q2 = w5.heap.size := ⟨_, rfl⟩
      clear b5 r5 z0 z1
      go_upto_region 7 with fail
      generalize w5.alloc (.cells #[.int .i64 (gs : Int), .slice A5 nG d5] 24) = W5 at *
      rw [← hq2] at u0 u1 ⊢
      clear hq2
      have CF := Lib.hid (fun (W : World) (k : Below W5.heap.size W5 W) => (show W.cell? ⟨q, 0, none⟩ = some (.int .i64 (gs : Int)) ∧ W.cell? ⟨q, 1, none⟩ = some (.slice A4 nG d4) ∧ W.cell? ⟨q2, 0, none⟩ = some (.int .i64 (gs : Int)) ∧ W.cell? ⟨q2, 1, none⟩ = some (.slice A5 nG d5) ∧ (convert 52 9 (.slice A2 nR d2)).run Tryd.prog W = .ok (.string (str R)) W ∧ (convert 52 9 (.slice A3 nR d3)).run Tryd.prog W = .ok (.string (str R)) W from
        ⟨(CX.out W (H5.out.trans (k.mono H5.out.size))).1, (CX.out W (H5.out.trans (k.mono H5.out.size))).2, (k.cell (p := ⟨q2, 0, none⟩) (lt_of_cell u0)).trans u0, (k.cell (p := ⟨q2, 1, none⟩) (lt_of_cell u1)).trans u1, run_str W A2 nR d2 R HNR.out (R25.out.below k), run_str W A3 nR d3 R HNR.out (R35.out.below k)⟩))
      have KS := Lib.hid (fun W (k : Below W5.heap.size W5 W) => sameR (gs : Int) A4 A5 d4 d5 nG G W HNG.out (by have := HGS.out; omega) (R45.out.below k) (R5.out.below k))
      have BE := Lib.hid (fun W (k : Below W5.heap.size W5 W) => B5.out.trans (k.mono B5.out.size))
      clear u0 u1
      have BW := Lib.hid (Below.refl W5.heap.size W5)
      obtain ⟨t0, t1, t2, t3, t4, t5⟩ := CF.out _ BW.out
      go_wp2_with fail
      refine (KS.out _ BW.out).mono ?_
      rintro e w6 ⟨rfl, b6⟩
      have BW := Lib.hid (BW.out.trans (b6.mono BW.out.size))
      clear b6 t0 t1 t2 t3 t4 t5
      go_wp2_with fail
      refine (KA.out _ (BE.out _ BW.out)).mono ?_
      rintro e w7 ⟨rfl, b7⟩
      have BW := Lib.hid (BW.out.trans (b7.mono BW.out.size))
      clear b7
      go_wp2
      go_ret
      exact ⟨rfl, BE.out _ BW.out⟩
    · have d3 : (300 : Int) < (len : Int) := by omega
      have KL := Lib.hid KL
      generalize L.length = N at *
      clear hr hT h8 h3
      go_enter Tryd.func6, Tryd.ntmps6
      go_wp2_with fail
      refine (KL.out _).mono ?_
      rintro e w1 ⟨rfl, b1⟩
      have B1 := Lib.hid (B0.out.trans (b1.mono B0.out.size))
      clear x0 x1 b1
      go_wp2_with fail
      refine (KA.out _ B1.out).mono ?_
      rintro e w2 ⟨rfl, b2⟩
      have B2 := Lib.hid (B1.out.trans (b2.mono B1.out.size))
      go_wp2
      go_ret
      exact ⟨rfl, B2.out⟩
  · rw [decide_eq_false h8] at KL
    have KL := Lib.hid KL
    generalize L.length = N at *
    clear hr hT h8
    go_enter Tryd.func6, Tryd.ntmps6
    go_wp2_with fail
    refine (KL.out _).mono ?_
    rintro e w1 ⟨rfl, b1⟩
    have B1 := Lib.hid (B0.out.trans (b1.mono B0.out.size))
    clear x0 x1 b1
    go_wp2_with fail
    refine (KA.out _ B1.out).mono ?_
    rintro e w2 ⟨rfl, b2⟩
    have B2 := Lib.hid (B1.out.trans (b2.mono B1.out.size))
    go_wp2
    go_ret
    exact ⟨rfl, B2.out⟩
end Go.Proofs.YtmmehomobmoapaaDoor.bitmapPuts
