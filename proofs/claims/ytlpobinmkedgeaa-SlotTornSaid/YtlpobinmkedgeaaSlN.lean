/- Slots: the law's mixed. -/
import Derived.Test.YtlpobinmkedgeaaSlM
namespace Go.Proofs.Ytlpobinmkedgeaa
open Go.RowKit
set_option linter.unusedVariables false
set_option linter.unusedSimpArgs false
theorem RB.lt_ {w : World} {ad : Addr} {l : List UInt8} (h : RB w (some ad) l) (hl : 0 < l.length) : ad.block < w.heap.size := by
  rcases h with rfl | ⟨ad', e, hc⟩
  · simp at hl
  · injection e with e
    subst e
    have h1 := lt_of_cell (hc 0 l[0] (List.getElem?_eq_getElem hl))
    rw [block_of_add] at h1
    exact h1
theorem row_lit (w : World) (u : Value) : Row (w.alloc (.cells #[u] 22)) w.heap.size [u] := heap_alloc_last w _
set_option maxHeartbeats 4000000 in
set_option maxRecDepth 100000 in
theorem mixed_any (xa ya : Addr) (cx cy : Nat) (X Y : List (List UInt8)) (fs : List UInt8) (w : World) (hx : X.length = 4) (hy : Y.length = 4) (hf : fs.length = 8) (hcx : 4 ≤ cx) (hcy : 4 ≤ cy) (rx : RBS w (some xa) X) (ry : RBS w (some ya) Y) (lx : ∀ b ∈ X, b.length = 256) (ly : ∀ b ∈ Y, b.length = 256) :
    Calls Try.prog 18 #[.slice (some xa) 4 cx, .slice (some ya) 4 cy, .agg (cellsB fs).toArray] w fun e w' => ∃ A c, e = .returned (.slice A 4 c) ∧ 4 ≤ c ∧ c ≤ maxLen ∧ RBS w' A (mixP X Y fs) ∧ Below w.heap.size w w' := by
  have A0 : Hid (Arr (w.alloc (.cells (cellsB fs).toArray 45)) w.heap.size 45 fs) := Lib.hid (heap_alloc_last w _)
  have B0 := Lib.hid ((Below.refl _ w).alloc (Nat.le_refl _) (.cells (cellsB fs).toArray 45))
  have HZ := Lib.hid (heap_size_alloc w (.cells (cellsB fs).toArray 45))
  have HX := Lib.hid hx
  have HY := Lib.hid hy
  have HF := Lib.hid hf
  have RX := Lib.hid rx
  have RY := Lib.hid ry
  have LX := Lib.hid lx
  have LY := Lib.hid ly
  have HM := Lib.hid (fun k (h : k < 4) x y kd cu h1 h2 h3 h4 => mixP_at (X := X) (Y := Y) (fs := fs) (k := k) h (x := x) (y := y) (kd := kd) (cu := cu) h1 h2 h3 h4)
  have HML := Lib.hid (mixP_len X Y fs)
  generalize mixP X Y fs = M at *
  clear hx hy hf rx ry lx ly
  go_enter Try.func18, Try.ntmps18
  go_upto_region 3 with (fail)
  generalize w.alloc (.cells (cellsB fs).toArray 45) = W at *
  have ST : Hid (OutRel W M 0 (.slice none 0 0) W) := Lib.hid (OutRel.start (Below.refl _ W))
  have hqW : w.heap.size < W.heap.size := by have := HZ.out; omega
  go_wp2
  go_loopw [7, 8, 9] (fun v i _ wr => ∃ k : Nat, k ≤ 4 ∧ i = .int .i64 k ∧ OutRel W M k v wr) (fun _ i _ _ => 4 - (intOf i).toNat)
  case atStart => exact ⟨0, Nat.zero_le _, rfl, ST.out⟩
  case round =>
    obtain ⟨k, hk, rfl, hO⟩ := hrel
    by_cases hlt : k < 4
    · obtain ⟨x, h1⟩ : ∃ x, X[k]? = some x := ⟨X[k]'(by rw [HX.out]; omega), List.getElem?_eq_getElem _⟩
      obtain ⟨y, h2⟩ : ∃ y, Y[k]? = some y := ⟨Y[k]'(by rw [HY.out]; omega), List.getElem?_eq_getElem _⟩
      obtain ⟨kd, h3⟩ : ∃ kd, fs[k * 2]? = some kd := ⟨fs[k * 2]'(by rw [HF.out]; omega), List.getElem?_eq_getElem _⟩
      obtain ⟨cu, h4⟩ : ∃ cu, fs[k * 2 + 1]? = some cu := ⟨fs[k * 2 + 1]'(by rw [HF.out]; omega), List.getElem?_eq_getElem _⟩
      have hMk := HM.out k hlt x y kd cu h1 h2 h3 h4
      have hbW : Below W.heap.size W wr := hO.choose_spec.2.2.2
      have hbel : Below w.heap.size w wr := B0.out.trans (hbW.mono (Nat.le_of_lt hqW))
      have hA := A0.out.below hbW hqW
      have hvo : ∀ q, u7.ownBlock = some q → W.heap.size ≤ q := fun q hq => (World.ownsRow.lt hO.choose_spec.1 q hq).1
      obtain ⟨Bx, bx, x0', x1, x2, x3'⟩ := RX.out.at h1
      obtain ⟨By, by_, y0', y1, y2, y3'⟩ := RY.out.at h2
      have hxl := LX.out x (List.mem_of_getElem? h1)
      have hyl := LY.out y (List.mem_of_getElem? h2)
      obtain ⟨dx, rfl⟩ := x3'.some_of (by omega)
      obtain ⟨dy, rfl⟩ := y3'.some_of (by omega)
      have x0 := (hbel.cell (lt_of_cell x0')).trans x0'
      have y0 := (hbel.cell (lt_of_cell y0')).trans y0'
      have HS := Lib.hid (show ∀ V, Below W.heap.size W V → (V.cell? (xa.add k) = some (.slice (some dx) x.length bx) ∧ V.cell? (ya.add k) = some (.slice (some dy) y.length by_)) from fun V h =>
        ⟨((B0.out.trans (h.mono (Nat.le_of_lt hqW))).cell (lt_of_cell x0')).trans x0', ((B0.out.trans (h.mono (Nat.le_of_lt hqW))).cell (lt_of_cell y0')).trans y0'⟩)
      have HVL := Lib.hid (show ∀ q, u7.ownBlock = some q → q < wr.heap.size from fun q hq => (World.ownsRow.lt hO.choose_spec.1 q hq).2)
      have x3 := Lib.hid (x3'.below hbel)
      have y3 := Lib.hid (y3'.below hbel)
      have hdx := x3'.lt_ (by omega)
      have hdy := y3'.lt_ (by omega)
      have hdx2 : Hid (u7.ownBlock ≠ some dx.block) := Lib.hid (fun e => by have := hvo _ e; omega)
      have hdy2 : Hid (u7.ownBlock ≠ some dy.block) := Lib.hid (fun e => by have := hvo _ e; omega)
      obtain ⟨f0, _, _⟩ := hA.at h3
      obtain ⟨f1, _, _⟩ := hA.at h4
      have hwr := hbW.size
      have O1 := Lib.hid hO
      have HXL := Lib.hid hxl
      have HYL := Lib.hid hyl
      rw [hxl] at x0 x1
      rw [hyl] at y0 y1
      rw [hxl, hyl] at HS
      clear x0' y0' x3' y3' hvo hA h1 h2 h3 h4 hO
      by_cases t0 : kd.toNat % 3 = 0
      · have hb0 : ((kd.toNat : Int) % 3 == 0) = true := by rw [beq_iff_eq]; omega
        have HFT := Lib.hid (show M[k]? = some x from by rw [hMk]; unfold fated; rw [if_pos t0])
        clear hMk t0
        go_upto_region 4 with (first
          | (at_builtin; refine wpList_append_out rfl (.tmp 44) (.tmp 49) rfl (O1.out.below ((Below.refl _ wr).alloc (Nat.le_refl _) _)) (by omega) HFT.out (by rw [HXL.out]; exact x1) x2 (x3.out.alloc _) (by rw [heap_size_alloc]; omega) hdx2.out (by rw [HXL.out]; exact row_lit wr _) rfl rfl ?_; intro v2 w2 hO2)
          | fail)
        go_wp2
        go_roundw
        case rel => exact ⟨k + 1, by omega, by go_num, hO2.out⟩
        case measure => simp [intOf]; omega
      · have hb0 : ((kd.toNat : Int) % 3 == 0) = false := by simpa using (by omega : ¬ (kd.toNat : Int) % 3 = 0)
        by_cases t1 : kd.toNat % 3 = 1
        · have hb1 : ((kd.toNat : Int) % 3 == 1) = true := by rw [beq_iff_eq]; omega
          have HFT := Lib.hid (show M[k]? = some y from by rw [hMk]; unfold fated; rw [if_neg t0, if_pos t1])
          clear hMk t0 t1
          go_upto_region 4 with (first
            | (at_builtin; refine wpList_append_out rfl (.tmp 53) (.tmp 58) rfl (O1.out.below ((Below.refl _ wr).alloc (Nat.le_refl _) _)) (by omega) HFT.out (by rw [HYL.out]; exact y1) y2 (y3.out.alloc _) (by rw [heap_size_alloc]; omega) hdy2.out (by rw [HYL.out]; exact row_lit wr _) rfl rfl ?_; intro v2 w2 hO2)
            | fail)
          go_wp2
          go_roundw
          case rel => exact ⟨k + 1, by omega, by go_num, hO2.out⟩
          case measure => simp [intOf]; omega
        · have hb1 : ((kd.toNat : Int) % 3 == 1) = false := by simpa using (by omega : ¬ (kd.toNat : Int) % 3 = 1)
          have HFT := Lib.hid (show M[k]? = some (y.take cu.toNat ++ x.drop cu.toNat) from by rw [hMk]; unfold fated; rw [if_neg t0, if_neg t1]; rfl)
          have hcu := cu.toNat_lt
          obtain ⟨n, hn⟩ : ∃ n, n = cu.toNat := ⟨_, rfl⟩
          rw [← hn] at hcu f1 HFT
          have e1 : (n : Int) ≤ (by_ : Int) := by omega
          have e2 : (n : Int) ≤ 256 := by omega
          have e3 : ¬ bx = n := by omega
          have L1 := Lib.hid (show (y.take n).length = n from by rw [List.length_take, HYL.out]; omega)
          have L2 := Lib.hid (show (x.drop n).length = 256 - n from by rw [List.length_drop, HXL.out])
          have L3 := Lib.hid (show (y.take n ++ x.drop n).length = 256 from by rw [List.length_append, L1.out, L2.out]; omega)
          have R1 := Lib.hid (y3.out.take n)
          have R2 := Lib.hid (x3.out.drop n)
          generalize y.take n = Y1 at *
          generalize x.drop n = X1 at *
          obtain ⟨Z, hZ⟩ : ∃ Z, Z = Y1 ++ X1 := ⟨_, rfl⟩
          rw [← hZ] at HFT L3
          have HZZ := Lib.hid hZ
          clear hMk t0 t1 hn hZ
          go_upto_region 7 with (fail)
          have HT := Lib.hid (fun V (h : Below wr.heap.size wr V) => HS.out V (hbW.trans (h.mono hwr)))
          have D0 := Lib.hid (show Below wr.heap.size wr wr.drew from (Below.refl _ wr).drew)
          have S0 := HT.out _ D0.out
          have DA : Hid (Below wr.heap.size wr (wr.alloc (.cells #[] 5)).drew) := Lib.hid ((Below.refl _ wr).alloc (Nat.le_refl _) (.cells #[] 5)).drew
          have SA := HT.out _ DA.out
          have OA : Hid (OB wr.heap.size (wr.alloc (.cells #[] 5)).drew (.slice (some ⟨wr.heap.size, 0, none⟩) 0 0) []) := Lib.hid (OB.lit wr wr.heap.size [] #[] (by simp [cellsB]) (Nat.le_refl _) (by simp [maxLen]))
          have GA : Hid (wr.heap.size ≤ (wr.alloc (.cells #[] 5)).drew.heap.size) := Lib.hid DA.out.size
          clear x0 y0 f0 f1
          go_region_held3 (fun V => V.cell? (xa.add k) = some (.slice (some dx) 256 bx) ∧ V.cell? (ya.add k) = some (.slice (some dy) 256 by_)) (first | with_reducible assumption | with_reducible exact S0 | with_reducible exact SA | fail)
            (first
              | (refine step_append_B rfl (.tmp 25) (.tmp 31) rfl wr.heap.size _ [] rfl OA.out (some dy) n by_ Y1 rfl L1.out (R1.out.below DA.out) (by simp; omega) GA.out ?_; intro v1 w1 o1 b1 _; have D1 := Lib.hid (DA.out.trans b1); have O2 : Hid (OB wr.heap.size w1 v1 Y1) := Lib.hid o1; have S1 := HT.out _ D1.out; clear o1 b1)
              | (refine step_append_B rfl (.tmp 32) (.tmp 38) rfl wr.heap.size v1 Y1 rfl O2.out (some (dx.add n)) (256 - n) (bx - n) X1 rfl L2.out (R2.out.below D1.out) (by rw [L1.out]; omega) D1.out.size ?_; intro v2 w2 o3' b2 _; have o3 := o3'; rw [← HZZ.out] at o3; obtain ⟨ad, c, rfl, hc1, hc2, r3, l3, g3⟩ := o3.row (by rw [L3.out]; omega); have D2 := Lib.hid (D1.out.trans b2); have S2 := HT.out _ D2.out; have D3 := Lib.hid (D2.out.alloc D2.out.size (.cells #[.slice (some ad) Z.length c] 22)); have S3 := HT.out _ D3.out; have O3 := Lib.hid (O1.out.below D3.out); have R3 := Lib.hid (r3.alloc (.cells #[.slice (some ad) Z.length c] 22)); have NE := Lib.hid (show u7.ownBlock ≠ some ad.block from fun e => by have := HVL.out _ e; omega); clear o3 o3' b2 r3)
              | (refine step_append_out rfl (.tmp 24) (.tmp 40) rfl O3.out (by omega) HFT.out hc1 hc2 R3.out (by rw [heap_size_alloc]; omega) NE.out (row_lit w2 _) rfl rfl ?_; intro v4 w4 hO4; have S4 := HS.out _ hO4.out.choose_spec.2.2.2)
              | fail)
          all_goals
            go_wp2
            go_roundw
            case rel => exact ⟨k + 1, by omega, by go_num, hO4.out⟩
            case measure => simp [intOf]; omega
    · obtain rfl : k = 4 := by omega
      obtain ⟨A, c, rfl, q1, q2, q3⟩ := hO.rbs (by omega) HML.out
      have Q3 := Lib.hid q3
      have Q4 := Lib.hid (B0.out.trans (hO.choose_spec.2.2.2.mono (Nat.le_of_lt hqW)))
      clear q3 hO
      go_wp2
      go_ret
      exact ⟨A, c, rfl, q1, q2, Q3.out, Q4.out⟩
end Go.Proofs.Ytlpobinmkedgeaa
