/- The statements' function awake of layer 5, the walk. -/
import Derived.Test.YtmmehomobmoapaaDoorQZ
namespace Go.Proofs.YtmmehomobmoapaaDoor
open Go.RowKit
set_option linter.unusedVariables false
set_option linter.unusedSimpArgs false
theorem s8 : str [1, 5, 1, 2, 1, 2, 1, 1] = ⟨#[1, 5, 1, 2, 1, 2, 1, 1]⟩ := rfl
set_option maxHeartbeats 4000000 in
set_option maxRecDepth 100000 in
theorem awake_any (w : World) (hT : TabAt 0 Lib.deBruijn64tab w) : Calls Tryd.prog 10 #[] w fun e w' => e = .returned (.bool true) ∧ Below w.heap.size w w' := by
  have HT := Lib.hid (fun W (hb : Below w.heap.size w W) => TabAt.below hT hb (TabAt.pos hT))
  clear hT
  go_enter Tryd.func10, Tryd.ntmps10
  go_wp2_with fail
  refine (zNew _).mono ?_
  rintro e w1 ⟨Am, cm, rfl, hcm, rm, b1⟩
  have B1 := Lib.hid (b1.alloc b1.size (.cells #[.int .i64 5, .slice Am 1 cm] 27))
  have RM := Lib.hid (rm.alloc (.cells #[.int .i64 5, .slice Am 1 cm] 27))
  obtain ⟨p0, p1⟩ := bx2 w1 (.int .i64 5) (.slice Am 1 cm) 27 (Below.refl _ _)
  clear b1 rm
  obtain ⟨p, hp⟩ : ∃ p, p = w1.heap.size := ⟨_, rfl⟩
  go_wp2_with fail
  generalize w1.alloc (.cells #[.int .i64 5, .slice Am 1 cm] 27) = W1 at *
  rw [← hp] at p0 p1 ⊢
  clear hp
  refine (zSet Am cm [0] [4] 2 _ rfl rfl z_set1 RM.out).mono ?_
  rintro e w2 ⟨A2, c2, rfl, hc2, r2, b2⟩
  have B2 := Lib.hid (B1.out.trans (b2.mono B1.out.size))
  have RM2 := Lib.hid (RM.out.below b2)
  have R2 := Lib.hid r2
  have q0 := (b2.cell (p := ⟨p, 0, none⟩) (lt_of_cell p0)).trans p0
  have q1 := (b2.cell (p := ⟨p, 1, none⟩) (lt_of_cell p1)).trans p1
  clear p0 p1 b2 r2 RM B1
  go_wp2_with fail
  refine (zSet A2 c2 [4] [12] 3 _ rfl rfl z_set2 R2.out).mono ?_
  rintro e w3 ⟨Ax, cx, rfl, hcx, rx, b3⟩
  have B3 := Lib.hid ((B2.out.trans (b3.mono B2.out.size)).alloc (by have := B2.out.size; have := b3.size; omega) (.cells #[.int .i64 5, .slice Ax 1 cx] 27))
  have RM3 := Lib.hid ((RM2.out.below b3).alloc (.cells #[.int .i64 5, .slice Ax 1 cx] 27))
  have RX3 := Lib.hid (rx.alloc (.cells #[.int .i64 5, .slice Ax 1 cx] 27))
  have p0 := (World.cell?_alloc_lt w3 (.cells #[.int .i64 5, .slice Ax 1 cx] 27) ⟨p, 0, none⟩ (Nat.lt_of_lt_of_le (lt_of_cell q0) b3.size)).trans ((b3.cell (p := ⟨p, 0, none⟩) (lt_of_cell q0)).trans q0)
  have p1 := (World.cell?_alloc_lt w3 (.cells #[.int .i64 5, .slice Ax 1 cx] 27) ⟨p, 1, none⟩ (Nat.lt_of_lt_of_le (lt_of_cell q1) b3.size)).trans ((b3.cell (p := ⟨p, 1, none⟩) (lt_of_cell q1)).trans q1)
  obtain ⟨x0, x1⟩ := bx2 w3 (.int .i64 5) (.slice Ax 1 cx) 27 (Below.refl _ _)
  clear q0 q1 b3 rx RM2 B2 R2
  obtain ⟨q, hq⟩ : ∃ q, q = w3.heap.size := ⟨_, rfl⟩
  go_wp2_with fail
  generalize w3.alloc (.cells #[.int .i64 5, .slice Ax 1 cx] 27) = W3 at *
  rw [← hq] at x0 x1 ⊢
  clear hq
  refine (zPut Ax cx _ RX3.out (HT.out _ B3.out)).mono ?_
  rintro e w4 ⟨Ab, cb, rfl, rb, b4⟩
  have B4 := Lib.hid (B3.out.trans (b4.mono B3.out.size))
  have RM4 := Lib.hid (RM3.out.below b4)
  have RX4 := Lib.hid (RX3.out.below b4)
  have RB4 := Lib.hid rb
  have y0 := (b4.cell (p := ⟨p, 0, none⟩) (lt_of_cell p0)).trans p0
  have y1 := (b4.cell (p := ⟨p, 1, none⟩) (lt_of_cell p1)).trans p1
  have u0 := (b4.cell (p := ⟨q, 0, none⟩) (lt_of_cell x0)).trans x0
  have u1 := (b4.cell (p := ⟨q, 1, none⟩) (lt_of_cell x1)).trans x1
  clear p0 p1 x0 x1 b4 rb RM3 RX3 B3
  go_wp2_with fail
  refine (zGet Ab cb _ RB4.out).mono ?_
  rintro e w5 ⟨Ay, cy, rfl, ry, b5⟩
  have k5 : ∀ {a : Addr} {v : Value}, w4.cell? a = some v → (w5.alloc (.cells #[.int .i64 5, .slice Ay 1 cy] 27)).cell? a = some v := fun hc => (World.cell?_alloc_lt w5 _ _ (Nat.lt_of_lt_of_le (lt_of_cell hc) b5.size)).trans ((b5.cell (lt_of_cell hc)).trans hc)
  obtain ⟨z0, z1⟩ := bx2 w5 (.int .i64 5) (.slice Ay 1 cy) 27 (Below.refl _ _)
  have bb5 := (B4.out.trans (b5.mono B4.out.size)).alloc (by have := B4.out.size; have := b5.size; omega) (.cells #[.int .i64 5, .slice Ay 1 cy] 27)
  have RBY := Lib.hid ((RB4.out.below b5).alloc (.cells #[.int .i64 5, .slice Ay 1 cy] 27))
  have ST := Lib.hid (AwS.mk (p := p) (q := q) (r := w5.heap.size) bb5 (k5 y0) (k5 y1) (k5 u0) (k5 u1) z0 z1 ((RM4.out.below b5).alloc _) ((RX4.out.below b5).alloc _) (ry.alloc _) (HT.out _ bb5))
  clear y0 y1 u0 u1 z0 z1 b5 ry k5 bb5 RM4 RX4 RB4 B4
  have s0 := ST.out.q0
  have s1 := ST.out.q1
  go_wp2_with fail
  generalize w5.alloc (.cells #[.int .i64 5, .slice Ay 1 cy] 27) = W5 at *
  generalize w5.heap.size = r at *
  have K := select_any 5 Ax cx [12] 1 W5 (by omega) ST.out.rx ST.out.tab
  rw [z_sel.1, z_sel.2] at K
  refine K.mono ?_
  rintro e w6 ⟨rfl, b6⟩
  clear K s0 s1
  have RB6 := Lib.hid (RBY.out.below b6)
  have S6 := Lib.hid (ST.out.later b6)
  clear b6 ST RBY
  have s0 := S6.out.q0
  have s1 := S6.out.q1
  go_wp2_with fail
  have K := next_any 5 Ax cx [12] 2 false w6 S6.out.rx S6.out.tab
  rw [z_next.1, z_next.2] at K
  refine K.mono ?_
  rintro e w7 ⟨rfl, b7⟩
  clear K s0 s1
  have S7 := Lib.hid (S6.out.later b7)
  have hcv := run_str w7 Ab 8 cb _ rfl (RB6.out.below b7)
  rw [s8] at hcv
  clear b7 S6 RB6
  have s0 := S7.out.q0
  have s1 := S7.out.q1
  have s2 := S7.out.r0
  have s3 := S7.out.r1
  go_wp2_with fail
  have K := same_any 5 5 Ax Ay cx cy [12] [12] w7 S7.out.rx S7.out.ry (by decide)
  rw [z_same.1] at K
  refine K.mono ?_
  rintro e w8 ⟨rfl, b8⟩
  clear K s0 s1 s2 s3 hcv
  have S8 := Lib.hid (S7.out.later b8)
  clear b8 S7
  have s0 := S8.out.q0
  have s1 := S8.out.q1
  have s2 := S8.out.p0
  have s3 := S8.out.p1
  go_wp2_with fail
  have K := same_any 5 5 Am Ax cm cx [0] [12] w8 S8.out.rm S8.out.rx (by decide)
  rw [z_same.2] at K
  refine K.mono ?_
  rintro e w9 ⟨rfl, b9⟩
  clear K s0 s1 s2 s3
  have S9 := Lib.hid (S8.out.later b9)
  clear b9 S8
  have s0 := S9.out.q0
  have s1 := S9.out.q1
  go_wp2_with fail
  have K := rank_any 5 Ax cx [12] 4 w9 hcx S9.out.rx
  rw [z_rank] at K
  refine K.mono ?_
  rintro e w10 ⟨rfl, b10⟩
  clear K s0 s1
  have S10 := Lib.hid (S9.out.later b10)
  clear b10 S9
  have s0 := S10.out.q0
  have s1 := S10.out.q1
  go_wp2_with fail
  have K := has_any 5 Ax cx [12] 2 w10 S10.out.rx
  rw [z_has.1] at K
  refine K.mono ?_
  rintro e w11 ⟨rfl, b11⟩
  clear K s0 s1
  have S11 := Lib.hid (S10.out.later b11)
  clear b11 S10
  have s0 := S11.out.q0
  have s1 := S11.out.q1
  go_wp2_with fail
  have K := has_any 5 Ax cx [12] 1 w11 S11.out.rx
  rw [z_has.2] at K
  refine K.mono ?_
  rintro e w12 ⟨rfl, b12⟩
  clear K s0 s1
  have S12 := Lib.hid (S11.out.later b12)
  clear b12 S11
  have s0 := S12.out.q0
  have s1 := S12.out.q1
  have s2 := S12.out.p0
  have s3 := S12.out.p1
  go_wp2_with fail
  refine (zMix true _ Am Ax cm cx [0] w12 rfl z_both.2.1 (both_any 5 5 Am Ax cm cx [0] [12] w12 S12.out.rm S12.out.rx)).mono ?_
  rintro e w13 ⟨A13, c13, rfl, hc13, r13, b13⟩
  clear s0 s1 s2 s3
  have S13 := Lib.hid (S12.out.later b13)
  have R13 := Lib.hid r13
  clear b13 S12 r13
  go_wp2_with fail
  have K := rank_any 5 A13 c13 [0] 5 w13 hc13 R13.out
  rw [z_rank2.1] at K
  refine K.mono ?_
  rintro e w14 ⟨rfl, b14⟩
  clear K
  have S14 := Lib.hid (S13.out.later b14)
  clear b14 S13 R13
  have s0 := S14.out.q0
  have s1 := S14.out.q1
  have s2 := S14.out.p0
  have s3 := S14.out.p1
  go_wp2_with fail
  refine (zMix false _ Am Ax cm cx [12] w14 rfl z_both.2.2 (either_any 5 5 Am Ax cm cx [0] [12] w14 S14.out.rm S14.out.rx)).mono ?_
  rintro e w15 ⟨A15, c15, rfl, hc15, r15, b15⟩
  clear s0 s1 s2 s3
  have S15 := Lib.hid (S14.out.later b15)
  have R15 := Lib.hid r15
  clear b15 S14 r15
  go_wp2_with fail
  have K := rank_any 5 A15 c15 [12] 5 w15 hc15 R15.out
  rw [z_rank2.2] at K
  refine K.mono ?_
  rintro e w16 ⟨rfl, b16⟩
  clear K
  have S16 := Lib.hid (S15.out.later b16)
  clear b16 S15 R15
  have s0 := S16.out.q0
  have s1 := S16.out.q1
  go_wp2_with fail
  have K := check_any 5 Ax cx [12] w16 S16.out.rx
  rw [z_chk] at K
  refine K.mono ?_
  rintro e w17 ⟨rfl, b17⟩
  clear K s0 s1
  have S17 := Lib.hid (S16.out.later b17)
  clear b17 S16
  go_wp2
  go_ret
  exact ⟨rfl, S17.out.bel⟩
end Go.Proofs.YtmmehomobmoapaaDoor
