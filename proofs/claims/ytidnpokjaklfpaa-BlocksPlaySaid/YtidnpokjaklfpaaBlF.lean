/- The package blocks: what every right program reads of one block. -/
import Derived.Test.YtidnpokjaklfpaaBlP
import Derived.Test.YtidnpokjaklfpaaScR
namespace Go.Proofs.Ytidnpokjaklfpaa
open Go.RowKit
set_option linter.unusedVariables false
def bk0 : Dk := Dk.new 11
def bkA : Ar := ⟨3, 2⟩
def bk1 : Dk := (bk0.bwrite bkA 1 [97, 98]).1
def bk2 : Dk := bk1.sync
def bk3 : Dk := bk2.power []
theorem bk_e1 : (bk0.bwrite bkA 1 [97, 98]).2 = 0 := by kernel_rfl
theorem bk_e2 : bk1.syncErr = 0 := by kernel_rfl
theorem bk_c0 : bk0.calls = 0 := by kernel_rfl
theorem bk_c1 : bk1.calls = 4 := by kernel_rfl
theorem bk_n : bk3.rows.length = 11 := by kernel_rfl
theorem bk_ch : bkA.check bk3.rows.length = 0 := by kernel_rfl
theorem bk_g0 : Good bk0 11 := good_new 11 (by omega)
set_option maxRecDepth 1000000 in
theorem bk_w : bk0.bwrite bkA 1 [97, 98] = bk0.bw ((7 : Nat) : Int) (sealL [97, 98] 1024) 4 := by
  unfold Dk.bwrite
  have h0 : bkA.fault bk0.rows.length 1 = 0 := by rw [bk_g0.len]; exact Ar.fault_zero (by omega) (by omega) (by omega)
  rw [h0, if_neg (by simp), if_neg (by simp)]
  rfl
set_option maxRecDepth 1000000 in
theorem bk_good : Good bk1 11 ∧ ∀ k, k < 4 → bk1.at_ (7 + k) = part (sealL [97, 98] 1024) k := by
  obtain ⟨h1, h2, h3, h4, h5⟩ := bk_g0.bw (x := 7) (b := sealL [97, 98] 1024) (seal_len _ _ (by simp)) (by omega) 4 (by omega)
  rw [← bk_w] at h2 h5
  refine ⟨h2, fun k hk => ?_⟩
  unfold Dk.at_
  rw [show bk1.wt (7 + k) = _ from h5 (7 + k), if_pos (by omega), show 7 + k - 7 = k by omega]
  rfl
theorem bk_good3 : Good bk3 11 := (bk_good.1.ofSync).ofPower []
set_option maxRecDepth 1000000 in
theorem bk_at {i : Nat} (hi : i < 11) : bk3.at_ i = bk1.at_ i := bk_good.1.sync_power [] hi
set_option maxRecDepth 1000000 in
theorem bk_r1 : bk3.bread bkA 1 = ([97, 98], 0) := by
  refine Dk.bread_seal bk_good3 (by omega) (by omega) (by omega) (by simp) fun k hk => ?_
  show bk3.at_ (7 + k) = _
  rw [bk_at (by omega), bk_good.2 k hk]
set_option maxRecDepth 1000000 in
theorem bk_z {i : Nat} (hi : i < 7) : bk3.at_ i = zeros := by
  rw [bk_at (by omega)]
  obtain ⟨h1, h2, h3, h4, h5⟩ := bk_g0.bw (x := 7) (b := sealL [97, 98] 1024) (seal_len _ _ (by simp)) (by omega) 4 (by omega)
  rw [← bk_w] at h4 h5
  unfold Dk.at_
  rw [show bk1.wt i = _ from h5 i, if_neg (by omega), show bk1.rows = bk0.rows from h4]
  match i, hi with
  | 0, _ => rfl
  | 1, _ => rfl
  | 2, _ => rfl
  | 3, _ => rfl
  | 4, _ => rfl
  | 5, _ => rfl
  | 6, _ => rfl
set_option maxRecDepth 1000000 in
theorem opn_zero : opn (zeros ++ zeros ++ zeros ++ zeros) 1024 = ([], 10) := by
  refine opn_sum ?_
  have h : ((be ((zeros ++ zeros ++ zeros ++ zeros).take 4)) == (crc ((zeros ++ zeros ++ zeros ++ zeros).drop 4)).toNat) = false := by kernel_rfl
  exact fun e => by rw [e] at h; simp at h
set_option maxRecDepth 1000000 in
theorem bk_r0 : bk3.bread bkA 0 = ([], 10) := by
  unfold Dk.bread
  rw [bk_good3.len, show bkA.fault 11 0 = 0 from Ar.fault_zero (by omega) (by omega) (by omega), if_neg (by simp), bk_good3.off, if_neg (by simp)]
  show opn (bk3.rd 3 4) 1024 = _
  have : bk3.rd 3 4 = zeros ++ zeros ++ zeros ++ zeros := by
    show (((([] : List UInt8) ++ bk3.at_ (3 + 0)) ++ bk3.at_ (3 + 1)) ++ bk3.at_ (3 + 2)) ++ bk3.at_ (3 + 3) = _
    rw [bk_z (by omega), bk_z (by omega), bk_z (by omega), bk_z (by omega), List.nil_append]
  rw [this, opn_zero]
set_option maxRecDepth 1000000 in
theorem bk_s : bk3.sound bkA = [1] := by
  unfold Dk.sound
  rw [if_pos bk_ch]
  show bk3.soundTo bkA 2 = _
  have e1 : bk3.soundTo bkA 1 = [] := if_neg (by rw [show bk3.bread bkA ((0 : Nat) : Int) = _ from bk_r0]; simp)
  have e2 : bk3.soundTo bkA 2 = bk3.soundTo bkA 1 ++ [1] := if_pos (by rw [show bk3.bread bkA ((1 : Nat) : Int) = _ from bk_r1])
  rw [e2, e1]
  rfl
set_option maxHeartbeats 2000000 in
set_option maxRecDepth 100000 in
theorem awake4_any (w : World) : Calls Try.prog 24 #[] w fun e w' => e = .returned (.bool true) ∧ Below w.heap.size w w' := by
  have kc := fun (w : World) (C : Array Value) (n c : Nat) => Lib.run_convert_bytes_const (P := Try.prog) w 32 5 C n c Try.underlying32 Try.underlying5
  go_enter Try.func24, Try.ntmps24
  go_wp2_with fail
  refine (new_any 11 w).mono ?_
  rintro e w0 ⟨F, rfl, h0, b0⟩
  have h0 := Lib.hid (show DkAt w.heap.size F w0 bk0 from h0)
  have b0 := Lib.hid b0
  go_upto_region 3 with fail
  have h1 := Lib.hid (h0.out.alloc (.cells #[.int .i64 3, .int .i64 2] 53))
  have b1 := Lib.hid (b0.out.alloc b0.out.size (.cells #[.int .i64 3, .int .i64 2] 53))
  have x1 := heap_alloc_last w0 (.cells #[.int .i64 3, .int .i64 2] 53)
  have z1 := heap_size_alloc w0 (.cells #[.int .i64 3, .int .i64 2] 53)
  generalize w0.alloc (.cells #[.int .i64 3, .int .i64 2] 53) = w1 at *
  have nF := Lib.hid (not_has h0.out (Nat.le_refl _))
  have g0 := b0.out.size
  clear b0 h0
  generalize w0.heap.size = b at *
  have x1 := Lib.hid x1
  have c0 : w1.cell? ⟨b, 0, none⟩ = some (.int .i64 3) := (cell_of_row w1 _ 0 _ _ _ x1.out).trans rfl
  have c1 : w1.cell? ⟨b, 1, none⟩ = some (.int .i64 2) := (cell_of_row w1 _ 1 _ _ _ x1.out).trans rfl
  have Z1 := Lib.hid z1
  clear z1
  have hb1 : Hid (b < w1.heap.size) := Lib.hid (by have := Z1.out; omega)
  have h2 := h1.out.alloc (.cells #[.int .u8 97, .int .u8 98] 5 (2, 3))
  have k2 := bwrite_any h2 (by rw [bk_c0]; omega) bkA 1 (some ⟨w1.heap.size, 0, none⟩) 2 2 [97, 98] rfl (by omega) (RB.mark w1 [97, 98] _ (2, 3) (by simp [cellsB, cellB]))
  rw [bk_e1] at k2
  have k2 := Lib.hid k2
  have b2 := Lib.hid (b1.out.alloc b1.out.size (.cells #[.int .u8 97, .int .u8 98] 5 (2, 3)))
  have x2 := Lib.hid ((Below.heap_alloc w1 (.cells #[.int .u8 97, .int .u8 98] 5 (2, 3)) b hb1.out).trans x1.out)
  clear h2
  go_wp2_with fail
  refine k2.out.mono ?_
  rintro e w3 ⟨rfl, h3, f3⟩
  have h3 := (show DkAt w.heap.size F w3 bk1 from h3)
  have b3 := Lib.hid (b2.out.trans (f3.below h3.based b2.out.size))
  have x3 := Lib.hid ((f3.block b (Array.getElem?_eq_some_iff.1 x2.out).1 nF.out).trans x2.out)
  have k3 := sync_any h3 (by rw [bk_c1]; omega)
  rw [bk_e2] at k3
  have k3 := Lib.hid k3
  clear f3 k2 h3 x2 b2 x1 b1 h1 c0 c1
  go_wp2_with fail
  refine k3.out.mono ?_
  rintro e w4 ⟨rfl, h4, f4⟩
  have h4 := (show DkAt w.heap.size F w4 bk2 from h4)
  have b4 := Lib.hid (b3.out.trans (f4.below h4.based b3.out.size))
  have x4 := Lib.hid ((f4.block b (Array.getElem?_eq_some_iff.1 x3.out).1 nF.out).trans x3.out)
  have k4 := Lib.hid (power_any h4 none 0 0 [] rfl (Nat.le_refl _) (by simp [maxLen]) (.inl rfl) (fun h => absurd rfl h))
  clear f4 k3 h4 x3 b3
  go_wp2_with fail
  refine k4.out.mono ?_
  rintro e w5 ⟨rfl, h5, f5⟩
  have h5 := (show DkAt w.heap.size F w5 bk3 from h5)
  have b5 := Lib.hid (b4.out.trans (f5.below h5.based b4.out.size))
  have x5 := Lib.hid ((f5.block b (Array.getElem?_eq_some_iff.1 x4.out).1 nF.out).trans x4.out)
  have k5 := bread_any h5 bkA 1
  rw [bk_r1] at k5
  have k5 := Lib.hid k5
  have h5 := Lib.hid h5
  have c50 : w5.cell? ⟨b, 0, none⟩ = some (.int .i64 3) := (cell_of_row w5 _ 0 _ _ _ x5.out).trans rfl
  have c51 : w5.cell? ⟨b, 1, none⟩ = some (.int .i64 2) := (cell_of_row w5 _ 1 _ _ _ x5.out).trans rfl
  clear f5 k4 x4 b4
  go_wp2_with fail
  refine k5.out.mono ?_
  rintro e w6 ⟨v6, rfl, o6, q6⟩
  obtain ⟨A6, c6, rfl, hc6, r6⟩ := o6.form
  have h6 := Lib.hid (h5.out.below q6)
  have b6 := Lib.hid (b5.out.trans (q6.mono b5.out.size))
  have x6 := Lib.hid ((q6.block b (Array.getElem?_eq_some_iff.1 x5.out).1).trans x5.out)
  have r6 := Lib.hid r6
  have k6 := bread_any h6.out bkA 0
  rw [bk_r0] at k6
  have k6 := Lib.hid k6
  have c60 : w6.cell? ⟨b, 0, none⟩ = some (.int .i64 3) := (cell_of_row w6 _ 0 _ _ _ x6.out).trans rfl
  have c61 : w6.cell? ⟨b, 1, none⟩ = some (.int .i64 2) := (cell_of_row w6 _ 1 _ _ _ x6.out).trans rfl
  clear o6 q6 hc6 k5 x5 b5 h5 c50 c51
  go_wp2_with fail
  refine k6.out.mono ?_
  rintro e w7 ⟨v7, rfl, o7, q7⟩
  obtain ⟨A7, c7, rfl, hc7, r7⟩ := o7.form
  have h7 := Lib.hid (h6.out.below q7).drew
  have b7 := Lib.hid (b6.out.trans (q7.mono b6.out.size)).drew
  have x7 := Lib.hid ((q7.block b (Array.getElem?_eq_some_iff.1 x6.out).1).trans x6.out)
  have r7' := Lib.hid (r6.out.below q7)
  clear o7 q7 hc7 r7 k6 x6 b6 h6 c60 c61 r6
  go_upto_region 8 with fail
  have c70 : w7.drew.cell? ⟨b, 0, none⟩ = some (.int .i64 3) := (cell_of_row w7 _ 0 _ _ _ x7.out).trans rfl
  have c71 : w7.drew.cell? ⟨b, 1, none⟩ = some (.int .i64 2) := (cell_of_row w7 _ 1 _ _ _ x7.out).trans rfl
  have KN := Lib.hid (sectors_some bkA 1 w7.drew rfl rfl)
  have KS := Lib.hid (fun W (hb : Below w7.drew.heap.size w7.drew W) => sound_any (h7.out.below hb) bkA)
  rw [bk_s] at KS
  go_region_held3 (fun W => W.cell? ⟨b, 0, none⟩ = some (.int .i64 3) ∧ W.cell? ⟨b, 1, none⟩ = some (.int .i64 2)) (first | with_reducible assumption | with_reducible exact ⟨c70, c71⟩ | with_reducible exact ⟨c80, c81⟩ | with_reducible exact ⟨c90, c91⟩ | go_keep | fail)
    (first
      | (go_at_call 31; refine KN.out.mono ?_; rintro e w8 ⟨g8, rfl, hg8, f8, q8⟩; have F8 := Lib.hid f8; have Q8 := Lib.hid q8; have c80 := (q8.cell (p := ⟨b, 0, none⟩) (lt_of_cell c70)).trans c70; have c81 := (q8.cell (p := ⟨b, 1, none⟩) (lt_of_cell c71)).trans c71; clear f8 q8)
      | (go_at_call 33; refine (KS.out _ Q8.out).mono ?_; rintro e w9 ⟨v9, rfl, o9, q9⟩; have O9 := Lib.hid o9; have Q9 := Lib.hid q9; have c90 := (q9.cell (p := ⟨b, 0, none⟩) (lt_of_cell c80)).trans c80; have c91 := (q9.cell (p := ⟨b, 1, none⟩) (lt_of_cell c81)).trans c81; clear o9 q9)
      | fail)
  all_goals
    have B8 := Lib.hid (b7.out.trans (Q8.out.mono b7.out.size))
    have B9 := Lib.hid (B8.out.trans (Q9.out.mono B8.out.size))
    have k9 := check_any ((h7.out.below Q8.out).below Q9.out) bkA
    rw [bk_ch] at k9
    have K9 := Lib.hid k9
    obtain ⟨g9, c9, rfl, y9⟩ : ∃ g c, v9 = .slice (some ⟨g, 0, none⟩) 1 c ∧ w9.cell? ⟨g, 0, none⟩ = some (.int .i64 1) := by
      have o9 := O9.out
      rcases o9.2 with ⟨_, h0⟩ | ⟨g, cap, cur, e, _⟩
      · cases h0
      · refine ⟨g, cap, e, ?_⟩
        subst e
        have := World.ownsRow.cells o9 (g := g) rfl 0 (.int .i64 1) rfl
        rw [Addr.add_nought] at this
        exact this
    have y8 : w9.cell? ⟨g8, 0, none⟩ = some (.int .i64 7) := (Q9.out.cell (p := ⟨g8, 0, none⟩) (Array.getElem?_eq_some_iff.1 F8.out).1).trans ((F8.out.cell 0).trans (by simp [four, bkA]))
    have hcv := run_str w9 A6 2 c6 [97, 98] rfl ((RB.drew r7'.out |>.below Q8.out).below Q9.out)
    rw [show str [97, 98] = ⟨#[97, 98]⟩ from rfl] at hcv
    clear k9
    go_wp2_with (first
      | (go_at_call 25; refine K9.out.mono ?_; rintro e w10 ⟨rfl, b10⟩; have B10 := Lib.hid (B9.out.trans (b10.mono B9.out.size)); clear b10)
      | fail)
    go_ret
    exact ⟨rfl, B10.out⟩
end Go.Proofs.Ytidnpokjaklfpaa
