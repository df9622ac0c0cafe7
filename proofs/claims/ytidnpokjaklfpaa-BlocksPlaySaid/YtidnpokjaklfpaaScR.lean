/- What every right program has behind a torn sector. -/
import Derived.Test.YtidnpokjaklfpaaScQ
namespace Go.Proofs.Ytidnpokjaklfpaa
open Go.RowKit
set_option linter.unusedVariables false
def aw0 : Dk := Dk.new 5
def aw1 : Dk := aw0.write 1 (oneB 9)
def aw2 : Dk := aw1.sync
def aw3 : Dk := aw2.write 3 (oneB 7)
def aw4 : Dk := aw3.power [3, 5]
theorem aw_e1 : aw0.writeErr 1 (oneB 9) = 0 := by kernel_rfl
theorem aw_e2 : aw1.syncErr = 0 := by kernel_rfl
theorem aw_e3 : aw2.writeErr 3 (oneB 7) = 0 := by kernel_rfl
theorem aw_w : aw3.waits = [3] := by kernel_rfl
theorem aw_f3 : aw4.faultAt 3 = 0 := by kernel_rfl
theorem aw_f1 : aw4.faultAt 1 = 0 := by kernel_rfl
theorem aw_l3 : (aw4.reads 3).length = 256 := by kernel_rfl
theorem aw_l1 : (aw4.reads 1).length = 256 := by kernel_rfl
theorem aw_34 : (aw4.reads 3)[4]? = some 7 := by kernel_rfl
theorem aw_35 : (aw4.reads 3)[5]? = some 0 := by kernel_rfl
theorem aw_1 : (aw4.reads 1)[255]? = some 9 := by kernel_rfl
theorem aw_c0 : aw0.calls = 0 := by kernel_rfl
theorem aw_c1 : aw1.calls = 1 := by kernel_rfl
theorem aw_c2 : aw2.calls = 2 := by kernel_rfl
theorem aw_c4 : aw4.calls = 3 := by kernel_rfl
theorem aw_n : aw4.rows.length = 5 := by kernel_rfl
theorem aw_o : aw4.off = false := by kernel_rfl
theorem not_has {base : Nat} {F : Ft} {w : World} {t : Dk} (h : DkAt base F w t) {i : Nat} (hi : w.heap.size ≤ i) : ¬ F.has i := fun hx => by have := h.inside i hx; omega
set_option maxHeartbeats 2000000 in
set_option maxRecDepth 100000 in
theorem awake_any (w : World) : Calls Try.prog 8 #[] w fun e w' => e = .returned (.bool true) ∧ Below w.heap.size w w' := by
  go_enter Try.func8, Try.ntmps8
  go_wp2_with fail
  refine (new_any 5 w).mono ?_
  rintro e w0 ⟨F, rfl, h0, b0⟩
  have h0 := Lib.hid (show DkAt w.heap.size F w0 aw0 from h0)
  have b0 := Lib.hid b0
  go_wp2_with fail
  refine (full_any 9 9 rfl w0).mono ?_
  rintro e w1 ⟨g1, rfl, hg1, o1, b1⟩
  have h1 := h0.out.below b1
  have k1 := write_any h1 (by rw [aw_c0]; omega) 1 (some ⟨g1, 0, none⟩) 256 256 (oneB 9) (oneB_len 9) o1.reads (fun ad e => by injection e with e; subst e; exact not_has h0.out hg1)
  rw [aw_e1] at k1
  have k1 := Lib.hid k1
  have b1 := Lib.hid (b0.out.trans (b1.mono b0.out.size))
  clear h1 o1
  go_wp2_with fail
  refine k1.out.mono ?_
  rintro e w2 ⟨rfl, h2, f2⟩
  have h2 := (show DkAt w.heap.size F w2 aw1 from h2)
  have b2 := Lib.hid (b1.out.trans (f2.below h2.based b1.out.size))
  have k2 := sync_any h2 (by rw [aw_c1]; omega)
  rw [aw_e2] at k2
  have k2 := Lib.hid k2
  clear h2 f2 k1
  go_wp2_with fail
  refine k2.out.mono ?_
  rintro e w3 ⟨rfl, h3, f3⟩
  have h3 := (show DkAt w.heap.size F w3 aw2 from h3)
  have b3 := Lib.hid (b2.out.trans (f3.below h3.based b2.out.size))
  have h3 := Lib.hid h3
  clear f3 k2
  go_wp2_with fail
  refine (full_any 7 7 rfl w3).mono ?_
  rintro e w4 ⟨g4, rfl, hg4, o4, b4⟩
  have h4 := h3.out.below b4
  have k4 := write_any h4 (by rw [aw_c2]; omega) 3 (some ⟨g4, 0, none⟩) 256 256 (oneB 7) (oneB_len 7) o4.reads (fun ad e => by injection e with e; subst e; exact not_has h3.out hg4)
  rw [aw_e3] at k4
  have k4 := Lib.hid k4
  have b4 := Lib.hid (b3.out.trans (b4.mono b3.out.size))
  clear h4 o4
  go_wp2_with fail
  refine k4.out.mono ?_
  rintro e w5 ⟨rfl, h5, f5⟩
  have h5 := (show DkAt w.heap.size F w5 aw3 from h5)
  have b5 := Lib.hid (b4.out.trans (f5.below h5.based b4.out.size))
  have k5 := waits_any h5
  rw [aw_w] at k5
  have k5 := Lib.hid k5
  have h5 := Lib.hid h5
  clear f5 k4
  go_wp2_with fail
  refine k5.out.mono ?_
  rintro e w6 ⟨A6, c6, rfl, hn6, hA6, b6⟩
  have h6 := Lib.hid (h5.out.below b6)
  have b6' := Lib.hid (b5.out.trans (b6.mono b5.out.size))
  rcases hn6 with e | ⟨ad6, rfl, hc6⟩
  · cases e
  have x6 := hc6 0 3 rfl
  rw [Addr.add_nought] at x6
  have y6 := Lib.hid (show w5.heap.size ≤ ad6.block from hA6 ad6 rfl)
  have x6 := Lib.hid x6
  clear hc6 hA6 k5 b6
  go_wp2_with fail
  have h7 := h6.out.alloc (.cells #[.int .u8 3, .int .u8 5] 5)
  have k7 := power_any h7 (some ⟨w6.heap.size, 0, none⟩) 2 2 [3, 5] rfl (Nat.le_refl _) (by simp [maxLen]) (RB.lit w6 [3, 5] _ (by simp [cellsB, cellB]) (by simp [maxLen])) (fun _ ad e => by injection e with e; subst e; exact not_has h6.out (Nat.le_refl _))
  have b7 := Lib.hid (b6'.out.alloc b6'.out.size (.cells #[.int .u8 3, .int .u8 5] 5))
  have z7 := Lib.hid (heap_size_alloc w6 (.cells #[.int .u8 3, .int .u8 5] 5))
  have hlt6 : Hid (ad6.block < w6.heap.size) := Lib.hid (lt_of_cell x6.out)
  have x7 := Lib.hid ((box_old w6 (.cells #[.int .u8 3, .int .u8 5] 5) _ hlt6.out).trans x6.out)
  generalize w6.alloc (.cells #[.int .u8 3, .int .u8 5] 5) = w7 at *
  refine k7.mono ?_
  rintro e w8 ⟨rfl, h8, f8⟩
  have h8 := (show DkAt w.heap.size F w8 aw4 from h8)
  have b8 := Lib.hid (b7.out.trans (f8.below h8.based b7.out.size))
  have x8 := Lib.hid ((f8.cell (by have := hlt6.out; have := z7.out; omega) (not_has h5.out y6.out)).trans x7.out)
  have k8 := read_any h8 3
  rw [aw_f3, aw_l3] at k8
  have k8 := Lib.hid k8
  have hl8 := Lib.hid (show ad6.block < w8.heap.size from lt_of_cell x8.out)
  have h8 := Lib.hid h8
  clear k7 h7 f8
  go_wp2_with fail
  refine k8.out.mono ?_
  rintro e w9 ⟨A9, rfl, r9, b9⟩
  have h9 := h8.out.below b9
  have b9' := Lib.hid (b8.out.trans (b9.mono b8.out.size))
  have x9 := Lib.hid ((b9.cell hl8.out).trans x8.out)
  have k9 := read_any h9 1
  rw [aw_f1, aw_l1] at k9
  have k9 := Lib.hid k9
  have hl9 := Lib.hid (show ad6.block < w9.heap.size from lt_of_cell x9.out)
  have h9 := Lib.hid h9
  have r9 := Lib.hid r9
  clear k8 b9
  go_wp2_with fail
  refine k9.out.mono ?_
  rintro e w10 ⟨A10, rfl, r10, b10⟩
  have h10 := h9.out.below b10
  have b10' := Lib.hid (b9'.out.trans (b10.mono b9'.out.size))
  have x10 := (b10.cell hl9.out).trans x9.out
  have r9' := r9.out.below b10
  obtain ⟨a9, v9, rfl, hv9, y4⟩ := r9'.at_ (k := 4) (by rw [aw_l3]; omega)
  rw [aw_34] at hv9
  obtain rfl : 7 = v9 := by injection hv9
  obtain ⟨a9', v9, e9, hv9, y5⟩ := r9'.at_ (k := 5) (by rw [aw_l3]; omega)
  obtain rfl : a9 = a9' := by injection e9
  rw [aw_35] at hv9
  obtain rfl : 0 = v9 := by injection hv9
  obtain ⟨a10, v10, rfl, hv10, y255⟩ := r10.at_ (k := 255) (by rw [aw_l1]; omega)
  rw [aw_1] at hv10
  obtain rfl : 9 = v10 := by injection hv10
  have q1 := calls_any h10
  have q2 := size_any h10
  have q3 := off_any h10
  rw [aw_c4] at q1
  rw [aw_n] at q2
  rw [aw_o] at q3
  have q1 := Lib.hid q1
  have q2 := Lib.hid q2
  have q3 := Lib.hid q3
  have ad_ : ∀ (a : Addr) (i : Nat), i ≠ 0 → a.add i = ⟨a.block, a.off + i, none⟩ := fun a i hi => by simp [Addr.add, hi]
  rw [ad_ a9 4 (by omega), show ((7 : UInt8).toNat : Int) = 7 from rfl] at y4
  rw [ad_ a9 5 (by omega), show ((0 : UInt8).toNat : Int) = 0 from rfl] at y5
  rw [ad_ a10 255 (by omega), show ((9 : UInt8).toNat : Int) = 9 from rfl] at y255
  clear h10 r9' r10 k9 b10 e9 ad_
  go_wp2_with (first
    | (go_at_call 21; refine q1.out.mono ?_; rintro e w' ⟨rfl, rfl⟩)
    | (go_at_call 13; refine q2.out.mono ?_; rintro e w' ⟨rfl, rfl⟩)
    | (go_at_call 20; refine q3.out.mono ?_; rintro e w' ⟨rfl, rfl⟩)
    | fail)
  go_ret
  exact ⟨rfl, b10'.out⟩
end Go.Proofs.Ytidnpokjaklfpaa
