/- The contract of the statements' function awake: it answers true, and changes nothing that was there. -/
import Derived.Test.YtgjahlknefobeaaW7
import Derived.Lib.SlBytesConst
namespace Go.Proofs.Ytgjahlknefobeaa
open Go.RowKit
set_option linter.unusedVariables false

theorem RB.mark (w : World) (l : List UInt8) (cs : Array Value) (fr : Nat × Nat) (hcs : cs = (cellsB l).toArray) : RB (w.alloc (.cells cs 5 fr)) (some ⟨w.heap.size, 0, none⟩) l := by
  subst hcs
  refine .inr ⟨_, rfl, fun j x hx => ?_⟩
  have e : (⟨w.heap.size, 0, none⟩ : Addr).add j = ⟨w.heap.size, j, none⟩ := by cases j <;> simp [Addr.add]
  rw [e, World.cell?_alloc_mark]
  simp [cellsB, hx, cellB]

theorem s1 : str ([97, 0], 5, 0).1 = ⟨#[97, 0]⟩ := rfl
theorem s2 : str [97, 0, 255, 0, 1] = ⟨#[97, 0, 255, 0, 1]⟩ := rfl
theorem s3 : str [98] = ⟨#[98]⟩ := rfl
theorem aw1 : getText [97, 0, 255, 0, 1, 98] = ([97, 0], 5, 0) := by decide
theorem aw2 : getSmall [2, 1, 2] = (258, 3, 0) := by decide
theorem aw3 : getInt (putInt (-7)) = (-7, 8, 0) := by decide
theorem aw4 : behB [97, 255] = some [98] := by decide
theorem aw5 : getText [98, 0, 1, 1, 5] = ([98], 3, 0) := by decide
theorem aw6 : getSmall [1, 5] = (5, 2, 0) := by decide
theorem aw7 : putText [97, 0] = [97, 0, 255, 0, 1] := by decide
theorem aw8 : cmpB [97] [97, 98] = -1 := by decide

theorem text_9 (g base : Nat) (w : World) (hR : RD w g [98, 0, 1, 1, 5]) (hbase : base ≤ g) :
    Calls Try.prog 30 #[.pointer (some ⟨g, 0, none⟩), .int .i64 9] w fun e w' => e = .returned (.string ⟨#[98]⟩) ∧ RD w' g [1, 5] ∧ Below base w w' := by
  have h := text_ok g 3 9 base [98, 0, 1, 1, 5] [98] w hR (by simp) aw5 (by simp) (by simp) hbase
  exact h
theorem small_5 (g base : Nat) (w : World) (hR : RD w g [1, 5]) (hbase : base ≤ g) :
    Calls Try.prog 31 #[.pointer (some ⟨g, 0, none⟩)] w fun e w' => e = .returned (.int .i64 5) ∧ RD w' g [] ∧ Below base w w' := by
  have h := small_ok g 2 5 base [1, 5] w hR (by simp) aw6 (by simp) (by omega) hbase
  exact h

set_option maxRecDepth 100000 in
set_option maxHeartbeats 1600000 in
theorem awake_any (w : World) : Calls Try.prog 11 #[] w fun e w' => e = .returned (.bool true) ∧ Below w.heap.size w w' := by
  have kc := fun (w : World) (C : Array Value) (n c : Nat) => Lib.run_convert_bytes_const (P := Try.prog) w 22 5 C n c Try.underlying22 Try.underlying5
  go_enter Try.func11, Try.ntmps11
  go_wp2_with fail
  refine (getText_any _ 6 _ [97, 0, 255, 0, 1, 98] _ (by omega) rfl (RB.mark _ _ _ _ (by simp [cellsB, cellB]))).mono ?_
  rw [aw1, s1]
  rintro e w1 ⟨rfl, hb1⟩
  have hB1 : Below w.heap.size w w1 := ((Below.refl _ _).alloc (Nat.le_refl _) _).trans (hb1.mono (by simp))
  clear hb1
  go_wp2_with fail
  refine (getSmall_any _ 3 _ [2, 1, 2] _ (by omega) rfl (by omega) (RB.mark _ _ _ _ (by simp [cellsB, cellB]))).mono ?_
  rw [aw2]
  rintro e w2 ⟨rfl, rfl⟩
  go_wp2_with fail
  refine (putInt_any (-7) _ (by omega) (by omega)).mono ?_
  rintro e w3 ⟨v3, rfl, ho3, hb3⟩
  have hB3 : Below w.heap.size w w3 := (hB1.alloc hB1.size _).trans (hb3.mono (by have := hB1.size; simp; omega))
  clear hB1 hb3
  obtain ⟨A3, c3, rfl, hc3, hr3⟩ := ho3.form
  have hz3 := hB3.size
  go_wp2_with fail
  refine (getInt_any _ _ _ (putInt (-7)) _ rfl hc3 hr3).mono ?_
  rw [aw3]
  rintro e w4 ⟨rfl, rfl⟩
  clear ho3 hr3 hc3
  go_wp2_with fail
  refine (behind_any _ 2 _ [97, 255] _ (by omega) rfl (by omega) (RB.mark _ _ _ _ (by simp [cellsB, cellB]))).mono ?_
  rw [aw4]
  rintro e w5 ⟨v5, rfl, ho5, hb5⟩
  have hB5 : Below w.heap.size w w5 := (hB3.alloc hB3.size _).trans (hb5.mono (by simp; omega))
  clear hB3 hz3 hb5
  have hz5 := hB5.size
  obtain ⟨A5, c5, rfl, hc5, hr5⟩ := ho5.form
  clear ho5 hc5
  go_wp2_with fail
  refine (new_any _ 5 _ [98, 0, 1, 1, 5] _ (by omega) rfl (RB.mark _ _ _ _ (by simp [cellsB, cellB]))).mono ?_
  rintro e w6 ⟨g, rfl, hR6, hg6, hb6⟩
  have hr6 := (hr5.alloc (.cells #[.int .u8 98, .int .u8 0, .int .u8 1, .int .u8 1, .int .u8 5] 5 (5, 6))).below hb6
  have hB6 : Below w.heap.size w w6 := (hB5.alloc hB5.size _).trans (hb6.mono (by simp; omega))
  have hgw : w.heap.size ≤ g := by simp at hg6; omega
  clear hB5 hz5 hb6 hr5 hg6
  have hz6 := hB6.size
  go_wp2_with fail
  refine (putText_any _ _ (by decide)).mono ?_
  rw [show putText (ByteArray.mk #[97, 0]).data.toList = [97, 0, 255, 0, 1] from aw7]
  rintro e w7 ⟨v7, rfl, ho7, hb7⟩
  have hr7 := hr6.below hb7
  have hR7 := hR6.keep hb7
  have hB7 : Below w.heap.size w w7 := hB6.trans (hb7.mono hz6)
  clear hr6 hR6 hB6 hz6 hb7
  have hz7 := hB7.size
  obtain ⟨A7, c7, rfl, hc7, hq7⟩ := ho7.form
  have hcv := run_str w7 A7 5 c7 [97, 0, 255, 0, 1] rfl hq7
  have hcw := run_str w7 A5 1 c5 [98] rfl hr7
  rw [s2] at hcv
  rw [s3] at hcw
  clear ho7 hc7
  have kc2 := kc (w7.alloc (.cells #[.int .u8 97] 5 (1, 2))) #[.int .u8 97, .int .u8 98] 2 2
  rw [heap_size_alloc] at kc2
  have HR7 := Lib.hid hR7
  clear hR7 hq7 hr7
  go_wp2_with fail
  refine (compare_any _ _ 1 _ 2 _ [97] [97, 98] _ (by omega) (by omega) rfl rfl ((RB.mark w7 [97] _ _ (by simp [cellsB, cellB])).alloc _) (by
    have h := RB.mark (w7.alloc (.cells #[.int .u8 97] 5 (1, 2))) [97, 98] #[.int .u8 97, .int .u8 98] (2, 3) (by simp [cellsB, cellB])
    rw [heap_size_alloc] at h
    exact h)).mono ?_
  rw [aw8]
  rintro e w8 ⟨rfl, q, rfl⟩
  have hB8 : Below w.heap.size w (((w7.alloc (.cells #[.int .u8 97] 5 (1, 2))).alloc (.cells #[.int .u8 97, .int .u8 98] 5 (2, 3))).drewN q) := by
    have h := (hB7.alloc hz7 (.cells #[.int .u8 97] 5 (1, 2))).alloc (by simp; omega) (.cells #[.int .u8 97, .int .u8 98] 5 (2, 3))
    exact ⟨h.os, h.tape, h.output, h.size, h.block⟩
  have hR8 : RD (((w7.alloc (.cells #[.int .u8 97] 5 (1, 2))).alloc (.cells #[.int .u8 97, .int .u8 98] 5 (2, 3))).drewN q) g [98, 0, 1, 1, 5] := by
    have h := (((Below.refl w7.heap.size w7).alloc (Nat.le_refl _) (.cells #[.int .u8 97] 5 (1, 2))).alloc (by simp) (.cells #[.int .u8 97, .int .u8 98] 5 (2, 3)))
    exact HR7.out.keep ⟨h.os, h.tape, h.output, h.size, h.block⟩
  clear hcv hcw kc2 HR7
  go_wp2_with fail
  refine (text_9 g w.heap.size _ hR8 hgw).mono ?_
  rintro e w9 ⟨rfl, hR9, hb9⟩
  have hB9 := hB8.trans hb9
  clear hB8 hb9 hR8
  go_wp2_with fail
  refine (small_5 g w.heap.size _ hR9 hgw).mono ?_
  rintro e w10 ⟨rfl, hR10, hb10⟩
  have hB10 := hB9.trans hb10
  clear hB9 hb10 hR9
  go_wp2_with fail
  refine (done_ok g _ hR10).mono ?_
  rintro e w11 ⟨rfl, rfl⟩
  clear hR10
  go_wp2
  go_ret
  exact ⟨rfl, hB10⟩

end Go.Proofs.Ytgjahlknefobeaa
