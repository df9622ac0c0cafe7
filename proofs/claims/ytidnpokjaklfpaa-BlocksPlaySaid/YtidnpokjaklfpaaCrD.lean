/- Contracts of Seal, the document's. -/
import Derived.Test.YtidnpokjaklfpaaCrC
namespace Go.Proofs.Ytidnpokjaklfpaa
open Go.RowKit
set_option linter.unusedVariables false

theorem head_cells (n : Nat) (h : n ≤ 65528) : #[Value.int .u8 ((n : Int) / 256), .int .u8 ((n : Int) % 256), .int .u8 0, .int .u8 0] = (cellsB [UInt8.ofNat (n / 256), UInt8.ofNat n, 0, 0]).toArray := by
  simp [cellsB, cellB]
  omega
theorem body_parts (l : List UInt8) (n size : Nat) (hl : l.length = n) (h1 : n + 8 ≤ size) : [UInt8.ofNat (n / 256), UInt8.ofNat n, 0, 0] ++ l ++ List.replicate (size - 8 - n) 0 = body l size := by
  subst hl
  simp [body]
theorem sum_cells (s : BitVec 32) : #[Value.int .u8 ((s.toNat : Int) / 16777216), .int .u8 ((s.toNat : Int) / 65536 % 256), .int .u8 ((s.toNat : Int) / 256 % 256), .int .u8 ((s.toNat : Int) % 256)] = (cellsB (hi4 s)).toArray := by
  have := s.isLt
  simp [cellsB, cellB, hi4]
  omega

set_option maxRecDepth 100000 in
set_option maxHeartbeats 800000 in
theorem refSeal_ok (A : Option Addr) (n c size : Nat) (l : List UInt8) (w : World) (hl : l.length = n) (h1 : n + 8 ≤ size) (h2 : size ≤ 65536) (hr : RB w A l) :
    Calls Try.prog 71 #[.slice A n c, .int .i64 size] w fun e w' => ∃ v', e = .returned (.tuple #[v', .int .i64 0]) ∧ OB w.heap.size w' v' (sealL l size) ∧ Below w.heap.size w w' := by
  have HL := Lib.hid hl
  have HB := Lib.hid (body_parts l n size hl h1)
  have HBL := Lib.hid (show (body l size).length = size - 4 from body_len l size (by rw [hl]; omega))
  have HH : Hid (sealL l size = hi4 (crc (body l size)) ++ body l size) := rfl
  clear hl
  have h3 : (n : Int) + 8 ≤ (size : Int) := by omega
  have h4 : (size : Int) ≤ 65536 := by omega
  have h5 : decide ((size : Int) - 8 < (n : Int)) = false := by simp; omega
  go_enter Try.func71, Try.ntmps71
  go_upto_region 6 with (at_builtin; refine wpList_append_B rfl (.tmp 29) (.tmp 30) rfl w.heap.size _ [UInt8.ofNat (n / 256), UInt8.ofNat n, 0, 0] rfl (OB.lit w w.heap.size _ _ (head_cells n (by omega)) (Nat.le_refl _) (by simp [maxLen])) _ _ _ l rfl HL.out (hr.alloc _) (by simp; omega) (by simp) ?_; intro v1 w1 ho1 hb1)
  have hB1 : Below w.heap.size w w1 := ((Below.refl _ _).alloc (Nat.le_refl _) _).trans hb1
  have HKL := Lib.hid (show ([UInt8.ofNat (n / 256), UInt8.ofNat n, 0, 0] ++ l).length = n + 4 from by rw [List.length_append, HL.out]; simp; omega)
  generalize [UInt8.ofNat (n / 256), UInt8.ofNat n, 0, 0] ++ l = Kl at *
  obtain ⟨A1, c1, rfl, hc1, hr1⟩ := ho1.form
  rw [HKL.out] at ho1 ⊢
  have hz1 := hB1.size
  clear hb1 hr1 hc1
  have h6 : (size : Int) - 4 - ((n : Int) + 4) = ((size - 8 - n : Nat) : Int) := by omega
  have H6 := Lib.hid h6
  clear h6
  go_upto_region 7 with (at_builtin; refine wpList_append_zeros_B rfl (.tmp 32) (.tmp 37) rfl w.heap.size _ Kl rfl ho1 (by rw [HKL.out]; omega) (size - 8 - n) _ rfl (by omega) (by rw [HKL.out]; omega) hz1 ?_; intro v2 w2 ho2 hb2)
  rw [HB.out] at ho2
  generalize body l size = B at *
  have hB2 := hB1.trans hb2
  have hz2 := hB2.size
  obtain ⟨A2, c2, rfl, hc2, hr2⟩ := ho2.form
  rw [HBL.out] at ho2 ⊢
  clear ho1 hB1 hb2 hz1
  go_wp2_with fail
  refine (refOf_any _ (size - 4) _ B w2 HBL.out (by omega) hr2).mono ?_
  rintro e w' ⟨rfl, rfl⟩
  generalize crc B = sm at *
  have hsm : sm.toNat < 4294967296 := sm.isLt
  go_wp2_with (at_builtin; refine wpList_append_B rfl (.tmp 52) (.tmp 53) rfl w.heap.size _ (hi4 sm) rfl (OB.lit w2 w.heap.size _ _ (sum_cells sm) hz2 (by simp [maxLen, hi4])) _ _ _ B rfl HBL.out (hr2.alloc _) (by simp [hi4]; omega) (by simp; omega) ?_; intro v3 w3 ho3 hb3)
  go_ret2
  rw [HH.out]
  exact ⟨_, rfl, ho3, (hB2.alloc hz2 _).trans hb3⟩

set_option maxHeartbeats 400000 in
theorem refSeal_arg (A : Option Addr) (n c : Nat) (size : Int) (w : World) (h : size < 8 ∨ 65536 < size) :
    Calls Try.prog 71 #[.slice A n c, .int .i64 size] w fun e w' => e = .returned (.tuple #[.slice none 0 0, .int .i64 2]) ∧ w = w' := by
  rcases h with h | h
  · go_enter Try.func71, Try.ntmps71
    go_wp2
    go_ret2
    exact ⟨rfl, rfl⟩
  · have h8 : ¬ size < 8 := by omega
    go_enter Try.func71, Try.ntmps71
    go_wp2
    go_ret2
    exact ⟨rfl, rfl⟩
set_option maxHeartbeats 400000 in
theorem refSeal_big (A : Option Addr) (n c size : Nat) (w : World) (h1 : 8 ≤ size) (h2 : size ≤ 65536) (h3 : size < n + 8) :
    Calls Try.prog 71 #[.slice A n c, .int .i64 size] w fun e w' => e = .returned (.tuple #[.slice none 0 0, .int .i64 5]) ∧ w = w' := by
  have h4 : (size : Int) ≤ 65536 := by omega
  have h4' : 8 ≤ (size : Int) := by omega
  have h5 : decide ((size : Int) - 8 < (n : Int)) = true := by simp; omega
  go_enter Try.func71, Try.ntmps71
  go_wp2
  go_ret2
  exact ⟨rfl, rfl⟩
end Go.Proofs.Ytidnpokjaklfpaa
