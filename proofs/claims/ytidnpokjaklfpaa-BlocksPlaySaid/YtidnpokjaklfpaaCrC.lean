/- Contracts of Seal, the program's. -/
import Derived.Test.YtidnpokjaklfpaaCrB
import Derived.Deep.Cut
namespace Go.Proofs.Ytidnpokjaklfpaa
open Go.RowKit
set_option linter.unusedVariables false

theorem seal_pre (b : List UInt8) (size : Nat) (h : b.length + 8 ≤ size) :
    (splice (((List.replicate size (0 : UInt8)).set 4 (UInt8.ofNat (b.length / 256))).set 5 (UInt8.ofNat b.length)) 8 b).drop 4 = body b size := by
  obtain ⟨r, rfl⟩ : ∃ r, size = b.length + r + 8 := ⟨size - b.length - 8, by omega⟩
  have e : List.replicate (b.length + r + 8) (0 : UInt8) = [0, 0, 0, 0, 0, 0, 0, 0] ++ (List.replicate b.length 0 ++ List.replicate r 0) := by
    rw [List.replicate_append_replicate, show b.length + r + 8 = 8 + (b.length + r) by omega, ← List.replicate_append_replicate]
    rfl
  rw [e]
  simp only [List.cons_append, List.nil_append, List.set_cons_succ, List.set_cons_zero, splice]
  rw [show b.length + r + 8 = b.length + r + 8 from rfl]
  simp only [List.take_succ_cons, List.take_zero, List.cons_append, List.nil_append, List.drop_succ_cons, List.drop_zero, body]
  rw [show 8 + b.length = b.length + 8 by omega]
  simp only [List.drop_succ_cons]
  rw [List.drop_append, List.length_replicate, List.drop_of_length_le (by simp), Nat.sub_self, List.nil_append, List.drop_zero, show b.length + r + 8 - 8 - b.length = r by omega]

theorem hi4_at (s : BitVec 32) (k : Nat) (h : k < 4) : (hi4 s)[k]? = some (UInt8.ofNat (s.toNat / 2 ^ (24 - 8 * k))) := by
  match k, h with
  | 0, _ => rfl
  | 1, _ => rfl
  | 2, _ => rfl
  | 3, _ => simp [hi4]

set_option maxRecDepth 100000 in
set_option maxHeartbeats 800000 in
theorem seal_ok (A : Option Addr) (n c size : Nat) (l : List UInt8) (w : World) (hl : l.length = n) (h1 : n + 8 ≤ size) (h2 : size ≤ 65536) (hr : RB w A l) :
    Calls Try.prog 61 #[.slice A n c, .int .i64 size] w fun e w' => ∃ v', e = .returned (.tuple #[v', .int .i64 0]) ∧ OB w.heap.size w' v' (sealL l size) ∧ Below w.heap.size w w' := by
  have HL := Lib.hid hl
  clear hl
  have h3 : (n : Int) + 8 ≤ (size : Int) := by omega
  have h4 : (size : Int) ≤ 65536 := by omega
  have h5 : decide ((size : Int) - 8 < (n : Int)) = false := by simp; omega
  go_enter Try.func61, Try.ntmps61
  go_wp2_with fail
  refine (goodSize_yes _ _ (by omega) (by omega)).mono ?_
  rintro e w' ⟨rfl, rfl⟩
  have R4 := Lib.hid (show (List.replicate size (0 : UInt8))[4]? = some 0 from by rw [List.getElem?_replicate, if_pos (by omega)])
  have R5 := Lib.hid (show ((List.replicate size (0 : UInt8)).set 4 (UInt8.ofNat (n / 256)))[5]? = some 0 from by rw [List.getElem?_set_ne (by omega), List.getElem?_replicate, if_pos (by omega)])
  have R5' := Lib.hid (show (List.replicate size (0 : UInt8))[5]? = some 0 from by rw [List.getElem?_replicate, if_pos (by omega)])
  go_upto_region 7 with (at_make; refine wpList_make_B rfl _ _ rfl w.heap.size size _ _ rfl rfl rfl rfl (by omega) (Nat.le_refl _) ?_; intro w1 ho1 hb1; obtain ⟨hg1, hg2, hc4, hf4, hs4⟩ := ho1.atg 0 R4.out; obtain ⟨_, _, hc5, hf5, hs5⟩ := ho1.atg 0 R5'.out; have HS4 := Lib.hid hs4; clear hs4 hs5 ho1)
  obtain ⟨W, hW⟩ : ∃ W, W = (w1.setCell ⟨w.heap.size, 4, none⟩ (.int .u8 ((n : Int) / 256))).setCell ⟨w.heap.size, 5, none⟩ (.int .u8 ((n : Int) % 256)) := ⟨_, rfl⟩
  rw [← hW]
  have hoW : OB w.heap.size W (.slice (some ⟨w.heap.size, 0, none⟩) size size) (((List.replicate size (0 : UInt8)).set 4 (UInt8.ofNat (n / 256))).set 5 (UInt8.ofNat n)) := by
    rw [hW]
    exact ((HS4.out _ _ (by rw [ofNat_toNat]; omega)).atg 0 R5.out).2.2.2.2 _ _ (by rw [ofNat_toNat]; omega)
  have hbW : Below w.heap.size w W := by
    rw [hW]
    exact (hb1.setCell (Nat.le_refl _) _).setCell (Nat.le_refl _) _
  clear hW hc4 hf4 hc5 hf5 HS4 hb1 R4 R5 R5' hg1 hg2
  have HP := Lib.hid (show (splice (((List.replicate size (0 : UInt8)).set 4 (UInt8.ofNat (n / 256))).set 5 (UInt8.ofNat n)) 8 l).drop 4 = body l size from by
    have h := seal_pre l size (by rw [HL.out]; omega)
    rw [HL.out] at h
    exact h)
  generalize ((List.replicate size (0 : UInt8)).set 4 (UInt8.ofNat (n / 256))).set 5 (UInt8.ofNat n) = X0 at *
  have HX := Lib.hid (show X0.length = size from hoW.len.symm)
  go_upto_region 8 with (with_reducible refine wpList_copy_B rfl (.tmp 33) (.tmp 34) rfl w.heap.size w.heap.size size size X0 hoW 8 _ _ _ _ _ _ l rfl rfl HL.out (hr.below hbW) (by omega) (by omega) (fun hp => by rw [if_neg (by omega)]) ?_; intro W2 ho2 hb2; have hB2 := hbW.trans hb2)
  generalize (if size = 8 then some (⟨w.heap.size, 0, none⟩ : Addr) else some ⟨w.heap.size, 8, none⟩) = dp
  have HXL := Lib.hid (show (splice X0 8 l).length = size from by rw [length_splice _ _ _ (by rw [HX.out, HL.out]; omega), HX.out])
  generalize splice X0 8 l = X at *
  have HBL := Lib.hid (show (body l size).length = size - 4 from body_len l size (by rw [HL.out]; omega))
  have hr4 : RB W2 (some ⟨w.heap.size, 4, none⟩) (body l size) := by
    have h := ho2.reads.drop 4
    rw [HP.out] at h
    simpa [Addr.add] using h
  have hs4 : ¬ size = 4 := by omega
  clear hoW hbW hb2 HX hr
  have HH : Hid (sealL l size = hi4 (crc (body l size)) ++ body l size) := rfl
  generalize body l size = B at *
  go_wp2_with fail
  with_reducible refine (of_any _ (size - 4) _ B W2 HBL.out (by omega) hr4).mono ?_
  rintro e w' ⟨rfl, rfl⟩
  generalize crc B = sm at *
  have hsm : sm.toNat < 4294967296 := sm.isLt
  clear hr4
  go_wp2
  go_loopw [8, 39] (fun _ i wr => ∃ k : Nat, k ≤ 4 ∧ i = .int .i64 k ∧ OB w.heap.size wr (.slice (some ⟨w.heap.size, 0, none⟩) size size) ((hi4 sm).take k ++ X.drop k) ∧ Below w.heap.size w wr) (fun _ i _ => 4 - (intOf i).toNat)
  case atStart => exact ⟨0, Nat.zero_le _, rfl, by simpa using ho2, hB2⟩
  case round =>
    obtain ⟨k, hk, rfl, hown, hbel⟩ := hrel
    by_cases hlt : k < 4
    · have hXk : k < X.length := by rw [HXL.out]; omega
      have HI := Lib.hid (show ((hi4 sm).take k ++ X.drop k)[k]? = some X[k] from by
        rw [List.getElem?_append_right (by simp [hi4]; omega), List.length_take, show min k (hi4 sm).length = k by simp [hi4]; omega, Nat.sub_self, List.getElem?_drop, Nat.add_zero, List.getElem?_eq_getElem hXk])
      obtain ⟨hg1, hg2, hc, hf, hset⟩ := hown.atg _ HI.out
      have HSET := Lib.hid hset
      clear hset hown
      generalize X[k] = y at *
      have HY := Lib.hid (show (hi4 sm)[k]? = some (UInt8.ofNat (sm.toNat / 2 ^ (24 - 8 * k))) from hi4_at sm k hlt)
      have HT := Lib.hid (set_take_drop hXk HY.out)
      go_wp2
      go_roundw
      case rel =>
        refine ⟨k + 1, by omega, by go_num, ?_, hbel.setCell (Nat.le_refl _) _⟩
        rw [← HT.out]
        exact HSET.out _ _ (by rw [ofNat_toNat]; simp)
      case measure => simp [intOf]; omega
    · go_wp2
      go_ret2
      obtain rfl : k = 4 := by omega
      rw [HH.out]
      rw [HP.out] at hown
      exact ⟨_, rfl, by simpa [hi4] using hown, hbel⟩

set_option maxHeartbeats 400000 in
theorem seal_arg (A : Option Addr) (n c : Nat) (size : Int) (w : World) (h : size < 8 ∨ 65536 < size) :
    Calls Try.prog 61 #[.slice A n c, .int .i64 size] w fun e w' => e = .returned (.tuple #[.slice none 0 0, .int .i64 2]) ∧ w = w' := by
  go_enter Try.func61, Try.ntmps61
  go_wp2_with fail
  refine (goodSize_no _ _ h).mono ?_
  rintro e w' ⟨rfl, rfl⟩
  go_wp2
  go_ret2
  exact ⟨rfl, rfl⟩
set_option maxHeartbeats 400000 in
theorem seal_big (A : Option Addr) (n c size : Nat) (w : World) (h1 : 8 ≤ size) (h2 : size ≤ 65536) (h3 : size < n + 8) :
    Calls Try.prog 61 #[.slice A n c, .int .i64 size] w fun e w' => e = .returned (.tuple #[.slice none 0 0, .int .i64 5]) ∧ w = w' := by
  have h4 : (size : Int) ≤ 65536 := by omega
  have h5 : decide ((size : Int) - 8 < (n : Int)) = true := by simp; omega
  go_enter Try.func61, Try.ntmps61
  go_wp2_with fail
  refine (goodSize_yes _ _ (by omega) (by omega)).mono ?_
  rintro e w' ⟨rfl, rfl⟩
  go_wp2
  go_ret2
  exact ⟨rfl, rfl⟩

end Go.Proofs.Ytidnpokjaklfpaa
