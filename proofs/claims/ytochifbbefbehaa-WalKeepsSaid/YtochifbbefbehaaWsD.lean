/- Records in sectors: a sector is filled. -/
import Derived.Test.YtochifbbefbehaaWsC
namespace Go.Proofs.Ytochifbbefbehaa
open Go.RowKit
set_option linter.unusedVariables false
set_option linter.unusedSimpArgs false
def wsSecV (l : List UInt8) : Value := .agg (cellsB l).toArray
theorem wsSize_takes (L : List (List UInt8)) (k : Nat) (h : wsSize L ≤ 239) : wsSize (L.take k) ≤ 239 := Nat.le_trans (wsSize_le L k) h
theorem byte_len (n : Nat) (h : n < 256) : (n : Int) % 256 = ((UInt8.ofNat n).toNat : Int) := by rw [toNat_of]; omega
theorem fillB_sec (e a : Nat) (L : List (List UInt8)) : (wsFillB (st (256 * e + a)) L).set 8 (UInt8.ofNat (wsSize L)) = wsSec e a L := by
  unfold wsFillB wsSec
  rw [set_mid _ _ _ _ (st_len _).symm]
theorem wsFillB_at (s : List UInt8) (L : List (List UInt8)) (hl : s.length = 8) (hk : wsSize L < 239) : (wsFillB s L)[9 + wsSize L]? = some 0 := by
  unfold wsFillB
  rw [List.getElem?_append_right (by omega), hl, show 9 + wsSize L - 8 = wsSize L + 1 by omega, List.getElem?_cons_succ, List.getElem?_append_right (by rw [wsPut_len]; omega), wsPut_len, Nat.sub_self, List.getElem?_append_left (by simp; omega), List.getElem?_replicate, if_pos (by omega)]
theorem fillB_at8 (s : List UInt8) (L : List (List UInt8)) (hl : s.length = 8) : (wsFillB s L)[8]? = some 0 := by
  unfold wsFillB
  rw [List.getElem?_append_right (by omega), hl]
  rfl
set_option maxHeartbeats 2000000 in
set_option maxRecDepth 100000 in
theorem fill_any (e a : Nat) (A : Option Addr) (n c : Nat) (L : List (List UInt8)) (w : World) (he : e ≤ 1099511627776) (ha : a ≤ 512) (hl : L.length = n) (hz : wsSize L ≤ 239) (hr : RS w A L) :
    Calls Try.prog 43 #[.int .i64 (e : Int), .int .i64 (a : Int), .slice A n c] w fun x w' => x = .returned (wsSecV (wsSec e a L)) ∧ Below w.heap.size w w' := by
  have HL := Lib.hid hl
  have HZ := Lib.hid hz
  have hn : n ≤ 239 := by have := wsSize_len L; omega
  have h0 := run_zeroC w
  have h1 := run_zeroC (w.alloc (.cells z256 77))
  have B1 := Lib.hid (show Below w.heap.size w ((w.alloc (.cells z256 77)).alloc (.cells z256 77)) from ((Below.refl _ w).alloc (Nat.le_refl _) _).alloc (by simp) _)
  have A1 := arr_z256 (w.alloc (.cells z256 77))
  rw [heap_size_alloc] at A1
  have A1 := Lib.hid A1
  have A0 := Lib.hid ((arr_z256 w).same ((Below.refl _ _).alloc (Nat.le_refl _) (.cells z256 77)))
  have R1 := Lib.hid ((hr.alloc (.cells z256 77)).alloc (.cells z256 77))
  clear hl hz
  go_enter Try.func43, Try.ntmps43
  go_upto_region 3 with (fail)
  clear h0 h1
  have HE := Lib.hid (fillB_sec e a L)
  have hN : ((e : Int) * 256 + (a : Int)) = ((256 * e + a : Nat) : Int) := by omega
  have hNb : 256 * e + a ≤ 300000000000000 := by omega
  rw [hN]
  clear hN
  generalize hS : wsSec e a L = S at *
  generalize 256 * e + a = N at *
  clear he ha
  generalize (w.alloc (.cells z256 77)).alloc (.cells z256 77) = W at *
  have ST : Hid (∃ k : Nat, k ≤ 8 ∧ (.int .i64 0 : Value) = .int .i64 (k : Int) ∧ slArr W (w.heap.size + 1) 77 (fillA (st N) k) ∧ slArr W w.heap.size 77 (List.replicate 256 0) ∧ Below w.heap.size w W) := Lib.hid ⟨0, Nat.zero_le _, rfl, A1.out, A0.out, B1.out⟩
  have HV := Lib.hid (fun W' (h : Below w.heap.size w W') => h.size)
  have HRW := Lib.hid hr
  clear A1 A0 B1 R1 hr
  go_wp2
  go_loopw [9, 10, 18] (fun _ _ i wr => ∃ k : Nat, k ≤ 8 ∧ i = .int .i64 (k : Int) ∧ slArr wr (w.heap.size + 1) 77 (fillA (st N) k) ∧ slArr wr w.heap.size 77 (List.replicate 256 0) ∧ Below w.heap.size w wr) (fun _ _ i _ => 8 - (intOf i).toNat)
  case atStart => exact ST.out
  case round =>
    clear ST
    obtain ⟨k, hk, rfl, hA, hA0, hB⟩ := hrel
    by_cases hlt : k < 8
    · have hy := st_at N k hlt
      have hat := fillA_at hlt (st_len N) (UInt8.ofNat (N / 256 ^ (7 - k)))
      obtain ⟨c1, f1, s1⟩ := hA.at hat.1
      have s2 := s1 (UInt8.ofNat (N / 256 ^ (7 - k))) _ (shr_byte N k)
      obtain ⟨c2, f2, s3⟩ := s2.at hat.2
      have s4 := s3 (UInt8.ofNat (N / 256 ^ (7 - k))) _ (shr_byte N k)
      rw [fillA_step hlt (st_len N) hy] at s4
      have HSET := Lib.hid s4
      have HA0 := Lib.hid hA0
      have HB := Lib.hid hB
      clear hA s1 s2 s3 s4 hat hA0 hB hy HE
      go_wp2
      go_roundw
      case rel => exact ⟨k + 1, by omega, by go_num, HSET.out, (HA0.out.set_ne (by simp) _).set_ne (by simp) _, (HB.out.setCell (by simp) _).setCell (by simp) _⟩
      case measure => simp [intOf]; omega
    · obtain rfl : k = 8 := by omega
      rw [show ((8 : Nat) : Int) = 8 from rfl]
      rw [fillA_end (st_len N)] at hA
      have ST : Hid (∃ k : Nat, k ≤ n ∧ (.int .i64 0 : Value) = .int .i64 (k : Int) ∧ (.int .i64 9 : Value) = .int .i64 ((9 + wsSize (L.take k) : Nat) : Int) ∧ slArr wr (w.heap.size + 1) 77 (wsFillB (st N) (L.take k)) ∧ slArr wr w.heap.size 77 (List.replicate 256 0) ∧ Below w.heap.size w wr) := Lib.hid ⟨0, Nat.zero_le _, rfl, rfl, hA, hA0, hB⟩
      clear hA hA0 hB
      go_wp2
      go_loopw [11, 13, 37] (fun z _ i wr => ∃ k : Nat, k ≤ n ∧ i = .int .i64 (k : Int) ∧ z = .int .i64 ((9 + wsSize (L.take k) : Nat) : Int) ∧ slArr wr (w.heap.size + 1) 77 (wsFillB (st N) (L.take k)) ∧ slArr wr w.heap.size 77 (List.replicate 256 0) ∧ Below w.heap.size w wr) (fun _ _ i _ => n - (intOf i).toNat)
      case atStart => exact ST.out
      case round =>
        clear ST
        obtain ⟨k, hk, rfl, rfl, hA, hA0, hB⟩ := hrel
        by_cases hlt : k < n
        · obtain ⟨t, ht⟩ : ∃ t, L[k]? = some t := ⟨L[k]'(by rw [HL.out]; exact hlt), List.getElem?_eq_getElem _⟩
          obtain ⟨ad, rfl, hc⟩ := (HRW.out.below hB).at_ ht
          have hsz := str_size t
          have hz1 := wsSize_take ht
          have hz2 := wsSize_takes L (k + 1) HZ.out
          obtain ⟨c1, f1, s1⟩ := hA.at (wsFillB_at (st N) (L.take k) (st_len N) (by omega))
          have s2 := Lib.hid (s1 (UInt8.ofNat t.length) (t.length : Int) (by rw [toNat_of]; omega))
          have HSP := Lib.hid (fillB_step (s := st N) (L := L.take k) (t := t) (st_len N) (by omega))
          rw [show L.take k ++ [t] = L.take (k + 1) from (take_snocG ht).symm] at HSP
          have HX := Lib.hid (show ((wsFillB (st N) (L.take k)).set (9 + wsSize (L.take k)) (UInt8.ofNat t.length)).length = 256 by rw [List.length_set]; exact wsFillB_len (st_len N) (by omega))
          have HZ1 := Lib.hid hz1
          have HA0 := Lib.hid hA0
          have HB := Lib.hid hB
          have hzt : wsSize (L.take k) + (t.length + 1) ≤ 239 := by omega
          clear hA s1 hA0 hB HE hz1 hz2 ht
          generalize hX2 : (wsFillB (st N) (L.take k)).set (9 + wsSize (L.take k)) (UInt8.ofNat t.length) = X at *
          clear hX2
          generalize wsSize (L.take k) = z at *
          go_upto_region 14 with (fail)
          have HS2 := s2
          have HB2 := Lib.hid (HB.out.setCell (p := ⟨w.heap.size + 1, 9 + z, none⟩) (Nat.le_succ _) (.int .u8 (t.length : Int)))
          have HA2 := Lib.hid (HA0.out.set_ne (p := ⟨w.heap.size + 1, 9 + z, none⟩) (by simp) (.int .u8 (t.length : Int)))
          clear s2 HA0 HB c1 f1 hc
          generalize wr.setCell ⟨w.heap.size + 1, 9 + z, none⟩ (.int .u8 (t.length : Int)) = W2 at *
          have hsl := sliceC_from W2 (w.heap.size + 1) (9 + z + 1) (9 + (z : Int) + 1) (by omega) (by omega)
          go_upto_region 15 with (refine wpList_copy_str rfl (.tmp 49) (.tmp 50) rfl (w.heap.size + 1) (9 + z + 1) _ _ t rfl rfl 77 X HS2.out (by omega) (by rw [HX.out]; omega) ?_; intro w3 hw3 ho3)
          have hw3 := hw3.out
          rw [HSP.out] at hw3
          have W3 := Lib.hid hw3
          have A3 := Lib.hid (HA2.out.only ho3 (by omega))
          have B3 := Lib.hid (HB2.out.trans (ho3.below (by omega)))
          clear hw3 ho3 HS2 HB2 HA2 hsl
          go_wp2
          go_roundw
          case rel =>
           exact ⟨k + 1, by omega, by go_num, by rw [HZ1.out]; go_num, W3.out, A3.out, B3.out⟩
          case measure => simp [intOf]; omega
        · obtain rfl : k = n := by omega
          rw [List.take_of_length_le (by rw [HL.out]; exact Nat.le_refl _)] at hA ⊢
          obtain ⟨c1, f1, s1⟩ := hA.at (fillB_at8 (st N) L (st_len N))
          have hz := HZ.out
          have s2 := s1 (UInt8.ofNat (wsSize L)) (9 + (wsSize L : Int) - 9) (by rw [toNat_of]; omega)
          rw [HE.out] at s2
          have HS2 := Lib.hid s2
          have HA2 := Lib.hid (hA0.set_ne (p := ⟨w.heap.size + 1, 8, none⟩) (by simp) (.int .u8 (9 + (wsSize L : Int) - 9)))
          have HB2 := Lib.hid (hB.setCell (p := ⟨w.heap.size + 1, 8, none⟩) (Nat.le_succ _) (.int .u8 (9 + (wsSize L : Int) - 9)))
          have HXL := Lib.hid (show S.length = 256 by rw [← HE.out, List.length_set]; exact wsFillB_len (st_len N) hz)
          clear s1 s2 hA hA0 hB HE
          generalize wsSize L = z at *
          go_upto_region 17 with (fail)
          clear c1 f1
          generalize wr.setCell ⟨w.heap.size + 1, 8, none⟩ (.int .u8 (9 + (z : Int) - 9)) = W2 at *
          have HI := Lib.hid (infoC_of HXL.out)
          go_wp2_with (first
            | (refine wpList_load_mid rfl 77 (.tmp 7) rfl (w.heap.size + 1) 0 rfl (cellsB S) _ HS2.out.range typeC rfl HI.out ?_)
            | (refine wpList_store_arr rfl 77 (.tmp 6) (.tmp 59) rfl w.heap.size 77 (List.replicate 256 0) S rfl rfl HA2.out (by rw [HXL.out]; simp) HI.out ?_; intro w4 hw4 ho4))
          have B4 := HB2.out.trans (ho4.below (Nat.le_refl _))
          refine bodyPost_ret (v := wsSecV S) (results_cell_row (p := 6) (ty := 77) rfl _ w4 w.heap.size 77 (cellsB S).toArray (0, 0) _ rfl hw4.out typeC rfl (by simpa using HI.out)) rfl ⟨by rw [hS], B4⟩
end Go.Proofs.Ytochifbbefbehaa
