/- Records in sectors: the document's stamp, and a sector laid. -/
import Derived.Test.YtkfpjbefjflhfaaWsJ
import Derived.Test.YtkfpjbefjflhfaaApS
namespace Go.Proofs.Ytkfpjbefjflhfaa
open Go.RowKit
set_option linter.unusedVariables false
set_option linter.unusedSimpArgs false
theorem st_drop (g k : Nat) (h : k < 8) : (st g).drop (8 - (k + 1)) = UInt8.ofNat (g / 256 ^ k) :: (st g).drop (8 - k) := by
  have h1 := st_at g (7 - k) (by omega)
  have hl := st_len g
  rw [show 7 - (7 - k) = k by omega] at h1
  have h2 : 8 - (k + 1) < (st g).length := by omega
  rw [List.drop_eq_getElem_cons h2, show 8 - (k + 1) + 1 = 8 - k by omega]
  congr 1
  rw [List.getElem?_eq_getElem (by omega)] at h1
  injection h1 with h1
  rw [← h1]
  congr 1
  omega
set_option maxHeartbeats 1000000 in
set_option maxRecDepth 100000 in
theorem wsStamp_any (e a g : Nat) (w : World) (he : e ≤ 1099511627776) (ha : a ≤ 512) (hgg : g = 256 * e + a) :
    Calls Try.prog 29 #[.int .i64 (e : Int), .int .i64 (a : Int)] w fun e w' => ∃ v, e = .returned v ∧ OB w.heap.size w' v (st g) ∧ Below w.heap.size w w' := by
  go_enter Try.func29, Try.ntmps29
  have hg : g ≤ 300000000000000 := by omega
  have hge0 : 256 * (e : Int) + (a : Int) = (g : Int) := by omega
  clear hgg
  go_wp2
  go_loopw [5, 6, 7] (fun v n i wr => ∃ k : Nat, k ≤ 8 ∧ i = .int .i64 k ∧ n = .int .i64 (g / 256 ^ k : Nat) ∧ OB w.heap.size wr v ((st g).drop (8 - k)) ∧ Below w.heap.size w wr) (fun _ _ i _ => 8 - (intOf i).toNat)
  case atStart => exact ⟨0, Nat.zero_le _, rfl, by simp, by rw [List.drop_of_length_le (by rw [st_len]; omega)]; exact OB.nil, Below.refl _ _⟩
  case round =>
    obtain ⟨k, hk, rfl, rfl, hO, hB⟩ := hrel
    by_cases hlt : k < 8
    · obtain ⟨A, c, rfl, hc, hr⟩ := hO.form
      have hn : g / 256 ^ k ≤ 300000000000000 := Nat.le_trans (Nat.div_le_self _ _) hg
      have HD := Lib.hid (st_drop g k hlt)
      have HQ := Lib.hid (show g / 256 ^ (k + 1) = g / 256 ^ k / 256 from by rw [Nat.pow_succ, Nat.div_div_eq_div_mul])
      have HL := Lib.hid (show ((st g).drop (8 - k)).length = k from by rw [List.length_drop, st_len]; omega)
      have hge := hB.size
      have HR := Lib.hid hr
      have HB := Lib.hid hB
      rw [HL.out]
      generalize (st g).drop (8 - k) = T at *
      generalize g / 256 ^ k = q at *
      have HI := Lib.hid (show (q : Int) % 256 = ((UInt8.ofNat q).toNat : Int) from by rw [toNat_of]; omega)
      have hm1 : (q : Int) % 256 % 256 = (q : Int) % 256 := by omega
      clear hr hO hB
      go_wp2_with (at_builtin; refine wpList_append_B rfl (.tmp 19) (.tmp 20) rfl w.heap.size _ [UInt8.ofNat q] rfl (OB.lit wr w.heap.size [UInt8.ofNat q] _ (by simp [cellsB, cellB, ← HI.out]) hge (by simp [maxLen])) A k c T rfl HL.out (HR.out.alloc _) (by simp; omega) (by rw [heap_size_alloc]; omega) ?_; intro v2 w2 o2 b2; have O2 := Lib.hid o2; have B2 := Lib.hid ((HB.out.alloc hge _).trans b2); clear o2 b2)
      go_roundw
      case rel => exact ⟨k + 1, by omega, by go_num, by rw [HQ.out]; go_num, by rw [HD.out]; exact O2.out, B2.out⟩
      case measure => simp [intOf]; omega
    · obtain rfl : k = 8 := by omega
      simp only [Nat.sub_self, List.drop_zero] at hO
      have O2 := Lib.hid hO
      have B2 := Lib.hid hB
      clear hO hB
      go_wp2
      go_ret
      exact ⟨_, rfl, O2.out, B2.out⟩

theorem wrap_u8_small {n : Nat} (h : n ≤ 238) : IntKind.u8.wrap (n : Int) = (n : Int) := by
  simp [IntKind.wrap, IntKind.bits, IntKind.signed]
  omega
/-- A sector, piece by piece. -/
theorem wsSec_join (e a : Nat) (L : List (List UInt8)) : wsSec e a L = (((st (256 * e + a) ++ [UInt8.ofNat (wsSize L)]) ++ wsPut L) ++ List.replicate (239 - wsSize L) 0) ++ st (256 * e + a) := by
  unfold wsSec
  simp
set_option maxHeartbeats 2000000 in
set_option maxRecDepth 100000 in
theorem wsLay_any (e a : Nat) (A : Option Addr) (n c : Nat) (L : List (List UInt8)) (w : World) (he : e ≤ 1099511627776) (ha : a ≤ 512) (hl : L.length = n) (hz : wsSize L ≤ 239) (hr : RS w A L) :
    Calls Try.prog 26 #[.int .i64 (e : Int), .int .i64 (a : Int), .slice A n c] w fun x w' => ∃ v, x = .returned v ∧ OB w.heap.size w' v (wsSec e a L) ∧ Below w.heap.size w w' := by
  have HL := Lib.hid hl
  have HZ := Lib.hid hz
  have HR := Lib.hid hr
  have HJ := Lib.hid (wsSec_join e a L)
  have hn : n ≤ 239 := by have := wsSize_len L; omega
  have KS := Lib.hid (fun W => wsStamp_any e a (256 * e + a) W he ha rfl)
  have ST : Hid (∃ k : Nat, k ≤ n ∧ (.int .i64 0 : Value) = .int .i64 (k : Int) ∧ OB w.heap.size w (.slice none 0 0) (wsPut (L.take k)) ∧ Below w.heap.size w w) := Lib.hid ⟨0, Nat.zero_le _, rfl, OB.nil, Below.refl _ _⟩
  clear hl hz hr
  generalize hS : wsSec e a L = S at *
  have HTL := Lib.hid (st_len (256 * e + a))
  generalize st (256 * e + a) = T at *
  go_enter Try.func26, Try.ntmps26
  go_wp2
  go_loopw [7, 8] (fun v i wr => ∃ k : Nat, k ≤ n ∧ i = .int .i64 (k : Int) ∧ OB w.heap.size wr v (wsPut (L.take k)) ∧ Below w.heap.size w wr) (fun _ i _ => n - (intOf i).toNat)
  case atStart => exact ST.out
  case round =>
    clear ST
    obtain ⟨k, hk, rfl, hO, hB⟩ := hrel
    have hBs := hB.size
    have HB := Lib.hid hB
    have HO := Lib.hid hO
    have hz2 : wsSize (L.take k) ≤ 239 := Nat.le_trans (wsSize_le L k) HZ.out
    have hpl := wsPut_len (L.take k)
    by_cases hlt : k < n
    · obtain ⟨t, ht⟩ : ∃ t, L[k]? = some t := ⟨L[k]'(by rw [HL.out]; exact hlt), List.getElem?_eq_getElem _⟩
      have HW := Lib.hid (wsPut_take ht)
      have hz3 : wsSize (L.take (k + 1)) ≤ 239 := Nat.le_trans (wsSize_le L (k + 1)) HZ.out
      have hts := wsSize_take ht
      have htl : t.length ≤ 238 := by omega
      have HS := Lib.hid (fun V (h : Below w.heap.size w V) => (HR.out.below h).at_ ht)
      have hsz := str_size t
      obtain ⟨ad, rfl, hc⟩ := HS.out wr hB
      have HS := Lib.hid (fun V (h : Below w.heap.size w V) => show V.cell? (ad.add k) = some (.string (str t)) from by
        obtain ⟨ad', e, h⟩ := HS.out V h
        injection e with e
        rw [e]
        exact h)
      have HBY := Lib.hid (show (t.length : Int) = ((UInt8.ofNat t.length).toNat : Int) from by rw [toNat_of]; omega)
      have HPL := Lib.hid (show (wsPut (L.take k)).length ≤ 239 by omega)
      have hlt' : (k : Int) < (n : Int) := by omega
      have hwz : IntKind.u8.wrap (t.length : Int) = (t.length : Int) := wrap_u8_small htl
      clear ht hO hB hts hz3 hpl hz2
      generalize wsPut (L.take k) = p at *
      obtain ⟨p', hp'⟩ : ∃ p', p' = wsPut (L.take (k + 1)) := ⟨_, rfl⟩
      rw [← hp'] at HW
      have HPN := Lib.hid hp'
      clear hp'
      go_upto_region 5 with (fail)
      have S0 := HS.out _ HB.out.drew
      have DA : Hid (Below wr.heap.size wr (wr.alloc (.cells #[.int .u8 (t.length : Int)] 5)).drew) := Lib.hid ((Below.refl _ wr).alloc (Nat.le_refl _) _).drew
      have SA := HS.out _ (HB.out.trans (DA.out.mono hBs))
      have RA : Hid (RB (wr.alloc (.cells #[.int .u8 (t.length : Int)] 5)).drew (some ⟨wr.heap.size, 0, none⟩) [UInt8.ofNat t.length]) := Lib.hid (RB.one wr _ _ HBY.out)
      have OA : Hid (OB w.heap.size (wr.alloc (.cells #[.int .u8 (t.length : Int)] 5)).drew u7 p) := Lib.hid (HO.out.alloc _)
      clear hc
      go_region_held3 (fun V => V.cell? (ad.add k) = some (.string (str t))) (first | with_reducible assumption | with_reducible exact S0 | with_reducible exact SA | fail)
        (first
          | (refine step_append_B rfl (.tmp 16) (.tmp 23) rfl w.heap.size _ p rfl OA.out (some ⟨wr.heap.size, 0, none⟩) 1 1 [UInt8.ofNat t.length] rfl rfl RA.out (by have := HPL.out; omega) (Nat.le_trans hBs DA.out.size) ?_; intro v1 w1 o1 b1 g1; have D1 := Lib.hid (HB.out.trans ((DA.out.mono hBs).trans b1)); have O1 := Lib.hid o1; have S1 := HS.out _ D1.out; clear o1 b1 g1)
          | (refine step_append_str rfl (.tmp 24) (.tmp 28) rfl w.heap.size _ (p ++ [UInt8.ofNat t.length]) rfl O1.out t rfl (by have := HPL.out; simp; omega) D1.out.size ?_; intro v2 w2 o2 b2 g2; have D2 := Lib.hid (D1.out.trans b2); have O2 := Lib.hid o2; have S2 := HS.out _ D2.out; clear o2 b2 g2)
          | fail)
      rw [List.append_assoc, List.singleton_append, ← HW.out] at O2
      go_wp2
      go_roundw
      case rel => exact ⟨k + 1, by omega, by go_num, by rw [← HPN.out]; exact O2.out, D2.out⟩
      case measure => simp [intOf]; omega
    · obtain rfl : k = n := by omega
      rw [List.take_of_length_le (by rw [HL.out]; exact Nat.le_refl _)] at HO hpl
      have hz := HZ.out
      clear hO hB hz2
      generalize wsPut L = p at *
      generalize wsSize L = z at *
      obtain ⟨A7, c7, rfl, hc7, hr7⟩ := HO.out.form
      rw [hpl] at hc7 ⊢
      have HR7 := Lib.hid hr7
      have HPL := Lib.hid hpl
      have HBY := Lib.hid (show (z : Int) = ((UInt8.ofNat z).toNat : Int) from by rw [toNat_of]; omega)
      clear hr7 hpl
      have hz2 : (239 : Int) - (z : Int) = ((239 - z : Nat) : Int) := by omega
      go_upto_region 9 with (first
        | (go_at_call 29; refine (KS.out _).mono ?_; rintro x w2 ⟨v2, rfl, o2, b2⟩; (have O2 := Lib.hid o2); (have B2 := Lib.hid b2); clear o2 b2)
        | (refine wpList_append_B rfl (.tmp 32) (.tmp 36) rfl wr.heap.size _ T rfl (O2.out.alloc _) (some ⟨w2.heap.size, 0, none⟩) 1 1 [UInt8.ofNat z] rfl rfl (RB.one w2 _ _ HBY.out) ?_ ?_ ?_; (rw [HTL.out]; simp); (rw [heap_size_alloc]; exact Nat.le_succ_of_le B2.out.size); intro v3 w3 o3 b3; (have O3 := Lib.hid o3); (have B3 := Lib.hid ((B2.out.alloc B2.out.size _).trans b3)); clear o3 b3)
        | (refine wpList_append_B rfl (.tmp 38) (.tmp 39) rfl wr.heap.size _ (T ++ [UInt8.ofNat z]) rfl O3.out A7 z c7 p rfl HPL.out (HR7.out.below B3.out) ?_ B3.out.size ?_; (simp only [List.length_append, List.length_singleton, List.length_replicate, HTL.out, HPL.out]; omega); intro v4 w4 o4 b4; (have O4 := Lib.hid o4); (have B4 := Lib.hid (B3.out.trans b4)); clear o4 b4)
        | (refine wpList_append_zeros_B rfl (.tmp 41) (.tmp 44) rfl wr.heap.size _ (T ++ [UInt8.ofNat z] ++ p) rfl O4.out ?_ (239 - z) _ rfl ?_ ?_ B4.out.size ?_; (simp only [List.length_append, List.length_singleton]; omega); (first | rfl | exact hz2); (simp only [List.length_append, List.length_singleton, List.length_replicate, HTL.out, HPL.out]; omega); intro v5 w5 o5 b5; (have O5 := Lib.hid o5); (have B5 := Lib.hid (B4.out.trans b5)); clear o5 b5)
        | fail)
      have HBW := Lib.hid (HB.out.trans (B5.out.mono hBs))
      clear O2 O3 O4 B2 B3 B4 HR7
      go_wp2_with (first
        | (go_at_call 29; refine (KS.out _).mono ?_; rintro x w2 ⟨v2, rfl, o2, b2⟩; obtain ⟨A8, c8, rfl, _, r8⟩ := o2.form; (have R8 := Lib.hid r8); (have B2 := Lib.hid (B5.out.trans (b2.mono B5.out.size))); (have O6 := Lib.hid (O5.out.keep b2 (Nat.le_refl _))); clear o2 b2 r8; rw [HTL.out])
        | (refine wpList_append_B rfl (.tmp 46) (.tmp 49) rfl wr.heap.size _ (T ++ [UInt8.ofNat z] ++ p ++ List.replicate (239 - z) 0) rfl O6.out A8 8 c8 T rfl HTL.out R8.out ?_ B2.out.size ?_; (simp only [List.length_append, List.length_singleton, List.length_replicate, HTL.out, HPL.out]; omega); intro v3 w3 o3 b3; (have O3 := Lib.hid o3); (have B3 := Lib.hid (HB.out.trans ((B2.out.trans b3).mono hBs))); clear o3 b3)
        | fail)
      go_ret
      have o3 := O3.out.lift hBs
      rw [← HJ.out] at o3
      exact ⟨_, rfl, o3, B3.out⟩
end Go.Proofs.Ytkfpjbefjflhfaa
