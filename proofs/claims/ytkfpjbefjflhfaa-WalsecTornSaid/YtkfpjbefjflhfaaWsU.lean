/- Records in sectors: a sector of another place is none; awake. -/
import Derived.Test.YtkfpjbefjflhfaaWsT
namespace Go.Proofs.Ytkfpjbefjflhfaa
open Go.RowKit
set_option linter.unusedVariables false
set_option linter.unusedSimpArgs false
theorem IsSec.head8 {b : List UInt8} {e a : Int} {L : List (List UInt8)} (h : IsSec b e a L) : b.take 8 = st (256 * e.toNat + a.toNat) := by
  obtain ⟨_, _, _, _, _, _, rfl⟩ := h
  unfold wsSec
  rw [List.take_append_of_le_length (by rw [st_len]; exact Nat.le_refl _), List.take_of_length_le (by rw [st_len]; exact Nat.le_refl _)]
theorem IsSec.tail8 {b : List UInt8} {e a : Int} {L : List (List UInt8)} (h : IsSec b e a L) : b.drop 248 = st (256 * e.toNat + a.toNat) := by
  obtain ⟨_, _, _, _, _, hz, rfl⟩ := h
  unfold wsSec
  rw [show ∀ (s r : List UInt8) (x : UInt8) (p q : List UInt8), s ++ x :: (p ++ (q ++ r)) = (s ++ x :: (p ++ q)) ++ r from fun s r x p q => by simp]
  rw [List.drop_append_of_le_length (by simp [st_len, wsPut_len]; omega), List.drop_of_length_le (by simp [st_len, wsPut_len]; omega), List.nil_append]
theorem wsSec_st (e a : Nat) (g : List (List UInt8)) : (wsSec e a g).take 8 = st (256 * e + a) := by
  unfold wsSec
  rw [List.take_append_of_le_length (by rw [st_len]; exact Nat.le_refl _), List.take_of_length_le (by rw [st_len]; exact Nat.le_refl _)]
theorem rd_other {b : List UInt8} {e a : Int} {m : Nat} (hb : b.take 8 = st m) (hm : m < 18446744073709551616) (hne : 1 ≤ e → 0 ≤ a → (256 * e + a ≠ (m : Int))) : rdP b e a = none := rdP_none fun L hL => by
  have h1 := hL.head8
  rw [hb] at h1
  obtain ⟨h2, h3, h4, h5, _⟩ := hL
  have := st_inj hm (by omega) h1
  exact hne h2 h4 (by omega)
def abG : List (List UInt8) := [[97, 98]]
def abX : List UInt8 := wsSec 1 0 abG
theorem ab_grp : grp abG = [abG] := by
  unfold abG
  rw [grp_cons (by simp)]
  simp [fitsP, fitK, grp_nil]
theorem ab_packE : packE 1 0 abG = 0 := packE_ok ⟨by omega, by omega, by rw [ab_grp]; simp⟩ (by decide)
theorem ab_packR : packR 1 0 abG = [abX] := by
  rw [packR, if_pos ab_packE, ab_grp]
  rfl
theorem ab_len : abX.length = 256 := wsSec_len _ _ _ (by decide)
theorem ab_rd0 : rdP abX 1 0 = some abG := rdP_some ⟨by omega, by omega, by omega, by omega, by unfold abG; simp, by decide, rfl⟩
theorem ab_rd1 : rdP abX 1 1 = none := rd_other (m := 256) (wsSec_st 1 0 abG) (by omega) (fun _ _ => by omega)
theorem ab_scan : scanK 1 0 [abX, abX] = (abG, 1) := by
  rw [scanK_some (L := abG) (by exact ab_rd0), scanK_none (by exact ab_rd1)]
  simp
theorem ab_cut : (abX.drop 6).take 7 = [1, 0, 3, 2, 97, 98, 0] := by decide
theorem ab_last : abX[254]? = some 1 := by decide
theorem ab_two : (grp [[97], [98]]).length = 1 := grp_of_one (by simp) (by decide)
set_option maxHeartbeats 400000 in
set_option maxRecDepth 100000 in
theorem wsAwake_any (w : World) : Calls Try.prog 8 #[] w fun x w' => x = .returned (.bool true) ∧ Below w.heap.size w w' := by
  have KP := Lib.hid (pack_full (some ⟨w.heap.size, 0, none⟩) 1 1 abG 1 0 (w.alloc (.cells #[.string (str [97, 98])] 9)) rfl (by omega) (by omega) (by simp [maxLen]) (by decide) (RS.one w [97, 98]))
  unfold PackFull at KP
  rw [ab_packE, ab_packR, show str [97, 98] = ⟨#[97, 98]⟩ from rfl] at KP
  simp only [List.length_singleton] at KP
  go_enter Try.func8, Try.ntmps8
  go_upto_region 2 with (go_at_call 9; refine KP.out.mono ?_; rintro x w2 ⟨A, rfl, o, _, b⟩)
  obtain ⟨A', c', e, hx1, hx2, hrg, hx3⟩ := o.rg
  injection e with e e2 e3
  subst e
  clear e2 e3 hx1 hx2 hx3
  obtain ⟨ad, B, cb, rfl, hc, h1, h2, h3⟩ := hrg.listAt (k := 0) (l := abX) rfl
  rw [Addr.add_nought, ab_len] at hc
  rw [ab_len] at h1
  obtain ⟨bd, rfl⟩ := h3.rb.some_of (by rw [ab_len]; omega)
  have HRG := Lib.hid hrg
  have HRB := Lib.hid h3.rb
  have HC := Lib.hid (fun W (h : Below w2.heap.size w2 W) => (h.cell (lt_of_cell hc)).trans hc)
  have HB := Lib.hid (((Below.refl w.heap.size w).alloc (Nat.le_refl _) (.cells #[.string ⟨#[97, 98]⟩] 9)).trans (b.mono (by rw [heap_size_alloc]; exact Nat.le_succ _)))
  have KR0 := Lib.hid (fun W (h : Below w2.heap.size w2 W) => read_any (some bd) 256 cb abX 1 0 W ab_len h1 h2 (HRB.out.below h))
  have KR1 := Lib.hid (fun W (h : Below w2.heap.size w2 W) => read_any (some bd) 256 cb abX 1 1 W ab_len h1 h2 (HRB.out.below h))
  unfold RdPost at KR0 KR1
  rw [ab_rd0] at KR0
  rw [ab_rd1] at KR1
  simp only [Option.isSome_some, Option.getD_some, Option.isSome_none, Option.getD_none] at KR0 KR1
  have HM := Lib.hid h2
  have hcb : cb ≤ 9223372036854775807 := by unfold maxLen at h2; omega
  have hcb2 : (256 : Int) ≤ (cb : Int) := by omega
  clear o b h3 hrg h2 KP
  go_upto_region 6 with (first
    | (go_at_call 14; (with_reducible refine Calls.mono (KR0.out w2 (Below.refl _ _)) ?_); rintro x w3 ⟨v3, rfl, o3, b3⟩; obtain ⟨A3, c3, rfl, _, r3, _⟩ := o3.form; (have O3 := Lib.hid r3); (have B3 := Lib.hid b3); (have hc3 := HC.out w3 b3); clear o3 b3)
    | (go_at_call 14; (with_reducible refine Calls.mono (KR1.out w3 B3.out) ?_); rintro x w4 ⟨v4, rfl, o4, b4⟩; (have B4 := Lib.hid (B3.out.trans (b4.mono B3.out.size))); (have O4 := Lib.hid (O3.out.below b4)); (have hc4 := HC.out w4 B4.out); clear o4 b4))
  have R4 := Lib.hid (HRG.out.below B4.out)
  have LT := Lib.hid (fun W (h : Below w2.heap.size w2 W) => RG.lit (K := KB) (w := W) (l := [abX]) [[.slice (some bd) 256 cb]] (cs := #[.slice (some bd) 256 cb]) (T := 34) (fr := (0, 0)) (by simp) rfl (fun j x hj => by
    cases j with
    | zero =>
      simp at hj
      subst hj
      refine ⟨_, rfl, ?_⟩
      have := KB.mk (w := W) (A := some bd) (c := cb) (l := abX) (by rw [ab_len]; exact h1) HM.out (HRB.out.below h)
      rwa [ab_len] at this
    | succ j => simp at hj))
  have KA := Lib.hid (fun ty => run_append_full_G tgBB (base := w4.heap.size) (n := 1) (m := 1) ty 1 (R4.out.alloc (.cells #[.slice (some bd) 256 cb] 34)) (LT.out w4 B4.out) rfl rfl (by decide) (by decide) (by rw [heap_size_alloc]; omega))
  go_upto_region 7 with (first
    | (at_builtin; (refine wpList_append_of rfl (.tmp 43) (.tmp 47) rfl _ _ rfl rfl (KA.out _) ?_; rintro v5 w5 ⟨o5, b5⟩; obtain ⟨A5, c5, rfl, q5, q6, hrg5, _⟩ := o5.rg; (have B45 := Lib.hid (((Below.refl w4.heap.size w4).alloc (Nat.le_refl _) (.cells #[.slice (some bd) 256 cb] 34)).trans (b5.mono (by rw [heap_size_alloc]; omega)))); (have B5 := Lib.hid (B4.out.trans (B45.out.mono B4.out.size))); (have R5 := Lib.hid hrg5.rbs); (have KS5 := Lib.hid (scan_any A5 2 c5 [abX, abX] 1 w5 rfl (by omega) R5.out)); clear o5 b5 hrg5 q5 q6; unfold ScanPost at KS5; rw [ab_scan] at KS5))
    | (go_at_call 17; (with_reducible refine Calls.mono KS5.out ?_); rintro x w6 ⟨v6, rfl, o6, b6⟩; obtain ⟨A6, c6, rfl, _, _, _⟩ := o6.form; (have B6 := Lib.hid (B5.out.trans (b6.mono B5.out.size))); (have hc6 := HC.out w6 B6.out); (have B46 := Lib.hid (B45.out.trans (b6.mono B45.out.size))); clear b6))
  obtain ⟨ad3, rfl, hx3⟩ := (O4.out.below B46.out).at_ (k := 0) (t := [97, 98]) rfl
  rw [Addr.add_nought, show str [97, 98] = ⟨#[97, 98]⟩ from rfl] at hx3
  have h6 := ((HRB.out.below B6.out).dropw 6 (by omega)).take 7
  rw [ab_cut] at h6
  have hs6 := run_str w6 (some ⟨bd.block, bd.off + 6, none⟩) 7 (cb - 6) [1, 0, 3, 2, 97, 98, 0] rfl h6
  rw [show str [1, 0, 3, 2, 97, 98, 0] = ⟨#[1, 0, 3, 2, 97, 98, 0]⟩ from rfl] at hs6
  have hl6 : w6.cell? ⟨bd.block, bd.off + 254, none⟩ = some (.int .u8 1) := (HRB.out.below B6.out).atc ab_last
  have KQ := Lib.hid (parts_any (some ⟨w6.heap.size, 0, none⟩) 2 2 [[97], [98]] (w6.alloc (.cells #[.string ⟨#[97]⟩, .string ⟨#[98]⟩] 9)) rfl (by omega) (by omega) (by simp [maxLen]) (by decide) (RG.lit (K := CR.str) (w := w6) (l := [[97], [98]]) [[.string ⟨#[97]⟩], [.string ⟨#[98]⟩]] (by simp) rfl (fun j x hj => by
    match j, hj with
    | 0, hj => simp at hj; subst hj; exact ⟨_, rfl, rfl⟩
    | 1, hj => simp at hj; subst hj; exact ⟨_, rfl, rfl⟩)).rs)
  rw [ab_two] at KQ
  go_wp2_with (go_at_call 12; (with_reducible refine Calls.mono KQ.out ?_); rintro x w7 ⟨rfl, rfl⟩)
  go_ret
  exact ⟨rfl, HB.out.trans ((B6.out.mono HB.out.size).alloc (Nat.le_trans HB.out.size B6.out.size) _)⟩
end Go.Proofs.Ytkfpjbefjflhfaa
