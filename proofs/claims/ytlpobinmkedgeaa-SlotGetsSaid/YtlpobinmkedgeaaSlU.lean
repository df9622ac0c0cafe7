/- Slots: the document's Put. -/
import Derived.Test.YtlpobinmkedgeaaSlR
import Derived.Test.YtlpobinmkedgeaaSlM
namespace Go.Proofs.Ytlpobinmkedgeaa
open Go.RowKit
set_option linter.unusedVariables false
set_option linter.unusedSimpArgs false
theorem refPut_no (gen : Int) (A : Option Addr) (n c : Nat) (w : World) (h : gen < 1 ∨ 1099511627776 < gen) :
    Calls Try.prog 9 #[.int .i64 gen, .slice A n c] w fun e w' => e = .returned (.tuple #[.slice none 0 0, .int .i64 9]) ∧ w = w' := by
  by_cases h2 : gen < 1
  · go_enter Try.func9, Try.ntmps9
    go_wp2
    go_ret2
    exact ⟨rfl, rfl⟩
  · have h3 : 1099511627776 < gen := by omega
    go_enter Try.func9, Try.ntmps9
    go_wp2
    go_ret2
    exact ⟨rfl, rfl⟩
theorem refPut_big (gen : Int) (A : Option Addr) (n c : Nat) (w : World) (h1 : 1 ≤ gen) (h2 : gen ≤ 1099511627776) (h3 : 954 < n) :
    Calls Try.prog 9 #[.int .i64 gen, .slice A n c] w fun e w' => e = .returned (.tuple #[.slice none 0 0, .int .i64 5]) ∧ w = w' := by
  have h4 : decide (954 < (n : Int)) = true := by simp; omega
  go_enter Try.func9, Try.ntmps9
  go_wp2
  go_ret2
  exact ⟨rfl, rfl⟩
theorem row_litU (w : World) (u : Value) : Row (w.alloc (.cells #[u] 22)) w.heap.size [u] := heap_alloc_last w _
set_option maxHeartbeats 4000000 in
set_option maxRecDepth 100000 in
theorem refPut_ok (g : Nat) (A : Option Addr) (n c : Nat) (b : List UInt8) (w : World) (h1 : 1 ≤ g) (h2 : g ≤ 1099511627776) (hb : b.length = n) (h3 : n ≤ 954) (hr : RB w A b) :
    Calls Try.prog 9 #[.int .i64 (g : Int), .slice A n c] w fun e w' => ∃ A' c', e = .returned (.tuple #[.slice A' 4 c', .int .i64 0]) ∧ 4 ≤ c' ∧ c' ≤ maxLen ∧ RBS w' A' (putL g b) ∧ Below w.heap.size w w' := by
  have HL := Lib.hid hb
  have HR := Lib.hid hr
  have HI1 := Lib.hid (show (n : Int) / 256 = ((UInt8.ofNat (n / 256)).toNat : Int) from by rw [toNat_of]; omega)
  have HI2 := Lib.hid (show (n : Int) % 256 = ((UInt8.ofNat n).toNat : Int) from by rw [toNat_of]; omega)
  have hm1 : (n : Int) / 256 % 256 = (n : Int) / 256 := by omega
  have hm2 : (n : Int) % 256 % 256 = (n : Int) % 256 := by omega
  clear hb hr
  go_enter Try.func9, Try.ntmps9
  go_upto_region 6 with (at_builtin; refine wpList_append_B rfl (.tmp 29) (.tmp 30) rfl w.heap.size _ [UInt8.ofNat (n / 256), UInt8.ofNat n] rfl (OB.lit w w.heap.size [UInt8.ofNat (n / 256), UInt8.ofNat n] _ (by rw [HI1.out, HI2.out]; rfl) (Nat.le_refl _) (by simp [maxLen])) A n c b rfl HL.out (HR.out.alloc _) (by simp; omega) (by simp) ?_; intro v1 w1 o1 b1)
  obtain ⟨A1, c1, rfl, _, _⟩ := o1.form
  have HL1 := Lib.hid (show ([UInt8.ofNat (n / 256), UInt8.ofNat n] ++ b).length = n + 2 from by simp [HL.out])
  rw [HL1.out] at o1 ⊢
  have O1 := Lib.hid o1
  have B1 := Lib.hid (((Below.refl _ w).alloc (Nat.le_refl _) _).trans b1)
  have G1 := B1.out.size
  have HAL : Hid ([UInt8.ofNat (n / 256), UInt8.ofNat n] ++ b ++ List.replicate (956 - (n + 2)) 0 = allOf b) := Lib.hid (by
    unfold allOf
    rw [HL.out, show 956 - (n + 2) = 954 - n by omega])
  clear o1 b1 HI1 HI2 hm1 hm2
  go_upto_region 9 with (at_builtin; refine wpList_append_zeros_B rfl (.tmp 32) (.tmp 35) rfl w.heap.size _ _ rfl O1.out (by rw [HL1.out]; omega) (956 - (n + 2)) _ rfl (by omega) (by rw [HL1.out]; omega) G1 ?_; intro v2 w2 o2 b2)
  rw [HAL.out] at o2
  have LA := Lib.hid (allOf_len (b := b) (by rw [HL.out]; omega))
  obtain ⟨ad, ca, hv, hca, hcm, hra, _, _⟩ := o2.row (by rw [LA.out]; omega)
  subst hv
  rw [LA.out] at hca ⊢
  have RA := Lib.hid hra
  have B2 := Lib.hid (B1.out.trans b2)
  have HPL := Lib.hid (fun i (hi : i < 4) => putL_at g b hi)
  have HLL := Lib.hid (putL_len g b)
  generalize allOf b = X at *
  obtain ⟨M, hM⟩ : ∃ M, M = putL g b := ⟨_, rfl⟩
  rw [← hM] at HPL HLL
  have HMM := Lib.hid hM
  clear hM
  clear o2 b2 hra O1 HL1 HAL B1 G1
  have ST : Hid (OutRel w2 M 0 (.slice none 0 0) w2) := Lib.hid (OutRel.start (Below.refl _ w2))
  go_wp2
  go_loopw [7, 8, 9] (fun v i _ wr => ∃ k : Nat, k ≤ 4 ∧ i = .int .i64 k ∧ OutRel w2 M k v wr) (fun _ i _ _ => 4 - (intOf i).toNat)
  case atStart => exact ⟨0, Nat.zero_le _, rfl, ST.out⟩
  case round =>
    obtain ⟨k, hk, rfl, hO⟩ := hrel
    by_cases hlt : k < 4
    · have hMk := HPL.out k hlt
      have hbW : Below w2.heap.size w2 wr := hO.choose_spec.2.2.2
      have HVL := Lib.hid (show ∀ q, u7.ownBlock = some q → q < wr.heap.size from fun q hq => (World.ownsRow.lt hO.choose_spec.1 q hq).2)
      have HPN := Lib.hid (partOf_len (l := X) LA.out hlt)
      have RP := Lib.hid (show RB wr (some (ad.add (k * 239))) (partOf X k) from ((RA.out.below hbW).drop (k * 239)).take 239)
      have HSE : Hid (st g ++ [UInt8.ofNat k] ++ partOf X k ++ st g = sec g k (partOf X k)) := rfl
      have HSL := Lib.hid (sec_len (g := g) (i := k) HPN.out)
      have HMK := Lib.hid hMk
      have O1 := Lib.hid hO
      have K1 := Lib.hid (eight_any g wr h2)
      have HST := Lib.hid (st_len g)
      have HIK := Lib.hid (show (k : Int) = ((UInt8.ofNat k).toNat : Int) from by rw [toNat_of]; omega)
      have hmk : (k : Int) % 256 = (k : Int) := by omega
      have hd1 : ¬ ca = k * 239 := by omega
      generalize sec g k (partOf X k) = S at *
      generalize partOf X k = Pt at *
      clear hMk hbW hO
      go_upto_region 12 with (first
        | (go_at_call 21; refine K1.out.mono ?_; rintro e w3 ⟨v3, rfl, o3, b3⟩; have O3 := Lib.hid o3; have B3 := Lib.hid b3; have G3 := b3.size; clear o3 b3)
        | (at_builtin; refine wpList_append_B rfl (.tmp 42) (.tmp 45) rfl wr.heap.size _ (st g) rfl (O3.out.alloc _) _ 1 1 [UInt8.ofNat k] rfl rfl (RB.one _ _ _ HIK.out) (by rw [HST.out]; omega) (by rw [heap_size_alloc]; omega) ?_; intro v4 w4 o4 b4; have O4 := Lib.hid o4; have B4 := Lib.hid ((B3.out.alloc G3 _).trans b4); have G4 := B4.out.size; clear o4 b4)
        | fail)
      have L4 := Lib.hid (show (st g ++ [UInt8.ofNat k]).length = 9 from by rw [List.length_append, HST.out]; rfl)
      have L5 := Lib.hid (show (st g ++ [UInt8.ofNat k] ++ Pt).length = 248 from by rw [List.length_append, L4.out, HPN.out])
      have q1 : IntKind.i64.wrap ((k : Int) * 239) = (k : Int) * 239 := wrap64 _ (by omega) (by omega)
      have q2 : IntKind.i64.wrap ((k : Int) * 239 + 239) = (k : Int) * 239 + 239 := wrap64 _ (by omega) (by omega)
      have q3 : 0 ≤ (k : Int) * 239 := by omega
      have q4 : (k : Int) * 239 ≤ (k : Int) * 239 + 239 := by omega
      have q5 : (k : Int) * 239 + 239 ≤ (ca : Int) := by omega
      have q6 : ((k : Int) * 239).toNat = k * 239 := by omega
      have q7 : ((k : Int) * 239 + 239).toNat = k * 239 + 239 := by omega
      have q9 : k * 239 + 239 - k * 239 = 239 := by omega
      clear K1 B3 O3 G3
      go_upto_region 13 with (at_builtin; refine wpList_append_B rfl (.tmp 47) (.tmp 54) rfl wr.heap.size v4 (st g ++ [UInt8.ofNat k]) rfl O4.out (some (ad.add (k * 239))) 239 (ca - k * 239) Pt rfl HPN.out (RP.out.below B4.out) (by rw [L4.out]; omega) G4 ?_; intro v5 w5 o5 b5; have O5 := Lib.hid o5; have B5 := Lib.hid (B4.out.trans b5); have G5 := B5.out.size; clear o5 b5)
      clear q1 q2 q3 q4 q5 q6 q7 q9 O4 B4 G4
      have K5 := Lib.hid (eight_any g w5 h2)
      go_wp2_with (first
        | (go_at_call 21; refine K5.out.mono ?_; rintro e w6 ⟨v6, rfl, o6, b6⟩; obtain ⟨A6, c6, rfl, _, r6⟩ := o6.form; rw [HST.out]; have R6 := Lib.hid r6; have B6 := Lib.hid (B5.out.trans (b6.mono G5)); have G6 := B6.out.size; have O6 := Lib.hid (O5.out.keep b6 (Nat.le_refl _)); clear o6 b6 r6)
        | (at_builtin; refine wpList_append_B rfl (.tmp 57) (.tmp 59) rfl wr.heap.size v5 (st g ++ [UInt8.ofNat k] ++ Pt) rfl O6.out A6 8 c6 (st g) rfl HST.out R6.out (by rw [L5.out]; omega) G6 ?_; intro v7 w7 o7' b7; have o7 := o7'; rw [HSE.out] at o7; obtain ⟨ad7, c7, hv7, hc7, hm7, r7, l7, g7⟩ := o7.row (by rw [HSL.out]; omega); subst hv7; have B7 := Lib.hid (B6.out.trans b7); have D7 := Lib.hid (B7.out.alloc B7.out.size (.cells #[.slice (some ad7) S.length c7] 22)); have O8 := Lib.hid (O1.out.below D7.out); have R8 := Lib.hid (r7.alloc (.cells #[.slice (some ad7) S.length c7] 22)); have NE := Lib.hid (show u7.ownBlock ≠ some ad7.block from fun e => by have := HVL.out _ e; omega); clear o7 o7' b7 r7)
        | (at_builtin; refine wpList_append_out rfl (.tmp 56) (.tmp 61) rfl O8.out (by omega) HMK.out hc7 hm7 R8.out (by rw [heap_size_alloc]; omega) NE.out (row_litU w7 _) rfl rfl ?_; intro v8 w8 hO8)
        | fail)
      go_roundw
      case rel => exact ⟨k + 1, by omega, by go_num, hO8.out⟩
      case measure => simp [intOf]; omega
    · obtain rfl : k = 4 := by omega
      obtain ⟨A', c', rfl, q1, q2, q3⟩ := hO.rbs (by omega) HLL.out
      have Q3 := Lib.hid q3
      have Q4 := Lib.hid (B2.out.trans (hO.choose_spec.2.2.2.mono B2.out.size))
      clear q3 hO
      go_wp2
      go_ret2
      exact ⟨A', c', rfl, q1, q2, by rw [← HMM.out]; exact Q3.out, Q4.out⟩
end Go.Proofs.Ytlpobinmkedgeaa
