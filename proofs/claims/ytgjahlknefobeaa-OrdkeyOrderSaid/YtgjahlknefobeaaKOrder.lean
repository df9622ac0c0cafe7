/- The walk of the law OrdkeyOrder out of the contracts. -/
import Derived.Test.YtgjahlknefobeaaReg
import Derived.Deep.RegionWith
import Derived.Deep.RegionLaw
import Derived.Deep.RegionHeld3
import Derived.OrdersHeld
import Derived.Deep.QuietTactic
import Derived.BigQuiet
import Derived.Test.YtgjahlknefobeaaPlainL
import Derived.Test.YtgjahlknefobeaaTwo
import Derived.Test.YtgjahlknefobeaaKNumbers
namespace Go.Proofs.Ytgjahlknefobeaa.ordkeyOrder
open Go.RowKit
set_option linter.unusedVariables false

theorem less_cmp (a b : List UInt8) : ordkeyNumbers.sg (Op.bytesLess a b) (!(Op.bytesLess a b || a == b)) = cmpB a b := by
  induction a generalizing b with
  | nil =>
    cases b with
    | nil => rfl
    | cons y b => rfl
  | cons x a ih =>
    cases b with
    | nil => rfl
    | cons y b =>
      rw [cmpB_cons, ← ih b]
      simp only [Op.bytesLess]
      rcases Nat.lt_trichotomy x.toNat y.toNat with h | h | h
      · have h1 : x < y := by simpa [UInt8.lt_iff_toNat_lt] using h
        rw [if_pos h]
        simp [h1, ordkeyNumbers.sg]
      · obtain rfl : x = y := u8_eq h
        rw [if_neg (by omega), if_neg (by omega)]
        simp
      · have h1 : ¬ x < y := by simp [UInt8.lt_iff_toNat_lt]; omega
        have h2 : ¬ x = y := by rintro rfl; omega
        rw [if_neg (by omega), if_pos h]
        simp [h1, h2, ordkeyNumbers.sg]

set_option maxRecDepth 100000 in
set_option maxHeartbeats 1600000 in
theorem core (s t : ByteArray) (A B : Option Addr) (n c m d : Nat) (x y : List UInt8) (w : World) (hs : s.size ≤ maxLen) (ht : t.size ≤ maxLen) (hx : x.length = n) (hy : y.length = m) (hrx : RB w A x) (hry : RB w B y) :
    Calls Try.prog 7 #[.string s, .string t, .agg #[.slice A n c, .slice B m d]] w fun e w' => e = .returned (.bool true) ∧ Below w.heap.size w w' := by
  have HX := Lib.hid hx
  have HY := Lib.hid hy
  clear hx hy
  unfold maxLen at hs ht
  by_cases h1 : 200 < s.size
  · go_enter Try.func7, Try.ntmps7
    go_wp2_with (go_at_call 11; refine (awake_any _).mono ?_; rintro e w1 ⟨rfl, hb1⟩)
    go_ret
    exact ⟨rfl, ((Below.refl _ _).alloc (Nat.le_refl _) _).trans (hb1.mono (by simp))⟩
  by_cases h2 : 200 < t.size
  · go_enter Try.func7, Try.ntmps7
    go_wp2_with (go_at_call 11; refine (awake_any _).mono ?_; rintro e w1 ⟨rfl, hb1⟩)
    go_ret
    exact ⟨rfl, ((Below.refl _ _).alloc (Nat.le_refl _) _).trans (hb1.mono (by simp))⟩
  by_cases h3 : 100 < n
  · go_enter Try.func7, Try.ntmps7
    go_wp2_with (go_at_call 11; refine (awake_any _).mono ?_; rintro e w1 ⟨rfl, hb1⟩)
    go_ret
    exact ⟨rfl, ((Below.refl _ _).alloc (Nat.le_refl _) _).trans (hb1.mono (by simp))⟩
  by_cases h4 : 100 < m
  · go_enter Try.func7, Try.ntmps7
    go_wp2_with (go_at_call 11; refine (awake_any _).mono ?_; rintro e w1 ⟨rfl, hb1⟩)
    go_ret
    exact ⟨rfl, ((Below.refl _ _).alloc (Nat.le_refl _) _).trans (hb1.mono (by simp))⟩
  have hpl := putText_len s.data.toList
  have hql := putText_len t.data.toList
  have C1 := Lib.hid (fun W => putText_any s W (by omega))
  have C2 := Lib.hid (fun W => putText_any t W (by omega))
  have HC := Lib.hid (cmpB_putText s.data.toList t.data.toList)
  have HD := Lib.hid (cmpB_putText_more s.data.toList t.data.toList x y)
  rw [show s.data.toList.length = s.size by simp] at hpl
  rw [show t.data.toList.length = t.size by simp] at hql
  generalize putText s.data.toList = p at *
  generalize putText t.data.toList = q at *
  have hp2 : p.length ≤ 402 := by omega
  have hq2 : q.length ≤ 402 := by omega
  clear hpl hql
  go_enter Try.func7, Try.ntmps7
  go_wp2_with fail
  have hB0 : Below w.heap.size w (w.alloc (.cells #[.slice A n c, .slice B m d] 48)) := (Below.refl _ _).alloc (Nat.le_refl _) _
  have hc0 : (w.alloc (.cells #[.slice A n c, .slice B m d] 48)).cell? ⟨w.heap.size, 0, none⟩ = some (.slice A n c) := by simp
  have hc1 : (w.alloc (.cells #[.slice A n c, .slice B m d] 48)).cell? ⟨w.heap.size, 1, none⟩ = some (.slice B m d) := by simp
  have hz0 : w.heap.size < (w.alloc (.cells #[.slice A n c, .slice B m d] 48)).heap.size := by simp
  generalize w.alloc (.cells #[.slice A n c, .slice B m d] 48) = W at *
  refine (C1.out _).mono ?_
  rintro e w1 ⟨v1, rfl, ho1, hb1⟩
  obtain ⟨A1, c1, rfl, _, hx1⟩ := ho1.form
  clear ho1
  go_wp2_with fail
  refine (C2.out _).mono ?_
  rintro e w2 ⟨v2, rfl, ho2, hb2⟩
  obtain ⟨A2, c2, rfl, _, hx2⟩ := ho2.form
  clear ho2
  have hx1 := hx1.below hb2
  have hB2 : Below W.heap.size W w2 := hb1.trans (hb2.mono hb1.size)
  have hB2' : Below w.heap.size w w2 := hB0.trans (hB2.mono hB0.size)
  have hrx2 := hrx.below hB2'
  have hry2 := hry.below hB2'
  have hd0 := (hB2.cell (p := ⟨w.heap.size, 0, none⟩) hz0).trans hc0
  have hd1 := (hB2.cell (p := ⟨w.heap.size, 1, none⟩) hz0).trans hc1
  have hz2 : w.heap.size < w2.heap.size := Nat.lt_of_lt_of_le hz0 hB2.size
  clear hb1 hb2 hB2 hB0 hrx hry hc0 hc1 hz0
  have hgtr : binOp .gtr 9 (.string s) (.string t) = pure (.bool (!(Op.bytesLess s.toList t.toList || s.toList == t.toList))) := by simp [binOp, Op.stringOp]
  have HS := Lib.hid (show ∀ W, Calls Try.prog 28 #[.bool (Op.bytesLess s.toList t.toList), .bool (!(Op.bytesLess s.toList t.toList || s.toList == t.toList))] W fun e w' => e = .returned (.int .i64 (cmpB s.data.toList t.data.toList)) ∧ W = w' from by
    intro W
    have h := ordkeyNumbers.sign_any (Op.bytesLess s.toList t.toList) (!(Op.bytesLess s.toList t.toList || s.toList == t.toList)) W
    rw [less_cmp, show cmpB s.toList t.toList = cmpB s.data.toList t.data.toList from by rw [ByteArray.toList_eq, ByteArray.toList_eq]] at h
    exact h)
  generalize (!(Op.bytesLess s.toList t.toList || s.toList == t.toList)) = g2 at *
  generalize cmpB s.data.toList t.data.toList = k at *
  go_wp2_with fail
  refine (HS.out _).mono ?_
  rintro e w2' ⟨rfl, rfl⟩
  clear hgtr
  go_wp2_with fail
  refine (compare_below A1 A2 p.length c1 q.length c2 p q _ (by omega) (by omega) rfl rfl hx1 hx2).mono ?_
  rw [HC.out]
  rintro e w3 ⟨rfl, hb3⟩
  have hB3 : Below w.heap.size w w3 := hB2'.trans (hb3.mono hB2'.size)
  have hz3 := hB3.size
  have hx1 := hx1.below hb3
  have hx2 := hx2.below hb3
  have hrx3 := hrx2.below hb3
  have hry3 := hry2.below hb3
  have he0 := (hb3.cell (p := ⟨w.heap.size, 0, none⟩) hz2).trans hd0
  have he1 := (hb3.cell (p := ⟨w.heap.size, 1, none⟩) hz2).trans hd1
  have hz4 : w.heap.size < w3.heap.size := Nat.lt_of_lt_of_le hz2 hb3.size
  clear hd0 hd1 hrx2 hry2 hb3 hB2' hz2
  go_wp2_with fail
  by_cases hk : k = 0
  · have hk0 : (k == 0) = true := by simp [hk]
    refine wp_region_any (by kernel_rfl) ?_
    change wpAny _ _ _ _ _ _ _ (World.drew _)
    refine take0 0 47 (v := ?_) rfl rfl (by kernel_rfl) (by kernel_rfl) (by kernel_rfl) (fun _ _ _ h => h) (by rfl) ?_ ?_
    rotate_left
    · intro w'
      go_simp
      try (with_reducible rfl)
    simp only [Act.put, List.setIfInBounds_toArray, List.set_cons_zero, List.set_cons_succ]
    refine take0 1 48 (v := ?_) rfl rfl (by kernel_rfl) (by kernel_rfl) (by kernel_rfl) (fun _ _ _ h => h) (by rfl) ?_ ?_
    rotate_left
    · intro w'
      go_simp
      try (with_reducible rfl)
    simp only [Act.put, List.setIfInBounds_toArray, List.set_cons_zero, List.set_cons_succ]
    refine take0 2 49 (v := ?_) rfl rfl (by kernel_rfl) (by kernel_rfl) (by kernel_rfl) (fun _ _ _ h => h) (by rfl) ?_ ?_
    rotate_left
    · intro w'
      go_simp
      try (with_reducible rfl)
    simp only [Act.put, List.setIfInBounds_toArray, List.set_cons_zero, List.set_cons_succ]
    refine takeU 3 50 rfl rfl (by kernel_rfl) (by kernel_rfl) (by kernel_rfl) (fun _ _ _ h => h) (by rfl) ?_
    simp only [Act.put, List.setIfInBounds_toArray, List.set_cons_zero, List.set_cons_succ]
    refine takeU 4 51 rfl rfl (by kernel_rfl) (by kernel_rfl) (by kernel_rfl) (fun _ _ _ h => h) (by rfl) ?_
    simp only [Act.put, List.setIfInBounds_toArray, List.set_cons_zero, List.set_cons_succ]
    refine takeU 5 52 rfl rfl (by kernel_rfl) (by kernel_rfl) (by kernel_rfl) (fun _ _ _ h => h) (by rfl) ?_
    simp only [Act.put, List.setIfInBounds_toArray, List.set_cons_zero, List.set_cons_succ]
    refine takeU 6 53 rfl rfl (by kernel_rfl) (by kernel_rfl) (by kernel_rfl) (fun _ _ _ h => h) (by rfl) ?_
    simp only [Act.put, List.setIfInBounds_toArray, List.set_cons_zero, List.set_cons_succ]
    refine takeU 7 54 rfl rfl (by kernel_rfl) (by kernel_rfl) (by kernel_rfl) (fun _ _ _ h => h) (by rfl) ?_
    simp only [Act.put, List.setIfInBounds_toArray, List.set_cons_zero, List.set_cons_succ]
    refine takeU 8 55 rfl rfl (by kernel_rfl) (by kernel_rfl) (by kernel_rfl) (fun _ _ _ h => h) (by rfl) ?_
    simp only [Act.put, List.setIfInBounds_toArray, List.set_cons_zero, List.set_cons_succ]
    refine takeU 9 56 rfl rfl (by kernel_rfl) (by kernel_rfl) (by kernel_rfl) (fun _ _ _ h => h) (by rfl) ?_
    simp only [Act.put, List.setIfInBounds_toArray, List.set_cons_zero, List.set_cons_succ]
    refine takeU 10 57 rfl rfl (by kernel_rfl) (by kernel_rfl) (by kernel_rfl) (fun _ _ _ h => h) (by rfl) ?_
    simp only [Act.put, List.setIfInBounds_toArray, List.set_cons_zero, List.set_cons_succ]
    refine takeU 11 58 rfl rfl (by kernel_rfl) (by kernel_rfl) (by kernel_rfl) (fun _ _ _ h => h) (by rfl) ?_
    simp only [Act.put, List.setIfInBounds_toArray, List.set_cons_zero, List.set_cons_succ]
    refine takeU 12 59 rfl rfl (by kernel_rfl) (by kernel_rfl) (by kernel_rfl) (fun _ _ _ h => h) (by rfl) ?_
    simp only [Act.put, List.setIfInBounds_toArray, List.set_cons_zero, List.set_cons_succ]
    refine takeU 13 60 rfl rfl (by kernel_rfl) (by kernel_rfl) (by kernel_rfl) (fun _ _ _ h => h) (by rfl) ?_
    simp only [Act.put, List.setIfInBounds_toArray, List.set_cons_zero, List.set_cons_succ]
    refine takeU 14 61 rfl rfl (by kernel_rfl) (by kernel_rfl) (by kernel_rfl) (fun _ _ _ h => h) (by rfl) ?_
    simp only [Act.put, List.setIfInBounds_toArray, List.set_cons_zero, List.set_cons_succ]
    refine takeU 15 62 rfl rfl (by kernel_rfl) (by kernel_rfl) (by kernel_rfl) (fun _ _ _ h => h) (by rfl) ?_
    simp only [Act.put, List.setIfInBounds_toArray, List.set_cons_zero, List.set_cons_succ]
    refine takeU 16 63 rfl rfl (by kernel_rfl) (by kernel_rfl) (by kernel_rfl) (fun _ _ _ h => h) (by rfl) ?_
    simp only [Act.put, List.setIfInBounds_toArray, List.set_cons_zero, List.set_cons_succ]
    refine takeU 17 64 rfl rfl (by kernel_rfl) (by kernel_rfl) (by kernel_rfl) (fun _ _ _ h => h) (by rfl) ?_
    simp only [Act.put, List.setIfInBounds_toArray, List.set_cons_zero, List.set_cons_succ]
    refine take0 18 65 (v := ?_) rfl rfl (by kernel_rfl) (by kernel_rfl) (by kernel_rfl) (fun _ _ _ h => h) (by rfl) ?_ ?_
    rotate_left
    · intro w'
      go_simp
      try (with_reducible rfl)
    simp only [Act.put, List.setIfInBounds_toArray, List.set_cons_zero, List.set_cons_succ]
    refine take0 19 66 (v := ?_) rfl rfl (by kernel_rfl) (by kernel_rfl) (by kernel_rfl) (fun _ _ _ h => h) (by rfl) ?_ ?_
    rotate_left
    · intro w'
      go_simp
      try (with_reducible rfl)
    simp only [Act.put, List.setIfInBounds_toArray, List.set_cons_zero, List.set_cons_succ]
    refine wpAny_ready (rs := [20]) (by kernel_rfl) (by simp) ?_
    refine AllReady.cons rfl (fun K hK => ?_) AllReady.nil
    go_simp
    refine (awake_any _).mono ?_
    rintro e w4 ⟨rfl, hb4⟩
    refine hK _ _ ?_
    clear hK K
    refine take0 21 68 (v := ?_) rfl rfl (by kernel_rfl) (by kernel_rfl) (by kernel_rfl) (fun _ _ _ h => h) (by rfl) ?_ ?_
    rotate_left
    · intro w'
      go_simp
      try (with_reducible rfl)
    simp only [Act.put, List.setIfInBounds_toArray, List.set_cons_zero, List.set_cons_succ]
    refine take0 22 6 (v := ?_) rfl rfl (by kernel_rfl) (by kernel_rfl) (by kernel_rfl) (fun _ _ _ h => h) (by rfl) ?_ ?_
    rotate_left
    · intro w'
      go_simp
      try (with_reducible rfl)
    simp only [Act.put, List.setIfInBounds_toArray, List.set_cons_zero, List.set_cons_succ]
    refine wpAny_done (by kernel_rfl) ?_ _
    go_wp2
    go_ret
    exact ⟨rfl, (hB3.drew).trans (hb4.mono hz3)⟩
  · have hk0 : (k == 0) = false := by simp [hk]
    have HE := Lib.hid (HD.out hk)
    have hBa : Below w3.heap.size w3 (w3.alloc (.cells #[] 5)) := (Below.refl _ _).alloc (Nat.le_refl _) _
    have hBc : Below w3.heap.size w3 ((w3.alloc (.cells #[] 5)).alloc (.cells #[] 5)) := hBa.alloc hBa.size _
    have h50a : OB w3.heap.size (w3.alloc (.cells #[] 5)).drew (.slice (some ⟨w3.heap.size, 0, none⟩) 0 0) [] := OB.lit w3 w3.heap.size [] #[] (by simp [cellsB]) (Nat.le_refl _) (by simp [maxLen])
    have hTc : Two w3.heap.size ((w3.alloc (.cells #[] 5)).alloc (.cells #[] 5)).drew (.slice (some ⟨w3.heap.size, 0, none⟩) 0 0) [] (.slice (some ⟨w3.heap.size + 1, 0, none⟩) 0 0) [] := Two.new (w := w3.alloc (.cells #[] 5)) h50a hBa.size _ (by simp)
    have hTd := hTc.swap
    have HK := Lib.hid (show ∀ w', Below w3.heap.size w3 w' → w'.cell? ⟨w.heap.size, 0, none⟩ = some (.slice A n c) ∧ w'.cell? ⟨w.heap.size, 1, none⟩ = some (.slice B m d) from fun w' hb => ⟨(hb.cell (p := ⟨w.heap.size, 0, none⟩) hz4).trans he0, (hb.cell (p := ⟨w.heap.size, 1, none⟩) hz4).trans he1⟩)
    have hlx : (p ++ x).length ≤ 502 := by rw [List.length_append, HX.out]; omega
    have hly : (q ++ y).length ≤ 502 := by rw [List.length_append, HY.out]; omega
    generalize hP : p ++ x = P at *
    generalize hQ : q ++ y = R at *
    have HP := Lib.hid hP
    have HQ := Lib.hid hQ
    clear hP hQ
    go_region_held3 (fun w' => w'.cell? ⟨w.heap.size, 0, none⟩ = some (.slice A n c) ∧ w'.cell? ⟨w.heap.size, 1, none⟩ = some (.slice B m d))
      (first | exact HK.out _ (Below.refl _ _).drew | exact HK.out _ hBa.drew | exact HK.out _ hBc.drew | exact HK.out _ hB5 | exact HK.out _ (hB5.alloc hB5.size _) | exact HK.out _ hB8 | exact HK.out _ (hB8.alloc hB8.size _) | exact HK.out _ hB11 | exact HK.out _ hB14 | exact HK.out _ hB15 | exact HK.out _ hB20)
      (first
        | (refine step_own_B (.tmp 50) (.tmp 51) (by rfl) (by rfl) w3.heap.size _ [] (by rfl) h50a _ p.length _ p (by rfl) rfl (hx1.alloc _) (by simp; omega) (by simp) ?_; intro v5 w5 hO5 hb5; rw [List.nil_append] at hO5; have hB5 : Below w3.heap.size w3 w5 := hBa.drew.trans hb5)
        | (refine step_two_B (.tmp 50) (.tmp 51) (by rfl) (by rfl) w3.heap.size _ [] _ [] (by rfl) hTc _ p.length _ p (by rfl) rfl ((hx1.alloc _).alloc _) (by simp; omega) ?_; intro v5 w5 hT5 hb5; rw [List.nil_append] at hT5; have hB5 : Below w3.heap.size w3 w5 := hBc.drew.trans hb5)
        | (refine step_two_B (.tmp 50) (.tmp 51) (by rfl) (by rfl) w3.heap.size _ [] _ [] (by rfl) hTd _ p.length _ p (by rfl) rfl ((hx1.alloc _).alloc _) (by simp; omega) ?_; intro v5 w5 hT5 hb5; rw [List.nil_append] at hT5; have hB5 : Below w3.heap.size w3 w5 := hBc.drew.trans hb5)
        | (refine step_two_B (.tmp 52) (.tmp 54) (by rfl) (by rfl) w3.heap.size _ p _ [] (by rfl) hT5 _ n _ x (by rfl) HX.out (hrx3.below hB5) (by omega) ?_; intro v8 w8 hT8 hb8; rw [HP.out] at hT8; have hB8 : Below w3.heap.size w3 w8 := hB5.trans hb8)
        | (refine step_two_B (.tmp 52) (.tmp 54) (by rfl) (by rfl) w3.heap.size _ p _ [] (by rfl) (Two.new hO5 hB5.size _ rfl) _ n _ x (by rfl) HX.out ((hrx3.below hB5).alloc _) (by omega) ?_; intro v8 w8 hT8 hb8; rw [HP.out] at hT8; have hB8 : Below w3.heap.size w3 w8 := (hB5.alloc hB5.size _).trans hb8)
        | (refine step_own_B (.tmp 52) (.tmp 54) (by rfl) (by rfl) w3.heap.size _ p (by rfl) hO5 _ n _ x (by rfl) HX.out (hrx3.below hB5) (by omega) hB5.size ?_; intro v8 w8 hO8 hb8; rw [HP.out] at hO8; have hB8 : Below w3.heap.size w3 w8 := hB5.trans hb8)
        | (refine step_two_B (.tmp 56) (.tmp 57) (by rfl) (by rfl) w3.heap.size _ [] _ P (by rfl) hT8.swap _ q.length _ q (by rfl) rfl (hx2.below hB8) (by simp; omega) ?_; intro v11 w11 hT11 hb11; rw [List.nil_append] at hT11; have hB11 : Below w3.heap.size w3 w11 := hB8.trans hb11)
        | (refine step_two_B (.tmp 56) (.tmp 57) (by rfl) (by rfl) w3.heap.size _ [] _ P (by rfl) (Two.new hO8 hB8.size _ rfl).swap _ q.length _ q (by rfl) rfl ((hx2.below hB8).alloc _) (by simp; omega) ?_; intro v11 w11 hT11 hb11; rw [List.nil_append] at hT11; have hB11 : Below w3.heap.size w3 w11 := (hB8.alloc hB8.size _).trans hb11)
        | (refine step_two_B (.tmp 58) (.tmp 60) (by rfl) (by rfl) w3.heap.size _ q _ P (by rfl) hT11 _ m _ y (by rfl) HY.out (hry3.below hB11) (by omega) ?_; intro v14 w14 hT14 hb14; rw [HQ.out] at hT14; have hB14 : Below w3.heap.size w3 w14 := hB11.trans hb14; obtain ⟨A8, c8, rfl, hc8, hx8⟩ := hT14.2.2.1.form; obtain ⟨A14, c14, rfl, hc14, hx14⟩ := hT14.2.1.form)
        | (go_simp; go_at_call 26; refine (compare_below A8 A14 P.length c8 R.length c14 P R _ (by omega) (by omega) rfl rfl hx8 hx14).mono ?_; rw [HE.out]; rintro e w15 ⟨rfl, hb15⟩; have hB15 : Below w3.heap.size w3 w15 := hB14.trans (hb15.mono hB14.size))
        | (go_simp; go_at_call 11; refine (awake_any _).mono ?_; rintro e w20 ⟨rfl, hb20⟩; have hB20 : Below w3.heap.size w3 w20 := hB15.trans (hb20.mono hB15.size)))
    all_goals
      go_wp2
      go_ret
      exact ⟨rfl, hB3.trans (hB20.mono hz3)⟩

end Go.Proofs.Ytgjahlknefobeaa.ordkeyOrder
