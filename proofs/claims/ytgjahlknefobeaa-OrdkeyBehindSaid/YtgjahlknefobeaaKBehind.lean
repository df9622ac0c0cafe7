/- The walk of the law OrdkeyBehind out of the contracts. -/
import Derived.Test.YtgjahlknefobeaaReg
import Derived.Deep.RegionWith
import Derived.Deep.RegionLaw
import Derived.Deep.RegionHeld3
import Derived.OrdersHeld
import Derived.Deep.QuietTactic
import Derived.BigQuiet
import Derived.Test.YtgjahlknefobeaaPlainL
namespace Go.Proofs.Ytgjahlknefobeaa.ordkeyBehind
open Go.RowKit
set_option linter.unusedVariables false

theorem str_inj {a b : List UInt8} (h : ((str a).toList == (str b).toList) = true) : a = b := by
  have h1 : (str a).toList = (str b).toList := by simpa using h
  have h2 : ∀ l : List UInt8, (str l).toList = l := by
    intro l
    simp [str, ByteArray.toList_eq]
  rw [h2, h2] at h1
  exact h1
theorem str_same {a b : List UInt8} (h : a = b) : ((str a).toList == (str b).toList) = true := by subst h; simp

set_option maxRecDepth 100000 in
set_option maxHeartbeats 1600000 in
theorem core (A : Option Addr) (n c : Nat) (b : List UInt8) (B : Option Addr) (m d : Nat) (more : List UInt8) (C : Option Addr) (k e : Nat) (o : List UInt8) (w : World) (hb : b.length = n) (hc : n ≤ c) (hm : more.length = m) (ho : o.length = k) (he : k ≤ e) (hrb : RB w A b) (hrm : RB w B more) (hro : RB w C o) :
    Calls Try.prog 10 #[.slice A n c, .slice B m d, .slice C k e] w fun e w' => e = .returned (.bool true) ∧ Below w.heap.size w w' := by
  have HB := Lib.hid hb
  have HM := Lib.hid hm
  have HO := Lib.hid ho
  clear hb hm ho
  by_cases h1 : 100 < n
  · go_enter Try.func10, Try.ntmps10
    go_wp2_with (go_at_call 11; refine (awake_any _).mono ?_; rintro e w1 ⟨rfl, hb1⟩)
    go_ret
    exact ⟨rfl, hb1⟩
  by_cases h2 : 100 < m
  · go_enter Try.func10, Try.ntmps10
    go_wp2_with (go_at_call 11; refine (awake_any _).mono ?_; rintro e w1 ⟨rfl, hb1⟩)
    go_ret
    exact ⟨rfl, hb1⟩
  by_cases h3 : 100 < k
  · go_enter Try.func10, Try.ntmps10
    go_wp2_with (go_at_call 11; refine (awake_any _).mono ?_; rintro e w1 ⟨rfl, hb1⟩)
    go_ret
    exact ⟨rfl, hb1⟩
  by_cases hle : n ≤ k
  · have hle' : (n : Int) ≤ (k : Int) := by omega
    have hke : (n : Int) ≤ (e : Int) := by omega
    go_enter Try.func10, Try.ntmps10
    go_wp2_with fail
    refine (behind_any A n c b _ (by omega) HB.out hc hrb).mono ?_
    rintro e' w1 ⟨v1, rfl, ho1, hb1⟩
    obtain ⟨A1, c1, rfl, hc1, hr1⟩ := ho1.form
    clear ho1 hc1
    have hrb1 := hrb.below hb1
    have hrm1 := hrm.below hb1
    have hro1 := hro.below hb1
    have hz1 := hb1.size
    go_wp2_with (first
      | (at_builtin; refine wpList_append_B rfl (.tmp 31) (.tmp 32) rfl w1.heap.size _ [] rfl (OB.lit w1 w1.heap.size [] _ (by simp [cellsB]) (Nat.le_refl _) (by simp [maxLen])) _ _ _ b rfl HB.out (hrb1.alloc _) (by simp; omega) (by simp) ?_; intro v2 w2 hown2 hb2; have hz2 : w1.heap.size + 1 ≤ w2.heap.size := (by have := hb2.size; simpa using this); have hB2 : Below w1.heap.size w1 w2 := ((Below.refl _ _).alloc (Nat.le_refl _) _).trans hb2)
      | (at_builtin; refine wpList_append_B rfl (.tmp 33) (.tmp 34) rfl w1.heap.size _ b rfl hown2 _ _ _ more rfl HM.out (hrm1.below hB2) (by rw [HB.out]; omega) (by omega) ?_; intro v3 w3 hown3 hb3; have hB3 : Below w1.heap.size w1 w3 := hB2.trans hb3))
    obtain ⟨A3, c3, rfl, hc3, hr3⟩ := hown3.form
    have hN0 : (b ++ more).length ≤ 200 := by rw [List.length_append, HB.out, HM.out]; omega
    generalize hN : (b ++ more).length = N at *
    have HN3 := Lib.hid hN
    clear hN
    clear hown2 hb2 hz2 hB2 hb3 hown3
    have hcv1 : ∀ q, (convert 22 9 (.slice C n e)).run Try.prog (w3.drewN q) = .ok (.string (str (o.take n))) (w3.drewN q) := fun q => run_str _ C n e (o.take n) (by rw [List.length_take, HO.out]; omega) (((hro1.below hB3).take n).drewN q)
    have hcv2 : ∀ q, (convert 22 9 (.slice A n c)).run Try.prog (w3.drewN q) = .ok (.string (str b)) (w3.drewN q) := fun q => run_str _ A n c b HB.out ((hrb1.below hB3).drewN q)
    have hr4 := hr1.below hB3
    have hr5 := hr3
    have HB4 := Lib.hid (hb1.trans (hB3.mono hz1))
    clear hr1 hr3 hB3 hb1 hrb1 hrm1 hro1
    go_quiet (fail)
    clear hcv1 hcv2
    have hgb : ((str (o.take n)).toList == (str b).toList) = true ↔ begins o b := by
      constructor
      · intro h
        exact ⟨by rw [HB.out, HO.out]; exact hle, by rw [HB.out]; exact str_inj h⟩
      · rintro ⟨_, h⟩
        rw [HB.out] at h
        exact str_same h
    generalize ((str (o.take n)).toList == (str b).toList) = g at *
    have HG := Lib.hid hgb
    clear hgb
    have hr4 := hr4.drewN nq
    have hr5 := hr5.drewN nq
    have HB4 := Lib.hid (show Below w.heap.size w (w3.drewN nq) from ⟨HB4.out.os, HB4.out.tape, HB4.out.output, HB4.out.size, HB4.out.block⟩)
    generalize w3.drewN nq = W4 at *
    have hB4 : Below w.heap.size w W4 := HB4.out
    have hrb4 := hrb.below hB4
    have hro4 := hro.below hB4
    have hz4 := hB4.size
    clear hrb hrm hro
    rcases hx : behB b with _ | x
    · have HN := Lib.hid (behF_none ((behB_F b).symm.trans hx) o)
      simp only [hx, Option.isSome_none, Option.getD_none] at hr4 ⊢
      clear hx
      cases g with
      | true =>
        go_wp2_with (go_at_call 11; refine (awake_any _).mono ?_; rintro e w5 ⟨rfl, hb5⟩)
        go_ret
        exact ⟨rfl, hB4.trans (hb5.mono hz4)⟩
      | false =>
        have hneg : cmpB o b < 0 := HN.out.resolve_left (fun h => by have := HG.out.2 h; cases this)
        go_wp2_with fail
        refine (compare_below C A k e n c o b _ (by omega) (by omega) HO.out HB.out hro4 hrb4).mono ?_
        rintro e w5 ⟨rfl, hb5⟩
        have hB5 : Below w.heap.size w w5 := hB4.trans (hb5.mono hz4)
        go_wp2_with (go_at_call 11; refine (awake_any _).mono ?_; rintro e w6 ⟨rfl, hb6⟩)
        go_ret
        exact ⟨rfl, hB5.trans (hb6.mono hB5.size)⟩
    · have hF := (behB_F b).symm.trans hx
      simp only [hx, Option.isSome_some, Option.getD_some] at hr4 ⊢
      have HL := Lib.hid (behF_long hF more)
      have HW := Lib.hid (behF_between hF o)
      have hxl : x.length ≤ 100 := by
        have := behF_len hF
        rw [HB.out] at this
        omega
      clear hx hF
      have hlong : cmpB (b ++ more) x < 0 := HL.out
      by_cases hc1' : 0 ≤ cmpB o b
      · by_cases hc2' : cmpB o x < 0
        · obtain rfl : g = true := HG.out.2 (HW.out.1 ⟨hc1', hc2'⟩)
          go_wp2_with fail
          refine (compare_below C A k e n c o b _ (by omega) (by omega) HO.out HB.out hro4 hrb4).mono ?_
          rintro e w5 ⟨rfl, hb5⟩
          go_wp2_with fail
          refine (compare_below C A1 k e x.length c1 o x _ (by omega) (by omega) HO.out rfl (hro4.below hb5) (hr4.below hb5)).mono ?_
          rintro e w6 ⟨rfl, hb6⟩
          go_wp2_with fail
          refine (compare_below A3 A1 N c3 x.length c1 (b ++ more) x _ (by omega) (by omega) HN3.out rfl ((hr5.below hb5).below hb6) ((hr4.below hb5).below hb6)).mono ?_
          rintro e w7 ⟨rfl, hb7⟩
          have hB5 : Below w.heap.size w w7 := ((hB4.trans (hb5.mono hz4)).trans (hb6.mono (Nat.le_trans hz4 hb5.size))).trans (hb7.mono (Nat.le_trans (Nat.le_trans hz4 hb5.size) hb6.size))
          go_wp2_with (go_at_call 11; refine (awake_any _).mono ?_; rintro e w8 ⟨rfl, hb8⟩)
          go_ret
          exact ⟨rfl, hB5.trans (hb8.mono hB5.size)⟩
        · obtain rfl : g = false := by
            cases g with
            | false => rfl
            | true => exact absurd (HW.out.2 (HG.out.1 rfl)).2 hc2'
          have hd2 : decide (cmpB o x < 0) = false := by simpa using hc2'
          go_wp2_with fail
          refine (compare_below C A k e n c o b _ (by omega) (by omega) HO.out HB.out hro4 hrb4).mono ?_
          rintro e w5 ⟨rfl, hb5⟩
          go_wp2_with fail
          refine (compare_below C A1 k e x.length c1 o x _ (by omega) (by omega) HO.out rfl (hro4.below hb5) (hr4.below hb5)).mono ?_
          rintro e w6 ⟨rfl, hb6⟩
          go_wp2_with fail
          refine (compare_below A3 A1 N c3 x.length c1 (b ++ more) x _ (by omega) (by omega) HN3.out rfl ((hr5.below hb5).below hb6) ((hr4.below hb5).below hb6)).mono ?_
          rintro e w7 ⟨rfl, hb7⟩
          have hB5 : Below w.heap.size w w7 := ((hB4.trans (hb5.mono hz4)).trans (hb6.mono (Nat.le_trans hz4 hb5.size))).trans (hb7.mono (Nat.le_trans (Nat.le_trans hz4 hb5.size) hb6.size))
          go_wp2_with (go_at_call 11; refine (awake_any _).mono ?_; rintro e w8 ⟨rfl, hb8⟩)
          go_ret
          exact ⟨rfl, hB5.trans (hb8.mono hB5.size)⟩
      · obtain rfl : g = false := by
          cases g with
          | false => rfl
          | true => exact absurd (HW.out.2 (HG.out.1 rfl)).1 hc1'
        go_wp2_with fail
        refine (compare_below C A k e n c o b _ (by omega) (by omega) HO.out HB.out hro4 hrb4).mono ?_
        rintro e w5 ⟨rfl, hb5⟩
        go_wp2_with fail
        refine (compare_below A3 A1 N c3 x.length c1 (b ++ more) x _ (by omega) (by omega) HN3.out rfl (hr5.below hb5) (hr4.below hb5)).mono ?_
        rintro e w7 ⟨rfl, hb7⟩
        have hB5 : Below w.heap.size w w7 := (hB4.trans (hb5.mono hz4)).trans (hb7.mono (Nat.le_trans hz4 hb5.size))
        go_wp2_with (go_at_call 11; refine (awake_any _).mono ?_; rintro e w8 ⟨rfl, hb8⟩)
        go_ret
        exact ⟨rfl, hB5.trans (hb8.mono hB5.size)⟩
  · have hdn : decide ((n : Int) ≤ (k : Int)) = false := by simp; omega
    go_enter Try.func10, Try.ntmps10
    go_wp2_with fail
    refine (behind_any A n c b _ (by omega) HB.out hc hrb).mono ?_
    rintro e' w1 ⟨v1, rfl, ho1, hb1⟩
    obtain ⟨A1, c1, rfl, hc1, hr1⟩ := ho1.form
    clear ho1 hc1
    have hrb1 := hrb.below hb1
    have hrm1 := hrm.below hb1
    have hro1 := hro.below hb1
    have hz1 := hb1.size
    go_wp2_with (first
      | (at_builtin; refine wpList_append_B rfl (.tmp 31) (.tmp 32) rfl w1.heap.size _ [] rfl (OB.lit w1 w1.heap.size [] _ (by simp [cellsB]) (Nat.le_refl _) (by simp [maxLen])) _ _ _ b rfl HB.out (hrb1.alloc _) (by simp; omega) (by simp) ?_; intro v2 w2 hown2 hb2; have hz2 : w1.heap.size + 1 ≤ w2.heap.size := (by have := hb2.size; simpa using this); have hB2 : Below w1.heap.size w1 w2 := ((Below.refl _ _).alloc (Nat.le_refl _) _).trans hb2)
      | (at_builtin; refine wpList_append_B rfl (.tmp 33) (.tmp 34) rfl w1.heap.size _ b rfl hown2 _ _ _ more rfl HM.out (hrm1.below hB2) (by rw [HB.out]; omega) (by omega) ?_; intro v3 w3 hown3 hb3; have hB3 : Below w1.heap.size w1 w3 := hB2.trans hb3))
    obtain ⟨A3, c3, rfl, hc3, hr3⟩ := hown3.form
    have hN0 : (b ++ more).length ≤ 200 := by rw [List.length_append, HB.out, HM.out]; omega
    generalize hN : (b ++ more).length = N at *
    have HN3 := Lib.hid hN
    clear hN
    clear hown2 hb2 hz2 hB2 hb3 hown3
    have hr4 := hr1.below hB3
    have hr5 := hr3
    have HB4 := Lib.hid (hb1.trans (hB3.mono hz1))
    clear hr1 hr3 hB3 hb1 hrb1 hrm1 hro1
    go_quiet (fail)
    have HG := Lib.hid (show ¬ begins o b from by
      rintro ⟨h, _⟩
      rw [HB.out, HO.out] at h
      exact absurd h hle)
    have hr4 := hr4.drewN nq
    have hr5 := hr5.drewN nq
    have HB4 := Lib.hid (show Below w.heap.size w (w3.drewN nq) from ⟨HB4.out.os, HB4.out.tape, HB4.out.output, HB4.out.size, HB4.out.block⟩)
    generalize w3.drewN nq = W4 at *
    have hB4 : Below w.heap.size w W4 := HB4.out
    have hrb4 := hrb.below hB4
    have hro4 := hro.below hB4
    have hz4 := hB4.size
    clear hrb hrm hro
    rcases hx : behB b with _ | x
    · have HN := Lib.hid (behF_none ((behB_F b).symm.trans hx) o)
      simp only [hx, Option.isSome_none, Option.getD_none] at hr4 ⊢
      clear hx
      have hneg : cmpB o b < 0 := HN.out.resolve_left HG.out
      go_wp2_with fail
      refine (compare_below C A k e n c o b _ (by omega) (by omega) HO.out HB.out hro4 hrb4).mono ?_
      rintro e w5 ⟨rfl, hb5⟩
      have hB5 : Below w.heap.size w w5 := hB4.trans (hb5.mono hz4)
      go_wp2_with (go_at_call 11; refine (awake_any _).mono ?_; rintro e w6 ⟨rfl, hb6⟩)
      go_ret
      exact ⟨rfl, hB5.trans (hb6.mono hB5.size)⟩
    · have hF := (behB_F b).symm.trans hx
      simp only [hx, Option.isSome_some, Option.getD_some] at hr4 ⊢
      have HL := Lib.hid (behF_long hF more)
      have HW := Lib.hid (behF_between hF o)
      have hxl : x.length ≤ 100 := by
        have := behF_len hF
        rw [HB.out] at this
        omega
      clear hx hF
      have hlong : cmpB (b ++ more) x < 0 := HL.out
      by_cases hc1' : 0 ≤ cmpB o b
      · by_cases hc2' : cmpB o x < 0
        · exact absurd (HW.out.1 ⟨hc1', hc2'⟩) HG.out
        · have hd2 : decide (cmpB o x < 0) = false := by simpa using hc2'
          go_wp2_with fail
          refine (compare_below C A k e n c o b _ (by omega) (by omega) HO.out HB.out hro4 hrb4).mono ?_
          rintro e w5 ⟨rfl, hb5⟩
          go_wp2_with fail
          refine (compare_below C A1 k e x.length c1 o x _ (by omega) (by omega) HO.out rfl (hro4.below hb5) (hr4.below hb5)).mono ?_
          rintro e w6 ⟨rfl, hb6⟩
          go_wp2_with fail
          refine (compare_below A3 A1 N c3 x.length c1 (b ++ more) x _ (by omega) (by omega) HN3.out rfl ((hr5.below hb5).below hb6) ((hr4.below hb5).below hb6)).mono ?_
          rintro e w7 ⟨rfl, hb7⟩
          have hB5 : Below w.heap.size w w7 := ((hB4.trans (hb5.mono hz4)).trans (hb6.mono (Nat.le_trans hz4 hb5.size))).trans (hb7.mono (Nat.le_trans (Nat.le_trans hz4 hb5.size) hb6.size))
          go_wp2_with (go_at_call 11; refine (awake_any _).mono ?_; rintro e w8 ⟨rfl, hb8⟩)
          go_ret
          exact ⟨rfl, hB5.trans (hb8.mono hB5.size)⟩
      · go_wp2_with fail
        refine (compare_below C A k e n c o b _ (by omega) (by omega) HO.out HB.out hro4 hrb4).mono ?_
        rintro e w5 ⟨rfl, hb5⟩
        go_wp2_with fail
        refine (compare_below A3 A1 N c3 x.length c1 (b ++ more) x _ (by omega) (by omega) HN3.out rfl (hr5.below hb5) (hr4.below hb5)).mono ?_
        rintro e w7 ⟨rfl, hb7⟩
        have hB5 : Below w.heap.size w w7 := (hB4.trans (hb5.mono hz4)).trans (hb7.mono (Nat.le_trans hz4 hb5.size))
        go_wp2_with (go_at_call 11; refine (awake_any _).mono ?_; rintro e w8 ⟨rfl, hb8⟩)
        go_ret
        exact ⟨rfl, hB5.trans (hb8.mono hB5.size)⟩

end Go.Proofs.Ytgjahlknefobeaa.ordkeyBehind
