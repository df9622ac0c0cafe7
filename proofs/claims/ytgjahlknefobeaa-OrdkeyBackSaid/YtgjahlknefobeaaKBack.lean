/- The walk of the law OrdkeyBack out of the contracts. -/
import Derived.Test.YtgjahlknefobeaaReg
import Derived.Deep.RegionWith
import Derived.Deep.RegionLaw
import Derived.Deep.RegionHeld3
import Derived.OrdersHeld
import Derived.Deep.QuietTactic
import Derived.BigQuiet
import Derived.Test.YtgjahlknefobeaaPlainL
namespace Go.Proofs.Ytgjahlknefobeaa.ordkeyBack
open Go.RowKit
set_option linter.unusedVariables false

theorem str_data (s : ByteArray) : str s.data.toList = s := by simp [str]

set_option maxRecDepth 100000 in
set_option maxHeartbeats 3200000 in
theorem core (s : ByteArray) (z : Nat) (B : Option Addr) (m d : Nat) (more : List UInt8) (w : World) (hs : s.size ≤ maxLen) (hz : z < 18446744073709551616) (hm : more.length = m) (hrm : RB w B more) :
    Calls Try.prog 9 #[.string s, .int .u64 z, .slice B m d] w fun e w' => e = .returned (.bool true) ∧ Below w.heap.size w w' := by
  have HM := Lib.hid hm
  clear hm
  unfold maxLen at hs
  by_cases h1 : 200 < s.size
  · go_enter Try.func9, Try.ntmps9
    go_wp2_with (go_at_call 11; refine (awake_any _).mono ?_; rintro e w1 ⟨rfl, hb1⟩)
    go_ret
    exact ⟨rfl, hb1⟩
  by_cases h2 : 100 < m
  · go_enter Try.func9, Try.ntmps9
    go_wp2_with (go_at_call 11; refine (awake_any _).mono ?_; rintro e w1 ⟨rfl, hb1⟩)
    go_ret
    exact ⟨rfl, hb1⟩
  have hq1 : -9223372036854775808 ≤ wrap64 z := by unfold wrap64; omega
  have hq2 : wrap64 z < 9223372036854775808 := by unfold wrap64; omega
  have hpl := putText_len s.data.toList
  have hrl := putSmall_len z
  have htl := putInt_len (wrap64 z)
  have hw8 := wid_le8 z hz
  have HP1 := Lib.hid (getText_put s.data.toList more)
  have HP2 := Lib.hid (getText_cut s.data.toList)
  have HR1 := Lib.hid (getSmall_put z more hz)
  have HR2 := Lib.hid (getSmall_cut z hz)
  have HT1 := Lib.hid (getInt_put (wrap64 z) more hq1 hq2)
  have C14 := Lib.hid (putText_any s)
  have C22 := Lib.hid (putSmall_any z)
  have C18 := Lib.hid (putInt_any (wrap64 z))
  have hsl : s.data.toList.length = s.size := by simp
  rw [hsl] at hpl
  generalize putText s.data.toList = p at *
  generalize putSmall z = r at *
  generalize putInt (wrap64 z) = t at *
  have hp1 : 2 ≤ p.length := hpl.1
  have hp2 : p.length ≤ 402 := by omega
  have hr1 : 1 ≤ r.length := by omega
  have hr2 : r.length ≤ 9 := by omega
  have HTN := Lib.hid htl
  have HSL := Lib.hid (str_data s)
  clear htl hrl hpl hsl
  go_enter Try.func9, Try.ntmps9
  go_wp2_with fail
  refine (C14.out _ (by omega)).mono ?_
  rintro e w1 ⟨v1, rfl, ho1, hb1⟩
  obtain ⟨A1, c1, rfl, hc1, hx1⟩ := ho1.form
  clear ho1
  go_wp2_with fail
  refine (C22.out _ hz).mono ?_
  rintro e w2 ⟨v2, rfl, ho2, hb2⟩
  obtain ⟨A2, c2, rfl, hc2, hx2⟩ := ho2.form
  clear ho2
  have hx1 := hx1.below hb2
  go_wp2_with fail
  refine (C18.out _ hq1 hq2).mono ?_
  rintro e w3 ⟨v3, rfl, ho3, hb3⟩
  obtain ⟨A3, c3, rfl, hc3, hx3⟩ := ho3.form
  rw [HTN.out] at hc3 ⊢
  clear ho3
  have hx1 := hx1.below hb3
  have hx2 := hx2.below hb3
  have hB3 : Below w.heap.size w w3 := (hb1.trans (hb2.mono hb1.size)).trans (hb3.mono (Nat.le_trans hb1.size hb2.size))
  have hrm := hrm.below hB3
  have hz3 := hB3.size
  clear hb1 hb2 hb3
  go_wp2_with (first
    | (at_builtin; refine wpList_append_B rfl (.tmp 55) (.tmp 56) rfl w3.heap.size _ [] rfl (OB.lit w3 w3.heap.size [] _ (by simp [cellsB]) (Nat.le_refl _) (by simp [maxLen])) _ _ _ p rfl rfl (hx1.alloc _) (by simp only [List.length_nil]; omega) (by simp) ?_; intro v4 w4 hown4 hb4; have hz4 : w3.heap.size + 1 ≤ w4.heap.size := (by have := hb4.size; simpa using this); have hB4 : Below w3.heap.size w3 w4 := ((Below.refl _ _).alloc (Nat.le_refl _) _).trans hb4)
    | (at_builtin; refine wpList_append_B rfl (.tmp 57) (.tmp 58) rfl w3.heap.size _ p rfl hown4 _ _ _ more rfl HM.out (hrm.below hB4) (by omega) (by omega) ?_; intro v5 w5 hown5 hb5; have hB5 : Below w3.heap.size w3 w5 := hB4.trans hb5; obtain ⟨A5, c5, rfl, hc5, hx5⟩ := hown5.form)
    | fail)
  refine (getText_any A5 (p.length + more.length) c5 (p ++ more) _ (by rw [HM.out]; omega) (by simp) hx5).mono ?_
  rw [HP1.out, HSL.out]
  rintro e w6 ⟨rfl, hb6⟩
  have hB6 : Below w3.heap.size w3 w6 := hB5.trans (hb6.mono hB5.size)
  clear hown4 hb4 hz4 hB4 hown5 hb5 hB5 hc5 hx5 hb6
  have hx1 := hx1.below hB6
  have hx2 := hx2.below hB6
  have hx3 := hx3.below hB6
  have hrm := hrm.below hB6
  have hB6' : Below w.heap.size w w6 := hB3.trans (hB6.mono hz3)
  clear hB3 hz3 hB6
  go_wp2_with (first
    | (at_builtin; refine wpList_append_B rfl (.tmp 65) (.tmp 66) rfl w6.heap.size _ [] rfl (OB.lit w6 w6.heap.size [] _ (by simp [cellsB]) (Nat.le_refl _) (by simp [maxLen])) _ _ _ r rfl rfl (hx2.alloc _) (by simp only [List.length_nil]; omega) (by simp) ?_; intro v7 w7 hown7 hb7; have hz7 : w6.heap.size + 1 ≤ w7.heap.size := (by have := hb7.size; simpa using this); have hB7 : Below w6.heap.size w6 w7 := ((Below.refl _ _).alloc (Nat.le_refl _) _).trans hb7)
    | (at_builtin; refine wpList_append_B rfl (.tmp 67) (.tmp 68) rfl w6.heap.size _ r rfl hown7 _ _ _ more rfl HM.out (hrm.below hB7) (by rw [show r.length = r.length from rfl]; omega) (by omega) ?_; intro v8 w8 hown8 hb8; have hB8 : Below w6.heap.size w6 w8 := hB7.trans hb8; obtain ⟨A8, c8, rfl, hc8, hx8⟩ := hown8.form)
    | fail)
  refine (getSmall_any A8 (r.length + more.length) c8 (r ++ more) _ (by rw [HM.out]; omega) (by simp) (by simpa using hc8) hx8).mono ?_
  rw [HR1.out]
  rintro e w9 ⟨rfl, rfl⟩
  have hx1 := hx1.below hB8
  have hx2 := hx2.below hB8
  have hx3 := hx3.below hB8
  have hrm := hrm.below hB8
  have hB9' : Below w.heap.size w w8 := hB6'.trans (hB8.mono hB6'.size)
  clear hown7 hb7 hz7 hB7 hown8 hb8 hB8 hc8 hx8 hB6'
  go_wp2_with (first
    | (at_builtin; refine wpList_append_B rfl (.tmp 75) (.tmp 76) rfl w8.heap.size _ [] rfl (OB.lit w8 w8.heap.size [] _ (by simp [cellsB]) (Nat.le_refl _) (by simp [maxLen])) _ _ _ t rfl HTN.out (hx3.alloc _) (by simp only [List.length_nil]; omega) (by simp) ?_; intro v10 w10 hown10 hb10; have hz10 : w8.heap.size + 1 ≤ w10.heap.size := (by have := hb10.size; simpa using this); have hB10 : Below w8.heap.size w8 w10 := ((Below.refl _ _).alloc (Nat.le_refl _) _).trans hb10)
    | (at_builtin; refine wpList_append_B rfl (.tmp 77) (.tmp 78) rfl w8.heap.size _ t rfl hown10 _ _ _ more rfl HM.out (hrm.below hB10) (by rw [HTN.out]; omega) (by omega) ?_; intro v11 w11 hown11 hb11; have hB11 : Below w8.heap.size w8 w11 := hB10.trans hb11; obtain ⟨A11, c11, rfl, hc11, hx11⟩ := hown11.form)
    | fail)
  refine (getInt_any A11 (t.length + more.length) c11 (t ++ more) _ (by simp) (by simpa using hc11) hx11).mono ?_
  rw [HT1.out]
  rintro e w12 ⟨rfl, rfl⟩
  have hx1 := hx1.below hB11
  have hx2 := hx2.below hB11
  have hB12 : Below w.heap.size w w11 := hB9'.trans (hB11.mono hB9'.size)
  clear hown10 hb10 hz10 hB10 hown11 hb11 hB11 hc11 hx11 hB9' hx3 hrm
  have HPT := Lib.hid (show (p.take (p.length - 1)).length = p.length - 1 from by rw [List.length_take]; omega)
  have HRT := Lib.hid (show (r.take (r.length - 1)).length = r.length - 1 from by rw [List.length_take]; omega)
  go_wp2_with fail
  refine (getText_any A1 (p.length - 1) c1 (p.take (p.length - 1)) _ (by omega) HPT.out (hx1.take _)).mono ?_
  rw [HP2.out]
  rintro e w13 ⟨rfl, hb13⟩
  have hx2 := hx2.below hb13
  have hB13 : Below w.heap.size w w13 := hB12.trans (hb13.mono hB12.size)
  clear hB12 hb13 hx1
  go_wp2_with fail
  refine (getSmall_any A2 (r.length - 1) c2 (r.take (r.length - 1)) _ (by omega) HRT.out (by omega) (hx2.take _)).mono ?_
  rw [HR2.out]
  generalize (getSmall (r.take (r.length - 1))).1 = y1
  generalize (getSmall (r.take (r.length - 1))).2.1 = y2
  rintro e w14 ⟨rfl, rfl⟩
  go_wp2_with fail
  refine (awake_any _).mono ?_
  rintro e w15 ⟨rfl, hb15⟩
  go_wp2
  go_ret
  exact ⟨rfl, hB13.trans (hb15.mono hB13.size)⟩

end Go.Proofs.Ytgjahlknefobeaa.ordkeyBack
