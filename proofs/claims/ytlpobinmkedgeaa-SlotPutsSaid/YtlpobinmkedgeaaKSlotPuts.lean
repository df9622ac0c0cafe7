/- The walk of the law SlotPuts. -/
import Derived.Test.YtlpobinmkedgeaaSlK
import Derived.Test.YtlpobinmkedgeaaSlT
import Derived.Test.YtlpobinmkedgeaaSlU
namespace Go.Proofs.Ytlpobinmkedgeaa
open Go.RowKit
set_option linter.unusedVariables false
set_option linter.unusedSimpArgs false
set_option maxHeartbeats 2000000 in
set_option maxRecDepth 100000 in
theorem slotPuts_core (g : Int) (A : Option Addr) (n c : Nat) (b : List UInt8) (w : World) (hw : (Lit.int .i64 g).wf = true) (hl : b.length = n) (hn : n ≤ c) (hc : c ≤ maxLen) (hr : RB w A b) :
    Calls Try.prog 3 #[.int .i64 g, .slice A n c] w fun e w' => e = .returned (.bool true) ∧ Below w.heap.size w w' := by
  have hgb := bounds_i64 hw
  unfold maxLen at hc
  have KA := Lib.hid (fun W => awake_any W)
  have HL := Lib.hid hl
  have HR := Lib.hid hr
  clear hl hr hw
  by_cases h1200 : 1200 < n
  · have hd : decide (1200 < (n : Int)) = true := by simp; omega
    go_enter Try.func3, Try.ntmps3
    go_wp2_with (go_at_call 7; refine (KA.out _).mono ?_; rintro e w1 ⟨rfl, b1⟩)
    go_ret
    exact ⟨rfl, b1⟩
  · have hd : decide (1200 < (n : Int)) = false := by simp; omega
    have K0 : Hid (Calls Try.prog 10 #[.slice none 0 0, .slice none 0 0] w fun e w' => e = .returned (.bool true) ∧ Below w.heap.size w w') := Lib.hid (same_any none none 0 0 0 [] w rfl (Nat.le_refl _) (by decide) (Nat.le_refl _) (by decide) RBS.nil RBS.nil)
    by_cases hbad : g < 1 ∨ 1099511627776 < g
    · have K1 := Lib.hid (put_no g A n c w hbad)
      have K2 := Lib.hid (refPut_no g A n c w hbad)
      clear hbad
      go_enter Try.func3, Try.ntmps3
      go_wp2_with (first
        | (go_at_call 8; refine K1.out.mono ?_; rintro e w' ⟨rfl, rfl⟩)
        | (go_at_call 9; refine K2.out.mono ?_; rintro e w' ⟨rfl, rfl⟩)
        | (go_at_call 10; refine K0.out.mono ?_; rintro e w1 ⟨rfl, b1⟩)
        | (go_at_call 7; refine (KA.out _).mono ?_; rintro e w2 ⟨rfl, b2⟩)
        | fail)
      go_ret
      exact ⟨rfl, b1.trans (b2.mono b1.size)⟩
    · have hg1 : 1 ≤ g := by omega
      have hg2 : g ≤ 1099511627776 := by omega
      obtain ⟨q, rfl⟩ := Int.eq_ofNat_of_zero_le (show 0 ≤ g by omega)
      have h1 : 1 ≤ q := by omega
      have h2 : q ≤ 1099511627776 := by omega
      clear hbad hgb
      by_cases h954 : 954 < n
      · have K1 := Lib.hid (put_big (q : Int) A n c w hg1 hg2 h954)
        have K2 := Lib.hid (refPut_big (q : Int) A n c w hg1 hg2 h954)
        clear h954
        go_enter Try.func3, Try.ntmps3
        go_wp2_with (first
          | (go_at_call 8; refine K1.out.mono ?_; rintro e w' ⟨rfl, rfl⟩)
          | (go_at_call 9; refine K2.out.mono ?_; rintro e w' ⟨rfl, rfl⟩)
          | (go_at_call 10; refine K0.out.mono ?_; rintro e w1 ⟨rfl, b1⟩)
          | (go_at_call 7; refine (KA.out _).mono ?_; rintro e w2 ⟨rfl, b2⟩)
          | fail)
        go_ret
        exact ⟨rfl, b1.trans (b2.mono b1.size)⟩
      · have K1 := Lib.hid (put_ok q A n c b w h1 h2 HL.out (by omega) hn HR.out)
        have K2 := Lib.hid (fun U (h : Below w.heap.size w U) => refPut_ok q A n c b U h1 h2 HL.out (by omega) (HR.out.below h))
        have HLN := Lib.hid (putL_len q b)
        generalize putL q b = L at *
        clear h954 K0
        go_enter Try.func3, Try.ntmps3
        go_wp2_with (first
          | (go_at_call 8; refine K1.out.mono ?_; rintro e w1 ⟨ad, rfl, r1, _, b1⟩; have R1 := Lib.hid r1; have B1 := Lib.hid b1; clear r1 b1)
          | (go_at_call 9; refine (K2.out _ B1.out).mono ?_; rintro e w2 ⟨A', c', rfl, hc1, hc2, r2, b2⟩; have K3 := Lib.hid (same_any (some ad) A' 4 4 c' L w2 HLN.out (Nat.le_refl _) (by decide) hc1 hc2 (R1.out.below b2) r2); have B2 := Lib.hid (B1.out.trans (b2.mono B1.out.size)); clear r2 b2)
          | (go_at_call 10; refine K3.out.mono ?_; rintro e w3 ⟨rfl, b3⟩; have B3 := Lib.hid (B2.out.trans (b3.mono B2.out.size)); clear b3)
          | (go_at_call 7; refine (KA.out _).mono ?_; rintro e w4 ⟨rfl, b4⟩; have B4 := Lib.hid (B3.out.trans (b4.mono B3.out.size)); clear b4)
          | fail)
        go_ret
        exact ⟨rfl, B4.out⟩
end Go.Proofs.Ytlpobinmkedgeaa
