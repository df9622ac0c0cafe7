/- The walk of the law WalsecPacks. -/
import Derived.Test.YtkfpjbefjflhfaaWsU
namespace Go.Proofs.Ytkfpjbefjflhfaa
open Go.RowKit
set_option linter.unusedVariables false
set_option linter.unusedSimpArgs false
set_option maxHeartbeats 4000000 in
set_option maxRecDepth 100000 in
theorem walsecPacks_core (A : Option Addr) (n c : Nat) (L : List (List UInt8)) (e f : Int) (w : World) (hl : L.length = n) (hc : n ≤ c) (hm : c ≤ maxLen) (hs : ∀ t ∈ L, t.length ≤ maxLen) (hr : RS w A L) :
    Calls Try.prog 3 #[.int .i64 e, .int .i64 f, .slice A n c] w fun x w' => x = .returned (.bool true) ∧ Below w.heap.size w w' := by
  have KL := Lib.hid (wsLight_any A n c L 40 w hl (by omega) hs hr)
  by_cases hL : lightB L 40 = true
  · rw [hL] at KL
    obtain ⟨h40, h300⟩ := lightB_iff.1 hL
    have hn : n ≤ 40 := by omega
    have h1000 : ∀ t ∈ L, t.length ≤ 1000 := fun t ht => Nat.le_trans (h300 t ht) (by omega)
    have KP := Lib.hid (pack_any A n c L e f w hl (by omega) hc hm h1000 hr)
    have KQ := Lib.hid (fun W (h : Below w.heap.size w W) => wsPack_any A n c L e f W hl (by omega) h1000 (hr.below h))
    have KA := Lib.hid (fun W (h : Below w.heap.size w W) => parts_any A n c L W hl (by omega) hc hm h1000 (hr.below h))
    have KB' := Lib.hid (fun W (h : Below w.heap.size w W) => wsParts_any A n c L W hl (by omega) h1000 (hr.below h))
    have hgl := grp_len L
    have HRL := Lib.hid (show (packR e f L).length ≤ 1000000 by
      unfold packR
      split
      · rw [wsSecs_len]; omega
      · simp)
    unfold PackPost at KP KQ
    generalize packE e f L = E at *
    generalize packR e f L = R at *
    generalize (grp L).length = N at *
    have hE : (E == E) = true := by simp
    have hNN : ((N : Int) == (N : Int)) = true := by simp
    clear hL hl hc hm hs hr h300 h1000
    go_enter Try.func3, Try.ntmps3
    go_wp2_with (first
      | (go_at_call 7; refine KL.out.mono ?_; rintro x w1 ⟨rfl, rfl⟩)
      | (go_at_call 9; refine KP.out.mono ?_; rintro x w1 ⟨v1, rfl, o1, b1⟩; obtain ⟨A1, c1, rfl, _, _, r1, _⟩ := o1.rg; (have R1 := Lib.hid r1.rbs); (have B1 := Lib.hid b1); clear o1 r1 b1)
      | (go_at_call 10; refine (KQ.out _ B1.out).mono ?_; rintro x w2 ⟨v2, rfl, o2, b2⟩; obtain ⟨A2, c2, rfl, _, _, r2, _⟩ := o2.rg; (have R2 := Lib.hid r2.rbs); (have R12 := Lib.hid (R1.out.below b2)); (have B2 := Lib.hid (B1.out.trans (b2.mono B1.out.size))); clear o2 r2 b2)
      | (go_at_call 11; refine (wsSameB_any A1 A2 R.length c1 R.length c2 R R w2 rfl rfl HRL.out R12.out R2.out).mono ?_; rintro x w3 ⟨rfl, b3⟩; rw [decide_eq_true rfl]; (have B3 := Lib.hid (B2.out.trans (b3.mono B2.out.size))); clear b3)
      | (go_at_call 12; refine (KA.out _ B3.out).mono ?_; rintro x w4 ⟨rfl, rfl⟩)
      | (go_at_call 13; refine (KB'.out _ B3.out).mono ?_; rintro x w5 ⟨rfl, b5⟩; (have B5 := Lib.hid (B3.out.trans (b5.mono B3.out.size))); clear b5)
      | (go_at_call 8; refine (wsAwake_any _).mono ?_; rintro x w6 ⟨rfl, b6⟩; (have B6 := Lib.hid (B5.out.trans (b6.mono B5.out.size))); clear b6))
    go_ret
    exact ⟨rfl, B6.out⟩
  · have hL' : lightB L 40 = false := by simpa using hL
    rw [hL'] at KL
    clear hL hL' hl hc hm hs hr
    go_enter Try.func3, Try.ntmps3
    go_wp2_with (first
      | (go_at_call 7; refine KL.out.mono ?_; rintro x w1 ⟨rfl, rfl⟩)
      | (go_at_call 8; refine (wsAwake_any _).mono ?_; rintro x w6 ⟨rfl, b6⟩; (have B6 := Lib.hid b6); clear b6))
    go_ret
    exact ⟨rfl, B6.out⟩
end Go.Proofs.Ytkfpjbefjflhfaa
