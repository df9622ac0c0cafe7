/- The walk of the law WalsecReads. -/
import Derived.Test.YtkfpjbefjflhfaaWsU
namespace Go.Proofs.Ytkfpjbefjflhfaa
open Go.RowKit
set_option linter.unusedVariables false
set_option linter.unusedSimpArgs false
theorem scanK_le (e : Int) : ∀ (L : List (List UInt8)) (a : Nat), (scanK e a L).1.length ≤ 239 * L.length := by
  intro L
  induction L with
  | nil => intro a; simp [scanK]
  | cons b r ih =>
    intro a
    cases h : rdP b e a with
    | none => rw [scanK_none h]; simp
    | some M =>
      rw [scanK_some h]
      have := ih (a + 1)
      have := rdP_len h
      simp
      omega
set_option maxHeartbeats 4000000 in
set_option maxRecDepth 100000 in
theorem walsecReads_core (A : Option Addr) (n c : Nat) (L : List (List UInt8)) (e f : Int) (w : World) (hl : L.length = n) (hc : n ≤ c) (hm : c ≤ maxLen) (hr : RBS w A L) :
    Calls Try.prog 4 #[.slice A n c, .int .i64 e, .int .i64 f] w fun x w' => x = .returned (.bool true) ∧ Below w.heap.size w w' := by
  by_cases hn : n ≤ 12
  case neg =>
    have h1 : (12 : Int) < (n : Int) := by omega
    clear hl hc hm hr
    go_enter Try.func4, Try.ntmps4
    go_wp2_with (go_at_call 8; refine (wsAwake_any _).mono ?_; rintro x w6 ⟨rfl, b6⟩; (have B6 := Lib.hid b6); clear b6)
    go_ret
    exact ⟨rfl, B6.out⟩
  have HL := Lib.hid hl
  have HR := Lib.hid hr
  have KS := Lib.hid (fun W (h : Below w.heap.size w W) => scan_any A n c L e W hl (by omega) (hr.below h))
  have KT := Lib.hid (fun W (h : Below w.heap.size w W) => wsScan_any A n c L e W hl (by omega) (hr.below h))
  have HSL := Lib.hid (show (scanK e 0 L).1.length ≤ 1000000 from by have := scanK_le e L 0; omega)
  have h1 : ¬ (12 : Int) < (n : Int) := by omega
  have ST : Hid (∃ k : Nat, k ≤ n ∧ (Value.int .i64 0) = .int .i64 (k : Int) ∧ Below w.heap.size w w) := Lib.hid ⟨0, Nat.zero_le _, rfl, Below.refl _ _⟩
  clear hl hc hm hr
  go_enter Try.func4, Try.ntmps4
  go_wp2
  go_loopw [7, 8, 9, 10, 11] (fun i _ _ _ _ wr => ∃ k : Nat, k ≤ n ∧ i = .int .i64 (k : Int) ∧ Below w.heap.size w wr) (fun i _ _ _ _ _ => n - (intOf i).toNat)
  case atStart => exact ST.out
  case round =>
    clear ST
    obtain ⟨k, hk, rfl, hB⟩ := hrel
    have HB := Lib.hid hB
    by_cases hlt : k < n
    · obtain ⟨b, hb⟩ : ∃ b, L[k]? = some b := ⟨L[k]'(by rw [HL.out]; exact hlt), List.getElem?_eq_getElem _⟩
      obtain ⟨ad, B, cb, rfl, hcell, h2, h3, h4⟩ := HR.out.below hB k b hb
      have HCE := Lib.hid (fun W (h : Below wr.heap.size wr W) => (h.cell (lt_of_cell hcell)).trans hcell)
      have hlt' : (k : Int) < (n : Int) := by omega
      by_cases hbl : b.length ≤ 300
      · have h5 : ¬ (300 : Int) < (b.length : Int) := by omega
        have KR := Lib.hid (read_any B b.length cb b e f wr rfl h2 h3 h4)
        have KQ := Lib.hid (fun W (h : Below wr.heap.size wr W) => wsRead_any B b.length cb b e f W rfl h2 h3 (h4.below h))
        unfold RdPost at KR KQ
        have HML := Lib.hid (show ((rdP b e f).getD []).length ≤ 1000000 by
          cases h : rdP b e f with
          | none => simp
          | some M => have := rdP_len h; simp; omega)
        generalize (rdP b e f).getD [] = M at *
        generalize hok : (rdP b e f).isSome = ok at *
        have hne : (ok != ok) = false := by simp
        clear hb h2 h3 h4 hB hok
        go_wp2_with (first
          | (go_at_call 14; refine KR.out.mono ?_; rintro x w1 ⟨v1, rfl, o1, b1⟩; obtain ⟨A1, c1, rfl, _, r1, _⟩ := o1.form; (have R1 := Lib.hid r1); (have B1 := Lib.hid b1); (have hce1 := HCE.out _ b1); clear o1 r1 b1)
          | (go_at_call 15; refine (KQ.out _ B1.out).mono ?_; rintro x w2 ⟨v2, rfl, o2, b2⟩; obtain ⟨A2, c2, rfl, _, r2, _⟩ := o2.form; (have R2 := Lib.hid r2); (have R12 := Lib.hid (R1.out.below b2)); (have B2 := Lib.hid (B1.out.trans (b2.mono B1.out.size))); clear o2 r2 b2)
          | (go_at_call 16; refine (wsSame_any A1 A2 M.length c1 M.length c2 M M w2 rfl rfl HML.out R12.out R2.out).mono ?_; rintro x w3 ⟨rfl, b3⟩; rw [decide_eq_true rfl]; (have B3 := Lib.hid (HB.out.trans ((B2.out.trans (b3.mono B2.out.size)).mono HB.out.size))); clear b3))
        go_roundw
        case rel => exact ⟨k + 1, by omega, by go_num, B3.out⟩
        case measure => simp [intOf]; omega
      · have h5 : (300 : Int) < (b.length : Int) := by omega
        clear hb h2 h3 h4 hB
        go_wp2_with (go_at_call 8; refine (wsAwake_any _).mono ?_; rintro x w6 ⟨rfl, b6⟩; (have B6 := Lib.hid (HB.out.trans (b6.mono HB.out.size))); clear b6)
        go_ret
        exact ⟨rfl, B6.out⟩
    · obtain rfl : k = n := by omega
      unfold ScanPost at KS KT
      generalize (scanK e 0 L).1 = M at *
      generalize (scanK e 0 L).2 = N at *
      have hNN : ((N : Int) == (N : Int)) = true := by simp
      clear hB
      go_wp2_with (first
        | (go_at_call 17; refine (KS.out _ HB.out).mono ?_; rintro x w1 ⟨v1, rfl, o1, b1⟩; obtain ⟨A1, c1, rfl, _, r1, _⟩ := o1.form; (have R1 := Lib.hid r1); (have B1 := Lib.hid (HB.out.trans (b1.mono HB.out.size))); clear o1 r1 b1)
        | (go_at_call 18; refine (KT.out _ B1.out).mono ?_; rintro x w2 ⟨v2, rfl, o2, b2⟩; obtain ⟨A2, c2, rfl, _, r2, _⟩ := o2.form; (have R2 := Lib.hid r2); (have R12 := Lib.hid (R1.out.below b2)); (have B2 := Lib.hid (B1.out.trans (b2.mono B1.out.size))); clear o2 r2 b2)
        | (go_at_call 16; refine (wsSame_any A1 A2 M.length c1 M.length c2 M M w2 rfl rfl HSL.out R12.out R2.out).mono ?_; rintro x w3 ⟨rfl, b3⟩; rw [decide_eq_true rfl]; (have B3 := Lib.hid (B2.out.trans (b3.mono B2.out.size))); clear b3)
        | (go_at_call 8; refine (wsAwake_any _).mono ?_; rintro x w6 ⟨rfl, b6⟩; (have B6 := Lib.hid (B3.out.trans (b6.mono B3.out.size))); clear b6))
      go_ret
      exact ⟨rfl, B6.out⟩
end Go.Proofs.Ytkfpjbefjflhfaa
