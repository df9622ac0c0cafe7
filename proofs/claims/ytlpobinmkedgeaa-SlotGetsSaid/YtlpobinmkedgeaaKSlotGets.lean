/- The walk of the law SlotGets. -/
import Derived.Test.YtlpobinmkedgeaaSlK
import Derived.Test.YtlpobinmkedgeaaSlV
namespace Go.Proofs.Ytlpobinmkedgeaa
open Go.RowKit
set_option linter.unusedVariables false
set_option linter.unusedSimpArgs false
set_option maxHeartbeats 4000000 in
set_option maxRecDepth 100000 in
theorem slotGets_core (A : Option Addr) (n c : Nat) (L : List (List UInt8)) (w : World) (hl : L.length = n) (hn : n ≤ c) (hc : c ≤ maxLen) (hr : RBS w A L) :
    Calls Try.prog 4 #[.slice A n c] w fun e w' => e = .returned (.bool true) ∧ Below w.heap.size w w' := by
  have KA := Lib.hid (fun W => awake_any W)
  have HR := Lib.hid hr
  have HL := Lib.hid hl
  have hc0 := hc
  unfold maxLen at hc0
  rcases light_any A n c L w hl hn hc hr with ⟨_, KL⟩ | ⟨_, KL⟩
  · have KL := Lib.hid KL
    have K1 := Lib.hid (show Calls Try.prog 12 #[.slice A n c] w fun e w' => ∃ v, e = .returned (.tuple #[.int .i64 (getG L : Int), v, .int .i64 (getE L : Int)]) ∧ OB w.heap.size w' v (getB L) ∧ Below w.heap.size w w' from get_any A n c L w hl hn hc hr)
    have K2 := Lib.hid (fun U (h : Below w.heap.size w U) => (show Calls Try.prog 13 #[.slice A n c] U fun e w' => ∃ v, e = .returned (.tuple #[.int .i64 (getG L : Int), v, .int .i64 (getE L : Int)]) ∧ OB U.heap.size w' v (getB L) ∧ Below U.heap.size U w' from refGet_any A n c L U hl hn hc (hr.below h)))
    have K3 := Lib.hid (fun U (h : Below w.heap.size w U) => seen_any A n c L U hl hn hc (hr.below h))
    have K4 := Lib.hid (fun U (h : Below w.heap.size w U) => refSeen_any A n c L U hl hn hc (hr.below h))
    generalize getG L = G at *
    generalize getE L = E at *
    generalize getB L = Bd at *
    generalize seenP L = sn at *
    obtain ⟨bl, hbl⟩ : ∃ bl, bl = Bd.length := ⟨_, rfl⟩
    have HBL := Lib.hid hbl
    clear hl hr hc hbl
    go_enter Try.func4, Try.ntmps4
    go_upto_region 5 with (first
      | (go_at_call 11; refine KL.out.mono ?_; rintro e w' ⟨rfl, rfl⟩)
      | (go_at_call 12; refine K1.out.mono ?_; rintro e w1 ⟨v1, rfl, o1, b1⟩; obtain ⟨A1, c1, rfl, _, r1⟩ := o1.form; rw [← HBL.out]; have B1 := Lib.hid b1; have R1 := Lib.hid r1; clear o1 b1 r1)
      | (go_at_call 13; refine (K2.out _ B1.out).mono ?_; rintro e w2 ⟨v2, rfl, o2, b2⟩; obtain ⟨A2, c2, rfl, _, r2⟩ := o2.form; rw [← HBL.out]; have B2 := Lib.hid (B1.out.trans (b2.mono B1.out.size)); have R2 := Lib.hid r2; have R1' := Lib.hid (R1.out.below b2); clear o2 b2 r2)
      | fail)
    go_wp2
    go_loopw [9, 10, 11, 12, 13] (fun i _ _ _ _ wr => ∃ k : Nat, k ≤ n ∧ i = .int .i64 k ∧ Below w2.heap.size w2 wr) (fun i _ _ _ _ _ => n - (intOf i).toNat)
    case atStart => exact ⟨0, Nat.zero_le _, rfl, Below.refl _ _⟩
    case round =>
      obtain ⟨k, hk, rfl, hB⟩ := hrel
      by_cases hlt : k < n
      · obtain ⟨l, hl⟩ : ∃ l, L[k]? = some l := ⟨L[k]'(by rw [HL.out]; omega), List.getElem?_eq_getElem _⟩
        obtain ⟨ad, hA⟩ := HR.out.some_of (by rw [HL.out]; omega)
        subst hA
        obtain ⟨B, cb, y0, y1, y2, y3⟩ := (HR.out.below (B2.out.trans (hB.mono B2.out.size))).at hl
        have KS := Lib.hid (stamp_any B l.length cb l wr rfl y1 y2 y3)
        have KR := Lib.hid (fun U (h : Below wr.heap.size wr U) => refStamp_any B l.length cb l U rfl y1 y2 (y3.below h))
        have YC := Lib.hid (show ∀ U, Below wr.heap.size wr U → U.cell? (ad.add k) = some (.slice B l.length cb) from fun U h => (h.cell (lt_of_cell y0)).trans y0)
        have HB := Lib.hid hB
        generalize stampP l = sp at *
        generalize l.length = nl at *
        clear hl y1 y2 y3 hB
        cases hok : okP l
        all_goals
          rw [hok] at KS KR
          clear hok
          go_wp2_with (first
            | (go_at_call 14; refine KS.out.mono ?_; rintro e w3 ⟨rfl, b3⟩; have y03 := YC.out w3 b3; have D3 := Lib.hid b3; have B3 := Lib.hid (HB.out.trans (b3.mono HB.out.size)); clear b3)
            | (go_at_call 15; refine (KR.out _ D3.out).mono ?_; rintro e w4 ⟨rfl, b4⟩; have B4 := Lib.hid (B3.out.trans (b4.mono B3.out.size)); clear b4)
            | fail)
          go_roundw
          case rel => exact ⟨k + 1, by omega, by go_num, B4.out⟩
          case measure => simp [intOf]; omega
      · obtain rfl : k = n := by omega
        have D5 := Lib.hid (B2.out.trans (hB.mono B2.out.size))
        have hs1 := run_str wr A1 bl c1 Bd HBL.out.symm (R1'.out.below hB)
        have hs2 := run_str wr A2 bl c2 Bd HBL.out.symm (R2.out.below hB)
        have hss : ((str Bd).toList == (str Bd).toList) = true := by simp
        clear hB K1 K2 R1 R1' R2 HR
        go_wp2_with (first
          | (go_at_call 16; refine (K3.out _ D5.out).mono ?_; rintro e w5 ⟨rfl, b5⟩; have D6 := Lib.hid (D5.out.trans (b5.mono D5.out.size)); clear b5)
          | (go_at_call 17; refine (K4.out _ D6.out).mono ?_; rintro e w6 ⟨rfl, b6⟩; have D7 := Lib.hid (D6.out.trans (b6.mono D6.out.size)); clear b6)
          | (go_at_call 7; refine (KA.out _).mono ?_; rintro e w7 ⟨rfl, b7⟩; have D8 := Lib.hid (D7.out.trans (b7.mono D7.out.size)); clear b7)
          | fail)
        go_ret
        exact ⟨rfl, D8.out⟩
  · have KL := Lib.hid KL
    clear hl hr hc
    go_enter Try.func4, Try.ntmps4
    go_wp2_with (first
      | (go_at_call 11; refine KL.out.mono ?_; rintro e w' ⟨rfl, rfl⟩)
      | (go_at_call 7; refine (KA.out _).mono ?_; rintro e w1 ⟨rfl, b1⟩)
      | fail)
    go_ret
    exact ⟨rfl, b1⟩
end Go.Proofs.Ytlpobinmkedgeaa
