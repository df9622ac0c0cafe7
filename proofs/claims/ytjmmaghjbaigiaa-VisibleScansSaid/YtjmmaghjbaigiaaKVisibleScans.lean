/- The walk of the law VisibleScans. -/
import Derived.Test.YtjmmaghjbaigiaaVbZ
import Derived.Test.YtjmmaghjbaigiaaVsS
import Derived.Deep.DeepMust
namespace Go.Proofs.Ytjmmaghjbaigiaa
open Go.RowKit
set_option linter.unusedVariables false
set_option linter.unusedSimpArgs false
set_option maxHeartbeats 2000000 in
set_option maxRecDepth 100000 in
theorem visibleScans_core (A : Option Addr) (n c : Nat) (ls : List Stt) (me t : Int) (w : World) (hl : ls.length = n) (hn : n ≤ maxLen) (hr : RG KSt w A ls) :
    Calls Try.prog 5 #[.slice A n c, .int .i64 me, .int .i64 t] w fun e w' => e = .returned (.bool true) ∧ Below w.heap.size w w' := by
  have KA := Lib.hid (fun W => vbAwake_any W)
  by_cases h20 : n ≤ 20
  · have d20 : decide ((20 : Int) < (n : Int)) = false := by simp; omega
    have HL := Lib.hid hl
    have HR := Lib.hid (fun W (h : Below w.heap.size w W) => hr.below h)
    clear hl hr hn
    go_enter Try.func5, Try.ntmps5
    go_wp2
    clear d20
    go_loopw [7] (fun i wr => ∃ k : Nat, k ≤ n ∧ i = .int .i64 (k : Int) ∧ (∀ (j : Nat) (x : Stt), j < k → ls[j]? = some x → x.2.length ≤ 12) ∧ Below w.heap.size w wr) (fun i _ => n - (intOf i).toNat)
    case atStart => exact ⟨0, Nat.zero_le _, rfl, fun j x hj => by omega, Below.refl _ _⟩
    case round =>
      obtain ⟨k, hk, rfl, hf, hb⟩ := hrel
      have HA := Lib.hid hf
      by_cases hlt : k < n
      · obtain ⟨x, hx⟩ : ∃ x, ls[k]? = some x := ⟨ls[k]'(by rw [HL.out]; exact hlt), List.getElem?_eq_getElem _⟩
        obtain ⟨ad, B, d, rfl, c0, c1, hd1, hd2, hrb⟩ := (HR.out _ hb).stk hx
        have HX := Lib.hid hx
        have HB := Lib.hid hb
        obtain ⟨m, hm⟩ : ∃ m, m = x.2.length := ⟨_, rfl⟩
        rw [← hm] at c1
        have KL := Lib.hid (fun W (h : Below wr.heap.size wr W) => vsLight_any (str x.1) B m d x.2 W hm.symm (by omega) (hrb.below h))
        generalize str x.1 = key at c0 KL
        cases hg : vsLight key x.2 with
        | false =>
          rw [hg] at KL
          clear hx hf hb hd1 hd2 hrb hm hg
          go_wp2_with (first
            | (go_at_call 8; refine (KL.out _ (Below.refl _ _)).mono ?_; rintro e w1 ⟨rfl, b1⟩; have HB := Lib.hid (HB.out.trans (b1.mono HB.out.size)); clear b1)
            | (go_at_call 23; refine (KA.out _).mono ?_; rintro e w2 ⟨rfl, b1⟩; have HB := Lib.hid (HB.out.trans (b1.mono HB.out.size)); clear b1)
            | fail)
          go_ret
          exact ⟨rfl, HB.out⟩
        | true =>
          rw [hg] at KL
          have H12 := Lib.hid (vsLight_at hg).2.1
          clear hx hf hb hd1 hd2 hrb hm hg
          go_wp2_with (first
            | (go_at_call 8; refine (KL.out _ (Below.refl _ _)).mono ?_; rintro e w1 ⟨rfl, b1⟩; have HB := Lib.hid (HB.out.trans (b1.mono HB.out.size)); clear b1)
            | fail)
          go_round
          case rel => exact ⟨k + 1, by omega, by go_num, fun j v hj hv => by
            by_cases e : j = k
            · subst e
              rw [HX.out] at hv
              injection hv with hv
              rw [← hv]; exact H12.out
            · exact HA.out j v (by omega) hv, HB.out⟩
          case measure => simp [intOf]; omega
      · obtain rfl : k = n := by omega
        have HB := Lib.hid hb
        have HS : Hid (∀ x ∈ ls, x.2.length ≤ 1000) := Lib.hid (fun x hx => by
          obtain ⟨j, hj, e⟩ := List.getElem_of_mem hx
          have := hf j x (by rw [← HL.out]; exact hj) (by rw [← e]; exact List.getElem?_eq_getElem hj)
          omega)
        have K1 := Lib.hid (fun W (h : Below w.heap.size w W) => vbScan_any A k c ls me t W HL.out (by omega) HS.out (HR.out W h))
        have K2 := Lib.hid (fun W (h : Below w.heap.size w W) => refScan13_any A k c ls me t W HL.out (by omega) HS.out (HR.out W h))
        have hsl : (vbScanS ls me t).length ≤ 1000 := by have := vbScanS_len me t ls; have := HL.out; omega
        have HSL := Lib.hid hsl
        clear hf hb hsl
        go_wp2_with (first
          | (go_at_call 25; refine (K1.out _ HB.out).mono ?_; rintro e w1 ⟨v1, rfl, o1, b1⟩; obtain ⟨A1, c1, rfl, _, _, r1, _⟩ := o1.rg; have R1 := Lib.hid r1; have HB := Lib.hid (HB.out.trans (b1.mono HB.out.size)); clear b1 o1 r1)
          | (go_at_call 26; refine (K2.out _ HB.out).mono ?_; rintro e w2 ⟨v2, rfl, o2, b1⟩; obtain ⟨A2, c2, rfl, _, _, r2, _⟩ := o2.rg; have R1 := Lib.hid (R1.out.below b1); have R2 := Lib.hid r2; have HB := Lib.hid (HB.out.trans (b1.mono HB.out.size)); clear b1 o2 r2)
          | (go_at_call 24; refine (refSamePairs_any _ _ _ _ _ (vbScanS ls me t) _ rfl HSL.out R1.out R2.out).mono ?_; rintro e w3 ⟨rfl, b1⟩; have HB := Lib.hid (HB.out.trans (b1.mono HB.out.size)); clear b1)
          | (go_at_call 23; refine (KA.out _).mono ?_; rintro e w4 ⟨rfl, b1⟩; have HB := Lib.hid (HB.out.trans (b1.mono HB.out.size)); clear b1)
          | fail)
        go_ret
        exact ⟨rfl, HB.out⟩
  · have d20 : decide ((20 : Int) < (n : Int)) = true := by simp; omega
    clear hl hr hn h20
    go_enter Try.func5, Try.ntmps5
    go_wp2_with (go_at_call 23; refine (KA.out _).mono ?_; rintro e w4 ⟨rfl, b1⟩; have HB := Lib.hid b1; clear b1)
    go_ret
    exact ⟨rfl, HB.out⟩
end Go.Proofs.Ytjmmaghjbaigiaa
