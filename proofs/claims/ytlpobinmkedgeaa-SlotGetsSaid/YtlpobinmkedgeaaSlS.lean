/- Slots: the document's Stamp, Light, Seen, and the law's same. -/
import Derived.Test.YtlpobinmkedgeaaSlR
import Derived.Test.YtlpobinmkedgeaaSlI
import Derived.Test.YtlpobinmkedgeaaSlH
import Derived.Deep.QuietTactic
import Derived.BigQuiet
namespace Go.Proofs.Ytlpobinmkedgeaa
open Go.RowKit
set_option linter.unusedVariables false
set_option linter.unusedSimpArgs false
theorem flip_same {P : Program} {f : FuncId} {args : Array Value} {w : World} {r : Ending} (h : Calls P f args w fun e w' => e = r ∧ w = w') : Calls P f args w fun e w' => e = r ∧ w' = w :=
  h.mono fun _ _ h => ⟨h.1, h.2.symm⟩
theorem below_drewN (w : World) (n : Nat) : Below w.heap.size w (w.drewN n) := ⟨rfl, rfl, rfl, Nat.le_refl _, fun _ _ => rfl⟩
theorem add_posS (ad : Addr) (k : Nat) (h : 0 < k) : ad.add k = ⟨ad.block, ad.off + k, none⟩ := by unfold Addr.add; rw [if_neg (by omega)]
theorem genOf_num (l : List UInt8) : (numI l < 1 ∧ genOf l = 0) ∨ (1 ≤ numI l ∧ numI l = (genOf l : Int) ∧ genOf l ≠ 0) := by
  unfold numI genOf maxNum
  by_cases h : be l ≤ 1099511627776
  · rw [if_pos h, if_pos h]; omega
  · rw [if_neg h, if_neg h]; omega
set_option maxHeartbeats 2000000 in
set_option maxRecDepth 100000 in
theorem refStamp_any (A : Option Addr) (n c : Nat) (l : List UInt8) (w : World) (hl : l.length = n) (hn : n ≤ c) (hc : c ≤ maxLen) (hr : RB w A l) :
    Calls Try.prog 15 #[.slice A n c] w fun e w' => e = .returned (.tuple #[.int .i64 (stampP l : Int), .bool (okP l)]) ∧ Below w.heap.size w w' := by
  unfold maxLen at hc
  by_cases h256 : n = 256
  · subst h256
    obtain ⟨ad, rfl⟩ := hr.some_of (by omega)
    have hS : stampP l = if l.take 8 = l.drop 248 then genOf (l.take 8) else 0 := by
      unfold stampP
      simp [hl]
    have ha : (l.take 8).length = 8 := by rw [List.length_take, hl]; rfl
    have hb : (l.drop 248).length = 8 := by rw [List.length_drop, hl]
    have hO : okP l = decide (stampP l ≠ 0) := rfl
    have hR1 := hr.take 8
    have hR2 := hr.drop 248
    rw [add_posS ad 248 (by omega)] at hR2
    generalize okP l = ok at *
    generalize stampP l = sp at *
    generalize l.take 8 = P at *
    generalize l.drop 248 = R at *
    have hg := genOf_num P
    have HS := Lib.hid hS
    have HO := Lib.hid hO
    have HA := Lib.hid ha
    have HR1 := Lib.hid hR1
    have hc1 : (8 : Int) ≤ (c : Int) := by omega
    have hc2 : (248 : Int) ≤ 256 := by omega
    have hc3 : ¬ c = 248 := by omega
    have hs1 : ∀ k, (convert 22 9 (.slice (some ad) 8 c)).run Try.prog (w.drewN k) = .ok (.string (str P)) (w.drewN k) := fun k => run_str _ _ 8 c P ha (hR1.drewN k)
    have hs2 : ∀ k, (convert 22 9 (.slice (some ⟨ad.block, ad.off + 248, none⟩) 8 (c - 248))).run Try.prog (w.drewN k) = .ok (.string (str R)) (w.drewN k) := fun k => run_str _ _ 8 _ R hb (hR2.drewN k)
    have HE := Lib.hid (str_beq P R)
    clear hl hr hS hO hR1 hR2 ha hb
    by_cases hPR : P = R
    · have hbt : ((str P).toList == (str R).toList) = true := by rw [HE.out]; exact decide_eq_true hPR
      have HS2 := Lib.hid (HS.out.trans (if_pos hPR))
      clear HE hPR HS
      generalize genOf P = gp at *
      have HN := Lib.hid (fun k => number_any (some ad) c P (w.drewN k) HA.out (by omega) (HR1.out.drewN k))
      rcases hg with ⟨h1, h2⟩ | ⟨h1, h2, h3⟩
      · go_enter Try.func15, Try.ntmps15
        go_upto_region 1 with (fail)
        go_quiet ((go_at_call 28; exact Calls.quiet_of_same (flip_same (HN.out _))))
        go_wp2
        go_ret2
        exact ⟨by rw [HO.out, HS2.out, h2]; rfl, below_drewN w _⟩
      · obtain ⟨q, hq⟩ : ∃ q, q = numI P := ⟨_, rfl⟩
        rw [← hq] at h1 h2 HN
        have H3 := Lib.hid h3
        have hd : decide (q < 1) = false := by simp; omega
        have h2 : q = (gp : Int) := h2
        subst h2
        clear h3 hq
        go_enter Try.func15, Try.ntmps15
        go_upto_region 1 with (fail)
        go_quiet ((go_at_call 28; exact Calls.quiet_of_same (flip_same (HN.out _))))
        have BW := Lib.hid (below_drewN w nq)
        have HN2 := Lib.hid (HN.out nq)
        clear hs1 hs2 HN
        generalize w.drewN nq = W at *
        go_wp2_with (go_at_call 28; refine HN2.out.mono ?_; rintro e w' ⟨rfl, rfl⟩)
        go_ret2
        exact ⟨by rw [HO.out, HS2.out, decide_eq_true H3.out]; rfl, BW.out⟩
    · have hbt : ((str P).toList == (str R).toList) = false := by rw [HE.out]; exact decide_eq_false hPR
      have HS2 := Lib.hid (HS.out.trans (if_neg hPR))
      clear HE hPR HS hg
      go_enter Try.func15, Try.ntmps15
      go_upto_region 1 with (fail)
      go_quiet (fail)
      go_wp2
      go_ret2
      exact ⟨by rw [HO.out, HS2.out]; rfl, below_drewN w _⟩
  · have HS := Lib.hid (show stampP l = 0 from by unfold stampP; rw [if_neg]; rintro ⟨h1, _⟩; omega)
    have HO := Lib.hid (show okP l = decide (stampP l ≠ 0) from rfl)
    generalize okP l = ok at *
    generalize stampP l = sp at *
    have hb : ((n : Int) != 256) = true := by rw [bne_iff_ne]; omega
    clear h256
    go_enter Try.func15, Try.ntmps15
    go_upto_region 1 with (fail)
    go_quiet (fail)
    go_wp2
    go_ret2
    exact ⟨by rw [HO.out, HS.out]; rfl, below_drewN w _⟩
end Go.Proofs.Ytlpobinmkedgeaa
