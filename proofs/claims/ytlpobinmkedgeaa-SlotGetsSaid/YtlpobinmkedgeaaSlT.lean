/- Slots: the document's Light and Seen, and the law's same. -/
import Derived.Test.YtlpobinmkedgeaaSlS
namespace Go.Proofs.Ytlpobinmkedgeaa
open Go.RowKit
set_option linter.unusedVariables false
set_option linter.unusedSimpArgs false
def Few (L : List (List UInt8)) : Prop := L.length ≤ 10 ∧ ∀ b ∈ L, b.length ≤ 300
set_option maxHeartbeats 1000000 in
set_option maxRecDepth 100000 in
theorem light_any (A : Option Addr) (n c : Nat) (L : List (List UInt8)) (w : World) (hl : L.length = n) (hn : n ≤ c) (hc : c ≤ maxLen) (hr : RBS w A L) :
    (Few L ∧ Calls Try.prog 11 #[.slice A n c] w fun e w' => e = .returned (.bool true) ∧ w = w') ∨ (¬ Few L ∧ Calls Try.prog 11 #[.slice A n c] w fun e w' => e = .returned (.bool false) ∧ w = w') := by
  unfold maxLen at hc
  by_cases h10 : n ≤ 10
  · have hd : decide (10 < (n : Int)) = false := by simp; omega
    have HL := Lib.hid hl
    have HR := Lib.hid hr
    by_cases hf : ∀ b ∈ L, b.length ≤ 300
    · left
      refine ⟨⟨by omega, hf⟩, ?_⟩
      have HF := Lib.hid hf
      clear hl hr hf
      go_enter Try.func11, Try.ntmps11
      go_wp2
      go_loop [3] (fun i => ∃ k : Nat, k ≤ n ∧ i = .int .i64 k) (fun i => n - (intOf i).toNat)
      case atStart => exact ⟨0, Nat.zero_le _, rfl⟩
      case round =>
        obtain ⟨k, hk, rfl⟩ := hrel
        by_cases hlt : k < n
        · obtain ⟨b, hb⟩ : ∃ b, L[k]? = some b := ⟨L[k]'(by rw [HL.out]; omega), List.getElem?_eq_getElem _⟩
          obtain ⟨ad, hA⟩ := HR.out.some_of (by rw [HL.out]; omega)
          subst hA
          obtain ⟨B, cb, y0, y1, y2, y3⟩ := HR.out.at hb
          have hle := HF.out b (List.mem_of_getElem? hb)
          have hd2 : decide (300 < (b.length : Int)) = false := by simp; omega
          generalize b.length = nb at *
          clear hb y1 y2 y3
          go_wp2
          go_round
          case rel => exact ⟨k + 1, by omega, by go_num⟩
          case measure => simp [intOf]; omega
        · obtain rfl : k = n := by omega
          go_wp2
          go_ret
          exact ⟨rfl, rfl⟩
    · right
      refine ⟨fun h => hf h.2, ?_⟩
      have HF := Lib.hid hf
      clear hl hr hf
      go_enter Try.func11, Try.ntmps11
      go_wp2
      go_loop [3] (fun i => ∃ k : Nat, k ≤ n ∧ i = .int .i64 k ∧ ∀ b ∈ L.take k, b.length ≤ 300) (fun i => n - (intOf i).toNat)
      case atStart => exact ⟨0, Nat.zero_le _, rfl, fun b hb => by simp at hb⟩
      case round =>
        obtain ⟨k, hk, rfl, hP⟩ := hrel
        by_cases hlt : k < n
        · obtain ⟨b, hb⟩ : ∃ b, L[k]? = some b := ⟨L[k]'(by rw [HL.out]; omega), List.getElem?_eq_getElem _⟩
          obtain ⟨ad, hA⟩ := HR.out.some_of (by rw [HL.out]; omega)
          subst hA
          obtain ⟨B, cb, y0, y1, y2, y3⟩ := HR.out.at hb
          have HT := Lib.hid (show b.length ≤ 300 → ∀ x ∈ L.take (k + 1), x.length ≤ 300 from fun h x hx => by
            rw [List.take_add_one, hb, List.mem_append] at hx
            rcases hx with hx | hx
            · exact hP x hx
            · simp at hx
              subst hx
              exact h)
          generalize b.length = nb at *
          clear hb y1 y2 y3 hP
          by_cases h3 : nb ≤ 300
          · have hd2 : decide (300 < (nb : Int)) = false := by simp; omega
            go_wp2
            go_round
            case rel => exact ⟨k + 1, by omega, by go_num, HT.out h3⟩
            case measure => simp [intOf]; omega
          · have hd2 : decide (300 < (nb : Int)) = true := by simp; omega
            go_wp2
            go_ret
            exact ⟨rfl, rfl⟩
        · obtain rfl : k = n := by omega
          exfalso
          rw [List.take_of_length_le (by rw [HL.out]; exact Nat.le_refl _)] at hP
          exact HF.out hP
  · right
    refine ⟨fun h => h10 (by have := h.1; omega), ?_⟩
    have hd : decide (10 < (n : Int)) = true := by simp; omega
    clear hl hr
    go_enter Try.func11, Try.ntmps11
    go_wp2
    go_ret
    exact ⟨rfl, rfl⟩
set_option maxHeartbeats 1000000 in
set_option maxRecDepth 100000 in
theorem same_any (A B : Option Addr) (n c d : Nat) (L : List (List UInt8)) (w : World) (hl : L.length = n) (hn : n ≤ c) (hc : c ≤ maxLen) (hmd : n ≤ d) (hd : d ≤ maxLen) (hr : RBS w A L) (hs : RBS w B L) :
    Calls Try.prog 10 #[.slice A n c, .slice B n d] w fun e w' => e = .returned (.bool true) ∧ Below w.heap.size w w' := by
  unfold maxLen at hc hd
  have HL := Lib.hid hl
  have HR := Lib.hid hr
  have HS := Lib.hid hs
  have hb0 : ((n : Int) != (n : Int)) = false := by simp
  clear hl hr hs
  go_enter Try.func10, Try.ntmps10
  go_wp2
  go_loopw [5] (fun i wr => ∃ k : Nat, k ≤ n ∧ i = .int .i64 k ∧ Below w.heap.size w wr) (fun i _ => n - (intOf i).toNat)
  case atStart => exact ⟨0, Nat.zero_le _, rfl, Below.refl _ _⟩
  case round =>
    obtain ⟨k, hk, rfl, hB⟩ := hrel
    by_cases hlt : k < n
    · obtain ⟨a, ha⟩ : ∃ a, L[k]? = some a := ⟨L[k]'(by rw [HL.out]; omega), List.getElem?_eq_getElem _⟩
      obtain ⟨ad, hA⟩ := HR.out.some_of (by rw [HL.out]; omega)
      obtain ⟨bd, hB2⟩ := HS.out.some_of (by rw [HL.out]; omega)
      subst hA hB2
      obtain ⟨X, cx, x0, x1, x2, x3⟩ := (HR.out.below hB).at ha
      obtain ⟨Y, cy, y0, y1, y2, y3⟩ := (HS.out.below hB).at ha
      have hs1 : ∀ q, (convert 22 9 (.slice X a.length cx)).run Try.prog (wr.drewN q) = .ok (.string (str a)) (wr.drewN q) := fun q => run_str _ _ _ _ a rfl (x3.drewN q)
      have hs2 : ∀ q, (convert 22 9 (.slice Y a.length cy)).run Try.prog (wr.drewN q) = .ok (.string (str a)) (wr.drewN q) := fun q => run_str _ _ _ _ a rfl (y3.drewN q)
      have hss : ((str a).toList == (str a).toList) = true := by simp
      have HB := Lib.hid hB
      generalize a.length = na at *
      clear ha x1 x2 x3 y1 y2 y3 hB
      go_upto_region 6 with (fail)
      go_quiet (fail)
      go_wp2
      go_roundw
      case rel => exact ⟨k + 1, by omega, by go_num, HB.out.trans ((below_drewN wr _).mono HB.out.size)⟩
      case measure => simp [intOf]; omega
    · obtain rfl : k = n := by omega
      have HB := Lib.hid hB
      clear hB
      go_wp2
      go_ret
      exact ⟨rfl, HB.out⟩
theorem max_num (s : Nat) (P R : List UInt8) : max (max (s : Int) (numI P)) (numI R) = ((max (max s (genOf P)) (genOf R) : Nat) : Int) := by
  have h1 := genOf_num P
  have h2 := genOf_num R
  have hp : numI P < 1 → numI P ≤ 0 := by omega
  omega
theorem run_max3I (w : World) (ats : Array TypeId) (ty : TypeId) (a b c m : Int) (h : max (max a b) c = m) : (Builtin.max_ ats ty #[.int .i64 a, .int .i64 b, .int .i64 c]).run Try.prog w = .ok (.int .i64 m) w := by
  subst h
  have h2 : ∀ (x y : Int), (Builtin.max2 (.int .i64 x) (.int .i64 y)).run Try.prog w = .ok (.int .i64 (max x y)) w := fun x y => by
    simp only [Builtin.max2, Sem.run_pure]
    by_cases h : y > x
    · rw [if_pos h, Int.max_eq_right (by omega)]
    · rw [if_neg h, Int.max_eq_left (by omega)]
  simp only [Builtin.max_, List.foldlM_cons, List.foldlM_nil, Sem.run_bind, h2, Result.andThen_ok, Sem.run_pure]
set_option maxHeartbeats 2000000 in
set_option maxRecDepth 100000 in
theorem refSeen_any (A : Option Addr) (n c : Nat) (L : List (List UInt8)) (w : World) (hl : L.length = n) (hn : n ≤ c) (hc : c ≤ maxLen) (hr : RBS w A L) :
    Calls Try.prog 17 #[.slice A n c] w fun e w' => e = .returned (.int .i64 (seenP L : Int)) ∧ Below w.heap.size w w' := by
  unfold maxLen at hc
  have HR := Lib.hid hr
  have HL := Lib.hid hl
  have HQ : Hid (seenP L = L.foldl seen1 0) := Lib.hid rfl
  clear hr hl
  go_enter Try.func17, Try.ntmps17
  go_wp2
  go_loopw [3, 4] (fun t i wr => ∃ k : Nat, k ≤ n ∧ i = .int .i64 k ∧ t = .int .i64 ((L.take k).foldl seen1 0 : Nat) ∧ Below w.heap.size w wr) (fun _ i _ => n - (intOf i).toNat)
  case atStart => exact ⟨0, Nat.zero_le _, rfl, rfl, Below.refl _ _⟩
  case round =>
    obtain ⟨k, hk, rfl, rfl, hB⟩ := hrel
    by_cases hlt : k < n
    · obtain ⟨b, hb⟩ : ∃ b, L[k]? = some b := ⟨L[k]'(by rw [HL.out]; omega), List.getElem?_eq_getElem _⟩
      obtain ⟨ad, hA⟩ := HR.out.some_of (by rw [HL.out]; omega)
      have hR2 := HR.out.below hB
      subst hA
      obtain ⟨B, cb, y0, y1, y2, y3⟩ := hR2.at hb
      have HS := Lib.hid (seen_snoc hb)
      have HB := Lib.hid hB
      generalize (L.take k).foldl seen1 0 = s at *
      clear hR2 hB hb
      by_cases h256 : b.length = 256
      · obtain ⟨bd, rfl⟩ := y3.some_of (by omega)
        have HS2 := Lib.hid (HS.out.trans (show seen1 s b = max (max s (genOf (b.take 8))) (genOf (b.drop 248)) from by unfold seen1; rw [if_pos h256]))
        have HMX := Lib.hid (max_num s (b.take 8) (b.drop 248))
        have ha : (b.take 8).length = 8 := by rw [List.length_take, h256]; rfl
        have hbb : (b.drop 248).length = 8 := by rw [List.length_drop, h256]
        have hR1 := y3.take 8
        have hR2 := y3.drop 248
        rw [add_posS bd 248 (by omega)] at hR2
        rw [h256] at y0 y1
        have hc1 : (8 : Int) ≤ (cb : Int) := by omega
        have hc2 : (248 : Int) ≤ 256 := by omega
        have hc3 : ¬ cb = 248 := by omega
        have HN1 := Lib.hid (fun q => number_any (some bd) cb (b.take 8) (wr.drewN q) ha (by omega) (hR1.drewN q))
        have HN2 := Lib.hid (fun q => number_any (some ⟨bd.block, bd.off + 248, none⟩) (cb - 248) (b.drop 248) (wr.drewN q) hbb (by omega) (hR2.drewN q))
        generalize b.take 8 = P at *
        generalize b.drop 248 = R at *
        have KM := fun W => run_max3I W #[3, 3, 3] 3 (s : Int) (numI P) (numI R) _ HMX.out
        rw [← HS2.out] at KM
        obtain ⟨s2, hs2⟩ : ∃ s2, s2 = (L.take (k + 1)).foldl seen1 0 := ⟨_, rfl⟩
        rw [← hs2] at KM
        have HSE := Lib.hid hs2
        clear hs2
        generalize numI P = np at *
        generalize numI R = nr at *
        clear HS ha hbb y1 y2 y3 h256 hR1 hR2 HMX
        go_upto_region 6 with (fail)
        go_quiet (first
          | (go_at_call 28; with_reducible exact Calls.quiet_of_same (flip_same (HN1.out _)))
          | (go_at_call 28; with_reducible exact Calls.quiet_of_same (flip_same (HN2.out _))))
        go_wp2
        go_roundw
        case rel => exact ⟨k + 1, by omega, by go_num, by rw [← HSE.out], HB.out.trans ((below_drewN wr _).mono HB.out.size)⟩
        case measure => simp [intOf]; omega
      · have HS2 := Lib.hid (HS.out.trans (show seen1 s b = s from by unfold seen1; rw [if_neg h256]))
        have hbb : ((b.length : Int) == 256) = false := by simpa using (by omega : ¬ (b.length : Int) = 256)
        generalize b.length = nb at *
        clear HS y1 y2 h256
        go_wp2
        go_roundw
        case rel => exact ⟨k + 1, by omega, by go_num, by rw [HS2.out], HB.out⟩
        case measure => simp [intOf]; omega
    · obtain rfl : k = n := by omega
      rw [List.take_of_length_le (by rw [HL.out]; exact Nat.le_refl _)]
      rw [← HQ.out]
      have hB' := Lib.hid hB
      clear hB
      obtain ⟨s, hs⟩ : ∃ s, s = seenP L := ⟨_, rfl⟩
      rw [← hs]
      have HSS := Lib.hid hs
      clear hs
      go_wp2
      go_ret
      exact ⟨by rw [← HSS.out]; rfl, hB'.out⟩
end Go.Proofs.Ytlpobinmkedgeaa
