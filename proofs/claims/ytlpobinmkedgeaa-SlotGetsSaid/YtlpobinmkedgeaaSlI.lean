/- Slots: whether two lists of sectors are one. -/
import Derived.Test.YtlpobinmkedgeaaSlG
namespace Go.Proofs.Ytlpobinmkedgeaa
open Go.RowKit
set_option linter.unusedVariables false
set_option linter.unusedSimpArgs false
theorem str_toList (l : List UInt8) : (str l).toList = l := by rw [ByteArray.toList_eq]; simp [str]
theorem str_beq (a b : List UInt8) : ((str a).toList == (str b).toList) = decide (a = b) := by
  rw [str_toList, str_toList, Bool.eq_iff_iff]
  simp
theorem equal_any (A B : Option Addr) (n m c d : Nat) (a b : List UInt8) (w : World) (ha : a.length = n) (hb : b.length = m) (hr : RB w A a) (hs : RB w B b) :
    Calls Try.prog 25 #[.slice A n c, .slice B m d] w fun e w' => e = .returned (.bool (decide (a = b))) ∧ w = w' := by
  have h1 := run_str w A n c a ha hr
  have h2 := run_str w B m d b hb hs
  have HE := Lib.hid (str_beq a b)
  clear ha hb hr hs
  go_enter Try.func25, Try.ntmps25
  go_wp2
  go_ret
  exact ⟨by rw [← HE.out]; rfl, rfl⟩
theorem take_eq_snoc {L M : List (List UInt8)} {k : Nat} {a b : List UInt8} (h : L.take k = M.take k) (ha : L[k]? = some a) (hb : M[k]? = some b) : L.take (k + 1) = M.take (k + 1) ↔ a = b := by
  rw [List.take_add_one, List.take_add_one, ha, hb, h]
  simp
theorem ne_of_at {L M : List (List UInt8)} {k : Nat} {a b : List UInt8} (ha : L[k]? = some a) (hb : M[k]? = some b) (h : a ≠ b) : L ≠ M := fun e => by
  subst e
  rw [ha] at hb
  injection hb with hb
  exact h hb
set_option maxHeartbeats 1000000 in
set_option maxRecDepth 100000 in
theorem equalFunc_any (A B : Option Addr) (n m c d : Nat) (L M : List (List UInt8)) (w : World) (hl : L.length = n) (hm : M.length = m) (hn : n ≤ c) (hc : c ≤ maxLen) (hmd : m ≤ d) (hd : d ≤ maxLen) (hr : RBS w A L) (hs : RBS w B M) :
    Calls Try.prog 24 #[.slice A n c, .slice B m d, .func (.func 25) #[] #[]] w fun e w' => e = .returned (.bool (decide (L = M))) ∧ w = w' := by
  unfold maxLen at hc hd
  by_cases hnm : n = m
  · subst hnm
    have HL := Lib.hid hl
    have HM := Lib.hid hm
    have HR := Lib.hid hr
    have HS := Lib.hid hs
    have hb0 : ((n : Int) != (n : Int)) = false := by simp
    clear hl hm hr hs
    go_enter Try.func24, Try.ntmps24
    go_wp2
    go_loop [7, 8, 9, 17] (fun _ _ _ i => ∃ k : Nat, k ≤ n ∧ i = .int .i64 k ∧ L.take k = M.take k) (fun _ _ _ i => n - (intOf i).toNat)
    case atStart => exact ⟨0, Nat.zero_le _, rfl, rfl⟩
    case round =>
      obtain ⟨k, hk, rfl, hP⟩ := hrel
      by_cases hlt : k < n
      · obtain ⟨a, ha⟩ : ∃ a, L[k]? = some a := ⟨L[k]'(by rw [HL.out]; omega), List.getElem?_eq_getElem _⟩
        obtain ⟨b, hb⟩ : ∃ b, M[k]? = some b := ⟨M[k]'(by rw [HM.out]; omega), List.getElem?_eq_getElem _⟩
        obtain ⟨ad, hA⟩ := HR.out.some_of (by rw [HL.out]; omega)
        obtain ⟨bd, hB⟩ := HS.out.some_of (by rw [HM.out]; omega)
        subst hA hB
        obtain ⟨X, cx, x0, x1, x2, x3⟩ := HR.out.at ha
        obtain ⟨Y, cy, y0, y1, y2, y3⟩ := HS.out.at hb
        have KE := Lib.hid (equal_any X Y a.length b.length cx cy a b w rfl rfl x3 y3)
        have HT := Lib.hid ((take_eq_snoc hP ha hb).2)
        have HN := Lib.hid (ne_of_at ha hb)
        clear x1 x2 x3 y1 y2 y3 ha hb hP
        generalize a.length = na at *
        generalize b.length = nb at *
        by_cases hab : a = b
        · rw [decide_eq_true hab] at KE
          have HT2 := Lib.hid (HT.out hab)
          clear hab HT HN
          go_wp2_with (go_at_call 25; refine KE.out.mono ?_; rintro e w' ⟨rfl, rfl⟩)
          go_round
          case rel => exact ⟨k + 1, by omega, by go_num, HT2.out⟩
          case measure => simp [intOf]; omega
        · rw [decide_eq_false hab] at KE
          have HN2 := Lib.hid (HN.out hab)
          clear hab HT HN
          go_wp2_with (go_at_call 25; refine KE.out.mono ?_; rintro e w' ⟨rfl, rfl⟩)
          go_ret
          exact ⟨by rw [decide_eq_false HN2.out]; rfl, rfl⟩
      · obtain rfl : k = n := by omega
        have HT2 : Hid (L = M) := Lib.hid (by
          rw [List.take_of_length_le (by rw [HL.out]; exact Nat.le_refl _), List.take_of_length_le (by rw [HM.out]; exact Nat.le_refl _)] at hP
          exact hP)
        clear hP
        go_wp2
        go_ret
        exact ⟨by rw [decide_eq_true HT2.out]; rfl, rfl⟩
  · have hne : L ≠ M := fun e => hnm (by rw [← hl, ← hm, e])
    have HN := Lib.hid hne
    have hb0 : ((n : Int) != (m : Int)) = true := by rw [bne_iff_ne]; omega
    clear hne hnm hl hm hr hs
    go_enter Try.func24, Try.ntmps24
    go_wp2
    go_ret
    exact ⟨by rw [decide_eq_false HN.out]; rfl, rfl⟩
end Go.Proofs.Ytlpobinmkedgeaa
