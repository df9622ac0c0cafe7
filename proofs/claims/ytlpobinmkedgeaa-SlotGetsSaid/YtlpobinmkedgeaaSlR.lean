/- Slots: the document's eight bytes of a number, and the number of eight bytes. -/
import Derived.Test.YtlpobinmkedgeaaSlD
import Derived.Test.YtlpobinmkedgeaaSlE
namespace Go.Proofs.Ytlpobinmkedgeaa
open Go.RowKit
set_option linter.unusedVariables false
set_option linter.unusedSimpArgs false
theorem st_drop (g k : Nat) (h : k < 8) : (st g).drop (8 - (k + 1)) = UInt8.ofNat (g / 256 ^ k) :: (st g).drop (8 - k) := by
  have h1 := st_at g (7 - k) (by omega)
  have hl := st_len g
  rw [show 7 - (7 - k) = k by omega] at h1
  have h2 : 8 - (k + 1) < (st g).length := by omega
  rw [List.drop_eq_getElem_cons h2, show 8 - (k + 1) + 1 = 8 - k by omega]
  congr 1
  rw [List.getElem?_eq_getElem (by omega)] at h1
  injection h1 with h1
  rw [← h1]
  congr 1
  omega
set_option maxHeartbeats 1000000 in
set_option maxRecDepth 100000 in
theorem eight_any (g : Nat) (w : World) (hg : g ≤ 1099511627776) :
    Calls Try.prog 21 #[.int .i64 (g : Int)] w fun e w' => ∃ v, e = .returned v ∧ OB w.heap.size w' v (st g) ∧ Below w.heap.size w w' := by
  go_enter Try.func21, Try.ntmps21
  go_wp2
  go_loopw [0, 3, 4] (fun n v i wr => ∃ k : Nat, k ≤ 8 ∧ i = .int .i64 k ∧ n = .int .i64 (g / 256 ^ k : Nat) ∧ OB w.heap.size wr v ((st g).drop (8 - k)) ∧ Below w.heap.size w wr) (fun _ _ i _ => 8 - (intOf i).toNat)
  case atStart => exact ⟨0, Nat.zero_le _, rfl, by simp, by rw [List.drop_of_length_le (by rw [st_len]; omega)]; exact OB.nil, Below.refl _ _⟩
  case round =>
    obtain ⟨k, hk, rfl, rfl, hO, hB⟩ := hrel
    by_cases hlt : k < 8
    · obtain ⟨A, c, rfl, hc, hr⟩ := hO.form
      have hn : g / 256 ^ k ≤ 1099511627776 := Nat.le_trans (Nat.div_le_self _ _) hg
      have HD := Lib.hid (st_drop g k hlt)
      have HQ := Lib.hid (show g / 256 ^ (k + 1) = g / 256 ^ k / 256 from by rw [Nat.pow_succ, Nat.div_div_eq_div_mul])
      have HL := Lib.hid (show ((st g).drop (8 - k)).length = k from by rw [List.length_drop, st_len]; omega)
      have hge := hB.size
      have HR := Lib.hid hr
      have HB := Lib.hid hB
      rw [HL.out]
      generalize (st g).drop (8 - k) = T at *
      generalize g / 256 ^ k = q at *
      have HI := Lib.hid (show (q : Int) % 256 = ((UInt8.ofNat q).toNat : Int) from by rw [toNat_of]; omega)
      have hm1 : (q : Int) % 256 % 256 = (q : Int) % 256 := by omega
      clear hr hO hB
      go_wp2_with (at_builtin; refine wpList_append_B rfl (.tmp 12) (.tmp 13) rfl w.heap.size _ [UInt8.ofNat q] rfl (OB.lit wr w.heap.size [UInt8.ofNat q] _ (by simp [cellsB, cellB, ← HI.out]) hge (by simp [maxLen])) A k c T rfl HL.out (HR.out.alloc _) (by simp; omega) (by rw [heap_size_alloc]; omega) ?_; intro v2 w2 o2 b2; have O2 := Lib.hid o2; have B2 := Lib.hid ((HB.out.alloc hge _).trans b2); clear o2 b2)
      go_roundw
      case rel => exact ⟨k + 1, by omega, by go_num, by rw [HQ.out]; go_num, by rw [HD.out]; exact O2.out, B2.out⟩
      case measure => simp [intOf]; omega
    · obtain rfl : k = 8 := by omega
      simp only [Nat.sub_self, List.drop_zero] at hO
      have O2 := Lib.hid hO
      have B2 := Lib.hid hB
      clear hO hB
      go_wp2
      go_ret
      exact ⟨_, rfl, O2.out, B2.out⟩
/-- The number of eight bytes; -1: none. -/
def numI (l : List UInt8) : Int := if be l ≤ 1099511627776 then (be l : Int) else -1
theorem be_take_le (l : List UInt8) : ∀ k, k ≤ l.length → be (l.take k) ≤ be l := by
  intro k hk
  have go : ∀ d, k + d ≤ l.length → be (l.take k) ≤ be (l.take (k + d)) := by
    intro d
    induction d with
    | zero => intro _; exact Nat.le_refl _
    | succ d ih =>
      intro h
      have h1 : l[k + d]? = some (l[k + d]'(by omega)) := List.getElem?_eq_getElem _
      rw [show k + (d + 1) = k + d + 1 by omega, take_snoc h1, be_snoc]
      have := ih (by omega)
      omega
  have h := go (l.length - k) (by omega)
  rw [show k + (l.length - k) = l.length by omega, List.take_length] at h
  exact h
set_option maxHeartbeats 1000000 in
set_option maxRecDepth 100000 in
theorem number_any (A : Option Addr) (c : Nat) (l : List UInt8) (w : World) (hl : l.length = 8) (hc : 8 ≤ c) (hr : RB w A l) :
    Calls Try.prog 28 #[.slice A 8 c] w fun e w' => e = .returned (.int .i64 (numI l)) ∧ w = w' := by
  obtain ⟨ad, rfl⟩ : ∃ ad, A = some ad := by
    rcases hr with rfl | ⟨ad, e, _⟩
    · simp at hl
    · exact ⟨ad, e⟩
  have HL := Lib.hid hl
  have HR := Lib.hid hr
  have HN : Hid (numI l = if be l ≤ 1099511627776 then (be l : Int) else -1) := Lib.hid rfl
  generalize numI l = z at *
  clear hl hr
  go_enter Try.func28, Try.ntmps28
  go_wp2
  go_loop [3, 4] (fun n i => ∃ k : Nat, k ≤ 8 ∧ i = .int .i64 k ∧ n = .int .i64 (be (l.take k) : Nat) ∧ be (l.take k) < 2 ^ 49) (fun _ i => 8 - (intOf i).toNat)
  case atStart => exact ⟨0, Nat.zero_le _, rfl, rfl, by simp [be]⟩
  case round =>
    obtain ⟨k, hk, rfl, rfl, hb⟩ := hrel
    have HT := Lib.hid (be_take_le l k (by rw [HL.out]; exact hk))
    by_cases hlt : k < 8
    · obtain ⟨ad', x, e, hx, hcell⟩ := HR.out.at_ (k := k) (by rw [HL.out]; exact hlt)
      injection e with e
      subst e
      have HS := Lib.hid (show be (l.take (k + 1)) = be (l.take k) * 256 + x.toNat from by rw [take_snoc hx, be_snoc])
      have hx8 := x.toNat_lt
      clear hx
      generalize be (l.take k) = q at *
      by_cases hm : q ≤ 1099511627776
      · have hd : decide (1099511627776 < (q : Int)) = false := by simp; omega
        go_wp2
        go_round
        case rel => exact ⟨k + 1, by omega, by go_num, by rw [HS.out]; go_num, by rw [HS.out]; omega⟩
        case measure => simp [intOf]; omega
      · have hd : decide (1099511627776 < (q : Int)) = true := by simp; omega
        have HZ := Lib.hid (HN.out.trans (if_neg (by have := HT.out; omega)))
        go_wp2
        go_ret
        exact ⟨by rw [HZ.out]; rfl, rfl⟩
    · obtain rfl : k = 8 := by omega
      rw [List.take_of_length_le (by rw [HL.out]; exact Nat.le_refl _)] at hb HT ⊢
      generalize be l = q at *
      by_cases hm : q ≤ 1099511627776
      · have hd : decide (1099511627776 < (q : Int)) = false := by simp; omega
        have HZ := Lib.hid (HN.out.trans (if_pos hm))
        go_wp2
        go_ret
        exact ⟨by rw [HZ.out]; rfl, rfl⟩
      · have hd : decide (1099511627776 < (q : Int)) = true := by simp; omega
        have HZ := Lib.hid (HN.out.trans (if_neg hm))
        go_wp2
        go_ret
        exact ⟨by rw [HZ.out]; rfl, rfl⟩
end Go.Proofs.Ytlpobinmkedgeaa
