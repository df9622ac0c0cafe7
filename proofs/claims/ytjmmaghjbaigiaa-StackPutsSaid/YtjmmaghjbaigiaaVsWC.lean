/- Versions: those that stay, told by a function: fascicle/stack.Commit$1. -/
import Derived.Test.YtjmmaghjbaigiaaVsB
namespace Go.Proofs.Ytjmmaghjbaigiaa
open Go.RowKit
set_option linter.unusedVariables false
set_option linter.unusedSimpArgs false
set_option maxHeartbeats 1000000 in
set_option maxRecDepth 100000 in
theorem vsWithoutC (A : Option Addr) (n c : Nat) (l : List Vn) (p : Nat → Vn → Bool) (a : Addr) (w : World) (hl : l.length = n) (hn : n ≤ 1000) (hr : RG KV w A l)
    (hF : ∀ (W : World) (i : Nat) (x : Vn), l[i]? = some x → Below w.heap.size w W → Calls Try.prog 73 (#[.int .i64 (i : Int), x.v] ++ #[.pointer (some a)]) W fun e w' => e = .returned (.bool (p i x)) ∧ Below W.heap.size W w') :
    Calls Try.prog 66 #[.slice A n c, .func (.func 73) #[] #[.pointer (some a)]] w fun e w' => ∃ v', e = .returned v' ∧ OG KV 66 w.heap.size w' v' (vsKeep p 0 l) ∧ Below w.heap.size w w' := by
  have HL := Lib.hid hl
  have HR := Lib.hid hr
  have HF := Lib.hid hF
  clear hl hr hF
  go_enter Try.func66, Try.ntmps66
  go_wp2
  go_loopw [5, 6, 7, 10] (fun v _ _ i wr => ∃ k : Nat, k ≤ n ∧ i = .int .i64 (k : Int) ∧ OG KV 66 w.heap.size wr v (vsKeep p 0 (l.take k)) ∧ Below w.heap.size w wr) (fun _ _ _ i _ => n - (intOf i).toNat)
  case atStart => exact ⟨0, Nat.zero_le _, rfl, OG.nil, Below.refl _ _⟩
  case round =>
    obtain ⟨k, hk, rfl, ho, hb⟩ := hrel
    by_cases hlt : k < n
    · obtain ⟨x, hx⟩ : ∃ x, l[k]? = some x := ⟨l[k]'(by rw [HL.out]; exact hlt), List.getElem?_eq_getElem _⟩
      obtain ⟨ad, rfl, hv⟩ := (HR.out.below hb).vn hx
      have c0 := hv.d0; have c1 := hv.d1; have c2 := hv.d2; have c3 := hv.d3
      have HKL := Lib.hid (show (vsKeep p 0 (l.take k)).length + 1 ≤ 1000000 from by
        have := (vsKeep_sub p 0 (l.take k)).length_le
        rw [List.length_take] at this; omega)
      have HKS : vsKeep p 0 (l.take (k + 1)) = if p k x then vsKeep p 0 (l.take k) else vsKeep p 0 (l.take k) ++ [x] := by
        rw [List.take_add_one, hx, Option.toList_some, vsKeep_snoc, List.length_take, Nat.min_eq_left (by rw [HL.out]; omega), Nat.zero_add]
      have HO := Lib.hid (ho.alloc (.cells #[.int .i64 x.txn, .int .i64 x.ts, .bool x.gone, .string x.val] 66))
      have HB := Lib.hid (hb.alloc hb.size (.cells #[.int .i64 x.txn, .int .i64 x.ts, .bool x.gone, .string x.val] 66))
      have KF := Lib.hid (fun W (h : Below w.heap.size w W) => HF.out W k x hx h)
      unfold Vn.v at KF
      have HS := Lib.hid hb.size
      clear hb ho hv hx
      have HV : Hid (∀ W, Below (wr.alloc (.cells #[.int .i64 x.txn, .int .i64 x.ts, .bool x.gone, .string x.val] 66)).heap.size (wr.alloc (.cells #[.int .i64 x.txn, .int .i64 x.ts, .bool x.gone, .string x.val] 66)) W → VnAt W ⟨wr.heap.size, 0, none⟩ x) := Lib.hid fun W h => by
        refine VnAt.below (w := wr.alloc (.cells #[.int .i64 x.txn, .int .i64 x.ts, .bool x.gone, .string x.val] 66)) ⟨?_, ?_, ?_, ?_⟩ h <;> simp [Addr.add]
      cases hp : p k x with
      | true =>
        rw [hp] at KF HKS
        simp only [if_true] at HKS
        have HK := Lib.hid HKS
        clear HKS hp
        go_wp2_with (go_at_call 73; refine (KF.out _ HB.out).mono ?_; rintro e w1 ⟨rfl, b1⟩; have B1 := Lib.hid b1; clear b1)
        go_round
        case rel => exact ⟨k + 1, by omega, by go_num, by rw [HK.out]; exact HO.out.below B1.out, HB.out.trans (B1.out.mono HB.out.size)⟩
        case measure => simp [intOf]; omega
      | false =>
        rw [hp] at KF HKS
        simp only [Bool.false_eq_true, if_false] at HKS
        have HK := Lib.hid HKS
        clear HKS hp
        go_wp2_with (first
          | (go_at_call 73; refine (KF.out _ HB.out).mono ?_; rintro e w1 ⟨rfl, b1⟩; have B1 := Lib.hid b1; obtain ⟨y0, y1, y2, y3⟩ := (⟨(HV.out w1 b1).d0, (HV.out w1 b1).d1, (HV.out w1 b1).d2, (HV.out w1 b1).d3⟩ : _ ∧ _ ∧ _ ∧ _); simp only [Nat.zero_add] at y1 y2 y3; clear b1)
          | (at_builtin; (refine wpList_append_G tgV rfl _ _ rfl w.heap.size _ (vsKeep p 0 (l.take k)) rfl ((HO.out.below B1.out).alloc _) (some ⟨w1.heap.size, 0, none⟩) 1 1 [x] rfl rfl (rgV_lit _ _ _) (Apart.flat vn_flat) HKL.out (by have := B1.out.size; have := HB.out.size; simp; omega) ?_; intro v2 w2 o2 b2 _ _; have O2 := Lib.hid o2; have B2 := Lib.hid b2; clear o2 b2))
          | fail)
        go_round
        case rel => exact ⟨k + 1, by omega, by go_num, by rw [HK.out]; exact O2.out, ((HB.out.trans (B1.out.mono HB.out.size)).alloc (Nat.le_trans HB.out.size B1.out.size) _).trans B2.out⟩
        case measure => simp [intOf]; omega
    · obtain rfl : k = n := by omega
      rw [List.take_of_length_le (by rw [HL.out]; exact Nat.le_refl _)] at ho
      have HO := Lib.hid ho
      have HB := Lib.hid hb
      clear ho hb
      go_wp2
      go_ret
      exact ⟨_, rfl, HO.out, HB.out⟩
end Go.Proofs.Ytjmmaghjbaigiaa
