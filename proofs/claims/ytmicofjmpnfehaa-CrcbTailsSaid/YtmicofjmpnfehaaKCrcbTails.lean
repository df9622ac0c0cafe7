/- The walk of the law CrcbTails out of the contracts. -/
import Derived.Test.YtmicofjmpnfehaaCrG
namespace Go.Proofs.Ytmicofjmpnfehaa.crcbTails
open Go.RowKit
set_option linter.unusedVariables false

set_option maxRecDepth 100000 in
set_option maxHeartbeats 1600000 in
theorem core (A : Option Addr) (n c : Nat) (a : List UInt8) (B : Option Addr) (m d : Nat) (b : List UInt8) (C : Option Addr) (t f : Nat) (r : List UInt8) (w : World)
    (hl : a.length = n) (hc : n ≤ c) (hr : RB w A a) (hm : b.length = m) (hd : m ≤ d) (hs : RB w B b) (ht : r.length = t) (hq : RB w C r) :
    Calls Try.prog 7 #[.slice A n c, .slice B m d, .slice C t f] w fun e w' => e = .returned (.bool true) ∧ Below w.heap.size w w' := by
  have HL := Lib.hid hl
  have HM := Lib.hid hm
  have HT := Lib.hid ht
  clear hl hm ht
  obtain ⟨k, hkn⟩ : ∃ k : Nat, k = min n m := ⟨min n m, rfl⟩
  have h1 : k ≤ n := by omega
  have h2 : k ≤ m := by omega
  have HK := Lib.hid (show (if m < n then (m : Int) else (n : Int)) = (k : Int) from by split <;> omega)
  clear hkn
  go_enter Try.func7, Try.ntmps7
  go_upto_region 2 with (fail)
  rw [HK.out]
  by_cases g1 : 300 < k
  · go_wp2_with (go_at_call 8; refine (awake_any _).mono ?_; rintro e w1 ⟨rfl, hb1⟩)
    go_ret
    exact ⟨rfl, hb1⟩
  by_cases g2 : 300 < t
  · go_wp2_with (go_at_call 8; refine (awake_any _).mono ?_; rintro e w1 ⟨rfl, hb1⟩)
    go_ret
    exact ⟨rfl, hb1⟩
  have R1 := hr.take k
  have R2 := hs.take k
  have L1 := Lib.hid (show (a.take k).length = k from by rw [List.length_take, HL.out]; omega)
  have L2 := Lib.hid (show (b.take k).length = k from by rw [List.length_take, HM.out]; omega)
  generalize a.take k = a' at *
  generalize b.take k = b' at *
  have b0 : 0 ≤ (k : Int) := by omega
  have b1 : (k : Int) ≤ (c : Int) := by omega
  have b2 : (k : Int) ≤ (d : Int) := by omega
  have C1 := Lib.hid (fun (e : Nat) W hr => of_any A k e a' W L1.out (by omega) hr)
  have C2 := Lib.hid (fun (e : Nat) W hr => of_any B k e b' W L2.out (by omega) hr)
  have C3 := Lib.hid (fun (e : Nat) W hr => update_any (crc a') C t e r W HT.out (by omega) hr)
  have C4 := Lib.hid (fun (e : Nat) W hr => update_any (crc b') C t e r W HT.out (by omega) hr)
  have C5 := Lib.hid (fun W => shiftNat_any (crc a' ^^^ crc b') t W (by omega))
  have X1 := updc_xor r (crc a') (crc b')
  rw [HT.out] at X1
  rw [← X1] at C5
  clear X1
  have E1 : crc a' = crc b' ↔ updc (crc a') r = updc (crc b') r := ⟨fun h => by rw [h], fun h => updc_inj r h⟩
  generalize crc a' = x at *
  generalize crc b' = y at *
  generalize updc x r = u at *
  generalize updc y r = v at *
  have X2 := Lib.hid (xor_reg x y)
  have X3 := Lib.hid (xor_reg u v)
  have D1 := (x ^^^ y).isLt
  generalize x ^^^ y = xy at *
  generalize u ^^^ v = uv at *
  have X4 : (bits .xor .u32 (u.toNat : Int) (v.toNat : Int) == (uv.toNat : Int)) = true := by rw [X3.out]; simp
  have EX : ∃ β : Bool, ((x.toNat : Int) == (y.toNat : Int)) = β ∧ ((u.toNat : Int) == (v.toNat : Int)) = β ∧ (x.toNat == y.toNat) = β ∧ (u.toNat == v.toNat) = β := by
    by_cases h : x = y
    · have h' := E1.1 h
      subst h h'
      exact ⟨true, by simp⟩
    · have h' : ¬ u = v := fun e => h (E1.2 e)
      refine ⟨false, ?_⟩
      have e1 : ¬ x.toNat = y.toNat := fun e => h (BitVec.eq_of_toNat_eq e)
      have e2 : ¬ u.toNat = v.toNat := fun e => h' (BitVec.eq_of_toNat_eq e)
      simp [e1, e2]
      omega
  clear E1
  go_wp2
  go_quiet (first
    | (go_at_call_of 10 (Value.slice A k c); exact Calls.quiet_of_same (flip_same (C1.out _ _ (R1.drewN _))))
    | (go_at_call_of 10 (Value.slice B k d); exact Calls.quiet_of_same (flip_same (C2.out _ _ (R2.drewN _)))))
  have hb0 : Below w.heap.size w (w.drewN nq) := ⟨rfl, rfl, rfl, Nat.le_refl _, fun _ _ => rfl⟩
  have hq' := hq.drewN nq
  have HZ := Lib.hid (show (w.drewN nq).heap.size = w.heap.size from rfl)
  generalize w.drewN nq = W at *
  obtain ⟨β, q1, q2, q3, q4⟩ := EX
  go_wp2_with fail
  refine (C3.out _ _ hq').mono ?_
  rintro e w' ⟨rfl, rfl⟩
  go_wp2_with fail
  refine (C4.out _ _ hq').mono ?_
  rintro e w' ⟨rfl, rfl⟩
  go_wp2_with fail
  rw [X2.out]
  refine (C5.out _).mono ?_
  rintro e w' ⟨rfl, rfl⟩
  go_wp2_with (go_at_call 8; refine (awake_any _).mono ?_; rintro e w1 ⟨rfl, hb1⟩)
  go_ret
  rw [HZ.out] at hb1
  exact ⟨rfl, hb0.trans hb1⟩
end Go.Proofs.Ytmicofjmpnfehaa.crcbTails
