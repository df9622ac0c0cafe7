/- The walk of the law MsgPuts. -/
import Derived.Test.YtjmmaghjbaigiaaMgZ
import Derived.Test.YtjmmaghjbaigiaaMhF
namespace Go.Proofs.Ytjmmaghjbaigiaa
open Go.RowKit
set_option linter.unusedVariables false
set_option linter.unusedSimpArgs false
set_option maxHeartbeats 4000000 in
set_option maxRecDepth 100000 in
theorem msgPuts_core (x : Ms) (A : Option Addr) (n c : Nat) (l : List UInt8) (w : World) (hl : l.length = n) (hn : n ≤ maxLen) (hnc : n ≤ c) (hr : RB w A l) :
    Calls Try.prog 4 #[x.v, .slice A n c] w fun e w' => e = .returned (.bool true) ∧ Below w.heap.size w w' := by
  have KA := Lib.hid (fun W => mgAwake_any W)
  have KL := Lib.hid (fun (W : World) => mgLight_any (some ⟨W.heap.size, 0, none⟩) 1 1 [x] 1 (W.alloc (.cells #[.int .u8 (x.kind.toNat : Int), .string x.key, .int .i64 x.txn, .int .i64 x.ts, .bool x.gone, .string x.val] 40)) rfl (by decide) (by omega) (rgM_lit W x 40))
  have HB := Lib.hid (below1 w (.cells #[.int .u8 (x.kind.toNat : Int), .string x.key, .int .i64 x.txn, .int .i64 x.ts, .bool x.gone, .string x.val] 40))
  have X := Lib.hid (MsBox.new w x 40)
  have HR := Lib.hid (fun W (h : Below w.heap.size w W) => hr.below h)
  have HL := Lib.hid hl
  have K1 := Lib.hid (fun W => mgPut_any x W)
  have K2 := Lib.hid (fun W => refPutM_any x W)
  have K5 := Lib.hid (fun W => mgSize_any x W)
  have HSZ : Hid ((if checkM x = 0 then putM x else []).length = sizeM x) := Lib.hid (by unfold sizeM; split <;> rfl)
  cases hlt : mgLight [x] 1 with
  | false =>
    rw [hlt] at KL
    clear hlt hl hn hr hnc
    unfold Ms.v
    go_enter Try.func4, Try.ntmps4
    go_upto_region 1 with fail
    generalize w.alloc (.cells #[.int .u8 (x.kind.toNat : Int), .string x.key, .int .i64 x.txn, .int .i64 x.ts, .bool x.gone, .string x.val] 40) = W0 at *
    obtain ⟨x0, x1, x2, x3, x4, x5, _, _, _, _, _, _⟩ := X.out
    go_wp2_with (first
      | (go_at_call 16; refine (KL.out _).mono ?_; rintro e w1 ⟨rfl, rfl⟩; have HB := Lib.hid (HB.out.alloc HB.out.size (.cells #[.int .u8 (x.kind.toNat : Int), .string x.key, .int .i64 x.txn, .int .i64 x.ts, .bool x.gone, .string x.val] 40)))
      | (go_at_call 17; refine (KA.out _).mono ?_; rintro e w2 ⟨rfl, b1⟩; have HB := Lib.hid (HB.out.trans (b1.mono HB.out.size)); clear b1)
      | fail)
    go_ret
    exact ⟨rfl, HB.out⟩
  | true =>
    rw [hlt] at KL
    clear hlt
    by_cases h300 : 300 < n
    · have d300 : decide ((300 : Int) < (n : Int)) = true := by simp; omega
      clear hl hn hr hnc h300
      unfold Ms.v
      go_enter Try.func4, Try.ntmps4
      go_upto_region 1 with fail
      generalize w.alloc (.cells #[.int .u8 (x.kind.toNat : Int), .string x.key, .int .i64 x.txn, .int .i64 x.ts, .bool x.gone, .string x.val] 40) = W0 at *
      obtain ⟨x0, x1, x2, x3, x4, x5, _, _, _, _, _, _⟩ := X.out
      go_wp2_with (first
        | (go_at_call 16; refine (KL.out _).mono ?_; rintro e w1 ⟨rfl, rfl⟩; have HB := Lib.hid (HB.out.alloc HB.out.size (.cells #[.int .u8 (x.kind.toNat : Int), .string x.key, .int .i64 x.txn, .int .i64 x.ts, .bool x.gone, .string x.val] 40)))
        | (go_at_call 17; refine (KA.out _).mono ?_; rintro e w2 ⟨rfl, b1⟩; have HB := Lib.hid (HB.out.trans (b1.mono HB.out.size)); clear b1)
        | fail)
      go_ret
      exact ⟨rfl, HB.out⟩
    · have d300 : decide ((300 : Int) < (n : Int)) = false := by simp; omega
      have K3 := Lib.hid (fun W (h : Below w.heap.size w W) => mgGet_any A n c l W (by omega) hl hnc (hr.below h))
      have K4 := Lib.hid (fun W (h : Below w.heap.size w W) => refGetM_any A n c l W (by omega) hl hnc (hr.below h))
      obtain ⟨P, hP⟩ : ∃ P, P = (if checkM x = 0 then putM x else []) := ⟨_, rfl⟩
      rw [← hP] at K1 K2 HSZ
      obtain ⟨z, hz⟩ : ∃ z, z = checkM x := ⟨_, rfl⟩
      rw [← hz] at K1 K2
      rw [← HSZ.out] at K5
      clear hP hz hl hn hr hnc h300 HSZ
      unfold Ms.v at K1 K2 K5 ⊢
      go_enter Try.func4, Try.ntmps4
      go_upto_region 1 with fail
      generalize w.alloc (.cells #[.int .u8 (x.kind.toNat : Int), .string x.key, .int .i64 x.txn, .int .i64 x.ts, .bool x.gone, .string x.val] 40) = W0 at *
      obtain ⟨x0, x1, x2, x3, x4, x5, _, _, _, _, _, _⟩ := X.out
      go_upto_region 3 with (first
        | (go_at_call 16; refine (KL.out _).mono ?_; rintro e w1 ⟨rfl, rfl⟩; have HB := Lib.hid (HB.out.alloc HB.out.size (.cells #[.int .u8 (x.kind.toNat : Int), .string x.key, .int .i64 x.txn, .int .i64 x.ts, .bool x.gone, .string x.val] 40)); have X := Lib.hid (X.out.alloc (.cells #[.int .u8 (x.kind.toNat : Int), .string x.key, .int .i64 x.txn, .int .i64 x.ts, .bool x.gone, .string x.val] 40)))
        | fail)
      generalize W0.alloc (.cells #[.int .u8 (x.kind.toNat : Int), .string x.key, .int .i64 x.txn, .int .i64 x.ts, .bool x.gone, .string x.val] 40) = W1 at *
      clear x0 x1 x2 x3 x4 x5 d300
      obtain ⟨x0, x1, x2, x3, x4, x5, _, _, _, _, _, _⟩ := X.out
      go_upto_region 4 with (first | (go_at_call 18; refine (K1.out _).mono ?_; rintro e w2 ⟨v2, rfl, o2, b1⟩; obtain ⟨A2, c2, rfl, hc2, r2⟩ := o2.form; have R2 := Lib.hid r2; have X := Lib.hid (X.out.on b1); have HB := Lib.hid (HB.out.trans (b1.mono HB.out.size)); clear o2 b1 hc2 r2) | fail)
      clear x0 x1 x2 x3 x4 x5
      obtain ⟨x0, x1, x2, x3, x4, x5, _, _, _, _, _, _⟩ := X.out
      go_upto_region 5 with (first | (go_at_call 19; refine (K2.out _).mono ?_; rintro e w3 ⟨v3, rfl, o3, b1⟩; obtain ⟨A3, c3, rfl, hc3, r3⟩ := o3.form; have R2 := Lib.hid (R2.out.below b1); have R3 := Lib.hid r3; have X := Lib.hid (X.out.on b1); have HB := Lib.hid (HB.out.trans (b1.mono HB.out.size)); clear o3 b1 hc3 r3) | fail)
      clear x0 x1 x2 x3 x4 x5
      go_upto_region 6 with (first | (go_at_call 20; refine (K3.out _ HB.out).mono ?_; rintro e w4 ⟨m, k, y, rfl, g4, b1⟩; have G4 := Lib.hid g4; have R2 := Lib.hid (R2.out.below b1); have R3 := Lib.hid (R3.out.below b1); have X := Lib.hid (X.out.on b1); have HB := Lib.hid (HB.out.trans (b1.mono HB.out.size)); clear b1 g4; unfold Ms.v) | fail)
      have HB := Lib.hid (HB.out.alloc HB.out.size (.cells #[.int .u8 (m.kind.toNat : Int), .string m.key, .int .i64 m.txn, .int .i64 m.ts, .bool m.gone, .string m.val] 40))
      have X := Lib.hid (X.out.alloc (.cells #[.int .u8 (m.kind.toNat : Int), .string m.key, .int .i64 m.txn, .int .i64 m.ts, .bool m.gone, .string m.val] 40))
      have R2 := Lib.hid (R2.out.alloc (.cells #[.int .u8 (m.kind.toNat : Int), .string m.key, .int .i64 m.txn, .int .i64 m.ts, .bool m.gone, .string m.val] 40))
      have R3 := Lib.hid (R3.out.alloc (.cells #[.int .u8 (m.kind.toNat : Int), .string m.key, .int .i64 m.txn, .int .i64 m.ts, .bool m.gone, .string m.val] 40))
      have Y := Lib.hid (MsBox.new w4 m 40)
      generalize w4.alloc (.cells #[.int .u8 (m.kind.toNat : Int), .string m.key, .int .i64 m.txn, .int .i64 m.ts, .bool m.gone, .string m.val] 40) = X4 at *
      generalize w4.heap.size = q4 at *
      go_upto_region 7 with (first | (go_at_call 21; refine (K4.out _ HB.out).mono ?_; rintro e w5 ⟨m2, k2, y2, rfl, g5, b1⟩; obtain ⟨rfl, rfl, rfl⟩ := GetOfM.one g5 G4.out; have R2 := Lib.hid (R2.out.below b1); have R3 := Lib.hid (R3.out.below b1); have X := Lib.hid (X.out.on b1); have Y := Lib.hid (Y.out.on b1); have HB := Lib.hid (HB.out.trans (b1.mono HB.out.size)); clear b1 g5; unfold Ms.v) | fail)
      have X := Lib.hid (X.out.alloc (.cells #[.int .u8 (m2.kind.toNat : Int), .string m2.key, .int .i64 m2.txn, .int .i64 m2.ts, .bool m2.gone, .string m2.val] 40))
      have Y := Lib.hid (Y.out.alloc (.cells #[.int .u8 (m2.kind.toNat : Int), .string m2.key, .int .i64 m2.txn, .int .i64 m2.ts, .bool m2.gone, .string m2.val] 40))
      have R2 := Lib.hid (R2.out.alloc (.cells #[.int .u8 (m2.kind.toNat : Int), .string m2.key, .int .i64 m2.txn, .int .i64 m2.ts, .bool m2.gone, .string m2.val] 40))
      have R3 := Lib.hid (R3.out.alloc (.cells #[.int .u8 (m2.kind.toNat : Int), .string m2.key, .int .i64 m2.txn, .int .i64 m2.ts, .bool m2.gone, .string m2.val] 40))
      have HB := Lib.hid (HB.out.alloc HB.out.size (.cells #[.int .u8 (m2.kind.toNat : Int), .string m2.key, .int .i64 m2.txn, .int .i64 m2.ts, .bool m2.gone, .string m2.val] 40))
      have Z := Lib.hid (MsBox.new w5 m2 40)
      generalize w5.alloc (.cells #[.int .u8 (m2.kind.toNat : Int), .string m2.key, .int .i64 m2.txn, .int .i64 m2.ts, .bool m2.gone, .string m2.val] 40) = X5 at *
      generalize w5.heap.size = q5 at *
      obtain ⟨x0, x1, x2, x3, x4, x5, _, _, _, _, _, _⟩ := X.out
      obtain ⟨y0, y1, y2', y3, y4, y5, _, _, _, _, _, _⟩ := Y.out
      obtain ⟨z0, z1, z2, z3, z4, z5, _, _, _, _, _, _⟩ := Z.out
      have hs2 := run_str X5 A2 P.length c2 P rfl R2.out
      have hs3 := run_str X5 A3 P.length c3 P rfl R3.out
      have heq := fun W => mgEqV 9998 W m2 m2
      rw [mgEq_self] at heq
      unfold Ms.v at heq
      have hss : ((str P).toList == (str P).toList) = true := by simp
      clear R2 R3 G4 K1 K2 K3 K4 KL HL HR
      go_wp2_with (first
        | (go_at_call 22; refine (K5.out _).mono ?_; rintro e w6 ⟨rfl, b1⟩; have HB := Lib.hid (HB.out.trans (b1.mono HB.out.size)); clear b1)
        | (go_at_call 17; refine (KA.out _).mono ?_; rintro e w7 ⟨rfl, b1⟩; have HB := Lib.hid (HB.out.trans (b1.mono HB.out.size)); clear b1)
        | fail)
      go_ret
      exact ⟨rfl, HB.out⟩
end Go.Proofs.Ytjmmaghjbaigiaa
