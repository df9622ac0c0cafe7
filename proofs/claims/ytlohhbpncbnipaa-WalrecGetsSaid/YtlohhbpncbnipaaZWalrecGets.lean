/- Joined: KWalrecGets LWalrecGets. -/
import Derived.Test.YtlohhbpncbnipaaM52
import Derived.Test.YtlohhbpncbnipaaM54
import Derived.Test.YtlohhbpncbnipaaM55
import Derived.WalkKit
import Derived.ProofKit
import Derived.OpenShut
import Derived.ShutString
import Derived.ChangeOld
import Derived.Below
section
/- The law WalrecGets: the walk. -/
namespace Go.Proofs.Ytlohhbpncbnipaa
open Go.RowKit
set_option linter.unusedVariables false
set_option linter.unusedSimpArgs false
set_option maxHeartbeats 2000000 in
set_option maxRecDepth 100000 in
theorem walrecGets_core (A : Option Addr) (n c : Nat) (l : List UInt8) (w : World) (hl : l.length = n) (hc : n ≤ c) (hm : c ≤ maxLen) (hr : RB w A l) :
    Calls Try.prog 4 #[.slice A n c] w fun e w' => e = .returned (.bool true) ∧ Below w.heap.size w w' := by
  have hmx : c ≤ 9223372036854775807 := by simp only [maxLen] at hm; omega
  clear hm
  have KA := Lib.hid (fun W => wrAwake_any W)
  by_cases h3 : 300 < n
  · have h3' : (300 : Int) < (n : Int) := by omega
    clear hr hl
    go_enter Try.func4, Try.ntmps4
    go_wp2_with fail
    refine (KA.out _).mono ?_
    rintro e w1 ⟨rfl, b1⟩
    have B1 := Lib.hid b1
    clear b1
    go_wp2_with fail
    go_ret
    exact ⟨rfl, B1.out⟩
  · have h3' : (n : Int) ≤ (300 : Int) := by omega
    have KG := Lib.hid (wrGet_any A n c l w (by omega) hl hc hr)
    have KR := Lib.hid (fun W (hb : Below w.heap.size w W) => refGet_any A n c l W (by omega) hl hc (hr.below hb))
    clear hr hl h3
    go_enter Try.func4, Try.ntmps4
    go_wp2_with fail
    refine KG.out.mono ?_
    rintro e w1 ⟨r, z, rfl, g1, b1⟩
    have G1 := Lib.hid g1
    obtain ⟨kind, txn, ts, key, gone, val⟩ := r
    have XR := Lib.hid (RecBox.new w1 (kind : Int) txn ts key gone val)
    have BB := Lib.hid (b1.alloc b1.size (.cells #[.int .u8 (kind : Int), .int .i64 txn, .int .i64 ts, .string key, .bool gone, .string val] 23))
    clear g1 b1
    unfold Rec.v
    dsimp only
    go_wp2_with fail
    generalize (w1.alloc (.cells #[.int .u8 (kind : Int), .int .i64 txn, .int .i64 ts, .string key, .bool gone, .string val] 23)) = W1 at *
    refine (KR.out _ BB.out).mono ?_
    rintro e w2 ⟨r2, z2, rfl, g2, b2⟩
    obtain ⟨rfl, rfl⟩ := g2.one G1.out
    unfold Rec.v
    dsimp only
    have BB := Lib.hid (BB.out.trans (b2.mono BB.out.size))
    have XR1 := Lib.hid ((XR.out.below b2 XR.out.lt).below ((Below.refl w2.heap.size w2).alloc (Nat.le_refl _) (.cells #[.int .u8 (kind : Int), .int .i64 txn, .int .i64 ts, .string key, .bool gone, .string val] 23)) ((XR.out.below b2 XR.out.lt).lt))
    have XR2 := Lib.hid (RecBox.new w2 (kind : Int) txn ts key gone val)
    have BB := Lib.hid (BB.out.alloc BB.out.size (.cells #[.int .u8 (kind : Int), .int .i64 txn, .int .i64 ts, .string key, .bool gone, .string val] 23))
    clear g2 G1 b2 KR KG XR
    go_upto_region 5 with fail
    generalize (w2.alloc (.cells #[.int .u8 (kind : Int), .int .i64 txn, .int .i64 ts, .string key, .bool gone, .string val] 23)) = W2 at *
    obtain ⟨x0, x1, x2, x3, x4, x5, xf0, xf1, xf2, xf3, xf4, xf5⟩ := XR1.out
    obtain ⟨y0, y1, y2, y3, y4, y5, yf0, yf1, yf2, yf3, yf4, yf5⟩ := XR2.out
    have he := fun W => equalIn_rec 9998 W ⟨kind, txn, ts, key, gone, val⟩ ⟨kind, txn, ts, key, gone, val⟩
    rw [(recEq_iff _ _).2 rfl] at he
    unfold Rec.v at he
    dsimp only at he
    go_wp2_with (first
      | (go_at_call 9; refine (KA.out _).mono ?_; rintro e w3 ⟨rfl, b3⟩; have B3 := Lib.hid (BB.out.trans (b3.mono BB.out.size)); clear b3)
      | fail)
    go_ret
    exact ⟨rfl, B3.out⟩
end Go.Proofs.Ytlohhbpncbnipaa
end
section
/- It is proved that the law WalrecGets answers true for every slice of bytes, and leaves it as it was. No condition. -/
namespace Go.Proofs.Ytlohhbpncbnipaa.walrecGets
open Go.ChangeShapes Go.WideShapes Go.ChangeAt Go.RowKit
set_option linter.unusedVariables false

theorem own : ownKnob Try.prog.godebug = none := by kernel_rfl
theorem laidOut : laidOutB Try.prog = true := by kernel_rfl

set_option maxRecDepth 100000 in
theorem lifted (os : Os) (started : os.Started) (H : Type) (enc : TypeId × Value → H) :
    ReturnsInHanded {} Try.checked os 4 .any (Rows.walrecGetsSpec.pre6 enc Try.prog Try.f4 Rows.walrecGetsRow.domain false) (Rows.walrecGetsSpec.post enc Try.prog Try.f4 false true false false) := by
  refine returnsInHanded_of_change (C := Try.checked) own started (by kernel_rfl) Try.func4
    (ChangeSpec.witness6 (enc := enc) (C := Try.checked) false ⟨#[], #[.slice none 0 0], []⟩ 8 (by kernel_rfl) (by kernel_rfl) (by kernel_rfl) (by kernel_rfl)) ?_
  intro W base args ds gs before hval0 hW hcnd _
  have hval : ∀ (j : Nat) t v, Try.f4.params[j]? = some t → args[j]? = some v → Value.okWide Try.prog W .any base t v := hval0
  have hW' := hW
  obtain ⟨p, q, hA0, hV, rfl, hfz, hnd⟩ := hW
  have hA : DataW.TrodAll enc Try.prog W 0 (fun _ => true) true Try.f4.params.toList args.toList ds p := hA0
  rw [Try.params4] at hA hval
  obtain ⟨v0, vs0, d0, ds0, p0, q0, hargs, rfl, rfl, h0, r0⟩ := trodAll_cons hA
  obtain ⟨rfl, rfl, rfl⟩ := trodAll_nil r0
  obtain rfl : args = #[v0] := by cases args; simp_all
  obtain ⟨rfl, rfl⟩ := trodVars_none hV
  have hv0 : ∃ A n c, v0 = .slice A n c := by
    obtain ⟨A, n, c, e⟩ := okWide_slice Try.underlying27 (hval 0 27 v0 rfl rfl)
    exact ⟨A, n, c, e⟩
  have k0 := h0
  have lt0 : ∀ x ∈ p0, x.block < W.heap.size := by obtain ⟨m, hm⟩ := k0; exact DataW.trod_lt m _ _ _ hm
  obtain ⟨A0, c0, l0, rfl, hc0, hm0, hr0⟩ := open_bytesW hv0 h0
  clear hA0 hval0
  refine (walrecGets_core A0 l0.length c0 l0 W rfl hc0 hm0 hr0).mono fun e W' ⟨he, bel⟩ => ?_
  subst he
  exact ⟨_, rfl, _, _, _, [], _, [], hW', trodAll_mk1 (shut_bool Try.underlying4 _), (trodAll_cons_mk (Below.trod laidOut (by kernel_rfl) (of_decide_eq_true (by kernel_rfl)) k0 bel lt0) trodAll_mk0), rfl, bel.frame _, fun h => by cases h⟩

theorem over : Rows.walrecGetsRow.holds Try.pinned (OpenSpec.ofChange Rows.walrecGetsSpec) :=
  OpenClaim.holds_of_wide 4 Try.f4 rfl rfl rfl rfl rfl rfl rfl ⟨rfl, rfl, rfl, rfl, rfl⟩ rfl rfl rfl rfl rfl (by kernel_rfl) Try.func4 (by kernel_rfl)
    (of_decide_eq_true (by kernel_rfl)) (by unfold Func.isWrapper; first | (rw [if_pos (by decide +kernel)]; kernel_rfl) | (rw [if_neg (by decide +kernel)]; exact ⟨rfl, rfl⟩))
    (fun os started H enc _ => lifted os started H enc)

theorem proved : Rows.WalrecGetsSaid := over
#print axioms proved
end Go.Proofs.Ytlohhbpncbnipaa.walrecGets
end
