/- Joined: KWalrecPuts LWalrecPuts. -/
import Derived.Test.YtlohhbpncbnipaaM54
import Derived.Deep.RegionHeld3
import Derived.Test.YtlohhbpncbnipaaM55
import Derived.WalkKit
import Derived.ProofKit
import Derived.OpenShut
import Derived.ShutString
import Derived.ChangeOld
import Derived.Below
section
/- The law WalrecPuts: the walk. -/
namespace Go.Proofs.Ytlohhbpncbnipaa
open Go.RowKit
set_option linter.unusedVariables false
set_option linter.unusedSimpArgs false
set_option maxHeartbeats 4000000 in
set_option maxRecDepth 100000 in
theorem walrecPuts_core (r : Rec) (w : World) (hf : r.fits) :
    Calls Try.prog 3 #[r.v] w fun e w' => e = .returned (.bool true) ∧ Below w.heap.size w w' := by
  have KA := Lib.hid (fun W => wrAwake_any W)
  have KL := Lib.hid (fun A W (h : RcsAt W A [r]) => light_any A 1 1 [r] 1 W rfl (by simp [maxLen]) h)
  have KP := Lib.hid (fun W => wrPut_any r W)
  have KQ := Lib.hid (fun W => refPut_any r W)
  have KC := Lib.hid (fun W => wrCheck_any r W)
  have KD := Lib.hid (fun W => refCheck_any r W)
  have HF := Lib.hid hf
  clear hf
  generalize lightR [r] 1 = lb at *
  obtain ⟨E, hE⟩ : ∃ E, E = checkR r := ⟨_, rfl⟩
  rw [← hE] at KP KQ KC KD
  generalize (if E = 0 then putR r else []) = b at *
  clear hE
  obtain ⟨kind, txn, ts, key, gone, val⟩ := r
  unfold Rec.v at *
  dsimp only at *
  have x0 := Lib.hid (RecBox.new w (kind : Int) txn ts key gone val)
  have BB := Lib.hid ((Below.refl w.heap.size w).alloc (Nat.le_refl _) (.cells #[.int .u8 (kind : Int), .int .i64 txn, .int .i64 ts, .string key, .bool gone, .string val] 23))
  go_enter Try.func3, Try.ntmps3
  go_upto_region 1 with fail
  generalize (w.alloc (.cells #[.int .u8 (kind : Int), .int .i64 txn, .int .i64 ts, .string key, .bool gone, .string val] 23)) = W0 at *
  have BX := x0
  obtain ⟨x0, x1, x2, x3, x4, x5, xf0, xf1, xf2, xf3, xf4, xf5⟩ := BX.out
  go_wp2_with fail
  have RC := Lib.hid (rcs_new W0 [⟨kind, txn, ts, key, gone, val⟩] #[.int .u8 (kind : Int), .int .i64 txn, .int .i64 ts, .string key, .bool gone, .string val] rfl (by intro r hr; simp only [List.mem_cons, List.not_mem_nil, or_false] at hr; subst hr; exact HF.out) 23)
  clear x0 x1 x2 x3 x4 x5 xf0 xf1 xf2 xf3 xf4 xf5
  have BX := Lib.hid (BX.out.below ((Below.refl W0.heap.size W0).alloc (Nat.le_refl _) (.cells #[.int .u8 (kind : Int), .int .i64 txn, .int .i64 ts, .string key, .bool gone, .string val] 23)) BX.out.lt)
  have BB := Lib.hid (BB.out.alloc BB.out.size (.cells #[.int .u8 (kind : Int), .int .i64 txn, .int .i64 ts, .string key, .bool gone, .string val] 23))
  clear x0
  generalize (W0.alloc (.cells #[.int .u8 (kind : Int), .int .i64 txn, .int .i64 ts, .string key, .bool gone, .string val] 23)) = W1 at *
  refine (KL.out _ _ RC.out).mono ?_
  rintro e w1 ⟨rfl, rfl⟩
  clear RC KL HF
  by_cases hlb : lb = true
  · subst hlb
    obtain ⟨x0, x1, x2, x3, x4, x5, xf0, xf1, xf2, xf3, xf4, xf5⟩ := BX.out
    go_wp2_with fail
    refine (KP.out _).mono ?_
    rintro e w3 ⟨v3, rfl, o3, b3⟩
    clear x0 x1 x2 x3 x4 x5 xf0 xf1 xf2 xf3 xf4 xf5
    have BX := Lib.hid (BX.out.below b3 BX.out.lt)
    have BB := Lib.hid (BB.out.trans (b3.mono BB.out.size))
    obtain ⟨A3, c3, rfl, hc3, r3⟩ := o3.form
    have R3 := Lib.hid r3
    clear o3 b3 r3 hc3
    obtain ⟨x0, x1, x2, x3, x4, x5, xf0, xf1, xf2, xf3, xf4, xf5⟩ := BX.out
    go_wp2_with fail
    refine (KQ.out _).mono ?_
    rintro e w4 ⟨v4, rfl, o4, b4⟩
    clear x0 x1 x2 x3 x4 x5 xf0 xf1 xf2 xf3 xf4 xf5
    have BX := Lib.hid (BX.out.below b4 BX.out.lt)
    have BB := Lib.hid (BB.out.trans (b4.mono BB.out.size))
    obtain ⟨A4, c4, rfl, hc4, r4⟩ := o4.form
    have R3 := Lib.hid (R3.out.below b4)
    have R4 := Lib.hid r4
    clear o4 b4 r4 hc4 KP KQ
    obtain ⟨X, hX⟩ : ∃ X, X = str b := ⟨_, rfl⟩
    have HS := Lib.hid (fun W (h : Below w4.heap.size w4 W) => (show W.cell? ⟨w.heap.size, 0, none⟩ = some (.int .u8 (kind : Int)) ∧ W.cell? ⟨w.heap.size, 1, none⟩ = some (.int .i64 txn) ∧ W.cell? ⟨w.heap.size, 2, none⟩ = some (.int .i64 ts) ∧ W.cell? ⟨w.heap.size, 3, none⟩ = some (.string key) ∧ W.cell? ⟨w.heap.size, 4, none⟩ = some (.bool gone) ∧ W.cell? ⟨w.heap.size, 5, none⟩ = some (.string val) ∧ (convert 27 9 (.slice A3 b.length c3)).run Try.prog W = .ok (.string X) W ∧ (convert 27 9 (.slice A4 b.length c4)).run Try.prog W = .ok (.string X) W from by
      obtain ⟨x0, x1, x2, x3, x4, x5, _⟩ := BX.out.below h BX.out.lt
      exact ⟨x0, x1, x2, x3, x4, x5, by rw [hX]; exact run_str W A3 b.length c3 b rfl (R3.out.below h), by rw [hX]; exact run_str W A4 b.length c4 b rfl (R4.out.below h)⟩))
    clear hX R3 R4
    have ST := Lib.hid (Below.refl w4.heap.size w4).drew
    have hXX : (X.toList == X.toList) = true := by simp
    have hEE : ((E : Int) == (E : Int)) = true := by simp
    go_upto_region 5 with fail
    have cc := HS.out _ ST.out
    go_region_held3 (fun W => W.cell? ⟨w.heap.size, 0, none⟩ = some (.int .u8 (kind : Int)) ∧ W.cell? ⟨w.heap.size, 1, none⟩ = some (.int .i64 txn) ∧ W.cell? ⟨w.heap.size, 2, none⟩ = some (.int .i64 ts) ∧ W.cell? ⟨w.heap.size, 3, none⟩ = some (.string key) ∧ W.cell? ⟨w.heap.size, 4, none⟩ = some (.bool gone) ∧ W.cell? ⟨w.heap.size, 5, none⟩ = some (.string val) ∧ (convert 27 9 (.slice A3 b.length c3)).run Try.prog W = .ok (.string X) W ∧ (convert 27 9 (.slice A4 b.length c4)).run Try.prog W = .ok (.string X) W) (first | with_reducible assumption | with_reducible exact cc | go_keep | fail)
      (first
        | (go_at_call 12; refine (KC.out _).mono ?_; rintro e w5 ⟨rfl, b5⟩; have ST := Lib.hid (ST.out.trans (b5.mono ST.out.size)); have cc := HS.out _ ST.out; clear b5)
        | (go_at_call 13; refine (KD.out _).mono ?_; rintro e w5 ⟨rfl, b5⟩; have ST := Lib.hid (ST.out.trans (b5.mono ST.out.size)); have cc := HS.out _ ST.out; clear b5)
        | (go_at_call 9; refine (KA.out _).mono ?_; rintro e w5 ⟨rfl, b5⟩; have ST := Lib.hid (ST.out.trans (b5.mono ST.out.size)); have cc := HS.out _ ST.out; clear b5)
        | fail)
    all_goals
      go_wp2_with fail
      go_ret
      exact ⟨rfl, BB.out.trans (ST.out.mono BB.out.size)⟩
  · have hlb' : lb = false := by simpa using hlb
    subst hlb'
    clear hlb
    go_wp2_with fail
    refine (KA.out _).mono ?_
    rintro e w3 ⟨rfl, b3⟩
    have BB := Lib.hid (BB.out.trans (b3.mono BB.out.size))
    clear b3
    go_wp2_with fail
    go_ret
    exact ⟨rfl, BB.out⟩
end Go.Proofs.Ytlohhbpncbnipaa
end
section
/- It is proved that the law WalrecPuts answers true for every record. No condition. -/
namespace Go.Proofs.Ytlohhbpncbnipaa.walrecPuts
open Go.ChangeShapes Go.WideShapes Go.ChangeAt Go.RowKit
set_option linter.unusedVariables false

theorem own : ownKnob Try.prog.godebug = none := by kernel_rfl
theorem laidOut : laidOutB Try.prog = true := by kernel_rfl

set_option maxRecDepth 100000 in
theorem lifted (os : Os) (started : os.Started) (H : Type) (enc : TypeId × Value → H) :
    ReturnsInHanded {} Try.checked os 3 .any (Rows.walrecPutsSpec.pre6 enc Try.prog Try.f3 Rows.walrecPutsRow.domain false) (Rows.walrecPutsSpec.post enc Try.prog Try.f3 false true false false) := by
  refine returnsInHanded_of_change (C := Try.checked) own started (by kernel_rfl) Try.func3
    (ChangeSpec.witness6 (enc := enc) (C := Try.checked) false ⟨#[], #[.agg #[.int .u8 0, .int .i64 0, .int .i64 0, .string ⟨#[]⟩, .bool false, .string ⟨#[]⟩]], []⟩ 8 (by kernel_rfl) (by kernel_rfl) (by kernel_rfl) (by kernel_rfl)) ?_
  intro W base args ds gs before hval0 hW hcnd _
  have hval : ∀ (j : Nat) t v, Try.f3.params[j]? = some t → args[j]? = some v → Value.okWide Try.prog W .any base t v := hval0
  have hW' := hW
  obtain ⟨p, q, hA0, hV, rfl, hfz, hnd⟩ := hW
  have hA : DataW.TrodAll enc Try.prog W 0 (fun _ => true) true Try.f3.params.toList args.toList ds p := hA0
  rw [Try.params3] at hA hval
  obtain ⟨v0, vs0, d0, ds0, p0, q0, hargs, rfl, rfl, h0, r0⟩ := trodAll_cons hA
  obtain ⟨rfl, rfl, rfl⟩ := trodAll_nil r0
  obtain rfl : args = #[v0] := by cases args; simp_all
  obtain ⟨rfl, rfl⟩ := trodVars_none hV
  have hv0 : ∃ cs, v0 = .agg cs := by
    have := hval 0 23 v0 rfl rfl
    simp only [Value.okWide, Try.underlying23] at this
    obtain ⟨cs, e, _⟩ := this
    exact ⟨cs, e⟩
  have k0 := h0
  have lt0 : ∀ x ∈ p0, x.block < W.heap.size := by obtain ⟨m, hm⟩ := k0; exact DataW.trod_lt m _ _ _ hm
  obtain ⟨rc0, f0, rfl⟩ := open_recv hv0 h0
  clear hA0 hval0
  refine (walrecPuts_core rc0 W f0).mono fun e W' ⟨he, bel⟩ => ?_
  subst he
  exact ⟨_, rfl, _, _, _, [], _, [], hW', trodAll_mk1 (shut_bool Try.underlying4 _), (trodAll_cons_mk (Below.trod laidOut (by kernel_rfl) (of_decide_eq_true (by kernel_rfl)) k0 bel lt0) trodAll_mk0), rfl, bel.frame _, fun h => by cases h⟩

theorem over : Rows.walrecPutsRow.holds Try.pinned (OpenSpec.ofChange Rows.walrecPutsSpec) :=
  OpenClaim.holds_of_wide 3 Try.f3 rfl rfl rfl rfl rfl rfl rfl ⟨rfl, rfl, rfl, rfl, rfl⟩ rfl rfl rfl rfl rfl (by kernel_rfl) Try.func3 (by kernel_rfl)
    (of_decide_eq_true (by kernel_rfl)) (by unfold Func.isWrapper; first | (rw [if_pos (by decide +kernel)]; kernel_rfl) | (rw [if_neg (by decide +kernel)]; exact ⟨rfl, rfl⟩))
    (fun os started H enc _ => lifted os started H enc)

theorem proved : Rows.WalrecPutsSaid := over
#print axioms proved
end Go.Proofs.Ytlohhbpncbnipaa.walrecPuts
end
