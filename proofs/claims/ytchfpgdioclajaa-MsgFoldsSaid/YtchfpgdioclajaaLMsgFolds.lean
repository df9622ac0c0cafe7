/- It is proved that the law MsgFolds answers true for every stack and every messages, and leaves them as they were. No condition. -/
import Derived.Test.YtchfpgdioclajaaKMsgFolds
import Derived.Test.YtchfpgdioclajaaVsO
import Derived.Test.YtchfpgdioclajaaMgA
import Derived.Test.YtchfpgdioclajaaGnP
import Derived.WalkKit
import Derived.ProofKit
import Derived.OpenShut
import Derived.ShutString
import Derived.ChangeOld
import Derived.Below
namespace Go.Proofs.Ytchfpgdioclajaa
open Go.ChangeShapes Go.WideShapes Go.ChangeAt Go.RowKit
set_option linter.unusedVariables false
abbrev Mst := UInt8 × List UInt8 × Int × Int × Bool × List UInt8
def KMt : CR Mst := CR.u8.prod (CR.str.prod ((CR.int .i64).prod ((CR.int .i64).prod (CR.bool.prod CR.str))))
def QMt (x : Mst) : Prop := True ∧ x.2.1.length ≤ maxLen ∧ InK .i64 x.2.2.1 ∧ InK .i64 x.2.2.2.1 ∧ True ∧ x.2.2.2.2.2.length ≤ maxLen
theorem opensMt : Opens Try.prog KMt QMt 54 := by
  refine opens_struct (K := KMt) (Q := QMt) Try.underlying54 (by kernel_rfl) ?_
  refine @opensF_cons Try.prog UInt8 (List UInt8 × Int × Int × Bool × List UInt8) CR.u8 (CR.str.prod ((CR.int .i64).prod ((CR.int .i64).prod (CR.bool.prod CR.str)))) (fun _ => True) (fun x => x.1.length ≤ maxLen ∧ InK .i64 x.2.1 ∧ InK .i64 x.2.2.1 ∧ True ∧ x.2.2.2.2.length ≤ maxLen) _ _ 0 (opens_u8 (by kernel_rfl)) rfl (by kernel_rfl) ?_
  refine @opensF_cons Try.prog (List UInt8) (Int × Int × Bool × List UInt8) CR.str ((CR.int .i64).prod ((CR.int .i64).prod (CR.bool.prod CR.str))) (fun x => x.length ≤ maxLen) (fun x => InK .i64 x.1 ∧ InK .i64 x.2.1 ∧ True ∧ x.2.2.2.length ≤ maxLen) _ _ 1 (opens_str (by kernel_rfl)) rfl (by kernel_rfl) ?_
  refine @opensF_cons Try.prog Int (Int × Bool × List UInt8) (CR.int .i64) ((CR.int .i64).prod (CR.bool.prod CR.str)) (fun x => InK .i64 x) (fun x => InK .i64 x.1 ∧ True ∧ x.2.2.length ≤ maxLen) _ _ 2 (opens_int (by kernel_rfl)) rfl (by kernel_rfl) ?_
  refine @opensF_cons Try.prog Int (Bool × List UInt8) (CR.int .i64) (CR.bool.prod CR.str) (fun x => InK .i64 x) (fun x => True ∧ x.2.length ≤ maxLen) _ _ 3 (opens_int (by kernel_rfl)) rfl (by kernel_rfl) ?_
  refine @opensF_cons Try.prog Bool (List UInt8) CR.bool CR.str (fun _ => True) (fun x => x.length ≤ maxLen) _ _ 4 (opens_bool (by kernel_rfl)) rfl (by kernel_rfl) ?_
  exact @opensF_last Try.prog (List UInt8) CR.str (fun x => x.length ≤ maxLen) _ 5 (opens_str (by kernel_rfl)) rfl (by kernel_rfl)
theorem kmt_cells {w : World} {cs : List Value} {x : Mst} (h : KMt.E w cs x) : KM.E w cs ⟨x.1, str x.2.1, x.2.2.1, x.2.2.2.1, x.2.2.2.2.1, str x.2.2.2.2.2⟩ := by
  obtain ⟨p0, q0, rfl, h0, p1, q1, rfl, h1, p2, q2, rfl, h2, p3, q3, rfl, h3, p4, q4, rfl, h4, h5⟩ := h
  have h0 : p0 = _ := h0
  have h1 : p1 = _ := h1
  have h2 : p2 = _ := h2
  have h3 : p3 = _ := h3
  have h4 : p4 = _ := h4
  have h5 : q4 = _ := h5
  subst h0 h1 h2 h3 h4 h5
  rfl
theorem opensM : Opens Try.prog KM (fun v => v.val.size ≤ maxLen) 54 := fun hf => by
  obtain ⟨a, h1, h2⟩ := opensMt hf
  exact ⟨_, kmt_cells h1, h2.2.2.2.2.2⟩
theorem opensMs : Opens Try.prog (CR.list KM) (fun l => ∀ x ∈ l, x.val.size ≤ maxLen) 50 := opens_list (K := KM) Try.underlying50 (by kernel_rfl) opensM
theorem open_msg {H : Type} {enc : TypeId × Value → H} {W : World} {base : Nat} {held : Bool} {v : Value} {d : DataW H} {p : List MemPlace} (hv : ∃ cs, v = .agg cs) (ht : DataW.Trod enc Try.prog W base (fun _ => true) held 54 v d p) :
    ∃ x : Ms, v = x.v := by
  obtain ⟨cs, a, e, h1, _⟩ := open_aggE opensM hv ht
  have h1 : cs = _ := h1
  subst h1
  exact ⟨a, e⟩
end Go.Proofs.Ytchfpgdioclajaa
namespace Go.Proofs.Ytchfpgdioclajaa.msgFolds
open Go.ChangeShapes Go.WideShapes Go.ChangeAt Go.RowKit
set_option linter.unusedVariables false

theorem own : ownKnob Try.prog.godebug = none := by kernel_rfl
theorem laidOut : laidOutB Try.prog = true := by kernel_rfl

set_option maxRecDepth 100000 in
theorem lifted (os : Os) (started : os.Started) (H : Type) (enc : TypeId × Value → H) :
    ReturnsInHanded {} Try.checked os 5 .any (Rows.msgFoldsSpec.pre6 enc Try.prog Try.f5 Rows.msgFoldsRow.domain false) (Rows.msgFoldsSpec.post enc Try.prog Try.f5 false true false false) := by
  refine returnsInHanded_of_change (C := Try.checked) own started (by kernel_rfl) Try.func5
    (ChangeSpec.witness6 (enc := enc) (C := Try.checked) false ⟨#[], #[.agg #[.string ⟨#[]⟩, .slice none 0 0], .slice none 0 0], []⟩ 8 (by kernel_rfl) (by kernel_rfl) (by kernel_rfl) (by kernel_rfl)) ?_
  intro W base args ds gs before hval0 hW hcnd _
  have hval : ∀ (j : Nat) t v, Try.f5.params[j]? = some t → args[j]? = some v → Value.okWide Try.prog W .any base t v := hval0
  have hW' := hW
  obtain ⟨p, q, hA0, hV, rfl, hfz, hnd⟩ := hW
  have hA : DataW.TrodAll enc Try.prog W 0 (fun _ => true) true Try.f5.params.toList args.toList ds p := hA0
  rw [Try.params5] at hA hval
  obtain ⟨v0, vs0, d0, ds0, p0, q0, hargs, rfl, rfl, h0, r0⟩ := trodAll_cons hA
  obtain ⟨v1, vs1, d1, ds1, p1, q1, rfl, rfl, rfl, h1, r1⟩ := trodAll_cons r0
  obtain ⟨rfl, rfl, rfl⟩ := trodAll_nil r1
  obtain rfl : args = #[v0, v1] := by cases args; simp_all
  obtain ⟨rfl, rfl⟩ := trodVars_none hV
  have hv0 : ∃ cs, v0 = .agg cs := by
    have := hval 0 24 v0 rfl rfl
    simp only [Value.okWide, Try.underlying24] at this
    obtain ⟨cs, e, _⟩ := this
    exact ⟨cs, e⟩
  have k0 := h0
  have lt0 : ∀ x ∈ p0, x.block < W.heap.size := by obtain ⟨m, hm⟩ := k0; exact DataW.trod_lt m _ _ _ hm
  have hv1 : ∃ A n c, v1 = .slice A n c := by
    obtain ⟨A, n, c, e⟩ := okWide_slice Try.underlying50 (hval 1 50 v1 rfl rfl)
    exact ⟨A, n, c, e⟩
  have k1 := h1
  have lt1 : ∀ x ∈ p1, x.block < W.heap.size := by obtain ⟨m, hm⟩ := k1; exact DataW.trod_lt m _ _ _ hm
  obtain ⟨key0, A0, c0, l0, rfl, hc0, hm0, hr0⟩ := open_stack hv0 h0
  obtain ⟨A1, c1, l1, rfl, hc1, hm1, hr1, hq1⟩ := open_list opensMs hv1 h1
  clear hA0 hval0
  refine (msgFolds_core key0 A0 l0.length c0 l0 A1 l1.length c1 l1 W rfl (Nat.le_trans hc0 hm0) hc0 hr0 rfl (Nat.le_trans hc1 hm1) hc1 hr1).mono fun e W' ⟨he, bel⟩ => ?_
  subst he
  exact ⟨_, rfl, _, _, _, [], _, [], hW', trodAll_mk1 (shut_bool Try.underlying4 _), (trodAll_cons_mk (Below.trod laidOut (by kernel_rfl) (of_decide_eq_true (by kernel_rfl)) k0 bel lt0) (trodAll_cons_mk (Below.trod laidOut (by kernel_rfl) (of_decide_eq_true (by kernel_rfl)) k1 bel lt1) trodAll_mk0)), rfl, bel.frame _, fun h => by cases h⟩

theorem over : Rows.msgFoldsRow.holds Try.pinned (OpenSpec.ofChange Rows.msgFoldsSpec) :=
  OpenClaim.holds_of_wide 5 Try.f5 rfl rfl rfl rfl rfl rfl rfl ⟨rfl, rfl, rfl, rfl, rfl⟩ rfl rfl rfl rfl rfl (by kernel_rfl) Try.func5 (by kernel_rfl)
    (of_decide_eq_true (by kernel_rfl)) (by unfold Func.isWrapper; first | (rw [if_pos (by decide +kernel)]; kernel_rfl) | (rw [if_neg (by decide +kernel)]; exact ⟨rfl, rfl⟩))
    (fun os started H enc _ => lifted os started H enc)

theorem proved : Rows.MsgFoldsSaid := over
#print axioms proved
end Go.Proofs.Ytchfpgdioclajaa.msgFolds
