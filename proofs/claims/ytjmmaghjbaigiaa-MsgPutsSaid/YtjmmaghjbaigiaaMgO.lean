/- Messages that come in. -/
import Derived.Test.YtjmmaghjbaigiaaMgA
import Derived.Test.YtjmmaghjbaigiaaGnP
namespace Go.Proofs.Ytjmmaghjbaigiaa
open Go.ChangeShapes Go.WideShapes Go.ChangeAt Go.RowKit
set_option linter.unusedVariables false
abbrev Mst := UInt8 × List UInt8 × Int × Int × Bool × List UInt8
def KMt : CR Mst := CR.u8.prod (CR.str.prod ((CR.int .i64).prod ((CR.int .i64).prod (CR.bool.prod CR.str))))
def QMt (x : Mst) : Prop := True ∧ x.2.1.length ≤ maxLen ∧ InK .i64 x.2.2.1 ∧ InK .i64 x.2.2.2.1 ∧ True ∧ x.2.2.2.2.2.length ≤ maxLen
theorem opensMt : Opens Try.prog KMt QMt 40 := by
  refine opens_struct (K := KMt) (Q := QMt) Try.underlying40 (by kernel_rfl) ?_
  refine @opensF_cons Try.prog UInt8 (List UInt8 × Int × Int × Bool × List UInt8) CR.u8 (CR.str.prod ((CR.int .i64).prod ((CR.int .i64).prod (CR.bool.prod CR.str)))) (fun _ => True) (fun x => x.1.length ≤ maxLen ∧ InK .i64 x.2.1 ∧ InK .i64 x.2.2.1 ∧ True ∧ x.2.2.2.2.length ≤ maxLen) _ _ 0 (opens_u8 (by kernel_rfl)) rfl (by kernel_rfl) ?_
  refine @opensF_cons Try.prog (List UInt8) (Int × Int × Bool × List UInt8) CR.str ((CR.int .i64).prod ((CR.int .i64).prod (CR.bool.prod CR.str))) (fun x => x.length ≤ maxLen) (fun x => InK .i64 x.1 ∧ InK .i64 x.2.1 ∧ True ∧ x.2.2.2.length ≤ maxLen) _ _ 1 (opens_str (by kernel_rfl)) rfl (by kernel_rfl) ?_
  refine @opensF_cons Try.prog Int (Int × Bool × List UInt8) (CR.int .i64) ((CR.int .i64).prod (CR.bool.prod CR.str)) (fun x => InK .i64 x) (fun x => InK .i64 x.1 ∧ True ∧ x.2.2.length ≤ maxLen) _ _ 2 (opens_int (by kernel_rfl)) rfl (by kernel_rfl) ?_
  refine @opensF_cons Try.prog Int (Bool × List UInt8) (CR.int .i64) (CR.bool.prod CR.str) (fun x => InK .i64 x) (fun x => True ∧ x.2.length ≤ maxLen) _ _ 3 (opens_int (by kernel_rfl)) rfl (by kernel_rfl) ?_
  refine @opensF_cons Try.prog Bool (List UInt8) CR.bool CR.str (fun _ => True) (fun x => x.length ≤ maxLen) _ _ 4 (opens_bool (by kernel_rfl)) rfl (by kernel_rfl) ?_
  exact @opensF_last Try.prog (List UInt8) CR.str (fun x => x.length ≤ maxLen) _ 5 (opens_str (by kernel_rfl)) rfl (by kernel_rfl)
theorem kmt_cells {w : World} {cs : List Value} {x : Mst} (h : KMt.E w cs x) : KM.E w cs ⟨x.1, str x.2.1, x.2.2.1, x.2.2.2.1, x.2.2.2.2.1, str x.2.2.2.2.2⟩ := by
  obtain ⟨p0, q0, rfl, h0, p1, q1, rfl, h1, p2, q2, rfl, h2, p3, q3, rfl, h3, p4, q4, rfl, h4, h5⟩ := h
  have h0 : p0 = _ := h0
  have h1 : p1 = _ := h1
  have h2 : p2 = _ := h2
  have h3 : p3 = _ := h3
  have h4 : p4 = _ := h4
  have h5 : q4 = _ := h5
  subst h0 h1 h2 h3 h4 h5
  rfl
theorem opensM : Opens Try.prog KM (fun v => v.val.size ≤ maxLen) 40 := fun hf => by
  obtain ⟨a, h1, h2⟩ := opensMt hf
  exact ⟨_, kmt_cells h1, h2.2.2.2.2.2⟩
theorem opensMs : Opens Try.prog (CR.list KM) (fun l => ∀ x ∈ l, x.val.size ≤ maxLen) 42 := opens_list (K := KM) Try.underlying42 (by kernel_rfl) opensM
theorem open_msg {H : Type} {enc : TypeId × Value → H} {W : World} {base : Nat} {held : Bool} {v : Value} {d : DataW H} {p : List MemPlace} (hv : ∃ cs, v = .agg cs) (ht : DataW.Trod enc Try.prog W base (fun _ => true) held 40 v d p) :
    ∃ x : Ms, v = x.v := by
  obtain ⟨cs, a, e, h1, _⟩ := open_aggE opensM hv ht
  have h1 : cs = _ := h1
  subst h1
  exact ⟨a, e⟩
end Go.Proofs.Ytjmmaghjbaigiaa
