/- Stacks, versions and calls that come in. -/
import Derived.Test.YtjmmaghjbaigiaaVsA
import Derived.Test.YtjmmaghjbaigiaaGnP
namespace Go.Proofs.Ytjmmaghjbaigiaa
open Go.ChangeShapes Go.WideShapes Go.ChangeAt Go.RowKit
set_option linter.unusedVariables false
abbrev Vt := Int × Int × Bool × List UInt8
def KVt : CR Vt := (CR.int .i64).prod ((CR.int .i64).prod (CR.bool.prod CR.str))
theorem opensVt : Opens Try.prog KVt (fun x => InK .i64 x.1 ∧ InK .i64 x.2.1 ∧ True ∧ x.2.2.2.length ≤ maxLen) 66 := by
  refine opens_struct (K := KVt) (Q := fun x => InK .i64 x.1 ∧ InK .i64 x.2.1 ∧ True ∧ x.2.2.2.length ≤ maxLen) Try.underlying66 (by kernel_rfl) ?_
  refine @opensF_cons Try.prog Int (Int × Bool × List UInt8) (CR.int .i64) ((CR.int .i64).prod (CR.bool.prod CR.str)) (fun x => InK .i64 x) (fun x => InK .i64 x.1 ∧ True ∧ x.2.2.length ≤ maxLen) _ _ 0 (opens_int (by kernel_rfl)) rfl (by kernel_rfl) ?_
  refine @opensF_cons Try.prog Int (Bool × List UInt8) (CR.int .i64) (CR.bool.prod CR.str) (fun x => InK .i64 x) (fun x => True ∧ x.2.length ≤ maxLen) _ _ 1 (opens_int (by kernel_rfl)) rfl (by kernel_rfl) ?_
  refine @opensF_cons Try.prog Bool (List UInt8) CR.bool CR.str (fun _ => True) (fun x => x.length ≤ maxLen) _ _ 2 (opens_bool (by kernel_rfl)) rfl (by kernel_rfl) ?_
  exact @opensF_last Try.prog (List UInt8) CR.str (fun x => x.length ≤ maxLen) _ 3 (opens_str (by kernel_rfl)) rfl (by kernel_rfl)
theorem kvt_cells {w : World} {cs : List Value} {x : Vt} (h : KVt.E w cs x) : KV.E w cs ⟨x.1, x.2.1, x.2.2.1, str x.2.2.2⟩ := by
  obtain ⟨p0, q0, rfl, h0, p1, q1, rfl, h1, p2, q2, rfl, h2, h3⟩ := h
  have h0 : p0 = _ := h0
  have h1 : p1 = _ := h1
  have h2 : p2 = _ := h2
  have h3 : q2 = _ := h3
  subst h0 h1 h2 h3
  rfl
theorem opensV : Opens Try.prog KV (fun v => v.val.size ≤ maxLen) 66 := fun hf => by
  obtain ⟨a, h1, h2⟩ := opensVt hf
  exact ⟨_, kvt_cells h1, h2.2.2.2⟩
theorem opensVs : Opens Try.prog (CR.list KV) (fun l => ∀ x ∈ l, x.val.size ≤ maxLen) 22 := opens_list (K := KV) Try.underlying22 (by kernel_rfl) opensV
abbrev Stt := List UInt8 × List Vn
def KSt : CR Stt := CR.str.prod (CR.list KV)
theorem opensSt : Opens Try.prog KSt (fun x => x.1.length ≤ maxLen ∧ ∀ y ∈ x.2, y.val.size ≤ maxLen) 24 := by
  refine opens_struct (K := KSt) (Q := fun x => x.1.length ≤ maxLen ∧ ∀ y ∈ x.2, y.val.size ≤ maxLen) Try.underlying24 (by kernel_rfl) ?_
  refine @opensF_cons Try.prog (List UInt8) (List Vn) CR.str (CR.list KV) (fun x => x.length ≤ maxLen) (fun x => ∀ y ∈ x, y.val.size ≤ maxLen) _ _ 0 (opens_str (by kernel_rfl)) rfl (by kernel_rfl) ?_
  exact @opensF_last Try.prog (List Vn) (CR.list KV) (fun x => ∀ y ∈ x, y.val.size ≤ maxLen) _ 1 opensVs rfl (by kernel_rfl)
theorem kst_cells {w : World} {cs : List Value} {x : Stt} (h : KSt.E w cs x) : ∃ A c, cs = [.string (str x.1), .slice A x.2.length c] ∧ x.2.length ≤ c ∧ c ≤ maxLen ∧ RG KV w A x.2 := by
  obtain ⟨p0, q0, rfl, h0, A, c, rfl, h1, h2, h3⟩ := h
  have h0 : p0 = _ := h0
  subst h0
  exact ⟨A, c, rfl, h1, h2, h3⟩
/-- A stack that comes in. -/
theorem open_stack {H : Type} {enc : TypeId × Value → H} {W : World} {base : Nat} {held : Bool} {v : Value} {d : DataW H} {p : List MemPlace} (hv : ∃ cs, v = .agg cs) (ht : DataW.Trod enc Try.prog W base (fun _ => true) held 24 v d p) :
    ∃ (key : ByteArray) (A : Option Addr) (c : Nat) (l : List Vn), v = .agg #[.string key, .slice A l.length c] ∧ l.length ≤ c ∧ c ≤ maxLen ∧ RG KV W A l := by
  obtain ⟨cs, a, e, h1, _⟩ := open_aggE opensSt hv ht
  obtain ⟨A, c, rfl, h2, h3, h4⟩ := kst_cells h1
  exact ⟨_, A, c, _, e, h2, h3, h4⟩
/-- A version that comes in. -/
theorem open_version {H : Type} {enc : TypeId × Value → H} {W : World} {base : Nat} {held : Bool} {v : Value} {d : DataW H} {p : List MemPlace} (hv : ∃ cs, v = .agg cs) (ht : DataW.Trod enc Try.prog W base (fun _ => true) held 66 v d p) :
    ∃ x : Vn, v = x.v := by
  obtain ⟨cs, a, e, h1, _⟩ := open_aggE opensV hv ht
  have h1 : cs = _ := h1
  subst h1
  exact ⟨a, e⟩
abbrev Askt := UInt8 × Vn × Int
def KAsk : CR Askt := CR.u8.prod (KV.prod (CR.int .i64))
def askCs (a : Askt) : List Value := [.int .u8 (a.1.toNat : Int), .int .i64 a.2.1.txn, .int .i64 a.2.1.ts, .bool a.2.1.gone, .string a.2.1.val, .int .i64 a.2.2]
theorem kask_cells {w : World} {cs : List Value} {a : Askt} (h : KAsk.E w cs a) : cs = askCs a := by
  obtain ⟨p0, q0, rfl, h0, p1, q1, rfl, h1, h2⟩ := h
  have h0 : p0 = _ := h0
  have h1 : p1 = _ := h1
  have h2 : q1 = _ := h2
  subst h0 h1 h2
  rfl
theorem ask_flat : KAsk.Flat := fun w cs a b h => by
  obtain ⟨p, q, _, _, h2, h3⟩ := h
  rcases h3 with h3 | h3
  · exact h3
  · obtain ⟨p2, q2, _, _, _, h3⟩ := h3
    rcases h3 with h3 | h3
    · exact h3
    · exact h3
end Go.Proofs.Ytjmmaghjbaigiaa
