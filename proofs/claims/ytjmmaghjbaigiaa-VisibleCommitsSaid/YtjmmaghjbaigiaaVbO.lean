/- Two numbers that come in; pairs of a stack; the frames' words for visible. -/
import Derived.Test.YtjmmaghjbaigiaaVsO
import Derived.ProofKit
import Derived.OpenShut
namespace Go.Proofs.Ytjmmaghjbaigiaa
open Go.ChangeShapes Go.WideShapes Go.ChangeAt Go.RowKit
set_option linter.unusedVariables false
theorem vbList2 {α : Type} (l : List α) (h : l.length = 2) : ∃ a b, l = [a, b] := by
  match l, h with
  | [a, b], _ => exact ⟨a, b, rfl⟩
theorem vbCellsTwo : Try.prog.cellsOf 57 = 2 := by kernel_rfl
theorem vbCellsU32 : Try.prog.cellsOf 56 = 1 := by kernel_rfl
set_option maxRecDepth 100000 in
theorem open_twoV {H : Type} {enc : TypeId × Value → H} {W : World} {base : Nat} {held : Bool} {v : Value} {d : DataW H} {p : List MemPlace} (hv : ∃ cs, v = .agg cs) (h : DataW.Trod enc Try.prog W base (fun _ => true) held 57 v d p) : ∃ a b : Nat, a < 4294967296 ∧ b < 4294967296 ∧ v = .agg #[.int .u32 (a : Int), .int .u32 (b : Int)] := by
  obtain ⟨cs, rfl⟩ := hv
  obtain ⟨fuel, hf⟩ := h
  obtain ⟨xs, k, _, _, hl, hxl, hx⟩ := DataW.trod_array Try.underlying57 hf
  rw [vbCellsTwo] at hl
  obtain ⟨c0, c1, hc⟩ := vbList2 _ hl
  have h0 := hx 0 (by omega)
  have h1 := hx 1 (by omega)
  rw [hc, vbCellsU32] at h0 h1
  simp only [Nat.zero_mul, List.drop_zero, List.take_succ_cons, List.take_zero, Nat.one_mul, List.drop_succ_cons] at h0 h1
  obtain ⟨x0, x1, rfl⟩ := vbList2 xs hxl
  simp only [List.getElem?_cons_zero, List.getElem?_cons_succ] at h0 h1
  obtain ⟨a0, e0, _, w0⟩ := DataW.trod_int Try.underlying56 h0
  obtain ⟨a1, e1, _, w1⟩ := DataW.trod_int Try.underlying56 h1
  simp at e0 e1
  subst e0 e1
  have b0 := bounds_u32 w0
  have b1 := bounds_u32 w1
  obtain ⟨n, rfl⟩ := Int.eq_ofNat_of_zero_le b0.1
  obtain ⟨m, rfl⟩ := Int.eq_ofNat_of_zero_le b1.1
  refine ⟨n, m, by omega, by omega, ?_⟩
  simp only [Value.cells] at hc
  have hcs : cs = #[.int .u32 (n : Int), .int .u32 (m : Int)] := by
    apply Array.toList_inj.1
    simpa using hc
  rw [hcs]
theorem opensSts : Opens Try.prog (CR.list KSt) (fun l => ∀ x ∈ l, x.1.length ≤ maxLen ∧ ∀ y ∈ x.2, y.val.size ≤ maxLen) 51 := opens_list (K := KSt) Try.underlying51 (by kernel_rfl) opensSt
end Go.Proofs.Ytjmmaghjbaigiaa
