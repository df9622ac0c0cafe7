/- How an array of two numbers, or of two slices of bytes, that came in reads. -/
import Derived.Test.YtgjahlknefobeaaRow
import Derived.ProofKit
import Derived.OpenShut
namespace Go.Proofs.Ytgjahlknefobeaa
open Go.ChangeShapes Go.WideShapes Go.ChangeAt Go.RowKit

theorem Try.cells51 : Try.prog.cellsOf 51 = 2 := by kernel_rfl
theorem Try.cells37 : Try.prog.cellsOf 37 = 1 := by kernel_rfl
theorem Try.cells48 : Try.prog.cellsOf 48 = 2 := by kernel_rfl
theorem Try.cells22 : Try.prog.cellsOf 22 = 1 := by kernel_rfl

theorem list2 {α : Type} (l : List α) (h : l.length = 2) : ∃ a b, l = [a, b] := by
  match l, h with
  | [a, b], _ => exact ⟨a, b, rfl⟩

theorem open_arr_u64 {H : Type} {enc : TypeId × Value → H} {W : World} {base : Nat} {spare : Nat → Bool} {held : Bool} {v : Value} {d : DataW H} {p : List MemPlace}
    (hv : ∃ cs, v = .agg cs) (h : DataW.Trod enc Try.prog W base spare held 51 v d p) : ∃ n m : Nat, v = .agg #[.int .u64 (n : Int), .int .u64 (m : Int)] ∧ n < 18446744073709551616 ∧ m < 18446744073709551616 := by
  obtain ⟨cs, rfl⟩ := hv
  obtain ⟨fuel, hf⟩ := h
  obtain ⟨xs, k, _, _, hl, hxl, hx⟩ := DataW.trod_array Try.underlying51 hf
  rw [Try.cells51] at hl
  obtain ⟨c0, c1, hc⟩ := list2 _ hl
  have h0 := hx 0 (by omega)
  have h1 := hx 1 (by omega)
  rw [hc, Try.cells37] at h0 h1
  simp only [Nat.zero_mul, List.drop_zero, List.take_succ_cons, List.take_zero, Nat.one_mul, List.drop_succ_cons] at h0 h1
  obtain ⟨x0, x1, rfl⟩ := list2 xs hxl
  simp only [List.getElem?_cons_zero, List.getElem?_cons_succ] at h0 h1
  obtain ⟨a0, e0, _, w0⟩ := DataW.trod_int Try.underlying37 h0
  obtain ⟨a1, e1, _, w1⟩ := DataW.trod_int Try.underlying37 h1
  simp at e0 e1
  subst e0 e1
  have b0 := bounds_u64 w0
  have b1 := bounds_u64 w1
  obtain ⟨n, rfl⟩ := Int.eq_ofNat_of_zero_le b0.1
  obtain ⟨m, rfl⟩ := Int.eq_ofNat_of_zero_le b1.1
  refine ⟨n, m, ?_, by omega, by omega⟩
  simp only [Value.cells] at hc
  have hcs : cs = #[.int .u64 (n : Int), .int .u64 (m : Int)] := by
    apply Array.toList_inj.1
    simpa using hc
  rw [hcs]

theorem open_arr_bytes {H : Type} {enc : TypeId × Value → H} {W : World} {base : Nat} {spare : Nat → Bool} {held : Bool} {v : Value} {d : DataW H} {p : List MemPlace} (hsp : ∀ b, spare b = true)
    (hv : ∃ cs, v = .agg cs) (h : DataW.Trod enc Try.prog W base spare held 48 v d p) :
    ∃ (A B : Option Addr) (n c m e : Nat) (a b : List UInt8), v = .agg #[.slice A n c, .slice B m e] ∧ a.length = n ∧ n ≤ c ∧ RB W A a ∧ b.length = m ∧ m ≤ e ∧ RB W B b := by
  obtain ⟨cs, rfl⟩ := hv
  obtain ⟨fuel, hf⟩ := h
  obtain ⟨xs, k, _, _, hl, hxl, hx⟩ := DataW.trod_array Try.underlying48 hf
  rw [Try.cells48] at hl
  obtain ⟨c0, c1, hc⟩ := list2 _ hl
  have h0 := hx 0 (by omega)
  have h1 := hx 1 (by omega)
  rw [hc, Try.cells22] at h0 h1
  simp only [Nat.zero_mul, List.drop_zero, List.take_succ_cons, List.take_zero, Nat.one_mul, List.drop_succ_cons] at h0 h1
  obtain ⟨x0, x1, rfl⟩ := list2 xs hxl
  simp only [List.getElem?_cons_zero, List.getElem?_cons_succ] at h0 h1
  have key : ∀ {c : Value} {x : DataW H × List MemPlace}, DataW.trod enc Try.prog W base spare held k 22 [c] = some x → ∃ (A : Option Addr) (n cc : Nat) (a : List UInt8), c = .slice A n cc ∧ a.length = n ∧ n ≤ cc ∧ RB W A a := by
    intro c x hh
    rcases open_ints Try.underlying22 Try.underlying5 (by kernel_rfl) hh with ⟨hcs, _⟩ | ⟨y, l, cc, zs, hcs, _, hl', hm, hz, _, hcell, hwz⟩
    · simp at hcs
      exact ⟨none, 0, 0, [], hcs, rfl, Nat.le_refl _, .inl rfl⟩
    · simp at hcs
      rw [hsp] at hz
      obtain ⟨a, h1, h2, _, h4⟩ := rb_of_row (w := W) (a := some y) (len := l) (cap := cc) (zs := zs) (.inr ⟨y, rfl, hl', hm, by simpa using hz, hcell, hwz⟩)
      exact ⟨some y, l, cc, a, hcs, h1, h2, h4⟩
  obtain ⟨A, n, cc, a, rfl, ha1, ha2, ha3⟩ := key h0
  obtain ⟨B, m, ee, b, rfl, hb1, hb2, hb3⟩ := key h1
  refine ⟨A, B, n, cc, m, ee, a, b, ?_, ha1, ha2, ha3, hb1, hb2, hb3⟩
  simp only [Value.cells] at hc
  have hcs : cs = #[.slice A n cc, .slice B m ee] := by
    apply Array.toList_inj.1
    simpa using hc
  rw [hcs]
end Go.Proofs.Ytgjahlknefobeaa
