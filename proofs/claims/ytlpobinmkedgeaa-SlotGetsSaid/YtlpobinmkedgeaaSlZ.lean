/- How what comes in to the laws of slots reads: bytes, numbers, fates, lists of sectors. -/
import Derived.Test.YtlpobinmkedgeaaSlE
import Derived.ProofKit
import Derived.OpenShut
import Derived.Deep.Matrix
namespace Go.Proofs.Ytlpobinmkedgeaa
open Go.ChangeShapes Go.WideShapes Go.ChangeAt Go.RowKit Go.Deep
set_option linter.unusedVariables false
theorem list_of {α : Type} {Pr : Nat → α → Prop} : ∀ (n : Nat), (∀ i, i < n → ∃ a, Pr i a) → ∃ l : List α, l.length = n ∧ ∀ i a, l[i]? = some a → Pr i a
  | 0, _ => ⟨[], rfl, fun i a h => by simp at h⟩
  | n + 1, h => by
    obtain ⟨l, hl, hp⟩ := list_of n (fun i hi => h i (by omega))
    obtain ⟨a, ha⟩ := h n (by omega)
    refine ⟨l ++ [a], by simp [hl], fun i b hb => ?_⟩
    rcases Nat.lt_or_ge i l.length with hlt | hge
    · rw [List.getElem?_append_left hlt] at hb
      exact hp i b hb
    · rw [List.getElem?_append_right hge] at hb
      have : i - l.length = 0 := by
        rcases Nat.eq_zero_or_pos (i - l.length) with e | e
        · exact e
        · rw [List.getElem?_eq_none (by simp; omega)] at hb; cases hb
      rw [this] at hb
      simp at hb
      subst hb
      have : i = n := by omega
      subst this
      exact ha
theorem take1 {l : List Value} {i : Nat} (h : i < l.length) : (l.drop i).take 1 = [l[i]] := by
  rw [List.drop_eq_getElem_cons h]
  rfl
theorem byte_of {n : Int} (h : (Lit.int .u8 n).wf = true) : ∃ x : UInt8, n = (x.toNat : Int) := by
  have hb := bounds_u8 h
  refine ⟨UInt8.ofNat n.toNat, ?_⟩
  rw [ofNat_toNat]
  omega
theorem Try.cellsU8 : Try.prog.cellsOf 5 = 1 := by kernel_rfl
theorem Try.cellsU32 : Try.prog.cellsOf 40 = 1 := by kernel_rfl
theorem Try.cellsBytes : Try.prog.cellsOf 22 = 1 := by kernel_rfl
theorem Try.cellsRows : Try.prog.cellsOf 24 = 1 := by kernel_rfl
theorem Try.cellsFate : Try.prog.cellsOf 44 = 2 := by kernel_rfl
theorem Try.cellsFates : Try.prog.cellsOf 45 = 8 := by kernel_rfl
theorem Try.cellsTwoN : Try.prog.cellsOf 41 = 2 := by kernel_rfl
theorem Try.cellsTwoB : Try.prog.cellsOf 42 = 2 := by kernel_rfl
theorem list2 {α : Type} (l : List α) (h : l.length = 2) : ∃ a b, l = [a, b] := by
  match l, h with
  | [a, b], _ => exact ⟨a, b, rfl⟩
section
variable {H : Type} {enc : TypeId × Value → H} {W : World} {base : Nat} {held : Bool}
theorem open_bytes {k : Nat} {c : Value} {x : DataW H × List MemPlace} (hh : DataW.trod enc Try.prog W base (fun _ => true) held k 22 [c] = some x) :
    ∃ (A : Option Addr) (cc : Nat) (a : List UInt8), c = .slice A a.length cc ∧ a.length ≤ cc ∧ cc ≤ maxLen ∧ RB W A a := by
  rcases open_ints Try.underlying22 Try.underlying5 (by kernel_rfl) hh with ⟨hcs, _⟩ | ⟨y, l, cc, zs, hcs, _, hl', hm, hz, _, hcell, hwz⟩
  · simp at hcs
    exact ⟨none, 0, [], hcs, Nat.le_refl _, Nat.zero_le _, .inl rfl⟩
  · simp at hcs
    obtain ⟨a, h1, h2, h3, h4⟩ := rb_of_row (w := W) (a := some y) (len := l) (cap := cc) (zs := zs) (.inr ⟨y, rfl, hl', hm, by simpa using hz, hcell, hwz⟩)
    subst h1
    exact ⟨some y, cc, a, hcs, h2, h3, h4⟩
theorem open_fate {k : Nat} {cs : List Value} {x : DataW H × List MemPlace} (hf : DataW.trod enc Try.prog W base (fun _ => true) held k 44 cs = some x) (hl : cs.length = 2) : ∃ a b : UInt8, cs = [cellB a, cellB b] := by
  obtain ⟨c0, c1, rfl⟩ := list2 cs hl
  obtain ⟨xs, n, _, _, _, hxl, hg⟩ := DataW.trod_struct Try.underlying44 hf
  have g0 : DataW.trod enc Try.prog W base (fun _ => true) held n 5 (([c0, c1].drop 0).take (Try.prog.cellsOf 5)) = xs[0]? := hg 0 _ rfl
  have g1 : DataW.trod enc Try.prog W base (fun _ => true) held n 5 (([c0, c1].drop 1).take (Try.prog.cellsOf 5)) = xs[1]? := hg 1 _ rfl
  rw [Try.cellsU8] at g0 g1
  have hxs : xs.length = 2 := hxl
  rw [List.getElem?_eq_getElem (by omega)] at g0 g1
  obtain ⟨z0, e0, _, w0⟩ := DataW.trod_int Try.underlying5 g0
  obtain ⟨z1, e1, _, w1⟩ := DataW.trod_int Try.underlying5 g1
  obtain ⟨x0, rfl⟩ := byte_of w0
  obtain ⟨x1, rfl⟩ := byte_of w1
  simp at e0 e1
  exact ⟨x0, x1, by rw [e0, e1]; rfl⟩
theorem open_fates {v : Value} {d : DataW H} {p : List MemPlace} (hv : ∃ cs, v = .agg cs) (h : DataW.Trod enc Try.prog W base (fun _ => true) held 45 v d p) : ∃ M : List UInt8, M.length = 8 ∧ v = .agg (cellsB M).toArray := by
  obtain ⟨cs, rfl⟩ := hv
  obtain ⟨fuel, hf⟩ := h
  obtain ⟨xs, k, _, _, hl, hxl, hx⟩ := DataW.trod_array Try.underlying45 hf
  rw [Try.cellsFates] at hl
  have hl' : cs.toList.length = 8 := hl
  have two : ∀ i, i < 4 → ∃ a b : UInt8, (cs.toList.drop (i * 2)).take 2 = [cellB a, cellB b] := fun i hi => by
    have h0 := hx i (by omega)
    rw [Try.cellsFate] at h0
    rw [List.getElem?_eq_getElem (by omega)] at h0
    have h0' : DataW.trod enc Try.prog W base (fun _ => true) held k 44 ((cs.toList.drop (i * 2)).take 2) = some xs[i] := h0
    exact open_fate h0' (by rw [List.length_take, List.length_drop, hl']; omega)
  obtain ⟨M, hM, hp⟩ := list_of (Pr := fun i (x : UInt8) => cs.toList[i]? = some (cellB x)) 8 (fun i hi => by
    obtain ⟨a, b, e⟩ := two (i / 2) (by omega)
    have e0 : cs.toList[i / 2 * 2]? = some (cellB a) := by
      have h1 := congrArg (fun l => l[0]?) e
      simpa [List.getElem?_take, List.getElem?_drop] using h1
    have e1 : cs.toList[i / 2 * 2 + 1]? = some (cellB b) := by
      have h1 := congrArg (fun l => l[1]?) e
      simpa [List.getElem?_take, List.getElem?_drop] using h1
    by_cases hp : i % 2 = 0
    · exact ⟨a, by rw [show i = i / 2 * 2 by omega]; exact e0⟩
    · exact ⟨b, by rw [show i = i / 2 * 2 + 1 by omega]; exact e1⟩)
  refine ⟨M, hM, ?_⟩
  have : cs.toList = cellsB M := by
    apply List.ext_getElem?
    intro i
    rcases Nat.lt_or_ge i 8 with hi | hi
    · rw [hp i _ (List.getElem?_eq_getElem (by omega))]
      simp [cellsB, List.getElem?_eq_getElem (show i < M.length by omega)]
    · rw [List.getElem?_eq_none (by omega), List.getElem?_eq_none (by rw [length_cellsB]; omega)]
  rw [← this]
theorem open_twoN {v : Value} {d : DataW H} {p : List MemPlace} (hv : ∃ cs, v = .agg cs) (h : DataW.Trod enc Try.prog W base (fun _ => true) held 41 v d p) : ∃ a b : Nat, a < 4294967296 ∧ b < 4294967296 ∧ v = .agg #[.int .u32 (a : Int), .int .u32 (b : Int)] := by
  obtain ⟨cs, rfl⟩ := hv
  obtain ⟨fuel, hf⟩ := h
  obtain ⟨xs, k, _, _, hl, hxl, hx⟩ := DataW.trod_array Try.underlying41 hf
  rw [Try.cellsTwoN] at hl
  obtain ⟨c0, c1, hc⟩ := list2 _ hl
  have h0 := hx 0 (by omega)
  have h1 := hx 1 (by omega)
  rw [hc, Try.cellsU32] at h0 h1
  simp only [Nat.zero_mul, List.drop_zero, List.take_succ_cons, List.take_zero, Nat.one_mul, List.drop_succ_cons] at h0 h1
  obtain ⟨x0, x1, rfl⟩ := list2 xs hxl
  simp only [List.getElem?_cons_zero, List.getElem?_cons_succ] at h0 h1
  obtain ⟨a0, e0, _, w0⟩ := DataW.trod_int Try.underlying40 h0
  obtain ⟨a1, e1, _, w1⟩ := DataW.trod_int Try.underlying40 h1
  simp at e0 e1
  subst e0 e1
  have b0 := bounds_u32 w0
  have b1 := bounds_u32 w1
  obtain ⟨n, rfl⟩ := Int.eq_ofNat_of_zero_le b0.1
  obtain ⟨m, rfl⟩ := Int.eq_ofNat_of_zero_le b1.1
  refine ⟨n, m, by omega, by omega, ?_⟩
  simp only [Value.cells] at hc
  have hcs : cs = #[.int .u32 (n : Int), .int .u32 (m : Int)] := by
    apply Array.toList_inj.1
    simpa using hc
  rw [hcs]
theorem open_twoB {v : Value} {d : DataW H} {p : List MemPlace} (hv : ∃ cs, v = .agg cs) (h : DataW.Trod enc Try.prog W base (fun _ => true) held 42 v d p) :
    ∃ (A B : Option Addr) (c m : Nat) (a b : List UInt8), v = .agg #[.slice A a.length c, .slice B b.length m] ∧ a.length ≤ c ∧ c ≤ maxLen ∧ RB W A a ∧ b.length ≤ m ∧ m ≤ maxLen ∧ RB W B b := by
  obtain ⟨cs, rfl⟩ := hv
  obtain ⟨fuel, hf⟩ := h
  obtain ⟨xs, k, _, _, hl, hxl, hx⟩ := DataW.trod_array Try.underlying42 hf
  rw [Try.cellsTwoB] at hl
  obtain ⟨c0, c1, hc⟩ := list2 _ hl
  have h0 := hx 0 (by omega)
  have h1 := hx 1 (by omega)
  rw [hc, Try.cellsBytes] at h0 h1
  simp only [Nat.zero_mul, List.drop_zero, List.take_succ_cons, List.take_zero, Nat.one_mul, List.drop_succ_cons] at h0 h1
  obtain ⟨x0, x1, rfl⟩ := list2 xs hxl
  simp only [List.getElem?_cons_zero, List.getElem?_cons_succ] at h0 h1
  obtain ⟨A, ca, a, rfl, r1, r2, r3⟩ := open_bytes h0
  obtain ⟨B, cb, b, rfl, q1, q2, q3⟩ := open_bytes h1
  refine ⟨A, B, ca, cb, a, b, ?_, r1, r2, r3, q1, q2, q3⟩
  simp only [Value.cells] at hc
  have hcs : cs = #[.slice A a.length ca, .slice B b.length cb] := by
    apply Array.toList_inj.1
    simpa using hc
  rw [hcs]
theorem open_rows {v : Value} {d : DataW H} {p : List MemPlace} (hv : ∃ A n c, v = .slice A n c) (h : DataW.Trod enc Try.prog W base (fun _ => true) held 24 v d p) :
    ∃ (A : Option Addr) (c : Nat) (L : List (List UInt8)), v = .slice A L.length c ∧ L.length ≤ c ∧ c ≤ maxLen ∧ RBS W A L := by
  obtain ⟨A0, n0, c0, rfl⟩ := hv
  obtain ⟨fuel, hf⟩ := h
  rcases open_int_rows Try.underlying24 Try.underlying22 Try.underlying5 Try.cellsBytes Try.cellsU8 hf with ⟨hcs, _⟩ | ⟨a, len, cap, A, Ln, C, Z, hcs, _, hl, hm, _, hr⟩
  · simp [Value.cells] at hcs
    obtain ⟨rfl, rfl, rfl⟩ := hcs
    exact ⟨none, 0, [], rfl, Nat.le_refl _, Nat.zero_le _, RBS.nil⟩
  · simp [Value.cells] at hcs
    obtain ⟨rfl, rfl, rfl⟩ := hcs
    obtain ⟨L, hL, hp⟩ := list_of (Pr := fun i (l : List UInt8) => ∃ c, W.cell? (a.add i) = some (.slice (A i) l.length c) ∧ l.length ≤ c ∧ c ≤ maxLen ∧ RB W (A i) l) n0 (fun i hi => by
      obtain ⟨h1, h2, h3, h4, h5, h6, h7⟩ := hr i (by omega)
      obtain ⟨l, g1, g2, g3, g4⟩ : ∃ l : List UInt8, l.length = Ln i ∧ Ln i ≤ C i ∧ C i ≤ maxLen ∧ RB W (A i) l := by
        cases hA : A i with
        | none =>
          have h8 := h6 hA
          exact rb_of_row (zs := Z i) (.inl ⟨rfl, by omega, h8, List.eq_nil_of_length_eq_zero (by omega)⟩)
        | some y => exact rb_of_row (zs := Z i) (.inr ⟨y, rfl, h2, h3, h4, fun j hj => (h7 y hA).2 j (by omega), h5⟩)
      exact ⟨l, C i, by rw [h1, g1], by omega, h3, g4⟩)
    subst hL
    refine ⟨some a, c0, L, rfl, hl, hm, fun j l hj => ?_⟩
    obtain ⟨c, h1, h2, h3, h4⟩ := hp j l hj
    exact ⟨a, A j, c, rfl, h1, h2, h3, h4⟩
end
end Go.Proofs.Ytlpobinmkedgeaa
