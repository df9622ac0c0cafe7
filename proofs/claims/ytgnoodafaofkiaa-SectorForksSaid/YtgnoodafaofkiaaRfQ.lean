/- The laws' function Do: a call on both disks. -/
import Derived.Test.YtgnoodafaofkiaaRfP
namespace Go.Proofs.Ytgnoodafaofkiaa
open Go.RowKit
set_option linter.unusedVariables false
/-- A row of sectors is not in a block whose first cell is no text. -/
theorem RS.ne_block {W : World} {A : Option Addr} {S : List Sx} (hr : RS W A S) (hS : S ≠ []) {ad : Addr} (hA : A = some ad) {b : Nat} {v : Value} (hb : W.cell? ⟨b, 0, none⟩ = some v) (hv : ∀ t, v ≠ .string t) : ad.block ≠ b := by
  rcases hr with e | ⟨g, e, hc⟩
  · exact absurd e hS
  · rw [hA] at e
    injection e with e
    subst e
    intro e
    have e : g = b := e
    subst e
    cases S with
    | nil => exact absurd rfl hS
    | cons x S =>
      have := hc 0 (.string (str x.has)) rfl
      rw [hb] at this
      injection this with this
      exact hv _ this
theorem RS.ne_map {W : World} {A : Option Addr} {S : List Sx} (hr : RS W A S) (hS : S ≠ []) {ad : Addr} (hA : A = some ad) {b : Nat} (hb : W.cell? ⟨b, 0, none⟩ = none) : ad.block ≠ b := by
  rcases hr with e | ⟨g, e, hc⟩
  · exact absurd e hS
  · rw [hA] at e
    injection e with e
    subst e
    intro e
    have e : g = b := e
    subst e
    cases S with
    | nil => exact absurd rfl hS
    | cons x S =>
      have := hc 0 (.string (str x.has)) rfl
      rw [hb] at this
      cases this
/-- The document's rows lie outside of the program's disk. -/
theorem DkAt.rs_out {base : Nat} {F : Ft} {w : World} {s : Dk} (h : DkAt base F w s) {A : Option Addr} {S : List Sx} (hr : RS w A S) (hl : S.length = s.rows.length) : S ≠ [] → ∀ ad, A = some ad → ¬ F.has ad.block := by
  intro hS ad hA hx
  rcases hx with e | e | ⟨ad', e, e'⟩
  · exact hr.ne_block hS hA h.c0 (fun t e => by cases e) e
  · refine hr.ne_map hS hA ?_ e
    obtain ⟨n, D, ⟨es, clock, hb, _⟩, _⟩ := h.map
    simp [World.cell?, hb]
  · rcases h.rowat with ⟨e1, _⟩ | ⟨g, cur, e1, hb, hh, hg, hc, hsz, ht⟩
    · rw [e1] at e; cases e
    · rw [e1] at e
      injection e with e
      subst e
      have e' : g = ad.block := e'
      have hpos : 0 < s.rows.length := by
        rw [← hl]
        cases S with
        | nil => exact absurd rfl hS
        | cons x S => simp
      have hrow : s.rows[0] ∈ s.rows := List.getElem_mem hpos
      have hlen := h.ok.each _ hrow
      have hfl : 0 < s.rows.flatten.length := by
        cases hrs : s.rows with
        | nil => rw [hrs] at hpos; simp at hpos
        | cons y ys =>
          have : y.length = 256 := h.ok.each y (by rw [hrs]; simp)
          simp [List.length_flatten, this]
          omega
      obtain ⟨x, hx⟩ : ∃ x, s.rows.flatten[0]? = some x := ⟨_, List.getElem?_eq_getElem hfl⟩
      have hcell : w.cell? ⟨g, 0, none⟩ = some (.int .u8 (x.toNat : Int)) := by
        have h1 : (cur.toList.take (s.rows.length * 256))[0]? = some (.int .u8 (x.toNat : Int)) := by
          rw [ht]
          show (s.rows.flatten.map cellB)[0]? = _
          rw [List.getElem?_map, hx]
          rfl
        rw [List.getElem?_take, if_pos (by omega)] at h1
        rw [cell_of_row w _ 0 _ _ _ hh]
        simpa using h1
      exact hr.ne_block hS hA hcell (fun t e => by cases e) e'.symm
/-- Three boxes made one behind the other. -/
structure Bx (b : Nat) (x y : Array Value) (W : World) : Prop where
  b0 : W.heap[b]? = some (.cells x 28 (0, 0))
  b1 : W.heap[b + 1]? = some (.cells y 34 (0, 0))
  b2 : W.heap[b + 2]? = some (.cells #[.slice none 0 0, .bool false, .int .i64 0, .int .i64 0, .bool false] 28 (0, 0))
theorem Bx.mk3 (w : World) (x y : Array Value) : Bx w.heap.size x y (((w.alloc (.cells x 28)).alloc (.cells y 34)).alloc (.cells #[.slice none 0 0, .bool false, .int .i64 0, .int .i64 0, .bool false] 28)) := by
  have hz := heap_size_alloc w (.cells x 28)
  have hz1 := heap_size_alloc (w.alloc (.cells x 28)) (.cells y 34)
  refine ⟨?_, ?_, ?_⟩
  · exact (Below.heap_alloc _ _ _ (by omega)).trans ((Below.heap_alloc _ _ _ (by omega)).trans (heap_alloc_last w _))
  · refine (Below.heap_alloc _ _ _ (by omega)).trans ?_
    have := heap_alloc_last (w.alloc (.cells x 28)) (.cells y 34)
    rw [hz] at this
    exact this
  · have := heap_alloc_last ((w.alloc (.cells x 28)).alloc (.cells y 34)) (.cells #[.slice none 0 0, .bool false, .int .i64 0, .int .i64 0, .bool false] 28)
    rw [hz1, hz] at this
    exact this
theorem Bx.size {b : Nat} {x y : Array Value} {W : World} (h : Bx b x y W) : b + 2 < W.heap.size := (Array.getElem?_eq_some_iff.1 h.b2).1
theorem Bx.frm {b : Nat} {x y : Array Value} {W W' : World} {X : Nat → Prop} (h : Bx b x y W) (hf : Frm X W W') (hX : ∀ k, X k → k < b) : Bx b x y W' := by
  have := h.size
  exact ⟨(hf.block _ (by omega) (fun hx => by have := hX _ hx; omega)).trans h.b0, (hf.block _ (by omega) (fun hx => by have := hX _ hx; omega)).trans h.b1, (hf.block _ (by omega) (fun hx => by have := hX _ hx; omega)).trans h.b2⟩
theorem Bx.below {b : Nat} {x y : Array Value} {W W' : World} (h : Bx b x y W) (hb : Below W.heap.size W W') : Bx b x y W' := h.frm (X := fun _ => False) (Frm.of_below hb) (fun _ e => e.elim)
theorem Bx.c0 {b : Nat} {y : Array Value} {a0 a1 a2 a3 a4 : Value} {W : World} (h : Bx b #[a0, a1, a2, a3, a4] y W) : W.cell? ⟨b, 0, none⟩ = some a0 ∧ W.cell? ⟨b, 1, none⟩ = some a1 ∧ W.cell? ⟨b, 2, none⟩ = some a2 ∧ W.cell? ⟨b, 3, none⟩ = some a3 ∧ W.cell? ⟨b, 4, none⟩ = some a4 :=
  ⟨(cell_of_row W _ 0 _ _ _ h.b0).trans rfl, (cell_of_row W _ 1 _ _ _ h.b0).trans rfl, (cell_of_row W _ 2 _ _ _ h.b0).trans rfl, (cell_of_row W _ 3 _ _ _ h.b0).trans rfl, (cell_of_row W _ 4 _ _ _ h.b0).trans rfl⟩
theorem Bx.c1 {b : Nat} {x : Array Value} {a0 a1 a2 a3 a4 a5 : Value} {W : World} (h : Bx b x #[a0, a1, a2, a3, a4, a5] W) : W.cell? ⟨b + 1, 0, none⟩ = some a0 ∧ W.cell? ⟨b + 1, 1, none⟩ = some a1 ∧ W.cell? ⟨b + 1, 2, none⟩ = some a2 ∧ W.cell? ⟨b + 1, 3, none⟩ = some a3 ∧ W.cell? ⟨b + 1, 4, none⟩ = some a4 ∧ W.cell? ⟨b + 1, 5, none⟩ = some a5 :=
  ⟨(cell_of_row W _ 0 _ _ _ h.b1).trans rfl, (cell_of_row W _ 1 _ _ _ h.b1).trans rfl, (cell_of_row W _ 2 _ _ _ h.b1).trans rfl, (cell_of_row W _ 3 _ _ _ h.b1).trans rfl, (cell_of_row W _ 4 _ _ _ h.b1).trans rfl, (cell_of_row W _ 5 _ _ _ h.b1).trans rfl⟩
theorem Bx.c2 {b : Nat} {x y : Array Value} {W : World} (h : Bx b x y W) : W.cell? ⟨b + 2, 0, none⟩ = some (.slice none 0 0) ∧ W.cell? ⟨b + 2, 1, none⟩ = some (.bool false) ∧ W.cell? ⟨b + 2, 2, none⟩ = some (.int .i64 0) ∧ W.cell? ⟨b + 2, 3, none⟩ = some (.int .i64 0) ∧ W.cell? ⟨b + 2, 4, none⟩ = some (.bool false) :=
  ⟨(cell_of_row W _ 0 _ _ _ h.b2).trans rfl, (cell_of_row W _ 1 _ _ _ h.b2).trans rfl, (cell_of_row W _ 2 _ _ _ h.b2).trans rfl, (cell_of_row W _ 3 _ _ _ h.b2).trans rfl, (cell_of_row W _ 4 _ _ _ h.b2).trans rfl⟩
theorem Bx.f0 {b : Nat} {x y : Array Value} {W : World} (h : Bx b x y W) (j : Nat) : W.frozen? ⟨b, j, none⟩ = false := by simp [World.frozen?, h.b0]
theorem Bx.f2 {b : Nat} {x y : Array Value} {W : World} (h : Bx b x y W) (j : Nat) : W.frozen? ⟨b + 2, j, none⟩ = false := by simp [World.frozen?, h.b2]
theorem Bx.set {b : Nat} {x0 x1 x2 x3 x4 : Value} {y : Array Value} {W : World} (h : Bx b #[x0, x1, x2, x3, x4] y W) (a0 a1 a2 a3 a4 : Value) : Bx b #[a0, a1, a2, a3, a4] y (set5 W b a0 a1 a2 a3 a4) :=
  ⟨heap_set5 h.b0 _ _ _ _ _, (heap_set5_other _ _ _ (by omega) _ _ _ _ _).trans h.b1, (heap_set5_other _ _ _ (by omega) _ _ _ _ _).trans h.b2⟩
theorem Frm.set5 {X : Nat → Prop} {w W : World} {b : Nat} (h : Frm X w W) (hb : w.heap.size ≤ b) (a0 a1 a2 a3 a4 : Value) : Frm X w (set5 W b a0 a1 a2 a3 a4) :=
  have q := below_set5 (Below.refl 0 W) (Nat.zero_le b) a0 a1 a2 a3 a4
  ⟨q.os.trans h.os, q.tape.trans h.tape, q.output.trans h.output, Nat.le_trans h.size q.size, fun k hk hx => (heap_set5_other _ _ _ (by omega) _ _ _ _ _).trans (h.block k hk hx)⟩
theorem DkAt.set5 {base : Nat} {F : Ft} {W : World} {s : Dk} {b : Nat} (h : DkAt base F W s) (hb : ¬ F.has b) (a0 a1 a2 a3 a4 : Value) : DkAt base F (set5 W b a0 a1 a2 a3 a4) s :=
  h.kept fun k hk => heap_set5_other _ _ _ (fun e => hb (by rw [← e]; exact hk)) _ _ _ _ _
theorem RS.set5 {W : World} {A : Option Addr} {S : List Sx} {b : Nat} {v : Value} (h : RS W A S) (hb : W.cell? ⟨b, 0, none⟩ = some v) (hv : ∀ t, v ≠ .string t) (a0 a1 a2 a3 a4 : Value) : RS (set5 W b a0 a1 a2 a3 a4) A S := by
  by_cases hS : S = []
  · exact .inl hS
  · have h' := h
    rcases h with e | ⟨g, rfl, hc⟩
    · exact .inl e
    · have hg := h'.ne_block hS rfl hb hv
      exact .inr ⟨g, rfl, fun j u hj => (cell_set5 W b ⟨g, j, none⟩ hg _ _ _ _ _).trans (hc j u hj)⟩
/-- What Do leaves. -/
def DoPost (base : Nat) (F : Ft) (w : World) (s : Dk) (e : Ending) (w' : World) : Prop :=
  ∃ s' r' A' c', e = .returned (.tuple #[rkV A' c' r', .int .i64 0]) ∧ DkAt base F w' s' ∧ RS w' A' r'.S ∧ Twin s' r' ∧ s'.calls ≤ s.calls + 1 ∧ s'.rows.length = s.rows.length ∧ Frm F.has w w'
def acV (a : Ac) : Value := .agg #[.int .u8 (a.kind.toNat : Int), .int .i64 a.n, .int .u8 (a.c.toNat : Int), .int .u8 (a.cut.toNat : Int), .bool a.done, .slice a.fA a.fates.length a.fc]
/-- The last steps: the result is laid, and given back. -/
theorem do_last {base : Nat} {F : Ft} {w w2 : World} {s s' : Dk} {r' : Rk} {A2 : Option Addr} {c2 : Nat} {x0 x1 x2 x3 x4 : Value} {y : Array Value} (hd : DkAt base F w2 s') (hr : RS w2 A2 r'.S) (ht : Twin s' r') (hc : s'.calls ≤ s.calls + 1) (hl : s'.rows.length = s.rows.length) (hf : Frm F.has w w2) (hin : ∀ k, F.has k → k < w.heap.size)
    (hb : Bx w.heap.size #[x0, x1, x2, x3, x4] y w2) (hx : ∀ t, x0 ≠ .string t) (a0 a1 a2 a3 a4 b0 b1 b2 b3 b4 : Value) (ha : ∀ t, a0 ≠ .string t) : DoPost base F w s (.returned (.tuple #[rkV A2 c2 r', .int .i64 0])) (set5 (set5 w2 w.heap.size a0 a1 a2 a3 a4) (w.heap.size + 2) b0 b1 b2 b3 b4) := by
  have n4 : ¬ F.has w.heap.size := fun h => by have := hin _ h; omega
  have n6 : ¬ F.has (w.heap.size + 2) := fun h => by have := hin _ h; omega
  refine ⟨s', r', A2, c2, rfl, (hd.set5 n4 _ _ _ _ _).set5 n6 _ _ _ _ _, ?_, ht, hc, hl, (hf.set5 (Nat.le_refl _) _ _ _ _ _).set5 (by omega) _ _ _ _ _⟩
  exact (hr.set5 hb.c0.1 hx _ _ _ _ _).set5 (hb.set a0 a1 a2 a3 a4).c2.1 (fun t e => by cases e) _ _ _ _ _
end Go.Proofs.Ytgnoodafaofkiaa
