/- Rows of rows of bytes: what reads as them, and how a list of them grows. -/
import Derived.Test.YtjmmaghjbaigiaaOwn
import Derived.Deep.OwnRows
import Derived.Deep.RegionHeld3
namespace Go.Proofs.Ytjmmaghjbaigiaa
open Go.RowKit
set_option linter.unusedVariables false
set_option linter.unusedSimpArgs false
theorem add_at (q l : Nat) : (⟨q, 0, none⟩ : Addr).add l = ⟨q, l, none⟩ := by cases l <;> simp [Addr.add]
/-- The slice of slices at A reads as the rows L. -/
def RBS (w : World) (A : Option Addr) (L : List (List UInt8)) : Prop :=
  ∀ (j : Nat) (l : List UInt8), L[j]? = some l → ∃ (ad : Addr) (B : Option Addr) (c : Nat), A = some ad ∧ w.cell? (ad.add j) = some (.slice B l.length c) ∧ l.length ≤ c ∧ c ≤ maxLen ∧ RB w B l
theorem RBS.keep {w w' : World} {A : Option Addr} {L : List (List UInt8)} (h : RBS w A L) (hk : ∀ p : Addr, p.block < w.heap.size → w'.cell? p = w.cell? p) : RBS w' A L := fun j l hj => by
  obtain ⟨ad, B, c, e, h1, h2, h3, h4⟩ := h j l hj
  exact ⟨ad, B, c, e, (hk _ (lt_of_cell h1)).trans h1, h2, h3, h4.keep hk⟩
theorem RBS.below {w w' : World} {A : Option Addr} {L : List (List UInt8)} (h : RBS w A L) (hb : Below w.heap.size w w') : RBS w' A L := h.keep fun _ hp => hb.cell hp
theorem RBS.alloc {w : World} {A : Option Addr} {L : List (List UInt8)} (h : RBS w A L) (o : Obj) : RBS (w.alloc o) A L := h.keep fun p hp => World.cell?_alloc_lt w o p hp
theorem RBS.drew {w : World} {A : Option Addr} {L : List (List UInt8)} (h : RBS w A L) : RBS w.drew A L := h
theorem RBS.nil {w : World} {A : Option Addr} : RBS w A [] := fun j l hj => by simp at hj

theorem infoRow : (Try.prog.info? 25).map (fun i => (i.zero, i.size, i.bytes)) = some (some (.slice none 0 0), 1, 24) := by kernel_rfl
/-- A block is a row of slices. -/
def Row (w : World) (g : Nat) (vs : List Value) : Prop := w.heap[g]? = some (.cells vs.toArray 25 (0, 0))
theorem Row.new (w : World) (vs : List Value) : Row (w.alloc (.cells vs.toArray 25)) w.heap.size vs := by
  unfold Row World.alloc
  simp
theorem Row.at {w : World} {g : Nat} {vs : List Value} (h : Row w g vs) {k : Nat} {x : Value} (hk : vs[k]? = some x) :
    w.cell? ⟨g, k, none⟩ = some x ∧ w.frozen? ⟨g, k, none⟩ = false ∧ ∀ y, Row (w.setCell ⟨g, k, none⟩ y) g (vs.set k y) := by
  have h' : w.heap[g]? = some (.cells vs.toArray 25 (0, 0)) := h
  refine ⟨?_, by simp [World.frozen?, h'], fun y => ?_⟩
  · rw [cell_of_row w g k _ _ _ h]
    simp [hk]
  · unfold Row
    rw [heap_setCell_same w g k _ _ y h]
    simp
theorem Row.below {w w' : World} {g B : Nat} {vs : List Value} (h : Row w g vs) (hb : Below B w w') (hB : g < B) : Row w' g vs := (hb.block g hB).trans h
theorem Row.lt {w : World} {g : Nat} {vs : List Value} (h : Row w g vs) : g < w.heap.size := (Array.getElem?_eq_some_iff.1 h).1
theorem take_snocG {α : Type} {l : List α} {k : Nat} {x : α} (h : l[k]? = some x) : l.take (k + 1) = l.take k ++ [x] := by
  rw [List.take_add_one, h]; rfl
/-- While a list of sectors grows: the first k of M are in it. -/
def OutRel (w : World) (M : List (List UInt8)) (k : Nat) (v : Value) (wr : World) : Prop :=
  ∃ vs : List Value, wr.ownsRow w.heap.size 25 1 v k vs ∧
    (∀ (j : Nat) (l : List UInt8), (M.take k)[j]? = some l → ∃ (ad : Addr) (c : Nat), vs[j]? = some (.slice (some ad) l.length c) ∧ l.length ≤ c ∧ c ≤ maxLen ∧ RB wr (some ad) l ∧ ad.block < wr.heap.size ∧ v.ownBlock ≠ some ad.block) ∧
    w.heap.size ≤ wr.heap.size ∧ Below w.heap.size w wr
theorem OutRel.start {w wr : World} {M : List (List UInt8)} (hb : Below w.heap.size w wr) : OutRel w M 0 (.slice none 0 0) wr :=
  ⟨[], World.ownsRow_nil wr w.heap.size 25 1, fun j l hj => by simp at hj, hb.size, hb⟩
theorem ownsRow_below {base : Nat} {w w' : World} {v : Value} {n : Nat} {vs : List Value} {e : TypeId} (h : w.ownsRow base e 1 v n vs) (hb : Below w.heap.size w w') : w'.ownsRow base e 1 v n vs := by
  refine ⟨h.1, ?_⟩
  rcases h.2 with h | ⟨g, cap, cur, e, hb', hh, r⟩
  · exact .inl h
  · exact .inr ⟨g, cap, cur, e, hb', (hb.block g (Array.getElem?_eq_some_iff.1 hh).1).trans hh, r⟩
theorem OutRel.below {w wr W : World} {M : List (List UInt8)} {k : Nat} {v : Value} (h : OutRel w M k v wr) (hb : Below wr.heap.size wr W) : OutRel w M k v W := by
  obtain ⟨vs, h1, h2, h3, h4⟩ := h
  refine ⟨vs, ownsRow_below h1 hb, fun j l hj => ?_, Nat.le_trans h3 hb.size, h4.trans (hb.mono h3)⟩
  obtain ⟨ad, c, g1, g2, g3, g4, g5, g6⟩ := h2 j l hj
  exact ⟨ad, c, g1, g2, g3, g4.below hb, Nat.lt_of_lt_of_le g5 hb.size, g6⟩
theorem OutRel.rbs {w W : World} {M : List (List UInt8)} {k : Nat} {v : Value} (h : OutRel w M k v W) (hk : 0 < k) (hM : M.length = k) : ∃ A c, v = .slice A k c ∧ k ≤ c ∧ c ≤ maxLen ∧ RBS W A M := by
  obtain ⟨vs, a1, a2, a3, a4⟩ := h
  rcases a1.2 with ⟨_, h0⟩ | ⟨g, cap, cur, e, hb, hh, hc, hm, _⟩
  · omega
  · refine ⟨_, cap, e, hc, hm, fun j l hj => ?_⟩
    obtain ⟨ad, c, g1, g2, g3, g4, _⟩ := a2 j l (by rw [List.take_of_length_le (by omega)]; exact hj)
    subst e
    exact ⟨_, some ad, c, rfl, World.ownsRow.cells a1 (g := g) rfl j _ g1, g2, g3, g4⟩
theorem OB.row {base : Nat} {w : World} {v : Value} {l : List UInt8} (h : OB base w v l) (hl : 0 < l.length) : ∃ ad c, v = .slice (some ad) l.length c ∧ l.length ≤ c ∧ c ≤ maxLen ∧ RB w (some ad) l ∧ base ≤ ad.block ∧ ad.block < w.heap.size := by
  have hf := h.form
  unfold OB at h
  rcases h.2 with ⟨e, hn⟩ | ⟨g, cap, cur, e, hb, hh, hc, hm, hsz, ht⟩
  · omega
  · obtain ⟨A, c, e2, h2, h3⟩ := hf
    rw [e] at e2
    injection e2 with e3 e4 e5
    subst e3 e5
    exact ⟨_, _, e, hc, hm, h3, hb, (Array.getElem?_eq_some_iff.1 hh).1⟩
end Go.Proofs.Ytjmmaghjbaigiaa
