/- The document's stacks: Abort, Prune. -/
import Derived.Test.YtjmmaghjbaigiaaVtA
import Derived.Test.YtjmmaghjbaigiaaVsG
import Derived.StillTailTactics
namespace Go.Proofs.Ytjmmaghjbaigiaa
open Go.RowKit
set_option linter.unusedVariables false
set_option linter.unusedSimpArgs false
theorem StBox.put1' {W : World} {q : Nat} {key : ByteArray} {A : Option Addr} {n c : Nat} (h : StBox W q key A n c) (A' : Option Addr) (n' c' : Nat) : StBox (W.setCell ⟨q, 1, none⟩ (.slice A' n' c')) q key A' n' c' := by
  obtain ⟨a0, a1, f0, f1⟩ := h
  constructor <;> simp [World.cell?_setCell_other, World.cell?_setCell_same', a0, a1, f0, f1]
theorem StBox.same' {W W' : World} {q : Nat} {key : ByteArray} {A : Option Addr} {n c : Nat} (h : StBox W q key A n c) (hb : W'.heap[q]? = W.heap[q]?) : StBox W' q key A n c := by
  have hc : ∀ i, W'.cell? ⟨q, i, none⟩ = W.cell? ⟨q, i, none⟩ := fun i => cell_same (p := ⟨q, i, none⟩) hb
  have hf : ∀ i, W'.frozen? ⟨q, i, none⟩ = W.frozen? ⟨q, i, none⟩ := fun i => by unfold World.frozen?; rw [hb]
  exact ⟨(hc 0).trans h.c0, (hc 1).trans h.c1, (hf 0).trans h.f0, (hf 1).trans h.f1⟩
theorem VnAt.drewV {w : World} {p : Addr} {r : Vn} (h : VnAt w p r) : VnAt w.drew p r := ⟨h.c0, h.c1, h.c2, h.c3⟩
theorem OG.cellV {T : TypeId} {base : Nat} {W : World} {v : Value} {l : List Vn} (h : OG KV T base W v l) {q : Nat} (hq : q < base) (i : Nat) (u : Value) : OG KV T base (W.setCell ⟨q, i, none⟩ u) v l := by
  obtain ⟨css, h1, h2, h3⟩ := h
  exact ⟨css, ownsRow_keepB h1 fun b hb => setCell_else W q i u b (by have := (World.ownsRow.lt h1 b hb).1; omega), h2, h3⟩
/-- What the loop of Abort and of Prune has: the stack, the result, and the stack that grows at x. -/
structure FlW (w : World) (key : ByteArray) (A : Option Addr) (n c : Nat) (x : Nat) (W : World) (B : Option Addr) (m d : Nat) (L : List Vn) : Prop where
  b : Below w.heap.size w W
  s : StBox W w.heap.size key A n c
  r : StBox W (w.heap.size + 1) ⟨#[]⟩ none 0 0
  g : StBox W x key B m d
  o : OG KV 66 (x + 1) W (.slice B m d) L
  hx : w.heap.size + 1 < x
  ml : L.length = m
theorem FlW.fin {w : World} {key : ByteArray} {A : Option Addr} {n c x : Nat} {W : World} {B : Option Addr} {m d : Nat} {L : List Vn} (h : FlW w key A n c x W B m d L) :
    StBox (setSt W (w.heap.size + 1) key (.slice B m d)) (w.heap.size + 1) key B m d ∧ OG KV 66 w.heap.size (setSt W (w.heap.size + 1) key (.slice B m d)) (.slice B m d) L ∧ Below w.heap.size w (setSt W (w.heap.size + 1) key (.slice B m d)) :=
  ⟨h.r.put key B m d, (h.o.setSt (q := w.heap.size + 1) (by have := h.hx; omega) key (.slice B m d)).lift (by have := h.hx; omega), belowSetSt h.b (by omega) key (.slice B m d)⟩
theorem FlW.next {w : World} {key : ByteArray} {A : Option Addr} {n c x : Nat} {W W' : World} {B B' : Option Addr} {m d m' d' : Nat} {L L' : List Vn} (h : FlW w key A n c x W B m d L) (hb : Below (x + 1) W W') (o : OG KV 66 (x + 1) W' (.slice B' m' d') L') (hm : L'.length = m') : FlW w key A n c x (W'.setCell ⟨x, 1, none⟩ (.slice B' m' d')) B' m' d' L' := by
  have hx := h.hx
  exact ⟨(h.b.trans (hb.mono (by omega))).setCell (p := ⟨x, 1, none⟩) (by simp; omega) _, (h.s.below hb (by omega)).off (by omega) _ _, (h.r.below hb (by omega)).off (by omega) _ _, (h.g.below hb (by omega)).put1' B' m' d', o.cellV (by omega) 1 _, hx, hm⟩
theorem FlW.lt {w : World} {key : ByteArray} {A : Option Addr} {n c x : Nat} {W : World} {B : Option Addr} {m d : Nat} {L : List Vn} (h : FlW w key A n c x W B m d L) : x + 1 ≤ W.heap.size := h.g.lt
theorem FlW.new (w : World) (key : ByteArray) (A : Option Addr) (n c : Nat) : FlW w key A n c (w.heap.size + 2) (((w.alloc (.cells #[.string key, .slice A n c] 24)).alloc (.cells #[.string ⟨#[]⟩, .slice none 0 0] 24)).alloc (.cells #[.string key, .slice none 0 0] 24)) none 0 0 [] := by
  have b1 := below1 w (.cells #[.string key, .slice A n c] 24)
  have s1 := heap_size_alloc w (.cells #[.string key, .slice A n c] 24)
  have x1 := StBox.new w key A n c 24
  generalize w.alloc (.cells #[.string key, .slice A n c] 24) = w1 at *
  have b2 := below1 w1 (.cells #[.string ⟨#[]⟩, .slice none 0 0] 24)
  have s2 := heap_size_alloc w1 (.cells #[.string ⟨#[]⟩, .slice none 0 0] 24)
  have x2 := StBox.new w1 ⟨#[]⟩ none 0 0 24
  generalize w1.alloc (.cells #[.string ⟨#[]⟩, .slice none 0 0] 24) = w2 at *
  have b3 := below1 w2 (.cells #[.string key, .slice none 0 0] 24)
  have x3 := StBox.new w2 key none 0 0 24
  generalize w2.alloc (.cells #[.string key, .slice none 0 0] 24) = w3 at *
  have e1 : w1.heap.size = w.heap.size + 1 := s1
  have e2 : w2.heap.size = w.heap.size + 2 := by omega
  rw [e1] at x2
  rw [e2] at x3
  have b23 : Below w1.heap.size w1 w3 := b2.trans (b3.mono (by omega))
  exact ⟨b1.trans (b23.mono (by omega)), x1.on b23, x2.on b3, x3, OG.nil, by omega, rfl⟩
end Go.Proofs.Ytjmmaghjbaigiaa
