/- Boxes of the laws of visible. -/
import Derived.Test.YtjmmaghjbaigiaaVsN
namespace Go.Proofs.Ytjmmaghjbaigiaa
open Go.RowKit
set_option linter.unusedVariables false
set_option linter.unusedSimpArgs false
/-- A stack in a box, with its row. -/
structure RowB (W : World) (q : Nat) (key : ByteArray) (A : Option Addr) (n c : Nat) (l : List Vn) : Prop where
  s : StBox W q key A n c
  r : RG KV W A l
  ln : l.length = n
theorem RowB.on {W W' : World} {q : Nat} {key : ByteArray} {A : Option Addr} {n c : Nat} {l : List Vn} (h : RowB W q key A n c l) (hb : Below W.heap.size W W') : RowB W' q key A n c l := ⟨h.s.on hb, h.r.below hb, h.ln⟩
theorem RowB.alloc {W : World} {q : Nat} {key : ByteArray} {A : Option Addr} {n c : Nat} {l : List Vn} (h : RowB W q key A n c l) (o : Obj) : RowB (W.alloc o) q key A n c l := h.on (below1 W o)
theorem RowB.new {W : World} {key : ByteArray} {A : Option Addr} {n c : Nat} {l : List Vn} (hr : RG KV W A l) (hl : l.length = n) : RowB (W.alloc (.cells #[.string key, .slice A n c] 24)) W.heap.size key A n c l := ⟨StBox.new W key A n c _, hr.alloc _, hl⟩
theorem stkCalls' {f : FuncId} {args : Array Value} {W : World} {key : ByteArray} {l : List Vn} (h : Calls Try.prog f args W fun e w' => ∃ v', e = .returned (.agg #[.string key, v']) ∧ OG KV 66 W.heap.size w' v' l ∧ Below W.heap.size W w') :
    Calls Try.prog f args W fun e w' => ∃ A n c, e = .returned (.agg #[.string key, .slice A n c]) ∧ l.length = n ∧ n ≤ c ∧ RG KV w' A l ∧ Below W.heap.size W w' := by
  refine h.mono ?_
  rintro e w' ⟨v', rfl, o, b⟩
  obtain ⟨A, c, rfl, h1, h2, h3, _⟩ := o.rg
  exact ⟨A, _, c, rfl, rfl, h1, h3, b⟩
/-- A box of two numbers. -/
structure TwoBox (W : World) (q a b : Nat) : Prop where
  c0 : W.cell? ⟨q, 0, none⟩ = some (.int .u32 (a : Int))
  c1 : W.cell? ⟨q, 1, none⟩ = some (.int .u32 (b : Int))
theorem TwoBox.new (w : World) (a b : Nat) (t : TypeId) : TwoBox (w.alloc (.cells #[.int .u32 (a : Int), .int .u32 (b : Int)] t)) w.heap.size a b := by constructor <;> simp
theorem TwoBox.lt {W : World} {q a b : Nat} (h : TwoBox W q a b) : q < W.heap.size := lt_of_cell h.c0
theorem TwoBox.on {W W' : World} {q a b : Nat} (h : TwoBox W q a b) (hb : Below W.heap.size W W') : TwoBox W' q a b := ⟨(hb.cell (p := ⟨q, 0, none⟩) h.lt).trans h.c0, (hb.cell (p := ⟨q, 1, none⟩) h.lt).trans h.c1⟩
end Go.Proofs.Ytjmmaghjbaigiaa
