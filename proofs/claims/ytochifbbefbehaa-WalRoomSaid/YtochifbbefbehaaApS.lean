/- A string's bytes appended to bytes of one's own. -/
import Derived.Test.YtochifbbefbehaaOwn
import Derived.Lib.AppendStr
namespace Go.Proofs.Ytochifbbefbehaa
open Go.RowKit
set_option linter.unusedVariables false
set_option linter.unusedSimpArgs false
theorem strCells_str (l : List UInt8) : Go.Lib.strCells (str l) = cellsB l := by simp [Go.Lib.strCells, str, cellsB, cellB]
theorem run_append_str {base : Nat} {w : World} {v : Value} {l : List UInt8} (ty : TypeId) (hown : OB base w v l) (t : List UInt8) (hbound : l.length + t.length ≤ 1000000000) (hbase : base ≤ w.heap.size) :
    ∃ v' w', (Builtin.append_ #[32, 9] ty #[v, .string (str t)]).run Try.prog w = .ok v' w' ∧ OB base w' v' (l ++ t) ∧ Below base w w' ∧ w.grownBy w' v.ownBlock := by
  obtain ⟨i0, hi, hz0, hz1, hz2⟩ := info_parts Try.info5
  obtain ⟨v', w', hrun, h2, h3, _⟩ := Go.Lib.run_append_own_string (P := Try.prog) w base 32 9 ty 5 i0 Try.underlying32 Try.underlying9 hi hz0 hz1 hz2 v l.length (cellsB l) hown (str t)
    (by rw [str_size]; simp only [maxLen]; omega) (by rw [str_size]; omega) hbase
  refine ⟨v', w', hrun, ?_, (Below.refl base w).grown h3 hbase fun k hk => (World.ownsRow.lt hown k hk).1, h3⟩
  unfold OB
  rw [List.length_append, show cellsB (l ++ t) = cellsB l ++ cellsB t by simp [cellsB], ← strCells_str t]
  rw [str_size] at h2
  exact h2
theorem step_append_str {w : World} {ops : Array Oper} {o : Oper} {a : Act} {K : Act → World → Prop} {Q : Exit → Act → World → Prop} {E : Prop} (hgd : o.guard = none) (s x : Operand)
    (ho : o.op = .call { callee := .builtin .append, args := #[s, x], argTypes := #[32, 9] })
    (base : Nat) (v : Value) (l : List UInt8) (hs : a.eval s = v) (hown : OB base w v l) (t : List UInt8) (hx : a.eval x = .string (str t)) (hbound : l.length + t.length ≤ 1000000000) (hbase : base ≤ w.heap.size)
    (h : ∀ v' w', OB base w' v' (l ++ t) → Below base w w' → w.grownBy w' v.ownBlock → K (a.put o.dst v') w') :
    if Region.wanted o (yielded ops a.tmps) = true then Oper.wp Try.prog o a w K Q else E := by
  have hw : Region.wanted o (yielded ops a.tmps) = true := by simp [Region.wanted, hgd]
  rw [if_pos hw]
  obtain ⟨v', w', hrun, h2, h3, h4⟩ := run_append_str o.type hown t hbound hbase
  unfold Oper.wp execOp
  simp only [ho, resolve, invoke, builtin, Sem.run_bind, Sem.run_pure, Result.andThen_ok, List.map_toArray, List.map_cons, List.map_nil, hs, hx, hrun]
  exact h v' w' h2 h3 h4
theorem wpList_append_str {w : World} {ops : Array Oper} {rest : List Oper} {o : Oper} {a : Act} {Q : Exit → Act → World → Prop} (hgd : o.guard = none) (s x : Operand)
    (ho : o.op = .call { callee := .builtin .append, args := #[s, x], argTypes := #[32, 9] })
    (base : Nat) (v : Value) (l : List UInt8) (hs : a.eval s = v) (hown : OB base w v l) (t : List UInt8) (hx : a.eval x = .string (str t)) (hbound : l.length + t.length ≤ 1000000000) (hbase : base ≤ w.heap.size)
    (h : ∀ v' w', OB base w' v' (l ++ t) → Below base w w' → w.grownBy w' v.ownBlock → wpList Try.prog ops Q rest (a.put o.dst v') w') : wpList Try.prog ops Q (o :: rest) a w :=
  wpList_step fun K hK => step_append_str hgd s x ho base v l hs hown t hx hbound hbase fun v' w' h2 h3 h4 => hK _ _ (h v' w' h2 h3 h4)
end Go.Proofs.Ytochifbbefbehaa
