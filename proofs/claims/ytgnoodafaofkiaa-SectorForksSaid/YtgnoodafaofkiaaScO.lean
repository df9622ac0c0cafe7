/- The package sector: what a loss of power leaves (plain). -/
import Derived.Test.YtgnoodafaofkiaaScN
namespace Go.Proofs.Ytgnoodafaofkiaa
open Go.RowKit
set_option linter.unusedVariables false
/-- What a sector that waits has behind a loss of power: old was safe, new it has; and the fates that are left. -/
def fate1 (old new : List UInt8) (fs : List UInt8) : List UInt8 × List UInt8 :=
  if (tk fs).1.toNat % 4 = 2 then (new, (tk fs).2)
  else if (tk fs).1.toNat % 4 = 3 then (new.take (tk (tk fs).2).1.toNat ++ old.drop (tk (tk fs).2).1.toNat, (tk (tk fs).2).2)
  else (old, (tk fs).2)
/-- One sector after the other. -/
def powerGo (wt : Nat → Option (List UInt8)) : List Nat → List (List UInt8) × List UInt8 → List (List UInt8) × List UInt8
  | [], p => p
  | n :: ns, p => powerGo wt ns (p.1.set n (fate1 (p.1.getD n []) ((wt n).getD []) p.2).1, (fate1 (p.1.getD n []) ((wt n).getD []) p.2).2)
theorem powerGo_snoc (wt : Nat → Option (List UInt8)) : ∀ (ns : List Nat) (n : Nat) (p : List (List UInt8) × List UInt8), powerGo wt (ns ++ [n]) p =
    ((powerGo wt ns p).1.set n (fate1 ((powerGo wt ns p).1.getD n []) ((wt n).getD []) (powerGo wt ns p).2).1, (fate1 ((powerGo wt ns p).1.getD n []) ((wt n).getD []) (powerGo wt ns p).2).2)
  | [], n, p => rfl
  | m :: ns, n, p => by
    show powerGo wt (ns ++ [n]) _ = _
    rw [powerGo_snoc wt ns n]
    rfl
theorem powerGo_length (wt : Nat → Option (List UInt8)) : ∀ (ns : List Nat) (p : List (List UInt8) × List UInt8), (powerGo wt ns p).1.length = p.1.length
  | [], p => rfl
  | n :: ns, p => by
    show (powerGo wt ns _).1.length = _
    rw [powerGo_length wt ns, List.length_set]
theorem tk_len (l : List UInt8) : (tk l).2.length ≤ l.length := by cases l <;> simp [tk]
theorem fate1_left (o n l : List UInt8) : (fate1 o n l).2.length ≤ l.length := by
  have h1 := tk_len l
  have h2 := tk_len (tk l).2
  unfold fate1
  split
  · exact h1
  · split
    · show (tk (tk l).2).2.length ≤ _; omega
    · exact h1
theorem powerGo_left (wt : Nat → Option (List UInt8)) : ∀ (ns : List Nat) (p : List (List UInt8) × List UInt8), (powerGo wt ns p).2.length ≤ p.2.length
  | [], p => Nat.le_refl _
  | n :: ns, p => Nat.le_trans (powerGo_left wt ns _) (fate1_left _ _ _)
def Dk.power (s : Dk) (fates : List UInt8) : Dk :=
  { s with rows := (powerGo s.wt s.waits (s.rows, fates)).1, wt := fun _ => none, off := false, fset := false, left := 0, done := false }
theorem set_getD_self {rows : List (List UInt8)} {n : Nat} : rows.set n (rows.getD n []) = rows := by
  apply List.ext_getElem
  · simp
  · intro i h1 h2
    rw [List.getElem_set]
    split
    · rename_i e; subst e; simp [List.getElem?_eq_getElem h2]
    · rfl
theorem split_part (X k n : Nat) (cur row : List Value) (hrow : (cur.drop X).take n = row) (hk : k ≤ n) (hX : X + n ≤ cur.length) : cur.drop (X + k) = row.drop k ++ cur.drop (X + n) := by
  subst hrow
  have e : cur.drop (X + n) = (cur.drop X).drop n := by rw [List.drop_drop]
  rw [e, ← List.drop_drop]
  generalize cur.drop X = c
  conv => lhs; rw [← List.take_append_drop n c]
  rw [List.drop_append]
  by_cases h : k ≤ (c.take n).length
  · rw [Nat.sub_eq_zero_of_le h, List.drop_zero]
  · have h1 : c.length < k := by rw [List.length_take] at h; omega
    rw [List.drop_of_length_le (l := c) (i := n) (by omega), List.drop_nil]
set_option maxRecDepth 100000 in
theorem step_copy_sec {ops : Array Oper} {o : Oper} {a : Act} {K : Act → World → Prop} {Q : Exit → Act → World → Prop} {E : Prop} {base : Nat} {F : Ft} {w : World} {t : Dk} (hgd : o.guard = none) (d x : Operand)
    (ho : o.op = .call { callee := .builtin .copy, args := #[d, x], argTypes := #[32, 32] }) (h : DkAt base F w t) (n g q k dc sc : Nat) (ln : List UInt8) (hn : n < t.rows.length) (hA : F.A = some ⟨g, 0, none⟩) (hk : k ≤ 256) (hl : ln.length = 256)
    (hq : w.heap[q]? = some (.cells (cellsB ln).toArray 91 (0, 0))) (hd : a.eval d = .slice (some ⟨g, n * 256, none⟩) k dc) (hx : a.eval x = .slice (some ⟨q, 0, none⟩) 256 sc)
    (hK : ∀ w', DkAt base F w' { t with rows := t.rows.set n (ln.take k ++ (t.rows.getD n []).drop k) } → w.grownBy w' (some g) → K (a.put o.dst (.int .i64 (k : Int))) w') :
    if Region.wanted o (yielded ops a.tmps) = true then Oper.wp Try.prog o a w K Q else E := by
  have hw : Region.wanted o (yielded ops a.tmps) = true := by simp [Region.wanted, hgd]
  rw [if_pos hw]
  have hrow : (t.rows.getD n []).length = 256 := by
    refine h.ok.each _ ?_
    rw [List.getD_eq_getElem?_getD, List.getElem?_eq_getElem hn]
    exact List.getElem_mem hn
  have hnew : (ln.take k ++ (t.rows.getD n []).drop k).length = 256 := by rw [List.length_append, List.length_take, List.length_drop, hl, hrow]; omega
  obtain ⟨g', hA', hth, hra, h2, hg2⟩ := h.setRow hn hnew
  obtain rfl : g = g' := by rw [hA] at hA'; injection hA' with e; injection e
  rcases h.rowat with ⟨e, _⟩ | ⟨g', cur, e, _, hg, _, hcap, hsz, htake⟩
  · rw [e] at hA; cases hA
  obtain rfl : g = g' := by rw [hA] at e; injection e with e; injection e
  have hxs : n * 256 + 256 ≤ t.rows.length * 256 := by omega
  have hcs : t.rows.length * 256 ≤ cur.size := by rw [hsz]; exact Nat.mul_le_mul_right _ hcap
  have hcl : (cellsB (ln.take k)).length = k := by rw [length_cellsB, List.length_take, hl]; omega
  have hrun := run_copy_row (P := Try.prog) w 32 32 o.type 5 g (n * 256) k dc ⟨q, 0, none⟩ 256 sc cur _ (cellsB (ln.take k)) Try.underlying32 (by kernel_rfl) hg (by rw [hcl]; exact (Nat.min_eq_right hk).symm) (fun j v hv => by
      rw [Addr.add_mid, Nat.zero_add, cell_of_row w q j _ _ _ hq]
      simp only [cellsB, List.getElem?_map, Option.map_eq_some_iff, List.getElem?_take] at hv
      obtain ⟨y, hy, rfl⟩ := hv
      split at hy
      · simp [cellsB, hy]
      · cases hy) (by rw [hcl]; omega) (oneCells_B _)
  have hold : (cur.toList.drop (n * 256)).take 256 = cellsB (t.rows.getD n []) := by
    have hrow' : t.rows[n]? = some (t.rows.getD n []) := by rw [List.getD_eq_getElem?_getD, List.getElem?_eq_getElem hn]; rfl
    have e1 := flatten_row t.rows n _ h.ok.each hrow'
    have e2 : (cur.toList.drop (n * 256)).take 256 = ((cur.toList.take (t.rows.length * 256)).drop (n * 256)).take 256 := by
      rw [List.drop_take, List.take_take, Nat.min_eq_left (by omega)]
    rw [e2, htake, ← e1]
    simp [cellsB, List.map_take, List.map_drop]
  have hpart := split_part (n * 256) k 256 cur.toList _ hold hk (by simp only [Array.length_toList]; omega)
  have hnewcells : cellsB (ln.take k ++ (t.rows.getD n []).drop k) = cellsB (ln.take k) ++ (cellsB (t.rows.getD n [])).drop k := by simp [cellsB, List.map_drop]
  have hworld : w.setRow g (cur.toList.take (n * 256) ++ cellsB (ln.take k) ++ cur.toList.drop (n * 256 + (cellsB (ln.take k)).length)).toArray = w.setCells g (n * 256) (cellsB (ln.take k ++ (t.rows.getD n []).drop k)) := by
    rw [setCells_eq hg (by rw [length_cellsB, hnew]; omega) (oneCells_B _), length_cellsB, length_cellsB, hnew, hnewcells, List.length_take, hl, Nat.min_eq_left hk, hpart]
    simp only [List.append_assoc]
  unfold Oper.wp execOp
  simp only [ho, resolve, invoke, builtin, Sem.run_bind, Sem.run_pure, Result.andThen_ok, List.map_toArray, List.map_cons, List.map_nil, hd, hx, hrun, hworld]
  have e3 : goInt (cellsB (ln.take k)).length = .int .i64 (k : Int) := by rw [hcl]; rfl
  rw [e3]
  exact hK _ h2 hg2
/-- Between two rounds of Power's loop. -/
def PowRel (base : Nat) (F : Ft) (s : Dk) (l : List UInt8) (w : World) (A : Option Addr) (i : Value) (wr : World) : Prop :=
  ∃ (k : Nat) (rows : List (List UInt8)) (fs : List UInt8), k ≤ s.waits.length ∧ i = .int .i64 (k : Int) ∧ powerGo s.wt (s.waits.take k) (s.rows, l) = (rows, fs) ∧ DkAt base F wr { s with rows := rows } ∧ BoxF F.has wr w.heap.size fs ∧ RN wr A s.waits ∧ Frm F.has w wr
end Go.Proofs.Ytgnoodafaofkiaa
