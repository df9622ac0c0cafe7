/- The package sector: rows of sectors, one of them changed. -/
import Derived.Test.YtgnoodafaofkiaaScE
namespace Go.Proofs.Ytgnoodafaofkiaa
open Go.RowKit
set_option linter.unusedVariables false
theorem flatten_length : ∀ (rows : List (List UInt8)), (∀ r ∈ rows, r.length = 256) → rows.flatten.length = rows.length * 256
  | [], _ => rfl
  | r :: rows, h => by
    rw [List.flatten_cons, List.length_append, flatten_length rows (fun x hx => h x (.tail _ hx)), h r (.head _), List.length_cons]
    omega
theorem flatten_row : ∀ (rows : List (List UInt8)) (x : Nat) (r : List UInt8), (∀ r ∈ rows, r.length = 256) → rows[x]? = some r → ((rows.flatten).drop (x * 256)).take 256 = r
  | [], x, r, _, h => by simp at h
  | q :: rows, 0, r, h, hx => by
    simp only [List.getElem?_cons_zero, Option.some.injEq] at hx
    subst hx
    have := h q (.head _)
    rw [Nat.zero_mul, List.drop_zero, List.flatten_cons, ← this, List.take_left]
  | q :: rows, x + 1, r, h, hx => by
    have hq := h q (.head _)
    simp only [List.getElem?_cons_succ] at hx
    have ih := flatten_row rows x r (fun y hy => h y (.tail _ hy)) hx
    rw [List.flatten_cons, show (x + 1) * 256 = q.length + x * 256 by omega, ← List.drop_drop, List.drop_left]
    exact ih
theorem flatten_set : ∀ (rows : List (List UInt8)) (x : Nat) (l : List UInt8), (∀ r ∈ rows, r.length = 256) → l.length = 256 → x < rows.length → (rows.set x l).flatten = rows.flatten.take (x * 256) ++ l ++ rows.flatten.drop (x * 256 + 256)
  | [], x, l, _, _, h => by simp at h
  | q :: rows, 0, l, h, hl, _ => by
    have hq := h q (.head _)
    rw [List.set_cons_zero, List.flatten_cons, List.flatten_cons, Nat.zero_mul, List.take_zero, List.nil_append, Nat.zero_add, ← hq, List.drop_left]
  | q :: rows, x + 1, l, h, hl, hx => by
    have hq := h q (.head _)
    have ih := flatten_set rows x l (fun y hy => h y (.tail _ hy)) hl (by simpa using hx)
    have e1 : (q ++ rows.flatten).drop ((x + 1) * 256 + 256) = rows.flatten.drop (x * 256 + 256) := by
      rw [show (x + 1) * 256 + 256 = q.length + (x * 256 + 256) by omega, ← List.drop_drop, List.drop_left]
    have e2 : (q ++ rows.flatten).take ((x + 1) * 256) = q ++ rows.flatten.take (x * 256) := by
      rw [show (x + 1) * 256 = q.length + x * 256 by omega, List.take_length_add_append]
    rw [List.set_cons_succ, List.flatten_cons, List.flatten_cons, ih, e1, e2]
    simp only [List.append_assoc]
theorem take_spliced (N X k : Nat) (cur fl cl : List Value) (hfl : cur.take N = fl) (hX : X + k ≤ N) (hN : N ≤ cur.length) (hcl : cl.length = k) : (cur.take X ++ cl ++ cur.drop (X + k)).take N = fl.take X ++ cl ++ fl.drop (X + k) := by
  subst hfl
  have hl : (cur.take X ++ cl).length = X + k := by rw [List.length_append, List.length_take, hcl]; omega
  have e : N = (cur.take X ++ cl).length + (N - (X + k)) := by omega
  have e1 : (cur.take X ++ cl ++ cur.drop (X + k)).take N = cur.take X ++ cl ++ (cur.drop (X + k)).take (N - (X + k)) := by
    rw [e, List.take_length_add_append, hl]
    congr 2
    omega
  rw [e1, List.take_take, Nat.min_eq_left (by omega), List.drop_take]
theorem setCells_row {w : World} {g o : Nat} {cur : Array Value} {t : TypeId} {vs : List Value} (hg : w.heap[g]? = some (.cells cur t (0, 0))) (hfit : o + vs.length ≤ cur.size) (h1 : ∀ v ∈ vs, v.oneCell' = true) :
    (w.setCells g o vs).heap[g]? = some (.cells (cur.toList.take o ++ vs ++ cur.toList.drop (o + vs.length)).toArray t (0, 0)) ∧ w.grownBy (w.setCells g o vs) (some g) := by
  have a := run_storeCells_at Try.prog g o t vs 0 cur w hg (by omega) h1
  have b := run_storeCells_cells (P := Try.prog) g o vs 0 w (fun j hj => by simp [World.cell?, hg]; omega) (fun j hj => by simp [World.frozen?, hg]) h1
  rw [a] at b
  simp only [Nat.add_zero] at b
  injection b with _ b
  rw [← b]
  exact ⟨setRow_heap w g cur _ _ _ hg, ⟨rfl, rfl, rfl, by simp, fun k _ hk => setRow_other w g k _ (fun e => hk (by rw [e]))⟩⟩
theorem setCells_eq {w : World} {g o : Nat} {cur : Array Value} {t : TypeId} {vs : List Value} (hg : w.heap[g]? = some (.cells cur t (0, 0))) (hfit : o + vs.length ≤ cur.size) (h1 : ∀ v ∈ vs, v.oneCell' = true) :
    w.setCells g o vs = w.setRow g (cur.toList.take o ++ vs ++ cur.toList.drop (o + vs.length)).toArray := by
  have a := run_storeCells_at Try.prog g o t vs 0 cur w hg (by omega) h1
  have b := run_storeCells_cells (P := Try.prog) g o vs 0 w (fun j hj => by simp [World.cell?, hg]; omega) (fun j hj => by simp [World.frozen?, hg]) h1
  rw [a] at b
  simp only [Nat.add_zero] at b
  injection b with _ b
  exact b.symm
theorem there_of_heap {w : World} {g o n : Nat} {cur : Array Value} {t : TypeId} (hg : w.heap[g]? = some (.cells cur t (0, 0))) (hfit : o + n ≤ cur.size) : w.there g o n := fun j hj => by
  refine ⟨?_, by simp [World.frozen?, hg]⟩
  simp [World.cell?, hg]
  omega
set_option maxRecDepth 100000 in
/-- One of a disk's rows is written. -/
theorem DkAt.setRow {base : Nat} {F : Ft} {w : World} {s : Dk} (h : DkAt base F w s) {x : Nat} {l : List UInt8} (hx : x < s.rows.length) (hl : l.length = 256) :
    ∃ g, F.A = some ⟨g, 0, none⟩ ∧ w.there g (x * 256) 256 ∧ w.rangeAt g (x * 256) (cellsB (s.rows.getD x [])) ∧ DkAt base F (w.setCells g (x * 256) (cellsB l)) { s with rows := s.rows.set x l } ∧ w.grownBy (w.setCells g (x * 256) (cellsB l)) (some g) := by
  rcases h.rowat with ⟨_, e⟩ | ⟨g, cur, hA, hb, hg, hlt, hc, hsz, ht⟩
  · rw [e] at hx; simp at hx
  have hxs : x * 256 + 256 ≤ s.rows.length * 256 := by omega
  have hcs : s.rows.length * 256 ≤ cur.size := by rw [hsz]; exact Nat.mul_le_mul_right _ hc
  have hlen : (cellsB l).length = 256 := by rw [length_cellsB, hl]
  obtain ⟨r1, r2⟩ := setCells_row (o := x * 256) (vs := cellsB l) hg (by omega) (oneCells_B l)
  have hfl := flatten_length s.rows h.ok.each
  refine ⟨g, hA, there_of_heap hg (by omega), ?_, ⟨⟨?_, ?_, ?_, h.ok.wlen, h.ok.left⟩, h.bb, h.bm, ?_, ?_, h.map.kept (r2.block _ h.map.lt (fun e => h.mg_ne hA (by injection e with e; exact e.symm)))⟩, r2⟩
  · intro j v hv
    have hrow : s.rows[x]? = some (s.rows.getD x []) := by rw [List.getD_eq_getElem?_getD, List.getElem?_eq_getElem hx]; rfl
    have hfr := flatten_row s.rows x _ h.ok.each hrow
    rw [cell_of_row w g _ cur _ _ hg]
    have hj : j < 256 := by
      have := (List.getElem?_eq_some_iff.1 hv).1
      rw [length_cellsB, h.ok.each _ (List.mem_of_getElem? hrow)] at this
      exact this
    have e1 : cur[x * 256 + j]? = (cur.toList.take (s.rows.length * 256))[x * 256 + j]? := by
      rw [List.getElem?_take, if_pos (by omega), Array.getElem?_toList]
    rw [e1, ht, ← hv, ← hfr]
    simp [cellsB, hj]
  · show (s.rows.set x l).length ≤ 4096
    rw [List.length_set]; exact h.ok.many
  · intro r hr
    rcases List.mem_or_eq_of_mem_set hr with hr | rfl
    · exact h.ok.each r hr
    · exact hl
  · intro k r hr
    show k < (s.rows.set x l).length
    rw [List.length_set]; exact h.ok.wlt k r hr
  · refine (r2.block _ h.blt (fun e => h.bg_ne hA (by injection e with e; exact e.symm))).trans ?_
    rw [h.cells]
    simp [dkCells]
  · have hr := h.row
    refine ⟨?_, .inr ⟨g, F.cap, _, ?_, hb, r1, ?_, ?_, ?_, ?_⟩⟩
    · rw [length_cellsB, flatten_length _ (fun r hr => by
        rcases List.mem_or_eq_of_mem_set hr with hr | rfl
        · exact h.ok.each r hr
        · exact hl)]
    · rw [hA]
    · simp only [List.length_set]; exact hc
    · rcases hr.2 with ⟨e, _⟩ | ⟨_, _, _, e, _, _, _, hm, _⟩
      · rw [hA] at e; cases e
      · injection e with _ _ e; rw [e]; exact hm
    · simp only [List.size_toArray, List.length_append, List.length_take, List.length_drop, Array.length_toList, hlen]
      omega
    · simp only [List.length_set]
      have e2 : cellsB (s.rows.flatten.take (x * 256) ++ l ++ s.rows.flatten.drop (x * 256 + 256)) = (cellsB s.rows.flatten).take (x * 256) ++ cellsB l ++ (cellsB s.rows.flatten).drop (x * 256 + 256) := by simp [cellsB, List.map_take, List.map_drop]
      rw [flatten_set _ _ _ h.ok.each hl hx, e2]
      rw [hlen]
      exact take_spliced (s.rows.length * 256) (x * 256) 256 cur.toList _ _ ht hxs (by simpa using hcs) hlen
end Go.Proofs.Ytgnoodafaofkiaa
