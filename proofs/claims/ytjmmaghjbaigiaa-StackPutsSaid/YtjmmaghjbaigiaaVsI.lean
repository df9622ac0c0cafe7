/- Versions: slices.Insert. -/
import Derived.Test.YtjmmaghjbaigiaaVsB
import Derived.Lib.Overlaps
import Derived.Lib.AppendZerosOnto
import Derived.Laws.Externs
import Derived.Laws.CopyRow
import Derived.Laws.CopyOwn
import Derived.Shelf.RegionOpenPlain
namespace Go.Proofs.Ytjmmaghjbaigiaa
open Go.RowKit
set_option linter.unusedVariables false
set_option linter.unusedSimpArgs false
def flatV (l : List Vn) : List Value := (l.map Vn.cs).flatten
theorem flatV_app (a b : List Vn) : flatV (a ++ b) = flatV a ++ flatV b := by simp [flatV]
theorem flatV_cons (a : Vn) (b : List Vn) : flatV (a :: b) = a.cs ++ flatV b := by simp [flatV]
theorem flatV_len (l : List Vn) : (flatV l).length = l.length * 4 := by
  induction l with
  | nil => rfl
  | cons x r ih => rw [flatV_cons, List.length_append, ih, List.length_cons]; simp [Vn.cs]; omega
theorem flatV_take (l : List Vn) (i : Nat) : (flatV l).take (i * 4) = flatV (l.take i) := by
  by_cases h : i ≤ l.length
  · have e : flatV l = flatV (l.take i) ++ flatV (l.drop i) := by rw [← flatV_app, List.take_append_drop]
    have hl : (flatV (l.take i)).length = i * 4 := by rw [flatV_len, List.length_take, Nat.min_eq_left h]
    rw [e, List.take_append_of_le_length (by omega), List.take_of_length_le (by omega)]
  · rw [List.take_of_length_le (by rw [flatV_len]; omega), List.take_of_length_le (by omega)]
theorem flatV_drop (l : List Vn) (i : Nat) : (flatV l).drop (i * 4) = flatV (l.drop i) := by
  by_cases h : i ≤ l.length
  · have e : flatV l = flatV (l.take i) ++ flatV (l.drop i) := by rw [← flatV_app, List.take_append_drop]
    have hl : (flatV (l.take i)).length = i * 4 := by rw [flatV_len, List.length_take, Nat.min_eq_left h]
    rw [e, List.drop_append_of_le_length (by omega), List.drop_of_length_le (by omega), List.nil_append]
  · rw [List.drop_of_length_le (by rw [flatV_len]; omega), List.drop_of_length_le (by omega)]; rfl
theorem flatV_one (l : List Vn) : ∀ u ∈ flatV l, u.oneCell' = true := by
  intro u hu
  obtain ⟨cs, hcs, hu⟩ := List.mem_flatten.1 hu
  obtain ⟨x, _, rfl⟩ := List.mem_map.1 hcs
  exact KV.one (w := default) (x := x) (show KV.E default x.cs x from rfl) u hu
theorem RG.flatV {w : World} {a : Addr} {M : List Vn} (h : RG KV w (some a) M) : ∀ (j : Nat) (v : Value), (Go.Proofs.Ytjmmaghjbaigiaa.flatV M)[j]? = some v → w.cell? (a.add j) = some v := by
  obtain ⟨css, d1, d2, d3⟩ := h.rows
  have e : css = M.map Vn.cs := by
    refine List.ext_getElem? fun i => ?_
    rw [List.getElem?_map]
    by_cases hi : i < M.length
    · obtain ⟨cs, e1, e2, _⟩ := d3 i _ (List.getElem?_eq_getElem hi)
      rw [e1, List.getElem?_eq_getElem hi]
      have e2' : cs = (M[i]).cs := e2
      rw [e2']; rfl
    · rw [List.getElem?_eq_none (by omega), List.getElem?_eq_none (by omega)]; rfl
  intro j v hv
  refine d2 j v ?_
  rw [e]
  exact hv
theorem OG.flatV {T : TypeId} {base : Nat} {w : World} {v : Value} {l : List Vn} (h : OG KV T base w v l) : w.ownsRow base T 4 v l.length (Go.Proofs.Ytjmmaghjbaigiaa.flatV l) := by
  obtain ⟨css, h1, h2, h3⟩ := h
  have e : css = l.map Vn.cs := by
    refine List.ext_getElem? fun i => ?_
    rw [List.getElem?_map]
    by_cases hi : i < l.length
    · obtain ⟨cs, e1, e2, _⟩ := h3 i _ (List.getElem?_eq_getElem hi)
      rw [e1, List.getElem?_eq_getElem hi]
      have e2' : cs = (l[i]).cs := e2
      rw [e2']; rfl
    · rw [List.getElem?_eq_none (by omega), List.getElem?_eq_none (by omega)]; rfl
  rw [e] at h1
  exact h1
theorem OG.ofFlat {T : TypeId} {base : Nat} {w : World} {v : Value} {l : List Vn} {n : Nat} (h : w.ownsRow base T 4 v n (Go.Proofs.Ytjmmaghjbaigiaa.flatV l)) (hn : l.length = n) : OG KV T base w v l := by
  subst hn
  exact ⟨l.map Vn.cs, h, by simp, fun j x hj => ⟨x.cs, by rw [List.getElem?_map, hj]; rfl, rfl, fun b hb => hb.elim⟩⟩
theorem sizeV : (Try.prog.info? 66).map (·.size) = some 4 := by kernel_rfl
set_option maxRecDepth 100000 in
theorem run_copy_V {base N cap g : Nat} {w : World} {xs : List Value} {T : TypeId} (hown : w.ownsRow base T 4 (.slice (some ⟨g, 0, none⟩) N cap) N xs) (ty : TypeId) (i dn dc k sn sc : Nat) (a : Addr) (M : List Vn) (hr : RG KV w (some a) M) (hk : M.length = k) (hmin : Nat.min sn dn = k) (hfit : i + k ≤ N) :
    ∃ w', (Builtin.copy_ #[22, 22] ty #[.slice (some ⟨g, i * 4, none⟩) dn dc, .slice (some a) sn sc]).run Try.prog w = .ok (goInt k) w' ∧ w'.ownsRow base T 4 (.slice (some ⟨g, 0, none⟩) N cap) N (xs.take (i * 4) ++ flatV M ++ xs.drop ((i + k) * 4)) ∧ (∀ b, b ≠ g → w'.heap[b]? = w.heap[b]?) ∧ Below base w w' := by
  have hown' := hown
  rcases hown.2 with ⟨e, _⟩ | ⟨g', cap', cur, e, hbg, hg, hnc, hcm, hcs, ht⟩
  · cases e
  · injection e with e1 e2 e3
    injection e1 with e1
    injection e1 with e1
    subst e1 e3
    have hM : (flatV M).length = k * 4 := by rw [flatV_len, hk]
    have hl := run_loadCells_list (P := Try.prog) w a (flatV M) hr.flatV
    have hst := run_storeCells_at Try.prog g (i * 4) T (flatV M) 0 cur w hg (by rw [hM, hcs]; omega) (flatV_one M)
    rw [Nat.add_zero] at hst
    rw [hM] at hl
    have hrun : (Builtin.copy_ #[22, 22] ty #[.slice (some ⟨g, i * 4, none⟩) dn dc, .slice (some a) sn sc]).run Try.prog w = .ok (goInt k) (w.setRow g (cur.toList.take (i * 4) ++ flatV M ++ cur.toList.drop (i * 4 + (flatV M).length)).toArray) := by
      have hz := sizeV
      cases hq : Try.prog.info? 66 with
      | none => rw [hq] at hz; cases hz
      | some i0 =>
        have hi : i0.size = 4 := by rw [hq] at hz; simpa using hz
        have hmin' : min sn dn = k := hmin
        simp [Builtin.copy_, run_underlying Try.underlying22, Builtin.lenOf, Builtin.firstCells, sizeOf, typeInfo, hq, hi, hmin', hl, hst]
    refine ⟨_, hrun, ?_, fun b hb => setRow_other w g b _ hb, below_setRow (Below.refl _ _) hbg _⟩
    have hxs : xs = cur.toList.take (N * 4) := ht.symm
    have hxl : xs.length = N * 4 := hown'.1
    have hcl : cur.toList.length = cap * 4 := by rw [Array.length_toList]; exact hcs
    rw [hM]
    refine ⟨?_, .inr ⟨g, cap, _, rfl, hbg, setRow_heap w g cur _ T (0, 0) hg, hnc, hcm, ?_, ?_⟩⟩
    · simp only [List.length_append, List.length_take, List.length_drop, hM, hxl]; omega
    · simp only [List.size_toArray, List.length_append, List.length_take, List.length_drop, hM, hcl]; omega
    · rw [hxs]
      have a1 : (cur.toList.take (i * 4)).length = i * 4 := by rw [List.length_take, hcl]; omega
      rw [List.take_take, Nat.min_eq_left (by omega), List.append_assoc, List.append_assoc]
      rw [List.take_append, List.take_append, a1, hM, List.take_of_length_le (by rw [a1]; omega), List.take_of_length_le (l := flatV M) (by rw [hM]; omega), List.drop_take]
      congr 3
      · omega
      · congr 1
        omega
theorem step_copy_V {ops : Array Oper} {o : Oper} {a : Act} {w : World} {N' : Act → World → Prop} {Q : Exit → Act → World → Prop} {E : Prop} (hgd : o.guard = none) (d x : Operand)
    (ho : o.op = Op.call { callee := Callee.builtin Builtin.copy, args := #[d, x], argTypes := #[22, 22] })
    {base N cap g : Nat} {xs : List Value} {T : TypeId} (hown : w.ownsRow base T 4 (.slice (some ⟨g, 0, none⟩) N cap) N xs) (i off dn dc k sn sc : Nat) (p : Addr) (M : List Vn)
    (hd : a.eval d = .slice (some ⟨g, off, none⟩) dn dc) (hx : a.eval x = .slice (some p) sn sc) (hoff : off = i * 4) (hr : RG KV w (some p) M) (hk : M.length = k) (hmin : Nat.min sn dn = k) (hfit : i + k ≤ N)
    (h : ∀ w', w'.ownsRow base T 4 (.slice (some ⟨g, 0, none⟩) N cap) N (xs.take (i * 4) ++ flatV M ++ xs.drop ((i + k) * 4)) → (∀ b, b ≠ g → w'.heap[b]? = w.heap[b]?) → Below base w w' → N' (a.put o.dst (goInt k)) w') :
    if Region.wanted o (yielded ops a.tmps) = true then Oper.wp Try.prog o a w N' Q else E := by
  have hw : Region.wanted o (yielded ops a.tmps) = true := by simp [Region.wanted, hgd]
  rw [if_pos hw]
  obtain ⟨w', hrun, h2, h3, h4⟩ := run_copy_V hown o.type i dn dc k sn sc p M hr hk hmin hfit
  subst hoff
  unfold Oper.wp execOp
  simp only [ho, resolve, invoke, builtin, Sem.run_bind, Sem.run_pure, Result.andThen_ok, List.map_toArray, List.map_cons, List.map_nil, hd, hx, hrun]
  exact h w' h2 h3 h4
theorem wpList_copy_V {ops : Array Oper} {rest : List Oper} {o : Oper} {a : Act} {w : World} {Q : Exit → Act → World → Prop} (hgd : o.guard = none) (d x : Operand)
    (ho : o.op = Op.call { callee := Callee.builtin Builtin.copy, args := #[d, x], argTypes := #[22, 22] })
    {base N cap g : Nat} {xs : List Value} {T : TypeId} (hown : w.ownsRow base T 4 (.slice (some ⟨g, 0, none⟩) N cap) N xs) (i off dn dc k sn sc : Nat) (p : Addr) (M : List Vn)
    (hd : a.eval d = .slice (some ⟨g, off, none⟩) dn dc) (hx : a.eval x = .slice (some p) sn sc) (hoff : off = i * 4) (hr : RG KV w (some p) M) (hk : M.length = k) (hmin : Nat.min sn dn = k) (hfit : i + k ≤ N)
    (h : ∀ w', w'.ownsRow base T 4 (.slice (some ⟨g, 0, none⟩) N cap) N (xs.take (i * 4) ++ flatV M ++ xs.drop ((i + k) * 4)) → (∀ b, b ≠ g → w'.heap[b]? = w.heap[b]?) → Below base w w' → wpList Try.prog ops Q rest (a.put o.dst (goInt k)) w') : wpList Try.prog ops Q (o :: rest) a w :=
  wpList_step fun N' hN => step_copy_V hgd d x ho hown i off dn dc k sn sc p M hd hx hoff hr hk hmin hfit fun w' h2 h3 h4 => hN _ _ (h w' h2 h3 h4)
/-- Nothing of a row in one block lies in another one's. -/
theorem overlaps_not {w : World} {b off vb voff m vc lb cb tA tB : Nat} (hne : vb ≠ b) {kA kB : Nat} (hsa : w.shape? vb = some (tA, kA)) (hsb : w.shape? b = some (tB, kB)) (hk : kB ≠ 0) (hfa : w.frozen? ⟨vb, voff, none⟩ = false) (hfe : w.frozen? ⟨vb, kA, none⟩ = false) :
    (callFunc 103 #[.slice (some ⟨vb, voff, none⟩) m vc, .slice (some ⟨b, off, none⟩) lb cb]).run Try.prog w = .ok (.value (.bool false)) w := by
  rw [run_callFunc_extern Try.func103 (by kernel_rfl) (by kernel_rfl) (by kernel_rfl) (e := Extern.SlicesOverlaps.overlaps #[22, 22] #[4]) (by kernel_rfl),
    Lib.run_overlaps_apart w 22 4 66 Try.underlying22 4 Try.sizeOf66 ⟨vb, voff, none⟩ ⟨b, off, none⟩ m vc lb cb hne tA tB kA kB hsa hsb hk hfa hfe]
  rfl
end Go.Proofs.Ytjmmaghjbaigiaa
