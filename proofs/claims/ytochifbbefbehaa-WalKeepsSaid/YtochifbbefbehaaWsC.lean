/- Records in sectors: the array of a sector; a sector is filled. -/
import Derived.Test.YtochifbbefbehaaWsB
import Derived.Test.YtochifbbefbehaaRwA
import Derived.Lib.BufferWrite
import Derived.Laws.Rows
import Derived.IntWalk
namespace Go.Proofs.Ytochifbbefbehaa
open Go.RowKit
set_option linter.unusedVariables false
set_option linter.unusedSimpArgs false
/-- 256 noughts. -/
def z256 : Array Value := (cellsB (List.replicate 256 0)).toArray
set_option maxRecDepth 100000 in
theorem infoC : (Try.prog.info? 77).map (fun i => (i.zero, i.size)) = some (some (.agg z256), 256) := by kernel_rfl
theorem run_zeroC (W : World) : (zeroValue 77).run Try.prog W = .ok (.agg z256) W := by
  have h := infoC
  cases hi : Try.prog.info? 77 with
  | none => rw [hi] at h; cases h
  | some i =>
    rw [hi] at h
    simp only [Option.map_some, Option.some.injEq, Prod.mk.injEq] at h
    simp [zeroValue, typeInfo, hi, h.1]
theorem infoC_of {l : List UInt8} (h : l.length = 256) : (Try.prog.info? 77).map (·.size) = some (cellsB l).length := by
  rw [slLength_cellsB, h]
  have h := infoC
  cases hi : Try.prog.info? 77 with
  | none => rw [hi] at h; cases h
  | some i =>
    rw [hi] at h
    simp only [Option.map_some, Option.some.injEq, Prod.mk.injEq] at h
    simp [h.2]
theorem typeC : Try.prog.underlying 77 = some (.array (Try.prog.arrayLen 77) (Try.prog.elem 77)) := by kernel_rfl
theorem lenC : Try.prog.arrayLen 77 = 256 := by kernel_rfl
theorem elemC : Try.prog.elem 77 = 5 := by kernel_rfl
/-- The array of a sector, sliced from a place on, up to one, and whole. -/
theorem sliceC_from (W : World) (q l : Nat) (z : Int) (hz : z = (l : Int)) (hl : l < 256) : (Instr.sliceAt 77 (.pointer (some ⟨q, 0, none⟩)) (some (.int .i64 z)) none none).run Try.prog W = .ok (.slice (some ⟨q, l, none⟩) (256 - l) (256 - l)) W := by
  subst hz
  rw [run_sliceAt_array_l W 77 ⟨q, 0, none⟩ typeC .i64 _ (by omega) (by rw [lenC]; omega), lenC, elemC]
  have hs : (sizeOf 5).run Try.prog W = .ok 1 W := by simp [go_sem]
  rw [hs]
  simp only [Result.andThen_ok, slicedAt, Int.toNat_natCast, Nat.mul_one]
  rw [if_neg (by omega), add_at]
theorem sliceC_fromto (W : World) (q l h : Nat) (z y : Int) (hz : z = (l : Int)) (hy : y = (h : Int)) (hl : l < 256) (hlh : l ≤ h) (hh : h ≤ 256) : (Instr.sliceAt 77 (.pointer (some ⟨q, 0, none⟩)) (some (.int .i64 z)) (some (.int .i64 y)) none).run Try.prog W = .ok (.slice (some ⟨q, l, none⟩) (h - l) (256 - l)) W := by
  subst hz hy
  rw [run_sliceAt_array_lh W 77 ⟨q, 0, none⟩ typeC .i64 .i64 _ _ (by omega) (by omega) (by rw [lenC]; omega), lenC, elemC]
  have hs : (sizeOf 5).run Try.prog W = .ok 1 W := by simp [go_sem]
  rw [hs]
  simp only [Result.andThen_ok, slicedAt, Int.toNat_natCast, Nat.mul_one]
  rw [if_neg (by omega), add_at]
theorem sliceC (W : World) (g : Nat) : (Instr.sliceAt 77 (.pointer (some ⟨g, 0, none⟩)) none none none).run Try.prog W = .ok (.slice (some ⟨g, 0, none⟩) 256 256) W := by
  rw [run_sliceAt_array_all W 77 ⟨g, 0, none⟩ typeC, lenC, elemC]
  have hs : (sizeOf 5).run Try.prog W = .ok 1 W := by simp [go_sem]
  rw [hs]
  rfl
theorem arr_z256 (w : World) : slArr (w.alloc (.cells z256 77)) w.heap.size 77 (List.replicate 256 0) := heap_alloc_last w _
set_option maxRecDepth 100000 in
/-- A text is copied into an array of one's own. -/
theorem wpList_copy_str {w : World} {ops : Array Oper} {rest : List Oper} {o : Oper} {a : Act} {Q : Exit → Act → World → Prop} (hgd : o.guard = none) (d s : Operand)
    (ho : o.op = .call { callee := .builtin .copy, args := #[d, s], argTypes := #[32, 9] })
    (g off dn dc : Nat) (news : List UInt8) (hd : a.eval d = .slice (some ⟨g, off, none⟩) dn dc) (hs : a.eval s = .string (str news)) (t : TypeId) (cur : List UInt8) (hg : slArr w g t cur) (hn : news.length ≤ dn) (hfit : off + news.length ≤ cur.length)
    (h : ∀ w', Hid (slArr w' g t (splice cur off news)) → slOnlyB g w w' → wpList Try.prog ops Q rest (a.put o.dst (goInt news.length)) w') : wpList Try.prog ops Q (o :: rest) a w := by
  refine wpList_plain hgd fun K hK => ?_
  have hrun := Go.Lib.run_copy_row_string (P := Try.prog) w 32 9 o.type 5 g off dn dc (str news) (cellsB cur).toArray t Try.underlying32 (by kernel_rfl) hg (by rw [str_size]; exact hn) (by rw [str_size, List.size_toArray, slLength_cellsB]; exact hfit)
  rw [str_size] at hrun
  unfold Oper.wp execOp
  simp only [ho, resolve, invoke, builtin, Sem.run_bind, Sem.run_pure, Result.andThen_ok, List.map_toArray, List.map_cons, List.map_nil, hd, hs, hrun]
  refine hK _ _ (h _ (Lib.hid ?_) (slOnlyB.row g w _ t _ hg))
  unfold slArr
  refine (setRow_heap w g _ _ t (0, 0) hg).trans ?_
  congr 3
  simp [cellsB, splice, Go.Lib.byteCells, str, cellB]
/-- What the array has while the stamps are written, and while texts are. -/
def fillA (s : List UInt8) (k : Nat) : List UInt8 := (s.take k ++ List.replicate (248 - k) 0) ++ (s.take k ++ List.replicate (8 - k) 0)
def wsFillB (s : List UInt8) (L : List (List UInt8)) : List UInt8 := s ++ 0 :: (wsPut L ++ (List.replicate (239 - wsSize L) 0 ++ s))
theorem set_mid {α : Type} (p r : List α) (x y : α) {k : Nat} (h : k = p.length) : (p ++ x :: r).set k y = p ++ y :: r := by
  subst h
  simp
theorem fillA_step {s : List UInt8} {k : Nat} {y : UInt8} (h : k < 8) (hl : s.length = 8) (hy : s[k]? = some y) : ((fillA s k).set k y).set (248 + k) y = fillA s (k + 1) := by
  have h1 : s.take (k + 1) = s.take k ++ [y] := take_snoc hy
  have hk : (s.take k).length = k := by simp; omega
  unfold fillA
  rw [h1, show 248 - k = (248 - (k + 1)) + 1 from by omega, show 8 - k = (8 - (k + 1)) + 1 from by omega, List.replicate_succ, List.replicate_succ]
  generalize hp : s.take k = p at *
  rw [List.append_assoc, List.cons_append, set_mid _ _ _ _ hk.symm]
  rw [show p ++ y :: (List.replicate (248 - (k + 1)) 0 ++ (p ++ 0 :: List.replicate (8 - (k + 1)) 0)) = (p ++ y :: (List.replicate (248 - (k + 1)) 0 ++ p)) ++ 0 :: List.replicate (8 - (k + 1)) 0 from by simp]
  rw [set_mid _ _ _ _ (by simp; omega)]
  simp
theorem fillA_at {s : List UInt8} {k : Nat} (h : k < 8) (hl : s.length = 8) (y : UInt8) : (fillA s k)[k]? = some 0 ∧ ((fillA s k).set k y)[248 + k]? = some 0 := by
  have hk : (s.take k).length = k := by simp; omega
  constructor
  · unfold fillA
    rw [List.getElem?_append_left (by simp; omega), List.getElem?_append_right (by omega), List.getElem?_replicate, if_pos (by omega)]
  · rw [List.getElem?_set_ne (by omega)]
    unfold fillA
    rw [List.getElem?_append_right (by simp; omega), List.getElem?_append_right (by simp; omega), List.getElem?_replicate, if_pos (by simp; omega)]
theorem fillA_end {s : List UInt8} (hl : s.length = 8) : fillA s 8 = wsFillB s [] := by
  unfold fillA wsFillB
  rw [List.take_of_length_le (by omega)]
  simp only [wsPut, wsSize, List.nil_append]
  rw [show 248 - 8 = 239 + 1 from rfl, List.replicate_succ]
  simp only [List.append_assoc, List.cons_append, Nat.sub_self, Nat.sub_zero, List.replicate_zero, List.append_nil]
set_option maxRecDepth 100000 in
theorem wsFillB_len {s : List UInt8} {L : List (List UInt8)} (hl : s.length = 8) (h : wsSize L ≤ 239) : (wsFillB s L).length = 256 := by
  unfold wsFillB
  rw [List.length_append, List.length_cons, List.length_append, List.length_append, List.length_replicate, wsPut_len, hl]
  omega
theorem fillB_step {s : List UInt8} {L : List (List UInt8)} {t : List UInt8} (hl : s.length = 8) (h : wsSize L + (t.length + 1) ≤ 239) : splice ((wsFillB s L).set (9 + wsSize L) (UInt8.ofNat t.length)) (9 + wsSize L + 1) t = wsFillB s (L ++ [t]) := by
  have e : wsFillB s L = (s ++ 0 :: wsPut L) ++ (0 :: (List.replicate t.length 0 ++ (List.replicate (239 - wsSize (L ++ [t])) 0 ++ s))) := by
    unfold wsFillB
    rw [wsSize_snoc, show 239 - wsSize L = (t.length + (239 - (wsSize L + (t.length + 1)))) + 1 from by omega, List.replicate_succ, ← List.replicate_append_replicate]
    simp only [List.append_assoc, List.cons_append]
  have hp : (s ++ 0 :: wsPut L).length = 9 + wsSize L := by rw [List.length_append, List.length_cons, wsPut_len, hl]; omega
  rw [e, set_mid _ _ _ _ hp.symm]
  unfold splice wsFillB
  rw [wsPut_snoc]
  have e2 : s ++ 0 :: (wsPut L ++ UInt8.ofNat t.length :: t ++ (List.replicate (239 - wsSize (L ++ [t])) 0 ++ s)) = (s ++ 0 :: wsPut L) ++ UInt8.ofNat t.length :: (t ++ (List.replicate (239 - wsSize (L ++ [t])) 0 ++ s)) := by simp
  rw [e2]
  generalize s ++ 0 :: wsPut L = p at *
  generalize List.replicate (239 - wsSize (L ++ [t])) 0 ++ s = q at *
  have e3 : p ++ UInt8.ofNat t.length :: (List.replicate t.length 0 ++ q) = (p ++ [UInt8.ofNat t.length]) ++ (List.replicate t.length 0 ++ q) := by simp
  rw [e3]
  have hp1 : (p ++ [UInt8.ofNat t.length]).length = 9 + wsSize L + 1 := by simp [hp]
  rw [← hp1, List.take_left, ← List.drop_drop, List.drop_left, List.drop_append_of_le_length (by simp), List.drop_of_length_le (by simp), List.nil_append]
  simp
end Go.Proofs.Ytochifbbefbehaa
