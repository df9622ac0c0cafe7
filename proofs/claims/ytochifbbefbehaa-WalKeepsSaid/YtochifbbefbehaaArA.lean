/- Arrays of bytes in boxes: what lies in one, a change of one alone, a copy into one, a store of a whole one. -/
import Derived.Test.YtochifbbefbehaaOwn
import Derived.Deep.Cut
import Derived.Deep.MidRow
import Derived.Deep.WholeRow
import Derived.Deep.DeepMust
namespace Go.Proofs.Ytochifbbefbehaa
open Go.RowKit
set_option linter.unusedVariables false
set_option linter.unusedSimpArgs false
theorem slLength_cellsB (l : List UInt8) : (cellsB l).length = l.length := by simp [cellsB]
theorem slOneCells_B (l : List UInt8) : ∀ v ∈ cellsB l, v.oneCell' = true := by
  intro u hu
  simp only [cellsB, List.mem_map] at hu
  obtain ⟨x, _, rfl⟩ := hu
  rfl
/-- The block g is an array of the bytes l. -/
def slArr (w : World) (g : Nat) (t : TypeId) (l : List UInt8) : Prop := w.heap[g]? = some (.cells (cellsB l).toArray t (0, 0))
theorem slArr.lt {w : World} {g : Nat} {t : TypeId} {l : List UInt8} (h : slArr w g t l) : g < w.heap.size := (Array.getElem?_eq_some_iff.1 h).1
theorem slArr.below {w w' : World} {g B : Nat} {t : TypeId} {l : List UInt8} (h : slArr w g t l) (hb : Below B w w') (hB : g < B) : slArr w' g t l := (hb.block g hB).trans h
theorem slArr.same {w w' : World} {g : Nat} {t : TypeId} {l : List UInt8} (h : slArr w g t l) (hb : Below w.heap.size w w') : slArr w' g t l := (hb.block g h.lt).trans h
theorem slArr.at {w : World} {g : Nat} {t : TypeId} {l : List UInt8} (h : slArr w g t l) {k : Nat} {x : UInt8} (hk : l[k]? = some x) :
    w.cell? ⟨g, k, none⟩ = some (.int .u8 (x.toNat : Int)) ∧ w.frozen? ⟨g, k, none⟩ = false ∧ ∀ (y : UInt8) (z : Int), z = (y.toNat : Int) → slArr (w.setCell ⟨g, k, none⟩ (.int .u8 z)) g t (l.set k y) := by
  refine ⟨?_, ?_, fun y z hz => ?_⟩
  · rw [cell_of_row w g k _ t _ h]
    simp [cellsB, hk, cellB]
  · have h' : w.heap[g]? = some (.cells (cellsB l).toArray t (0, 0)) := h
    simp [World.frozen?, h']
  · subst hz
    have h1 := heap_setCell_same w g k _ t (.int .u8 (y.toNat : Int)) h
    unfold slArr
    rw [h1]
    simp [cellsB, cellB, List.map_set]
theorem slArr.frozen {w : World} {g : Nat} {t : TypeId} {l : List UInt8} (h : slArr w g t l) (j : Nat) : w.frozen? ⟨g, j, none⟩ = false := by
  have h' : w.heap[g]? = some (.cells (cellsB l).toArray t (0, 0)) := h
  simp [World.frozen?, h']
theorem slArr.reads {w : World} {g : Nat} {t : TypeId} {l : List UInt8} (h : slArr w g t l) : RB w (some ⟨g, 0, none⟩) l := by
  refine .inr ⟨_, rfl, fun j x hx => ?_⟩
  have e : (⟨g, 0, none⟩ : Addr).add j = ⟨g, j, none⟩ := by cases j <;> simp [Addr.add]
  rw [e]
  exact (h.at hx).1
theorem slArr.range {w : World} {g : Nat} {t : TypeId} {l : List UInt8} (h : slArr w g t l) : w.rangeAt g 0 (cellsB l) := fun j v hv => by
  rw [cell_of_row w g (0 + j) _ t _ h]
  simpa using hv
/-- Of what lies in w only the block g may read otherwise. -/
structure slOnlyB (g : Nat) (w w' : World) : Prop where
  os : w'.os = w.os
  tape : w'.tape = w.tape
  output : w'.output = w.output
  size : w'.heap.size = w.heap.size
  block : ∀ b, b ≠ g → w'.heap[b]? = w.heap[b]?
theorem slOnlyB.refl (g : Nat) (w : World) : slOnlyB g w w := ⟨rfl, rfl, rfl, rfl, fun _ _ => rfl⟩
theorem slOnlyB.set (g i : Nat) (w : World) (v : Value) : slOnlyB g w (w.setCell ⟨g, i, none⟩ v) := by
  have h := (Below.refl 0 w).setCell (p := ⟨g, i, none⟩) (Nat.zero_le _) v
  refine ⟨h.os, h.tape, h.output, ?_, fun b hb => ?_⟩
  · simp [World.setCell]
  · unfold World.setCell
    simp [Array.getElem?_modify, Ne.symm hb]
theorem slOnlyB.below {g base : Nat} {w w' : World} (h : slOnlyB g w w') (hb : base ≤ g) : Below base w w' := ⟨h.os, h.tape, h.output, Nat.le_of_eq h.size.symm, fun b hlt => h.block b (by omega)⟩
theorem slOnlyB.trans {g : Nat} {X Y Z : World} (h1 : slOnlyB g X Y) (h2 : slOnlyB g Y Z) : slOnlyB g X Z := ⟨h2.os.trans h1.os, h2.tape.trans h1.tape, h2.output.trans h1.output, h2.size.trans h1.size, fun b hb => (h2.block b hb).trans (h1.block b hb)⟩
theorem slOnlyB.drew {g : Nat} {X Y : World} (h : slOnlyB g X Y) : slOnlyB g X Y.drew := ⟨h.os, h.tape, h.output, h.size, h.block⟩
theorem slArr.only {w w' : World} {g q : Nat} {t : TypeId} {l : List UInt8} (h : slArr w q t l) (ho : slOnlyB g w w') (hne : q ≠ g) : slArr w' q t l := (ho.block q hne).trans h
theorem slOnlyB.row (g : Nat) (w : World) (cs : Array Value) (t : TypeId) (cur : Array Value) (h : w.heap[g]? = some (.cells cur t (0, 0))) : slOnlyB g w (w.setRow g cs) :=
  ⟨rfl, rfl, rfl, by simp [World.setRow], fun k hk => setRow_other w g k _ hk⟩
theorem slArr.set_ne {w : World} {g : Nat} {t : TypeId} {l : List UInt8} (h : slArr w g t l) {p : Addr} (hp : g ≠ p.block) (v : Value) : slArr (w.setCell p v) g t l := (Below.heap_setCell w p v g hp).trans h
theorem slWpList_copy_arr {w : World} {ops : Array Oper} {rest : List Oper} {o : Oper} {a : Act} {Q : Exit → Act → World → Prop} (hgd : o.guard = none) (d s : Operand)
    (ho : o.op = .call { callee := .builtin .copy, args := #[d, s], argTypes := #[32, 32] })
    (dp A : Option Addr) (dn dc m sc : Nat) (hd : a.eval d = .slice dp dn dc) (hs : a.eval s = .slice A m sc) (g off : Nat) (t : TypeId) (cur news l : List UInt8) (hg : slArr w g t cur) (hn : news.length = Nat.min m dn) (hr : RB w A l) (hl : news = l.take news.length)
    (hdp : 0 < news.length → dp = some ⟨g, off, none⟩) (hfit : off + news.length ≤ cur.length)
    (h : ∀ w', Hid (slArr w' g t (splice cur off news)) → slOnlyB g w w' → wpList Try.prog ops Q rest (a.put o.dst (goInt news.length)) w') : wpList Try.prog ops Q (o :: rest) a w := by
  by_cases h0 : news.length = 0
  · obtain rfl : news = [] := List.eq_nil_of_length_eq_zero h0
    refine wpList_copy_nothing hgd d s 32 32 ho 5 Try.underlying32 (by kernel_rfl) dp A dn dc m sc hd hs (by simpa using hn.symm) ?_
    exact h w (Lib.hid (by simpa [splice] using hg)) (slOnlyB.refl g w)
  · obtain rfl := hdp (by omega)
    rcases hr with e | ⟨ad, rfl, hc⟩
    · rw [hl, e] at h0; simp at h0
    · refine wpList_copy_own hgd d s 32 32 ho 5 Try.underlying32 (by kernel_rfl) g off dn dc ad m sc hd hs (cellsB cur).toArray t hg (cellsB news) (by rw [slLength_cellsB]; exact hn) (fun j v hv => ?_) (by simpa [slLength_cellsB] using hfit) (slOneCells_B news) ?_
      · simp only [cellsB, List.getElem?_map, Option.map_eq_some_iff] at hv
        obtain ⟨x, hx, rfl⟩ := hv
        refine hc j x ?_
        rw [hl, List.getElem?_take] at hx
        split at hx
        · exact hx
        · cases hx
      · rw [slLength_cellsB]
        refine h _ (Lib.hid ?_) (slOnlyB.row g w _ t _ hg)
        unfold slArr
        refine (setRow_heap w g _ _ t (0, 0) hg).trans ?_
        congr 3
        simp [cellsB, splice]
theorem RB.some_of {w : World} {A : Option Addr} {l : List UInt8} (h : RB w A l) (hl : 0 < l.length) : ∃ ad, A = some ad := by
  rcases h with rfl | ⟨ad, e, _⟩
  · simp at hl
  · exact ⟨ad, e⟩
theorem equalIn_u8 (d : Nat) (w : World) (a b : Int) : (Op.equalIn (d + 1) 5 (.int .u8 a) (.int .u8 b)).run Try.prog w = .ok (a == b) w := by
  simp [Op.equalIn, run_underlying Try.underlying5, go_sem]
def eqI : List Int → List Int → Bool
  | [], _ => true
  | _ :: _, [] => true
  | a :: x, b :: y => (a == b) && eqI x y
theorem eqI_eq (a b : List UInt8) (h : a.length = b.length) : eqI (a.map fun x => (x.toNat : Int)) (b.map fun x => (x.toNat : Int)) = decide (a = b) := by
  induction a generalizing b with
  | nil =>
    obtain rfl : b = [] := List.eq_nil_of_length_eq_zero h.symm
    rfl
  | cons x a ih =>
    cases b with
    | nil => simp at h
    | cons y b =>
      simp only [List.map_cons, eqI]
      rw [ih b (by simpa using h), Bool.eq_iff_iff]
      simp only [Bool.and_eq_true, beq_iff_eq, decide_eq_true_eq, List.cons.injEq]
      constructor
      · rintro ⟨h1, h2⟩
        exact ⟨UInt8.toNat_inj.1 (by omega), h2⟩
      · rintro ⟨h1, h2⟩
        exact ⟨by rw [h1], h2⟩
theorem slSetCells_row {w : World} {g o : Nat} {cur : Array Value} {t : TypeId} {vs : List Value} (hg : w.heap[g]? = some (.cells cur t (0, 0))) (hfit : o + vs.length ≤ cur.size) (h1 : ∀ v ∈ vs, v.oneCell' = true) :
    (w.setCells g o vs).heap[g]? = some (.cells (cur.toList.take o ++ vs ++ cur.toList.drop (o + vs.length)).toArray t (0, 0)) ∧ w.grownBy (w.setCells g o vs) (some g) := by
  have a := run_storeCells_at Try.prog g o t vs 0 cur w hg (by omega) h1
  have b := run_storeCells_cells (P := Try.prog) g o vs 0 w (fun j hj => by simp [World.cell?, hg]; omega) (fun j hj => by simp [World.frozen?, hg]) h1
  rw [a] at b
  simp only [Nat.add_zero] at b
  injection b with _ b
  rw [← b]
  exact ⟨setRow_heap w g cur _ _ _ hg, ⟨rfl, rfl, rfl, by simp, fun k _ hk => setRow_other w g k _ (fun e => hk (by rw [e]))⟩⟩
theorem slSetCells_eq {w : World} {g o : Nat} {cur : Array Value} {t : TypeId} {vs : List Value} (hg : w.heap[g]? = some (.cells cur t (0, 0))) (hfit : o + vs.length ≤ cur.size) (h1 : ∀ v ∈ vs, v.oneCell' = true) :
    w.setCells g o vs = w.setRow g (cur.toList.take o ++ vs ++ cur.toList.drop (o + vs.length)).toArray := by
  have a := run_storeCells_at Try.prog g o t vs 0 cur w hg (by omega) h1
  have b := run_storeCells_cells (P := Try.prog) g o vs 0 w (fun j hj => by simp [World.cell?, hg]; omega) (fun j hj => by simp [World.frozen?, hg]) h1
  rw [a] at b
  simp only [Nat.add_zero] at b
  injection b with _ b
  exact b.symm
theorem slThere_of_heap {w : World} {g o n : Nat} {cur : Array Value} {t : TypeId} (hg : w.heap[g]? = some (.cells cur t (0, 0))) (hfit : o + n ≤ cur.size) : w.there g o n := fun j hj => by
  refine ⟨?_, by simp [World.frozen?, hg]⟩
  simp [World.cell?, hg]
  omega
theorem wpList_load_midg {ops : Array Oper} {rest : List Oper} {op : Oper} {a : Act} {w : World} {Q : Exit → Act → World → Prop} (hw : Region.wanted op (yielded ops a.tmps) = true) (ty : TypeId) (x : Operand) (ho : op.op = .load ty x)
    (b o : Nat) (hx : a.eval x = .pointer (some ⟨b, o, none⟩)) (cs : List Value) (d : TypeDesc) (hc : w.rangeAt b o cs)
    (hu : Try.prog.underlying ty = some d) (hd : d.isRow = true) (hi : (Try.prog.info? ty).map (·.size) = some cs.length)
    (h : wpList Try.prog ops Q rest (a.put op.dst (.agg cs.toArray)) w) : wpList Try.prog ops Q (op :: rest) a w :=
  wpList_step fun K hK => by
    rw [if_pos hw]
    exact wp_load_mid ty x ho b o hx cs d hc hu hd hi (hK _ _ h)
set_option maxRecDepth 100000 in
/-- A store of a whole array. -/
theorem wpList_store_arr {w : World} {ops : Array Oper} {rest : List Oper} {o : Oper} {a : Act} {Q : Exit → Act → World → Prop} (hgd : o.guard = none) (ty : TypeId) (x y : Operand) (ho : o.op = .store ty x y)
    (g : Nat) (t : TypeId) (cur l : List UInt8) (hx : a.eval x = .pointer (some ⟨g, 0, none⟩)) (hy : a.eval y = .agg (cellsB l).toArray) (hg : slArr w g t cur) (hl : cur.length = l.length) (hi : (Try.prog.info? ty).map (·.size) = some (cellsB l).length)
    (h : ∀ w', Hid (slArr w' g t l) → slOnlyB g w w' → wpList Try.prog ops Q rest (a.put o.dst undef) w') : wpList Try.prog ops Q (o :: rest) a w := by
  have hz : (cellsB cur).toArray.size = (cellsB l).length := by rw [List.size_toArray, slLength_cellsB, slLength_cellsB, hl]
  have hr := slSetCells_row (w := w) (g := g) (o := 0) (cur := (cellsB cur).toArray) (t := t) (vs := cellsB l) hg (by rw [hz]; omega) (slOneCells_B l)
  have he := slSetCells_eq (w := w) (g := g) (o := 0) (cur := (cellsB cur).toArray) (t := t) (vs := cellsB l) hg (by rw [hz]; omega) (slOneCells_B l)
  refine wpList_store_mid hgd ty x y ho g 0 (cellsB l).toArray hx hy (slThere_of_heap hg (by simp [slLength_cellsB, hl])) (by simpa using hi) (all_oneCell_toArray (slOneCells_B l)) ?_
  refine h _ (Lib.hid ?_) ?_
  · unfold slArr
    refine hr.1.trans ?_
    congr 3
    rw [List.take_zero, List.nil_append, Nat.zero_add, List.drop_of_length_le (by simp [slLength_cellsB, hl]), List.append_nil]
  · rw [show (cellsB l).toArray.toList = cellsB l from rfl, he]
    exact slOnlyB.row g w _ t _ hg
end Go.Proofs.Ytochifbbefbehaa
