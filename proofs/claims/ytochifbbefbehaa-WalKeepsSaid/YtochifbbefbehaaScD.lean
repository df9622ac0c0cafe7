/- The package sector: the change of Write. -/
import Derived.Test.YtochifbbefbehaaScC
import Derived.Test.YtochifbbefbehaaScM
import Derived.StillTailTactics
namespace Go.Proofs.Ytochifbbefbehaa
open Go.RowKit
set_option linter.unusedVariables false
def Dk.put (s : Dk) (n : Nat) (l : List UInt8) : Dk := { s with wt := fun k => if k = n then some l else s.wt k }
theorem wpStill_load_mid {P : Program} {ops : Array Oper} {w : World} {Q : Act → Prop} {a : Act} {o : Oper} {rest : List Oper} (hgd : o.guard = none) (ty : TypeId) (x : Operand) (ho : o.op = .load ty x)
    (b off : Nat) (hx : a.eval x = .pointer (some ⟨b, off, none⟩)) (cs : List Value) (d : TypeDesc) (hc : w.rangeAt b off cs) (hu : P.underlying ty = some d) (hd : d.isRow = true) (hi : (P.info? ty).map (·.size) = some cs.length)
    (h : wpStill P ops w Q rest (a.put o.dst (.agg cs.toArray))) : wpStill P ops w Q (o :: rest) a := by
  refine wpStill_step fun K hK => ?_
  have hw : Region.wanted o (yielded ops a.tmps) = true := by simp [Region.wanted, hgd]
  rw [if_pos hw]
  unfold Oper.still execOp
  simp only [ho, hx, Instr.loadAt, Instr.sureAddr, Sem.run_bind, Sem.run_pure, Result.andThen_ok, run_loadVar_mid w b off ty cs d hc hu hd hi]
  exact ⟨rfl, hK _ h⟩
theorem range_of_heap {w : World} {g : Nat} {cs : List Value} {t : TypeId} {fr : Nat × Nat} (h : w.heap[g]? = some (.cells cs.toArray t fr)) : w.rangeAt g 0 cs := fun j v hv => by
  rw [cell_of_row w g (0 + j) cs.toArray t fr h]
  simpa using hv
theorem splice_all {a b : List Value} (h : a.length = b.length) : splice a 0 b = b := by
  simp [splice, ← h]
theorem zeroSec_len : Try.zeroCells67.toList.length = 256 := by kernel_rfl
theorem infoSec : (Try.prog.info? 67).map (·.size) = some 256 := by kernel_rfl
theorem DkAt.put {base : Nat} {F : Ft} {w w' : World} {s : Dk} (h : DkAt base F w s) {n : Nat} {l : List UInt8} (hn : n < s.rows.length) (hl : l.length = 256) (hm : MapIs w' F.m (fun i => if i = n then some l else s.wt i)) (hf : Frm (fun k => k = F.m) w w') : DkAt base F w' (s.put n l) := by
  refine ⟨⟨h.ok.many, h.ok.each, fun k r hr => ?_, fun k r hr => ?_, h.ok.left⟩, h.bb, h.bm, (hf.block _ h.blt (fun e => h.bm_ne e.symm)).trans h.cells, ownsRow_of_block h.row fun g e => hf.block g ?_ (h.mg_ne e), hm⟩
  · have hr : (if k = n then some l else s.wt k) = some r := hr
    split at hr
    · rename_i e; subst e; exact hn
    · exact h.ok.wlt k r hr
  · have hr : (if k = n then some l else s.wt k) = some r := hr
    split at hr
    · injection hr with hr; subst hr; exact hl
    · exact h.ok.wlen k r hr
  · exact h.inside g (.inr (.inr ⟨_, e, rfl⟩))
set_option maxHeartbeats 1000000 in
set_option maxRecDepth 100000 in
theorem write1_any {base : Nat} {F : Ft} {w : World} {s : Dk} (h : DkAt base F w s) (B0 B1 B2 : Nat) (A : Option Addr) (c : Nat) (l : List UInt8) (n : Nat) (hl : l.length = 256) (hn : n < s.rows.length)
    (b0 : w.cell? ⟨B0, 0, none⟩ = some (.slice A 256 c)) (b1 : w.cell? ⟨B1, 0, none⟩ = some (.pointer (some ⟨F.b, 0, none⟩))) (b2 : w.cell? ⟨B2, 0, none⟩ = some (.int .i64 (n : Int))) (hr : RB w A l) :
    Calls Try.prog 55 #[.pointer (some ⟨B0, 0, none⟩), .pointer (some ⟨B1, 0, none⟩), .pointer (some ⟨B2, 0, none⟩)] w fun e w' => e = .returned (.tuple #[]) ∧ DkAt base F w' (s.put n l) ∧ Frm (fun k => k = F.m) w w' := by
  have c1 := h.c1
  have g0 := World.block_lt_of_cell? w _ b0
  have g1 := World.block_lt_of_cell? w _ b1
  have g2 := World.block_lt_of_cell? w _ b2
  have g3 := World.block_lt_of_cell? w _ c1
  have H := Lib.hid h
  have HL := Lib.hid hl
  clear h hl
  go_enter Try.func55, Try.ntmps55
  go_wp2
  have hs0 := heap_size_alloc w (.cells Try.zeroCells67 67)
  have k0 : (w.alloc (.cells Try.zeroCells67 67)).cell? ⟨B0, 0, none⟩ = some (.slice A 256 c) := (World.cell?_alloc_lt w _ _ g0).trans b0
  have k1 : (w.alloc (.cells Try.zeroCells67 67)).cell? ⟨B1, 0, none⟩ = some (.pointer (some ⟨F.b, 0, none⟩)) := (World.cell?_alloc_lt w _ _ g1).trans b1
  have k2 : (w.alloc (.cells Try.zeroCells67 67)).cell? ⟨B2, 0, none⟩ = some (.int .i64 (n : Int)) := (World.cell?_alloc_lt w _ _ g2).trans b2
  have kr : RB (w.alloc (.cells Try.zeroCells67 67)) A l := hr.alloc _
  have kh : Hid (DkAt base F (w.alloc (.cells Try.zeroCells67 67)) s) := H.out.alloc _
  have kb : Below w.heap.size w (w.alloc (.cells Try.zeroCells67 67)) := (Below.refl _ w).alloc (Nat.le_refl _) _
  have kf : Frm (fun k => k = F.m) w (w.alloc (.cells Try.zeroCells67 67)) := Frm.alloc _ _ _
  have kn : Hid ((w.alloc (.cells Try.zeroCells67 67)).heap[w.heap.size]? = some (.cells Try.zeroCells67.toList.toArray 67 (0, 0))) := (heap_alloc_last w _).trans (by simp)
  generalize w.alloc (.cells Try.zeroCells67 67) = W at *
  have hgs : Hid (w.heap.size < W.heap.size) := Lib.hid (by omega)
  clear hs0
  generalize hg : w.heap.size = g at *
  have d0 : ({ W with drawn := W.drawn + 1 } : World).cell? ⟨B0, 0, none⟩ = some (.slice A 256 c) := k0
  go_still_tail 2, (by kernel_rfl)
  refine wpList_copy_splice rfl (.tmp 4) (.tmp 5) 32 32 rfl 5 Try.underlying32 (by kernel_rfl) (some ⟨g, 0, none⟩) A 256 256 256 c rfl rfl g 0 Try.zeroCells67.toList 67 kn.out (cellsB l) (by rw [length_cellsB, HL.out]; rfl) ?_ (by rw [length_cellsB, HL.out, zeroSec_len]; omega) (oneCells_B l) g { W with drawn := W.drawn + 1 } (Below.refl _ _) (Nat.le_refl _) ?_
  · intro _
    refine ⟨rfl, ?_⟩
    rcases kr with rfl | ⟨ad, rfl, hc⟩
    · have := HL.out; simp at this
    · refine ⟨ad, rfl, fun j v hv => ?_⟩
      simp only [cellsB, List.getElem?_map, Option.map_eq_some_iff] at hv
      obtain ⟨x, hx, rfl⟩ := hv
      exact hc j x hx
  intro w2 hw2 hb2
  have hB : Below g w w2 := kb.trans (Below.trans (b := { W with drawn := W.drawn + 1 }) ⟨rfl, rfl, rfl, Nat.le_refl _, fun _ _ => rfl⟩ hb2)
  have hw3 : Hid (w2.heap[g]? = some (.cells (cellsB l).toArray 67 (0, 0))) := by
    have := hw2.out
    rw [splice_all (by rw [zeroSec_len, length_cellsB, HL.out])] at this
    exact this
  have h2 : Hid (DkAt base F w2 s) := H.out.below (by rw [hg]; exact hB)
  have m1 : w2.cell? ⟨B1, 0, none⟩ = some (.pointer (some ⟨F.b, 0, none⟩)) := (hB.cell (p := ⟨B1, 0, none⟩) g1).trans b1
  have m2 : w2.cell? ⟨B2, 0, none⟩ = some (.int .i64 (n : Int)) := (hB.cell (p := ⟨B2, 0, none⟩) g2).trans b2
  have m3 : w2.cell? ⟨F.b, 1, none⟩ = some (.map (some F.m)) := (hB.cell (p := ⟨F.b, 1, none⟩) g3).trans c1
  obtain ⟨nn, D, hM⟩ := h2.out.map.open_ h2.out.ok.wlt
  have hM := Lib.hid hM
  have hmany := h2.out.ok.many
  clear hw2 hb2 kb kf kh kn kr k0 k1 k2 d0 hgs hr b0 b1 b2 g0 g1 g2 g3 c1 H
  go_wp2
  refine wp_region_still_tail 6 (by kernel_rfl) (by kernel_rfl) ?_
  simp only [List.take_succ_cons, List.take_zero, List.drop_succ_cons, List.drop_zero]
  iterate 5 still_step
  refine wpStill_load_mid rfl 67 (.tmp 3) rfl g 0 rfl (cellsB l) _ (range_of_heap hw3.out) Try.underlying67 rfl (by rw [length_cellsB, HL.out]; exact infoSec) ?_
  refine wpStill_nil ?_
  refine wpList_mapUpdate_own _ rfl (.tmp 10) (.tmp 11) (.tmp 12) 50 rfl 3 67 (Maps.int_keyed Try.underlying3) Try.underlying50 secR F.m nn D rfl (show World.ownsMap _ _ _ _ _ _ _ from hM.out.owns.drew) (by have := hM.out.few; simp only [maxLen]; omega) (.int .i64 (n : Int)) (secV l) (.int .i64 (n : Int)) rfl rfl (Maps.keyOf_int_mk Try.underlying3 (WalkArith.wf_i64 ⟨by omega, by omega⟩)) (.lit (.string l)) [] (secR_mk HL.out) ?_
  intro w3 ho hg3
  go_wp2
  have f3 : Frm (fun k => k = F.m) w2 w3 := Frm.grown (w := w2) ⟨hg3.os, hg3.tape, hg3.output, hg3.size, hg3.block⟩ (fun k e => by injection e with e; exact e.symm)
  go_end0
  refine ⟨rfl, h2.out.put hn HL.out (hM.out.put n l ho) f3, ?_⟩
  exact Frm.trans (Frm.of_below (by rw [hg]; exact hB)) f3
end Go.Proofs.Ytochifbbefbehaa
