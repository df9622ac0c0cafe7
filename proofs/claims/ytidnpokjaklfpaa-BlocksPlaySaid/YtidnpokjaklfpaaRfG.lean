/- The document's disk: New. -/
import Derived.Test.YtidnpokjaklfpaaRfF
namespace Go.Proofs.Ytidnpokjaklfpaa
open Go.RowKit
set_option linter.unusedVariables false
def zeroS : Sx := ⟨List.replicate 256 0, List.replicate 256 0, false⟩
def newLen (n : Int) : Nat := min n.toNat 4096
def Rk.new (n : Int) : Rk := ⟨List.replicate (newLen n) zeroS, false, 0, -1, false⟩
theorem GrowS.put {w : World} {box : Array Value} {a1 a2 a3 a4 : Value} {L : List Sx} {v v' : Value} {wr w1 : World} (h : GrowS w box #[v, a1, a2, a3, a4] L v wr) (o : Obj) (x : Sx) (hown : w1.ownsRow (w.heap.size + 2) 82 3 v' (L.length + 1) (rowS L ++ sxCells x)) (hg : (wr.alloc o).grownBy w1 v.ownBlock) : GrowS w box #[v', a1, a2, a3, a4] (L ++ [x]) v' (w1.setCell ⟨w.heap.size + 1, 0, none⟩ v') := by
  have h2 := GrowS.step h (bsz h.b1) o x hown (show (wr.drew.alloc o).grownBy w1 v.ownBlock from ⟨hg.os, hg.tape, hg.output, hg.size, hg.block⟩)
  refine ⟨ownsRow_setCell_below h2.own (a := ⟨w.heap.size + 1, 0, none⟩) (by show w.heap.size + 1 < _; omega) v', ?_, ?_, h2.below.setCell (p := ⟨w.heap.size + 1, 0, none⟩) (by show w.heap.size ≤ w.heap.size + 1; omega) _⟩
  · rw [Below.heap_setCell _ _ _ _ (by show w.heap.size ≠ w.heap.size + 1; omega)]
    exact h2.b0
  · rw [heap_setCell_block v' h2.b1]
    rfl
def NewRel (w : World) (N : Nat) (i : Value) (wr : World) : Prop :=
  ∃ (k : Nat) (v : Value), k ≤ N ∧ i = .int .i64 (k : Int) ∧ GrowS w #[.slice none 0 0, .bool false, .int .i64 0, .int .i64 0, .bool false] #[v, .bool false, .int .i64 0, .int .i64 (-1), .bool false] (List.replicate k zeroS) v wr
set_option maxHeartbeats 2000000 in
set_option maxRecDepth 100000 in
theorem refNew_any (n : Int) (w : World) : Calls Try.prog 10 #[.int .i64 n] w fun e w' => ∃ A c, e = .returned (rkV A c (Rk.new n)) ∧ RS w' A (Rk.new n).S ∧ Below w.heap.size w w' := by
  obtain ⟨i0, hi, hz0, hz1, hz2⟩ := info_parts Try.infoSx
  have hi := Lib.hid hi; have hz0 := Lib.hid hz0; have hz1 := Lib.hid hz1; have hz2 := Lib.hid hz2
  obtain ⟨q, hq⟩ : ∃ q : Nat, q = 256 := ⟨_, rfl⟩
  have HQ := Lib.hid (show (256 : Int) = (q : Int) from by omega)
  have HQB := Lib.hid (show q ≤ 70368744177664 from by omega)
  have HZ := Lib.hid (show zeroS = ⟨List.replicate q 0, List.replicate q 0, false⟩ from by rw [hq]; rfl)
  have T0 := Lib.hid (fun x y => Two5.mk2 w x y)
  have B0 := Lib.hid (fun x y => ((Below.refl _ w).alloc (Nat.le_refl _) (.cells x 28)).alloc (by rw [heap_size_alloc]; omega) (.cells y 28))
  clear hq
  go_enter Try.func10, Try.ntmps10
  go_wp2_with (refine wpList_make_B rfl _ _ rfl (w.heap.size + 2) q 256 256 rfl rfl HQ.out HQ.out HQB.out ?hb ?_)
  case hb => exact (T0.out _ _).size
  intro w1 hob hb1
  have t1 := (T0.out _ _).below (Nat.le_refl _) hb1
  have b1 := (B0.out _ _).trans (hb1.mono (by omega))
  obtain ⟨A0, c0, e0, hc0, hr0⟩ := hob.form
  injection e0 with e1 e2 e3
  subst e1
  have HS := run_str w1 _ q q (List.replicate q 0) (by simp) hr0
  have st0 : GrowS w #[.slice none 0 0, .bool false, .int .i64 0, .int .i64 0, .bool false] #[.slice none 0 0, .bool false, .int .i64 0, .int .i64 (-1), .bool false] [] (.slice none 0 0) w1 := ⟨World.ownsRow_nil _ _ _ _, t1.b0, t1.b1, b1⟩
  have ST0 := Lib.hid st0
  clear t1 b1 hob hb1 hr0 hc0 e2 e3 st0 T0 B0 HQ HQB
  generalize List.replicate q (0 : UInt8) = z at *
  go_wp2
  go_loopw [5] (fun i wr => NewRel w (newLen n) i wr) (fun i _ => newLen n - (RowKit.intOf i).toNat)
  case atStart => exact ⟨0, _, Nat.zero_le _, rfl, ST0.out⟩
  case round =>
    obtain ⟨k, v, hk, rfl, st⟩ := hrel
    obtain ⟨A1, c1, rfl, hA1⟩ := st.form
    have q0 : wr.cell? ⟨w.heap.size + 1, 0, none⟩ = some (.slice A1 k c1) := (cell_of_row wr _ 0 _ _ _ st.b1).trans (by rw [List.length_replicate]; rfl)
    have hsz := bsz st.b1
    have ST := Lib.hid st
    have HA1 := Lib.hid hA1
    have HLn := Lib.hid (show (List.replicate k zeroS).length = k from by simp)
    by_cases hlt : k < newLen n
    · have k1 : (k : Int) < n := by unfold newLen at hlt; omega
      have k2 : (k : Int) < 4096 := by unfold newLen at hlt; omega
      have k3 : k < 4096 := by omega
      have HT := Lib.hid (show List.replicate (k + 1) zeroS = List.replicate k zeroS ++ [⟨z, z, false⟩] from by rw [← HZ.out, List.replicate_succ'])
      have qz : ∀ j, wr.frozen? ⟨w.heap.size + 1, j, none⟩ = false := fun j => by simp [World.frozen?, st.b1]
      have qz0 := qz 0
      have OWN := Lib.hid (show wr.ownsRow (w.heap.size + 2) 82 3 (.slice A1 k c1) k (rowS (List.replicate k zeroS)) from by have := st.own; rw [List.length_replicate] at this; exact this)
      have STEP := Lib.hid (show ∀ o v' w1, w1.ownsRow (w.heap.size + 2) 82 3 v' (k + 1) (rowS (List.replicate k zeroS) ++ sxCells ⟨z, z, false⟩) → (wr.alloc o).grownBy w1 (Value.slice A1 k c1).ownBlock → GrowS w #[.slice none 0 0, .bool false, .int .i64 0, .int .i64 0, .bool false] #[v', .bool false, .int .i64 0, .int .i64 (-1), .bool false] (List.replicate k zeroS ++ [⟨z, z, false⟩]) v' (w1.setCell ⟨w.heap.size + 1, 0, none⟩ v') ∧ w1.cell? ⟨w.heap.size + 1, 0, none⟩ = some (.slice A1 k c1) ∧ w1.frozen? ⟨w.heap.size + 1, 0, none⟩ = false from fun o v' w1 h1 h2 => by
        have s1 := ST.out
        rw [List.length_replicate] at s1
        have p := GrowS.put s1 o ⟨z, z, false⟩ (by rw [List.length_replicate]; exact h1) h2
        have p2 := (GrowS.step s1 (bsz s1.b1) o ⟨z, z, false⟩ (by rw [List.length_replicate]; exact h1) (show (wr.drew.alloc o).grownBy w1 _ from ⟨h2.os, h2.tape, h2.output, h2.size, h2.block⟩)).b1
        exact ⟨p, (cell_of_row w1 _ 0 _ _ _ p2).trans rfl, by simp [World.frozen?, p2]⟩)
      clear st hA1 qz ST HA1 ST0
      generalize List.replicate k zeroS = L at *
      go_wp2_with (at_builtin; refine wpList_append_own _ rfl (.tmp 19) (.tmp 23) 26 rfl (w.heap.size + 2) 82 i0 _ 3 40 Try.underlying26 hi.out hz0.out hz1.out hz2.out rfl (by omega) _ _ _ rfl (World.ownsRow.alloc OWN.out _) ⟨wr.heap.size, 0, none⟩ 1 1 (sxCells ⟨z, z, false⟩) rfl ?qc1 ?qc2 ?qc3 ?qc4 ?qc5 ?qc6 ?_)
      case qc1 => rfl
      case qc2 =>
        intro j u hj
        have e : (⟨wr.heap.size, 0, none⟩ : Addr).add j = ⟨wr.heap.size, j, none⟩ := by cases j <;> simp [Addr.add]
        rw [e, cell_of_row _ _ j _ _ _ (heap_alloc_last wr _)]
        simpa [sxCells] using hj
      case qc3 => exact oneCells_x _
      case qc4 => simp only [maxLen]; omega
      case qc5 => omega
      case qc6 => rw [heap_size_alloc]; omega
      intro v' w2 hown hgrow hnil
      obtain ⟨g1, g2, g3⟩ := STEP.out _ v' w2 hown hgrow
      obtain ⟨A2, c2, rfl, _⟩ := g1.form
      have G1 := Lib.hid g1
      clear g1 hown hgrow hnil STEP OWN
      go_wp2
      go_roundw
      case rel =>
        refine ⟨k + 1, .slice A2 (L.length + 1) c2, by omega, by go_num, ?_⟩
        rw [HT.out]
        have := G1.out
        simp only [List.length_append, List.length_cons, List.length_nil] at this
        exact this
      case measure => simp [RowKit.intOf]; omega
    · have hkN : k = newLen n := by omega
      have HK := Lib.hid hkN
      have OWN := Lib.hid (show wr.ownsRow (w.heap.size + 2) 82 3 (.slice A1 (List.replicate k zeroS).length c1) (List.replicate k zeroS).length (rowS (List.replicate k zeroS)) from st.own)
      have BW := Lib.hid st.below
      have q1 : wr.cell? ⟨w.heap.size + 1, 1, none⟩ = some (.bool false) := (cell_of_row wr _ 1 _ _ _ st.b1).trans rfl
      have q2 : wr.cell? ⟨w.heap.size + 1, 2, none⟩ = some (.int .i64 0) := (cell_of_row wr _ 2 _ _ _ st.b1).trans rfl
      have q3 : wr.cell? ⟨w.heap.size + 1, 3, none⟩ = some (.int .i64 (-1)) := (cell_of_row wr _ 3 _ _ _ st.b1).trans rfl
      have q4 : wr.cell? ⟨w.heap.size + 1, 4, none⟩ = some (.bool false) := (cell_of_row wr _ 4 _ _ _ st.b1).trans rfl
      have r0 : wr.cell? ⟨w.heap.size, 0, none⟩ = some (.slice none 0 0) := (cell_of_row wr _ 0 _ _ _ st.b0).trans rfl
      have r1 : wr.cell? ⟨w.heap.size, 1, none⟩ = some (.bool false) := (cell_of_row wr _ 1 _ _ _ st.b0).trans rfl
      have r2 : wr.cell? ⟨w.heap.size, 2, none⟩ = some (.int .i64 0) := (cell_of_row wr _ 2 _ _ _ st.b0).trans rfl
      have r3 : wr.cell? ⟨w.heap.size, 3, none⟩ = some (.int .i64 0) := (cell_of_row wr _ 3 _ _ _ st.b0).trans rfl
      have r4 : wr.cell? ⟨w.heap.size, 4, none⟩ = some (.bool false) := (cell_of_row wr _ 4 _ _ _ st.b0).trans rfl
      have rf : ∀ j, wr.frozen? ⟨w.heap.size, j, none⟩ = false := fun j => by simp [World.frozen?, st.b0]
      have rf0 := rf 0; have rf1 := rf 1; have rf2 := rf 2; have rf3 := rf 3; have rf4 := rf 4
      have FIN : Hid (∀ W, RS W A1 (List.replicate k zeroS) → Below w.heap.size w W → ∃ A, (∃ c, Ending.returned (.agg #[.slice A1 k c1, .bool false, .int .i64 0, .int .i64 (-1), .bool false]) = .returned (rkV A c (Rk.new n))) ∧ RS W A (Rk.new n).S ∧ Below w.heap.size w W) := Lib.hid fun W h1 h2 => by
        refine ⟨A1, ⟨c1, ?_⟩, ?_, h2⟩
        · unfold rkV Rk.new
          rw [← hkN, List.length_replicate]
        · unfold Rk.new
          rw [← hkN]
          exact h1
      have SETS := Lib.hid (show RS (((((wr.setCell ⟨w.heap.size, 0, none⟩ (.slice A1 k c1)).setCell ⟨w.heap.size, 1, none⟩ (.bool false)).setCell ⟨w.heap.size, 2, none⟩ (.int .i64 0)).setCell ⟨w.heap.size, 3, none⟩ (.int .i64 (-1))).setCell ⟨w.heap.size, 4, none⟩ (.bool false)) A1 (List.replicate k zeroS) from
        (RS.ofOwn (ownsRow_setCell_below (ownsRow_setCell_below (ownsRow_setCell_below (ownsRow_setCell_below (ownsRow_setCell_below OWN.out (a := ⟨w.heap.size, 0, none⟩) (by show w.heap.size < _; omega) _) (a := ⟨w.heap.size, 1, none⟩) (by show w.heap.size < _; omega) _) (a := ⟨w.heap.size, 2, none⟩) (by show w.heap.size < _; omega) _) (a := ⟨w.heap.size, 3, none⟩) (by show w.heap.size < _; omega) _) (a := ⟨w.heap.size, 4, none⟩) (by show w.heap.size < _; omega) _)).1)
      clear rf st ST ST0 hA1 HA1
      by_cases hn : (k : Int) < n
      · have hn2 : ¬ ((k : Int) < 4096) := by unfold newLen at hkN; omega
        clear hkN hlt hk
        go_wp2
        refine bodyPost_ret (v := .agg #[.slice A1 k c1, .bool false, .int .i64 0, .int .i64 (-1), .bool false]) (by simp [results, Try.results10, go_sem, r0, r1, r2, r3, r4]) rfl (FIN.out _ SETS.out ?_)
        exact ((((BW.out.setCell (p := ⟨w.heap.size, 0, none⟩) (Nat.le_refl _) _).setCell (p := ⟨w.heap.size, 1, none⟩) (Nat.le_refl _) _).setCell (p := ⟨w.heap.size, 2, none⟩) (Nat.le_refl _) _).setCell (p := ⟨w.heap.size, 3, none⟩) (Nat.le_refl _) _).setCell (p := ⟨w.heap.size, 4, none⟩) (Nat.le_refl _) _
      · clear hkN hlt hk
        go_wp2
        refine bodyPost_ret (v := .agg #[.slice A1 k c1, .bool false, .int .i64 0, .int .i64 (-1), .bool false]) (by simp [results, Try.results10, go_sem, r0, r1, r2, r3, r4]) rfl (FIN.out _ SETS.out ?_)
        exact ((((BW.out.setCell (p := ⟨w.heap.size, 0, none⟩) (Nat.le_refl _) _).setCell (p := ⟨w.heap.size, 1, none⟩) (Nat.le_refl _) _).setCell (p := ⟨w.heap.size, 2, none⟩) (Nat.le_refl _) _).setCell (p := ⟨w.heap.size, 3, none⟩) (Nat.le_refl _) _).setCell (p := ⟨w.heap.size, 4, none⟩) (Nat.le_refl _) _
end Go.Proofs.Ytidnpokjaklfpaa
