/- Joined: RfG RfH. -/
import Derived.Test.YtegjeijiekggdaaGreatDoorM11
section
/- The document's disk: New. -/
namespace Go.Proofs.YtegjeijiekggdaaGreatDoor
open Go.RowKit
set_option linter.unusedVariables false
def zeroS : Sx := ⟨List.replicate 256 0, List.replicate 256 0, false⟩
def newLen (n : Int) : Nat := min n.toNat 4096
def Rk.new (n : Int) : Rk := ⟨List.replicate (newLen n) zeroS, false, 0, -1, false⟩
theorem GrowS.put {w : World} {box : Array Value} {a1 a2 a3 a4 : Value} {L : List Sx} {v v' : Value} {wr w1 : World} (h : GrowS w box #[v, a1, a2, a3, a4] L v wr) (o : Obj) (x : Sx) (hown : w1.ownsRow (w.heap.size + 2) 143 3 v' (L.length + 1) (rowS L ++ sxCells x)) (hg : (wr.alloc o).grownBy w1 v.ownBlock) : GrowS w box #[v', a1, a2, a3, a4] (L ++ [x]) v' (w1.setCell ⟨w.heap.size + 1, 0, none⟩ v') := by
  have h2 := GrowS.step h (bsz h.b1) o x hown (show (wr.drew.alloc o).grownBy w1 v.ownBlock from ⟨hg.os, hg.tape, hg.output, hg.size, hg.block⟩)
  refine ⟨ownsRow_setCell_below h2.own (a := ⟨w.heap.size + 1, 0, none⟩) (by show w.heap.size + 1 < _; omega) v', ?_, ?_, h2.below.setCell (p := ⟨w.heap.size + 1, 0, none⟩) (by show w.heap.size ≤ w.heap.size + 1; omega) _⟩
  · rw [Below.heap_setCell _ _ _ _ (by show w.heap.size ≠ w.heap.size + 1; omega)]
    exact h2.b0
  · rw [heap_setCell_block v' h2.b1]
    rfl
def NewRel (w : World) (N : Nat) (i : Value) (wr : World) : Prop :=
  ∃ (k : Nat) (v : Value), k ≤ N ∧ i = .int .i64 (k : Int) ∧ GrowS w #[.slice none 0 0, .bool false, .int .i64 0, .int .i64 0, .bool false] #[v, .bool false, .int .i64 0, .int .i64 (-1), .bool false] (List.replicate k zeroS) v wr
set_option maxHeartbeats 2000000 in
set_option maxRecDepth 100000 in
theorem refNew_any (n : Int) (w : World) : Calls Tryz.prog 37 #[.int .i64 n] w fun e w' => ∃ A c, e = .returned (rkV A c (Rk.new n)) ∧ RS w' A (Rk.new n).S ∧ Below w.heap.size w w' := by
  obtain ⟨i0, hi, hz0, hz1, hz2⟩ := info_parts Tryz.infoSx
  have hi := Lib.hid hi; have hz0 := Lib.hid hz0; have hz1 := Lib.hid hz1; have hz2 := Lib.hid hz2
  obtain ⟨q, hq⟩ : ∃ q : Nat, q = 256 := ⟨_, rfl⟩
  have HQ := Lib.hid (show (256 : Int) = (q : Int) from by omega)
  have HQB := Lib.hid (show q ≤ 70368744177664 from by omega)
  have HZ := Lib.hid (show zeroS = ⟨List.replicate q 0, List.replicate q 0, false⟩ from by rw [hq]; rfl)
  have T0 := Lib.hid (fun x y => Two5.mk2 w x y)
  have B0 := Lib.hid (fun x y => ((Below.refl _ w).alloc (Nat.le_refl _) (.cells x 39)).alloc (by rw [heap_size_alloc]; omega) (.cells y 39))
  clear hq
  go_enter Tryz.func37, Tryz.ntmps37
  go_wp2_with (refine wpList_make_B rfl _ _ rfl (w.heap.size + 2) q 256 256 rfl rfl HQ.out HQ.out HQB.out ?hb ?_)
  case hb => exact (T0.out _ _).size
  intro w1 hob hb1
  have t1 := (T0.out _ _).below (Nat.le_refl _) hb1
  have b1 := (B0.out _ _).trans (hb1.mono (by omega))
  obtain ⟨A0, c0, e0, hc0, hr0⟩ := hob.form
  injection e0 with e1 e2 e3
  subst e1
  have HS := run_str w1 _ q q (List.replicate q 0) (by simp) hr0
  have st0 : GrowS w #[.slice none 0 0, .bool false, .int .i64 0, .int .i64 0, .bool false] #[.slice none 0 0, .bool false, .int .i64 0, .int .i64 (-1), .bool false] [] (.slice none 0 0) w1 := ⟨World.ownsRow_nil _ _ _ _, t1.b0, t1.b1, b1⟩
  have ST0 := Lib.hid st0
  clear t1 b1 hob hb1 hr0 hc0 e2 e3 st0 T0 B0 HQ HQB
  generalize List.replicate q (0 : UInt8) = z at *
  go_wp2
  go_loopw [5] (fun i wr => NewRel w (newLen n) i wr) (fun i _ => newLen n - (RowKit.intOf i).toNat)
  case atStart => exact ⟨0, _, Nat.zero_le _, rfl, ST0.out⟩
  case round =>
    obtain ⟨k, v, hk, rfl, st⟩ := hrel
    obtain ⟨A1, c1, rfl, hA1⟩ := st.form
    have q0 : wr.cell? ⟨w.heap.size + 1, 0, none⟩ = some (.slice A1 k c1) := (cell_of_row wr _ 0 _ _ _ st.b1).trans (by rw [List.length_replicate]; rfl)
    have hsz := bsz st.b1
    have ST := Lib.hid st
    have HA1 := Lib.hid hA1
    have HLn := Lib.hid (show (List.replicate k zeroS).length = k from by simp)
    by_cases hlt : k < newLen n
    · have k1 : (k : Int) < n := by unfold newLen at hlt; omega
      have k2 : (k : Int) < 4096 := by unfold newLen at hlt; omega
      have k3 : k < 4096 := by omega
      have HT := Lib.hid (show List.replicate (k + 1) zeroS = List.replicate k zeroS ++ [⟨z, z, false⟩] from by rw [← HZ.out, List.replicate_succ'])
      have qz : ∀ j, wr.frozen? ⟨w.heap.size + 1, j, none⟩ = false := fun j => by simp [World.frozen?, st.b1]
      have qz0 := qz 0
      have OWN := Lib.hid (show wr.ownsRow (w.heap.size + 2) 143 3 (.slice A1 k c1) k (rowS (List.replicate k zeroS)) from by have := st.own; rw [List.length_replicate] at this; exact this)
      have STEP := Lib.hid (show ∀ o v' w1, w1.ownsRow (w.heap.size + 2) 143 3 v' (k + 1) (rowS (List.replicate k zeroS) ++ sxCells ⟨z, z, false⟩) → (wr.alloc o).grownBy w1 (Value.slice A1 k c1).ownBlock → GrowS w #[.slice none 0 0, .bool false, .int .i64 0, .int .i64 0, .bool false] #[v', .bool false, .int .i64 0, .int .i64 (-1), .bool false] (List.replicate k zeroS ++ [⟨z, z, false⟩]) v' (w1.setCell ⟨w.heap.size + 1, 0, none⟩ v') ∧ w1.cell? ⟨w.heap.size + 1, 0, none⟩ = some (.slice A1 k c1) ∧ w1.frozen? ⟨w.heap.size + 1, 0, none⟩ = false from fun o v' w1 h1 h2 => by
        have s1 := ST.out
        rw [List.length_replicate] at s1
        have p := GrowS.put s1 o ⟨z, z, false⟩ (by rw [List.length_replicate]; exact h1) h2
        have p2 := (GrowS.step s1 (bsz s1.b1) o ⟨z, z, false⟩ (by rw [List.length_replicate]; exact h1) (show (wr.drew.alloc o).grownBy w1 _ from ⟨h2.os, h2.tape, h2.output, h2.size, h2.block⟩)).b1
        exact ⟨p, (cell_of_row w1 _ 0 _ _ _ p2).trans rfl, by simp [World.frozen?, p2]⟩)
      clear st hA1 qz ST HA1 ST0
      generalize List.replicate k zeroS = L at *
      go_wp2_with (at_builtin; refine wpList_append_own _ rfl (.tmp 19) (.tmp 23) 37 rfl (w.heap.size + 2) 143 i0 _ 3 40 Tryz.underlying37 hi.out hz0.out hz1.out hz2.out rfl (by omega) _ _ _ rfl (World.ownsRow.alloc OWN.out _) ⟨wr.heap.size, 0, none⟩ 1 1 (sxCells ⟨z, z, false⟩) rfl ?qc1 ?qc2 ?qc3 ?qc4 ?qc5 ?qc6 ?_)
      case qc1 => rfl
      case qc2 =>
        intro j u hj
        have e : (⟨wr.heap.size, 0, none⟩ : Addr).add j = ⟨wr.heap.size, j, none⟩ := by cases j <;> simp [Addr.add]
        rw [e, cell_of_row _ _ j _ _ _ (heap_alloc_last wr _)]
        simpa [sxCells] using hj
      case qc3 => exact oneCells_x _
      case qc4 => simp only [maxLen]; omega
      case qc5 => omega
      case qc6 => rw [heap_size_alloc]; omega
      intro v' w2 hown hgrow hnil
      obtain ⟨g1, g2, g3⟩ := STEP.out _ v' w2 hown hgrow
      obtain ⟨A2, c2, rfl, _⟩ := g1.form
      have G1 := Lib.hid g1
      clear g1 hown hgrow hnil STEP OWN
      go_wp2
      go_roundw
      case rel =>
        refine ⟨k + 1, .slice A2 (L.length + 1) c2, by omega, by go_num, ?_⟩
        rw [HT.out]
        have := G1.out
        simp only [List.length_append, List.length_cons, List.length_nil] at this
        exact this
      case measure => simp [RowKit.intOf]; omega
    · have hkN : k = newLen n := by omega
      have HK := Lib.hid hkN
      have OWN := Lib.hid (show wr.ownsRow (w.heap.size + 2) 143 3 (.slice A1 (List.replicate k zeroS).length c1) (List.replicate k zeroS).length (rowS (List.replicate k zeroS)) from st.own)
      have BW := Lib.hid st.below
      have q1 : wr.cell? ⟨w.heap.size + 1, 1, none⟩ = some (.bool false) := (cell_of_row wr _ 1 _ _ _ st.b1).trans rfl
      have q2 : wr.cell? ⟨w.heap.size + 1, 2, none⟩ = some (.int .i64 0) := (cell_of_row wr _ 2 _ _ _ st.b1).trans rfl
      have q3 : wr.cell? ⟨w.heap.size + 1, 3, none⟩ = some (.int .i64 (-1)) := (cell_of_row wr _ 3 _ _ _ st.b1).trans rfl
      have q4 : wr.cell? ⟨w.heap.size + 1, 4, none⟩ = some (.bool false) := (cell_of_row wr _ 4 _ _ _ st.b1).trans rfl
      have r0 : wr.cell? ⟨w.heap.size, 0, none⟩ = some (.slice none 0 0) := (cell_of_row wr _ 0 _ _ _ st.b0).trans rfl
      have r1 : wr.cell? ⟨w.heap.size, 1, none⟩ = some (.bool false) := (cell_of_row wr _ 1 _ _ _ st.b0).trans rfl
      have r2 : wr.cell? ⟨w.heap.size, 2, none⟩ = some (.int .i64 0) := (cell_of_row wr _ 2 _ _ _ st.b0).trans rfl
      have r3 : wr.cell? ⟨w.heap.size, 3, none⟩ = some (.int .i64 0) := (cell_of_row wr _ 3 _ _ _ st.b0).trans rfl
      have r4 : wr.cell? ⟨w.heap.size, 4, none⟩ = some (.bool false) := (cell_of_row wr _ 4 _ _ _ st.b0).trans rfl
      have rf : ∀ j, wr.frozen? ⟨w.heap.size, j, none⟩ = false := fun j => by simp [World.frozen?, st.b0]
      have rf0 := rf 0; have rf1 := rf 1; have rf2 := rf 2; have rf3 := rf 3; have rf4 := rf 4
      have FIN : Hid (∀ W, RS W A1 (List.replicate k zeroS) → Below w.heap.size w W → ∃ A, (∃ c, Ending.returned (.agg #[.slice A1 k c1, .bool false, .int .i64 0, .int .i64 (-1), .bool false]) = .returned (rkV A c (Rk.new n))) ∧ RS W A (Rk.new n).S ∧ Below w.heap.size w W) := Lib.hid fun W h1 h2 => by
        refine ⟨A1, ⟨c1, ?_⟩, ?_, h2⟩
        · unfold rkV Rk.new
          rw [← hkN, List.length_replicate]
        · unfold Rk.new
          rw [← hkN]
          exact h1
      have SETS := Lib.hid (show RS (((((wr.setCell ⟨w.heap.size, 0, none⟩ (.slice A1 k c1)).setCell ⟨w.heap.size, 1, none⟩ (.bool false)).setCell ⟨w.heap.size, 2, none⟩ (.int .i64 0)).setCell ⟨w.heap.size, 3, none⟩ (.int .i64 (-1))).setCell ⟨w.heap.size, 4, none⟩ (.bool false)) A1 (List.replicate k zeroS) from
        (RS.ofOwn (ownsRow_setCell_below (ownsRow_setCell_below (ownsRow_setCell_below (ownsRow_setCell_below (ownsRow_setCell_below OWN.out (a := ⟨w.heap.size, 0, none⟩) (by show w.heap.size < _; omega) _) (a := ⟨w.heap.size, 1, none⟩) (by show w.heap.size < _; omega) _) (a := ⟨w.heap.size, 2, none⟩) (by show w.heap.size < _; omega) _) (a := ⟨w.heap.size, 3, none⟩) (by show w.heap.size < _; omega) _) (a := ⟨w.heap.size, 4, none⟩) (by show w.heap.size < _; omega) _)).1)
      clear rf st ST ST0 hA1 HA1
      by_cases hn : (k : Int) < n
      · have hn2 : ¬ ((k : Int) < 4096) := by unfold newLen at hkN; omega
        clear hkN hlt hk
        go_wp2
        refine bodyPost_ret (v := .agg #[.slice A1 k c1, .bool false, .int .i64 0, .int .i64 (-1), .bool false]) (by simp [results, Tryz.results37, go_sem, r0, r1, r2, r3, r4]) rfl (FIN.out _ SETS.out ?_)
        exact ((((BW.out.setCell (p := ⟨w.heap.size, 0, none⟩) (Nat.le_refl _) _).setCell (p := ⟨w.heap.size, 1, none⟩) (Nat.le_refl _) _).setCell (p := ⟨w.heap.size, 2, none⟩) (Nat.le_refl _) _).setCell (p := ⟨w.heap.size, 3, none⟩) (Nat.le_refl _) _).setCell (p := ⟨w.heap.size, 4, none⟩) (Nat.le_refl _) _
      · clear hkN hlt hk
        go_wp2
        refine bodyPost_ret (v := .agg #[.slice A1 k c1, .bool false, .int .i64 0, .int .i64 (-1), .bool false]) (by simp [results, Tryz.results37, go_sem, r0, r1, r2, r3, r4]) rfl (FIN.out _ SETS.out ?_)
        exact ((((BW.out.setCell (p := ⟨w.heap.size, 0, none⟩) (Nat.le_refl _) _).setCell (p := ⟨w.heap.size, 1, none⟩) (Nat.le_refl _) _).setCell (p := ⟨w.heap.size, 2, none⟩) (Nat.le_refl _) _).setCell (p := ⟨w.heap.size, 3, none⟩) (Nat.le_refl _) _).setCell (p := ⟨w.heap.size, 4, none⟩) (Nat.le_refl _) _
end Go.Proofs.YtegjeijiekggdaaGreatDoor
end
section
/- The document's disk: Write. -/
namespace Go.Proofs.YtegjeijiekggdaaGreatDoor
open Go.RowKit
set_option linter.unusedVariables false
def Rk.put (r : Rk) (k : Nat) (l : List UInt8) : Rk := { r with S := r.S.set k ⟨l, ((r.S[k]?).map (·.safe)).getD [], true⟩ }
def Rk.writeErr (r : Rk) (n : Int) (l : List UInt8) : Nat := if r.at n ≠ 0 then r.at n else if l.length ≠ 256 then 2 else r.callErr
def Rk.write (r : Rk) (n : Int) (l : List UInt8) : Rk := if r.at n ≠ 0 ∨ l.length ≠ 256 then r else r.call (r.put n.toNat l)
theorem Rk.at_ok {r : Rk} {n : Int} (h : r.at n = 0) : r.off = false ∧ 0 ≤ n ∧ n < (r.S.length : Int) := by
  unfold Rk.at at h
  split at h
  · cases h
  · rename_i ho
    split at h
    · cases h
    · exact ⟨by simpa using ho, by omega, by omega⟩
theorem Two5.res {b : Nat} {x : Array Value} {a0 a1 a2 a3 a4 : Value} {W : World} (h : Two5 b x #[a0, a1, a2, a3, a4] W) : Two5 b x #[a0, a1, a2, a3, a4] W := h
set_option maxHeartbeats 4000000 in
set_option maxRecDepth 100000 in
theorem refWriteNo_any (A : Option Addr) (c : Nat) (r : Rk) (n : Int) (B : Option Addr) (m e : Nat) (l : List UInt8) (w : World) (hs : r.S.length ≤ 4096) (hr : RS w A r.S) (hl : l.length = m) (hno : r.at n ≠ 0 ∨ m ≠ 256) :
    Calls Tryz.prog 101 #[rkV A c r, .int .i64 n, .slice B m e] w fun e w' => ∃ v, e = .returned (.tuple #[v, .int .i64 (r.writeErr n l : Int)]) ∧ RkIs w' r v ∧ Below w.heap.size w w' := by
  have KA := Lib.hid (fun W => refAt_any A c r n W hs)
  have HE := Lib.hid (show r.writeErr n l = if r.at n ≠ 0 then r.at n else 2 from by
    unfold Rk.writeErr
    by_cases h : r.at n ≠ 0
    · rw [if_pos h, if_pos h]
    · rw [if_neg h, if_neg h, if_pos (by rw [hl]; rcases hno with h' | h'; exact absurd h' h; exact h')])
  have FIN := Lib.hid (fun W (hb : Below w.heap.size w W) => show RkIs W r (rkV A c r) from ⟨A, c, rfl, hr.below hb⟩)
  generalize r.writeErr n l = er at *
  generalize r.at n = q at *
  obtain ⟨S, off, calls, after, done⟩ := r
  unfold rkV at *
  have KA : Hid (∀ W, Calls Tryz.prog 131 #[.agg #[.slice A S.length c, .bool off, .int .i64 calls, .int .i64 after, .bool done], .int .i64 n] W fun e w' => e = .returned (.int .i64 (q : Int)) ∧ Below W.heap.size W w') := KA
  have FIN : Hid (∀ W, Below w.heap.size w W → RkIs W ⟨S, off, calls, after, done⟩ (.agg #[.slice A S.length c, .bool off, .int .i64 calls, .int .i64 after, .bool done])) := FIN
  show Calls Tryz.prog 101 #[.agg #[.slice A S.length c, .bool off, .int .i64 calls, .int .i64 after, .bool done], .int .i64 n, .slice B m e] w _
  clear hr hs hl
  generalize S.length = N at *
  have T0 := Lib.hid (fun x y => Two5.mk2 w x y)
  have B0 := Lib.hid (fun x y => ((Below.refl _ w).alloc (Nat.le_refl _) (.cells x 39)).alloc (by rw [heap_size_alloc]; omega) (.cells y 39))
  go_enter Tryz.func101, Tryz.ntmps101
  go_wp2_with fail
  have t0 := T0.out #[.slice A N c, .bool off, .int .i64 calls, .int .i64 after, .bool done] #[.slice none 0 0, .bool false, .int .i64 0, .int .i64 0, .bool false]
  have b0 := B0.out #[.slice A N c, .bool off, .int .i64 calls, .int .i64 after, .bool done] #[.slice none 0 0, .bool false, .int .i64 0, .int .i64 0, .bool false]
  clear T0 B0
  generalize World.alloc (World.alloc w _) _ = W0 at *
  refine (KA.out _).mono ?_
  rintro e1 w1 ⟨rfl, b1⟩
  have T1 := Lib.hid (t0.below t0.size b1)
  have B1 := Lib.hid (b0.trans (b1.mono b0.size))
  obtain ⟨s0, s1, s2, s3, s4⟩ := T1.out.c0
  obtain ⟨r0, r1, r2, r3, r4⟩ := T1.out.c1
  have rf0 := T1.out.f1 0; have rf1 := T1.out.f1 1; have rf2 := T1.out.f1 2; have rf3 := T1.out.f1 3; have rf4 := T1.out.f1 4
  have nb5 : w.heap.size ≠ w.heap.size + 1 := by omega
  have FB := Lib.hid ((((((B1.out.setCell (p := ⟨w.heap.size + 1, 0, none⟩) (by show w.heap.size ≤ w.heap.size + 1; omega) (.slice A N c)).setCell (p := ⟨w.heap.size + 1, 1, none⟩) (by show w.heap.size ≤ w.heap.size + 1; omega) (.bool off)).setCell (p := ⟨w.heap.size + 1, 2, none⟩) (by show w.heap.size ≤ w.heap.size + 1; omega) (.int .i64 calls)).setCell (p := ⟨w.heap.size + 1, 3, none⟩) (by show w.heap.size ≤ w.heap.size + 1; omega) (.int .i64 after)).setCell (p := ⟨w.heap.size + 1, 4, none⟩) (by show w.heap.size ≤ w.heap.size + 1; omega) (.bool done)))
  clear b1 t0 b0 KA
  by_cases hq : q = 0
  · subst hq
    have hm : ((m : Int) != 256) = true := by rw [bne_iff_ne]; rcases hno with h | h; exact absurd rfl h; omega
    have HE2 : Hid (er = 2) := Lib.hid (by rw [HE.out]; rfl)
    clear hno HE
    go_wp2
    refine bodyPost_ret (v := .tuple #[.agg #[.slice A N c, .bool off, .int .i64 calls, .int .i64 after, .bool done], .int .i64 2]) (by simp [results, Tryz.results101, go_sem, r0, r1, r2, r3, r4]) rfl ⟨_, by rw [HE2.out]; rfl, FIN.out _ ?_, ?_⟩
    · exact FB.out
    · exact FB.out
  · have hqb : ((q : Int) != 0) = true := by rw [bne_iff_ne]; omega
    have HE2 : Hid (er = q) := Lib.hid (by rw [HE.out, if_pos hq])
    clear hno HE hq
    go_wp2
    refine bodyPost_ret (v := .tuple #[.agg #[.slice A N c, .bool off, .int .i64 calls, .int .i64 after, .bool done], .int .i64 (q : Int)]) (by simp [results, Tryz.results101, go_sem, r0, r1, r2, r3, r4]) rfl ⟨_, by rw [HE2.out], FIN.out _ ?_, ?_⟩
    · exact FB.out
    · exact FB.out
theorem RB.blt {w : World} {A : Option Addr} {l : List UInt8} (h : RB w A l) (hl : l ≠ []) : ∀ ad, A = some ad → ad.block < w.heap.size := by
  intro ad e
  rcases h with e' | ⟨ad', e', hc⟩
  · exact absurd e' hl
  · rw [e] at e'
    injection e' with e'
    subst e'
    cases l with
    | nil => exact absurd rfl hl
    | cons x l =>
      have := lt_of_cell (hc 0 x rfl)
      rwa [Addr.add_nought] at this
/-- Five cells of the block b are written. -/
def set5 (W : World) (b : Nat) (a0 a1 a2 a3 a4 : Value) : World := ((((W.setCell ⟨b, 0, none⟩ a0).setCell ⟨b, 1, none⟩ a1).setCell ⟨b, 2, none⟩ a2).setCell ⟨b, 3, none⟩ a3).setCell ⟨b, 4, none⟩ a4
theorem cell_set5 (W : World) (b : Nat) (p : Addr) (h : p.block ≠ b) (a0 a1 a2 a3 a4 : Value) : (((((W.setCell ⟨b, 0, none⟩ a0).setCell ⟨b, 1, none⟩ a1).setCell ⟨b, 2, none⟩ a2).setCell ⟨b, 3, none⟩ a3).setCell ⟨b, 4, none⟩ a4).cell? p = W.cell? p := by
  have one : ∀ (W : World) (i : Nat) (v : Value), (W.setCell ⟨b, i, none⟩ v).cell? p = W.cell? p := fun W i v => World.cell?_of_block (w := W) (Below.heap_setCell _ _ _ _ h)
  rw [one, one, one, one, one]
theorem RB.set5 {W : World} {B : Option Addr} {l : List UInt8} {b : Nat} (h : RB W B l) (hne : ∀ ad, B = some ad → ad.block ≠ b) (a0 a1 a2 a3 a4 : Value) : RB (((((W.setCell ⟨b, 0, none⟩ a0).setCell ⟨b, 1, none⟩ a1).setCell ⟨b, 2, none⟩ a2).setCell ⟨b, 3, none⟩ a3).setCell ⟨b, 4, none⟩ a4) B l := by
  rcases h with rfl | ⟨ad, rfl, hc⟩
  · exact .inl rfl
  · refine .inr ⟨ad, rfl, fun j x hx => ?_⟩
    have hb : (ad.add j).block ≠ b := by rw [block_of_add]; exact hne ad rfl
    have one : ∀ (W : World) (i : Nat) (v : Value), (W.setCell ⟨b, i, none⟩ v).cell? (ad.add j) = W.cell? (ad.add j) := fun W i v => World.cell?_of_block (w := W) (Below.heap_setCell _ _ _ _ hb)
    rw [one, one, one, one, one]
    exact hc j x hx
set_option maxHeartbeats 4000000 in
set_option maxRecDepth 100000 in
theorem refWriteYes_any (A : Option Addr) (c : Nat) (r : Rk) (k : Nat) (B : Option Addr) (e : Nat) (l : List UInt8) (w : World) (hs : r.S.length ≤ 4096) (hr : RS w A r.S) (hl : l.length = 256) (hb : RB w B l) (hat : r.at (k : Int) = 0) (h0 : 0 ≤ r.calls) (h1 : r.calls ≤ 4611686018427387904) (h2 : -1 ≤ r.after) (h3 : r.after ≤ 9223372036854775807) :
    Calls Tryz.prog 101 #[rkV A c r, .int .i64 (k : Int), .slice B 256 e] w fun e w' => ∃ v, e = .returned (.tuple #[v, .int .i64 (r.callErr : Int)]) ∧ RkIs w' (r.call (r.put k l)) v ∧ Below w.heap.size w w' := by
  have KA := Lib.hid (fun W => refAt_any A c r (k : Int) W hs)
  rw [hat] at KA
  obtain ⟨ho, _, hk⟩ := Rk.at_ok hat
  have hk : k < r.S.length := by omega
  obtain ⟨g, hA, hg, y0, x1, y2⟩ := hr.at_ (List.getElem?_eq_getElem hk)
  clear y0 y2
  have hsafe : ((r.S[k]?).map (·.safe)).getD [] = r.S[k].safe := by rw [List.getElem?_eq_getElem hk]; rfl
  have hput : r.put k l = { r with S := r.S.set k ⟨l, r.S[k].safe, true⟩ } := by unfold Rk.put; rw [hsafe]
  have hlen : (r.put k l).S.length = r.S.length := by rw [hput]; simp
  have hl2 : (r.call (r.put k l)).S.length = r.S.length := Rk.call_len r (r.put k l) hlen
  have KW : Hid (∀ W, RS W A r.S → Calls Tryz.prog 93 #[.agg #[.slice A r.S.length c, .bool false, .int .i64 r.calls, .int .i64 r.after, .bool r.done], .int .i64 (k : Int), .agg #[.string (str l), .string (str r.S[k].safe), .bool true]] W fun e w' => ∃ A' c', e = .returned (.agg #[.slice A' r.S.length c', .bool false, .int .i64 r.calls, .int .i64 r.after, .bool r.done]) ∧ RS w' A' (r.put k l).S ∧ (∀ ad, A' = some ad → W.heap.size ≤ ad.block) ∧ Below W.heap.size W w') := Lib.hid fun W h => by
    have kk := refWith_any A c r k ⟨l, r.S[k].safe, true⟩ W hk hs h
    unfold rkV at kk
    rw [ho, List.length_set] at kk
    refine kk.mono ?_
    rintro e w' ⟨A', c', rfl, a, d, b⟩
    exact ⟨A', c', rfl, by rw [hput]; exact a, d, b⟩
  have KC : Hid (∀ A' c' W, RS W A r.S ∧ Out (w.heap.size + 1) A r.S → RS W A' (r.put k l).S ∧ Out (w.heap.size + 1) A' (r.put k l).S → Calls Tryz.prog 141 #[.agg #[.slice A r.S.length c, .bool false, .int .i64 r.calls, .int .i64 r.after, .bool r.done], .agg #[.slice A' r.S.length c', .bool false, .int .i64 r.calls, .int .i64 r.after, .bool r.done]] W fun e w' => ∃ A2 c2, e = .returned (.tuple #[.agg #[.slice A2 r.S.length c2, .bool (r.call (r.put k l)).off, .int .i64 (r.call (r.put k l)).calls, .int .i64 (r.call (r.put k l)).after, .bool (r.call (r.put k l)).done], .int .i64 (r.callErr : Int)]) ∧ RS w' A2 (r.call (r.put k l)).S ∧ Out (w.heap.size + 1) A2 (r.call (r.put k l)).S ∧ Below W.heap.size W w') := Lib.hid fun A' c' W ha hb => by
    have kk := refCall_any A A' c c' r (r.put k l) W h0 h1 h2 h3
    have q1 : rkV A c r = .agg #[.slice A r.S.length c, .bool false, .int .i64 r.calls, .int .i64 r.after, .bool r.done] := by unfold rkV; rw [ho]
    have q2 : rkV A' c' (r.put k l) = .agg #[.slice A' r.S.length c', .bool false, .int .i64 r.calls, .int .i64 r.after, .bool r.done] := by
      unfold rkV
      rw [hlen, show (r.put k l).off = false from ho]
      rfl
    rw [q1, q2] at kk
    refine kk.mono ?_
    rintro e w' ⟨rfl, b⟩
    obtain ⟨A2, c2, e2, hr2⟩ := callV_pick (fun A S => RS W A S ∧ Out (w.heap.size + 1) A S) c c' r (r.put k l) ha hb
    refine ⟨A2, c2, ?_, hr2.1.below b, hr2.2, b⟩
    rw [e2]
    unfold rkV
    rw [hl2]
  have FIN := Lib.hid (fun W A2 c2 (h : RS W A2 (r.call (r.put k l)).S) => show RkIs W (r.call (r.put k l)) (.agg #[.slice A2 r.S.length c2, .bool (r.call (r.put k l)).off, .int .i64 (r.call (r.put k l)).calls, .int .i64 (r.call (r.put k l)).after, .bool (r.call (r.put k l)).done]) from ⟨A2, c2, by unfold rkV; rw [hl2], h⟩)
  have q1 : rkV A c r = .agg #[.slice A r.S.length c, .bool false, .int .i64 r.calls, .int .i64 r.after, .bool r.done] := by unfold rkV; rw [ho]
  rw [q1] at KA ⊢
  clear q1 hl2 h0 h1 h2 h3 hs ho hat hput hlen hsafe
  generalize r.call (r.put k l) = R at *
  generalize r.put k l = T at *
  generalize r.callErr = re at *
  generalize r.S[k].safe = sf at *
  obtain ⟨S, off, calls, after, done⟩ := r
  obtain ⟨S2, off2, calls2, after2, done2⟩ := R
  simp only at KW KC FIN KA hr hk ⊢
  subst hA
  generalize hN : S.length = N at *
  have T0 := Lib.hid (fun x y => Two5.mk2 w x y)
  have B0 := Lib.hid (fun x y => ((Below.refl _ w).alloc (Nat.le_refl _) (.cells x 39)).alloc (by rw [heap_size_alloc]; omega) (.cells y 39))
  have HR := Lib.hid hr
  have HBB := Lib.hid hb
  have HLL := Lib.hid hl
  have X1 := Lib.hid x1
  have OA := Lib.hid (show Out (w.heap.size + 1) (some ⟨g, 0, none⟩) S from fun h ad e => by have := hr.lt h ad e; omega)
  have kk0 : (k : Int) < (N : Int) := by omega
  clear hr hN hb hl x1
  go_enter Tryz.func101, Tryz.ntmps101
  go_wp2_with fail
  have t0 := T0.out #[.slice (some ⟨g, 0, none⟩) N c, .bool false, .int .i64 calls, .int .i64 after, .bool done] #[.slice none 0 0, .bool false, .int .i64 0, .int .i64 0, .bool false]
  have b0 := B0.out #[.slice (some ⟨g, 0, none⟩) N c, .bool false, .int .i64 calls, .int .i64 after, .bool done] #[.slice none 0 0, .bool false, .int .i64 0, .int .i64 0, .bool false]
  clear T0 B0
  generalize World.alloc (World.alloc w _) _ = W0 at *
  refine (KA.out _).mono ?_
  rintro e1 w1 ⟨rfl, b1⟩
  have TT := Lib.hid (t0.below t0.size b1).drew
  have BB := Lib.hid (b0.trans (b1.mono b0.size)).drew
  clear b1 t0 b0 KA
  have HRD := Lib.hid (HR.out.below BB.out)
  obtain ⟨s0, s1, s2, s3, s4⟩ := TT.out.c0
  have nb5 : w.heap.size ≠ w.heap.size + 1 := by omega
  have nb6 : g ≠ w.heap.size + 1 := by omega
  have NB := Lib.hid (show ∀ ad, B = some ad → ad.block ≠ w.heap.size + 1 from fun ad e => by have := RB.blt HBB.out (fun h => by have := HLL.out; rw [h] at this; cases this) ad e; omega)
  go_upto_region 6 with fail
  have hsf : w1.drew.cell? ⟨g, k * 3 + 1, none⟩ = some (.string (str sf)) := (BB.out.cell (p := ⟨g, k * 3 + 1, none⟩) hg).trans X1.out
  have hcv := run_str w1.drew B 256 e l HLL.out (HBB.out.below BB.out)
  have c0 : w1.drew.cell? ⟨w.heap.size, 0, none⟩ = some (.slice (some ⟨g, 0, none⟩) N c) ∧ w1.drew.cell? ⟨w.heap.size, 1, none⟩ = some (.bool false) ∧ w1.drew.cell? ⟨w.heap.size, 2, none⟩ = some (.int .i64 calls) ∧ w1.drew.cell? ⟨w.heap.size, 3, none⟩ = some (.int .i64 after) ∧ w1.drew.cell? ⟨w.heap.size, 4, none⟩ = some (.bool done) ∧ w1.drew.cell? ⟨g, k * 3 + 1, none⟩ = some (.string (str sf)) ∧ (convert 29 9 (.slice B 256 e)).run Tryz.prog w1.drew = .ok (.string (str l)) w1.drew := ⟨s0, s1, s2, s3, s4, hsf, hcv⟩
  go_region_held3 (fun W => W.cell? ⟨w.heap.size, 0, none⟩ = some (.slice (some ⟨g, 0, none⟩) N c) ∧ W.cell? ⟨w.heap.size, 1, none⟩ = some (.bool false) ∧ W.cell? ⟨w.heap.size, 2, none⟩ = some (.int .i64 calls) ∧ W.cell? ⟨w.heap.size, 3, none⟩ = some (.int .i64 after) ∧ W.cell? ⟨w.heap.size, 4, none⟩ = some (.bool done) ∧ W.cell? ⟨g, k * 3 + 1, none⟩ = some (.string (str sf)) ∧ (convert 29 9 (.slice B 256 e)).run Tryz.prog W = .ok (.string (str l)) W) (first | with_reducible assumption | with_reducible exact c0 | with_reducible exact c2 | with_reducible exact c3 | with_reducible exact KP5.out _ _ _ _ _ | fail)
    (first
      | (go_at_call 93; refine (KW.out _ HRD.out).mono ?_; rintro e w2 ⟨A1, c1, rfl, hr1, d1, b2⟩; have OA1 := Lib.hid (show Out (w.heap.size + 1) A1 T.S from fun _ ad e => by have := d1 ad e; have := TT.out.size; omega); have T1 := Lib.hid (TT.out.below TT.out.size b2); have B1 := Lib.hid (BB.out.trans (b2.mono BB.out.size)); obtain ⟨u0, u1, u2, u3, u4⟩ := T1.out.c0; have c2 := And.intro u0 (And.intro u1 (And.intro u2 (And.intro u3 (And.intro u4 (And.intro ((b2.cell (p := ⟨g, k * 3 + 1, none⟩) (lt_of_cell hsf)).trans hsf) (run_str w2 B 256 e l HLL.out (HBB.out.below B1.out))))))); have HR1 := Lib.hid hr1; clear hr1 b2 d1)
      | (go_at_call 141; refine (KC.out _ _ _ ⟨HR.out.below B1.out, OA.out⟩ ⟨HR1.out, OA1.out⟩).mono ?_; rintro e w3 ⟨A2, c4, rfl, hr2, d2, b3⟩; have OA2 := Lib.hid d2; have T2 := Lib.hid (T1.out.below T1.out.size b3); have B2 := Lib.hid (B1.out.trans (b3.mono B1.out.size)); obtain ⟨v0, v1, v2, v3, v4⟩ := T2.out.c0; have c3 := And.intro v0 (And.intro v1 (And.intro v2 (And.intro v3 (And.intro v4 (And.intro ((b3.cell (p := ⟨g, k * 3 + 1, none⟩) (lt_of_cell c2.2.2.2.2.2.1)).trans c2.2.2.2.2.2.1) (run_str w3 B 256 e l HLL.out (HBB.out.below B2.out))))))); have KP5 := Lib.hid (fun a0 a1 a2 a3 a4 => And.intro ((cell_set5 w3 (w.heap.size + 1) ⟨w.heap.size, 0, none⟩ nb5 a0 a1 a2 a3 a4).trans v0) (And.intro ((cell_set5 w3 (w.heap.size + 1) ⟨w.heap.size, 1, none⟩ nb5 a0 a1 a2 a3 a4).trans v1) (And.intro ((cell_set5 w3 (w.heap.size + 1) ⟨w.heap.size, 2, none⟩ nb5 a0 a1 a2 a3 a4).trans v2) (And.intro ((cell_set5 w3 (w.heap.size + 1) ⟨w.heap.size, 3, none⟩ nb5 a0 a1 a2 a3 a4).trans v3) (And.intro ((cell_set5 w3 (w.heap.size + 1) ⟨w.heap.size, 4, none⟩ nb5 a0 a1 a2 a3 a4).trans v4) (And.intro ((cell_set5 w3 (w.heap.size + 1) ⟨g, k * 3 + 1, none⟩ nb6 a0 a1 a2 a3 a4).trans c3.2.2.2.2.2.1) (run_str _ B 256 e l HLL.out (RB.set5 (b := w.heap.size + 1) (HBB.out.below B2.out) NB.out a0 a1 a2 a3 a4)))))))); have HR2 := Lib.hid hr2; obtain ⟨r0, r1, r2, r3, r4⟩ := T2.out.c1; have rf0 := T2.out.f1 0; have rf1 := T2.out.f1 1; have rf2 := T2.out.f1 2; have rf3 := T2.out.f1 3; have rf4 := T2.out.f1 4; clear hr2 b3 d2)
      | fail)
  all_goals
    go_wp2
    refine bodyPost_ret (v := .tuple #[.agg #[.slice A2 N c4, .bool off2, .int .i64 calls2, .int .i64 after2, .bool done2], .int .i64 (re : Int)]) (by simp [results, Tryz.results101, go_sem, r0, r1, r2, r3, r4]) rfl ⟨_, rfl, FIN.out _ _ _ ?_, ?_⟩
    · rcases HR2.out with e | ⟨g, rfl, hc⟩
      · exact .inl e
      · by_cases hS : S2 = []
        · exact .inl hS
        · have hg : g ≠ w.heap.size + 1 := OA2.out hS ⟨g, 0, none⟩ rfl
          refine .inr ⟨g, rfl, fun j u hj => ?_⟩
          have hcj := hc j u hj
          simpa [go_sem, hg, Ne.symm hg] using hcj
    · exact ((((B2.out.setCell (p := ⟨w.heap.size + 1, 0, none⟩) (by show w.heap.size ≤ w.heap.size + 1; omega) _).setCell (p := ⟨w.heap.size + 1, 1, none⟩) (by show w.heap.size ≤ w.heap.size + 1; omega) _).setCell (p := ⟨w.heap.size + 1, 2, none⟩) (by show w.heap.size ≤ w.heap.size + 1; omega) _).setCell (p := ⟨w.heap.size + 1, 3, none⟩) (by show w.heap.size ≤ w.heap.size + 1; omega) _).setCell (p := ⟨w.heap.size + 1, 4, none⟩) (by show w.heap.size ≤ w.heap.size + 1; omega) _
theorem refWrite_any (A : Option Addr) (c : Nat) (r : Rk) (n : Int) (B : Option Addr) (m e : Nat) (l : List UInt8) (w : World) (hs : r.S.length ≤ 4096) (hr : RS w A r.S) (hl : l.length = m) (hb : RB w B l) (h0 : 0 ≤ r.calls) (h1 : r.calls ≤ 4611686018427387904) (h2 : -1 ≤ r.after) (h3 : r.after ≤ 9223372036854775807) :
    Calls Tryz.prog 101 #[rkV A c r, .int .i64 n, .slice B m e] w fun e w' => ∃ v, e = .returned (.tuple #[v, .int .i64 (r.writeErr n l : Int)]) ∧ RkIs w' (r.write n l) v ∧ Below w.heap.size w w' := by
  by_cases hno : r.at n ≠ 0 ∨ l.length ≠ 256
  · have e1 : r.write n l = r := if_pos hno
    rw [e1]
    exact refWriteNo_any A c r n B m e l w hs hr hl (by rw [← hl]; exact hno)
  · have e1 : r.write n l = r.call (r.put n.toNat l) := if_neg hno
    have hat : r.at n = 0 := by
      rcases Nat.eq_zero_or_pos (r.at n) with h | h
      · exact h
      · exact absurd (.inl (by omega)) hno
    have hlen : l.length = 256 := by
      by_cases h : l.length = 256
      · exact h
      · exact absurd (.inr h) hno
    have e2 : r.writeErr n l = r.callErr := by unfold Rk.writeErr; rw [hat, if_neg (by simp), if_neg (by simp [hlen])]
    obtain ⟨_, hn0, _⟩ := Rk.at_ok hat
    obtain ⟨k, rfl⟩ := Int.eq_ofNat_of_zero_le hn0
    obtain rfl : m = 256 := by omega
    rw [e1, e2]
    exact refWriteYes_any A c r k B e l w hs hr hlen hb hat h0 h1 h2 h3
end Go.Proofs.YtegjeijiekggdaaGreatDoor
end
