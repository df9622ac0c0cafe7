/- The document's disk: Waits. -/
import Derived.Test.YtgnoodafaofkiaaRfE
namespace Go.Proofs.Ytgnoodafaofkiaa
open Go.RowKit
set_option linter.unusedVariables false
theorem Try.infoInt : (Try.prog.info? 3).map (fun i => (i.zero, i.size, i.bytes)) = some (some (.int .i64 0), 1, 8) := by kernel_rfl
def waitsTo (S : List Sx) : Nat → List Nat
  | 0 => []
  | k + 1 => if ((S[k]?).map (·.w)).getD false = true then waitsTo S k ++ [k] else waitsTo S k
theorem waitsTo_length (S : List Sx) : ∀ k, (waitsTo S k).length ≤ k
  | 0 => Nat.le_refl _
  | k + 1 => by
    have := waitsTo_length S k
    unfold waitsTo
    split
    · simp; omega
    · omega
def rowN (L : List Nat) : List Value := L.map fun (n : Nat) => Value.int .i64 (n : Int)
/-- While a row of numbers grows behind one box. -/
structure GrowN (w : World) (box : Array Value) (L : List Nat) (v : Value) (wr : World) : Prop where
  own : wr.ownsRow (w.heap.size + 1) 3 1 v L.length (rowN L)
  b0 : wr.heap[w.heap.size]? = some (.cells box 28 (0, 0))
  below : Below w.heap.size w wr
theorem GrowN.form {w : World} {box : Array Value} {L : List Nat} {v : Value} {wr : World} (h : GrowN w box L v wr) : ∃ A c, v = .slice A L.length c := by
  rcases h.own.2 with ⟨e, h0⟩ | ⟨g, cap, cur, e, _⟩
  · exact ⟨none, 0, by rw [e, h0]⟩
  · exact ⟨some ⟨g, 0, none⟩, cap, e⟩
theorem GrowN.step {w : World} {box : Array Value} {L : List Nat} {v v' : Value} {wr w1 : World} (h : GrowN w box L v wr) (o : Obj) (x : Nat) (hown : w1.ownsRow (w.heap.size + 1) 3 1 v' (L.length + 1) (rowN L ++ [.int .i64 (x : Int)])) (hg : (wr.alloc o).grownBy w1 v.ownBlock) : GrowN w box (L ++ [x]) v' w1 := by
  have hsz := bsz h.b0
  have hvb : ∀ i, v.ownBlock = some i → w.heap.size + 1 ≤ i := fun i e => (World.ownsRow.lt h.own i e).1
  have keep : ∀ i, i < w.heap.size + 1 → w1.heap[i]? = wr.heap[i]? := fun i hi =>
    (hg.block i (by simp; omega) (fun e => by have := hvb i e.symm; omega)).trans ((Below.heap_alloc _ _ _ (by omega)))
  refine ⟨?_, (keep _ (by omega)).trans h.b0, ?_⟩
  · rw [List.length_append]
    unfold rowN at *
    rw [List.map_append]
    exact hown
  · exact ⟨hg.os.trans h.below.os, hg.tape.trans h.below.tape, hg.output.trans h.below.output, Nat.le_trans h.below.size (Nat.le_trans (by simp) hg.size), fun i hi => (keep i (by omega)).trans (h.below.block i hi)⟩
def WaitsRel (w : World) (box : Array Value) (S : List Sx) (v i : Value) (wr : World) : Prop :=
  ∃ k : Nat, k ≤ S.length ∧ i = .int .i64 (k : Int) ∧ GrowN w box (waitsTo S k) v wr
set_option maxHeartbeats 2000000 in
set_option maxRecDepth 100000 in
theorem refWaits_any (A : Option Addr) (c : Nat) (r : Rk) (w : World) (hs : r.S.length ≤ 4096) (hr : RS w A r.S) :
    Calls Try.prog 41 #[rkV A c r] w fun e w' => ∃ v, e = .returned v ∧ w'.ownsRow (w.heap.size + 1) 3 1 v (waitsTo r.S r.S.length).length (rowN (waitsTo r.S r.S.length)) ∧ Below w.heap.size w w' := by
  obtain ⟨S, off, calls, after, done⟩ := r
  have hs : S.length ≤ 4096 := hs
  have hr : RS w A S := hr
  obtain ⟨i0, hi, hz0, hz1, hz2⟩ := info_parts Try.infoInt
  have hi := Lib.hid hi; have hz0 := Lib.hid hz0; have hz1 := Lib.hid hz1; have hz2 := Lib.hid hz2
  show Calls Try.prog 41 #[.agg #[.slice A S.length c, .bool off, .int .i64 calls, .int .i64 after, .bool done]] w fun e w' => ∃ v, e = .returned v ∧ w'.ownsRow (w.heap.size + 1) 3 1 v (waitsTo S S.length).length (rowN (waitsTo S S.length)) ∧ Below w.heap.size w w'
  have st0 : GrowN w #[.slice A S.length c, .bool off, .int .i64 calls, .int .i64 after, .bool done] [] (.slice none 0 0) (w.alloc (.cells #[.slice A S.length c, .bool off, .int .i64 calls, .int .i64 after, .bool done] 28)) :=
    ⟨World.ownsRow_nil _ _ _ _, heap_alloc_last w _, (Below.refl _ w).alloc (Nat.le_refl _) _⟩
  have ST0 := Lib.hid st0
  clear st0
  go_enter Try.func41, Try.ntmps41
  go_wp2
  go_loopw [3, 4] (fun v i wr => WaitsRel w #[.slice A S.length c, .bool off, .int .i64 calls, .int .i64 after, .bool done] S v i wr) (fun _ i _ => S.length - (RowKit.intOf i).toNat)
  case atStart => exact ⟨0, Nat.zero_le _, rfl, ST0.out⟩
  case round =>
    obtain ⟨k, hk, rfl, st⟩ := hrel
    obtain ⟨A1, c1, rfl⟩ := st.form
    have k0 : 0 ≤ (k : Int) := by omega
    have q0 : wr.cell? ⟨w.heap.size, 0, none⟩ = some (.slice A S.length c) := (cell_of_row wr _ 0 _ _ _ st.b0).trans rfl
    have hsz := bsz st.b0
    have ST := Lib.hid st
    have LB := Lib.hid (waitsTo_length S k)
    by_cases hlt : k < S.length
    · obtain ⟨g, rfl, hgw, _, _, y1⟩ := hr.at_ (List.getElem?_eq_getElem hlt)
      have x1 := (st.below.cell (p := ⟨g, k * 3 + 2, none⟩) hgw).trans y1
      have kk : (k : Int) < (S.length : Int) := by omega
      have hg : g < wr.heap.size := Nat.lt_of_lt_of_le hgw st.below.size
      have HT := Lib.hid (show waitsTo S (k + 1) = if S[k].w = true then waitsTo S k ++ [k] else waitsTo S k from by rw [waitsTo, List.getElem?_eq_getElem hlt]; rfl)
      generalize S[k].w = y at *
      clear st y1
      cases y with
      | false =>
        go_wp2
        go_roundw
        case rel =>
          refine ⟨k + 1, by omega, by go_num, ?_⟩
          rw [HT.out, if_neg (by simp)]
          exact ST.out
        case measure => simp [RowKit.intOf]; omega
      | true =>
        go_wp2_with (at_builtin; refine wpList_append_own _ rfl (.tmp 18) (.tmp 20) 46 rfl (w.heap.size + 1) 3 i0 _ 1 8 Try.underlying46 hi.out hz0.out hz1.out hz2.out rfl (by omega) _ _ _ rfl (World.ownsRow.alloc ST.out.own _) ⟨wr.heap.size, 0, none⟩ 1 1 [.int .i64 (k : Int)] rfl ?qc1 ?qc2 ?qc3 ?qc4 ?qc5 ?qc6 ?_)
        case qc3 => rfl
        case qc4 =>
          have := LB.out
          simp only [maxLen]
          omega
        case qc5 =>
          have := LB.out
          omega
        case qc6 => omega
        intro v' w1 hown hgrow hnil
        have st' := ST.out.step _ k hown hgrow
        have ST' := Lib.hid st'
        clear st' hown hgrow hnil
        go_wp2
        go_roundw
        case rel =>
          refine ⟨k + 1, by omega, by go_num, ?_⟩
          rw [HT.out, if_pos trivial]
          exact ST'.out
        case measure => simp [RowKit.intOf]; omega
    · have hkS : k = S.length := by omega
      subst hkS
      clear st
      go_wp2
      go_ret
      exact ⟨_, rfl, ST.out.own, ST.out.below⟩
end Go.Proofs.Ytgnoodafaofkiaa
