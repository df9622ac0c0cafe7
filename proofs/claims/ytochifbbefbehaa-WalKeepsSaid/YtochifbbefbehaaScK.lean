/- The package sector: New; a sector of one byte. A sector of one byte. -/
import Derived.Test.YtochifbbefbehaaScI
import Derived.Carry
namespace Go.Proofs.Ytochifbbefbehaa
open Go.RowKit
set_option linter.unusedVariables false
def Dk.new (n : Int) : Dk := { rows := List.replicate (min (max n 0) 4096).toNat zeros, wt := fun _ => none, calls := 0, off := false, fset := false, left := 0, done := false }
theorem Try.infoSec3 : (Try.prog.info? 67).map (fun i => (i.zero, i.size, i.bytes)) = some (some (.agg Try.zeroCells67), 256, 256) := by kernel_rfl
theorem zeros_flat (n : Nat) : (List.replicate n zeros).flatten = List.replicate (n * 256) 0 := by
  unfold zeros
  exact List.flatten_replicate_replicate
theorem madeSec (n : Nat) : (madeCells (Value.agg Try.zeroCells67).cells (n * 256)).toList = cellsB (List.replicate n zeros).flatten := by
  rw [zeros_flat, zeroSec_eq]
  have hs : (cellsB zeros).toArray.size = 256 := by rw [List.size_toArray, length_cellsB, zeros_len]
  have hz : ∀ (j : Nat), (cellsB zeros).toArray[j % (cellsB zeros).toArray.size]! = cellB 0 := by
    intro j
    have hj : j % (cellsB zeros).toArray.size < (cellsB zeros).toArray.size := Nat.mod_lt _ (by rw [hs]; decide)
    rw [getElem!_pos (cellsB zeros).toArray _ hj]
    simp only [cellsB, zeros, List.getElem_toArray, List.getElem_map, List.getElem_replicate]
  show ((Array.range (n * 256)).map fun i => (cellsB zeros).toArray[i % (cellsB zeros).toArray.size]!).toList = _
  simp only [hz]
  generalize n * 256 = q
  apply List.ext_getElem
  · simp [cellsB]
  · intro i h1 h2
    simp [cellsB]
theorem DkAt.born {base : Nat} {w1 : World} {n g cap m : Nat} (hn : n ≤ 4096) (hr : w1.ownsRow base 67 256 (.slice (some ⟨g, 0, none⟩) n cap) n (cellsB (List.replicate n zeros).flatten)) (hm : MapIs w1 m (fun _ => none)) (hb : base ≤ w1.heap.size) (hbm : base ≤ m) :
    DkAt base ⟨w1.heap.size, m, some ⟨g, 0, none⟩, cap⟩ (w1.alloc (.cells #[.slice (some ⟨g, 0, none⟩) n cap, .map (some m), .int .i64 0, .bool false, .bool false, .int .i64 0, .bool false] 54)) { rows := List.replicate n zeros, wt := fun _ => none, calls := 0, off := false, fset := false, left := 0, done := false } := by
  refine ⟨⟨by simpa using hn, fun r hr => ?_, fun k l h => (by cases h), fun k l h => (by cases h), by simp⟩, hb, hbm, ?_, ?_, hm.kept (Below.heap_alloc _ _ _ hm.lt)⟩
  · rw [List.eq_of_mem_replicate hr]; exact zeros_len
  · rw [heap_alloc_last]
    simp [dkCells]
  · have := World.ownsRow.alloc hr (.cells #[.slice (some ⟨g, 0, none⟩) n cap, .map (some m), .int .i64 0, .bool false, .bool false, .int .i64 0, .bool false] 54)
    simpa using this
set_option maxHeartbeats 1000000 in
set_option maxRecDepth 100000 in
theorem new_any (n : Int) (w : World) : Calls Try.prog 7 #[.int .i64 n] w fun e w' => ∃ F, e = .returned (.pointer (some ⟨F.b, 0, none⟩)) ∧ DkAt w.heap.size F w' (Dk.new n) ∧ Below w.heap.size w w' := by
  obtain ⟨k, hk⟩ : ∃ k : Nat, (k : Int) = min (max n 0) 4096 := ⟨(min (max n 0) 4096).toNat, by omega⟩
  have HN := Lib.hid (show Dk.new n = { rows := List.replicate k zeros, wt := fun _ => none, calls := 0, off := false, fset := false, left := 0, done := false } from by unfold Dk.new; rw [← hk]; simp)
  have HK := Lib.hid hk
  have hk0 : k ≤ 4096 := by omega
  clear hk
  obtain ⟨i0, hi, hz0, hz1, hz2⟩ := info_parts Try.infoSec3
  have hi := Lib.hid hi; have hz0 := Lib.hid hz0; have hz1 := Lib.hid hz1; have hz2 := Lib.hid hz2
  have hmm := @run_makeMap Try.prog
  rcases Int.lt_or_le n 0 with h0 | h0
  · obtain rfl : k = 0 := by have := HK.out; omega
    go_enter Try.func7, Try.ntmps7
    go_wp2_with (at_make; refine wpList_make_full _ rfl (.tmp 7) (.tmp 7) 49 rfl w.heap.size 67 i0 _ 256 Try.underlying49 hi.out hz0.out hz1.out .i64 .i64 0 0 0 rfl rfl rfl rfl (by rw [hz2.out]; omega) (by simp only [maxLen]; omega) (Nat.le_refl _) ?_; intro w1 hr1 hg1; rw [madeSec] at hr1; have b1 : Below w.heap.size w w1 := (Below.refl _ w).grown hg1 (Nat.le_refl _) (fun k e => by cases e); have R1 := Lib.hid hr1; have B1 := Lib.hid b1; clear hr1 hg1 b1)
    go_ret
    refine ⟨⟨w1.heap.size + 1, w1.heap.size, some ⟨w.heap.size, 0, none⟩, 0⟩, rfl, ?_, (B1.out.alloc B1.out.size _).alloc (by have := B1.out.size; simp; omega) _⟩
    rw [HN.out]
    have hb := DkAt.born (w1 := w1.alloc (.map #[] 0)) (by omega) (World.ownsRow.alloc R1.out _) (MapIs.made w1) (by have := B1.out.size; simp; omega) B1.out.size
    rw [heap_size_alloc] at hb
    exact hb
  rcases Int.lt_or_le 4096 n with h1 | h1
  · obtain rfl : k = 4096 := by have := HK.out; omega
    go_enter Try.func7, Try.ntmps7
    go_wp2_with (at_make; refine wpList_make_full _ rfl (.tmp 7) (.tmp 7) 49 rfl w.heap.size 67 i0 _ 256 Try.underlying49 hi.out hz0.out hz1.out .i64 .i64 4096 4096 4096 rfl rfl rfl rfl (by rw [hz2.out]; omega) (by simp only [maxLen]; omega) (Nat.le_refl _) ?_; intro w1 hr1 hg1; rw [madeSec] at hr1; have b1 : Below w.heap.size w w1 := (Below.refl _ w).grown hg1 (Nat.le_refl _) (fun k e => by cases e); have R1 := Lib.hid hr1; have B1 := Lib.hid b1; clear hr1 hg1 b1)
    go_ret
    refine ⟨⟨w1.heap.size + 1, w1.heap.size, some ⟨w.heap.size, 0, none⟩, 4096⟩, rfl, ?_, (B1.out.alloc B1.out.size _).alloc (by have := B1.out.size; simp; omega) _⟩
    rw [HN.out]
    have hb := DkAt.born (w1 := w1.alloc (.map #[] 0)) (by omega) (World.ownsRow.alloc R1.out _) (MapIs.made w1) (by have := B1.out.size; simp; omega) B1.out.size
    rw [heap_size_alloc] at hb
    exact hb
  · obtain rfl : n = (k : Int) := by have := HK.out; omega
    go_enter Try.func7, Try.ntmps7
    go_wp2_with (at_make; refine wpList_make_full _ rfl (.tmp 7) (.tmp 7) 49 rfl w.heap.size 67 i0 _ 256 Try.underlying49 hi.out hz0.out hz1.out .i64 .i64 k k k rfl rfl rfl rfl (by rw [hz2.out]; omega) (by simp only [maxLen]; omega) (Nat.le_refl _) ?_; intro w1 hr1 hg1; rw [madeSec] at hr1; have b1 : Below w.heap.size w w1 := (Below.refl _ w).grown hg1 (Nat.le_refl _) (fun k e => by cases e); have R1 := Lib.hid hr1; have B1 := Lib.hid b1; clear hr1 hg1 b1)
    go_ret
    refine ⟨⟨w1.heap.size + 1, w1.heap.size, some ⟨w.heap.size, 0, none⟩, k⟩, rfl, ?_, (B1.out.alloc B1.out.size _).alloc (by have := B1.out.size; simp; omega) _⟩
    rw [HN.out]
    have hb := DkAt.born (w1 := w1.alloc (.map #[] 0)) (by omega) (World.ownsRow.alloc R1.out _) (MapIs.made w1) (by have := B1.out.size; simp; omega) B1.out.size
    rw [heap_size_alloc] at hb
    exact hb
end Go.Proofs.Ytochifbbefbehaa
namespace Go.Proofs.Ytochifbbefbehaa
open Go.RowKit
set_option linter.unusedVariables false
/-- The first k of 256 bytes are x, the others 0. -/
def fillB (k : Nat) (x : UInt8) : List UInt8 := List.replicate k x ++ List.replicate (256 - k) 0
theorem fillB_len {k : Nat} (h : k ≤ 256) (x : UInt8) : (fillB k x).length = 256 := by
  unfold fillB
  rw [List.length_append, List.length_replicate, List.length_replicate]
  omega
theorem fillB_at {k : Nat} (h : k < 256) (x : UInt8) : (fillB k x)[k]? = some 0 := by
  unfold fillB
  rw [List.getElem?_append_right (by simp), List.length_replicate, Nat.sub_self, List.getElem?_replicate, if_pos (by omega)]
theorem fillB_set {k : Nat} (h : k < 256) (x : UInt8) : (fillB k x).set k x = fillB (k + 1) x := by
  unfold fillB
  rw [List.set_append_right _ _ (by simp), List.length_replicate, Nat.sub_self, show 256 - k = (256 - (k + 1)) + 1 by omega, List.replicate_succ, List.set_cons_zero, List.replicate_succ', List.append_assoc]
  rfl
theorem fillB_start (x : UInt8) : fillB 0 x = List.replicate 256 0 := by
  unfold fillB
  rw [List.replicate_zero, List.nil_append]
theorem fillB_end (x : UInt8) : fillB 256 x = List.replicate 256 x := by
  unfold fillB
  rw [Nat.sub_self, List.replicate_zero, List.append_nil]
/-- A sector of one byte. -/
def oneB (x : UInt8) : List UInt8 := List.replicate 256 x
theorem oneB_len (x : UInt8) : (oneB x).length = 256 := List.length_replicate ..
def FullRel (w : World) (g : Nat) (x : UInt8) (i : Value) (wr : World) : Prop :=
  ∃ k : Nat, k ≤ 256 ∧ i = .int .i64 (k : Int) ∧ OB w.heap.size wr (.slice (some ⟨g, 0, none⟩) 256 256) (fillB k x) ∧ Below w.heap.size w wr
theorem below_of_drew {B : Nat} {w w' : World} (h : Below B w.drew w') : Below B w w' := ⟨h.os, h.tape, h.output, h.size, h.block⟩
end Go.Proofs.Ytochifbbefbehaa
