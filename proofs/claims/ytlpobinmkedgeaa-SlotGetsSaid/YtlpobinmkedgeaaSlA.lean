/- Slots: an array of bytes in a box; the stamp of a number, and the number of a stamp. -/
import Derived.Test.YtlpobinmkedgeaaSlP
import Derived.Test.YtlpobinmkedgeaaOwn
import Derived.Deep.Cut
import Derived.Deep.MidRow
import Derived.Deep.WholeRow
import Derived.Deep.DeepMust
namespace Go.Proofs.Ytlpobinmkedgeaa
open Go.RowKit
set_option linter.unusedVariables false
set_option linter.unusedSimpArgs false

theorem length_cellsB (l : List UInt8) : (cellsB l).length = l.length := by simp [cellsB]
theorem oneCells_B (l : List UInt8) : ∀ v ∈ cellsB l, v.oneCell' = true := by
  intro u hu
  simp only [cellsB, List.mem_map] at hu
  obtain ⟨x, _, rfl⟩ := hu
  rfl
/-- The block g is an array of the bytes l. -/
def Arr (w : World) (g : Nat) (t : TypeId) (l : List UInt8) : Prop := w.heap[g]? = some (.cells (cellsB l).toArray t (0, 0))
theorem Arr.lt {w : World} {g : Nat} {t : TypeId} {l : List UInt8} (h : Arr w g t l) : g < w.heap.size := (Array.getElem?_eq_some_iff.1 h).1
theorem Arr.below {w w' : World} {g B : Nat} {t : TypeId} {l : List UInt8} (h : Arr w g t l) (hb : Below B w w') (hB : g < B) : Arr w' g t l := (hb.block g hB).trans h
theorem Arr.same {w w' : World} {g : Nat} {t : TypeId} {l : List UInt8} (h : Arr w g t l) (hb : Below w.heap.size w w') : Arr w' g t l := (hb.block g h.lt).trans h
theorem Arr.at {w : World} {g : Nat} {t : TypeId} {l : List UInt8} (h : Arr w g t l) {k : Nat} {x : UInt8} (hk : l[k]? = some x) :
    w.cell? ⟨g, k, none⟩ = some (.int .u8 (x.toNat : Int)) ∧ w.frozen? ⟨g, k, none⟩ = false ∧ ∀ (y : UInt8) (z : Int), z = (y.toNat : Int) → Arr (w.setCell ⟨g, k, none⟩ (.int .u8 z)) g t (l.set k y) := by
  refine ⟨?_, ?_, fun y z hz => ?_⟩
  · rw [cell_of_row w g k _ t _ h]
    simp [cellsB, hk, cellB]
  · have h' : w.heap[g]? = some (.cells (cellsB l).toArray t (0, 0)) := h
    simp [World.frozen?, h']
  · subst hz
    have h1 := heap_setCell_same w g k _ t (.int .u8 (y.toNat : Int)) h
    unfold Arr
    rw [h1]
    simp [cellsB, cellB, List.map_set]
theorem Arr.frozen {w : World} {g : Nat} {t : TypeId} {l : List UInt8} (h : Arr w g t l) (j : Nat) : w.frozen? ⟨g, j, none⟩ = false := by
  have h' : w.heap[g]? = some (.cells (cellsB l).toArray t (0, 0)) := h
  simp [World.frozen?, h']
theorem Arr.reads {w : World} {g : Nat} {t : TypeId} {l : List UInt8} (h : Arr w g t l) : RB w (some ⟨g, 0, none⟩) l := by
  refine .inr ⟨_, rfl, fun j x hx => ?_⟩
  have e : (⟨g, 0, none⟩ : Addr).add j = ⟨g, j, none⟩ := by cases j <;> simp [Addr.add]
  rw [e]
  exact (h.at hx).1
theorem Arr.range {w : World} {g : Nat} {t : TypeId} {l : List UInt8} (h : Arr w g t l) : w.rangeAt g 0 (cellsB l) := fun j v hv => by
  rw [cell_of_row w g (0 + j) _ t _ h]
  simpa using hv
theorem cells8 {l : List UInt8} (h : l.length = 8) : ∃ a b c d e f g k : UInt8, l = [a, b, c, d, e, f, g, k] := list8 l h
/-- Of what lies in w only the block g may read otherwise. -/
structure OnlyB (g : Nat) (w w' : World) : Prop where
  os : w'.os = w.os
  tape : w'.tape = w.tape
  output : w'.output = w.output
  size : w'.heap.size = w.heap.size
  block : ∀ b, b ≠ g → w'.heap[b]? = w.heap[b]?
theorem OnlyB.refl (g : Nat) (w : World) : OnlyB g w w := ⟨rfl, rfl, rfl, rfl, fun _ _ => rfl⟩
theorem OnlyB.set (g i : Nat) (w : World) (v : Value) : OnlyB g w (w.setCell ⟨g, i, none⟩ v) := by
  have h := (Below.refl 0 w).setCell (p := ⟨g, i, none⟩) (Nat.zero_le _) v
  refine ⟨h.os, h.tape, h.output, ?_, fun b hb => ?_⟩
  · simp [World.setCell]
  · unfold World.setCell
    simp [Array.getElem?_modify, Ne.symm hb]
theorem OnlyB.below {g base : Nat} {w w' : World} (h : OnlyB g w w') (hb : base ≤ g) : Below base w w' := ⟨h.os, h.tape, h.output, Nat.le_of_eq h.size.symm, fun b hlt => h.block b (by omega)⟩
theorem OnlyB.trans {g : Nat} {X Y Z : World} (h1 : OnlyB g X Y) (h2 : OnlyB g Y Z) : OnlyB g X Z := ⟨h2.os.trans h1.os, h2.tape.trans h1.tape, h2.output.trans h1.output, h2.size.trans h1.size, fun b hb => (h2.block b hb).trans (h1.block b hb)⟩
theorem OnlyB.drew {g : Nat} {X Y : World} (h : OnlyB g X Y) : OnlyB g X Y.drew := ⟨h.os, h.tape, h.output, h.size, h.block⟩
theorem Arr.only {w w' : World} {g q : Nat} {t : TypeId} {l : List UInt8} (h : Arr w q t l) (ho : OnlyB g w w') (hne : q ≠ g) : Arr w' q t l := (ho.block q hne).trans h
theorem OnlyB.row (g : Nat) (w : World) (cs : Array Value) (t : TypeId) (cur : Array Value) (h : w.heap[g]? = some (.cells cur t (0, 0))) : OnlyB g w (w.setRow g cs) :=
  ⟨rfl, rfl, rfl, by simp [World.setRow], fun k hk => setRow_other w g k _ hk⟩
/-- A stamp's value. -/
def stV (l : List UInt8) : Value := .agg (cellsB l).toArray


theorem st_at (g k : Nat) (h : k < 8) : (st g)[k]? = some (UInt8.ofNat (g / 256 ^ (7 - k))) := by simp [st, h]
theorem set_rep {l : List UInt8} {k : Nat} {y : UInt8} (h : k < 8) (hl : l.length = 8) (hy : l[k]? = some y) : (l.take k ++ List.replicate (8 - k) 0).set k y = l.take (k + 1) ++ List.replicate (8 - (k + 1)) 0 := by
  rw [take_snoc hy, show 8 - k = (8 - (k + 1)) + 1 by omega, List.replicate_succ, List.set_append_right _ _ (by simp; omega)]
  simp [Nat.min_eq_left (by omega : k ≤ l.length), hl, Nat.min_eq_left (by omega : k ≤ 8)]

/-- Eight noughts. -/
def z8 : Array Value := #[.int .u8 0, .int .u8 0, .int .u8 0, .int .u8 0, .int .u8 0, .int .u8 0, .int .u8 0, .int .u8 0]
theorem z8_eq : z8 = (cellsB (List.replicate 8 0)).toArray := by kernel_rfl
theorem arr_z8 (w : World) (t : TypeId) : Arr (w.alloc (.cells z8 t)) w.heap.size t (List.replicate 8 0) := by
  unfold Arr
  rw [heap_alloc_last, z8_eq]
theorem shr_byte (n k : Nat) : ((n : Int) / 2 ^ (8 * (7 - k)) % 256) = ((UInt8.ofNat (n / 256 ^ (7 - k))).toNat : Int) := by
  have e : (2 : Int) ^ (8 * (7 - k)) = ((256 ^ (7 - k) : Nat) : Int) := by
    have h : (2 : Nat) ^ (8 * (7 - k)) = 256 ^ (7 - k) := Nat.pow_mul 2 8 (7 - k)
    rw [← h]
    simp
  rw [toNat_of, e]
  omega
theorem Arr.set_ne {w : World} {g : Nat} {t : TypeId} {l : List UInt8} (h : Arr w g t l) {p : Addr} (hp : g ≠ p.block) (v : Value) : Arr (w.setCell p v) g t l := (Below.heap_setCell w p v g hp).trans h
theorem results_arr8 {w : World} {g : Nat} {t : TypeId} {l : List UInt8} (h : Arr w g t l) (hl : l.length = 8) : ∃ a b c d e f g' k : UInt8, l = [a, b, c, d, e, f, g', k] ∧
    w.cell? ⟨g, 0, none⟩ = some (.int .u8 (a.toNat : Int)) ∧ w.cell? ⟨g, 1, none⟩ = some (.int .u8 (b.toNat : Int)) ∧ w.cell? ⟨g, 2, none⟩ = some (.int .u8 (c.toNat : Int)) ∧ w.cell? ⟨g, 3, none⟩ = some (.int .u8 (d.toNat : Int)) ∧
    w.cell? ⟨g, 4, none⟩ = some (.int .u8 (e.toNat : Int)) ∧ w.cell? ⟨g, 5, none⟩ = some (.int .u8 (f.toNat : Int)) ∧ w.cell? ⟨g, 6, none⟩ = some (.int .u8 (g'.toNat : Int)) ∧ w.cell? ⟨g, 7, none⟩ = some (.int .u8 (k.toNat : Int)) := by
  obtain ⟨a, b, c, d, e, f, g', k, rfl⟩ := list8 l hl
  exact ⟨a, b, c, d, e, f, g', k, rfl, (h.at rfl).1, (h.at rfl).1, (h.at rfl).1, (h.at rfl).1, (h.at rfl).1, (h.at rfl).1, (h.at rfl).1, (h.at rfl).1⟩

set_option maxHeartbeats 1000000 in
set_option maxRecDepth 100000 in
theorem stampOf_any (n : Nat) (w : World) (hn : n ≤ 1099511627776) :
    Calls Try.prog 20 #[.int .i64 (n : Int)] w fun e w' => e = .returned (stV (st n)) ∧ Below w.heap.size w w' := by
  have HN := Lib.hid hn
  have B1 := Lib.hid (show Below w.heap.size w ((w.alloc (.cells z8 54)).alloc (.cells z8 54)) from ((Below.refl _ w).alloc (Nat.le_refl _) _).alloc (by simp) _)
  have A1 := Lib.hid (arr_z8 (w.alloc (.cells z8 54)) 54)
  have R1 := Lib.hid ((arr_z8 w 54).same ((Below.refl _ _).alloc (Nat.le_refl _) (.cells z8 54)))
  have HZ := heap_size_alloc w (.cells z8 54)
  have A1 := A1.out
  rw [HZ] at A1
  have A1 := Lib.hid A1
  clear hn HZ
  go_enter Try.func20, Try.ntmps20
  go_wp2
  obtain ⟨W, hW⟩ : ∃ W, W = (w.alloc (.cells z8 54)).alloc (.cells z8 54) := ⟨_, rfl⟩
  rw [← hW] at A1 B1 R1
  have hW' := hW
  unfold z8 at hW'
  rw [← hW']
  clear hW hW'
  have HS := Lib.hid (show w.heap.size + 1 < W.heap.size from A1.out.lt)
  go_loopw [4, 5] (fun _ i wr => ∃ k : Nat, k ≤ 8 ∧ i = .int .i64 k ∧ Arr wr (w.heap.size + 1) 54 ((st n).take k ++ List.replicate (8 - k) 0) ∧ Arr wr w.heap.size 54 (List.replicate 8 0) ∧ Below w.heap.size w wr) (fun _ i _ => 8 - (intOf i).toNat)
  case atStart => exact ⟨0, Nat.zero_le _, rfl, by simpa using A1.out, R1.out, B1.out⟩
  case round =>
    obtain ⟨k, hk, rfl, hA, hR, hB⟩ := hrel
    by_cases hlt : k < 8
    · obtain ⟨hc, hf, hset⟩ := hA.at (k := k) (x := 0) (by rw [List.getElem?_append_right (by simp [st_len]; omega), List.getElem?_replicate, List.length_take, st_len, if_pos (by omega)])
      have HSET := Lib.hid hset
      have HY := Lib.hid (set_rep hlt (st_len n) (st_at n k hlt))
      clear hset hA
      go_wp2
      go_roundw
      case rel => exact ⟨k + 1, by omega, by go_num, by rw [← HY.out]; exact HSET.out _ _ (shr_byte n k), hR.set_ne (by simp) _, hB.setCell (by simp) _⟩
      case measure => simp [intOf]; omega
    · obtain rfl : k = 8 := by omega
      have hl := st_len n
      simp only [Nat.sub_self, List.replicate_zero, List.append_nil] at hA
      rw [List.take_of_length_le (by omega)] at hA
      obtain ⟨a, b, c, d, e, f, g, q, hl8, a0, a1, a2, a3, a4, a5, a6, a7⟩ := results_arr8 hA hl
      obtain ⟨_, _, _, _, _, _, _, _, hz8, r0, r1, r2, r3, r4, r5, r6, r7⟩ := results_arr8 hR rfl
      have HL8 := Lib.hid hl8
      have fz : ∀ j : Nat, wr.frozen? ⟨w.heap.size, j, none⟩ = false := fun j => by
        have h' : wr.heap[w.heap.size]? = some (.cells (cellsB (List.replicate 8 0)).toArray 54 (0, 0)) := hR
        simp [World.frozen?, h']
      have f0 := fz 0; have f1 := fz 1; have f2 := fz 2; have f3 := fz 3; have f4 := fz 4; have f5 := fz 5; have f6 := fz 6; have f7 := fz 7
      have hB' := Lib.hid hB
      clear hl hl8 hA hR hz8 fz hB
      go_wp2
      refine bodyPost_ret (v := .agg #[.int .u8 (a.toNat : Int), .int .u8 (b.toNat : Int), .int .u8 (c.toNat : Int), .int .u8 (d.toNat : Int), .int .u8 (e.toNat : Int), .int .u8 (f.toNat : Int), .int .u8 (g.toNat : Int), .int .u8 (q.toNat : Int)]) (by simp [results, Try.results20, go_sem, r0, r1, r2, r3, r4, r5, r6, r7]) rfl ⟨?_, ?_⟩
      · rw [HL8.out]; rfl
      · exact (((((((hB'.out.setCell (Nat.le_refl _) _).setCell (Nat.le_refl _) _).setCell (Nat.le_refl _) _).setCell (Nat.le_refl _) _).setCell (Nat.le_refl _) _).setCell (Nat.le_refl _) _).setCell (Nat.le_refl _) _).setCell (Nat.le_refl _) _
end Go.Proofs.Ytlpobinmkedgeaa
