/- Joined: ScI ScK. -/
import Derived.Test.YtegjeijiekggdaaGreatDoorM05
import Derived.Carry
section
/- The package sector: Read. -/
namespace Go.Proofs.YtegjeijiekggdaaGreatDoor
open Go.RowKit
set_option linter.unusedVariables false
/-- What Read tells of a sector. -/
def Dk.reads (s : Dk) (n : Int) : List UInt8 := if s.faultAt n = 0 then s.at_ n.toNat else []
def zeros : List UInt8 := List.replicate 256 0
theorem zeros_len : zeros.length = 256 := List.length_replicate ..
theorem zeroSec_eq : Tryz.zeroCells102 = (cellsB zeros).toArray := by kernel_rfl
theorem zeroSec_read : secR (.agg Tryz.zeroCells102) = some (.lit (.string zeros), []) := by
  rw [zeroSec_eq]
  exact secR_mk zeros_len
theorem Dk.at_len {s : Dk} (h : s.Ok) {n : Nat} (hn : n < s.rows.length) : (s.at_ n).length = 256 := by
  unfold Dk.at_
  cases e : s.wt n with
  | some l => exact h.wlen n l e
  | none =>
    have : s.rows.getD n [] ∈ s.rows := by
      rw [List.getD_eq_getElem?_getD, List.getElem?_eq_getElem hn]
      exact List.getElem_mem hn
    exact h.each _ this
theorem rb_of_row' {w : World} {g : Nat} {l : List UInt8} {t : TypeId} {fr : Nat × Nat} (h : w.heap[g]? = some (.cells (cellsB l).toArray t fr)) : RB w (some ⟨g, 0, none⟩) l := by
  refine .inr ⟨_, rfl, fun j x hx => ?_⟩
  have e : (⟨g, 0, none⟩ : Addr).add j = ⟨g, j, none⟩ := by cases j <;> simp [Addr.add]
  rw [e, cell_of_row w g j _ _ _ h]
  simp [cellsB, hx, cellB]
set_option maxHeartbeats 1000000 in
set_option maxRecDepth 100000 in
theorem read_any {base : Nat} {F : Ft} {w : World} {s : Dk} (h : DkAt base F w s) (n : Int) :
    Calls Tryz.prog 85 #[.pointer (some ⟨F.b, 0, none⟩), .int .i64 n] w fun e w' => ∃ A, e = .returned (.tuple #[.slice A (s.reads n).length (s.reads n).length, .int .i64 (s.faultAt n : Int)]) ∧ RB w' A (s.reads n) ∧ Below w.heap.size w w' := by
  have Hf := Lib.hid (faultAt_any h n)
  have c0 := h.c0; have c1 := h.c1
  have g3 : F.b < w.heap.size := h.blt
  have hmany := h.ok.many
  obtain ⟨nn, D, hM⟩ := h.map.open_ h.ok.wlt
  have hown := Lib.hid hM.owns
  have H := Lib.hid h
  have HM := Lib.hid hM
  clear h hM
  by_cases h0 : s.faultAt n = 0
  · obtain ⟨hn0, hn1⟩ := Dk.faultAt_ok h0
    have HR := Lib.hid (show s.reads n = s.at_ n.toNat from by unfold Dk.reads; rw [if_pos h0])
    have HE := Lib.hid h0
    rw [h0] at Hf
    obtain ⟨k, rfl⟩ := Int.eq_ofNat_of_zero_le hn0
    have hk : k < s.rows.length := by omega
    have HL := Lib.hid (Dk.at_len H.out.ok hk)
    have hkey : keyOf Tryz.prog 3 (.int .i64 (k : Int)) = some (.int .i64 (k : Int)) := Maps.keyOf_int_mk Tryz.underlying3 (WalkArith.wf_i64 ⟨by omega, by omega⟩)
    have HK := Lib.hid hkey
    clear h0 hkey
    have hh := HM.out.has k
    cases hw : s.wt k with
    | some l =>
      rw [hw] at hh
      have HA := Lib.hid (show s.at_ k = l from by unfold Dk.at_; rw [hw]; rfl)
      have hl := Lib.hid (H.out.ok.wlen k l hw)
      have hat := Lib.hid (HM.out.at_ k l hw)
      have hh := Lib.hid hh
      clear hw
      go_enter Tryz.func85, Tryz.ntmps85
      go_wp2_with (first
        | (go_at_call 130; refine Hf.out.mono ?_; rintro e w' ⟨rfl, rfl⟩)
        | (at_lookup; refine wpList_lookup_own_ok _ rfl (.tmp 19) (.tmp 20) 95 rfl 3 102 (Maps.int_keyed Tryz.underlying3) Tryz.underlying95 secR (Tryz.zeroValue102 _) (.lit (.string zeros)) [] zeroSec_read F.m nn D rfl hown.out (.int .i64 (k : Int)) (.int .i64 (k : Int)) rfl HK.out ?_; intro v ps hv; rw [hh.out]; rw [hat.out] at hv; obtain ⟨l', hl1, rfl, hl2⟩ := secR_inv hv; obtain rfl : l = l' := by simpa using congrArg Prod.fst hl2)
        | (refine wpList_store_new rfl 102 (.tmp 7) (.tmp 22) rfl Tryz.zeroCells102 (cellsB l).toArray rfl rfl (infoSec_of hl.out) (zeroSec_size hl.out) (secCells_all l) ?_))
      go_ret2
      refine ⟨some ⟨w.heap.size, 0, none⟩, ?_, ?_, (Below.refl _ w).alloc (Nat.le_refl _) _⟩
      · rw [HR.out, HE.out, Int.toNat_natCast, HL.out]; rfl
      · rw [HR.out, Int.toNat_natCast, HA.out]; exact rb_of_row' (heap_alloc_last w _)
    | none =>
      rw [hw] at hh
      have HA := Lib.hid (show s.at_ k = s.rows.getD k [] from by unfold Dk.at_; rw [hw]; rfl)
      have hh := Lib.hid hh
      obtain ⟨g, hA, _, hra, _⟩ := H.out.setRow hk zeros_len
      rw [hA] at c0
      have hrl : (s.rows.getD k []).length = 256 := by rw [← HA.out]; exact HL.out
      generalize s.rows.getD k [] = r at *
      have HRL := Lib.hid hrl
      have HRA := Lib.hid hra
      have kk : (k : Int) < (s.rows.length : Int) := by omega
      generalize s.rows.length = NN at c0 kk
      clear hw hrl hra
      go_enter Tryz.func85, Tryz.ntmps85
      go_wp2_with (first
        | (go_at_call 130; refine Hf.out.mono ?_; rintro e w' ⟨rfl, rfl⟩)
        | (at_lookup; refine wpList_lookup_own_ok _ rfl (.tmp 19) (.tmp 20) 95 rfl 3 102 (Maps.int_keyed Tryz.underlying3) Tryz.underlying95 secR (Tryz.zeroValue102 _) (.lit (.string zeros)) [] zeroSec_read F.m nn D rfl hown.out (.int .i64 (k : Int)) (.int .i64 (k : Int)) rfl HK.out ?_; intro v ps hv; rw [hh.out]; obtain ⟨l, hl, rfl, _⟩ := secR_inv hv; clear hv; have hl := Lib.hid hl)
        | (refine wpList_store_new rfl 102 (.tmp 7) (.tmp 22) rfl Tryz.zeroCells102 (cellsB l).toArray rfl rfl (infoSec_of hl.out) (zeroSec_size hl.out) (secCells_all l) ?_)
        | (refine wpList_load_mid rfl 102 (.tmp 31) rfl g (k * 256) rfl (cellsB r) _ (World.rangeAt_alloc HRA.out _) Tryz.underlying102 rfl (infoSec_list HRL.out) ?_)
        | (refine wpList_store_new rfl 102 (.tmp 7) (.tmp 32) rfl (cellsB l).toArray (cellsB r).toArray rfl rfl (infoSec_of HRL.out) (by rw [List.size_toArray, List.size_toArray, length_cellsB, length_cellsB, hl.out, HRL.out]) (secCells_all r) ?_))
      go_ret2
      refine ⟨some ⟨w.heap.size, 0, none⟩, ?_, ?_, (Below.refl _ w).alloc (Nat.le_refl _) _⟩
      · rw [HR.out, HE.out, Int.toNat_natCast, HL.out]; rfl
      · rw [HR.out, Int.toNat_natCast, HA.out]; exact rb_of_row' (heap_alloc_last w _)
  · have HR := Lib.hid (show s.reads n = [] from by unfold Dk.reads; rw [if_neg h0])
    have hb : (((s.faultAt n : Nat) : Int) != 0) = true := by rw [bne_iff_ne]; omega
    generalize s.faultAt n = q at *
    clear h0
    go_enter Tryz.func85, Tryz.ntmps85
    go_wp2_with (go_at_call 130; refine Hf.out.mono ?_; rintro e w' ⟨rfl, rfl⟩)
    go_ret2
    refine ⟨none, ?_, ?_, Below.refl _ w⟩
    · rw [HR.out]; rfl
    · rw [HR.out]; exact RB.nil
end Go.Proofs.YtegjeijiekggdaaGreatDoor
end
section
/- The package sector: New; a sector of one byte. A sector of one byte. -/
namespace Go.Proofs.YtegjeijiekggdaaGreatDoor
open Go.RowKit
set_option linter.unusedVariables false
def Dk.new (n : Int) : Dk := { rows := List.replicate (min (max n 0) 4096).toNat zeros, wt := fun _ => none, calls := 0, off := false, fset := false, left := 0, done := false }
theorem Tryz.infoSec3 : (Tryz.prog.info? 102).map (fun i => (i.zero, i.size, i.bytes)) = some (some (.agg Tryz.zeroCells102), 256, 256) := by kernel_rfl
theorem zeros_flat (n : Nat) : (List.replicate n zeros).flatten = List.replicate (n * 256) 0 := by
  unfold zeros
  exact List.flatten_replicate_replicate
theorem madeSec (n : Nat) : (madeCells (Value.agg Tryz.zeroCells102).cells (n * 256)).toList = cellsB (List.replicate n zeros).flatten := by
  rw [zeros_flat, zeroSec_eq]
  have hs : (cellsB zeros).toArray.size = 256 := by rw [List.size_toArray, length_cellsB, zeros_len]
  have hz : ∀ (j : Nat), (cellsB zeros).toArray[j % (cellsB zeros).toArray.size]! = cellB 0 := by
    intro j
    have hj : j % (cellsB zeros).toArray.size < (cellsB zeros).toArray.size := Nat.mod_lt _ (by rw [hs]; decide)
    rw [getElem!_pos (cellsB zeros).toArray _ hj]
    simp only [cellsB, zeros, List.getElem_toArray, List.getElem_map, List.getElem_replicate]
  show ((Array.range (n * 256)).map fun i => (cellsB zeros).toArray[i % (cellsB zeros).toArray.size]!).toList = _
  simp only [hz]
  generalize n * 256 = q
  apply List.ext_getElem
  · simp [cellsB]
  · intro i h1 h2
    simp [cellsB]
theorem DkAt.born {base : Nat} {w1 : World} {n g cap m : Nat} (hn : n ≤ 4096) (hr : w1.ownsRow base 102 256 (.slice (some ⟨g, 0, none⟩) n cap) n (cellsB (List.replicate n zeros).flatten)) (hm : MapIs w1 m (fun _ => none)) (hb : base ≤ w1.heap.size) (hbm : base ≤ m) :
    DkAt base ⟨w1.heap.size, m, some ⟨g, 0, none⟩, cap⟩ (w1.alloc (.cells #[.slice (some ⟨g, 0, none⟩) n cap, .map (some m), .int .i64 0, .bool false, .bool false, .int .i64 0, .bool false] 99)) { rows := List.replicate n zeros, wt := fun _ => none, calls := 0, off := false, fset := false, left := 0, done := false } := by
  refine ⟨⟨by simpa using hn, fun r hr => ?_, fun k l h => (by cases h), fun k l h => (by cases h), by simp⟩, hb, hbm, ?_, ?_, hm.kept (Below.heap_alloc _ _ _ hm.lt)⟩
  · rw [List.eq_of_mem_replicate hr]; exact zeros_len
  · rw [heap_alloc_last]
    simp [dkCells]
  · have := World.ownsRow.alloc hr (.cells #[.slice (some ⟨g, 0, none⟩) n cap, .map (some m), .int .i64 0, .bool false, .bool false, .int .i64 0, .bool false] 99)
    simpa using this
set_option maxHeartbeats 1000000 in
set_option maxRecDepth 100000 in
theorem new_any (n : Int) (w : World) : Calls Tryz.prog 28 #[.int .i64 n] w fun e w' => ∃ F, e = .returned (.pointer (some ⟨F.b, 0, none⟩)) ∧ DkAt w.heap.size F w' (Dk.new n) ∧ Below w.heap.size w w' := by
  obtain ⟨k, hk⟩ : ∃ k : Nat, (k : Int) = min (max n 0) 4096 := ⟨(min (max n 0) 4096).toNat, by omega⟩
  have HN := Lib.hid (show Dk.new n = { rows := List.replicate k zeros, wt := fun _ => none, calls := 0, off := false, fset := false, left := 0, done := false } from by unfold Dk.new; rw [← hk]; simp)
  have HK := Lib.hid hk
  have hk0 : k ≤ 4096 := by omega
  clear hk
  obtain ⟨i0, hi, hz0, hz1, hz2⟩ := info_parts Tryz.infoSec3
  have hi := Lib.hid hi; have hz0 := Lib.hid hz0; have hz1 := Lib.hid hz1; have hz2 := Lib.hid hz2
  have hmm := @run_makeMap Tryz.prog
  rcases Int.lt_or_le n 0 with h0 | h0
  · obtain rfl : k = 0 := by have := HK.out; omega
    go_enter Tryz.func28, Tryz.ntmps28
    go_wp2_with (at_make; refine wpList_make_full _ rfl (.tmp 7) (.tmp 7) 94 rfl w.heap.size 102 i0 _ 256 Tryz.underlying94 hi.out hz0.out hz1.out .i64 .i64 0 0 0 rfl rfl rfl rfl (by rw [hz2.out]; omega) (by simp only [maxLen]; omega) (Nat.le_refl _) ?_; intro w1 hr1 hg1; rw [madeSec] at hr1; have b1 : Below w.heap.size w w1 := (Below.refl _ w).grown hg1 (Nat.le_refl _) (fun k e => by cases e); have R1 := Lib.hid hr1; have B1 := Lib.hid b1; clear hr1 hg1 b1)
    go_ret
    refine ⟨⟨w1.heap.size + 1, w1.heap.size, some ⟨w.heap.size, 0, none⟩, 0⟩, rfl, ?_, (B1.out.alloc B1.out.size _).alloc (by have := B1.out.size; simp; omega) _⟩
    rw [HN.out]
    have hb := DkAt.born (w1 := w1.alloc (.map #[] 0)) (by omega) (World.ownsRow.alloc R1.out _) (MapIs.made w1) (by have := B1.out.size; simp; omega) B1.out.size
    rw [heap_size_alloc] at hb
    exact hb
  rcases Int.lt_or_le 4096 n with h1 | h1
  · obtain rfl : k = 4096 := by have := HK.out; omega
    go_enter Tryz.func28, Tryz.ntmps28
    go_wp2_with (at_make; refine wpList_make_full _ rfl (.tmp 7) (.tmp 7) 94 rfl w.heap.size 102 i0 _ 256 Tryz.underlying94 hi.out hz0.out hz1.out .i64 .i64 4096 4096 4096 rfl rfl rfl rfl (by rw [hz2.out]; omega) (by simp only [maxLen]; omega) (Nat.le_refl _) ?_; intro w1 hr1 hg1; rw [madeSec] at hr1; have b1 : Below w.heap.size w w1 := (Below.refl _ w).grown hg1 (Nat.le_refl _) (fun k e => by cases e); have R1 := Lib.hid hr1; have B1 := Lib.hid b1; clear hr1 hg1 b1)
    go_ret
    refine ⟨⟨w1.heap.size + 1, w1.heap.size, some ⟨w.heap.size, 0, none⟩, 4096⟩, rfl, ?_, (B1.out.alloc B1.out.size _).alloc (by have := B1.out.size; simp; omega) _⟩
    rw [HN.out]
    have hb := DkAt.born (w1 := w1.alloc (.map #[] 0)) (by omega) (World.ownsRow.alloc R1.out _) (MapIs.made w1) (by have := B1.out.size; simp; omega) B1.out.size
    rw [heap_size_alloc] at hb
    exact hb
  · obtain rfl : n = (k : Int) := by have := HK.out; omega
    go_enter Tryz.func28, Tryz.ntmps28
    go_wp2_with (at_make; refine wpList_make_full _ rfl (.tmp 7) (.tmp 7) 94 rfl w.heap.size 102 i0 _ 256 Tryz.underlying94 hi.out hz0.out hz1.out .i64 .i64 k k k rfl rfl rfl rfl (by rw [hz2.out]; omega) (by simp only [maxLen]; omega) (Nat.le_refl _) ?_; intro w1 hr1 hg1; rw [madeSec] at hr1; have b1 : Below w.heap.size w w1 := (Below.refl _ w).grown hg1 (Nat.le_refl _) (fun k e => by cases e); have R1 := Lib.hid hr1; have B1 := Lib.hid b1; clear hr1 hg1 b1)
    go_ret
    refine ⟨⟨w1.heap.size + 1, w1.heap.size, some ⟨w.heap.size, 0, none⟩, k⟩, rfl, ?_, (B1.out.alloc B1.out.size _).alloc (by have := B1.out.size; simp; omega) _⟩
    rw [HN.out]
    have hb := DkAt.born (w1 := w1.alloc (.map #[] 0)) (by omega) (World.ownsRow.alloc R1.out _) (MapIs.made w1) (by have := B1.out.size; simp; omega) B1.out.size
    rw [heap_size_alloc] at hb
    exact hb
end Go.Proofs.YtegjeijiekggdaaGreatDoor
namespace Go.Proofs.YtegjeijiekggdaaGreatDoor
open Go.RowKit
set_option linter.unusedVariables false
/-- The first k of 256 bytes are x, the others 0. -/
def fillB (k : Nat) (x : UInt8) : List UInt8 := List.replicate k x ++ List.replicate (256 - k) 0
theorem fillB_len {k : Nat} (h : k ≤ 256) (x : UInt8) : (fillB k x).length = 256 := by
  unfold fillB
  rw [List.length_append, List.length_replicate, List.length_replicate]
  omega
theorem fillB_at {k : Nat} (h : k < 256) (x : UInt8) : (fillB k x)[k]? = some 0 := by
  unfold fillB
  rw [List.getElem?_append_right (by simp), List.length_replicate, Nat.sub_self, List.getElem?_replicate, if_pos (by omega)]
theorem fillB_set {k : Nat} (h : k < 256) (x : UInt8) : (fillB k x).set k x = fillB (k + 1) x := by
  unfold fillB
  rw [List.set_append_right _ _ (by simp), List.length_replicate, Nat.sub_self, show 256 - k = (256 - (k + 1)) + 1 by omega, List.replicate_succ, List.set_cons_zero, List.replicate_succ', List.append_assoc]
  rfl
theorem fillB_start (x : UInt8) : fillB 0 x = List.replicate 256 0 := by
  unfold fillB
  rw [List.replicate_zero, List.nil_append]
theorem fillB_end (x : UInt8) : fillB 256 x = List.replicate 256 x := by
  unfold fillB
  rw [Nat.sub_self, List.replicate_zero, List.append_nil]
/-- A sector of one byte. -/
def oneB (x : UInt8) : List UInt8 := List.replicate 256 x
theorem oneB_len (x : UInt8) : (oneB x).length = 256 := List.length_replicate ..
def FullRel (w : World) (g : Nat) (x : UInt8) (i : Value) (wr : World) : Prop :=
  ∃ k : Nat, k ≤ 256 ∧ i = .int .i64 (k : Int) ∧ OB w.heap.size wr (.slice (some ⟨g, 0, none⟩) 256 256) (fillB k x) ∧ Below w.heap.size w wr
set_option maxHeartbeats 1000000 in
set_option maxRecDepth 100000 in
theorem full_any (x : UInt8) (z : Int) (hz : z = (x.toNat : Int)) (w : World) : Calls Tryz.prog 99 #[.int .u8 z] w fun e w' => ∃ g, e = .returned (.slice (some ⟨g, 0, none⟩) 256 256) ∧ w.heap.size ≤ g ∧ OB w.heap.size w' (.slice (some ⟨g, 0, none⟩) 256 256) (oneB x) ∧ Below w.heap.size w w' := by
  have HZ := Lib.hid hz
  clear hz
  go_enter Tryz.func99, Tryz.ntmps99
  go_wp2_with (at_make; refine wpList_make_B rfl _ _ rfl w.heap.size 256 256 256 rfl rfl rfl rfl (by omega) (Nat.le_refl _) ?_; intro w1 hown1 hb1)
  have h1 : OB w.heap.size w1 (.slice (some ⟨w.heap.size, 0, none⟩) 256 256) (fillB 0 x) := by rw [fillB_start]; exact hown1
  have H1 := Lib.hid h1
  have B1 := Lib.hid hb1
  clear hown1 h1 hb1
  go_loopw [4] (fun i wr => FullRel w w.heap.size x i wr) (fun i _ => 256 - (RowKit.intOf i).toNat)
  case atStart => exact ⟨0, by omega, rfl, H1.out, B1.out⟩
  case round =>
    obtain ⟨k, hk, rfl, hown, hb⟩ := hrel
    by_cases hlt : k < 256
    · obtain ⟨g', hg', _, hgl, hcell, hfro, hset⟩ := hown.at_ (fillB_at hlt x)
      obtain rfl : w.heap.size = g' := by injection hg' with hg'; injection hg'
      have HS := Lib.hid (hset x z HZ.out)
      rw [fillB_set hlt] at HS
      have HB := Lib.hid hb
      have k0 : 0 ≤ (k : Int) := by omega
      have k1 : (k : Int) < 256 := by omega
      have k2 : decide ((k : Int) < 256) = true := by simp; omega
      clear hown hb hset hg'
      go_wp2
      go_roundw
      case rel => exact ⟨k + 1, by omega, by go_num, HS.out, HB.out.setCell (Nat.le_refl _) _⟩
      case measure => simp [RowKit.intOf]; omega
    · obtain rfl : k = 256 := by omega
      go_wp2
      go_ret
      refine ⟨w.heap.size, rfl, Nat.le_refl _, ?_, hb⟩
      rw [fillB_end] at hown
      exact hown
theorem below_of_drew {B : Nat} {w w' : World} (h : Below B w.drew w') : Below B w w' := ⟨h.os, h.tape, h.output, h.size, h.block⟩
theorem full_drew (x : UInt8) (w : World) : Calls Tryz.prog 99 #[.int .u8 (x.toNat : Int)] w.drew fun e w' => ∃ g, e = .returned (.slice (some ⟨g, 0, none⟩) 256 256) ∧ w.heap.size ≤ g ∧ OB w.heap.size w' (.slice (some ⟨g, 0, none⟩) 256 256) (oneB x) ∧ Below w.heap.size w w' := by
  refine (full_any x _ rfl w.drew).mono ?_
  rintro e w' ⟨g, he, hg, ho, hb⟩
  exact ⟨g, he, hg, ho, below_of_drew hb⟩
end Go.Proofs.YtegjeijiekggdaaGreatDoor
end
