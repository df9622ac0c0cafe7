/- A sector of one byte. -/
import Derived.Test.YtgnoodafaofkiaaScJ
namespace Go.Proofs.Ytgnoodafaofkiaa
open Go.RowKit
set_option linter.unusedVariables false
/-- The first k of 256 bytes are x, the others 0. -/
def fillB (k : Nat) (x : UInt8) : List UInt8 := List.replicate k x ++ List.replicate (256 - k) 0
theorem fillB_len {k : Nat} (h : k ≤ 256) (x : UInt8) : (fillB k x).length = 256 := by
  unfold fillB
  rw [List.length_append, List.length_replicate, List.length_replicate]
  omega
theorem fillB_at {k : Nat} (h : k < 256) (x : UInt8) : (fillB k x)[k]? = some 0 := by
  unfold fillB
  rw [List.getElem?_append_right (by simp), List.length_replicate, Nat.sub_self, List.getElem?_replicate, if_pos (by omega)]
theorem fillB_set {k : Nat} (h : k < 256) (x : UInt8) : (fillB k x).set k x = fillB (k + 1) x := by
  unfold fillB
  rw [List.set_append_right _ _ (by simp), List.length_replicate, Nat.sub_self, show 256 - k = (256 - (k + 1)) + 1 by omega, List.replicate_succ, List.set_cons_zero, List.replicate_succ', List.append_assoc]
  rfl
theorem fillB_start (x : UInt8) : fillB 0 x = List.replicate 256 0 := by
  unfold fillB
  rw [List.replicate_zero, List.nil_append]
theorem fillB_end (x : UInt8) : fillB 256 x = List.replicate 256 x := by
  unfold fillB
  rw [Nat.sub_self, List.replicate_zero, List.append_nil]
/-- A sector of one byte. -/
def oneB (x : UInt8) : List UInt8 := List.replicate 256 x
theorem oneB_len (x : UInt8) : (oneB x).length = 256 := List.length_replicate ..
def FullRel (w : World) (g : Nat) (x : UInt8) (i : Value) (wr : World) : Prop :=
  ∃ k : Nat, k ≤ 256 ∧ i = .int .i64 (k : Int) ∧ OB w.heap.size wr (.slice (some ⟨g, 0, none⟩) 256 256) (fillB k x) ∧ Below w.heap.size w wr
set_option maxHeartbeats 1000000 in
set_option maxRecDepth 100000 in
theorem full_any (x : UInt8) (z : Int) (hz : z = (x.toNat : Int)) (w : World) : Calls Try.prog 36 #[.int .u8 z] w fun e w' => ∃ g, e = .returned (.slice (some ⟨g, 0, none⟩) 256 256) ∧ w.heap.size ≤ g ∧ OB w.heap.size w' (.slice (some ⟨g, 0, none⟩) 256 256) (oneB x) ∧ Below w.heap.size w w' := by
  have HZ := Lib.hid hz
  clear hz
  go_enter Try.func36, Try.ntmps36
  go_wp2_with (at_make; refine wpList_make_B rfl _ _ rfl w.heap.size 256 256 256 rfl rfl rfl rfl (by omega) (Nat.le_refl _) ?_; intro w1 hown1 hb1)
  have h1 : OB w.heap.size w1 (.slice (some ⟨w.heap.size, 0, none⟩) 256 256) (fillB 0 x) := by rw [fillB_start]; exact hown1
  have H1 := Lib.hid h1
  have B1 := Lib.hid hb1
  clear hown1 h1 hb1
  go_loopw [4] (fun i wr => FullRel w w.heap.size x i wr) (fun i _ => 256 - (RowKit.intOf i).toNat)
  case atStart => exact ⟨0, by omega, rfl, H1.out, B1.out⟩
  case round =>
    obtain ⟨k, hk, rfl, hown, hb⟩ := hrel
    by_cases hlt : k < 256
    · obtain ⟨g', hg', _, hgl, hcell, hfro, hset⟩ := hown.at_ (fillB_at hlt x)
      obtain rfl : w.heap.size = g' := by injection hg' with hg'; injection hg'
      have HS := Lib.hid (hset x z HZ.out)
      rw [fillB_set hlt] at HS
      have HB := Lib.hid hb
      have k0 : 0 ≤ (k : Int) := by omega
      have k1 : (k : Int) < 256 := by omega
      have k2 : decide ((k : Int) < 256) = true := by simp; omega
      clear hown hb hset hg'
      go_wp2
      go_roundw
      case rel => exact ⟨k + 1, by omega, by go_num, HS.out, HB.out.setCell (Nat.le_refl _) _⟩
      case measure => simp [RowKit.intOf]; omega
    · obtain rfl : k = 256 := by omega
      go_wp2
      go_ret
      refine ⟨w.heap.size, rfl, Nat.le_refl _, ?_, hb⟩
      rw [fillB_end] at hown
      exact hown
theorem below_of_drew {B : Nat} {w w' : World} (h : Below B w.drew w') : Below B w w' := ⟨h.os, h.tape, h.output, h.size, h.block⟩
theorem full_drew (x : UInt8) (w : World) : Calls Try.prog 36 #[.int .u8 (x.toNat : Int)] w.drew fun e w' => ∃ g, e = .returned (.slice (some ⟨g, 0, none⟩) 256 256) ∧ w.heap.size ≤ g ∧ OB w.heap.size w' (.slice (some ⟨g, 0, none⟩) 256 256) (oneB x) ∧ Below w.heap.size w w' := by
  refine (full_any x _ rfl w.drew).mono ?_
  rintro e w' ⟨g, he, hg, ho, hb⟩
  exact ⟨g, he, hg, ho, below_of_drew hb⟩
end Go.Proofs.Ytgnoodafaofkiaa
