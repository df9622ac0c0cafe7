/- New of both. -/
import Derived.Test.YtmmehomobmoapaaDoorQH
namespace Go.Proofs.YtmmehomobmoapaaDoor
open Go.RowKit
set_option linter.unusedVariables false
set_option linter.unusedSimpArgs false
def newOk (n : Int) : Bool := decide (0 ≤ n ∧ n ≤ 4096)
def newS (n : Int) : Int := if newOk n = true then n else 0
def newL (n : Int) : List UInt64 := if newOk n = true then List.replicate ((n.toNat + 63) / 64) 0 else []
def newE (n : Int) : Nat := if newOk n = true then 0 else 2
theorem heap_setCell_block {w : World} {b i : Nat} {cs : Array Value} {t : TypeId} (v : Value) (h : w.heap[b]? = some (.cells cs t (0, 0))) : (w.setCell ⟨b, i, none⟩ v).heap[b]? = some (.cells (cs.setIfInBounds i v) t (0, 0)) := by
  simp [World.setCell, Array.getElem?_modify, h]
theorem heap_setC {W : World} {b : Nat} {x0 x1 : Value} {t : TypeId} (h : W.heap[b]? = some (.cells #[x0, x1] t (0, 0))) (a0 a1 : Value) : ((W.setCell ⟨b, 0, none⟩ a0).setCell ⟨b, 1, none⟩ a1).heap[b]? = some (.cells #[a0, a1] t (0, 0)) := by
  have h1 := heap_setCell_block (i := 0) a0 h
  have h2 := heap_setCell_block (i := 1) a1 h1
  rw [h2]
  rfl
theorem belowC {b : Nat} {w W : World} (h : Below b w W) {g : Nat} (hg : b ≤ g) (a0 a1 : Value) : Below b w ((W.setCell ⟨g, 0, none⟩ a0).setCell ⟨g, 1, none⟩ a1) := (h.setCell (p := ⟨g, 0, none⟩) hg _).setCell (p := ⟨g, 1, none⟩) hg _
theorem OQ.setB {base : Nat} {w : World} {v : Value} {l : List UInt64} (h : OQ base w v l) {b : Nat} (hb : b < base) (a0 a1 : Value) : OQ base ((w.setCell ⟨b, 0, none⟩ a0).setCell ⟨b, 1, none⟩ a1) v l :=
  ownsRow_setCell_below (ownsRow_setCell_below h (a := ⟨b, 0, none⟩) hb a0) (a := ⟨b, 1, none⟩) hb a1
set_option maxHeartbeats 1000000 in
set_option maxRecDepth 100000 in
theorem new_any (n : Int) (w : World) : Calls Tryd.prog 18 #[.int .i64 n] w fun e w' => ∃ v, e = .returned (.tuple #[.agg #[.int .i64 (newS n), v], .int .i64 (newE n : Int)]) ∧ OQ w.heap.size w' v (newL n) ∧ Below w.heap.size w w' := by
  have KG := fun W => goodSize_any n W
  have hX0 := heap_alloc_last w (.cells #[.int .i64 0, .slice none 0 0] 27)
  have hz0 := heap_size_alloc w (.cells #[.int .i64 0, .slice none 0 0] 27)
  have B0 := Lib.hid ((Below.refl _ w).alloc (Nat.le_refl _) (.cells #[.int .i64 0, .slice none 0 0] 27))
  by_cases h : 0 ≤ n ∧ n ≤ 4096
  · rw [decide_eq_true h] at KG
    have KG := Lib.hid KG
    obtain ⟨k, rfl⟩ := Int.eq_ofNat_of_zero_le h.1
    have hk : k ≤ 4096 := by omega
    have h1 : newS (k : Int) = (k : Int) := if_pos (decide_eq_true h)
    have h2 : newL (k : Int) = List.replicate ((k + 63) / 64) 0 := if_pos (decide_eq_true h)
    have h3 : newE (k : Int) = 0 := if_pos (decide_eq_true h)
    rw [h1, h2, h3]
    have KW := fun W => wordsOf_any k hk W
    have hq64 : (k + 63) / 64 ≤ 64 := by omega
    generalize (k + 63) / 64 = q at *
    have KW := Lib.hid KW
    have HX := Lib.hid hX0
    have HZ := Lib.hid hz0
    clear h h1 h2 h3 hX0 hz0 hk
    go_enter Tryd.func18, Tryd.ntmps18
    go_wp2_with fail
    refine (KG.out _).mono ?_
    rintro e w1 ⟨rfl, rfl⟩
    go_wp2_with fail
    refine (KW.out _).mono ?_
    rintro e w1 ⟨rfl, rfl⟩
    generalize w.alloc (.cells #[.int .i64 0, .slice none 0 0] 27) = W0 at *
    go_wp2_with (at_make; refine wpList_make_Q rfl _ _ rfl (w.heap.size + 1) q _ _ rfl rfl rfl rfl (by omega) (by rw [HZ.out]; exact Nat.le_refl _) ?_; intro w1 ho1 hb1; have hx1 := (hb1.block w.heap.size (by omega)).trans HX.out; have u0 : w1.cell? ⟨w.heap.size, 0, none⟩ = some (.int .i64 0) := (cell_of_row w1 _ 0 _ _ _ hx1).trans rfl; have u1 : w1.cell? ⟨w.heap.size, 1, none⟩ = some (.slice none 0 0) := (cell_of_row w1 _ 1 _ _ _ hx1).trans rfl; have f0 : w1.frozen? ⟨w.heap.size, 0, none⟩ = false := (by simp [World.frozen?, hx1]); have f1 : w1.frozen? ⟨w.heap.size, 1, none⟩ = false := (by simp [World.frozen?, hx1]); have HO := Lib.hid ho1; have HB := Lib.hid (B0.out.trans (hb1.mono (by omega))); clear hx1 ho1 hb1)
    refine bodyPost_ret (v := .tuple #[.agg #[.int .i64 (k : Int), .slice (some ⟨W0.heap.size, 0, none⟩) q q], .int .i64 0]) (by simp [results, Tryd.results18, go_sem, u0, u1]) rfl ⟨_, rfl, (OQ.setB HO.out (by omega) _ _).lift (by omega), belowC HB.out (Nat.le_refl _) _ _⟩
  · rw [decide_eq_false h] at KG
    have KG := Lib.hid KG
    have h1 : newS n = 0 := if_neg (by unfold newOk; simp; omega)
    have h2 : newL n = [] := if_neg (by unfold newOk; simp; omega)
    have h3 : newE n = 2 := if_neg (by unfold newOk; simp; omega)
    rw [h1, h2, h3]
    have HX := Lib.hid hX0
    clear h h1 h2 h3 hX0 hz0
    go_enter Tryd.func18, Tryd.ntmps18
    go_wp2_with fail
    refine (KG.out _).mono ?_
    rintro e w1 ⟨rfl, rfl⟩
    generalize w.alloc (.cells #[.int .i64 0, .slice none 0 0] 27) = W0 at *
    have u0 : W0.cell? ⟨w.heap.size, 0, none⟩ = some (.int .i64 0) := (cell_of_row _ _ 0 _ _ _ HX.out).trans rfl
    have u1 : W0.cell? ⟨w.heap.size, 1, none⟩ = some (.slice none 0 0) := (cell_of_row _ _ 1 _ _ _ HX.out).trans rfl
    have f0 : W0.frozen? ⟨w.heap.size, 0, none⟩ = false := by simp [World.frozen?, HX.out]
    have f1 : W0.frozen? ⟨w.heap.size, 1, none⟩ = false := by simp [World.frozen?, HX.out]
    go_wp2
    refine bodyPost_ret (v := .tuple #[.agg #[.int .i64 0, .slice none 0 0], .int .i64 2]) (by simp [results, Tryd.results18, go_sem, u0, u1]) rfl ⟨_, rfl, OQ.nil, belowC B0.out (Nat.le_refl _) _ _⟩
set_option maxHeartbeats 1000000 in
set_option maxRecDepth 100000 in
theorem refNew_any (n : Int) (w : World) : Calls Tryd.prog 19 #[.int .i64 n] w fun e w' => ∃ v, e = .returned (.tuple #[.agg #[.int .i64 (newS n), v], .int .i64 (newE n : Int)]) ∧ OQ w.heap.size w' v (newL n) ∧ Below w.heap.size w w' := by
  have hX0 := heap_alloc_last w (.cells #[.int .i64 0, .slice none 0 0] 24)
  have hz0 := heap_size_alloc w (.cells #[.int .i64 0, .slice none 0 0] 24)
  have B0 := Lib.hid ((Below.refl _ w).alloc (Nat.le_refl _) (.cells #[.int .i64 0, .slice none 0 0] 24))
  by_cases h : 0 ≤ n ∧ n ≤ 4096
  · obtain ⟨k, rfl⟩ := Int.eq_ofNat_of_zero_le h.1
    have hk : k ≤ 4096 := by omega
    have e0 : decide ((k : Int) < 0) = false := by simp
    have e1 : decide ((4096 : Int) < (k : Int)) = false := by simp; omega
    have h1 : newS (k : Int) = (k : Int) := if_pos (decide_eq_true h)
    have h2 : newL (k : Int) = List.replicate ((k + 63) / 64) 0 := if_pos (decide_eq_true h)
    have h3 : newE (k : Int) = 0 := if_pos (decide_eq_true h)
    rw [h1, h2, h3]
    have KW := fun W => refWords_any k hk W
    have hq64 : (k + 63) / 64 ≤ 64 := by omega
    generalize (k + 63) / 64 = q at *
    have KW := Lib.hid KW
    have HX := Lib.hid hX0
    have HZ := Lib.hid hz0
    clear h h1 h2 h3 hX0 hz0 hk
    go_enter Tryd.func19, Tryd.ntmps19
    go_wp2_with fail
    refine (KW.out _).mono ?_
    rintro e w1 ⟨rfl, rfl⟩
    generalize w.alloc (.cells #[.int .i64 0, .slice none 0 0] 24) = W0 at *
    go_wp2_with (at_make; refine wpList_make_Q rfl _ _ rfl (w.heap.size + 1) q _ _ rfl rfl rfl rfl (by omega) (by rw [HZ.out]; exact Nat.le_refl _) ?_; intro w1 ho1 hb1; have hx1 := (hb1.block w.heap.size (by omega)).trans HX.out; have u0 : w1.cell? ⟨w.heap.size, 0, none⟩ = some (.int .i64 0) := (cell_of_row w1 _ 0 _ _ _ hx1).trans rfl; have u1 : w1.cell? ⟨w.heap.size, 1, none⟩ = some (.slice none 0 0) := (cell_of_row w1 _ 1 _ _ _ hx1).trans rfl; have f0 : w1.frozen? ⟨w.heap.size, 0, none⟩ = false := (by simp [World.frozen?, hx1]); have f1 : w1.frozen? ⟨w.heap.size, 1, none⟩ = false := (by simp [World.frozen?, hx1]); have HO := Lib.hid ho1; have HB := Lib.hid (B0.out.trans (hb1.mono (by omega))); clear hx1 ho1 hb1)
    refine bodyPost_ret (v := .tuple #[.agg #[.int .i64 (k : Int), .slice (some ⟨W0.heap.size, 0, none⟩) q q], .int .i64 0]) (by simp [results, Tryd.results19, go_sem, u0, u1]) rfl ⟨_, rfl, (OQ.setB HO.out (by omega) _ _).lift (by omega), belowC HB.out (Nat.le_refl _) _ _⟩
  · have h1 : newS n = 0 := if_neg (by unfold newOk; simp; omega)
    have h2 : newL n = [] := if_neg (by unfold newOk; simp; omega)
    have h3 : newE n = 2 := if_neg (by unfold newOk; simp; omega)
    rw [h1, h2, h3]
    have HX := Lib.hid hX0
    have u0 := (cell_of_row _ _ 0 _ _ _ hX0).trans rfl
    have u1 := (cell_of_row _ _ 1 _ _ _ hX0).trans rfl
    obtain ⟨W0, hW0⟩ : ∃ W0, W0 = w.alloc (.cells #[.int .i64 0, .slice none 0 0] 24) := ⟨_, rfl⟩
    rw [← hW0] at HX B0
    have f0 : (w.alloc (.cells #[.int .i64 0, .slice none 0 0] 24)).frozen? ⟨w.heap.size, 0, none⟩ = false := by rw [← hW0]; simp [World.frozen?, HX.out]
    have f1 : (w.alloc (.cells #[.int .i64 0, .slice none 0 0] 24)).frozen? ⟨w.heap.size, 1, none⟩ = false := by rw [← hW0]; simp [World.frozen?, HX.out]
    rw [hW0] at B0
    clear h1 h2 h3 hX0 hz0 HX hW0
    by_cases h0 : n < 0
    · clear h
      go_enter Tryd.func19, Tryd.ntmps19
      go_wp2
      refine bodyPost_ret (v := .tuple #[.agg #[.int .i64 0, .slice none 0 0], .int .i64 2]) (by simp [results, Tryd.results19, go_sem, u0, u1]) rfl ⟨_, rfl, OQ.nil, B0.out⟩
    · have e0 : decide (n < 0) = false := by simp; omega
      have e1 : decide (4096 < n) = true := by simp; omega
      clear h h0
      go_enter Tryd.func19, Tryd.ntmps19
      go_wp2
      refine bodyPost_ret (v := .tuple #[.agg #[.int .i64 0, .slice none 0 0], .int .i64 2]) (by simp [results, Tryd.results19, go_sem, u0, u1]) rfl ⟨_, rfl, OQ.nil, B0.out⟩
end Go.Proofs.YtmmehomobmoapaaDoor
