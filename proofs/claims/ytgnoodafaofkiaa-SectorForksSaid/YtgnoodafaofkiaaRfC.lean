/- The document's disk: a sector changed. -/
import Derived.Test.YtgnoodafaofkiaaRfB
import Derived.Shelf.SlicesE.Clone
import Derived.Deep.Cut
import Derived.Deep.CutRange
namespace Go.Proofs.Ytgnoodafaofkiaa
open Go.RowKit
set_option linter.unusedVariables false
theorem Try.infoSx : (Try.prog.info? 82).map (fun i => (i.zero, i.size, i.bytes)) = some (some (.agg #[.string ⟨#[]⟩, .string ⟨#[]⟩, .bool false]), 3, 40) := by kernel_rfl
theorem infoSx3 : (Try.prog.info? 82).map (·.size) = some 3 := by kernel_rfl
/-- Three boxes made one behind the other, and what grows behind them. -/
theorem three_boxes (w w1 : World) (a b c : Array Value) (ta tb tc : TypeId) (h : (((w.alloc (.cells a ta)).alloc (.cells b tb)).alloc (.cells c tc)).grownBy w1 none) :
    w1.heap[w.heap.size]? = some (.cells a ta (0, 0)) ∧ w1.heap[w.heap.size + 1]? = some (.cells b tb (0, 0)) ∧ w1.heap[w.heap.size + 1 + 1]? = some (.cells c tc (0, 0)) ∧ Below w.heap.size w w1 ∧ w.heap.size + 3 ≤ w1.heap.size := by
  have e1 : (w.alloc (.cells a ta)).heap.size = w.heap.size + 1 := heap_size_alloc _ _
  have e2 : ((w.alloc (.cells a ta)).alloc (.cells b tb)).heap.size = w.heap.size + 1 + 1 := by rw [heap_size_alloc, e1]
  have e3 : (((w.alloc (.cells a ta)).alloc (.cells b tb)).alloc (.cells c tc)).heap.size = w.heap.size + 1 + 1 + 1 := by rw [heap_size_alloc, e2]
  have h1 := heap_alloc_last w (.cells a ta)
  have h2 := heap_alloc_last (w.alloc (.cells a ta)) (.cells b tb)
  have h3 := heap_alloc_last ((w.alloc (.cells a ta)).alloc (.cells b tb)) (.cells c tc)
  rw [e1] at h2
  rw [e2] at h3
  refine ⟨?_, ?_, ?_, ?_, ?_⟩
  · rw [h.block _ (by omega) (by simp), Below.heap_alloc _ _ _ (by omega), Below.heap_alloc _ _ _ (by omega), h1]
  · rw [h.block _ (by omega) (by simp), Below.heap_alloc _ _ _ (by omega), h2]
  · rw [h.block _ (by omega) (by simp), h3]
  · exact ((((Below.refl _ w).alloc (Nat.le_refl _) _).alloc (by omega) _).alloc (by omega) _).grown h (by omega) (fun k e => by cases e)
  · have := h.size; omega
theorem oneCells_S (S : List Sx) : ∀ v ∈ rowS S, v.oneCell' = true := by
  intro v hv
  obtain ⟨x, _, hx⟩ := List.mem_flatMap.1 hv
  simp [sxCells] at hx
  rcases hx with rfl | rfl | rfl <;> rfl
theorem oneCells_x (x : Sx) : ∀ v ∈ sxCells x, v.oneCell' = true := by
  intro v hx
  simp [sxCells] at hx
  rcases hx with rfl | rfl | rfl <;> rfl
theorem rowS_set : ∀ (S : List Sx) (k : Nat) (x : Sx), k < S.length → rowS (S.set k x) = (rowS S).take (k * 3) ++ sxCells x ++ (rowS S).drop (k * 3 + 3)
  | [], k, x, h => by simp at h
  | y :: S, 0, x, _ => by
    show sxCells x ++ rowS S = ([] ++ sxCells x) ++ (sxCells y ++ rowS S).drop 3
    have : (sxCells y ++ rowS S).drop 3 = rowS S := rfl
    rw [this]
    rfl
  | y :: S, k + 1, x, h => by
    have ih := rowS_set S k x (by simpa using h)
    show sxCells y ++ rowS (S.set k x) = (sxCells y ++ rowS S).take ((k + 1) * 3) ++ sxCells x ++ (sxCells y ++ rowS S).drop ((k + 1) * 3 + 3)
    have h3 : (sxCells y).length = 3 := rfl
    have e1 : (sxCells y ++ rowS S).take ((k + 1) * 3) = sxCells y ++ (rowS S).take (k * 3) := by
      rw [show (k + 1) * 3 = (sxCells y).length + k * 3 by omega, List.take_length_add_append]
    have e2 : (sxCells y ++ rowS S).drop ((k + 1) * 3 + 3) = (rowS S).drop (k * 3 + 3) := by
      rw [show (k + 1) * 3 + 3 = (sxCells y).length + (k * 3 + 3) by omega, ← List.drop_drop, List.drop_left]
    rw [ih, e1, e2]
    simp only [List.append_assoc]
theorem ownS_set {base : Nat} {w : World} {g n c : Nat} {S : List Sx} (h : w.ownsRow base 82 3 (.slice (some ⟨g, 0, none⟩) n c) n (rowS S)) {k : Nat} (hn : S.length = n) (hk : k < S.length) (x : Sx) :
    w.there g (k * 3) 3 ∧ (w.setCells g (k * 3) (sxCells x)).ownsRow base 82 3 (.slice (some ⟨g, 0, none⟩) n c) n (rowS (S.set k x)) ∧ w.grownBy (w.setCells g (k * 3) (sxCells x)) (some g) ∧ base ≤ g := by
  rcases h.2 with ⟨e, _⟩ | ⟨g', cap, cur, e, hb, hg, hc, hm, hsz, ht⟩
  · cases e
  injection e with e1 e2 e3
  injection e1 with e1
  injection e1 with e1
  subst e1 e3
  have hxs : k * 3 + 3 ≤ n * 3 := by omega
  have hcs : n * 3 ≤ cur.size := by rw [hsz]; exact Nat.mul_le_mul_right _ hc
  have h3 : (sxCells x).length = 3 := rfl
  obtain ⟨r1, r2⟩ := setCells_row (o := k * 3) (vs := sxCells x) hg (by omega) (oneCells_x x)
  refine ⟨there_of_heap hg (by omega), ⟨?_, .inr ⟨g, c, _, rfl, hb, r1, hc, hm, ?_, ?_⟩⟩, r2, hb⟩
  · rw [rowS_length, List.length_set, hn]
  · simp only [List.size_toArray, List.length_append, List.length_take, List.length_drop, Array.length_toList, h3]
    omega
  · rw [rowS_set S k x hk, h3]
    exact take_spliced (n * 3) (k * 3) 3 cur.toList _ _ ht hxs (by simpa using hcs) h3
set_option maxHeartbeats 2000000 in
set_option maxRecDepth 100000 in
theorem refWith_any (A : Option Addr) (c : Nat) (r : Rk) (k : Nat) (x : Sx) (w : World) (hk : k < r.S.length) (hs : r.S.length ≤ 4096) (hr : RS w A r.S) :
    Calls Try.prog 65 #[rkV A c r, .int .i64 (k : Int), .agg (sxCells x).toArray] w fun e w' => ∃ A' c', e = .returned (rkV A' c' { r with S := r.S.set k x }) ∧ RS w' A' (r.S.set k x) ∧ (∀ ad, A' = some ad → w.heap.size ≤ ad.block) ∧ Below w.heap.size w w' := by
  obtain ⟨S, off, calls, after, done⟩ := r
  have hs : S.length ≤ 4096 := hs
  have hr : RS w A S := hr
  have hk : k < S.length := hk
  obtain ⟨i0, hi, hz0, hz1, hz2⟩ := info_parts Try.infoSx
  have hi := Lib.hid hi; have hz0 := Lib.hid hz0; have hz1 := Lib.hid hz1; have hz2 := Lib.hid hz2
  rcases hr with e | ⟨g, rfl, hc⟩
  · rw [e] at hk; simp at hk
  have HC := Lib.hid hc
  have hgl : g < w.heap.size := lt_of_cell (hc 0 _ (List.getElem?_eq_getElem (by rw [rowS_length]; omega)))
  clear hc
  have k0 : 0 ≤ (k : Int) := by omega
  have k1 : (k : Int) < (S.length : Int) := by omega
  show Calls Try.prog 65 #[.agg #[.slice (some ⟨g, 0, none⟩) S.length c, .bool off, .int .i64 calls, .int .i64 after, .bool done], .int .i64 (k : Int), .agg #[.string (str x.has), .string (str x.safe), .bool x.w]] w _
  have HN := Lib.hid (show S.length = S.length from rfl)
  generalize hN : S.length = N at *
  have hNN := Lib.hid hN
  clear hN HN
  go_enter Try.func65, Try.ntmps65
  go_wp2_with (at_builtin; refine wpList_append_own _ rfl (.tmp 8) (.tmp 10) 26 rfl (w.heap.size + 3) 82 i0 _ 3 40 Try.underlying26 hi.out hz0.out hz1.out hz2.out rfl (by omega) _ _ _ rfl (World.ownsRow_nil _ _ _ _) ⟨g, 0, none⟩ N c (rowS S) rfl ?qc1 ?qc2 ?qc3 ?qc4 ?qc5 ?qc6 ?_)
  case qc1 => rw [rowS_length, hNN.out]
  case qc2 =>
    intro j u hj
    have h1 := HC.out j u hj
    have h2 := lt_of_cell h1
    rw [World.cell?_alloc_lt _ _ _ (by simp at h2 ⊢; omega), World.cell?_alloc_lt _ _ _ (by simp at h2 ⊢; omega), World.cell?_alloc_lt _ _ _ h2]
    exact h1
  case qc3 => exact oneCells_S S
  case qc4 => simp only [maxLen]; omega
  case qc5 => omega
  intro v' w1 hown hgrow hnil
  obtain ⟨p1, p2, p3, bw1, sz1⟩ := three_boxes w w1 _ _ _ _ _ _ hgrow
  rcases hown.2 with ⟨_, h0⟩ | ⟨g', cap', cur', rfl, hb', hh', _⟩
  · omega
  have hg1 : w.heap.size + 1 + 1 < g' := by omega
  have q0 : w1.cell? ⟨w.heap.size, 0, none⟩ = some (.slice (some ⟨g, 0, none⟩) N c) := (cell_of_row w1 _ 0 _ _ _ p1).trans rfl
  have q1 : w1.cell? ⟨w.heap.size, 1, none⟩ = some (.bool off) := (cell_of_row w1 _ 1 _ _ _ p1).trans rfl
  have q2 : w1.cell? ⟨w.heap.size, 2, none⟩ = some (.int .i64 calls) := (cell_of_row w1 _ 2 _ _ _ p1).trans rfl
  have q3 : w1.cell? ⟨w.heap.size, 3, none⟩ = some (.int .i64 after) := (cell_of_row w1 _ 3 _ _ _ p1).trans rfl
  have q4 : w1.cell? ⟨w.heap.size, 4, none⟩ = some (.bool done) := (cell_of_row w1 _ 4 _ _ _ p1).trans rfl
  have qf : w1.frozen? ⟨w.heap.size, 0, none⟩ = false := by simp [World.frozen?, p1]
  have x0 : w1.cell? ⟨w.heap.size + 1, 0, none⟩ = some (.string (str x.has)) := (cell_of_row w1 _ 0 _ _ _ p2).trans rfl
  have x1 : w1.cell? ⟨w.heap.size + 1, 1, none⟩ = some (.string (str x.safe)) := (cell_of_row w1 _ 1 _ _ _ p2).trans rfl
  have x2 : w1.cell? ⟨w.heap.size + 1, 2, none⟩ = some (.bool x.w) := (cell_of_row w1 _ 2 _ _ _ p2).trans rfl
  have OWN := Lib.hid hown
  have P3 := Lib.hid p3
  have P1 := Lib.hid p1
  have BW := Lib.hid bw1
  have hsz : Hid ((S.length : Nat) = N) := hNN
  have nb1 : w.heap.size ≠ g' := by omega
  have nb2 : w.heap.size + 1 ≠ g' := by omega
  have nb3 : w.heap.size + 1 + 1 ≠ g' := by omega
  have nb4 : g' ≠ w.heap.size := by omega
  have nb5 : w.heap.size ≠ w.heap.size + 1 := by omega
  obtain ⟨u1, u2, u3⟩ := rowS_at S k (S[k]'(by rw [hNN.out]; exact hk)) (List.getElem?_eq_getElem (by rw [hNN.out]; exact hk))
  have own1 : w1.ownsRow (w.heap.size + 3) 82 3 (.slice (some ⟨g', 0, none⟩) N cap') N (rowS S) := by simpa using OWN.out
  have ca : ∀ j u, (rowS S)[j]? = some u → w1.cell? ⟨g', j, none⟩ = some u := fun j u hj => by
    have := World.ownsRow.cells own1 (g := g') rfl j u hj
    have e : (⟨g', 0, none⟩ : Addr).add j = ⟨g', j, none⟩ := by cases j <;> simp [Addr.add]
    rwa [e] at this
  have cg0 := ca _ _ u1
  have cg1 := ca _ _ u2
  have cg2 := ca _ _ u3
  have fg : ∀ j, w1.frozen? ⟨g', j, none⟩ = false := fun j => by simp [World.frozen?, hh']
  have fg0 := fg (k * 3)
  have fg1 := fg (k * 3 + 1)
  have fg2 := fg (k * 3 + 2)
  have r0 : w1.cell? ⟨w.heap.size + 1 + 1, 0, none⟩ = some (.slice none 0 0) := (cell_of_row w1 _ 0 _ _ _ p3).trans rfl
  have r1 : w1.cell? ⟨w.heap.size + 1 + 1, 1, none⟩ = some (.bool false) := (cell_of_row w1 _ 1 _ _ _ p3).trans rfl
  have r2 : w1.cell? ⟨w.heap.size + 1 + 1, 2, none⟩ = some (.int .i64 0) := (cell_of_row w1 _ 2 _ _ _ p3).trans rfl
  have r3 : w1.cell? ⟨w.heap.size + 1 + 1, 3, none⟩ = some (.int .i64 0) := (cell_of_row w1 _ 3 _ _ _ p3).trans rfl
  have r4 : w1.cell? ⟨w.heap.size + 1 + 1, 4, none⟩ = some (.bool false) := (cell_of_row w1 _ 4 _ _ _ p3).trans rfl
  have rf : ∀ j, w1.frozen? ⟨w.heap.size + 1 + 1, j, none⟩ = false := fun j => by simp [World.frozen?, p3]
  have rf0 := rf 0; have rf1 := rf 1; have rf2 := rf 2; have rf3 := rf 3; have rf4 := rf 4
  have own2 := ownsRow_setCell_below own1 (a := ⟨w.heap.size, 0, none⟩) (by show w.heap.size < w.heap.size + 3; omega) (.slice (some ⟨g', 0, none⟩) N cap')
  obtain ⟨_, own3, gr3, _⟩ := ownS_set (S := S) (k := k) own2 hNN.out (by rw [hNN.out]; exact hk) x
  have BL3 := Lib.hid ((bw1.setCell (p := ⟨w.heap.size, 0, none⟩) (Nat.le_refl _) (.slice (some ⟨g', 0, none⟩) N cap')).grown gr3 (by have := sz1; simp [World.setCell]; omega) (fun i e => by injection e with e; omega))
  have OWN3 := Lib.hid own3
  clear own1 own2 own3 gr3 ca fg rf sz1 u1 u2 u3 hown hgrow hnil p1 p2 p3 bw1 hh' OWN P3 P1 BW
  go_wp2
  refine bodyPost_ret (v := .agg #[.slice (some ⟨g', 0, none⟩) N cap', .bool off, .int .i64 calls, .int .i64 after, .bool done]) (by simp [results, Try.results65, go_sem, r0, r1, r2, r3, r4]) rfl ⟨some ⟨g', 0, none⟩, cap', ?_, ?_, ?_, ?_⟩
  · show _ = Ending.returned (.agg #[.slice (some ⟨g', 0, none⟩) (S.set k x).length cap', .bool off, .int .i64 calls, .int .i64 after, .bool done])
    rw [List.length_set, hNN.out]
  · have o4 := ownsRow_setCell_below (ownsRow_setCell_below (ownsRow_setCell_below (ownsRow_setCell_below (ownsRow_setCell_below OWN3.out (a := ⟨w.heap.size + 1 + 1, 0, none⟩) (by show w.heap.size + 1 + 1 < _; omega) (.slice (some ⟨g', 0, none⟩) N cap')) (a := ⟨w.heap.size + 1 + 1, 1, none⟩) (by show w.heap.size + 1 + 1 < _; omega) (.bool off)) (a := ⟨w.heap.size + 1 + 1, 2, none⟩) (by show w.heap.size + 1 + 1 < _; omega) (.int .i64 calls)) (a := ⟨w.heap.size + 1 + 1, 3, none⟩) (by show w.heap.size + 1 + 1 < _; omega) (.int .i64 after)) (a := ⟨w.heap.size + 1 + 1, 4, none⟩) (by show w.heap.size + 1 + 1 < _; omega) (.bool done)
    have hN' : N = (S.set k x).length := by rw [List.length_set, hNN.out]
    rw [hN'] at o4
    have := (RS.ofOwn (S := S.set k x) o4).1
    rw [← hN'] at this
    exact this
  · intro ad e
    injection e with e
    subst e
    show w.heap.size ≤ g'
    omega
  · exact ((((BL3.out.setCell (p := ⟨w.heap.size + 1 + 1, 0, none⟩) (by show w.heap.size ≤ w.heap.size + 1 + 1; omega) _).setCell (p := ⟨w.heap.size + 1 + 1, 1, none⟩) (by show w.heap.size ≤ w.heap.size + 1 + 1; omega) _).setCell (p := ⟨w.heap.size + 1 + 1, 2, none⟩) (by show w.heap.size ≤ w.heap.size + 1 + 1; omega) _).setCell (p := ⟨w.heap.size + 1 + 1, 3, none⟩) (by show w.heap.size ≤ w.heap.size + 1 + 1; omega) _).setCell (p := ⟨w.heap.size + 1 + 1, 4, none⟩) (by show w.heap.size ≤ w.heap.size + 1 + 1; omega) _
end Go.Proofs.Ytgnoodafaofkiaa
