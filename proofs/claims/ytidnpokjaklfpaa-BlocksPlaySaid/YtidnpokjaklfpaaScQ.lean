/- The package sector: Fork. -/
import Derived.Test.YtidnpokjaklfpaaScP
namespace Go.Proofs.Ytidnpokjaklfpaa
open Go.RowKit Go.Shelf
set_option linter.unusedVariables false
theorem cloneRow_any {base : Nat} {F : Ft} {w : World} {s : Dk} (h : DkAt base F w s) : Calls Try.prog 43 #[.slice F.A s.rows.length F.cap] w fun e w' => ∃ A' c', e = .returned (.slice A' s.rows.length c') ∧ w'.ownsRow w.heap.size 91 256 (.slice A' s.rows.length c') s.rows.length (cellsB s.rows.flatten) ∧ Below w.heap.size w w' := by
  have hfl := flatten_length s.rows h.ok.each
  have hmany := h.ok.many
  rcases h.rowat with ⟨hA, hr⟩ | ⟨g, cur, hA, hb, hg, hlt, hc, hsz, ht⟩
  · rw [hA, hr]
    refine (AnyE.slices_Clone_nil Try.cloneA 0 F.cap w).mono ?_
    rintro e w' ⟨rfl, rfl⟩
    exact ⟨none, 0, rfl, World.ownsRow_nil _ _ _ _, Below.refl _ _⟩
  · obtain ⟨i0, hi, hz0, hz1, hz2⟩ := info_parts Try.infoSec3
    rw [hA]
    have hN : s.rows.length * 256 ≤ cur.size := by rw [hsz]; exact Nat.mul_le_mul_right _ hc
    have cC := AnyE.slices_Clone Try.cloneA i0 _ 256 256 hi hz0 hz1 hz2 (by show Try.zeroCells91.size = 256; rw [← Array.length_toList]; exact zeroSec_len) (by omega) Try.sizeOf91 g 0 s.rows.length F.cap (cellsB s.rows.flatten) w (by rw [length_cellsB, hfl]) (by simp only [maxLen]; omega) (by omega) (fun j u hu => by
        rw [Nat.zero_add, cell_of_row w g j _ _ _ hg, ← hu, ← ht, List.getElem?_take, if_pos, Array.getElem?_toList]
        have := (List.getElem?_eq_some_iff.1 hu).1
        rw [length_cellsB, hfl] at this
        exact this) (oneCells_B _)
    refine Calls.mono cC ?_
    rintro e w' ⟨v', rfl, hown, hv, hB⟩
    rcases hown.2 with ⟨rfl, h0⟩ | ⟨g', cap', cur', rfl, r⟩
    · exact absurd rfl hv
    · exact ⟨some ⟨g', 0, none⟩, cap', rfl, hown, hB⟩
theorem cloneMap_any {w : World} {m : Nat} {f : Nat → Option (List UInt8)} (h : MapIs w m f) : Calls Try.prog 44 #[.map (some m)] w fun e w' => e = .returned (.map (some w.heap.size)) ∧ MapIs w' w.heap.size f ∧ w'.heap.size = w.heap.size + 1 ∧ Below w.heap.size w w' := by
  obtain ⟨n, D, ⟨es, clock, hb, Ft, hs, hD⟩, rest⟩ := h
  refine Calls.mono (AnyW.maps_Clone Try.mcloneA m es clock w hb) ?_
  rintro e w' ⟨he, rfl⟩
  exact ⟨he, ⟨n, D, ⟨es, clock, heap_alloc_last w _, Ft, hs, hD⟩, rest⟩, heap_size_alloc _ _, (Below.refl _ w).alloc (Nat.le_refl _) _⟩
set_option maxHeartbeats 1000000 in
set_option maxRecDepth 100000 in
theorem fork_any {base : Nat} {F : Ft} {w : World} {s : Dk} (h : DkAt base F w s) : Calls Try.prog 14 #[.pointer (some ⟨F.b, 0, none⟩)] w fun e w' => ∃ F', e = .returned (.pointer (some ⟨F'.b, 0, none⟩)) ∧ DkAt w.heap.size F' w' s ∧ Below w.heap.size w w' := by
  have c0 := h.c0; have c1 := h.c1; have c2 := h.c2; have c3 := h.c3; have c4 := h.c4; have c5 := h.c5; have c6 := h.c6
  have hbl := h.blt
  have H := Lib.hid h
  clear h
  go_enter Try.func14, Try.ntmps14
  go_wp2_with fail
  have h1 := H.out.alloc (.cells #[.slice F.A s.rows.length F.cap, .map (some F.m), .int .i64 (s.calls : Int), .bool s.off, .bool s.fset, .int .i64 (s.left : Int), .bool s.done] 80)
  have k1 := heap_alloc_last w (.cells #[.slice F.A s.rows.length F.cap, .map (some F.m), .int .i64 (s.calls : Int), .bool s.off, .bool s.fset, .int .i64 (s.left : Int), .bool s.done] 80)
  have z1 := heap_size_alloc w (.cells #[.slice F.A s.rows.length F.cap, .map (some F.m), .int .i64 (s.calls : Int), .bool s.off, .bool s.fset, .int .i64 (s.left : Int), .bool s.done] 80)
  have b1 : Below w.heap.size w (w.alloc (.cells #[.slice F.A s.rows.length F.cap, .map (some F.m), .int .i64 (s.calls : Int), .bool s.off, .bool s.fset, .int .i64 (s.left : Int), .bool s.done] 80)) := (Below.refl _ w).alloc (Nat.le_refl _) _
  generalize w.alloc (.cells #[.slice F.A s.rows.length F.cap, .map (some F.m), .int .i64 (s.calls : Int), .bool s.off, .bool s.fset, .int .i64 (s.left : Int), .bool s.done] 80) = w1 at *
  refine (cloneRow_any h1).mono ?_
  rintro e w2 ⟨A', c', rfl, hr2, hb2⟩
  have h2 := h1.below hb2
  have k2 : w2.heap[w.heap.size]? = some (.cells #[.slice F.A s.rows.length F.cap, .map (some F.m), .int .i64 (s.calls : Int), .bool s.off, .bool s.fset, .int .i64 (s.left : Int), .bool s.done] 80 (0, 0)) := (hb2.block _ (by omega)).trans k1
  have q0 : w2.cell? ⟨w.heap.size, 0, none⟩ = some (.slice F.A s.rows.length F.cap) := by rw [cell_of_row w2 _ 0 _ _ _ k2]; rfl
  have q0f : w2.frozen? ⟨w.heap.size, 0, none⟩ = false := by simp [World.frozen?, k2]
  have d1 := h2.c1
  have hne : F.b ≠ w.heap.size := by omega
  have hne' : w.heap.size ≠ F.b := by omega
  have B2 := Lib.hid (b1.trans (hb2.mono (by omega)))
  have H2 := Lib.hid h2
  have K2 := Lib.hid k2
  have R2 := Lib.hid hr2
  have Z1 := Lib.hid z1
  have hz2 := Lib.hid hb2.size
  have hmi := Lib.hid (H.out.inside F.m (.inr (.inl rfl)))
  clear h1 k1 z1 b1 hb2 h2 k2 hr2 c0 c1 c2 c3 c4 c5 c6
  go_wp2_with fail
  have k3 := Lib.hid (heap_setCell_block (i := 0) (.slice A' s.rows.length c') K2.out)
  have m3 := Lib.hid (H2.out.map.kept (w' := w2.setCell ⟨w.heap.size, 0, none⟩ (.slice A' s.rows.length c')) (Below.heap_setCell _ _ _ _ (by have := hmi.out; show F.m ≠ w.heap.size; omega)))
  have r3 := Lib.hid (show (w2.setCell ⟨w.heap.size, 0, none⟩ (.slice A' s.rows.length c')).ownsRow w1.heap.size 91 256 (.slice A' s.rows.length c') s.rows.length (cellsB s.rows.flatten) from ownsRow_setCell_below R2.out (by show w.heap.size < _; have := Z1.out; omega) _)
  have b3 := Lib.hid (B2.out.setCell (p := ⟨w.heap.size, 0, none⟩) (Nat.le_refl _) (.slice A' s.rows.length c'))
  have z3 : (w2.setCell ⟨w.heap.size, 0, none⟩ (.slice A' s.rows.length c')).heap.size = w2.heap.size := by simp [World.setCell]
  generalize w2.setCell ⟨w.heap.size, 0, none⟩ (.slice A' s.rows.length c') = w3 at *
  refine (cloneMap_any m3.out).mono ?_
  rintro e w4 ⟨rfl, hm4, hs4, hb4⟩
  have hw : w.heap.size < w3.heap.size := by have := hz2.out; have := Z1.out; omega
  have k4 := (hb4.block _ hw).trans k3.out
  have q1 : w4.cell? ⟨w.heap.size, 1, none⟩ = some (.map (some F.m)) := by rw [cell_of_row w4 _ 1 _ _ _ k4]; rfl
  have q1f : w4.frozen? ⟨w.heap.size, 1, none⟩ = false := by simp [World.frozen?, k4]
  have K4 := Lib.hid k4
  have M4 := Lib.hid hm4
  have B4 := Lib.hid hb4
  clear k4 hm4 hb4 hs4 z3
  go_wp2
  go_ret
  refine ⟨⟨w.heap.size, w3.heap.size, A', c'⟩, rfl, ⟨H.out.ok, Nat.le_refl _, Nat.le_of_lt hw, ?_, ?_, ?_⟩, (b3.out.trans (B4.out.mono (Nat.le_of_lt hw))).setCell (Nat.le_refl _) _⟩
  · rw [heap_setCell_block _ K4.out]
    simp [dkCells]
  · have r4 : w4.ownsRow w1.heap.size 91 256 (.slice A' s.rows.length c') s.rows.length (cellsB s.rows.flatten) := ownsRow_of_block r3.out fun g e => by
      subst e
      rcases r3.out.2 with ⟨e, _⟩ | ⟨g', _, _, e, _, hh, _⟩
      · cases e
      · injection e with e
        injection e with e
        injection e with e
        subst e
        exact B4.out.block g (Array.getElem?_eq_some_iff.1 hh).1
    have r5 := ownsRow_setCell_below r4 (a := ⟨w.heap.size, 1, none⟩) (by show w.heap.size < _; have := Z1.out; omega) (.map (some w3.heap.size))
    refine ⟨r5.1, ?_⟩
    rcases r5.2 with r | ⟨g, cap, cur, e, hb, r⟩
    · exact .inl r
    · exact .inr ⟨g, cap, cur, e, by have := Z1.out; omega, r⟩
  · exact M4.out.kept (Below.heap_setCell _ _ _ _ (by show w3.heap.size ≠ w.heap.size; omega))
end Go.Proofs.Ytidnpokjaklfpaa
