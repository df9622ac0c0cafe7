/- The law's own: a stack of its own. -/
import Derived.Test.YtchfpgdioclajaaVtB
namespace Go.Proofs.Ytchfpgdioclajaa
open Go.RowKit
set_option linter.unusedVariables false
set_option linter.unusedSimpArgs false
set_option maxHeartbeats 1000000 in
set_option maxRecDepth 100000 in
theorem own_any (key : ByteArray) (A : Option Addr) (n c : Nat) (l : List Vn) (w : World) (hl : l.length = n) (hn : n ≤ 1000) (hr : RG KV w A l) :
    Calls Try.prog 11 #[.agg #[.string key, .slice A n c]] w fun e w' => ∃ v', e = .returned (.agg #[.string key, v']) ∧ OG KV 26 w.heap.size w' v' l ∧ Below w.heap.size w w' := by
  have HB := Lib.hid (below2 w (.cells #[.string key, .slice A n c] 24) (.cells #[.string ⟨#[]⟩, .slice none 0 0] 24))
  have SX := Lib.hid ((StBox.new w key A n c 24).alloc (.cells #[.string ⟨#[]⟩, .slice none 0 0] 24))
  have RX : Hid (StBox ((w.alloc (.cells #[.string key, .slice A n c] 24)).alloc (.cells #[.string ⟨#[]⟩, .slice none 0 0] 24)) (w.heap.size + 1) ⟨#[]⟩ none 0 0) := Lib.hid (by
    have := StBox.new (w.alloc (.cells #[.string key, .slice A n c] 24)) ⟨#[]⟩ none 0 0 24
    rw [heap_size_alloc] at this
    exact this)
  have HR := Lib.hid (fun W (h : Below w.heap.size w W) => hr.below h)
  have HM := Lib.hid hl
  clear hr hl
  go_enter Try.func11, Try.ntmps11
  go_upto_region 1 with fail
  generalize (w.alloc (.cells #[.string key, .slice A n c] 24)).alloc (.cells #[.string ⟨#[]⟩, .slice none 0 0] 24) = W0 at *
  have s0 := SX.out.drew.c0
  have s1 := SX.out.drew.c1
  have hZ := Lib.hid (show w.heap.size + 1 < W0.heap.size from RX.out.lt)
  have u0 := (SX.out.alloc (.cells #[] 26)).drew.c0
  have u1 := (SX.out.alloc (.cells #[] 26)).drew.c1
  have RX := Lib.hid (RX.out.alloc (.cells #[] 26)).drew
  have SX := Lib.hid (SX.out.alloc (.cells #[] 26)).drew
  have HB := Lib.hid (HB.out.alloc HB.out.size (.cells #[] 26)).drew
  have O0 := Lib.hid (OG.lit0 (K := KV) (T := 26) (base := W0.heap.size) W0 (Nat.le_refl _)).drew
  have hZ2 : Hid (W0.heap.size ≤ (W0.alloc (.cells #[] 26)).drew.heap.size) := Lib.hid (by
    show W0.heap.size ≤ (W0.alloc (.cells #[] 26)).heap.size
    rw [heap_size_alloc]; omega)
  go_region_held3 (fun W => W.cell? ⟨w.heap.size, 0, none⟩ = some (.string key) ∧ W.cell? ⟨w.heap.size, 1, none⟩ = some (.slice A n c)) (first | with_reducible exact ⟨s0, s1⟩ | with_reducible exact ⟨u0, u1⟩ | with_reducible exact ⟨t0, t1⟩ | fail)
    (first
      | (refine step_append_G tgV rfl (.tmp 5) (.tmp 7) rfl W0.heap.size (.slice (some ⟨W0.heap.size, 0, none⟩) 0 0) [] (by simp [Act.eval, Act.put]) O0.out A n c l (by simp [Act.eval, Act.put]) HM.out (HR.out _ HB.out) (Apart.flat vn_flat) (by simp; omega) hZ2.out ?_; intro v1 w1 o1 b1 _ _; obtain ⟨A1, c1, e1, h11, h12, h13, h14⟩ := o1.rg; rw [List.nil_append] at e1; subst e1; have O1 := Lib.hid (o1.setSt hZ.out key (.slice A1 l.length c1)); have B1 := Lib.hid (belowSetSt (q := w.heap.size + 1) (HB.out.trans (b1.mono (by have := hZ.out; omega))) (by omega) key (.slice A1 l.length c1)); have R1 := RX.out.below b1 hZ.out; have S1 := SX.out.below b1 (by have := hZ.out; omega); have P1 := Lib.hid (R1.put key A1 l.length c1); have s0 := S1.c0; have s1 := S1.c1; have t0 := (S1.offSt (show w.heap.size + 1 ≠ w.heap.size from by omega) key (.slice A1 l.length c1)).c0; have t1 := (S1.offSt (show w.heap.size + 1 ≠ w.heap.size from by omega) key (.slice A1 l.length c1)).c1; unfold setSt at t0 t1; have r0 := R1.c0; have r1 := R1.c1; have g0 := R1.f0; have g1 := R1.f1; clear o1 b1 h11 h12 h13 h14 R1 S1)
      | fail)
  all_goals
    go_wp2
    have z0 := P1.out.c0; have z1 := P1.out.c1
    have o4 := O1.out; have b4 := B1.out
    unfold setSt at z0 z1 o4 b4
    refine bodyPost_ret (v := .agg #[.string key, .slice A1 l.length c1]) (by simp [results, Try.results11, go_sem, z0, z1]) rfl ⟨_, rfl, by rw [List.nil_append] at o4; exact o4.lift (by have := hZ.out; omega), b4⟩
end Go.Proofs.Ytchfpgdioclajaa
