/- The package blocks: Check and fault. -/
import Derived.Test.YtidnpokjaklfpaaBlA
import Derived.Deep.RegionHeld3
namespace Go.Proofs.Ytidnpokjaklfpaa
open Go.RowKit
set_option linter.unusedVariables false
theorem wrap64 (x : Int) (h1 : -9223372036854775808 ≤ x) (h2 : x ≤ 9223372036854775807) : IntKind.i64.wrap x = x := by
  simp [IntKind.wrap, IntKind.signed, IntKind.bits]
  omega
theorem takeHs {P : Program} {md : Region.Mode} {ops : Array Oper} {Q : Exit → Act → World → Prop} {S : World → Prop} {fuel : Nat} {listed : Array Bool} {a : Act} {w : World} (i : Nat) (d : Nat) {oi : Oper}
    (hi : ops[i]? = some oi) (hd : oi.dst = some d) (hs : Region.noSelect ops = true) (hf : Region.free md ops listed i = true) (hr : (Region.ready md ops listed).contains i = true)
    (hQ : ∀ c a w, Q (.panic c) (a.put (some d) undef) w → Q (.panic c) a w) (hS : S w) (hw : Region.wanted oi (yielded ops a.tmps) = false)
    (h : wpAnyH P md ops Q S fuel (listed.setIfInBounds i true) (a.put (some d) undef) w) : wpAnyH P md ops Q S (fuel + 1) listed a w :=
  wpAnyH_take hi hs hf hr (by rw [hd]; exact hQ) (.inr ⟨hw, rfl⟩) hS (by rw [hd]; exact h)
def Ar.check (a : Ar) (size : Nat) : Nat := if a.may = true ∧ a.first + 4 * a.count ≤ (size : Int) then 0 else 2
def Ar.fault (a : Ar) (size : Nat) (n : Int) : Nat := if a.check size = 0 then if a.has n = true then 0 else 9 else 2
set_option maxHeartbeats 1000000 in
set_option maxRecDepth 100000 in
theorem check_nil (a : Ar) (w : World) : Calls Try.prog 25 #[.pointer none, a.v] w fun e w' => e = .returned (.int .i64 1) ∧ Below w.heap.size w w' := by
  obtain ⟨p, q⟩ := a
  show Calls Try.prog 25 #[.pointer none, .agg #[.int .i64 p, .int .i64 q]] w _
  go_enter Try.func25, Try.ntmps25
  go_wp2
  go_ret
  exact ⟨rfl, (Below.refl _ _).alloc (Nat.le_refl _) _⟩
set_option maxHeartbeats 1000000 in
set_option maxRecDepth 100000 in
theorem check_any {base : Nat} {F : Ft} {w : World} {s : Dk} (h : DkAt base F w s) (a : Ar) : Calls Try.prog 25 #[.pointer (some ⟨F.b, 0, none⟩), a.v] w fun e w' => e = .returned (.int .i64 (a.check s.rows.length : Int)) ∧ Below w.heap.size w w' := by
  have K1 := Lib.hid (fun W => mayBe_any a W)
  have KS := Lib.hid (fun W (hb : Below w.heap.size w W) => size_any (h.below hb))
  have hmany := h.ok.many
  obtain ⟨p, q⟩ := a
  have HC := Lib.hid (show Ar.check ⟨p, q⟩ s.rows.length = if Ar.may ⟨p, q⟩ = true ∧ p + 4 * q ≤ (s.rows.length : Int) then 0 else 2 from rfl)
  have K1 : Hid (∀ W, Calls Try.prog 53 #[.agg #[.int .i64 p, .int .i64 q]] W fun e w' => e = .returned (.bool (Ar.may ⟨p, q⟩)) ∧ Below W.heap.size W w') := K1
  show Calls Try.prog 25 #[.pointer (some ⟨F.b, 0, none⟩), .agg #[.int .i64 p, .int .i64 q]] w _
  have hz := heap_size_alloc w (.cells #[.int .i64 p, .int .i64 q] 53)
  have b0 := Lib.hid (((Below.refl _ w).alloc (Nat.le_refl _) (.cells #[.int .i64 p, .int .i64 q] 53)).drew)
  have hh := Lib.hid (heap_alloc_last w (.cells #[.int .i64 p, .int .i64 q] 53))
  generalize hN : s.rows.length = N at *
  clear h hN
  by_cases hm : Ar.may ⟨p, q⟩ = true
  · obtain ⟨p0, p1, q0, q1⟩ : 0 ≤ p ∧ p ≤ 4096 ∧ 0 ≤ q ∧ q ≤ 512 := of_decide_eq_true hm
    rw [hm] at K1 HC
    simp only [true_and] at HC
    generalize Ar.check ⟨p, q⟩ N = cc at *
    clear hm
    by_cases hc : p + 4 * q ≤ (N : Int)
    · rw [if_pos hc] at HC
      have hw : decide ((N : Int) < IntKind.i64.wrap (p + IntKind.i64.wrap (4 * q))) = false := by rw [wrap64 (4 * q) (by omega) (by omega), wrap64 _ (by omega) (by omega)]; simp; omega
      clear hc
      go_enter Try.func25, Try.ntmps25
      go_wp2
      have hz' := Lib.hid hz
      clear hz
      generalize w.alloc (.cells #[.int .i64 p, .int .i64 q] 53) = W0 at *
      have x0 : W0.drew.cell? ⟨w.heap.size, 0, none⟩ = some (.int .i64 p) := (cell_of_row W0 _ 0 _ _ _ hh.out).trans rfl
      have x1 : W0.drew.cell? ⟨w.heap.size, 1, none⟩ = some (.int .i64 q) := (cell_of_row W0 _ 1 _ _ _ hh.out).trans rfl
      go_region_held3 (fun W => W.cell? ⟨w.heap.size, 0, none⟩ = some (.int .i64 p) ∧ W.cell? ⟨w.heap.size, 1, none⟩ = some (.int .i64 q)) (first | with_reducible assumption | with_reducible exact ⟨x0, x1⟩ | with_reducible exact ⟨y0, y1⟩ | go_keep | fail)
        (first
          | (go_at_call 53; refine (K1.out _).mono ?_; rintro e w1 ⟨rfl, b1⟩; have y0 := (b1.cell (p := ⟨w.heap.size, 0, none⟩) (lt_of_cell x0)).trans x0; have y1 := (b1.cell (p := ⟨w.heap.size, 1, none⟩) (lt_of_cell x1)).trans x1; have B1 := Lib.hid (b0.out.trans (b1.mono b0.out.size)); clear b1)
          | (go_at_call 13; refine (KS.out _ (by with_reducible first | exact B1.out | exact b0.out)).mono ?_; rintro e w2 ⟨rfl, rfl⟩)
          | fail)
      all_goals
        go_wp2
        go_ret
        rw [HC.out]
        exact ⟨rfl, by with_reducible first | exact B1.out | exact b0.out⟩
    · rw [if_neg hc] at HC
      have hw : decide ((N : Int) < IntKind.i64.wrap (p + IntKind.i64.wrap (4 * q))) = true := by rw [wrap64 (4 * q) (by omega) (by omega), wrap64 _ (by omega) (by omega)]; simp; omega
      clear hc
      go_enter Try.func25, Try.ntmps25
      go_wp2
      have hz' := Lib.hid hz
      clear hz
      generalize w.alloc (.cells #[.int .i64 p, .int .i64 q] 53) = W0 at *
      have x0 : W0.drew.cell? ⟨w.heap.size, 0, none⟩ = some (.int .i64 p) := (cell_of_row W0 _ 0 _ _ _ hh.out).trans rfl
      have x1 : W0.drew.cell? ⟨w.heap.size, 1, none⟩ = some (.int .i64 q) := (cell_of_row W0 _ 1 _ _ _ hh.out).trans rfl
      go_region_held3 (fun W => W.cell? ⟨w.heap.size, 0, none⟩ = some (.int .i64 p) ∧ W.cell? ⟨w.heap.size, 1, none⟩ = some (.int .i64 q)) (first | with_reducible assumption | with_reducible exact ⟨x0, x1⟩ | with_reducible exact ⟨y0, y1⟩ | go_keep | fail)
        (first
          | (go_at_call 53; refine (K1.out _).mono ?_; rintro e w1 ⟨rfl, b1⟩; have y0 := (b1.cell (p := ⟨w.heap.size, 0, none⟩) (lt_of_cell x0)).trans x0; have y1 := (b1.cell (p := ⟨w.heap.size, 1, none⟩) (lt_of_cell x1)).trans x1; have B1 := Lib.hid (b0.out.trans (b1.mono b0.out.size)); clear b1)
          | (go_at_call 13; refine (KS.out _ (by with_reducible first | exact B1.out | exact b0.out)).mono ?_; rintro e w2 ⟨rfl, rfl⟩)
          | fail)
      all_goals
        go_wp2
        go_ret
        rw [HC.out]
        exact ⟨rfl, by with_reducible first | exact B1.out | exact b0.out⟩
  · have hm : Ar.may ⟨p, q⟩ = false := by simpa using hm
    rw [hm] at K1 HC
    rw [if_neg (by simp)] at HC
    generalize Ar.check ⟨p, q⟩ N = cc at *
    clear hm KS
    go_enter Try.func25, Try.ntmps25
    go_wp2
    clear hz
    generalize w.alloc (.cells #[.int .i64 p, .int .i64 q] 53) = W0 at *
    have x0 : W0.drew.cell? ⟨w.heap.size, 0, none⟩ = some (.int .i64 p) := (cell_of_row W0 _ 0 _ _ _ hh.out).trans rfl
    have x1 : W0.drew.cell? ⟨w.heap.size, 1, none⟩ = some (.int .i64 q) := (cell_of_row W0 _ 1 _ _ _ hh.out).trans rfl
    refine wp_region_any (by kernel_rfl) ?_
    change wpAny _ _ _ _ _ _ _ (World.drew _)
    refine wpAny_of_held (S := fun W => W.cell? ⟨w.heap.size, 0, none⟩ = some (.int .i64 p) ∧ W.cell? ⟨w.heap.size, 1, none⟩ = some (.int .i64 q)) _ _ _ _ ?_
    have HS := And.intro x0 x1
    refine takeH 0 9 (v := ?_) rfl rfl (by kernel_rfl) (by kernel_rfl) (by kernel_rfl) (fun _ _ _ h => h) HS (by rfl) ?_ ?_
    rotate_left
    · intro w' hSw
      obtain ⟨hSw0, hSw1⟩ := hSw
      go_simp
      try (with_reducible rfl)
    simp only [Act.put, List.setIfInBounds_toArray, List.set_cons_zero, List.set_cons_succ]
    refine wpAnyH_ready (rs := [1]) (by kernel_rfl) (by simp) ?_
    refine AllReadyH.cons rfl (fun K hK => ?_) AllReadyH.nil
    go_simp
    refine (K1.out _).mono ?_
    rintro e w1 ⟨rfl, b1⟩
    have HS := And.intro ((b1.cell (p := ⟨w.heap.size, 0, none⟩) (lt_of_cell x0)).trans x0) ((b1.cell (p := ⟨w.heap.size, 1, none⟩) (lt_of_cell x1)).trans x1)
    have B1 := Lib.hid (b0.out.trans (b1.mono b0.out.size))
    refine hK _ _ HS (fun _ => ?_)
    clear hK K b1 x0 x1
    refine takeH 2 11 (v := ?_) rfl rfl (by kernel_rfl) (by kernel_rfl) (by kernel_rfl) (fun _ _ _ h => h) HS (by rfl) ?_ ?_
    rotate_left
    · intro w' hSw
      obtain ⟨hSw0, hSw1⟩ := hSw
      go_simp
      try (with_reducible rfl)
    simp only [Act.put, List.setIfInBounds_toArray, List.set_cons_zero, List.set_cons_succ]
    refine takeH 3 12 (v := ?_) rfl rfl (by kernel_rfl) (by kernel_rfl) (by kernel_rfl) (fun _ _ _ h => h) HS (by rfl) ?_ ?_
    rotate_left
    · intro w' hSw
      obtain ⟨hSw0, hSw1⟩ := hSw
      go_simp
      try (with_reducible rfl)
    simp only [Act.put, List.setIfInBounds_toArray, List.set_cons_zero, List.set_cons_succ]
    refine takeHs 4 13 rfl rfl (by kernel_rfl) (by kernel_rfl) (by kernel_rfl) (fun _ _ _ h => h) HS (by rfl) ?_
    simp only [Act.put, List.setIfInBounds_toArray, List.set_cons_zero, List.set_cons_succ]
    refine takeHs 5 14 rfl rfl (by kernel_rfl) (by kernel_rfl) (by kernel_rfl) (fun _ _ _ h => h) HS (by rfl) ?_
    simp only [Act.put, List.setIfInBounds_toArray, List.set_cons_zero, List.set_cons_succ]
    refine takeHs 6 15 rfl rfl (by kernel_rfl) (by kernel_rfl) (by kernel_rfl) (fun _ _ _ h => h) HS (by rfl) ?_
    simp only [Act.put, List.setIfInBounds_toArray, List.set_cons_zero, List.set_cons_succ]
    refine takeHs 7 16 rfl rfl (by kernel_rfl) (by kernel_rfl) (by kernel_rfl) (fun _ _ _ h => h) HS (by rfl) ?_
    simp only [Act.put, List.setIfInBounds_toArray, List.set_cons_zero, List.set_cons_succ]
    refine takeHs 8 17 rfl rfl (by kernel_rfl) (by kernel_rfl) (by kernel_rfl) (fun _ _ _ h => h) HS (by rfl) ?_
    simp only [Act.put, List.setIfInBounds_toArray, List.set_cons_zero, List.set_cons_succ]
    refine takeHs 9 18 rfl rfl (by kernel_rfl) (by kernel_rfl) (by kernel_rfl) (fun _ _ _ h => h) HS (by rfl) ?_
    simp only [Act.put, List.setIfInBounds_toArray, List.set_cons_zero, List.set_cons_succ]
    refine takeHs 10 19 rfl rfl (by kernel_rfl) (by kernel_rfl) (by kernel_rfl) (fun _ _ _ h => h) HS (by rfl) ?_
    simp only [Act.put, List.setIfInBounds_toArray, List.set_cons_zero, List.set_cons_succ]
    refine takeHs 11 20 rfl rfl (by kernel_rfl) (by kernel_rfl) (by kernel_rfl) (fun _ _ _ h => h) HS (by rfl) ?_
    simp only [Act.put, List.setIfInBounds_toArray, List.set_cons_zero, List.set_cons_succ]
    refine takeHs 12 21 rfl rfl (by kernel_rfl) (by kernel_rfl) (by kernel_rfl) (fun _ _ _ h => h) HS (by rfl) ?_
    simp only [Act.put, List.setIfInBounds_toArray, List.set_cons_zero, List.set_cons_succ]
    refine takeH 13 22 (v := ?_) rfl rfl (by kernel_rfl) (by kernel_rfl) (by kernel_rfl) (fun _ _ _ h => h) HS (by rfl) ?_ ?_
    rotate_left
    · intro w' hSw
      obtain ⟨hSw0, hSw1⟩ := hSw
      go_simp
      try (with_reducible rfl)
    simp only [Act.put, List.setIfInBounds_toArray, List.set_cons_zero, List.set_cons_succ]
    refine takeH 14 8 (v := ?_) rfl rfl (by kernel_rfl) (by kernel_rfl) (by kernel_rfl) (fun _ _ _ h => h) HS (by rfl) ?_ ?_
    rotate_left
    · intro w' hSw
      obtain ⟨hSw0, hSw1⟩ := hSw
      go_simp
      try (with_reducible rfl)
    simp only [Act.put, List.setIfInBounds_toArray, List.set_cons_zero, List.set_cons_succ]
    refine wpAnyH_done (by kernel_rfl) ?_ _
    go_wp2
    go_ret
    rw [HC.out]
    exact ⟨rfl, B1.out⟩
theorem Ar.check_two (a : Ar) (n : Nat) : a.check n = 0 ∨ a.check n = 2 := by unfold Ar.check; split <;> simp
set_option maxHeartbeats 1000000 in
set_option maxRecDepth 100000 in
theorem bfault_nil (a : Ar) (n : Int) (w : World) : Calls Try.prog 56 #[.pointer none, a.v, .int .i64 n] w fun e w' => e = .returned (.int .i64 1) ∧ Below w.heap.size w w' := by
  have K1 := Lib.hid (fun W => check_nil a W)
  obtain ⟨p, q⟩ := a
  have K1 : Hid (∀ W, Calls Try.prog 25 #[.pointer none, .agg #[.int .i64 p, .int .i64 q]] W fun e w' => e = .returned (.int .i64 1) ∧ Below W.heap.size W w') := K1
  show Calls Try.prog 56 #[.pointer none, .agg #[.int .i64 p, .int .i64 q], .int .i64 n] w _
  have hz := heap_size_alloc w (.cells #[.int .i64 p, .int .i64 q] 53)
  go_enter Try.func56, Try.ntmps56
  go_wp2_with fail
  refine (K1.out _).mono ?_
  rintro e w1 ⟨rfl, b1⟩
  have B1 := Lib.hid (((Below.refl _ w).alloc (Nat.le_refl _) _).trans (b1.mono (by omega)))
  clear b1
  go_wp2
  go_ret
  exact ⟨rfl, B1.out⟩
set_option maxHeartbeats 1000000 in
set_option maxRecDepth 100000 in
theorem bfault_any {base : Nat} {F : Ft} {w : World} {s : Dk} (h : DkAt base F w s) (a : Ar) (n : Int) : Calls Try.prog 56 #[.pointer (some ⟨F.b, 0, none⟩), a.v, .int .i64 n] w fun e w' => e = .returned (.int .i64 (a.fault s.rows.length n : Int)) ∧ Below w.heap.size w w' := by
  have K1 := Lib.hid (fun W (hb : Below w.heap.size w W) => check_any (h.below hb) a)
  have K2 := Lib.hid (fun W => has_any a n W)
  have HC := Lib.hid (a.check_two s.rows.length)
  have HF := Lib.hid (show a.fault s.rows.length n = if a.check s.rows.length = 0 then if a.has n = true then 0 else 9 else 2 from rfl)
  obtain ⟨p, q⟩ := a
  clear h
  generalize Ar.fault ⟨p, q⟩ s.rows.length n = ff at *
  generalize Ar.check ⟨p, q⟩ s.rows.length = cc at *
  generalize Ar.has ⟨p, q⟩ n = m2 at *
  have K1 : Hid (∀ W, Below w.heap.size w W → Calls Try.prog 25 #[.pointer (some ⟨F.b, 0, none⟩), .agg #[.int .i64 p, .int .i64 q]] W fun e w' => e = .returned (.int .i64 (cc : Int)) ∧ Below W.heap.size W w') := K1
  have K2 : Hid (∀ W, Calls Try.prog 60 #[.agg #[.int .i64 p, .int .i64 q], .int .i64 n] W fun e w' => e = .returned (.bool m2) ∧ Below W.heap.size W w') := K2
  show Calls Try.prog 56 #[.pointer (some ⟨F.b, 0, none⟩), .agg #[.int .i64 p, .int .i64 q], .int .i64 n] w _
  have hz := heap_size_alloc w (.cells #[.int .i64 p, .int .i64 q] 53)
  have B0 := Lib.hid ((Below.refl _ w).alloc (Nat.le_refl _) (.cells #[.int .i64 p, .int .i64 q] 53))
  rcases HC.out with rfl | rfl
  · go_enter Try.func56, Try.ntmps56
    go_wp2_with fail
    refine (K1.out _ B0.out).mono ?_
    rintro e w1 ⟨rfl, b1⟩
    have B1 := Lib.hid (B0.out.trans (b1.mono (by omega)))
    have hh : w1.heap[w.heap.size]? = some (.cells #[.int .i64 p, .int .i64 q] 53 (0, 0)) := (b1.block _ (by omega)).trans (heap_alloc_last w _)
    have x0 : w1.cell? ⟨w.heap.size, 0, none⟩ = some (.int .i64 p) := (cell_of_row w1 _ 0 _ _ _ hh).trans rfl
    have x1 : w1.cell? ⟨w.heap.size, 1, none⟩ = some (.int .i64 q) := (cell_of_row w1 _ 1 _ _ _ hh).trans rfl
    clear b1 hh
    cases m2 with
    | true =>
      go_wp2_with fail
      refine (K2.out _).mono ?_
      rintro e w2 ⟨rfl, b2⟩
      have B2 := Lib.hid (B1.out.trans (b2.mono B1.out.size))
      clear b2
      go_wp2
      go_ret
      exact ⟨by rw [HF.out]; rfl, B2.out⟩
    | false =>
      go_wp2_with fail
      refine (K2.out _).mono ?_
      rintro e w2 ⟨rfl, b2⟩
      have B2 := Lib.hid (B1.out.trans (b2.mono B1.out.size))
      clear b2
      go_wp2
      go_ret
      exact ⟨by rw [HF.out]; rfl, B2.out⟩
  · go_enter Try.func56, Try.ntmps56
    go_wp2_with fail
    refine (K1.out _ B0.out).mono ?_
    rintro e w1 ⟨rfl, b1⟩
    have B1 := Lib.hid (B0.out.trans (b1.mono (by omega)))
    clear b1
    go_wp2
    go_ret
    exact ⟨by rw [HF.out]; rfl, B1.out⟩
end Go.Proofs.Ytidnpokjaklfpaa
