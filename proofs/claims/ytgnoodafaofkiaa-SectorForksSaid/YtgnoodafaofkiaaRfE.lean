/- The document's disk: Sync. -/
import Derived.Test.YtgnoodafaofkiaaRfD
namespace Go.Proofs.Ytgnoodafaofkiaa
open Go.RowKit
set_option linter.unusedVariables false
def Rk.safed (r : Rk) : Rk := { r with S := r.S.map Sx.safed }
def Rk.sync (r : Rk) : Rk := if r.off = true then r else r.call r.safed
def Rk.syncErr (r : Rk) : Nat := if r.off = true then 8 else r.callErr
/-- A value reads as the document's disk r, whose rows are in w. -/
def RkIs (w : World) (r : Rk) (v : Value) : Prop := ∃ A c, v = rkV A c r ∧ RS w A r.S
theorem RkIs.below {w w' : World} {r : Rk} {v : Value} (h : RkIs w r v) (hb : Below w.heap.size w w') : RkIs w' r v := by
  obtain ⟨A, c, e, hr⟩ := h
  exact ⟨A, c, e, hr.below hb⟩
theorem RkIs.call {w : World} {A A' : Option Addr} {c c' : Nat} {r t : Rk} (h : RS w A r.S) (h' : RS w A' t.S) : RkIs w (r.call t) (r.callV t A c A' c') := by
  unfold Rk.callV Rk.callGoes Rk.call
  by_cases hz : r.after = 0
  · cases hd : r.done <;> simp [hz]
    · exact ⟨A, c, rfl, h⟩
    · exact ⟨A', c', rfl, h'⟩
  · simp [hz]
    exact ⟨A', c', rfl, h'⟩
theorem Rk.call_len (r t : Rk) (h : t.S.length = r.S.length) : (r.call t).S.length = r.S.length := by
  unfold Rk.call
  split
  · exact h
  · split
    · exact h
    · rfl
theorem callV_pick (P : Option Addr → List Sx → Prop) {A A' : Option Addr} (c c' : Nat) (r t : Rk) (h : P A r.S) (h' : P A' t.S) : ∃ A2 c2, r.callV t A c A' c' = rkV A2 c2 (r.call t) ∧ P A2 (r.call t).S := by
  unfold Rk.callV Rk.callGoes Rk.call
  by_cases hz : r.after = 0
  · cases hd : r.done <;> simp [hz]
    · exact ⟨A, ⟨c, rfl⟩, h⟩
    · exact ⟨A', ⟨c', rfl⟩, h'⟩
  · simp [hz]
    exact ⟨A', ⟨c', rfl⟩, h'⟩
theorem RS.lt {w : World} {A : Option Addr} {S : List Sx} (h : RS w A S) : S ≠ [] → ∀ ad, A = some ad → ad.block < w.heap.size := by
  intro hS ad e
  rcases h with h | ⟨g, rfl, hc⟩
  · exact absurd h hS
  · injection e with e
    subst e
    cases S with
    | nil => exact absurd rfl hS
    | cons x S => exact lt_of_cell (hc 0 (.string (str x.has)) rfl)
/-- A row that is not in the block b. -/
def Out (b : Nat) (A : Option Addr) (S : List Sx) : Prop := S ≠ [] → ∀ ad, A = some ad → ad.block ≠ b
/-- Two boxes of five cells made one behind the other. -/
structure Two5 (b : Nat) (x y : Array Value) (W : World) : Prop where
  b0 : W.heap[b]? = some (.cells x 28 (0, 0))
  b1 : W.heap[b + 1]? = some (.cells y 28 (0, 0))
theorem Two5.mk2 (w : World) (x y : Array Value) : Two5 w.heap.size x y ((w.alloc (.cells x 28)).alloc (.cells y 28)) := by
  have hz := heap_size_alloc w (.cells x 28)
  refine ⟨(Below.heap_alloc _ _ _ (by omega)).trans (heap_alloc_last w _), ?_⟩
  have := heap_alloc_last (w.alloc (.cells x 28)) (.cells y 28)
  rw [hz] at this
  exact this
theorem Two5.below {b : Nat} {x y : Array Value} {W W' : World} (h : Two5 b x y W) {n : Nat} (hn : b + 2 ≤ n) (hb : Below n W W') : Two5 b x y W' := ⟨(hb.block _ (by omega)).trans h.b0, (hb.block _ (by omega)).trans h.b1⟩
theorem Two5.drew {b : Nat} {x y : Array Value} {W : World} (h : Two5 b x y W) : Two5 b x y W.drew := ⟨h.b0, h.b1⟩
theorem Two5.size {b : Nat} {x y : Array Value} {W : World} (h : Two5 b x y W) : b + 2 ≤ W.heap.size := bsz h.b1
theorem Two5.c0 {b : Nat} {x : Array Value} {a0 a1 a2 a3 a4 : Value} {W : World} (h : Two5 b #[a0, a1, a2, a3, a4] x W) : W.cell? ⟨b, 0, none⟩ = some a0 ∧ W.cell? ⟨b, 1, none⟩ = some a1 ∧ W.cell? ⟨b, 2, none⟩ = some a2 ∧ W.cell? ⟨b, 3, none⟩ = some a3 ∧ W.cell? ⟨b, 4, none⟩ = some a4 :=
  ⟨(cell_of_row W _ 0 _ _ _ h.b0).trans rfl, (cell_of_row W _ 1 _ _ _ h.b0).trans rfl, (cell_of_row W _ 2 _ _ _ h.b0).trans rfl, (cell_of_row W _ 3 _ _ _ h.b0).trans rfl, (cell_of_row W _ 4 _ _ _ h.b0).trans rfl⟩
theorem Two5.c1 {b : Nat} {x : Array Value} {a0 a1 a2 a3 a4 : Value} {W : World} (h : Two5 b x #[a0, a1, a2, a3, a4] W) : W.cell? ⟨b + 1, 0, none⟩ = some a0 ∧ W.cell? ⟨b + 1, 1, none⟩ = some a1 ∧ W.cell? ⟨b + 1, 2, none⟩ = some a2 ∧ W.cell? ⟨b + 1, 3, none⟩ = some a3 ∧ W.cell? ⟨b + 1, 4, none⟩ = some a4 :=
  ⟨(cell_of_row W _ 0 _ _ _ h.b1).trans rfl, (cell_of_row W _ 1 _ _ _ h.b1).trans rfl, (cell_of_row W _ 2 _ _ _ h.b1).trans rfl, (cell_of_row W _ 3 _ _ _ h.b1).trans rfl, (cell_of_row W _ 4 _ _ _ h.b1).trans rfl⟩
theorem Two5.f1 {b : Nat} {x y : Array Value} {W : World} (h : Two5 b x y W) (j : Nat) : W.frozen? ⟨b + 1, j, none⟩ = false := by simp [World.frozen?, h.b1]
set_option maxHeartbeats 4000000 in
set_option maxRecDepth 100000 in
theorem refSync_any (A : Option Addr) (c : Nat) (r : Rk) (w : World) (hs : r.S.length ≤ 4096) (hr : RS w A r.S) (h0 : 0 ≤ r.calls) (h1 : r.calls ≤ 4611686018427387904) (h2 : -1 ≤ r.after) (h3 : r.after ≤ 9223372036854775807) :
    Calls Try.prog 37 #[rkV A c r] w fun e w' => ∃ v, e = .returned (.tuple #[v, .int .i64 (r.syncErr : Int)]) ∧ RkIs w' r.sync v ∧ Below w.heap.size w w' := by
  by_cases ho : r.off = true
  · have e1 : r.sync = r := if_pos ho
    have e2 : r.syncErr = 8 := if_pos ho
    rw [e1, e2]
    clear e1 e2
    obtain ⟨S, off, calls, after, done⟩ := r
    have ho : off = true := ho
    subst ho
    have hr : RS w A S := hr
    have B := Lib.hid (fun x y => ((Below.refl _ w).alloc (Nat.le_refl _) (.cells x 28)).alloc (by rw [heap_size_alloc]; omega) (.cells y 28))
    have F := Lib.hid (fun W (hb : Below w.heap.size w W) => show RkIs W ⟨S, true, calls, after, done⟩ (.agg #[.slice A S.length c, .bool true, .int .i64 calls, .int .i64 after, .bool done]) from ⟨A, c, rfl, hr.below hb⟩)
    show Calls Try.prog 37 #[.agg #[.slice A S.length c, .bool true, .int .i64 calls, .int .i64 after, .bool done]] w _
    go_enter Try.func37, Try.ntmps37
    go_wp2
    refine bodyPost_ret (v := .tuple #[.agg #[.slice A S.length c, .bool true, .int .i64 calls, .int .i64 after, .bool done], .int .i64 8]) (by simp [results, Try.results37, go_sem]) rfl ⟨_, rfl, F.out _ (B.out _ _), B.out _ _⟩
  · have ho : r.off = false := by simpa using ho
    have e1 : r.sync = r.call r.safed := if_neg (by simp [ho])
    have e2 : r.syncErr = r.callErr := if_neg (by simp [ho])
    rw [e1, e2]
    clear e1 e2
    have hl : (r.call r.safed).S.length = r.S.length := Rk.call_len r r.safed (by simp [Rk.safed])
    have KS : Hid (∀ W, RS W A r.S → Calls Try.prog 63 #[.agg #[.slice A r.S.length c, .bool false, .int .i64 r.calls, .int .i64 r.after, .bool r.done]] W fun e w' => ∃ A' c', e = .returned (.agg #[.slice A' r.S.length c', .bool false, .int .i64 r.calls, .int .i64 r.after, .bool r.done]) ∧ RS w' A' r.safed.S ∧ (∀ ad, A' = some ad → W.heap.size ≤ ad.block) ∧ Below W.heap.size W w') := Lib.hid fun W h => by
      have k := refSafe_any A c r W hs h
      unfold rkV at k
      rw [ho, List.length_map] at k
      refine k.mono ?_
      rintro e w' ⟨A', c', rfl, a, d, b⟩
      exact ⟨A', c', rfl, a, d, b⟩
    have KC : Hid (∀ A' c' W, RS W A r.S ∧ Out (w.heap.size + 1) A r.S → RS W A' r.safed.S ∧ Out (w.heap.size + 1) A' r.safed.S → Calls Try.prog 62 #[.agg #[.slice A r.S.length c, .bool false, .int .i64 r.calls, .int .i64 r.after, .bool r.done], .agg #[.slice A' r.S.length c', .bool false, .int .i64 r.calls, .int .i64 r.after, .bool r.done]] W fun e w' => ∃ A2 c2, e = .returned (.tuple #[.agg #[.slice A2 r.S.length c2, .bool (r.call r.safed).off, .int .i64 (r.call r.safed).calls, .int .i64 (r.call r.safed).after, .bool (r.call r.safed).done], .int .i64 (r.callErr : Int)]) ∧ RS w' A2 (r.call r.safed).S ∧ Out (w.heap.size + 1) A2 (r.call r.safed).S ∧ Below W.heap.size W w') := Lib.hid fun A' c' W ha hb => by
      have k := refCall_any A A' c c' r r.safed W h0 h1 h2 h3
      have q1 : rkV A c r = .agg #[.slice A r.S.length c, .bool false, .int .i64 r.calls, .int .i64 r.after, .bool r.done] := by unfold rkV; rw [ho]
      have q2 : rkV A' c' r.safed = .agg #[.slice A' r.S.length c', .bool false, .int .i64 r.calls, .int .i64 r.after, .bool r.done] := by unfold rkV Rk.safed; rw [List.length_map, ho]
      rw [q1, q2] at k
      refine k.mono ?_
      rintro e w' ⟨rfl, b⟩
      obtain ⟨A2, c2, e2, hr2⟩ := callV_pick (fun A S => RS W A S ∧ Out (w.heap.size + 1) A S) c c' r r.safed ha hb
      refine ⟨A2, c2, ?_, hr2.1.below b, hr2.2, b⟩
      rw [e2]
      unfold rkV
      rw [hl]
    have FIN := Lib.hid (fun W A2 c2 (h : RS W A2 (r.call r.safed).S) => show RkIs W (r.call r.safed) (.agg #[.slice A2 r.S.length c2, .bool (r.call r.safed).off, .int .i64 (r.call r.safed).calls, .int .i64 (r.call r.safed).after, .bool (r.call r.safed).done]) from ⟨A2, c2, by unfold rkV; rw [hl], h⟩)
    have q1 : rkV A c r = .agg #[.slice A r.S.length c, .bool false, .int .i64 r.calls, .int .i64 r.after, .bool r.done] := by unfold rkV; rw [ho]
    rw [q1]
    clear q1 hl h0 h1 h2 h3 hs ho
    generalize r.call r.safed = R at *
    generalize r.safed = T at *
    generalize r.callErr = re at *
    obtain ⟨S, off, calls, after, done⟩ := r
    obtain ⟨S2, off2, calls2, after2, done2⟩ := R
    simp only at KS KC FIN hr ⊢
    generalize hN : S.length = N at *
    have T0 := Lib.hid (fun x y => Two5.mk2 w x y)
    have B0 := Lib.hid (fun x y => ((Below.refl _ w).alloc (Nat.le_refl _) (.cells x 28)).alloc (by rw [heap_size_alloc]; omega) (.cells y 28))
    have HR := Lib.hid hr
    have OA := Lib.hid (show Out (w.heap.size + 1) A S from fun h ad e => by have := hr.lt h ad e; omega)
    clear hr hN
    go_enter Try.func37, Try.ntmps37
    go_wp2
    have t0 := T0.out #[.slice A N c, .bool false, .int .i64 calls, .int .i64 after, .bool done] #[.slice none 0 0, .bool false, .int .i64 0, .int .i64 0, .bool false]
    have b0 := B0.out #[.slice A N c, .bool false, .int .i64 calls, .int .i64 after, .bool done] #[.slice none 0 0, .bool false, .int .i64 0, .int .i64 0, .bool false]
    have TT := Lib.hid t0.drew
    have BB := Lib.hid b0.drew
    have HRD := Lib.hid (HR.out.below BB.out)
    clear t0 b0 T0 B0
    generalize World.alloc (World.alloc w _) _ = W0 at *
    have c0 := TT.out.c0
    have nb5 : w.heap.size ≠ w.heap.size + 1 := by omega
    go_region_held3 (fun W => W.cell? ⟨w.heap.size, 0, none⟩ = some (.slice A N c) ∧ W.cell? ⟨w.heap.size, 1, none⟩ = some (.bool false) ∧ W.cell? ⟨w.heap.size, 2, none⟩ = some (.int .i64 calls) ∧ W.cell? ⟨w.heap.size, 3, none⟩ = some (.int .i64 after) ∧ W.cell? ⟨w.heap.size, 4, none⟩ = some (.bool done)) (first | with_reducible assumption | with_reducible exact c0 | go_keep | fail)
      (first
        | (go_at_call 63; refine (KS.out _ HRD.out).mono ?_; rintro e w1 ⟨A1, c1, rfl, hr1, d1, b1⟩; have OA1 := Lib.hid (show Out (w.heap.size + 1) A1 T.S from fun _ ad e => by have := d1 ad e; have := TT.out.size; omega); have T1 := Lib.hid (TT.out.below TT.out.size b1); have s1 := T1.out.c0; have B1 := Lib.hid (BB.out.trans (b1.mono BB.out.size)); have HR1 := Lib.hid hr1; clear hr1 b1 d1)
        | (go_at_call 62; refine (KC.out _ _ _ ⟨HR.out.below B1.out, OA.out⟩ ⟨HR1.out, OA1.out⟩).mono ?_; rintro e w2 ⟨A2, c2, rfl, hr2, d2, b2⟩; have OA2 := Lib.hid d2; have T2 := Lib.hid (T1.out.below T1.out.size b2); have s2 := T2.out.c0; have B2 := Lib.hid (B1.out.trans (b2.mono B1.out.size)); have HR2 := Lib.hid hr2; obtain ⟨r0, r1, r2, r3, r4⟩ := T2.out.c1; have rf0 := T2.out.f1 0; have rf1 := T2.out.f1 1; have rf2 := T2.out.f1 2; have rf3 := T2.out.f1 3; have rf4 := T2.out.f1 4; clear hr2 b2 d2)
        | fail)
    all_goals
      go_wp2
      refine bodyPost_ret (v := .tuple #[.agg #[.slice A2 N c2, .bool off2, .int .i64 calls2, .int .i64 after2, .bool done2], .int .i64 (re : Int)]) (by simp [results, Try.results37, go_sem, r0, r1, r2, r3, r4]) rfl ⟨_, rfl, FIN.out _ _ _ ?_, ?_⟩
      · rcases HR2.out with e | ⟨g, rfl, hc⟩
        · exact .inl e
        · by_cases hS : S2 = []
          · exact .inl hS
          · have hg : g ≠ w.heap.size + 1 := OA2.out hS ⟨g, 0, none⟩ rfl
            refine .inr ⟨g, rfl, fun j u hj => ?_⟩
            have hcj := hc j u hj
            simpa [go_sem, hg, Ne.symm hg] using hcj
      · exact ((((B2.out.setCell (p := ⟨w.heap.size + 1, 0, none⟩) (by show w.heap.size ≤ w.heap.size + 1; omega) _).setCell (p := ⟨w.heap.size + 1, 1, none⟩) (by show w.heap.size ≤ w.heap.size + 1; omega) _).setCell (p := ⟨w.heap.size + 1, 2, none⟩) (by show w.heap.size ≤ w.heap.size + 1; omega) _).setCell (p := ⟨w.heap.size + 1, 3, none⟩) (by show w.heap.size ≤ w.heap.size + 1; omega) _).setCell (p := ⟨w.heap.size + 1, 4, none⟩) (by show w.heap.size ≤ w.heap.size + 1; omega) _
end Go.Proofs.Ytgnoodafaofkiaa
