/- The document's disk: Write. -/
import Derived.Test.YtidnpokjaklfpaaRfG
namespace Go.Proofs.Ytidnpokjaklfpaa
open Go.RowKit
set_option linter.unusedVariables false
def Rk.put (r : Rk) (k : Nat) (l : List UInt8) : Rk := { r with S := r.S.set k ⟨l, ((r.S[k]?).map (·.safe)).getD [], true⟩ }
def Rk.writeErr (r : Rk) (n : Int) (l : List UInt8) : Nat := if r.at n ≠ 0 then r.at n else if l.length ≠ 256 then 2 else r.callErr
def Rk.write (r : Rk) (n : Int) (l : List UInt8) : Rk := if r.at n ≠ 0 ∨ l.length ≠ 256 then r else r.call (r.put n.toNat l)
theorem Rk.at_ok {r : Rk} {n : Int} (h : r.at n = 0) : r.off = false ∧ 0 ≤ n ∧ n < (r.S.length : Int) := by
  unfold Rk.at at h
  split at h
  · cases h
  · rename_i ho
    split at h
    · cases h
    · exact ⟨by simpa using ho, by omega, by omega⟩
theorem Two5.res {b : Nat} {x : Array Value} {a0 a1 a2 a3 a4 : Value} {W : World} (h : Two5 b x #[a0, a1, a2, a3, a4] W) : Two5 b x #[a0, a1, a2, a3, a4] W := h
set_option maxHeartbeats 4000000 in
set_option maxRecDepth 100000 in
theorem refWriteNo_any (A : Option Addr) (c : Nat) (r : Rk) (n : Int) (B : Option Addr) (m e : Nat) (l : List UInt8) (w : World) (hs : r.S.length ≤ 4096) (hr : RS w A r.S) (hl : l.length = m) (hno : r.at n ≠ 0 ∨ m ≠ 256) :
    Calls Try.prog 40 #[rkV A c r, .int .i64 n, .slice B m e] w fun e w' => ∃ v, e = .returned (.tuple #[v, .int .i64 (r.writeErr n l : Int)]) ∧ RkIs w' r v ∧ Below w.heap.size w w' := by
  have KA := Lib.hid (fun W => refAt_any A c r n W hs)
  have HE := Lib.hid (show r.writeErr n l = if r.at n ≠ 0 then r.at n else 2 from by
    unfold Rk.writeErr
    by_cases h : r.at n ≠ 0
    · rw [if_pos h, if_pos h]
    · rw [if_neg h, if_neg h, if_pos (by rw [hl]; rcases hno with h' | h'; exact absurd h' h; exact h')])
  have FIN := Lib.hid (fun W (hb : Below w.heap.size w W) => show RkIs W r (rkV A c r) from ⟨A, c, rfl, hr.below hb⟩)
  generalize r.writeErr n l = er at *
  generalize r.at n = q at *
  obtain ⟨S, off, calls, after, done⟩ := r
  unfold rkV at *
  have KA : Hid (∀ W, Calls Try.prog 66 #[.agg #[.slice A S.length c, .bool off, .int .i64 calls, .int .i64 after, .bool done], .int .i64 n] W fun e w' => e = .returned (.int .i64 (q : Int)) ∧ Below W.heap.size W w') := KA
  have FIN : Hid (∀ W, Below w.heap.size w W → RkIs W ⟨S, off, calls, after, done⟩ (.agg #[.slice A S.length c, .bool off, .int .i64 calls, .int .i64 after, .bool done])) := FIN
  show Calls Try.prog 40 #[.agg #[.slice A S.length c, .bool off, .int .i64 calls, .int .i64 after, .bool done], .int .i64 n, .slice B m e] w _
  clear hr hs hl
  generalize S.length = N at *
  have T0 := Lib.hid (fun x y => Two5.mk2 w x y)
  have B0 := Lib.hid (fun x y => ((Below.refl _ w).alloc (Nat.le_refl _) (.cells x 28)).alloc (by rw [heap_size_alloc]; omega) (.cells y 28))
  go_enter Try.func40, Try.ntmps40
  go_wp2_with fail
  have t0 := T0.out #[.slice A N c, .bool off, .int .i64 calls, .int .i64 after, .bool done] #[.slice none 0 0, .bool false, .int .i64 0, .int .i64 0, .bool false]
  have b0 := B0.out #[.slice A N c, .bool off, .int .i64 calls, .int .i64 after, .bool done] #[.slice none 0 0, .bool false, .int .i64 0, .int .i64 0, .bool false]
  clear T0 B0
  generalize World.alloc (World.alloc w _) _ = W0 at *
  refine (KA.out _).mono ?_
  rintro e1 w1 ⟨rfl, b1⟩
  have T1 := Lib.hid (t0.below t0.size b1)
  have B1 := Lib.hid (b0.trans (b1.mono b0.size))
  obtain ⟨s0, s1, s2, s3, s4⟩ := T1.out.c0
  obtain ⟨r0, r1, r2, r3, r4⟩ := T1.out.c1
  have rf0 := T1.out.f1 0; have rf1 := T1.out.f1 1; have rf2 := T1.out.f1 2; have rf3 := T1.out.f1 3; have rf4 := T1.out.f1 4
  have nb5 : w.heap.size ≠ w.heap.size + 1 := by omega
  have FB := Lib.hid ((((((B1.out.setCell (p := ⟨w.heap.size + 1, 0, none⟩) (by show w.heap.size ≤ w.heap.size + 1; omega) (.slice A N c)).setCell (p := ⟨w.heap.size + 1, 1, none⟩) (by show w.heap.size ≤ w.heap.size + 1; omega) (.bool off)).setCell (p := ⟨w.heap.size + 1, 2, none⟩) (by show w.heap.size ≤ w.heap.size + 1; omega) (.int .i64 calls)).setCell (p := ⟨w.heap.size + 1, 3, none⟩) (by show w.heap.size ≤ w.heap.size + 1; omega) (.int .i64 after)).setCell (p := ⟨w.heap.size + 1, 4, none⟩) (by show w.heap.size ≤ w.heap.size + 1; omega) (.bool done)))
  clear b1 t0 b0 KA
  by_cases hq : q = 0
  · subst hq
    have hm : ((m : Int) != 256) = true := by rw [bne_iff_ne]; rcases hno with h | h; exact absurd rfl h; omega
    have HE2 : Hid (er = 2) := Lib.hid (by rw [HE.out]; rfl)
    clear hno HE
    go_wp2
    refine bodyPost_ret (v := .tuple #[.agg #[.slice A N c, .bool off, .int .i64 calls, .int .i64 after, .bool done], .int .i64 2]) (by simp [results, Try.results40, go_sem, r0, r1, r2, r3, r4]) rfl ⟨_, by rw [HE2.out]; rfl, FIN.out _ ?_, ?_⟩
    · exact FB.out
    · exact FB.out
  · have hqb : ((q : Int) != 0) = true := by rw [bne_iff_ne]; omega
    have HE2 : Hid (er = q) := Lib.hid (by rw [HE.out, if_pos hq])
    clear hno HE hq
    go_wp2
    refine bodyPost_ret (v := .tuple #[.agg #[.slice A N c, .bool off, .int .i64 calls, .int .i64 after, .bool done], .int .i64 (q : Int)]) (by simp [results, Try.results40, go_sem, r0, r1, r2, r3, r4]) rfl ⟨_, by rw [HE2.out], FIN.out _ ?_, ?_⟩
    · exact FB.out
    · exact FB.out
theorem RB.blt {w : World} {A : Option Addr} {l : List UInt8} (h : RB w A l) (hl : l ≠ []) : ∀ ad, A = some ad → ad.block < w.heap.size := by
  intro ad e
  rcases h with e' | ⟨ad', e', hc⟩
  · exact absurd e' hl
  · rw [e] at e'
    injection e' with e'
    subst e'
    cases l with
    | nil => exact absurd rfl hl
    | cons x l =>
      have := lt_of_cell (hc 0 x rfl)
      rwa [Addr.add_nought] at this
/-- Five cells of the block b are written. -/
def set5 (W : World) (b : Nat) (a0 a1 a2 a3 a4 : Value) : World := ((((W.setCell ⟨b, 0, none⟩ a0).setCell ⟨b, 1, none⟩ a1).setCell ⟨b, 2, none⟩ a2).setCell ⟨b, 3, none⟩ a3).setCell ⟨b, 4, none⟩ a4
theorem cell_set5 (W : World) (b : Nat) (p : Addr) (h : p.block ≠ b) (a0 a1 a2 a3 a4 : Value) : (((((W.setCell ⟨b, 0, none⟩ a0).setCell ⟨b, 1, none⟩ a1).setCell ⟨b, 2, none⟩ a2).setCell ⟨b, 3, none⟩ a3).setCell ⟨b, 4, none⟩ a4).cell? p = W.cell? p := by
  have one : ∀ (W : World) (i : Nat) (v : Value), (W.setCell ⟨b, i, none⟩ v).cell? p = W.cell? p := fun W i v => World.cell?_of_block (w := W) (Below.heap_setCell _ _ _ _ h)
  rw [one, one, one, one, one]
theorem RB.set5 {W : World} {B : Option Addr} {l : List UInt8} {b : Nat} (h : RB W B l) (hne : ∀ ad, B = some ad → ad.block ≠ b) (a0 a1 a2 a3 a4 : Value) : RB (((((W.setCell ⟨b, 0, none⟩ a0).setCell ⟨b, 1, none⟩ a1).setCell ⟨b, 2, none⟩ a2).setCell ⟨b, 3, none⟩ a3).setCell ⟨b, 4, none⟩ a4) B l := by
  rcases h with rfl | ⟨ad, rfl, hc⟩
  · exact .inl rfl
  · refine .inr ⟨ad, rfl, fun j x hx => ?_⟩
    have hb : (ad.add j).block ≠ b := by rw [block_of_add]; exact hne ad rfl
    have one : ∀ (W : World) (i : Nat) (v : Value), (W.setCell ⟨b, i, none⟩ v).cell? (ad.add j) = W.cell? (ad.add j) := fun W i v => World.cell?_of_block (w := W) (Below.heap_setCell _ _ _ _ hb)
    rw [one, one, one, one, one]
    exact hc j x hx
set_option maxHeartbeats 4000000 in
set_option maxRecDepth 100000 in
theorem refWriteYes_any (A : Option Addr) (c : Nat) (r : Rk) (k : Nat) (B : Option Addr) (e : Nat) (l : List UInt8) (w : World) (hs : r.S.length ≤ 4096) (hr : RS w A r.S) (hl : l.length = 256) (hb : RB w B l) (hat : r.at (k : Int) = 0) (h0 : 0 ≤ r.calls) (h1 : r.calls ≤ 4611686018427387904) (h2 : -1 ≤ r.after) (h3 : r.after ≤ 9223372036854775807) :
    Calls Try.prog 40 #[rkV A c r, .int .i64 (k : Int), .slice B 256 e] w fun e w' => ∃ v, e = .returned (.tuple #[v, .int .i64 (r.callErr : Int)]) ∧ RkIs w' (r.call (r.put k l)) v ∧ Below w.heap.size w w' := by
  have KA := Lib.hid (fun W => refAt_any A c r (k : Int) W hs)
  rw [hat] at KA
  obtain ⟨ho, _, hk⟩ := Rk.at_ok hat
  have hk : k < r.S.length := by omega
  obtain ⟨g, hA, hg, y0, x1, y2⟩ := hr.at_ (List.getElem?_eq_getElem hk)
  clear y0 y2
  have hsafe : ((r.S[k]?).map (·.safe)).getD [] = r.S[k].safe := by rw [List.getElem?_eq_getElem hk]; rfl
  have hput : r.put k l = { r with S := r.S.set k ⟨l, r.S[k].safe, true⟩ } := by unfold Rk.put; rw [hsafe]
  have hlen : (r.put k l).S.length = r.S.length := by rw [hput]; simp
  have hl2 : (r.call (r.put k l)).S.length = r.S.length := Rk.call_len r (r.put k l) hlen
  have KW : Hid (∀ W, RS W A r.S → Calls Try.prog 65 #[.agg #[.slice A r.S.length c, .bool false, .int .i64 r.calls, .int .i64 r.after, .bool r.done], .int .i64 (k : Int), .agg #[.string (str l), .string (str r.S[k].safe), .bool true]] W fun e w' => ∃ A' c', e = .returned (.agg #[.slice A' r.S.length c', .bool false, .int .i64 r.calls, .int .i64 r.after, .bool r.done]) ∧ RS w' A' (r.put k l).S ∧ (∀ ad, A' = some ad → W.heap.size ≤ ad.block) ∧ Below W.heap.size W w') := Lib.hid fun W h => by
    have kk := refWith_any A c r k ⟨l, r.S[k].safe, true⟩ W hk hs h
    unfold rkV at kk
    rw [ho, List.length_set] at kk
    refine kk.mono ?_
    rintro e w' ⟨A', c', rfl, a, d, b⟩
    exact ⟨A', c', rfl, by rw [hput]; exact a, d, b⟩
  have KC : Hid (∀ A' c' W, RS W A r.S ∧ Out (w.heap.size + 1) A r.S → RS W A' (r.put k l).S ∧ Out (w.heap.size + 1) A' (r.put k l).S → Calls Try.prog 62 #[.agg #[.slice A r.S.length c, .bool false, .int .i64 r.calls, .int .i64 r.after, .bool r.done], .agg #[.slice A' r.S.length c', .bool false, .int .i64 r.calls, .int .i64 r.after, .bool r.done]] W fun e w' => ∃ A2 c2, e = .returned (.tuple #[.agg #[.slice A2 r.S.length c2, .bool (r.call (r.put k l)).off, .int .i64 (r.call (r.put k l)).calls, .int .i64 (r.call (r.put k l)).after, .bool (r.call (r.put k l)).done], .int .i64 (r.callErr : Int)]) ∧ RS w' A2 (r.call (r.put k l)).S ∧ Out (w.heap.size + 1) A2 (r.call (r.put k l)).S ∧ Below W.heap.size W w') := Lib.hid fun A' c' W ha hb => by
    have kk := refCall_any A A' c c' r (r.put k l) W h0 h1 h2 h3
    have q1 : rkV A c r = .agg #[.slice A r.S.length c, .bool false, .int .i64 r.calls, .int .i64 r.after, .bool r.done] := by unfold rkV; rw [ho]
    have q2 : rkV A' c' (r.put k l) = .agg #[.slice A' r.S.length c', .bool false, .int .i64 r.calls, .int .i64 r.after, .bool r.done] := by
      unfold rkV
      rw [hlen, show (r.put k l).off = false from ho]
      rfl
    rw [q1, q2] at kk
    refine kk.mono ?_
    rintro e w' ⟨rfl, b⟩
    obtain ⟨A2, c2, e2, hr2⟩ := callV_pick (fun A S => RS W A S ∧ Out (w.heap.size + 1) A S) c c' r (r.put k l) ha hb
    refine ⟨A2, c2, ?_, hr2.1.below b, hr2.2, b⟩
    rw [e2]
    unfold rkV
    rw [hl2]
  have FIN := Lib.hid (fun W A2 c2 (h : RS W A2 (r.call (r.put k l)).S) => show RkIs W (r.call (r.put k l)) (.agg #[.slice A2 r.S.length c2, .bool (r.call (r.put k l)).off, .int .i64 (r.call (r.put k l)).calls, .int .i64 (r.call (r.put k l)).after, .bool (r.call (r.put k l)).done]) from ⟨A2, c2, by unfold rkV; rw [hl2], h⟩)
  have q1 : rkV A c r = .agg #[.slice A r.S.length c, .bool false, .int .i64 r.calls, .int .i64 r.after, .bool r.done] := by unfold rkV; rw [ho]
  rw [q1] at KA ⊢
  clear q1 hl2 h0 h1 h2 h3 hs ho hat hput hlen hsafe
  generalize r.call (r.put k l) = R at *
  generalize r.put k l = T at *
  generalize r.callErr = re at *
  generalize r.S[k].safe = sf at *
  obtain ⟨S, off, calls, after, done⟩ := r
  obtain ⟨S2, off2, calls2, after2, done2⟩ := R
  simp only at KW KC FIN KA hr hk ⊢
  subst hA
  generalize hN : S.length = N at *
  have T0 := Lib.hid (fun x y => Two5.mk2 w x y)
  have B0 := Lib.hid (fun x y => ((Below.refl _ w).alloc (Nat.le_refl _) (.cells x 28)).alloc (by rw [heap_size_alloc]; omega) (.cells y 28))
  have HR := Lib.hid hr
  have HBB := Lib.hid hb
  have HLL := Lib.hid hl
  have X1 := Lib.hid x1
  have OA := Lib.hid (show Out (w.heap.size + 1) (some ⟨g, 0, none⟩) S from fun h ad e => by have := hr.lt h ad e; omega)
  have kk0 : (k : Int) < (N : Int) := by omega
  clear hr hN hb hl x1
  go_enter Try.func40, Try.ntmps40
  go_wp2_with fail
  have t0 := T0.out #[.slice (some ⟨g, 0, none⟩) N c, .bool false, .int .i64 calls, .int .i64 after, .bool done] #[.slice none 0 0, .bool false, .int .i64 0, .int .i64 0, .bool false]
  have b0 := B0.out #[.slice (some ⟨g, 0, none⟩) N c, .bool false, .int .i64 calls, .int .i64 after, .bool done] #[.slice none 0 0, .bool false, .int .i64 0, .int .i64 0, .bool false]
  clear T0 B0
  generalize World.alloc (World.alloc w _) _ = W0 at *
  refine (KA.out _).mono ?_
  rintro e1 w1 ⟨rfl, b1⟩
  have TT := Lib.hid (t0.below t0.size b1).drew
  have BB := Lib.hid (b0.trans (b1.mono b0.size)).drew
  clear b1 t0 b0 KA
  have HRD := Lib.hid (HR.out.below BB.out)
  obtain ⟨s0, s1, s2, s3, s4⟩ := TT.out.c0
  have nb5 : w.heap.size ≠ w.heap.size + 1 := by omega
  have nb6 : g ≠ w.heap.size + 1 := by omega
  have NB := Lib.hid (show ∀ ad, B = some ad → ad.block ≠ w.heap.size + 1 from fun ad e => by have := RB.blt HBB.out (fun h => by have := HLL.out; rw [h] at this; cases this) ad e; omega)
  go_upto_region 6 with fail
  have hsf : w1.drew.cell? ⟨g, k * 3 + 1, none⟩ = some (.string (str sf)) := (BB.out.cell (p := ⟨g, k * 3 + 1, none⟩) hg).trans X1.out
  have hcv := run_str w1.drew B 256 e l HLL.out (HBB.out.below BB.out)
  have c0 : w1.drew.cell? ⟨w.heap.size, 0, none⟩ = some (.slice (some ⟨g, 0, none⟩) N c) ∧ w1.drew.cell? ⟨w.heap.size, 1, none⟩ = some (.bool false) ∧ w1.drew.cell? ⟨w.heap.size, 2, none⟩ = some (.int .i64 calls) ∧ w1.drew.cell? ⟨w.heap.size, 3, none⟩ = some (.int .i64 after) ∧ w1.drew.cell? ⟨w.heap.size, 4, none⟩ = some (.bool done) ∧ w1.drew.cell? ⟨g, k * 3 + 1, none⟩ = some (.string (str sf)) ∧ (convert 32 9 (.slice B 256 e)).run Try.prog w1.drew = .ok (.string (str l)) w1.drew := ⟨s0, s1, s2, s3, s4, hsf, hcv⟩
  go_region_held3 (fun W => W.cell? ⟨w.heap.size, 0, none⟩ = some (.slice (some ⟨g, 0, none⟩) N c) ∧ W.cell? ⟨w.heap.size, 1, none⟩ = some (.bool false) ∧ W.cell? ⟨w.heap.size, 2, none⟩ = some (.int .i64 calls) ∧ W.cell? ⟨w.heap.size, 3, none⟩ = some (.int .i64 after) ∧ W.cell? ⟨w.heap.size, 4, none⟩ = some (.bool done) ∧ W.cell? ⟨g, k * 3 + 1, none⟩ = some (.string (str sf)) ∧ (convert 32 9 (.slice B 256 e)).run Try.prog W = .ok (.string (str l)) W) (first | with_reducible assumption | with_reducible exact c0 | with_reducible exact c2 | with_reducible exact c3 | with_reducible exact KP5.out _ _ _ _ _ | fail)
    (first
      | (go_at_call 65; refine (KW.out _ HRD.out).mono ?_; rintro e w2 ⟨A1, c1, rfl, hr1, d1, b2⟩; have OA1 := Lib.hid (show Out (w.heap.size + 1) A1 T.S from fun _ ad e => by have := d1 ad e; have := TT.out.size; omega); have T1 := Lib.hid (TT.out.below TT.out.size b2); have B1 := Lib.hid (BB.out.trans (b2.mono BB.out.size)); obtain ⟨u0, u1, u2, u3, u4⟩ := T1.out.c0; have c2 := And.intro u0 (And.intro u1 (And.intro u2 (And.intro u3 (And.intro u4 (And.intro ((b2.cell (p := ⟨g, k * 3 + 1, none⟩) (lt_of_cell hsf)).trans hsf) (run_str w2 B 256 e l HLL.out (HBB.out.below B1.out))))))); have HR1 := Lib.hid hr1; clear hr1 b2 d1)
      | (go_at_call 62; refine (KC.out _ _ _ ⟨HR.out.below B1.out, OA.out⟩ ⟨HR1.out, OA1.out⟩).mono ?_; rintro e w3 ⟨A2, c4, rfl, hr2, d2, b3⟩; have OA2 := Lib.hid d2; have T2 := Lib.hid (T1.out.below T1.out.size b3); have B2 := Lib.hid (B1.out.trans (b3.mono B1.out.size)); obtain ⟨v0, v1, v2, v3, v4⟩ := T2.out.c0; have c3 := And.intro v0 (And.intro v1 (And.intro v2 (And.intro v3 (And.intro v4 (And.intro ((b3.cell (p := ⟨g, k * 3 + 1, none⟩) (lt_of_cell c2.2.2.2.2.2.1)).trans c2.2.2.2.2.2.1) (run_str w3 B 256 e l HLL.out (HBB.out.below B2.out))))))); have KP5 := Lib.hid (fun a0 a1 a2 a3 a4 => And.intro ((cell_set5 w3 (w.heap.size + 1) ⟨w.heap.size, 0, none⟩ nb5 a0 a1 a2 a3 a4).trans v0) (And.intro ((cell_set5 w3 (w.heap.size + 1) ⟨w.heap.size, 1, none⟩ nb5 a0 a1 a2 a3 a4).trans v1) (And.intro ((cell_set5 w3 (w.heap.size + 1) ⟨w.heap.size, 2, none⟩ nb5 a0 a1 a2 a3 a4).trans v2) (And.intro ((cell_set5 w3 (w.heap.size + 1) ⟨w.heap.size, 3, none⟩ nb5 a0 a1 a2 a3 a4).trans v3) (And.intro ((cell_set5 w3 (w.heap.size + 1) ⟨w.heap.size, 4, none⟩ nb5 a0 a1 a2 a3 a4).trans v4) (And.intro ((cell_set5 w3 (w.heap.size + 1) ⟨g, k * 3 + 1, none⟩ nb6 a0 a1 a2 a3 a4).trans c3.2.2.2.2.2.1) (run_str _ B 256 e l HLL.out (RB.set5 (b := w.heap.size + 1) (HBB.out.below B2.out) NB.out a0 a1 a2 a3 a4)))))))); have HR2 := Lib.hid hr2; obtain ⟨r0, r1, r2, r3, r4⟩ := T2.out.c1; have rf0 := T2.out.f1 0; have rf1 := T2.out.f1 1; have rf2 := T2.out.f1 2; have rf3 := T2.out.f1 3; have rf4 := T2.out.f1 4; clear hr2 b3 d2)
      | fail)
  all_goals
    go_wp2
    refine bodyPost_ret (v := .tuple #[.agg #[.slice A2 N c4, .bool off2, .int .i64 calls2, .int .i64 after2, .bool done2], .int .i64 (re : Int)]) (by simp [results, Try.results40, go_sem, r0, r1, r2, r3, r4]) rfl ⟨_, rfl, FIN.out _ _ _ ?_, ?_⟩
    · rcases HR2.out with e | ⟨g, rfl, hc⟩
      · exact .inl e
      · by_cases hS : S2 = []
        · exact .inl hS
        · have hg : g ≠ w.heap.size + 1 := OA2.out hS ⟨g, 0, none⟩ rfl
          refine .inr ⟨g, rfl, fun j u hj => ?_⟩
          have hcj := hc j u hj
          simpa [go_sem, hg, Ne.symm hg] using hcj
    · exact ((((B2.out.setCell (p := ⟨w.heap.size + 1, 0, none⟩) (by show w.heap.size ≤ w.heap.size + 1; omega) _).setCell (p := ⟨w.heap.size + 1, 1, none⟩) (by show w.heap.size ≤ w.heap.size + 1; omega) _).setCell (p := ⟨w.heap.size + 1, 2, none⟩) (by show w.heap.size ≤ w.heap.size + 1; omega) _).setCell (p := ⟨w.heap.size + 1, 3, none⟩) (by show w.heap.size ≤ w.heap.size + 1; omega) _).setCell (p := ⟨w.heap.size + 1, 4, none⟩) (by show w.heap.size ≤ w.heap.size + 1; omega) _
theorem refWrite_any (A : Option Addr) (c : Nat) (r : Rk) (n : Int) (B : Option Addr) (m e : Nat) (l : List UInt8) (w : World) (hs : r.S.length ≤ 4096) (hr : RS w A r.S) (hl : l.length = m) (hb : RB w B l) (h0 : 0 ≤ r.calls) (h1 : r.calls ≤ 4611686018427387904) (h2 : -1 ≤ r.after) (h3 : r.after ≤ 9223372036854775807) :
    Calls Try.prog 40 #[rkV A c r, .int .i64 n, .slice B m e] w fun e w' => ∃ v, e = .returned (.tuple #[v, .int .i64 (r.writeErr n l : Int)]) ∧ RkIs w' (r.write n l) v ∧ Below w.heap.size w w' := by
  by_cases hno : r.at n ≠ 0 ∨ l.length ≠ 256
  · have e1 : r.write n l = r := if_pos hno
    rw [e1]
    exact refWriteNo_any A c r n B m e l w hs hr hl (by rw [← hl]; exact hno)
  · have e1 : r.write n l = r.call (r.put n.toNat l) := if_neg hno
    have hat : r.at n = 0 := by
      rcases Nat.eq_zero_or_pos (r.at n) with h | h
      · exact h
      · exact absurd (.inl (by omega)) hno
    have hlen : l.length = 256 := by
      by_cases h : l.length = 256
      · exact h
      · exact absurd (.inr h) hno
    have e2 : r.writeErr n l = r.callErr := by unfold Rk.writeErr; rw [hat, if_neg (by simp), if_neg (by simp [hlen])]
    obtain ⟨_, hn0, _⟩ := Rk.at_ok hat
    obtain ⟨k, rfl⟩ := Int.eq_ofNat_of_zero_le hn0
    obtain rfl : m = 256 := by omega
    rw [e1, e2]
    exact refWriteYes_any A c r k B e l w hs hr hlen hb hat h0 h1 h2 h3
end Go.Proofs.Ytidnpokjaklfpaa
