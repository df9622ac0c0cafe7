/- The document's Write of a block: the walk. -/
import Derived.Test.YtidnpokjaklfpaaBrE
namespace Go.Proofs.Ytidnpokjaklfpaa
open Go.RowKit
set_option linter.unusedVariables false
/-- Between two sectors that are written. -/
structure Bu (w : World) (r : Rk) (g g2 X : Nat) (B : List UInt8) (y : Array Value) (k : Nat) (A' : Option Addr) (c' : Nat) (wr : World) : Prop where
  bx : B3 w.heap.size #[.slice A' (r.bw (X : Int) B k).1.S.length c', .bool (r.bw (X : Int) B k).1.off, .int .i64 (r.bw (X : Int) B k).1.calls, .int .i64 (r.bw (X : Int) B k).1.after, .bool (r.bw (X : Int) B k).1.done] y wr
  rs : RS wr A' (r.bw (X : Int) B k).1.S
  n4 : N4 wr g2 X
  rb : RB wr (some ⟨g, 0, none⟩) B
  below : Below w.heap.size w wr
theorem Bu.next {w : World} {r : Rk} {g g2 X : Nat} {B : List UInt8} {y : Array Value} {k : Nat} {A' A2 : Option Addr} {c' c2 : Nat} {wr w5 : World} (h : Bu w r g g2 X B y k A' c' wr) (h0 : (r.bw (X : Int) B k).2 = 0) (hb : Below wr.heap.size wr w5) (rs : RS w5 A2 ((r.bw (X : Int) B k).1.write ((X : Int) + k) (part B k)).S) (hg : w.heap.size + 2 < g) (hg2 : w.heap.size + 2 < g2) :
    Bu w r g g2 X B y (k + 1) A2 c2 (set5 w5 w.heap.size (.slice A2 ((r.bw (X : Int) B k).1.write ((X : Int) + k) (part B k)).S.length c2) (.bool ((r.bw (X : Int) B k).1.write ((X : Int) + k) (part B k)).off) (.int .i64 ((r.bw (X : Int) B k).1.write ((X : Int) + k) (part B k)).calls) (.int .i64 ((r.bw (X : Int) B k).1.write ((X : Int) + k) (part B k)).after) (.bool ((r.bw (X : Int) B k).1.write ((X : Int) + k) (part B k)).done)) := by
  have e : (r.bw (X : Int) B (k + 1)).1 = (r.bw (X : Int) B k).1.write ((X : Int) + k) (part B k) := by
    have : r.bw (X : Int) B (k + 1) = ((r.bw (X : Int) B k).1.write ((X : Int) + k) (part B k), (r.bw (X : Int) B k).1.writeErr ((X : Int) + k) (part B k)) := if_pos h0
    rw [this]
  have hB := h.bx.below hb
  refine ⟨by rw [e]; exact hB.set _ _ _ _ _, by rw [e]; exact rs.set5 hB.c0.1 (fun t e => by cases e) _ _ _ _ _, fun j hj => (cell_set5 _ _ _ (by simp only; omega) _ _ _ _ _).trans (h.n4.below hb j hj), ?_, below_set5 (h.below.trans (hb.mono h.below.size)) (Nat.le_refl _) _ _ _ _ _⟩
  exact RB.set5 (h.rb.below hb) (fun ad e => by injection e with e; subst e; simp only; omega) _ _ _ _ _
set_option maxHeartbeats 1000000 in
set_option maxRecDepth 100000 in
theorem refBwrite_any (A : Option Addr) (c : Nat) (r : Rk) (a : Ar) (n : Int) (D : Option Addr) (m e : Nat) (l : List UInt8) (w : World) (hs : r.S.length ≤ 4096) (hr : RS w A r.S) (hok : RkOk r r.S.length 4611686018427387900) (hl : l.length = m) (hm : m ≤ 65536) (hb : RB w D l) :
    Calls Try.prog 55 #[rkV A c r, a.v, .int .i64 n, .slice D m e] w fun e w' => ∃ v, e = .returned (.tuple #[v, .int .i64 ((r.bwrite a n l).2 : Int)]) ∧ RkIs w' (r.bwrite a n l).1 v ∧ Below w.heap.size w w' := by
  have K1 := Lib.hid (fun W => refBat_any A c r a n W hs)
  have HZ := Lib.hid (show ∀ f, f = a.fault r.S.length n → f ≠ 0 → r.bwrite a n l = (r, f) from fun f hf h0 => by subst hf; exact if_pos h0)
  have HB := Lib.hid (show a.fault r.S.length n = 0 → 1016 < l.length → r.bwrite a n l = (r, 5) from fun h0 h1 => (if_neg (by simp [h0])).trans (if_pos h1))
  have HS := Lib.hid (show a.fault r.S.length n = 0 → ¬ 1016 < l.length → r.bwrite a n l = r.bw (a.first + 4 * n) (sealL l 1024) 4 from fun h0 h1 => (if_neg (by simp [h0])).trans (if_neg h1))
  have KN := Lib.hid (fun W (X : Nat) (h1 : a.may = true) (h2 : a.has n = true) (hX : a.first + 4 * n = (X : Int)) => refSectors_some a n X W h1 h2 hX)
  have HF := Lib.hid (show a.fault r.S.length n = 0 → _ from Ar.fault_ok)
  have OK := Lib.hid hok
  have R0 := Lib.hid hr
  have RD := Lib.hid hb
  have HL := Lib.hid hl
  unfold rkV at *
  obtain ⟨p, q⟩ := a
  have K1 : Hid (∀ W, Calls Try.prog 58 #[.agg #[.slice A r.S.length c, .bool r.off, .int .i64 r.calls, .int .i64 r.after, .bool r.done], .agg #[.int .i64 p, .int .i64 q], .int .i64 n] W fun e w' => e = .returned (.int .i64 (Ar.fault ⟨p, q⟩ r.S.length n : Int)) ∧ Below W.heap.size W w') := K1
  show Calls Try.prog 55 #[.agg #[.slice A r.S.length c, .bool r.off, .int .i64 r.calls, .int .i64 r.after, .bool r.done], .agg #[.int .i64 p, .int .i64 q], .int .i64 n, .slice D m e] w _
  have KN : Hid (∀ W X, Ar.may ⟨p, q⟩ = true → Ar.has ⟨p, q⟩ n = true → p + 4 * n = ((X : Nat) : Int) → Calls Try.prog 32 #[.agg #[.int .i64 p, .int .i64 q], .int .i64 n] W fun e w' => ∃ v, e = .returned v ∧ w'.ownsRow (W.heap.size + 1) 3 1 v (from4 X 4).length (rowN (from4 X 4)) ∧ Below W.heap.size W w') := KN
  have HS : Hid (Ar.fault ⟨p, q⟩ r.S.length n = 0 → ¬ 1016 < l.length → r.bwrite ⟨p, q⟩ n l = r.bw (p + 4 * n) (sealL l 1024) 4) := HS
  have HF : Hid (Ar.fault ⟨p, q⟩ r.S.length n = 0 → Ar.may ⟨p, q⟩ = true ∧ Ar.has ⟨p, q⟩ n = true ∧ ∃ X : Nat, p + 4 * n = (X : Int) ∧ X + 4 ≤ r.S.length) := HF
  have T0 := Lib.hid (B3.mk3 w #[.slice A r.S.length c, .bool r.off, .int .i64 r.calls, .int .i64 r.after, .bool r.done] #[.int .i64 p, .int .i64 q])
  generalize r.bwrite ⟨p, q⟩ n l = R at *
  generalize Ar.fault ⟨p, q⟩ r.S.length n = f at *
  have nb5 : w.heap.size ≠ w.heap.size + 2 := by omega
  clear hr hb hl
  by_cases hf : f = 0
  · subst hf
    obtain ⟨hm1, hm2, X, hX, hX4⟩ := HF.out rfl
    have KN := Lib.hid (fun W => KN.out W X hm1 hm2 hX)
    have HR2 := Lib.hid (show (1016 < m → R = (r, 5)) ∧ (¬ 1016 < m → R = r.bw (X : Int) (sealL l 1024) 4) from ⟨fun h => HB.out rfl (by rw [HL.out]; exact h), fun h => by rw [← hX]; exact HS.out rfl (by rw [HL.out]; exact h)⟩)
    clear HF HB HS HZ hX hX4 hm1 hm2
    go_enter Try.func55, Try.ntmps55
    go_wp2_with fail
    obtain ⟨t0, t1⟩ := T0.out
    refine (K1.out _).mono ?_
    rintro e1 w1 ⟨rfl, b1⟩
    have X1 := Lib.hid (t0.below b1)
    have B1 := Lib.hid (t1.trans (b1.mono t1.size))
    clear t0 t1 b1 K1 T0
    by_cases hbig : 1016 < m
    · have KB := Lib.hid (refSeal_big D m e 1024 w1 (by omega) (by omega) (by omega))
      have HR := Lib.hid (HR2.out.1 hbig)
      go_wp2_with fail
      refine KB.out.mono ?_
      rintro e2 w2 ⟨rfl, rfl⟩
      have y0 : w1.cell? ⟨w.heap.size + 1, 0, none⟩ = some (.int .i64 p) := (cell_of_row w1 _ 0 _ _ _ X1.out.b1).trans rfl
      have y1 : w1.cell? ⟨w.heap.size + 1, 1, none⟩ = some (.int .i64 q) := (cell_of_row w1 _ 1 _ _ _ X1.out.b1).trans rfl
      go_wp2_with fail
      refine (KN.out _).mono ?_
      rintro e3 w3 ⟨v3, rfl, o3, b3⟩
      obtain ⟨g2, cap, rfl, hg2, n4⟩ := N4.ofOwn o3
      have X3 := Lib.hid (X1.out.below b3)
      have B3' := Lib.hid (B1.out.trans (b3.mono B1.out.size))
      have R3 := Lib.hid (R0.out.below B3'.out)
      clear o3 b3 n4 y0 y1
      go_wp2
      go_loopw [10, 13] (fun ev i wr => ev = .int .i64 5 ∧ i = .int .i64 0 ∧ wr = w3) (fun _ _ _ => 0)
      case atStart => exact ⟨rfl, rfl, rfl⟩
      case round =>
        obtain ⟨rfl, rfl, rfl⟩ := hrel
        obtain ⟨j0, j1, j2, j3, j4⟩ := X3.out.c0
        obtain ⟨o0, o1, o2, o3, o4⟩ := X3.out.c2
        have z0 := X3.out.f2 0; have z1 := X3.out.f2 1; have z2 := X3.out.f2 2; have z3 := X3.out.f2 3; have z4 := X3.out.f2 4
        have FIN := Lib.hid (fun a0 a1 a2 a3 a4 => RkIs.res (c' := c) R3.out X3.out B3'.out a0 a1 a2 a3 a4)
        go_wp2
        refine bodyPost_ret (v := .tuple #[.agg #[.slice A r.S.length c, .bool r.off, .int .i64 r.calls, .int .i64 r.after, .bool r.done], .int .i64 5]) (by simp [results, Try.results55, go_sem, o0, o1, o2, o3, o4]) rfl ⟨_, by rw [HR.out]; rfl, by rw [HR.out]; exact (FIN.out _ _ _ _ _).1, (FIN.out _ _ _ _ _).2⟩
    · have KB := Lib.hid (refSeal_ok D m e 1024 l w1 HL.out (by omega) (by omega) (RD.out.below B1.out))
      have HR := Lib.hid (HR2.out.2 hbig)
      have HL2 := Lib.hid (seal_len l 1024 (by rw [HL.out]; omega))
      go_wp2_with fail
      refine KB.out.mono ?_
      rintro e2 w2 ⟨v2, rfl, o2, b2⟩
      generalize sealL l 1024 = B at *
      obtain ⟨g, cg, rfl, hg, hcg⟩ : ∃ g cg, v2 = .slice (some ⟨g, 0, none⟩) 1024 cg ∧ w1.heap.size ≤ g ∧ 1024 ≤ cg := by
        rcases o2.2 with ⟨e, h0⟩ | ⟨g, cap, cur, e, hb, hh, hc, _⟩
        · rw [HL2.out] at h0; cases h0
        · exact ⟨g, cap, by rw [e, HL2.out], hb, by rw [HL2.out] at hc; exact hc⟩
      have X2 := Lib.hid (X1.out.below b2)
      have B2 := Lib.hid (B1.out.trans (b2.mono B1.out.size))
      have RB2 := Lib.hid o2.reads
      have hsz : w.heap.size + 2 < w1.heap.size := (Array.getElem?_eq_some_iff.1 X1.out.b2).1
      have hgg : Hid (w.heap.size + 2 < g) := Lib.hid (by omega)
      have y0 : w2.cell? ⟨w.heap.size + 1, 0, none⟩ = some (.int .i64 p) := (cell_of_row w2 _ 0 _ _ _ X2.out.b1).trans rfl
      have y1 : w2.cell? ⟨w.heap.size + 1, 1, none⟩ = some (.int .i64 q) := (cell_of_row w2 _ 1 _ _ _ X2.out.b1).trans rfl
      have hsz2 : w1.heap.size ≤ w2.heap.size := b2.size
      clear o2 b2 KB hg
      go_wp2_with fail
      refine (KN.out _).mono ?_
      rintro e3 w3 ⟨v3, rfl, o3, b3⟩
      obtain ⟨g2, cap, rfl, hg2, n4⟩ := N4.ofOwn o3
      have hgg2 : Hid (w.heap.size + 2 < g2) := Lib.hid (by omega)
      have ST : Hid (Bu w r g g2 X B #[.int .i64 p, .int .i64 q] 0 A c w3) := Lib.hid ⟨X2.out.below b3, R0.out.below (B2.out.trans (b3.mono B2.out.size)), n4, RB2.out.below b3, B2.out.trans (b3.mono B2.out.size)⟩
      clear o3 b3 n4 y0 y1 hg2 hsz hsz2 X1 B1 X2 B2 RB2
      go_wp2
      go_loopw [10, 13] (fun ev i wr => ∃ (k : Nat) (A' : Option Addr) (c' : Nat), k ≤ 4 ∧ i = .int .i64 (k : Int) ∧ ev = .int .i64 ((r.bw (X : Int) B k).2 : Int) ∧ Bu w r g g2 X B #[.int .i64 p, .int .i64 q] k A' c' wr) (fun _ i _ => 4 - (RowKit.intOf i).toNat)
      case atStart => exact ⟨0, A, c, Nat.zero_le _, rfl, rfl, ST.out⟩
      case round =>
        obtain ⟨k, A', c', hk, rfl, rfl, st⟩ := hrel
        have SQ := Lib.hid st
        have fin : ∀ (R2 : Rk × Nat), R = R2 → (r.bw (X : Int) B k) = R2 → True := fun _ _ _ => trivial
        by_cases hgo : k < 4 ∧ (r.bw (X : Int) B k).2 = 0
        · obtain ⟨hlt, h0⟩ := hgo
          have kk : (k : Int) < 4 := by omega
          have okk := OK.out.bw (X : Int) B k
          have KW := refWrite_any A' c' (r.bw (X : Int) B k).1 ((X : Int) + k) (some ⟨g, k * 256, none⟩) 256 (cg - k * 256) (part B k) wr.drew (by rw [okk.len]; exact hs) st.rs.drew (part_len HL2.out hlt) (part_rb st.rb k).drew okk.c0 (by have := okk.c1; omega) okk.a0 okk.a1
          unfold rkV at KW
          have KW := Lib.hid KW
          obtain ⟨j0, j1, j2, j3, j4⟩ := st.bx.c0
          have i0 : wr.drew.cell? ⟨w.heap.size, 0, none⟩ = _ := j0
          have i1 : wr.drew.cell? ⟨w.heap.size, 1, none⟩ = _ := j1
          have i2 : wr.drew.cell? ⟨w.heap.size, 2, none⟩ = _ := j2
          have i3 : wr.drew.cell? ⟨w.heap.size, 3, none⟩ = _ := j3
          have i4 : wr.drew.cell? ⟨w.heap.size, 4, none⟩ = _ := j4
          have u0 : wr.drew.cell? ⟨g2, k, none⟩ = some (.int .i64 ((X : Int) + k)) := (st.n4 k hlt).trans (by simp)
          have NX := Lib.hid (fun w5 A2 c2 hb rs => Bu.next (A2 := A2) (c2 := c2) (w5 := w5) SQ.out h0 hb rs hgg.out hgg2.out)
          have HSTEP := Lib.hid (show r.bw (X : Int) B (k + 1) = ((r.bw (X : Int) B k).1.write ((X : Int) + k) (part B k), (r.bw (X : Int) B k).1.writeErr ((X : Int) + k) (part B k)) from if_pos h0)
          rw [h0]
          clear h0 okk j0 j1 j2 j3 j4 st fin
          generalize (r.bw (X : Int) B k).1.writeErr ((X : Int) + k) (part B k) = er at *
          generalize (r.bw (X : Int) B k).1.write ((X : Int) + k) (part B k) = T at *
          have q1 : IntKind.i64.wrap ((k : Int) * 256) = (k : Int) * 256 := wrap64 _ (by omega) (by omega)
          have q2 : IntKind.i64.wrap ((k : Int) * 256 + 256) = (k : Int) * 256 + 256 := wrap64 _ (by omega) (by omega)
          have q3 : 0 ≤ (k : Int) * 256 := by omega
          have q4 : (k : Int) * 256 ≤ (k : Int) * 256 + 256 := by omega
          have q5 : (k : Int) * 256 + 256 ≤ (cg : Int) := by omega
          have q6 : ((k : Int) * 256).toNat = k * 256 := by omega
          have q7 : ((k : Int) * 256 + 256).toNat = k * 256 + 256 := by omega
          have q8 : ¬ cg = k * 256 := by omega
          have q9 : k * 256 + 256 - k * 256 = 256 := by omega
          go_wp2
          go_region_with (first
            | (go_at_call 40; refine KW.out.mono ?_; rintro e5 w5 ⟨v5, rfl, ⟨A5, c5, rfl, rs5⟩, b5⟩; have FIN := Lib.hid (NX.out w5 A5 c5 ((Below.refl _ wr).drew.trans b5) rs5); have ST5 := SQ.out.bx.below ((Below.refl _ wr).drew.trans b5); obtain ⟨l0, l1, l2, l3, l4⟩ := ST5.c0; have z0 := ST5.f0 0; have z1 := ST5.f0 1; have z2 := ST5.f0 2; have z3 := ST5.f0 3; have z4 := ST5.f0 4; clear ST5 rs5 b5; unfold rkV)
            | fail)
          all_goals
            go_wp2
            go_roundw
            case rel => exact ⟨k + 1, A5, c5, by omega, by go_num, by rw [HSTEP.out], FIN.out⟩
            case measure => simp [RowKit.intOf]; omega
        · have hst : Hid (R = r.bw (X : Int) B k) := Lib.hid (by
            rw [HR.out]
            by_cases hlt : k < 4
            · exact Rk.bw_stop (fun h => hgo ⟨hlt, h⟩) 4 (by omega)
            · obtain rfl : k = 4 := by omega
              rfl)
          have hcase : (k = 4) ∨ (k < 4 ∧ ((((r.bw (X : Int) B k).2 : Nat) : Int) == 0) = false) := by
            by_cases hlt : k < 4
            · exact .inr ⟨hlt, by rw [beq_eq_false_iff_ne]; intro h; exact hgo ⟨hlt, by omega⟩⟩
            · exact .inl (by omega)
          obtain ⟨j0, j1, j2, j3, j4⟩ := st.bx.c0
          obtain ⟨o0, o1, o2, o3, o4⟩ := st.bx.c2
          have z0 := st.bx.f2 0; have z1 := st.bx.f2 1; have z2 := st.bx.f2 2; have z3 := st.bx.f2 3; have z4 := st.bx.f2 4
          have FIN := Lib.hid (fun a0 a1 a2 a3 a4 => RkIs.res (c' := c') st.rs st.bx st.below a0 a1 a2 a3 a4)
          clear st hgo fin
          generalize r.bw (X : Int) B k = RR at *
          obtain ⟨R5, er⟩ := RR
          simp only at *
          rcases hcase with rfl | ⟨hlt, hz⟩
          · go_wp2
            refine bodyPost_ret (v := .tuple #[.agg #[.slice A' R5.S.length c', .bool R5.off, .int .i64 R5.calls, .int .i64 R5.after, .bool R5.done], .int .i64 (er : Int)]) (by simp [results, Try.results55, go_sem, o0, o1, o2, o3, o4]) rfl ⟨_, by rw [hst.out], by rw [hst.out]; exact (FIN.out _ _ _ _ _).1, (FIN.out _ _ _ _ _).2⟩
          · have hk' : (k : Int) < 4 := by omega
            go_wp2
            refine bodyPost_ret (v := .tuple #[.agg #[.slice A' R5.S.length c', .bool R5.off, .int .i64 R5.calls, .int .i64 R5.after, .bool R5.done], .int .i64 (er : Int)]) (by simp [results, Try.results55, go_sem, o0, o1, o2, o3, o4]) rfl ⟨_, by rw [hst.out], by rw [hst.out]; exact (FIN.out _ _ _ _ _).1, (FIN.out _ _ _ _ _).2⟩
  · have HR := Lib.hid (HZ.out f rfl hf)
    have hbf : ((f : Int) != 0) = true := by rw [bne_iff_ne]; omega
    clear HB HS HZ HF KN hf
    go_enter Try.func55, Try.ntmps55
    go_wp2_with fail
    obtain ⟨t0, t1⟩ := T0.out
    refine (K1.out _).mono ?_
    rintro e1 w1 ⟨rfl, b1⟩
    have X3 := Lib.hid (t0.below b1)
    have B3' := Lib.hid (t1.trans (b1.mono t1.size))
    have R3 := Lib.hid (R0.out.below B3'.out)
    clear t0 t1 b1 K1 T0
    obtain ⟨j0, j1, j2, j3, j4⟩ := X3.out.c0
    obtain ⟨o0, o1, o2, o3, o4⟩ := X3.out.c2
    have z0 := X3.out.f2 0; have z1 := X3.out.f2 1; have z2 := X3.out.f2 2; have z3 := X3.out.f2 3; have z4 := X3.out.f2 4
    have FIN := Lib.hid (fun a0 a1 a2 a3 a4 => RkIs.res (c' := c) R3.out X3.out B3'.out a0 a1 a2 a3 a4)
    go_wp2
    refine bodyPost_ret (v := .tuple #[.agg #[.slice A r.S.length c, .bool r.off, .int .i64 r.calls, .int .i64 r.after, .bool r.done], .int .i64 (f : Int)]) (by simp [results, Try.results55, go_sem, o0, o1, o2, o3, o4]) rfl ⟨_, by rw [HR.out], by rw [HR.out]; exact (FIN.out _ _ _ _ _).1, (FIN.out _ _ _ _ _).2⟩
end Go.Proofs.Ytidnpokjaklfpaa
