/- Joined: Qi Qj Qn. -/
import Derived.Test.YtegjeijiekggdaaGreatDoorM23
import Derived.Deep.DeepMust
section
/- The document's Set. -/
namespace Go.Proofs.YtegjeijiekggdaaGreatDoor
open Go.RowKit
set_option linter.unusedVariables false
set_option linter.unusedSimpArgs false
theorem setU_same {x : UInt64} {k : Nat} {on : Bool} (h : x.toNat.testBit k = on) : setU x k on = x := by
  unfold setU setW
  rw [if_pos h]
  simp
theorem setU_turn {x : UInt64} {k : Nat} {on : Bool} (h : x.toNat.testBit k ≠ on) (hk : k < 64) : bits .xor .u64 (x.toNat : Int) (IntKind.u64.wrap (2 ^ k)) = ((setU x k on).toNat : Int) := by
  rw [wrap_pow hk, bits_xor_u64_nat _ _ x.toNat_lt (pow_lt64 hk), setU_nat _ _ hk]
  unfold setW
  rw [if_neg h]
theorem setL_same {s : Int} {L : List UInt64} {n : Int} {on : Bool} (h : setOk s L n = true) (hb : bitL L n.toNat = on) : setL s L n on = L := by
  unfold setL
  rw [if_pos h]
  unfold setOk at h
  simp only [Bool.and_eq_true, decide_eq_true_eq] at h
  obtain ⟨k, rfl, hk, hl, _⟩ := okB_nat h.1
  obtain ⟨m, rfl⟩ := Int.eq_ofNat_of_zero_le h.2.1
  rw [Int.toNat_natCast] at hb ⊢
  unfold bitL at hb
  rw [setU_same hb]
  have hm : m / 64 < L.length := by omega
  rw [List.getD_eq_getElem?_getD, List.getElem?_eq_getElem hm, Option.getD_some]
  simp
abbrev oQ : Obj := .cells #[] 129
theorem lit_a (W : World) : OQ W.heap.size (W.alloc (.cells #[] 129)).drew (.slice (some ⟨W.heap.size, 0, none⟩) 0 0) [] := OQ.lit W W.heap.size [] _ (by simp [cellsQ]) (Nat.le_refl _) (by simp [maxLen])
theorem lit_b (W : World) (b : Obj) : OQ W.heap.size ((W.alloc b).alloc (.cells #[] 129)).drew (.slice (some ⟨W.heap.size + 1, 0, none⟩) 0 0) [] := by
  have h := OQ.lit (W.alloc b) W.heap.size [] #[] (by simp [cellsQ]) (by rw [heap_size_alloc]; omega) (by simp [maxLen])
  rw [heap_size_alloc] at h
  exact h
theorem lit_c (W : World) (b : Obj) : OQ W.heap.size ((W.alloc (.cells #[] 129)).alloc b).drew (.slice (some ⟨W.heap.size, 0, none⟩) 0 0) [] := (OQ.lit W W.heap.size [] _ (by simp [cellsQ]) (Nat.le_refl _) (by simp [maxLen])).alloc b
/-- Behind the append, the box not yet there. -/
theorem app_a {W w1 : World} {v1 : Value} {L : List UInt64} {s : Int} (t : TypeId) (o1 : OQ W.heap.size w1 v1 ([] ++ L)) (b1 : Below W.heap.size (W.alloc (.cells #[] 129)).drew w1) : Below W.heap.size W w1 ∧ BxQ W.heap.size W (w1.alloc (.cells #[.int .i64 s, v1] t)) w1.heap.size s v1 L t := by
  have hb : Below W.heap.size W w1 := ((Below.refl _ W).alloc (Nat.le_refl _) _).drew.trans b1
  exact ⟨hb, BxQ.new t hb o1 hb.size⟩
theorem app_bc {W V w1 : World} {g : Nat} {v0 v1 x0 x1 : Value} {L : List UInt64} {s : Int} {t : TypeId} (hV : Below W.heap.size W V) (hg : W.heap.size ≤ g) (hx : V.heap[g]? = some (.cells #[x0, x1] t (0, 0))) (ht : t ≠ 129) (h0 : v0.ownBlock ≠ some g) (o1 : OQ W.heap.size w1 v1 ([] ++ L)) (b1 : Below W.heap.size V w1) (g1 : V.grownBy w1 v0.ownBlock) :
    Below W.heap.size W w1 ∧ (w1.cell? ⟨g, 0, none⟩ = some x0 ∧ w1.cell? ⟨g, 1, none⟩ = some x1 ∧ w1.frozen? ⟨g, 0, none⟩ = false ∧ w1.frozen? ⟨g, 1, none⟩ = false) ∧ BxQ W.heap.size W ((w1.setCell ⟨g, 0, none⟩ (.int .i64 s)).setCell ⟨g, 1, none⟩ v1) g s v1 L t := by
  have hb : Below W.heap.size W w1 := hV.trans b1
  have h1 : w1.heap[g]? = some (.cells #[x0, x1] t (0, 0)) := (g1.block g (Array.getElem?_eq_some_iff.1 hx).1 (fun e => h0 e.symm)).trans hx
  have hne : v1.ownBlock ≠ some g := by
    intro e
    have h2 := o1
    unfold OQ at h2
    rcases h2.2 with ⟨rfl, _⟩ | ⟨q, cap, cur, rfl, _, hq, _⟩
    · simp [Value.ownBlock] at e
    · obtain rfl : q = g := by simpa [Value.ownBlock] using e
      rw [h1] at hq
      simp at hq
      exact ht hq.2
  exact ⟨hb, ⟨(cell_of_row w1 _ 0 _ _ _ h1).trans rfl, (cell_of_row w1 _ 1 _ _ _ h1).trans rfl, by simp [World.frozen?, h1], by simp [World.frozen?, h1]⟩, cellsPut h1 hg o1 hne hb⟩
theorem at_b (W : World) (x0 x1 : Value) (t : TypeId) : ((W.alloc (.cells #[x0, x1] t)).alloc (.cells #[] 129)).drew.heap[W.heap.size]? = some (.cells #[x0, x1] t (0, 0)) := by
  have h := heap_alloc_last W (.cells #[x0, x1] t)
  exact (Below.heap_alloc (W.alloc (.cells #[x0, x1] t)) _ _ (Array.getElem?_eq_some_iff.1 h).1).trans h
theorem at_c (W : World) (x0 x1 : Value) (t : TypeId) : ((W.alloc (.cells #[] 129)).alloc (.cells #[x0, x1] t)).drew.heap[W.heap.size + 1]? = some (.cells #[x0, x1] t (0, 0)) := by
  have h := heap_alloc_last (W.alloc (.cells #[] 129)) (.cells #[x0, x1] t)
  rw [heap_size_alloc] at h
  exact h
set_option maxHeartbeats 4000000 in
set_option maxRecDepth 100000 in
theorem refSet_any (s : Int) (A : Option Addr) (c : Nat) (L : List UInt64) (n : Int) (on : Bool) (w : World) (hlen : L.length ≤ 1000) (hcap : L.length ≤ c) (hr : RQ w A L) : Calls Tryz.prog 104 #[.agg #[.int .i64 s, .slice A L.length c], .int .i64 n, .bool on] w fun e w' => ∃ A' c', e = .returned (.agg #[.int .i64 s, .slice A' L.length c']) ∧ L.length ≤ c' ∧ RQ w' A' (setL s L n on) ∧ Below w.heap.size w w' := by
  have HR := Lib.hid (fun W (hb : Below w.heap.size w W) => hr.below hb)
  have KC := fun W (hb : Below w.heap.size w W) => qRefCheck_any s A c L W (HR.out W hb)
  have BX := Lib.hid (fun W h => bx4 w (.int .i64 s) (.slice A L.length c) (.int .i64 0) (.slice none 0 0) 42 42 (W := W) h)
  have B0 := Lib.hid (((Below.refl w.heap.size w).alloc (Nat.le_refl _) (.cells #[.int .i64 s, .slice A L.length c] 42)).alloc (by rw [heap_size_alloc]; omega) (.cells #[.int .i64 0, .slice none 0 0] 42))
  have RX0 : Hid (((w.alloc (.cells #[.int .i64 s, .slice A L.length c] 42)).alloc (.cells #[.int .i64 0, .slice none 0 0] 42)).heap[w.heap.size + 1]? = some (.cells #[.int .i64 0, .slice none 0 0] 42 (0, 0))) := Lib.hid (by
    have h := heap_alloc_last (w.alloc (.cells #[.int .i64 s, .slice A L.length c] 42)) (.cells #[.int .i64 0, .slice none 0 0] 42)
    rw [heap_size_alloc] at h
    exact h)
  have HZ : Hid (((w.alloc (.cells #[.int .i64 s, .slice A L.length c] 42)).alloc (.cells #[.int .i64 0, .slice none 0 0] 42)).heap.size = w.heap.size + 2) := Lib.hid (by rw [heap_size_alloc, heap_size_alloc])
  have hcap' : L.length ≤ c := hcap
  obtain ⟨⟨x0, x1⟩, z0, z1⟩ := BX.out _ (Below.refl _ _)
  obtain ⟨N, hN⟩ : ∃ N, N = L.length := ⟨_, rfl⟩
  have HN := Lib.hid hN
  rcases chk_cases s L with ⟨h0, h1⟩ | ⟨h0, h1⟩
  · have HO := Lib.hid h0
    rw [h1] at KC
    obtain ⟨m, rfl, hm, hl, _⟩ := okB_nat h0
    by_cases hn0 : 0 ≤ n
    · obtain ⟨k, rfl⟩ := Int.eq_ofNat_of_zero_le hn0
      have dn : decide ((k : Int) < 0) = false := by simp
      by_cases hkm : k < m
      · have HSO : setOk (m : Int) L (k : Int) = true := by unfold setOk; rw [h0, decide_eq_true (by omega)]; rfl
        have dk : decide ((m : Int) ≤ (k : Int)) = false := by simp; omega
        have hkm' : (k : Int) < (m : Int) := by omega
        have dk3 : decide (m ≤ k) = false := decide_eq_false (by omega)
        have dk4 : ¬ m ≤ k := by omega
        have KB := fun W (hb : Below w.heap.size w W) => refBit_any (m : Int) A c L k W (by omega) (by omega) (HR.out W hb)
        by_cases hbo : bitL L k = on
        · have HSL : Hid (setL (m : Int) L (k : Int) on = L) := Lib.hid (setL_same HSO (by rw [Int.toNat_natCast]; exact hbo))
          rw [hbo] at KB
          have doo : (on == on) = true := by simp
          rw [← hN] at x0 x1 B0 BX KC RX0 HZ KB hcap' ⊢
          have KC := Lib.hid KC
          have KB := Lib.hid KB
          clear hr hN h0 h1 hl HSO hbo hcap
          go_enter Tryz.func104, Tryz.ntmps104
          go_wp2_with fail
          generalize (w.alloc (.cells #[.int .i64 (m : Int), .slice A N c] 42)).alloc (.cells #[.int .i64 0, .slice none 0 0] 42) = W0 at *
          refine (KC.out _ B0.out).mono ?_
          rintro e w1 ⟨rfl, b1⟩
          have V1 := Lib.hid b1
          have B1 := Lib.hid (B0.out.trans (b1.mono B0.out.size))
          obtain ⟨⟨y0, y1⟩, _⟩ := BX.out w1 b1
          clear b1 x0 x1 z0 z1
          go_wp2_with fail
          refine (KB.out _ B1.out).mono ?_
          rintro e w2 ⟨rfl, b2⟩
          have V2 := Lib.hid (V1.out.trans (b2.mono V1.out.size))
          have B2 := Lib.hid (B1.out.trans (b2.mono B1.out.size))
          obtain ⟨⟨q0, q1⟩, r0, r1⟩ := BX.out w2 V2.out
          have hx2 := (V2.out.block (w.heap.size + 1) (by rw [HZ.out]; omega)).trans RX0.out
          have f0 : w2.frozen? ⟨w.heap.size + 1, 0, none⟩ = false := by simp [World.frozen?, hx2]
          have f1 : w2.frozen? ⟨w.heap.size + 1, 1, none⟩ = false := by simp [World.frozen?, hx2]
          clear b2 y0 y1 hx2
          go_wp2
          refine bodyPost_ret (v := .agg #[.int .i64 (m : Int), .slice A N c]) (by simp [results, Tryz.results104, go_sem, r0, r1]) rfl ⟨A, c, rfl, hcap', ?_, belowC B2.out (Nat.le_succ _) _ _⟩
          rw [HSL.out]
          exact HR.out _ (belowC B2.out (Nat.le_succ _) _ _)
        · skip
          have HSL0 : setL (m : Int) L (k : Int) on = L.set (k / 64) (setU (L.getD (k / 64) 0) (k % 64) on) := by unfold setL; rw [if_pos HSO, Int.toNat_natCast]
          have hkl : k / 64 < L.length := by omega
          obtain ⟨x, hx⟩ : ∃ x, L[k / 64]? = some x := ⟨_, List.getElem?_eq_getElem hkl⟩
          have hbx : x.toNat.testBit (k % 64) ≠ on := by
            intro e
            apply hbo
            unfold bitL
            rw [List.getD_eq_getElem?_getD, hx]
            exact e
          rw [List.getD_eq_getElem?_getD, hx, Option.getD_some] at HSL0
          have HSL := Lib.hid HSL0
          have KE := setU_turn hbx (show k % 64 < 64 by omega)
          obtain ⟨bv, hbv⟩ : ∃ bv, bv = bitL L k := ⟨_, rfl⟩
          rw [← hbv] at KB
          have doo : (bv == on) = false := by rw [hbv]; simpa using hbo
          have hq : (k : Int).tdiv 64 = ((k / 64 : Nat) : Int) := tdiv64 k
          have hq2 : (k : Int) / 64 = ((k / 64 : Nat) : Int) := by omega
          have hm2 : (k : Int).tmod 64 = ((k % 64 : Nat) : Int) := tmod64 k
          have hltN : k / 64 < N := by omega
          have hlt : ((k / 64 : Nat) : Int) < (N : Int) := by omega
          have hk0 : (0 : Int) ≤ ((k / 64 : Nat) : Int) := by omega
          have hkq : k / 64 < 64 := by omega
          have hkm2 : k % 64 < 64 := by omega
          have HX := Lib.hid hx
          have hN1000 : N ≤ 1000 := by omega
          rw [← hN] at x0 x1 B0 BX KC RX0 HZ KB hcap' ⊢
          have KC := Lib.hid KC
          have KB := Lib.hid KB
          have hw1 : IntKind.i64.wrap ((k / 64 : Nat) : Int) = ((k / 64 : Nat) : Int) := by rw [IntKind.wrap_i64]; omega
          have hw2 : IntKind.i64.wrap ((k % 64 : Nat) : Int) = ((k % 64 : Nat) : Int) := by rw [IntKind.wrap_i64]; omega
          clear hr hN h0 h1 hl HSO hbo hcap hx hbx HSL0 hbv hkl
          generalize k / 64 = kq at *
          generalize k % 64 = km at *
          go_enter Tryz.func104, Tryz.ntmps104
          go_wp2_with fail
          generalize (w.alloc (.cells #[.int .i64 (m : Int), .slice A N c] 42)).alloc (.cells #[.int .i64 0, .slice none 0 0] 42) = W0 at *
          refine (KC.out _ B0.out).mono ?_
          rintro e w1 ⟨rfl, b1⟩
          have V1 := Lib.hid b1
          have B1 := Lib.hid (B0.out.trans (b1.mono B0.out.size))
          obtain ⟨⟨y0, y1⟩, _⟩ := BX.out w1 b1
          clear b1 x0 x1 z0 z1
          go_wp2_with fail
          refine (KB.out _ B1.out).mono ?_
          rintro e w2 ⟨rfl, b2⟩
          have V2 := Lib.hid (V1.out.trans (b2.mono V1.out.size))
          have B2 := Lib.hid (B1.out.trans (b2.mono B1.out.size))
          clear b2 y0 y1
          obtain ⟨⟨q0, q1⟩, _⟩ := BX.out w2 V2.out
          have CX := Lib.hid (fun W (h : Below w2.heap.size w2 W) => And.intro ((h.cell (p := ⟨w.heap.size, 0, none⟩) (lt_of_cell q0)).trans q0) ((h.cell (p := ⟨w.heap.size, 1, none⟩) (lt_of_cell q1)).trans q1))
          have R2 := Lib.hid (HR.out w2 B2.out)
          go_upto_region 3 with fail
          go_cut [7] from 29 to 35 (fun p wx => ∃ g v, p = .pointer (some ⟨g, 0, none⟩) ∧ BxQ w2.heap.size w2 wx g (m : Int) v L 42)
          case first =>
            have cc := CX.out w2.drew (Below.refl _ w2).drew
            have ca := CX.out _ ((Below.refl _ w2).alloc (Nat.le_refl _) (.cells #[] 129)).drew
            have cb := CX.out _ ((Below.refl _ w2).alloc (Nat.le_refl _) (.cells #[.int .i64 0, .slice none 0 0] 42)).drew
            have cd := CX.out _ (((Below.refl _ w2).alloc (Nat.le_refl _) (.cells #[.int .i64 0, .slice none 0 0] 42)).alloc (by rw [heap_size_alloc]; omega) (.cells #[] 129)).drew
            have ce := CX.out _ (((Below.refl _ w2).alloc (Nat.le_refl _) (.cells #[] 129)).alloc (by rw [heap_size_alloc]; omega) (.cells #[.int .i64 0, .slice none 0 0] 42)).drew
            go_region_held3 (fun W => W.cell? ⟨w.heap.size, 0, none⟩ = some (.int .i64 (m : Int)) ∧ W.cell? ⟨w.heap.size, 1, none⟩ = some (.slice A N c)) (first | with_reducible assumption | with_reducible exact cc | with_reducible exact ca | with_reducible exact cb | with_reducible exact cd | with_reducible exact ce | with_reducible exact KP.out _ _ | with_reducible exact ck | fail)
              (first
                | (refine step_append_Q rfl (.tmp 31) (.tmp 33) rfl w2.heap.size _ [] rfl (lit_a w2) A N c L rfl HN.out.symm (RQ.drew (R2.out.alloc _)) (by simp; omega) (by show _ ≤ (w2.alloc _).heap.size; rw [heap_size_alloc]; omega) ?_; intro v1 w3 o1 b1 g1; obtain ⟨hb3, fin⟩ := app_a (s := (m : Int)) 42 o1 b1; obtain ⟨A3, n3, c3, rfl⟩ := o1.shape; have FIN := Lib.hid fin; have cc := CX.out w3 hb3; have ca := CX.out _ (hb3.alloc hb3.size (.cells #[.int .i64 0, .slice none 0 0] 42)); have ck := CX.out _ (hb3.alloc hb3.size (.cells #[.int .i64 (m : Int), .slice A3 n3 c3] 42)))
                | (refine step_append_Q rfl (.tmp 31) (.tmp 33) rfl w2.heap.size _ [] rfl (lit_b w2 (.cells #[.int .i64 0, .slice none 0 0] 42)) A N c L rfl HN.out.symm (RQ.drew ((R2.out.alloc _).alloc _)) (by simp; omega) (by show _ ≤ ((w2.alloc _).alloc _).heap.size; rw [heap_size_alloc, heap_size_alloc]; omega) ?_; intro v1 w3 o1 b1 g1; obtain ⟨hb3, ⟨t0, t1, t2, t3⟩, fin⟩ := app_bc (s := (m : Int)) (g := w2.heap.size) (((Below.refl _ w2).alloc (Nat.le_refl _) _).alloc (by rw [heap_size_alloc]; omega) _).drew (Nat.le_refl _) (at_b w2 _ _ 42) (by decide) (by simp [Value.ownBlock, Act.eval]) o1 b1 g1; obtain ⟨A3, n3, c3, rfl⟩ := o1.shape; have FIN := Lib.hid fin; have cc := CX.out w3 hb3; have KP := Lib.hid (fun a0 a1 => CX.out _ (belowC hb3 (Nat.le_refl _) a0 a1)))
                | (refine step_append_Q rfl (.tmp 31) (.tmp 33) rfl w2.heap.size _ [] rfl (lit_c w2 (.cells #[.int .i64 0, .slice none 0 0] 42)) A N c L rfl HN.out.symm (RQ.drew ((R2.out.alloc _).alloc _)) (by simp; omega) (by show _ ≤ ((w2.alloc _).alloc _).heap.size; rw [heap_size_alloc, heap_size_alloc]; omega) ?_; intro v1 w3 o1 b1 g1; obtain ⟨hb3, ⟨t0, t1, t2, t3⟩, fin⟩ := app_bc (s := (m : Int)) (g := w2.heap.size + 1) (((Below.refl _ w2).alloc (Nat.le_refl _) _).alloc (by rw [heap_size_alloc]; omega) _).drew (Nat.le_succ _) (at_c w2 _ _ 42) (by decide) (by simp [Value.ownBlock, Act.eval]) o1 b1 g1; obtain ⟨A3, n3, c3, rfl⟩ := o1.shape; have FIN := Lib.hid fin; have cc := CX.out w3 hb3; have KP := Lib.hid (fun a0 a1 => CX.out _ (belowC hb3 (Nat.le_succ _) a0 a1)))
                | fail)
            all_goals
              go_wp2_with fail
              go_meet
              exact ⟨_, _, rfl, FIN.out⟩
          case rest =>
            obtain ⟨g, v, rfl, hP⟩ := hcut
            obtain ⟨A4, c4, rfl, hc4, _⟩ := hP.own.form
            rw [← HN.out] at hP hc4
            obtain ⟨gv, rfl, hgv, cx, fx, hset⟩ := hP.set HX.out
            obtain ⟨t0, t1, _, _⟩ := hP.cells
            have P := Lib.hid (hset (setU x km on) _ rfl)
            clear hset hP q0 q1
            go_upto_region 4 with fail
            go_still_tail 15, (by kernel_rfl)
            change wpList _ _ _ _ _ wc.drew
            go_upto_region 5 with fail
            have BP : Below w2.heap.size w2 (wc.setCell ⟨gv, kq, none⟩ (.int .u64 ((setU x km on).toNat : Int))).drew := P.out.bel.drew
            have BT := Lib.hid (B2.out.trans (BP.mono B2.out.size))
            obtain ⟨_, r0, r1⟩ := BX.out _ (V2.out.trans (BP.mono V2.out.size))
            have hx2 := ((V2.out.trans (BP.mono V2.out.size)).block (w.heap.size + 1) (by rw [HZ.out]; omega)).trans RX0.out
            have f0 : (wc.setCell ⟨gv, kq, none⟩ (.int .u64 ((setU x km on).toNat : Int))).drew.frozen? ⟨w.heap.size + 1, 0, none⟩ = false := by simp [World.frozen?, hx2]
            have f1 : (wc.setCell ⟨gv, kq, none⟩ (.int .u64 ((setU x km on).toNat : Int))).drew.frozen? ⟨w.heap.size + 1, 1, none⟩ = false := by simp [World.frozen?, hx2]
            have s0 : (wc.setCell ⟨gv, kq, none⟩ (.int .u64 ((setU x km on).toNat : Int))).drew.cell? ⟨g, 0, none⟩ = some (.int .i64 (m : Int)) := P.out.cells.1
            have s1 : (wc.setCell ⟨gv, kq, none⟩ (.int .u64 ((setU x km on).toNat : Int))).drew.cell? ⟨g, 1, none⟩ = some (.slice (some ⟨gv, 0, none⟩) N c4) := P.out.cells.2.1
            have OW : OQ w2.heap.size (wc.setCell ⟨gv, kq, none⟩ (.int .u64 ((setU x km on).toNat : Int))).drew (.slice (some ⟨gv, 0, none⟩) N c4) (L.set kq (setU x km on)) := P.out.own
            have OW := Lib.hid OW
            have hw2 : w.heap.size + 1 < w2.heap.size := by have := V2.out.size; rw [HZ.out] at this; omega
            clear hx2 BP cx fx t0 t1 P
            generalize (wc.setCell ⟨gv, kq, none⟩ (.int .u64 ((setU x km on).toNat : Int))).drew = V8 at *
            go_wp2
            refine bodyPost_ret (v := .agg #[.int .i64 (m : Int), .slice (some ⟨gv, 0, none⟩) N c4]) (by simp [results, Tryz.results104, go_sem, r0, r1]) rfl ⟨_, c4, rfl, hc4, ?_, belowC BT.out (Nat.le_succ _) _ _⟩
            rw [HSL.out]
            exact (OW.out.setB hw2 _ _).reads
      · skip
        have HSL : Hid (setL (m : Int) L (k : Int) on = L) := Lib.hid (setL_no (by unfold setOk; rw [decide_eq_false (by omega), Bool.and_false]))
        have dk : (m : Int) ≤ (k : Int) := by omega
        have dk2 : m ≤ k := by omega
        rw [← hN] at x0 x1 B0 BX KC RX0 HZ hcap' ⊢
        have KC := Lib.hid KC
        clear hr hN h0 h1 hcap hl hkm
        go_enter Tryz.func104, Tryz.ntmps104
        go_wp2_with fail
        generalize (w.alloc (.cells #[.int .i64 (m : Int), .slice A N c] 42)).alloc (.cells #[.int .i64 0, .slice none 0 0] 42) = W0 at *
        refine (KC.out _ B0.out).mono ?_
        rintro e w2 ⟨rfl, b2⟩
        have V2 := Lib.hid b2
        have B2 := Lib.hid (B0.out.trans (b2.mono B0.out.size))
        clear x0 x1 z0 z1
        obtain ⟨⟨q0, q1⟩, r0, r1⟩ := BX.out w2 V2.out
        have hx2 := (V2.out.block (w.heap.size + 1) (by rw [HZ.out]; omega)).trans RX0.out
        have f0 : w2.frozen? ⟨w.heap.size + 1, 0, none⟩ = false := by simp [World.frozen?, hx2]
        have f1 : w2.frozen? ⟨w.heap.size + 1, 1, none⟩ = false := by simp [World.frozen?, hx2]
        clear b2 hx2
        go_wp2
        refine bodyPost_ret (v := .agg #[.int .i64 (m : Int), .slice A N c]) (by simp [results, Tryz.results104, go_sem, r0, r1]) rfl ⟨A, c, rfl, hcap', ?_, belowC B2.out (Nat.le_succ _) _ _⟩
        rw [HSL.out]
        exact HR.out _ (belowC B2.out (Nat.le_succ _) _ _)
    · skip
      have HSL : Hid (setL (m : Int) L n on = L) := Lib.hid (setL_no (by unfold setOk; rw [decide_eq_false (by omega), Bool.and_false]))
      have dn : n < 0 := by omega
      rw [← hN] at x0 x1 B0 BX KC RX0 HZ hcap' ⊢
      have KC := Lib.hid KC
      clear hr hN h0 h1 hcap hl hn0
      go_enter Tryz.func104, Tryz.ntmps104
      go_wp2_with fail
      generalize (w.alloc (.cells #[.int .i64 (m : Int), .slice A N c] 42)).alloc (.cells #[.int .i64 0, .slice none 0 0] 42) = W0 at *
      refine (KC.out _ B0.out).mono ?_
      rintro e w2 ⟨rfl, b2⟩
      have V2 := Lib.hid b2
      have B2 := Lib.hid (B0.out.trans (b2.mono B0.out.size))
      clear x0 x1 z0 z1
      obtain ⟨⟨q0, q1⟩, r0, r1⟩ := BX.out w2 V2.out
      have hx2 := (V2.out.block (w.heap.size + 1) (by rw [HZ.out]; omega)).trans RX0.out
      have f0 : w2.frozen? ⟨w.heap.size + 1, 0, none⟩ = false := by simp [World.frozen?, hx2]
      have f1 : w2.frozen? ⟨w.heap.size + 1, 1, none⟩ = false := by simp [World.frozen?, hx2]
      clear b2 hx2
      go_wp2
      refine bodyPost_ret (v := .agg #[.int .i64 (m : Int), .slice A N c]) (by simp [results, Tryz.results104, go_sem, r0, r1]) rfl ⟨A, c, rfl, hcap', ?_, belowC B2.out (Nat.le_succ _) _ _⟩
      rw [HSL.out]
      exact HR.out _ (belowC B2.out (Nat.le_succ _) _ _)
  · skip
    have HSL : Hid (setL s L n on = L) := Lib.hid (setL_no (by unfold setOk; rw [h0]; rfl))
    rw [h1] at KC
    rw [← hN] at x0 x1 B0 BX KC RX0 HZ hcap' ⊢
    have KC := Lib.hid KC
    clear hr hN h0 h1 hcap
    go_enter Tryz.func104, Tryz.ntmps104
    go_wp2_with fail
    generalize (w.alloc (.cells #[.int .i64 s, .slice A N c] 42)).alloc (.cells #[.int .i64 0, .slice none 0 0] 42) = W0 at *
    refine (KC.out _ B0.out).mono ?_
    rintro e w2 ⟨rfl, b2⟩
    have V2 := Lib.hid b2
    have B2 := Lib.hid (B0.out.trans (b2.mono B0.out.size))
    clear x0 x1 z0 z1
    obtain ⟨⟨q0, q1⟩, r0, r1⟩ := BX.out w2 V2.out
    have hx2 := (V2.out.block (w.heap.size + 1) (by rw [HZ.out]; omega)).trans RX0.out
    have f0 : w2.frozen? ⟨w.heap.size + 1, 0, none⟩ = false := by simp [World.frozen?, hx2]
    have f1 : w2.frozen? ⟨w.heap.size + 1, 1, none⟩ = false := by simp [World.frozen?, hx2]
    clear b2 hx2
    go_wp2
    refine bodyPost_ret (v := .agg #[.int .i64 s, .slice A N c]) (by simp [results, Tryz.results104, go_sem, r0, r1]) rfl ⟨A, c, rfl, hcap', ?_, belowC B2.out (Nat.le_succ _) _ _⟩
    rw [HSL.out]
    exact HR.out _ (belowC B2.out (Nat.le_succ _) _ _)
end Go.Proofs.YtegjeijiekggdaaGreatDoor
end
section
/- The document's Both and Either. -/
namespace Go.Proofs.YtegjeijiekggdaaGreatDoor
open Go.RowKit
set_option linter.unusedVariables false
set_option linter.unusedSimpArgs false
theorem word_ext {x y : UInt64} (h : ∀ i, i < 64 → x.toNat.testBit i = y.toNat.testBit i) : x = y := by
  apply UInt64.toNat_inj.1
  apply Nat.eq_of_testBit_eq
  intro i
  by_cases hi : i < 64
  · exact h i hi
  · have hp : (2 : Nat) ^ 64 ≤ 2 ^ i := Nat.pow_le_pow_right (by omega) (by omega)
    rw [Nat.testBit_lt_two_pow (Nat.lt_of_lt_of_le x.toNat_lt hp), Nat.testBit_lt_two_pow (Nat.lt_of_lt_of_le y.toNat_lt hp)]
theorem bit_ext {L M : List UInt64} (hl : L.length = M.length) (h : ∀ i, i < 64 * L.length → bitL L i = bitL M i) : L = M := by
  apply List.ext_getElem hl
  intro k h1 h2
  apply word_ext
  intro i hi
  have := h (64 * k + i) (by omega)
  rw [bitL_word (List.getElem?_eq_getElem h1) hi, bitL_word (List.getElem?_eq_getElem h2) hi] at this
  exact this
theorem has_bit {s n : Nat} {L : List UInt64} (ho : okB (s : Int) L = true) : hasB (s : Int) L (n : Int) = bitL L n := by
  obtain ⟨k, e, hk, hl, hc⟩ := okB_nat ho
  obtain rfl : s = k := by omega
  unfold hasB
  rw [ho, Bool.true_and, Int.toNat_natCast]
  by_cases h : n < s
  · rw [decide_eq_true (by omega), Bool.true_and]
  · rw [decide_eq_false (by omega), Bool.false_and]
    by_cases h2 : n < 64 * L.length
    · exact (hc n h2 (by omega)).symm
    · exact (bitL_out (by omega)).symm
theorem bit_big {s n : Nat} {L : List UInt64} (ho : okB (s : Int) L = true) (h : s ≤ n) : bitL L n = false := by
  obtain ⟨k, e, hk, hl, hc⟩ := okB_nat ho
  obtain rfl : s = k := by omega
  by_cases h2 : n < 64 * L.length
  · exact hc n h2 h
  · exact bitL_out (by omega)
/-- What the document mixes, number by number. -/
def mixRef (all : Bool) (S : Nat) (L M : List UInt64) : Nat → List UInt64
  | 0 => newL (S : Nat)
  | k + 1 => setL (S : Nat) (mixRef all S L M k) (k : Nat) (mixB all (bitL L k) (bitL M k))
theorem newL_ok' {s : Nat} (h : s ≤ 4096) : okB (s : Nat) (newL (s : Nat)) = true := newL_ok h
theorem mixRef_ok {S : Nat} (h : S ≤ 4096) (all : Bool) (L M : List UInt64) : ∀ k, okB (S : Nat) (mixRef all S L M k) = true
  | 0 => newL_ok h
  | k + 1 => setL_ok (mixRef_ok h all L M k)
theorem newL_len {s : Nat} (h : s ≤ 4096) : (newL (s : Nat)).length = (s + 63) / 64 := by
  obtain ⟨k, e, _, hl, _⟩ := okB_nat (newL_ok h)
  omega
theorem mixRef_len {S : Nat} (h : S ≤ 4096) (all : Bool) (L M : List UInt64) : ∀ k, (mixRef all S L M k).length = (S + 63) / 64
  | 0 => newL_len h
  | k + 1 => by rw [mixRef, setL_len, mixRef_len h]
theorem newL_bit {s i : Nat} : bitL (newL (s : Nat)) i = false := by
  unfold newL
  split
  · unfold bitL
    rw [List.getD_eq_getElem?_getD, List.getElem?_replicate]
    split <;> simp
  · exact bitL_out (by simp)
theorem mixRef_bit {S : Nat} (h : S ≤ 4096) (all : Bool) (L M : List UInt64) (i : Nat) : ∀ k, k ≤ S → bitL (mixRef all S L M k) i = (decide (i < k) && mixB all (bitL L i) (bitL M i))
  | 0, _ => by rw [mixRef, newL_bit, decide_eq_false (by omega)]; rfl
  | k + 1, hk => by
    have hs : setOk (S : Nat) (mixRef all S L M k) (k : Nat) = true := by
      unfold setOk
      rw [mixRef_ok h, decide_eq_true (by omega)]
      rfl
    rw [mixRef, setL_bit hs, Int.toNat_natCast, mixRef_bit h all L M i k (by omega)]
    by_cases e : i = k
    · subst e
      rw [if_pos rfl, decide_eq_true (by omega), Bool.true_and]
    · rw [if_neg e]
      congr 1
      rw [decide_eq_decide]
      omega
theorem mixRef_is {s t : Nat} {all : Bool} {L M : List UInt64} (ho : okB (s : Int) L = true) (hp : okB (t : Int) M = true) : mixRef all (max s t) L M (max s t) = mixL all (s : Int) (t : Int) L M := by
  have hok : mixOk (s : Int) (t : Int) L M = true := by unfold mixOk; rw [ho, hp]; rfl
  obtain ⟨a, ea, ha, _, _⟩ := okB_nat ho
  obtain ⟨b, eb, hb, _, _⟩ := okB_nat hp
  have hS : max s t ≤ 4096 := by omega
  have hmx : (max (s : Int) (t : Int)).toNat = max s t := by omega
  unfold mixL
  rw [if_pos hok, hmx]
  apply bit_ext
  · rw [mixRef_len hS, mixWs_len]
  · intro i hi
    rw [mixRef_len hS] at hi
    rw [mixRef_bit hS all L M i _ (Nat.le_refl _), mixWs_bit, decide_eq_true hi, Bool.true_and]
    by_cases h : i < max s t
    · rw [decide_eq_true h, Bool.true_and]
    · rw [decide_eq_false h, Bool.false_and, bit_big ho (by omega), bit_big hp (by omega), mixB_ff]
theorem RQ.setBox {W : World} {A : Option Addr} {L : List UInt64} {g : Nat} {S : Int} {v : Value} {t : TypeId} {Ax : Option Addr} {n c : Nat} (h : RQ W A L) (hg : W.heap[g]? = some (.cells #[.int .i64 S, .slice Ax n c] t (0, 0))) (a0 a1 : Value) : RQ ((W.setCell ⟨g, 0, none⟩ a0).setCell ⟨g, 1, none⟩ a1) A L := by
  rcases h with rfl | ⟨ad, rfl, hc⟩
  · exact .inl rfl
  · refine .inr ⟨ad, rfl, fun j x hx => ?_⟩
    have h1 := hc j x hx
    have hne : (ad.add j).block ≠ g := by
      intro e
      unfold World.cell? at h1
      rw [e, hg] at h1
      revert h1
      generalize (ad.add j) = p
      rcases p with ⟨b, off, r⟩
      intro h1
      match off, h1 with
      | 0, h1 => simp at h1
      | 1, h1 => simp at h1
      | k + 2, h1 => simp at h1
    have hw : ((W.setCell ⟨g, 0, none⟩ a0).setCell ⟨g, 1, none⟩ a1).heap[(ad.add j).block]? = W.heap[(ad.add j).block]? := by
      rw [heap_setCell_ne (fun e => hne e.symm), heap_setCell_ne (fun e => hne e.symm)]
    rw [cell_block hw]
    exact h1
end Go.Proofs.YtegjeijiekggdaaGreatDoor
end
section
/- A map's bytes are read as the map, whatever stands behind; bytes that are read are the map's (plain). -/
namespace Go.Proofs.YtegjeijiekggdaaGreatDoor
set_option linter.unusedVariables false
theorem isOn_bit {L : List UInt64} {on : Bool} {i : Nat} : isOn L on i = true ↔ bitL L i = on := by unfold isOn; simp
theorem isOn_off {L : List UInt64} {on : Bool} {i : Nat} : isOn L (!on) i = false ↔ bitL L i = on := by
  unfold isOn
  cases bitL L i <;> cases on <;> simp
/-- Reading the runs of L from a on makes L of what L has below a. -/
theorem get_runs {s : Nat} {L : List UInt64} (hs : s ≤ 4096) (hl : L.length = (s + 63) / 64) (hc : ∀ i, s ≤ i → bitL L i = false) (t : List UInt8) :
    ∀ (k f a : Nat) (on : Bool) (Lc : List UInt64), getM s a on ≤ k → runM s L a on ≤ f → a ≤ s → (a = 0 ∧ on = false ∨ (a < s → isOn L on a = true)) → Lc.length = L.length → (∀ i, bitL Lc i = (decide (i < a) && bitL L i)) →
      getF s k (layR (runsF s L f a on) ++ t) 0 a on Lc = some (L, t, 0)
  | 0, f, a, on, Lc, h1, _, _, _, _, _ => by unfold getM at h1; omega
  | k + 1, f, a, on, Lc, h1, h2, h3, h4, h5, h6 => by
    by_cases hlt : a < s
    · have hm := runM_step (L := L) (on := on) hlt
      obtain ⟨f', rfl⟩ : ∃ f', f = f' + 1 := ⟨f - 1, by omega⟩
      have e1 := seekR_le (s := s) (a := a) L (!on)
      have e2 := seekR_ge (s := s) L (!on) h3
      have hmiss : ∀ i, a ≤ i → i < seekR s L a (!on) → bitL L i = on := fun i h7 h8 => isOn_off.1 (seekR_miss h3 h7 h8)
      have hhit : seekR s L a (!on) < s → isOn L (!on) (seekR s L a (!on)) = true := seekR_hit
      rw [runsF, if_pos hlt]
      show getF s (k + 1) (putSmall (min (seekR s L a (!on) - a) 4096) ++ layR (runsF s L f' (seekR s L a (!on)) (!on)) ++ t) 0 a on Lc = _
      generalize seekR s L a (!on) = E at *
      have hd : min (E - a) 4096 = E - a := by omega
      rw [hd, List.append_assoc, getF, if_pos hlt]
      obtain ⟨r1, r2, r3⟩ := rd_put (n := E - a) (by omega) (layR (runsF s L f' E (!on)) ++ t)
      rw [r1, r2, r3]
      have hpos : ¬(a = 0 ∧ on = false) → 0 < E - a := by
        intro hf
        rcases h4 with h4 | h4
        · exact absurd h4 hf
        · have h9 := h4 hlt
          by_cases he : E = a
          · have := hhit (by omega)
            rw [he, isOn_not, h9] at this
            cases this
          · omega
      rw [if_neg (by
        rintro (h | ⟨h, h'⟩)
        · omega
        · have := hpos h'; omega)]
      rw [show a + (E - a) = E by omega]
      apply get_runs hs hl hc t k f' E (!on)
      · unfold getM at h1 ⊢
        by_cases hf : a = 0 ∧ on = false
        · rw [if_pos hf] at h1
          rw [if_neg (by rw [hf.2]; simp)]
          omega
        · rw [if_neg hf] at h1
          have := hpos hf
          rw [if_neg (by omega)]
          omega
      · omega
      · exact e1
      · exact .inr hhit
      · split
        · rw [fillL_len]; exact h5
        · exact h5
      · intro i
        cases on with
        | true =>
          rw [if_pos rfl, fillL_bit _ _ _ _ (by rw [h5, hl]; omega), h6]
          by_cases c1 : i < a
          · rw [decide_eq_true c1, decide_eq_false (by omega), decide_eq_true (by omega), Bool.or_false]
          · by_cases c2 : i < E
            · rw [decide_eq_false c1, decide_eq_true (by omega), decide_eq_true c2, hmiss i (by omega) c2]; rfl
            · rw [decide_eq_false c1, decide_eq_false (by omega), decide_eq_false c2]; rfl
        | false =>
          rw [if_neg (by simp), h6]
          by_cases c1 : i < a
          · rw [decide_eq_true c1, decide_eq_true (by omega)]
          · by_cases c2 : i < E
            · rw [decide_eq_false c1, decide_eq_true c2, hmiss i (by omega) c2]; rfl
            · rw [decide_eq_false c1, decide_eq_false c2]
    · obtain rfl : a = s := by omega
      have hr : runsF a L f a on = [] := by
        cases f with
        | zero => rfl
        | succ f => rw [runsF, if_neg hlt]
      rw [hr, getF, if_neg hlt]
      have : Lc = L := bit_ext h5 fun i _ => by
        rw [h6]
        by_cases c : i < a
        · rw [decide_eq_true c, Bool.true_and]
        · rw [decide_eq_false c, Bool.false_and, hc i (by omega)]
      rw [this]
      rfl
/-- A map's bytes, with others behind them. -/
theorem get_put {s : Nat} {L : List UInt64} (ho : okB (s : Int) L = true) (t : List UInt8) : getR (putB (s : Int) L ++ t) = if t = [] then some (s, L) else none := by
  obtain ⟨m, e, hm, hl, hc⟩ := okB_nat ho
  obtain rfl : s = m := by omega
  unfold putB
  rw [if_pos ho, Int.toNat_natCast, List.append_assoc]
  obtain ⟨r1, r2, r3⟩ := rd_put (n := s) (by omega) (layR (runs s L) ++ t)
  unfold getR
  rw [r1, r2, r3, if_pos hm]
  have h := get_runs hm hl (fun i hi => bit_big ho hi) t (s + 2) (2 * s + 1) 0 false (newL (s : Nat)) (by unfold getM; rw [if_pos ⟨rfl, rfl⟩]; omega) (runM_start s L) (Nat.zero_le _) (.inl ⟨rfl, rfl⟩) (by rw [newL_len hm, hl]) (fun i => by rw [newL_bit, decide_eq_false (by omega)]; rfl)
  rw [show runs s L = runsF s L (2 * s + 1) 0 false from rfl, h]
  show Option.map _ (if rdD t 0 = 0 then some L else none) = _
  unfold rdD
  rw [if_pos rfl]
  by_cases ht : t = []
  · rw [if_pos ht, if_pos rfl, if_pos ht]; rfl
  · rw [if_neg ht, if_neg (by omega), if_neg ht]; rfl
end Go.Proofs.YtegjeijiekggdaaGreatDoor
end
