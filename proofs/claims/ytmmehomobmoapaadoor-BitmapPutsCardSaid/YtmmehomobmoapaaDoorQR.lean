/- The package bitmap: Set, the walk. -/
import Derived.Test.YtmmehomobmoapaaDoorQO
import Derived.Deep.CutRange
import Derived.Deep.RegionWith
namespace Go.Proofs.YtmmehomobmoapaaDoor
open Go.RowKit
set_option linter.unusedVariables false
set_option linter.unusedSimpArgs false
/-- Block g holds the size s and a slice v of the call's own that reads as L; nothing below base has changed since w. -/
structure BxQ (base : Nat) (w W : World) (g : Nat) (s : Int) (v : Value) (L : List UInt64) (t : TypeId) : Prop where
  at_ : W.heap[g]? = some (.cells #[.int .i64 s, v] t (0, 0))
  ge : base ≤ g
  own : OQ base W v L
  ne : v.ownBlock ≠ some g
  bel : Below base w W
theorem BxQ.cells {base : Nat} {w W : World} {g : Nat} {s : Int} {v : Value} {L : List UInt64} {t : TypeId} (h : BxQ base w W g s v L t) : W.cell? ⟨g, 0, none⟩ = some (.int .i64 s) ∧ W.cell? ⟨g, 1, none⟩ = some v ∧ W.frozen? ⟨g, 0, none⟩ = false ∧ W.frozen? ⟨g, 1, none⟩ = false :=
  ⟨(cell_of_row W _ 0 _ _ _ h.at_).trans rfl, (cell_of_row W _ 1 _ _ _ h.at_).trans rfl, by simp [World.frozen?, h.at_], by simp [World.frozen?, h.at_]⟩
theorem BxQ.later {base : Nat} {w W V : World} {g : Nat} {s : Int} {v : Value} {L : List UInt64} {t : TypeId} (h : BxQ base w W g s v L t) (hb : Below W.heap.size W V) : BxQ base w V g s v L t :=
  ⟨(hb.block g (Array.getElem?_eq_some_iff.1 h.at_).1).trans h.at_, h.ge, h.own.keep hb (Nat.le_refl _), h.ne, h.bel.trans (hb.mono (Nat.le_trans (Nat.le_trans h.ge (Nat.le_of_lt (Array.getElem?_eq_some_iff.1 h.at_).1)) (Nat.le_refl _)))⟩
theorem heap_setCell_ne {W : World} {p : Addr} {g : Nat} (h : p.block ≠ g) (v : Value) : (W.setCell p v).heap[g]? = W.heap[g]? := by
  unfold World.setCell
  simp [Array.getElem?_modify, h]
/-- A store of one word. -/
theorem BxQ.set {base : Nat} {w W : World} {g : Nat} {s : Int} {A : Option Addr} {n c : Nat} {L : List UInt64} {t : TypeId} (h : BxQ base w W g s (.slice A n c) L t) {k : Nat} {x : UInt64} (hk : L[k]? = some x) :
    ∃ gv, A = some ⟨gv, 0, none⟩ ∧ base ≤ gv ∧ W.cell? ⟨gv, k, none⟩ = some (.int .u64 (x.toNat : Int)) ∧ W.frozen? ⟨gv, k, none⟩ = false ∧ ∀ (y : UInt64) (z : Int), z = (y.toNat : Int) → BxQ base w (W.setCell ⟨gv, k, none⟩ (.int .u64 z)) g s (.slice A n c) (L.set k y) t := by
  obtain ⟨gv, rfl, h1, h2, h3, h4, h5⟩ := h.own.at_ hk
  refine ⟨gv, rfl, h1, h3, h4, fun y z hz => ⟨?_, h.ge, h5 y z hz, h.ne, h.bel.setCell (p := ⟨gv, k, none⟩) h1 _⟩⟩
  rw [heap_setCell_ne (fun e => h.ne (by rw [← e]; rfl))]
  exact h.at_
theorem cellsPut {W : World} {g : Nat} {x0 x1 : Value} {t : TypeId} (h : W.heap[g]? = some (.cells #[x0, x1] t (0, 0))) {base : Nat} {w : World} (hg : base ≤ g) {s : Int} {v : Value} {L : List UInt64} (ho : OQ base W v L) (hne : v.ownBlock ≠ some g) (hb : Below base w W) : BxQ base w ((W.setCell ⟨g, 0, none⟩ (.int .i64 s)).setCell ⟨g, 1, none⟩ v) g s v L t := by
  refine ⟨heap_setC h _ _, hg, ?_, hne, belowC hb hg _ _⟩
  unfold OQ at ho ⊢
  refine ⟨ho.1, ?_⟩
  rcases ho.2 with h1 | ⟨gv, cap, cur, e, hb', hh, r⟩
  · exact .inl h1
  · refine .inr ⟨gv, cap, cur, e, hb', ?_, r⟩
    have hgg : g ≠ gv := fun e2 => hne (by rw [e, e2]; rfl)
    rw [heap_setCell_ne (p := ⟨g, 1, none⟩) hgg, heap_setCell_ne (p := ⟨g, 0, none⟩) hgg]
    exact hh
theorem BxQ.new {base : Nat} {w W : World} {s : Int} {v : Value} {L : List UInt64} (t : TypeId) (hb : Below base w W) (ho : OQ base W v L) (hs : base ≤ W.heap.size) : BxQ base w (W.alloc (.cells #[.int .i64 s, v] t)) W.heap.size s v L t :=
  ⟨heap_alloc_last W _, hs, ho.alloc _, fun e => Nat.lt_irrefl _ (World.ownsRow.lt ho _ e).2, hb.alloc hs _⟩
theorem OQ.block {base : Nat} {w : World} {v : Value} {L : List UInt64} (h : OQ base w v L) {k : Nat} (hk : v.ownBlock = some k) : base ≤ k ∧ k < w.heap.size := World.ownsRow.lt h k hk
theorem wrap_pow {k : Nat} (hk : k < 64) : IntKind.u64.wrap (2 ^ k) = ((2 ^ k : Nat) : Int) := by
  have h := pow_lt64 hk
  rw [IntKind.wrap_u64, show (2 : Int) ^ k = ((2 ^ k : Nat) : Int) by simp]
  generalize 2 ^ k = q at *
  omega
theorem setRes {w W0 V : World} {g : Nat} {s : Int} {v x0 x1 : Value} {L : List UInt64} {t : TypeId} (hx : W0.heap[w.heap.size + 1]? = some (.cells #[x0, x1] t (0, 0))) (h0 : Below w.heap.size w W0) (h : BxQ (w.heap.size + 2) W0 V g s v L t) :
    V.cell? ⟨g, 0, none⟩ = some (.int .i64 s) ∧ V.cell? ⟨g, 1, none⟩ = some v ∧ V.cell? ⟨w.heap.size + 1, 0, none⟩ = some x0 ∧ V.cell? ⟨w.heap.size + 1, 1, none⟩ = some x1 ∧ V.frozen? ⟨w.heap.size + 1, 0, none⟩ = false ∧ V.frozen? ⟨w.heap.size + 1, 1, none⟩ = false ∧
      OQ w.heap.size ((V.setCell ⟨w.heap.size + 1, 0, none⟩ (.int .i64 s)).setCell ⟨w.heap.size + 1, 1, none⟩ v) v L ∧ Below w.heap.size w ((V.setCell ⟨w.heap.size + 1, 0, none⟩ (.int .i64 s)).setCell ⟨w.heap.size + 1, 1, none⟩ v) := by
  have hx2 := (h.bel.block (w.heap.size + 1) (Nat.lt_succ_self _)).trans hx
  refine ⟨h.cells.1, h.cells.2.1, (cell_of_row V _ 0 _ _ _ hx2).trans rfl, (cell_of_row V _ 1 _ _ _ hx2).trans rfl, by simp [World.frozen?, hx2], by simp [World.frozen?, hx2], (h.own.setB (by omega) _ _).lift (by omega), belowC (h0.trans (h.bel.mono (by omega))) (Nat.le_succ _) _ _⟩
set_option maxHeartbeats 1000000 in
set_option maxRecDepth 100000 in
theorem set_any (s : Int) (A : Option Addr) (c : Nat) (L : List UInt64) (n : Int) (on : Bool) (w : World) (hn : L.length ≤ 1000) (hr : RQ w A L) : Calls Tryd.prog 11 #[.agg #[.int .i64 s, .slice A L.length c], .int .i64 n, .bool on] w fun e w' => ∃ v, e = .returned (.agg #[.int .i64 s, v]) ∧ OQ w.heap.size w' v (setL s L n on) ∧ Below w.heap.size w w' := by
  have HR := Lib.hid hr
  have KC := Lib.hid (fun W (hb : Below w.heap.size w W) => check_any s A c L W (HR.out.below hb))
  have KB := Lib.hid (fun W => below_any s n (.slice A L.length c) W)
  have KK := Lib.hid (fun W (hb : Below w.heap.size w W) => cloneQ_any A L.length c L W rfl hn (HR.out.below hb))
  have BX := Lib.hid (fun W h => bx4 w (.int .i64 s) (.slice A L.length c) (.int .i64 0) (.slice none 0 0) 27 27 (W := W) h)
  have B0 := Lib.hid (((Below.refl w.heap.size w).alloc (Nat.le_refl _) (.cells #[.int .i64 s, .slice A L.length c] 27)).alloc (by rw [heap_size_alloc]; omega) (.cells #[.int .i64 0, .slice none 0 0] 27))
  obtain ⟨⟨x0, x1⟩, z0, z1⟩ := BX.out _ (Below.refl _ _)
  obtain ⟨N, hN⟩ : ∃ N, N = L.length := ⟨_, rfl⟩
  have HN := Lib.hid hN
  rw [← hN] at x0 x1 B0 BX KC KB KK ⊢
  have HZ : Hid (((w.alloc (.cells #[.int .i64 s, .slice A N c] 27)).alloc (.cells #[.int .i64 0, .slice none 0 0] 27)).heap.size = w.heap.size + 2) := Lib.hid (by rw [heap_size_alloc, heap_size_alloc])
  have RX0 : Hid (((w.alloc (.cells #[.int .i64 s, .slice A N c] 27)).alloc (.cells #[.int .i64 0, .slice none 0 0] 27)).heap[w.heap.size + 1]? = some (.cells #[.int .i64 0, .slice none 0 0] 27 (0, 0))) := Lib.hid (by
    have h := heap_alloc_last (w.alloc (.cells #[.int .i64 s, .slice A N c] 27)) (.cells #[.int .i64 0, .slice none 0 0] 27)
    rw [heap_size_alloc] at h
    exact h)
  clear hr hN hn
  go_enter Tryd.func11, Tryd.ntmps11
  go_upto_region 1 with fail
  generalize (w.alloc (.cells #[.int .i64 s, .slice A N c] 27)).alloc (.cells #[.int .i64 0, .slice none 0 0] 27) = W0 at *
  have a0 : (W0.alloc (.cells #[.int .i64 0, .slice none 0 0] 27)).drew.cell? ⟨w.heap.size, 0, none⟩ = some (.int .i64 s) := (World.cell?_alloc_lt W0 _ ⟨w.heap.size, 0, none⟩ (lt_of_cell x0)).trans x0
  have a1 : (W0.alloc (.cells #[.int .i64 0, .slice none 0 0] 27)).drew.cell? ⟨w.heap.size, 1, none⟩ = some (.slice A N c) := (World.cell?_alloc_lt W0 _ ⟨w.heap.size, 1, none⟩ (lt_of_cell x1)).trans x1
  have CX := Lib.hid (fun W (h : Below W0.heap.size W0 W) => (h.cell (p := ⟨w.heap.size, 0, none⟩) (lt_of_cell x0)).trans x0)
  go_cut [7] from 9 to 14 (fun p wx => ∃ g v, p = .pointer (some ⟨g, 0, none⟩) ∧ BxQ (w.heap.size + 2) W0 wx g s v L 27)
  case first =>
    go_region_with (first
      | (go_at_call 36; refine (KK.out _ B0.out.drew).mono ?_; rintro e w1 ⟨v1, rfl, ho1, hb1⟩; obtain ⟨A1, c1, rfl, hc1, hr1⟩ := ho1.form; have y0 := CX.out w1 ((Below.refl _ W0).drew.trans hb1); have y1 := (World.cell?_alloc_lt w1 (.cells #[.int .i64 0, .slice none 0 0] 27) ⟨w.heap.size, 0, none⟩ (lt_of_cell y0)).trans y0; have FIN := Lib.hid (BxQ.new (s := s) 27 ((Below.refl (w.heap.size + 2) W0).drew.trans (hb1.mono (Nat.le_of_eq HZ.out.symm))) (ho1.lift (Nat.le_of_eq HZ.out.symm)) (Nat.le_trans (Nat.le_of_eq HZ.out.symm) hb1.size)); clear ho1 hb1 hr1 hc1)
      | (go_at_call 36; refine (KK.out _ (B0.out.alloc B0.out.size _).drew).mono ?_; rintro e w1 ⟨v1, rfl, ho1, hb1⟩; obtain ⟨A1, c1, rfl, hc1, hr1⟩ := ho1.form; have y0 := CX.out w1 (((Below.refl _ W0).alloc (Nat.le_refl _) _).drew.trans (hb1.mono (by show _ ≤ (W0.alloc _).heap.size; rw [heap_size_alloc]; exact Nat.le_succ _))); have hq1 := (hb1.block W0.heap.size (by show _ < (W0.alloc _).heap.size; rw [heap_size_alloc]; exact Nat.lt_succ_self _)).trans (heap_alloc_last W0 _); have HQ1 := Lib.hid hq1; have u0 : w1.cell? ⟨W0.heap.size, 0, none⟩ = some (.int .i64 0) := (cell_of_row w1 _ 0 _ _ _ hq1).trans rfl; have u1 : w1.cell? ⟨W0.heap.size, 1, none⟩ = some (.slice none 0 0) := (cell_of_row w1 _ 1 _ _ _ hq1).trans rfl; have f0 : w1.frozen? ⟨W0.heap.size, 0, none⟩ = false := (by simp [World.frozen?, hq1]); have f1 : w1.frozen? ⟨W0.heap.size, 1, none⟩ = false := (by simp [World.frozen?, hq1]); have FIN := Lib.hid (cellsPut (s := s) hq1 (Nat.le_of_eq HZ.out.symm) (ho1.lift (by show _ ≤ (W0.alloc _).heap.size; rw [heap_size_alloc, HZ.out]; exact Nat.le_succ _)) (fun e => by have h := (ho1.block e).1; have h2 : W0.heap.size + 1 ≤ W0.heap.size := (by rw [← heap_size_alloc W0]; exact h); omega) (((Below.refl (w.heap.size + 2) W0).alloc (Nat.le_of_eq HZ.out.symm) _).drew.trans (hb1.mono (by show _ ≤ (W0.alloc _).heap.size; rw [heap_size_alloc, HZ.out]; exact Nat.le_succ _)))); clear hq1 ho1 hb1 hr1 hc1)
      | fail)
    all_goals
      go_wp2_with fail
      go_meet
      exact ⟨_, _, rfl, FIN.out⟩
  case rest =>
    obtain ⟨g, v, rfl, hbx⟩ := hcut
    obtain ⟨A2, c2, rfl, hc2, hr2⟩ := hbx.own.form
    have HBX := Lib.hid hbx
    have HBE := Lib.hid (B0.out.trans (hbx.bel.mono (Nat.le_add_right _ 2)))
    obtain ⟨y0, y1⟩ := (BX.out wc (hbx.bel.mono (Nat.le_of_eq HZ.out))).1
    clear hbx hr2 hc2 x0 x1 a0 a1 z0 z1
    have EN := Lib.hid (fun (V : World) (L' : List UInt64) (h : BxQ (w.heap.size + 2) W0 V g s (.slice A2 L.length c2) L' 27) => setRes RX0.out B0.out h)
    rcases chk_cases s L with ⟨h0, h1⟩ | ⟨h0, h1⟩
    · have HO := Lib.hid h0
      rw [h1] at KC
      clear h0 h1
      by_cases h2 : 0 ≤ n ∧ n < s
      · have HSO : Hid (setOk s L n = true) := Lib.hid (by unfold setOk; rw [HO.out, decide_eq_true h2]; rfl)
        obtain ⟨m, rfl, hm, hl, _⟩ := okB_nat HO.out
        obtain ⟨k, rfl⟩ := Int.eq_ofNat_of_zero_le h2.1
        rw [decide_eq_true h2] at KB
        obtain ⟨x, hx⟩ : ∃ x, L[k / 64]? = some x := ⟨L[k / 64]'(by omega), List.getElem?_eq_getElem _⟩
        have HX := Lib.hid hx
        have HSL : Hid (setL (m : Int) L (k : Int) on = L.set (k / 64) (setU x (k % 64) on)) := Lib.hid (by
          unfold setL
          rw [if_pos HSO.out, Int.toNat_natCast, List.getD_eq_getElem?_getD, hx]
          rfl)
        have hq : (k : Int).tdiv 64 = ((k / 64 : Nat) : Int) := tdiv64 k
        have hq2 : (k : Int) / 64 = ((k / 64 : Nat) : Int) := by omega
        have hm2 : (k : Int).tmod 64 = ((k % 64 : Nat) : Int) := tmod64 k
        have hlt : ((k / 64 : Nat) : Int) < (L.length : Int) := by omega
        have hk0 : (0 : Int) ≤ ((k / 64 : Nat) : Int) := by omega
        have hkq : k / 64 < 64 := by omega
        have hkm : k % 64 < 64 := by omega
        clear hx h2 hl hm
        generalize k / 64 = kq at *
        generalize k % 64 = km at *
        go_wp2_with fail
        refine (KC.out _ HBE.out).mono ?_
        rintro e w5 ⟨rfl, b5⟩
        have P5 := Lib.hid (HBX.out.later b5)
        have v0 := (b5.cell (p := ⟨w.heap.size, 0, none⟩) (lt_of_cell y0)).trans y0
        have v1 := (b5.cell (p := ⟨w.heap.size, 1, none⟩) (lt_of_cell y1)).trans y1
        clear b5 y0 y1
        go_wp2_with fail
        refine (KB.out _).mono ?_
        rintro e w6 ⟨rfl, b6⟩
        have P6 := Lib.hid (P5.out.later b6)
        obtain ⟨q0, q1, _, _⟩ := P6.out.cells
        obtain ⟨gv, rfl, hgv, cx, fx, hset⟩ := P6.out.set HX.out
        have HSET := Lib.hid hset
        clear b6 hset v0 v1
        cases on
        · have KE : bits .andNot .u64 (x.toNat : Int) (IntKind.u64.wrap (2 ^ km)) = ((setU x km false).toNat : Int) := by rw [wrap_pow hkm, and_not_run _ _ x.toNat_lt hkm, setU_nat _ _ hkm]
          obtain ⟨q0, q1, r0, r1, r2, r3, P7⟩ := EN.out _ _ (HSET.out (setU x km false) _ KE)
          have HP := Lib.hid P7
          clear KE P7
          go_upto_region 8 with fail
          generalize w6.setCell ⟨gv, kq, none⟩ (.int .u64 (bits .andNot .u64 (x.toNat : Int) (IntKind.u64.wrap (2 ^ km)))) = V8 at *
          go_wp2
          refine bodyPost_ret (v := .agg #[.int .i64 (m : Int), .slice (some ⟨gv, 0, none⟩) L.length c2]) (by simp [results, Tryd.results11, go_sem, r0, r1]) rfl ⟨_, rfl, ?_⟩
          rw [HSL.out]
          exact HP.out
        · have KE : bits .or .u64 (x.toNat : Int) (IntKind.u64.wrap (2 ^ km)) = ((setU x km true).toNat : Int) := by rw [wrap_pow hkm, bits_or_u64_nat _ _ x.toNat_lt (pow_lt64 hkm), setW_or, setU_nat _ _ hkm]
          obtain ⟨q0, q1, r0, r1, r2, r3, P7⟩ := EN.out _ _ (HSET.out (setU x km true) _ KE)
          have HP := Lib.hid P7
          clear KE P7
          go_upto_region 8 with fail
          generalize w6.setCell ⟨gv, kq, none⟩ (.int .u64 (bits .or .u64 (x.toNat : Int) (IntKind.u64.wrap (2 ^ km)))) = V8 at *
          go_wp2
          refine bodyPost_ret (v := .agg #[.int .i64 (m : Int), .slice (some ⟨gv, 0, none⟩) L.length c2]) (by simp [results, Tryd.results11, go_sem, r0, r1]) rfl ⟨_, rfl, ?_⟩
          rw [HSL.out]
          exact HP.out
      · have HS : Hid (setL s L n on = L) := Lib.hid (setL_no (by unfold setOk; rw [decide_eq_false h2, Bool.and_false]))
        rw [decide_eq_false h2] at KB
        clear h2
        go_wp2_with fail
        refine (KC.out _ HBE.out).mono ?_
        rintro e w5 ⟨rfl, b5⟩
        have P5 := Lib.hid (HBX.out.later b5)
        have v0 := (b5.cell (p := ⟨w.heap.size, 0, none⟩) (lt_of_cell y0)).trans y0
        have v1 := (b5.cell (p := ⟨w.heap.size, 1, none⟩) (lt_of_cell y1)).trans y1
        clear b5 y0 y1
        go_wp2_with fail
        refine (KB.out _).mono ?_
        rintro e w6 ⟨rfl, b6⟩
        obtain ⟨q0, q1, r0, r1, r2, r3, P6⟩ := EN.out w6 L (P5.out.later b6)
        clear b6 v0 v1
        go_wp2
        refine bodyPost_ret (v := .agg #[.int .i64 s, .slice A2 L.length c2]) (by simp [results, Tryd.results11, go_sem, r0, r1]) rfl ⟨_, rfl, ?_⟩
        rw [HS.out]
        exact P6
    · have HS : Hid (setL s L n on = L) := Lib.hid (setL_no (by unfold setOk; rw [h0]; rfl))
      rw [h1] at KC
      clear h0 h1
      go_wp2_with fail
      refine (KC.out _ HBE.out).mono ?_
      rintro e w5 ⟨rfl, b5⟩
      obtain ⟨q0, q1, r0, r1, r2, r3, P5⟩ := EN.out w5 L (HBX.out.later b5)
      clear b5 y0 y1
      go_wp2
      refine bodyPost_ret (v := .agg #[.int .i64 s, .slice A2 L.length c2]) (by simp [results, Tryd.results11, go_sem, r0, r1]) rfl ⟨_, rfl, ?_⟩
      rw [HS.out]
      exact P5
end Go.Proofs.YtmmehomobmoapaaDoor
