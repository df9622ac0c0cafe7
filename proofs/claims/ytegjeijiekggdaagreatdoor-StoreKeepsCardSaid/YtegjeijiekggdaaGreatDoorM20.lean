/- Joined: QO QR QS QT QU. -/
import Derived.Test.YtegjeijiekggdaaGreatDoorM19
import Derived.Laws.Bits64
import Derived.Laws.Bits64b
import Derived.Deep.CutRange
import Derived.Deep.RegionWith
import Derived.Deep.RegionHeld3
section
/- The package bitmap: Set. -/
namespace Go.Proofs.YtegjeijiekggdaaGreatDoor
open Go.RowKit
set_option linter.unusedVariables false
set_option linter.unusedSimpArgs false
/-- The word x with its bit k as told. -/
def setW (x k : Nat) (on : Bool) : Nat := if x.testBit k = on then x else x ^^^ 2 ^ k
theorem pow_lt64 {k : Nat} (hk : k < 64) : 2 ^ k < 18446744073709551616 := by
  rw [show (18446744073709551616 : Nat) = 2 ^ 64 by decide]
  exact Nat.pow_lt_pow_right (by omega) hk
theorem setW_lt {x k : Nat} {on : Bool} (h : x < 18446744073709551616) (hk : k < 64) : setW x k on < 18446744073709551616 := by
  unfold setW
  split
  · exact h
  · rw [show (18446744073709551616 : Nat) = 2 ^ 64 by decide] at h ⊢
    exact Nat.xor_lt_two_pow h (Nat.pow_lt_pow_right (by omega) hk)
theorem setW_bit (x k : Nat) (on : Bool) (i : Nat) : (setW x k on).testBit i = if i = k then on else x.testBit i := by
  unfold setW
  by_cases h : x.testBit k = on
  · rw [if_pos h]
    by_cases e : i = k
    · subst e; rw [if_pos rfl, h]
    · rw [if_neg e]
  · rw [if_neg h, Nat.testBit_xor, Nat.testBit_two_pow]
    by_cases e : i = k
    · subst e
      rw [if_pos rfl, decide_eq_true rfl]
      cases on <;> cases hx : x.testBit i <;> simp_all
    · rw [if_neg e, decide_eq_false (fun h => e h.symm), Bool.xor_false]
theorem setW_or (x k : Nat) : x ||| 2 ^ k = setW x k true := by
  apply Nat.eq_of_testBit_eq
  intro i
  rw [setW_bit, Nat.testBit_or, Nat.testBit_two_pow]
  by_cases e : i = k
  · subst e; simp
  · rw [if_neg e, decide_eq_false (fun h => e h.symm), Bool.or_false]
theorem and_not_run (x k : Nat) (hx : x < 18446744073709551616) (hk : k < 64) : bits .andNot .u64 (x : Int) ((2 ^ k : Nat) : Int) = ((setW x k false : Nat) : Int) := by
  have hp := pow_lt64 hk
  have h1 : (BitVec.ofInt 64 (x : Int)).toNat = x := by
    rw [BitVec.ofInt_natCast, BitVec.toNat_ofNat]; exact Nat.mod_eq_of_lt (by omega)
  have h2 : BitVec.ofInt 64 ((2 ^ k : Nat) : Int) = BitVec.ofNat 64 (2 ^ k) := by rw [BitVec.ofInt_natCast]
  show IntKind.u64.wrap ((BitVec.ofInt 64 (x : Int) &&& ~~~ BitVec.ofInt 64 ((2 ^ k : Nat) : Int)).toNat : Int) = _
  have e : (BitVec.ofInt 64 (x : Int) &&& ~~~ BitVec.ofInt 64 ((2 ^ k : Nat) : Int)).toNat = setW x k false := by
    apply Nat.eq_of_testBit_eq
    intro i
    rw [BitVec.toNat_and, h1, h2, Nat.testBit_and, setW_bit, BitVec.toNat_not, BitVec.toNat_ofNat, Nat.mod_eq_of_lt (by omega), show (2 : Nat) ^ 64 - 1 - 2 ^ k = 2 ^ 64 - (2 ^ k + 1) by omega, Nat.testBit_two_pow_sub_succ (by omega), Nat.testBit_two_pow]
    by_cases e : i = k
    · subst e; simp
    · rw [if_neg e, decide_eq_false (show ¬ k = i from fun h => e h.symm)]
      by_cases hi : i < 64
      · simp [hi]
      · rw [Nat.testBit_lt_two_pow (Nat.lt_of_lt_of_le hx (by rw [show (18446744073709551616 : Nat) = 2 ^ 64 by decide]; exact Nat.pow_le_pow_right (by omega) (by omega)))]
        rfl
  have := setW_lt (on := false) hx hk
  rw [e, IntKind.wrap_u64]
  omega
def setU (x : UInt64) (k : Nat) (on : Bool) : UInt64 := UInt64.ofNat (setW x.toNat k on)
theorem setU_nat (x : UInt64) {k : Nat} (on : Bool) (hk : k < 64) : (setU x k on).toNat = setW x.toNat k on := by
  have := setW_lt (on := on) x.toNat_lt hk
  unfold setU
  rw [UInt64.toNat_ofNat']
  exact Nat.mod_eq_of_lt this
def setOk (s : Int) (L : List UInt64) (n : Int) : Bool := okB s L && decide (0 ≤ n ∧ n < s)
def setL (s : Int) (L : List UInt64) (n : Int) (on : Bool) : List UInt64 := if setOk s L n = true then L.set (n.toNat / 64) (setU (L.getD (n.toNat / 64) 0) (n.toNat % 64) on) else L
theorem setL_no {s : Int} {L : List UInt64} {n : Int} {on : Bool} (h : setOk s L n = false) : setL s L n on = L := by unfold setL; rw [if_neg (by rw [h]; simp)]
theorem setL_len (s : Int) (L : List UInt64) (n : Int) (on : Bool) : (setL s L n on).length = L.length := by
  unfold setL; split <;> simp
theorem setL_bit {s : Int} {L : List UInt64} {n : Int} {on : Bool} (h : setOk s L n = true) (i : Nat) : bitL (setL s L n on) i = if i = n.toNat then on else bitL L i := by
  unfold setL
  rw [if_pos h]
  unfold setOk at h
  simp only [Bool.and_eq_true, decide_eq_true_eq] at h
  obtain ⟨k, rfl, hk, hl, _⟩ := okB_nat h.1
  obtain ⟨m, rfl⟩ := Int.eq_ofNat_of_zero_le h.2.1
  rw [Int.toNat_natCast]
  have hm : m / 64 < L.length := by omega
  unfold bitL
  rw [List.getD_eq_getElem?_getD, List.getElem?_set]
  by_cases e : m / 64 = i / 64
  · rw [if_pos e, if_pos (by omega)]
    show (setU _ _ on).toNat.testBit _ = _
    rw [setU_nat _ _ (by omega), setW_bit]
    by_cases e2 : i = m
    · subst e2; rw [if_pos rfl, if_pos rfl]
    · rw [if_neg (by omega), if_neg e2, e]
  · rw [if_neg e, if_neg (by omega), List.getD_eq_getElem?_getD]
theorem setL_ok {s : Int} {L : List UInt64} {n : Int} {on : Bool} (h : okB s L = true) : okB s (setL s L n on) = true := by
  cases hs : setOk s L n with
  | false => rw [setL_no hs]; exact h
  | true =>
    have hb := setL_bit (on := on) hs
    obtain ⟨k, rfl, hk, hl, hc⟩ := okB_nat h
    unfold okB fitB cleanB
    rw [setL_len, Bool.and_eq_true, decide_eq_true_eq, decide_eq_true_eq]
    refine ⟨by omega, fun i h1 h2 => ?_⟩
    rw [hb, if_neg, hc i h1 (by omega)]
    unfold setOk at hs
    simp only [Bool.and_eq_true, decide_eq_true_eq] at hs
    omega
end Go.Proofs.YtegjeijiekggdaaGreatDoor
end
section
/- The package bitmap: Set, the walk. -/
namespace Go.Proofs.YtegjeijiekggdaaGreatDoor
open Go.RowKit
set_option linter.unusedVariables false
set_option linter.unusedSimpArgs false
/-- Block g holds the size s and a slice v of the call's own that reads as L; nothing below base has changed since w. -/
structure BxQ (base : Nat) (w W : World) (g : Nat) (s : Int) (v : Value) (L : List UInt64) (t : TypeId) : Prop where
  at_ : W.heap[g]? = some (.cells #[.int .i64 s, v] t (0, 0))
  ge : base ≤ g
  own : OQ base W v L
  ne : v.ownBlock ≠ some g
  bel : Below base w W
theorem BxQ.cells {base : Nat} {w W : World} {g : Nat} {s : Int} {v : Value} {L : List UInt64} {t : TypeId} (h : BxQ base w W g s v L t) : W.cell? ⟨g, 0, none⟩ = some (.int .i64 s) ∧ W.cell? ⟨g, 1, none⟩ = some v ∧ W.frozen? ⟨g, 0, none⟩ = false ∧ W.frozen? ⟨g, 1, none⟩ = false :=
  ⟨(cell_of_row W _ 0 _ _ _ h.at_).trans rfl, (cell_of_row W _ 1 _ _ _ h.at_).trans rfl, by simp [World.frozen?, h.at_], by simp [World.frozen?, h.at_]⟩
theorem BxQ.later {base : Nat} {w W V : World} {g : Nat} {s : Int} {v : Value} {L : List UInt64} {t : TypeId} (h : BxQ base w W g s v L t) (hb : Below W.heap.size W V) : BxQ base w V g s v L t :=
  ⟨(hb.block g (Array.getElem?_eq_some_iff.1 h.at_).1).trans h.at_, h.ge, h.own.keep hb (Nat.le_refl _), h.ne, h.bel.trans (hb.mono (Nat.le_trans (Nat.le_trans h.ge (Nat.le_of_lt (Array.getElem?_eq_some_iff.1 h.at_).1)) (Nat.le_refl _)))⟩
theorem heap_setCell_ne {W : World} {p : Addr} {g : Nat} (h : p.block ≠ g) (v : Value) : (W.setCell p v).heap[g]? = W.heap[g]? := by
  unfold World.setCell
  simp [Array.getElem?_modify, h]
/-- A store of one word. -/
theorem BxQ.set {base : Nat} {w W : World} {g : Nat} {s : Int} {A : Option Addr} {n c : Nat} {L : List UInt64} {t : TypeId} (h : BxQ base w W g s (.slice A n c) L t) {k : Nat} {x : UInt64} (hk : L[k]? = some x) :
    ∃ gv, A = some ⟨gv, 0, none⟩ ∧ base ≤ gv ∧ W.cell? ⟨gv, k, none⟩ = some (.int .u64 (x.toNat : Int)) ∧ W.frozen? ⟨gv, k, none⟩ = false ∧ ∀ (y : UInt64) (z : Int), z = (y.toNat : Int) → BxQ base w (W.setCell ⟨gv, k, none⟩ (.int .u64 z)) g s (.slice A n c) (L.set k y) t := by
  obtain ⟨gv, rfl, h1, h2, h3, h4, h5⟩ := h.own.at_ hk
  refine ⟨gv, rfl, h1, h3, h4, fun y z hz => ⟨?_, h.ge, h5 y z hz, h.ne, h.bel.setCell (p := ⟨gv, k, none⟩) h1 _⟩⟩
  rw [heap_setCell_ne (fun e => h.ne (by rw [← e]; rfl))]
  exact h.at_
theorem cellsPut {W : World} {g : Nat} {x0 x1 : Value} {t : TypeId} (h : W.heap[g]? = some (.cells #[x0, x1] t (0, 0))) {base : Nat} {w : World} (hg : base ≤ g) {s : Int} {v : Value} {L : List UInt64} (ho : OQ base W v L) (hne : v.ownBlock ≠ some g) (hb : Below base w W) : BxQ base w ((W.setCell ⟨g, 0, none⟩ (.int .i64 s)).setCell ⟨g, 1, none⟩ v) g s v L t := by
  refine ⟨heap_setC h _ _, hg, ?_, hne, belowC hb hg _ _⟩
  unfold OQ at ho ⊢
  refine ⟨ho.1, ?_⟩
  rcases ho.2 with h1 | ⟨gv, cap, cur, e, hb', hh, r⟩
  · exact .inl h1
  · refine .inr ⟨gv, cap, cur, e, hb', ?_, r⟩
    have hgg : g ≠ gv := fun e2 => hne (by rw [e, e2]; rfl)
    rw [heap_setCell_ne (p := ⟨g, 1, none⟩) hgg, heap_setCell_ne (p := ⟨g, 0, none⟩) hgg]
    exact hh
theorem BxQ.new {base : Nat} {w W : World} {s : Int} {v : Value} {L : List UInt64} (t : TypeId) (hb : Below base w W) (ho : OQ base W v L) (hs : base ≤ W.heap.size) : BxQ base w (W.alloc (.cells #[.int .i64 s, v] t)) W.heap.size s v L t :=
  ⟨heap_alloc_last W _, hs, ho.alloc _, fun e => Nat.lt_irrefl _ (World.ownsRow.lt ho _ e).2, hb.alloc hs _⟩
theorem OQ.block {base : Nat} {w : World} {v : Value} {L : List UInt64} (h : OQ base w v L) {k : Nat} (hk : v.ownBlock = some k) : base ≤ k ∧ k < w.heap.size := World.ownsRow.lt h k hk
theorem wrap_pow {k : Nat} (hk : k < 64) : IntKind.u64.wrap (2 ^ k) = ((2 ^ k : Nat) : Int) := by
  have h := pow_lt64 hk
  rw [IntKind.wrap_u64, show (2 : Int) ^ k = ((2 ^ k : Nat) : Int) by simp]
  generalize 2 ^ k = q at *
  omega
theorem setRes {w W0 V : World} {g : Nat} {s : Int} {v x0 x1 : Value} {L : List UInt64} {t : TypeId} (hx : W0.heap[w.heap.size + 1]? = some (.cells #[x0, x1] t (0, 0))) (h0 : Below w.heap.size w W0) (h : BxQ (w.heap.size + 2) W0 V g s v L t) :
    V.cell? ⟨g, 0, none⟩ = some (.int .i64 s) ∧ V.cell? ⟨g, 1, none⟩ = some v ∧ V.cell? ⟨w.heap.size + 1, 0, none⟩ = some x0 ∧ V.cell? ⟨w.heap.size + 1, 1, none⟩ = some x1 ∧ V.frozen? ⟨w.heap.size + 1, 0, none⟩ = false ∧ V.frozen? ⟨w.heap.size + 1, 1, none⟩ = false ∧
      OQ w.heap.size ((V.setCell ⟨w.heap.size + 1, 0, none⟩ (.int .i64 s)).setCell ⟨w.heap.size + 1, 1, none⟩ v) v L ∧ Below w.heap.size w ((V.setCell ⟨w.heap.size + 1, 0, none⟩ (.int .i64 s)).setCell ⟨w.heap.size + 1, 1, none⟩ v) := by
  have hx2 := (h.bel.block (w.heap.size + 1) (Nat.lt_succ_self _)).trans hx
  refine ⟨h.cells.1, h.cells.2.1, (cell_of_row V _ 0 _ _ _ hx2).trans rfl, (cell_of_row V _ 1 _ _ _ hx2).trans rfl, by simp [World.frozen?, hx2], by simp [World.frozen?, hx2], (h.own.setB (by omega) _ _).lift (by omega), belowC (h0.trans (h.bel.mono (by omega))) (Nat.le_succ _) _ _⟩
set_option maxHeartbeats 1000000 in
set_option maxRecDepth 100000 in
theorem set_any (s : Int) (A : Option Addr) (c : Nat) (L : List UInt64) (n : Int) (on : Bool) (w : World) (hn : L.length ≤ 1000) (hr : RQ w A L) : Calls Tryz.prog 63 #[.agg #[.int .i64 s, .slice A L.length c], .int .i64 n, .bool on] w fun e w' => ∃ v, e = .returned (.agg #[.int .i64 s, v]) ∧ OQ w.heap.size w' v (setL s L n on) ∧ Below w.heap.size w w' := by
  have HR := Lib.hid hr
  have KC := Lib.hid (fun W (hb : Below w.heap.size w W) => qCheck_any s A c L W (HR.out.below hb))
  have KB := Lib.hid (fun W => below_any s n (.slice A L.length c) W)
  have KK := Lib.hid (fun W (hb : Below w.heap.size w W) => cloneQ_any A L.length c L W rfl hn (HR.out.below hb))
  have BX := Lib.hid (fun W h => bx4 w (.int .i64 s) (.slice A L.length c) (.int .i64 0) (.slice none 0 0) 64 64 (W := W) h)
  have B0 := Lib.hid (((Below.refl w.heap.size w).alloc (Nat.le_refl _) (.cells #[.int .i64 s, .slice A L.length c] 64)).alloc (by rw [heap_size_alloc]; omega) (.cells #[.int .i64 0, .slice none 0 0] 64))
  obtain ⟨⟨x0, x1⟩, z0, z1⟩ := BX.out _ (Below.refl _ _)
  obtain ⟨N, hN⟩ : ∃ N, N = L.length := ⟨_, rfl⟩
  have HN := Lib.hid hN
  rw [← hN] at x0 x1 B0 BX KC KB KK ⊢
  have HZ : Hid (((w.alloc (.cells #[.int .i64 s, .slice A N c] 64)).alloc (.cells #[.int .i64 0, .slice none 0 0] 64)).heap.size = w.heap.size + 2) := Lib.hid (by rw [heap_size_alloc, heap_size_alloc])
  have RX0 : Hid (((w.alloc (.cells #[.int .i64 s, .slice A N c] 64)).alloc (.cells #[.int .i64 0, .slice none 0 0] 64)).heap[w.heap.size + 1]? = some (.cells #[.int .i64 0, .slice none 0 0] 64 (0, 0))) := Lib.hid (by
    have h := heap_alloc_last (w.alloc (.cells #[.int .i64 s, .slice A N c] 64)) (.cells #[.int .i64 0, .slice none 0 0] 64)
    rw [heap_size_alloc] at h
    exact h)
  clear hr hN hn
  go_enter Tryz.func63, Tryz.ntmps63
  go_upto_region 1 with fail
  generalize (w.alloc (.cells #[.int .i64 s, .slice A N c] 64)).alloc (.cells #[.int .i64 0, .slice none 0 0] 64) = W0 at *
  have a0 : (W0.alloc (.cells #[.int .i64 0, .slice none 0 0] 64)).drew.cell? ⟨w.heap.size, 0, none⟩ = some (.int .i64 s) := (World.cell?_alloc_lt W0 _ ⟨w.heap.size, 0, none⟩ (lt_of_cell x0)).trans x0
  have a1 : (W0.alloc (.cells #[.int .i64 0, .slice none 0 0] 64)).drew.cell? ⟨w.heap.size, 1, none⟩ = some (.slice A N c) := (World.cell?_alloc_lt W0 _ ⟨w.heap.size, 1, none⟩ (lt_of_cell x1)).trans x1
  have CX := Lib.hid (fun W (h : Below W0.heap.size W0 W) => (h.cell (p := ⟨w.heap.size, 0, none⟩) (lt_of_cell x0)).trans x0)
  go_cut [7] from 9 to 14 (fun p wx => ∃ g v, p = .pointer (some ⟨g, 0, none⟩) ∧ BxQ (w.heap.size + 2) W0 wx g s v L 64)
  case first =>
    go_region_with (first
      | (go_at_call 70; refine (KK.out _ B0.out.drew).mono ?_; rintro e w1 ⟨v1, rfl, ho1, hb1⟩; obtain ⟨A1, c1, rfl, hc1, hr1⟩ := ho1.form; have y0 := CX.out w1 ((Below.refl _ W0).drew.trans hb1); have y1 := (World.cell?_alloc_lt w1 (.cells #[.int .i64 0, .slice none 0 0] 64) ⟨w.heap.size, 0, none⟩ (lt_of_cell y0)).trans y0; have FIN := Lib.hid (BxQ.new (s := s) 64 ((Below.refl (w.heap.size + 2) W0).drew.trans (hb1.mono (Nat.le_of_eq HZ.out.symm))) (ho1.lift (Nat.le_of_eq HZ.out.symm)) (Nat.le_trans (Nat.le_of_eq HZ.out.symm) hb1.size)); clear ho1 hb1 hr1 hc1)
      | (go_at_call 70; refine (KK.out _ (B0.out.alloc B0.out.size _).drew).mono ?_; rintro e w1 ⟨v1, rfl, ho1, hb1⟩; obtain ⟨A1, c1, rfl, hc1, hr1⟩ := ho1.form; have y0 := CX.out w1 (((Below.refl _ W0).alloc (Nat.le_refl _) _).drew.trans (hb1.mono (by show _ ≤ (W0.alloc _).heap.size; rw [heap_size_alloc]; exact Nat.le_succ _))); have hq1 := (hb1.block W0.heap.size (by show _ < (W0.alloc _).heap.size; rw [heap_size_alloc]; exact Nat.lt_succ_self _)).trans (heap_alloc_last W0 _); have HQ1 := Lib.hid hq1; have u0 : w1.cell? ⟨W0.heap.size, 0, none⟩ = some (.int .i64 0) := (cell_of_row w1 _ 0 _ _ _ hq1).trans rfl; have u1 : w1.cell? ⟨W0.heap.size, 1, none⟩ = some (.slice none 0 0) := (cell_of_row w1 _ 1 _ _ _ hq1).trans rfl; have f0 : w1.frozen? ⟨W0.heap.size, 0, none⟩ = false := (by simp [World.frozen?, hq1]); have f1 : w1.frozen? ⟨W0.heap.size, 1, none⟩ = false := (by simp [World.frozen?, hq1]); have FIN := Lib.hid (cellsPut (s := s) hq1 (Nat.le_of_eq HZ.out.symm) (ho1.lift (by show _ ≤ (W0.alloc _).heap.size; rw [heap_size_alloc, HZ.out]; exact Nat.le_succ _)) (fun e => by have h := (ho1.block e).1; have h2 : W0.heap.size + 1 ≤ W0.heap.size := (by rw [← heap_size_alloc W0]; exact h); omega) (((Below.refl (w.heap.size + 2) W0).alloc (Nat.le_of_eq HZ.out.symm) _).drew.trans (hb1.mono (by show _ ≤ (W0.alloc _).heap.size; rw [heap_size_alloc, HZ.out]; exact Nat.le_succ _)))); clear hq1 ho1 hb1 hr1 hc1)
      | fail)
    all_goals
      go_wp2_with fail
      go_meet
      exact ⟨_, _, rfl, FIN.out⟩
  case rest =>
    obtain ⟨g, v, rfl, hbx⟩ := hcut
    obtain ⟨A2, c2, rfl, hc2, hr2⟩ := hbx.own.form
    have HBX := Lib.hid hbx
    have HBE := Lib.hid (B0.out.trans (hbx.bel.mono (Nat.le_add_right _ 2)))
    obtain ⟨y0, y1⟩ := (BX.out wc (hbx.bel.mono (Nat.le_of_eq HZ.out))).1
    clear hbx hr2 hc2 x0 x1 a0 a1 z0 z1
    have EN := Lib.hid (fun (V : World) (L' : List UInt64) (h : BxQ (w.heap.size + 2) W0 V g s (.slice A2 L.length c2) L' 64) => setRes RX0.out B0.out h)
    rcases chk_cases s L with ⟨h0, h1⟩ | ⟨h0, h1⟩
    · have HO := Lib.hid h0
      rw [h1] at KC
      clear h0 h1
      by_cases h2 : 0 ≤ n ∧ n < s
      · have HSO : Hid (setOk s L n = true) := Lib.hid (by unfold setOk; rw [HO.out, decide_eq_true h2]; rfl)
        obtain ⟨m, rfl, hm, hl, _⟩ := okB_nat HO.out
        obtain ⟨k, rfl⟩ := Int.eq_ofNat_of_zero_le h2.1
        rw [decide_eq_true h2] at KB
        obtain ⟨x, hx⟩ : ∃ x, L[k / 64]? = some x := ⟨L[k / 64]'(by omega), List.getElem?_eq_getElem _⟩
        have HX := Lib.hid hx
        have HSL : Hid (setL (m : Int) L (k : Int) on = L.set (k / 64) (setU x (k % 64) on)) := Lib.hid (by
          unfold setL
          rw [if_pos HSO.out, Int.toNat_natCast, List.getD_eq_getElem?_getD, hx]
          rfl)
        have hq : (k : Int).tdiv 64 = ((k / 64 : Nat) : Int) := tdiv64 k
        have hq2 : (k : Int) / 64 = ((k / 64 : Nat) : Int) := by omega
        have hm2 : (k : Int).tmod 64 = ((k % 64 : Nat) : Int) := tmod64 k
        have hlt : ((k / 64 : Nat) : Int) < (L.length : Int) := by omega
        have hk0 : (0 : Int) ≤ ((k / 64 : Nat) : Int) := by omega
        have hkq : k / 64 < 64 := by omega
        have hkm : k % 64 < 64 := by omega
        clear hx h2 hl hm
        generalize k / 64 = kq at *
        generalize k % 64 = km at *
        go_wp2_with fail
        refine (KC.out _ HBE.out).mono ?_
        rintro e w5 ⟨rfl, b5⟩
        have P5 := Lib.hid (HBX.out.later b5)
        have v0 := (b5.cell (p := ⟨w.heap.size, 0, none⟩) (lt_of_cell y0)).trans y0
        have v1 := (b5.cell (p := ⟨w.heap.size, 1, none⟩) (lt_of_cell y1)).trans y1
        clear b5 y0 y1
        go_wp2_with fail
        refine (KB.out _).mono ?_
        rintro e w6 ⟨rfl, b6⟩
        have P6 := Lib.hid (P5.out.later b6)
        obtain ⟨q0, q1, _, _⟩ := P6.out.cells
        obtain ⟨gv, rfl, hgv, cx, fx, hset⟩ := P6.out.set HX.out
        have HSET := Lib.hid hset
        clear b6 hset v0 v1
        cases on
        · have KE : bits .andNot .u64 (x.toNat : Int) (IntKind.u64.wrap (2 ^ km)) = ((setU x km false).toNat : Int) := by rw [wrap_pow hkm, and_not_run _ _ x.toNat_lt hkm, setU_nat _ _ hkm]
          obtain ⟨q0, q1, r0, r1, r2, r3, P7⟩ := EN.out _ _ (HSET.out (setU x km false) _ KE)
          have HP := Lib.hid P7
          clear KE P7
          go_upto_region 8 with fail
          generalize w6.setCell ⟨gv, kq, none⟩ (.int .u64 (bits .andNot .u64 (x.toNat : Int) (IntKind.u64.wrap (2 ^ km)))) = V8 at *
          go_wp2
          refine bodyPost_ret (v := .agg #[.int .i64 (m : Int), .slice (some ⟨gv, 0, none⟩) L.length c2]) (by simp [results, Tryz.results63, go_sem, r0, r1]) rfl ⟨_, rfl, ?_⟩
          rw [HSL.out]
          exact HP.out
        · have KE : bits .or .u64 (x.toNat : Int) (IntKind.u64.wrap (2 ^ km)) = ((setU x km true).toNat : Int) := by rw [wrap_pow hkm, bits_or_u64_nat _ _ x.toNat_lt (pow_lt64 hkm), setW_or, setU_nat _ _ hkm]
          obtain ⟨q0, q1, r0, r1, r2, r3, P7⟩ := EN.out _ _ (HSET.out (setU x km true) _ KE)
          have HP := Lib.hid P7
          clear KE P7
          go_upto_region 8 with fail
          generalize w6.setCell ⟨gv, kq, none⟩ (.int .u64 (bits .or .u64 (x.toNat : Int) (IntKind.u64.wrap (2 ^ km)))) = V8 at *
          go_wp2
          refine bodyPost_ret (v := .agg #[.int .i64 (m : Int), .slice (some ⟨gv, 0, none⟩) L.length c2]) (by simp [results, Tryz.results63, go_sem, r0, r1]) rfl ⟨_, rfl, ?_⟩
          rw [HSL.out]
          exact HP.out
      · have HS : Hid (setL s L n on = L) := Lib.hid (setL_no (by unfold setOk; rw [decide_eq_false h2, Bool.and_false]))
        rw [decide_eq_false h2] at KB
        clear h2
        go_wp2_with fail
        refine (KC.out _ HBE.out).mono ?_
        rintro e w5 ⟨rfl, b5⟩
        have P5 := Lib.hid (HBX.out.later b5)
        have v0 := (b5.cell (p := ⟨w.heap.size, 0, none⟩) (lt_of_cell y0)).trans y0
        have v1 := (b5.cell (p := ⟨w.heap.size, 1, none⟩) (lt_of_cell y1)).trans y1
        clear b5 y0 y1
        go_wp2_with fail
        refine (KB.out _).mono ?_
        rintro e w6 ⟨rfl, b6⟩
        obtain ⟨q0, q1, r0, r1, r2, r3, P6⟩ := EN.out w6 L (P5.out.later b6)
        clear b6 v0 v1
        go_wp2
        refine bodyPost_ret (v := .agg #[.int .i64 s, .slice A2 L.length c2]) (by simp [results, Tryz.results63, go_sem, r0, r1]) rfl ⟨_, rfl, ?_⟩
        rw [HS.out]
        exact P6
    · have HS : Hid (setL s L n on = L) := Lib.hid (setL_no (by unfold setOk; rw [h0]; rfl))
      rw [h1] at KC
      clear h0 h1
      go_wp2_with fail
      refine (KC.out _ HBE.out).mono ?_
      rintro e w5 ⟨rfl, b5⟩
      obtain ⟨q0, q1, r0, r1, r2, r3, P5⟩ := EN.out w5 L (HBX.out.later b5)
      clear b5 y0 y1
      go_wp2
      refine bodyPost_ret (v := .agg #[.int .i64 s, .slice A2 L.length c2]) (by simp [results, Tryz.results63, go_sem, r0, r1]) rfl ⟨_, rfl, ?_⟩
      rw [HS.out]
      exact P5
end Go.Proofs.YtegjeijiekggdaaGreatDoor
end
section
/- The package bitmap: word, the two ways to mix. -/
namespace Go.Proofs.YtegjeijiekggdaaGreatDoor
open Go.RowKit
set_option linter.unusedVariables false
set_option linter.unusedSimpArgs false
def wordN (L : List UInt64) (i : Nat) : Nat := (L.getD i 0).toNat
theorem wordN_lt (L : List UInt64) (i : Nat) : wordN L i < 18446744073709551616 := (L.getD i 0).toNat_lt
set_option maxRecDepth 100000 in
theorem word_any (s : Int) (A : Option Addr) (c : Nat) (L : List UInt64) (i : Nat) (w : World) (hi : i ≤ 64) (hr : RQ w A L) : Calls Tryz.prog 179 #[.agg #[.int .i64 s, .slice A L.length c], .int .i64 (i : Int)] w fun e w' => e = .returned (.int .u64 (wordN L i : Int)) ∧ Below w.heap.size w w' := by
  have B0 := Lib.hid ((Below.refl _ w).alloc (Nat.le_refl _) (.cells #[.int .i64 s, .slice A L.length c] 64))
  obtain ⟨x0, x1⟩ := bx2 w (.int .i64 s) (.slice A L.length c) 64 (Below.refl _ _)
  by_cases h : i < L.length
  · obtain ⟨ad, x, rfl, hx, hc⟩ := hr.at_ h
    have hc' := (World.cell?_alloc_lt w (.cells #[.int .i64 s, .slice (some ad) L.length c] 64) _ (lt_of_cell hc)).trans hc
    have HW : Hid (wordN L i = x.toNat) := Lib.hid (by unfold wordN; rw [List.getD_eq_getElem?_getD, hx]; rfl)
    have d : decide ((L.length : Int) ≤ (i : Int)) = false := by simp; omega
    have d2 : (i : Int) < (L.length : Int) := by omega
    generalize wordN L i = R at *
    generalize L.length = N at *
    clear hr hx hc h
    go_enter Tryz.func179, Tryz.ntmps179
    go_wp2
    go_ret
    rw [HW.out]
    exact ⟨rfl, B0.out⟩
  · have HW : Hid (wordN L i = 0) := Lib.hid (by unfold wordN; rw [List.getD_eq_getElem?_getD, List.getElem?_eq_none (by omega)]; rfl)
    have d : L.length ≤ i := by omega
    generalize wordN L i = R at *
    generalize L.length = N at *
    clear hr h
    go_enter Tryz.func179, Tryz.ntmps179
    go_wp2
    go_ret
    rw [HW.out]
    exact ⟨rfl, B0.out⟩
set_option maxRecDepth 100000 in
theorem either1_any (x y : Nat) (hx : x < 18446744073709551616) (hy : y < 18446744073709551616) (w : World) : Calls Tryz.prog 156 #[.int .u64 (x : Int), .int .u64 (y : Int)] w fun e w' => e = .returned (.int .u64 ((x ||| y : Nat) : Int)) ∧ w = w' := by
  have K := Lib.hid (bits_or_u64_nat x y hx hy)
  go_enter Tryz.func156, Tryz.ntmps156
  go_wp2
  go_ret
  rw [K.out]
  exact ⟨rfl, rfl⟩
/-- What is in both, or in one of two. -/
def mixW (all : Bool) (x y : Nat) : Nat := if all = true then x &&& y else x ||| y
def mixB (all : Bool) (x y : Bool) : Bool := if all = true then x && y else x || y
theorem mixW_bit (all : Bool) (x y i : Nat) : (mixW all x y).testBit i = mixB all (x.testBit i) (y.testBit i) := by
  unfold mixW mixB
  cases all
  · simp [Nat.testBit_or]
  · simp [Nat.testBit_and]
theorem mixW_lt (all : Bool) {x y : Nat} (hx : x < 18446744073709551616) (hy : y < 18446744073709551616) : mixW all x y < 18446744073709551616 := by
  unfold mixW
  rw [show (18446744073709551616 : Nat) = 2 ^ 64 by decide] at *
  cases all
  · exact Nat.or_lt_two_pow hx hy
  · exact Nat.and_lt_two_pow x hy
def mixWs (all : Bool) (L M : List UInt64) (q : Nat) : List UInt64 := (List.range q).map fun i => UInt64.ofNat (mixW all (wordN L i) (wordN M i))
def mixOk (s t : Int) (L M : List UInt64) : Bool := okB s L && okB t M
def mixS (s t : Int) (L M : List UInt64) : Int := if mixOk s t L M = true then max s t else 0
def mixL (all : Bool) (s t : Int) (L M : List UInt64) : List UInt64 := if mixOk s t L M = true then mixWs all L M (((max s t).toNat + 63) / 64) else []
theorem mixWs_len (all : Bool) (L M : List UInt64) (q : Nat) : (mixWs all L M q).length = q := by simp [mixWs]
theorem mixWs_at (all : Bool) (L M : List UInt64) {q i : Nat} (h : i < q) : (mixWs all L M q)[i]? = some (UInt64.ofNat (mixW all (wordN L i) (wordN M i))) := by
  simp [mixWs, h]
theorem bitL_out {L : List UInt64} {n : Nat} (h : 64 * L.length ≤ n) : bitL L n = false := by
  unfold bitL
  rw [List.getD_eq_getElem?_getD, List.getElem?_eq_none (by omega)]
  simp
theorem mixWs_bit (all : Bool) (L M : List UInt64) (q n : Nat) : bitL (mixWs all L M q) n = (decide (n < 64 * q) && mixB all (bitL L n) (bitL M n)) := by
  by_cases h : n < 64 * q
  · rw [decide_eq_true h, Bool.true_and]
    unfold bitL
    rw [List.getD_eq_getElem?_getD, mixWs_at all L M (show n / 64 < q by omega)]
    show (UInt64.ofNat _).toNat.testBit _ = _
    rw [UInt64.toNat_ofNat', Nat.mod_eq_of_lt (mixW_lt all (wordN_lt _ _) (wordN_lt _ _)), mixW_bit]
    rfl
  · rw [decide_eq_false h, Bool.false_and]
    exact bitL_out (by rw [mixWs_len]; omega)
theorem mixB_ff (all : Bool) : mixB all false false = false := by cases all <;> rfl
theorem mixL_ok {all : Bool} {s t : Int} {L M : List UInt64} (h : mixOk s t L M = true) : okB (mixS s t L M) (mixL all s t L M) = true := by
  unfold mixS mixL
  rw [if_pos h, if_pos h]
  unfold mixOk at h
  rw [Bool.and_eq_true] at h
  obtain ⟨a, rfl, ha, hla, hca⟩ := okB_nat h.1
  obtain ⟨b, rfl, hb, hlb, hcb⟩ := okB_nat h.2
  have e : (max (a : Int) (b : Int)) = ((max a b : Nat) : Int) := by omega
  rw [e, Int.toNat_natCast]
  unfold okB fitB cleanB
  rw [mixWs_len, Bool.and_eq_true, decide_eq_true_eq, decide_eq_true_eq, Int.toNat_natCast]
  refine ⟨by omega, fun n h1 h2 => ?_⟩
  rw [mixWs_bit]
  have e1 : bitL L n = false := by
    by_cases h : n < 64 * L.length
    · exact hca n h (by omega)
    · exact bitL_out (by omega)
  have e2 : bitL M n = false := by
    by_cases h : n < 64 * M.length
    · exact hcb n h (by omega)
    · exact bitL_out (by omega)
  rw [e1, e2, mixB_ff, Bool.and_false]
theorem mixL_bad {all : Bool} {s t : Int} {L M : List UInt64} (h : mixOk s t L M = false) : mixS s t L M = 0 ∧ mixL all s t L M = [] := by
  unfold mixS mixL
  rw [if_neg (by rw [h]; simp), if_neg (by rw [h]; simp)]
  exact ⟨rfl, rfl⟩
end Go.Proofs.YtegjeijiekggdaaGreatDoor
end
section
/- The package bitmap: mix. -/
namespace Go.Proofs.YtegjeijiekggdaaGreatDoor
open Go.RowKit
set_option linter.unusedVariables false
set_option linter.unusedSimpArgs false
theorem size3 (w : World) (a b c : Array Value) (t : TypeId) : (((w.alloc (.cells a t)).alloc (.cells b t)).alloc (.cells c t)).heap.size = w.heap.size + 3 := by rw [heap_size_alloc, heap_size_alloc, heap_size_alloc]
theorem below3 (w : World) (a b c : Array Value) (t : TypeId) : Below w.heap.size w (((w.alloc (.cells a t)).alloc (.cells b t)).alloc (.cells c t)) :=
  (((Below.refl w.heap.size w).alloc (Nat.le_refl _) _).alloc (by rw [heap_size_alloc]; omega) _).alloc (by rw [heap_size_alloc, heap_size_alloc]; omega) _
theorem cells3 (w : World) (a0 a1 b0 b1 c0 c1 : Value) (t : TypeId) (W : World) (h : Below (((w.alloc (.cells #[a0, a1] t)).alloc (.cells #[b0, b1] t)).alloc (.cells #[c0, c1] t)).heap.size (((w.alloc (.cells #[a0, a1] t)).alloc (.cells #[b0, b1] t)).alloc (.cells #[c0, c1] t)) W) :
    W.cell? ⟨w.heap.size, 0, none⟩ = some a0 ∧ W.cell? ⟨w.heap.size, 1, none⟩ = some a1 ∧ W.cell? ⟨w.heap.size + 1, 0, none⟩ = some b0 ∧ W.cell? ⟨w.heap.size + 1, 1, none⟩ = some b1 ∧ W.cell? ⟨w.heap.size + 2, 0, none⟩ = some c0 ∧ W.cell? ⟨w.heap.size + 2, 1, none⟩ = some c1 ∧ W.frozen? ⟨w.heap.size + 2, 0, none⟩ = false ∧ W.frozen? ⟨w.heap.size + 2, 1, none⟩ = false := by
  have h2 := bx2 ((w.alloc (.cells #[a0, a1] t)).alloc (.cells #[b0, b1] t)) c0 c1 t h
  rw [heap_size_alloc, heap_size_alloc] at h2
  have h4 := bx4 w a0 a1 b0 b1 t t (W := W) (((Below.refl _ _).alloc (Nat.le_refl _) _).trans (h.mono (by rw [heap_size_alloc ((w.alloc _).alloc _)]; omega)))
  have hx := heap_alloc_last ((w.alloc (.cells #[a0, a1] t)).alloc (.cells #[b0, b1] t)) (.cells #[c0, c1] t)
  have hy := (h.block _ (Array.getElem?_eq_some_iff.1 hx).1).trans hx
  rw [heap_size_alloc, heap_size_alloc] at hy
  exact ⟨h4.1.1, h4.1.2, h4.2.1, h4.2.2, h2.1, h2.2, by simp [World.frozen?, hy], by simp [World.frozen?, hy]⟩
/-- The words that are mixed so far, and zeros. -/
def mixCur (all : Bool) (L M : List UInt64) (q j : Nat) : List UInt64 := (mixWs all L M q).take j ++ List.replicate (q - j) 0
theorem mixCur_zero (all : Bool) (L M : List UInt64) (q : Nat) : mixCur all L M q 0 = List.replicate q 0 := by simp [mixCur]
theorem mixCur_full (all : Bool) (L M : List UInt64) (q : Nat) : mixCur all L M q q = mixWs all L M q := by
  unfold mixCur
  rw [List.take_of_length_le (by rw [mixWs_len]; omega), Nat.sub_self]
  simp
theorem mixCur_at (all : Bool) (L M : List UInt64) {q j : Nat} (h : j < q) : (mixCur all L M q j)[j]? = some 0 := by
  unfold mixCur
  rw [List.getElem?_append_right (by simp [mixWs_len]; omega)]
  have hl : ((mixWs all L M q).take j).length = j := by simp [mixWs_len]; omega
  rw [hl, Nat.sub_self, List.getElem?_replicate, if_pos (by omega)]
theorem mixCur_set (all : Bool) (L M : List UInt64) {q j : Nat} (h : j < q) : (mixCur all L M q j).set j (UInt64.ofNat (mixW all (wordN L j) (wordN M j))) = mixCur all L M q (j + 1) := by
  unfold mixCur
  have hl : ((mixWs all L M q).take j).length = j := by simp [mixWs_len]; omega
  rw [List.set_append_right _ _ (by omega), hl, Nat.sub_self, List.take_add_one, mixWs_at all L M h, show q - j = (q - (j + 1)) + 1 by omega, List.replicate_succ]
  simp
theorem mixU (all : Bool) (L M : List UInt64) (j : Nat) : ((mixW all (wordN L j) (wordN M j) : Nat) : Int) = ((UInt64.ofNat (mixW all (wordN L j) (wordN M j))).toNat : Int) := by
  rw [UInt64.toNat_ofNat', Nat.mod_eq_of_lt (mixW_lt all (wordN_lt _ _) (wordN_lt _ _))]
theorem BxQ.setg {base : Nat} {w W : World} {g gv : Nat} {s : Int} {n c : Nat} {L : List UInt64} {t : TypeId} (h : BxQ base w W g s (.slice (some ⟨gv, 0, none⟩) n c) L t) {k : Nat} {x : UInt64} (hk : L[k]? = some x) :
    base ≤ gv ∧ gv ≠ g ∧ W.cell? ⟨gv, k, none⟩ = some (.int .u64 (x.toNat : Int)) ∧ W.frozen? ⟨gv, k, none⟩ = false ∧ ∀ (y : UInt64) (z : Int), z = (y.toNat : Int) → BxQ base w (W.setCell ⟨gv, k, none⟩ (.int .u64 z)) g s (.slice (some ⟨gv, 0, none⟩) n c) (L.set k y) t := by
  obtain ⟨gv', e, h1, h2, h3, h4⟩ := h.set hk
  injection e with e
  injection e with e
  subst e
  exact ⟨h1, fun e => h.ne (by rw [e]; rfl), h2, h3, h4⟩
theorem keepG {base : Nat} {W W0 : World} {g gv : Nat} {s : Int} {n c : Nat} {L : List UInt64} {t : TypeId} (h : BxQ base W0 W g s (.slice (some ⟨gv, 0, none⟩) n c) L t) (h2 : gv ≠ g) (k : Nat) (z : Value) : (W.setCell ⟨gv, k, none⟩ z).cell? ⟨g, 1, none⟩ = some (.slice (some ⟨gv, 0, none⟩) n c) :=
  (World.cell?_setCell_other W ⟨gv, k, none⟩ ⟨g, 1, none⟩ _ (by intro e; injection e with e; exact h2 e)).trans h.cells.2.1
end Go.Proofs.YtegjeijiekggdaaGreatDoor
end
section
/- The package bitmap: Both, Either. -/
namespace Go.Proofs.YtegjeijiekggdaaGreatDoor
open Go.RowKit
set_option linter.unusedVariables false
set_option linter.unusedSimpArgs false
set_option maxHeartbeats 2000000 in
set_option maxRecDepth 100000 in
theorem mixEither_any (s t : Int) (A B : Option Addr) (c d : Nat) (L M : List UInt64) (w : World) (hA : RQ w A L) (hB : RQ w B M) : Calls Tryz.prog 155 #[.agg #[.int .i64 s, .slice A L.length c], .agg #[.int .i64 t, .slice B M.length d], .func (.func 156) #[] #[]] w fun e w' => ∃ v, e = .returned (.agg #[.int .i64 (mixS s t L M), v]) ∧ OQ w.heap.size w' v (mixL false s t L M) ∧ Below w.heap.size w w' := by
  have HA := Lib.hid hA
  have HB := Lib.hid hB
  have KA := Lib.hid (fun W (hb : Below w.heap.size w W) => qCheck_any s A c L W (HA.out.below hb))
  have KB := Lib.hid (fun W (hb : Below w.heap.size w W) => qCheck_any t B d M W (HB.out.below hb))
  have B0 := Lib.hid (below3 w #[.int .i64 s, .slice A L.length c] #[.int .i64 t, .slice B M.length d] #[.int .i64 0, .slice none 0 0] 64)
  have C0 := Lib.hid (cells3 w (.int .i64 s) (.slice A L.length c) (.int .i64 t) (.slice B M.length d) (.int .i64 0) (.slice none 0 0) 64)
  have HZ := Lib.hid (size3 w #[.int .i64 s, .slice A L.length c] #[.int .i64 t, .slice B M.length d] #[.int .i64 0, .slice none 0 0] 64)
  have WA := Lib.hid (fun (i : Nat) W (hi : i ≤ 64) (hb : Below w.heap.size w W) => word_any s A c L i W hi (HA.out.below hb))
  have WB := Lib.hid (fun (i : Nat) W (hi : i ≤ 64) (hb : Below w.heap.size w W) => word_any t B d M i W hi (HB.out.below hb))
  obtain ⟨N, hN⟩ : ∃ N, N = L.length := ⟨_, rfl⟩
  obtain ⟨Q, hQ⟩ : ∃ Q, Q = M.length := ⟨_, rfl⟩
  rw [← hN] at KA WA B0 C0 HZ ⊢
  rw [← hQ] at KB WB B0 C0 HZ ⊢
  clear hA hB hN hQ
  obtain ⟨x0, x1, y0, y1, z0, z1, z2, z3⟩ := C0.out _ (Below.refl _ _)
  rcases chk_cases s L with ⟨a0, a1⟩ | ⟨a0, a1⟩
  · rw [a1] at KA
    rcases chk_cases t M with ⟨b0, b1⟩ | ⟨b0, b1⟩
    · rw [b1] at KB
      have HOK : Hid (mixOk s t L M = true) := Lib.hid (by unfold mixOk; rw [a0, b0]; rfl)
      obtain ⟨m, rfl, hm, hl, _⟩ := okB_nat a0
      obtain ⟨k, rfl, hk, hl2, _⟩ := okB_nat b0
      clear a0 a1 b0 b1 hl hl2
      rcases Nat.lt_or_ge m k with hmk | hmk
      · have hmk' : (m : Int) < (k : Int) := by omega
        have hmax2 : max (m : Int) (k : Int) = (k : Int) := by omega
        have hp4 : k ≤ 4096 := hk
        have KW := fun W => wordsOf_any k hp4 W
        obtain ⟨q, hq⟩ : ∃ q, q = (k + 63) / 64 := ⟨_, rfl⟩
        have hq64 : q ≤ 64 := by omega
        rw [← hq] at KW
        have KW := Lib.hid KW
        have HS : mixS (m : Int) (k : Int) L M = (k : Int) := by unfold mixS; rw [if_pos HOK.out, hmax2]
        have HL : mixL false (m : Int) (k : Int) L M = mixWs false L M q := by unfold mixL; rw [if_pos HOK.out, hmax2, Int.toNat_natCast, ← hq]
        rw [HS, HL]
        clear HS HL hq HOK
        go_enter Tryz.func155, Tryz.ntmps155
        go_wp2_with fail
        generalize ((w.alloc (.cells #[.int .i64 (m : Int), .slice A N c] 64)).alloc (.cells #[.int .i64 (k : Int), .slice B Q d] 64)).alloc (.cells #[.int .i64 0, .slice none 0 0] 64) = W0 at *
        rw [HZ.out] at C0
        refine (KA.out _ B0.out).mono ?_
        rintro e w1 ⟨rfl, b1⟩
        have B1 := Lib.hid (B0.out.trans (b1.mono B0.out.size))
        rw [HZ.out] at b1
        have V1 := Lib.hid b1
        obtain ⟨u0, u1, u2, u3, _⟩ := C0.out w1 b1
        clear x0 x1 y0 y1 z0 z1 z2 z3 b1
        go_wp2_with fail
        refine (KB.out _ B1.out).mono ?_
        rintro e w2 ⟨rfl, b2⟩
        have B2 := Lib.hid (B1.out.trans (b2.mono B1.out.size))
        have V2 := Lib.hid (V1.out.trans (b2.mono (Nat.le_trans (Nat.le_of_eq HZ.out.symm) V1.out.size)))
        obtain ⟨v0, v1, v2, v3, _⟩ := C0.out w2 V2.out
        clear u0 u1 u2 u3 b2 V1 B1
        go_wp2_with fail
        refine (KW.out _).mono ?_
        rintro e w3 ⟨rfl, rfl⟩
        have hz2 : w.heap.size + 3 ≤ w2.heap.size := Nat.le_trans (Nat.le_of_eq HZ.out.symm) V2.out.size
        go_wp2_with (at_make; refine wpList_make_Q rfl _ _ rfl (w.heap.size + 3) q _ _ rfl rfl rfl rfl (by omega) hz2 ?_; intro w3 ho3 hb3; have P0 := Lib.hid (BxQ.new (s := (k : Int)) 64 (V2.out.trans hb3) ho3 (Nat.le_trans hz2 hb3.size)); clear ho3 hb3)
        go_loopw [9, 32] (fun _ i wr => ∃ j : Nat, j ≤ q ∧ i = .int .i64 (j : Int) ∧ BxQ (w.heap.size + 3) W0 wr w3.heap.size (k : Int) (.slice (some ⟨w2.heap.size, 0, none⟩) q q) (mixCur false L M q j) 64) (fun _ i _ => q - (RowKit.intOf i).toNat)
        case atStart => exact ⟨0, Nat.zero_le _, rfl, by rw [mixCur_zero]; exact P0.out⟩
        case round =>
          obtain ⟨j, hj, rfl, hbx⟩ := hrel
          have PB := Lib.hid hbx
          have BW := Lib.hid (B0.out.trans (hbx.bel.mono (Nat.le_add_right _ 3)))
          obtain ⟨g0, g1, g2, g3⟩ := hbx.cells
          have CC := Lib.hid (fun W (h : BxQ (w.heap.size + 3) W0 W w3.heap.size (k : Int) (.slice (some ⟨w2.heap.size, 0, none⟩) q q) (mixCur false L M q j) 64) => h.cells.2.1)
          clear hbx v0 v1 v2 v3
          by_cases hjq : j < q
          · have hjq' : (j : Int) < (q : Int) := by omega
            have hj64 : j ≤ 64 := by omega
            have KX := Lib.hid (either1_any _ _ (wordN_lt L j) (wordN_lt M j))
            have SX := Lib.hid (fun W (h : BxQ (w.heap.size + 3) W0 W w3.heap.size (k : Int) (.slice (some ⟨w2.heap.size, 0, none⟩) q q) (mixCur false L M q j) 64) => h.setg (mixCur_at false L M hjq))
            have FIN := Lib.hid (fun W (h : BxQ (w.heap.size + 3) W0 W w3.heap.size (k : Int) (.slice (some ⟨w2.heap.size, 0, none⟩) q q) (mixCur false L M q j) 64) => (h.setg (mixCur_at false L M hjq)).2.2.2.2 _ _ (mixU false L M j))
            rw [mixCur_set false L M hjq] at FIN
            have GF := Lib.hid (fun (W : World) (h1 : Below (w.heap.size + 3) W0 W) (h : W.cell? ⟨w3.heap.size, 1, none⟩ = some (.slice (some ⟨w2.heap.size, 0, none⟩) q q)) => And.intro (C0.out W h1).1 (And.intro (C0.out W h1).2.1 (And.intro (C0.out W h1).2.2.1 (And.intro (C0.out W h1).2.2.2.1 h))))
            have PB := Lib.hid (PB.out.later (Below.refl _ wr).drew)
            have BW := Lib.hid BW.out.drew
            have cc := GF.out wr.drew PB.out.bel (CC.out _ PB.out)
            go_upto_region 8 with fail
            go_region_held3 (fun W => W.cell? ⟨w.heap.size, 0, none⟩ = some (.int .i64 (m : Int)) ∧ W.cell? ⟨w.heap.size, 1, none⟩ = some (.slice A N c) ∧ W.cell? ⟨w.heap.size + 1, 0, none⟩ = some (.int .i64 (k : Int)) ∧ W.cell? ⟨w.heap.size + 1, 1, none⟩ = some (.slice B Q d) ∧ W.cell? ⟨w3.heap.size, 1, none⟩ = some (.slice (some ⟨w2.heap.size, 0, none⟩) q q)) (first | with_reducible assumption | with_reducible exact cc | with_reducible exact KP.out _ | fail)
              (first
                | (go_at_call 179; with_reducible refine Calls.mono (WA.out j _ hj64 BW.out) ?_; rintro e w5 ⟨rfl, b5⟩; have PB := Lib.hid (PB.out.later b5); have BW := Lib.hid (BW.out.trans (b5.mono BW.out.size)); have cc := GF.out w5 PB.out.bel (CC.out _ PB.out); obtain ⟨e1, e2, cx, fx, _⟩ := SX.out _ PB.out; clear b5)
                | (go_at_call 179; with_reducible refine Calls.mono (WB.out j _ hj64 BW.out) ?_; rintro e w5 ⟨rfl, b5⟩; have PB := Lib.hid (PB.out.later b5); have BW := Lib.hid (BW.out.trans (b5.mono BW.out.size)); have cc := GF.out w5 PB.out.bel (CC.out _ PB.out); obtain ⟨e1, e2, cx, fx, _⟩ := SX.out _ PB.out; clear b5)
                | (go_at_call 156; refine (KX.out _).mono ?_; rintro e w6 ⟨rfl, rfl⟩; have KP := Lib.hid (fun z => GF.out _ (PB.out.bel.setCell (p := ⟨w2.heap.size, j, none⟩) e1 z) (keepG PB.out e2 j z)))
                | fail)
            all_goals
              go_wp2
              go_roundw
              case rel => exact ⟨j + 1, by omega, by go_num, FIN.out _ PB.out⟩
              case measure => simp [RowKit.intOf]; omega
          · obtain rfl : j = q := by omega
            rw [mixCur_full] at PB
            obtain ⟨_, _, _, _, r0, r1, r2, r3⟩ := C0.out wr PB.out.bel
            go_wp2
            refine bodyPost_ret (v := .agg #[.int .i64 (k : Int), .slice (some ⟨w2.heap.size, 0, none⟩) j j]) (by simp [results, Tryz.results155, go_sem, r0, r1]) rfl ⟨_, rfl, (PB.out.own.setB (by omega) _ _).lift (by omega), belowC BW.out (Nat.le_add_right _ 2) _ _⟩
      · have hmk' : (k : Int) ≤ (m : Int) := by omega
        have hmax2 : max (m : Int) (k : Int) = (m : Int) := by omega
        have hp4 : m ≤ 4096 := hm
        have KW := fun W => wordsOf_any m hp4 W
        obtain ⟨q, hq⟩ : ∃ q, q = (m + 63) / 64 := ⟨_, rfl⟩
        have hq64 : q ≤ 64 := by omega
        rw [← hq] at KW
        have KW := Lib.hid KW
        have HS : mixS (m : Int) (k : Int) L M = (m : Int) := by unfold mixS; rw [if_pos HOK.out, hmax2]
        have HL : mixL false (m : Int) (k : Int) L M = mixWs false L M q := by unfold mixL; rw [if_pos HOK.out, hmax2, Int.toNat_natCast, ← hq]
        rw [HS, HL]
        clear HS HL hq HOK
        go_enter Tryz.func155, Tryz.ntmps155
        go_wp2_with fail
        generalize ((w.alloc (.cells #[.int .i64 (m : Int), .slice A N c] 64)).alloc (.cells #[.int .i64 (k : Int), .slice B Q d] 64)).alloc (.cells #[.int .i64 0, .slice none 0 0] 64) = W0 at *
        rw [HZ.out] at C0
        refine (KA.out _ B0.out).mono ?_
        rintro e w1 ⟨rfl, b1⟩
        have B1 := Lib.hid (B0.out.trans (b1.mono B0.out.size))
        rw [HZ.out] at b1
        have V1 := Lib.hid b1
        obtain ⟨u0, u1, u2, u3, _⟩ := C0.out w1 b1
        clear x0 x1 y0 y1 z0 z1 z2 z3 b1
        go_wp2_with fail
        refine (KB.out _ B1.out).mono ?_
        rintro e w2 ⟨rfl, b2⟩
        have B2 := Lib.hid (B1.out.trans (b2.mono B1.out.size))
        have V2 := Lib.hid (V1.out.trans (b2.mono (Nat.le_trans (Nat.le_of_eq HZ.out.symm) V1.out.size)))
        obtain ⟨v0, v1, v2, v3, _⟩ := C0.out w2 V2.out
        clear u0 u1 u2 u3 b2 V1 B1
        go_wp2_with fail
        refine (KW.out _).mono ?_
        rintro e w3 ⟨rfl, rfl⟩
        have hz2 : w.heap.size + 3 ≤ w2.heap.size := Nat.le_trans (Nat.le_of_eq HZ.out.symm) V2.out.size
        go_wp2_with (at_make; refine wpList_make_Q rfl _ _ rfl (w.heap.size + 3) q _ _ rfl rfl rfl rfl (by omega) hz2 ?_; intro w3 ho3 hb3; have P0 := Lib.hid (BxQ.new (s := (m : Int)) 64 (V2.out.trans hb3) ho3 (Nat.le_trans hz2 hb3.size)); clear ho3 hb3)
        go_loopw [9, 32] (fun _ i wr => ∃ j : Nat, j ≤ q ∧ i = .int .i64 (j : Int) ∧ BxQ (w.heap.size + 3) W0 wr w3.heap.size (m : Int) (.slice (some ⟨w2.heap.size, 0, none⟩) q q) (mixCur false L M q j) 64) (fun _ i _ => q - (RowKit.intOf i).toNat)
        case atStart => exact ⟨0, Nat.zero_le _, rfl, by rw [mixCur_zero]; exact P0.out⟩
        case round =>
          obtain ⟨j, hj, rfl, hbx⟩ := hrel
          have PB := Lib.hid hbx
          have BW := Lib.hid (B0.out.trans (hbx.bel.mono (Nat.le_add_right _ 3)))
          obtain ⟨g0, g1, g2, g3⟩ := hbx.cells
          have CC := Lib.hid (fun W (h : BxQ (w.heap.size + 3) W0 W w3.heap.size (m : Int) (.slice (some ⟨w2.heap.size, 0, none⟩) q q) (mixCur false L M q j) 64) => h.cells.2.1)
          clear hbx v0 v1 v2 v3
          by_cases hjq : j < q
          · have hjq' : (j : Int) < (q : Int) := by omega
            have hj64 : j ≤ 64 := by omega
            have KX := Lib.hid (either1_any _ _ (wordN_lt L j) (wordN_lt M j))
            have SX := Lib.hid (fun W (h : BxQ (w.heap.size + 3) W0 W w3.heap.size (m : Int) (.slice (some ⟨w2.heap.size, 0, none⟩) q q) (mixCur false L M q j) 64) => h.setg (mixCur_at false L M hjq))
            have FIN := Lib.hid (fun W (h : BxQ (w.heap.size + 3) W0 W w3.heap.size (m : Int) (.slice (some ⟨w2.heap.size, 0, none⟩) q q) (mixCur false L M q j) 64) => (h.setg (mixCur_at false L M hjq)).2.2.2.2 _ _ (mixU false L M j))
            rw [mixCur_set false L M hjq] at FIN
            have GF := Lib.hid (fun (W : World) (h1 : Below (w.heap.size + 3) W0 W) (h : W.cell? ⟨w3.heap.size, 1, none⟩ = some (.slice (some ⟨w2.heap.size, 0, none⟩) q q)) => And.intro (C0.out W h1).1 (And.intro (C0.out W h1).2.1 (And.intro (C0.out W h1).2.2.1 (And.intro (C0.out W h1).2.2.2.1 h))))
            have PB := Lib.hid (PB.out.later (Below.refl _ wr).drew)
            have BW := Lib.hid BW.out.drew
            have cc := GF.out wr.drew PB.out.bel (CC.out _ PB.out)
            go_upto_region 8 with fail
            go_region_held3 (fun W => W.cell? ⟨w.heap.size, 0, none⟩ = some (.int .i64 (m : Int)) ∧ W.cell? ⟨w.heap.size, 1, none⟩ = some (.slice A N c) ∧ W.cell? ⟨w.heap.size + 1, 0, none⟩ = some (.int .i64 (k : Int)) ∧ W.cell? ⟨w.heap.size + 1, 1, none⟩ = some (.slice B Q d) ∧ W.cell? ⟨w3.heap.size, 1, none⟩ = some (.slice (some ⟨w2.heap.size, 0, none⟩) q q)) (first | with_reducible assumption | with_reducible exact cc | with_reducible exact KP.out _ | fail)
              (first
                | (go_at_call 179; with_reducible refine Calls.mono (WA.out j _ hj64 BW.out) ?_; rintro e w5 ⟨rfl, b5⟩; have PB := Lib.hid (PB.out.later b5); have BW := Lib.hid (BW.out.trans (b5.mono BW.out.size)); have cc := GF.out w5 PB.out.bel (CC.out _ PB.out); obtain ⟨e1, e2, cx, fx, _⟩ := SX.out _ PB.out; clear b5)
                | (go_at_call 179; with_reducible refine Calls.mono (WB.out j _ hj64 BW.out) ?_; rintro e w5 ⟨rfl, b5⟩; have PB := Lib.hid (PB.out.later b5); have BW := Lib.hid (BW.out.trans (b5.mono BW.out.size)); have cc := GF.out w5 PB.out.bel (CC.out _ PB.out); obtain ⟨e1, e2, cx, fx, _⟩ := SX.out _ PB.out; clear b5)
                | (go_at_call 156; refine (KX.out _).mono ?_; rintro e w6 ⟨rfl, rfl⟩; have KP := Lib.hid (fun z => GF.out _ (PB.out.bel.setCell (p := ⟨w2.heap.size, j, none⟩) e1 z) (keepG PB.out e2 j z)))
                | fail)
            all_goals
              go_wp2
              go_roundw
              case rel => exact ⟨j + 1, by omega, by go_num, FIN.out _ PB.out⟩
              case measure => simp [RowKit.intOf]; omega
          · obtain rfl : j = q := by omega
            rw [mixCur_full] at PB
            obtain ⟨_, _, _, _, r0, r1, r2, r3⟩ := C0.out wr PB.out.bel
            go_wp2
            refine bodyPost_ret (v := .agg #[.int .i64 (m : Int), .slice (some ⟨w2.heap.size, 0, none⟩) j j]) (by simp [results, Tryz.results155, go_sem, r0, r1]) rfl ⟨_, rfl, (PB.out.own.setB (by omega) _ _).lift (by omega), belowC BW.out (Nat.le_add_right _ 2) _ _⟩
    · rw [b1] at KB
      obtain ⟨e1, e2⟩ := mixL_bad (all := false) (show mixOk s t L M = false by unfold mixOk; rw [b0, Bool.and_false])
      rw [e1, e2]
      clear a0 a1 b0 b1 e1 e2 WA WB
      go_enter Tryz.func155, Tryz.ntmps155
      go_wp2_with fail
      refine (KA.out _ B0.out).mono ?_
      rintro e w1 ⟨rfl, b1⟩
      have B1 := Lib.hid (B0.out.trans (b1.mono B0.out.size))
      obtain ⟨u0, u1, u2, u3, _⟩ := C0.out w1 b1
      clear x0 x1 y0 y1 z0 z1 z2 z3
      go_wp2_with fail
      refine (KB.out _ B1.out).mono ?_
      rintro e w2 ⟨rfl, b2⟩
      have B2 := Lib.hid (B1.out.trans (b2.mono B1.out.size))
      obtain ⟨_, _, _, _, r0, r1, r2, r3⟩ := C0.out w2 (b1.trans (b2.mono b1.size))
      clear u0 u1 u2 u3 b1 b2
      go_wp2
      refine bodyPost_ret (v := .agg #[.int .i64 0, .slice none 0 0]) (by simp [results, Tryz.results155, go_sem, r0, r1]) rfl ⟨_, rfl, OQ.nil, belowC B2.out (Nat.le_add_right _ 2) _ _⟩
  · rw [a1] at KA
    obtain ⟨e1, e2⟩ := mixL_bad (all := false) (show mixOk s t L M = false by unfold mixOk; rw [a0]; rfl)
    rw [e1, e2]
    clear a0 a1 e1 e2 WA WB KB
    go_enter Tryz.func155, Tryz.ntmps155
    go_wp2_with fail
    refine (KA.out _ B0.out).mono ?_
    rintro e w1 ⟨rfl, b1⟩
    have B1 := Lib.hid (B0.out.trans (b1.mono B0.out.size))
    obtain ⟨_, _, _, _, r0, r1, r2, r3⟩ := C0.out w1 b1
    clear x0 x1 y0 y1 z0 z1 z2 z3 b1
    go_wp2
    refine bodyPost_ret (v := .agg #[.int .i64 0, .slice none 0 0]) (by simp [results, Tryz.results155, go_sem, r0, r1]) rfl ⟨_, rfl, OQ.nil, belowC B1.out (Nat.le_add_right _ 2) _ _⟩
set_option maxHeartbeats 1000000 in
set_option maxRecDepth 100000 in
theorem either_any (s t : Int) (A B : Option Addr) (c d : Nat) (L M : List UInt64) (w : World) (hA : RQ w A L) (hB : RQ w B M) : Calls Tryz.prog 117 #[.agg #[.int .i64 s, .slice A L.length c], .agg #[.int .i64 t, .slice B M.length d]] w fun e w' => ∃ v, e = .returned (.agg #[.int .i64 (mixS s t L M), v]) ∧ OQ w.heap.size w' v (mixL false s t L M) ∧ Below w.heap.size w w' := by
  have B0 := Lib.hid (below3 w #[.int .i64 s, .slice A L.length c] #[.int .i64 t, .slice B M.length d] #[.int .i64 0, .slice none 0 0] 64)
  have C0 := Lib.hid (cells3 w (.int .i64 s) (.slice A L.length c) (.int .i64 t) (.slice B M.length d) (.int .i64 0) (.slice none 0 0) 64)
  have HZ := Lib.hid (size3 w #[.int .i64 s, .slice A L.length c] #[.int .i64 t, .slice B M.length d] #[.int .i64 0, .slice none 0 0] 64)
  have KM := Lib.hid (fun W (hb : Below w.heap.size w W) => mixEither_any s t A B c d L M W (hA.below hb) (hB.below hb))
  generalize mixS s t L M = S at *
  generalize mixL false s t L M = R at *
  generalize L.length = N at *
  generalize M.length = Q at *
  clear hA hB
  obtain ⟨x0, x1, y0, y1, z0, z1, z2, z3⟩ := C0.out _ (Below.refl _ _)
  go_enter Tryz.func117, Tryz.ntmps117
  go_wp2_with fail
  generalize ((w.alloc (.cells #[.int .i64 s, .slice A N c] 64)).alloc (.cells #[.int .i64 t, .slice B Q d] 64)).alloc (.cells #[.int .i64 0, .slice none 0 0] 64) = W0 at *
  refine (KM.out _ B0.out).mono ?_
  rintro e w1 ⟨v, rfl, ho, b1⟩
  have B1 := Lib.hid (B0.out.trans (b1.mono B0.out.size))
  obtain ⟨_, _, _, _, r0, r1, r2, r3⟩ := C0.out w1 b1
  obtain ⟨A1, c1, rfl, hc1, hr1⟩ := ho.form
  rw [HZ.out] at ho
  have HO := Lib.hid ho
  clear x0 x1 y0 y1 z0 z1 z2 z3 b1 ho hc1 hr1
  go_wp2
  refine bodyPost_ret (v := .agg #[.int .i64 S, .slice A1 R.length c1]) (by simp [results, Tryz.results117, go_sem, r0, r1]) rfl ⟨_, rfl, (HO.out.setB (by omega) _ _).lift (by omega), belowC B1.out (Nat.le_add_right _ 2) _ _⟩
end Go.Proofs.YtegjeijiekggdaaGreatDoor
end
