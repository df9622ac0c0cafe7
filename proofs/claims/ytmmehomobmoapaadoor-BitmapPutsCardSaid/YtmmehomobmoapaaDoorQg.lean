/- The statements' function made of layer 5: a map of a size with numbers in it. -/
import Derived.Test.YtmmehomobmoapaaDoorQf
import Derived.Deep.DeepMust
namespace Go.Proofs.YtmmehomobmoapaaDoor
open Go.RowKit
set_option linter.unusedVariables false
set_option linter.unusedSimpArgs false
/-- The map of a size with the first k of the numbers in it. -/
def madeK (s : Nat) (l : List UInt8) : Nat → List UInt64
  | 0 => newL (s : Nat)
  | k + 1 => setL (s : Nat) (madeK s l k) ((l.getD k 0).toNat : Nat) true
def madeL (s : Nat) (l : List UInt8) : List UInt64 := madeK s l (min l.length 60)
theorem newL_ok {s : Nat} (h : s ≤ 4096) : okB (s : Nat) (newL (s : Nat)) = true := by
  have hok : newOk (s : Int) = true := decide_eq_true (by omega)
  unfold newL
  rw [if_pos hok, Int.toNat_natCast]
  unfold okB fitB cleanB
  rw [List.length_replicate, Bool.and_eq_true, decide_eq_true_eq, decide_eq_true_eq]
  refine ⟨by omega, fun n h1 h2 => ?_⟩
  unfold bitL
  rw [List.getD_eq_getElem?_getD, List.getElem?_replicate]
  split <;> simp
theorem madeK_ok {s : Nat} (h : s ≤ 4096) (l : List UInt8) : ∀ k, okB (s : Nat) (madeK s l k) = true
  | 0 => newL_ok h
  | k + 1 => setL_ok (madeK_ok h l k)
theorem madeL_ok {s : Nat} (h : s ≤ 4096) (l : List UInt8) : okB (s : Nat) (madeL s l) = true := madeK_ok h l _
theorem OQ.shape {base : Nat} {w : World} {v : Value} {l : List UInt64} (h : OQ base w v l) : ∃ A n c, v = .slice A n c := by
  obtain ⟨A, c, e, _⟩ := h.form
  exact ⟨A, _, c, e⟩
theorem madeFin {base q : Nat} {W0 wr w5 : World} {s : Int} {vo v5 : Value} {L0 L5 : List UInt64} {t : TypeId} (h : BxQ base W0 wr q s vo L0 t) (hb0 : Below wr.drew.heap.size wr.drew w5) (ho0 : OQ wr.drew.heap.size w5 v5 L5) :
    (w5.cell? ⟨q, 0, none⟩ = some (.int .i64 s) ∧ w5.cell? ⟨q, 1, none⟩ = some vo ∧ w5.frozen? ⟨q, 0, none⟩ = false ∧ w5.frozen? ⟨q, 1, none⟩ = false) ∧ BxQ base W0 ((w5.setCell ⟨q, 0, none⟩ (.int .i64 s)).setCell ⟨q, 1, none⟩ v5) q s v5 L5 t := by
  have hb : Below wr.heap.size wr w5 := (Below.refl wr.heap.size wr).drew.trans hb0
  have ho : OQ wr.heap.size w5 v5 L5 := ho0
  have hq := (Array.getElem?_eq_some_iff.1 h.at_).1
  have hz : base ≤ wr.heap.size := Nat.le_trans h.ge (Nat.le_of_lt hq)
  have h5 := (hb.block q hq).trans h.at_
  refine ⟨⟨(cell_of_row w5 _ 0 _ _ _ h5).trans rfl, (cell_of_row w5 _ 1 _ _ _ h5).trans rfl, by simp [World.frozen?, h5], by simp [World.frozen?, h5]⟩, cellsPut h5 h.ge (ho.lift hz) (fun e => ?_) (h.bel.trans (hb.mono hz))⟩
  have := (ho.block e).1
  omega
set_option maxHeartbeats 4000000 in
set_option maxRecDepth 100000 in
theorem made_any (s : Nat) (A : Option Addr) (n c : Nat) (l : List UInt8) (w : World) (hs : s ≤ 255) (hn : n ≤ 9223372036854775807) (hl : l.length = n) (hr : RB w A l) : Calls Tryd.prog 35 #[.int .u8 (s : Int), .slice A n c] w fun e w' => ∃ v, e = .returned (.tuple #[.agg #[.int .i64 (s : Int), v], .bool true]) ∧ OQ w.heap.size w' v (madeL s l) ∧ Below w.heap.size w w' := by
  have HL := Lib.hid hl
  have HR := Lib.hid (fun W (hb : Below w.heap.size w W) => hr.below hb)
  have HX := Lib.hid (heap_alloc_last w (.cells #[.int .i64 0, .slice none 0 0] 27))
  have HZ := Lib.hid (heap_size_alloc w (.cells #[.int .i64 0, .slice none 0 0] 27))
  have B0 := Lib.hid ((Below.refl _ w).alloc (Nat.le_refl _) (.cells #[.int .i64 0, .slice none 0 0] 27))
  have hok : newOk (s : Int) = true := decide_eq_true (by omega)
  have KN := fun W => new_any (s : Int) W
  rw [show newS (s : Int) = (s : Int) from if_pos hok, show newE (s : Int) = 0 from if_pos hok] at KN
  have KN := Lib.hid KN
  have HOK := Lib.hid (fun k => madeK_ok (s := s) (by omega) l k)
  obtain ⟨M, hM⟩ : ∃ M, M = min l.length 60 := ⟨_, rfl⟩
  have HF : Hid (madeL s l = madeK s l M) := Lib.hid (by unfold madeL; rw [← hM])
  have HM := Lib.hid hM
  have hM60 : M ≤ 60 := by omega
  have hMn : M ≤ n := by omega
  have HMc := Lib.hid (show M = n ∨ M = 60 from by omega)
  clear hl hr hok hM
  go_enter Tryd.func35, Tryd.ntmps35
  go_wp2_with fail
  generalize w.alloc (.cells #[.int .i64 0, .slice none 0 0] 27) = W0 at *
  refine (KN.out _).mono ?_
  rintro e w1 ⟨v1, rfl, o1, b1⟩
  rw [HZ.out] at b1 o1
  have P1 := Lib.hid (BxQ.new (s := (s : Int)) 27 b1 o1 (Nat.le_trans (Nat.le_of_eq HZ.out.symm) b1.size))
  obtain ⟨A1, n1, c1, rfl⟩ : ∃ A1 n1 c1, v1 = .slice A1 n1 c1 := by obtain ⟨A1, c1, e, _⟩ := o1.form; exact ⟨A1, _, c1, e⟩
  clear KN o1 b1
  go_wp2
  go_loopw [8] (fun i wr => ∃ (k : Nat) (v : Value), k ≤ M ∧ i = .int .i64 (k : Int) ∧ BxQ (w.heap.size + 1) W0 wr w1.heap.size (s : Int) v (madeK s l k) 27) (fun i _ => M - (RowKit.intOf i).toNat)
  case atStart => exact ⟨0, _, Nat.zero_le _, rfl, P1.out⟩
  case round =>
    obtain ⟨k, v, hk, rfl, hP⟩ := hrel
    have PB := Lib.hid hP
    obtain ⟨Av, cv, rfl, hcv, hrv⟩ := hP.own.form
    obtain ⟨x0, x1, f0, f1⟩ := hP.cells
    clear hP hcv hrv
    by_cases hlt : k < M
    · have d1 : (k : Int) < (n : Int) := by omega
      have d2 : (k : Int) < 60 := by omega
      have BE := Lib.hid (B0.out.trans (PB.out.bel.mono (Nat.le_succ _)))
      obtain ⟨ad, x, rfl, hx, cx⟩ := (HR.out wr BE.out).at_ (k := k) (by rw [HL.out]; omega)
      have hx8 : x.toNat < 256 := x.toNat_lt
      have hwx : IntKind.i64.wrap (x.toNat : Int) = (x.toNat : Int) := by rw [IntKind.wrap_i64]; omega
      have KS := fun W (hb : Below wr.heap.size wr W) => set_any (s : Int) Av cv (madeK s l k) (x.toNat : Int) true W (by obtain ⟨m, e, _, h2, _⟩ := okB_nat (HOK.out k); omega) (PB.out.own.form.elim fun A2 h => h.elim fun c2 h => by obtain ⟨e, _, h⟩ := h; injection e with e1 e2 e3; subst e1; exact h.below hb)
      have HST : Hid (setL (s : Int) (madeK s l k) (x.toNat : Int) true = madeK s l (k + 1)) := Lib.hid (by
        rw [madeK, List.getD_eq_getElem?_getD, hx]
        rfl)
      rw [HST.out] at KS
      have KS := Lib.hid KS
      generalize (madeK s l k).length = Nv at *
      have cx' : wr.drew.cell? (ad.add k) = some (.int .u8 (x.toNat : Int)) := cx
      have y0 : wr.drew.cell? ⟨w1.heap.size, 0, none⟩ = some (.int .i64 (s : Int)) := x0
      have y1 : wr.drew.cell? ⟨w1.heap.size, 1, none⟩ = some (.slice Av Nv cv) := x1
      have hb' := (Below.refl wr.heap.size wr).drew
      clear hx
      go_upto_region 5 with fail
      go_region_with (first
        | (go_at_call 11; go_must (with_reducible refine Calls.mono (KS.out _ hb') ?_; rintro e w5 ⟨v5, rfl, o5, b5⟩; obtain ⟨⟨u0, u1, u2, u3⟩, fin⟩ := madeFin PB.out b5 o5; obtain ⟨A5, n5, c5, rfl⟩ := o5.shape; have FIN := Lib.hid fin))
        | fail)
      all_goals
        go_wp2
        go_roundw
        case rel => exact ⟨k + 1, _, by omega, by go_num, FIN.out⟩
        case measure => simp [RowKit.intOf]; omega
    · obtain rfl : k = M := by omega
      have RS := resCells HX.out PB.out.bel
      obtain ⟨r0, r1, r2, r3⟩ := RS
      generalize (madeK s l k).length = Nv at *
      rcases HMc.out with e | e
      · have d1 : decide ((k : Int) < (n : Int)) = false := by rw [e]; simp
        have hle : (n : Int) ≤ (k : Int) := by omega
        clear e
        go_wp2
        rw [HF.out]
        refine bodyPost_ret (v := .tuple #[.agg #[.int .i64 (s : Int), .slice Av Nv cv], .bool true]) (by simp [results, Tryd.results35, go_sem, r0, r1]) rfl ⟨_, rfl, (PB.out.own.setB (Nat.lt_succ_self _) _ _).lift (Nat.le_succ _), belowC (B0.out.trans (PB.out.bel.mono (Nat.le_succ _))) (Nat.le_refl _) _ _⟩
      · by_cases h1 : (k : Int) < (n : Int)
        · have d2 : decide ((k : Int) < 60) = false := by simp; omega
          have hle : (60 : Int) ≤ (k : Int) := by omega
          clear e
          go_wp2
          rw [HF.out]
          refine bodyPost_ret (v := .tuple #[.agg #[.int .i64 (s : Int), .slice Av Nv cv], .bool true]) (by simp [results, Tryd.results35, go_sem, r0, r1]) rfl ⟨_, rfl, (PB.out.own.setB (Nat.lt_succ_self _) _ _).lift (Nat.le_succ _), belowC (B0.out.trans (PB.out.bel.mono (Nat.le_succ _))) (Nat.le_refl _) _ _⟩
        · have d1 : decide ((k : Int) < (n : Int)) = false := by simp; omega
          have hle : (n : Int) ≤ (k : Int) := by omega
          clear e h1
          go_wp2
          rw [HF.out]
          refine bodyPost_ret (v := .tuple #[.agg #[.int .i64 (s : Int), .slice Av Nv cv], .bool true]) (by simp [results, Tryd.results35, go_sem, r0, r1]) rfl ⟨_, rfl, (PB.out.own.setB (Nat.lt_succ_self _) _ _).lift (Nat.le_succ _), belowC (B0.out.trans (PB.out.bel.mono (Nat.le_succ _))) (Nat.le_refl _) _ _⟩
end Go.Proofs.YtmmehomobmoapaaDoor
