/- Slots: what a sector's stamp tells. -/
import Derived.Test.YtlpobinmkedgeaaSlB
namespace Go.Proofs.Ytlpobinmkedgeaa
open Go.RowKit
set_option linter.unusedVariables false
set_option linter.unusedSimpArgs false
theorem equalIn_u8 (d : Nat) (w : World) (a b : Int) : (Op.equalIn (d + 1) 5 (.int .u8 a) (.int .u8 b)).run Try.prog w = .ok (a == b) w := by
  simp [Op.equalIn, run_underlying Try.underlying5, go_sem]
def eqI : List Int → List Int → Bool
  | [], _ => true
  | _ :: _, [] => true
  | a :: x, b :: y => (a == b) && eqI x y
theorem equalIn_st (d : Nat) (w : World) (a0 a1 a2 a3 a4 a5 a6 a7 b0 b1 b2 b3 b4 b5 b6 b7 : Int) :
    (Op.equalIn (d + 2) 54 (.agg #[.int .u8 a0, .int .u8 a1, .int .u8 a2, .int .u8 a3, .int .u8 a4, .int .u8 a5, .int .u8 a6, .int .u8 a7]) (.agg #[.int .u8 b0, .int .u8 b1, .int .u8 b2, .int .u8 b3, .int .u8 b4, .int .u8 b5, .int .u8 b6, .int .u8 b7])).run Try.prog w
      = .ok (eqI [a0, a1, a2, a3, a4, a5, a6, a7] [b0, b1, b2, b3, b4, b5, b6, b7]) w := by
  have hu : Try.prog.underlying 54 = some (.array (Try.prog.arrayLen 54) (Try.prog.elem 54)) := by kernel_rfl
  have hl : Try.prog.arrayLen 54 = 8 := by kernel_rfl
  have he : Try.prog.elem 54 = 5 := by kernel_rfl
  rw [hl, he] at hu
  have hs : ∀ w, (sizeOf 5).run Try.prog w = .ok 1 w := fun w => by simp [go_sem]
  have hag : ∀ w, (isAgg 5).run Try.prog w = .ok false w := fun w => by simp [go_sem]
  rw [Op.equalIn]
  simp only [Sem.run_bind, run_underlying hu, Result.andThen_ok, hs]
  rw [Std.Legacy.Range.forIn_eq_forIn_range']
  simp [Std.Legacy.Range.size, List.range', part, hag, hs, equalIn_u8, eqI, go_sem]
  (repeat' split) <;> simp_all
theorem eqI_eq (a b : List UInt8) (h : a.length = b.length) : eqI (a.map fun x => (x.toNat : Int)) (b.map fun x => (x.toNat : Int)) = decide (a = b) := by
  induction a generalizing b with
  | nil =>
    obtain rfl : b = [] := List.eq_nil_of_length_eq_zero h.symm
    rfl
  | cons x a ih =>
    cases b with
    | nil => simp at h
    | cons y b =>
      simp only [List.map_cons, eqI]
      rw [ih b (by simpa using h), Bool.eq_iff_iff]
      simp only [Bool.and_eq_true, beq_iff_eq, decide_eq_true_eq, List.cons.injEq]
      constructor
      · rintro ⟨h1, h2⟩
        exact ⟨UInt8.toNat_inj.1 (by omega), h2⟩
      · rintro ⟨h1, h2⟩
        exact ⟨by rw [h1], h2⟩
theorem run_equal_st (w : World) (a b : List UInt8) (ha : a.length = 8) (hb : b.length = 8) : (Op.equalIn 10000 54 (.agg (cellsB a).toArray) (.agg (cellsB b).toArray)).run Try.prog w = .ok (decide (a = b)) w := by
  have h := eqI_eq a b (by omega)
  obtain ⟨a0, a1, a2, a3, a4, a5, a6, a7, rfl⟩ := list8 a ha
  obtain ⟨b0, b1, b2, b3, b4, b5, b6, b7, rfl⟩ := list8 b hb
  have h1 := equalIn_st 9998 w a0.toNat a1.toNat a2.toNat a3.toNat a4.toNat a5.toNat a6.toNat a7.toNat b0.toNat b1.toNat b2.toNat b3.toNat b4.toNat b5.toNat b6.toNat b7.toNat
  rw [show ([(a0.toNat : Int), a1.toNat, a2.toNat, a3.toNat, a4.toNat, a5.toNat, a6.toNat, a7.toNat]) = [a0, a1, a2, a3, a4, a5, a6, a7].map (fun x => (x.toNat : Int)) from rfl, show ([(b0.toNat : Int), b1.toNat, b2.toNat, b3.toNat, b4.toNat, b5.toNat, b6.toNat, b7.toNat]) = [b0, b1, b2, b3, b4, b5, b6, b7].map (fun x => (x.toNat : Int)) from rfl, h] at h1
  exact h1
theorem setCells_row {w : World} {g o : Nat} {cur : Array Value} {t : TypeId} {vs : List Value} (hg : w.heap[g]? = some (.cells cur t (0, 0))) (hfit : o + vs.length ≤ cur.size) (h1 : ∀ v ∈ vs, v.oneCell' = true) :
    (w.setCells g o vs).heap[g]? = some (.cells (cur.toList.take o ++ vs ++ cur.toList.drop (o + vs.length)).toArray t (0, 0)) ∧ w.grownBy (w.setCells g o vs) (some g) := by
  have a := run_storeCells_at Try.prog g o t vs 0 cur w hg (by omega) h1
  have b := run_storeCells_cells (P := Try.prog) g o vs 0 w (fun j hj => by simp [World.cell?, hg]; omega) (fun j hj => by simp [World.frozen?, hg]) h1
  rw [a] at b
  simp only [Nat.add_zero] at b
  injection b with _ b
  rw [← b]
  exact ⟨setRow_heap w g cur _ _ _ hg, ⟨rfl, rfl, rfl, by simp, fun k _ hk => setRow_other w g k _ (fun e => hk (by rw [e]))⟩⟩
theorem setCells_eq {w : World} {g o : Nat} {cur : Array Value} {t : TypeId} {vs : List Value} (hg : w.heap[g]? = some (.cells cur t (0, 0))) (hfit : o + vs.length ≤ cur.size) (h1 : ∀ v ∈ vs, v.oneCell' = true) :
    w.setCells g o vs = w.setRow g (cur.toList.take o ++ vs ++ cur.toList.drop (o + vs.length)).toArray := by
  have a := run_storeCells_at Try.prog g o t vs 0 cur w hg (by omega) h1
  have b := run_storeCells_cells (P := Try.prog) g o vs 0 w (fun j hj => by simp [World.cell?, hg]; omega) (fun j hj => by simp [World.frozen?, hg]) h1
  rw [a] at b
  simp only [Nat.add_zero] at b
  injection b with _ b
  exact b.symm
theorem there_of_heap {w : World} {g o n : Nat} {cur : Array Value} {t : TypeId} (hg : w.heap[g]? = some (.cells cur t (0, 0))) (hfit : o + n ≤ cur.size) : w.there g o n := fun j hj => by
  refine ⟨?_, by simp [World.frozen?, hg]⟩
  simp [World.cell?, hg]
  omega

theorem wpList_load_midg {ops : Array Oper} {rest : List Oper} {op : Oper} {a : Act} {w : World} {Q : Exit → Act → World → Prop} (hw : Region.wanted op (yielded ops a.tmps) = true) (ty : TypeId) (x : Operand) (ho : op.op = .load ty x)
    (b o : Nat) (hx : a.eval x = .pointer (some ⟨b, o, none⟩)) (cs : List Value) (d : TypeDesc) (hc : w.rangeAt b o cs)
    (hu : Try.prog.underlying ty = some d) (hd : d.isRow = true) (hi : (Try.prog.info? ty).map (·.size) = some cs.length)
    (h : wpList Try.prog ops Q rest (a.put op.dst (.agg cs.toArray)) w) : wpList Try.prog ops Q (op :: rest) a w :=
  wpList_step fun K hK => by
    rw [if_pos hw]
    exact wp_load_mid ty x ho b o hx cs d hc hu hd hi (hK _ _ h)
/-- A store of a whole array. -/
theorem wpList_store_arr {w : World} {ops : Array Oper} {rest : List Oper} {o : Oper} {a : Act} {Q : Exit → Act → World → Prop} (hgd : o.guard = none) (ty : TypeId) (x y : Operand) (ho : o.op = .store ty x y)
    (g : Nat) (t : TypeId) (cur l : List UInt8) (hx : a.eval x = .pointer (some ⟨g, 0, none⟩)) (hy : a.eval y = .agg (cellsB l).toArray) (hg : Arr w g t cur) (hl : cur.length = l.length) (hi : (Try.prog.info? ty).map (·.size) = some (cellsB l).length)
    (h : ∀ w', Hid (Arr w' g t l) → OnlyB g w w' → wpList Try.prog ops Q rest (a.put o.dst undef) w') : wpList Try.prog ops Q (o :: rest) a w := by
  have hz : (cellsB cur).toArray.size = (cellsB l).length := by rw [List.size_toArray, length_cellsB, length_cellsB, hl]
  have hr := setCells_row (w := w) (g := g) (o := 0) (cur := (cellsB cur).toArray) (t := t) (vs := cellsB l) hg (by rw [hz]; omega) (oneCells_B l)
  have he := setCells_eq (w := w) (g := g) (o := 0) (cur := (cellsB cur).toArray) (t := t) (vs := cellsB l) hg (by rw [hz]; omega) (oneCells_B l)
  refine wpList_store_mid hgd ty x y ho g 0 (cellsB l).toArray hx hy (there_of_heap hg (by simp [length_cellsB, hl])) (by simpa using hi) (all_oneCell_toArray (oneCells_B l)) ?_
  refine h _ (Lib.hid ?_) ?_
  · unfold Arr
    refine hr.1.trans ?_
    congr 3
    rw [List.take_zero, List.nil_append, Nat.zero_add, List.drop_of_length_le (by simp [length_cellsB, hl]), List.append_nil]
  · rw [show (cellsB l).toArray.toList = cellsB l from rfl, he]
    exact OnlyB.row g w _ t _ hg
/-- Whether a sector tells a number. -/
def okP (l : List UInt8) : Bool := decide (stampP l ≠ 0)
set_option maxHeartbeats 1000000 in
set_option maxRecDepth 100000 in
theorem stamp_any (A : Option Addr) (n c : Nat) (l : List UInt8) (w : World) (hl : l.length = n) (hn : n ≤ c) (hc : c ≤ maxLen) (hr : RB w A l) :
    Calls Try.prog 14 #[.slice A n c] w fun e w' => e = .returned (.tuple #[.int .i64 (stampP l : Int), .bool (okP l)]) ∧ Below w.heap.size w w' := by
  unfold maxLen at hc
  by_cases h256 : n = 256
  · subst h256
    have KE := Lib.hid (ends_any A c l w hl (by omega) hr)
    have hS : stampP l = if l.take 8 = l.drop 248 then genOf (l.take 8) else 0 := by
      unfold stampP
      simp [hl]
    have ha : (l.take 8).length = 8 := by rw [List.length_take, hl]; rfl
    have hb : (l.drop 248).length = 8 := by rw [List.length_drop, hl]
    have hO : okP l = decide (stampP l ≠ 0) := rfl
    generalize okP l = ok at *
    generalize stampP l = sp at *
    generalize l.take 8 = P at *
    generalize l.drop 248 = R at *
    have HA := Lib.hid ha
    have HB := Lib.hid hb
    have HS := Lib.hid hS
    have HO := Lib.hid hO
    clear ha hb hS hO hl hr
    go_enter Try.func14, Try.ntmps14
    go_wp2_with fail
    refine KE.out.mono ?_
    rintro e w1 ⟨rfl, b1⟩
    have B1 := Lib.hid (show Below w.heap.size w ((w1.alloc (.cells z8 54)).alloc (.cells z8 54)) from (b1.alloc b1.size _).alloc (by simp; exact Nat.le_succ_of_le b1.size) _)
    have A2 := arr_z8 (w1.alloc (.cells z8 54)) 54
    have A1 := Lib.hid ((arr_z8 w1 54).same ((Below.refl _ _).alloc (Nat.le_refl _) (.cells z8 54)))
    rw [heap_size_alloc] at A2
    have A3 := Lib.hid A2
    have HW := Lib.hid b1.size
    clear KE b1 A2
    go_upto_region 4 with (first
      | (refine wpList_store_arr rfl 54 (.tmp 4) (.tmp 12) rfl w1.heap.size 54 (List.replicate 8 0) P rfl rfl A1.out HA.out.symm (infoSt_of HA.out) ?_; intro w2 hw2 ho2; have A4 := Lib.hid (A3.out.only ho2 (by omega)); have B2 := Lib.hid (B1.out.trans (ho2.below HW.out)); clear ho2)
      | (refine wpList_store_arr rfl 54 (.tmp 5) (.tmp 13) rfl (w1.heap.size + 1) 54 (List.replicate 8 0) R rfl rfl A4.out HB.out.symm (infoSt_of HB.out) ?_; intro w3 hw3 ho3; have A5 := Lib.hid (hw2.out.only ho3 (by omega)); have B3 := Lib.hid (B2.out.trans (ho3.below (Nat.le_succ_of_le HW.out))); clear ho3))
    have KN := run_equal_st w3 P R HA.out HB.out
    have B4 := Lib.hid (show Below w.heap.size w w3 from B3.out)
    have hlt : Hid (w1.heap.size < w3.heap.size) := Lib.hid A5.out.lt
    have KG : Hid (Calls Try.prog 27 #[.agg (cellsB P).toArray] w3 fun e w' => e = .returned (.int .i64 (genOf P : Int)) ∧ Below w3.heap.size w3 w') := Lib.hid (gen_any P w3 HA.out)
    have hge : Hid (w.heap.size ≤ w3.heap.size) := Lib.hid B3.out.size
    clear A1 A3 A4 B1 B2 hw2 B3
    by_cases hPR : P = R
    · rw [decide_eq_true hPR] at KN
      have HS2 := Lib.hid (HS.out.trans (if_pos hPR))
      clear hPR HS
      go_wp2_with (first
        | (refine wpList_load_mid rfl 54 (.tmp 4) rfl w1.heap.size 0 rfl (cellsB P) _ A5.out.range Try.underlying54 rfl (infoSt_of HA.out) ?_)
        | (refine wpList_load_mid rfl 54 (.tmp 5) rfl (w1.heap.size + 1) 0 rfl (cellsB R) _ hw3.out.range Try.underlying54 rfl (infoSt_of HB.out) ?_)
        | (refine wpList_load_midg (by rfl) 54 (.tmp 4) rfl w1.heap.size 0 rfl (cellsB P) _ A5.out.range Try.underlying54 rfl (infoSt_of HA.out) ?_))
      refine KG.out.mono ?_
      rintro e w4 ⟨rfl, b4⟩
      have A6 := Lib.hid (A5.out.same b4)
      have B5 := Lib.hid (B4.out.trans (b4.mono hge.out))
      have KG2 : Hid (Calls Try.prog 27 #[.agg (cellsB P).toArray] w4 fun e w' => e = .returned (.int .i64 (genOf P : Int)) ∧ Below w4.heap.size w4 w') := Lib.hid (gen_any P w4 HA.out)
      have hge2 : Hid (w.heap.size ≤ w4.heap.size) := Lib.hid B5.out.size
      generalize genOf P = gp at *
      clear b4 A5 hw3 hlt KG B4 KN
      by_cases h0 : gp = 0
      · subst h0
        go_wp2
        go_ret2
        exact ⟨by rw [HO.out, HS2.out]; rfl, B5.out⟩
      · have hb : ((gp : Int) == 0) = false := by simpa using h0
        have H0 := Lib.hid h0
        clear h0
        go_wp2_with (first
          | (refine wpList_load_mid rfl 54 (.tmp 4) rfl w1.heap.size 0 rfl (cellsB P) _ A6.out.range Try.underlying54 rfl (infoSt_of HA.out) ?_)
          | (go_at_call 27; refine KG2.out.mono ?_; rintro e w5 ⟨rfl, b5⟩))
        go_ret2
        exact ⟨by rw [HO.out, HS2.out, decide_eq_true H0.out]; rfl, B5.out.trans (b5.mono hge2.out)⟩
    · rw [decide_eq_false hPR] at KN
      have HS2 := Lib.hid (HS.out.trans (if_neg hPR))
      clear hPR HS
      go_wp2_with (first
        | (refine wpList_load_mid rfl 54 (.tmp 4) rfl w1.heap.size 0 rfl (cellsB P) _ A5.out.range Try.underlying54 rfl (infoSt_of HA.out) ?_)
        | (refine wpList_load_mid rfl 54 (.tmp 5) rfl (w1.heap.size + 1) 0 rfl (cellsB R) _ hw3.out.range Try.underlying54 rfl (infoSt_of HB.out) ?_))
      go_ret2
      exact ⟨by rw [HO.out, HS2.out]; rfl, B4.out⟩
  · have HS := Lib.hid (show stampP l = 0 from by unfold stampP; rw [if_neg]; rintro ⟨h1, _⟩; omega)
    have HO := Lib.hid (show okP l = decide (stampP l ≠ 0) from rfl)
    generalize okP l = ok at *
    generalize stampP l = sp at *
    have hb : ((n : Int) != 256) = true := by rw [bne_iff_ne]; omega
    clear h256
    go_enter Try.func14, Try.ntmps14
    go_wp2
    go_ret2
    exact ⟨by rw [HO.out, HS.out]; rfl, Below.refl _ _⟩
end Go.Proofs.Ytlpobinmkedgeaa
