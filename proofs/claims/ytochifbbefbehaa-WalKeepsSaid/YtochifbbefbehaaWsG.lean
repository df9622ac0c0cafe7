/- Records in sectors: a sector is read. -/
import Derived.Test.YtochifbbefbehaaWsF
import Derived.Deep.RegionHeld3
import Derived.Deep.QuietTactic
import Derived.BigQuiet
namespace Go.Proofs.Ytochifbbefbehaa
open Go.RowKit
set_option linter.unusedVariables false
set_option linter.unusedSimpArgs false
theorem drewN_below {B : Nat} {a w : World} (h : Below B a w) (q : Nat) : Below B a (w.drewN q) := ⟨h.os, h.tape, h.output, h.size, h.block⟩
/-- What Read tells. -/
def RdPost (w : World) (b : List UInt8) (e a : Int) (x : Ending) (w' : World) : Prop := ∃ v, x = .returned (.tuple #[v, .bool (rdP b e a).isSome]) ∧ OS w.heap.size w' v ((rdP b e a).getD []) ∧ Below w.heap.size w w'
theorem RdPost.none {w w' : World} {b : List UInt8} {e a : Int} (h : rdP b e a = .none) (hb : Below w.heap.size w w') : RdPost w b e a (.returned (.tuple #[.slice .none 0 0, .bool false])) w' := ⟨_, by rw [h]; rfl, by rw [h]; exact OS.nil, hb⟩
theorem exec_load_C {eval : Operand → Value} {o : Oper} {x : Operand} (ho : o.op = .load 77 x) {w : World} {g : Nat} {t : TypeId} {l : List UInt8} (hx : eval x = .pointer (some ⟨g, 0, none⟩)) (h : slArr w g t l) (hl : l.length = 256) :
    (execOp eval o).run Try.prog w = .ok (.value (wsSecV l)) w := by
  unfold execOp
  simp only [ho, hx, Instr.loadAt, Instr.sureAddr, Sem.run_bind, Sem.run_pure, Result.andThen_ok, run_loadVar_mid w g 0 77 (cellsB l) _ h.range typeC rfl (infoC_of hl), wsSecV]
set_option maxHeartbeats 2000000 in
set_option maxRecDepth 100000 in
theorem wsRead_any (A : Option Addr) (n c : Nat) (b : List UInt8) (e a : Int) (w : World) (hl : b.length = n) (hn : n ≤ c) (hc : c ≤ maxLen) (hr : RB w A b) :
    Calls Try.prog 50 #[.slice A n c, .int .i64 e, .int .i64 a] w fun x w' => RdPost w b e a x w' := by
  unfold maxLen at hc
  by_cases h256 : n = 256
  case neg =>
    have HP := Lib.hid (RdPost.none (w := w) (w' := w) (b := b) (e := e) (a := a) (rd_len (by omega)) (Below.refl _ _))
    have h1 : ((n : Int) == 256) = false := by simpa using (by omega : ¬ (n : Int) = 256)
    have h2 : ((n : Int) != 256) = true := by simpa using (by omega : ¬ (n : Int) = 256)
    clear hl hr h256
    go_enter Try.func50, Try.ntmps50
    go_wp2
    go_ret2
    exact HP.out
  subst h256
  by_cases hep : 1 ≤ e ∧ e ≤ 1099511627776
  case neg =>
    have HP := Lib.hid (RdPost.none (w := w) (w' := w) (b := b) (e := e) (a := a) (rd_epoch hep) (Below.refl _ _))
    have KE := Lib.hid (isEpoch_any e w)
    rw [decide_eq_false hep] at KE
    clear hl hr hep
    go_enter Try.func50, Try.ntmps50
    go_wp2_with (go_at_call 39; refine (KE.out).mono ?_; rintro x w1 ⟨rfl, rfl⟩)
    go_ret2
    exact HP.out
  have KE := Lib.hid (isEpoch_any e w)
  rw [decide_eq_true hep] at KE
  by_cases hpl : 0 ≤ a ∧ a < 256
  case neg =>
    have HP := Lib.hid (RdPost.none (w := w) (w' := w) (b := b) (e := e) (a := a) (rd_place hpl) (Below.refl _ _))
    clear hl hr hep
    by_cases h0 : a < 0
    · clear hpl
      go_enter Try.func50, Try.ntmps50
      go_wp2_with (go_at_call 39; refine (KE.out).mono ?_; rintro x w1 ⟨rfl, rfl⟩)
      go_ret2
      exact HP.out
    · have h1 : 0 ≤ a := by omega
      have h2 : 256 ≤ a := by omega
      clear hpl h0
      go_enter Try.func50, Try.ntmps50
      go_wp2_with (go_at_call 39; refine (KE.out).mono ?_; rintro x w1 ⟨rfl, rfl⟩)
      go_ret2
      exact HP.out
  obtain ⟨en, rfl⟩ : ∃ en : Nat, e = (en : Int) := ⟨e.toNat, by omega⟩
  obtain ⟨an, rfl⟩ : ∃ an : Nat, a = (an : Int) := ⟨a.toNat, by omega⟩
  have hpl1 : (an : Int) < 256 := hpl.2
  have HN := Lib.hid (show 1 ≤ en ∧ en ≤ 1099511627776 ∧ an < 256 from by omega)
  have HT := Lib.hid (fun L (h : TextsOf b L) => rd_texts (b := b) (e := en) (a := an) (L := L) (by omega) (by omega) h)
  have HL := Lib.hid hl
  have A0 := Lib.hid (arr_z256 w)
  have B0 := Lib.hid ((Below.refl w.heap.size w).alloc (Nat.le_refl _) (.cells z256 77))
  have R0 := Lib.hid (hr.alloc (.cells z256 77))
  have hz := run_zeroC w
  have hsl := sliceC (w.alloc (.cells z256 77)) w.heap.size
  clear hl hr hep hpl
  go_enter Try.func50, Try.ntmps50
  go_upto_region 4 with (first
    | (go_at_call 39; refine (KE.out).mono ?_; rintro x w1 ⟨rfl, rfl⟩))
  go_upto_region 5 with (refine slWpList_copy_arr rfl (.tmp 26) (.tmp 27) rfl (some ⟨w.heap.size, 0, none⟩) A 256 256 256 c rfl rfl w.heap.size 0 77 (List.replicate 256 0) b b A0.out (by rw [HL.out]; rfl) R0.out (by simp) (fun _ => rfl) (by rw [HL.out]; simp) ?_; intro w3 hw3 ho3)
  have hw3 := hw3.out
  rw [show splice (List.replicate 256 0) 0 b = b from by unfold splice; rw [List.take_zero, List.nil_append, Nat.zero_add, List.drop_of_length_le (by rw [HL.out]; simp), List.append_nil]] at hw3
  have A3 := Lib.hid hw3
  have B3 := Lib.hid (B0.out.trans (ho3.below (Nat.le_refl _)))
  have HLT := Lib.hid hw3.lt
  clear hw3 ho3 hz hsl A0 B0 R0
  have HI := Lib.hid (infoC_of HL.out)
  go_upto_region 6 with (first
    | (refine wpList_load_mid rfl 77 (.tmp 8) rfl w.heap.size 0 rfl (cellsB b) _ A3.out.range typeC rfl HI.out ?_)
    | (go_at_call 60; refine (texts_any b _ HL.out).mono ?_; rintro x w4 ⟨v, L, rfl, hO, hT, hB⟩))
  have HO := Lib.hid (hO.lift (Nat.le_of_lt HLT.out))
  have hRD := HT.out L hT
  have HSZ := Lib.hid hT.1
  have A4 := Lib.hid (A3.out.same hB)
  have B4 := Lib.hid (B3.out.trans (hB.mono (Nat.le_of_lt HLT.out)))
  obtain ⟨A2, c2, rfl, hc2, hR2, _⟩ := hO.form
  have R2 := Lib.hid hR2
  clear hO hT hB hR2 A3 B3 HT
  by_cases hL : L.length = 0
  · obtain rfl := List.eq_nil_of_length_eq_zero hL
    have HP := Lib.hid (fun W (h : Below w.heap.size w W) => RdPost.none (w := w) (w' := W) (b := b) (e := en) (a := an) (by rw [hRD, if_neg (by simp)]) h)
    clear hRD hL
    go_upto_region 6 with fail
    go_quiet (fail)
    go_wp2
    go_ret2
    exact HP.out _ (drewN_below B4.out _)
  · have hpos : 0 < L.length := by omega
    have hnn : ((L.length : Int) == 0) = false := by simpa using (by omega : ¬ (L.length : Int) = 0)
    have hLn : L ≠ [] := fun e => hL (by rw [e]; rfl)
    --x have HS : slArr w4.drew w.heap.size 77 b ∧ RS w4.drew A2 L ∧ OS w.heap.size w4.drew (.slice A2 L.length c2) L ∧ Below w.heap.size w w4.drew := ⟨A4.out, R2.out.drew, HO.out.below ((Below.refl _ _).drew), B4.out.drew⟩
    have hX := wsSec_len en an L HSZ.out
    have KF := Lib.hid (fun W (h : RS W A2 L) => fill_any en an A2 L.length c2 L W HN.out.2.1 (by have := HN.out; omega) rfl HSZ.out h)
    have hb1 := HL.out
    have hb2 : (cellsB b).length = 256 := by rw [slLength_cellsB, hb1]
    have hI := infoC_of hb1
    have hT := typeC
    generalize hXe : wsSec en an L = X at *
    have hq1 := fun W => run_equalC 9998 W X b hX hb1
    unfold wsSecV at hq1 KF
    have A5 : Hid (slArr w4.drew w.heap.size 77 b) := A4
    have hR := A5.out.range
    have R5 := Lib.hid R2.out.drew
    have O5 := Lib.hid (HO.out.below ((Below.refl w4.heap.size w4).drew))
    have B5 := Lib.hid B4.out.drew
    have L5 := Lib.hid B4.out.drew.size
    have HRD := Lib.hid hRD
    have HXE := Lib.hid hXe
    have HP : Hid (∀ W, Below w.heap.size w W → OS w.heap.size W (.slice A2 L.length c2) L → RdPost w b en an (.returned (.tuple #[if X = b then .slice A2 L.length c2 else .slice none 0 0, .bool (decide (X = b))])) W) := Lib.hid (fun W h1 h2 => by
      by_cases e : X = b
      · rw [if_pos e, decide_eq_true e]
        exact ⟨_, by rw [HRD.out, if_pos ⟨hLn, e⟩]; rfl, by rw [HRD.out, if_pos ⟨hLn, e⟩]; exact h2, h1⟩
      · rw [if_neg e, decide_eq_false e]
        exact RdPost.none (by rw [HRD.out, if_neg (fun h => e h.2)]) h1)
    clear hRD hL hXe hX
    by_cases hq : X = b
    · rw [decide_eq_true hq] at hq1
      simp only [if_pos hq, decide_eq_true hq] at HP
      clear hq
      go_region_held3 (fun V => V.rangeAt w.heap.size 0 (cellsB b)) (first | with_reducible assumption | fail) (first | (go_at_call 43; refine (KF.out _ R5.out).mono ?_; rintro x w5 ⟨rfl, b5⟩; (have hR := ((A5.out).same b5).range); (have HB5 := Lib.hid b5); clear b5))
      go_wp2
      go_ret2
      exact HP.out _ (B5.out.trans (HB5.out.mono L5.out)) (O5.out.below HB5.out)
    · rw [decide_eq_false hq] at hq1
      simp only [if_neg hq, decide_eq_false hq] at HP
      clear hq
      go_region_held3 (fun V => V.rangeAt w.heap.size 0 (cellsB b)) (first | with_reducible assumption | fail) (first | (go_at_call 43; refine (KF.out _ R5.out).mono ?_; rintro x w5 ⟨rfl, b5⟩; (have hR := ((A5.out).same b5).range); (have HB5 := Lib.hid b5); clear b5))
      go_wp2
      go_ret2
      exact HP.out _ (B5.out.trans (HB5.out.mono L5.out)) (O5.out.below HB5.out)
end Go.Proofs.Ytochifbbefbehaa
