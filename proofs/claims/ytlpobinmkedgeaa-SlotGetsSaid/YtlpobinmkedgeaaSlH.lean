/- Slots: the greatest number that was seen. -/
import Derived.Test.YtlpobinmkedgeaaSlG
import Derived.OrdersHeld
namespace Go.Proofs.Ytlpobinmkedgeaa
open Go.RowKit
set_option linter.unusedVariables false
set_option linter.unusedSimpArgs false
theorem seen_le (L : List (List UInt8)) : ∀ n, n ≤ 1099511627776 → L.foldl seen1 n ≤ 1099511627776 := by
  induction L with
  | nil => intro n h; exact h
  | cons b L ih => intro n h; exact ih _ (seen1_le n b h)
theorem seen_snoc {L : List (List UInt8)} {k : Nat} {b : List UInt8} (h : L[k]? = some b) : (L.take (k + 1)).foldl seen1 0 = seen1 ((L.take k).foldl seen1 0) b := by
  rw [List.take_add_one, h, List.foldl_append]
  rfl
theorem gen_at (l : List UInt8) (w : World) (hl : l.length = 8) :
    Calls Try.prog 27 #[.agg (cellsB l).toArray] w fun e w' => e = .returned (.int .i64 (genOf l : Int)) ∧ Below w.heap.size w w' := gen_any l w hl
theorem run_max3 (w : World) (ats : Array TypeId) (ty : TypeId) (a b c : Nat) : (Builtin.max_ ats ty #[.int .i64 (a : Int), .int .i64 (b : Int), .int .i64 (c : Int)]).run Try.prog w = .ok (.int .i64 ((max (max a b) c : Nat) : Int)) w := by
  have h2 : ∀ (x y : Nat), (Builtin.max2 (.int .i64 (x : Int)) (.int .i64 (y : Int))).run Try.prog w = .ok (.int .i64 ((max x y : Nat) : Int)) w := fun x y => by
    simp only [Builtin.max2, Sem.run_pure]
    by_cases h : (y : Int) > (x : Int)
    · rw [if_pos h, Nat.max_eq_right (by omega)]
    · rw [if_neg h, Nat.max_eq_left (by omega)]
  simp only [Builtin.max_, List.foldlM_cons, List.foldlM_nil, Sem.run_bind, h2, Result.andThen_ok, Sem.run_pure]
theorem exec_load_arr {eval : Operand → Value} {o : Oper} {x : Operand} (ho : o.op = .load 54 x) {w : World} {g : Nat} {t : TypeId} {l : List UInt8} (hx : eval x = .pointer (some ⟨g, 0, none⟩)) (h : Arr w g t l) (hl : l.length = 8) :
    (execOp eval o).run Try.prog w = .ok (.value (.agg (cellsB l).toArray)) w := by
  unfold execOp
  simp only [ho, hx, Instr.loadAt, Instr.sureAddr, Sem.run_bind, Sem.run_pure, Result.andThen_ok, run_loadVar_mid w g 0 54 (cellsB l) _ h.range Try.underlying54 rfl (infoSt_of hl)]
set_option maxHeartbeats 2000000 in
set_option maxRecDepth 100000 in
theorem seen_any (A : Option Addr) (n c : Nat) (L : List (List UInt8)) (w : World) (hl : L.length = n) (hn : n ≤ c) (hc : c ≤ maxLen) (hr : RBS w A L) :
    Calls Try.prog 16 #[.slice A n c] w fun e w' => e = .returned (.int .i64 (seenP L : Int)) ∧ Below w.heap.size w w' := by
  unfold maxLen at hc
  have HR := Lib.hid hr
  have HL := Lib.hid hl
  have HQ : Hid (seenP L = L.foldl seen1 0) := Lib.hid rfl
  clear hr hl
  go_enter Try.func16, Try.ntmps16
  go_wp2
  go_loopw [3, 5, 6, 7, 10] (fun t _ _ _ i wr => ∃ k : Nat, k ≤ n ∧ i = .int .i64 k ∧ t = .int .i64 ((L.take k).foldl seen1 0 : Nat) ∧ Below w.heap.size w wr) (fun _ _ _ _ i _ => n - (intOf i).toNat)
  case atStart => exact ⟨0, Nat.zero_le _, rfl, rfl, Below.refl _ _⟩
  case round =>
    obtain ⟨k, hk, rfl, rfl, hB⟩ := hrel
    by_cases hlt : k < n
    · obtain ⟨b, hb⟩ : ∃ b, L[k]? = some b := ⟨L[k]'(by rw [HL.out]; omega), List.getElem?_eq_getElem _⟩
      obtain ⟨ad, hA⟩ := HR.out.some_of (by rw [HL.out]; omega)
      have hR2 := HR.out.below hB
      subst hA
      obtain ⟨B, cb, y0, y1, y2, y3⟩ := hR2.at hb
      have HS := Lib.hid (seen_snoc hb)
      have hs := seen_le (L.take k) 0 (by omega)
      have hB' := Lib.hid hB
      generalize (L.take k).foldl seen1 0 = s at *
      clear hR2 hB hb
      by_cases h256 : b.length = 256
      · have KE := Lib.hid (ends_any B cb b wr h256 (by omega) y3)
        have HS2 := Lib.hid (HS.out.trans (show seen1 s b = max (max s (genOf (b.take 8))) (genOf (b.drop 248)) from by unfold seen1; rw [if_pos h256]))
        have ha : (b.take 8).length = 8 := by rw [List.length_take, h256]; rfl
        have hbb : (b.drop 248).length = 8 := by rw [List.length_drop, h256]
        have HA := Lib.hid ha
        have HB := Lib.hid hbb
        generalize b.take 8 = P at *
        generalize b.drop 248 = R at *
        rw [h256] at y0
        clear HS ha hbb y1 y2 y3 h256
        go_wp2_with fail
        refine KE.out.mono ?_
        rintro e w1 ⟨rfl, b1⟩
        have B1 := Lib.hid (show Below w.heap.size w ((w1.alloc (.cells z8 54)).alloc (.cells z8 54)) from ((hB'.out.trans (b1.mono hB'.out.size)).alloc (Nat.le_trans hB'.out.size b1.size) _).alloc (by simp; exact Nat.le_succ_of_le (Nat.le_trans hB'.out.size b1.size)) _)
        have A2 := arr_z8 (w1.alloc (.cells z8 54)) 54
        have A1 := Lib.hid ((arr_z8 w1 54).same ((Below.refl _ _).alloc (Nat.le_refl _) (.cells z8 54)))
        rw [heap_size_alloc] at A2
        have A3 := Lib.hid A2
        have HW := Lib.hid (Nat.le_trans hB'.out.size b1.size)
        clear KE b1 A2 y0
        go_upto_region 7 with (first
          | (refine wpList_store_arr rfl 54 (.tmp 6) (.tmp 20) rfl w1.heap.size 54 (List.replicate 8 0) P rfl rfl A1.out HA.out.symm (infoSt_of HA.out) ?_; intro w2 hw2 ho2; have A4 := Lib.hid (A3.out.only ho2 (by omega)); have B2 := Lib.hid (B1.out.trans (ho2.below HW.out)); clear ho2)
          | (refine wpList_store_arr rfl 54 (.tmp 7) (.tmp 21) rfl (w1.heap.size + 1) 54 (List.replicate 8 0) R rfl rfl A4.out HB.out.symm (infoSt_of HB.out) ?_; intro w3 hw3 ho3; have A5 := Lib.hid (hw2.out.only ho3 (by omega)); have B3 := Lib.hid (B2.out.trans (ho3.below (Nat.le_succ_of_le HW.out))); clear ho3))
        have HS0 : Arr w3 w1.heap.size 54 P ∧ Arr w3 (w1.heap.size + 1) 54 R ∧ Below w.heap.size w w3 := ⟨A5.out, hw3.out, B3.out⟩
        have HST := Lib.hid (show ∀ W W', (Arr W w1.heap.size 54 P ∧ Arr W (w1.heap.size + 1) 54 R ∧ Below w.heap.size w W) → Below W.heap.size W W' → (Arr W' w1.heap.size 54 P ∧ Arr W' (w1.heap.size + 1) 54 R ∧ Below w.heap.size w W') from
          fun W W' h b => ⟨h.1.same b, h.2.1.same b, h.2.2.trans (b.mono h.2.2.size)⟩)
        clear A1 A3 A4 A5 B1 B2 B3 hw2 hw3
        refine wp_region_held (S := fun W => Arr W w1.heap.size 54 P ∧ Arr W (w1.heap.size + 1) 54 R ∧ Below w.heap.size w W) (by kernel_rfl) ?_
        have HS1 : Arr w3.drew w1.heap.size 54 P ∧ Arr w3.drew (w1.heap.size + 1) 54 R ∧ Below w.heap.size w w3.drew := HST.out w3 _ HS0 (Below.refl _ _).drew
        change wpAnyH _ _ _ _ _ _ _ _ (World.drew w3)
        refine takeH 0 22 (v := ?_) rfl rfl (by kernel_rfl) (by kernel_rfl) (by kernel_rfl) (fun _ _ _ h => h) HS1 (by rfl) ?_ ?_
        rotate_left
        · intro w' hSw
          go_simp
          try (with_reducible rfl)
        try simp only [Act.put, List.setIfInBounds_toArray, List.set_cons_zero, List.set_cons_succ]
        refine takeH 1 23 (v := .agg (cellsB P).toArray) rfl rfl (by kernel_rfl) (by kernel_rfl) (by kernel_rfl) (fun _ _ _ h => h) HS1 (by rfl) ?_ ?_
        · intro w' hSw
          exact exec_load_arr rfl rfl hSw.1 HA.out
        try simp only [Act.put, List.setIfInBounds_toArray, List.set_cons_zero, List.set_cons_succ]
        refine takeH 3 25 (v := .agg (cellsB R).toArray) rfl rfl (by kernel_rfl) (by kernel_rfl) (by kernel_rfl) (fun _ _ _ h => h) HS1 (by rfl) ?_ ?_
        · intro w' hSw
          exact exec_load_arr rfl rfl hSw.2.1 HB.out
        try simp only [Act.put, List.setIfInBounds_toArray, List.set_cons_zero, List.set_cons_succ]
        refine wpAnyH_ready (rs := [2]) (by kernel_rfl) (by simp) ?_
        refine AllReadyH.cons rfl (fun K hK => ?_) AllReadyH.nil
        go_simp
        refine (gen_at P _ HA.out).mono ?_
        rintro e w4 ⟨rfl, b4⟩
        have HS2' := HST.out _ w4 HS1 b4
        refine hK _ _ HS2' (fun _ => ?_)
        clear hK K
        try simp only [Act.put, List.setIfInBounds_toArray, List.set_cons_zero, List.set_cons_succ]
        refine wpAnyH_ready (rs := [4]) (by kernel_rfl) (by simp) ?_
        refine AllReadyH.cons rfl (fun K hK => ?_) AllReadyH.nil
        go_simp
        refine (gen_at R _ HB.out).mono ?_
        rintro e w5 ⟨rfl, b5⟩
        have HS3 := HST.out _ w5 HS2' b5
        refine hK _ _ HS3 (fun _ => ?_)
        clear hK K b4 b5 HS1 HS2' HS0
        have gp := genOf_le P
        have gr := genOf_le R
        have hmx : (max (max s (genOf P)) (genOf R) : Nat) ≤ 1099511627776 := by omega
        obtain ⟨m, hm⟩ : ∃ m, m = max (max s (genOf P)) (genOf R) := ⟨_, rfl⟩
        have HM := Lib.hid hm
        clear hm
        try simp only [Act.put, List.setIfInBounds_toArray, List.set_cons_zero, List.set_cons_succ]
        refine takeH 5 27 (v := .int .i64 (m : Int)) rfl rfl (by kernel_rfl) (by kernel_rfl) (by kernel_rfl) (fun _ _ _ h => h) HS3 (by rfl) ?_ ?_
        · intro w' hSw
          go_simp
          rw [run_max3, HM.out]
          rfl
        try simp only [Act.put, List.setIfInBounds_toArray, List.set_cons_zero, List.set_cons_succ]
        refine takeH 6 3 (v := .int .i64 (m : Int)) rfl rfl (by kernel_rfl) (by kernel_rfl) (by kernel_rfl) (fun _ _ _ h => h) HS3 (by rfl) ?_ ?_
        · intro w' hSw
          go_simp
          try (with_reducible rfl)
        refine wpAnyH_done (by kernel_rfl) ?_ _
        go_wp2
        go_roundw
        case rel => exact ⟨k + 1, by omega, by go_num, by rw [HS2.out, HM.out], HS3.2.2⟩
        case measure => simp [intOf]; omega
      · have HS2 := Lib.hid (HS.out.trans (show seen1 s b = s from by unfold seen1; rw [if_neg h256]))
        have hbb : ((b.length : Int) == 256) = false := by simpa using (by omega : ¬ (b.length : Int) = 256)
        generalize b.length = nb at *
        clear HS y1 y2 h256
        go_wp2
        go_roundw
        case rel => exact ⟨k + 1, by omega, by go_num, by rw [HS2.out], hB'.out⟩
        case measure => simp [intOf]; omega
    · obtain rfl : k = n := by omega
      rw [List.take_of_length_le (by rw [HL.out]; exact Nat.le_refl _)]
      rw [← HQ.out]
      have hB' := Lib.hid hB
      clear hB
      obtain ⟨s, hs⟩ : ∃ s, s = seenP L := ⟨_, rfl⟩
      rw [← hs]
      have HSS := Lib.hid hs
      clear hs
      go_wp2
      go_ret
      exact ⟨by rw [← HSS.out]; rfl, hB'.out⟩
end Go.Proofs.Ytlpobinmkedgeaa
