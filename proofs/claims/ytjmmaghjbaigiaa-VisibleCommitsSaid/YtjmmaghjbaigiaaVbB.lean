/- What a snapshot sees: the program's Which. -/
import Derived.Test.YtjmmaghjbaigiaaVbA
import Derived.Test.YtjmmaghjbaigiaaGnS
namespace Go.Proofs.Ytjmmaghjbaigiaa
open Go.RowKit
set_option linter.unusedVariables false
set_option linter.unusedSimpArgs false
set_option maxHeartbeats 2000000 in
set_option maxRecDepth 100000 in
theorem vbWhich_any (key : ByteArray) (A : Option Addr) (n c : Nat) (l : List Vn) (me t : Int) (w : World) (hl : l.length = n) (hn : n ≤ 1000) (hr : RG KV w A l) :
    Calls Try.prog 61 #[.agg #[.string key, .slice A n c], .int .i64 me, .int .i64 t] w fun e w' => e = .returned (.int .i64 (vbWhich l me t)) ∧ Below w.heap.size w w' := by
  have HB := Lib.hid (below1 w (.cells #[.string key, .slice A n c] 24))
  have SX := Lib.hid (StBox.new w key A n c 24)
  have HL := Lib.hid hl
  have HR := Lib.hid (fun W (h : Below w.heap.size w W) => hr.below h)
  have HF := Lib.hid (fun (k : Nat) (x : Vn) => vbWhich_found (l := l) (me := me) (k := k) (x := x) t)
  have HN := Lib.hid (fun (b : Int) => vbWhich_none (l := l) (me := me) (t := t) (b := b))
  have KW := Lib.hid (fun (x : Vn) (W : World) => vbWaits_any x me W)
  have KC := Lib.hid (fun (x : Vn) (W : World) => vbComm_any x t W)
  generalize vbWhich l me t = R at HF HN ⊢
  clear hl hr
  go_enter Try.func61, Try.ntmps61
  go_wp2
  generalize w.alloc (.cells #[.string key, .slice A n c] 24) = W0 at *
  have s1 := SX.out.c1
  go_step3
  go_wp2
  go_step3
  go_wp2
  go_loopw [7, 8, 9, 13, 18, 23] (fun s _ _ i _ _ wr => ∃ (k : Nat) (b : Int), k ≤ n ∧ i = .int .i64 (k : Int) ∧ s = .int .i64 b ∧ (∀ (j : Nat) (v : Vn), j < k → l[j]? = some v → vbWaits me v = false) ∧ VbBest l t 0 k b ∧ Below w.heap.size w wr ∧ StBox wr w.heap.size key A n c) (fun _ _ _ i _ _ _ => n - (intOf i).toNat)
  case atStart => exact ⟨0, -1, Nat.zero_le _, rfl, rfl, fun j v hj => by omega, VbBest.start l t 0, HB.out, SX.out⟩
  case round =>
    obtain ⟨k, b, hk, rfl, rfl, hf, hbest, hb, hs⟩ := hrel
    have HA := Lib.hid hf
    have HBT := Lib.hid hbest
    by_cases hlt : k < n
    · obtain ⟨x, hx⟩ : ∃ x, l[k]? = some x := ⟨l[k]'(by rw [HL.out]; exact hlt), List.getElem?_eq_getElem _⟩
      obtain ⟨ad, rfl, hv⟩ := (HR.out _ hb).vn hx
      have c0 := hv.d0; have c1 := hv.d1; have c2 := hv.d2; have c3 := hv.d3
      have HX := Lib.hid hx
      have HB2 := Lib.hid (hb.alloc hb.size (.cells #[.int .i64 x.txn, .int .i64 x.ts, .bool x.gone, .string x.val] 66))
      have VX := Lib.hid (VnBox.new wr x 66)
      have SX2 := Lib.hid (hs.alloc (.cells #[.int .i64 x.txn, .int .i64 x.ts, .bool x.gone, .string x.val] 66))
      have K1 := Lib.hid (KW.out x)
      have K2 := Lib.hid (KC.out x)
      clear s1 hv hx hb hs hf hbest
      unfold Vn.v at K1 K2
      go_upto_region 5 with fail
      generalize wr.alloc (.cells #[.int .i64 x.txn, .int .i64 x.ts, .bool x.gone, .string x.val] 66) = W1 at *
      generalize wr.heap.size = q at *
      clear c0 c1 c2 c3
      have c0 := VX.out.c0; have c1 := VX.out.c1; have c2 := VX.out.c2; have c3 := VX.out.c3
      cases hw : vbWaits me x with
      | true =>
        have e2 := HF.out k x HA.out HX.out hw
        rw [hw] at K1
        clear hw
        go_wp2_with (first | (go_at_call 69; refine (K1.out _).mono ?_; rintro e w1 ⟨rfl, b1⟩; have HB2 := Lib.hid (HB2.out.trans (b1.mono HB2.out.size)); clear b1) | fail)
        rw [Exit.noGoto_ret]
        go_ret
        exact ⟨by first | rfl | (rw [e2]; rfl) | (rw [e2]), HB2.out⟩
      | false =>
        have HWF := Lib.hid hw
        rw [hw] at K1
        clear hw
        go_upto_region 7 with (go_at_call 69; refine (K1.out _).mono ?_; rintro e w1 ⟨rfl, b1⟩; have HB2 := Lib.hid (HB2.out.trans (b1.mono HB2.out.size)); have VX := Lib.hid (VX.out.on b1); have SX2 := Lib.hid (SX2.out.on b1); have c0 := VX.out.c0; have c1 := VX.out.c1; have c2 := VX.out.c2; have c3 := VX.out.c3; clear b1)
        cases ho : vsOld t x with
        | false =>
          rw [ho] at K2
          have NB := Lib.hid (HBT.out.up_no HX.out (.inl ho))
          clear ho
          have KF := Lib.hid (fun (V : World) (h : Below w1.heap.size w1 V) => (⟨(VX.out.on h).c0, (VX.out.on h).c1, (VX.out.on h).c2, (VX.out.on h).c3⟩ : V.cell? ⟨q, 0, none⟩ = some (.int .i64 x.txn) ∧ V.cell? ⟨q, 1, none⟩ = some (.int .i64 x.ts) ∧ V.cell? ⟨q, 2, none⟩ = some (.bool x.gone) ∧ V.cell? ⟨q, 3, none⟩ = some (.string x.val)))
          clear c0 c1 c2 c3
          refine wp_region_held (S := fun V => V.cell? ⟨q, 0, none⟩ = some (.int .i64 x.txn) ∧ V.cell? ⟨q, 1, none⟩ = some (.int .i64 x.ts) ∧ V.cell? ⟨q, 2, none⟩ = some (.bool x.gone) ∧ V.cell? ⟨q, 3, none⟩ = some (.string x.val)) (by kernel_rfl) ?_
          change wpAnyH _ _ _ _ _ _ _ _ (World.drew w1)
          have HS := KF.out _ (Below.refl _ w1).drew
          refine takeH 0 24 (v := ?_) rfl rfl (by kernel_rfl) (by kernel_rfl) (by kernel_rfl) (fun _ _ _ h => h) HS (by rfl) ?_ ?_
          rotate_left
          · intro w' hSw
            obtain ⟨c0, c1, c2, c3⟩ := hSw
            go_simp
            try (with_reducible rfl)
          try simp only [Act.put, List.setIfInBounds_toArray, List.set_cons_zero, List.set_cons_succ]
          refine takeH 1 25 (v := ?_) rfl rfl (by kernel_rfl) (by kernel_rfl) (by kernel_rfl) (fun _ _ _ h => h) HS (by rfl) ?_ ?_
          rotate_left
          · intro w' hSw
            go_simp
            try (with_reducible rfl)
          try simp only [Act.put, List.setIfInBounds_toArray, List.set_cons_zero, List.set_cons_succ]
          refine wpAnyH_ready (rs := [2]) (by kernel_rfl) (by simp) ?_
          refine AllReadyH.cons rfl (fun K hK => ?_) AllReadyH.nil
          go_simp
          refine (K2.out _).mono ?_
          rintro e w2 ⟨rfl, b2⟩
          have B2 := Lib.hid ((Below.refl w1.heap.size w1).drew.trans b2)
          have HS2 := KF.out _ B2.out
          clear b2
          refine hK _ _ HS2 (fun _ => ?_)
          clear hK K
          try simp only [Act.put, List.setIfInBounds_toArray, List.set_cons_zero, List.set_cons_succ]
          refine takeH 3 27 (v := .bool false) rfl rfl (by kernel_rfl) (by kernel_rfl) (by kernel_rfl) (fun _ _ _ h => h) HS2 (by rfl) ?_ ?_
          · intro w' hSw
            go_simp
            try (with_reducible rfl)
          try simp only [Act.put, List.setIfInBounds_toArray, List.set_cons_zero, List.set_cons_succ]
          refine takeSkip 4 28 rfl rfl (by kernel_rfl) (by kernel_rfl) (by kernel_rfl) (fun _ _ _ h => h) HS2 (by rfl) ?_
          try simp only [Act.put, List.setIfInBounds_toArray, List.set_cons_zero, List.set_cons_succ]
          refine takeSkip 5 29 rfl rfl (by kernel_rfl) (by kernel_rfl) (by kernel_rfl) (fun _ _ _ h => h) HS2 (by rfl) ?_
          try simp only [Act.put, List.setIfInBounds_toArray, List.set_cons_zero, List.set_cons_succ]
          refine takeSkip 6 30 rfl rfl (by kernel_rfl) (by kernel_rfl) (by kernel_rfl) (fun _ _ _ h => h) HS2 (by rfl) ?_
          try simp only [Act.put, List.setIfInBounds_toArray, List.set_cons_zero, List.set_cons_succ]
          refine takeSkip 7 31 rfl rfl (by kernel_rfl) (by kernel_rfl) (by kernel_rfl) (fun _ _ _ h => h) HS2 (by rfl) ?_
          try simp only [Act.put, List.setIfInBounds_toArray, List.set_cons_zero, List.set_cons_succ]
          refine takeSkip 8 32 rfl rfl (by kernel_rfl) (by kernel_rfl) (by kernel_rfl) (fun _ _ _ h => h) HS2 (by rfl) ?_
          try simp only [Act.put, List.setIfInBounds_toArray, List.set_cons_zero, List.set_cons_succ]
          refine takeSkip 9 33 rfl rfl (by kernel_rfl) (by kernel_rfl) (by kernel_rfl) (fun _ _ _ h => h) HS2 (by rfl) ?_
          try simp only [Act.put, List.setIfInBounds_toArray, List.set_cons_zero, List.set_cons_succ]
          refine takeSkip 10 34 rfl rfl (by kernel_rfl) (by kernel_rfl) (by kernel_rfl) (fun _ _ _ h => h) HS2 (by rfl) ?_
          try simp only [Act.put, List.setIfInBounds_toArray, List.set_cons_zero, List.set_cons_succ]
          refine takeSkip 11 35 rfl rfl (by kernel_rfl) (by kernel_rfl) (by kernel_rfl) (fun _ _ _ h => h) HS2 (by rfl) ?_
          try simp only [Act.put, List.setIfInBounds_toArray, List.set_cons_zero, List.set_cons_succ]
          refine takeSkip 12 36 rfl rfl (by kernel_rfl) (by kernel_rfl) (by kernel_rfl) (fun _ _ _ h => h) HS2 (by rfl) ?_
          try simp only [Act.put, List.setIfInBounds_toArray, List.set_cons_zero, List.set_cons_succ]
          refine takeSkip 13 37 rfl rfl (by kernel_rfl) (by kernel_rfl) (by kernel_rfl) (fun _ _ _ h => h) HS2 (by rfl) ?_
          try simp only [Act.put, List.setIfInBounds_toArray, List.set_cons_zero, List.set_cons_succ]
          refine takeSkip 14 38 rfl rfl (by kernel_rfl) (by kernel_rfl) (by kernel_rfl) (fun _ _ _ h => h) HS2 (by rfl) ?_
          try simp only [Act.put, List.setIfInBounds_toArray, List.set_cons_zero, List.set_cons_succ]
          refine takeSkip 15 39 rfl rfl (by kernel_rfl) (by kernel_rfl) (by kernel_rfl) (fun _ _ _ h => h) HS2 (by rfl) ?_
          try simp only [Act.put, List.setIfInBounds_toArray, List.set_cons_zero, List.set_cons_succ]
          refine takeSkip 16 40 rfl rfl (by kernel_rfl) (by kernel_rfl) (by kernel_rfl) (fun _ _ _ h => h) HS2 (by rfl) ?_
          try simp only [Act.put, List.setIfInBounds_toArray, List.set_cons_zero, List.set_cons_succ]
          refine takeH 17 41 (v := ?_) rfl rfl (by kernel_rfl) (by kernel_rfl) (by kernel_rfl) (fun _ _ _ h => h) HS2 (by rfl) ?_ ?_
          rotate_left
          · intro w' hSw
            go_simp
            try (with_reducible rfl)
          try simp only [Act.put, List.setIfInBounds_toArray, List.set_cons_zero, List.set_cons_succ]
          refine takeH 18 23 (v := ?_) rfl rfl (by kernel_rfl) (by kernel_rfl) (by kernel_rfl) (fun _ _ _ h => h) HS2 (by rfl) ?_ ?_
          rotate_left
          · intro w' hSw
            go_simp
            try (with_reducible rfl)
          try simp only [Act.put, List.setIfInBounds_toArray, List.set_cons_zero, List.set_cons_succ]
          refine wpAnyH_done (by kernel_rfl) ?_ _
          clear KF HS HS2
          all_goals
            have BB := Lib.hid (HB2.out.trans (B2.out.mono HB2.out.size))
            have SS := Lib.hid (SX2.out.on B2.out)
            go_wp2_with fail
            go_round
            case rel => exact ⟨k + 1, _, by omega, by go_num, rfl, fun j v hj hv => by
              by_cases e : j = k
              · subst e
                rw [HX.out] at hv
                injection hv with hv
                rw [← hv]; exact HWF.out
              · exact HA.out j v (by omega) hv, NB.out, by first | exact BB.out | exact BB.out.drew, by first | exact SS.out | exact SS.out.drew⟩
            case measure => simp [intOf]; omega
        | true =>
          rw [ho] at K2
          rcases HBT.out.lt with e | ⟨i, u, e, h0, hi, hu⟩
          · have NB := Lib.hid (HBT.out.up_yes HX.out ho (.inl e) (Nat.zero_le _))
            subst e
            clear ho
            have KF := Lib.hid (fun (V : World) (h : Below w1.heap.size w1 V) => (⟨(VX.out.on h).c0, (VX.out.on h).c1, (VX.out.on h).c2, (VX.out.on h).c3⟩ : V.cell? ⟨q, 0, none⟩ = some (.int .i64 x.txn) ∧ V.cell? ⟨q, 1, none⟩ = some (.int .i64 x.ts) ∧ V.cell? ⟨q, 2, none⟩ = some (.bool x.gone) ∧ V.cell? ⟨q, 3, none⟩ = some (.string x.val)))
            clear c0 c1 c2 c3
            refine wp_region_held (S := fun V => V.cell? ⟨q, 0, none⟩ = some (.int .i64 x.txn) ∧ V.cell? ⟨q, 1, none⟩ = some (.int .i64 x.ts) ∧ V.cell? ⟨q, 2, none⟩ = some (.bool x.gone) ∧ V.cell? ⟨q, 3, none⟩ = some (.string x.val)) (by kernel_rfl) ?_
            change wpAnyH _ _ _ _ _ _ _ _ (World.drew w1)
            have HS := KF.out _ (Below.refl _ w1).drew
            refine takeH 0 24 (v := ?_) rfl rfl (by kernel_rfl) (by kernel_rfl) (by kernel_rfl) (fun _ _ _ h => h) HS (by rfl) ?_ ?_
            rotate_left
            · intro w' hSw
              obtain ⟨c0, c1, c2, c3⟩ := hSw
              go_simp
              try (with_reducible rfl)
            try simp only [Act.put, List.setIfInBounds_toArray, List.set_cons_zero, List.set_cons_succ]
            refine takeH 1 25 (v := ?_) rfl rfl (by kernel_rfl) (by kernel_rfl) (by kernel_rfl) (fun _ _ _ h => h) HS (by rfl) ?_ ?_
            rotate_left
            · intro w' hSw
              go_simp
              try (with_reducible rfl)
            try simp only [Act.put, List.setIfInBounds_toArray, List.set_cons_zero, List.set_cons_succ]
            refine wpAnyH_ready (rs := [2]) (by kernel_rfl) (by simp) ?_
            refine AllReadyH.cons rfl (fun K hK => ?_) AllReadyH.nil
            go_simp
            refine (K2.out _).mono ?_
            rintro e w2 ⟨rfl, b2⟩
            have B2 := Lib.hid ((Below.refl w1.heap.size w1).drew.trans b2)
            have HS2 := KF.out _ B2.out
            clear b2
            refine hK _ _ HS2 (fun _ => ?_)
            clear hK K
            try simp only [Act.put, List.setIfInBounds_toArray, List.set_cons_zero, List.set_cons_succ]
            refine takeH 3 27 (v := .bool true) rfl rfl (by kernel_rfl) (by kernel_rfl) (by kernel_rfl) (fun _ _ _ h => h) HS2 (by rfl) ?_ ?_
            · intro w' hSw
              go_simp
              try (with_reducible rfl)
            try simp only [Act.put, List.setIfInBounds_toArray, List.set_cons_zero, List.set_cons_succ]
            refine takeH 4 28 (v := ?_) rfl rfl (by kernel_rfl) (by kernel_rfl) (by kernel_rfl) (fun _ _ _ h => h) HS2 (by rfl) ?_ ?_
            rotate_left
            · intro w' hSw
              go_simp
              try (with_reducible rfl)
            try simp only [Act.put, List.setIfInBounds_toArray, List.set_cons_zero, List.set_cons_succ]
            refine takeH 5 29 (v := .bool true) rfl rfl (by kernel_rfl) (by kernel_rfl) (by kernel_rfl) (fun _ _ _ h => h) HS2 (by rfl) ?_ ?_
            · intro w' hSw
              go_simp
              try (first | with_reducible rfl | rw [d1])
            try simp only [Act.put, List.setIfInBounds_toArray, List.set_cons_zero, List.set_cons_succ]
            refine takeH 6 30 (v := .bool true) rfl rfl (by kernel_rfl) (by kernel_rfl) (by kernel_rfl) (fun _ _ _ h => h) HS2 (by rfl) ?_ ?_
            · intro w' hSw
              go_simp
              try (with_reducible rfl)
            try simp only [Act.put, List.setIfInBounds_toArray, List.set_cons_zero, List.set_cons_succ]
            refine takeSkip 7 31 rfl rfl (by kernel_rfl) (by kernel_rfl) (by kernel_rfl) (fun _ _ _ h => h) HS2 (by rfl) ?_
            try simp only [Act.put, List.setIfInBounds_toArray, List.set_cons_zero, List.set_cons_succ]
            refine takeSkip 8 32 rfl rfl (by kernel_rfl) (by kernel_rfl) (by kernel_rfl) (fun _ _ _ h => h) HS2 (by rfl) ?_
            try simp only [Act.put, List.setIfInBounds_toArray, List.set_cons_zero, List.set_cons_succ]
            refine takeSkip 9 33 rfl rfl (by kernel_rfl) (by kernel_rfl) (by kernel_rfl) (fun _ _ _ h => h) HS2 (by rfl) ?_
            try simp only [Act.put, List.setIfInBounds_toArray, List.set_cons_zero, List.set_cons_succ]
            refine takeSkip 10 34 rfl rfl (by kernel_rfl) (by kernel_rfl) (by kernel_rfl) (fun _ _ _ h => h) HS2 (by rfl) ?_
            try simp only [Act.put, List.setIfInBounds_toArray, List.set_cons_zero, List.set_cons_succ]
            refine takeSkip 11 35 rfl rfl (by kernel_rfl) (by kernel_rfl) (by kernel_rfl) (fun _ _ _ h => h) HS2 (by rfl) ?_
            try simp only [Act.put, List.setIfInBounds_toArray, List.set_cons_zero, List.set_cons_succ]
            refine takeSkip 12 36 rfl rfl (by kernel_rfl) (by kernel_rfl) (by kernel_rfl) (fun _ _ _ h => h) HS2 (by rfl) ?_
            try simp only [Act.put, List.setIfInBounds_toArray, List.set_cons_zero, List.set_cons_succ]
            refine takeSkip 13 37 rfl rfl (by kernel_rfl) (by kernel_rfl) (by kernel_rfl) (fun _ _ _ h => h) HS2 (by rfl) ?_
            try simp only [Act.put, List.setIfInBounds_toArray, List.set_cons_zero, List.set_cons_succ]
            refine takeSkip 14 38 rfl rfl (by kernel_rfl) (by kernel_rfl) (by kernel_rfl) (fun _ _ _ h => h) HS2 (by rfl) ?_
            try simp only [Act.put, List.setIfInBounds_toArray, List.set_cons_zero, List.set_cons_succ]
            refine takeSkip 15 39 rfl rfl (by kernel_rfl) (by kernel_rfl) (by kernel_rfl) (fun _ _ _ h => h) HS2 (by rfl) ?_
            try simp only [Act.put, List.setIfInBounds_toArray, List.set_cons_zero, List.set_cons_succ]
            refine takeH 16 40 (v := ?_) rfl rfl (by kernel_rfl) (by kernel_rfl) (by kernel_rfl) (fun _ _ _ h => h) HS2 (by rfl) ?_ ?_
            rotate_left
            · intro w' hSw
              go_simp
              try (with_reducible rfl)
            try simp only [Act.put, List.setIfInBounds_toArray, List.set_cons_zero, List.set_cons_succ]
            refine takeH 17 41 (v := ?_) rfl rfl (by kernel_rfl) (by kernel_rfl) (by kernel_rfl) (fun _ _ _ h => h) HS2 (by rfl) ?_ ?_
            rotate_left
            · intro w' hSw
              go_simp
              try (with_reducible rfl)
            try simp only [Act.put, List.setIfInBounds_toArray, List.set_cons_zero, List.set_cons_succ]
            refine takeH 18 23 (v := ?_) rfl rfl (by kernel_rfl) (by kernel_rfl) (by kernel_rfl) (fun _ _ _ h => h) HS2 (by rfl) ?_ ?_
            rotate_left
            · intro w' hSw
              go_simp
              try (with_reducible rfl)
            try simp only [Act.put, List.setIfInBounds_toArray, List.set_cons_zero, List.set_cons_succ]
            refine wpAnyH_done (by kernel_rfl) ?_ _
            clear KF HS HS2
            all_goals
              have BB := Lib.hid (HB2.out.trans (B2.out.mono HB2.out.size))
              have SS := Lib.hid (SX2.out.on B2.out)
              go_wp2_with fail
              go_round
              case rel => exact ⟨k + 1, _, by omega, by go_num, rfl, fun j v hj hv => by
                by_cases e : j = k
                · subst e
                  rw [HX.out] at hv
                  injection hv with hv
                  rw [← hv]; exact HWF.out
                · exact HA.out j v (by omega) hv, NB.out, by first | exact BB.out | exact BB.out.drew, by first | exact SS.out | exact SS.out.drew⟩
              case measure => simp [intOf]; omega
          · subst e
            obtain ⟨ad', e1, hvu⟩ := (HR.out _ HB2.out).vn hu
            injection e1 with e1
            subst e1
            have hin : i < n := by omega
            have d1 : ((i : Int) == -1) = false := by rw [beq_eq_false_iff_ne]; omega
            by_cases hle : u.ts ≤ x.ts
            · have NB := Lib.hid (HBT.out.up_yes HX.out ho (.inr ⟨i, u, rfl, hu, hle⟩) (Nat.zero_le _))
              clear ho hu
              have KF := Lib.hid (fun (V : World) (h : Below w1.heap.size w1 V) => (⟨(VX.out.on h).c0, (VX.out.on h).c1, (VX.out.on h).c2, (VX.out.on h).c3, (SX2.out.on h).c1, (hvu.below h).d1⟩ : V.cell? ⟨q, 0, none⟩ = some (.int .i64 x.txn) ∧ V.cell? ⟨q, 1, none⟩ = some (.int .i64 x.ts) ∧ V.cell? ⟨q, 2, none⟩ = some (.bool x.gone) ∧ V.cell? ⟨q, 3, none⟩ = some (.string x.val) ∧ V.cell? ⟨w.heap.size, 1, none⟩ = some (.slice (some ad) n c) ∧ V.cell? ⟨(ad.add (i * 4)).block, (ad.add (i * 4)).off + 1, none⟩ = some (.int .i64 u.ts)))
              clear c0 c1 c2 c3
              refine wp_region_held (S := fun V => V.cell? ⟨q, 0, none⟩ = some (.int .i64 x.txn) ∧ V.cell? ⟨q, 1, none⟩ = some (.int .i64 x.ts) ∧ V.cell? ⟨q, 2, none⟩ = some (.bool x.gone) ∧ V.cell? ⟨q, 3, none⟩ = some (.string x.val) ∧ V.cell? ⟨w.heap.size, 1, none⟩ = some (.slice (some ad) n c) ∧ V.cell? ⟨(ad.add (i * 4)).block, (ad.add (i * 4)).off + 1, none⟩ = some (.int .i64 u.ts)) (by kernel_rfl) ?_
              change wpAnyH _ _ _ _ _ _ _ _ (World.drew w1)
              have HS := KF.out _ (Below.refl _ w1).drew
              refine takeH 0 24 (v := ?_) rfl rfl (by kernel_rfl) (by kernel_rfl) (by kernel_rfl) (fun _ _ _ h => h) HS (by rfl) ?_ ?_
              rotate_left
              · intro w' hSw
                obtain ⟨c0, c1, c2, c3, s1, cu⟩ := hSw
                go_simp
                try (with_reducible rfl)
              try simp only [Act.put, List.setIfInBounds_toArray, List.set_cons_zero, List.set_cons_succ]
              refine takeH 1 25 (v := ?_) rfl rfl (by kernel_rfl) (by kernel_rfl) (by kernel_rfl) (fun _ _ _ h => h) HS (by rfl) ?_ ?_
              rotate_left
              · intro w' hSw
                go_simp
                try (with_reducible rfl)
              try simp only [Act.put, List.setIfInBounds_toArray, List.set_cons_zero, List.set_cons_succ]
              refine wpAnyH_ready (rs := [2]) (by kernel_rfl) (by simp) ?_
              refine AllReadyH.cons rfl (fun K hK => ?_) AllReadyH.nil
              go_simp
              refine (K2.out _).mono ?_
              rintro e w2 ⟨rfl, b2⟩
              have B2 := Lib.hid ((Below.refl w1.heap.size w1).drew.trans b2)
              have HS2 := KF.out _ B2.out
              clear b2
              refine hK _ _ HS2 (fun _ => ?_)
              clear hK K
              try simp only [Act.put, List.setIfInBounds_toArray, List.set_cons_zero, List.set_cons_succ]
              refine takeH 3 27 (v := .bool true) rfl rfl (by kernel_rfl) (by kernel_rfl) (by kernel_rfl) (fun _ _ _ h => h) HS2 (by rfl) ?_ ?_
              · intro w' hSw
                go_simp
                try (with_reducible rfl)
              try simp only [Act.put, List.setIfInBounds_toArray, List.set_cons_zero, List.set_cons_succ]
              refine takeH 4 28 (v := ?_) rfl rfl (by kernel_rfl) (by kernel_rfl) (by kernel_rfl) (fun _ _ _ h => h) HS2 (by rfl) ?_ ?_
              rotate_left
              · intro w' hSw
                go_simp
                try (with_reducible rfl)
              try simp only [Act.put, List.setIfInBounds_toArray, List.set_cons_zero, List.set_cons_succ]
              refine takeH 5 29 (v := .bool false) rfl rfl (by kernel_rfl) (by kernel_rfl) (by kernel_rfl) (fun _ _ _ h => h) HS2 (by rfl) ?_ ?_
              · intro w' hSw
                go_simp
                try (first | with_reducible rfl | rw [d1])
              try simp only [Act.put, List.setIfInBounds_toArray, List.set_cons_zero, List.set_cons_succ]
              refine takeH 6 30 (v := .bool false) rfl rfl (by kernel_rfl) (by kernel_rfl) (by kernel_rfl) (fun _ _ _ h => h) HS2 (by rfl) ?_ ?_
              · intro w' hSw
                go_simp
                try (with_reducible rfl)
              try simp only [Act.put, List.setIfInBounds_toArray, List.set_cons_zero, List.set_cons_succ]
              refine takeH 7 31 (v := ?_) rfl rfl (by kernel_rfl) (by kernel_rfl) (by kernel_rfl) (fun _ _ _ h => h) HS2 (by rfl) ?_ ?_
              rotate_left
              · intro w' hSw
                obtain ⟨c0, c1, c2, c3, s1, cu⟩ := hSw
                go_simp
                try (with_reducible rfl)
              try simp only [Act.put, List.setIfInBounds_toArray, List.set_cons_zero, List.set_cons_succ]
              refine takeH 8 32 (v := ?_) rfl rfl (by kernel_rfl) (by kernel_rfl) (by kernel_rfl) (fun _ _ _ h => h) HS2 (by rfl) ?_ ?_
              rotate_left
              · intro w' hSw
                obtain ⟨c0, c1, c2, c3, s1, cu⟩ := hSw
                go_simp
                try (with_reducible rfl)
              try simp only [Act.put, List.setIfInBounds_toArray, List.set_cons_zero, List.set_cons_succ]
              refine takeH 9 33 (v := ?_) rfl rfl (by kernel_rfl) (by kernel_rfl) (by kernel_rfl) (fun _ _ _ h => h) HS2 (by rfl) ?_ ?_
              rotate_left
              · intro w' hSw
                obtain ⟨c0, c1, c2, c3, s1, cu⟩ := hSw
                go_simp
                try (with_reducible rfl)
              try simp only [Act.put, List.setIfInBounds_toArray, List.set_cons_zero, List.set_cons_succ]
              refine takeH 10 34 (v := ?_) rfl rfl (by kernel_rfl) (by kernel_rfl) (by kernel_rfl) (fun _ _ _ h => h) HS2 (by rfl) ?_ ?_
              rotate_left
              · intro w' hSw
                obtain ⟨c0, c1, c2, c3, s1, cu⟩ := hSw
                go_simp
                try (with_reducible rfl)
              try simp only [Act.put, List.setIfInBounds_toArray, List.set_cons_zero, List.set_cons_succ]
              refine takeH 11 35 (v := ?_) rfl rfl (by kernel_rfl) (by kernel_rfl) (by kernel_rfl) (fun _ _ _ h => h) HS2 (by rfl) ?_ ?_
              rotate_left
              · intro w' hSw
                obtain ⟨c0, c1, c2, c3, s1, cu⟩ := hSw
                go_simp
                try (with_reducible rfl)
              try simp only [Act.put, List.setIfInBounds_toArray, List.set_cons_zero, List.set_cons_succ]
              refine takeH 12 36 (v := ?_) rfl rfl (by kernel_rfl) (by kernel_rfl) (by kernel_rfl) (fun _ _ _ h => h) HS2 (by rfl) ?_ ?_
              rotate_left
              · intro w' hSw
                obtain ⟨c0, c1, c2, c3, s1, cu⟩ := hSw
                go_simp
                try (with_reducible rfl)
              try simp only [Act.put, List.setIfInBounds_toArray, List.set_cons_zero, List.set_cons_succ]
              refine takeH 13 37 (v := ?_) rfl rfl (by kernel_rfl) (by kernel_rfl) (by kernel_rfl) (fun _ _ _ h => h) HS2 (by rfl) ?_ ?_
              rotate_left
              · intro w' hSw
                obtain ⟨c0, c1, c2, c3, s1, cu⟩ := hSw
                go_simp
                try (with_reducible rfl)
              try simp only [Act.put, List.setIfInBounds_toArray, List.set_cons_zero, List.set_cons_succ]
              refine takeH 14 38 (v := ?_) rfl rfl (by kernel_rfl) (by kernel_rfl) (by kernel_rfl) (fun _ _ _ h => h) HS2 (by rfl) ?_ ?_
              rotate_left
              · intro w' hSw
                obtain ⟨c0, c1, c2, c3, s1, cu⟩ := hSw
                go_simp
                try (with_reducible rfl)
              try simp only [Act.put, List.setIfInBounds_toArray, List.set_cons_zero, List.set_cons_succ]
              refine takeH 15 39 (v := ?_) rfl rfl (by kernel_rfl) (by kernel_rfl) (by kernel_rfl) (fun _ _ _ h => h) HS2 (by rfl) ?_ ?_
              rotate_left
              · intro w' hSw
                obtain ⟨c0, c1, c2, c3, s1, cu⟩ := hSw
                go_simp
                try (with_reducible rfl)
              try simp only [Act.put, List.setIfInBounds_toArray, List.set_cons_zero, List.set_cons_succ]
              refine takeH 16 40 (v := ?_) rfl rfl (by kernel_rfl) (by kernel_rfl) (by kernel_rfl) (fun _ _ _ h => h) HS2 (by rfl) ?_ ?_
              rotate_left
              · intro w' hSw
                go_simp
                try (with_reducible rfl)
              try simp only [Act.put, List.setIfInBounds_toArray, List.set_cons_zero, List.set_cons_succ]
              refine takeH 17 41 (v := ?_) rfl rfl (by kernel_rfl) (by kernel_rfl) (by kernel_rfl) (fun _ _ _ h => h) HS2 (by rfl) ?_ ?_
              rotate_left
              · intro w' hSw
                go_simp
                try (with_reducible rfl)
              try simp only [Act.put, List.setIfInBounds_toArray, List.set_cons_zero, List.set_cons_succ]
              refine takeH 18 23 (v := ?_) rfl rfl (by kernel_rfl) (by kernel_rfl) (by kernel_rfl) (fun _ _ _ h => h) HS2 (by rfl) ?_ ?_
              rotate_left
              · intro w' hSw
                go_simp
                try (with_reducible rfl)
              try simp only [Act.put, List.setIfInBounds_toArray, List.set_cons_zero, List.set_cons_succ]
              refine wpAnyH_done (by kernel_rfl) ?_ _
              clear KF HS HS2
              all_goals
                have BB := Lib.hid (HB2.out.trans (B2.out.mono HB2.out.size))
                have SS := Lib.hid (SX2.out.on B2.out)
                go_wp2_with fail
                go_round
                case rel => exact ⟨k + 1, _, by omega, by go_num, rfl, fun j v hj hv => by
                  by_cases e : j = k
                  · subst e
                    rw [HX.out] at hv
                    injection hv with hv
                    rw [← hv]; exact HWF.out
                  · exact HA.out j v (by omega) hv, NB.out, by first | exact BB.out | exact BB.out.drew, by first | exact SS.out | exact SS.out.drew⟩
                case measure => simp [intOf]; omega
            · have NB := Lib.hid (HBT.out.up_no HX.out (.inr ⟨i, u, rfl, hu, by omega⟩))
              clear ho hu
              have KF := Lib.hid (fun (V : World) (h : Below w1.heap.size w1 V) => (⟨(VX.out.on h).c0, (VX.out.on h).c1, (VX.out.on h).c2, (VX.out.on h).c3, (SX2.out.on h).c1, (hvu.below h).d1⟩ : V.cell? ⟨q, 0, none⟩ = some (.int .i64 x.txn) ∧ V.cell? ⟨q, 1, none⟩ = some (.int .i64 x.ts) ∧ V.cell? ⟨q, 2, none⟩ = some (.bool x.gone) ∧ V.cell? ⟨q, 3, none⟩ = some (.string x.val) ∧ V.cell? ⟨w.heap.size, 1, none⟩ = some (.slice (some ad) n c) ∧ V.cell? ⟨(ad.add (i * 4)).block, (ad.add (i * 4)).off + 1, none⟩ = some (.int .i64 u.ts)))
              clear c0 c1 c2 c3
              refine wp_region_held (S := fun V => V.cell? ⟨q, 0, none⟩ = some (.int .i64 x.txn) ∧ V.cell? ⟨q, 1, none⟩ = some (.int .i64 x.ts) ∧ V.cell? ⟨q, 2, none⟩ = some (.bool x.gone) ∧ V.cell? ⟨q, 3, none⟩ = some (.string x.val) ∧ V.cell? ⟨w.heap.size, 1, none⟩ = some (.slice (some ad) n c) ∧ V.cell? ⟨(ad.add (i * 4)).block, (ad.add (i * 4)).off + 1, none⟩ = some (.int .i64 u.ts)) (by kernel_rfl) ?_
              change wpAnyH _ _ _ _ _ _ _ _ (World.drew w1)
              have HS := KF.out _ (Below.refl _ w1).drew
              refine takeH 0 24 (v := ?_) rfl rfl (by kernel_rfl) (by kernel_rfl) (by kernel_rfl) (fun _ _ _ h => h) HS (by rfl) ?_ ?_
              rotate_left
              · intro w' hSw
                obtain ⟨c0, c1, c2, c3, s1, cu⟩ := hSw
                go_simp
                try (with_reducible rfl)
              try simp only [Act.put, List.setIfInBounds_toArray, List.set_cons_zero, List.set_cons_succ]
              refine takeH 1 25 (v := ?_) rfl rfl (by kernel_rfl) (by kernel_rfl) (by kernel_rfl) (fun _ _ _ h => h) HS (by rfl) ?_ ?_
              rotate_left
              · intro w' hSw
                go_simp
                try (with_reducible rfl)
              try simp only [Act.put, List.setIfInBounds_toArray, List.set_cons_zero, List.set_cons_succ]
              refine wpAnyH_ready (rs := [2]) (by kernel_rfl) (by simp) ?_
              refine AllReadyH.cons rfl (fun K hK => ?_) AllReadyH.nil
              go_simp
              refine (K2.out _).mono ?_
              rintro e w2 ⟨rfl, b2⟩
              have B2 := Lib.hid ((Below.refl w1.heap.size w1).drew.trans b2)
              have HS2 := KF.out _ B2.out
              clear b2
              refine hK _ _ HS2 (fun _ => ?_)
              clear hK K
              try simp only [Act.put, List.setIfInBounds_toArray, List.set_cons_zero, List.set_cons_succ]
              refine takeH 3 27 (v := .bool true) rfl rfl (by kernel_rfl) (by kernel_rfl) (by kernel_rfl) (fun _ _ _ h => h) HS2 (by rfl) ?_ ?_
              · intro w' hSw
                go_simp
                try (with_reducible rfl)
              try simp only [Act.put, List.setIfInBounds_toArray, List.set_cons_zero, List.set_cons_succ]
              refine takeH 4 28 (v := ?_) rfl rfl (by kernel_rfl) (by kernel_rfl) (by kernel_rfl) (fun _ _ _ h => h) HS2 (by rfl) ?_ ?_
              rotate_left
              · intro w' hSw
                go_simp
                try (with_reducible rfl)
              try simp only [Act.put, List.setIfInBounds_toArray, List.set_cons_zero, List.set_cons_succ]
              refine takeH 5 29 (v := .bool false) rfl rfl (by kernel_rfl) (by kernel_rfl) (by kernel_rfl) (fun _ _ _ h => h) HS2 (by rfl) ?_ ?_
              · intro w' hSw
                go_simp
                try (first | with_reducible rfl | rw [d1])
              try simp only [Act.put, List.setIfInBounds_toArray, List.set_cons_zero, List.set_cons_succ]
              refine takeH 6 30 (v := .bool false) rfl rfl (by kernel_rfl) (by kernel_rfl) (by kernel_rfl) (fun _ _ _ h => h) HS2 (by rfl) ?_ ?_
              · intro w' hSw
                go_simp
                try (with_reducible rfl)
              try simp only [Act.put, List.setIfInBounds_toArray, List.set_cons_zero, List.set_cons_succ]
              refine takeH 7 31 (v := ?_) rfl rfl (by kernel_rfl) (by kernel_rfl) (by kernel_rfl) (fun _ _ _ h => h) HS2 (by rfl) ?_ ?_
              rotate_left
              · intro w' hSw
                obtain ⟨c0, c1, c2, c3, s1, cu⟩ := hSw
                go_simp
                try (with_reducible rfl)
              try simp only [Act.put, List.setIfInBounds_toArray, List.set_cons_zero, List.set_cons_succ]
              refine takeH 8 32 (v := ?_) rfl rfl (by kernel_rfl) (by kernel_rfl) (by kernel_rfl) (fun _ _ _ h => h) HS2 (by rfl) ?_ ?_
              rotate_left
              · intro w' hSw
                obtain ⟨c0, c1, c2, c3, s1, cu⟩ := hSw
                go_simp
                try (with_reducible rfl)
              try simp only [Act.put, List.setIfInBounds_toArray, List.set_cons_zero, List.set_cons_succ]
              refine takeH 9 33 (v := ?_) rfl rfl (by kernel_rfl) (by kernel_rfl) (by kernel_rfl) (fun _ _ _ h => h) HS2 (by rfl) ?_ ?_
              rotate_left
              · intro w' hSw
                obtain ⟨c0, c1, c2, c3, s1, cu⟩ := hSw
                go_simp
                try (with_reducible rfl)
              try simp only [Act.put, List.setIfInBounds_toArray, List.set_cons_zero, List.set_cons_succ]
              refine takeH 10 34 (v := ?_) rfl rfl (by kernel_rfl) (by kernel_rfl) (by kernel_rfl) (fun _ _ _ h => h) HS2 (by rfl) ?_ ?_
              rotate_left
              · intro w' hSw
                obtain ⟨c0, c1, c2, c3, s1, cu⟩ := hSw
                go_simp
                try (with_reducible rfl)
              try simp only [Act.put, List.setIfInBounds_toArray, List.set_cons_zero, List.set_cons_succ]
              refine takeH 11 35 (v := ?_) rfl rfl (by kernel_rfl) (by kernel_rfl) (by kernel_rfl) (fun _ _ _ h => h) HS2 (by rfl) ?_ ?_
              rotate_left
              · intro w' hSw
                obtain ⟨c0, c1, c2, c3, s1, cu⟩ := hSw
                go_simp
                try (with_reducible rfl)
              try simp only [Act.put, List.setIfInBounds_toArray, List.set_cons_zero, List.set_cons_succ]
              refine takeH 12 36 (v := ?_) rfl rfl (by kernel_rfl) (by kernel_rfl) (by kernel_rfl) (fun _ _ _ h => h) HS2 (by rfl) ?_ ?_
              rotate_left
              · intro w' hSw
                obtain ⟨c0, c1, c2, c3, s1, cu⟩ := hSw
                go_simp
                try (with_reducible rfl)
              try simp only [Act.put, List.setIfInBounds_toArray, List.set_cons_zero, List.set_cons_succ]
              refine takeH 13 37 (v := ?_) rfl rfl (by kernel_rfl) (by kernel_rfl) (by kernel_rfl) (fun _ _ _ h => h) HS2 (by rfl) ?_ ?_
              rotate_left
              · intro w' hSw
                obtain ⟨c0, c1, c2, c3, s1, cu⟩ := hSw
                go_simp
                try (with_reducible rfl)
              try simp only [Act.put, List.setIfInBounds_toArray, List.set_cons_zero, List.set_cons_succ]
              refine takeH 14 38 (v := ?_) rfl rfl (by kernel_rfl) (by kernel_rfl) (by kernel_rfl) (fun _ _ _ h => h) HS2 (by rfl) ?_ ?_
              rotate_left
              · intro w' hSw
                obtain ⟨c0, c1, c2, c3, s1, cu⟩ := hSw
                go_simp
                try (with_reducible rfl)
              try simp only [Act.put, List.setIfInBounds_toArray, List.set_cons_zero, List.set_cons_succ]
              refine takeH 15 39 (v := ?_) rfl rfl (by kernel_rfl) (by kernel_rfl) (by kernel_rfl) (fun _ _ _ h => h) HS2 (by rfl) ?_ ?_
              rotate_left
              · intro w' hSw
                obtain ⟨c0, c1, c2, c3, s1, cu⟩ := hSw
                go_simp
                try (with_reducible rfl)
              try simp only [Act.put, List.setIfInBounds_toArray, List.set_cons_zero, List.set_cons_succ]
              refine takeH 16 40 (v := ?_) rfl rfl (by kernel_rfl) (by kernel_rfl) (by kernel_rfl) (fun _ _ _ h => h) HS2 (by rfl) ?_ ?_
              rotate_left
              · intro w' hSw
                go_simp
                try (with_reducible rfl)
              try simp only [Act.put, List.setIfInBounds_toArray, List.set_cons_zero, List.set_cons_succ]
              refine takeH 17 41 (v := ?_) rfl rfl (by kernel_rfl) (by kernel_rfl) (by kernel_rfl) (fun _ _ _ h => h) HS2 (by rfl) ?_ ?_
              rotate_left
              · intro w' hSw
                go_simp
                try (with_reducible rfl)
              try simp only [Act.put, List.setIfInBounds_toArray, List.set_cons_zero, List.set_cons_succ]
              refine takeH 18 23 (v := ?_) rfl rfl (by kernel_rfl) (by kernel_rfl) (by kernel_rfl) (fun _ _ _ h => h) HS2 (by rfl) ?_ ?_
              rotate_left
              · intro w' hSw
                go_simp
                try (with_reducible rfl)
              try simp only [Act.put, List.setIfInBounds_toArray, List.set_cons_zero, List.set_cons_succ]
              refine wpAnyH_done (by kernel_rfl) ?_ _
              clear KF HS HS2
              all_goals
                have BB := Lib.hid (HB2.out.trans (B2.out.mono HB2.out.size))
                have SS := Lib.hid (SX2.out.on B2.out)
                go_wp2_with fail
                go_round
                case rel => exact ⟨k + 1, _, by omega, by go_num, rfl, fun j v hj hv => by
                  by_cases e : j = k
                  · subst e
                    rw [HX.out] at hv
                    injection hv with hv
                    rw [← hv]; exact HWF.out
                  · exact HA.out j v (by omega) hv, NB.out, by first | exact BB.out | exact BB.out.drew, by first | exact SS.out | exact SS.out.drew⟩
                case measure => simp [intOf]; omega
    · obtain rfl : k = n := by omega
      have e2 := HN.out b (by rw [HL.out]; exact hf) (by rw [HL.out]; exact hbest)
      have HB2 := Lib.hid hb
      clear hf hb hs hbest
      go_wp2
      rw [Exit.noGoto_ret]
      go_ret
      exact ⟨by first | rfl | (rw [e2]; rfl) | (rw [e2]), HB2.out⟩
end Go.Proofs.Ytjmmaghjbaigiaa
