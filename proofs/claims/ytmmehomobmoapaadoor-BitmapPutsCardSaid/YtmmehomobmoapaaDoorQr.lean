/- The document's Put. -/
import Derived.Test.YtmmehomobmoapaaDoorQo
namespace Go.Proofs.YtmmehomobmoapaaDoor
open Go.RowKit
set_option linter.unusedVariables false
set_option linter.unusedSimpArgs false
theorem runs_turn {s a n f : Nat} {L : List UInt64} {on : Bool} (hs : s ≤ 4096) (ha : a ≤ n) (hn : n < s) (hb : ∀ i, a ≤ i → i < n → bitL L i = on) (ht : bitL L n = !on) (hf : runM s L a on ≤ f) : ∃ f', runM s L n (!on) ≤ f' ∧ layR (runsF s L f a on) = putSmall (n - a) ++ layR (runsF s L f' n (!on)) ∧ (runsF s L f a on) = ⟨min (n - a) 4096, capN _⟩ :: runsF s L f' n (!on) := by
  have hlt : a < s := by omega
  have hE : seekR s L a (!on) = a + (n - a) := seekR_is hlt (by omega) (fun i h1 h2 => hb i h1 (by omega)) (fun _ => by rw [show a + (n - a) = n by omega]; exact ht)
  rw [show a + (n - a) = n by omega] at hE
  have hm := runM_step (L := L) (on := on) hlt
  rw [hE] at hm
  obtain ⟨f', rfl⟩ : ∃ f', f = f' + 1 := ⟨f - 1, by omega⟩
  have e : runsF s L (f' + 1) a on = ⟨min (n - a) 4096, capN _⟩ :: runsF s L f' n (!on) := by rw [runsF, if_pos hlt]; simp only [hE]
  refine ⟨f', by omega, ?_, e⟩
  rw [e]
  show putSmall (min (n - a) 4096) ++ layR (runsF s L f' n (!on)) = _
  rw [show min (n - a) 4096 = n - a by omega]
theorem runs_last {s a f : Nat} {L : List UInt64} {on : Bool} (hs : s ≤ 4096) (ha : a < s) (hb : ∀ i, a ≤ i → i < s → bitL L i = on) (hf : runM s L a on ≤ f) : layR (runsF s L f a on) = putSmall (s - a) := by
  have hE : seekR s L a (!on) = a + (s - a) := seekR_is ha (by omega) (fun i h1 h2 => hb i h1 (by omega)) (fun h => by omega)
  rw [show a + (s - a) = s by omega] at hE
  have hm := runM_step (L := L) (on := on) ha
  obtain ⟨f', rfl⟩ : ∃ f', f = f' + 1 := ⟨f - 1, by omega⟩
  have e2 : runsF s L f' s (!on) = [] := by
    cases f' with
    | zero => rfl
    | succ f' => rw [runsF, if_neg (Nat.lt_irrefl _)]
  have e : runsF s L (f' + 1) a on = ⟨min (s - a) 4096, capN _⟩ :: [] := by rw [runsF, if_pos ha]; simp only [hE, e2]
  rw [e]
  show putSmall (min (s - a) 4096) ++ [] = _
  rw [show min (s - a) 4096 = s - a by omega, List.append_nil]
theorem runs_over {s f : Nat} {L : List UInt64} {on : Bool} : runsF s L f s on = [] := by
  cases f with
  | zero => rfl
  | succ f => rw [runsF, if_neg (Nat.lt_irrefl _)]
theorem two_bools {a b : Bool} (h : ¬a = b) : (a = true ∧ b = false ∨ a = false ∧ b = true) ∧ a = !b := by cases a <;> cases b <;> simp_all
set_option maxHeartbeats 4000000 in
set_option maxRecDepth 100000 in
theorem refPut_any (s : Int) (A : Option Addr) (c : Nat) (L : List UInt64) (w : World) (hr : RQ w A L) : Calls Tryd.prog 32 #[.agg #[.int .i64 s, .slice A L.length c]] w fun e w' => ∃ v, e = .returned (.tuple #[v, .int .i64 (chk s L : Int)]) ∧ OB w.heap.size w' v (putB s L) ∧ Below w.heap.size w w' := by
  have HR := Lib.hid (fun W (hb : Below w.heap.size w W) => hr.below hb)
  have KC := fun W (hb : Below w.heap.size w W) => refCheck_any s A c L W (HR.out W hb)
  have BX := Lib.hid (fun W h => bx2 w (.int .i64 s) (.slice A L.length c) 24 (W := W) h)
  have B0 := Lib.hid ((Below.refl _ w).alloc (Nat.le_refl _) (.cells #[.int .i64 s, .slice A L.length c] 24))
  have HZ := Lib.hid (heap_size_alloc w (.cells #[.int .i64 s, .slice A L.length c] 24))
  obtain ⟨x0, x1⟩ := BX.out _ (Below.refl _ _)
  obtain ⟨N, hN⟩ : ∃ N, N = L.length := ⟨_, rfl⟩
  rcases chk_cases s L with ⟨h0, h1⟩ | ⟨h0, h1⟩
  · rw [h1] at KC ⊢
    have HP : Hid (putB s L = putSmall s.toNat ++ layR (runs s.toNat L)) := Lib.hid (by unfold putB; rw [if_pos h0])
    obtain ⟨m, rfl, hm, hl, hcl⟩ := okB_nat h0
    have KB := fun (j : Nat) W (hj : j < m) (hb : Below w.heap.size w W) => refBit_any (m : Int) A c L j W (by omega) (by omega) (HR.out W hb)
    have hcv : IntKind.u64.wrap (m : Int) = (m : Int) := by rw [IntKind.wrap_u64]; omega
    have KP := Lib.hid (fun (k : Nat) W (hk : k ≤ 4096) => refPutSmall_any k W (by omega))
    have HRL : Hid ((runs m L).length ≤ 2 * m + 1) := Lib.hid (runsF_len m L _ _ _)
    rw [Int.toNat_natCast] at HP
    rw [← hN] at x0 x1 B0 BX KC HZ KB ⊢
    have KC := Lib.hid KC
    have KB := Lib.hid KB
    have HPL := Lib.hid (putSmall_len m (by omega))
    clear h0 h1 hcl hl hr hN
    generalize putB (m : Int) L = R at *
    go_enter Tryd.func32, Tryd.ntmps32
    go_wp2_with fail
    generalize w.alloc (.cells #[.int .i64 (m : Int), .slice A N c] 24) = W0 at *
    refine (KC.out _ B0.out).mono ?_
    rintro e w1 ⟨rfl, b1⟩
    have B1 := Lib.hid (B0.out.trans (b1.mono B0.out.size))
    have V1 := Lib.hid b1
    clear x0 x1 b1
    obtain ⟨x0, x1⟩ := BX.out w1 V1.out
    go_wp2_with fail
    refine (KP.out m _ hm).mono ?_
    rintro e w2 ⟨v2, rfl, o2, b2⟩
    have B2 := Lib.hid (B1.out.trans (b2.mono B1.out.size))
    have V2 := Lib.hid (V1.out.trans (b2.mono V1.out.size))
    have hsz : w.heap.size + 1 ≤ W0.heap.size := Nat.le_of_eq HZ.out.symm
    have O2 := Lib.hid (o2.lift (Nat.le_trans hsz V1.out.size))
    clear x0 x1 b2 o2
    go_wp2
    go_loopw [5, 6, 7, 8] (fun o t q i wr => ∃ (n a f : Nat) (on : Bool) (dn : List (Fin 4097)), n ≤ m ∧ a ≤ n ∧ i = .int .i64 (n : Int) ∧ q = .int .i64 ((n - a : Nat) : Int) ∧ t = .bool on ∧ runs m L = dn ++ runsF m L f a on ∧ runM m L a on ≤ f ∧ (∀ j, a ≤ j → j < n → bitL L j = on) ∧ OB (w.heap.size + 1) wr o (putSmall m ++ layR dn) ∧ Below (w.heap.size + 1) W0 wr) (fun _ _ _ i _ => m - (RowKit.intOf i).toNat)
    case atStart => exact ⟨0, 0, 2 * m + 1, false, [], Nat.zero_le _, Nat.le_refl _, rfl, rfl, rfl, rfl, runM_start m L, fun j h1 h2 => by omega, by simpa [layR] using O2.out, V2.out.mono hsz⟩
    case round =>
      obtain ⟨n, a, f, on, dn, hn, ha, rfl, rfl, rfl, hru, hf, hbi, ho, hb⟩ := hrel
      have HRU := Lib.hid hru
      have HF := Lib.hid hf
      have HBI := Lib.hid hbi
      have OW := Lib.hid ho
      have HB := Lib.hid hb
      have BE := Lib.hid (B0.out.trans (hb.mono (Nat.le_succ _)))
      have hx : wr.cell? ⟨w.heap.size, 0, none⟩ = some (.int .i64 (m : Int)) ∧ wr.cell? ⟨w.heap.size, 1, none⟩ = some (.slice A N c) := BX.out wr (hb.mono (Nat.le_of_eq HZ.out))
      obtain ⟨x0, x1⟩ := hx
      have HDL : Hid (dn.length ≤ 8193) := Lib.hid (by have h := HRL.out; rw [hru, List.length_append] at h; omega)
      have hbase : w.heap.size + 1 ≤ wr.heap.size := Nat.le_trans hsz hb.size
      clear hru hf hbi ho hb
      by_cases hlt : n < m
      · have hlt' : (n : Int) < (m : Int) := by omega
        have K1 := KB.out n wr hlt BE.out
        obtain ⟨bv, hbv⟩ : ∃ bv, bv = bitL L n := ⟨_, rfl⟩
        rw [← hbv] at K1
        have K1 := Lib.hid K1
        by_cases hon : bv = on
        · subst hon
          have dd : (bv != bv) = false := by simp
          have HNX : Hid (∀ j, a ≤ j → j < n + 1 → bitL L j = bv) := Lib.hid (fun j h1 h2 => by
            by_cases e : j = n
            · subst e; exact hbv.symm
            · exact HBI.out j h1 (by omega))
          clear hbv
          go_wp2_with fail
          refine K1.out.mono ?_
          rintro e w5 ⟨rfl, b5⟩
          have HB5 := Lib.hid (HB.out.trans (b5.mono hbase))
          have OW5 := Lib.hid (OW.out.keep b5 (Nat.le_refl _))
          clear b5 x0 x1
          go_wp2
          go_roundw
          case rel => exact ⟨n + 1, a, f, bv, dn, by omega, by omega, by go_num, by rw [show n + 1 - a = (n - a) + 1 by omega]; go_num, rfl, HRU.out, HF.out, HNX.out, OW5.out, HB5.out⟩
          case measure => simp [RowKit.intOf]; omega
        · have hnb : bitL L n = !on := by
            rw [← hbv]
            exact (two_bools hon).2
          have hcase := (two_bools hon).1
          obtain ⟨f', g1, g2, g3⟩ := runs_turn hm ha hlt HBI.out hnb HF.out
          have G1 := Lib.hid g1
          have HRN : Hid (runs m L = (dn ++ [⟨min (n - a) 4096, capN _⟩]) ++ runsF m L f' n (!on)) := Lib.hid (by rw [HRU.out, g3]; simp)
          have HLY : Hid (layR (dn ++ [⟨min (n - a) 4096, capN _⟩]) = layR dn ++ putSmall (n - a)) := Lib.hid (by
            rw [layR_snoc]
            show layR dn ++ putSmall (min (n - a) 4096) = _
            rw [show min (n - a) 4096 = n - a by omega])
          have HNX : Hid (∀ j, n ≤ j → j < n + 1 → bitL L j = !on) := Lib.hid (fun j h1 h2 => by
            obtain rfl : j = n := by omega
            exact hnb)
          have hcw : IntKind.u64.wrap ((n - a : Nat) : Int) = ((n - a : Nat) : Int) := by rw [IntKind.wrap_u64]; omega
          have HBD : Hid ((putSmall m ++ layR dn).length + (putSmall (n - a)).length ≤ 70368744177664) := Lib.hid (by
            have h1 := HPL.out
            have h2 := layR_len dn
            have h3 := putSmall_len (n - a) (by omega)
            have h4 := HDL.out
            rw [List.length_append]
            omega)
          have hna : n - a ≤ 4096 := by omega
          have HNA := Lib.hid (show n + 1 - n = 1 from by omega)
          clear g1 g2 g3 hnb hbv hon
          generalize (⟨min (n - a) 4096, capN _⟩ : Fin 4097) = dq at *
          generalize n - a = rn at *
          rcases hcase with ⟨rfl, rfl⟩ | ⟨rfl, rfl⟩
          all_goals
            go_wp2_with fail
            refine K1.out.mono ?_
            rintro e w5 ⟨rfl, b5⟩
            have HB5 := Lib.hid (HB.out.trans (b5.mono hbase))
            have OW5 := Lib.hid (OW.out.keep b5 (Nat.le_refl _))
            have hb5 : w.heap.size + 1 ≤ w5.heap.size := Nat.le_trans hbase b5.size
            clear b5 x0 x1
            go_wp2_with fail
            refine (KP.out rn _ hna).mono ?_
            rintro e w6 ⟨v6, rfl, o6, b6⟩
            have HB6 := Lib.hid (HB5.out.trans (b6.mono hb5))
            have OW6 := Lib.hid (OW5.out.keep b6 (Nat.le_refl _))
            have hb6 : w.heap.size + 1 ≤ w6.heap.size := Nat.le_trans hb5 b6.size
            obtain ⟨A6, c6, rfl, _, r6⟩ := o6.form
            clear b6 o6
            go_wp2_with (at_builtin; refine wpList_append_B rfl (.tmp 29) (.tmp 32) rfl (w.heap.size + 1) _ (putSmall m ++ layR dn) rfl OW6.out _ _ _ (putSmall rn) rfl rfl r6 HBD.out hb6 ?_; intro v7 w7 o7 b7)
            go_roundw
            case rel => exact ⟨n + 1, n, f', _, dn ++ [dq], by omega, by omega, by go_num, by rw [HNA.out]; rfl, rfl, HRN.out, G1.out, HNX.out, by rw [HLY.out, ← List.append_assoc]; exact o7, HB6.out.trans b7⟩
            case measure => simp [RowKit.intOf]; omega
      · obtain rfl : n = m := by omega
        by_cases hz : a = n
        · have HE : Hid (R = putSmall n ++ layR dn) := Lib.hid (by rw [HP.out, HRU.out, hz, runs_over, List.append_nil])
          have h00 : n - a = 0 := by omega
          rw [h00]
          clear hz h00
          go_wp2
          go_ret2
          rw [HE.out]
          exact ⟨_, rfl, OW.out.lift (Nat.le_succ _), BE.out⟩
        · have HE : Hid (R = (putSmall n ++ layR dn) ++ putSmall (n - a)) := Lib.hid (by
            have h := runs_last hm (show a < n by omega) HBI.out HF.out
            rw [HP.out, HRU.out]
            unfold layR at h ⊢
            rw [List.flatMap_append, h, List.append_assoc])
          have hcw : IntKind.u64.wrap ((n - a : Nat) : Int) = ((n - a : Nat) : Int) := by rw [IntKind.wrap_u64]; omega
          have HBD : Hid ((putSmall n ++ layR dn).length + (putSmall (n - a)).length ≤ 70368744177664) := Lib.hid (by
            have h1 := HPL.out
            have h2 := layR_len dn
            have h3 := putSmall_len (n - a) (by omega)
            have h4 := HDL.out
            rw [List.length_append]
            omega)
          have hna : n - a ≤ 4096 := by omega
          have hpos : (0 : Int) < ((n - a : Nat) : Int) := by omega
          clear hz
          generalize n - a = rn at *
          go_wp2_with fail
          refine (KP.out rn _ hna).mono ?_
          rintro e w6 ⟨v6, rfl, o6, b6⟩
          have OW6 := Lib.hid (OW.out.keep b6 (Nat.le_refl _))
          have hb6 : w.heap.size + 1 ≤ w6.heap.size := Nat.le_trans hbase b6.size
          have B6 := Lib.hid (BE.out.trans (b6.mono BE.out.size))
          obtain ⟨A6, c6, rfl, _, r6⟩ := o6.form
          clear b6 o6
          go_wp2_with (at_builtin; refine wpList_append_B rfl (.tmp 40) (.tmp 43) rfl (w.heap.size + 1) _ (putSmall n ++ layR dn) rfl OW6.out _ _ _ (putSmall rn) rfl rfl r6 HBD.out hb6 ?_; intro v7 w7 o7 b7)
          go_ret2
          rw [HE.out]
          exact ⟨_, rfl, o7.lift (Nat.le_succ _), B6.out.trans (b7.mono (Nat.le_succ _))⟩
  · rw [h1] at KC ⊢
    have HP : Hid (putB s L = []) := Lib.hid (by unfold putB; rw [if_neg (by rw [h0]; simp)])
    rw [← hN] at x0 x1 B0 BX KC HZ ⊢
    have KC := Lib.hid KC
    generalize putB s L = R at *
    clear h0 h1 hr hN
    go_enter Tryd.func32, Tryd.ntmps32
    go_wp2_with fail
    refine (KC.out _ B0.out).mono ?_
    rintro e w1 ⟨rfl, b1⟩
    have B1 := Lib.hid (B0.out.trans (b1.mono B0.out.size))
    clear x0 x1 b1
    go_wp2
    go_ret2
    rw [HP.out]
    exact ⟨_, rfl, OB.nil, B1.out⟩
end Go.Proofs.YtmmehomobmoapaaDoor
