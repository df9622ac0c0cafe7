/- The package sector: Power. -/
import Derived.Test.YtochifbbefbehaaScO
import Derived.Deep.RegionHeld3
import Derived.Deep.RegionLaw
namespace Go.Proofs.Ytochifbbefbehaa
open Go.RowKit
set_option linter.unusedVariables false
theorem wpList_lookup_sec {ops : Array Oper} {rest : List Oper} {o : Oper} {a : Act} {w : World} {Q : Exit → Act → World → Prop} (hgd : o.guard = none) (m x : Operand) (ho : o.op = .lookup 50 m x false)
    (mb k N n : Nat) (f : Nat → Option (List UInt8)) (D : DataW Unit) (l : List UInt8) (hm : a.eval m = .map (some mb)) (hx : a.eval x = .int .i64 (k : Int)) (hk : k ≤ 4096) (hM : MapOpen w mb f N n D) (hf : f k = some l)
    (h : wpList Try.prog ops Q rest (a.put o.dst (secV l)) w) : wpList Try.prog ops Q (o :: rest) a w :=
  wpList_plain hgd fun K hK => by
    obtain ⟨v, ps, hrun, hv⟩ := hM.owns.lookup (t := 50) (e := 67) (Maps.int_keyed Try.underlying3) Try.underlying50 (Try.zeroValue67 w) zeroSec_read (Maps.keyOf_int_mk Try.underlying3 (WalkArith.wf_i64 (n := (k : Int)) ⟨by omega, by omega⟩))
    rw [hM.at_ k l hf] at hv
    obtain ⟨l', _, rfl, e⟩ := secR_inv hv
    obtain rfl : l = l' := by simpa using congrArg Prod.fst e
    unfold Oper.wp execOp
    simp only [ho, hm, hx, hrun, Sem.run_bind, Result.andThen_ok]
    exact hK _ _ h
set_option maxHeartbeats 2000000 in
set_option maxRecDepth 100000 in
theorem power_any {base : Nat} {F : Ft} {w : World} {s : Dk} (h : DkAt base F w s) (A : Option Addr) (m c : Nat) (l : List UInt8) (hl : l.length = m) (hc : m ≤ c) (hm : m ≤ maxLen) (hr : RB w A l) (hne : l ≠ [] → ∀ ad, A = some ad → ¬ F.has ad.block) :
    Calls Try.prog 13 #[.pointer (some ⟨F.b, 0, none⟩), .slice A m c] w fun e w' => e = .returned (.tuple #[]) ∧ DkAt base F w' (s.power l) ∧ Frm F.has w w' := by
  have FX := Frm.alloc F.has w (.cells #[.slice A m c] 32)
  have h1 := h.alloc (.cells #[.slice A m c] 32)
  have hbx : BoxF F.has (w.alloc (.cells #[.slice A m c] 32)) w.heap.size l := by
    refine ⟨A, c, (heap_alloc_last w _).trans (by rw [hl]), by omega, ?_⟩
    rcases hr with rfl | ⟨ad, rfl, hcl⟩
    · exact .inl rfl
    · by_cases hn : l = []
      · exact .inl hn
      · refine .inr ⟨ad, rfl, hne hn ad rfl, ?_, fun j x hj => (World.cell?_alloc_lt w _ _ (lt_of_cell (hcl j x hj))).trans (hcl j x hj)⟩
        have hp : 0 < l.length := by cases l with
          | nil => exact absurd rfl hn
          | cons => simp
        have := lt_of_cell (hcl 0 _ (List.getElem?_eq_getElem hp))
        rw [Addr.add_nought] at this
        omega
  have hq : Hid (l.length ≤ maxLen) := Lib.hid (by rw [hl]; exact hm)
  have hin := Lib.hid h.inside
  have BX := Lib.hid hbx
  have qs := Lib.hid (heap_size_alloc w (.cells #[.slice A m c] 32))
  have HO := Lib.hid h.ok
  clear h hr hne hl hbx hm hc
  go_enter Try.func13, Try.ntmps13
  go_wp2_with fail
  generalize w.alloc (.cells #[.slice A m c] 32) = W at *
  refine (waits_any h1).mono ?_
  rintro e w2 ⟨A2, c2, rfl, hrn, hA2, hb2⟩
  have h2 := Lib.hid (h1.below hb2)
  have f2 : Frm F.has w w2 := FX.trans (Frm.of_below hb2)
  have bx2 := Lib.hid (BX.out.keep (Y := fun _ => False) (Frm.of_below hb2) (fun h => h) (fun _ h => h.elim))
  have hwl : s.waits.length ≤ 4096 := Nat.le_trans (keysOf_length _ _) HO.out.many
  have RN2 := Lib.hid hrn
  have FX2 := Lib.hid f2
  clear h1 hrn f2 hb2 BX FX
  go_wp2
  go_loopw [14] (fun i wr => PowRel base F s l w A2 i wr) (fun i _ => s.waits.length - (RowKit.intOf i).toNat)
  case atStart =>
    exact ⟨0, s.rows, l, Nat.zero_le _, rfl, rfl, h2.out, bx2.out, RN2.out, FX2.out⟩
  case round =>
    obtain ⟨k, rows, fs, hk, rfl, hgo, hd, hbx, hrn, hf⟩ := hrel
    have hrl : rows.length = s.rows.length := by have := powerGo_length s.wt (s.waits.take k) (s.rows, l); rw [hgo] at this; exact this
    have hfl : fs.length ≤ maxLen := by have := powerGo_left s.wt (s.waits.take k) (s.rows, l); rw [hgo] at this; exact Nat.le_trans this hq.out
    by_cases hlt : k < s.waits.length
    · obtain ⟨n, hn⟩ : ∃ n, s.waits[k]? = some n := ⟨_, List.getElem?_eq_getElem hlt⟩
      obtain ⟨hnN, hnw⟩ := mem_keysOf.1 (List.mem_of_getElem? hn)
      obtain ⟨ln, hln⟩ := Option.isSome_iff_exists.1 hnw
      have hll := HO.out.wlen n ln hln
      rcases hrn with e | ⟨ad, rfl, hcl⟩
      · rw [e] at hlt; simp at hlt
      have hcell := hcl k n hn
      obtain ⟨nn, D, hM⟩ := hd.map.open_ hd.ok.wlt
      have d0 := hd.c0; have d1 := hd.c1
      have hgo2 := Lib.hid (show powerGo s.wt (s.waits.take (k + 1)) (s.rows, l) = (rows.set n (fate1 (rows.getD n []) ln fs).1, (fate1 (rows.getD n []) ln fs).2) from by
        rw [List.take_add_one, hn]
        show powerGo s.wt (s.waits.take k ++ [n]) _ = _
        rw [powerGo_snoc, hgo, hln]
        rfl)
      have HD := Lib.hid hd
      have HB := Lib.hid hbx
      have HC := Lib.hid hcl
      have HF := Lib.hid hf
      have HM := Lib.hid hM
      have HLN := Lib.hid hln
      have HLL := Lib.hid hll
      have HRL := Lib.hid hrl
      have HFL := Lib.hid hfl
      have kk : (k : Int) < (s.waits.length : Int) := by omega
      have k0 : 0 ≤ (k : Int) := by omega
      have hmany := HO.out.many
      clear hd hbx hcl hf hM hln hll hrl hgo hn hnw hfl
      go_wp2_with (first
        | (at_lookup; refine wpList_lookup_sec rfl (.tmp 21) (.tmp 22) rfl F.m n _ nn s.wt D ln rfl rfl (by omega) HM.out HLN.out ?_)
        | (refine wpList_store_new rfl 67 (.tmp 7) (.tmp 23) rfl Try.zeroCells67 (cellsB ln).toArray rfl rfl (infoSec_of HLL.out) (zeroSec_size HLL.out) (secCells_all ln) ?_)
        | fail)
      have kn := heap_alloc_last wr (.cells (cellsB ln).toArray 67)
      have h3 := HD.out.alloc (.cells (cellsB ln).toArray 67)
      have bx3 := HB.out.keep (Frm.alloc (fun _ => False) wr (.cells (cellsB ln).toArray 67)) (fun h => h) (fun _ h => h.elim)
      have f3 := HF.out.trans (Frm.alloc F.has wr (.cells (cellsB ln).toArray 67))
      have z3 := heap_size_alloc wr (.cells (cellsB ln).toArray 67)
      have cl3 : ∀ (j y : Nat), s.waits[j]? = some y → (wr.alloc (.cells (cellsB ln).toArray 67)).cell? (ad.add j) = some (.int .i64 (y : Int)) := fun j y hy => (World.cell?_alloc_lt wr _ _ (lt_of_cell (HC.out j y hy))).trans (HC.out j y hy)
      generalize wr.alloc (.cells (cellsB ln).toArray 67) = w3 at *
      refine (next_any bx3 HFL.out).mono ?_
      rintro e w4 ⟨rfl, bx4, g4⟩
      have hsw : w.heap.size < wr.heap.size := Nat.lt_of_lt_of_le (Array.getElem?_eq_some_iff.1 HB.out.choose_spec.choose_spec.1).1 (Nat.le_refl _)
      have hadb : ad.block ≠ w.heap.size := by have := hA2 ad rfl; have := qs.out; omega
      have nbf : ∀ i, F.has i → ¬ i = w.heap.size := fun i hi e => by have := hin.out i hi; omega
      have h4 := Lib.hid (h3.frm g4 nbf)
      have kn4 := Lib.hid ((g4.block _ (Array.getElem?_eq_some_iff.1 kn).1 (by omega)).trans kn)
      have f4 := Lib.hid (f3.step g4 (fun i hi hlt => by omega))
      have bx4 := Lib.hid bx4
      have cl4 : Hid (∀ (j y : Nat), s.waits[j]? = some y → w4.cell? (ad.add j) = some (.int .i64 (y : Int))) := Lib.hid fun j y hy => (g4.cell (lt_of_cell (cl3 j y hy)) (by rw [block_of_add]; exact hadb)).trans (cl3 j y hy)
      have d0 := h4.out.c0
      have hqb : Hid (w.heap.size < wr.heap.size) := Lib.hid hsw
      have hqi : Hid (∀ i, F.has i → i < wr.heap.size) := Lib.hid fun i hi => HD.out.inside i hi
      have hw34 : wr.heap.size < w4.heap.size := Nat.lt_of_lt_of_le (by omega) g4.size
      generalize wr.heap.size = q at *
      have hz0 : 0 ≤ ((tk fs).1.toNat : Int) := by omega
      have hz1 : ((tk fs).1.toNat : Int) < 256 := by have := (tk fs).1.toNat_lt; omega
      have hold : Hid (rows.set n (rows.getD n []) = rows) := Lib.hid set_getD_self
      clear kn h3 bx3 f3 z3 cl3 g4 nbf hadb hsw hcell d1 HD HB HC HF HM HLN bx2 h2 RN2 FX2
      by_cases e2 : (tk fs).1.toNat % 4 = 2
      · have E1 := Lib.hid (show fate1 (rows.getD n []) ln fs = (ln, (tk fs).2) from by unfold fate1; rw [if_pos e2])
        have t2 : ((((tk fs).1.toNat : Int) % 4) == 2) = true := by simp; omega
        rw [E1.out] at hgo2
        generalize ((tk fs).1.toNat : Int) = z at *
        generalize (tk fs).2 = fs2 at *
        obtain ⟨g, hA, hth, hra, h5, hg5⟩ := h4.out.drew.setRow (x := n) (l := ln) (show n < rows.length by have := HRL.out; omega) HLL.out
        rw [hA] at d0
        have nk : (n : Int) < (rows.length : Int) := by have := HRL.out; omega
        have n0 : 0 ≤ (n : Int) := by omega
        have H5 := Lib.hid h5
        have HT := Lib.hid hth
        have HG := Lib.hid hg5
        have Am := Lib.hid hA
        have hgi := hqi.out g (.inr (.inr ⟨_, hA, rfl⟩))
        have hgw := hin.out g (.inr (.inr ⟨_, hA, rfl⟩))
        generalize rows.length = NN at d0 nk
        clear e2 E1 h5 hth hra hg5 hA
        go_wp2
        refine wp_region_still_tail 7 (by kernel_rfl) (by kernel_rfl) ?_
        simp only [List.take_succ_cons, List.take_zero, List.drop_succ_cons, List.drop_zero]
        iterate 5 still_step
        refine wpStill_load_mid rfl 67 (.tmp 7) rfl q 0 rfl (cellsB ln) _ (range_of_heap kn4.out) Try.underlying67 rfl (infoSec_list HLL.out) ?_
        still_step
        refine wpStill_nil ?_
        refine wpList_store_mid rfl 67 (.tmp 35) (.tmp 34) rfl g (n * 256) (cellsB ln).toArray rfl rfl (by rw [List.size_toArray, length_cellsB, HLL.out]; exact HT.out) (infoSec_of HLL.out) (secCells_all ln) ?_
        have e5 : (cellsB ln).toArray.toList = cellsB ln := rfl
        rw [e5]
        clear e5 d0 nk n0
        generalize hw5 : World.setCells { w4 with drawn := w4.drawn + 1 } g (n * 256) (cellsB ln) = w5
        have hw5' : w4.drew.setCells g (n * 256) (cellsB ln) = w5 := hw5
        have HW5 := Lib.hid hw5'
        clear hw5 hw5'
        go_wp2
        have g5 : w4.drew.grownBy w5 (some g) := by rw [← HW5.out]; exact HG.out
        have f5 : Frm (fun i => i = g) w4 w5 := (Frm.drew _ _).trans (Frm.grown g5 fun i e => by injection e with e; exact e.symm)
        go_roundw
        case rel =>
          refine ⟨k + 1, rows.set n ln, fs2, by omega, by go_num, hgo2.out, ?_, bx4.out.keep f5 (by omega) (fun i hi => .inl (by subst hi; exact .inr (.inr ⟨_, Am.out, rfl⟩))), .inr ⟨ad, rfl, fun j y hy => (f5.cell (lt_of_cell (cl4.out j y hy)) ?_).trans (cl4.out j y hy)⟩, f4.out.trans (f5.mono fun i hi => by subst hi; exact .inr (.inr ⟨_, Am.out, rfl⟩))⟩
          · have h5 := H5.out
            rw [HW5.out] at h5
            exact h5
          · rw [block_of_add]
            have := hA2 ad rfl; have := qs.out; omega
        case measure => simp [RowKit.intOf]; omega
      · by_cases e3 : (tk fs).1.toNat % 4 = 3
        · have E1 := Lib.hid (show fate1 (rows.getD n []) ln fs = (ln.take (tk (tk fs).2).1.toNat ++ (rows.getD n []).drop (tk (tk fs).2).1.toNat, (tk (tk fs).2).2) from by unfold fate1; rw [if_neg e2, if_pos e3])
          have t2 : ((((tk fs).1.toNat : Int) % 4) == 2) = false := by simp; omega
          have t3 : ((((tk fs).1.toNat : Int) % 4) == 3) = true := by simp; omega
          rw [E1.out] at hgo2
          have tl : (tk fs).2.length ≤ maxLen := Nat.le_trans (tk_len fs) HFL.out
          generalize ((tk fs).1.toNat : Int) = z at *
          generalize (tk fs).2 = fs2 at *
          have y1 : (tk fs2).1.toNat ≤ 256 := by have := (tk fs2).1.toNat_lt; omega
          have HN := Lib.hid (show ∀ W, BoxF F.has W w.heap.size fs2 → Calls Try.prog 30 #[.pointer (some ⟨w.heap.size, 0, none⟩)] W fun e w' => e = .returned (.int .u8 ((tk fs2).1.toNat : Int)) ∧ BoxF F.has w' w.heap.size (tk fs2).2 ∧ Frm (fun i => i = w.heap.size) W w' from fun W hW => next_any hW tl)
          obtain ⟨g, hA, _, _, _, _⟩ := h4.out.drew.setRow (x := n) (l := ln) (show n < rows.length by have := HRL.out; omega) HLL.out
          rw [hA] at d0
          have nk : (n : Int) < (rows.length : Int) := by have := HRL.out; omega
          have n0 : 0 ≤ (n : Int) := by omega
          have nk' := Lib.hid (show n < rows.length by have := HRL.out; omega)
          have Am := Lib.hid hA
          have hgi := hqi.out g (.inr (.inr ⟨_, hA, rfl⟩))
          have hgw := hin.out g (.inr (.inr ⟨_, hA, rfl⟩))
          have y0 : 0 ≤ ((tk fs2).1.toNat : Int) := by omega
          have y2 : ((tk fs2).1.toNat : Int) ≤ 256 := by omega
          generalize (tk fs2).1.toNat = y at *
          generalize (tk fs2).2 = fs3 at *
          generalize hNN : rows.length = NN at d0 nk
          have nbf := Lib.hid (show ∀ i, F.has i → ¬ i = w.heap.size from fun i hi e => by have := hin.out i hi; omega)
          have bnb := Lib.hid (show F.b ≠ w.heap.size from fun e => nbf.out _ (.inl rfl) e)
          have HNN := Lib.hid hNN
          have hd4 := Lib.hid h4.out.drew
          have HAft := Lib.hid (show ∀ w5, Frm (fun i => i = w.heap.size) w4.drew w5 → Hid (DkAt base F w5 { s with rows := rows }) ∧ w5.cell? ⟨F.b, 0, none⟩ = some (.slice (some ⟨g, 0, none⟩) NN F.cap) ∧ Hid (w5.heap[q]? = some (.cells (cellsB ln).toArray 67 (0, 0))) from fun w5 g5 => by
            have h5 := hd4.out.frm g5 nbf.out
            have e5 := h5.c0
            rw [Am.out] at e5
            exact ⟨h5, by rw [← HNN.out]; exact e5, (g5.block q hw34 (by have := hqb.out; omega)).trans kn4.out⟩)
          have bx4d := Lib.hid (show BoxF F.has w4.drew w.heap.size fs2 from bx4.out)
          have HC6 := Lib.hid (show ∀ w6 r, DkAt base F w6 { s with rows := rows.set n r } → w6.cell? ⟨F.b, 0, none⟩ = some (.slice (some ⟨g, 0, none⟩) NN F.cap) from fun w6 r h6 => by
            have e6 := h6.c0
            rw [Am.out] at e6
            simp only [List.length_set] at e6
            rw [← HNN.out]
            exact e6)
          clear e2 e3 E1 tl hNN hA
          go_wp2
          go_region_held3 (fun W => W.cell? ⟨F.b, 0, none⟩ = some (.slice (some ⟨g, 0, none⟩) NN F.cap)) (first | exact d0 | assumption)
            (first
              | (go_at_call 30; refine (HN.out _ bx4d.out).mono ?_; rintro e w5 ⟨rfl, bx5, g5⟩; obtain ⟨H5, c5, kn5⟩ := HAft.out w5 g5)
              | (refine step_copy_sec rfl (.tmp 46) (.tmp 47) rfl H5.out n g q y _ _ ln nk'.out Am.out y1 HLL.out kn5.out rfl rfl ?_; intro w6 h6 g6; have c6 := HC6.out w6 _ h6)
              | fail)
          all_goals
            have f6 : Frm (fun i => i = g) w5 w6 := Frm.grown g6 fun i e => by injection e with e; exact e.symm
            have H6 := Lib.hid h6
            have hcl6 : ∀ (j y : Nat), s.waits[j]? = some y → w6.cell? (ad.add j) = some (.int .i64 (y : Int)) := fun j y hy => by
              have hb1 : (ad.add j).block ≠ w.heap.size := by rw [block_of_add]; have := hA2 ad rfl; have := qs.out; omega
              have hb2 : (ad.add j).block ≠ g := by rw [block_of_add]; have := hA2 ad rfl; have := qs.out; omega
              have c4 := cl4.out j y hy
              have c5' : w5.cell? (ad.add j) = some (.int .i64 (y : Int)) := (g5.cell (show (ad.add j).block < _ from lt_of_cell c4) hb1).trans c4
              exact (f6.cell (lt_of_cell c5') hb2).trans c5'
            have HCL6 := Lib.hid hcl6
            clear h6 hcl6 c5 c6
            go_wp2
            go_roundw
            case rel =>
              exact ⟨k + 1, _, fs3, by omega, by go_num, hgo2.out, H6.out, bx5.keep f6 (by omega) (fun i hi => .inl (by subst hi; exact .inr (.inr ⟨_, Am.out, rfl⟩))), .inr ⟨ad, rfl, HCL6.out⟩,
                ((f4.out.trans (Frm.drew _ _)).step g5 (fun i hi hlt => by omega)).trans (f6.mono fun i hi => by subst hi; exact .inr (.inr ⟨_, Am.out, rfl⟩))⟩
            case measure => simp [RowKit.intOf]; omega
        · have E1 := Lib.hid (show fate1 (rows.getD n []) ln fs = (rows.getD n [], (tk fs).2) from by unfold fate1; rw [if_neg e2, if_neg e3])
          have t2 : ((((tk fs).1.toNat : Int) % 4) == 2) = false := by simp; omega
          have t3 : ((((tk fs).1.toNat : Int) % 4) == 3) = false := by simp; omega
          rw [E1.out] at hgo2
          have hgo2 := hgo2.out
          rw [hold.out] at hgo2
          have hgo2 := Lib.hid hgo2
          generalize ((tk fs).1.toNat : Int) = z at *
          generalize (tk fs).2 = fs2 at *
          clear e2 e3 E1
          go_wp2
          go_roundw
          case rel => exact ⟨k + 1, rows, fs2, by omega, by go_num, hgo2.out, h4.out, bx4.out, .inr ⟨ad, rfl, cl4.out⟩, f4.out⟩
          case measure => simp [RowKit.intOf]; omega
    · obtain rfl : k = s.waits.length := by omega
      have hp := Lib.hid (show s.power l = { s with rows := rows, wt := fun _ => none, off := false, fset := false, left := 0, done := false } from by
        unfold Dk.power
        rw [List.take_length] at hgo
        rw [hgo])
      have d1 := hd.c1
      have HD := Lib.hid hd
      have HF := Lib.hid hf
      clear hd hbx hrn hf hgo hrl hfl
      go_wp2_with (with_reducible refine wpList_clear rfl (.tmp 53) rfl F.m s.wt rfl HD.out.map ?_; intro w5 hm5 hg5; have f5 : Frm (fun i => i = F.m) wr w5 := Frm.grown hg5 (fun i e => by injection e with e; exact e.symm); have h5 := HD.out.cleared hm5 f5; have j3 := h5.c3; have j4 := h5.c4; have j5 := h5.c5; have j6 := h5.c6; have i3 := h5.frozenAt 3; have i4 := h5.frozenAt 4; have i5 := h5.frozenAt 5; have i6 := h5.frozenAt 6; have H5 := Lib.hid h5; have F5 := Lib.hid f5; clear h5 f5 hm5 hg5)
      go_end0
      refine ⟨rfl, ?_, HF.out.trans ((F5.out.mono fun i hi => .inr (.inl hi)).trans ((Frm.setCell _ _ _ (.inl rfl)).trans ((Frm.setCell _ _ _ (.inl rfl)).trans ((Frm.setCell _ _ _ (.inl rfl)).trans (Frm.setCell _ _ _ (.inl rfl))))))⟩
      rw [hp.out]
      exact (H5.out.field (s' := { s with rows := rows, wt := fun _ => none, off := false }) 3 (.bool false) rfl rfl (by simp [dkCells]) H5.out.ok.left).fail false 0 false (by omega)
end Go.Proofs.Ytochifbbefbehaa
