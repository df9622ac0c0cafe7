/- Joined: StJ StT. -/
import Derived.Test.YtegjeijiekggdaaGreatDoorM35
import Derived.Test.YtegjeijiekggdaaGreatDoorM09
import Derived.Test.YtegjeijiekggdaaGreatDoorM08
import Derived.Test.YtegjeijiekggdaaGreatDoorM25
import Derived.Test.YtegjeijiekggdaaGreatDoorM22
section
/- The package store: Format, Fork, Read, Write. -/
namespace Go.Proofs.YtegjeijiekggdaaGreatDoor
open Go.RowKit
set_option linter.unusedVariables false
set_option linter.unusedSimpArgs false
theorem seenP_le (L : List (List UInt8)) : seenP L ≤ 1099511627776 := by
  have go : ∀ (L : List (List UInt8)) n, n ≤ 1099511627776 → L.foldl seen1 n ≤ 1099511627776 := by
    intro L
    induction L with
    | nil => intro n h; exact h
    | cons b L ih => intro n h; exact ih _ (seen1_le n b h)
  exact go L 0 (by omega)
theorem Dk.seen2_le (d : Dk) : d.seen2 ≤ 1099511627776 := by
  have := seenP_le (d.secs 0)
  have := seenP_le (d.secs 1)
  unfold Dk.seen2
  omega
/-- What Format answers. -/
def FmPost (base : Nat) (F : Ft) (w : World) (R : Dk × Option Sto × Nat) (e : Ending) (w' : World) : Prop :=
  DkAt base F w' R.1 ∧ Frm F.has w w' ∧ (R.2.1 = none → e = .returned (.tuple #[.pointer none, .int .i64 (R.2.2 : Int)])) ∧ (∀ t, R.2.1 = some t → ∃ P, e = .returned (.tuple #[.pointer (some ⟨P.G, 0, none⟩), .int .i64 0]) ∧ StAt w.heap.size F w' P t)
theorem FmPost.no {base : Nat} {F : Ft} {w w' : World} {d : Dk} {er : Nat} {z : Int} (h : DkAt base F w' d) (hf : Frm F.has w w') (hz : z = (er : Int)) : FmPost base F w (d, none, er) (.returned (.tuple #[.pointer none, .int .i64 z])) w' := by
  subst hz; exact ⟨h, hf, fun _ => rfl, fun t e => (by cases e)⟩
set_option maxHeartbeats 2000000 in
set_option maxRecDepth 100000 in
theorem format_any {base : Nat} {F : Ft} {w : World} {d : Dk} (h : DkAt base F w d) (hcalls : d.calls < 4611686018427380000) (log : Int) (hlo : -9223372036854775808 ≤ log) (hhi : log ≤ 9223372036854775807) :
    Calls Tryz.prog 15 #[.pointer (some ⟨F.b, 0, none⟩), .int .i64 log] w (FmPost base F w (formatP d log)) := by
  have KF := Lib.hid (faultOf_any h)
  have H := Lib.hid h
  have HFO : Hid (formatP d log = if d.off = true then (d, none, 8)
    else if log < 0 ∨ areaP d.rows.length log.toNat = false then (d, none, 2)
    else if 1099511627776 < d.seen2 + 1 then (d, none, 9)
    else if (d.putSlot 0 (d.seen2 + 1) (Sto.new d.rows.length log.toNat (d.seen2 + 1)).lay).2 ≠ 0 then ((d.putSlot 0 (d.seen2 + 1) (Sto.new d.rows.length log.toNat (d.seen2 + 1)).lay).1, none, (d.putSlot 0 (d.seen2 + 1) (Sto.new d.rows.length log.toNat (d.seen2 + 1)).lay).2)
    else ((d.putSlot 0 (d.seen2 + 1) (Sto.new d.rows.length log.toNat (d.seen2 + 1)).lay).1, some (Sto.new d.rows.length log.toNat (d.seen2 + 1)), 0)) := rfl
  cases ho : d.off with
  | true =>
    rw [ho] at KF
    have HF := Lib.hid (show formatP d log = (d, none, 8) from HFO.out.trans (if_pos ho))
    clear h ho HFO
    go_enter Tryz.func15, Tryz.ntmps15
    go_wp2_with (go_at_call 53; refine KF.out.mono ?_; rintro e w1 ⟨rfl, rfl⟩)
    go_ret2
    rw [HF.out]
    exact FmPost.no H.out (Frm.refl _ _) rfl
  | false =>
    rw [ho] at KF
    have HF0 := HFO.out
    rw [if_neg (show ¬ d.off = true by rw [ho]; simp)] at HF0
    replace HF0 := Lib.hid HF0
    by_cases ha : log < 0 ∨ areaP d.rows.length log.toNat = false
    · have KA := Lib.hid (areaOf_no h log ha hlo hhi)
      have HF := Lib.hid (show formatP d log = (d, none, 2) from HF0.out.trans (if_pos ha))
      clear h ho HFO ha HF0
      go_enter Tryz.func15, Tryz.ntmps15
      go_wp2_with (first | (go_at_call 53; refine KF.out.mono ?_; rintro e w1 ⟨rfl, rfl⟩) | (go_at_call 56; refine KA.out.mono ?_; rintro e w2 ⟨x, y, rfl, b2⟩) | fail)
      have B2 := Lib.hid (bAlloc' b2 (.cells #[.int .i64 x, .int .i64 y] 105))
      clear b2
      go_ret2
      rw [HF.out]
      exact FmPost.no (H.out.below B2.out) (Frm.of_below B2.out) rfl
    · have hl0 : ¬ log < 0 := fun hh => ha (.inl hh)
      obtain ⟨k, rfl⟩ := Int.eq_ofNat_of_zero_le (show 0 ≤ log by omega)
      rw [if_neg ha, Int.toNat_natCast] at HF0
      have hak : areaP d.rows.length k = true := by
        cases hx : areaP d.rows.length k with
        | true => rfl
        | false => exact absurd (.inr (by rw [Int.toNat_natCast]; exact hx)) ha
      obtain ⟨q1, q2, q3, q4⟩ := cntP_ge hak
      have KA := Lib.hid (areaOf_yes h k hak)
      have KS := Lib.hid (fun W (hb : Below w.heap.size w W) => stSeen_any (h.below hb))
      have hsl := d.seen2_le
      have HNEW : Hid (Sto.new d.rows.length k (d.seen2 + 1) = ⟨k, cntP d.rows.length k, 0, d.seen2 + 1, newL (cntP d.rows.length k : Nat), [], newL (cntP d.rows.length k : Nat), false⟩) := rfl
      generalize d.seen2 = sn at *
      generalize hcp : cntP d.rows.length k = cp at *
      have hq0 : 4 ≤ cp ∧ cp ≤ 512 ∧ k ≤ 256 := ⟨q1, q2, q4⟩
      clear h ho HFO ha hcp q1 q2 q3 hak
      go_enter Tryz.func15, Tryz.ntmps15
      go_wp2_with (first | (go_at_call 53; refine KF.out.mono ?_; rintro e w1 ⟨rfl, rfl⟩) | (go_at_call 56; refine KA.out.mono ?_; rintro e w2 ⟨rfl, b2⟩) | fail)
      have X2 := heap_alloc_last w2 (.cells #[.int .i64 (8 + (k : Int)), .int .i64 (cp : Int)] 105)
      have z2 := heap_size_alloc w2 (.cells #[.int .i64 (8 + (k : Int)), .int .i64 (cp : Int)] 105)
      have B2 := Lib.hid (bAlloc' b2 (.cells #[.int .i64 (8 + (k : Int)), .int .i64 (cp : Int)] 105))
      have KS2 := KS.out _ B2.out
      have hg2 := b2.size
      clear b2 KA KF
      generalize w2.alloc (.cells #[.int .i64 (8 + (k : Int)), .int .i64 (cp : Int)] 105) = V2 at *
      refine KS2.mono ?_
      rintro e w3 ⟨rfl, b3⟩
      have B3 := Lib.hid (B2.out.trans (b3.mono B2.out.size))
      have X3 := (b3.block w2.heap.size (by omega)).trans X2
      have y0 : w3.cell? ⟨w2.heap.size, 0, none⟩ = some (.int .i64 (8 + (k : Int))) := (cell_of_row _ _ 0 _ _ _ X3).trans rfl
      have y1 : w3.cell? ⟨w2.heap.size, 1, none⟩ = some (.int .i64 (cp : Int)) := (cell_of_row _ _ 1 _ _ _ X3).trans rfl
      have X3 := Lib.hid X3
      have KN := fun W => qNew_any (cp : Int) W
      have hok : newOk (cp : Int) = true := decide_eq_true (by omega)
      have e1 : newS (cp : Int) = (cp : Int) := if_pos hok
      have e3 : newE (cp : Int) = 0 := if_pos hok
      have e2 : (newL (cp : Int)).length = (cp + 63) / 64 := by unfold newL; rw [if_pos hok, List.length_replicate, Int.toNat_natCast]
      rw [e1, e3] at KN
      have HE2 := Lib.hid e2
      have KN := Lib.hid KN
      clear b3 KS KS2 X2 hok e1 e3 e2
      by_cases hbig : 1099511627776 < sn + 1
      · have hd : decide ((1099511627776 : Int) < (sn : Int) + 1) = true := decide_eq_true (by omega)
        have HF := Lib.hid (show formatP d (k : Int) = (d, none, 9) from HF0.trans (if_pos hbig))
        clear HF0 hbig
        go_wp2
        go_ret2
        rw [HF.out]
        exact FmPost.no (H.out.below B3.out) (Frm.of_below B3.out) rfl
      · have hd : decide ((1099511627776 : Int) < (sn : Int) + 1) = false := decide_eq_false (by omega)
        rw [if_neg hbig] at HF0
        replace HF0 := Lib.hid HF0
        go_wp2_with fail
        refine (KN.out _).mono ?_
        rintro e w4 ⟨v4, rfl, o4, b4⟩
        obtain ⟨A4, c4, rfl, hc4, r4⟩ := o4.form
        rw [HE2.out] at hc4 ⊢
        have HL4 := Lib.hid HE2.out
        have O4 := Lib.hid o4
        rw [HE2.out] at O4
        have B4 := Lib.hid (B3.out.trans (b4.mono B3.out.size))
        have hx2 := (Array.getElem?_eq_some_iff.1 X3.out).1
        have X4 := (b4.block _ hx2).trans X3.out
        have X5 := heap_alloc_last w4 (.cells #[.int .i64 (cp : Int), .slice A4 ((cp + 63) / 64) c4] 64)
        have z5 := heap_size_alloc w4 (.cells #[.int .i64 (cp : Int), .slice A4 ((cp + 63) / 64) c4] 64)
        have B5 := Lib.hid (bAlloc' B4.out (.cells #[.int .i64 (cp : Int), .slice A4 ((cp + 63) / 64) c4] 64))
        have x4 := (Array.getElem?_eq_some_iff.1 X4).1
        have X6 := (Below.heap_alloc w4 (.cells #[.int .i64 (cp : Int), .slice A4 ((cp + 63) / 64) c4] 64) w2.heap.size x4).trans X4
        have u0 : (w4.alloc (.cells #[.int .i64 (cp : Int), .slice A4 ((cp + 63) / 64) c4] 64)).cell? ⟨w2.heap.size, 0, none⟩ = some (.int .i64 (8 + (k : Int))) := (cell_of_row _ _ 0 _ _ _ X6).trans rfl
        have u1 : (w4.alloc (.cells #[.int .i64 (cp : Int), .slice A4 ((cp + 63) / 64) c4] 64)).cell? ⟨w2.heap.size, 1, none⟩ = some (.int .i64 (cp : Int)) := (cell_of_row _ _ 1 _ _ _ X6).trans rfl
        have t0 : (w4.alloc (.cells #[.int .i64 (cp : Int), .slice A4 ((cp + 63) / 64) c4] 64)).cell? ⟨w4.heap.size, 0, none⟩ = some (.int .i64 (cp : Int)) := (cell_of_row _ _ 0 _ _ _ X5).trans rfl
        have t1 : (w4.alloc (.cells #[.int .i64 (cp : Int), .slice A4 ((cp + 63) / 64) c4] 64)).cell? ⟨w4.heap.size, 1, none⟩ = some (.slice A4 ((cp + 63) / 64) c4) := (cell_of_row _ _ 1 _ _ _ X5).trans rfl
        clear b4 r4 o4 X4 X5 X6 y0 y1
        go_wp2_with fail
        have z6 := heap_size_alloc w4 (.cells #[.int .i64 (cp : Int), .slice A4 ((cp + 63) / 64) c4] 64)
        have HIN := Lib.hid (show ∀ k, F.has k → k < w.heap.size from H.out.inside)
        have ST : Hid (StAt w.heap.size F ((w4.alloc (.cells #[.int .i64 (cp : Int), .slice A4 ((cp + 63) / 64) c4] 64)).alloc (.cells #[.pointer (some ⟨F.b, 0, none⟩), .int .i64 (k : Int), .int .i64 (8 + (k : Int)), .int .i64 (cp : Int), .int .i64 0, .int .i64 ((sn : Int) + 1), .int .i64 (cp : Int), .slice A4 ((cp + 63) / 64) c4, .slice none 0 0, .int .i64 (cp : Int), .slice A4 ((cp + 63) / 64) c4, .bool false] 109)) ⟨w4.heap.size + 1, A4, c4, none, 0, A4, c4⟩ ⟨k, cp, 0, sn + 1, newL (cp : Int), [], newL (cp : Int), false⟩) := Lib.hid (by
          have h4 := B4.out.size
          have hq : RQ ((w4.alloc (.cells #[.int .i64 (cp : Int), .slice A4 ((cp + 63) / 64) c4] 64)).alloc (.cells #[.pointer (some ⟨F.b, 0, none⟩), .int .i64 (k : Int), .int .i64 (8 + (k : Int)), .int .i64 (cp : Int), .int .i64 0, .int .i64 ((sn : Int) + 1), .int .i64 (cp : Int), .slice A4 ((cp + 63) / 64) c4, .slice none 0 0, .int .i64 (cp : Int), .slice A4 ((cp + 63) / 64) c4, .bool false] 109)) A4 (newL (cp : Int)) := (O4.out.reads.alloc _).alloc _
          have hn : ∀ ad, A4 = some ad → newL (cp : Int) ≠ [] → ¬ Wr F (w4.heap.size + 1) ad.block := fun ad e _ hx => by
            have h1 := O4.out.at_base.1 ad e
            have h2 := O4.out.lt' ad e
            have h3 := B3.out.size
            rcases hx with hx | hx
            · have := HIN.out _ hx; omega
            · omega
          refine ⟨Nat.le_trans h4 (Nat.le_succ _), fun hx => absurd (HIN.out _ hx) (Nat.not_lt.2 (Nat.le_trans h4 (Nat.le_succ _))), ?_, hq, RB.nil, hq, by rw [HL4.out]; exact hc4, Nat.le_refl _, by rw [HL4.out]; exact hc4, hn, fun ad e _ => (by cases e), hn⟩
          have := heap_alloc_last (w4.alloc (.cells #[.int .i64 (cp : Int), .slice A4 ((cp + 63) / 64) c4] 64)) (.cells #[.pointer (some ⟨F.b, 0, none⟩), .int .i64 (k : Int), .int .i64 (8 + (k : Int)), .int .i64 (cp : Int), .int .i64 0, .int .i64 ((sn : Int) + 1), .int .i64 (cp : Int), .slice A4 ((cp + 63) / 64) c4, .slice none 0 0, .int .i64 (cp : Int), .slice A4 ((cp + 63) / 64) c4, .bool false] 109)
          rw [z6] at this
          refine this.trans ?_
          unfold stCells
          rw [HL4.out]
          rfl)
        have BW := Lib.hid (show Below w.heap.size w ((w4.alloc (.cells #[.int .i64 (cp : Int), .slice A4 ((cp + 63) / 64) c4] 64)).alloc (.cells #[.pointer (some ⟨F.b, 0, none⟩), .int .i64 (k : Int), .int .i64 (8 + (k : Int)), .int .i64 (cp : Int), .int .i64 0, .int .i64 ((sn : Int) + 1), .int .i64 (cp : Int), .slice A4 ((cp + 63) / 64) c4, .slice none 0 0, .int .i64 (cp : Int), .slice A4 ((cp + 63) / 64) c4, .bool false] 109)) from bAlloc' B5.out _)
        have KP := Lib.hid (stPut_any (H.out.below BW.out) (ST.out.lower (Nat.le_of_lt (Nat.lt_of_le_of_lt H.out.bb H.out.blt))) (by omega) hq0.2.2 hq0.2.1 0 (by omega) (sn + 1) (by omega) (by omega) (cp : Int) A4 c4 (newL (cp : Int)) none 0 0 [] ST.out.rc (by rw [HL4.out]; omega) rfl (by omega) RB.nil)
        rw [HL4.out] at KP
        have KP : Hid (Calls Tryz.prog 59 #[.pointer (some ⟨w4.heap.size + 1, 0, none⟩), .agg #[.int .i64 0, .int .i64 ((sn : Int) + 1), .int .i64 (cp : Int), .slice A4 ((cp + 63) / 64) c4, .slice none 0 0]] _ fun e w' => e = .returned (.int .i64 ((d.putSlot 0 (sn + 1) (layP k cp (newL (cp : Int)) [])).2 : Int)) ∧ DkAt base F w' (d.putSlot 0 (sn + 1) (layP k cp (newL (cp : Int)) [])).1 ∧ Frm F.has _ w') := KP
        have HLAY : Hid ((Sto.new d.rows.length k (sn + 1)).lay = layP k cp (newL (cp : Int)) []) := Lib.hid (by rw [HNEW.out]; rfl)
        rw [HLAY.out] at HF0
        rw [HNEW.out] at HF0
        generalize layP k cp (newL (cp : Int)) [] = lay at *
        refine KP.out.mono ?_
        rintro e w6 ⟨rfl, d6, f6⟩
        have D6 := Lib.hid d6
        have F6 := Lib.hid (Frm.trans (Frm.of_below BW.out) f6)
        have S6 := Lib.hid (ST.out.disk f6)
        clear d6 f6 KP u0 u1 t0 t1
        by_cases h0 : (d.putSlot 0 (sn + 1) lay).2 = 0
        · rw [h0]
          have HF := Lib.hid (HF0.out.trans (if_neg (by rw [h0]; simp)))
          clear h0 HF0
          go_wp2
          go_ret2
          rw [HF.out]
          exact ⟨D6.out, F6.out, fun e => (by cases e), fun t e => by injection e with e; subst e; exact ⟨_, rfl, S6.out⟩⟩
        · have HF := Lib.hid (HF0.out.trans (if_pos h0))
          have hb : (((d.putSlot 0 (sn + 1) lay).2 : Int) != 0) = true := by rw [bne_iff_ne]; omega
          generalize (d.putSlot 0 (sn + 1) lay).2 = er at *
          generalize (d.putSlot 0 (sn + 1) lay).1 = dd at *
          clear h0 HF0
          go_wp2
          go_ret2
          rw [HF.out]
          exact FmPost.no D6.out F6.out rfl
theorem format_nil (log : Int) (w : World) : Calls Tryz.prog 15 #[.pointer none, .int .i64 log] w fun e w' => e = .returned (.tuple #[.pointer none, .int .i64 1]) ∧ w = w' := by
  go_enter Tryz.func15, Tryz.ntmps15
  go_wp2_with (go_at_call 53; refine (faultOf_nil _).mono ?_; rintro e w1 ⟨rfl, rfl⟩)
  go_ret2
  exact ⟨rfl, rfl⟩
end Go.Proofs.YtegjeijiekggdaaGreatDoor
end
section
/- The package store, plain: a disk on which nothing fails; what is given out, and taken back. -/
namespace Go.Proofs.YtegjeijiekggdaaGreatDoor
open Go.RowKit
set_option linter.unusedVariables false
theorem seen_all {g : Nat} : ∀ (L : List (List UInt8)) (n : Nat), (∀ b ∈ L, ∀ n, seen1 n b ≤ max n g) → L.foldl seen1 n ≤ max n g
  | [], n, _ => by simp; omega
  | b :: L, n, h => by
    have h1 := h b (.head _) n
    have h2 := seen_all L (seen1 n b) (fun c hc => h c (.tail _ hc))
    simp only [List.foldl_cons]
    omega
theorem seenP_put {g : Nat} {b : List UInt8} (hg : g ≤ 1099511627776) (hb : b.length ≤ 954) : seenP (putL g b) ≤ g := by
  have := seen_all (g := g) (putL g b) 0 (fun c hc n => by
    obtain ⟨i, hi, rfl⟩ := mem_putL hc hb
    have hp := partOf_len (allOf_len hb) hi
    unfold seen1
    rw [sec_take, sec_drop hp, genOf_st hg, if_pos (sec_len hp)]
    omega)
  unfold seenP
  omega
theorem put_each {g : Nat} {b : List UInt8} (hb : b.length ≤ 954) : ∀ k, k < 4 → ((putL g b).getD k []).length = 256 := fun k hk => by
  rw [List.getD_eq_getElem?_getD, putL_at g b hk]
  exact sec_len (partOf_len (allOf_len hb) hk)
theorem Good.sw {s : Dk} {N x : Nat} {L : List (List UInt8)} (h : Good s N) (hL : ∀ k, k < 4 → (L.getD k []).length = 256) (hx : x + 4 ≤ N) : ∀ k, k ≤ 4 → Good (s.sw x L k).1 N ∧ (s.sw x L k).2 = 0 ∧ ∀ i, i < N → (s.sw x L k).1.at_ i = if x ≤ i ∧ i < x + k then L.getD (i - x) [] else s.at_ i
  | 0, _ => ⟨h, rfl, fun i _ => by rw [if_neg (by omega)]; rfl⟩
  | k + 1, hk => by
    obtain ⟨g1, g2, g3⟩ := Good.sw h hL hx k (by omega)
    have hw := g1.write (n := x + k) (by omega) (hL k (by omega))
    have e : s.sw x L (k + 1) = ((s.sw x L k).1.write ((x + k : Nat) : Int) (L.getD k []), (s.sw x L k).1.writeErr ((x + k : Nat) : Int) (L.getD k [])) := by
      show (if (s.sw x L k).2 = 0 then _ else _) = _
      rw [if_pos g2]
    rw [e]
    refine ⟨(g1.ofWrite _ (hL k (by omega))).1, hw.2, fun i hi => ?_⟩
    show (Dk.write _ _ _).at_ i = _
    rw [hw.1, put_at]
    by_cases e1 : i = x + k
    · subst e1; rw [if_pos rfl, if_pos (by omega), Nat.add_sub_cancel_left]
    · rw [if_neg e1]
      show (s.sw x L k).1.at_ i = _
      rw [g3 i hi]
      by_cases c : x ≤ i ∧ i < x + k
      · rw [if_pos c, if_pos (by omega)]
      · rw [if_neg c, if_neg (by omega)]
theorem Good.sync_at {s : Dk} {N : Nat} (h : Good s N) {i : Nat} (hi : i < N) : s.sync.at_ i = s.at_ i := by
  rw [h.sync.1, synced_at _ _ (by show i < s.rows.length; rw [h.len]; exact hi)]
  rfl
theorem Good.sync_calls {s : Dk} {N : Nat} (h : Good s N) : s.sync.calls = s.calls + 1 := by
  rw [h.sync.1]
  rfl
theorem Good.putSlot {s : Dk} {N p g : Nat} {b : List UInt8} (h : Good s N) (hN : 4 * p + 4 ≤ N) (hb : b.length ≤ 954) :
    Good (s.putSlot p g b).1 N ∧ (s.putSlot p g b).2 = 0 ∧ (∀ i, i < N → (s.putSlot p g b).1.at_ i = if 4 * p ≤ i ∧ i < 4 * p + 4 then (putL g b).getD (i - 4 * p) [] else s.at_ i) ∧ (s.putSlot p g b).1.calls ≤ s.calls + 5 := by
  obtain ⟨g1, g2, g3⟩ := h.sw (x := 4 * p) (put_each (g := g) hb) hN 4 (Nat.le_refl _)
  have hc := Dk.sw_calls s (4 * p) (putL g b) 4
  unfold Dk.putSlot
  rw [if_pos g2]
  refine ⟨g1.ofSync, g1.sync.2, fun i hi => ?_, ?_⟩
  · show (Dk.sync _).at_ i = _
    rw [g1.sync_at hi, g3 i hi]
  · show (Dk.sync _).calls ≤ _
    rw [g1.sync_calls]
    omega
theorem Good.secs_eq {s s' : Dk} {N k : Nat} (h : Good s N) (h' : Good s' N) (hk : 4 * k + 4 ≤ N) (e : ∀ i, i < 4 → s'.at_ (4 * k + i) = s.at_ (4 * k + i)) : s'.secs k = s.secs k := by
  refine four_ext (Dk.secs_len _ _) (Dk.secs_len _ _) fun i hi => ?_
  rw [Dk.secs_at _ _ hi, Dk.secs_at _ _ hi, h'.reads (by omega), h.reads (by omega), e i hi]
theorem Good.put_secs {s : Dk} {N p g : Nat} {b : List UInt8} (h : Good s N) (hN : 8 ≤ N) (hp : p ≤ 1) (hb : b.length ≤ 954) : (s.putSlot p g b).1.secs p = putL g b ∧ (s.putSlot p g b).1.secs (1 - p) = s.secs (1 - p) := by
  obtain ⟨g1, _, g3, _⟩ := h.putSlot (p := p) (g := g) (by omega) hb
  refine ⟨four_ext (Dk.secs_len _ _) (putL_len g b) fun i hi => ?_, h.secs_eq g1 (by omega) fun i hi => ?_⟩
  · rw [Dk.secs_at _ _ hi, g1.reads (by omega), g3 _ (by omega), if_pos (by omega), Nat.add_sub_cancel_left, putL_at g b hi, List.getD_eq_getElem?_getD, putL_at g b hi]
    rfl
  · rw [g3 _ (by omega), if_neg (by omega)]
theorem Good.put_seen {s : Dk} {N p g : Nat} {b : List UInt8} (h : Good s N) (hN : 8 ≤ N) (hp : p ≤ 1) (hb : b.length ≤ 954) (hg : g ≤ 1099511627776) : (s.putSlot p g b).1.seen2 ≤ max s.seen2 g := by
  obtain ⟨e1, e2⟩ := h.put_secs (g := g) hN hp hb
  have h1 := seenP_put hg hb
  unfold Dk.seen2
  rcases (show p = 0 ∨ p = 1 by omega) with rfl | rfl
  · have e2 : (s.putSlot 0 g b).1.secs 1 = s.secs 1 := e2
    rw [e1, e2]
    omega
  · have e2 : (s.putSlot 1 g b).1.secs 0 = s.secs 0 := e2
    rw [e1, e2]
    omega
/-- A store, and its disk, on which nothing fails, behind at most j commits. -/
structure Gv (N : Nat) (d : Dk) (t : Sto) (j : Nat) : Prop where
  good : Good d N
  ok : t.Ok N
  bad : t.bad = false
  seen : d.seen2 ≤ t.gen
  gen : t.gen ≤ j + 1
  calls : d.calls ≤ 6 * (j + 1)
theorem Gv.len {N : Nat} {d : Dk} {t : Sto} {j : Nat} (h : Gv N d t j) : t.size ≤ 512 ∧ t.cts.length ≤ 8 ∧ t.used.length ≤ 8 ∧ t.log ≤ 256 ∧ 8 ≤ N ∧ t.size = cntP N t.log := by
  have h1 := cntP_ge h.ok.area
  have h2 : t.size ≤ 512 := by rw [h.ok.size]; omega
  exact ⟨h2, words_few h.ok.cts h2, words_few h.ok.used h2, by omega, by omega, h.ok.size⟩
theorem Gv.more {N : Nat} {d : Dk} {t : Sto} {j k : Nat} (h : Gv N d t j) (hk : j ≤ k) : Gv N d t k := ⟨h.good, h.ok, h.bad, h.seen, by have := h.gen; omega, by have := h.calls; omega⟩
theorem Gv.used {N : Nat} {d : Dk} {t : Sto} {j : Nat} (h : Gv N d t j) {L : List UInt64} (hL : okB (t.size : Int) L = true) : Gv N d { t with used := L } j :=
  ⟨h.good, ⟨h.ok.area, h.ok.size, h.ok.place, h.ok.gen1, h.ok.gen2, h.ok.cts, hL, h.ok.body⟩, h.bad, h.seen, h.gen, h.calls⟩
theorem Gv.alloc {N : Nat} {d : Dk} {t : Sto} {j : Nat} (h : Gv N d t j) : Gv N d (allocP t).1 j := by
  unfold allocP
  split
  · exact h
  · split
    · exact h.used (setL_ok h.ok.used)
    · exact h
theorem Gv.free {N : Nat} {d : Dk} {t : Sto} {j : Nat} (h : Gv N d t j) (n : Int) : Gv N d (freeP t n).1 j := by
  unfold freeP
  split
  · exact h
  · exact h.used (setL_ok h.ok.used)
theorem Gv.commit {N : Nat} {d : Dk} {t : Sto} {j : Nat} (h : Gv N d t j) (hj : j ≤ 1000) (body : List UInt8) (hb : body.length ≤ 700) :
    ∃ d', commitP d t body = (d', { t with gen := max t.gen d.seen2 + 1, place := 1 - t.place, cts := t.used, body := body }, 0) ∧ Gv N d' { t with gen := max t.gen d.seen2 + 1, place := 1 - t.place, cts := t.used, body := body } (j + 1) := by
  obtain ⟨a1, a2, a3, a4, a5, a6⟩ := h.len
  have a7 := h.gen
  have a8 := h.seen
  have a9 := h.calls
  have hg : max t.gen d.seen2 + 1 ≤ j + 2 := by omega
  have hl : (layP t.log t.size t.used body).length ≤ 954 := layP_len a4 a1 a3 hb
  have hs := h.good.ofSync
  have hp := h.ok.place
  obtain ⟨g1, g2, g3, g4⟩ := hs.putSlot (p := 1 - t.place) (g := max t.gen d.seen2 + 1) (by omega) hl
  have g5 := hs.put_seen (p := 1 - t.place) (g := max t.gen d.seen2 + 1) a5 (by omega) hl (by omega)
  have hss : d.sync.seen2 = d.seen2 := by
    unfold Dk.seen2
    rw [h.good.secs_eq hs (k := 0) (by omega) (fun i hi => h.good.sync_at (by omega)), h.good.secs_eq hs (k := 1) (by omega) (fun i hi => h.good.sync_at (by omega))]
  have hsc := h.good.sync_calls
  refine ⟨(d.sync.putSlot (1 - t.place) (max t.gen d.seen2 + 1) (layP t.log t.size t.used body)).1, ?_, ⟨g1, ⟨h.ok.area, h.ok.size, by show 1 - t.place ≤ 1; omega, by show 1 ≤ max t.gen d.seen2 + 1; omega, by show max t.gen d.seen2 + 1 ≤ _; omega, h.ok.used, h.ok.used, hb⟩, h.bad, ?_, ?_, ?_⟩⟩
  · unfold commitP
    rw [if_neg (by rw [h.bad]; simp), if_neg (by omega), if_neg (by omega), if_neg (by rw [h.good.sync.2]; simp), if_neg (by rw [g2]; simp)]
  · show _ ≤ max t.gen d.seen2 + 1
    omega
  · show max t.gen d.seen2 + 1 ≤ _
    omega
  · omega
theorem zeros_secs : seenP [zeros, zeros, zeros, zeros] = 0 := by kernel_rfl
theorem new_secs {N k : Nat} (hN : N ≤ 4096) (hk : 4 * k + 4 ≤ N) : (Dk.new (N : Int)).secs k = [zeros, zeros, zeros, zeros] := by
  refine four_ext (Dk.secs_len _ _) rfl fun i hi => ?_
  rw [Dk.secs_at _ _ hi, (good_new N hN).reads (by omega)]
  have e : (Dk.new (N : Int)).at_ (4 * k + i) = zeros := by
    show (List.replicate (min (max (N : Int) 0) 4096).toNat zeros).getD _ [] = _
    rw [List.getD_eq_getElem?_getD, List.getElem?_replicate, if_pos (by omega)]
    rfl
  rw [e]
  rcases (show i = 0 ∨ i = 1 ∨ i = 2 ∨ i = 3 by omega) with rfl | rfl | rfl | rfl <;> rfl
theorem gv_format {N : Nat} (h1 : 40 ≤ N) (h2 : N ≤ 4096) (log : Nat) (hlog : log ≤ 8) : ∃ d t, formatP (Dk.new (N : Int)) (log : Int) = (d, some t, 0) ∧ Gv N d t 0 ∧ t = Sto.new N log 1 := by
  have hg := good_new N h2
  have hs : (Dk.new (N : Int)).seen2 = 0 := by
    unfold Dk.seen2
    rw [new_secs h2 (by omega), new_secs h2 (by omega), zeros_secs]
    rfl
  have ha : areaP N log = true := by unfold areaP; exact decide_eq_true (by omega)
  have hc := cntP_ge ha
  have ho : okB (cntP N log : Int) (newL (cntP N log : Nat)) = true := newL_ok (by omega)
  have hok : (Sto.new N log 1).Ok N := ⟨ha, rfl, by show 0 ≤ 1; omega, by show 1 ≤ 1; omega, by show 1 ≤ 1099511627776; omega, ho, ho, by show 0 ≤ 700; omega⟩
  have hl : (Sto.new N log 1).lay.length ≤ 954 := layP_len (by show log ≤ 256; omega) (by show cntP N log ≤ 512; omega) (words_few hok.cts (by show cntP N log ≤ 512; omega)) (by show 0 ≤ 700; omega)
  obtain ⟨g1, g2, g3, g4⟩ := hg.putSlot (p := 0) (g := 1) (by omega) hl
  have g5 := hg.put_seen (p := 0) (g := 1) (by omega) (by omega) hl (by omega)
  refine ⟨_, _, ?_, ⟨g1, hok, rfl, ?_, ?_, ?_⟩, rfl⟩
  · unfold formatP
    rw [show (Dk.new (N : Int)).off = false from rfl, if_neg (by simp), hg.len, Int.toNat_natCast, if_neg (by rw [ha]; simp), hs, if_neg (by omega), show 0 + 1 = 1 from rfl, g2, if_neg (by simp)]
  · show _ ≤ 1
    omega
  · show 1 ≤ 0 + 1
    omega
  · have : (Dk.new (N : Int)).calls = 0 := rfl
    omega
/-! What is given out. -/
theorem mix_sup {s : Nat} {U V : List UInt64} (hU : okB (s : Int) U = true) (hV : okB (s : Int) V = true) (hs : ∀ i, bitL U i = true → bitL V i = true) : mixL false (s : Int) (s : Int) V U = V := by
  apply bit_ext
  · rw [okB_len (mixL_self_ok hV hU).1, okB_len hV]
  · intro i _
    rw [mixL_bit hV hU]
    have := hs i
    cases hu : bitL U i <;> cases hv : bitL V i
    · rfl
    · rfl
    · rw [hu, hv] at this; simp at this
    · rfl
theorem rank_all {s : Nat} {L : List UInt64} (h : okB (s : Int) L = true) : rankB (s : Int) L (s : Int) = cnt (bitL L) s := by
  unfold rankB
  rw [if_pos h, Int.toNat_natCast, Nat.min_self]
theorem cnt_full {p : Nat → Bool} : ∀ n, cnt p n = n → ∀ i, i < n → p i = true
  | 0, _, i, hi => by omega
  | n + 1, h, i, hi => by
    have h1 : cnt p n + (p n).toNat = n + 1 := h
    have h2 := cnt_le p n
    cases hp : p n with
    | false => rw [hp] at h1; simp at h1; omega
    | true =>
      rw [hp] at h1
      simp at h1
      by_cases e : i = n
      · subst e; exact hp
      · exact cnt_full n h1 i (by omega)
theorem cnt_ones {p : Nat → Bool} : ∀ n, (∀ i, i < n → p i = true) → cnt p n = n
  | 0, _ => rfl
  | n + 1, h => by
    show cnt p n + (p n).toNat = n + 1
    rw [cnt_ones n (fun i hi => h i (by omega)), h n (by omega)]
    rfl
theorem cnt_one_more {p q : Nat → Bool} {k : Nat} (hk : p k = false) (hq : ∀ i, q i = if i = k then true else p i) : ∀ n, cnt q n = cnt p n + (if k < n then 1 else 0)
  | 0 => rfl
  | n + 1 => by
    have ih := cnt_one_more hk hq n
    show cnt q n + (q n).toNat = cnt p n + (p n).toNat + _
    rw [ih, hq n]
    by_cases e : n = k
    · subst e
      rw [if_pos rfl, if_neg (by omega), if_pos (by omega), hk]
      simp
    · rw [if_neg e]
      by_cases c : k < n
      · rw [if_pos c, if_pos (by omega)]; omega
      · rw [if_neg c, if_neg (by omega)]; omega
theorem hasB_bit {s : Nat} {L : List UInt64} (h : okB (s : Int) L = true) {n : Nat} (hn : n < s) : hasB (s : Int) L (n : Int) = bitL L n := by
  unfold hasB
  rw [h, decide_eq_true (by omega), Int.toNat_natCast]
  rfl
structure Ph (s : Nat) (U : List UInt64) (t : Sto) (i : Nat) : Prop where
  size : t.size = s
  cts : t.cts = U
  okU : okB (s : Int) U = true
  okV : okB (s : Int) t.used = true
  sup : ∀ k, bitL U k = true → bitL t.used k = true
  rank : rankB (s : Int) t.used (s : Int) = i
  bad : t.bad = false
theorem Ph.mix {s : Nat} {U : List UInt64} {t : Sto} {i : Nat} (h : Ph s U t i) : mixL false (t.size : Int) (t.size : Int) t.used t.cts = t.used := by
  rw [h.size, h.cts]
  exact mix_sup h.okU h.okV h.sup
theorem Ph.room {s : Nat} {U : List UInt64} {t : Sto} {i : Nat} (h : Ph s U t i) : roomP t = s - i := by
  unfold roomP
  rw [h.mix, h.size, h.rank]
theorem Ph.alloc {s : Nat} {U : List UInt64} {t : Sto} {i : Nat} (h : Ph s U t i) (hi : i < s) : ∃ n : Nat, (allocP t).2 = (n, 0) ∧ hasB (s : Int) U (n : Int) = false ∧ Ph s U (allocP t).1 (i + 1) := by
  have hsz := h.size
  have hr := seekR_next (s := s) (a := 0) (L := t.used) (on := false) (f := 0) h.okV rfl
  rcases hr with ⟨h1, _, _⟩ | ⟨h1, h2, h3⟩
  · exfalso
    have hall : ∀ k, k < s → bitL t.used k = true := fun k hk => by
      unfold seekR at h1
      rw [if_pos (by omega)] at h1
      have := seekN_miss (isOn t.used false) 0 (s - 0) k (by omega) (by omega)
      unfold isOn at this
      cases hb : bitL t.used k
      · rw [hb] at this; simp at this
      · rfl
    have := cnt_ones s hall
    have hrk := h.rank
    rw [rank_all h.okV] at hrk
    omega
  · have hbit : bitL t.used (seekR s t.used 0 false) = false := by
      have hh : seekN (isOn t.used false) 0 (s - 0) < 0 + (s - 0) := by
        unfold seekR at h1
        rw [if_pos (by omega)] at h1
        omega
      have := seekN_hit (isOn t.used false) 0 (s - 0) hh
      unfold seekR
      rw [if_pos (by omega)]
      have h2 : (bitL t.used (seekN (isOn t.used false) 0 (s - 0)) == false) = true := this
      exact eq_of_beq h2
    generalize hn : seekR s t.used 0 false = n at *
    have e : allocP t = ({ t with used := setL (s : Int) t.used (n : Int) true }, n, 0) := by
      unfold allocP
      rw [if_neg (by rw [h.bad]; simp), h.mix, hsz, h2, if_pos rfl, h3]
    have hok : setOk (s : Int) t.used (n : Int) = true := by
      unfold setOk
      rw [h.okV, decide_eq_true (by omega)]
      rfl
    have hb : ∀ k, bitL (setL (s : Int) t.used (n : Int) true) k = if k = n then true else bitL t.used k := fun k => by
      have := setL_bit (on := true) hok k
      rwa [Int.toNat_natCast] at this
    have hUn : bitL U n = false := by
      cases hu : bitL U n
      · rfl
      · rw [h.sup n hu] at hbit; cases hbit
    refine ⟨n, by rw [e], by rw [hasB_bit h.okU h1]; exact hUn, ?_⟩
    rw [e]
    refine ⟨hsz, h.cts, h.okU, setL_ok h.okV, fun k hk => ?_, ?_, h.bad⟩
    · show bitL (setL _ _ _ _) k = true
      rw [hb]
      split
      · rfl
      · exact h.sup k hk
    · show rankB (s : Int) (setL (s : Int) t.used (n : Int) true) (s : Int) = i + 1
      rw [rank_all (setL_ok h.okV), cnt_one_more hbit hb s, if_pos h1, ← rank_all h.okV, h.rank]
theorem Ph.bits {s : Nat} {U : List UInt64} {t : Sto} (h : Ph s U t s) : ∀ k, k < s → bitL t.used k = true := by
  have := h.rank
  rw [rank_all h.okV] at this
  exact cnt_full s this
theorem Ph.full {s : Nat} {U : List UInt64} {t : Sto} (h : Ph s U t s) : allocP t = (t, 0, 7) := by
  have hb := h.bits
  have := next_none (s := s) (a := 0) (L := t.used) (on := false) (f := 0) rfl (fun i _ hi => by unfold isOn; rw [hb i hi]; rfl)
  unfold allocP
  rw [if_neg (by rw [h.bad]; simp), h.mix, h.size, this.1, if_neg (by simp)]
structure Fr (s : Nat) (U : List UInt64) (t : Sto) (n : Nat) : Prop where
  size : t.size = s
  cts : t.cts = U
  okU : okB (s : Int) U = true
  okV : okB (s : Int) t.used = true
  bits : ∀ k, k < s → bitL t.used k = (decide (n ≤ k) || !bitL U k)
  bad : t.bad = false
theorem Ph.fr {s : Nat} {U : List UInt64} {t : Sto} (h : Ph s U t s) : Fr s U t 0 :=
  ⟨h.size, h.cts, h.okU, h.okV, fun k hk => by rw [h.bits k hk, decide_eq_true (Nat.zero_le _)]; rfl, h.bad⟩
theorem Fr.room {s : Nat} {U : List UInt64} {t : Sto} {n : Nat} (h : Fr s U t n) : roomP t = 0 := by
  unfold roomP
  rw [h.size, h.cts, rank_all (mixL_self_ok h.okV h.okU).1, cnt_ones s (fun k hk => by
    rw [mixL_bit h.okV h.okU, h.bits k hk]
    cases bitL U k <;> cases decide (n ≤ k) <;> rfl), Nat.sub_self]
theorem Fr.free {s : Nat} {U : List UInt64} {t : Sto} {n : Nat} (h : Fr s U t n) (hn : n < s) (hU : hasB (s : Int) U (n : Int) = true) : (freeP t (n : Int)).2 = 0 ∧ Fr s U (freeP t (n : Int)).1 (n + 1) := by
  have hu : bitL U n = true := by rw [← hasB_bit h.okU hn]; exact hU
  have hf : faultP t (n : Int) = 0 := by
    unfold faultP
    rw [if_neg (by rw [h.bad]; simp), h.size, hasB_bit h.okV hn, h.bits n hn, decide_eq_true (Nat.le_refl _), if_pos (by rfl)]
  have hok : setOk (s : Int) t.used (n : Int) = true := by
    unfold setOk
    rw [h.okV, decide_eq_true (by omega)]
    rfl
  unfold freeP
  rw [hf, if_neg (by simp), h.size]
  refine ⟨rfl, rfl, h.cts, h.okU, setL_ok h.okV, fun k hk => ?_, h.bad⟩
  show bitL (setL _ _ _ _) k = _
  rw [setL_bit hok k, Int.toNat_natCast, h.bits k hk]
  by_cases e : k = n
  · subst e
    rw [if_pos rfl, hu, decide_eq_false (by omega)]
    rfl
  · rw [if_neg e]
    by_cases c : n ≤ k
    · rw [decide_eq_true c, decide_eq_true (by omega)]
    · rw [decide_eq_false c, decide_eq_false (by omega)]
theorem Fr.skip {s : Nat} {U : List UInt64} {t : Sto} {n : Nat} (h : Fr s U t n) (hn : n < s) (hU : hasB (s : Int) U (n : Int) = false) : Fr s U t (n + 1) := by
  have hu : bitL U n = false := by rw [← hasB_bit h.okU hn]; exact hU
  refine ⟨h.size, h.cts, h.okU, h.okV, fun k hk => ?_, h.bad⟩
  rw [h.bits k hk]
  by_cases e : k = n
  · subst e
    rw [hu, decide_eq_true (Nat.le_refl _), decide_eq_false (by omega)]
    rfl
  · by_cases c : n ≤ k
    · rw [decide_eq_true c, decide_eq_true (by omega)]
    · rw [decide_eq_false c, decide_eq_false (by omega)]
theorem Fr.forget {s : Nat} {U : List UInt64} {t : Sto} {n : Nat} (h : Fr s U t n) : forgetP t = ({ t with used := U }, 0) ∧ Ph s U { t with used := U } (rankB (s : Int) U (s : Int)) := by
  refine ⟨?_, ⟨h.size, h.cts, h.okU, h.okU, fun k hk => hk, rfl, h.bad⟩⟩
  unfold forgetP
  rw [if_neg (by rw [h.bad]; simp), h.cts]
theorem same_self (s : Int) (U : List UInt64) : sameB s s U U = true := by unfold sameB; simp
end Go.Proofs.YtegjeijiekggdaaGreatDoor
end
