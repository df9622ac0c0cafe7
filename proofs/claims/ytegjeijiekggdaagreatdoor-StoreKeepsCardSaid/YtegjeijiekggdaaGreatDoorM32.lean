/- Joined: StE StR. -/
import Derived.Test.YtegjeijiekggdaaGreatDoorM27
import Derived.Test.YtegjeijiekggdaaGreatDoorM08
import Derived.Test.YtegjeijiekggdaaGreatDoorM31
import Derived.Test.YtegjeijiekggdaaGreatDoorM06
section
/- The package store: a slot is written, and the disk synced. -/
namespace Go.Proofs.YtegjeijiekggdaaGreatDoor
open Go.RowKit
set_option linter.unusedVariables false
set_option linter.unusedSimpArgs false
theorem RBT.frm {lo : Nat} {X : Nat → Prop} {w w' : World} {A : Option Addr} {L : List (List UInt8)} (h : RBT lo w A L) (hf : Frm X w w') (hX : ∀ k, X k → k < lo) (hA : ∀ ad, A = some ad → lo ≤ ad.block) : RBT lo w' A L := fun j l hj => by
  obtain ⟨ad, bd, c, h1, h2, h3, h4, h5, h6⟩ := h j l hj
  refine ⟨ad, bd, c, h1, ?_, h3, h4, hf.rb h5 (fun hx => by have := hX _ hx; omega), h6⟩
  rw [hf.cell (lt_of_cell h2) (fun hx => by have := hX _ hx; have := hA ad h1; rw [block_of_add] at *; omega)]
  exact h2
theorem putL_row {g : Nat} {b : List UInt8} (hb : b.length ≤ 954) {k : Nat} (hk : k < 4) : ((putL g b).getD k []).length = 256 ∧ (putL g b)[k]? = some ((putL g b).getD k []) := by
  have h := putL_at g b hk
  rw [List.getD_eq_getElem?_getD, h]
  exact ⟨sec_len (partOf_len (allOf_len hb) hk), rfl⟩
/-- Between two sectors of a slot that are written. -/
def SwRel (base : Nat) (F : Ft) (d : Dk) (w : World) (x : Nat) (L : List (List UInt8)) (i : Value) (wr : World) : Prop :=
  ∃ k : Nat, k ≤ 4 ∧ i = .int .i64 (k : Int) ∧ (d.sw x L k).2 = 0 ∧ DkAt base F wr (d.sw x L k).1 ∧ Frm F.has w wr
set_option maxHeartbeats 2000000 in
set_option maxRecDepth 100000 in
theorem stPut_any {base : Nat} {F : Ft} {w : World} {d : Dk} {P : Sf} {t : Sto} (hd : DkAt base F w d) (h : StAt base F w P t) (hcalls : d.calls < 4611686018427387000) (hlog : t.log ≤ 256) (hsize : t.size ≤ 512) (pl : Nat) (hpl : pl ≤ 1) (gn : Nat) (hg1 : 1 ≤ gn) (hg2 : gn ≤ 1099511627776) (sz : Int)
    (A : Option Addr) (c : Nat) (L : List UInt64) (B : Option Addr) (m dd : Nat) (body : List UInt8) (hA : RQ w A L) (hL : L.length ≤ 8) (hb : body.length = m) (hm : m ≤ 700) (hB : RB w B body) :
    Calls Tryz.prog 59 #[.pointer (some ⟨P.G, 0, none⟩), .agg #[.int .i64 (pl : Int), .int .i64 (gn : Int), .int .i64 sz, .slice A L.length c, .slice B m dd]] w fun e w' =>
      e = .returned (.int .i64 ((d.putSlot pl gn (layP t.log t.size L body)).2 : Int)) ∧ DkAt base F w' (d.putSlot pl gn (layP t.log t.size L body)).1 ∧ Frm F.has w w' := by
  have hX0 := heap_alloc_last w (.cells #[.int .i64 (pl : Int), .int .i64 (gn : Int), .int .i64 sz, .slice A L.length c, .slice B m dd] 107)
  have B0 := Lib.hid ((Below.refl _ w).alloc (Nat.le_refl _) (.cells #[.int .i64 (pl : Int), .int .i64 (gn : Int), .int .i64 sz, .slice A L.length c, .slice B m dd] 107))
  have hz0 := heap_size_alloc w (.cells #[.int .i64 (pl : Int), .int .i64 (gn : Int), .int .i64 sz, .slice A L.length c, .slice B m dd] 107)
  have hll := Lib.hid (layP_len (log := t.log) (size := t.size) (used := L) (body := body) hlog hsize hL (by omega))
  have KL := Lib.hid (fun W (hb' : Below w.heap.size w W) => stLay_any (h.below hb') hlog hsize (pl : Int) (gn : Int) sz A c L B m dd body (hA.below hb') hL hb hm (hB.below hb'))
  have CB := Lib.hid (fun W (hb : Below (w.heap.size + 1) (w.alloc (.cells #[.int .i64 (pl : Int), .int .i64 (gn : Int), .int .i64 sz, .slice A L.length c, .slice B m dd] 107)) W) => show W.cell? ⟨w.heap.size, 0, none⟩ = some (.int .i64 (pl : Int)) ∧ W.cell? ⟨w.heap.size, 1, none⟩ = some (.int .i64 (gn : Int)) ∧ W.cell? ⟨w.heap.size, 2, none⟩ = some (.int .i64 sz) ∧ W.cell? ⟨w.heap.size, 3, none⟩ = some (.slice A L.length c) ∧ W.cell? ⟨w.heap.size, 4, none⟩ = some (.slice B m dd) from by
    have k : ∀ i, W.cell? ⟨w.heap.size, i, none⟩ = (w.alloc (.cells #[.int .i64 (pl : Int), .int .i64 (gn : Int), .int .i64 sz, .slice A L.length c, .slice B m dd] 107)).cell? ⟨w.heap.size, i, none⟩ := fun i => hb.cell (p := ⟨w.heap.size, i, none⟩) (by show w.heap.size < w.heap.size + 1; omega)
    exact ⟨(k 0).trans ((cell_of_row _ _ 0 _ _ _ hX0).trans rfl), (k 1).trans ((cell_of_row _ _ 1 _ _ _ hX0).trans rfl), (k 2).trans ((cell_of_row _ _ 2 _ _ _ hX0).trans rfl), (k 3).trans ((cell_of_row _ _ 3 _ _ _ hX0).trans rfl), (k 4).trans ((cell_of_row _ _ 4 _ _ _ hX0).trans rfl)⟩)
  have H := Lib.hid h
  have HD := Lib.hid hd
  have HIN := Lib.hid hd.inside
  have HP := Lib.hid (show ∀ b : List UInt8, d.putSlot pl gn b = if (d.sw (4 * pl) (putL gn b) 4).2 = 0 then ((d.sw (4 * pl) (putL gn b) 4).1.sync, (d.sw (4 * pl) (putL gn b) 4).1.syncErr) else d.sw (4 * pl) (putL gn b) 4 from fun b => rfl)
  obtain ⟨y, hy⟩ : ∃ y, y = layP t.log t.size L body := ⟨_, rfl⟩
  rw [← hy] at KL hll
  rw [← hy]
  clear h hd hA hB hb hX0 hy
  obtain ⟨c0, c1, c2, c3, c4⟩ := CB.out _ (Below.refl _ _)
  go_enter Tryz.func59, Tryz.ntmps59
  go_wp2_with fail
  generalize w.alloc (.cells #[.int .i64 (pl : Int), .int .i64 (gn : Int), .int .i64 sz, .slice A L.length c, .slice B m dd] 107) = W0 at *
  have BV := Lib.hid B0.out.drew
  have cc : W0.drew.cell? ⟨w.heap.size, 0, none⟩ = some (.int .i64 (pl : Int)) ∧ W0.drew.cell? ⟨w.heap.size, 1, none⟩ = some (.int .i64 (gn : Int)) ∧ W0.drew.cell? ⟨w.heap.size, 2, none⟩ = some (.int .i64 sz) ∧ W0.drew.cell? ⟨w.heap.size, 3, none⟩ = some (.slice A L.length c) ∧ W0.drew.cell? ⟨w.heap.size, 4, none⟩ = some (.slice B m dd) := ⟨c0, c1, c2, c3, c4⟩
  clear c0 c1 c2 c3 c4
  go_region_held3 (fun W => W.cell? ⟨w.heap.size, 0, none⟩ = some (.int .i64 (pl : Int)) ∧ W.cell? ⟨w.heap.size, 1, none⟩ = some (.int .i64 (gn : Int)) ∧ W.cell? ⟨w.heap.size, 2, none⟩ = some (.int .i64 sz) ∧ W.cell? ⟨w.heap.size, 3, none⟩ = some (.slice A L.length c) ∧ W.cell? ⟨w.heap.size, 4, none⟩ = some (.slice B m dd)) (first | with_reducible assumption | with_reducible exact cc | with_reducible exact cn | with_reducible exact cm | fail)
    (first
      | (go_at_call 115; refine (KL.out _ BV.out).mono ?_; rintro e w1 ⟨v1, rfl, o1, b1⟩; obtain ⟨A1, k1, rfl, hk1, r1⟩ := o1.form; have D1 := Lib.hid (show Below (w.heap.size + 1) W0 w1 from (Below.refl _ W0).drew.trans (b1.mono (Nat.le_of_eq hz0.symm))); have cn := CB.out w1 D1.out; have R1 := Lib.hid r1; have HK1 := Lib.hid hk1; clear o1 b1 r1 hk1)
      | (go_at_call 114; refine (putX_ok gn A1 y.length k1 y w1 hg1 hg2 rfl hll.out HK1.out R1.out).mono ?_; rintro e w2 ⟨ad2, rfl, r2, hl2, t2, b2⟩; have D2 := Lib.hid (D1.out.trans (b2.mono (by have := D1.out.size; omega))); have cm := CB.out w2 D2.out; have T2 := Lib.hid t2; have HL2 := Lib.hid hl2; clear b2 r2 t2 hl2)
      | fail)
  all_goals
    clear cc cn
    have hn0 := hz0
    have hB2 := Lib.hid (B0.out.trans (D2.out.mono (Nat.le_succ _)))
    have DK := Lib.hid (HD.out.below hB2.out)
    have HQ := Lib.hid (show ∀ k, F.has k → k < w.heap.size from HIN.out)
    have HW1 := Lib.hid (show w.heap.size + 1 ≤ w1.heap.size by have := D1.out.size; omega)
    have T3 := Lib.hid (T2.out.lower (lo' := w.heap.size + 1) (by have := HW1.out; omega))
    have hadl := Lib.hid (show ∀ ad, some ad2 = some ad → w.heap.size + 1 ≤ ad.block from fun ad e => by injection e with e; subst e; have := HL2.out; have := HW1.out; omega)
    have CF := Lib.hid (fun W (hf : Frm F.has w2 W) => show W.cell? ⟨P.G, 0, none⟩ = some (.pointer (some ⟨F.b, 0, none⟩)) ∧ W.cell? ⟨w.heap.size, 0, none⟩ = some (.int .i64 (pl : Int)) ∧ RBT (w.heap.size + 1) W (some ad2) (putL gn y) from
      ⟨(((H.out.below hB2.out).disk hf).d0), (hf.cell (lt_of_cell cm.1) (fun hx => absurd (HQ.out _ hx) (Nat.lt_irrefl _))).trans cm.1, T3.out.frm hf (fun k hk => by have := HQ.out k hk; omega) hadl.out⟩)
    have HLN := Lib.hid (putL_len gn y)
    have HROW := Lib.hid (fun k (hk : k < 4) => putL_row (g := gn) hll.out hk)
    have HPP := HP.out y
    generalize putL gn y = Ls at *
    have HPP := Lib.hid HPP
    have hq0 : IntKind.i64.wrap ((pl : Int) * 4) = (pl : Int) * 4 := slWrap64 _ (by omega) (by omega)
    clear cm
    go_wp2
    go_loopw [7, 8, 9, 24] (fun _ _ _ i wr => SwRel base F d w2 (4 * pl) Ls i wr) (fun _ _ _ i _ => 4 - (intOf i).toNat)
    case atStart => exact ⟨0, Nat.zero_le _, rfl, rfl, DK.out, Frm.refl _ _⟩
    case round =>
      obtain ⟨k, hk, rfl, he, hdk, hfr⟩ := hrel
      have HE := Lib.hid he
      have HDK := Lib.hid hdk
      have HFR := Lib.hid hfr
      obtain ⟨x0, x1, x2⟩ := CF.out wr hfr
      by_cases hlt : k < 4
      · have hlt' : (k : Int) < 4 := by omega
        obtain ⟨hr256, hrk⟩ := HROW.out k hlt
        obtain ⟨ad', bd, cb, e', g1, g2, g3, g4, g5⟩ := x2 k _ hrk
        injection e' with e'
        subst e'
        rw [hr256] at g1 g2
        have hq1 : IntKind.i64.wrap ((pl : Int) * 4 + (k : Int)) = ((4 * pl + k : Nat) : Int) := by rw [slWrap64 _ (by omega) (by omega)]; omega
        have KW := Lib.hid (fun W (hf : Frm F.has w2 W) (hd : DkAt base F W (d.sw (4 * pl) Ls k).1) (hr : RB W (some bd) (Ls.getD k [])) => write_any hd (by have := Dk.sw_calls d (4 * pl) Ls k; omega) ((4 * pl + k : Nat) : Int) (some bd) 256 cb (Ls.getD k []) hr256 hr (fun ad e hx => by injection e with e; subst e; have := HQ.out _ hx; omega))
        have G4 := Lib.hid g4.drew
        have F4 := Lib.hid (hfr.trans (Frm.drew F.has wr))
        have K4 := Lib.hid hdk.drew
        have HN := Lib.hid (show (d.sw (4 * pl) Ls k).2 = 0 → d.sw (4 * pl) Ls (k + 1) = ((d.sw (4 * pl) Ls k).1.write ((4 * pl + k : Nat) : Int) (Ls.getD k []), (d.sw (4 * pl) Ls k).1.writeErr ((4 * pl + k : Nat) : Int) (Ls.getD k [])) from fun e => if_pos e)
        have cc : wr.drew.cell? ⟨P.G, 0, none⟩ = some (.pointer (some ⟨F.b, 0, none⟩)) ∧ wr.drew.cell? ⟨w.heap.size, 0, none⟩ = some (.int .i64 (pl : Int)) := ⟨x0, x1⟩
        have CG := Lib.hid (fun W (hf : Frm F.has w2 W) => And.intro (CF.out W hf).1 (CF.out W hf).2.1)
        clear x0 x1 x2 he hdk hfr g4 g5 hr256 hrk
        generalize Ls.getD k [] = Rk at *
        generalize 4 * pl + k = xn at *
        generalize (d.sw (4 * pl) Ls k).1.writeErr (xn : Int) Rk = er at *
        go_upto_region 7 with fail
        go_region_held3 (fun W => W.cell? ⟨P.G, 0, none⟩ = some (.pointer (some ⟨F.b, 0, none⟩)) ∧ W.cell? ⟨w.heap.size, 0, none⟩ = some (.int .i64 (pl : Int))) (first | with_reducible assumption | with_reducible exact cc | with_reducible exact cn | fail)
          (first
            | (go_at_call 100; refine (KW.out _ F4.out K4.out G4.out).mono ?_; rintro e w5 ⟨rfl, d5, f5⟩; have D5 := Lib.hid d5; have F5 := Lib.hid (F4.out.trans f5); have cn := CG.out w5 F5.out; clear d5 f5)
            | fail)
        all_goals
          have HN2 := Lib.hid (HN.out HE.out)
          by_cases h0 : er = 0
          · subst h0
            clear cc cn
            go_wp2
            go_roundw
            case rel => exact ⟨k + 1, by omega, by go_num, by rw [HN2.out], by rw [HN2.out]; exact D5.out, F5.out⟩
            case measure => simp [intOf]; omega
          · have hst := Lib.hid (Dk.sw_stop (s := d) (x := 4 * pl) (L := Ls) (k := k + 1) (by rw [HN2.out]; exact h0) 4 (by omega))
            have hb : ((er : Int) != 0) = true := by rw [bne_iff_ne]; omega
            have HFin : Hid (d.putSlot pl gn y = ((d.sw (4 * pl) Ls k).1.write (xn : Int) Rk, er)) := Lib.hid (by
              rw [HPP.out, if_neg (by rw [hst.out, HN2.out]; exact h0), hst.out, HN2.out])
            clear h0 cc cn hst
            go_wp2
            go_ret
            rw [HFin.out]
            exact ⟨rfl, D5.out, Frm.trans (Frm.of_below hB2.out) F5.out⟩
      · obtain rfl : k = 4 := by omega
        have KS := Lib.hid (sync_any hdk (by have := Dk.sw_calls d (4 * pl) Ls 4; omega))
        have HFin : Hid (d.putSlot pl gn y = ((d.sw (4 * pl) Ls 4).1.sync, (d.sw (4 * pl) Ls 4).1.syncErr)) := Lib.hid (by rw [HPP.out, if_pos he])
        clear he hdk hfr x1 x2
        go_wp2_with (go_at_call 96; refine KS.out.mono ?_; rintro e w5 ⟨rfl, d5, f5⟩; have D5 := Lib.hid d5; have F5 := Lib.hid (HFR.out.trans f5); clear d5 f5)
        go_ret
        rw [HFin.out]
        exact ⟨rfl, D5.out, Frm.trans (Frm.of_below hB2.out) F5.out⟩
/-- A root is made safe behind all that it stands on. -/
def Dk.turn (d : Dk) (pl gn : Nat) (b : List UInt8) : Dk × Nat := if d.syncErr ≠ 0 then (d.sync, d.syncErr) else d.sync.putSlot pl gn b
set_option maxHeartbeats 2000000 in
set_option maxRecDepth 100000 in
theorem stTurn_any {base : Nat} {F : Ft} {w : World} {d : Dk} {P : Sf} {t : Sto} (hd : DkAt base F w d) (h : StAt base F w P t) (hcalls : d.calls < 4611686018427380000) (hlog : t.log ≤ 256) (hsize : t.size ≤ 512) (pl : Nat) (hpl : pl ≤ 1) (gn : Nat) (hg1 : 1 ≤ gn) (hg2 : gn ≤ 1099511627776) (sz : Int)
    (A : Option Addr) (c : Nat) (L : List UInt64) (B : Option Addr) (m dd : Nat) (body : List UInt8) (hA : RQ w A L) (hL : L.length ≤ 8) (hb : body.length = m) (hm : m ≤ 700) (hB : RB w B body) (nA : ∀ ad, A = some ad → L ≠ [] → ¬ F.has ad.block) (nB : ∀ ad, B = some ad → body ≠ [] → ¬ F.has ad.block) :
    Calls Tryz.prog 69 #[.pointer (some ⟨P.G, 0, none⟩), .agg #[.int .i64 (pl : Int), .int .i64 (gn : Int), .int .i64 sz, .slice A L.length c, .slice B m dd]] w fun e w' =>
      e = .returned (.int .i64 ((d.turn pl gn (layP t.log t.size L body)).2 : Int)) ∧ DkAt base F w' (d.turn pl gn (layP t.log t.size L body)).1 ∧ Frm F.has w w' := by
  have hX0 := heap_alloc_last w (.cells #[.int .i64 (pl : Int), .int .i64 (gn : Int), .int .i64 sz, .slice A L.length c, .slice B m dd] 107)
  have B0 := Lib.hid ((Below.refl _ w).alloc (Nat.le_refl _) (.cells #[.int .i64 (pl : Int), .int .i64 (gn : Int), .int .i64 sz, .slice A L.length c, .slice B m dd] 107))
  have hz0 := heap_size_alloc w (.cells #[.int .i64 (pl : Int), .int .i64 (gn : Int), .int .i64 sz, .slice A L.length c, .slice B m dd] 107)
  have HQ := Lib.hid (show ∀ k, F.has k → k < w.heap.size from hd.inside)
  have CB := Lib.hid (fun W (hb : Frm F.has (w.alloc (.cells #[.int .i64 (pl : Int), .int .i64 (gn : Int), .int .i64 sz, .slice A L.length c, .slice B m dd] 107)) W) => show W.cell? ⟨w.heap.size, 0, none⟩ = some (.int .i64 (pl : Int)) ∧ W.cell? ⟨w.heap.size, 1, none⟩ = some (.int .i64 (gn : Int)) ∧ W.cell? ⟨w.heap.size, 2, none⟩ = some (.int .i64 sz) ∧ W.cell? ⟨w.heap.size, 3, none⟩ = some (.slice A L.length c) ∧ W.cell? ⟨w.heap.size, 4, none⟩ = some (.slice B m dd) from by
    have k : ∀ i, W.cell? ⟨w.heap.size, i, none⟩ = (w.alloc (.cells #[.int .i64 (pl : Int), .int .i64 (gn : Int), .int .i64 sz, .slice A L.length c, .slice B m dd] 107)).cell? ⟨w.heap.size, i, none⟩ := fun i => hb.cell (p := ⟨w.heap.size, i, none⟩) (by rw [hz0]; show w.heap.size < w.heap.size + 1; omega) (fun hx => absurd (HQ.out _ hx) (Nat.lt_irrefl _))
    exact ⟨(k 0).trans ((cell_of_row _ _ 0 _ _ _ hX0).trans rfl), (k 1).trans ((cell_of_row _ _ 1 _ _ _ hX0).trans rfl), (k 2).trans ((cell_of_row _ _ 2 _ _ _ hX0).trans rfl), (k 3).trans ((cell_of_row _ _ 3 _ _ _ hX0).trans rfl), (k 4).trans ((cell_of_row _ _ 4 _ _ _ hX0).trans rfl)⟩)
  have H := Lib.hid h
  have HA := Lib.hid hA
  have HB := Lib.hid hB
  have HT := Lib.hid (show ∀ b, d.turn pl gn b = if d.syncErr ≠ 0 then (d.sync, d.syncErr) else d.sync.putSlot pl gn b from fun b => rfl)
  have KS := Lib.hid (sync_any (hd.below B0.out) (by omega))
  have KP := Lib.hid (fun W (hf : Frm F.has w W) (hdk : DkAt base F W d.sync) => stPut_any hdk (h.disk hf) (by have := Dk.sync_calls d; omega) hlog hsize pl hpl gn hg1 hg2 sz A c L B m dd body (hA.frmNe hf nA) hL hb hm (hB.frmNe hf nB))
  have x0 := (h.below B0.out).d0
  have HTY := HT.out (layP t.log t.size L body)
  obtain ⟨y, hy⟩ : ∃ y, y = layP t.log t.size L body := ⟨_, rfl⟩
  rw [← hy] at KP HTY
  rw [← hy]
  have HTY := Lib.hid HTY
  clear h hd hA hB hb hX0 hy HT
  go_enter Tryz.func69, Tryz.ntmps69
  go_wp2_with fail
  generalize w.alloc (.cells #[.int .i64 (pl : Int), .int .i64 (gn : Int), .int .i64 sz, .slice A L.length c, .slice B m dd] 107) = W0 at *
  refine KS.out.mono ?_
  rintro e w1 ⟨rfl, d1, f1⟩
  obtain ⟨c0, c1, c2, c3, c4⟩ := CB.out _ f1
  have F1 := Lib.hid (show Frm F.has w w1 from Frm.trans (Frm.of_below B0.out) f1)
  have D1 := Lib.hid d1
  clear d1 f1
  by_cases h0 : d.syncErr = 0
  · rw [h0]
    have HY := Lib.hid (show d.turn pl gn y = d.sync.putSlot pl gn y from by rw [HTY.out, if_neg (by rw [h0]; simp)])
    clear h0 HTY
    go_wp2_with fail
    refine (KP.out _ F1.out D1.out).mono ?_
    rintro e w2 ⟨rfl, d2, f2⟩
    have D2 := Lib.hid d2
    have F2 := Lib.hid (F1.out.trans f2)
    clear d2 f2 c0 c1 c2 c3 c4
    go_wp2
    go_ret
    rw [HY.out]
    exact ⟨rfl, D2.out, F2.out⟩
  · have HY := Lib.hid (show d.turn pl gn y = (d.sync, d.syncErr) from by rw [HTY.out, if_pos h0])
    have hb : ((d.syncErr : Int) != 0) = true := by rw [bne_iff_ne]; omega
    generalize d.syncErr = er at *
    clear h0 HTY c0 c1 c2 c3 c4
    go_wp2
    go_ret
    rw [HY.out]
    exact ⟨rfl, D1.out, F1.out⟩
end Go.Proofs.YtegjeijiekggdaaGreatDoor
end
section
/- The package sector: a sector that is read lies in memory of its own. -/
namespace Go.Proofs.YtegjeijiekggdaaGreatDoor
open Go.RowKit
set_option linter.unusedVariables false
set_option linter.unusedSimpArgs false
set_option maxHeartbeats 1000000 in
set_option maxRecDepth 100000 in
theorem readX_any {base : Nat} {F : Ft} {w : World} {s : Dk} (h : DkAt base F w s) (n : Int) :
    Calls Tryz.prog 85 #[.pointer (some ⟨F.b, 0, none⟩), .int .i64 n] w fun e w' => ∃ A, e = .returned (.tuple #[.slice A (s.reads n).length (s.reads n).length, .int .i64 (s.faultAt n : Int)]) ∧ RB w' A (s.reads n) ∧ (∀ ad, A = some ad → w.heap.size ≤ ad.block) ∧ Below w.heap.size w w' := by
  have Hf := Lib.hid (faultAt_any h n)
  have c0 := h.c0; have c1 := h.c1
  have g3 : F.b < w.heap.size := h.blt
  have hmany := h.ok.many
  obtain ⟨nn, D, hM⟩ := h.map.open_ h.ok.wlt
  have hown := Lib.hid hM.owns
  have H := Lib.hid h
  have HM := Lib.hid hM
  clear h hM
  by_cases h0 : s.faultAt n = 0
  · obtain ⟨hn0, hn1⟩ := Dk.faultAt_ok h0
    have HR := Lib.hid (show s.reads n = s.at_ n.toNat from by unfold Dk.reads; rw [if_pos h0])
    have HE := Lib.hid h0
    rw [h0] at Hf
    obtain ⟨k, rfl⟩ := Int.eq_ofNat_of_zero_le hn0
    have hk : k < s.rows.length := by omega
    have HL := Lib.hid (Dk.at_len H.out.ok hk)
    have hkey : keyOf Tryz.prog 3 (.int .i64 (k : Int)) = some (.int .i64 (k : Int)) := Maps.keyOf_int_mk Tryz.underlying3 (WalkArith.wf_i64 ⟨by omega, by omega⟩)
    have HK := Lib.hid hkey
    clear h0 hkey
    have hh := HM.out.has k
    cases hw : s.wt k with
    | some l =>
      rw [hw] at hh
      have HA := Lib.hid (show s.at_ k = l from by unfold Dk.at_; rw [hw]; rfl)
      have hl := Lib.hid (H.out.ok.wlen k l hw)
      have hat := Lib.hid (HM.out.at_ k l hw)
      have hh := Lib.hid hh
      clear hw
      go_enter Tryz.func85, Tryz.ntmps85
      go_wp2_with (first
        | (go_at_call 130; refine Hf.out.mono ?_; rintro e w' ⟨rfl, rfl⟩)
        | (at_lookup; refine wpList_lookup_own_ok _ rfl (.tmp 19) (.tmp 20) 95 rfl 3 102 (Maps.int_keyed Tryz.underlying3) Tryz.underlying95 secR (Tryz.zeroValue102 _) (.lit (.string zeros)) [] zeroSec_read F.m nn D rfl hown.out (.int .i64 (k : Int)) (.int .i64 (k : Int)) rfl HK.out ?_; intro v ps hv; rw [hh.out]; rw [hat.out] at hv; obtain ⟨l', hl1, rfl, hl2⟩ := secR_inv hv; obtain rfl : l = l' := by simpa using congrArg Prod.fst hl2)
        | (refine wpList_store_new rfl 102 (.tmp 7) (.tmp 22) rfl Tryz.zeroCells102 (cellsB l).toArray rfl rfl (infoSec_of hl.out) (zeroSec_size hl.out) (secCells_all l) ?_))
      go_ret2
      refine ⟨some ⟨w.heap.size, 0, none⟩, ?_, ?_, (fun ad e => by injection e with e; subst e; exact Nat.le_refl _), (Below.refl _ w).alloc (Nat.le_refl _) _⟩
      · rw [HR.out, HE.out, Int.toNat_natCast, HL.out]; rfl
      · rw [HR.out, Int.toNat_natCast, HA.out]; exact rb_of_row' (heap_alloc_last w _)
    | none =>
      rw [hw] at hh
      have HA := Lib.hid (show s.at_ k = s.rows.getD k [] from by unfold Dk.at_; rw [hw]; rfl)
      have hh := Lib.hid hh
      obtain ⟨g, hA, _, hra, _⟩ := H.out.setRow hk zeros_len
      rw [hA] at c0
      have hrl : (s.rows.getD k []).length = 256 := by rw [← HA.out]; exact HL.out
      generalize s.rows.getD k [] = r at *
      have HRL := Lib.hid hrl
      have HRA := Lib.hid hra
      have kk : (k : Int) < (s.rows.length : Int) := by omega
      generalize s.rows.length = NN at c0 kk
      clear hw hrl hra
      go_enter Tryz.func85, Tryz.ntmps85
      go_wp2_with (first
        | (go_at_call 130; refine Hf.out.mono ?_; rintro e w' ⟨rfl, rfl⟩)
        | (at_lookup; refine wpList_lookup_own_ok _ rfl (.tmp 19) (.tmp 20) 95 rfl 3 102 (Maps.int_keyed Tryz.underlying3) Tryz.underlying95 secR (Tryz.zeroValue102 _) (.lit (.string zeros)) [] zeroSec_read F.m nn D rfl hown.out (.int .i64 (k : Int)) (.int .i64 (k : Int)) rfl HK.out ?_; intro v ps hv; rw [hh.out]; obtain ⟨l, hl, rfl, _⟩ := secR_inv hv; clear hv; have hl := Lib.hid hl)
        | (refine wpList_store_new rfl 102 (.tmp 7) (.tmp 22) rfl Tryz.zeroCells102 (cellsB l).toArray rfl rfl (infoSec_of hl.out) (zeroSec_size hl.out) (secCells_all l) ?_)
        | (refine wpList_load_mid rfl 102 (.tmp 31) rfl g (k * 256) rfl (cellsB r) _ (World.rangeAt_alloc HRA.out _) Tryz.underlying102 rfl (infoSec_list HRL.out) ?_)
        | (refine wpList_store_new rfl 102 (.tmp 7) (.tmp 32) rfl (cellsB l).toArray (cellsB r).toArray rfl rfl (infoSec_of HRL.out) (by rw [List.size_toArray, List.size_toArray, length_cellsB, length_cellsB, hl.out, HRL.out]) (secCells_all r) ?_))
      go_ret2
      refine ⟨some ⟨w.heap.size, 0, none⟩, ?_, ?_, (fun ad e => by injection e with e; subst e; exact Nat.le_refl _), (Below.refl _ w).alloc (Nat.le_refl _) _⟩
      · rw [HR.out, HE.out, Int.toNat_natCast, HL.out]; rfl
      · rw [HR.out, Int.toNat_natCast, HA.out]; exact rb_of_row' (heap_alloc_last w _)
  · have HR := Lib.hid (show s.reads n = [] from by unfold Dk.reads; rw [if_neg h0])
    have hb : (((s.faultAt n : Nat) : Int) != 0) = true := by rw [bne_iff_ne]; omega
    generalize s.faultAt n = q at *
    clear h0
    go_enter Tryz.func85, Tryz.ntmps85
    go_wp2_with (go_at_call 130; refine Hf.out.mono ?_; rintro e w' ⟨rfl, rfl⟩)
    go_ret2
    refine ⟨none, ?_, ?_, (fun ad e => by cases e), Below.refl _ w⟩
    · rw [HR.out]; rfl
    · rw [HR.out]; exact RB.nil
end Go.Proofs.YtegjeijiekggdaaGreatDoor
end
