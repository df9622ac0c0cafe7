/- Joined: StL StM. -/
import Derived.Test.YtegjeijiekggdaaGreatDoorM37
import Derived.Test.YtegjeijiekggdaaGreatDoorM23
import Derived.Test.YtegjeijiekggdaaGreatDoorM12
import Derived.Test.YtegjeijiekggdaaGreatDoorM07
section
/- The package store: Commit. -/
namespace Go.Proofs.YtegjeijiekggdaaGreatDoor
open Go.RowKit
set_option linter.unusedVariables false
set_option linter.unusedSimpArgs false
/-- What Commit answers. -/
def CmPost (base : Nat) (F : Ft) (w : World) (P : Sf) (R : Dk × Sto × Nat) (e : Ending) (w' : World) : Prop :=
  e = .returned (.int .i64 (R.2.2 : Int)) ∧ DkAt base F w' R.1 ∧ (∃ P', P'.G = P.G ∧ StAt base F w' P' R.2.1) ∧ Frm (Wr F P.G) w w'
theorem commit_turn {d : Dk} {t : Sto} {body : List UInt8} (h1 : t.bad = false) (h2 : body.length ≤ 700) (h3 : max t.gen d.seen2 + 1 ≤ 1099511627776) :
    commitP d t body = if (d.turn (1 - t.place) (max t.gen d.seen2 + 1) (layP t.log t.size t.used body)).2 ≠ 0 then
      ((d.turn (1 - t.place) (max t.gen d.seen2 + 1) (layP t.log t.size t.used body)).1, { t with bad := true }, (d.turn (1 - t.place) (max t.gen d.seen2 + 1) (layP t.log t.size t.used body)).2)
      else ((d.turn (1 - t.place) (max t.gen d.seen2 + 1) (layP t.log t.size t.used body)).1, { t with gen := max t.gen d.seen2 + 1, place := 1 - t.place, cts := t.used, body := body }, 0) := by
  unfold commitP Dk.turn
  rw [if_neg (by rw [h1]; simp), if_neg (by omega), if_neg (by omega)]
  by_cases h : d.syncErr = 0
  · rw [if_neg (show ¬ d.syncErr ≠ 0 by rw [h]; simp), if_neg (show ¬ d.syncErr ≠ 0 by rw [h]; simp)]
  · rw [if_pos h, if_pos h, if_pos h]
theorem below5 {B : Nat} {w W : World} (h : Below B w W) {g : Nat} (hg : B ≤ g) (a0 a1 a2 a3 a4 : Value) : Below B w (((((W.setCell ⟨g, 0, none⟩ a0).setCell ⟨g, 1, none⟩ a1).setCell ⟨g, 2, none⟩ a2).setCell ⟨g, 3, none⟩ a3).setCell ⟨g, 4, none⟩ a4) :=
  ((((h.setCell (p := ⟨g, 0, none⟩) hg _).setCell (p := ⟨g, 1, none⟩) hg _).setCell (p := ⟨g, 2, none⟩) hg _).setCell (p := ⟨g, 3, none⟩) hg _).setCell (p := ⟨g, 4, none⟩) hg _
theorem box5 {W : World} {g : Nat} {x0 x1 x2 x3 x4 : Value} {t : TypeId} (h : W.heap[g]? = some (.cells #[x0, x1, x2, x3, x4] t (0, 0))) (a0 a1 a2 a3 a4 : Value) :
    (((((W.setCell ⟨g, 0, none⟩ a0).setCell ⟨g, 1, none⟩ a1).setCell ⟨g, 2, none⟩ a2).setCell ⟨g, 3, none⟩ a3).setCell ⟨g, 4, none⟩ a4).heap[g]? = some (.cells #[a0, a1, a2, a3, a4] t (0, 0)) := by
  rw [heap_setCell_block _ (heap_setCell_block _ (heap_setCell_block _ (heap_setCell_block _ (heap_setCell_block _ h))))]
  rfl
theorem OB.box5 {B : Nat} {W : World} {v : Value} {l : List UInt8} (h : OB B W v l) {g : Nat} (hg : g < B) (a0 a1 a2 a3 a4 : Value) : OB B (((((W.setCell ⟨g, 0, none⟩ a0).setCell ⟨g, 1, none⟩ a1).setCell ⟨g, 2, none⟩ a2).setCell ⟨g, 3, none⟩ a3).setCell ⟨g, 4, none⟩ a4) v l :=
  h.frm (X := fun k => k = g) (((((Frm.setCell (X := fun k => k = g) W ⟨g, 0, none⟩ a0 rfl).trans (Frm.setCell (X := fun k => k = g) _ ⟨g, 1, none⟩ a1 rfl)).trans (Frm.setCell (X := fun k => k = g) _ ⟨g, 2, none⟩ a2 rfl)).trans (Frm.setCell (X := fun k => k = g) _ ⟨g, 3, none⟩ a3 rfl)).trans (Frm.setCell (X := fun k => k = g) _ ⟨g, 4, none⟩ a4 rfl)) (fun k e => by omega)
set_option maxHeartbeats 2000000 in
set_option maxRecDepth 100000 in
theorem stCommit_any {base : Nat} {F : Ft} {w : World} {d : Dk} {P : Sf} {t : Sto} (hd : DkAt base F w d) (h : StAt base F w P t) (hcalls : d.calls < 4611686018427370000) (hlog : t.log ≤ 256) (hsize : t.size ≤ 512) (hplace : t.place ≤ 1) (hgen : t.gen ≤ 1099511627776) (hused : t.used.length ≤ 8)
    (B : Option Addr) (m c : Nat) (body : List UInt8) (hb : body.length = m) (hm : m ≤ maxLen) (hB : RB w B body) :
    Calls Tryz.prog 21 #[.pointer (some ⟨P.G, 0, none⟩), .slice B m c] w (CmPost base F w P (commitP d t body)) := by
  have H := Lib.hid h
  have HD := Lib.hid hd
  have K := Lib.hid (stFault_any h)
  have HB := Lib.hid hB
  have HL := Lib.hid hb
  cases hbad : t.bad with
  | true =>
    rw [hbad] at K
    have HF := Lib.hid (show commitP d t body = (d, t, 11) from by unfold commitP; rw [if_pos hbad])
    clear h hd hbad hB hb
    go_enter Tryz.func21, Tryz.ntmps21
    go_wp2_with (first | (go_at_call 60; refine K.out.mono ?_; rintro e w1 ⟨rfl, rfl⟩) | fail)
    go_ret
    rw [HF.out]
    exact ⟨rfl, HD.out, ⟨P, rfl, H.out⟩, Frm.refl _ _⟩
  | false =>
    rw [hbad] at K
    have hmm : m ≤ 9223372036854775807 := by simp only [maxLen] at hm; omega
    by_cases hbig : 700 < m
    · have hdd : decide ((700 : Int) < (m : Int)) = true := decide_eq_true (by omega)
      have HF := Lib.hid (show commitP d t body = (d, t, 5) from by unfold commitP; rw [if_neg (by rw [hbad]; simp), if_pos (by omega)])
      clear h hd hbad hB hb
      go_enter Tryz.func21, Tryz.ntmps21
      go_wp2_with (first | (go_at_call 60; refine K.out.mono ?_; rintro e w1 ⟨rfl, rfl⟩) | fail)
      go_ret
      rw [HF.out]
      exact ⟨rfl, HD.out, ⟨P, rfl, H.out⟩, Frm.refl _ _⟩
    · have hdd : decide ((700 : Int) < (m : Int)) = false := decide_eq_false (by omega)
      have KS := Lib.hid (fun W (hw : Below w.heap.size w W) => stSeen_any (hd.below hw))
      have hsn := d.seen2_le
      have CC := Lib.hid (fun W (hw : Below w.heap.size w W) => And.intro (h.below hw).d0 (And.intro (h.below hw).d4 (And.intro (h.below hw).d5 (And.intro (h.below hw).d9 (h.below hw).d10))))
      have HCT := Lib.hid (fun h3 => commit_turn (d := d) (t := t) (body := body) hbad (by omega) h3)
      have HRG := Lib.hid (show 1099511627776 < max t.gen d.seen2 + 1 → commitP d t body = (d, t, 9) from fun hh => by unfold commitP; rw [if_neg (by rw [hbad]; simp), if_neg (by omega), if_pos hh])
      generalize d.seen2 = sn at *
      have qmax : max (t.gen : Int) (sn : Int) = ((max t.gen sn : Nat) : Int) := by omega
      have hmx : max t.gen sn ≤ 1099511627776 := by omega
      have HMX := Lib.hid (show max t.gen sn = max t.gen sn from rfl)
      generalize hmg : max t.gen sn = mx at *
      have qw : IntKind.i64.wrap ((mx : Int) + 1) = (mx : Int) + 1 := slWrap64 _ (by omega) (by omega)
      have cc := CC.out w.drew (Below.refl _ w).drew
      have BV := Lib.hid (show Below w.heap.size w w.drew from (Below.refl _ w).drew)
      have HBAD := Lib.hid hbad
      clear h hd hbad hB hb hmg
      go_enter Tryz.func21, Tryz.ntmps21
      go_wp2_with (first | (go_at_call 60; refine K.out.mono ?_; rintro e w1 ⟨rfl, rfl⟩) | fail)
      go_region_held3 (fun W => W.cell? ⟨P.G, 0, none⟩ = some (.pointer (some ⟨F.b, 0, none⟩)) ∧ W.cell? ⟨P.G, 4, none⟩ = some (.int .i64 (t.place : Int)) ∧ W.cell? ⟨P.G, 5, none⟩ = some (.int .i64 (t.gen : Int)) ∧ W.cell? ⟨P.G, 9, none⟩ = some (.int .i64 (t.size : Int)) ∧ W.cell? ⟨P.G, 10, none⟩ = some (.slice P.Au t.used.length P.cu)) (first | with_reducible assumption | with_reducible exact cc | with_reducible exact cn | fail)
        (first
          | (go_at_call 57; refine (KS.out _ BV.out).mono ?_; rintro e w2 ⟨rfl, b2⟩; have B2 := Lib.hid (BV.out.trans (b2.mono BV.out.size)); have cn := CC.out w2 B2.out; clear b2)
          | fail)
      all_goals
        by_cases hrg : 1099511627776 < mx + 1
        · have hd2 : decide ((1099511627776 : Int) < (mx : Int) + 1) = true := decide_eq_true (by omega)
          have HF := Lib.hid (HRG.out hrg)
          clear hrg
          go_wp2
          go_ret
          rw [HF.out]
          exact ⟨rfl, HD.out.below B2.out, ⟨P, rfl, H.out.below B2.out⟩, Frm.of_below B2.out⟩
        · have hd2 : decide ((1099511627776 : Int) < (mx : Int) + 1) = false := decide_eq_false (by omega)
          have HF0 := Lib.hid (HCT.out (by omega))
          have KC := Lib.hid (fun W (hw : Below w.heap.size w W) => clone_any B m c body W (by omega) HL.out (HB.out.below hw))
          have q1p : IntKind.i64.wrap (1 - (t.place : Int)) = ((1 - t.place : Nat) : Int) := by rw [slWrap64 _ (by omega) (by omega)]; omega
          obtain ⟨np, hnp⟩ : ∃ np : Nat, np = 1 - t.place := ⟨_, rfl⟩
          have hnp1 : np ≤ 1 := by omega
          rw [← hnp] at q1p HF0
          have HNP := Lib.hid hnp
          have BV3 := Lib.hid (show Below w.heap.size w w2.drew from B2.out.drew)
          have c3 := CC.out w2.drew BV3.out
          have hmx2 : mx + 1 ≤ 1099511627776 := by omega
          clear hrg HCT HRG cc cn hnp
          go_wp2
          have hz2 := heap_size_alloc w2 (.cells #[.int .i64 0, .int .i64 0, .int .i64 0, .slice none 0 0, .slice none 0 0] 107)
          have X2 := Lib.hid (heap_alloc_last w2 (.cells #[.int .i64 0, .int .i64 0, .int .i64 0, .slice none 0 0, .slice none 0 0] 107))
          have BVA := Lib.hid (show Below w.heap.size w (w2.alloc (.cells #[.int .i64 0, .int .i64 0, .int .i64 0, .slice none 0 0, .slice none 0 0] 107)).drew from (B2.out.alloc B2.out.size _).drew)
          go_region_held3 (fun W => W.cell? ⟨P.G, 0, none⟩ = some (.pointer (some ⟨F.b, 0, none⟩)) ∧ W.cell? ⟨P.G, 4, none⟩ = some (.int .i64 (t.place : Int)) ∧ W.cell? ⟨P.G, 5, none⟩ = some (.int .i64 (t.gen : Int)) ∧ W.cell? ⟨P.G, 9, none⟩ = some (.int .i64 (t.size : Int)) ∧ W.cell? ⟨P.G, 10, none⟩ = some (.slice P.Au t.used.length P.cu)) (first | with_reducible assumption | with_reducible exact c3 | with_reducible exact cn | with_reducible exact CC.out _ BVA.out | with_reducible exact CC.out _ (B3.out.alloc B3.out.size _) | with_reducible exact CC.out _ (below5 B3.out HG3.out _ _ _ _ _) | with_reducible exact CC.out _ (below5 (B3.out.alloc B3.out.size _) B3.out.size _ _ _ _ _) | fail)
            (first
              | (go_at_call 68; refine (KC.out _ BV3.out).mono ?_; rintro e w3 ⟨v3, rfl, o3, b3⟩; obtain ⟨A3, c3', rfl, hc3, r3⟩ := o3.form; have B3 := Lib.hid (BV3.out.trans (b3.mono BV3.out.size)); have cn := CC.out w3 B3.out; have O3 := Lib.hid o3; have HC3 := Lib.hid hc3; clear b3 o3 r3 hc3)
              | (go_at_call 68; refine (KC.out _ BVA.out).mono ?_; rintro e w3 ⟨v3, rfl, o3, b3⟩; obtain ⟨A3, c3', rfl, hc3, r3⟩ := o3.form; have B3 := Lib.hid (BVA.out.trans (b3.mono BVA.out.size)); have cn := CC.out w3 B3.out; have O3 := Lib.hid o3; have HC3 := Lib.hid hc3; have X3 := Lib.hid ((b3.block w2.heap.size (show w2.heap.size < (w2.alloc _).heap.size by omega)).trans X2.out); have HG3 := Lib.hid B2.out.size; have y0 := (cell_of_row _ _ 0 _ _ _ X3.out).trans rfl; have y1 := (cell_of_row _ _ 1 _ _ _ X3.out).trans rfl; have y2 := (cell_of_row _ _ 2 _ _ _ X3.out).trans rfl; have y3 := (cell_of_row _ _ 3 _ _ _ X3.out).trans rfl; have y4 := (cell_of_row _ _ 4 _ _ _ X3.out).trans rfl; have f0 := frozen_of' X3.out 0; have f1 := frozen_of' X3.out 1; have f2 := frozen_of' X3.out 2; have f3 := frozen_of' X3.out 3; have f4 := frozen_of' X3.out 4; clear b3 o3 r3 hc3)
              | fail)
          · have BW5 := Lib.hid (show Below w.heap.size w (w3.alloc (.cells #[.int .i64 (np : Int), .int .i64 ((mx : Int) + 1), .int .i64 (t.size : Int), .slice P.Au t.used.length P.cu, .slice A3 body.length c3'] 107)) from B3.out.alloc B3.out.size _)
            have X5 := Lib.hid (heap_alloc_last w3 (.cells #[.int .i64 (np : Int), .int .i64 ((mx : Int) + 1), .int .i64 (t.size : Int), .slice P.Au t.used.length P.cu, .slice A3 body.length c3'] 107))
            have O5 := Lib.hid ((O3.out.lift BV3.out.size).alloc (.cells #[.int .i64 (np : Int), .int .i64 ((mx : Int) + 1), .int .i64 (t.size : Int), .slice P.Au t.used.length P.cu, .slice A3 body.length c3'] 107))
            have HGF := Lib.hid (show ¬ F.has w3.heap.size from fun hx => by have := HD.out.inside _ hx; have := B3.out.size; omega)
            clear cn
            generalize w3.alloc (.cells #[.int .i64 (np : Int), .int .i64 ((mx : Int) + 1), .int .i64 (t.size : Int), .slice P.Au t.used.length P.cu, .slice A3 body.length c3'] 107) = W5 at *
            generalize w3.heap.size = g at *
            have hbl : body.length = m := HL.out
            have HC3' := Lib.hid hbl
            rw [hbl] at O5 X5 ⊢
            have KT := Lib.hid (stTurn_any (HD.out.below BW5.out) (H.out.below BW5.out) (by omega) hlog hsize np hnp1 (mx + 1) (by omega) (by omega) (t.size : Int) P.Au P.cu t.used A3 m c3' body (H.out.below BW5.out).ru hused hbl (by omega) O5.out.reads (fun ad e hl hx => H.out.nu ad e hl (.inl hx)) (fun ad e _ hx => by have := O5.out.at_base.1 ad e; have := HD.out.inside _ hx; omega))
            have KT : Hid (Calls Tryz.prog 69 #[.pointer (some ⟨P.G, 0, none⟩), .agg #[.int .i64 (np : Int), .int .i64 ((mx : Int) + 1), .int .i64 (t.size : Int), .slice P.Au t.used.length P.cu, .slice A3 m c3']] W5 fun e w' => e = .returned (.int .i64 ((d.turn np (mx + 1) (layP t.log t.size t.used body)).2 : Int)) ∧ DkAt base F w' (d.turn np (mx + 1) (layP t.log t.size t.used body)).1 ∧ Frm F.has W5 w') := KT
            have r0 : W5.cell? ⟨g, 0, none⟩ = some (.int .i64 (np : Int)) := (cell_of_row _ _ 0 _ _ _ X5.out).trans rfl
            have r1 : W5.cell? ⟨g, 1, none⟩ = some (.int .i64 ((mx : Int) + 1)) := (cell_of_row _ _ 1 _ _ _ X5.out).trans rfl
            have r2 : W5.cell? ⟨g, 2, none⟩ = some (.int .i64 (t.size : Int)) := (cell_of_row _ _ 2 _ _ _ X5.out).trans rfl
            have r3 : W5.cell? ⟨g, 3, none⟩ = some (.slice P.Au t.used.length P.cu) := (cell_of_row _ _ 3 _ _ _ X5.out).trans rfl
            have r4 : W5.cell? ⟨g, 4, none⟩ = some (.slice A3 m c3') := (cell_of_row _ _ 4 _ _ _ X5.out).trans rfl
            generalize d.turn np (mx + 1) (layP t.log t.size t.used body) = R at *
            obtain ⟨d6, er⟩ := R
            go_wp2_with fail
            refine KT.out.mono ?_
            rintro e w6 ⟨rfl, hd6, f6⟩
            have D6 := Lib.hid hd6
            have F6 := Lib.hid f6
            have S6 := Lib.hid ((H.out.below BW5.out).disk f6)
            have X6 := Lib.hid ((f6.block g (Array.getElem?_eq_some_iff.1 X5.out).1 HGF.out).trans X5.out)
            clear hd6 f6
            have HNG : Hid (RQ w6 P.Au t.used) := Lib.hid S6.out.ru
            have HOB := Lib.hid (O5.out.frm F6.out (fun k hk => HD.out.inside k hk))
            clear r0 r1 r2 r3 r4 KT
            by_cases h0 : er = 0
            · subst h0
              have HF := Lib.hid (HF0.out.trans (if_neg (by simp)))
              have q0 : w6.cell? ⟨g, 0, none⟩ = some (.int .i64 (np : Int)) := (cell_of_row _ _ 0 _ _ _ X6.out).trans rfl
              have q1 : w6.cell? ⟨g, 1, none⟩ = some (.int .i64 ((mx : Int) + 1)) := (cell_of_row _ _ 1 _ _ _ X6.out).trans rfl
              have q2 : w6.cell? ⟨g, 2, none⟩ = some (.int .i64 (t.size : Int)) := (cell_of_row _ _ 2 _ _ _ X6.out).trans rfl
              have q3 : w6.cell? ⟨g, 3, none⟩ = some (.slice P.Au t.used.length P.cu) := (cell_of_row _ _ 3 _ _ _ X6.out).trans rfl
              have q4 : w6.cell? ⟨g, 4, none⟩ = some (.slice A3 m c3') := (cell_of_row _ _ 4 _ _ _ X6.out).trans rfl
              have x4 := S6.out.d4
              have x5 := S6.out.d5
              have x6 := S6.out.d6
              have x7 := S6.out.d7
              have x8 := S6.out.d8
              have f4 := S6.out.fz 4
              have f5 := S6.out.fz 5
              have f6 := S6.out.fz 6
              have f7 := S6.out.fz 7
              have f8 := S6.out.fz 8
              have FS := Lib.hid (fun a0 a1 a2 a3 a4 => show Frm (fun k => k = P.G) w6 (((((w6.setCell ⟨P.G, 4, none⟩ a0).setCell ⟨P.G, 5, none⟩ a1).setCell ⟨P.G, 6, none⟩ a2).setCell ⟨P.G, 7, none⟩ a3).setCell ⟨P.G, 8, none⟩ a4) from
                ((((Frm.setCell (X := fun k => k = P.G) w6 ⟨P.G, 4, none⟩ a0 rfl).trans (Frm.setCell (X := fun k => k = P.G) _ ⟨P.G, 5, none⟩ a1 rfl)).trans (Frm.setCell (X := fun k => k = P.G) _ ⟨P.G, 6, none⟩ a2 rfl)).trans (Frm.setCell (X := fun k => k = P.G) _ ⟨P.G, 7, none⟩ a3 rfl)).trans (Frm.setCell (X := fun k => k = P.G) _ ⟨P.G, 8, none⟩ a4 rfl))
              have FIN : Hid (StAt base F (((((w6.setCell ⟨P.G, 4, none⟩ (.int .i64 (np : Int))).setCell ⟨P.G, 5, none⟩ (.int .i64 ((mx : Int) + 1))).setCell ⟨P.G, 6, none⟩ (.int .i64 (t.size : Int))).setCell ⟨P.G, 7, none⟩ (.slice P.Au t.used.length P.cu)).setCell ⟨P.G, 8, none⟩ (.slice A3 m c3')) { P with Ac := P.Au, cc := P.cu, Ab := A3, cb := c3' } { t with gen := mx + 1, place := np, cts := t.used, body := body }) := Lib.hid (by
                refine S6.out.put rfl (FS.out _ _ _ _ _) ?_ HNG.out HOB.out.reads HNG.out S6.out.ku (by rw [hbl]; rw [← HC3'.out]; exact HC3.out) S6.out.ku S6.out.nu (fun ad e _ hx => ?_) S6.out.nu
                · rw [heap_setCell_block _ (heap_setCell_block _ (heap_setCell_block _ (heap_setCell_block _ (heap_setCell_block _ S6.out.cells))))]
                  unfold stCells
                  rw [hbl]
                  rfl
                · have h1 := O5.out.at_base.1 ad e
                  rcases hx with hx | hx
                  · have := HD.out.inside _ hx; omega
                  · have := H.out.lt; omega)
              go_wp2
              go_ret
              rw [HF.out]
              exact ⟨rfl, D6.out.gset (FS.out _ _ _ _ _) S6.out.gf, ⟨_, by rfl, FIN.out⟩, (Frm.of_below BW5.out).trans (F6.out.wr.trans (FS.out _ _ _ _ _).wrG)⟩
            · have HF := Lib.hid (HF0.out.trans (if_pos h0))
              have hbb : ((er : Int) != 0) = true := by rw [bne_iff_ne]; omega
              have x11 := S6.out.d11
              have f11 := S6.out.fz 11
              clear h0
              go_wp2
              go_ret
              rw [HF.out]
              exact ⟨rfl, D6.out.gset (Frm.setCell w6 _ _ rfl) S6.out.gf, ⟨P, rfl, S6.out.setBad⟩, (Frm.of_below BW5.out).trans (F6.out.wr.trans (Frm.setCell (X := fun k => k = P.G) w6 ⟨P.G, 11, none⟩ (.bool true) rfl).wrG)⟩
          · have hge := B2.out.size
            have hlt2 : w2.heap.size < (w2.alloc (.cells #[.int .i64 0, .int .i64 0, .int .i64 0, .slice none 0 0, .slice none 0 0] 107)).drew.heap.size := by show w2.heap.size < (w2.alloc _).heap.size; omega
            have BW5 := Lib.hid (below5 B3.out hge (.int .i64 (np : Int)) (.int .i64 ((mx : Int) + 1)) (.int .i64 (t.size : Int)) (.slice P.Au t.used.length P.cu) (.slice A3 body.length c3'))
            have X5 := Lib.hid (box5 X3.out (.int .i64 (np : Int)) (.int .i64 ((mx : Int) + 1)) (.int .i64 (t.size : Int)) (.slice P.Au t.used.length P.cu) (.slice A3 body.length c3'))
            have O5 := Lib.hid ((O3.out.box5 hlt2 (.int .i64 (np : Int)) (.int .i64 ((mx : Int) + 1)) (.int .i64 (t.size : Int)) (.slice P.Au t.used.length P.cu) (.slice A3 body.length c3')).lift BVA.out.size)
            have HGF := Lib.hid (show ¬ F.has w2.heap.size from fun hx => by have := HD.out.inside _ hx; omega)
            clear cn y0 y1 y2 y3 y4 f0 f1 f2 f3 f4 hlt2
            generalize ((((w3.setCell ⟨w2.heap.size, 0, none⟩ (.int .i64 (np : Int))).setCell ⟨w2.heap.size, 1, none⟩ (.int .i64 ((mx : Int) + 1))).setCell ⟨w2.heap.size, 2, none⟩ (.int .i64 (t.size : Int))).setCell ⟨w2.heap.size, 3, none⟩ (.slice P.Au t.used.length P.cu)).setCell ⟨w2.heap.size, 4, none⟩ (.slice A3 body.length c3') = W5 at *
            generalize w2.heap.size = g at *
            have hbl : body.length = m := HL.out
            have HC3' := Lib.hid hbl
            rw [hbl] at O5 X5 ⊢
            have KT := Lib.hid (stTurn_any (HD.out.below BW5.out) (H.out.below BW5.out) (by omega) hlog hsize np hnp1 (mx + 1) (by omega) (by omega) (t.size : Int) P.Au P.cu t.used A3 m c3' body (H.out.below BW5.out).ru hused hbl (by omega) O5.out.reads (fun ad e hl hx => H.out.nu ad e hl (.inl hx)) (fun ad e _ hx => by have := O5.out.at_base.1 ad e; have := HD.out.inside _ hx; omega))
            have KT : Hid (Calls Tryz.prog 69 #[.pointer (some ⟨P.G, 0, none⟩), .agg #[.int .i64 (np : Int), .int .i64 ((mx : Int) + 1), .int .i64 (t.size : Int), .slice P.Au t.used.length P.cu, .slice A3 m c3']] W5 fun e w' => e = .returned (.int .i64 ((d.turn np (mx + 1) (layP t.log t.size t.used body)).2 : Int)) ∧ DkAt base F w' (d.turn np (mx + 1) (layP t.log t.size t.used body)).1 ∧ Frm F.has W5 w') := KT
            have r0 : W5.cell? ⟨g, 0, none⟩ = some (.int .i64 (np : Int)) := (cell_of_row _ _ 0 _ _ _ X5.out).trans rfl
            have r1 : W5.cell? ⟨g, 1, none⟩ = some (.int .i64 ((mx : Int) + 1)) := (cell_of_row _ _ 1 _ _ _ X5.out).trans rfl
            have r2 : W5.cell? ⟨g, 2, none⟩ = some (.int .i64 (t.size : Int)) := (cell_of_row _ _ 2 _ _ _ X5.out).trans rfl
            have r3 : W5.cell? ⟨g, 3, none⟩ = some (.slice P.Au t.used.length P.cu) := (cell_of_row _ _ 3 _ _ _ X5.out).trans rfl
            have r4 : W5.cell? ⟨g, 4, none⟩ = some (.slice A3 m c3') := (cell_of_row _ _ 4 _ _ _ X5.out).trans rfl
            generalize d.turn np (mx + 1) (layP t.log t.size t.used body) = R at *
            obtain ⟨d6, er⟩ := R
            go_wp2_with fail
            refine KT.out.mono ?_
            rintro e w6 ⟨rfl, hd6, f6⟩
            have D6 := Lib.hid hd6
            have F6 := Lib.hid f6
            have S6 := Lib.hid ((H.out.below BW5.out).disk f6)
            have X6 := Lib.hid ((f6.block g (Array.getElem?_eq_some_iff.1 X5.out).1 HGF.out).trans X5.out)
            clear hd6 f6
            have HNG : Hid (RQ w6 P.Au t.used) := Lib.hid S6.out.ru
            have HOB := Lib.hid (O5.out.frm F6.out (fun k hk => HD.out.inside k hk))
            clear r0 r1 r2 r3 r4 KT
            by_cases h0 : er = 0
            · subst h0
              have HF := Lib.hid (HF0.out.trans (if_neg (by simp)))
              have q0 : w6.cell? ⟨g, 0, none⟩ = some (.int .i64 (np : Int)) := (cell_of_row _ _ 0 _ _ _ X6.out).trans rfl
              have q1 : w6.cell? ⟨g, 1, none⟩ = some (.int .i64 ((mx : Int) + 1)) := (cell_of_row _ _ 1 _ _ _ X6.out).trans rfl
              have q2 : w6.cell? ⟨g, 2, none⟩ = some (.int .i64 (t.size : Int)) := (cell_of_row _ _ 2 _ _ _ X6.out).trans rfl
              have q3 : w6.cell? ⟨g, 3, none⟩ = some (.slice P.Au t.used.length P.cu) := (cell_of_row _ _ 3 _ _ _ X6.out).trans rfl
              have q4 : w6.cell? ⟨g, 4, none⟩ = some (.slice A3 m c3') := (cell_of_row _ _ 4 _ _ _ X6.out).trans rfl
              have x4 := S6.out.d4
              have x5 := S6.out.d5
              have x6 := S6.out.d6
              have x7 := S6.out.d7
              have x8 := S6.out.d8
              have f4 := S6.out.fz 4
              have f5 := S6.out.fz 5
              have f6 := S6.out.fz 6
              have f7 := S6.out.fz 7
              have f8 := S6.out.fz 8
              have FS := Lib.hid (fun a0 a1 a2 a3 a4 => show Frm (fun k => k = P.G) w6 (((((w6.setCell ⟨P.G, 4, none⟩ a0).setCell ⟨P.G, 5, none⟩ a1).setCell ⟨P.G, 6, none⟩ a2).setCell ⟨P.G, 7, none⟩ a3).setCell ⟨P.G, 8, none⟩ a4) from
                ((((Frm.setCell (X := fun k => k = P.G) w6 ⟨P.G, 4, none⟩ a0 rfl).trans (Frm.setCell (X := fun k => k = P.G) _ ⟨P.G, 5, none⟩ a1 rfl)).trans (Frm.setCell (X := fun k => k = P.G) _ ⟨P.G, 6, none⟩ a2 rfl)).trans (Frm.setCell (X := fun k => k = P.G) _ ⟨P.G, 7, none⟩ a3 rfl)).trans (Frm.setCell (X := fun k => k = P.G) _ ⟨P.G, 8, none⟩ a4 rfl))
              have FIN : Hid (StAt base F (((((w6.setCell ⟨P.G, 4, none⟩ (.int .i64 (np : Int))).setCell ⟨P.G, 5, none⟩ (.int .i64 ((mx : Int) + 1))).setCell ⟨P.G, 6, none⟩ (.int .i64 (t.size : Int))).setCell ⟨P.G, 7, none⟩ (.slice P.Au t.used.length P.cu)).setCell ⟨P.G, 8, none⟩ (.slice A3 m c3')) { P with Ac := P.Au, cc := P.cu, Ab := A3, cb := c3' } { t with gen := mx + 1, place := np, cts := t.used, body := body }) := Lib.hid (by
                refine S6.out.put rfl (FS.out _ _ _ _ _) ?_ HNG.out HOB.out.reads HNG.out S6.out.ku (by rw [hbl]; rw [← HC3'.out]; exact HC3.out) S6.out.ku S6.out.nu (fun ad e _ hx => ?_) S6.out.nu
                · rw [heap_setCell_block _ (heap_setCell_block _ (heap_setCell_block _ (heap_setCell_block _ (heap_setCell_block _ S6.out.cells))))]
                  unfold stCells
                  rw [hbl]
                  rfl
                · have h1 := O5.out.at_base.1 ad e
                  rcases hx with hx | hx
                  · have := HD.out.inside _ hx; omega
                  · have := H.out.lt; omega)
              go_wp2
              go_ret
              rw [HF.out]
              exact ⟨rfl, D6.out.gset (FS.out _ _ _ _ _) S6.out.gf, ⟨_, by rfl, FIN.out⟩, (Frm.of_below BW5.out).trans (F6.out.wr.trans (FS.out _ _ _ _ _).wrG)⟩
            · have HF := Lib.hid (HF0.out.trans (if_pos h0))
              have hbb : ((er : Int) != 0) = true := by rw [bne_iff_ne]; omega
              have x11 := S6.out.d11
              have f11 := S6.out.fz 11
              clear h0
              go_wp2
              go_ret
              rw [HF.out]
              exact ⟨rfl, D6.out.gset (Frm.setCell w6 _ _ rfl) S6.out.gf, ⟨P, rfl, S6.out.setBad⟩, (Frm.of_below BW5.out).trans (F6.out.wr.trans (Frm.setCell (X := fun k => k = P.G) w6 ⟨P.G, 11, none⟩ (.bool true) rfl).wrG)⟩
end Go.Proofs.YtegjeijiekggdaaGreatDoor
end
section
/- The package store: what every right program has behind a lost commit, plain. -/
namespace Go.Proofs.YtegjeijiekggdaaGreatDoor
open Go.RowKit
set_option linter.unusedVariables false
set_option maxRecDepth 1000000
def sm0 : Dk := Dk.new 48
def smB1 : List UInt8 := [1, 8, 1, 8, 0, 0, 0, 0, 0, 0, 0, 0]
def smB2 : List UInt8 := [1, 8, 1, 8, 0, 0, 0, 0, 0, 0, 0, 1, 114]
theorem smLay1 : layP 8 8 [0] [] = smB1 := by
  unfold layP
  rw [putSmall_one (by omega) (by omega)]
  rfl
theorem smLay2 : layP 8 8 [1] [114] = smB2 := by
  unfold layP
  rw [putSmall_one (by omega) (by omega)]
  rfl
def sm1 : Dk := (sm0.putSlot 0 1 smB1).1
def smT1 : Sto := ⟨8, 8, 0, 1, [0], [], [0], false⟩
theorem sm_seen0 : sm0.seen2 = 0 := by kernel_rfl
theorem sm_new : Sto.new 48 8 1 = smT1 := by kernel_rfl
theorem sm_e1 : (sm0.putSlot 0 1 smB1).2 = 0 := by kernel_rfl
theorem sm_format : formatP sm0 8 = (sm1, some smT1, 0) := by
  have h1 : sm0.rows.length = 48 := by kernel_rfl
  have h2 : areaP 48 8 = true := by decide +kernel
  have h3 : smT1.lay = smB1 := smLay1
  unfold formatP
  rw [show sm0.off = false from rfl, if_neg (by simp), h1, if_neg (by rw [show (8 : Int).toNat = 8 from rfl, h2]; simp), sm_seen0, if_neg (by omega), show (8 : Int).toNat = 8 from rfl, show 0 + 1 = 1 from rfl, sm_new, h3, sm_e1, if_neg (by simp)]
  rfl
def smT2 : Sto := ⟨8, 8, 0, 1, [0], [], [1], false⟩
theorem sm_alloc1 : allocP smT1 = (smT2, 0, 0) := by kernel_rfl
def sm3 : Dk := (sm1.bwrite ⟨16, 8⟩ 0 [97, 98]).1
theorem sm_write1 : writeP sm1 smT2 0 [97, 98] = (sm3, smT2, 0) := by
  have h1 : faultP smT2 0 = 0 := by kernel_rfl
  have h2 : hasB (smT2.size : Int) smT2.cts 0 = false := by kernel_rfl
  have h3 : (sm1.bwrite ⟨16, 8⟩ 0 [97, 98]).2 = 0 := by kernel_rfl
  have h4 : smT2.area = ⟨16, 8⟩ := rfl
  unfold writeP
  rw [h1, if_neg (by simp), h2, if_neg (by simp), h4, h3]
  rfl
def sm4 : Dk := (sm3.sync.putSlot 1 2 smB2).1
def smT4 : Sto := ⟨8, 8, 1, 2, [1], [114], [1], false⟩
theorem sm_seen3 : sm3.seen2 = 1 := by kernel_rfl
theorem sm_e3 : sm3.syncErr = 0 := by kernel_rfl
theorem sm_e4 : (sm3.sync.putSlot 1 2 smB2).2 = 0 := by kernel_rfl
theorem sm_commit : commitP sm3 smT2 [114] = (sm4, smT4, 0) := by
  unfold commitP
  rw [show smT2.bad = false from rfl, if_neg (by simp), if_neg (by simp), sm_seen3, show max smT2.gen 1 + 1 = 2 from rfl, if_neg (by omega), sm_e3, if_neg (by simp), show layP smT2.log smT2.size smT2.used [114] = smB2 from smLay2, show 1 - smT2.place = 1 from rfl, sm_e4, if_neg (by simp)]
  rfl
def smT5 : Sto := ⟨8, 8, 1, 2, [1], [114], [3], false⟩
theorem sm_alloc2 : allocP smT4 = (smT5, 1, 0) := by kernel_rfl
theorem sm_write2 : writeP sm4 smT5 0 [] = (sm4, smT5, 11) := by kernel_rfl
def sm7 : Dk := sm4.power []
theorem sm_open : openP sm7 = (some smT4, 0) := by kernel_rfl
theorem sm_read : readP sm7 smT4 0 = (smT4, [97, 98], 0) := by kernel_rfl
theorem sm_room : roomP smT4 = 7 := by kernel_rfl
theorem sm_rank : rankB 8 [1] 8 = 1 := by kernel_rfl
theorem sm_calls : sm0.calls = 0 ∧ sm1.calls = 5 ∧ sm3.calls = 9 ∧ sm4.calls = 15 := by
  refine ⟨?_, ?_, ?_, ?_⟩ <;> kernel_rfl
end Go.Proofs.YtegjeijiekggdaaGreatDoor
end
