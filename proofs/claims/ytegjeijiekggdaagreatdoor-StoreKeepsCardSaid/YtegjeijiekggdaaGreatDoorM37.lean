/- Joined: StK. -/
import Derived.Test.YtegjeijiekggdaaGreatDoorM36
section
/- The package store: Read, Write, Fork. -/
namespace Go.Proofs.YtegjeijiekggdaaGreatDoor
open Go.RowKit
set_option linter.unusedVariables false
set_option linter.unusedSimpArgs false
/-- What Read answers. -/
def RdPost (base : Nat) (F : Ft) (w : World) (d : Dk) (P : Sf) (R : Sto × List UInt8 × Nat) (e : Ending) (w' : World) : Prop :=
  ∃ v, e = .returned (.tuple #[v, .int .i64 (R.2.2 : Int)]) ∧ OB w.heap.size w' v R.2.1 ∧ StAt base F w' P R.1 ∧ DkAt base F w' d ∧ Frm (fun k => k = P.G) w w'
theorem OB.frm {B : Nat} {X : Nat → Prop} {w w' : World} {v : Value} {l : List UInt8} (h : OB B w v l) (hf : Frm X w w') (hx : ∀ k, X k → k < B) : OB B w' v l := by
  unfold OB at h ⊢
  refine ⟨h.1, ?_⟩
  rcases h.2 with h | ⟨g, cap, cur, e, hb, hh, r⟩
  · exact .inl h
  · exact .inr ⟨g, cap, cur, e, hb, (hf.block g (Array.getElem?_eq_some_iff.1 hh).1 (fun hk => by have := hx g hk; omega)).trans hh, r⟩
set_option maxHeartbeats 2000000 in
set_option maxRecDepth 100000 in
theorem stRead_any {base : Nat} {F : Ft} {w : World} {d : Dk} {P : Sf} {t : Sto} (hd : DkAt base F w d) (h : StAt base F w P t) (n : Int) :
    Calls Tryz.prog 17 #[.pointer (some ⟨P.G, 0, none⟩), .int .i64 n] w (RdPost base F w d P (readP d t n)) := by
  have H := Lib.hid h
  have HD := Lib.hid hd
  have HG := Lib.hid h.lt
  have K := Lib.hid (stFaultAt_any h n)
  have HR : Hid (readP d t n = if faultP t n ≠ 0 then (t, [], faultP t n) else (t.noted (d.bread t.area n).2, (d.bread t.area n).1, (d.bread t.area n).2)) := rfl
  by_cases hb : faultP t n = 0
  · rw [hb] at K
    have HF := Lib.hid (HR.out.trans (if_neg (by rw [hb]; simp)))
    have KB := Lib.hid (fun W (hw : Below w.heap.size w W) => bread_any (hd.below hw) t.area n)
    have KB : Hid (∀ W, Below w.heap.size w W → Calls Tryz.prog 65 #[.pointer (some ⟨F.b, 0, none⟩), .agg #[.int .i64 (8 + (t.log : Int)), .int .i64 (t.size : Int)], .int .i64 n] W fun e w' => ∃ v, e = .returned (.tuple #[v, .int .i64 ((d.bread t.area n).2 : Int)]) ∧ OB W.heap.size w' v (d.bread t.area n).1 ∧ Below W.heap.size W w') := KB
    have CC := Lib.hid (fun W (hw : Below w.heap.size w W) => And.intro (h.below hw).d0 (And.intro (h.below hw).d2 (h.below hw).d3))
    have KN := Lib.hid (fun W (hw : Below w.heap.size w W) er => note_any (h.below hw) er)
    generalize d.bread t.area n = R at *
    obtain ⟨rb, er⟩ := R
    clear h hd hb HR
    go_enter Tryz.func17, Tryz.ntmps17
    go_wp2_with (first | (go_at_call 64; refine K.out.mono ?_; rintro e w1 ⟨rfl, b1⟩; have B1 := Lib.hid b1; have BV := Lib.hid (show Below w.heap.size w w1.drew from b1.drew); have cc := CC.out w1.drew BV.out; clear b1) | fail)
    go_region_held3 (fun W => W.cell? ⟨P.G, 0, none⟩ = some (.pointer (some ⟨F.b, 0, none⟩)) ∧ W.cell? ⟨P.G, 2, none⟩ = some (.int .i64 (8 + (t.log : Int))) ∧ W.cell? ⟨P.G, 3, none⟩ = some (.int .i64 (t.size : Int))) (first | with_reducible assumption | with_reducible exact cc | with_reducible exact cn | fail)
      (first
        | (go_at_call 65; refine (KB.out _ BV.out).mono ?_; rintro e w2 ⟨v2, rfl, o2, b2⟩; have B2 := Lib.hid (BV.out.trans (b2.mono BV.out.size)); have cn := CC.out w2 B2.out; have O2 := Lib.hid (o2.lift BV.out.size); obtain ⟨A2, c2, rfl, hc2, r2⟩ := o2.form; clear b2 o2 hc2 r2)
        | fail)
    all_goals
      clear cc cn
      go_wp2_with (first | (go_at_call 66; refine (KN.out _ B2.out er).mono ?_; rintro e w3 ⟨rfl, s3, f3⟩) | fail)
      go_ret2
      rw [HF.out]
      exact ⟨_, rfl, O2.out.frm f3 (fun k e => by rw [e]; exact HG.out), s3, (HD.out.below B2.out).gset f3 H.out.gf, Frm.trans (Frm.of_below B2.out) f3⟩
  · have HF := Lib.hid (HR.out.trans (if_pos hb))
    have hne : ((faultP t n : Int) != 0) = true := by rw [bne_iff_ne]; omega
    generalize faultP t n = f at *
    clear h hd hb HR
    go_enter Tryz.func17, Tryz.ntmps17
    go_wp2_with (first | (go_at_call 64; refine K.out.mono ?_; rintro e w1 ⟨rfl, b1⟩; have B1 := Lib.hid b1; clear b1) | fail)
    go_ret2
    rw [HF.out]
    exact ⟨_, rfl, OB.nil, H.out.below B1.out, HD.out.below B1.out, Frm.of_below B1.out⟩
theorem stRead_nil (n : Int) (w : World) : Calls Tryz.prog 17 #[.pointer none, .int .i64 n] w fun e w' => e = .returned (.tuple #[.slice none 0 0, .int .i64 1]) ∧ w = w' := by
  go_enter Tryz.func17, Tryz.ntmps17
  go_wp2_with (go_at_call 64; refine (stFaultAt_nil _ _).mono ?_; rintro e w1 ⟨rfl, rfl⟩)
  go_ret2
  exact ⟨rfl, rfl⟩
/-- What Write answers. -/
def WtPost (base : Nat) (F : Ft) (w : World) (P : Sf) (R : Dk × Sto × Nat) (e : Ending) (w' : World) : Prop :=
  e = .returned (.int .i64 (R.2.2 : Int)) ∧ DkAt base F w' R.1 ∧ StAt base F w' P R.2.1 ∧ Frm (Wr F P.G) w w'
set_option maxHeartbeats 2000000 in
set_option maxRecDepth 100000 in
theorem stWrite_any {base : Nat} {F : Ft} {w : World} {d : Dk} {P : Sf} {t : Sto} (hd : DkAt base F w d) (h : StAt base F w P t) (hcalls : d.calls < 4611686018427387900) (n : Int) (A : Option Addr) (m c : Nat) (l : List UInt8) (hl : l.length = m) (hm : m ≤ 1099511627776) (hr : RB w A l) :
    Calls Tryz.prog 19 #[.pointer (some ⟨P.G, 0, none⟩), .int .i64 n, .slice A m c] w (WtPost base F w P (writeP d t n l)) := by
  have H := Lib.hid h
  have HD := Lib.hid hd
  have K := Lib.hid (stFaultAt_any h n)
  have HW : Hid (writeP d t n l = if faultP t n ≠ 0 then (d, t, faultP t n) else if hasB (t.size : Int) t.cts n = true then (d, t, 11)
    else ((d.bwrite t.area n l).1, t.noted (d.bwrite t.area n l).2, (d.bwrite t.area n l).2)) := rfl
  by_cases hb : faultP t n = 0
  · rw [hb] at K
    have HF0 := Lib.hid (HW.out.trans (if_neg (by rw [hb]; simp)))
    have KH := Lib.hid (fun W (hw : Below w.heap.size w W) => qHas_any (t.size : Int) P.Ac P.cc t.cts n W (h.below hw).rc)
    have C6 := Lib.hid (fun W (hw : Below w.heap.size w W) => And.intro (h.below hw).d6 (h.below hw).d7)
    cases hc : hasB (t.size : Int) t.cts n with
    | true =>
      rw [hc] at KH
      have HF := Lib.hid (HF0.out.trans (if_pos hc))
      generalize t.cts.length = nc at *
      clear h hd hb HW hc
      go_enter Tryz.func19, Tryz.ntmps19
      go_wp2_with (first | (go_at_call 64; refine K.out.mono ?_; rintro e w1 ⟨rfl, b1⟩; have B1 := Lib.hid b1; obtain ⟨x6, x7⟩ := C6.out w1 b1; clear b1) | (go_at_call 34; refine (KH.out _ B1.out).mono ?_; rintro e w2 ⟨rfl, b2⟩; have B2 := Lib.hid (B1.out.trans (b2.mono B1.out.size)); clear b2) | fail)
      go_ret
      rw [HF.out]
      exact ⟨rfl, HD.out.below B2.out, H.out.below B2.out, Frm.of_below B2.out⟩
    | false =>
      rw [hc] at KH
      have HF := Lib.hid (HF0.out.trans (if_neg (by rw [hc]; simp)))
      have KB := Lib.hid (fun W (hw : Below w.heap.size w W) => bwrite_any (hd.below hw) hcalls t.area n A m c l hl hm (hr.below hw))
      have KB : Hid (∀ W, Below w.heap.size w W → Calls Tryz.prog 67 #[.pointer (some ⟨F.b, 0, none⟩), .agg #[.int .i64 (8 + (t.log : Int)), .int .i64 (t.size : Int)], .int .i64 n, .slice A m c] W fun e w' => e = .returned (.int .i64 ((d.bwrite t.area n l).2 : Int)) ∧ DkAt base F w' (d.bwrite t.area n l).1 ∧ Frm F.has W w') := KB
      have CC := Lib.hid (fun W (hw : Frm F.has w W) => And.intro (h.disk hw).d0 (And.intro (h.disk hw).d2 (h.disk hw).d3))
      have KN := Lib.hid (fun W (hw : Frm F.has w W) er => note_any (h.disk hw) er)
      generalize d.bwrite t.area n l = R at *
      obtain ⟨d2, er⟩ := R
      generalize t.cts.length = nc at *
      clear h hd hb HW hc
      go_enter Tryz.func19, Tryz.ntmps19
      go_wp2_with (first | (go_at_call 64; refine K.out.mono ?_; rintro e w1 ⟨rfl, b1⟩; have B1 := Lib.hid b1; obtain ⟨x6, x7⟩ := C6.out w1 b1; clear b1) | (go_at_call 34; refine (KH.out _ B1.out).mono ?_; rintro e w2 ⟨rfl, b2⟩; have B2 := Lib.hid (B1.out.trans (b2.mono B1.out.size)); have BV := Lib.hid (show Below w.heap.size w w2.drew from B2.out.drew); have cc := CC.out w2.drew (Frm.of_below BV.out); clear b2) | fail)
      go_region_held3 (fun W => W.cell? ⟨P.G, 0, none⟩ = some (.pointer (some ⟨F.b, 0, none⟩)) ∧ W.cell? ⟨P.G, 2, none⟩ = some (.int .i64 (8 + (t.log : Int))) ∧ W.cell? ⟨P.G, 3, none⟩ = some (.int .i64 (t.size : Int))) (first | with_reducible assumption | with_reducible exact cc | with_reducible exact cn | fail)
        (first
          | (go_at_call 67; refine (KB.out _ BV.out).mono ?_; rintro e w3 ⟨rfl, d3, f3⟩; have F3 := Lib.hid (Frm.trans (Frm.of_below BV.out) f3); have cn := CC.out w3 F3.out; have D3 := Lib.hid d3; clear d3 f3)
          | fail)
      all_goals
        clear cc cn x6 x7
        go_wp2_with (first | (go_at_call 66; refine (KN.out _ F3.out er).mono ?_; rintro e w4 ⟨rfl, s4, f4⟩) | fail)
        go_ret
        rw [HF.out]
        exact ⟨rfl, D3.out.gset f4 H.out.gf, s4, (F3.out.wr).trans f4.wrG⟩
  · have HF := Lib.hid (HW.out.trans (if_pos hb))
    have hne : ((faultP t n : Int) != 0) = true := by rw [bne_iff_ne]; omega
    generalize faultP t n = f at *
    clear h hd hb HW
    go_enter Tryz.func19, Tryz.ntmps19
    go_wp2_with (first | (go_at_call 64; refine K.out.mono ?_; rintro e w1 ⟨rfl, b1⟩; have B1 := Lib.hid b1; clear b1) | fail)
    go_ret
    rw [HF.out]
    exact ⟨rfl, HD.out.below B1.out, H.out.below B1.out, Frm.of_below B1.out⟩
theorem stWrite_nil (n : Int) (v : Value) (w : World) : Calls Tryz.prog 19 #[.pointer none, .int .i64 n, v] w fun e w' => e = .returned (.int .i64 1) ∧ w = w' := by
  go_enter Tryz.func19, Tryz.ntmps19
  go_wp2_with (go_at_call 64; refine (stFaultAt_nil _ _).mono ?_; rintro e w1 ⟨rfl, rfl⟩)
  go_ret
  exact ⟨rfl, rfl⟩
set_option maxHeartbeats 2000000 in
set_option maxRecDepth 100000 in
theorem stFork_any {base base' : Nat} {F F' : Ft} {w : World} {d : Dk} {P : Sf} {t : Sto} (h : StAt base F w P t) (hd : DkAt base' F' w d) (hn : ∀ k, F'.has k → ∀ ad, (P.Ac = some ad → t.cts ≠ [] → ad.block ≠ k) ∧ (P.Ab = some ad → t.body ≠ [] → ad.block ≠ k) ∧ (P.Au = some ad → t.used ≠ [] → ad.block ≠ k)) :
    Calls Tryz.prog 13 #[.pointer (some ⟨P.G, 0, none⟩), .pointer (some ⟨F'.b, 0, none⟩)] w fun e w' => ∃ P', e = .returned (.pointer (some ⟨P'.G, 0, none⟩)) ∧ StAt w.heap.size F' w' P' t ∧ Below w.heap.size w w' := by
  have H := Lib.hid h
  have K := Lib.hid (none_any h)
  have HIN := Lib.hid (show ∀ k, F'.has k → k < w.heap.size from hd.inside)
  have x0 := h.d0; have x1 := h.d1; have x2 := h.d2; have x3 := h.d3; have x4 := h.d4; have x5 := h.d5; have x6 := h.d6; have x7 := h.d7; have x8 := h.d8; have x9 := h.d9; have x10 := h.d10; have x11 := h.d11
  have HN := Lib.hid hn
  have X0 := Lib.hid (heap_alloc_last w (.cells #[.pointer (some ⟨F.b, 0, none⟩), .int .i64 (t.log : Int), .int .i64 (8 + (t.log : Int)), .int .i64 (t.size : Int), .int .i64 (t.place : Int), .int .i64 (t.gen : Int), .int .i64 (t.size : Int), .slice P.Ac t.cts.length P.cc, .slice P.Ab t.body.length P.cb, .int .i64 (t.size : Int), .slice P.Au t.used.length P.cu, .bool t.bad] 109))
  clear h hd hn
  go_enter Tryz.func13, Tryz.ntmps13
  go_wp2_with (first | (go_at_call 52; refine K.out.mono ?_; rintro e w1 ⟨rfl, rfl⟩) | fail)
  have X1 := heap_alloc_last w (.cells #[.pointer (some ⟨F'.b, 0, none⟩), .int .i64 (t.log : Int), .int .i64 (8 + (t.log : Int)), .int .i64 (t.size : Int), .int .i64 (t.place : Int), .int .i64 (t.gen : Int), .int .i64 (t.size : Int), .slice P.Ac t.cts.length P.cc, .slice P.Ab t.body.length P.cb, .int .i64 (t.size : Int), .slice P.Au t.used.length P.cu, .bool t.bad] 109)
  go_ret
  have h := H.out
  have nq : ∀ {A : Option Addr} {l : List UInt64}, RQ w A l → ∀ ad, A = some ad → l ≠ [] → ad.block < w.heap.size := fun {A l} hr ad e hl => by
    rcases hr with hr | ⟨ad', e', hc⟩
    · exact absurd hr hl
    · rw [e] at e'; injection e' with e'; subst e'
      cases l with
      | nil => exact absurd rfl hl
      | cons y ys => have := lt_of_cell (hc 0 y rfl); rwa [block_of_add] at this
  have nb : ∀ {A : Option Addr} {l : List UInt8}, RB w A l → ∀ ad, A = some ad → l ≠ [] → ad.block < w.heap.size := fun {A l} hr ad e hl => by
    rcases hr with hr | ⟨ad', e', hc⟩
    · exact absurd hr hl
    · rw [e] at e'; injection e' with e'; subst e'
      cases l with
      | nil => exact absurd rfl hl
      | cons y ys => have := lt_of_cell (hc 0 y rfl); rwa [block_of_add] at this
  refine ⟨⟨w.heap.size, P.Ac, P.cc, P.Ab, P.cb, P.Au, P.cu⟩, rfl, ⟨Nat.le_refl _, fun hx => absurd (HIN.out _ hx) (Nat.lt_irrefl _), X1, h.rc.alloc _, h.rb.alloc _, h.ru.alloc _, h.kc, h.kb, h.ku, fun ad e hl hx => ?_, fun ad e hl hx => ?_, fun ad e hl hx => ?_⟩, (Below.refl _ w).alloc (Nat.le_refl _) _⟩
  · rcases hx with hx | hx
    · exact (HN.out _ hx ad).1 e hl rfl
    · exact absurd hx (Nat.ne_of_lt (nq h.rc ad e hl))
  · rcases hx with hx | hx
    · exact (HN.out _ hx ad).2.1 e hl rfl
    · exact absurd hx (Nat.ne_of_lt (nb h.rb ad e hl))
  · rcases hx with hx | hx
    · exact (HN.out _ hx ad).2.2 e hl rfl
    · exact absurd hx (Nat.ne_of_lt (nq h.ru ad e hl))
theorem stFork_nil (v : Value) (w : World) : Calls Tryz.prog 13 #[.pointer none, v] w fun e w' => e = .returned (.pointer none) ∧ w = w' := by
  go_enter Tryz.func13, Tryz.ntmps13
  go_wp2_with (go_at_call 52; refine (none_nil _).mono ?_; rintro e w1 ⟨rfl, rfl⟩)
  go_ret
  exact ⟨rfl, rfl⟩
end Go.Proofs.YtegjeijiekggdaaGreatDoor
end
