/- The law VisibleCommits: the way on which nothing is refused. -/
import Derived.Test.YtjmmaghjbaigiaaVbZ
import Derived.Test.YtjmmaghjbaigiaaVsN
import Derived.Test.YtjmmaghjbaigiaaVsE
import Derived.Test.YtjmmaghjbaigiaaVsH
import Derived.Test.YtjmmaghjbaigiaaVsK
import Derived.Test.YtjmmaghjbaigiaaVsS
import Derived.Test.YtjmmaghjbaigiaaVbW
import Derived.Deep.DeepMust
namespace Go.Proofs.Ytjmmaghjbaigiaa
open Go.RowKit
set_option linter.unusedVariables false
set_option linter.unusedSimpArgs false
theorem vb_own' {l : List Vn} {v : Vn} (h : vsO l) (hr : vbRoom l v.txn = true) (h0 : 0 ≤ v.txn) (hg : v.gone = true → v.val = ⟨#[]⟩) (t : Int) : vbRd (vsWrite l v) v.txn t = (v.val, !v.gone) := by
  have hr' : vsHas l v.txn = true ∨ l.length < 8 := by
    unfold vbRoom at hr
    simp only [Bool.or_eq_true, Bool.and_eq_true, decide_eq_true_eq] at hr
    rcases hr with hr | hr
    · exact .inr hr
    · exact .inl hr.2
  rw [vb_write_own h hr' h0]
  cases e : v.gone with
  | true => rw [hg e]; rfl
  | false => rfl
theorem vb_room' {l : List Vn} {me : Int} (hr : vbRoom l me = true) : vsHas l me = true ∨ l.length < 8 := by
  unfold vbRoom at hr
  simp only [Bool.or_eq_true, Bool.and_eq_true, decide_eq_true_eq] at hr
  rcases hr with hr | hr
  · exact .inr hr
  · exact .inl hr.2
/-- What the walk wants of a stack, a version and a time that is later than all. -/
structure CmW (l : List Vn) (v : Vn) (me z y : Int) (val2 : ByteArray) (is2 : Bool) (f : ByteArray) (u : Bool) (g : ByteArray) (t : Bool) : Prop where
  a : vbRd l me z = (val2, is2)
  b : vbRd (vsWrite l v) me z = (val2, is2)
  c : vbRd (vsCommit (vsWrite l v) v.txn z) me z = (f, u)
  d : vbRd (vsCommit (vsWrite l v) v.txn z) me y = (g, t)
  e : vbRd l me y = (g, t)
  n : vbNewer (vsCommit (vsWrite l v) v.txn z) me y = true
  w : (0 ≤ me ∧ vsHas l me = true → f = val2 ∧ u = is2) ∧ (¬ (0 ≤ me ∧ vsHas l me = true) → f = v.val ∧ u = !v.gone)
theorem cmW_ex {l : List Vn} {v : Vn} {me z : Int} (h : vsO l) (hr : vbRoom l v.txn = true) (hm : me ≠ v.txn) (hz : 1 ≤ z) (hg : v.gone = true → v.val = ⟨#[]⟩) : ∃ val2 is2 f u g t, CmW l v me z (z - 1) val2 is2 f u g t := by
  obtain ⟨h1, h2, h3⟩ := vb_commits (l := l) (v := v) (me := me) (top := z) h (vb_room' hr) hm hz
  refine ⟨(vbRd l me z).1, (vbRd l me z).2, (vbRd (vsCommit (vsWrite l v) v.txn z) me z).1, (vbRd (vsCommit (vsWrite l v) v.txn z) me z).2, (vbRd l me (z - 1)).1, (vbRd l me (z - 1)).2, ⟨rfl, vb_write_other h hm z, rfl, h2, rfl, h3, ?_⟩⟩
  rw [h1]
  constructor
  · intro e; rw [if_pos e]; exact ⟨rfl, rfl⟩
  · intro e
    rw [if_neg e]
    cases e : v.gone with
    | true => rw [hg e]; exact ⟨rfl, rfl⟩
    | false => exact ⟨rfl, rfl⟩
set_option maxHeartbeats 4000000 in
set_option maxRecDepth 100000 in
theorem visibleCommits_main (key : ByteArray) (A : Option Addr) (n c : Nat) (l : List Vn) (vt vts : Int) (vg : Bool) (vv : ByteArray) (me : Int) (w : World) (hl : l.length = n) (hn12 : n ≤ 12) (hnc : n ≤ c) (hr : RG KV w A l) (hlt : vsLight key l = true)
    (h24 : ¬ 24 < vv.size) (hge : vg = true → vv = ⟨#[]⟩) (hck : vsCheck key l = 0) (ht0 : 0 ≤ vt) (hme : me ≠ vt) (hrm : vbRoom l vt = true) :
    Calls Try.prog 7 #[.agg #[.string key, .slice A n c], .agg #[.int .i64 vt, .int .i64 vts, .bool vg, .string vv], .int .i64 me] w fun e w' => e = .returned (.bool true) ∧ Below w.heap.size w w' := by
  have KA := Lib.hid (fun W => vbAwake_any W)
  have KL := Lib.hid (fun W (h : Below w.heap.size w W) => vsLight_any key A n c l W hl (Nat.le_trans hn12 (by decide)) (hr.below h))
  have KC := Lib.hid (fun W (h : Below w.heap.size w W) => vsCheck_any key A n c l W hl (by omega) hnc (hr.below h))
  have KM := Lib.hid (fun W (h : Below w.heap.size w W) => vbRoom_any key A n c l vt W hl (by omega) (hr.below h))
  rw [hlt] at KL
  rw [hck] at KC
  rw [hrm] at KM
  obtain ⟨_, hn8, hfz, hord⟩ := vsCheck_zero.1 hck
  have HX := Lib.hid (fun z (hz : 1 ≤ z) => cmW_ex (v := (⟨vt, vts, vg, vv⟩ : Vn)) (z := z) hord hrm hme hz hge)
  have HW1 := vb_own' (v := (⟨vt, vts, vg, vv⟩ : Vn)) hord hrm ht0 hge 0
  dsimp only at HW1
  have HWL := Lib.hid (show (vsWrite l (⟨vt, vts, vg, vv⟩ : Vn)).length ≤ 8 from vsWrite_len l (⟨vt, vts, vg, vv⟩ : Vn) hn8)
  have HCL := Lib.hid (fun z => show (vsCommit (vsWrite l (⟨vt, vts, vg, vv⟩ : Vn)) vt z).length ≤ 8 from by rw [vsCommit_len]; exact vsWrite_len l (⟨vt, vts, vg, vv⟩ : Vn) hn8)
  have HTS := Lib.hid (fun (k : Nat) (x : Vn) (hx : l[k]? = some x) => (vsFault_zero.1 (hfz x (List.mem_of_getElem? hx))).2.2.2)
  have HR := Lib.hid (fun W (h : Below w.heap.size w W) => hr.below h)
  have HL := Lib.hid hl
  have HB := Lib.hid (below2 w (.cells #[.string key, .slice A n c] 24) (.cells #[.int .i64 vt, .int .i64 vts, .bool vg, .string vv] 66))
  have S := Lib.hid (((RowB.new (key := key) (c := c) hr hl).on (below1 _ (.cells #[.int .i64 vt, .int .i64 vts, .bool vg, .string vv] 66))))
  have V : Hid (VnBox ((w.alloc (.cells #[.string key, .slice A n c] 24)).alloc (.cells #[.int .i64 vt, .int .i64 vts, .bool vg, .string vv] 66)) (w.heap.size + 1) (⟨vt, vts, vg, vv⟩ : Vn)) := Lib.hid (by
    have := VnBox.new (w.alloc (.cells #[.string key, .slice A n c] 24)) (⟨vt, vts, vg, vv⟩ : Vn) 66
    rw [heap_size_alloc] at this
    exact this)
  have P2 := Lib.hid (fun (W : World) (h : RowB W w.heap.size key A n c l) => stkCalls' (vsWrite_any key A n c l (⟨vt, vts, vg, vv⟩ : Vn) W h.ln (by omega) h.r))
  unfold Vn.v at P2
  dsimp only at P2
  have R9 := Lib.hid (fun (W : World) (q : Nat) (A2 : Option Addr) (m d : Nat) (h : RowB W q key A2 m d (vsWrite l (⟨vt, vts, vg, vv⟩ : Vn))) => vbRead_any key A2 m d _ vt 0 W h.ln (by have := h.ln; have := HWL.out; omega) h.r)
  rw [HW1] at R9
  have R10 := Lib.hid (fun (z : Int) (W : World) (q : Nat) (A2 : Option Addr) (m d : Nat) (h : RowB W q key A2 m d (vsWrite l (⟨vt, vts, vg, vv⟩ : Vn))) => vbRead_any key A2 m d _ me z W h.ln (by have := h.ln; have := HWL.out; omega) h.r)
  have R11 := Lib.hid (fun (z : Int) (W : World) (h : RowB W w.heap.size key A n c l) => vbRead_any key A n c l me z W h.ln (by omega) h.r)
  have P3 := Lib.hid (fun (z : Int) (W : World) (q : Nat) (A2 : Option Addr) (m d : Nat) (h : RowB W q key A2 m d (vsWrite l (⟨vt, vts, vg, vv⟩ : Vn))) => stkCalls' (vsCommit_any key A2 m d _ vt z W h.ln (by have := h.ln; have := HWL.out; omega) h.r))
  have P1 := Lib.hid (fun (W : World) (h : RowB W w.heap.size key A n c l) => vsPendingT_any key A n c l me W h.ln (by omega) h.r)
  have R16 := Lib.hid (fun (z y : Int) (W : World) (q : Nat) (A2 : Option Addr) (m d : Nat) (h : RowB W q key A2 m d (vsCommit (vsWrite l (⟨vt, vts, vg, vv⟩ : Vn)) vt z)) => vbRead_any key A2 m d _ me y W h.ln (by have := h.ln; have := HCL.out z; omega) h.r)
  have N21 := Lib.hid (fun (z y : Int) (W : World) (q : Nat) (A2 : Option Addr) (m d : Nat) (h : RowB W q key A2 m d (vsCommit (vsWrite l (⟨vt, vts, vg, vv⟩ : Vn)) vt z)) => vbNewer_any key A2 m d _ me y W h.ln (by have := h.ln; have := HCL.out z; omega) h.r)
  generalize vsGot l me = gv at P1
  obtain ⟨gt, gs, gg, gl⟩ := gv
  unfold Vn.v at P1
  dsimp only at P1
  have h24' : decide ((24 : Int) < (vv.size : Int)) = false := by simp; omega
  have d2 : decide (vt < 0) = false := by simp; omega
  have d3 : (me == vt) = false := by rw [beq_eq_false_iff_ne]; exact hme
  have hn8' : n ≤ 8 := by omega
  clear hl hr hlt h24 hck hrm hn8 hfz hord hme hn12 HW1
  cases vg with
  | false =>
    clear hge
    go_enter Try.func7, Try.ntmps7
    go_upto_region 1 with fail
    generalize (w.alloc (.cells #[.string key, .slice A n c] 24)).alloc (.cells #[.int .i64 vt, .int .i64 vts, .bool false, .string vv] 66) = W0 at *
    have s0 := S.out.s.c0; have s1 := S.out.s.c1; obtain ⟨v0, v1, v2, v3, _, _, _, _⟩ := V.out; (try dsimp only at v0 v1 v2 v3)
    go_upto_region 4 with (first
      | (go_at_call 8; refine (KL.out _ HB.out).mono ?_; rintro e w1 ⟨rfl, b1⟩; have S := Lib.hid (S.out.on b1); have V := Lib.hid (V.out.on b1); have s0 := S.out.s.c0; have s1 := S.out.s.c1; obtain ⟨v0, v1, v2, v3, _, _, _, _⟩ := V.out; (try dsimp only at v0 v1 v2 v3); have HB := Lib.hid (HB.out.trans (b1.mono HB.out.size)); clear b1)
      | (go_at_call 27; refine (KC.out _ HB.out).mono ?_; rintro e w2 ⟨rfl, b1⟩; have S := Lib.hid (S.out.on b1); have V := Lib.hid (V.out.on b1); have s0 := S.out.s.c0; have s1 := S.out.s.c1; obtain ⟨v0, v1, v2, v3, _, _, _, _⟩ := V.out; (try dsimp only at v0 v1 v2 v3); have HB := Lib.hid (HB.out.trans (b1.mono HB.out.size)); clear b1)
      | (go_at_call 32; refine (KM.out _ HB.out).mono ?_; rintro e w3 ⟨rfl, b1⟩; have S := Lib.hid (S.out.on b1); have V := Lib.hid (V.out.on b1); have s0 := S.out.s.c0; have s1 := S.out.s.c1; obtain ⟨v0, v1, v2, v3, _, _, _, _⟩ := V.out; (try dsimp only at v0 v1 v2 v3); have HB := Lib.hid (HB.out.trans (b1.mono HB.out.size)); clear b1)
      | fail)
    clear v0 v1 v2 v3 d2 d3 h24'
    have s0 := S.out.s.c0; have s1 := S.out.s.c1
    go_wp2
    clear s0 s1
    go_loopw [7, 8] (fun tp i wr => ∃ (k : Nat) (z : Int), k ≤ n ∧ i = .int .i64 (k : Int) ∧ tp = .int .i64 z ∧ 1 ≤ z ∧ z ≤ 1099511627777 ∧ Below w.heap.size w wr ∧ RowB wr w.heap.size key A n c l ∧ VnBox wr (w.heap.size + 1) (⟨vt, vts, false, vv⟩ : Vn)) (fun _ i _ => n - (intOf i).toNat)
    case atStart => exact ⟨0, 1, Nat.zero_le _, rfl, rfl, by omega, by omega, HB.out, S.out, V.out⟩
    case round =>
      clear S V HB
      obtain ⟨k, z, hk, rfl, rfl, hz1, hz2, hb, hs, hvb⟩ := hrel
      have HB := Lib.hid hb; have S := Lib.hid hs; have V := Lib.hid hvb
      clear hb hs hvb
      have s0 := S.out.s.c0; have s1 := S.out.s.c1
      by_cases hlt : k < n
      · obtain ⟨x, hx⟩ : ∃ x, l[k]? = some x := ⟨l[k]'(by rw [HL.out]; exact hlt), List.getElem?_eq_getElem _⟩
        obtain ⟨ad, rfl, hv⟩ := (HR.out _ HB.out).vn hx
        have c1 := hv.d1
        obtain ⟨t1, t2⟩ := HTS.out k x hx
        have wx : IntKind.i64.wrap (x.ts + 1) = x.ts + 1 := IntWalk.i64_in _ (by omega)
        have HZ1 := Lib.hid hz1; have HZ2 := Lib.hid hz2; have HT1 := Lib.hid t1; have HT2 := Lib.hid t2
        generalize x.ts = xt at *
        clear hv hx hz1 hz2 t1 t2
        go_wp2
        go_round
        case rel =>
          have h1 := HZ1.out; have h2 := HZ2.out; have h3 := HT1.out; have h4 := HT2.out
          refine ⟨k + 1, _, by omega, by go_num, rfl, ?_, ?_, HB.out, S.out, V.out⟩
          · split <;> omega
          · split <;> omega
        case measure => simp [intOf]; omega
      · obtain rfl : k = n := by omega
        obtain ⟨val2, is2, f, u, g, t, HC⟩ := HX.out z hz1
        obtain ⟨y, hy⟩ : ∃ y, y = z - 1 := ⟨_, rfl⟩
        rw [← hy] at HC
        have wy : IntKind.i64.wrap (z - 1) = y := by rw [hy]; exact IntWalk.i64_in _ (by omega)
        have R10 := Lib.hid (R10.out z); have R11a := Lib.hid (R11.out z); have R11b := Lib.hid (R11.out y); have P3 := Lib.hid (P3.out z); have R16a := Lib.hid (R16.out z z); have R16b := Lib.hid (R16.out z y); have N21 := Lib.hid (N21.out z y)
        rw [HC.b] at R10; rw [HC.a] at R11a; rw [HC.e] at R11b; rw [HC.c] at R16a; rw [HC.d] at R16b; rw [HC.n] at N21
        have HCW := Lib.hid HC.w
        clear HC hy hz1 hz2 HX R11 R16
        dsimp only at R10 R11a R11b R16a R16b HCW
        obtain ⟨v0, v1, v2, v3, _, _, _, _⟩ := V.out; (try dsimp only at v0 v1 v2 v3)
        go_upto_region 9 with (first | (go_at_call 33; refine (P2.out _ S.out).mono ?_; rintro e w4 ⟨A4, n4, c4, rfl, e4, hc4, r4, b1⟩; have Wb := Lib.hid (RowB.new (key := key) (c := c4) r4 e4); have S := Lib.hid (S.out.on b1); have V := Lib.hid (V.out.on b1); have HB := Lib.hid (HB.out.trans (b1.mono HB.out.size)); clear b1 e4 hc4 r4) | fail)
        have S := Lib.hid (S.out.alloc (.cells #[.string key, .slice A4 n4 c4] 24))
        have V := Lib.hid (V.out.alloc (.cells #[.string key, .slice A4 n4 c4] 24))
        have HB := Lib.hid (HB.out.alloc HB.out.size (.cells #[.string key, .slice A4 n4 c4] 24))
        generalize w4.alloc (.cells #[.string key, .slice A4 n4 c4] 24) = X4 at *
        generalize w4.heap.size = q4 at *
        clear v0 v1 v2 v3 s0 s1
        have p0 := Wb.out.s.c0; have p1 := Wb.out.s.c1; obtain ⟨v0, v1, v2, v3, _, _, _, _⟩ := V.out
        go_upto_region 10 with (first | (go_at_call 29; (with_reducible refine Calls.mono (R9.out _ _ _ _ _ Wb.out) ?_); rintro e w5 ⟨rfl, b1⟩; have S := Lib.hid (S.out.on b1); have V := Lib.hid (V.out.on b1); have HB := Lib.hid (HB.out.trans (b1.mono HB.out.size)); have Wb := Lib.hid (Wb.out.on b1); clear b1) | fail)
        clear v0 v1 v2 v3 p0 p1
        have p0 := Wb.out.s.c0; have p1 := Wb.out.s.c1
        go_upto_region 11 with (first | (go_at_call 29; (with_reducible refine Calls.mono (R10.out _ _ _ _ _ Wb.out) ?_); rintro e w6 ⟨rfl, b1⟩; have S := Lib.hid (S.out.on b1); have V := Lib.hid (V.out.on b1); have HB := Lib.hid (HB.out.trans (b1.mono HB.out.size)); have Wb := Lib.hid (Wb.out.on b1); clear b1) | fail)
        clear p0 p1
        have s0 := S.out.s.c0; have s1 := S.out.s.c1
        go_upto_region 12 with (first | (go_at_call 29; (with_reducible refine Calls.mono (R11a.out _ S.out) ?_); rintro e w7 ⟨rfl, b1⟩; have S := Lib.hid (S.out.on b1); have V := Lib.hid (V.out.on b1); have HB := Lib.hid (HB.out.trans (b1.mono HB.out.size)); have Wb := Lib.hid (Wb.out.on b1); clear b1) | fail)
        clear s0 s1
        obtain ⟨v0, v1, v2, v3, _, _, _, _⟩ := V.out; have p0 := Wb.out.s.c0; have p1 := Wb.out.s.c1; (try dsimp only at v0 v1 v2 v3)
        go_upto_region 15 with (first | (go_at_call 34; refine (P3.out _ _ _ _ _ Wb.out).mono ?_; rintro e w8 ⟨A8, n8, c8, rfl, e8, hc8, r8, b1⟩; have Cb := Lib.hid (RowB.new (key := key) (c := c8) r8 e8); have S := Lib.hid (S.out.on b1); have V := Lib.hid (V.out.on b1); have HB := Lib.hid (HB.out.trans (b1.mono HB.out.size)); clear b1 e8 hc8 r8) | fail)
        have S := Lib.hid (S.out.alloc (.cells #[.string key, .slice A8 n8 c8] 24))
        have V := Lib.hid (V.out.alloc (.cells #[.string key, .slice A8 n8 c8] 24))
        have HB := Lib.hid (HB.out.alloc HB.out.size (.cells #[.string key, .slice A8 n8 c8] 24))
        generalize w8.alloc (.cells #[.string key, .slice A8 n8 c8] 24) = X8 at *
        generalize w8.heap.size = q8 at *
        clear v0 v1 v2 v3 p0 p1 Wb
        have s0 := S.out.s.c0; have s1 := S.out.s.c1
        go_upto_region 16 with (first | (go_at_call 35; (with_reducible refine Calls.mono (P1.out _ S.out) ?_); rintro e w9 ⟨rfl, b1⟩; have S := Lib.hid (S.out.on b1); have V := Lib.hid (V.out.on b1); have HB := Lib.hid (HB.out.trans (b1.mono HB.out.size)); have Cb := Lib.hid (Cb.out.on b1); clear b1) | fail)
        have S := Lib.hid (S.out.alloc (.cells #[.int .i64 gt, .int .i64 gs, .bool gg, .string gl] 66))
        have V := Lib.hid (V.out.alloc (.cells #[.int .i64 gt, .int .i64 gs, .bool gg, .string gl] 66))
        have HB := Lib.hid (HB.out.alloc HB.out.size (.cells #[.int .i64 gt, .int .i64 gs, .bool gg, .string gl] 66))
        have Cb := Lib.hid (Cb.out.alloc (.cells #[.int .i64 gt, .int .i64 gs, .bool gg, .string gl] 66))
        generalize w9.alloc (.cells #[.int .i64 gt, .int .i64 gs, .bool gg, .string gl] 66) = X9 at *
        clear s0 s1
        have q0 := Cb.out.s.c0; have q1 := Cb.out.s.c1
        go_upto_region 17 with (first | (go_at_call 29; (with_reducible refine Calls.mono (R16a.out _ _ _ _ _ Cb.out) ?_); rintro e w10 ⟨rfl, b1⟩; have S := Lib.hid (S.out.on b1); have V := Lib.hid (V.out.on b1); have HB := Lib.hid (HB.out.trans (b1.mono HB.out.size)); have Cb := Lib.hid (Cb.out.on b1); clear b1) | fail)
        clear q0 q1
        have q0 := Cb.out.s.c0; have q1 := Cb.out.s.c1
        go_upto_region 18 with (first | (go_at_call 29; (with_reducible refine Calls.mono (R16b.out _ _ _ _ _ Cb.out) ?_); rintro e w11 ⟨rfl, b1⟩; have S := Lib.hid (S.out.on b1); have V := Lib.hid (V.out.on b1); have HB := Lib.hid (HB.out.trans (b1.mono HB.out.size)); have Cb := Lib.hid (Cb.out.on b1); clear b1) | fail)
        clear q0 q1
        have s0 := S.out.s.c0; have s1 := S.out.s.c1
        go_upto_region 19 with (first | (go_at_call 29; (with_reducible refine Calls.mono (R11b.out _ S.out) ?_); rintro e w12 ⟨rfl, b1⟩; have S := Lib.hid (S.out.on b1); have V := Lib.hid (V.out.on b1); have HB := Lib.hid (HB.out.trans (b1.mono HB.out.size)); have Cb := Lib.hid (Cb.out.on b1); clear b1) | fail)
        clear s0 s1
        have q0 := Cb.out.s.c0; have q1 := Cb.out.s.c1; obtain ⟨v0, v1, v2, v3, _, _, _, _⟩ := V.out; (try dsimp only at v0 v1 v2 v3)
        have K9 := Lib.hid (N21.out _ _ _ _ _ Cb.out)
        cases hb : vsHas l me with
        | true =>
          by_cases h0 : 0 ≤ me
          · obtain ⟨rfl, rfl⟩ := HCW.out.1 ⟨h0, hb⟩
            have d0 : decide (0 ≤ me) = true := decide_eq_true h0
            clear hb h0 HCW
            go_wp2_with (first | (go_at_call 23; refine (KA.out _).mono ?_; rintro e w14 ⟨rfl, b1⟩; have HB := Lib.hid (HB.out.trans (b1.mono HB.out.size)); clear b1) | fail)
            go_ret
            exact ⟨rfl, HB.out⟩
          · obtain ⟨rfl, rfl⟩ := HCW.out.2 (fun e => h0 e.1)
            have d0 : decide (0 ≤ me) = false := decide_eq_false h0
            clear hb h0 HCW
            go_wp2_with (first | (go_at_call 30; refine (K9.out).mono ?_; rintro e w13 ⟨rfl, b1⟩; have HB := Lib.hid (HB.out.trans (b1.mono HB.out.size)); clear b1) | (go_at_call 23; refine (KA.out _).mono ?_; rintro e w14 ⟨rfl, b1⟩; have HB := Lib.hid (HB.out.trans (b1.mono HB.out.size)); clear b1) | fail)
            go_ret
            exact ⟨rfl, HB.out⟩
        | false =>
          obtain ⟨rfl, rfl⟩ := HCW.out.2 (fun e => by rw [hb] at e; cases e.2)
          clear hb HCW
          go_wp2_with (first | (go_at_call 30; refine (K9.out).mono ?_; rintro e w13 ⟨rfl, b1⟩; have HB := Lib.hid (HB.out.trans (b1.mono HB.out.size)); clear b1) | (go_at_call 23; refine (KA.out _).mono ?_; rintro e w14 ⟨rfl, b1⟩; have HB := Lib.hid (HB.out.trans (b1.mono HB.out.size)); clear b1) | fail)
          go_ret
          exact ⟨rfl, HB.out⟩
  | true =>
    obtain rfl : vv = ⟨#[]⟩ := hge rfl
    clear hge
    go_enter Try.func7, Try.ntmps7
    go_upto_region 1 with fail
    generalize (w.alloc (.cells #[.string key, .slice A n c] 24)).alloc (.cells #[.int .i64 vt, .int .i64 vts, .bool true, .string ⟨#[]⟩] 66) = W0 at *
    have s0 := S.out.s.c0; have s1 := S.out.s.c1; obtain ⟨v0, v1, v2, v3, _, _, _, _⟩ := V.out; (try dsimp only at v0 v1 v2 v3)
    go_upto_region 4 with (first
      | (go_at_call 8; refine (KL.out _ HB.out).mono ?_; rintro e w1 ⟨rfl, b1⟩; have S := Lib.hid (S.out.on b1); have V := Lib.hid (V.out.on b1); have s0 := S.out.s.c0; have s1 := S.out.s.c1; obtain ⟨v0, v1, v2, v3, _, _, _, _⟩ := V.out; (try dsimp only at v0 v1 v2 v3); have HB := Lib.hid (HB.out.trans (b1.mono HB.out.size)); clear b1)
      | (go_at_call 27; refine (KC.out _ HB.out).mono ?_; rintro e w2 ⟨rfl, b1⟩; have S := Lib.hid (S.out.on b1); have V := Lib.hid (V.out.on b1); have s0 := S.out.s.c0; have s1 := S.out.s.c1; obtain ⟨v0, v1, v2, v3, _, _, _, _⟩ := V.out; (try dsimp only at v0 v1 v2 v3); have HB := Lib.hid (HB.out.trans (b1.mono HB.out.size)); clear b1)
      | (go_at_call 32; refine (KM.out _ HB.out).mono ?_; rintro e w3 ⟨rfl, b1⟩; have S := Lib.hid (S.out.on b1); have V := Lib.hid (V.out.on b1); have s0 := S.out.s.c0; have s1 := S.out.s.c1; obtain ⟨v0, v1, v2, v3, _, _, _, _⟩ := V.out; (try dsimp only at v0 v1 v2 v3); have HB := Lib.hid (HB.out.trans (b1.mono HB.out.size)); clear b1)
      | fail)
    clear v0 v1 v2 v3 d2 d3 h24'
    have s0 := S.out.s.c0; have s1 := S.out.s.c1
    go_wp2
    clear s0 s1
    go_loopw [7, 8] (fun tp i wr => ∃ (k : Nat) (z : Int), k ≤ n ∧ i = .int .i64 (k : Int) ∧ tp = .int .i64 z ∧ 1 ≤ z ∧ z ≤ 1099511627777 ∧ Below w.heap.size w wr ∧ RowB wr w.heap.size key A n c l ∧ VnBox wr (w.heap.size + 1) (⟨vt, vts, true, ⟨#[]⟩⟩ : Vn)) (fun _ i _ => n - (intOf i).toNat)
    case atStart => exact ⟨0, 1, Nat.zero_le _, rfl, rfl, by omega, by omega, HB.out, S.out, V.out⟩
    case round =>
      clear S V HB
      obtain ⟨k, z, hk, rfl, rfl, hz1, hz2, hb, hs, hvb⟩ := hrel
      have HB := Lib.hid hb; have S := Lib.hid hs; have V := Lib.hid hvb
      clear hb hs hvb
      have s0 := S.out.s.c0; have s1 := S.out.s.c1
      by_cases hlt : k < n
      · obtain ⟨x, hx⟩ : ∃ x, l[k]? = some x := ⟨l[k]'(by rw [HL.out]; exact hlt), List.getElem?_eq_getElem _⟩
        obtain ⟨ad, rfl, hv⟩ := (HR.out _ HB.out).vn hx
        have c1 := hv.d1
        obtain ⟨t1, t2⟩ := HTS.out k x hx
        have wx : IntKind.i64.wrap (x.ts + 1) = x.ts + 1 := IntWalk.i64_in _ (by omega)
        have HZ1 := Lib.hid hz1; have HZ2 := Lib.hid hz2; have HT1 := Lib.hid t1; have HT2 := Lib.hid t2
        generalize x.ts = xt at *
        clear hv hx hz1 hz2 t1 t2
        go_wp2
        go_round
        case rel =>
          have h1 := HZ1.out; have h2 := HZ2.out; have h3 := HT1.out; have h4 := HT2.out
          refine ⟨k + 1, _, by omega, by go_num, rfl, ?_, ?_, HB.out, S.out, V.out⟩
          · split <;> omega
          · split <;> omega
        case measure => simp [intOf]; omega
      · obtain rfl : k = n := by omega
        obtain ⟨val2, is2, f, u, g, t, HC⟩ := HX.out z hz1
        obtain ⟨y, hy⟩ : ∃ y, y = z - 1 := ⟨_, rfl⟩
        rw [← hy] at HC
        have wy : IntKind.i64.wrap (z - 1) = y := by rw [hy]; exact IntWalk.i64_in _ (by omega)
        have R10 := Lib.hid (R10.out z); have R11a := Lib.hid (R11.out z); have R11b := Lib.hid (R11.out y); have P3 := Lib.hid (P3.out z); have R16a := Lib.hid (R16.out z z); have R16b := Lib.hid (R16.out z y); have N21 := Lib.hid (N21.out z y)
        rw [HC.b] at R10; rw [HC.a] at R11a; rw [HC.e] at R11b; rw [HC.c] at R16a; rw [HC.d] at R16b; rw [HC.n] at N21
        have HCW := Lib.hid HC.w
        clear HC hy hz1 hz2 HX R11 R16
        dsimp only at R10 R11a R11b R16a R16b HCW
        obtain ⟨v0, v1, v2, v3, _, _, _, _⟩ := V.out; (try dsimp only at v0 v1 v2 v3)
        go_upto_region 9 with (first | (go_at_call 33; refine (P2.out _ S.out).mono ?_; rintro e w4 ⟨A4, n4, c4, rfl, e4, hc4, r4, b1⟩; have Wb := Lib.hid (RowB.new (key := key) (c := c4) r4 e4); have S := Lib.hid (S.out.on b1); have V := Lib.hid (V.out.on b1); have HB := Lib.hid (HB.out.trans (b1.mono HB.out.size)); clear b1 e4 hc4 r4) | fail)
        have S := Lib.hid (S.out.alloc (.cells #[.string key, .slice A4 n4 c4] 24))
        have V := Lib.hid (V.out.alloc (.cells #[.string key, .slice A4 n4 c4] 24))
        have HB := Lib.hid (HB.out.alloc HB.out.size (.cells #[.string key, .slice A4 n4 c4] 24))
        generalize w4.alloc (.cells #[.string key, .slice A4 n4 c4] 24) = X4 at *
        generalize w4.heap.size = q4 at *
        clear v0 v1 v2 v3 s0 s1
        have p0 := Wb.out.s.c0; have p1 := Wb.out.s.c1; obtain ⟨v0, v1, v2, v3, _, _, _, _⟩ := V.out
        go_upto_region 10 with (first | (go_at_call 29; (with_reducible refine Calls.mono (R9.out _ _ _ _ _ Wb.out) ?_); rintro e w5 ⟨rfl, b1⟩; have S := Lib.hid (S.out.on b1); have V := Lib.hid (V.out.on b1); have HB := Lib.hid (HB.out.trans (b1.mono HB.out.size)); have Wb := Lib.hid (Wb.out.on b1); clear b1) | fail)
        clear v0 v1 v2 v3 p0 p1
        have p0 := Wb.out.s.c0; have p1 := Wb.out.s.c1
        go_upto_region 11 with (first | (go_at_call 29; (with_reducible refine Calls.mono (R10.out _ _ _ _ _ Wb.out) ?_); rintro e w6 ⟨rfl, b1⟩; have S := Lib.hid (S.out.on b1); have V := Lib.hid (V.out.on b1); have HB := Lib.hid (HB.out.trans (b1.mono HB.out.size)); have Wb := Lib.hid (Wb.out.on b1); clear b1) | fail)
        clear p0 p1
        have s0 := S.out.s.c0; have s1 := S.out.s.c1
        go_upto_region 12 with (first | (go_at_call 29; (with_reducible refine Calls.mono (R11a.out _ S.out) ?_); rintro e w7 ⟨rfl, b1⟩; have S := Lib.hid (S.out.on b1); have V := Lib.hid (V.out.on b1); have HB := Lib.hid (HB.out.trans (b1.mono HB.out.size)); have Wb := Lib.hid (Wb.out.on b1); clear b1) | fail)
        clear s0 s1
        obtain ⟨v0, v1, v2, v3, _, _, _, _⟩ := V.out; have p0 := Wb.out.s.c0; have p1 := Wb.out.s.c1; (try dsimp only at v0 v1 v2 v3)
        go_upto_region 15 with (first | (go_at_call 34; refine (P3.out _ _ _ _ _ Wb.out).mono ?_; rintro e w8 ⟨A8, n8, c8, rfl, e8, hc8, r8, b1⟩; have Cb := Lib.hid (RowB.new (key := key) (c := c8) r8 e8); have S := Lib.hid (S.out.on b1); have V := Lib.hid (V.out.on b1); have HB := Lib.hid (HB.out.trans (b1.mono HB.out.size)); clear b1 e8 hc8 r8) | fail)
        have S := Lib.hid (S.out.alloc (.cells #[.string key, .slice A8 n8 c8] 24))
        have V := Lib.hid (V.out.alloc (.cells #[.string key, .slice A8 n8 c8] 24))
        have HB := Lib.hid (HB.out.alloc HB.out.size (.cells #[.string key, .slice A8 n8 c8] 24))
        generalize w8.alloc (.cells #[.string key, .slice A8 n8 c8] 24) = X8 at *
        generalize w8.heap.size = q8 at *
        clear v0 v1 v2 v3 p0 p1 Wb
        have s0 := S.out.s.c0; have s1 := S.out.s.c1
        go_upto_region 16 with (first | (go_at_call 35; (with_reducible refine Calls.mono (P1.out _ S.out) ?_); rintro e w9 ⟨rfl, b1⟩; have S := Lib.hid (S.out.on b1); have V := Lib.hid (V.out.on b1); have HB := Lib.hid (HB.out.trans (b1.mono HB.out.size)); have Cb := Lib.hid (Cb.out.on b1); clear b1) | fail)
        have S := Lib.hid (S.out.alloc (.cells #[.int .i64 gt, .int .i64 gs, .bool gg, .string gl] 66))
        have V := Lib.hid (V.out.alloc (.cells #[.int .i64 gt, .int .i64 gs, .bool gg, .string gl] 66))
        have HB := Lib.hid (HB.out.alloc HB.out.size (.cells #[.int .i64 gt, .int .i64 gs, .bool gg, .string gl] 66))
        have Cb := Lib.hid (Cb.out.alloc (.cells #[.int .i64 gt, .int .i64 gs, .bool gg, .string gl] 66))
        generalize w9.alloc (.cells #[.int .i64 gt, .int .i64 gs, .bool gg, .string gl] 66) = X9 at *
        clear s0 s1
        have q0 := Cb.out.s.c0; have q1 := Cb.out.s.c1
        go_upto_region 17 with (first | (go_at_call 29; (with_reducible refine Calls.mono (R16a.out _ _ _ _ _ Cb.out) ?_); rintro e w10 ⟨rfl, b1⟩; have S := Lib.hid (S.out.on b1); have V := Lib.hid (V.out.on b1); have HB := Lib.hid (HB.out.trans (b1.mono HB.out.size)); have Cb := Lib.hid (Cb.out.on b1); clear b1) | fail)
        clear q0 q1
        have q0 := Cb.out.s.c0; have q1 := Cb.out.s.c1
        go_upto_region 18 with (first | (go_at_call 29; (with_reducible refine Calls.mono (R16b.out _ _ _ _ _ Cb.out) ?_); rintro e w11 ⟨rfl, b1⟩; have S := Lib.hid (S.out.on b1); have V := Lib.hid (V.out.on b1); have HB := Lib.hid (HB.out.trans (b1.mono HB.out.size)); have Cb := Lib.hid (Cb.out.on b1); clear b1) | fail)
        clear q0 q1
        have s0 := S.out.s.c0; have s1 := S.out.s.c1
        go_upto_region 19 with (first | (go_at_call 29; (with_reducible refine Calls.mono (R11b.out _ S.out) ?_); rintro e w12 ⟨rfl, b1⟩; have S := Lib.hid (S.out.on b1); have V := Lib.hid (V.out.on b1); have HB := Lib.hid (HB.out.trans (b1.mono HB.out.size)); have Cb := Lib.hid (Cb.out.on b1); clear b1) | fail)
        clear s0 s1
        have q0 := Cb.out.s.c0; have q1 := Cb.out.s.c1; obtain ⟨v0, v1, v2, v3, _, _, _, _⟩ := V.out; (try dsimp only at v0 v1 v2 v3)
        have K9 := Lib.hid (N21.out _ _ _ _ _ Cb.out)
        cases hb : vsHas l me with
        | true =>
          by_cases h0 : 0 ≤ me
          · obtain ⟨rfl, rfl⟩ := HCW.out.1 ⟨h0, hb⟩
            have d0 : decide (0 ≤ me) = true := decide_eq_true h0
            clear hb h0 HCW
            go_wp2_with (first | (go_at_call 23; refine (KA.out _).mono ?_; rintro e w14 ⟨rfl, b1⟩; have HB := Lib.hid (HB.out.trans (b1.mono HB.out.size)); clear b1) | fail)
            go_ret
            exact ⟨rfl, HB.out⟩
          · obtain ⟨rfl, rfl⟩ := HCW.out.2 (fun e => h0 e.1)
            have d0 : decide (0 ≤ me) = false := decide_eq_false h0
            clear hb h0 HCW
            go_wp2_with (first | (go_at_call 30; refine (K9.out).mono ?_; rintro e w13 ⟨rfl, b1⟩; have HB := Lib.hid (HB.out.trans (b1.mono HB.out.size)); clear b1) | (go_at_call 23; refine (KA.out _).mono ?_; rintro e w14 ⟨rfl, b1⟩; have HB := Lib.hid (HB.out.trans (b1.mono HB.out.size)); clear b1) | fail)
            go_ret
            exact ⟨rfl, HB.out⟩
        | false =>
          obtain ⟨rfl, rfl⟩ := HCW.out.2 (fun e => by rw [hb] at e; cases e.2)
          clear hb HCW
          go_wp2_with (first | (go_at_call 30; refine (K9.out).mono ?_; rintro e w13 ⟨rfl, b1⟩; have HB := Lib.hid (HB.out.trans (b1.mono HB.out.size)); clear b1) | (go_at_call 23; refine (KA.out _).mono ?_; rintro e w14 ⟨rfl, b1⟩; have HB := Lib.hid (HB.out.trans (b1.mono HB.out.size)); clear b1) | fail)
          go_ret
          exact ⟨rfl, HB.out⟩
end Go.Proofs.Ytjmmaghjbaigiaa
