/- Stacks: Commit. -/
import Derived.Test.YtjmmaghjbaigiaaVsH
import Derived.Test.YtjmmaghjbaigiaaVsJ
import Derived.Deep.CutRange
namespace Go.Proofs.Ytjmmaghjbaigiaa
open Go.RowKit
set_option linter.unusedVariables false
set_option linter.unusedSimpArgs false
/-- Commit's memory: the stack, the result. -/
structure CoW (w : World) (key : ByteArray) (A : Option Addr) (n c : Nat) (W : World) : Prop where
  b : Below w.heap.size w W
  s : StBox W w.heap.size key A n c
  r : StBox W (w.heap.size + 1) ⟨#[]⟩ none 0 0
theorem CoW.on {w : World} {key : ByteArray} {A : Option Addr} {n c : Nat} {W W' : World} (h : CoW w key A n c W) (hb : Below W.heap.size W W') : CoW w key A n c W' := ⟨h.b.trans (hb.mono h.b.size), h.s.on hb, h.r.on hb⟩
theorem CoW.below {w : World} {key : ByteArray} {A : Option Addr} {n c : Nat} {W W' : World} (h : CoW w key A n c W) {B : Nat} (hb : Below B W W') (hB : w.heap.size + 1 < B) : CoW w key A n c W' := ⟨h.b.trans (hb.mono (by omega)), h.s.below hb (by omega), h.r.below hb hB⟩
theorem CoW.drew {w : World} {key : ByteArray} {A : Option Addr} {n c : Nat} {W : World} (h : CoW w key A n c W) : CoW w key A n c W.drew := ⟨h.b.drew, h.s.drew, h.r.drew⟩
theorem CoW.new (w : World) (key : ByteArray) (A : Option Addr) (n c : Nat) : CoW w key A n c ((w.alloc (.cells #[.string key, .slice A n c] 24)).alloc (.cells #[.string ⟨#[]⟩, .slice none 0 0] 24)) := by
  refine ⟨below2 w _ _, (StBox.new w key A n c 24).alloc _, ?_⟩
  have := StBox.new (w.alloc (.cells #[.string key, .slice A n c] 24)) ⟨#[]⟩ none 0 0 24
  rw [heap_size_alloc] at this
  exact this
theorem CoW.cell {w : World} {key : ByteArray} {A : Option Addr} {n c : Nat} {W : World} (h : CoW w key A n c W) {q : Nat} (hq : w.heap.size + 1 < q) (i : Nat) (u : Value) : CoW w key A n c (W.setCell ⟨q, i, none⟩ u) := ⟨h.b.setCell (p := ⟨q, i, none⟩) (by simp; omega) _, h.s.off (by omega) _ _, h.r.off (by omega) _ _⟩
theorem VnBox.set1 {W : World} {q : Nat} {v : Vn} (h : VnBox W q v) (s : Int) : VnBox (W.setCell ⟨q, 1, none⟩ (.int .i64 s)) q { v with ts := s } := by
  obtain ⟨a0, a1, a2, a3, f0, f1, f2, f3⟩ := h
  constructor <;> simp [World.cell?_setCell_other, World.cell?_setCell_same', a0, a1, a2, a3, f0, f1, f2, f3]
theorem VnBox.offSt {W : World} {q p : Nat} {v : Vn} (h : VnBox W q v) (hp : p ≠ q) (key : ByteArray) (u : Value) : VnBox (setSt W p key u) q v := by
  unfold setSt
  have e : ∀ i j : Nat, (⟨p, i, none⟩ : Addr) ≠ ⟨q, j, none⟩ := fun i j e => hp (by injection e)
  have hc : ∀ j, ((W.setCell ⟨p, 0, none⟩ (.string key)).setCell ⟨p, 1, none⟩ u).cell? ⟨q, j, none⟩ = W.cell? ⟨q, j, none⟩ := fun j => by
    rw [World.cell?_setCell_other _ _ _ _ (e _ _), World.cell?_setCell_other _ _ _ _ (e _ _)]
  exact ⟨(hc 0).trans h.c0, (hc 1).trans h.c1, (hc 2).trans h.c2, (hc 3).trans h.c3, by simp [h.f0], by simp [h.f1], by simp [h.f2], by simp [h.f3]⟩
/-- What a region may read: the key, the version. -/
def CoS (w : World) (key : ByteArray) (e : Nat) (y : Vn) (W : World) : Prop := W.cell? ⟨w.heap.size, 0, none⟩ = some (.string key) ∧ W.cell? ⟨e, 0, none⟩ = some (.int .i64 y.txn) ∧ W.cell? ⟨e, 1, none⟩ = some (.int .i64 y.ts) ∧ W.cell? ⟨e, 2, none⟩ = some (.bool y.gone) ∧ W.cell? ⟨e, 3, none⟩ = some (.string y.val)
theorem CoS.mk {w : World} {key : ByteArray} {A : Option Addr} {n c e : Nat} {y : Vn} {W : World} (h : CoW w key A n c W) (g : VnBox W e y) : CoS w key e y W := ⟨h.s.c0, g.c0, g.c1, g.c2, g.c3⟩
theorem CoS.of {w : World} {key : ByteArray} {A : Option Addr} {n c e : Nat} {y : Vn} {W : World} (h : StBox W w.heap.size key A n c) (g : VnBox W e y) : CoS w key e y W := ⟨h.c0, g.c0, g.c1, g.c2, g.c3⟩
theorem OG.own_lt' {α : Type} {K : CR α} {T : TypeId} {base : Nat} {w : World} {v : Value} {l : List α} (h : OG K T base w v l) {b : Nat} (hb : v.ownBlock = some b) : base ≤ b ∧ b < w.heap.size := by
  obtain ⟨css, h1, _⟩ := h
  exact World.ownsRow.lt h1 b hb
theorem cell_alloc_old {w : World} {p : Addr} {v : Value} (h : w.cell? p = some v) {o : Obj} : (w.alloc o).cell? p = some v := ((below1 w o).cell (p := p) (lt_of_cell h)).trans h
theorem vsKeep_at (l : List Vn) (a : Nat) : vsKeep (fun j _ => decide (j = a)) 0 l = l.eraseIdx a := by have := vsKeep_erase a 0 l; simpa using this
set_option maxHeartbeats 8000000 in
set_option maxRecDepth 100000 in
theorem vsCommit_any (key : ByteArray) (A : Option Addr) (n c : Nat) (l : List Vn) (t s : Int) (w : World) (hl : l.length = n) (hn : n ≤ 1000) (hr : RG KV w A l) :
    Calls Try.prog 34 #[.agg #[.string key, .slice A n c], .int .i64 t, .int .i64 s] w fun e w' => ∃ v', e = .returned (.agg #[.string key, v']) ∧ OG KV 66 w.heap.size w' v' (vsCommit l t s) ∧ Below w.heap.size w w' := by
  have hmf : ∀ (fn : Fn) (first cap : Array Value) (w : World), (Instr.makeFunc fn first cap).run Try.prog w = .ok (.func fn first cap) w := fun _ _ _ _ => rfl
  have HK := Lib.hid (fun (W : World) => vsPendingOf_any t W)
  have KC := Lib.hid (fun (W : World) (h : Below w.heap.size w W) => vsClone_any A n c l W hl hn (hr.below h))
  have KI := Lib.hid (fun (W : World) (q : Nat) (h : Below w.heap.size w W) (hq : W.cell? ⟨q, 0, none⟩ = some (.int .i64 t)) => vsIndexFunc_any A n c l t q W hl hn (hr.below h) hq)
  have KW := Lib.hid (fun (W : World) (a p : Nat) (h : Below w.heap.size w W) (hi : IBox W p (a : Int)) => vsWithoutC A n c l (fun j _ => decide (j = a)) ⟨p, 0, none⟩ W hl hn (hr.below h) (fun W' i x _ hb => vsAtFn_any i a x ⟨p, 0, none⟩ W' (hi.on hb).c0))
  have M0 := Lib.hid (CoW.new w key A n c)
  have HL := Lib.hid hl
  have HR := Lib.hid (fun W (h : Below w.heap.size w W) => hr.below h)
  have HC : Hid (vsCommit l t s = if h : vsAt l t < l.length then if 1 ≤ s then vsPut (l.eraseIdx (vsAt l t)) (vsLast (vsBy s) (l.eraseIdx (vsAt l t))) { (l[vsAt l t]) with ts := s } else l else l) := Lib.hid rfl
  generalize vsCommit l t s = R at HC ⊢
  clear hl hr
  go_enter Try.func34, Try.ntmps34
  go_upto_region 1 with fail
  generalize (w.alloc (.cells #[.string key, .slice A n c] 24)).alloc (.cells #[.string ⟨#[]⟩, .slice none 0 0] 24) = W0 at *
  go_cut [7] from 10 to 14 (fun p wx => ∃ b, p = .pointer (some ⟨b, 0, none⟩) ∧ CoW w key A n c wx ∧ IBox wx b (vsIdx l t) ∧ w.heap.size + 1 < b)
  case first =>
    obtain ⟨z, hz⟩ : ∃ z, z = vsIdx l t := ⟨_, rfl⟩
    rw [← hz] at KI
    have HZ := Lib.hid hz
    clear hz
    have s1 := M0.out.drew.s.c1
    have M1 := Lib.hid M0.out.drew
    have hw0 := M0.out.r.lt
    go_region_held3 (fun W => W.cell? ⟨w.heap.size, 1, none⟩ = some (.slice A n c)) (first | with_reducible exact s1 | exact (M1.out.on (below1 _ _)).s.c1 | exact SA.out | exact (M2.out.on (below1 _ _)).s.c1 | fail)
      (first
        | (go_at_call 72; refine (HK.out _).mono ?_; rintro e w1 ⟨q, rfl, q1, _, _, b1⟩;
            first
              | (have M1 := Lib.hid (M1.out.on b1); have s1 := M1.out.s.c1; have Q1 := Lib.hid q1)
              | (have I1 := Lib.hid ((IBox.new W0 0 3).drew.on b1); have I2 := Lib.hid hw0; have M1 := Lib.hid ((M0.out.on (below1 W0 (.cells #[.int .i64 0] 3))).drew.on b1); have s1 := M1.out.s.c1; have Q1 := Lib.hid q1))
        | (go_at_call 71;
            first
              | (refine (KI.out w1 q M1.out.b Q1.out).mono ?_; rintro e w2 ⟨rfl, b2⟩; have M2 := Lib.hid (M1.out.on b2); have s1 := M2.out.s.c1; (try have I1 := Lib.hid (I1.out.on b2)); (try have y0 := I1.out.c0); (try have y1 := I1.out.f0); (try have SA := Lib.hid (M2.out.cell I2.out 0 (.int .i64 z)).s.c1); (try have MX := Lib.hid (M2.out.cell I2.out 0 (.int .i64 z))); (try have IX := Lib.hid (I1.out.put z)); (try have JX := I2))
              | (refine (KI.out (w1.alloc (.cells #[.int .i64 0] 3)) q (M1.out.on (below1 _ _)).b ((cell_alloc_old Q1.out))).mono ?_; rintro e w2 ⟨rfl, b2⟩; have M2 := Lib.hid ((M1.out.on (below1 _ _)).on b2); have s1 := M2.out.s.c1; have I1 := Lib.hid ((IBox.new w1 0 3).on b2); have y0 := I1.out.c0; have y1 := I1.out.f0; have I2 := Lib.hid (show w.heap.size + 1 < w1.heap.size from M1.out.r.lt); have SA := Lib.hid (M2.out.cell I2.out 0 (.int .i64 z)).s.c1; have MX := Lib.hid (M2.out.cell I2.out 0 (.int .i64 z)); have IX := Lib.hid (I1.out.put z); have JX := I2))
        | fail)
    all_goals
      go_wp2_with fail
      go_meet
      rw [← HZ.out]
      first | exact ⟨_, rfl, MX.out, IX.out, JX.out⟩ | exact ⟨_, rfl, M2.out.on (below1 _ _), IBox.new _ _ _, M2.out.r.lt⟩
  case rest =>
    obtain ⟨b, rfl, hM, hI, hb⟩ := hcut
    have M := Lib.hid hM
    have I := Lib.hid hI
    have J := Lib.hid hb
    by_cases hat : vsAt l t < l.length
    · obtain ⟨a, x, e1, hk, hx, e2, _, _⟩ := vsGot_some hat
      rw [e2] at I
      by_cases h1 : 1 ≤ s
      · have HE : Hid (R = vsPut (l.eraseIdx a) (vsLast (vsBy s) (l.eraseIdx a)) { x with ts := s }) := Lib.hid (by
          rw [HC.out, dif_pos hat, if_pos h1]
          subst e1
          rw [List.getElem?_eq_getElem hat] at hx
          injection hx with hx
          rw [hx])
        have hX := Lib.hid hx
        have hlen : Hid ((l.eraseIdx a).length + 1 = n) := Lib.hid (by rw [List.length_eraseIdx_of_lt hk, HL.out]; have := HL.out; omega)
        rw [HL.out] at hk
        have hd1 : decide (s < 1) = false := decide_eq_false (by omega)
        clear e1 e2 hat hx hM hI hb h1 HC
        have i0 := I.out.c0
        have s1 := M.out.s.c1
        have hv := (HR.out _ M.out.b).vn hX.out
        obtain ⟨ad, rfl, hv⟩ := hv
        have c0 := hv.d0; have c1 := hv.d1; have c2 := hv.d2; have c3 := hv.d3
        clear hv
        go_upto_region 6 with fail
        have M5 := Lib.hid (M.out.on (below1 wc (.cells #[.int .i64 x.txn, .int .i64 s, .bool x.gone, .string x.val] 66)))
        have I5 := Lib.hid (I.out.on (below1 wc (.cells #[.int .i64 x.txn, .int .i64 s, .bool x.gone, .string x.val] 66)))
        have he4 := Lib.hid (show w.heap.size + 1 ≠ wc.heap.size from by have := M.out.r.lt; omega)
        have V5 := Lib.hid (VnBox.new wc { x with ts := s } 66)
        obtain ⟨y, hy⟩ : ∃ y : Vn, y = { x with ts := s } := ⟨_, rfl⟩
        dsimp only at V5
        have hy0 : x.txn = y.txn := by rw [hy]
        have hy1 : s = y.ts := by rw [hy]
        have hy2 : x.gone = y.gone := by rw [hy]
        have hy3 : x.val = y.val := by rw [hy]
        rw [← hy] at HE V5
        have HY := Lib.hid hy
        clear hy hy0 hy1 hy2 hy3
        generalize wc.alloc (.cells #[.int .i64 x.txn, .int .i64 s, .bool x.gone, .string x.val] 66) = W5 at *
        generalize wc.heap.size = e at *
        have s1 := M5.out.s.c1
        obtain ⟨L, hL⟩ : ∃ L, L = l.eraseIdx a := ⟨_, rfl⟩
        rw [← hL] at HE hlen
        have KW2 := Lib.hid (fun (W : World) (h : Below w.heap.size w W) (hi : IBox W b (a : Int)) => show Calls Try.prog 66 #[.slice (some ad) n c, .func (.func 73) #[] #[.pointer (some ⟨b, 0, none⟩)]] W fun e w' => ∃ v', e = .returned v' ∧ OG KV 66 W.heap.size w' v' L ∧ Below W.heap.size W w' from by
          have h := KW.out W a b h hi
          rw [vsKeep_at, ← hL] at h
          exact h)
        have KPl := Lib.hid (fun (W : World) (B : Option Addr) (d : Nat) (hr : RG KV W B L) => vsPlaceOf_any B L.length d L s W rfl (by have := hlen.out; omega) hr)
        obtain ⟨p, hp⟩ : ∃ p, p = vsLast (vsBy s) L := ⟨_, rfl⟩
        have hpl := Lib.hid (show p ≤ L.length from by rw [hp]; exact vsLast_le _ _)
        rw [← hp] at HE KPl
        clear hL hp c0 c1 c2 c3
        go_upto_region 7 with (go_at_call 66; refine (KW2.out _ M5.out.b I5.out).mono ?_; rintro e1 w6 ⟨v6, rfl, o6, b6⟩; obtain ⟨A6, c6, e6, h61, h62, h63, h64⟩ := o6.rg; subst e6; have O6 := Lib.hid o6; have M6 := Lib.hid (M5.out.on b6); have V6 := Lib.hid (V5.out.on b6); have R6 := Lib.hid h63; have h56 := Lib.hid b6.size; clear o6 b6 h61 h62 h63 h64)
        have hw5 := M5.out.r.lt
        have he5 := V5.out.lt
        have LT := Lib.hid (show RG KV (w6.alloc (.cells #[.int .i64 y.txn, .int .i64 y.ts, .bool y.gone, .string y.val] 66)) (some ⟨w6.heap.size, 0, none⟩) [y] from rgV_lit _ _ _)
        have ka := CoS.mk M6.out.drew V6.out.drew
        have kb := CoS.mk (M6.out.on (below1 w6 (.cells #[.int .i64 y.txn, .int .i64 y.ts, .bool y.gone, .string y.val] 66))).drew (V6.out.on (below1 w6 (.cells #[.int .i64 y.txn, .int .i64 y.ts, .bool y.gone, .string y.val] 66))).drew
        unfold CoS at ka kb
        have he6 : w.heap.size + 1 ≠ e := he4.out
        go_region_held3 (fun W => W.cell? ⟨w.heap.size, 0, none⟩ = some (.string key) ∧ W.cell? ⟨e, 0, none⟩ = some (.int .i64 y.txn) ∧ W.cell? ⟨e, 1, none⟩ = some (.int .i64 y.ts) ∧ W.cell? ⟨e, 2, none⟩ = some (.bool y.gone) ∧ W.cell? ⟨e, 3, none⟩ = some (.string y.val)) (first | with_reducible exact ka | with_reducible exact kb | with_reducible exact kc | with_reducible exact kd | fail)
          (first
            | (go_at_call 75;
                first
                  | ((with_reducible refine Calls.mono (KPl.out w6.drew _ _ R6.out.drew) ?_); rintro e1 w7 ⟨rfl, b7⟩; have M7 := Lib.hid (M6.out.drew.on b7); have V7 := Lib.hid (V6.out.drew.on b7); have O7 := Lib.hid (O6.out.drew.below b7); have ka := CoS.mk M7.out V7.out; have kb := CoS.mk (M7.out.on (below1 w7 (.cells #[.int .i64 y.txn, .int .i64 y.ts, .bool y.gone, .string y.val] 66))) (V7.out.on (below1 w7 (.cells #[.int .i64 y.txn, .int .i64 y.ts, .bool y.gone, .string y.val] 66))); unfold CoS at ka kb; have h57 := Lib.hid (Nat.le_trans h56.out (show w6.heap.size ≤ w7.heap.size from b7.size)))
                  | ((with_reducible refine Calls.mono (KPl.out (w6.alloc (.cells #[.int .i64 y.txn, .int .i64 y.ts, .bool y.gone, .string y.val] 66)).drew _ _ (R6.out.alloc (.cells #[.int .i64 y.txn, .int .i64 y.ts, .bool y.gone, .string y.val] 66)).drew) ?_); rintro e1 w7 ⟨rfl, b7⟩; have M7 := Lib.hid ((M6.out.on (below1 w6 (.cells #[.int .i64 y.txn, .int .i64 y.ts, .bool y.gone, .string y.val] 66))).drew.on b7); have V7 := Lib.hid ((V6.out.on (below1 w6 (.cells #[.int .i64 y.txn, .int .i64 y.ts, .bool y.gone, .string y.val] 66))).drew.on b7); have O7 := Lib.hid ((O6.out.alloc (.cells #[.int .i64 y.txn, .int .i64 y.ts, .bool y.gone, .string y.val] 66)).drew.below b7); have ka := CoS.mk M7.out V7.out; unfold CoS at ka; have LT7 := Lib.hid (LT.out.drew.below b7); have NE7 := Lib.hid (show (Value.slice A6 L.length c6).ownBlock ≠ some w6.heap.size from fun e => by have := (O6.out.own_lt' e).2; omega); have BK7 := Lib.hid ((b7.block w6.heap.size (show w6.heap.size < (w6.alloc _).heap.size from by rw [heap_size_alloc]; omega)).trans (heap_alloc_last w6 _)); have h57 := Lib.hid (Nat.le_trans h56.out (show w6.heap.size ≤ w7.heap.size from Nat.le_trans (by show w6.heap.size ≤ (w6.alloc _).heap.size; rw [heap_size_alloc]; omega) b7.size))))
            | (go_at_call 74;
                first
                  | (have KJ := vsInsert_any W5.heap.size _ p w7.heap.size 1 _ L y (w7.alloc (.cells #[.int .i64 y.txn, .int .i64 y.ts, .bool y.gone, .string y.val] 66)) (O7.out.alloc (.cells #[.int .i64 y.txn, .int .i64 y.ts, .bool y.gone, .string y.val] 66)) (by have := hlen.out; omega) hpl.out (rgV_lit w7 y 66) (heap_alloc_last w7 (.cells #[.int .i64 y.txn, .int .i64 y.ts, .bool y.gone, .string y.val] 66)) (fun e => by have := (O7.out.own_lt' e).2; omega) (by rw [heap_size_alloc]; have := h57.out; omega); (with_reducible refine Calls.mono KJ ?_); rintro e1 w8 ⟨v8, rfl, o8, b8⟩; have M8 := Lib.hid ((M7.out.on (below1 w7 (.cells #[.int .i64 y.txn, .int .i64 y.ts, .bool y.gone, .string y.val] 66))).below b8 hw5); have V8 := Lib.hid ((V7.out.on (below1 w7 (.cells #[.int .i64 y.txn, .int .i64 y.ts, .bool y.gone, .string y.val] 66))).below b8 he5); obtain ⟨A8, c8, e8, h81, h82, h83, h84⟩ := o8.rg; subst e8; have O8 := Lib.hid (o8.setSt hw5 key (.slice A8 (vsPut L p y).length c8)); have B8 := Lib.hid (belowSetSt (q := w.heap.size + 1) M8.out.b (by omega) key (.slice A8 (vsPut L p y).length c8)); have P8 := Lib.hid (M8.out.r.put key A8 (vsPut L p y).length c8); have r0 := M8.out.r.c0; have r1 := M8.out.r.c1; have g0 := M8.out.r.f0; have g1 := M8.out.r.f1; have kc := CoS.mk M8.out V8.out; have kd := (CoS.of (M8.out.s.offSt (show w.heap.size + 1 ≠ w.heap.size from by omega) key (.slice A8 (vsPut L p y).length c8)) (V8.out.offSt he6 key (.slice A8 (vsPut L p y).length c8))); unfold CoS setSt at kd; unfold CoS at kc; clear o8 b8 h81 h82 h83 h84)
                  | (have KJ := vsInsert_any W5.heap.size _ p w6.heap.size 1 _ L y w7 O7.out (by have := hlen.out; omega) hpl.out LT7.out BK7.out NE7.out h57.out; (with_reducible refine Calls.mono KJ ?_); rintro e1 w8 ⟨v8, rfl, o8, b8⟩; have M8 := Lib.hid (M7.out.below b8 hw5); have V8 := Lib.hid (V7.out.below b8 he5); obtain ⟨A8, c8, e8, h81, h82, h83, h84⟩ := o8.rg; subst e8; have O8 := Lib.hid (o8.setSt hw5 key (.slice A8 (vsPut L p y).length c8)); have B8 := Lib.hid (belowSetSt (q := w.heap.size + 1) M8.out.b (by omega) key (.slice A8 (vsPut L p y).length c8)); have P8 := Lib.hid (M8.out.r.put key A8 (vsPut L p y).length c8); have r0 := M8.out.r.c0; have r1 := M8.out.r.c1; have g0 := M8.out.r.f0; have g1 := M8.out.r.f1; have kc := CoS.mk M8.out V8.out; have kd := (CoS.of (M8.out.s.offSt (show w.heap.size + 1 ≠ w.heap.size from by omega) key (.slice A8 (vsPut L p y).length c8)) (V8.out.offSt he6 key (.slice A8 (vsPut L p y).length c8))); unfold CoS setSt at kd; unfold CoS at kc; clear o8 b8 h81 h82 h83 h84))
            | fail)
        all_goals
          go_wp2
          have z0 := P8.out.c0; have z1 := P8.out.c1
          have o9 := O8.out; have b9 := B8.out
          unfold setSt at z0 z1 o9 b9
          refine bodyPost_ret (v := .agg #[.string key, .slice A8 (vsPut L p y).length c8]) (by simp [results, Try.results34, go_sem, z0, z1]) rfl ⟨_, rfl, by rw [HE.out]; exact o9.lift M5.out.b.size, b9⟩
      · have HE : Hid (R = l) := Lib.hid (by rw [HC.out, dif_pos hat, if_neg h1])
        have hd1 : decide (s < 1) = true := decide_eq_true (by omega)
        clear e1 e2 hat hx hM hI hb h1 HC
        have i0 := I.out.c0
        go_upto_region 3 with fail
        have s0 := M.out.drew.s.c0
        have s1 := M.out.drew.s.c1
        go_region_held3 (fun W => W.cell? ⟨w.heap.size, 0, none⟩ = some (.string key) ∧ W.cell? ⟨w.heap.size, 1, none⟩ = some (.slice A n c)) (first | with_reducible exact ⟨s0, s1⟩ | with_reducible exact ⟨t0, t1⟩ | fail)
          (first
            | (go_at_call 70; refine (KC.out _ M.out.drew.b).mono ?_; rintro e w3 ⟨v3, rfl, o3, b3⟩; obtain ⟨A3, c3, e3, h31, h32, h33, h34⟩ := o3.rg; subst e3; have O3 := Lib.hid (o3.setSt M.out.r.lt key (.slice A3 l.length c3)); have P2 := Lib.hid (M.out.drew.on b3); have B3 := Lib.hid (belowSetSt (q := w.heap.size + 1) P2.out.b (by omega) key (.slice A3 l.length c3)); have P3 := Lib.hid (P2.out.r.put key A3 l.length c3); have s0 := P2.out.s.c0; have s1 := P2.out.s.c1; have t0 := (P2.out.s.offSt (show w.heap.size + 1 ≠ w.heap.size from by omega) key (.slice A3 l.length c3)).c0; have t1 := (P2.out.s.offSt (show w.heap.size + 1 ≠ w.heap.size from by omega) key (.slice A3 l.length c3)).c1; unfold setSt at t0 t1; have r0 := P2.out.r.c0; have r1 := P2.out.r.c1; have g0 := P2.out.r.f0; have g1 := P2.out.r.f1; clear o3 b3 h31 h32 h33 h34)
            | fail)
        all_goals
          go_wp2
          have z0 := P3.out.c0; have z1 := P3.out.c1
          have o4 := O3.out; have b4 := B3.out
          unfold setSt at z0 z1 o4 b4
          refine bodyPost_ret (v := .agg #[.string key, .slice A3 l.length c3]) (by simp [results, Try.results34, go_sem, z0, z1]) rfl ⟨_, rfl, by rw [HE.out]; exact o4.lift M.out.b.size, b4⟩
    · obtain ⟨e1, _, _⟩ := vsGot_none hat
      rw [e1] at I
      have HE : Hid (R = l) := Lib.hid (by rw [HC.out, dif_neg hat])
      clear e1 hat hM hI hb HC
      have i0 := I.out.c0
      go_upto_region 3 with fail
      have s0 := M.out.drew.s.c0
      have s1 := M.out.drew.s.c1
      go_region_held3 (fun W => W.cell? ⟨w.heap.size, 0, none⟩ = some (.string key) ∧ W.cell? ⟨w.heap.size, 1, none⟩ = some (.slice A n c)) (first | with_reducible exact ⟨s0, s1⟩ | with_reducible exact ⟨t0, t1⟩ | fail)
        (first
          | (go_at_call 70; refine (KC.out _ M.out.drew.b).mono ?_; rintro e w3 ⟨v3, rfl, o3, b3⟩; obtain ⟨A3, c3, e3, h31, h32, h33, h34⟩ := o3.rg; subst e3; have O3 := Lib.hid (o3.setSt M.out.r.lt key (.slice A3 l.length c3)); have P2 := Lib.hid (M.out.drew.on b3); have B3 := Lib.hid (belowSetSt (q := w.heap.size + 1) P2.out.b (by omega) key (.slice A3 l.length c3)); have P3 := Lib.hid (P2.out.r.put key A3 l.length c3); have s0 := P2.out.s.c0; have s1 := P2.out.s.c1; have t0 := (P2.out.s.offSt (show w.heap.size + 1 ≠ w.heap.size from by omega) key (.slice A3 l.length c3)).c0; have t1 := (P2.out.s.offSt (show w.heap.size + 1 ≠ w.heap.size from by omega) key (.slice A3 l.length c3)).c1; unfold setSt at t0 t1; have r0 := P2.out.r.c0; have r1 := P2.out.r.c1; have g0 := P2.out.r.f0; have g1 := P2.out.r.f1; clear o3 b3 h31 h32 h33 h34)
          | fail)
      all_goals
        go_wp2
        have z0 := P3.out.c0; have z1 := P3.out.c1
        have o4 := O3.out; have b4 := B3.out
        unfold setSt at z0 z1 o4 b4
        refine bodyPost_ret (v := .agg #[.string key, .slice A3 l.length c3]) (by simp [results, Try.results34, go_sem, z0, z1]) rfl ⟨_, rfl, by rw [HE.out]; exact o4.lift M.out.b.size, b4⟩
end Go.Proofs.Ytjmmaghjbaigiaa
