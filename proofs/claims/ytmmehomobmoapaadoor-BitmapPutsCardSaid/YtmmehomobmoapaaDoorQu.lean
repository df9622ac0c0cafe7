/- The document's Get. -/
import Derived.Test.YtmmehomobmoapaaDoorQt
namespace Go.Proofs.YtmmehomobmoapaaDoor
open Go.RowKit
set_option linter.unusedVariables false
set_option linter.unusedSimpArgs false
/-- A cell that holds something else than a box's two fields is none of the box's. -/
theorem out_of_box {W : World} {p : Addr} {v x0 x1 : Value} {g : Nat} {t : TypeId} (h1 : W.cell? p = some v) (hg : W.heap[g]? = some (.cells #[x0, x1] t (0, 0))) (n0 : x0 ≠ v) (n1 : x1 ≠ v) : p.block ≠ g := by
  intro e
  unfold World.cell? at h1
  rw [e, hg] at h1
  revert h1
  rcases p with ⟨b, off, r⟩
  intro h1
  match off, h1 with
  | 0, h1 => simp at h1; exact n0 h1.2
  | 1, h1 => simp at h1; exact n1 h1.2
  | k + 2, h1 => simp at h1
theorem heap_past {W : World} {b g : Nat} (h : b ≠ g) (a0 a1 : Value) : ((W.setCell ⟨g, 0, none⟩ a0).setCell ⟨g, 1, none⟩ a1).heap[b]? = W.heap[b]? := by
  rw [heap_setCell_ne (fun e => h e.symm), heap_setCell_ne (fun e => h e.symm)]
theorem RB.pastBox {W : World} {A : Option Addr} {l : List UInt8} {g : Nat} {x0 x1 : Value} {t : TypeId} (h : RB W A l) (hg : W.heap[g]? = some (.cells #[x0, x1] t (0, 0))) (n0 : ∀ z, x0 ≠ .int .u8 z) (n1 : ∀ z, x1 ≠ .int .u8 z) (a0 a1 : Value) : RB ((W.setCell ⟨g, 0, none⟩ a0).setCell ⟨g, 1, none⟩ a1) A l := by
  rcases h with rfl | ⟨ad, rfl, hc⟩
  · exact .inl rfl
  · refine .inr ⟨ad, rfl, fun j x hx => ?_⟩
    have h1 := hc j x hx
    rw [cell_block (heap_past (out_of_box h1 hg (n0 _) (n1 _)) a0 a1)]
    exact h1
theorem RQ.pastBox {W : World} {A : Option Addr} {l : List UInt64} {g : Nat} {x0 x1 : Value} {t : TypeId} (h : RQ W A l) (hg : W.heap[g]? = some (.cells #[x0, x1] t (0, 0))) (n0 : ∀ z, x0 ≠ .int .u64 z) (n1 : ∀ z, x1 ≠ .int .u64 z) (a0 a1 : Value) : RQ ((W.setCell ⟨g, 0, none⟩ a0).setCell ⟨g, 1, none⟩ a1) A l := by
  rcases h with rfl | ⟨ad, rfl, hc⟩
  · exact .inl rfl
  · refine .inr ⟨ad, rfl, fun j x hx => ?_⟩
    have h1 := hc j x hx
    rw [cell_block (heap_past (out_of_box h1 hg (n0 _) (n1 _)) a0 a1)]
    exact h1
/-- The loop's state: a reader of the bytes l at block g, the map at block h. -/
structure GtS (base : Nat) (W0 W : World) (g h : Nat) (A : Option Addr) (n c f : Nat) (l : List UInt8) (S : Nat) (B : Option Addr) (m d : Nat) (L : List UInt64) : Prop where
  bel : Below base W0 W
  rat : W.heap[g]? = some (.cells #[.slice A n c, .int .i64 (f : Int)] 84 (0, 0))
  mat : W.heap[h]? = some (.cells #[.int .i64 (S : Int), .slice B m d] 24 (0, 0))
  gg : base ≤ g
  gh : base ≤ h
  ne : g ≠ h
  row : RB W A l
  len : l.length = n
  cap : n ≤ c
  wds : RQ W B L
  mcap : m ≤ d
theorem GtS.later {base : Nat} {W0 W V : World} {g h : Nat} {A : Option Addr} {n c f : Nat} {l : List UInt8} {S : Nat} {B : Option Addr} {m d : Nat} {L : List UInt64} (x : GtS base W0 W g h A n c f l S B m d L) (hb : Below W.heap.size W V) : GtS base W0 V g h A n c f l S B m d L :=
  ⟨x.bel.trans (hb.mono (Nat.le_trans x.gg (Nat.le_of_lt (Array.getElem?_eq_some_iff.1 x.rat).1))), (hb.block g (Array.getElem?_eq_some_iff.1 x.rat).1).trans x.rat, (hb.block h (Array.getElem?_eq_some_iff.1 x.mat).1).trans x.mat, x.gg, x.gh, x.ne, x.row.below hb, x.len, x.cap, x.wds.below hb, x.mcap⟩
theorem GtS.rd {base : Nat} {W0 W : World} {g h : Nat} {A : Option Addr} {n c f : Nat} {l : List UInt8} {S : Nat} {B : Option Addr} {m d : Nat} {L : List UInt64} (x : GtS base W0 W g h A n c f l S B m d L) : W.cell? ⟨g, 0, none⟩ = some (.slice A n c) ∧ W.cell? ⟨g, 1, none⟩ = some (.int .i64 (f : Int)) ∧ W.frozen? ⟨g, 0, none⟩ = false ∧ W.frozen? ⟨g, 1, none⟩ = false :=
  ⟨(cell_of_row W _ 0 _ _ _ x.rat).trans rfl, (cell_of_row W _ 1 _ _ _ x.rat).trans rfl, frozen_of x.rat 0, frozen_of x.rat 1⟩
theorem GtS.mp {base : Nat} {W0 W : World} {g h : Nat} {A : Option Addr} {n c f : Nat} {l : List UInt8} {S : Nat} {B : Option Addr} {m d : Nat} {L : List UInt64} (x : GtS base W0 W g h A n c f l S B m d L) : W.cell? ⟨h, 0, none⟩ = some (.int .i64 (S : Int)) ∧ W.cell? ⟨h, 1, none⟩ = some (.slice B m d) ∧ W.frozen? ⟨h, 0, none⟩ = false ∧ W.frozen? ⟨h, 1, none⟩ = false :=
  ⟨(cell_of_row W _ 0 _ _ _ x.mat).trans rfl, (cell_of_row W _ 1 _ _ _ x.mat).trans rfl, frozen_of x.mat 0, frozen_of x.mat 1⟩
theorem GtS.putR {base : Nat} {W0 W : World} {g h : Nat} {A : Option Addr} {n c f : Nat} {l : List UInt8} {S : Nat} {B : Option Addr} {m d : Nat} {L : List UInt64} (x : GtS base W0 W g h A n c f l S B m d L) {A' : Option Addr} {n' c' f' : Nat} {l' : List UInt8} (hr : RB W A' l') (hl : l'.length = n') (hc : n' ≤ c') : GtS base W0 ((W.setCell ⟨g, 0, none⟩ (.slice A' n' c')).setCell ⟨g, 1, none⟩ (.int .i64 (f' : Int))) g h A' n' c' f' l' S B m d L :=
  ⟨belowC x.bel x.gg _ _, heap_setC x.rat _ _, (heap_past x.ne.symm _ _).trans x.mat, x.gg, x.gh, x.ne, hr.pastBox x.rat (by simp) (by simp) _ _, hl, hc, x.wds.pastBox x.rat (by simp) (by simp) _ _, x.mcap⟩
theorem GtS.putM {base : Nat} {W0 W : World} {g h : Nat} {A : Option Addr} {n c f : Nat} {l : List UInt8} {S : Nat} {B : Option Addr} {m d : Nat} {L : List UInt64} (x : GtS base W0 W g h A n c f l S B m d L) {B' : Option Addr} {d' : Nat} {L' : List UInt64} (hr : RQ W B' L') (hc : m ≤ d') : GtS base W0 ((W.setCell ⟨h, 0, none⟩ (.int .i64 (S : Int))).setCell ⟨h, 1, none⟩ (.slice B' m d')) g h A n c f l S B' m d' L' :=
  ⟨belowC x.bel x.gh _ _, (heap_past x.ne _ _).trans x.rat, heap_setC x.mat _ _, x.gg, x.gh, x.ne, x.row.pastBox x.mat (by simp) (by simp) _ _, x.len, x.cap, hr.pastBox x.mat (by simp) (by simp) _ _, hc⟩
def lenOf : Option Value → Nat
  | some (.slice _ n _) => n
  | _ => 0
def errOf : Option Value → Nat
  | some (.int _ z) => if z = 0 then 1 else 0
  | _ => 0
theorem GtS.meas {base : Nat} {W0 W : World} {g h : Nat} {A : Option Addr} {n c f : Nat} {l : List UInt8} {S : Nat} {B : Option Addr} {m d : Nat} {L : List UInt64} (x : GtS base W0 W g h A n c f l S B m d L) : lenOf (W.cell? ⟨g, 0, none⟩) + errOf (W.cell? ⟨g, 1, none⟩) = refM l f := by
  rw [x.rd.1, x.rd.2.1]
  unfold refM
  rw [x.len]
  show n + (if (f : Int) = 0 then 1 else 0) = _
  by_cases h : f = 0
  · rw [if_pos h, if_pos (by omega)]
  · rw [if_neg h, if_neg (by omega)]
theorem refF_out {S k f n0 : Nat} {l : List UInt8} {o : Bool} {Lc : List UInt64} (h : ¬(l ≠ [] ∧ f = 0 ∧ n0 ≤ S)) : refF S k l f n0 o Lc = Lc := by
  cases k with
  | zero => rfl
  | succ k => rw [refF, if_neg h]
def fillK (S n0 rv : Nat) (o : Bool) : Nat := if o = true then min rv (S - n0) else 0
theorem refF_in {S k n0 : Nat} {l : List UInt8} {o : Bool} {Lc : List UInt64} (h : l ≠ []) (hn : n0 ≤ S) (hk : refM l 0 ≤ k) : ∃ k', refM (rdL l 0) (rdF l 0) ≤ k' ∧ refF S k l 0 n0 o Lc = refF S k' (rdL l 0) (rdF l 0) (n0 + min (rdV l 0) 4097) (!o) (fillL Lc n0 (fillK S n0 (rdV l 0) o)) := by
  have h1 := refM_step h
  obtain ⟨k', rfl⟩ : ∃ k', k = k' + 1 := ⟨k - 1, by omega⟩
  refine ⟨k', by omega, ?_⟩
  rw [refF, if_pos ⟨h, rfl, hn⟩]
  unfold fillK
  cases o with
  | true => rw [if_pos rfl, if_pos rfl]
  | false => rw [if_neg (by simp), if_neg (by simp)]; rfl
theorem box_facts {W : World} {p : Nat} {a0 a1 : Value} {t : TypeId} (h : W.heap[p]? = some (.cells #[a0, a1] t (0, 0))) : W.cell? ⟨p, 0, none⟩ = some a0 ∧ W.cell? ⟨p, 1, none⟩ = some a1 ∧ W.frozen? ⟨p, 0, none⟩ = false ∧ W.frozen? ⟨p, 1, none⟩ = false :=
  ⟨(cell_of_row W _ 0 _ _ _ h).trans rfl, (cell_of_row W _ 1 _ _ _ h).trans rfl, frozen_of h 0, frozen_of h 1⟩
theorem setK {S NS : Nat} {Lc : List UInt64} (ho : okB (S : Int) Lc = true) (hl : Lc.length = NS) (hn : NS ≤ 1000) (a j x : Nat) (hx : x = a + j) (h : x < S) (Aq : Option Addr) (cq : Nat) (W : World) (hq : NS ≤ cq) (hr : RQ W Aq (fillL Lc a j)) :
    Calls Tryd.prog 13 #[.agg #[.int .i64 (S : Int), .slice Aq NS cq], .int .i64 (x : Int), .bool true] W fun e w' => ∃ A' c', e = .returned (.agg #[.int .i64 (S : Int), .slice A' NS c']) ∧ NS ≤ c' ∧ RQ w' A' (fillL Lc a (j + 1)) ∧ Below W.heap.size W w' := by
  subst hx
  have hl2 : (fillL Lc a j).length = NS := by rw [fillL_len, hl]
  have h1 := refSet_any (S : Int) Aq cq (fillL Lc a j) ((a + j : Nat) : Int) true W (by omega) (by omega) hr
  rw [fill_set ho a j h, hl2] at h1
  exact h1
theorem putK {S NS : Nat} {L : List UInt64} (ho : okB (S : Int) L = true) (hl : L.length = NS) (A : Option Addr) (c : Nat) (W : World) (hr : RQ W A L) {R : List UInt8} {nR : Nat} (hR : putB (S : Int) L = R) (hn : R.length = nR) :
    Calls Tryd.prog 32 #[.agg #[.int .i64 (S : Int), .slice A NS c]] W fun e w' => ∃ A' c', e = .returned (.tuple #[.slice A' nR c', .int .i64 0]) ∧ RB w' A' R ∧ Below W.heap.size W w' := by
  have h := refPut_any (S : Int) A c L W hr
  have hck : chk (S : Int) L = 0 := by
    rcases chk_cases (S : Int) L with ⟨_, h⟩ | ⟨h, _⟩
    · exact h
    · rw [ho] at h; cases h
  rw [hl, hck, hR] at h
  refine h.mono ?_
  rintro e w' ⟨v, rfl, o, b⟩
  obtain ⟨A', c', rfl, _, r⟩ := o.form
  rw [hn]
  exact ⟨A', c', rfl, r, b⟩
theorem str_ne {l m : List UInt8} (h : l ≠ m) : ((str l).toList == (str m).toList) = false := by
  simp only [beq_eq_false_iff_ne, ne_eq]
  intro e
  have h2 : ∀ l : List UInt8, (str l).toList = l := by
    intro l
    simp [str, ByteArray.toList_eq]
  rw [h2, h2] at e
  exact h e
set_option maxHeartbeats 8000000 in
set_option maxRecDepth 100000 in
theorem refGet_any (A : Option Addr) (n c : Nat) (b : List UInt8) (w : World) (hn : n ≤ 1000000) (hl : b.length = n) (hc : n ≤ c) (hr : RB w A b) : Calls Tryd.prog 34 #[.slice A n c] w fun e w' => ∃ A' c', e = .returned (.tuple #[.agg #[.int .i64 (getS b : Int), .slice A' (getL b).length c'], .int .i64 (getE b : Int)]) ∧ RQ w' A' (getL b) ∧ Below w.heap.size w w' := by
  have HL := Lib.hid hl
  have HR := Lib.hid (fun W (hb : Below w.heap.size w W) => hr.below hb)
  have B0 := Lib.hid ((Below.refl _ w).alloc (Nat.le_refl _) (.cells #[.int .i64 0, .slice none 0 0] 24))
  have HX := Lib.hid (heap_alloc_last w (.cells #[.int .i64 0, .slice none 0 0] 24))
  have HZ := Lib.hid (heap_size_alloc w (.cells #[.int .i64 0, .slice none 0 0] 24))
  have KR := Lib.hid (fun W (hb : Below w.heap.size w W) => refSmall_any A n c 0 b W (by omega) hl hc (by omega) (hr.below hb))
  by_cases hS : rdV b 0 ≤ 4096
  · have KN := fun W => refNew_any ((rdV b 0 : Nat) : Int) W
    have hok : newOk ((rdV b 0 : Nat) : Int) = true := decide_eq_true (by omega)
    rw [show newS ((rdV b 0 : Nat) : Int) = (rdV b 0 : Int) from if_pos hok, show newE ((rdV b 0 : Nat) : Int) = 0 from if_pos hok] at KN
    obtain ⟨NS, hNS⟩ : ∃ NS, NS = (rdV b 0 + 63) / 64 := ⟨_, rfl⟩
    have hNL : (newL ((rdV b 0 : Nat) : Int)).length = NS := by rw [newL_len hS, hNS]
    have hNO : okB (rdV b 0 : Int) (newL ((rdV b 0 : Nat) : Int)) = true := newL_ok hS
    have HF : Hid (refF (rdV b 0) (b.length + 1) (rdL b 0) (rdF b 0) 0 false (newL ((rdV b 0 : Nat) : Int)) = refS b) := Lib.hid rfl
    have HFO := Lib.hid (refS_ok hS)
    have HM : Hid (refM (rdL b 0) (rdF b 0) ≤ b.length + 1) := Lib.hid (by have := rdL_len b 0; unfold refM; split <;> omega)
    have HYES := Lib.hid (fun h => ref_yes hS h)
    have HNO := Lib.hid (fun h => ref_no hS h)
    have hlb : (rdL b 0).length ≤ 1000000 := by have := rdL_len b 0; omega
    have hNS64 : NS ≤ 64 := by omega
    have hS4 := hS
    have HNS := Lib.hid hNS
    clear hNS
    generalize newL ((rdV b 0 : Nat) : Int) = L0 at *
    generalize rdL b 0 = l1 at *
    generalize rdF b 0 = f1 at *
    generalize rdV b 0 = S at *
    generalize refS b = LF at *
    have KN := Lib.hid KN
    have HNO0 := Lib.hid hNO
    have HNL := Lib.hid hNL
    clear hr hl hok hNO hNL
    go_enter Tryd.func34, Tryd.ntmps34
    go_wp2_with fail
    generalize w.alloc (.cells #[.int .i64 0, .slice none 0 0] 24) = W0 at *
    refine (KR.out W0 B0.out).mono ?_
    rintro e w1 ⟨A1, n1, c1, rfl, hl1, hc1, r1, b1⟩
    rw [HZ.out] at b1
    have B1 := Lib.hid b1
    have R1 := Lib.hid (r1.alloc (.cells #[.slice A1 n1 c1, .int .i64 (f1 : Int)] 84))
    have X1 := Lib.hid (heap_alloc_last w1 (.cells #[.slice A1 n1 c1, .int .i64 (f1 : Int)] 84))
    have Z1 := Lib.hid (heap_size_alloc w1 (.cells #[.slice A1 n1 c1, .int .i64 (f1 : Int)] 84))
    have V1 := Lib.hid (b1.alloc (Nat.le_trans (Nat.le_of_eq HZ.out.symm) b1.size) (.cells #[.slice A1 n1 c1, .int .i64 (f1 : Int)] 84))
    have G1 := Lib.hid (Nat.le_trans (Nat.le_of_eq HZ.out.symm) b1.size)
    clear b1 r1
    go_wp2_with fail
    generalize w1.alloc (.cells #[.slice A1 n1 c1, .int .i64 (f1 : Int)] 84) = W1 at *
    refine (KN.out W1).mono ?_
    rintro e w2 ⟨v2, rfl, o2, b2⟩
    obtain ⟨A2, d2, rfl, hd2, r2⟩ := o2.form
    rw [HNL.out] at hd2 ⊢
    have hgs : w1.heap.size < w2.heap.size := by have := b2.size; rw [Z1.out] at this; omega
    have P2 : GtS (w.heap.size + 1) W0 (w2.alloc (.cells #[.int .i64 (S : Int), .slice A2 NS d2] 24)) w1.heap.size w2.heap.size A1 n1 c1 f1 l1 S A2 NS d2 L0 :=
      ⟨(V1.out.trans (b2.mono (by have := Z1.out; have := G1.out; omega))).alloc (by have := G1.out; omega) _, ((b2.alloc b2.size _).block w1.heap.size (by have := Z1.out; omega)).trans X1.out, heap_alloc_last w2 _, G1.out, by have := G1.out; omega, Nat.ne_of_lt hgs, (R1.out.below b2).alloc _, hl1, hc1, r2.alloc _, hd2⟩
    have P2 := Lib.hid P2
    clear o2 b2 r2 hgs hl1 hc1 hd2 R1 X1 Z1 V1 G1 B1
    obtain ⟨g, hg⟩ : ∃ g, g = w1.heap.size := ⟨_, rfl⟩
    obtain ⟨h, hh⟩ : ∃ h, h = w2.heap.size := ⟨_, rfl⟩
    go_wp2
    rw [← hg, ← hh] at P2 ⊢
    generalize w2.alloc (.cells #[.int .i64 (S : Int), .slice A2 NS d2] 24) = W2 at *
    clear hg hh KR KN
    have BE := Lib.hid (fun W (k : Below (w.heap.size + 1) W0 W) => B0.out.trans (k.mono (Nat.le_succ _)))
    have hlb1 : n1 ≤ 1000000 := by have := P2.out.len; omega
    have RX := Lib.hid (fun W (k : Below (w.heap.size + 1) W0 W) => (k.block w.heap.size (Nat.lt_succ_self _)).trans HX.out)
    go_loopw [8, 9, 10, 11] (fun on n rn i wr => ∃ (k f n0 : Nat) (l : List UInt8) (o : Bool) (Lc : List UInt64) (Ar : Option Addr) (nr cr : Nat) (Am : Option Addr) (dm : Nat), on = .bool o ∧ n = .int .i64 (n0 : Int) ∧ n0 ≤ S + 4097 ∧ GtS (w.heap.size + 1) W0 wr g h Ar nr cr f l S Am NS dm Lc ∧ refF S k l f n0 o Lc = LF ∧ refM l f ≤ k ∧ okB (S : Int) Lc = true ∧ Lc.length = NS ∧ nr ≤ 1000000) (fun _ _ _ _ wr => lenOf (wr.cell? ⟨g, 0, none⟩) + errOf (wr.cell? ⟨g, 1, none⟩))
    case atStart => exact ⟨_, f1, 0, l1, false, L0, A1, n1, c1, A2, d2, rfl, rfl, Nat.zero_le _, P2.out, HF.out, HM.out, HNO0.out, HNL.out, hlb1⟩
    case round =>
      obtain ⟨k, f, n0, l, o, Lc, Ar, nr, cr, Am, dm, rfl, rfl, hn0, hP, hrf, hrm, hok, hln, hnr⟩ := hrel
      have PB := Lib.hid hP
      have HRF := Lib.hid hrf
      have HRM := Lib.hid hrm
      have HOK := Lib.hid hok
      have HLN := Lib.hid hln
      obtain ⟨u0, u1, u2, u3⟩ := hP.rd
      obtain ⟨v0, v1, v2, v3⟩ := hP.mp
      have hlen := hP.len
      clear hP hrf hrm hok hln
      by_cases hgo : l ≠ [] ∧ f = 0 ∧ n0 ≤ S
      · obtain ⟨g1, rfl, g3⟩ := hgo
        have d1 : (0 : Int) < (nr : Int) := by
          have : 0 < l.length := by cases l with
            | nil => exact absurd rfl g1
            | cons => simp
          omega
        have d3 : (n0 : Int) ≤ (S : Int) := by omega
        obtain ⟨k', hk', hstep⟩ := refF_in (S := S) (o := o) (Lc := Lc) g1 g3 HRM.out
        have HRF2 := Lib.hid (hstep.symm.trans HRF.out)
        have HRM2 := Lib.hid hk'
        have HST := Lib.hid (refM_step g1)
        have hrv := rdV_le l 0
        have hll := rdL_len l 0
        have HOK2 := Lib.hid (fill_ok HOK.out n0 (fillK S n0 (rdV l 0) o) (by unfold fillK; split <;> omega))
        have HLN2 := Lib.hid ((fillL_len Lc n0 (fillK S n0 (rdV l 0) o)).trans HLN.out)
        have HME := Lib.hid PB.out.meas
        have KS := Lib.hid (refSmall_any Ar nr cr 0 l wr (by omega) PB.out.len PB.out.cap (by omega) PB.out.row)
        generalize rdL l 0 = l5 at *
        generalize rdF l 0 = f5 at *
        generalize rdV l 0 = rv at *
        clear g1 hk' hstep HRF HRM
        go_wp2_with fail
        refine KS.out.mono ?_
        rintro e w5 ⟨A5, n5, c5, rfl, hl5, hc5, r5, b5⟩
        have PN := Lib.hid (PB.out.later b5)
        have hn5 : n5 ≤ 1000000 := by omega
        have P5 := Lib.hid (PN.out.putR (f' := f5) r5 hl5 hc5)
        obtain ⟨u0, u1, u2, u3⟩ := PN.out.rd
        clear b5 r5 hl5 hc5 v0 v1 v2 v3 KS
        obtain ⟨K, hK⟩ : ∃ K, K = fillK S n0 rv o := ⟨_, rfl⟩
        have HK := Lib.hid hK
        rw [← hK] at HRF2 HOK2 HLN2
        have hKo : K = if o = true then min rv (S - n0) else 0 := hK
        have HKO := Lib.hid hKo
        have hnr5 := hnr
        clear hK hKo hll hlen
        go_wp2
        go_loopw [11] (fun i wr => ∃ (j : Nat) (Aj : Option Addr) (dj : Nat), i = .int .i64 (j : Int) ∧ j ≤ K ∧ GtS (w.heap.size + 1) W0 wr g h A5 n5 c5 f5 l5 S Aj NS dj (fillL Lc n0 j)) (fun i _ => K - (RowKit.intOf i).toNat)
        case atStart => exact ⟨0, Am, dm, rfl, Nat.zero_le _, P5.out⟩
        case round =>
          obtain ⟨j, Aj, dj, rfl, hj, hP⟩ := hrel
          have PJ := Lib.hid hP
          clear u0 u1 u2 u3
          obtain ⟨v0, v1, v2, v3⟩ := hP.mp
          clear hP
          by_cases hjK : j < K
          · have hcond : o = true ∧ j < rv ∧ n0 + j < S := by
              have := HKO.out
              cases o with
              | true => rw [if_pos rfl] at this; exact ⟨rfl, by omega, by omega⟩
              | false => rw [if_neg (by simp)] at this; exfalso; omega
            obtain ⟨rfl, hj1, hj2⟩ := hcond
            obtain ⟨x, hx⟩ : ∃ x, x = n0 + j := ⟨_, rfl⟩
            have hx1 : IntKind.i64.wrap ((n0 : Int) + (j : Int)) = (x : Int) := by rw [IntKind.wrap_i64]; omega
            have hx2 : (x : Int) < (S : Int) := by omega
            have hx3 : (j : Int) < (rv : Int) := by omega
            have KT := Lib.hid (setK HOK.out HLN.out (by omega) n0 j x hx (by omega) Aj dj _ PJ.out.mcap PJ.out.wds)
            clear hx
            go_wp2_with fail
            refine KT.out.mono ?_
            rintro e w7 ⟨A7, c7, rfl, hc7, r7, b7⟩
            have PM := Lib.hid (PJ.out.later b7)
            obtain ⟨v0, v1, v2, v3⟩ := PM.out.mp
            have FIN := Lib.hid (PM.out.putM r7 hc7)
            clear b7 r7
            go_wp2
            go_roundw
            case rel => exact ⟨j + 1, A7, c7, by go_num, by omega, FIN.out⟩
            case measure => simp [RowKit.intOf]; omega
          · obtain rfl : j = K := by omega
            have HR2 := Lib.hid (show n0 + min rv 4097 ≤ S + 4097 from by omega)
            have hcase : ¬ j < rv ∨ (j < rv ∧ ¬ n0 + j < S) ∨ (j < rv ∧ n0 + j < S ∧ o = false) := by
              have := HKO.out
              cases o with
              | true => rw [if_pos rfl] at this; omega
              | false => by_cases q1 : j < rv <;> by_cases q2 : n0 + j < S <;> simp [q1, q2]
            obtain ⟨mv, hmv⟩ : ∃ mv, mv = min rv 4097 := ⟨_, rfl⟩
            rw [← hmv] at HR2 HRF2
            have hm1 : min (rv : Int) 4097 = (mv : Int) := by omega
            have hm0 : mv ≤ 4097 := by omega
            obtain ⟨nx, hnx⟩ : ∃ nx, nx = n0 + mv := ⟨_, rfl⟩
            rw [← hnx] at HR2 HRF2
            have hm2 : IntKind.i64.wrap ((n0 : Int) + (mv : Int)) = (nx : Int) := by rw [IntKind.wrap_i64]; omega
            have HMX : Hid ((n0 : Int) + (if (4097 : Int) < (rv : Int) then 4097 else (rv : Int)) = (nx : Int)) := Lib.hid (by split <;> omega)
            clear hmv hnx
            clear hm1 hm2 hm0
            rcases hcase with q1 | ⟨q1, q2⟩ | ⟨q1, q2, rfl⟩
            · have e1 : decide ((j : Int) < (rv : Int)) = false := by simp; omega
              have e2 : (rv : Int) ≤ (j : Int) := by omega
              go_wp2
              go_roundw
              case rel => exact ⟨_, f5, nx, l5, _, fillL Lc n0 j, A5, n5, c5, Aj, dj, rfl, congrArg _ HMX.out, HR2.out, PJ.out, HRF2.out, HRM2.out, HOK2.out, HLN2.out, hn5⟩
              case measure => have q3 := HST.out; have q4 := PJ.out.meas; have q5 := HME.out; omega
            · have e1 : (j : Int) < (rv : Int) := by omega
              obtain ⟨x, hx⟩ : ∃ x, x = n0 + j := ⟨_, rfl⟩
              have hx1 : IntKind.i64.wrap ((n0 : Int) + (j : Int)) = (x : Int) := by rw [IntKind.wrap_i64]; omega
              have e2 : decide ((x : Int) < (S : Int)) = false := by simp; omega
              have e3 : (S : Int) ≤ (x : Int) := by omega
              clear hx q2
              go_wp2
              go_roundw
              case rel => exact ⟨_, f5, nx, l5, _, fillL Lc n0 j, A5, n5, c5, Aj, dj, rfl, congrArg _ HMX.out, HR2.out, PJ.out, HRF2.out, HRM2.out, HOK2.out, HLN2.out, hn5⟩
              case measure => have q3 := HST.out; have q4 := PJ.out.meas; have q5 := HME.out; omega
            · have e1 : (j : Int) < (rv : Int) := by omega
              obtain ⟨x, hx⟩ : ∃ x, x = n0 + j := ⟨_, rfl⟩
              have hx1 : IntKind.i64.wrap ((n0 : Int) + (j : Int)) = (x : Int) := by rw [IntKind.wrap_i64]; omega
              have e2 : (x : Int) < (S : Int) := by omega
              clear hx q2
              go_wp2
              go_roundw
              case rel => exact ⟨_, f5, nx, l5, _, fillL Lc n0 j, A5, n5, c5, Aj, dj, rfl, congrArg _ HMX.out, HR2.out, PJ.out, HRF2.out, HRM2.out, HOK2.out, HLN2.out, hn5⟩
              case measure => have q3 := HST.out; have q4 := PJ.out.meas; have q5 := HME.out; omega
      · have e0 := refF_out (S := S) (k := k) (o := o) (Lc := Lc) hgo
        obtain rfl : Lc = LF := e0.symm.trans HRF.out
        have HLF := Lib.hid HOK.out
        have HLL := Lib.hid HLN.out
        obtain ⟨R, hR⟩ : ∃ R, putB (S : Int) Lc = R := ⟨_, rfl⟩
        obtain ⟨nR, hnR⟩ : ∃ nR, R.length = nR := ⟨_, rfl⟩
        have HPUT := Lib.hid hR
        have HRL := Lib.hid hnR
        have HYES := Lib.hid (fun (q : R = b) => HYES.out (hR.trans q))
        have HNO := Lib.hid (fun (q : R ≠ b) => HNO.out (fun q2 => q (hR.symm.trans q2)))
        have hcase : nr = 0 ∨ (0 < nr ∧ f ≠ 0) ∨ (0 < nr ∧ f = 0 ∧ S < n0) := by
          by_cases q1 : nr = 0
          · exact .inl q1
          · by_cases q2 : f = 0
            · refine .inr (.inr ⟨by omega, q2, ?_⟩)
              rcases Nat.lt_or_ge S n0 with q3 | q3
              · exact q3
              · exact absurd ⟨by intro q4; rw [q4] at hlen; simp at hlen; omega, q2, q3⟩ hgo
            · exact .inr (.inl ⟨by omega, q2⟩)
        clear hgo e0 HRF HF hR hnR HRM HOK HLN
        rcases hcase with rfl | ⟨q1, q2⟩ | ⟨q1, rfl, q2⟩
        · skip
          go_wp2_with fail
          refine (putK HLF.out HLL.out Am dm _ PB.out.wds HPUT.out HRL.out).mono ?_
          rintro e w6 ⟨A6, c6, rfl, r6, b6⟩
          have PZ := Lib.hid (PB.out.later b6)
          have hx0 := RX.out w6 PZ.out.bel
          obtain ⟨z0, z1, z2, z3⟩ := box_facts hx0
          obtain ⟨v0, v1, v2, v3⟩ := PZ.out.mp
          have hcv1 := run_str w6 A6 nR c6 R HRL.out r6
          have hcv2 := run_str w6 A n c b HL.out (HR.out _ (BE.out _ PZ.out.bel))
          have HX0 := Lib.hid hx0
          clear b6 r6 hx0 u0 u1 u2 u3
          by_cases hY : R = b
          · obtain ⟨gs, gl, ge⟩ := getR_some (HYES.out hY)
            have GS := Lib.hid gs
            have GL := Lib.hid gl
            have GE := Lib.hid ge
            have hbt : ((str R).toList == (str b).toList) = true := by rw [hY]; simp
            clear gs gl ge hY
            go_wp2
            rw [GS.out, GL.out, GE.out, HLL.out]
            refine bodyPost_ret (v := .tuple #[.agg #[.int .i64 (S : Int), .slice Am NS dm], .int .i64 0]) (by simp [results, Tryd.results34, go_sem, z0, z1]) rfl ⟨Am, dm, rfl, PZ.out.wds.pastBox HX0.out (by simp) (by simp) _ _, belowC (BE.out _ PZ.out.bel) (Nat.le_refl _) _ _⟩
          · obtain ⟨gs, gl, ge⟩ := getR_none (HNO.out hY)
            have GS := Lib.hid gs
            have GL := Lib.hid gl
            have GE := Lib.hid ge
            have hbt : ((str R).toList == (str b).toList) = false := str_ne hY
            clear gs gl ge hY
            go_wp2
            rw [GS.out, GL.out, GE.out]
            refine bodyPost_ret (v := .tuple #[.agg #[.int .i64 0, .slice none 0 0], .int .i64 4]) (by simp [results, Tryd.results34, go_sem, z0, z1]) rfl ⟨none, 0, rfl, .inl rfl, belowC (BE.out _ PZ.out.bel) (Nat.le_refl _) _ _⟩
        · have e1 : (0 : Int) < (nr : Int) := by omega
          have e2 : ((f : Int) == 0) = false := by simp; omega
          go_wp2_with fail
          refine (putK HLF.out HLL.out Am dm _ PB.out.wds HPUT.out HRL.out).mono ?_
          rintro e w6 ⟨A6, c6, rfl, r6, b6⟩
          have PZ := Lib.hid (PB.out.later b6)
          have hx0 := RX.out w6 PZ.out.bel
          obtain ⟨z0, z1, z2, z3⟩ := box_facts hx0
          obtain ⟨v0, v1, v2, v3⟩ := PZ.out.mp
          have hcv1 := run_str w6 A6 nR c6 R HRL.out r6
          have hcv2 := run_str w6 A n c b HL.out (HR.out _ (BE.out _ PZ.out.bel))
          have HX0 := Lib.hid hx0
          clear b6 r6 hx0 u0 u1 u2 u3
          by_cases hY : R = b
          · obtain ⟨gs, gl, ge⟩ := getR_some (HYES.out hY)
            have GS := Lib.hid gs
            have GL := Lib.hid gl
            have GE := Lib.hid ge
            have hbt : ((str R).toList == (str b).toList) = true := by rw [hY]; simp
            clear gs gl ge hY
            go_wp2
            rw [GS.out, GL.out, GE.out, HLL.out]
            refine bodyPost_ret (v := .tuple #[.agg #[.int .i64 (S : Int), .slice Am NS dm], .int .i64 0]) (by simp [results, Tryd.results34, go_sem, z0, z1]) rfl ⟨Am, dm, rfl, PZ.out.wds.pastBox HX0.out (by simp) (by simp) _ _, belowC (BE.out _ PZ.out.bel) (Nat.le_refl _) _ _⟩
          · obtain ⟨gs, gl, ge⟩ := getR_none (HNO.out hY)
            have GS := Lib.hid gs
            have GL := Lib.hid gl
            have GE := Lib.hid ge
            have hbt : ((str R).toList == (str b).toList) = false := str_ne hY
            clear gs gl ge hY
            go_wp2
            rw [GS.out, GL.out, GE.out]
            refine bodyPost_ret (v := .tuple #[.agg #[.int .i64 0, .slice none 0 0], .int .i64 4]) (by simp [results, Tryd.results34, go_sem, z0, z1]) rfl ⟨none, 0, rfl, .inl rfl, belowC (BE.out _ PZ.out.bel) (Nat.le_refl _) _ _⟩
        · have e1 : (0 : Int) < (nr : Int) := by omega
          have e2 : decide ((n0 : Int) ≤ (S : Int)) = false := by simp; omega
          have e3 : (S : Int) < (n0 : Int) := by omega
          go_wp2_with fail
          refine (putK HLF.out HLL.out Am dm _ PB.out.wds HPUT.out HRL.out).mono ?_
          rintro e w6 ⟨A6, c6, rfl, r6, b6⟩
          have PZ := Lib.hid (PB.out.later b6)
          have hx0 := RX.out w6 PZ.out.bel
          obtain ⟨z0, z1, z2, z3⟩ := box_facts hx0
          obtain ⟨v0, v1, v2, v3⟩ := PZ.out.mp
          have hcv1 := run_str w6 A6 nR c6 R HRL.out r6
          have hcv2 := run_str w6 A n c b HL.out (HR.out _ (BE.out _ PZ.out.bel))
          have HX0 := Lib.hid hx0
          clear b6 r6 hx0 u0 u1 u2 u3
          by_cases hY : R = b
          · obtain ⟨gs, gl, ge⟩ := getR_some (HYES.out hY)
            have GS := Lib.hid gs
            have GL := Lib.hid gl
            have GE := Lib.hid ge
            have hbt : ((str R).toList == (str b).toList) = true := by rw [hY]; simp
            clear gs gl ge hY
            go_wp2
            rw [GS.out, GL.out, GE.out, HLL.out]
            refine bodyPost_ret (v := .tuple #[.agg #[.int .i64 (S : Int), .slice Am NS dm], .int .i64 0]) (by simp [results, Tryd.results34, go_sem, z0, z1]) rfl ⟨Am, dm, rfl, PZ.out.wds.pastBox HX0.out (by simp) (by simp) _ _, belowC (BE.out _ PZ.out.bel) (Nat.le_refl _) _ _⟩
          · obtain ⟨gs, gl, ge⟩ := getR_none (HNO.out hY)
            have GS := Lib.hid gs
            have GL := Lib.hid gl
            have GE := Lib.hid ge
            have hbt : ((str R).toList == (str b).toList) = false := str_ne hY
            clear gs gl ge hY
            go_wp2
            rw [GS.out, GL.out, GE.out]
            refine bodyPost_ret (v := .tuple #[.agg #[.int .i64 0, .slice none 0 0], .int .i64 4]) (by simp [results, Tryd.results34, go_sem, z0, z1]) rfl ⟨none, 0, rfl, .inl rfl, belowC (BE.out _ PZ.out.bel) (Nat.le_refl _) _ _⟩
  · have KN := fun W => refNew_any ((rdV b 0 : Nat) : Int) W
    have hok : newOk ((rdV b 0 : Nat) : Int) = false := decide_eq_false (by omega)
    have hok2 : ¬ newOk ((rdV b 0 : Nat) : Int) = true := by rw [hok]; simp
    rw [show newS ((rdV b 0 : Nat) : Int) = 0 from if_neg hok2, show newE ((rdV b 0 : Nat) : Int) = 2 from if_neg hok2, show newL ((rdV b 0 : Nat) : Int) = [] from if_neg hok2] at KN
    obtain ⟨gs, gl, ge⟩ := getR_none (ref_wide hS)
    have GS := Lib.hid gs
    have GL := Lib.hid gl
    have GE := Lib.hid ge
    have HK0 : Hid (∀ (A : Option Addr) (c : Nat) (W : World), RQ W A [] → Calls Tryd.prog 32 #[.agg #[.int .i64 ((0 : Nat) : Int), .slice A 0 c]] W fun e w' => ∃ A' c' nR, e = .returned (.tuple #[.slice A' nR c', .int .i64 0]) ∧ RB w' A' (putB ((0 : Nat) : Int) []) ∧ Below W.heap.size W w') := Lib.hid (fun A c W hr => (putK (S := 0) (NS := 0) (L := []) (newL_ok (s := 0) (Nat.zero_le _)) rfl A c W hr rfl rfl).mono (by
      rintro e w' ⟨A', c', rfl, r, b⟩
      exact ⟨A', c', _, rfl, r, b⟩))
    generalize rdL b 0 = l1 at *
    generalize rdF b 0 = f1 at *
    generalize rdV b 0 = S at *
    have KN := Lib.hid KN
    clear hr hl hok hok2 gs gl ge
    go_enter Tryd.func34, Tryd.ntmps34
    go_wp2_with fail
    generalize w.alloc (.cells #[.int .i64 0, .slice none 0 0] 24) = W0 at *
    refine (KR.out W0 B0.out).mono ?_
    rintro e w1 ⟨A1, n1, c1, rfl, hl1, hc1, r1, b1⟩
    rw [HZ.out] at b1
    have B1 := Lib.hid b1
    have R1 := Lib.hid (r1.alloc (.cells #[.slice A1 n1 c1, .int .i64 (f1 : Int)] 84))
    have X1 := Lib.hid (heap_alloc_last w1 (.cells #[.slice A1 n1 c1, .int .i64 (f1 : Int)] 84))
    have Z1 := Lib.hid (heap_size_alloc w1 (.cells #[.slice A1 n1 c1, .int .i64 (f1 : Int)] 84))
    have V1 := Lib.hid (b1.alloc (Nat.le_trans (Nat.le_of_eq HZ.out.symm) b1.size) (.cells #[.slice A1 n1 c1, .int .i64 (f1 : Int)] 84))
    have G1 := Lib.hid (Nat.le_trans (Nat.le_of_eq HZ.out.symm) b1.size)
    clear b1 r1
    go_wp2_with fail
    generalize w1.alloc (.cells #[.slice A1 n1 c1, .int .i64 (f1 : Int)] 84) = W1 at *
    refine (KN.out W1).mono ?_
    rintro e w2 ⟨v2, rfl, o2, b2⟩
    obtain ⟨A2, d2, rfl, hd2, r2⟩ := o2.form
    have hgs : w1.heap.size < w2.heap.size := by have := b2.size; rw [Z1.out] at this; omega
    have P2 : GtS (w.heap.size + 1) W0 (w2.alloc (.cells #[.int .i64 0, .slice A2 0 d2] 24)) w1.heap.size w2.heap.size A1 n1 c1 f1 l1 0 A2 0 d2 [] :=
      ⟨(V1.out.trans (b2.mono (by have := Z1.out; have := G1.out; omega))).alloc (by have := G1.out; omega) _, ((b2.alloc b2.size _).block w1.heap.size (by have := Z1.out; omega)).trans X1.out, heap_alloc_last w2 _, G1.out, by have := G1.out; omega, Nat.ne_of_lt hgs, (R1.out.below b2).alloc _, hl1, hc1, r2.alloc _, hd2⟩
    have P2 := Lib.hid P2
    clear o2 b2 r2 hgs hl1 hc1 hd2 R1 X1 Z1 V1 G1 B1
    obtain ⟨g, hg⟩ : ∃ g, g = w1.heap.size := ⟨_, rfl⟩
    obtain ⟨h, hh⟩ : ∃ h, h = w2.heap.size := ⟨_, rfl⟩
    go_wp2
    rw [← hg, ← hh] at P2 ⊢
    generalize w2.alloc (.cells #[.int .i64 0, .slice A2 0 d2] 24) = W2 at *
    clear hg hh KR KN
    have BE := Lib.hid (fun W (k : Below (w.heap.size + 1) W0 W) => B0.out.trans (k.mono (Nat.le_succ _)))
    have RX := Lib.hid (fun W (k : Below (w.heap.size + 1) W0 W) => (k.block w.heap.size (Nat.lt_succ_self _)).trans HX.out)
    go_loopw [8, 9, 10, 11] (fun on n rn i wr => ∃ (Am : Option Addr) (dm : Nat), on = .bool false ∧ n = .int .i64 0 ∧ GtS (w.heap.size + 1) W0 wr g h A1 n1 c1 f1 l1 0 Am 0 dm []) (fun _ _ _ _ _ => 0)
    case atStart => exact ⟨A2, d2, rfl, rfl, P2.out⟩
    case round =>
      obtain ⟨Am, dm, rfl, rfl, hP⟩ := hrel
      have PB := Lib.hid hP
      obtain ⟨u0, u1, u2, u3⟩ := hP.rd
      obtain ⟨v0, v1, v2, v3⟩ := hP.mp
      clear hP
      have hcase : n1 = 0 ∨ (0 < n1 ∧ f1 ≠ 0) ∨ (0 < n1 ∧ f1 = 0) := by omega
      rcases hcase with rfl | ⟨q1, q2⟩ | ⟨q1, rfl⟩
      · skip
        go_wp2_with fail
        refine (HK0.out Am dm _ PB.out.wds).mono ?_
        rintro e w6 ⟨A6, c6, n6, rfl, r6, b6⟩
        have PZ := Lib.hid (PB.out.later b6)
        have hx0 := RX.out w6 PZ.out.bel
        obtain ⟨z0, z1, z2, z3⟩ := box_facts hx0
        clear b6 r6 hx0 u0 u1 u2 u3
        go_wp2
        rw [GS.out, GL.out, GE.out]
        refine bodyPost_ret (v := .tuple #[.agg #[.int .i64 0, .slice none 0 0], .int .i64 4]) (by simp [results, Tryd.results34, go_sem, z0, z1]) rfl ⟨none, 0, rfl, .inl rfl, belowC (BE.out _ PZ.out.bel) (Nat.le_refl _) _ _⟩
      · have e1 : (0 : Int) < (n1 : Int) := by omega
        have e2 : ((f1 : Int) == 0) = false := by simp; omega
        go_wp2_with fail
        refine (HK0.out Am dm _ PB.out.wds).mono ?_
        rintro e w6 ⟨A6, c6, n6, rfl, r6, b6⟩
        have PZ := Lib.hid (PB.out.later b6)
        have hx0 := RX.out w6 PZ.out.bel
        obtain ⟨z0, z1, z2, z3⟩ := box_facts hx0
        clear b6 r6 hx0 u0 u1 u2 u3
        go_wp2
        rw [GS.out, GL.out, GE.out]
        refine bodyPost_ret (v := .tuple #[.agg #[.int .i64 0, .slice none 0 0], .int .i64 4]) (by simp [results, Tryd.results34, go_sem, z0, z1]) rfl ⟨none, 0, rfl, .inl rfl, belowC (BE.out _ PZ.out.bel) (Nat.le_refl _) _ _⟩
      · have e1 : (0 : Int) < (n1 : Int) := by omega
        go_wp2_with fail
        refine (HK0.out Am dm _ PB.out.wds).mono ?_
        rintro e w6 ⟨A6, c6, n6, rfl, r6, b6⟩
        have PZ := Lib.hid (PB.out.later b6)
        have hx0 := RX.out w6 PZ.out.bel
        obtain ⟨z0, z1, z2, z3⟩ := box_facts hx0
        clear b6 r6 hx0 u0 u1 u2 u3
        go_wp2
        rw [GS.out, GL.out, GE.out]
        refine bodyPost_ret (v := .tuple #[.agg #[.int .i64 0, .slice none 0 0], .int .i64 4]) (by simp [results, Tryd.results34, go_sem, z0, z1]) rfl ⟨none, 0, rfl, .inl rfl, belowC (BE.out _ PZ.out.bel) (Nat.le_refl _) _ _⟩
end Go.Proofs.YtmmehomobmoapaaDoor
