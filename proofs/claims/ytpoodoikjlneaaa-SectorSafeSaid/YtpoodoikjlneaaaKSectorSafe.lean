/- The walk of the law SectorSafe out of the contracts. -/
import Derived.Test.YtpoodoikjlneaaaScU
import Derived.Deep.RegionHeld3
import Derived.OrdersHeld
import Derived.Deep.QuietTactic
import Derived.BigQuiet
namespace Go.Proofs.Ytpoodoikjlneaaa.sectorSafe
open Go.RowKit
set_option linter.unusedVariables false
/-- While the marks are written. -/
def Rel1 (base : Nat) (F : Ft) (M : List UInt8) (w : World) (i : Value) (wr : World) : Prop :=
  ∃ (k : Nat) (s : Dk), k ≤ 9 ∧ i = .int .i64 (k : Int) ∧ DkAt base F wr s ∧ Good s 9 ∧ s.calls = k ∧ (∀ j, j < k → s.at_ j = oneB (M.getD j 0)) ∧ wr.heap[w.heap.size]? = some (.cells (cellsB M).toArray 49 (0, 0)) ∧ Below w.heap.size w wr
theorem mark_cell {wr : World} {g k : Nat} {M : List UInt8} {t : TypeId} (h : wr.heap[g]? = some (.cells (cellsB M).toArray t (0, 0))) (hk : k < M.length) : wr.cell? ⟨g, k, none⟩ = some (.int .u8 ((M.getD k 0).toNat : Int)) := by
  rw [cell_of_row wr g k _ _ _ h]
  simp [cellsB, List.getElem?_eq_getElem hk, cellB]
theorem getD_set_self {α : Type} {l : List α} {i : Nat} {x d : α} (h : i < l.length) : (l.set i x).getD i d = x := by
  rw [List.getD_eq_getElem?_getD, List.getElem?_set_self h]
  rfl
theorem getD_set_ne {α : Type} {l : List α} {i j : Nat} {x d : α} (h : i ≠ j) : (l.set j x).getD i d = l.getD i d := by
  rw [List.getD_eq_getElem?_getD, List.getElem?_set_ne (fun e => h e.symm), ← List.getD_eq_getElem?_getD]
def cellsN (C : List Nat) : List Value := C.map fun c : Nat => Value.int .i64 (c : Int)
/-- While calls are done: how often each sector was written, and what last. -/
structure St (base Bw Bl : Nat) (F : Ft) (M : List UInt8) (w : World) (C : List Nat) (Ls : List UInt8) (s : Dk) (k : Nat) (wr : World) : Prop where
  dk : DkAt base F wr s
  good : Good s 9
  calls : s.calls ≤ 10 + k
  rows : ∀ i, i < 9 → s.rows.getD i [] = oneB (M.getD i 0)
  wt : ∀ i, i < 9 → s.wt i = if 0 < C.getD i 0 then some (oneB (Ls.getD i 0)) else none
  cl : C.length = 9
  ll : Ls.length = 9
  cb : ∀ i, C.getD i 0 ≤ k
  hw : wr.heap[Bw]? = some (.cells (cellsN C).toArray 51 (0, 0))
  hl : wr.heap[Bl]? = some (.cells (cellsB Ls).toArray 49 (0, 0))
  hm : wr.heap[w.heap.size]? = some (.cells (cellsB M).toArray 49 (0, 0))
  below : Below w.heap.size w wr
theorem St.alloc {base Bw Bl : Nat} {F : Ft} {M : List UInt8} {w : World} {C : List Nat} {Ls : List UInt8} {s : Dk} {k : Nat} {wr : World} (h : St base Bw Bl F M w C Ls s k wr) (o : Obj) : St base Bw Bl F M w C Ls s k (wr.alloc o) :=
  ⟨h.dk.alloc o, h.good, h.calls, h.rows, h.wt, h.cl, h.ll, h.cb, (Below.heap_alloc _ _ _ (Array.getElem?_eq_some_iff.1 h.hw).1).trans h.hw, (Below.heap_alloc _ _ _ (Array.getElem?_eq_some_iff.1 h.hl).1).trans h.hl, (Below.heap_alloc _ _ _ (Array.getElem?_eq_some_iff.1 h.hm).1).trans h.hm, h.below.alloc h.below.size o⟩
theorem St.ofBelow {base Bw Bl : Nat} {F : Ft} {M : List UInt8} {w : World} {C : List Nat} {Ls : List UInt8} {s : Dk} {k : Nat} {wr w' : World} (h : St base Bw Bl F M w C Ls s k wr) (hb : Below wr.heap.size wr w') : St base Bw Bl F M w C Ls s k w' :=
  ⟨h.dk.below hb, h.good, h.calls, h.rows, h.wt, h.cl, h.ll, h.cb, (hb.block _ (Array.getElem?_eq_some_iff.1 h.hw).1).trans h.hw, (hb.block _ (Array.getElem?_eq_some_iff.1 h.hl).1).trans h.hl, (hb.block _ (Array.getElem?_eq_some_iff.1 h.hm).1).trans h.hm, h.below.trans (hb.mono h.below.size)⟩
theorem St.mono {base Bw Bl : Nat} {F : Ft} {M : List UInt8} {w : World} {C : List Nat} {Ls : List UInt8} {s : Dk} {k k' : Nat} {wr : World} (h : St base Bw Bl F M w C Ls s k wr) (hk : k ≤ k') : St base Bw Bl F M w C Ls s k' wr :=
  ⟨h.dk, h.good, Nat.le_trans h.calls (by omega), h.rows, h.wt, h.cl, h.ll, fun i => Nat.le_trans (h.cb i) hk, h.hw, h.hl, h.hm, h.below⟩
theorem St.cw {base Bw Bl : Nat} {F : Ft} {M : List UInt8} {w : World} {C : List Nat} {Ls : List UInt8} {s : Dk} {k : Nat} {wr : World} (h : St base Bw Bl F M w C Ls s k wr) {j : Nat} (hj : j < 9) : wr.cell? ⟨Bw, j, none⟩ = some (.int .i64 (C.getD j 0 : Int)) := by
  rw [cell_of_row wr Bw j _ _ _ h.hw]
  simp [cellsN, List.getElem?_eq_getElem (show j < C.length by rw [h.cl]; exact hj)]
theorem St.fw {base Bw Bl : Nat} {F : Ft} {M : List UInt8} {w : World} {C : List Nat} {Ls : List UInt8} {s : Dk} {k : Nat} {wr : World} (h : St base Bw Bl F M w C Ls s k wr) (j : Nat) : wr.frozen? ⟨Bw, j, none⟩ = false := by simp [World.frozen?, h.hw]
theorem St.fl {base Bw Bl : Nat} {F : Ft} {M : List UInt8} {w : World} {C : List Nat} {Ls : List UInt8} {s : Dk} {k : Nat} {wr : World} (h : St base Bw Bl F M w C Ls s k wr) (j : Nat) : wr.frozen? ⟨Bl, j, none⟩ = false := by simp [World.frozen?, h.hl]
theorem St.step {base Bw Bl : Nat} {F : Ft} {M : List UInt8} {w : World} {C : List Nat} {Ls : List UInt8} {s : Dk} {k : Nat} {wr w2 : World} (h : St base Bw Bl F M w C Ls s k wr) (hne : Bw ≠ Bl) (nw : ¬ F.has Bw) (nl : ¬ F.has Bl) (nm : ¬ F.has w.heap.size) (mw : Bw ≠ w.heap.size) (ml : Bl ≠ w.heap.size) (gw : w.heap.size ≤ Bw) (gl : w.heap.size ≤ Bl) (hbase : w.heap.size ≤ base)
    {j : Nat} (hj : j < 9) {x : UInt8} (hd : DkAt base F w2 (s.write (j : Int) (oneB x))) (hf : Frm F.has wr w2) :
    St base Bw Bl F M w (C.set j (C.getD j 0 + 1)) (Ls.set j x) (s.write (j : Int) (oneB x)) (k + 1) ((w2.setCell ⟨Bw, j, none⟩ (.int .i64 ((C.getD j 0 : Int) + 1))).setCell ⟨Bl, j, none⟩ (.int .u8 (x.toNat : Int))) := by
  obtain ⟨w1, _⟩ := h.good.write hj (oneB_len x)
  have hw2 := (hf.block _ (Array.getElem?_eq_some_iff.1 h.hw).1 nw).trans h.hw
  have hl2 := (hf.block _ (Array.getElem?_eq_some_iff.1 h.hl).1 nl).trans h.hl
  have hm2 := (hf.block _ (Array.getElem?_eq_some_iff.1 h.hm).1 nm).trans h.hm
  have hcl : j < C.length := by rw [h.cl]; exact hj
  have hll : j < Ls.length := by rw [h.ll]; exact hj
  refine ⟨(hd.kept fun i hi => ?_), (h.good.ofWrite _ (oneB_len x)).1, Nat.le_trans (h.good.ofWrite (j : Int) (oneB_len x)).2 (by have := h.calls; omega), ?_, ?_, by simp [h.cl], by simp [h.ll], ?_, ?_, ?_, ?_, ?_⟩
  · rw [Below.heap_setCell _ _ _ _ (fun e => nl (by have e : i = Bl := e; rw [← e]; exact hi)), Below.heap_setCell _ _ _ _ (fun e => nw (by have e : i = Bw := e; rw [← e]; exact hi))]
  · rw [w1]; exact h.rows
  · intro i hi
    rw [w1]
    show (if i = j then some (oneB x) else s.wt i) = _
    by_cases e : i = j
    · subst e
      rw [if_pos rfl, getD_set_self hcl, getD_set_self hll, if_pos (by omega)]
    · rw [if_neg e, h.wt i hi, getD_set_ne e, getD_set_ne e]
  · intro i
    by_cases e : i = j
    · subst e
      rw [getD_set_self hcl]
      have := h.cb i
      omega
    · rw [getD_set_ne e]
      have := h.cb i
      omega
  · rw [Below.heap_setCell _ _ _ _ hne, heap_setCell_block _ hw2]
    simp [cellsN, List.map_set]
  · rw [heap_setCell_block (cs := (cellsB Ls).toArray) (t := 49) _ ((Below.heap_setCell _ _ _ _ (fun e => hne e.symm)).trans hl2)]
    simp [cellsB, List.map_set, cellB]
  · rw [Below.heap_setCell _ _ _ _ (fun e => ml e.symm), Below.heap_setCell _ _ _ _ (fun e => mw e.symm)]
    exact hm2
  · exact ((h.below.trans (hf.below (fun i hi => Nat.le_trans hbase (hd.based i hi)) h.below.size)).setCell gw _).setCell gl _
def Rel2 (base Bw Bl : Nat) (F : Ft) (M : List UInt8) (w : World) (n : Nat) (i : Value) (wr : World) : Prop :=
  ∃ (k : Nat) (C : List Nat) (Ls : List UInt8) (s : Dk), k ≤ n ∧ i = .int .i64 (k : Int) ∧ St base Bw Bl F M w C Ls s k wr
/-- While sectors are looked at. -/
structure R3 (base Bw Bl : Nat) (F : Ft) (M : List UInt8) (w : World) (C : List Nat) (Ls : List UInt8) (s : Dk) (wr : World) : Prop where
  dk : DkAt base F wr s
  hw : wr.heap[Bw]? = some (.cells (cellsN C).toArray 51 (0, 0))
  hl : wr.heap[Bl]? = some (.cells (cellsB Ls).toArray 49 (0, 0))
  hm : wr.heap[w.heap.size]? = some (.cells (cellsB M).toArray 49 (0, 0))
  below : Below w.heap.size w wr
theorem R3.ofBelow {base Bw Bl : Nat} {F : Ft} {M : List UInt8} {w : World} {C : List Nat} {Ls : List UInt8} {s : Dk} {wr w' : World} (h : R3 base Bw Bl F M w C Ls s wr) (hb : Below wr.heap.size wr w') : R3 base Bw Bl F M w C Ls s w' :=
  ⟨h.dk.below hb, (hb.block _ (Array.getElem?_eq_some_iff.1 h.hw).1).trans h.hw, (hb.block _ (Array.getElem?_eq_some_iff.1 h.hl).1).trans h.hl, (hb.block _ (Array.getElem?_eq_some_iff.1 h.hm).1).trans h.hm, h.below.trans (hb.mono h.below.size)⟩
theorem R3.drewN {base Bw Bl : Nat} {F : Ft} {M : List UInt8} {w : World} {C : List Nat} {Ls : List UInt8} {s : Dk} {wr : World} (h : R3 base Bw Bl F M w C Ls s wr) (q : Nat) : R3 base Bw Bl F M w C Ls s (wr.drewN q) :=
  ⟨h.dk.drewN q, h.hw, h.hl, h.hm, ⟨h.below.os, h.below.tape, h.below.output, h.below.size, h.below.block⟩⟩
theorem R3.cw {base Bw Bl : Nat} {F : Ft} {M : List UInt8} {w : World} {C : List Nat} {Ls : List UInt8} {s : Dk} {wr : World} (h : R3 base Bw Bl F M w C Ls s wr) (hc : C.length = 9) {j : Nat} (hj : j < 9) : wr.cell? ⟨Bw, j, none⟩ = some (.int .i64 (C.getD j 0 : Int)) := by
  rw [cell_of_row wr Bw j _ _ _ h.hw]
  simp [cellsN, List.getElem?_eq_getElem (show j < C.length by rw [hc]; exact hj)]
def Rel3 (base Bw Bl : Nat) (F : Ft) (M : List UInt8) (w : World) (C : List Nat) (Ls : List UInt8) (s : Dk) (i : Value) (wr : World) : Prop :=
  ∃ k : Nat, k ≤ 9 ∧ i = .int .i64 (k : Int) ∧ R3 base Bw Bl F M w C Ls s wr
def Rel4 (base Bw Bl : Nat) (F : Ft) (M : List UInt8) (w : World) (C : List Nat) (Ls : List UInt8) (s : Dk) (A : Option Addr) (y : List UInt8) (i : Value) (wr : World) : Prop :=
  ∃ k : Nat, k ≤ 256 ∧ i = .int .i64 (k : Int) ∧ R3 base Bw Bl F M w C Ls s wr ∧ RB wr A y
def Rel5 (base Bw Bl : Nat) (F : Ft) (M : List UInt8) (w : World) (C : List Nat) (Ls : List UInt8) (s : Dk) (A : Option Addr) (y : List UInt8) (z : UInt8) (i : Value) (wr : World) : Prop :=
  ∃ k : Nat, k ≤ 256 ∧ i = .int .i64 (k : Int) ∧ R3 base Bw Bl F M w C Ls s wr ∧ RB wr A y ∧ ∀ j, k ≤ j → j < 256 → y[j]? = some z
/-- What each sector has in the end. -/
theorem St.parts {base Bw Bl : Nat} {F : Ft} {M : List UInt8} {w : World} {C : List Nat} {Ls : List UInt8} {s : Dk} {k : Nat} {wr : World} (h : St base Bw Bl F M w C Ls s k wr) (fs : List UInt8) : ∀ i, i < 9 → ∃ t, t ≤ 256 ∧ (¬ 0 < C.getD i 0 → t = 0) ∧ (s.power fs).at_ i = (oneB (Ls.getD i 0)).take t ++ (oneB (M.getD i 0)).drop t := by
  intro i hi
  obtain ⟨t, ht, e⟩ := Dk.power_at h.dk.ok fs (i := i) (by rw [h.good.len]; exact hi)
  rw [h.rows i hi] at e
  by_cases hc : 0 < C.getD i 0
  · refine ⟨t, ht, fun hn => absurd hc hn, ?_⟩
    have : s.at_ i = oneB (Ls.getD i 0) := by unfold Dk.at_; rw [h.wt i hi, if_pos hc]; rfl
    rw [e, this]
  · refine ⟨0, by omega, fun _ => rfl, ?_⟩
    have : s.at_ i = oneB (M.getD i 0) := by unfold Dk.at_; rw [h.wt i hi, if_neg hc, h.rows i hi]; rfl
    rw [e, this, List.take_append_drop]
    simp
set_option maxRecDepth 100000 in
set_option maxHeartbeats 4000000 in
theorem core (A : Option Addr) (n c : Nat) (l : List Ac) (M : List UInt8) (B : Option Addr) (m e : Nat) (fs : List UInt8) (w : World) (hl : l.length = n) (hc : n ≤ c) (ha : ActsAt w A l) (hM : M.length = 9) (hfl : fs.length = m) (hfe : m ≤ e) (hfm : m ≤ maxLen) (hfr : RB w B fs) :
    Calls Try.prog 5 #[.slice A n c, .agg (cellsB M).toArray, .slice B m e] w fun e w' => e = .returned (.bool true) ∧ Below w.heap.size w w' := by
  have HL := Lib.hid hl
  have HFL := Lib.hid hfl
  have HFM := Lib.hid hfm
  have HM := Lib.hid hM
  clear hl hfl hfm hM
  by_cases h1 : 40 < n
  · go_enter Try.func5, Try.ntmps5
    go_wp2_with (first | (go_at_call 7; refine (awake_any _).mono ?_; rintro e w1 ⟨rfl, hb1⟩) | fail)
    go_ret
    exact ⟨rfl, ((Below.refl _ w).alloc (Nat.le_refl _) _).trans (hb1.mono (by simp))⟩
  have h40 : decide (40 < (n : Int)) = false := by simp; omega
  go_enter Try.func5, Try.ntmps5
  go_wp2_with fail
  have kM := heap_alloc_last w (.cells (cellsB M).toArray 49)
  have zM := Lib.hid (heap_size_alloc w (.cells (cellsB M).toArray 49))
  have bM : Below w.heap.size w (w.alloc (.cells (cellsB M).toArray 49)) := (Below.refl _ w).alloc (Nat.le_refl _) _
  generalize w.alloc (.cells (cellsB M).toArray 49) = wM at *
  refine (new_any 9 wM).mono ?_
  rintro e0 w0 ⟨F, rfl, h0, b0⟩
  have g0 := good_new 9 (by omega)
  have k0' := Lib.hid ((b0.block _ (by have := zM.out; omega)).trans kM)
  have B0 := Lib.hid (bM.trans (b0.mono (by have := zM.out; omega)))
  have h0 := Lib.hid h0
  have hbs := Lib.hid h0.out.based
  clear kM bM b0
  go_wp2
  go_loopw [8] (fun i wr => Rel1 wM.heap.size F M w i wr) (fun i _ => 9 - (RowKit.intOf i).toNat)
  case atStart => exact ⟨0, Dk.new 9, by omega, rfl, h0.out, g0, rfl, fun j hj => absurd hj (by omega), k0'.out, B0.out⟩
  case round =>
    obtain ⟨k, s, hk9, rfl, hd, hg, hcl, hat, hm, hb⟩ := hrel
    have HD := Lib.hid hd
    have HG := Lib.hid hg
    have HB := Lib.hid hb
    have HMm := Lib.hid hm
    have HAT := Lib.hid hat
    have HCL := Lib.hid hcl
    have k0 : 0 ≤ (k : Int) := by omega
    have nbM : ¬ F.has w.heap.size := fun hx => by have := hbs.out _ hx; have := zM.out; omega
    clear hd hg hb hm hat hcl
    by_cases hlt : k < 9
    · have kk : (k : Int) < 9 := by omega
      have xm := mark_cell HMm.out (k := k) (by rw [HM.out]; exact hlt)
      have hwl : w.heap.size < wr.heap.size := by have := (Array.getElem?_eq_some_iff.1 HMm.out).1; exact this
      go_wp2_with fail
      refine (full_any (M.getD k 0) _ rfl wr).mono ?_
      rintro e1 w1 ⟨g1, rfl, hg1, o1, b1⟩
      have hd1 := HD.out.below b1
      obtain ⟨wr1, wr2⟩ := HG.out.write hlt (oneB_len (M.getD k 0))
      have KW := write_any hd1 (by rw [HCL.out]; omega) (k : Int) (some ⟨g1, 0, none⟩) 256 256 (oneB (M.getD k 0)) (oneB_len _) o1.reads (fun a e hx => by injection e with e; subst e; have := HD.out.inside g1 hx; omega)
      rw [wr2] at KW
      have KW := Lib.hid KW
      have B1 := Lib.hid (HB.out.trans (b1.mono HB.out.size))
      have m1 := Lib.hid ((b1.block _ hwl).trans HMm.out)
      have W1 := Lib.hid wr1
      clear wr1 wr2 b1 o1 hd1
      go_wp2_with fail
      refine KW.out.mono ?_
      rintro e2 w2 ⟨rfl, h2, f2⟩
      have B2 := Lib.hid (B1.out.trans (f2.below (fun i hi => by have := h2.based i hi; have := zM.out; omega) B1.out.size))
      have m2 := Lib.hid ((f2.block _ (Array.getElem?_eq_some_iff.1 m1.out).1 nbM).trans m1.out)
      have H2 := Lib.hid h2
      clear h2 f2 KW
      go_wp2
      go_roundw
      case rel =>
        refine ⟨k + 1, _, by omega, by go_num, H2.out, (HG.out.ofWrite (k : Int) (oneB_len _)).1, ?_, ?_, m2.out, B2.out⟩
        · rw [W1.out]
          show s.calls + 1 = k + 1
          rw [HCL.out]
        · intro j hj
          rw [W1.out]
          have e3 : (({ s with calls := s.calls + 1 } : Dk).put k (oneB (M.getD k 0))).at_ j = (s.put k (oneB (M.getD k 0))).at_ j := rfl
          rw [e3, put_at]
          split
          · rename_i e; subst e; rfl
          · exact HAT.out j (by omega)
      case measure => simp [RowKit.intOf]; omega
    · obtain rfl : k = 9 := by omega
      have KS := sync_any HD.out (by rw [HCL.out]; omega)
      rw [HG.out.sync.2] at KS
      have KS := Lib.hid KS
      have G1 := HG.out.ofSync
      have S1 := Lib.hid HG.out.sync.1
      go_wp2_with fail
      refine KS.out.mono ?_
      rintro e1 w1 ⟨rfl, h1', f1⟩
      have B1 := Lib.hid (HB.out.trans (f1.below (fun i hi => by have := h1'.based i hi; have := zM.out; omega) HB.out.size))
      have m1 := Lib.hid ((f1.block _ (Array.getElem?_eq_some_iff.1 HMm.out).1 nbM).trans HMm.out)
      have H1 := Lib.hid h1'
      clear h1' f1 KS
      have hz1 := Lib.hid (heap_size_alloc w1 (.cells (cellsN (List.replicate 9 0)).toArray 51))
      have st0 : St wM.heap.size w1.heap.size (w1.heap.size + 1) F M w (List.replicate 9 0) (List.replicate 9 0) s.sync 0 ((w1.alloc (.cells (cellsN (List.replicate 9 0)).toArray 51)).alloc (.cells (cellsB (List.replicate 9 0)).toArray 49)) := by
        have hs9 : s.rows.length = 9 := HG.out.len
        refine ⟨(H1.out.alloc _).alloc _, G1, ?_, fun i hi => ?_, fun i hi => ?_, rfl, rfl, fun i => ?_, ?_, ?_, ?_, (B1.out.alloc B1.out.size _).alloc (by have := B1.out.size; simp; omega) _⟩
        · rw [S1.out]
          show s.calls + 1 ≤ 10 + 0
          rw [HCL.out]
          omega
        · rw [S1.out]
          show ((List.range s.rows.length).map s.at_).getD i [] = _
          rw [← HAT.out i hi]
          simp [hs9, hi]
        · rw [S1.out]
          have : ¬ 0 < (List.replicate 9 0).getD i 0 := by rw [List.getD_eq_getElem?_getD, List.getElem?_replicate]; split <;> simp
          rw [if_neg this]
          rfl
        · rw [List.getD_eq_getElem?_getD, List.getElem?_replicate]; split <;> simp
        · exact (Below.heap_alloc _ _ _ (by simp)).trans (heap_alloc_last w1 _)
        · have := heap_alloc_last (w1.alloc (.cells (cellsN (List.replicate 9 0)).toArray 51)) (.cells (cellsB (List.replicate 9 0)).toArray 49)
          rw [heap_size_alloc] at this
          exact this
        · have hlt1 := (Array.getElem?_eq_some_iff.1 m1.out).1
          exact (Below.heap_alloc _ _ _ (by simp; omega)).trans ((Below.heap_alloc _ _ _ hlt1).trans m1.out)
      have ST0 := Lib.hid st0
      have wl1 : w.heap.size < w1.heap.size := (Array.getElem?_eq_some_iff.1 m1.out).1
      have nw := Lib.hid (show ¬ F.has w1.heap.size from fun hx => by have := H1.out.inside _ hx; omega)
      have nl := Lib.hid (show ¬ F.has (w1.heap.size + 1) from fun hx => by have := H1.out.inside _ hx; omega)
      have hbM := Lib.hid (show w.heap.size ≤ wM.heap.size from by have := zM.out; omega)
      clear st0
      go_wp2
      generalize hBw : w1.heap.size = Bw at *
      go_loopw [11] (fun i wr => Rel2 wM.heap.size Bw (Bw + 1) F M w n i wr) (fun i _ => n - (RowKit.intOf i).toNat)
      case atStart => exact ⟨0, _, _, _, Nat.zero_le _, rfl, ST0.out⟩
      case round =>
        obtain ⟨k, C, Ls, s2, hkn, rfl, st⟩ := hrel
        have ST := Lib.hid st
        have k0 : 0 ≤ (k : Int) := by omega
        clear st
        by_cases hlt2 : k < n
        · obtain ⟨ad, a, rfl, hka, hat⟩ := (ha.below ST.out.below).at_ (i := k) (by rw [HL.out]; exact hlt2)
          have kk : (k : Int) < (n : Int) := by omega
          have x0 := hat.d0
          have x1 := hat.d1
          have x2 := hat.d2
          have x3 := hat.d3
          have x4 := hat.d4
          have x5 := hat.d5
          have hlo := hat.lo
          have hhi := hat.hi
          have z0 : 0 ≤ (a.kind.toNat : Int) := by omega
          have z1 : (a.kind.toNat : Int) < 256 := by have := a.kind.toNat_lt; omega
          clear hat hka
          by_cases c1 : 4 < a.kind.toNat % 8
          · have t1 : decide (4 < (a.kind.toNat : Int) % 8) = true := by simp; omega
            clear c1
            go_wp2
            go_roundw
            case rel => exact ⟨k + 1, C, Ls, s2, by omega, by go_num, (ST.out.alloc _).mono (by omega)⟩
            case measure => simp [RowKit.intOf]; omega
          have t1 : decide (4 < (a.kind.toNat : Int) % 8) = false := by simp; omega
          clear c1
          by_cases c2 : a.n < 0
          · have t2 : decide (a.n < 0) = true := by simp; omega
            go_wp2
            go_roundw
            case rel => exact ⟨k + 1, C, Ls, s2, by omega, by go_num, (ST.out.alloc _).mono (by omega)⟩
            case measure => simp [RowKit.intOf]; omega
          have t2 : decide (a.n < 0) = false := by simp; omega
          by_cases c3 : 8 < a.n
          · have t3 : decide (8 < a.n) = true := by simp; omega
            go_wp2
            go_roundw
            case rel => exact ⟨k + 1, C, Ls, s2, by omega, by go_num, (ST.out.alloc _).mono (by omega)⟩
            case measure => simp [RowKit.intOf]; omega
          have t3 : decide (8 < a.n) = false := by simp; omega
          go_wp2
          have st1 := ST.out.alloc (.cells #[.int .u8 (a.kind.toNat : Int), .int .i64 a.n, .int .u8 (a.c.toNat : Int), .int .u8 (a.cut.toNat : Int), .bool a.done, .slice a.fA a.fates.length a.fc] 34)
          have kq := heap_alloc_last wr (.cells #[.int .u8 (a.kind.toNat : Int), .int .i64 a.n, .int .u8 (a.c.toNat : Int), .int .u8 (a.cut.toNat : Int), .bool a.done, .slice a.fA a.fates.length a.fc] 34)
          generalize wr.alloc (.cells #[.int .u8 (a.kind.toNat : Int), .int .i64 a.n, .int .u8 (a.c.toNat : Int), .int .u8 (a.cut.toNat : Int), .bool a.done, .slice a.fA a.fates.length a.fc] 34) = w3 at *
          have p1 : w3.cell? ⟨wr.heap.size, 1, none⟩ = some (.int .i64 a.n) := by rw [cell_of_row w3 _ 1 _ _ _ kq]; rfl
          have p2 : w3.cell? ⟨wr.heap.size, 2, none⟩ = some (.int .u8 (a.c.toNat : Int)) := by rw [cell_of_row w3 _ 2 _ _ _ kq]; rfl
          have hqi := Lib.hid (show ∀ i, F.has i → i < wr.heap.size from fun i hi => ST.out.dk.inside i hi)
          have hqw := Lib.hid (show Bw + 1 < wr.heap.size from (Array.getElem?_eq_some_iff.1 ST.out.hl).1)
          have hq3 := Lib.hid (show wr.heap.size < w3.heap.size from (Array.getElem?_eq_some_iff.1 kq).1)
          obtain ⟨j, hj⟩ := Int.eq_ofNat_of_zero_le (show 0 ≤ a.n by omega)
          have hj9 : j < 9 := by omega
          clear x0 x1 x2 x3 x4 x5 kq hlo hhi z0 z1 t1 t2 t3
          generalize a.n = zn at *
          subst hj
          generalize wr.heap.size = q at *
          have ST1 := Lib.hid st1
          clear st1 c2 c3
          have p12 : w3.cell? ⟨q, 1, none⟩ = some (.int .i64 (j : Int)) ∧ w3.cell? ⟨q, 2, none⟩ = some (.int .u8 (a.c.toNat : Int)) := ⟨p1, p2⟩
          have S1 := Lib.hid (show ∀ W, Below w3.heap.size w3 W → W.cell? ⟨q, 1, none⟩ = some (.int .i64 (j : Int)) ∧ W.cell? ⟨q, 2, none⟩ = some (.int .u8 (a.c.toNat : Int)) from fun W hW => ⟨(hW.cell (p := ⟨q, 1, none⟩) hq3.out).trans p1, (hW.cell (p := ⟨q, 2, none⟩) hq3.out).trans p2⟩)
          have nq := Lib.hid (show ¬ F.has q from fun hx => by have := hqi.out q hx; omega)
          have SW := Lib.hid (show ∀ W, Below w3.heap.size w3 W → ∀ w', Frm F.has W w' → w'.cell? ⟨q, 1, none⟩ = some (.int .i64 (j : Int)) ∧ w'.cell? ⟨q, 2, none⟩ = some (.int .u8 (a.c.toNat : Int)) from fun W hW w' hf => by
            have hs : q < W.heap.size := Nat.lt_of_lt_of_le hq3.out hW.size
            exact ⟨(hf.cell (p := ⟨q, 1, none⟩) hs nq.out).trans (S1.out W hW).1, (hf.cell (p := ⟨q, 2, none⟩) hs nq.out).trans (S1.out W hW).2⟩)
          have HFu := Lib.hid (full_drew a.c w3)
          have werr := (ST1.out.good.write hj9 (oneB_len a.c)).2
          have HWr := Lib.hid (show ∀ W g, Below w3.heap.size w3 W → w3.heap.size ≤ g → OB w3.heap.size W (.slice (some ⟨g, 0, none⟩) 256 256) (oneB a.c) → Calls Try.prog 16 #[.pointer (some ⟨F.b, 0, none⟩), .int .i64 (j : Int), .slice (some ⟨g, 0, none⟩) 256 256] W fun e w' => e = .returned (.int .i64 0) ∧ DkAt wM.heap.size F w' (s2.write (j : Int) (oneB a.c)) ∧ Frm F.has W w' from fun W g hW hg ho => by
            have := write_any (ST1.out.dk.below hW) (by have := ST1.out.calls; omega) (j : Int) (some ⟨g, 0, none⟩) 256 256 (oneB a.c) (oneB_len _) ho.reads (fun ad e hx => by injection e with e; subst e; have := ST1.out.dk.inside g hx; omega)
            rw [werr] at this
            exact this)
          clear werr p1 p2
          go_region_held3 (fun W => W.cell? ⟨q, 1, none⟩ = some (.int .i64 (j : Int)) ∧ W.cell? ⟨q, 2, none⟩ = some (.int .u8 (a.c.toNat : Int))) (first | exact p12 | assumption)
            (first
              | (go_at_call 22; refine HFu.out.mono ?_; rintro e w4 ⟨g, rfl, hg, ho, hb4⟩; have y12 := S1.out w4 hb4)
              | (go_at_call 16; refine (HWr.out w4 g hb4 hg ho).mono ?_; rintro e w5 ⟨rfl, h5, f5⟩; have v12 := SW.out w4 hb4 w5 f5)
              | fail)
          all_goals
            have st4 := ST1.out.ofBelow hb4
            have ST4 := Lib.hid st4
            obtain ⟨v1, v2⟩ := v12
            have cw : w5.cell? ⟨Bw, j, none⟩ = some (.int .i64 (C.getD j 0 : Int)) := (f5.cell (p := ⟨Bw, j, none⟩) (Array.getElem?_eq_some_iff.1 st4.hw).1 nw.out).trans (st4.cw hj9)
            have fw : w5.frozen? ⟨Bw, j, none⟩ = false := (f5.frozen (p := ⟨Bw, j, none⟩) (Array.getElem?_eq_some_iff.1 st4.hw).1 nw.out).trans (st4.fw j)
            have clx : w5.cell? ⟨Bw + 1, j, none⟩ = some (.int .u8 ((Ls.getD j 0).toNat : Int)) := (f5.cell (p := ⟨Bw + 1, j, none⟩) (Array.getElem?_eq_some_iff.1 st4.hl).1 nl.out).trans (mark_cell st4.hl (by rw [st4.ll]; exact hj9))
            have flx : w5.frozen? ⟨Bw + 1, j, none⟩ = false := (f5.frozen (p := ⟨Bw + 1, j, none⟩) (Array.getElem?_eq_some_iff.1 st4.hl).1 nl.out).trans (st4.fl j)
            have step := st4.step (by omega) nw.out nl.out nbM (by omega) (by omega) (by omega) (by omega) hbM.out hj9 h5 f5
            have hcb := st4.cb j
            have STEP := Lib.hid step
            have cb0 : 0 ≤ (C.getD j 0 : Int) := by omega
            have cb1 : (C.getD j 0 : Int) ≤ 40 := by omega
            have j0 : 0 ≤ (j : Int) := by omega
            have j1 : (j : Int) < 9 := by omega
            have jn : j < 9 := hj9
            have qne1 : q ≠ Bw := by have := hqw.out; omega
            have qne2 : q ≠ Bw + 1 := by have := hqw.out; omega
            have qne3 : Bw ≠ q := by have := hqw.out; omega
            have qne4 : Bw + 1 ≠ q := by have := hqw.out; omega
            generalize C.getD j 0 = cj at *
            clear st4 step h5 f5 y12 hcb hj9
            go_wp2
            go_roundw
            case rel => exact ⟨k + 1, _, _, _, by omega, by go_num, STEP.out⟩
            case measure => simp [RowKit.intOf]; omega
        · obtain rfl : k = n := by omega
          have hfr' := hfr
          have KP := power_any ST.out.dk B m e fs HFL.out hfe HFM.out (hfr'.below ST.out.below) (fun hne ad e hx => by
            rcases hfr with e' | ⟨ad', e', hc⟩
            · exact absurd e' hne
            · rw [e] at e'
              injection e' with e'
              subst e'
              have hp : 0 < fs.length := by cases hh : fs with
                | nil => exact absurd hh hne
                | cons => simp
              have := lt_of_cell (hc 0 _ (List.getElem?_eq_getElem hp))
              rw [Addr.add_nought] at this
              have := ST.out.dk.based _ hx
              have := zM.out
              omega)
          have KP := Lib.hid KP
          have PT := Lib.hid (ST.out.parts fs)
          have G3 := ST.out.good.ofPower fs
          have cl9 := Lib.hid ST.out.cl
          have ll9 := Lib.hid ST.out.ll
          have cb9 := ST.out.cb
          have HCB := Lib.hid cb9
          go_wp2_with fail
          refine KP.out.mono ?_
          rintro e6 w6 ⟨rfl, h6, f6⟩
          have r6 : R3 wM.heap.size Bw (Bw + 1) F M w C Ls (s2.power fs) w6 := ⟨h6, (f6.block _ (Array.getElem?_eq_some_iff.1 ST.out.hw).1 nw.out).trans ST.out.hw, (f6.block _ (Array.getElem?_eq_some_iff.1 ST.out.hl).1 nl.out).trans ST.out.hl, (f6.block _ (Array.getElem?_eq_some_iff.1 ST.out.hm).1 nbM).trans ST.out.hm, ST.out.below.trans (f6.below (fun i hi => by have := h6.based i hi; have := zM.out; omega) ST.out.below.size)⟩
          have R6 := Lib.hid r6
          have W3 := Lib.hid (show (s2.power fs).waits = [] from keysOf_none _)
          generalize s2.power fs = s3 at *
          clear h6 f6 r6 KP cb9 hfr'
          go_wp2
          go_loopw [13] (fun i wr' => Rel3 wM.heap.size Bw (Bw + 1) F M w C Ls s3 i wr') (fun i _ => 9 - (RowKit.intOf i).toNat)
          case atStart => exact ⟨0, by omega, rfl, R6.out⟩
          case round =>
            obtain ⟨j, hj9, rfl, r7⟩ := hrel
            have j0 : 0 ≤ (j : Int) := by omega
            have R7 := Lib.hid r7
            clear r7
            by_cases hlt3 : j < 9
            · obtain ⟨t, ht, htc, hy⟩ := PT.out j hlt3
              have KR := read_any R7.out.dk (j : Int)
              have yl := Dk.at_len R7.out.dk.ok (n := j) (by rw [G3.len]; exact hlt3)
              rw [G3.reads hlt3, G3.fault0 hlt3, yl] at KR
              have KR := Lib.hid KR
              have j1 : (j : Int) < 9 := by omega
              have YL := Lib.hid yl
              have HY := Lib.hid hy
              have HTC := Lib.hid htc
              have hcb := HCB.out j
              clear yl hy htc
              go_wp2_with fail
              refine KR.out.mono ?_
              rintro e8 w8 ⟨A8, rfl, r8, b8⟩
              have R8 := Lib.hid (R7.out.ofBelow b8)
              generalize s3.at_ j = y at *
              rcases r8 with e9 | ⟨ad8, rfl, hc8⟩
              · have := YL.out; rw [e9] at this; simp at this
              have RB8 := Lib.hid (show RB w8 (some ad8) y from .inr ⟨ad8, rfl, hc8⟩)
              clear hc8 b8 KR
              go_wp2
              go_loopw [16] (fun i wr' => Rel4 wM.heap.size Bw (Bw + 1) F M w C Ls s3 (some ad8) y i wr') (fun i _ => 256 - (RowKit.intOf i).toNat)
              case atStart => exact ⟨0, by omega, rfl, R8.out, RB8.out⟩
              case round =>
                obtain ⟨k4, hk4, rfl, r9, rb9⟩ := hrel
                have k40 : 0 ≤ (k4 : Int) := by omega
                have cw9 := r9.cw cl9.out hlt3
                have cl9' := mark_cell r9.hl (k := j) (by rw [ll9.out]; exact hlt3)
                have R9 := Lib.hid r9
                have RB9 := Lib.hid rb9
                have cj0 : 0 ≤ (C.getD j 0 : Int) := by omega
                have cj1 : (C.getD j 0 : Int) ≤ 40 := by omega
                clear r9 rb9
                generalize hcj : C.getD j 0 = cj at *
                generalize hxj : Ls.getD j 0 = xj at *
                by_cases hgo : k4 < 256 ∧ 0 < cj ∧ y[k4]? = some xj
                · obtain ⟨g1, g2, g3⟩ := hgo
                  obtain ⟨ad9, v9, ea, hv, hcell⟩ := RB9.out.at_ (k := k4) (by rw [YL.out]; exact g1)
                  obtain rfl : ad8 = ad9 := by injection ea
                  obtain rfl : xj = v9 := by rw [g3] at hv; injection hv
                  have t1 : decide ((k4 : Int) < 256) = true := by simp; omega
                  have t2 : decide (0 < (cj : Int)) = true := by simp; omega
                  have k41 : (k4 : Int) < 256 := by omega
                  clear ea hv g3
                  go_wp2
                  go_quiet (fail)
                  go_wp2
                  go_roundw
                  case rel => exact ⟨k4 + 1, by omega, by go_num, R9.out.drewN _, RB9.out.drewN _⟩
                  case measure => simp [RowKit.intOf]; omega
                · have hend : ∀ i, k4 ≤ i → i < 256 → y[i]? = some (M.getD j 0) := by
                    intro i h1 h2
                    have hp := part_at ht HY.out (k := i)
                    rcases Nat.lt_or_ge i t with hit | hit
                    · exfalso
                      by_cases hc0 : 0 < cj
                      · have := (part_at ht HY.out (k := k4)).1 (by omega)
                        exact hgo ⟨by omega, hc0, this⟩
                      · have := HTC.out hc0
                        omega
                    · exact hp.2 hit h2
                  have HEND := Lib.hid hend
                  clear hend
                  have hx : (¬ k4 < 256) ∨ (k4 < 256 ∧ ¬ 0 < cj) ∨ (k4 < 256 ∧ 0 < cj ∧ y[k4]? ≠ some xj) := by
                    by_cases a1 : k4 < 256
                    · by_cases a2 : 0 < cj
                      · exact .inr (.inr ⟨a1, a2, fun e => hgo ⟨a1, a2, e⟩⟩)
                      · exact .inr (.inl ⟨a1, a2⟩)
                    · exact .inl a1
                  clear hgo
                  rcases hx with a1 | ⟨a1, a2⟩ | ⟨a1, a2, a3⟩
                  · have t1 : decide ((k4 : Int) < 256) = false := by simp; omega
                    go_wp2
                    go_quiet (fail)
                    go_wp2
                    go_loopw [16] (fun i wr' => Rel5 wM.heap.size Bw (Bw + 1) F M w C Ls s3 (some ad8) y (M.getD j 0) i wr') (fun i _ => 256 - (RowKit.intOf i).toNat)
                    case atStart => exact ⟨k4, hk4, rfl, R9.out.drewN _, RB9.out.drewN _, HEND.out⟩
                    case round =>
                      obtain ⟨k5, hk5, rfl, ra, rba, hea⟩ := hrel
                      have k50 : 0 ≤ (k5 : Int) := by omega
                      have cma := mark_cell ra.hm (k := j) (by rw [HM.out]; exact hlt3)
                      have RA := Lib.hid ra
                      have RBA := Lib.hid rba
                      have HEA := Lib.hid hea
                      clear ra rba hea
                      by_cases hl5 : k5 < 256
                      · obtain ⟨adb, vb, eb, hvb, hcb'⟩ := RBA.out.at_ (k := k5) (by rw [YL.out]; exact hl5)
                        obtain rfl : ad8 = adb := by injection eb
                        obtain rfl : M.getD j 0 = vb := by rw [HEA.out k5 (Nat.le_refl _) hl5] at hvb; injection hvb
                        have k51 : (k5 : Int) < 256 := by omega
                        clear eb hvb
                        generalize M.getD j 0 = mj at *
                        go_wp2
                        go_quiet (fail)
                        go_wp2
                        go_roundw
                        case rel => exact ⟨k5 + 1, by omega, by go_num, RA.out.drewN _, RBA.out.drewN _, fun i h1 h2 => HEA.out i (by omega) h2⟩
                        case measure => simp [RowKit.intOf]; omega
                      · obtain rfl : k5 = 256 := by omega
                        go_wp2
                        go_roundw
                        case rel => exact ⟨j + 1, by omega, by go_num, RA.out⟩
                        case measure => simp [RowKit.intOf]; omega
                  · have t1 : decide ((k4 : Int) < 256) = true := by simp; omega
                    have t2 : decide (0 < (cj : Int)) = false := by simp; omega
                    go_wp2
                    go_quiet (fail)
                    go_wp2
                    go_loopw [16] (fun i wr' => Rel5 wM.heap.size Bw (Bw + 1) F M w C Ls s3 (some ad8) y (M.getD j 0) i wr') (fun i _ => 256 - (RowKit.intOf i).toNat)
                    case atStart => exact ⟨k4, hk4, rfl, R9.out.drewN _, RB9.out.drewN _, HEND.out⟩
                    case round =>
                      obtain ⟨k5, hk5, rfl, ra, rba, hea⟩ := hrel
                      have k50 : 0 ≤ (k5 : Int) := by omega
                      have cma := mark_cell ra.hm (k := j) (by rw [HM.out]; exact hlt3)
                      have RA := Lib.hid ra
                      have RBA := Lib.hid rba
                      have HEA := Lib.hid hea
                      clear ra rba hea
                      by_cases hl5 : k5 < 256
                      · obtain ⟨adb, vb, eb, hvb, hcb'⟩ := RBA.out.at_ (k := k5) (by rw [YL.out]; exact hl5)
                        obtain rfl : ad8 = adb := by injection eb
                        obtain rfl : M.getD j 0 = vb := by rw [HEA.out k5 (Nat.le_refl _) hl5] at hvb; injection hvb
                        have k51 : (k5 : Int) < 256 := by omega
                        clear eb hvb
                        generalize M.getD j 0 = mj at *
                        go_wp2
                        go_quiet (fail)
                        go_wp2
                        go_roundw
                        case rel => exact ⟨k5 + 1, by omega, by go_num, RA.out.drewN _, RBA.out.drewN _, fun i h1 h2 => HEA.out i (by omega) h2⟩
                        case measure => simp [RowKit.intOf]; omega
                      · obtain rfl : k5 = 256 := by omega
                        go_wp2
                        go_roundw
                        case rel => exact ⟨j + 1, by omega, by go_num, RA.out⟩
                        case measure => simp [RowKit.intOf]; omega
                  · obtain ⟨ad9, v9, ea, hv, hcell⟩ := RB9.out.at_ (k := k4) (by rw [YL.out]; exact a1)
                    obtain rfl : ad8 = ad9 := by injection ea
                    have hvx : v9 ≠ xj := fun e => a3 (by rw [hv, e])
                    have t1 : decide ((k4 : Int) < 256) = true := by simp; omega
                    have t2 : decide (0 < (cj : Int)) = true := by simp; omega
                    have t3 : (((v9.toNat : Nat) : Int) == ((xj.toNat : Nat) : Int)) = false := by
                      simp only [beq_eq_false_iff_ne]
                      intro e
                      exact hvx (UInt8.toNat_inj.1 (by omega))
                    have k41 : (k4 : Int) < 256 := by omega
                    clear ea hv a3
                    go_wp2
                    go_quiet (fail)
                    go_wp2
                    go_loopw [16] (fun i wr' => Rel5 wM.heap.size Bw (Bw + 1) F M w C Ls s3 (some ad8) y (M.getD j 0) i wr') (fun i _ => 256 - (RowKit.intOf i).toNat)
                    case atStart => exact ⟨k4, hk4, rfl, R9.out.drewN _, RB9.out.drewN _, HEND.out⟩
                    case round =>
                      obtain ⟨k5, hk5, rfl, ra, rba, hea⟩ := hrel
                      have k50 : 0 ≤ (k5 : Int) := by omega
                      have cma := mark_cell ra.hm (k := j) (by rw [HM.out]; exact hlt3)
                      have RA := Lib.hid ra
                      have RBA := Lib.hid rba
                      have HEA := Lib.hid hea
                      clear ra rba hea
                      by_cases hl5 : k5 < 256
                      · obtain ⟨adb, vb, eb, hvb, hcb'⟩ := RBA.out.at_ (k := k5) (by rw [YL.out]; exact hl5)
                        obtain rfl : ad8 = adb := by injection eb
                        obtain rfl : M.getD j 0 = vb := by rw [HEA.out k5 (Nat.le_refl _) hl5] at hvb; injection hvb
                        have k51 : (k5 : Int) < 256 := by omega
                        clear eb hvb
                        generalize M.getD j 0 = mj at *
                        go_wp2
                        go_quiet (fail)
                        go_wp2
                        go_roundw
                        case rel => exact ⟨k5 + 1, by omega, by go_num, RA.out.drewN _, RBA.out.drewN _, fun i h1 h2 => HEA.out i (by omega) h2⟩
                        case measure => simp [RowKit.intOf]; omega
                      · obtain rfl : k5 = 256 := by omega
                        go_wp2
                        go_roundw
                        case rel => exact ⟨j + 1, by omega, by go_num, RA.out⟩
                        case measure => simp [RowKit.intOf]; omega
            · obtain rfl : j = 9 := by omega
              have KW := waits_any R7.out.dk
              rw [W3.out] at KW
              have KW := Lib.hid KW
              go_wp2_with fail
              refine KW.out.mono ?_
              rintro e8 w8 ⟨A8, c8, rfl, _, _, b8⟩
              have B8 := Lib.hid (R7.out.below.trans (b8.mono R7.out.below.size))
              clear b8 KW
              go_wp2_with (first
                | (go_at_call 7; refine (awake_any _).mono ?_; rintro e w9 ⟨rfl, hb9⟩)
                | fail)
              go_ret
              exact ⟨rfl, B8.out.trans (hb9.mono B8.out.size)⟩
end Go.Proofs.Ytpoodoikjlneaaa.sectorSafe
