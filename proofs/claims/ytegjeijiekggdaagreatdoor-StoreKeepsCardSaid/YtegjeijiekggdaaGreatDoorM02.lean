/- Joined: ScA ScB BlA BlB. -/
import Derived.Test.YtegjeijiekggdaaGreatDoorM01
import Derived.Deep.MidRow
import Derived.Deep.WholeRow
import Derived.Maps.OwnSet
import Derived.Maps.RangeWalk
import Derived.Maps.Ext
import Derived.Lib.SlKeysI
import Derived.BigQuiet
import Derived.Deep.RegionHeld3
section
/- Words for the package sector: what a disk in memory is, and what a call leaves alone. -/
namespace Go.Proofs.YtegjeijiekggdaaGreatDoor
open Go.RowKit
set_option linter.unusedVariables false

/-- The value of a sector's bytes. -/
def secV (l : List UInt8) : Value := .agg (cellsB l).toArray
def byteOk : Value → Bool
  | .int .u8 n => decide (0 ≤ n ∧ n < 256)
  | _ => false
def byteIn : Value → UInt8
  | .int _ n => UInt8.ofNat n.toNat
  | _ => 0
/-- How the value of a sector reads. -/
def secR : Value → Option (DataW Unit × List MemPlace)
  | .agg cs => if cs.size = 256 ∧ cs.toList.all byteOk = true then some (.lit (.string (cs.toList.map byteIn)), []) else none
  | _ => none
theorem cellsB_ok (l : List UInt8) : (cellsB l).all byteOk = true := by
  induction l with
  | nil => rfl
  | cons x l ih =>
    have hx := x.toNat_lt
    simp only [cellsB, List.map_cons, List.all_cons, cellB, byteOk, Bool.and_eq_true, decide_eq_true_eq]
    exact ⟨⟨by omega, by omega⟩, ih⟩
theorem byteIn_cellsB (l : List UInt8) : (cellsB l).map byteIn = l := by
  induction l with
  | nil => rfl
  | cons x l ih =>
    have h : (cellsB (x :: l)).map byteIn = x :: (cellsB l).map byteIn := by simp [cellsB, cellB, byteIn]
    rw [h, ih]
theorem cellsB_byteIn : ∀ (vs : List Value), vs.all byteOk = true → cellsB (vs.map byteIn) = vs
  | [], _ => rfl
  | v :: vs, h => by
    simp only [List.all_cons, Bool.and_eq_true] at h
    have ih := cellsB_byteIn vs h.2
    have hv : cellB (byteIn v) = v := by
      have h1 := h.1
      unfold byteOk at h1
      split at h1
      · rename_i n
        simp only [decide_eq_true_eq] at h1
        simp only [byteIn, cellB]
        rw [ofNat_toNat]
        congr 1
        omega
      · cases h1
    show cellB (byteIn v) :: cellsB (vs.map byteIn) = v :: vs
    rw [hv, ih]
theorem length_cellsB (l : List UInt8) : (cellsB l).length = l.length := by simp [cellsB]
theorem secR_mk {l : List UInt8} (h : l.length = 256) : secR (secV l) = some (.lit (.string l), []) := by
  unfold secR secV
  simp only [List.size_toArray, length_cellsB, h, cellsB_ok, byteIn_cellsB, and_self, if_true]
theorem secR_inv {v : Value} {z : DataW Unit × List MemPlace} (h : secR v = some z) : ∃ l : List UInt8, l.length = 256 ∧ v = secV l ∧ z = (.lit (.string l), []) := by
  unfold secR at h
  split at h
  · rename_i cs
    split at h
    · rename_i hc
      refine ⟨cs.toList.map byteIn, by simp [hc.1], ?_, by simpa using h.symm⟩
      unfold secV
      rw [cellsB_byteIn _ hc.2]
    · cases h
  · cases h
theorem oneCells_B (l : List UInt8) : ∀ v ∈ cellsB l, v.oneCell' = true := by
  intro u hu
  simp only [cellsB, List.mem_map] at hu
  obtain ⟨x, _, rfl⟩ := hu
  rfl
theorem cellsB_inj {a b : List UInt8} (h : cellsB a = cellsB b) : a = b := by rw [← byteIn_cellsB a, h, byteIn_cellsB]

/-- Of what lay in w only blocks of X may read otherwise in w'. -/
structure Frm (X : Nat → Prop) (w w' : World) : Prop where
  os : w'.os = w.os
  tape : w'.tape = w.tape
  output : w'.output = w.output
  size : w.heap.size ≤ w'.heap.size
  block : ∀ k, k < w.heap.size → ¬ X k → w'.heap[k]? = w.heap[k]?
theorem Frm.refl (X : Nat → Prop) (w : World) : Frm X w w := ⟨rfl, rfl, rfl, Nat.le_refl _, fun _ _ _ => rfl⟩
theorem Frm.step {X Y : Nat → Prop} {a b c : World} (h : Frm X a b) (k : Frm Y b c) (hY : ∀ i, Y i → i < a.heap.size → X i) : Frm X a c :=
  ⟨k.os.trans h.os, k.tape.trans h.tape, k.output.trans h.output, Nat.le_trans h.size k.size,
    fun i hi hx => (k.block i (Nat.lt_of_lt_of_le hi h.size) (fun hy => hx (hY i hy hi))).trans (h.block i hi hx)⟩
theorem Frm.trans {X : Nat → Prop} {a b c : World} (h : Frm X a b) (k : Frm X b c) : Frm X a c := h.step k fun _ hi _ => hi
theorem Frm.mono {X Y : Nat → Prop} {a b : World} (h : Frm X a b) (hY : ∀ i, X i → Y i) : Frm Y a b := ⟨h.os, h.tape, h.output, h.size, fun i hi hy => h.block i hi (fun hx => hy (hY i hx))⟩
theorem Frm.of_below {X : Nat → Prop} {a b : World} (h : Below a.heap.size a b) : Frm X a b := ⟨h.os, h.tape, h.output, h.size, fun i hi _ => h.block i hi⟩
theorem Frm.alloc (X : Nat → Prop) (w : World) (o : Obj) : Frm X w (w.alloc o) := Frm.of_below ((Below.refl _ w).alloc (Nat.le_refl _) o)
theorem Frm.drew (X : Nat → Prop) (w : World) : Frm X w w.drew := ⟨rfl, rfl, rfl, Nat.le_refl _, fun _ _ _ => rfl⟩
theorem Frm.drewN (X : Nat → Prop) (w : World) (n : Nat) : Frm X w (w.drewN n) := ⟨rfl, rfl, rfl, Nat.le_refl _, fun _ _ _ => rfl⟩
theorem Frm.setCell {X : Nat → Prop} (w : World) (p : Addr) (v : Value) (hp : X p.block) : Frm X w (w.setCell p v) :=
  ⟨rfl, rfl, rfl, by simp [World.setCell], fun i hi hx => Below.heap_setCell _ _ _ _ (fun e => hx (by rw [e]; exact hp))⟩
theorem Frm.grown {X : Nat → Prop} {w w' : World} {row : Option Nat} (h : w.grownBy w' row) (hX : ∀ k, row = some k → X k) : Frm X w w' :=
  ⟨h.os, h.tape, h.output, h.size, fun i hi hx => h.block i hi (fun e => hx (hX i e.symm))⟩
theorem Frm.below {X : Nat → Prop} {w w' : World} {B : Nat} (h : Frm X w w') (hX : ∀ k, X k → B ≤ k) (hB : B ≤ w.heap.size) : Below B w w' :=
  ⟨h.os, h.tape, h.output, h.size, fun k hk => h.block k (Nat.lt_of_lt_of_le hk hB) (fun hx => by have := hX k hx; omega)⟩
theorem Frm.cell {X : Nat → Prop} {w w' : World} (h : Frm X w w') {p : Addr} (hp : p.block < w.heap.size) (hx : ¬ X p.block) : w'.cell? p = w.cell? p := World.cell?_of_block (w := w) (h.block p.block hp hx)
theorem Frm.frozen {X : Nat → Prop} {w w' : World} (h : Frm X w w') {p : Addr} (hp : p.block < w.heap.size) (hx : ¬ X p.block) : w'.frozen? p = w.frozen? p := World.frozen?_of_block (w := w) (h.block p.block hp hx)
theorem Frm.rb {X : Nat → Prop} {w w' : World} (h : Frm X w w') {ad : Addr} {l : List UInt8} (hr : RB w (some ad) l) (hx : ¬ X ad.block) : RB w' (some ad) l := by
  rcases hr with rfl | ⟨ad', e, hc⟩
  · exact .inl rfl
  · injection e with e
    subst e
    refine .inr ⟨_, rfl, fun j x hj => ?_⟩
    have h1 := hc j x hj
    rw [h.cell (lt_of_cell h1) (by rw [block_of_add]; exact hx)]
    exact h1

/-- What a disk is: its safe rows, what waits, the calls, the power, the failure to come. -/
structure Dk where
  rows : List (List UInt8)
  wt : Nat → Option (List UInt8)
  calls : Nat
  off : Bool
  fset : Bool
  left : Nat
  done : Bool
structure Dk.Ok (s : Dk) : Prop where
  many : s.rows.length ≤ 4096
  each : ∀ r ∈ s.rows, r.length = 256
  wlt : ∀ k l, s.wt k = some l → k < s.rows.length
  wlen : ∀ k l, s.wt k = some l → l.length = 256
  left : s.left ≤ 9223372036854775807
/-- Where a disk lies: its block, the map's, the rows' address and room. -/
structure Ft where
  b : Nat
  m : Nat
  A : Option Addr
  cap : Nat
def Ft.has (F : Ft) (k : Nat) : Prop := k = F.b ∨ k = F.m ∨ ∃ ad, F.A = some ad ∧ ad.block = k
def MapIs (w : World) (m : Nat) (f : Nat → Option (List UInt8)) : Prop :=
  ∃ n D, w.ownsMap (H := Unit) Tryz.prog 3 secR m n D ∧ (∀ k : Nat, Maps.has D (.int .i64 (k : Int)) = (f k).isSome) ∧ (∀ k : Int, k < 0 → Maps.has D (.int .i64 k) = false) ∧
    ∀ k l, f k = some l → ∀ zd, D.atKey (.int .i64 (k : Int)) zd = .lit (.string l)
def dkCells (F : Ft) (s : Dk) : Array Value := #[.slice F.A s.rows.length F.cap, .map (some F.m), .int .i64 (s.calls : Int), .bool s.off, .bool s.fset, .int .i64 (s.left : Int), .bool s.done]
structure DkAt (base : Nat) (F : Ft) (w : World) (s : Dk) : Prop where
  ok : s.Ok
  bb : base ≤ F.b
  bm : base ≤ F.m
  cells : w.heap[F.b]? = some (.cells (dkCells F s) 99 (0, 0))
  row : w.ownsRow base 102 256 (.slice F.A s.rows.length F.cap) s.rows.length (cellsB s.rows.flatten)
  map : MapIs w F.m s.wt

theorem MapIs.lt {w : World} {m : Nat} {f : Nat → Option (List UInt8)} (h : MapIs w m f) : m < w.heap.size := by
  obtain ⟨n, D, ho, _⟩ := h
  exact ho.lt
theorem MapIs.kept {w w' : World} {m : Nat} {f : Nat → Option (List UInt8)} (h : MapIs w m f) (he : w'.heap[m]? = w.heap[m]?) : MapIs w' m f := by
  obtain ⟨n, D, ⟨es, clock, hb, r⟩, rest⟩ := h
  exact ⟨n, D, ⟨es, clock, he.trans hb, r⟩, rest⟩
theorem MapIs.made (w : World) : MapIs (w.alloc (.map #[] 0)) w.heap.size (fun _ => none) :=
  ⟨0, .map [], World.ownsMap_made w _ _ _, fun k => rfl, fun k _ => rfl, fun k l h => by cases h⟩

theorem DkAt.blt {base : Nat} {F : Ft} {w : World} {s : Dk} (h : DkAt base F w s) : F.b < w.heap.size := by
  rcases Nat.lt_or_ge F.b w.heap.size with hlt | hge
  · exact hlt
  · have := h.cells; rw [Array.getElem?_eq_none hge] at this; cases this
theorem DkAt.rowat {base : Nat} {F : Ft} {w : World} {s : Dk} (h : DkAt base F w s) : (F.A = none ∧ s.rows = []) ∨ ∃ g cur, F.A = some ⟨g, 0, none⟩ ∧ base ≤ g ∧ w.heap[g]? = some (.cells cur 102 (0, 0)) ∧ g < w.heap.size ∧
    s.rows.length ≤ F.cap ∧ cur.size = F.cap * 256 ∧ cur.toList.take (s.rows.length * 256) = cellsB s.rows.flatten := by
  rcases h.row.2 with ⟨e, h0⟩ | ⟨g, cap, cur, e, hb, hh, hc, hm, hsz, ht⟩
  · injection e with e1 e2 e3
    exact .inl ⟨e1, List.eq_nil_of_length_eq_zero h0⟩
  · injection e with e1 e2 e3
    subst e3
    refine .inr ⟨g, cur, e1, hb, hh, ?_, hc, hsz, ht⟩
    exact (Array.getElem?_eq_some_iff.1 hh).1
theorem DkAt.based {base : Nat} {F : Ft} {w : World} {s : Dk} (h : DkAt base F w s) : ∀ k, F.has k → base ≤ k := by
  intro k hk
  rcases hk with rfl | rfl | ⟨ad, e, rfl⟩
  · exact h.bb
  · exact h.bm
  · rcases h.rowat with ⟨e', _⟩ | ⟨g, cur, e', hb, _⟩
    · rw [e'] at e; cases e
    · rw [e'] at e; injection e with e; subst e; exact hb
theorem DkAt.inside {base : Nat} {F : Ft} {w : World} {s : Dk} (h : DkAt base F w s) : ∀ k, F.has k → k < w.heap.size := by
  intro k hk
  rcases hk with rfl | rfl | ⟨ad, e, rfl⟩
  · exact h.blt
  · exact h.map.lt
  · rcases h.rowat with ⟨e', _⟩ | ⟨g, cur, e', hb, _, hlt, _⟩
    · rw [e'] at e; cases e
    · rw [e'] at e; injection e with e; subst e; exact hlt
theorem ownsRow_of_block {w w' : World} {base : Nat} {e : TypeId} {size : Nat} {A : Option Addr} {c n : Nat} {xs : List Value} (h : w.ownsRow base e size (.slice A n c) n xs) (hk : ∀ g, A = some ⟨g, 0, none⟩ → w'.heap[g]? = w.heap[g]?) : w'.ownsRow base e size (.slice A n c) n xs := by
  refine ⟨h.1, ?_⟩
  rcases h.2 with h | ⟨g, cap, cur, e, hb, hh, r⟩
  · exact .inl h
  · refine .inr ⟨g, cap, cur, e, hb, ?_, r⟩
    injection e with e1
    rw [hk g e1]
    exact hh
theorem DkAt.kept {base : Nat} {F : Ft} {w w' : World} {s : Dk} (h : DkAt base F w s) (hk : ∀ k, F.has k → w'.heap[k]? = w.heap[k]?) : DkAt base F w' s :=
  ⟨h.ok, h.bb, h.bm, (hk _ (.inl rfl)).trans h.cells, ownsRow_of_block h.row fun g e => hk g (.inr (.inr ⟨_, e, rfl⟩)), h.map.kept (hk _ (.inr (.inl rfl)))⟩
theorem DkAt.frm {base : Nat} {F : Ft} {w w' : World} {s : Dk} {X : Nat → Prop} (h : DkAt base F w s) (hf : Frm X w w') (hx : ∀ k, F.has k → ¬ X k) : DkAt base F w' s :=
  h.kept fun k hk => hf.block k (h.inside k hk) (hx k hk)
theorem DkAt.alloc {base : Nat} {F : Ft} {w : World} {s : Dk} (h : DkAt base F w s) (o : Obj) : DkAt base F (w.alloc o) s := h.frm (X := fun _ => False) (Frm.alloc _ w o) fun _ _ => id
theorem DkAt.drew {base : Nat} {F : Ft} {w : World} {s : Dk} (h : DkAt base F w s) : DkAt base F w.drew s := h.frm (X := fun _ => False) (Frm.drew _ w) fun _ _ => id
theorem DkAt.drewN {base : Nat} {F : Ft} {w : World} {s : Dk} (h : DkAt base F w s) (n : Nat) : DkAt base F (w.drewN n) s := h.frm (X := fun _ => False) (Frm.drewN _ w n) fun _ _ => id
theorem DkAt.below {base : Nat} {F : Ft} {w w' : World} {s : Dk} (h : DkAt base F w s) (hb : Below w.heap.size w w') : DkAt base F w' s := h.frm (X := fun _ => False) (Frm.of_below hb) fun _ _ => id

theorem DkAt.cellAt {base : Nat} {F : Ft} {w : World} {s : Dk} (h : DkAt base F w s) (i : Nat) : w.cell? ⟨F.b, i, none⟩ = (dkCells F s)[i]? := by
  simp [World.cell?, h.cells]
theorem DkAt.frozenAt {base : Nat} {F : Ft} {w : World} {s : Dk} (h : DkAt base F w s) (i : Nat) : w.frozen? ⟨F.b, i, none⟩ = false := by
  simp [World.frozen?, h.cells]
theorem DkAt.c0 {base : Nat} {F : Ft} {w : World} {s : Dk} (h : DkAt base F w s) : w.cell? ⟨F.b, 0, none⟩ = some (.slice F.A s.rows.length F.cap) := (h.cellAt 0).trans rfl
theorem DkAt.c1 {base : Nat} {F : Ft} {w : World} {s : Dk} (h : DkAt base F w s) : w.cell? ⟨F.b, 1, none⟩ = some (.map (some F.m)) := (h.cellAt 1).trans rfl
theorem DkAt.c2 {base : Nat} {F : Ft} {w : World} {s : Dk} (h : DkAt base F w s) : w.cell? ⟨F.b, 2, none⟩ = some (.int .i64 (s.calls : Int)) := (h.cellAt 2).trans rfl
theorem DkAt.c3 {base : Nat} {F : Ft} {w : World} {s : Dk} (h : DkAt base F w s) : w.cell? ⟨F.b, 3, none⟩ = some (.bool s.off) := (h.cellAt 3).trans rfl
theorem DkAt.c4 {base : Nat} {F : Ft} {w : World} {s : Dk} (h : DkAt base F w s) : w.cell? ⟨F.b, 4, none⟩ = some (.bool s.fset) := (h.cellAt 4).trans rfl
theorem DkAt.c5 {base : Nat} {F : Ft} {w : World} {s : Dk} (h : DkAt base F w s) : w.cell? ⟨F.b, 5, none⟩ = some (.int .i64 (s.left : Int)) := (h.cellAt 5).trans rfl
theorem DkAt.c6 {base : Nat} {F : Ft} {w : World} {s : Dk} (h : DkAt base F w s) : w.cell? ⟨F.b, 6, none⟩ = some (.bool s.done) := (h.cellAt 6).trans rfl
theorem heap_setCell_block {w : World} {b i : Nat} {cs : Array Value} {t : TypeId} (v : Value) (h : w.heap[b]? = some (.cells cs t (0, 0))) : (w.setCell ⟨b, i, none⟩ v).heap[b]? = some (.cells (cs.setIfInBounds i v) t (0, 0)) := by
  simp [World.setCell, Array.getElem?_modify, h]
theorem DkAt.other {base : Nat} {F : Ft} {w : World} {s : Dk} (h : DkAt base F w s) (i : Nat) (v : Value) (k : Nat) (hk : k ≠ F.b) : (w.setCell ⟨F.b, i, none⟩ v).heap[k]? = w.heap[k]? := Below.heap_setCell _ _ _ _ hk
theorem DkAt.bm_ne {base : Nat} {F : Ft} {w : World} {s : Dk} (h : DkAt base F w s) : F.m ≠ F.b := by
  intro e
  obtain ⟨n, D, ⟨es, clock, hb, _⟩, _⟩ := h.map
  rw [e, h.cells] at hb
  cases hb
theorem DkAt.bg_ne {base : Nat} {F : Ft} {w : World} {s : Dk} (h : DkAt base F w s) {g : Nat} (hg : F.A = some ⟨g, 0, none⟩) : g ≠ F.b := by
  intro e
  rcases h.rowat with ⟨e', _⟩ | ⟨g', cur, e', hb, hh, _⟩
  · rw [e'] at hg; cases hg
  · rw [e'] at hg
    injection hg with hg
    injection hg with hg
    subst hg
    rw [e, h.cells] at hh
    injection hh with hh
    injection hh with h1 h2
    exact absurd h2 (by decide)
theorem DkAt.mg_ne {base : Nat} {F : Ft} {w : World} {s : Dk} (h : DkAt base F w s) {g : Nat} (hg : F.A = some ⟨g, 0, none⟩) : g ≠ F.m := by
  intro e
  obtain ⟨n, D, ⟨es, clock, hb, _⟩, _⟩ := h.map
  rcases h.rowat with ⟨e', _⟩ | ⟨g', cur, e', hb', hh, _⟩
  · rw [e'] at hg; cases hg
  · rw [e'] at hg
    injection hg with hg
    injection hg with hg
    subst hg
    rw [e, hb] at hh
    cases hh
/-- A field that is one cell is written. -/
theorem DkAt.field {base : Nat} {F : Ft} {w : World} {s s' : Dk} (h : DkAt base F w s) (i : Nat) (v : Value) (hr : s'.rows = s.rows) (hw : s'.wt = s.wt) (hc : (dkCells F s).setIfInBounds i v = dkCells F s') (hl : s'.left ≤ 9223372036854775807) : DkAt base F (w.setCell ⟨F.b, i, none⟩ v) s' := by
  refine ⟨⟨by rw [hr]; exact h.ok.many, by rw [hr]; exact h.ok.each, by rw [hr, hw]; exact h.ok.wlt, by rw [hw]; exact h.ok.wlen, hl⟩, h.bb, h.bm, ?_, ?_, ?_⟩
  · rw [heap_setCell_block v h.cells, hc]
  · rw [hr]; exact ownsRow_of_block h.row fun g e => h.other i v g (h.bg_ne e)
  · rw [hw]; exact h.map.kept (h.other i v F.m h.bm_ne)
end Go.Proofs.YtegjeijiekggdaaGreatDoor
end
section
/- The package sector: what tells why nothing can be done, and the looks. -/
namespace Go.Proofs.YtegjeijiekggdaaGreatDoor
open Go.RowKit
set_option linter.unusedVariables false

/-- Why nothing can be done with a disk. -/
def Dk.fault (s : Dk) : Nat := if s.off then 8 else 0
def Dk.faultAt (s : Dk) (n : Int) : Nat := if s.off then 8 else if n < 0 ∨ (s.rows.length : Int) ≤ n then 9 else 0

set_option maxHeartbeats 400000 in
theorem fault_nil (w : World) : Calls Tryz.prog 71 #[.pointer none] w fun e w' => e = .returned (.int .i64 1) ∧ w = w' := by
  go_enter Tryz.func71, Tryz.ntmps71
  go_wp2
  go_ret
  exact ⟨rfl, rfl⟩
set_option maxHeartbeats 400000 in
theorem fault_any {base : Nat} {F : Ft} {w : World} {s : Dk} (h : DkAt base F w s) : Calls Tryz.prog 71 #[.pointer (some ⟨F.b, 0, none⟩)] w fun e w' => e = .returned (.int .i64 (s.fault : Int)) ∧ w = w' := by
  have c3 := h.c3
  cases ho : s.off
  all_goals
    have HF := Lib.hid (show s.fault = _ from by unfold Dk.fault; rw [ho])
    rw [ho] at c3
    clear ho h
    go_enter Tryz.func71, Tryz.ntmps71
    go_wp2
    go_ret
    exact ⟨by rw [HF.out]; rfl, rfl⟩
set_option maxHeartbeats 400000 in
theorem faultAt_nil (n : Int) (w : World) : Calls Tryz.prog 130 #[.pointer none, .int .i64 n] w fun e w' => e = .returned (.int .i64 1) ∧ w = w' := by
  go_enter Tryz.func130, Tryz.ntmps130
  go_wp2_with (go_at_call 71; refine (fault_nil _).mono ?_; rintro e w' ⟨rfl, rfl⟩)
  go_ret
  exact ⟨rfl, rfl⟩
set_option maxHeartbeats 400000 in
theorem faultAt_any {base : Nat} {F : Ft} {w : World} {s : Dk} (h : DkAt base F w s) (n : Int) : Calls Tryz.prog 130 #[.pointer (some ⟨F.b, 0, none⟩), .int .i64 n] w fun e w' => e = .returned (.int .i64 (s.faultAt n : Int)) ∧ w = w' := by
  have c0 := h.c0
  have hf := fault_any h
  have hm := h.ok.many
  generalize hR : s.rows.length = N at c0 hm
  by_cases ho : s.off = true
  · have HF := Lib.hid (show s.faultAt n = 8 from by unfold Dk.faultAt; rw [if_pos ho])
    rw [show s.fault = 8 from by unfold Dk.fault; rw [if_pos ho]] at hf
    clear ho h hR
    have Hf := Lib.hid hf
    clear hf
    go_enter Tryz.func130, Tryz.ntmps130
    go_wp2_with (go_at_call 71; refine Hf.out.mono ?_; rintro e w' ⟨rfl, rfl⟩)
    go_ret
    exact ⟨by rw [HF.out]; rfl, rfl⟩
  · rw [show s.fault = 0 from by unfold Dk.fault; rw [if_neg ho]] at hf
    have Hf := Lib.hid hf
    clear hf
    have HF := Lib.hid (show s.faultAt n = if n < 0 ∨ (N : Int) ≤ n then 9 else 0 from by unfold Dk.faultAt; rw [if_neg ho, hR])
    clear ho h hR
    by_cases h1 : n < 0
    · rw [if_pos (.inl h1)] at HF
      go_enter Tryz.func130, Tryz.ntmps130
      go_wp2_with (go_at_call 71; refine Hf.out.mono ?_; rintro e w' ⟨rfl, rfl⟩)
      go_ret
      exact ⟨by rw [HF.out]; rfl, rfl⟩
    · have h1' : 0 ≤ n := by omega
      by_cases h2 : (N : Int) ≤ n
      · rw [if_pos (.inr h2)] at HF
        go_enter Tryz.func130, Tryz.ntmps130
        go_wp2_with (go_at_call 71; refine Hf.out.mono ?_; rintro e w' ⟨rfl, rfl⟩)
        go_ret
        exact ⟨by rw [HF.out]; rfl, rfl⟩
      · rw [if_neg (by omega)] at HF
        have h2' : n < (N : Int) := by omega
        clear h1 h2
        go_enter Tryz.func130, Tryz.ntmps130
        go_wp2_with (go_at_call 71; refine Hf.out.mono ?_; rintro e w' ⟨rfl, rfl⟩)
        go_ret
        exact ⟨by rw [HF.out]; rfl, rfl⟩
set_option maxHeartbeats 400000 in
theorem size_any {base : Nat} {F : Ft} {w : World} {s : Dk} (h : DkAt base F w s) : Calls Tryz.prog 84 #[.pointer (some ⟨F.b, 0, none⟩)] w fun e w' => e = .returned (.int .i64 (s.rows.length : Int)) ∧ w = w' := by
  have c0 := h.c0
  have hm := h.ok.many
  clear h
  generalize s.rows.length = N at *
  go_enter Tryz.func84, Tryz.ntmps84
  go_wp2
  go_ret
  exact ⟨rfl, rfl⟩
set_option maxHeartbeats 400000 in
theorem calls_any {base : Nat} {F : Ft} {w : World} {s : Dk} (h : DkAt base F w s) : Calls Tryz.prog 83 #[.pointer (some ⟨F.b, 0, none⟩)] w fun e w' => e = .returned (.int .i64 (s.calls : Int)) ∧ w = w' := by
  have c2 := h.c2
  clear h
  go_enter Tryz.func83, Tryz.ntmps83
  go_wp2
  go_ret
  exact ⟨rfl, rfl⟩
set_option maxHeartbeats 400000 in
theorem off_any {base : Nat} {F : Ft} {w : World} {s : Dk} (h : DkAt base F w s) : Calls Tryz.prog 32 #[.pointer (some ⟨F.b, 0, none⟩)] w fun e w' => e = .returned (.bool s.off) ∧ w = w' := by
  have c3 := h.c3
  clear h
  go_enter Tryz.func32, Tryz.ntmps32
  go_wp2
  go_ret
  exact ⟨rfl, rfl⟩
end Go.Proofs.YtegjeijiekggdaaGreatDoor
end
section
/- The package blocks: whether an area may be, whether it has a block, and a block's sectors. -/
namespace Go.Proofs.YtegjeijiekggdaaGreatDoor
open Go.RowKit
set_option linter.unusedVariables false
/-- An area of blocks. -/
structure Ar where
  first : Int
  count : Int
def Ar.v (a : Ar) : Value := .agg #[.int .i64 a.first, .int .i64 a.count]
def Ar.may (a : Ar) : Bool := decide (0 ≤ a.first ∧ a.first ≤ 4096 ∧ 0 ≤ a.count ∧ a.count ≤ 512)
def Ar.has (a : Ar) (n : Int) : Bool := decide (0 ≤ n ∧ n < a.count)
set_option maxHeartbeats 1000000 in
set_option maxRecDepth 100000 in
theorem mayBe_any (a : Ar) (w : World) : Calls Tryz.prog 159 #[a.v] w fun e w' => e = .returned (.bool a.may) ∧ Below w.heap.size w w' := by
  obtain ⟨p, q⟩ := a
  show Calls Tryz.prog 159 #[.agg #[.int .i64 p, .int .i64 q]] w _
  by_cases h1 : 0 ≤ p
  · by_cases h2 : p ≤ 4096
    · by_cases h3 : 0 ≤ q
      · by_cases h4 : q ≤ 512
        · rw [show Ar.may ⟨p, q⟩ = true from decide_eq_true ⟨h1, h2, h3, h4⟩]
          go_enter Tryz.func159, Tryz.ntmps159
          go_wp2
          go_ret
          exact ⟨rfl, (Below.refl _ _).alloc (Nat.le_refl _) _⟩
        · rw [show Ar.may ⟨p, q⟩ = false from decide_eq_false (fun h => h4 h.2.2.2)]
          go_enter Tryz.func159, Tryz.ntmps159
          go_wp2
          go_ret
          exact ⟨rfl, (Below.refl _ _).alloc (Nat.le_refl _) _⟩
      · rw [show Ar.may ⟨p, q⟩ = false from decide_eq_false (fun h => h3 h.2.2.1)]
        go_enter Tryz.func159, Tryz.ntmps159
        go_wp2
        go_ret
        exact ⟨rfl, (Below.refl _ _).alloc (Nat.le_refl _) _⟩
    · rw [show Ar.may ⟨p, q⟩ = false from decide_eq_false (fun h => h2 h.2.1)]
      go_enter Tryz.func159, Tryz.ntmps159
      go_wp2
      go_ret
      exact ⟨rfl, (Below.refl _ _).alloc (Nat.le_refl _) _⟩
  · rw [show Ar.may ⟨p, q⟩ = false from decide_eq_false (fun h => h1 h.1)]
    go_enter Tryz.func159, Tryz.ntmps159
    go_wp2
    go_ret
    exact ⟨rfl, (Below.refl _ _).alloc (Nat.le_refl _) _⟩
set_option maxHeartbeats 1000000 in
set_option maxRecDepth 100000 in
theorem has_any (a : Ar) (n : Int) (w : World) : Calls Tryz.prog 158 #[a.v, .int .i64 n] w fun e w' => e = .returned (.bool (a.has n)) ∧ Below w.heap.size w w' := by
  obtain ⟨p, q⟩ := a
  show Calls Tryz.prog 158 #[.agg #[.int .i64 p, .int .i64 q], .int .i64 n] w _
  by_cases h1 : 0 ≤ n
  · by_cases h2 : n < q
    · rw [show Ar.has ⟨p, q⟩ n = true from decide_eq_true ⟨h1, h2⟩]
      go_enter Tryz.func158, Tryz.ntmps158
      go_wp2
      go_ret
      exact ⟨rfl, (Below.refl _ _).alloc (Nat.le_refl _) _⟩
    · rw [show Ar.has ⟨p, q⟩ n = false from decide_eq_false (fun h => h2 h.2)]
      go_enter Tryz.func158, Tryz.ntmps158
      go_wp2
      go_ret
      exact ⟨rfl, (Below.refl _ _).alloc (Nat.le_refl _) _⟩
  · rw [show Ar.has ⟨p, q⟩ n = false from decide_eq_false (fun h => h1 h.1)]
    go_enter Tryz.func158, Tryz.ntmps158
    go_wp2
    go_ret
    exact ⟨rfl, (Below.refl _ _).alloc (Nat.le_refl _) _⟩
theorem Tryz.infoI : (Tryz.prog.info? 3).map (fun i => (i.zero, i.size, i.bytes)) = some (some (.int .i64 0), 1, 8) := by kernel_rfl
theorem wpList_make_I {w : World} {ops : Array Oper} {rest : List Oper} {o : Oper} {a : Act} {Q : Exit → Act → World → Prop} (hgd : o.guard = none) (s x : Operand)
    (ho : o.op = Op.makeSlice 131 s x) (base n : Nat) (L C : Int) (hs : a.eval s = .int .i64 L) (hx : a.eval x = .int .i64 C) (hL : L = (n : Int)) (hC : C = (n : Int)) (hn : n ≤ 4096) (hbase : base ≤ w.heap.size)
    (h : ∀ w', w'.ownsRow base 3 1 (.slice (some ⟨w.heap.size, 0, none⟩) n n) n (madeCells (Value.int .i64 0).cells (n * 1)).toList → Below base w w' → wpList Tryz.prog ops Q rest (a.put o.dst (.slice (some ⟨w.heap.size, 0, none⟩) n n)) w') : wpList Tryz.prog ops Q (o :: rest) a w := by
  obtain ⟨i0, hi, hz0, hz1, hz2⟩ := info_parts Tryz.infoI
  refine wpList_make_full w hgd s x 131 ho base 3 i0 _ 1 Tryz.underlying131 hi hz0 hz1 .i64 .i64 L C n hs hx hL hC (by rw [hz2]; omega) (by simp only [maxLen]; omega) hbase ?_
  intro w' h1 h2
  exact h w' h1 ((Below.refl base w).grown h2 hbase fun k hk => by cases hk)
/-- The numbers of four sectors, of which k are there. -/
def four (x : Int) (k : Nat) : Array Value := #[.int .i64 (if 0 < k then x else 0), .int .i64 (if 1 < k then x + 1 else 0), .int .i64 (if 2 < k then x + 2 else 0), .int .i64 (if 3 < k then x + 3 else 0)]
/-- A slice reads as the sectors' numbers. -/
def Four (w : World) (g : Nat) (x : Int) (k : Nat) : Prop := w.heap[g]? = some (.cells (four x k) 3 (0, 0))
theorem Four.cell {w : World} {g : Nat} {x : Int} {k : Nat} (h : Four w g x k) (i : Nat) : w.cell? ⟨g, i, none⟩ = (four x k)[i]? := by simp only [World.cell?, show w.heap[g]? = some (.cells (four x k) 3 (0, 0)) from h]; rfl
theorem Four.frozen {w : World} {g : Nat} {x : Int} {k : Nat} (h : Four w g x k) (i : Nat) : w.frozen? ⟨g, i, none⟩ = false := by simp [World.frozen?, show w.heap[g]? = some (.cells (four x k) 3 (0, 0)) from h]
theorem Four.set {w : World} {g : Nat} {x : Int} {k : Nat} (h : Four w g x k) (hk : k < 4) : Four (w.setCell ⟨g, k, none⟩ (.int .i64 (x + k))) g x (k + 1) := by
  have h : w.heap[g]? = some (.cells (four x k) 3 (0, 0)) := h
  show (w.setCell ⟨g, k, none⟩ (.int .i64 (x + k))).heap[g]? = _
  have : (w.setCell ⟨g, k, none⟩ (.int .i64 (x + k))).heap[g]? = some (.cells ((four x k).setIfInBounds k (.int .i64 (x + k))) 3 (0, 0)) := by
    simp [World.setCell, Array.getElem?_modify, h]
  rw [this]
  match k, hk with
  | 0, _ => simp [four]
  | 1, _ => simp [four]
  | 2, _ => simp [four]
  | 3, _ => simp [four]
set_option maxHeartbeats 1000000 in
set_option maxRecDepth 100000 in
theorem sectors_none (a : Ar) (n : Int) (w : World) (h : (a.may && a.has n) = false) : Calls Tryz.prog 119 #[a.v, .int .i64 n] w fun e w' => e = .returned (.slice none 0 0) ∧ Below w.heap.size w w' := by
  have K1 := Lib.hid (fun W => mayBe_any a W)
  have K2 := Lib.hid (fun W => has_any a n W)
  obtain ⟨p, q⟩ := a
  generalize Ar.may ⟨p, q⟩ = m1 at *
  generalize Ar.has ⟨p, q⟩ n = m2 at *
  show Calls Tryz.prog 119 #[.agg #[.int .i64 p, .int .i64 q], .int .i64 n] w _
  have K1 : Hid (∀ W, Calls Tryz.prog 159 #[.agg #[.int .i64 p, .int .i64 q]] W fun e w' => e = .returned (.bool m1) ∧ Below W.heap.size W w') := K1
  have K2 : Hid (∀ W, Calls Tryz.prog 158 #[.agg #[.int .i64 p, .int .i64 q], .int .i64 n] W fun e w' => e = .returned (.bool m2) ∧ Below W.heap.size W w') := K2
  have hz := heap_size_alloc w (.cells #[.int .i64 p, .int .i64 q] 105)
  cases m1 with
  | false =>
    go_enter Tryz.func119, Tryz.ntmps119
    go_wp2_with (first
      | (go_at_call 159; refine (K1.out _).mono ?_; rintro e w1 ⟨rfl, b1⟩; have B1 := Lib.hid (((Below.refl _ w).alloc (Nat.le_refl _) _).trans (b1.mono (by omega))); clear b1)
      | fail)
    go_ret
    exact ⟨rfl, B1.out⟩
  | true =>
    obtain rfl : m2 = false := by simpa using h
    go_enter Tryz.func119, Tryz.ntmps119
    go_wp2_with fail
    refine (K1.out _).mono ?_
    rintro e w1 ⟨rfl, b1⟩
    have B1 := Lib.hid (((Below.refl _ w).alloc (Nat.le_refl _) _).trans (b1.mono (by omega)))
    have hh : w1.heap[w.heap.size]? = some (.cells #[.int .i64 p, .int .i64 q] 105 (0, 0)) := (b1.block _ (by omega)).trans (heap_alloc_last w _)
    have x0 : w1.cell? ⟨w.heap.size, 0, none⟩ = some (.int .i64 p) := (cell_of_row w1 _ 0 _ _ _ hh).trans rfl
    have x1 : w1.cell? ⟨w.heap.size, 1, none⟩ = some (.int .i64 q) := (cell_of_row w1 _ 1 _ _ _ hh).trans rfl
    clear b1 hh
    go_wp2_with fail
    refine (K2.out _).mono ?_
    rintro e w2 ⟨rfl, b2⟩
    have B2 := Lib.hid (B1.out.trans (b2.mono B1.out.size))
    clear b2
    go_wp2
    go_ret
    exact ⟨rfl, B2.out⟩
set_option maxHeartbeats 1000000 in
set_option maxRecDepth 100000 in
theorem sectors_some (a : Ar) (n : Int) (w : World) (h1 : a.may = true) (h2 : a.has n = true) : Calls Tryz.prog 119 #[a.v, .int .i64 n] w fun e w' => ∃ g, e = .returned (.slice (some ⟨g, 0, none⟩) 4 4) ∧ w.heap.size < g ∧ Four w' g (a.first + 4 * n) 4 ∧ Below w.heap.size w w' := by
  have K1 := Lib.hid (fun W => mayBe_any a W)
  have K2 := Lib.hid (fun W => has_any a n W)
  rw [h1] at K1
  rw [h2] at K2
  obtain ⟨p, q⟩ := a
  obtain ⟨p0, p1, q0, q1⟩ : 0 ≤ p ∧ p ≤ 4096 ∧ 0 ≤ q ∧ q ≤ 512 := of_decide_eq_true h1
  obtain ⟨n0, n1⟩ : 0 ≤ n ∧ n < q := of_decide_eq_true h2
  have n2 : n ≤ 511 := by omega
  clear h1 h2
  show Calls Tryz.prog 119 #[.agg #[.int .i64 p, .int .i64 q], .int .i64 n] w fun e w' => ∃ g, e = .returned (.slice (some ⟨g, 0, none⟩) 4 4) ∧ w.heap.size < g ∧ Four w' g (p + 4 * n) 4 ∧ Below w.heap.size w w'
  have K1 : Hid (∀ W, Calls Tryz.prog 159 #[.agg #[.int .i64 p, .int .i64 q]] W fun e w' => e = .returned (.bool true) ∧ Below W.heap.size W w') := K1
  have K2 : Hid (∀ W, Calls Tryz.prog 158 #[.agg #[.int .i64 p, .int .i64 q], .int .i64 n] W fun e w' => e = .returned (.bool true) ∧ Below W.heap.size W w') := K2
  have hz := heap_size_alloc w (.cells #[.int .i64 p, .int .i64 q] 105)
  go_enter Tryz.func119, Tryz.ntmps119
  go_wp2_with fail
  refine (K1.out _).mono ?_
  rintro e w1 ⟨rfl, b1⟩
  have B1 := Lib.hid (((Below.refl _ w).alloc (Nat.le_refl _) _).trans (b1.mono (by omega)))
  have hh : w1.heap[w.heap.size]? = some (.cells #[.int .i64 p, .int .i64 q] 105 (0, 0)) := (b1.block _ (by omega)).trans (heap_alloc_last w _)
  have hs1 : w.heap.size < w1.heap.size := (Array.getElem?_eq_some_iff.1 hh).1
  have x0 : w1.cell? ⟨w.heap.size, 0, none⟩ = some (.int .i64 p) := (cell_of_row w1 _ 0 _ _ _ hh).trans rfl
  have x1 : w1.cell? ⟨w.heap.size, 1, none⟩ = some (.int .i64 q) := (cell_of_row w1 _ 1 _ _ _ hh).trans rfl
  clear b1
  go_wp2_with fail
  refine (K2.out _).mono ?_
  rintro e w2 ⟨rfl, b2⟩
  have B2 := Lib.hid (B1.out.trans (b2.mono B1.out.size))
  have HH2 := Lib.hid ((b2.block _ hs1).trans hh)
  have hs2 : w.heap.size < w2.heap.size := Nat.lt_of_lt_of_le hs1 b2.size
  clear b2 x0 x1 hh K1 K2 B1 hs1 hz
  go_wp2_with (at_make; refine wpList_make_I rfl _ _ rfl w2.heap.size 4 _ _ rfl rfl rfl rfl (by omega) (Nat.le_refl _) ?_; intro w3 hr3 hb3)
  have f3 : Four w3 w2.heap.size (p + 4 * n) 0 := by
    rcases hr3.2 with ⟨e, _⟩ | ⟨g, cap, cur, e, _, hh, hc, hm, hsz, ht⟩
    · cases e
    · injection e with e1 e2 e3
      injection e1 with e1
      injection e1 with e1
      subst e1
      subst e3
      show w3.heap[w2.heap.size]? = _
      rw [hh]
      have : cur = four (p + 4 * n) 0 := by
        apply Array.toList_inj.1
        rw [List.take_of_length_le (by simp [hsz])] at ht
        rw [ht, show four (p + 4 * n) 0 = #[.int .i64 0, .int .i64 0, .int .i64 0, .int .i64 0] from by simp [four]]
        kernel_rfl
      rw [this]
  have B3 := Lib.hid (B2.out.trans (hb3.mono B2.out.size))
  have HH3 := Lib.hid ((hb3.block _ hs2).trans HH2.out)
  have F3 := Lib.hid f3
  clear f3 hr3 hb3 B2 HH2
  go_loopw [6, 19] (fun _ i wr => ∃ k : Nat, k ≤ 4 ∧ i = .int .i64 k ∧ Four wr w2.heap.size (p + 4 * n) k ∧ wr.heap[w.heap.size]? = some (.cells #[.int .i64 p, .int .i64 q] 105 (0, 0)) ∧ Below w.heap.size w wr) (fun _ i _ => 4 - (RowKit.intOf i).toNat)
  case atStart => exact ⟨0, Nat.zero_le _, rfl, F3.out, HH3.out, B3.out⟩
  case round =>
    obtain ⟨k, hk, rfl, hf, hh, hb⟩ := hrel
    have FF := Lib.hid hf
    have HH := Lib.hid hh
    have BB := Lib.hid hb
    have x0 : wr.cell? ⟨w.heap.size, 0, none⟩ = some (.int .i64 p) := (cell_of_row wr _ 0 _ _ _ hh).trans rfl
    by_cases hlt : k < 4
    · have k0 : (k : Int) < 4 := by omega
      have y0 : wr.cell? ⟨w2.heap.size, k, none⟩ = some (.int .i64 0) := by
        rw [hf.cell k]
        match k, hlt with
        | 0, _ => rfl
        | 1, _ => rfl
        | 2, _ => rfl
        | 3, _ => rfl
      have y1 := hf.frozen k
      clear hf hh hb
      go_wp2
      go_roundw
      case rel =>
        refine ⟨k + 1, by omega, by go_num, FF.out.set hlt, ?_, BB.out.setCell (by show w.heap.size ≤ w2.heap.size; omega) _⟩
        rw [← HH.out]
        exact Below.heap_setCell _ _ _ _ (by show w.heap.size ≠ w2.heap.size; omega)
      case measure => simp [RowKit.intOf]; omega
    · obtain rfl : k = 4 := by omega
      clear hf hh hb
      go_wp2
      go_ret
      exact ⟨_, rfl, hs2, FF.out, BB.out⟩
end Go.Proofs.YtegjeijiekggdaaGreatDoor
end
section
/- The package blocks: Check and fault. -/
namespace Go.Proofs.YtegjeijiekggdaaGreatDoor
open Go.RowKit
set_option linter.unusedVariables false
theorem wrap64 (x : Int) (h1 : -9223372036854775808 ≤ x) (h2 : x ≤ 9223372036854775807) : IntKind.i64.wrap x = x := by
  simp [IntKind.wrap, IntKind.signed, IntKind.bits]
  omega
theorem takeHs {P : Program} {md : Region.Mode} {ops : Array Oper} {Q : Exit → Act → World → Prop} {S : World → Prop} {fuel : Nat} {listed : Array Bool} {a : Act} {w : World} (i : Nat) (d : Nat) {oi : Oper}
    (hi : ops[i]? = some oi) (hd : oi.dst = some d) (hs : Region.noSelect ops = true) (hf : Region.free md ops listed i = true) (hr : (Region.ready md ops listed).contains i = true)
    (hQ : ∀ c a w, Q (.panic c) (a.put (some d) undef) w → Q (.panic c) a w) (hS : S w) (hw : Region.wanted oi (yielded ops a.tmps) = false)
    (h : wpAnyH P md ops Q S fuel (listed.setIfInBounds i true) (a.put (some d) undef) w) : wpAnyH P md ops Q S (fuel + 1) listed a w :=
  wpAnyH_take hi hs hf hr (by rw [hd]; exact hQ) (.inr ⟨hw, rfl⟩) hS (by rw [hd]; exact h)
def Ar.check (a : Ar) (size : Nat) : Nat := if a.may = true ∧ a.first + 4 * a.count ≤ (size : Int) then 0 else 2
def Ar.fault (a : Ar) (size : Nat) (n : Int) : Nat := if a.check size = 0 then if a.has n = true then 0 else 9 else 2
set_option maxHeartbeats 1000000 in
set_option maxRecDepth 100000 in
theorem check_nil (a : Ar) (w : World) : Calls Tryz.prog 157 #[.pointer none, a.v] w fun e w' => e = .returned (.int .i64 1) ∧ Below w.heap.size w w' := by
  obtain ⟨p, q⟩ := a
  show Calls Tryz.prog 157 #[.pointer none, .agg #[.int .i64 p, .int .i64 q]] w _
  go_enter Tryz.func157, Tryz.ntmps157
  go_wp2
  go_ret
  exact ⟨rfl, (Below.refl _ _).alloc (Nat.le_refl _) _⟩
set_option maxHeartbeats 1000000 in
set_option maxRecDepth 100000 in
theorem check_any {base : Nat} {F : Ft} {w : World} {s : Dk} (h : DkAt base F w s) (a : Ar) : Calls Tryz.prog 157 #[.pointer (some ⟨F.b, 0, none⟩), a.v] w fun e w' => e = .returned (.int .i64 (a.check s.rows.length : Int)) ∧ Below w.heap.size w w' := by
  have K1 := Lib.hid (fun W => mayBe_any a W)
  have KS := Lib.hid (fun W (hb : Below w.heap.size w W) => size_any (h.below hb))
  have hmany := h.ok.many
  obtain ⟨p, q⟩ := a
  have HC := Lib.hid (show Ar.check ⟨p, q⟩ s.rows.length = if Ar.may ⟨p, q⟩ = true ∧ p + 4 * q ≤ (s.rows.length : Int) then 0 else 2 from rfl)
  have K1 : Hid (∀ W, Calls Tryz.prog 159 #[.agg #[.int .i64 p, .int .i64 q]] W fun e w' => e = .returned (.bool (Ar.may ⟨p, q⟩)) ∧ Below W.heap.size W w') := K1
  show Calls Tryz.prog 157 #[.pointer (some ⟨F.b, 0, none⟩), .agg #[.int .i64 p, .int .i64 q]] w _
  have hz := heap_size_alloc w (.cells #[.int .i64 p, .int .i64 q] 105)
  have b0 := Lib.hid (((Below.refl _ w).alloc (Nat.le_refl _) (.cells #[.int .i64 p, .int .i64 q] 105)).drew)
  have hh := Lib.hid (heap_alloc_last w (.cells #[.int .i64 p, .int .i64 q] 105))
  generalize hN : s.rows.length = N at *
  clear h hN
  by_cases hm : Ar.may ⟨p, q⟩ = true
  · obtain ⟨p0, p1, q0, q1⟩ : 0 ≤ p ∧ p ≤ 4096 ∧ 0 ≤ q ∧ q ≤ 512 := of_decide_eq_true hm
    rw [hm] at K1 HC
    simp only [true_and] at HC
    generalize Ar.check ⟨p, q⟩ N = cc at *
    clear hm
    by_cases hc : p + 4 * q ≤ (N : Int)
    · rw [if_pos hc] at HC
      have hw : decide ((N : Int) < IntKind.i64.wrap (p + IntKind.i64.wrap (4 * q))) = false := by rw [wrap64 (4 * q) (by omega) (by omega), wrap64 _ (by omega) (by omega)]; simp; omega
      clear hc
      go_enter Tryz.func157, Tryz.ntmps157
      go_wp2
      have hz' := Lib.hid hz
      clear hz
      generalize w.alloc (.cells #[.int .i64 p, .int .i64 q] 105) = W0 at *
      have x0 : W0.drew.cell? ⟨w.heap.size, 0, none⟩ = some (.int .i64 p) := (cell_of_row W0 _ 0 _ _ _ hh.out).trans rfl
      have x1 : W0.drew.cell? ⟨w.heap.size, 1, none⟩ = some (.int .i64 q) := (cell_of_row W0 _ 1 _ _ _ hh.out).trans rfl
      go_region_held3 (fun W => W.cell? ⟨w.heap.size, 0, none⟩ = some (.int .i64 p) ∧ W.cell? ⟨w.heap.size, 1, none⟩ = some (.int .i64 q)) (first | with_reducible assumption | with_reducible exact ⟨x0, x1⟩ | with_reducible exact ⟨y0, y1⟩ | go_keep | fail)
        (first
          | (go_at_call 159; refine (K1.out _).mono ?_; rintro e w1 ⟨rfl, b1⟩; have y0 := (b1.cell (p := ⟨w.heap.size, 0, none⟩) (lt_of_cell x0)).trans x0; have y1 := (b1.cell (p := ⟨w.heap.size, 1, none⟩) (lt_of_cell x1)).trans x1; have B1 := Lib.hid (b0.out.trans (b1.mono b0.out.size)); clear b1)
          | (go_at_call 84; refine (KS.out _ (by with_reducible first | exact B1.out | exact b0.out)).mono ?_; rintro e w2 ⟨rfl, rfl⟩)
          | fail)
      all_goals
        go_wp2
        go_ret
        rw [HC.out]
        exact ⟨rfl, by with_reducible first | exact B1.out | exact b0.out⟩
    · rw [if_neg hc] at HC
      have hw : decide ((N : Int) < IntKind.i64.wrap (p + IntKind.i64.wrap (4 * q))) = true := by rw [wrap64 (4 * q) (by omega) (by omega), wrap64 _ (by omega) (by omega)]; simp; omega
      clear hc
      go_enter Tryz.func157, Tryz.ntmps157
      go_wp2
      have hz' := Lib.hid hz
      clear hz
      generalize w.alloc (.cells #[.int .i64 p, .int .i64 q] 105) = W0 at *
      have x0 : W0.drew.cell? ⟨w.heap.size, 0, none⟩ = some (.int .i64 p) := (cell_of_row W0 _ 0 _ _ _ hh.out).trans rfl
      have x1 : W0.drew.cell? ⟨w.heap.size, 1, none⟩ = some (.int .i64 q) := (cell_of_row W0 _ 1 _ _ _ hh.out).trans rfl
      go_region_held3 (fun W => W.cell? ⟨w.heap.size, 0, none⟩ = some (.int .i64 p) ∧ W.cell? ⟨w.heap.size, 1, none⟩ = some (.int .i64 q)) (first | with_reducible assumption | with_reducible exact ⟨x0, x1⟩ | with_reducible exact ⟨y0, y1⟩ | go_keep | fail)
        (first
          | (go_at_call 159; refine (K1.out _).mono ?_; rintro e w1 ⟨rfl, b1⟩; have y0 := (b1.cell (p := ⟨w.heap.size, 0, none⟩) (lt_of_cell x0)).trans x0; have y1 := (b1.cell (p := ⟨w.heap.size, 1, none⟩) (lt_of_cell x1)).trans x1; have B1 := Lib.hid (b0.out.trans (b1.mono b0.out.size)); clear b1)
          | (go_at_call 84; refine (KS.out _ (by with_reducible first | exact B1.out | exact b0.out)).mono ?_; rintro e w2 ⟨rfl, rfl⟩)
          | fail)
      all_goals
        go_wp2
        go_ret
        rw [HC.out]
        exact ⟨rfl, by with_reducible first | exact B1.out | exact b0.out⟩
  · have hm : Ar.may ⟨p, q⟩ = false := by simpa using hm
    rw [hm] at K1 HC
    rw [if_neg (by simp)] at HC
    generalize Ar.check ⟨p, q⟩ N = cc at *
    clear hm KS
    go_enter Tryz.func157, Tryz.ntmps157
    go_wp2
    clear hz
    generalize w.alloc (.cells #[.int .i64 p, .int .i64 q] 105) = W0 at *
    have x0 : W0.drew.cell? ⟨w.heap.size, 0, none⟩ = some (.int .i64 p) := (cell_of_row W0 _ 0 _ _ _ hh.out).trans rfl
    have x1 : W0.drew.cell? ⟨w.heap.size, 1, none⟩ = some (.int .i64 q) := (cell_of_row W0 _ 1 _ _ _ hh.out).trans rfl
    refine wp_region_any (by kernel_rfl) ?_
    change wpAny _ _ _ _ _ _ _ (World.drew _)
    refine wpAny_of_held (S := fun W => W.cell? ⟨w.heap.size, 0, none⟩ = some (.int .i64 p) ∧ W.cell? ⟨w.heap.size, 1, none⟩ = some (.int .i64 q)) _ _ _ _ ?_
    have HS := And.intro x0 x1
    refine takeH 0 9 (v := ?_) rfl rfl (by kernel_rfl) (by kernel_rfl) (by kernel_rfl) (fun _ _ _ h => h) HS (by rfl) ?_ ?_
    rotate_left
    · intro w' hSw
      obtain ⟨hSw0, hSw1⟩ := hSw
      go_simp
      try (with_reducible rfl)
    simp only [Act.put, List.setIfInBounds_toArray, List.set_cons_zero, List.set_cons_succ]
    refine wpAnyH_ready (rs := [1]) (by kernel_rfl) (by simp) ?_
    refine AllReadyH.cons rfl (fun K hK => ?_) AllReadyH.nil
    go_simp
    refine (K1.out _).mono ?_
    rintro e w1 ⟨rfl, b1⟩
    have HS := And.intro ((b1.cell (p := ⟨w.heap.size, 0, none⟩) (lt_of_cell x0)).trans x0) ((b1.cell (p := ⟨w.heap.size, 1, none⟩) (lt_of_cell x1)).trans x1)
    have B1 := Lib.hid (b0.out.trans (b1.mono b0.out.size))
    refine hK _ _ HS (fun _ => ?_)
    clear hK K b1 x0 x1
    refine takeH 2 11 (v := ?_) rfl rfl (by kernel_rfl) (by kernel_rfl) (by kernel_rfl) (fun _ _ _ h => h) HS (by rfl) ?_ ?_
    rotate_left
    · intro w' hSw
      obtain ⟨hSw0, hSw1⟩ := hSw
      go_simp
      try (with_reducible rfl)
    simp only [Act.put, List.setIfInBounds_toArray, List.set_cons_zero, List.set_cons_succ]
    refine takeH 3 12 (v := ?_) rfl rfl (by kernel_rfl) (by kernel_rfl) (by kernel_rfl) (fun _ _ _ h => h) HS (by rfl) ?_ ?_
    rotate_left
    · intro w' hSw
      obtain ⟨hSw0, hSw1⟩ := hSw
      go_simp
      try (with_reducible rfl)
    simp only [Act.put, List.setIfInBounds_toArray, List.set_cons_zero, List.set_cons_succ]
    refine takeHs 4 13 rfl rfl (by kernel_rfl) (by kernel_rfl) (by kernel_rfl) (fun _ _ _ h => h) HS (by rfl) ?_
    simp only [Act.put, List.setIfInBounds_toArray, List.set_cons_zero, List.set_cons_succ]
    refine takeHs 5 14 rfl rfl (by kernel_rfl) (by kernel_rfl) (by kernel_rfl) (fun _ _ _ h => h) HS (by rfl) ?_
    simp only [Act.put, List.setIfInBounds_toArray, List.set_cons_zero, List.set_cons_succ]
    refine takeHs 6 15 rfl rfl (by kernel_rfl) (by kernel_rfl) (by kernel_rfl) (fun _ _ _ h => h) HS (by rfl) ?_
    simp only [Act.put, List.setIfInBounds_toArray, List.set_cons_zero, List.set_cons_succ]
    refine takeHs 7 16 rfl rfl (by kernel_rfl) (by kernel_rfl) (by kernel_rfl) (fun _ _ _ h => h) HS (by rfl) ?_
    simp only [Act.put, List.setIfInBounds_toArray, List.set_cons_zero, List.set_cons_succ]
    refine takeHs 8 17 rfl rfl (by kernel_rfl) (by kernel_rfl) (by kernel_rfl) (fun _ _ _ h => h) HS (by rfl) ?_
    simp only [Act.put, List.setIfInBounds_toArray, List.set_cons_zero, List.set_cons_succ]
    refine takeHs 9 18 rfl rfl (by kernel_rfl) (by kernel_rfl) (by kernel_rfl) (fun _ _ _ h => h) HS (by rfl) ?_
    simp only [Act.put, List.setIfInBounds_toArray, List.set_cons_zero, List.set_cons_succ]
    refine takeHs 10 19 rfl rfl (by kernel_rfl) (by kernel_rfl) (by kernel_rfl) (fun _ _ _ h => h) HS (by rfl) ?_
    simp only [Act.put, List.setIfInBounds_toArray, List.set_cons_zero, List.set_cons_succ]
    refine takeHs 11 20 rfl rfl (by kernel_rfl) (by kernel_rfl) (by kernel_rfl) (fun _ _ _ h => h) HS (by rfl) ?_
    simp only [Act.put, List.setIfInBounds_toArray, List.set_cons_zero, List.set_cons_succ]
    refine takeHs 12 21 rfl rfl (by kernel_rfl) (by kernel_rfl) (by kernel_rfl) (fun _ _ _ h => h) HS (by rfl) ?_
    simp only [Act.put, List.setIfInBounds_toArray, List.set_cons_zero, List.set_cons_succ]
    refine takeH 13 22 (v := ?_) rfl rfl (by kernel_rfl) (by kernel_rfl) (by kernel_rfl) (fun _ _ _ h => h) HS (by rfl) ?_ ?_
    rotate_left
    · intro w' hSw
      obtain ⟨hSw0, hSw1⟩ := hSw
      go_simp
      try (with_reducible rfl)
    simp only [Act.put, List.setIfInBounds_toArray, List.set_cons_zero, List.set_cons_succ]
    refine takeH 14 8 (v := ?_) rfl rfl (by kernel_rfl) (by kernel_rfl) (by kernel_rfl) (fun _ _ _ h => h) HS (by rfl) ?_ ?_
    rotate_left
    · intro w' hSw
      obtain ⟨hSw0, hSw1⟩ := hSw
      go_simp
      try (with_reducible rfl)
    simp only [Act.put, List.setIfInBounds_toArray, List.set_cons_zero, List.set_cons_succ]
    refine wpAnyH_done (by kernel_rfl) ?_ _
    go_wp2
    go_ret
    rw [HC.out]
    exact ⟨rfl, B1.out⟩
theorem Ar.check_two (a : Ar) (n : Nat) : a.check n = 0 ∨ a.check n = 2 := by unfold Ar.check; split <;> simp
set_option maxHeartbeats 1000000 in
set_option maxRecDepth 100000 in
theorem bfault_nil (a : Ar) (n : Int) (w : World) : Calls Tryz.prog 118 #[.pointer none, a.v, .int .i64 n] w fun e w' => e = .returned (.int .i64 1) ∧ Below w.heap.size w w' := by
  have K1 := Lib.hid (fun W => check_nil a W)
  obtain ⟨p, q⟩ := a
  have K1 : Hid (∀ W, Calls Tryz.prog 157 #[.pointer none, .agg #[.int .i64 p, .int .i64 q]] W fun e w' => e = .returned (.int .i64 1) ∧ Below W.heap.size W w') := K1
  show Calls Tryz.prog 118 #[.pointer none, .agg #[.int .i64 p, .int .i64 q], .int .i64 n] w _
  have hz := heap_size_alloc w (.cells #[.int .i64 p, .int .i64 q] 105)
  go_enter Tryz.func118, Tryz.ntmps118
  go_wp2_with fail
  refine (K1.out _).mono ?_
  rintro e w1 ⟨rfl, b1⟩
  have B1 := Lib.hid (((Below.refl _ w).alloc (Nat.le_refl _) _).trans (b1.mono (by omega)))
  clear b1
  go_wp2
  go_ret
  exact ⟨rfl, B1.out⟩
set_option maxHeartbeats 1000000 in
set_option maxRecDepth 100000 in
theorem bfault_any {base : Nat} {F : Ft} {w : World} {s : Dk} (h : DkAt base F w s) (a : Ar) (n : Int) : Calls Tryz.prog 118 #[.pointer (some ⟨F.b, 0, none⟩), a.v, .int .i64 n] w fun e w' => e = .returned (.int .i64 (a.fault s.rows.length n : Int)) ∧ Below w.heap.size w w' := by
  have K1 := Lib.hid (fun W (hb : Below w.heap.size w W) => check_any (h.below hb) a)
  have K2 := Lib.hid (fun W => has_any a n W)
  have HC := Lib.hid (a.check_two s.rows.length)
  have HF := Lib.hid (show a.fault s.rows.length n = if a.check s.rows.length = 0 then if a.has n = true then 0 else 9 else 2 from rfl)
  obtain ⟨p, q⟩ := a
  clear h
  generalize Ar.fault ⟨p, q⟩ s.rows.length n = ff at *
  generalize Ar.check ⟨p, q⟩ s.rows.length = cc at *
  generalize Ar.has ⟨p, q⟩ n = m2 at *
  have K1 : Hid (∀ W, Below w.heap.size w W → Calls Tryz.prog 157 #[.pointer (some ⟨F.b, 0, none⟩), .agg #[.int .i64 p, .int .i64 q]] W fun e w' => e = .returned (.int .i64 (cc : Int)) ∧ Below W.heap.size W w') := K1
  have K2 : Hid (∀ W, Calls Tryz.prog 158 #[.agg #[.int .i64 p, .int .i64 q], .int .i64 n] W fun e w' => e = .returned (.bool m2) ∧ Below W.heap.size W w') := K2
  show Calls Tryz.prog 118 #[.pointer (some ⟨F.b, 0, none⟩), .agg #[.int .i64 p, .int .i64 q], .int .i64 n] w _
  have hz := heap_size_alloc w (.cells #[.int .i64 p, .int .i64 q] 105)
  have B0 := Lib.hid ((Below.refl _ w).alloc (Nat.le_refl _) (.cells #[.int .i64 p, .int .i64 q] 105))
  rcases HC.out with rfl | rfl
  · go_enter Tryz.func118, Tryz.ntmps118
    go_wp2_with fail
    refine (K1.out _ B0.out).mono ?_
    rintro e w1 ⟨rfl, b1⟩
    have B1 := Lib.hid (B0.out.trans (b1.mono (by omega)))
    have hh : w1.heap[w.heap.size]? = some (.cells #[.int .i64 p, .int .i64 q] 105 (0, 0)) := (b1.block _ (by omega)).trans (heap_alloc_last w _)
    have x0 : w1.cell? ⟨w.heap.size, 0, none⟩ = some (.int .i64 p) := (cell_of_row w1 _ 0 _ _ _ hh).trans rfl
    have x1 : w1.cell? ⟨w.heap.size, 1, none⟩ = some (.int .i64 q) := (cell_of_row w1 _ 1 _ _ _ hh).trans rfl
    clear b1 hh
    cases m2 with
    | true =>
      go_wp2_with fail
      refine (K2.out _).mono ?_
      rintro e w2 ⟨rfl, b2⟩
      have B2 := Lib.hid (B1.out.trans (b2.mono B1.out.size))
      clear b2
      go_wp2
      go_ret
      exact ⟨by rw [HF.out]; rfl, B2.out⟩
    | false =>
      go_wp2_with fail
      refine (K2.out _).mono ?_
      rintro e w2 ⟨rfl, b2⟩
      have B2 := Lib.hid (B1.out.trans (b2.mono B1.out.size))
      clear b2
      go_wp2
      go_ret
      exact ⟨by rw [HF.out]; rfl, B2.out⟩
  · go_enter Tryz.func118, Tryz.ntmps118
    go_wp2_with fail
    refine (K1.out _ B0.out).mono ?_
    rintro e w1 ⟨rfl, b1⟩
    have B1 := Lib.hid (B0.out.trans (b1.mono (by omega)))
    clear b1
    go_wp2
    go_ret
    exact ⟨by rw [HF.out]; rfl, B1.out⟩
end Go.Proofs.YtegjeijiekggdaaGreatDoor
end
