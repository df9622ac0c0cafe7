/- Words for the package sector: what a disk in memory is, and what a call leaves alone. -/
import Derived.Test.YtochifbbefbehaaOwn
import Derived.Deep.MidRow
import Derived.Deep.WholeRow
import Derived.Maps.OwnSet
import Derived.Maps.RangeWalk
import Derived.Maps.Ext
import Derived.Lib.SlKeysI
namespace Go.Proofs.Ytochifbbefbehaa
open Go.RowKit
set_option linter.unusedVariables false

/-- The value of a sector's bytes. -/
def secV (l : List UInt8) : Value := .agg (cellsB l).toArray
def byteOk : Value → Bool
  | .int .u8 n => decide (0 ≤ n ∧ n < 256)
  | _ => false
def byteIn : Value → UInt8
  | .int _ n => UInt8.ofNat n.toNat
  | _ => 0
/-- How the value of a sector reads. -/
def secR : Value → Option (DataW Unit × List MemPlace)
  | .agg cs => if cs.size = 256 ∧ cs.toList.all byteOk = true then some (.lit (.string (cs.toList.map byteIn)), []) else none
  | _ => none
theorem cellsB_ok (l : List UInt8) : (cellsB l).all byteOk = true := by
  induction l with
  | nil => rfl
  | cons x l ih =>
    have hx := x.toNat_lt
    simp only [cellsB, List.map_cons, List.all_cons, cellB, byteOk, Bool.and_eq_true, decide_eq_true_eq]
    exact ⟨⟨by omega, by omega⟩, ih⟩
theorem byteIn_cellsB (l : List UInt8) : (cellsB l).map byteIn = l := by
  induction l with
  | nil => rfl
  | cons x l ih =>
    have h : (cellsB (x :: l)).map byteIn = x :: (cellsB l).map byteIn := by simp [cellsB, cellB, byteIn]
    rw [h, ih]
theorem cellsB_byteIn : ∀ (vs : List Value), vs.all byteOk = true → cellsB (vs.map byteIn) = vs
  | [], _ => rfl
  | v :: vs, h => by
    simp only [List.all_cons, Bool.and_eq_true] at h
    have ih := cellsB_byteIn vs h.2
    have hv : cellB (byteIn v) = v := by
      have h1 := h.1
      unfold byteOk at h1
      split at h1
      · rename_i n
        simp only [decide_eq_true_eq] at h1
        simp only [byteIn, cellB]
        rw [ofNat_toNat]
        congr 1
        omega
      · cases h1
    show cellB (byteIn v) :: cellsB (vs.map byteIn) = v :: vs
    rw [hv, ih]
theorem length_cellsB (l : List UInt8) : (cellsB l).length = l.length := by simp [cellsB]
theorem secR_mk {l : List UInt8} (h : l.length = 256) : secR (secV l) = some (.lit (.string l), []) := by
  unfold secR secV
  simp only [List.size_toArray, length_cellsB, h, cellsB_ok, byteIn_cellsB, and_self, if_true]
theorem secR_inv {v : Value} {z : DataW Unit × List MemPlace} (h : secR v = some z) : ∃ l : List UInt8, l.length = 256 ∧ v = secV l ∧ z = (.lit (.string l), []) := by
  unfold secR at h
  split at h
  · rename_i cs
    split at h
    · rename_i hc
      refine ⟨cs.toList.map byteIn, by simp [hc.1], ?_, by simpa using h.symm⟩
      unfold secV
      rw [cellsB_byteIn _ hc.2]
    · cases h
  · cases h
theorem oneCells_B (l : List UInt8) : ∀ v ∈ cellsB l, v.oneCell' = true := by
  intro u hu
  simp only [cellsB, List.mem_map] at hu
  obtain ⟨x, _, rfl⟩ := hu
  rfl
theorem cellsB_inj {a b : List UInt8} (h : cellsB a = cellsB b) : a = b := by rw [← byteIn_cellsB a, h, byteIn_cellsB]

/-- Of what lay in w only blocks of X may read otherwise in w'. -/
structure Frm (X : Nat → Prop) (w w' : World) : Prop where
  os : w'.os = w.os
  tape : w'.tape = w.tape
  output : w'.output = w.output
  size : w.heap.size ≤ w'.heap.size
  block : ∀ k, k < w.heap.size → ¬ X k → w'.heap[k]? = w.heap[k]?
theorem Frm.refl (X : Nat → Prop) (w : World) : Frm X w w := ⟨rfl, rfl, rfl, Nat.le_refl _, fun _ _ _ => rfl⟩
theorem Frm.step {X Y : Nat → Prop} {a b c : World} (h : Frm X a b) (k : Frm Y b c) (hY : ∀ i, Y i → i < a.heap.size → X i) : Frm X a c :=
  ⟨k.os.trans h.os, k.tape.trans h.tape, k.output.trans h.output, Nat.le_trans h.size k.size,
    fun i hi hx => (k.block i (Nat.lt_of_lt_of_le hi h.size) (fun hy => hx (hY i hy hi))).trans (h.block i hi hx)⟩
theorem Frm.trans {X : Nat → Prop} {a b c : World} (h : Frm X a b) (k : Frm X b c) : Frm X a c := h.step k fun _ hi _ => hi
theorem Frm.mono {X Y : Nat → Prop} {a b : World} (h : Frm X a b) (hY : ∀ i, X i → Y i) : Frm Y a b := ⟨h.os, h.tape, h.output, h.size, fun i hi hy => h.block i hi (fun hx => hy (hY i hx))⟩
theorem Frm.of_below {X : Nat → Prop} {a b : World} (h : Below a.heap.size a b) : Frm X a b := ⟨h.os, h.tape, h.output, h.size, fun i hi _ => h.block i hi⟩
theorem Frm.alloc (X : Nat → Prop) (w : World) (o : Obj) : Frm X w (w.alloc o) := Frm.of_below ((Below.refl _ w).alloc (Nat.le_refl _) o)
theorem Frm.drew (X : Nat → Prop) (w : World) : Frm X w w.drew := ⟨rfl, rfl, rfl, Nat.le_refl _, fun _ _ _ => rfl⟩
theorem Frm.drewN (X : Nat → Prop) (w : World) (n : Nat) : Frm X w (w.drewN n) := ⟨rfl, rfl, rfl, Nat.le_refl _, fun _ _ _ => rfl⟩
theorem Frm.setCell {X : Nat → Prop} (w : World) (p : Addr) (v : Value) (hp : X p.block) : Frm X w (w.setCell p v) :=
  ⟨rfl, rfl, rfl, by simp [World.setCell], fun i hi hx => Below.heap_setCell _ _ _ _ (fun e => hx (by rw [e]; exact hp))⟩
theorem Frm.grown {X : Nat → Prop} {w w' : World} {row : Option Nat} (h : w.grownBy w' row) (hX : ∀ k, row = some k → X k) : Frm X w w' :=
  ⟨h.os, h.tape, h.output, h.size, fun i hi hx => h.block i hi (fun e => hx (hX i e.symm))⟩
theorem Frm.below {X : Nat → Prop} {w w' : World} {B : Nat} (h : Frm X w w') (hX : ∀ k, X k → B ≤ k) (hB : B ≤ w.heap.size) : Below B w w' :=
  ⟨h.os, h.tape, h.output, h.size, fun k hk => h.block k (Nat.lt_of_lt_of_le hk hB) (fun hx => by have := hX k hx; omega)⟩
theorem Frm.cell {X : Nat → Prop} {w w' : World} (h : Frm X w w') {p : Addr} (hp : p.block < w.heap.size) (hx : ¬ X p.block) : w'.cell? p = w.cell? p := World.cell?_of_block (w := w) (h.block p.block hp hx)
theorem Frm.frozen {X : Nat → Prop} {w w' : World} (h : Frm X w w') {p : Addr} (hp : p.block < w.heap.size) (hx : ¬ X p.block) : w'.frozen? p = w.frozen? p := World.frozen?_of_block (w := w) (h.block p.block hp hx)
theorem Frm.rb {X : Nat → Prop} {w w' : World} (h : Frm X w w') {ad : Addr} {l : List UInt8} (hr : RB w (some ad) l) (hx : ¬ X ad.block) : RB w' (some ad) l := by
  rcases hr with rfl | ⟨ad', e, hc⟩
  · exact .inl rfl
  · injection e with e
    subst e
    refine .inr ⟨_, rfl, fun j x hj => ?_⟩
    have h1 := hc j x hj
    rw [h.cell (lt_of_cell h1) (by rw [block_of_add]; exact hx)]
    exact h1

/-- What a disk is: its safe rows, what waits, the calls, the power, the failure to come. -/
structure Dk where
  rows : List (List UInt8)
  wt : Nat → Option (List UInt8)
  calls : Nat
  off : Bool
  fset : Bool
  left : Nat
  done : Bool
structure Dk.Ok (s : Dk) : Prop where
  many : s.rows.length ≤ 4096
  each : ∀ r ∈ s.rows, r.length = 256
  wlt : ∀ k l, s.wt k = some l → k < s.rows.length
  wlen : ∀ k l, s.wt k = some l → l.length = 256
  left : s.left ≤ 9223372036854775807
/-- Where a disk lies: its block, the map's, the rows' address and room. -/
structure Ft where
  b : Nat
  m : Nat
  A : Option Addr
  cap : Nat
def Ft.has (F : Ft) (k : Nat) : Prop := k = F.b ∨ k = F.m ∨ ∃ ad, F.A = some ad ∧ ad.block = k
def MapIs (w : World) (m : Nat) (f : Nat → Option (List UInt8)) : Prop :=
  ∃ n D, w.ownsMap (H := Unit) Try.prog 3 secR m n D ∧ (∀ k : Nat, Maps.has D (.int .i64 (k : Int)) = (f k).isSome) ∧ (∀ k : Int, k < 0 → Maps.has D (.int .i64 k) = false) ∧
    ∀ k l, f k = some l → ∀ zd, D.atKey (.int .i64 (k : Int)) zd = .lit (.string l)
def dkCells (F : Ft) (s : Dk) : Array Value := #[.slice F.A s.rows.length F.cap, .map (some F.m), .int .i64 (s.calls : Int), .bool s.off, .bool s.fset, .int .i64 (s.left : Int), .bool s.done]
structure DkAt (base : Nat) (F : Ft) (w : World) (s : Dk) : Prop where
  ok : s.Ok
  bb : base ≤ F.b
  bm : base ≤ F.m
  cells : w.heap[F.b]? = some (.cells (dkCells F s) 54 (0, 0))
  row : w.ownsRow base 67 256 (.slice F.A s.rows.length F.cap) s.rows.length (cellsB s.rows.flatten)
  map : MapIs w F.m s.wt

theorem MapIs.lt {w : World} {m : Nat} {f : Nat → Option (List UInt8)} (h : MapIs w m f) : m < w.heap.size := by
  obtain ⟨n, D, ho, _⟩ := h
  exact ho.lt
theorem MapIs.kept {w w' : World} {m : Nat} {f : Nat → Option (List UInt8)} (h : MapIs w m f) (he : w'.heap[m]? = w.heap[m]?) : MapIs w' m f := by
  obtain ⟨n, D, ⟨es, clock, hb, r⟩, rest⟩ := h
  exact ⟨n, D, ⟨es, clock, he.trans hb, r⟩, rest⟩
theorem MapIs.made (w : World) : MapIs (w.alloc (.map #[] 0)) w.heap.size (fun _ => none) :=
  ⟨0, .map [], World.ownsMap_made w _ _ _, fun k => rfl, fun k _ => rfl, fun k l h => by cases h⟩

theorem DkAt.blt {base : Nat} {F : Ft} {w : World} {s : Dk} (h : DkAt base F w s) : F.b < w.heap.size := by
  rcases Nat.lt_or_ge F.b w.heap.size with hlt | hge
  · exact hlt
  · have := h.cells; rw [Array.getElem?_eq_none hge] at this; cases this
theorem DkAt.rowat {base : Nat} {F : Ft} {w : World} {s : Dk} (h : DkAt base F w s) : (F.A = none ∧ s.rows = []) ∨ ∃ g cur, F.A = some ⟨g, 0, none⟩ ∧ base ≤ g ∧ w.heap[g]? = some (.cells cur 67 (0, 0)) ∧ g < w.heap.size ∧
    s.rows.length ≤ F.cap ∧ cur.size = F.cap * 256 ∧ cur.toList.take (s.rows.length * 256) = cellsB s.rows.flatten := by
  rcases h.row.2 with ⟨e, h0⟩ | ⟨g, cap, cur, e, hb, hh, hc, hm, hsz, ht⟩
  · injection e with e1 e2 e3
    exact .inl ⟨e1, List.eq_nil_of_length_eq_zero h0⟩
  · injection e with e1 e2 e3
    subst e3
    refine .inr ⟨g, cur, e1, hb, hh, ?_, hc, hsz, ht⟩
    exact (Array.getElem?_eq_some_iff.1 hh).1
theorem DkAt.based {base : Nat} {F : Ft} {w : World} {s : Dk} (h : DkAt base F w s) : ∀ k, F.has k → base ≤ k := by
  intro k hk
  rcases hk with rfl | rfl | ⟨ad, e, rfl⟩
  · exact h.bb
  · exact h.bm
  · rcases h.rowat with ⟨e', _⟩ | ⟨g, cur, e', hb, _⟩
    · rw [e'] at e; cases e
    · rw [e'] at e; injection e with e; subst e; exact hb
theorem DkAt.inside {base : Nat} {F : Ft} {w : World} {s : Dk} (h : DkAt base F w s) : ∀ k, F.has k → k < w.heap.size := by
  intro k hk
  rcases hk with rfl | rfl | ⟨ad, e, rfl⟩
  · exact h.blt
  · exact h.map.lt
  · rcases h.rowat with ⟨e', _⟩ | ⟨g, cur, e', hb, _, hlt, _⟩
    · rw [e'] at e; cases e
    · rw [e'] at e; injection e with e; subst e; exact hlt
theorem ownsRow_of_block {w w' : World} {base : Nat} {e : TypeId} {size : Nat} {A : Option Addr} {c n : Nat} {xs : List Value} (h : w.ownsRow base e size (.slice A n c) n xs) (hk : ∀ g, A = some ⟨g, 0, none⟩ → w'.heap[g]? = w.heap[g]?) : w'.ownsRow base e size (.slice A n c) n xs := by
  refine ⟨h.1, ?_⟩
  rcases h.2 with h | ⟨g, cap, cur, e, hb, hh, r⟩
  · exact .inl h
  · refine .inr ⟨g, cap, cur, e, hb, ?_, r⟩
    injection e with e1
    rw [hk g e1]
    exact hh
theorem DkAt.kept {base : Nat} {F : Ft} {w w' : World} {s : Dk} (h : DkAt base F w s) (hk : ∀ k, F.has k → w'.heap[k]? = w.heap[k]?) : DkAt base F w' s :=
  ⟨h.ok, h.bb, h.bm, (hk _ (.inl rfl)).trans h.cells, ownsRow_of_block h.row fun g e => hk g (.inr (.inr ⟨_, e, rfl⟩)), h.map.kept (hk _ (.inr (.inl rfl)))⟩
theorem DkAt.frm {base : Nat} {F : Ft} {w w' : World} {s : Dk} {X : Nat → Prop} (h : DkAt base F w s) (hf : Frm X w w') (hx : ∀ k, F.has k → ¬ X k) : DkAt base F w' s :=
  h.kept fun k hk => hf.block k (h.inside k hk) (hx k hk)
theorem DkAt.alloc {base : Nat} {F : Ft} {w : World} {s : Dk} (h : DkAt base F w s) (o : Obj) : DkAt base F (w.alloc o) s := h.frm (X := fun _ => False) (Frm.alloc _ w o) fun _ _ => id
theorem DkAt.drew {base : Nat} {F : Ft} {w : World} {s : Dk} (h : DkAt base F w s) : DkAt base F w.drew s := h.frm (X := fun _ => False) (Frm.drew _ w) fun _ _ => id
theorem DkAt.drewN {base : Nat} {F : Ft} {w : World} {s : Dk} (h : DkAt base F w s) (n : Nat) : DkAt base F (w.drewN n) s := h.frm (X := fun _ => False) (Frm.drewN _ w n) fun _ _ => id
theorem DkAt.below {base : Nat} {F : Ft} {w w' : World} {s : Dk} (h : DkAt base F w s) (hb : Below w.heap.size w w') : DkAt base F w' s := h.frm (X := fun _ => False) (Frm.of_below hb) fun _ _ => id

theorem DkAt.cellAt {base : Nat} {F : Ft} {w : World} {s : Dk} (h : DkAt base F w s) (i : Nat) : w.cell? ⟨F.b, i, none⟩ = (dkCells F s)[i]? := by
  simp [World.cell?, h.cells]
theorem DkAt.frozenAt {base : Nat} {F : Ft} {w : World} {s : Dk} (h : DkAt base F w s) (i : Nat) : w.frozen? ⟨F.b, i, none⟩ = false := by
  simp [World.frozen?, h.cells]
theorem DkAt.c0 {base : Nat} {F : Ft} {w : World} {s : Dk} (h : DkAt base F w s) : w.cell? ⟨F.b, 0, none⟩ = some (.slice F.A s.rows.length F.cap) := (h.cellAt 0).trans rfl
theorem DkAt.c1 {base : Nat} {F : Ft} {w : World} {s : Dk} (h : DkAt base F w s) : w.cell? ⟨F.b, 1, none⟩ = some (.map (some F.m)) := (h.cellAt 1).trans rfl
theorem DkAt.c2 {base : Nat} {F : Ft} {w : World} {s : Dk} (h : DkAt base F w s) : w.cell? ⟨F.b, 2, none⟩ = some (.int .i64 (s.calls : Int)) := (h.cellAt 2).trans rfl
theorem DkAt.c3 {base : Nat} {F : Ft} {w : World} {s : Dk} (h : DkAt base F w s) : w.cell? ⟨F.b, 3, none⟩ = some (.bool s.off) := (h.cellAt 3).trans rfl
theorem DkAt.c4 {base : Nat} {F : Ft} {w : World} {s : Dk} (h : DkAt base F w s) : w.cell? ⟨F.b, 4, none⟩ = some (.bool s.fset) := (h.cellAt 4).trans rfl
theorem DkAt.c5 {base : Nat} {F : Ft} {w : World} {s : Dk} (h : DkAt base F w s) : w.cell? ⟨F.b, 5, none⟩ = some (.int .i64 (s.left : Int)) := (h.cellAt 5).trans rfl
theorem DkAt.c6 {base : Nat} {F : Ft} {w : World} {s : Dk} (h : DkAt base F w s) : w.cell? ⟨F.b, 6, none⟩ = some (.bool s.done) := (h.cellAt 6).trans rfl
theorem heap_setCell_block {w : World} {b i : Nat} {cs : Array Value} {t : TypeId} (v : Value) (h : w.heap[b]? = some (.cells cs t (0, 0))) : (w.setCell ⟨b, i, none⟩ v).heap[b]? = some (.cells (cs.setIfInBounds i v) t (0, 0)) := by
  simp [World.setCell, Array.getElem?_modify, h]
theorem DkAt.other {base : Nat} {F : Ft} {w : World} {s : Dk} (h : DkAt base F w s) (i : Nat) (v : Value) (k : Nat) (hk : k ≠ F.b) : (w.setCell ⟨F.b, i, none⟩ v).heap[k]? = w.heap[k]? := Below.heap_setCell _ _ _ _ hk
theorem DkAt.bm_ne {base : Nat} {F : Ft} {w : World} {s : Dk} (h : DkAt base F w s) : F.m ≠ F.b := by
  intro e
  obtain ⟨n, D, ⟨es, clock, hb, _⟩, _⟩ := h.map
  rw [e, h.cells] at hb
  cases hb
theorem DkAt.bg_ne {base : Nat} {F : Ft} {w : World} {s : Dk} (h : DkAt base F w s) {g : Nat} (hg : F.A = some ⟨g, 0, none⟩) : g ≠ F.b := by
  intro e
  rcases h.rowat with ⟨e', _⟩ | ⟨g', cur, e', hb, hh, _⟩
  · rw [e'] at hg; cases hg
  · rw [e'] at hg
    injection hg with hg
    injection hg with hg
    subst hg
    rw [e, h.cells] at hh
    injection hh with hh
    injection hh with h1 h2
    exact absurd h2 (by decide)
theorem DkAt.mg_ne {base : Nat} {F : Ft} {w : World} {s : Dk} (h : DkAt base F w s) {g : Nat} (hg : F.A = some ⟨g, 0, none⟩) : g ≠ F.m := by
  intro e
  obtain ⟨n, D, ⟨es, clock, hb, _⟩, _⟩ := h.map
  rcases h.rowat with ⟨e', _⟩ | ⟨g', cur, e', hb', hh, _⟩
  · rw [e'] at hg; cases hg
  · rw [e'] at hg
    injection hg with hg
    injection hg with hg
    subst hg
    rw [e, hb] at hh
    cases hh
/-- A field that is one cell is written. -/
theorem DkAt.field {base : Nat} {F : Ft} {w : World} {s s' : Dk} (h : DkAt base F w s) (i : Nat) (v : Value) (hr : s'.rows = s.rows) (hw : s'.wt = s.wt) (hc : (dkCells F s).setIfInBounds i v = dkCells F s') (hl : s'.left ≤ 9223372036854775807) : DkAt base F (w.setCell ⟨F.b, i, none⟩ v) s' := by
  refine ⟨⟨by rw [hr]; exact h.ok.many, by rw [hr]; exact h.ok.each, by rw [hr, hw]; exact h.ok.wlt, by rw [hw]; exact h.ok.wlen, hl⟩, h.bb, h.bm, ?_, ?_, ?_⟩
  · rw [heap_setCell_block v h.cells, hc]
  · rw [hr]; exact ownsRow_of_block h.row fun g e => h.other i v g (h.bg_ne e)
  · rw [hw]; exact h.map.kept (h.other i v F.m h.bm_ne)
end Go.Proofs.Ytochifbbefbehaa
