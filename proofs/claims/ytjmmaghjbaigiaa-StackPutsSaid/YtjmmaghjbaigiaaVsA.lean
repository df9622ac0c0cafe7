/- Versions in rows; which are pending. -/
import Derived.Test.YtjmmaghjbaigiaaVsP
import Derived.Test.YtjmmaghjbaigiaaGnS
import Derived.Test.YtjmmaghjbaigiaaGnB
namespace Go.Proofs.Ytjmmaghjbaigiaa
open Go.RowKit
set_option linter.unusedVariables false
set_option linter.unusedSimpArgs false
def Vn.cs (v : Vn) : List Value := [.int .i64 v.txn, .int .i64 v.ts, .bool v.gone, .string v.val]
def Vn.v (v : Vn) : Value := .agg #[.int .i64 v.txn, .int .i64 v.ts, .bool v.gone, .string v.val]
def KV : CR Vn := CR.flat 4 (by omega) Vn.cs (fun _ => rfl) (fun x u hu => by
  simp only [Vn.cs, List.mem_cons, List.not_mem_nil, or_false] at hu
  rcases hu with rfl | rfl | rfl | rfl <;> rfl)
theorem vn_flat : KV.Flat := fun _ _ _ _ h => h
theorem infoV : (Try.prog.info? 66).map (fun i => (i.zero, i.size, i.bytes)) = some (some (.agg #[.int .i64 0, .int .i64 0, .bool false, .string ⟨#[]⟩]), 4, 40) := by kernel_rfl
theorem tgV : TG KV Try.prog 22 66 := ⟨Try.underlying22, _, 40, infoV, by omega, rfl⟩
/-- A version lies at a place. -/
structure VnAt (w : World) (p : Addr) (r : Vn) : Prop where
  c0 : w.cell? (p.add 0) = some (.int .i64 r.txn)
  c1 : w.cell? (p.add 1) = some (.int .i64 r.ts)
  c2 : w.cell? (p.add 2) = some (.bool r.gone)
  c3 : w.cell? (p.add 3) = some (.string r.val)
theorem vn_pos (p : Addr) (i : Nat) (h : i ≠ 0) : p.add i = ⟨p.block, p.off + i, none⟩ := by simp [Addr.add, h]
theorem VnAt.d0 {w : World} {p : Addr} {r : Vn} (h : VnAt w p r) : w.cell? p = some (.int .i64 r.txn) := by have := h.c0; rwa [Addr.add_nought] at this
theorem VnAt.d1 {w : World} {p : Addr} {r : Vn} (h : VnAt w p r) : w.cell? ⟨p.block, p.off + 1, none⟩ = some (.int .i64 r.ts) := by rw [← vn_pos p 1 (by omega)]; exact h.c1
theorem VnAt.d2 {w : World} {p : Addr} {r : Vn} (h : VnAt w p r) : w.cell? ⟨p.block, p.off + 2, none⟩ = some (.bool r.gone) := by rw [← vn_pos p 2 (by omega)]; exact h.c2
theorem VnAt.d3 {w : World} {p : Addr} {r : Vn} (h : VnAt w p r) : w.cell? ⟨p.block, p.off + 3, none⟩ = some (.string r.val) := by rw [← vn_pos p 3 (by omega)]; exact h.c3
theorem VnAt.lt {w : World} {p : Addr} {r : Vn} (h : VnAt w p r) : p.block < w.heap.size := lt_of_cell h.d0
theorem RG.vn {w : World} {A : Option Addr} {l : List Vn} (h : RG KV w A l) {k : Nat} {v : Vn} (hk : l[k]? = some v) : ∃ ad, A = some ad ∧ VnAt w (ad.add (k * 4)) v := by
  obtain ⟨ad, cs, e, h1, h2⟩ := h k v hk
  have h2' : cs = v.cs := h2
  subst h2'
  exact ⟨ad, e, h1 0 _ rfl, h1 1 _ rfl, h1 2 _ rfl, h1 3 _ rfl⟩
theorem VnAt.keep {w w' : World} {p : Addr} {r : Vn} (h : VnAt w p r) (hk : ∀ q : Addr, q.block < w.heap.size → w'.cell? q = w.cell? q) : VnAt w' p r :=
  ⟨(hk _ (lt_of_cell h.c0)).trans h.c0, (hk _ (lt_of_cell h.c1)).trans h.c1, (hk _ (lt_of_cell h.c2)).trans h.c2, (hk _ (lt_of_cell h.c3)).trans h.c3⟩
theorem VnAt.below {w w' : World} {p : Addr} {r : Vn} (h : VnAt w p r) (hb : Below w.heap.size w w') : VnAt w' p r := h.keep fun q hq => hb.cell hq
/-- One version in a block of its own, as a slice of one. -/
theorem rgV_one {w : World} {q : Nat} {s : Vn} (h : VnAt w ⟨q, 0, none⟩ s) : RG KV w (some ⟨q, 0, none⟩) [s] := fun j x hj => by
  cases j with
  | zero =>
    simp at hj
    subst hj
    refine ⟨_, s.cs, rfl, fun i u hu => ?_, rfl⟩
    rw [Nat.zero_mul, Addr.add_nought]
    match i, hu with
    | 0, hu => simp [Vn.cs] at hu; subst hu; exact h.c0
    | 1, hu => simp [Vn.cs] at hu; subst hu; exact h.c1
    | 2, hu => simp [Vn.cs] at hu; subst hu; exact h.c2
    | 3, hu => simp [Vn.cs] at hu; subst hu; exact h.c3
    | i + 4, hu => simp [Vn.cs] at hu
  | succ j => simp at hj
theorem rgV_lit (W : World) (x : Vn) (t : TypeId) : RG KV (W.alloc (.cells #[.int .i64 x.txn, .int .i64 x.ts, .bool x.gone, .string x.val] t)) (some ⟨W.heap.size, 0, none⟩) [x] := by
  refine rgV_one ⟨?_, ?_, ?_, ?_⟩ <;> simp [Addr.add]
theorem below1 (w : World) (o : Obj) : Below w.heap.size w (w.alloc o) := (Below.refl _ w).alloc (Nat.le_refl _) o
theorem below2 (w : World) (a b : Obj) : Below w.heap.size w ((w.alloc a).alloc b) := ((Below.refl w.heap.size w).alloc (Nat.le_refl _) a).alloc (by simp) b
theorem below3 (w : World) (a b c : Obj) : Below w.heap.size w (((w.alloc a).alloc b).alloc c) := (((Below.refl w.heap.size w).alloc (Nat.le_refl _) a).alloc (by simp) b).alloc (by simp; omega) c
set_option maxHeartbeats 1000000 in
theorem vsPending_any (v : Vn) (w : World) : Calls Try.prog 102 #[v.v] w fun e w' => e = .returned (.bool (decide (v.ts = 0))) ∧ Below w.heap.size w w' := by
  unfold Vn.v
  have hb := Lib.hid (below1 w (.cells #[.int .i64 v.txn, .int .i64 v.ts, .bool v.gone, .string v.val] 66))
  by_cases h : v.ts = 0
  · have h1 : (v.ts == 0) = true := by simp [h]
    have HD := Lib.hid (decide_eq_true h)
    clear h
    go_enter Try.func102, Try.ntmps102
    go_wp2
    go_ret
    rw [HD.out]
    exact ⟨rfl, hb.out⟩
  · have h1 : (v.ts == 0) = false := by simp [h]
    have HD := Lib.hid (decide_eq_false h)
    clear h
    go_enter Try.func102, Try.ntmps102
    go_wp2
    go_ret
    rw [HD.out]
    exact ⟨rfl, hb.out⟩
theorem vsPendingOf_any (t : Int) (w : World) : Calls Try.prog 72 #[.int .i64 t] w fun e w' => ∃ q, e = .returned (.func (.func 101) #[] #[.pointer (some ⟨q, 0, none⟩)]) ∧ w'.cell? ⟨q, 0, none⟩ = some (.int .i64 t) ∧ w.heap.size ≤ q ∧ q < w'.heap.size ∧ Below w.heap.size w w' := by
  have hmf : ∀ (fn : Fn) (first cap : Array Value) (w : World), (Instr.makeFunc fn first cap).run Try.prog w = .ok (.func fn first cap) w := fun _ _ _ _ => rfl
  have hb := Lib.hid (below1 w (.cells #[.int .i64 t] 3))
  go_enter Try.func72, Try.ntmps72
  go_wp2
  go_ret
  exact ⟨w.heap.size, rfl, by simp, Nat.le_refl _, by simp, hb.out⟩
/-- A box that holds a version. -/
structure VnBox (W : World) (q : Nat) (v : Vn) : Prop where
  c0 : W.cell? ⟨q, 0, none⟩ = some (.int .i64 v.txn)
  c1 : W.cell? ⟨q, 1, none⟩ = some (.int .i64 v.ts)
  c2 : W.cell? ⟨q, 2, none⟩ = some (.bool v.gone)
  c3 : W.cell? ⟨q, 3, none⟩ = some (.string v.val)
  f0 : W.frozen? ⟨q, 0, none⟩ = false
  f1 : W.frozen? ⟨q, 1, none⟩ = false
  f2 : W.frozen? ⟨q, 2, none⟩ = false
  f3 : W.frozen? ⟨q, 3, none⟩ = false
theorem VnBox.new (w : World) (v : Vn) (t : TypeId) : VnBox (w.alloc (.cells #[.int .i64 v.txn, .int .i64 v.ts, .bool v.gone, .string v.val] t)) w.heap.size v := by constructor <;> simp
theorem VnBox.below {W W' : World} {q : Nat} {v : Vn} (h : VnBox W q v) {B : Nat} (hb : Below B W W') (hq : q < B) : VnBox W' q v :=
  ⟨(hb.cell (p := ⟨q, 0, none⟩) hq).trans h.c0, (hb.cell (p := ⟨q, 1, none⟩) hq).trans h.c1, (hb.cell (p := ⟨q, 2, none⟩) hq).trans h.c2, (hb.cell (p := ⟨q, 3, none⟩) hq).trans h.c3,
   (hb.frozen (p := ⟨q, 0, none⟩) hq).trans h.f0, (hb.frozen (p := ⟨q, 1, none⟩) hq).trans h.f1, (hb.frozen (p := ⟨q, 2, none⟩) hq).trans h.f2, (hb.frozen (p := ⟨q, 3, none⟩) hq).trans h.f3⟩
theorem VnBox.lt {W : World} {q : Nat} {v : Vn} (h : VnBox W q v) : q < W.heap.size := lt_of_cell h.c0
/-- A box that holds a stack. -/
structure StBox (W : World) (q : Nat) (key : ByteArray) (A : Option Addr) (n c : Nat) : Prop where
  c0 : W.cell? ⟨q, 0, none⟩ = some (.string key)
  c1 : W.cell? ⟨q, 1, none⟩ = some (.slice A n c)
  f0 : W.frozen? ⟨q, 0, none⟩ = false
  f1 : W.frozen? ⟨q, 1, none⟩ = false
theorem StBox.new (w : World) (key : ByteArray) (A : Option Addr) (n c : Nat) (t : TypeId) : StBox (w.alloc (.cells #[.string key, .slice A n c] t)) w.heap.size key A n c := by constructor <;> simp
theorem StBox.below {W W' : World} {q : Nat} {key : ByteArray} {A : Option Addr} {n c : Nat} (h : StBox W q key A n c) {B : Nat} (hb : Below B W W') (hq : q < B) : StBox W' q key A n c :=
  ⟨(hb.cell (p := ⟨q, 0, none⟩) hq).trans h.c0, (hb.cell (p := ⟨q, 1, none⟩) hq).trans h.c1, (hb.frozen (p := ⟨q, 0, none⟩) hq).trans h.f0, (hb.frozen (p := ⟨q, 1, none⟩) hq).trans h.f1⟩
theorem StBox.lt {W : World} {q : Nat} {key : ByteArray} {A : Option Addr} {n c : Nat} (h : StBox W q key A n c) : q < W.heap.size := lt_of_cell h.c0
theorem StBox.drew {W : World} {q : Nat} {key : ByteArray} {A : Option Addr} {n c : Nat} (h : StBox W q key A n c) : StBox W.drew q key A n c := ⟨h.c0, h.c1, h.f0, h.f1⟩
theorem VnBox.drew {W : World} {q : Nat} {v : Vn} (h : VnBox W q v) : VnBox W.drew q v := ⟨h.c0, h.c1, h.c2, h.c3, h.f0, h.f1, h.f2, h.f3⟩
theorem StBox.alloc {W : World} {q : Nat} {key : ByteArray} {A : Option Addr} {n c : Nat} (h : StBox W q key A n c) (o : Obj) : StBox (W.alloc o) q key A n c := h.below (below1 W o) h.lt
theorem VnBox.alloc {W : World} {q : Nat} {v : Vn} (h : VnBox W q v) (o : Obj) : VnBox (W.alloc o) q v := h.below (below1 W o) h.lt
/-- A version stored into a box. -/
def setVn (W : World) (q : Nat) (a b : Int) (g : Bool) (v : ByteArray) : World := (((W.setCell ⟨q, 0, none⟩ (.int .i64 a)).setCell ⟨q, 1, none⟩ (.int .i64 b)).setCell ⟨q, 2, none⟩ (.bool g)).setCell ⟨q, 3, none⟩ (.string v)
theorem VnBox.put {W : World} {q : Nat} {v : Vn} (h : VnBox W q v) (x : Vn) : VnBox (setVn W q x.txn x.ts x.gone x.val) q x := by
  unfold setVn
  constructor <;> simp [World.cell?_setCell_other, World.cell?_setCell_same', h.c0, h.c1, h.c2, h.c3, h.f0, h.f1, h.f2, h.f3]
theorem Below.setVn {B : Nat} {w W : World} (h : Below B w W) {q : Nat} (hq : B ≤ q) (a b : Int) (g : Bool) (v : ByteArray) : Below B w (Go.Proofs.Ytjmmaghjbaigiaa.setVn W q a b g v) :=
  (((h.setCell (p := ⟨q, 0, none⟩) hq _).setCell (p := ⟨q, 1, none⟩) hq _).setCell (p := ⟨q, 2, none⟩) hq _).setCell (p := ⟨q, 3, none⟩) hq _
/-- All that a call's later callees leave: what lay in W lies there still. -/
theorem StBox.on {W W' : World} {q : Nat} {key : ByteArray} {A : Option Addr} {n c : Nat} (h : StBox W q key A n c) (hb : Below W.heap.size W W') : StBox W' q key A n c := h.below hb h.lt
theorem VnBox.on {W W' : World} {q : Nat} {v : Vn} (h : VnBox W q v) (hb : Below W.heap.size W W') : VnBox W' q v := h.below hb h.lt
set_option maxHeartbeats 1000000 in
theorem vsPends_any (t : Int) (v : Vn) (p : Addr) (w : World) (hp : w.cell? p = some (.int .i64 t)) :
    Calls Try.prog 101 (#[v.v] ++ #[.pointer (some p)]) w fun e w' => e = .returned (.bool (vsPend t v)) ∧ Below w.heap.size w w' := by
  have K := Lib.hid (fun W => vsPending_any v W)
  have hpl := lt_of_cell hp
  have hb := Lib.hid (below1 w (.cells #[.int .i64 v.txn, .int .i64 v.ts, .bool v.gone, .string v.val] 66))
  have HP := Lib.hid (fun W (h : Below w.heap.size w W) => (h.cell (p := p) hpl).trans hp)
  have HX := Lib.hid (fun W (h : Below (w.heap.size + 1) (w.alloc (.cells #[.int .i64 v.txn, .int .i64 v.ts, .bool v.gone, .string v.val] 66)) W) => show W.cell? ⟨w.heap.size, 0, none⟩ = some (.int .i64 v.txn) from by
    rw [h.cell (by simp)]; simp)
  have HV := Lib.hid (show v.ts = v.ts from rfl)
  unfold Vn.v at K ⊢
  unfold vsPend
  generalize decide (v.ts = 0) = d1 at K ⊢
  have e2 : (v.txn == t) = decide (v.txn = t) := by rw [Bool.eq_iff_iff]; simp
  have HE := Lib.hid e2
  clear hp e2
  cases d1 with
  | true =>
    go_enter Try.func101, Try.ntmps101
    go_wp2_with (go_at_call 102; refine (K.out _).mono ?_; rintro e w1 ⟨rfl, b1⟩; have x0 := HX.out w1 (by simpa using b1); have bb := hb.out.trans (b1.mono (by simp)); have x1 := HP.out w1 bb; have BB := Lib.hid bb; clear b1 bb)
    go_ret
    exact ⟨by simp [HE.out], BB.out⟩
  | false =>
    go_enter Try.func101, Try.ntmps101
    go_wp2_with (go_at_call 102; refine (K.out _).mono ?_; rintro e w1 ⟨rfl, b1⟩; have bb := hb.out.trans (b1.mono (by simp)); have BB := Lib.hid bb; clear b1 bb)
    go_ret
    exact ⟨rfl, BB.out⟩
end Go.Proofs.Ytjmmaghjbaigiaa
