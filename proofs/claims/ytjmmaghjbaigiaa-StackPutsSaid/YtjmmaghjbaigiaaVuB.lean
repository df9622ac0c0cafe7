/- The document's Take: what it reads, plain, and its memory. -/
import Derived.Test.YtjmmaghjbaigiaaVsU
import Derived.Test.YtjmmaghjbaigiaaVsR
import Derived.Test.YtjmmaghjbaigiaaVsX
import Derived.Test.YtjmmaghjbaigiaaTxE
namespace Go.Proofs.Ytjmmaghjbaigiaa
open Go.RowKit
set_option linter.unusedVariables false
set_option linter.unusedSimpArgs false
def d2L (l : List UInt8) (f : Nat) : List UInt8 := rdL (rdL l f) (rdF l f)
def d2F (l : List UInt8) (f : Nat) : Nat := rdF (rdL l f) (rdF l f)
def dHit (l : List UInt8) (f : Nat) : Bool := d2F l f == 0 && !(d2L l f).isEmpty
def d3L (l : List UInt8) (f : Nat) : List UInt8 := if dHit l f then (d2L l f).tail else d2L l f
def dV2 (l : List UInt8) (f : Nat) : Vn := ⟨(rdV l f : Nat), (rdV (rdL l f) (rdF l f) : Nat), false, ⟨#[]⟩⟩
def dV3 (l : List UInt8) (f : Nat) : Vn := { dV2 l f with gone := if dHit l f then (d2L l f).headD 0 == 1 else false }
def dV4 (l : List UInt8) (f : Nat) : Vn := { dV3 l f with val := str (rtV (d3L l f) (d2F l f) 24) }
def d4L (l : List UInt8) (f : Nat) : List UInt8 := rtL (d3L l f) (d2F l f) 24
def d4F (l : List UInt8) (f : Nat) : Nat := rtF (d3L l f) (d2F l f) 24
theorem dStep_lay {v : Vn} (h : vsFault v = 0) (r : List UInt8) : dV4 (layV v ++ r) 0 = v ∧ d4L (layV v ++ r) 0 = r ∧ d4F (layV v ++ r) 0 = 0 := by
  obtain ⟨h1, h2, ⟨h3, h4⟩, h5, h6⟩ := vsFault_zero.1 h
  obtain ⟨txn, ts, gone, val⟩ := v
  dsimp only at *
  obtain ⟨n, rfl⟩ := Int.eq_ofNat_of_zero_le h3
  obtain ⟨m, rfl⟩ := Int.eq_ofNat_of_zero_le h5
  have e0 : layV ⟨(n : Int), (m : Int), gone, val⟩ ++ r = putSmall n ++ (putSmall m ++ (vsMark gone :: (putText val.data.toList ++ r))) := by simp [layV]
  rw [e0]
  obtain ⟨a1, a2, a3⟩ := rd_put n (putSmall m ++ (vsMark gone :: (putText val.data.toList ++ r))) (by omega)
  obtain ⟨b1, b2, b3⟩ := rd_put m (vsMark gone :: (putText val.data.toList ++ r)) (by omega)
  obtain ⟨c1, c2, c3⟩ := rt_put val.data.toList r 24 (show val.data.toList.length ≤ 24 from h1)
  have e1 : d2L (putSmall n ++ (putSmall m ++ (vsMark gone :: (putText val.data.toList ++ r)))) 0 = vsMark gone :: (putText val.data.toList ++ r) := by unfold d2L; rw [a2, a3, b2]
  have e2 : d2F (putSmall n ++ (putSmall m ++ (vsMark gone :: (putText val.data.toList ++ r)))) 0 = 0 := by unfold d2F; rw [a2, a3, b3]
  have e3 : dHit (putSmall n ++ (putSmall m ++ (vsMark gone :: (putText val.data.toList ++ r)))) 0 = true := by unfold dHit; rw [e1, e2]; rfl
  have e4 : d3L (putSmall n ++ (putSmall m ++ (vsMark gone :: (putText val.data.toList ++ r)))) 0 = putText val.data.toList ++ r := by unfold d3L; rw [e3, e1]; rfl
  refine ⟨?_, ?_, ?_⟩
  · unfold dV4 dV3 dV2
    rw [e1, e2, e3, e4, a1, a2, a3, b1, c1]
    simp only [List.headD_cons, if_true, mark_eq, str_data']
  · unfold d4L; rw [e4, e2, c2]
  · unfold d4F; rw [e4, e2, c3]
theorem d4L_le (l : List UInt8) (f : Nat) : (d4L l f).length ≤ l.length ∧ (d3L l f).length ≤ l.length ∧ (d2L l f).length ≤ l.length := by
  have h1 := rdL_le l f
  have h2 := rdL_le (rdL l f) (rdF l f)
  have h3 : (d3L l f).length ≤ (d2L l f).length := by
    unfold d3L
    split
    · rw [List.length_tail]; omega
    · exact Nat.le_refl _
  have h4 := rtL_le (d3L l f) (d2F l f) 24
  have h5 : (d2L l f).length ≤ (rdL l f).length := h2
  have h6 : (d4L l f).length ≤ (d3L l f).length := h4
  exact ⟨by omega, by omega, by omega⟩
/-- What Take has read so far, if the bytes are those of a stack. -/
def TkG (b : List UInt8) (key : ByteArray) (cnt i : Nat) (L : List Vn) (l : List UInt8) (f : Nat) : Prop := ∀ k M, vsCheck k M = 0 → putS k M = b → key = k ∧ cnt = M.length ∧ i ≤ M.length ∧ L = M.take i ∧ l = layVs (M.drop i) ∧ f = 0
theorem TkG.start (b : List UInt8) : TkG b (gKey b) (rdV (rtL b 0 16) (rtF b 0 16)) 0 [] (rdL (rtL b 0 16) (rtF b 0 16)) (rdF (rtL b 0 16) (rtF b 0 16)) := fun k M h1 h2 => by
  have h3 := gS0_put h1 []
  rw [List.append_nil, h2] at h3
  obtain ⟨h4, h5⟩ := h3
  unfold gS0 at h5
  injection h5 with h5 h6
  obtain ⟨_, h8, _, _⟩ := vsCheck_zero.1 h1
  obtain ⟨b1, b2, b3⟩ := rd_put M.length (layVs M ++ []) (by omega)
  rw [h5, h6, b1, b2, b3, List.append_nil]
  exact ⟨h4, rfl, Nat.zero_le _, rfl, rfl, rfl⟩
theorem TkG.step {b : List UInt8} {key : ByteArray} {cnt i : Nat} {L : List Vn} {l : List UInt8} {f : Nat} (h : TkG b key cnt i L l f) (hi : i < cnt) : TkG b key cnt (i + 1) (L ++ [dV4 l f]) (d4L l f) (d4F l f) := fun k M h1 h2 => by
  obtain ⟨e1, e2, e3, e4, e5, e6⟩ := h k M h1 h2
  obtain ⟨_, _, hf, _⟩ := vsCheck_zero.1 h1
  have hlt : i < M.length := by omega
  have ed : M.drop i = M[i]'hlt :: M.drop (i + 1) := List.drop_eq_getElem_cons hlt
  rw [ed, layVs_cons] at e5
  obtain ⟨s1, s2, s3⟩ := dStep_lay (hf _ (List.getElem_mem hlt)) (layVs (M.drop (i + 1)))
  rw [← e5, ← e6] at s1 s2 s3
  subst e6
  rw [s1, s2, s3]
  refine ⟨e1, e2, by omega, ?_, rfl, rfl⟩
  rw [List.take_add_one, List.getElem?_eq_getElem hlt, e4]
  rfl
theorem TkG.done {b : List UInt8} {key : ByteArray} {cnt i : Nat} {L : List Vn} {l : List UInt8} {f : Nat} (h : TkG b key cnt i L l f) (he : cnt ≤ i ∨ 8 < i ∨ f ≠ 0) : ∀ k M, vsCheck k M = 0 → putS k M = b → key = k ∧ L = M := fun k M h1 h2 => by
  obtain ⟨e1, e2, e3, e4, e5, e6⟩ := h k M h1 h2
  obtain ⟨_, h8, _, _⟩ := vsCheck_zero.1 h1
  refine ⟨e1, ?_⟩
  rcases he with he | he | he
  · rw [e4, List.take_of_length_le (by omega)]
  · omega
  · exact absurd e6 he
/-! ### Boxes under a store elsewhere -/
theorem StBox.offC {W : World} {q : Nat} {key : ByteArray} {A : Option Addr} {n c : Nat} (h : StBox W q key A n c) {p : Addr} (hp : p.block ≠ q) (u : Value) : StBox (W.setCell p u) q key A n c := by
  have e : ∀ i, p ≠ (⟨q, i, none⟩ : Addr) := fun i e => hp (by rw [e])
  exact ⟨by rw [World.cell?_setCell_other _ _ _ _ (e 0)]; exact h.c0, by rw [World.cell?_setCell_other _ _ _ _ (e 1)]; exact h.c1, by simp [h.f0], by simp [h.f1]⟩
theorem VnBox.offC {W : World} {q : Nat} {v : Vn} (h : VnBox W q v) {p : Addr} (hp : p.block ≠ q) (u : Value) : VnBox (W.setCell p u) q v := by
  have e : ∀ i, p ≠ (⟨q, i, none⟩ : Addr) := fun i e => hp (by rw [e])
  exact ⟨by rw [World.cell?_setCell_other _ _ _ _ (e 0)]; exact h.c0, by rw [World.cell?_setCell_other _ _ _ _ (e 1)]; exact h.c1, by rw [World.cell?_setCell_other _ _ _ _ (e 2)]; exact h.c2, by rw [World.cell?_setCell_other _ _ _ _ (e 3)]; exact h.c3, by simp [h.f0], by simp [h.f1], by simp [h.f2], by simp [h.f3]⟩
theorem OG.offC {T : TypeId} {base : Nat} {W : World} {v : Value} {l : List Vn} (h : OG KV T base W v l) {q i : Nat} (hp : v.ownBlock ≠ some q) (u : Value) : OG KV T base (W.setCell ⟨q, i, none⟩ u) v l := by
  obtain ⟨css, h1, h2, h3⟩ := h
  exact ⟨css, ownsRow_keepB h1 fun b hb => setCell_else W q i u b (fun e => hp (by rw [hb, e])), h2, h3⟩
theorem OG.base_ne {T : TypeId} {base : Nat} {W : World} {v : Value} {l : List Vn} (h : OG KV T base W v l) {q : Nat} (hq : q < base) : v.ownBlock ≠ some q := fun e => by
  obtain ⟨css, h1, h2, h3⟩ := h
  have := (World.ownsRow.lt h1 q e).1
  omega
/-- The memory of Take: the reader in its box, the two results, the stack that grows, with its row. -/
structure TkW (w : World) (A0 : Option Addr) (b0 : List UInt8) (key : ByteArray) (B : Option Addr) (m d : Nat) (L : List Vn) (A : Option Addr) (n c : Nat) (l : List UInt8) (f : Nat) (W : World) : Prop where
  b : Below w.heap.size w W
  r0 : W.cell? ⟨w.heap.size, 0, none⟩ = some (.slice A n c)
  r1 : W.cell? ⟨w.heap.size, 1, none⟩ = some (.int .i64 (f : Int))
  g0 : W.frozen? ⟨w.heap.size, 0, none⟩ = false
  g1 : W.frozen? ⟨w.heap.size, 1, none⟩ = false
  z0 : W.cell? ⟨w.heap.size + 1, 0, none⟩ = some (.slice none 0 0)
  z1 : W.cell? ⟨w.heap.size + 1, 1, none⟩ = some (.int .i64 0)
  y0 : W.frozen? ⟨w.heap.size + 1, 0, none⟩ = false
  y1 : W.frozen? ⟨w.heap.size + 1, 1, none⟩ = false
  t : StBox W (w.heap.size + 2) ⟨#[]⟩ none 0 0
  s : StBox W (w.heap.size + 3) key B m d
  o : OG KV 66 (w.heap.size + 4) W (.slice B m d) L
  lm : L.length = m
  md : m ≤ d
  rb : ∀ V, RB V A0 b0 → RB V A l
  ln : l.length = n
  nc : n ≤ c
theorem TkW.lt {w : World} {A0 : Option Addr} {b0 : List UInt8} {key : ByteArray} {B : Option Addr} {m d : Nat} {L : List Vn} {A : Option Addr} {n c : Nat} {l : List UInt8} {f : Nat} {W : World} (h : TkW w A0 b0 key B m d L A n c l f W) : w.heap.size + 4 ≤ W.heap.size := h.s.lt
theorem TkW.on {w : World} {A0 : Option Addr} {b0 : List UInt8} {key : ByteArray} {B : Option Addr} {m d : Nat} {L : List Vn} {A : Option Addr} {n c : Nat} {l : List UInt8} {f : Nat} {W W' : World} (h : TkW w A0 b0 key B m d L A n c l f W) (hb : Below W.heap.size W W') : TkW w A0 b0 key B m d L A n c l f W' :=
  ⟨h.b.trans (hb.mono h.b.size), (hb.cell (lt_of_cell h.r0)).trans h.r0, (hb.cell (lt_of_cell h.r1)).trans h.r1, (hb.frozen (lt_of_cell h.r0)).trans h.g0, (hb.frozen (lt_of_cell h.r1)).trans h.g1, (hb.cell (lt_of_cell h.z0)).trans h.z0, (hb.cell (lt_of_cell h.z1)).trans h.z1, (hb.frozen (lt_of_cell h.z0)).trans h.y0, (hb.frozen (lt_of_cell h.z1)).trans h.y1, h.t.on hb, h.s.on hb, h.o.below hb, h.lm, h.md, h.rb, h.ln, h.nc⟩
/-- The reader's box gets another reader. -/
theorem TkW.rd {w : World} {A0 : Option Addr} {b0 : List UInt8} {key : ByteArray} {B : Option Addr} {m d : Nat} {L : List Vn} {A : Option Addr} {n c : Nat} {l : List UInt8} {f : Nat} {W : World} (h : TkW w A0 b0 key B m d L A n c l f W) {A' : Option Addr} {n' c' : Nat} {l' : List UInt8} (f' : Nat) (hl : l'.length = n') (hc : n' ≤ c') (hr : ∀ V, RB V A l → RB V A' l') :
    TkW w A0 b0 key B m d L A' n' c' l' f' ((W.setCell ⟨w.heap.size, 0, none⟩ (.slice A' n' c')).setCell ⟨w.heap.size, 1, none⟩ (.int .i64 (f' : Int))) := by
  refine ⟨(h.b.setCell (p := ⟨w.heap.size, 0, none⟩) (by simp) _).setCell (p := ⟨w.heap.size, 1, none⟩) (by simp) _, ?_, ?_, by simp [h.g0], by simp [h.g1], ?_, ?_, by simp [h.y0], by simp [h.y1], (h.t.offC (p := ⟨w.heap.size, 0, none⟩) (by show w.heap.size ≠ w.heap.size + 2; omega) _).offC (p := ⟨w.heap.size, 1, none⟩) (by show w.heap.size ≠ w.heap.size + 2; omega) _, (h.s.offC (p := ⟨w.heap.size, 0, none⟩) (by show w.heap.size ≠ w.heap.size + 3; omega) _).offC (p := ⟨w.heap.size, 1, none⟩) (by show w.heap.size ≠ w.heap.size + 3; omega) _, ?_, h.lm, h.md, fun V hV => hr V (h.rb V hV), hl, hc⟩
  · simp [World.cell?_setCell_other, World.cell?_setCell_same', h.r0, h.r1]
  · simp [World.cell?_setCell_other, World.cell?_setCell_same', h.r0, h.r1]
  · simp [World.cell?_setCell_other, h.z0]
  · simp [World.cell?_setCell_other, h.z1]
  · exact (h.o.offC (q := w.heap.size) (i := 0) (h.o.base_ne (q := w.heap.size) (by omega)) _).offC (q := w.heap.size) (i := 1) (h.o.base_ne (q := w.heap.size) (by omega)) _
/-- The reader's bytes, cut. -/
theorem TkW.rd0 {w : World} {A0 : Option Addr} {b0 : List UInt8} {key : ByteArray} {B : Option Addr} {m d : Nat} {L : List Vn} {A : Option Addr} {n c : Nat} {l : List UInt8} {f : Nat} {W : World} (h : TkW w A0 b0 key B m d L A n c l f W) {A' : Option Addr} {n' c' : Nat} {l' : List UInt8} (hl : l'.length = n') (hc : n' ≤ c') (hr : ∀ V, RB V A l → RB V A' l') :
    TkW w A0 b0 key B m d L A' n' c' l' f (W.setCell ⟨w.heap.size, 0, none⟩ (.slice A' n' c')) := by
  refine ⟨h.b.setCell (p := ⟨w.heap.size, 0, none⟩) (by simp) _, ?_, ?_, by simp [h.g0], by simp [h.g1], ?_, ?_, by simp [h.y0], by simp [h.y1], h.t.offC (p := ⟨w.heap.size, 0, none⟩) (by show w.heap.size ≠ w.heap.size + 2; omega) _, h.s.offC (p := ⟨w.heap.size, 0, none⟩) (by show w.heap.size ≠ w.heap.size + 3; omega) _, ?_, h.lm, h.md, fun V hV => hr V (h.rb V hV), hl, hc⟩
  · simp [World.cell?_setCell_same', h.r0]
  · simp [World.cell?_setCell_other, h.r1]
  · simp [World.cell?_setCell_other, h.z0]
  · simp [World.cell?_setCell_other, h.z1]
  · exact h.o.offC (q := w.heap.size) (i := 0) (h.o.base_ne (q := w.heap.size) (by omega)) _
/-- The stack gets its key. -/
theorem TkW.key {w : World} {A0 : Option Addr} {b0 : List UInt8} {key : ByteArray} {B : Option Addr} {m d : Nat} {L : List Vn} {A : Option Addr} {n c : Nat} {l : List UInt8} {f : Nat} {W : World} (h : TkW w A0 b0 key B m d L A n c l f W) (k : ByteArray) : TkW w A0 b0 k B m d L A n c l f (W.setCell ⟨w.heap.size + 3, 0, none⟩ (.string k)) := by
  refine ⟨h.b.setCell (p := ⟨w.heap.size + 3, 0, none⟩) (by simp) _, ?_, ?_, by simp [h.g0], by simp [h.g1], ?_, ?_, by simp [h.y0], by simp [h.y1], h.t.offC (p := ⟨w.heap.size + 3, 0, none⟩) (by show w.heap.size + 3 ≠ w.heap.size + 2; omega) _, ?_, h.o.offC (q := w.heap.size + 3) (i := 0) (h.o.base_ne (q := w.heap.size + 3) (by omega)) _, h.lm, h.md, h.rb, h.ln, h.nc⟩
  · simp [World.cell?_setCell_other, h.r0]
  · simp [World.cell?_setCell_other, h.r1]
  · simp [World.cell?_setCell_other, h.z0]
  · simp [World.cell?_setCell_other, h.z1]
  · constructor <;> simp [World.cell?_setCell_other, World.cell?_setCell_same', h.s.c0, h.s.c1, h.s.f0, h.s.f1]
/-- Behind an append onto the stack's row, stored. -/
theorem TkW.push {w : World} {A0 : Option Addr} {b0 : List UInt8} {key : ByteArray} {B : Option Addr} {m d : Nat} {L : List Vn} {A : Option Addr} {n c : Nat} {l : List UInt8} {f : Nat} {W W' : World} (h : TkW w A0 b0 key B m d L A n c l f W) (hb : Below (w.heap.size + 4) W W') {B' : Option Addr} {m' d' : Nat} {L' : List Vn} (o : OG KV 66 (w.heap.size + 4) W' (.slice B' m' d') L') (hm : L'.length = m') (hd : m' ≤ d') :
    TkW w A0 b0 key B' m' d' L' A n c l f (W'.setCell ⟨w.heap.size + 3, 1, none⟩ (.slice B' m' d')) := by
  have s1 := h.s.below hb (by omega)
  have t1 := h.t.below hb (by omega)
  refine ⟨(h.b.trans (hb.mono (by omega))).setCell (p := ⟨w.heap.size + 3, 1, none⟩) (by simp) _, ?_, ?_, ?_, ?_, ?_, ?_, ?_, ?_, t1.offC (p := ⟨w.heap.size + 3, 1, none⟩) (by show w.heap.size + 3 ≠ w.heap.size + 2; omega) _, ?_, o.offC (q := w.heap.size + 3) (i := 1) (o.base_ne (q := w.heap.size + 3) (by omega)) _, hm, hd, h.rb, h.ln, h.nc⟩
  · rw [World.cell?_setCell_other _ _ _ _ (by simp)]; exact (hb.cell (p := ⟨w.heap.size, 0, none⟩) (by show w.heap.size < w.heap.size + 4; omega)).trans h.r0
  · rw [World.cell?_setCell_other _ _ _ _ (by simp)]; exact (hb.cell (p := ⟨w.heap.size, 1, none⟩) (by show w.heap.size < w.heap.size + 4; omega)).trans h.r1
  · have := (hb.frozen (p := ⟨w.heap.size, 0, none⟩) (by show w.heap.size < w.heap.size + 4; omega)).trans h.g0; simp [this]
  · have := (hb.frozen (p := ⟨w.heap.size, 1, none⟩) (by show w.heap.size < w.heap.size + 4; omega)).trans h.g1; simp [this]
  · rw [World.cell?_setCell_other _ _ _ _ (by simp)]; exact (hb.cell (p := ⟨w.heap.size + 1, 0, none⟩) (by show w.heap.size + 1 < w.heap.size + 4; omega)).trans h.z0
  · rw [World.cell?_setCell_other _ _ _ _ (by simp)]; exact (hb.cell (p := ⟨w.heap.size + 1, 1, none⟩) (by show w.heap.size + 1 < w.heap.size + 4; omega)).trans h.z1
  · have := (hb.frozen (p := ⟨w.heap.size + 1, 0, none⟩) (by show w.heap.size + 1 < w.heap.size + 4; omega)).trans h.y0; simp [this]
  · have := (hb.frozen (p := ⟨w.heap.size + 1, 1, none⟩) (by show w.heap.size + 1 < w.heap.size + 4; omega)).trans h.y1; simp [this]
  · constructor <;> simp [World.cell?_setCell_other, World.cell?_setCell_same', s1.c0, s1.c1, s1.f0, s1.f1]
theorem TkW.new (w : World) (A : Option Addr) (n c : Nat) (l : List UInt8) (hl : l.length = n) (hc : n ≤ c) :
    TkW w A l ⟨#[]⟩ none 0 0 [] A n c l 0 ((((w.alloc (.cells #[.slice A n c, .int .i64 0] 80)).alloc (.cells #[.slice none 0 0, .int .i64 0] 80)).alloc (.cells #[.string ⟨#[]⟩, .slice none 0 0] 24)).alloc (.cells #[.string ⟨#[]⟩, .slice none 0 0] 24)) := by
  have s1 := heap_size_alloc w (.cells #[.slice A n c, .int .i64 0] 80)
  have b1 := below1 w (.cells #[.slice A n c, .int .i64 0] 80)
  have c0 : (w.alloc (.cells #[.slice A n c, .int .i64 0] 80)).cell? ⟨w.heap.size, 0, none⟩ = some (.slice A n c) ∧ (w.alloc (.cells #[.slice A n c, .int .i64 0] 80)).cell? ⟨w.heap.size, 1, none⟩ = some (.int .i64 0) ∧ (w.alloc (.cells #[.slice A n c, .int .i64 0] 80)).frozen? ⟨w.heap.size, 0, none⟩ = false ∧ (w.alloc (.cells #[.slice A n c, .int .i64 0] 80)).frozen? ⟨w.heap.size, 1, none⟩ = false := by simp
  generalize w.alloc (.cells #[.slice A n c, .int .i64 0] 80) = W1 at *
  have s2 := heap_size_alloc W1 (.cells #[.slice none 0 0, .int .i64 0] 80)
  have b2 := below1 W1 (.cells #[.slice none 0 0, .int .i64 0] 80)
  have c1 : (W1.alloc (.cells #[.slice none 0 0, .int .i64 0] 80)).cell? ⟨w.heap.size + 1, 0, none⟩ = some (.slice none 0 0) ∧ (W1.alloc (.cells #[.slice none 0 0, .int .i64 0] 80)).cell? ⟨w.heap.size + 1, 1, none⟩ = some (.int .i64 0) ∧ (W1.alloc (.cells #[.slice none 0 0, .int .i64 0] 80)).frozen? ⟨w.heap.size + 1, 0, none⟩ = false ∧ (W1.alloc (.cells #[.slice none 0 0, .int .i64 0] 80)).frozen? ⟨w.heap.size + 1, 1, none⟩ = false := by rw [← s1]; simp
  generalize W1.alloc (.cells #[.slice none 0 0, .int .i64 0] 80) = W2 at *
  have s3 := heap_size_alloc W2 (.cells #[.string ⟨#[]⟩, .slice none 0 0] 24)
  have t3 := StBox.new W2 ⟨#[]⟩ none 0 0 24
  have b3 := below1 W2 (.cells #[.string ⟨#[]⟩, .slice none 0 0] 24)
  generalize W2.alloc (.cells #[.string ⟨#[]⟩, .slice none 0 0] 24) = W3 at *
  have t4 := StBox.new W3 ⟨#[]⟩ none 0 0 24
  have b4 := below1 W3 (.cells #[.string ⟨#[]⟩, .slice none 0 0] 24)
  generalize W3.alloc (.cells #[.string ⟨#[]⟩, .slice none 0 0] 24) = W4 at *
  have h2 : W2.heap.size = w.heap.size + 2 := by omega
  have h3 : W3.heap.size = w.heap.size + 3 := by omega
  rw [h2] at t3
  rw [h3] at t4
  have b24 := b3.trans (b4.mono (by omega))
  have b14 := b2.trans (b24.mono (by omega))
  obtain ⟨p0, p1, p2, p3⟩ := c0
  obtain ⟨q0, q1, q2, q3⟩ := c1
  refine ⟨b1.trans (b14.mono (by omega)), (b14.cell (lt_of_cell p0)).trans p0, (b14.cell (lt_of_cell p1)).trans p1, (b14.frozen (lt_of_cell p0)).trans p2, (b14.frozen (lt_of_cell p1)).trans p3, (b24.cell (lt_of_cell q0)).trans q0, (b24.cell (lt_of_cell q1)).trans q1, (b24.frozen (lt_of_cell q0)).trans q2, (b24.frozen (lt_of_cell q1)).trans q3, t3.on b4, t4, OG.nil, rfl, Nat.le_refl _, fun V h => h, hl, hc⟩
/-- With the version that is read, in its box. -/
structure TkV (w : World) (A0 : Option Addr) (b0 : List UInt8) (key : ByteArray) (B : Option Addr) (m d : Nat) (L : List Vn) (A : Option Addr) (n c : Nat) (l : List UInt8) (f : Nat) (q : Nat) (x : Vn) (W : World) : Prop where
  k : TkW w A0 b0 key B m d L A n c l f W
  v : VnBox W q x
  ne : (Value.slice B m d).ownBlock ≠ some q
  hq : w.heap.size + 4 ≤ q
theorem TkV.new {w : World} {A0 : Option Addr} {b0 : List UInt8} {key : ByteArray} {B : Option Addr} {m d : Nat} {L : List Vn} {A : Option Addr} {n c : Nat} {l : List UInt8} {f : Nat} {W : World} (h : TkW w A0 b0 key B m d L A n c l f W) : TkV w A0 b0 key B m d L A n c l f W.heap.size vn0 (W.alloc (.cells #[.int .i64 0, .int .i64 0, .bool false, .string ⟨#[]⟩] 66)) :=
  ⟨h.on (below1 W _), VnBox.new W vn0 66, fun e => by have := h.o.own_lt'' e; omega, h.lt⟩
theorem TkV.on {w : World} {A0 : Option Addr} {b0 : List UInt8} {key : ByteArray} {B : Option Addr} {m d : Nat} {L : List Vn} {A : Option Addr} {n c : Nat} {l : List UInt8} {f q : Nat} {x : Vn} {W W' : World} (h : TkV w A0 b0 key B m d L A n c l f q x W) (hb : Below W.heap.size W W') : TkV w A0 b0 key B m d L A n c l f q x W' := ⟨h.k.on hb, h.v.on hb, h.ne, h.hq⟩
theorem TkV.rd {w : World} {A0 : Option Addr} {b0 : List UInt8} {key : ByteArray} {B : Option Addr} {m d : Nat} {L : List Vn} {A : Option Addr} {n c : Nat} {l : List UInt8} {f q : Nat} {x : Vn} {W : World} (h : TkV w A0 b0 key B m d L A n c l f q x W) {A' : Option Addr} {n' c' : Nat} {l' : List UInt8} (f' : Nat) (hl : l'.length = n') (hc : n' ≤ c') (hr : ∀ V, RB V A l → RB V A' l') :
    TkV w A0 b0 key B m d L A' n' c' l' f' q x ((W.setCell ⟨w.heap.size, 0, none⟩ (.slice A' n' c')).setCell ⟨w.heap.size, 1, none⟩ (.int .i64 (f' : Int))) :=
  ⟨h.k.rd f' hl hc hr, (h.v.offC (p := ⟨w.heap.size, 0, none⟩) (by have := h.hq; show w.heap.size ≠ q; omega) _).offC (p := ⟨w.heap.size, 1, none⟩) (by have := h.hq; show w.heap.size ≠ q; omega) _, h.ne, h.hq⟩
theorem TkV.rd0 {w : World} {A0 : Option Addr} {b0 : List UInt8} {key : ByteArray} {B : Option Addr} {m d : Nat} {L : List Vn} {A : Option Addr} {n c : Nat} {l : List UInt8} {f q : Nat} {x : Vn} {W : World} (h : TkV w A0 b0 key B m d L A n c l f q x W) {A' : Option Addr} {n' c' : Nat} {l' : List UInt8} (hl : l'.length = n') (hc : n' ≤ c') (hr : ∀ V, RB V A l → RB V A' l') :
    TkV w A0 b0 key B m d L A' n' c' l' f q x (W.setCell ⟨w.heap.size, 0, none⟩ (.slice A' n' c')) :=
  ⟨h.k.rd0 hl hc hr, h.v.offC (p := ⟨w.heap.size, 0, none⟩) (by have := h.hq; show w.heap.size ≠ q; omega) _, h.ne, h.hq⟩
theorem TkW.offC {w : World} {A0 : Option Addr} {b0 : List UInt8} {key : ByteArray} {B : Option Addr} {m d : Nat} {L : List Vn} {A : Option Addr} {n c : Nat} {l : List UInt8} {f : Nat} {W : World} (h : TkW w A0 b0 key B m d L A n c l f W) {q i : Nat} (hp : w.heap.size + 4 ≤ q) (hn : (Value.slice B m d).ownBlock ≠ some q) (u : Value) : TkW w A0 b0 key B m d L A n c l f (W.setCell ⟨q, i, none⟩ u) := by
  have e : ∀ g j, g < w.heap.size + 4 → (⟨q, i, none⟩ : Addr) ≠ ⟨g, j, none⟩ := fun g j hj e => by injection e with e; omega
  refine ⟨h.b.setCell (p := ⟨q, i, none⟩) (by show w.heap.size ≤ q; omega) _, ?_, ?_, by simp [h.g0], by simp [h.g1], ?_, ?_, by simp [h.y0], by simp [h.y1], h.t.offC (p := ⟨q, i, none⟩) (by show q ≠ w.heap.size + 2; omega) _, h.s.offC (p := ⟨q, i, none⟩) (by show q ≠ w.heap.size + 3; omega) _, h.o.offC hn _, h.lm, h.md, h.rb, h.ln, h.nc⟩
  · rw [World.cell?_setCell_other _ _ _ _ (e w.heap.size 0 (by omega))]; exact h.r0
  · rw [World.cell?_setCell_other _ _ _ _ (e w.heap.size 1 (by omega))]; exact h.r1
  · rw [World.cell?_setCell_other _ _ _ _ (e (w.heap.size + 1) 0 (by omega))]; exact h.z0
  · rw [World.cell?_setCell_other _ _ _ _ (e (w.heap.size + 1) 1 (by omega))]; exact h.z1
theorem TkV.fld {w : World} {A0 : Option Addr} {b0 : List UInt8} {key : ByteArray} {B : Option Addr} {m d : Nat} {L : List Vn} {A : Option Addr} {n c : Nat} {l : List UInt8} {f q : Nat} {x : Vn} {W : World} (h : TkV w A0 b0 key B m d L A n c l f q x W) (i : Nat) (u : Value) (x' : Vn) (hx : VnBox (W.setCell ⟨q, i, none⟩ u) q x') : TkV w A0 b0 key B m d L A n c l f q x' (W.setCell ⟨q, i, none⟩ u) := ⟨h.k.offC h.hq h.ne u, hx, h.ne, h.hq⟩
theorem VnBox.st0 {W : World} {q : Nat} {x : Vn} (h : VnBox W q x) (t : Int) : VnBox (W.setCell ⟨q, 0, none⟩ (.int .i64 t)) q { x with txn := t } := by constructor <;> simp [World.cell?_setCell_other, World.cell?_setCell_same', h.c0, h.c1, h.c2, h.c3, h.f0, h.f1, h.f2, h.f3]
theorem VnBox.st1 {W : World} {q : Nat} {x : Vn} (h : VnBox W q x) (t : Int) : VnBox (W.setCell ⟨q, 1, none⟩ (.int .i64 t)) q { x with ts := t } := by constructor <;> simp [World.cell?_setCell_other, World.cell?_setCell_same', h.c0, h.c1, h.c2, h.c3, h.f0, h.f1, h.f2, h.f3]
theorem VnBox.st2 {W : World} {q : Nat} {x : Vn} (h : VnBox W q x) (t : Bool) : VnBox (W.setCell ⟨q, 2, none⟩ (.bool t)) q { x with gone := t } := by constructor <;> simp [World.cell?_setCell_other, World.cell?_setCell_same', h.c0, h.c1, h.c2, h.c3, h.f0, h.f1, h.f2, h.f3]
theorem VnBox.st3 {W : World} {q : Nat} {x : Vn} (h : VnBox W q x) (t : ByteArray) : VnBox (W.setCell ⟨q, 3, none⟩ (.string t)) q { x with val := t } := by constructor <;> simp [World.cell?_setCell_other, World.cell?_setCell_same', h.c0, h.c1, h.c2, h.c3, h.f0, h.f1, h.f2, h.f3]
end Go.Proofs.Ytjmmaghjbaigiaa
