/- Rows of 64-bit words: that came in, and of the call's own. -/
import Derived.Test.YtmmehomobmoapaaDoorOwn
namespace Go.Proofs.YtmmehomobmoapaaDoor
open Go.RowKit
set_option linter.unusedVariables false

def cellQ (x : UInt64) : Value := .int .u64 (x.toNat : Int)
def cellsQ (l : List UInt64) : List Value := l.map cellQ

/-- The slice at the address A reads as the bytes l in w. -/
def RQ (w : World) (A : Option Addr) (l : List UInt64) : Prop :=
  l = [] ∨ ∃ ad, A = some ad ∧ ∀ (j : Nat) (x : UInt64), l[j]? = some x → w.cell? (ad.add j) = some (.int .u64 (x.toNat : Int))

theorem RQ.nil {w : World} {A : Option Addr} : RQ w A [] := .inl rfl
theorem RQ.at_ {w : World} {A : Option Addr} {l : List UInt64} {k : Nat} (h : RQ w A l) (hk : k < l.length) :
    ∃ ad x, A = some ad ∧ l[k]? = some x ∧ w.cell? (ad.add k) = some (.int .u64 (x.toNat : Int)) := by
  rcases h with rfl | ⟨ad, rfl, hc⟩
  · simp at hk
  · exact ⟨ad, l[k], rfl, List.getElem?_eq_getElem hk, hc k _ (List.getElem?_eq_getElem hk)⟩
theorem RQ.keep {w w' : World} {A : Option Addr} {l : List UInt64} (h : RQ w A l) (hk : ∀ p : Addr, p.block < w.heap.size → w'.cell? p = w.cell? p) : RQ w' A l := by
  rcases h with rfl | ⟨ad, rfl, hc⟩
  · exact .inl rfl
  · exact .inr ⟨ad, rfl, fun j x hx => (hk _ (lt_of_cell (hc j x hx))).trans (hc j x hx)⟩
theorem RQ.below {w w' : World} {A : Option Addr} {l : List UInt64} (h : RQ w A l) (hb : Below w.heap.size w w') : RQ w' A l := h.keep fun _ hp => hb.cell hp
theorem RQ.drew {w : World} {A : Option Addr} {l : List UInt64} (h : RQ w A l) : RQ w.drew A l := h
theorem RQ.drewN {w : World} {A : Option Addr} {l : List UInt64} (h : RQ w A l) (k : Nat) : RQ (w.drewN k) A l := h
theorem RQ.alloc {w : World} {A : Option Addr} {l : List UInt64} (h : RQ w A l) (o : Obj) : RQ (w.alloc o) A l := h.keep fun p hp => World.cell?_alloc_lt w o p hp
theorem RQ.take {w : World} {A : Option Addr} {l : List UInt64} (h : RQ w A l) (k : Nat) : RQ w A (l.take k) := by
  rcases h with rfl | ⟨ad, rfl, hc⟩
  · exact .inl (by simp)
  · refine .inr ⟨ad, rfl, fun j x hx => hc j x ?_⟩
    rw [List.getElem?_take] at hx
    split at hx
    · exact hx
    · cases hx
theorem RQ.drop {w : World} {ad : Addr} {l : List UInt64} (h : RQ w (some ad) l) (k : Nat) : RQ w (some (ad.add k)) (l.drop k) := by
  rcases h with rfl | ⟨ad', e, hc⟩
  · exact .inl (by simp)
  · injection e with e
    subst e
    refine .inr ⟨_, rfl, fun j x hx => ?_⟩
    rw [add_of_add]
    exact hc _ x (by rw [← hx, List.getElem?_drop])

/-- The bytes as a number, the highest first. -/
theorem take_snocQ {l : List UInt64} {k : Nat} {x : UInt64} (h : l[k]? = some x) : l.take (k + 1) = l.take k ++ [x] := by
  rw [List.take_add_one, h]; rfl

theorem Tryd.info36 : (Tryd.prog.info? 36).map (fun i => (i.zero, i.size, i.bytes)) = some (some (.int .u64 0), 1, 8) := by kernel_rfl

/-- v is a slice of the bytes l at the head of a row of its own, from block base on. -/
def OQ (base : Nat) (w : World) (v : Value) (l : List UInt64) : Prop := w.ownsRow base 36 1 v l.length (cellsQ l)

theorem OQ.nil {base : Nat} {w : World} : OQ base w (.slice none 0 0) [] := World.ownsRow_nil w base 36 1
theorem OQ.alloc {base : Nat} {w : World} {v : Value} {l : List UInt64} (h : OQ base w v l) (o : Obj) : OQ base (w.alloc o) v l := World.ownsRow.alloc h o
theorem OQ.form {base : Nat} {w : World} {v : Value} {l : List UInt64} (h : OQ base w v l) : ∃ A c, v = .slice A l.length c ∧ l.length ≤ c ∧ RQ w A l := by
  unfold OQ at h
  rcases h.2 with ⟨e, hn⟩ | ⟨g, cap, cur, e, hb, hh, hc, hm, hsz, ht⟩
  · obtain rfl : l = [] := List.eq_nil_of_length_eq_zero hn
    exact ⟨none, 0, e, Nat.le_refl _, .inl rfl⟩
  · refine ⟨some ⟨g, 0, none⟩, cap, e, hc, .inr ⟨_, rfl, fun j x hx => ?_⟩⟩
    subst e
    exact World.ownsRow.cells h (g := g) rfl j _ (by simp [cellsQ, hx, cellQ])
theorem OQ.lift {base B : Nat} {w : World} {v : Value} {l : List UInt64} (h : OQ base w v l) (hB : B ≤ base) : OQ B w v l := by
  unfold OQ at h ⊢
  refine ⟨h.1, ?_⟩
  rcases h.2 with h | ⟨g, cap, cur, e, hb, r⟩
  · exact .inl h
  · exact .inr ⟨g, cap, cur, e, Nat.le_trans hB hb, r⟩
theorem OQ.keep {base B : Nat} {w w' : World} {v : Value} {l : List UInt64} (h : OQ base w v l) (hb : Below B w w') (hB : w.heap.size ≤ B) : OQ base w' v l := by
  unfold OQ at h ⊢
  refine ⟨h.1, ?_⟩
  rcases h.2 with h | ⟨g, cap, cur, e, hb', hh, r⟩
  · exact .inl h
  · refine .inr ⟨g, cap, cur, e, hb', ?_, r⟩
    rw [hb.block g (Nat.lt_of_lt_of_le (by
      rcases Nat.lt_or_ge g w.heap.size with hlt | hge
      · exact hlt
      · rw [Array.getElem?_eq_none hge] at hh; cases hh) hB)]
    exact hh
theorem OQ.len {base : Nat} {w : World} {A : Option Addr} {n c : Nat} {l : List UInt64} (h : OQ base w (.slice A n c) l) : n = l.length := by
  obtain ⟨A', c', e, _⟩ := h.form
  injection e
theorem OQ.reads {base : Nat} {w : World} {A : Option Addr} {n c : Nat} {l : List UInt64} (h : OQ base w (.slice A n c) l) : RQ w A l := by
  obtain ⟨A', c', e, _, hr⟩ := h.form
  injection e with e1
  subst e1
  exact hr
theorem OQ.lit (w : World) (base : Nat) (l : List UInt64) (cs : Array Value) (hcs : cs = (cellsQ l).toArray) (hb : base ≤ w.heap.size) (hn : l.length ≤ maxLen) :
    OQ base (w.alloc (.cells cs 36)) (.slice (some ⟨w.heap.size, 0, none⟩) l.length l.length) l := by
  subst hcs
  have h := World.ownsRow_lit (base := base) (e := 36) (size := 1) w (cellsQ l).toArray l.length hb hn (by simp [cellsQ])
  unfold OQ
  simpa using h
theorem RQ.lit (w : World) (l : List UInt64) (cs : Array Value) (hcs : cs = (cellsQ l).toArray) (hn : l.length ≤ maxLen) : RQ (w.alloc (.cells cs 36)) (some ⟨w.heap.size, 0, none⟩) l :=
  (OQ.lit w w.heap.size l cs hcs (Nat.le_refl _) hn).reads
theorem RQ.one (w : World) (z : Int) (x : UInt64) (h : z = (x.toNat : Int)) : RQ (w.alloc (.cells #[.int .u64 z] 36)) (some ⟨w.heap.size, 0, none⟩) [x] :=
  RQ.lit w [x] _ (by simp [cellsQ, cellQ, h]) (by simp [maxLen])

set_option maxRecDepth 100000 in
theorem run_append_Q {base : Nat} {w : World} {v : Value} {l : List UInt64} (ty : TypeId) (hown : OQ base w v l) {A : Option Addr} {m : Nat} (c : Nat) {news : List UInt64} (hm : news.length = m) (hr : RQ w A news)
    (hbound : l.length + m ≤ 1000000) (hbase : base ≤ w.heap.size) :
    ∃ v' w', (Builtin.append_ #[22, 22] ty #[v, .slice A m c]).run Tryd.prog w = .ok v' w' ∧ OQ base w' v' (l ++ news) ∧ Below base w w' ∧ w.grownBy w' v.ownBlock := by
  obtain ⟨i0, hi, hz0, hz1, hz2⟩ := info_parts Tryd.info36
  subst hm
  rcases Classical.em (A = none) with rfl | hA
  · have hn : news = [] := by
      rcases hr with h | ⟨ad, h, _⟩
      · exact h
      · cases h
    subst hn
    refine ⟨v, w, ?_, by simpa using hown, Below.refl _ _, ⟨rfl, rfl, rfl, Nat.le_refl _, fun _ _ _ => rfl⟩⟩
    unfold OQ at hown
    rcases hown.2 with ⟨rfl, hl⟩ | ⟨g, cap, cur, rfl, _, _, hnc, _⟩
    · simp [Builtin.append_, run_underlying Tryd.underlying22, sizeOf, typeInfo, hi, Builtin.lenOf, Builtin.firstCells]
    · simp [Builtin.append_, run_underlying Tryd.underlying22, sizeOf, typeInfo, hi, Builtin.lenOf, Builtin.firstCells, hnc, storeCells]
  · obtain ⟨ad, rfl⟩ := Option.ne_none_iff_exists'.1 hA
    have hcells : ∀ j u, (cellsQ news)[j]? = some u → w.cell? (ad.add j) = some u := by
      intro j u hu
      simp only [cellsQ, List.getElem?_map, Option.map_eq_some_iff] at hu
      obtain ⟨x, hx, rfl⟩ := hu
      rcases hr with h | ⟨ad', h, hc⟩
      · subst h; simp at hx
      · injection h with h
        subst h
        exact hc j x hx
    obtain ⟨v', w', hrun, h2, h3, _, _⟩ := run_append_own_at (P := Tryd.prog) w base 22 ty 36 i0 _ 1 8 Tryd.underlying22 hi hz0 hz1 hz2 rfl (by omega) v l.length (cellsQ l) hown ad news.length c (cellsQ news)
      (by simp [cellsQ]) hcells (by intro u hu; simp only [cellsQ, List.mem_map] at hu; obtain ⟨x, _, rfl⟩ := hu; rfl) (by simp only [maxLen]; omega) (by omega) hbase
    refine ⟨v', w', hrun, ?_, ?_, h3⟩
    · unfold OQ
      simpa [cellsQ] using h2
    · refine (Below.refl base w).grown h3 hbase fun k hk => ?_
      exact (World.ownsRow.lt hown k hk).1

theorem RQ.grown {w w' : World} {ad : Addr} {l : List UInt64} {row : Option Nat} (h : RQ w (some ad) l) (hg : w.grownBy w' row) (hne : some ad.block ≠ row) : RQ w' (some ad) l := by
  rcases h with rfl | ⟨ad', e, hc⟩
  · exact .inl rfl
  · injection e with e
    subst e
    exact .inr ⟨_, rfl, fun j x hx => hg.cell (hc j x hx) (by rw [block_of_add]; exact hne)⟩

theorem wpList_append_Q {w : World} {ops : Array Oper} {rest : List Oper} {o : Oper} {a : Act} {Q : Exit → Act → World → Prop} (hgd : o.guard = none) (s x : Operand)
    (ho : o.op = .call { callee := .builtin .append, args := #[s, x], argTypes := #[22, 22] })
    (base : Nat) (v : Value) (l : List UInt64) (hs : a.eval s = v) (hown : OQ base w v l) (A : Option Addr) (m c : Nat) (news : List UInt64) (hx : a.eval x = .slice A m c) (hm : news.length = m) (hr : RQ w A news)
    (hbound : l.length + m ≤ 1000000) (hbase : base ≤ w.heap.size)
    (h : ∀ v' w', OQ base w' v' (l ++ news) → Below base w w' → wpList Tryd.prog ops Q rest (a.put o.dst v') w') : wpList Tryd.prog ops Q (o :: rest) a w :=
  wpList_plain hgd fun K hK => by
    obtain ⟨v', w', hrun, h2, h3, _⟩ := run_append_Q o.type hown c hm hr hbound hbase
    unfold Oper.wp execOp
    simp only [ho, resolve, invoke, builtin, Sem.run_bind, Sem.run_pure, Result.andThen_ok, List.map_toArray, List.map_cons, List.map_nil, hs, hx, hrun]
    exact hK _ _ (h v' w' h2 h3)


theorem OQ.at_ {base : Nat} {w : World} {A : Option Addr} {n c k : Nat} {l : List UInt64} {x : UInt64} (h : OQ base w (.slice A n c) l) (hk : l[k]? = some x) :
    ∃ g, A = some ⟨g, 0, none⟩ ∧ base ≤ g ∧ g < w.heap.size ∧ w.cell? ⟨g, k, none⟩ = some (.int .u64 (x.toNat : Int)) ∧ w.frozen? ⟨g, k, none⟩ = false ∧
      ∀ (y : UInt64) (z : Int), z = (y.toNat : Int) → OQ base (w.setCell ⟨g, k, none⟩ (.int .u64 z)) (.slice A n c) (l.set k y) := by
  have hlen := h.len
  subst hlen
  have hl : k < l.length := (List.getElem?_eq_some_iff.1 hk).1
  unfold OQ at h
  rcases h.2 with ⟨_, h0⟩ | ⟨g, cap, cur, e, hb, hh, r⟩
  · omega
  · have hg : g < w.heap.size := by
      rcases Nat.lt_or_ge g w.heap.size with hlt | hge
      · exact hlt
      · rw [Array.getElem?_eq_none hge] at hh; cases hh
    injection e with e1 e2 e3
    subst e1 e3
    refine ⟨g, rfl, hb, hg, ?_, World.ownsRow.frozenAt h k, ?_⟩
    · rw [World.ownsRow.cellAt h k (by omega)]
      simp [cellsQ, hk, cellQ]
    · intro y z hz
      have hs := World.ownsRow.stored h k (.int .u64 z)
      unfold OQ
      simpa [cellsQ, cellQ, hz, List.map_set] using hs.1

theorem set_lastQ {a : List UInt64} {k : Nat} (h : a.length = k) (x y : UInt64) : (a ++ [x]).set k y = a ++ [y] := by
  subst h
  simp

theorem step_append_Q {w : World} {ops : Array Oper} {o : Oper} {a : Act} {K : Act → World → Prop} {Q : Exit → Act → World → Prop} {E : Prop} (hgd : o.guard = none) (s x : Operand)
    (ho : o.op = .call { callee := .builtin .append, args := #[s, x], argTypes := #[22, 22] })
    (base : Nat) (v : Value) (l : List UInt64) (hs : a.eval s = v) (hown : OQ base w v l) (A : Option Addr) (m c : Nat) (news : List UInt64) (hx : a.eval x = .slice A m c) (hm : news.length = m) (hr : RQ w A news)
    (hbound : l.length + m ≤ 1000000) (hbase : base ≤ w.heap.size)
    (h : ∀ v' w', OQ base w' v' (l ++ news) → Below base w w' → w.grownBy w' v.ownBlock → K (a.put o.dst v') w') :
    if Region.wanted o (yielded ops a.tmps) = true then Oper.wp Tryd.prog o a w K Q else E := by
  have hw : Region.wanted o (yielded ops a.tmps) = true := by simp [Region.wanted, hgd]
  rw [if_pos hw]
  obtain ⟨v', w', hrun, h2, h3, h4⟩ := run_append_Q o.type hown c hm hr hbound hbase
  unfold Oper.wp execOp
  simp only [ho, resolve, invoke, builtin, Sem.run_bind, Sem.run_pure, Result.andThen_ok, List.map_toArray, List.map_cons, List.map_nil, hs, hx, hrun]
  exact h v' w' h2 h3 h4


theorem zeroCells_Q (m : Nat) : (Builtin.zeroCells (Value.int .u64 0).cells m).toList = cellsQ (List.replicate m 0) := by
  have h : (Builtin.zeroCells (Value.int .u64 0).cells m).size = m := by simp [Builtin.zeroCells, Value.cells]
  apply List.ext_getElem
  · simp [cellsQ, h]
  · intro i h1 h2
    simp [Builtin.zeroCells, cellsQ, cellQ, Value.cells, Nat.mod_one]
theorem madeCells_Q (m : Nat) : (madeCells (Value.int .u64 0).cells (m * 1)).toList = cellsQ (List.replicate m 0) := by
  apply List.ext_getElem
  · simp [cellsQ, madeCells]
  · intro i h1 h2
    simp [madeCells, cellsQ, cellQ, Value.cells, Nat.mod_one]

theorem wpList_make_Q {w : World} {ops : Array Oper} {rest : List Oper} {o : Oper} {a : Act} {Q : Exit → Act → World → Prop} (hgd : o.guard = none) (s x : Operand)
    (ho : o.op = Op.makeSlice 22 s x) (base n : Nat) (L C : Int) (hs : a.eval s = .int .i64 L) (hx : a.eval x = .int .i64 C) (hL : L = (n : Int)) (hC : C = (n : Int)) (hn : n ≤ 1000000) (hbase : base ≤ w.heap.size)
    (h : ∀ w', OQ base w' (.slice (some ⟨w.heap.size, 0, none⟩) n n) (List.replicate n 0) → Below base w w' → wpList Tryd.prog ops Q rest (a.put o.dst (.slice (some ⟨w.heap.size, 0, none⟩) n n)) w') : wpList Tryd.prog ops Q (o :: rest) a w := by
  obtain ⟨i0, hi, hz0, hz1, hz2⟩ := info_parts Tryd.info36
  refine wpList_make_full w hgd s x 22 ho base 36 i0 _ 1 Tryd.underlying22 hi hz0 hz1 .i64 .i64 L C n hs hx hL hC (by rw [hz2]; omega) (by simp only [maxLen]; omega) hbase ?_
  intro w' h1 h2
  refine h w' ?_ ?_
  · unfold OQ
    rw [madeCells_Q] at h1
    simpa using h1
  · exact (Below.refl base w).grown h2 hbase fun k hk => by cases hk


theorem OQ.atg {base g : Nat} {w : World} {n c k : Nat} {l : List UInt64} (x : UInt64) (h : OQ base w (.slice (some ⟨g, 0, none⟩) n c) l) (hk : l[k]? = some x) :
    base ≤ g ∧ g < w.heap.size ∧ w.cell? ⟨g, k, none⟩ = some (.int .u64 (x.toNat : Int)) ∧ w.frozen? ⟨g, k, none⟩ = false ∧
      ∀ (y : UInt64) (z : Int), z = (y.toNat : Int) → OQ base (w.setCell ⟨g, k, none⟩ (.int .u64 z)) (.slice (some ⟨g, 0, none⟩) n c) (l.set k y) := by
  obtain ⟨g', e, h1, h2, h3, h4, h5⟩ := h.at_ hk
  injection e with e
  injection e with e
  subst e
  exact ⟨h1, h2, h3, h4, h5⟩
theorem RQ.dropw {w : World} {ad : Addr} {l : List UInt64} (h : RQ w (some ad) l) (k : Nat) (hk : 0 < k) : RQ w (some ⟨ad.block, ad.off + k, none⟩) (l.drop k) := by
  have h1 := h.drop k
  have e : ad.add k = ⟨ad.block, ad.off + k, none⟩ := by
    unfold Addr.add
    rw [if_neg (by omega)]
  rw [e] at h1
  exact h1
end Go.Proofs.YtmmehomobmoapaaDoor
