/- Joined: QA QB QP. -/
import Derived.Test.YtegjeijiekggdaaGreatDoorM01
import Derived.Lib.Hide
section
/- Rows of 64-bit words: that came in, and of the call's own. -/
namespace Go.Proofs.YtegjeijiekggdaaGreatDoor
open Go.RowKit
set_option linter.unusedVariables false

def cellQ (x : UInt64) : Value := .int .u64 (x.toNat : Int)
def cellsQ (l : List UInt64) : List Value := l.map cellQ

/-- The slice at the address A reads as the bytes l in w. -/
def RQ (w : World) (A : Option Addr) (l : List UInt64) : Prop :=
  l = [] ∨ ∃ ad, A = some ad ∧ ∀ (j : Nat) (x : UInt64), l[j]? = some x → w.cell? (ad.add j) = some (.int .u64 (x.toNat : Int))

theorem RQ.nil {w : World} {A : Option Addr} : RQ w A [] := .inl rfl
theorem RQ.at_ {w : World} {A : Option Addr} {l : List UInt64} {k : Nat} (h : RQ w A l) (hk : k < l.length) :
    ∃ ad x, A = some ad ∧ l[k]? = some x ∧ w.cell? (ad.add k) = some (.int .u64 (x.toNat : Int)) := by
  rcases h with rfl | ⟨ad, rfl, hc⟩
  · simp at hk
  · exact ⟨ad, l[k], rfl, List.getElem?_eq_getElem hk, hc k _ (List.getElem?_eq_getElem hk)⟩
theorem RQ.keep {w w' : World} {A : Option Addr} {l : List UInt64} (h : RQ w A l) (hk : ∀ p : Addr, p.block < w.heap.size → w'.cell? p = w.cell? p) : RQ w' A l := by
  rcases h with rfl | ⟨ad, rfl, hc⟩
  · exact .inl rfl
  · exact .inr ⟨ad, rfl, fun j x hx => (hk _ (lt_of_cell (hc j x hx))).trans (hc j x hx)⟩
theorem RQ.below {w w' : World} {A : Option Addr} {l : List UInt64} (h : RQ w A l) (hb : Below w.heap.size w w') : RQ w' A l := h.keep fun _ hp => hb.cell hp
theorem RQ.drew {w : World} {A : Option Addr} {l : List UInt64} (h : RQ w A l) : RQ w.drew A l := h
theorem RQ.drewN {w : World} {A : Option Addr} {l : List UInt64} (h : RQ w A l) (k : Nat) : RQ (w.drewN k) A l := h
theorem RQ.alloc {w : World} {A : Option Addr} {l : List UInt64} (h : RQ w A l) (o : Obj) : RQ (w.alloc o) A l := h.keep fun p hp => World.cell?_alloc_lt w o p hp
theorem RQ.take {w : World} {A : Option Addr} {l : List UInt64} (h : RQ w A l) (k : Nat) : RQ w A (l.take k) := by
  rcases h with rfl | ⟨ad, rfl, hc⟩
  · exact .inl (by simp)
  · refine .inr ⟨ad, rfl, fun j x hx => hc j x ?_⟩
    rw [List.getElem?_take] at hx
    split at hx
    · exact hx
    · cases hx
theorem RQ.drop {w : World} {ad : Addr} {l : List UInt64} (h : RQ w (some ad) l) (k : Nat) : RQ w (some (ad.add k)) (l.drop k) := by
  rcases h with rfl | ⟨ad', e, hc⟩
  · exact .inl (by simp)
  · injection e with e
    subst e
    refine .inr ⟨_, rfl, fun j x hx => ?_⟩
    rw [add_of_add]
    exact hc _ x (by rw [← hx, List.getElem?_drop])

/-- The bytes as a number, the highest first. -/
theorem take_snocQ {l : List UInt64} {k : Nat} {x : UInt64} (h : l[k]? = some x) : l.take (k + 1) = l.take k ++ [x] := by
  rw [List.take_add_one, h]; rfl

theorem Tryz.info129 : (Tryz.prog.info? 129).map (fun i => (i.zero, i.size, i.bytes)) = some (some (.int .u64 0), 1, 8) := by kernel_rfl

/-- v is a slice of the bytes l at the head of a row of its own, from block base on. -/
def OQ (base : Nat) (w : World) (v : Value) (l : List UInt64) : Prop := w.ownsRow base 129 1 v l.length (cellsQ l)

theorem OQ.nil {base : Nat} {w : World} : OQ base w (.slice none 0 0) [] := World.ownsRow_nil w base 129 1
theorem OQ.alloc {base : Nat} {w : World} {v : Value} {l : List UInt64} (h : OQ base w v l) (o : Obj) : OQ base (w.alloc o) v l := World.ownsRow.alloc h o
theorem OQ.form {base : Nat} {w : World} {v : Value} {l : List UInt64} (h : OQ base w v l) : ∃ A c, v = .slice A l.length c ∧ l.length ≤ c ∧ RQ w A l := by
  unfold OQ at h
  rcases h.2 with ⟨e, hn⟩ | ⟨g, cap, cur, e, hb, hh, hc, hm, hsz, ht⟩
  · obtain rfl : l = [] := List.eq_nil_of_length_eq_zero hn
    exact ⟨none, 0, e, Nat.le_refl _, .inl rfl⟩
  · refine ⟨some ⟨g, 0, none⟩, cap, e, hc, .inr ⟨_, rfl, fun j x hx => ?_⟩⟩
    subst e
    exact World.ownsRow.cells h (g := g) rfl j _ (by simp [cellsQ, hx, cellQ])
theorem OQ.lift {base B : Nat} {w : World} {v : Value} {l : List UInt64} (h : OQ base w v l) (hB : B ≤ base) : OQ B w v l := by
  unfold OQ at h ⊢
  refine ⟨h.1, ?_⟩
  rcases h.2 with h | ⟨g, cap, cur, e, hb, r⟩
  · exact .inl h
  · exact .inr ⟨g, cap, cur, e, Nat.le_trans hB hb, r⟩
theorem OQ.keep {base B : Nat} {w w' : World} {v : Value} {l : List UInt64} (h : OQ base w v l) (hb : Below B w w') (hB : w.heap.size ≤ B) : OQ base w' v l := by
  unfold OQ at h ⊢
  refine ⟨h.1, ?_⟩
  rcases h.2 with h | ⟨g, cap, cur, e, hb', hh, r⟩
  · exact .inl h
  · refine .inr ⟨g, cap, cur, e, hb', ?_, r⟩
    rw [hb.block g (Nat.lt_of_lt_of_le (by
      rcases Nat.lt_or_ge g w.heap.size with hlt | hge
      · exact hlt
      · rw [Array.getElem?_eq_none hge] at hh; cases hh) hB)]
    exact hh
theorem OQ.len {base : Nat} {w : World} {A : Option Addr} {n c : Nat} {l : List UInt64} (h : OQ base w (.slice A n c) l) : n = l.length := by
  obtain ⟨A', c', e, _⟩ := h.form
  injection e
theorem OQ.reads {base : Nat} {w : World} {A : Option Addr} {n c : Nat} {l : List UInt64} (h : OQ base w (.slice A n c) l) : RQ w A l := by
  obtain ⟨A', c', e, _, hr⟩ := h.form
  injection e with e1
  subst e1
  exact hr
theorem OQ.lit (w : World) (base : Nat) (l : List UInt64) (cs : Array Value) (hcs : cs = (cellsQ l).toArray) (hb : base ≤ w.heap.size) (hn : l.length ≤ maxLen) :
    OQ base (w.alloc (.cells cs 129)) (.slice (some ⟨w.heap.size, 0, none⟩) l.length l.length) l := by
  subst hcs
  have h := World.ownsRow_lit (base := base) (e := 129) (size := 1) w (cellsQ l).toArray l.length hb hn (by simp [cellsQ])
  unfold OQ
  simpa using h
theorem RQ.lit (w : World) (l : List UInt64) (cs : Array Value) (hcs : cs = (cellsQ l).toArray) (hn : l.length ≤ maxLen) : RQ (w.alloc (.cells cs 129)) (some ⟨w.heap.size, 0, none⟩) l :=
  (OQ.lit w w.heap.size l cs hcs (Nat.le_refl _) hn).reads
theorem RQ.one (w : World) (z : Int) (x : UInt64) (h : z = (x.toNat : Int)) : RQ (w.alloc (.cells #[.int .u64 z] 129)) (some ⟨w.heap.size, 0, none⟩) [x] :=
  RQ.lit w [x] _ (by simp [cellsQ, cellQ, h]) (by simp [maxLen])

set_option maxRecDepth 100000 in
theorem run_append_Q {base : Nat} {w : World} {v : Value} {l : List UInt64} (ty : TypeId) (hown : OQ base w v l) {A : Option Addr} {m : Nat} (c : Nat) {news : List UInt64} (hm : news.length = m) (hr : RQ w A news)
    (hbound : l.length + m ≤ 1000000) (hbase : base ≤ w.heap.size) :
    ∃ v' w', (Builtin.append_ #[40, 40] ty #[v, .slice A m c]).run Tryz.prog w = .ok v' w' ∧ OQ base w' v' (l ++ news) ∧ Below base w w' ∧ w.grownBy w' v.ownBlock := by
  obtain ⟨i0, hi, hz0, hz1, hz2⟩ := info_parts Tryz.info129
  subst hm
  rcases Classical.em (A = none) with rfl | hA
  · have hn : news = [] := by
      rcases hr with h | ⟨ad, h, _⟩
      · exact h
      · cases h
    subst hn
    refine ⟨v, w, ?_, by simpa using hown, Below.refl _ _, ⟨rfl, rfl, rfl, Nat.le_refl _, fun _ _ _ => rfl⟩⟩
    unfold OQ at hown
    rcases hown.2 with ⟨rfl, hl⟩ | ⟨g, cap, cur, rfl, _, _, hnc, _⟩
    · simp [Builtin.append_, run_underlying Tryz.underlying40, sizeOf, typeInfo, hi, Builtin.lenOf, Builtin.firstCells]
    · simp [Builtin.append_, run_underlying Tryz.underlying40, sizeOf, typeInfo, hi, Builtin.lenOf, Builtin.firstCells, hnc, storeCells]
  · obtain ⟨ad, rfl⟩ := Option.ne_none_iff_exists'.1 hA
    have hcells : ∀ j u, (cellsQ news)[j]? = some u → w.cell? (ad.add j) = some u := by
      intro j u hu
      simp only [cellsQ, List.getElem?_map, Option.map_eq_some_iff] at hu
      obtain ⟨x, hx, rfl⟩ := hu
      rcases hr with h | ⟨ad', h, hc⟩
      · subst h; simp at hx
      · injection h with h
        subst h
        exact hc j x hx
    obtain ⟨v', w', hrun, h2, h3, _, _⟩ := run_append_own_at (P := Tryz.prog) w base 40 ty 129 i0 _ 1 8 Tryz.underlying40 hi hz0 hz1 hz2 rfl (by omega) v l.length (cellsQ l) hown ad news.length c (cellsQ news)
      (by simp [cellsQ]) hcells (by intro u hu; simp only [cellsQ, List.mem_map] at hu; obtain ⟨x, _, rfl⟩ := hu; rfl) (by simp only [maxLen]; omega) (by omega) hbase
    refine ⟨v', w', hrun, ?_, ?_, h3⟩
    · unfold OQ
      simpa [cellsQ] using h2
    · refine (Below.refl base w).grown h3 hbase fun k hk => ?_
      exact (World.ownsRow.lt hown k hk).1

theorem RQ.grown {w w' : World} {ad : Addr} {l : List UInt64} {row : Option Nat} (h : RQ w (some ad) l) (hg : w.grownBy w' row) (hne : some ad.block ≠ row) : RQ w' (some ad) l := by
  rcases h with rfl | ⟨ad', e, hc⟩
  · exact .inl rfl
  · injection e with e
    subst e
    exact .inr ⟨_, rfl, fun j x hx => hg.cell (hc j x hx) (by rw [block_of_add]; exact hne)⟩

theorem wpList_append_Q {w : World} {ops : Array Oper} {rest : List Oper} {o : Oper} {a : Act} {Q : Exit → Act → World → Prop} (hgd : o.guard = none) (s x : Operand)
    (ho : o.op = .call { callee := .builtin .append, args := #[s, x], argTypes := #[40, 40] })
    (base : Nat) (v : Value) (l : List UInt64) (hs : a.eval s = v) (hown : OQ base w v l) (A : Option Addr) (m c : Nat) (news : List UInt64) (hx : a.eval x = .slice A m c) (hm : news.length = m) (hr : RQ w A news)
    (hbound : l.length + m ≤ 1000000) (hbase : base ≤ w.heap.size)
    (h : ∀ v' w', OQ base w' v' (l ++ news) → Below base w w' → wpList Tryz.prog ops Q rest (a.put o.dst v') w') : wpList Tryz.prog ops Q (o :: rest) a w :=
  wpList_plain hgd fun K hK => by
    obtain ⟨v', w', hrun, h2, h3, _⟩ := run_append_Q o.type hown c hm hr hbound hbase
    unfold Oper.wp execOp
    simp only [ho, resolve, invoke, builtin, Sem.run_bind, Sem.run_pure, Result.andThen_ok, List.map_toArray, List.map_cons, List.map_nil, hs, hx, hrun]
    exact hK _ _ (h v' w' h2 h3)


theorem OQ.at_ {base : Nat} {w : World} {A : Option Addr} {n c k : Nat} {l : List UInt64} {x : UInt64} (h : OQ base w (.slice A n c) l) (hk : l[k]? = some x) :
    ∃ g, A = some ⟨g, 0, none⟩ ∧ base ≤ g ∧ g < w.heap.size ∧ w.cell? ⟨g, k, none⟩ = some (.int .u64 (x.toNat : Int)) ∧ w.frozen? ⟨g, k, none⟩ = false ∧
      ∀ (y : UInt64) (z : Int), z = (y.toNat : Int) → OQ base (w.setCell ⟨g, k, none⟩ (.int .u64 z)) (.slice A n c) (l.set k y) := by
  have hlen := h.len
  subst hlen
  have hl : k < l.length := (List.getElem?_eq_some_iff.1 hk).1
  unfold OQ at h
  rcases h.2 with ⟨_, h0⟩ | ⟨g, cap, cur, e, hb, hh, r⟩
  · omega
  · have hg : g < w.heap.size := by
      rcases Nat.lt_or_ge g w.heap.size with hlt | hge
      · exact hlt
      · rw [Array.getElem?_eq_none hge] at hh; cases hh
    injection e with e1 e2 e3
    subst e1 e3
    refine ⟨g, rfl, hb, hg, ?_, World.ownsRow.frozenAt h k, ?_⟩
    · rw [World.ownsRow.cellAt h k (by omega)]
      simp [cellsQ, hk, cellQ]
    · intro y z hz
      have hs := World.ownsRow.stored h k (.int .u64 z)
      unfold OQ
      simpa [cellsQ, cellQ, hz, List.map_set] using hs.1

theorem set_lastQ {a : List UInt64} {k : Nat} (h : a.length = k) (x y : UInt64) : (a ++ [x]).set k y = a ++ [y] := by
  subst h
  simp

theorem step_append_Q {w : World} {ops : Array Oper} {o : Oper} {a : Act} {K : Act → World → Prop} {Q : Exit → Act → World → Prop} {E : Prop} (hgd : o.guard = none) (s x : Operand)
    (ho : o.op = .call { callee := .builtin .append, args := #[s, x], argTypes := #[40, 40] })
    (base : Nat) (v : Value) (l : List UInt64) (hs : a.eval s = v) (hown : OQ base w v l) (A : Option Addr) (m c : Nat) (news : List UInt64) (hx : a.eval x = .slice A m c) (hm : news.length = m) (hr : RQ w A news)
    (hbound : l.length + m ≤ 1000000) (hbase : base ≤ w.heap.size)
    (h : ∀ v' w', OQ base w' v' (l ++ news) → Below base w w' → w.grownBy w' v.ownBlock → K (a.put o.dst v') w') :
    if Region.wanted o (yielded ops a.tmps) = true then Oper.wp Tryz.prog o a w K Q else E := by
  have hw : Region.wanted o (yielded ops a.tmps) = true := by simp [Region.wanted, hgd]
  rw [if_pos hw]
  obtain ⟨v', w', hrun, h2, h3, h4⟩ := run_append_Q o.type hown c hm hr hbound hbase
  unfold Oper.wp execOp
  simp only [ho, resolve, invoke, builtin, Sem.run_bind, Sem.run_pure, Result.andThen_ok, List.map_toArray, List.map_cons, List.map_nil, hs, hx, hrun]
  exact h v' w' h2 h3 h4


theorem zeroCells_Q (m : Nat) : (Builtin.zeroCells (Value.int .u64 0).cells m).toList = cellsQ (List.replicate m 0) := by
  have h : (Builtin.zeroCells (Value.int .u64 0).cells m).size = m := by simp [Builtin.zeroCells, Value.cells]
  apply List.ext_getElem
  · simp [cellsQ, h]
  · intro i h1 h2
    simp [Builtin.zeroCells, cellsQ, cellQ, Value.cells, Nat.mod_one]
theorem madeCells_Q (m : Nat) : (madeCells (Value.int .u64 0).cells (m * 1)).toList = cellsQ (List.replicate m 0) := by
  apply List.ext_getElem
  · simp [cellsQ, madeCells]
  · intro i h1 h2
    simp [madeCells, cellsQ, cellQ, Value.cells, Nat.mod_one]

theorem wpList_make_Q {w : World} {ops : Array Oper} {rest : List Oper} {o : Oper} {a : Act} {Q : Exit → Act → World → Prop} (hgd : o.guard = none) (s x : Operand)
    (ho : o.op = Op.makeSlice 40 s x) (base n : Nat) (L C : Int) (hs : a.eval s = .int .i64 L) (hx : a.eval x = .int .i64 C) (hL : L = (n : Int)) (hC : C = (n : Int)) (hn : n ≤ 1000000) (hbase : base ≤ w.heap.size)
    (h : ∀ w', OQ base w' (.slice (some ⟨w.heap.size, 0, none⟩) n n) (List.replicate n 0) → Below base w w' → wpList Tryz.prog ops Q rest (a.put o.dst (.slice (some ⟨w.heap.size, 0, none⟩) n n)) w') : wpList Tryz.prog ops Q (o :: rest) a w := by
  obtain ⟨i0, hi, hz0, hz1, hz2⟩ := info_parts Tryz.info129
  refine wpList_make_full w hgd s x 40 ho base 129 i0 _ 1 Tryz.underlying40 hi hz0 hz1 .i64 .i64 L C n hs hx hL hC (by rw [hz2]; omega) (by simp only [maxLen]; omega) hbase ?_
  intro w' h1 h2
  refine h w' ?_ ?_
  · unfold OQ
    rw [madeCells_Q] at h1
    simpa using h1
  · exact (Below.refl base w).grown h2 hbase fun k hk => by cases hk


theorem OQ.atg {base g : Nat} {w : World} {n c k : Nat} {l : List UInt64} (x : UInt64) (h : OQ base w (.slice (some ⟨g, 0, none⟩) n c) l) (hk : l[k]? = some x) :
    base ≤ g ∧ g < w.heap.size ∧ w.cell? ⟨g, k, none⟩ = some (.int .u64 (x.toNat : Int)) ∧ w.frozen? ⟨g, k, none⟩ = false ∧
      ∀ (y : UInt64) (z : Int), z = (y.toNat : Int) → OQ base (w.setCell ⟨g, k, none⟩ (.int .u64 z)) (.slice (some ⟨g, 0, none⟩) n c) (l.set k y) := by
  obtain ⟨g', e, h1, h2, h3, h4, h5⟩ := h.at_ hk
  injection e with e
  injection e with e
  subst e
  exact ⟨h1, h2, h3, h4, h5⟩
theorem RQ.dropw {w : World} {ad : Addr} {l : List UInt64} (h : RQ w (some ad) l) (k : Nat) (hk : 0 < k) : RQ w (some ⟨ad.block, ad.off + k, none⟩) (l.drop k) := by
  have h1 := h.drop k
  have e : ad.add k = ⟨ad.block, ad.off + k, none⟩ := by
    unfold Addr.add
    rw [if_neg (by omega)]
  rw [e] at h1
  exact h1
end Go.Proofs.YtegjeijiekggdaaGreatDoor
end
section
/- The package bitmap: sizes, words, what spills. -/
namespace Go.Proofs.YtegjeijiekggdaaGreatDoor
open Go.RowKit
set_option linter.unusedVariables false
set_option linter.unusedSimpArgs false
theorem shr_nat (x k : Nat) : (x : Int) / 2 ^ k = ((x / 2 ^ k : Nat) : Int) := by simp
theorem bne_int (y : Nat) : ((y : Int) != 0) = decide (y ≠ 0) := by
  by_cases h : y = 0
  · subst h; rfl
  · rw [decide_eq_true h]; simp; omega
theorem tmod64 (s : Nat) : (s : Int).tmod 64 = ((s % 64 : Nat) : Int) := by rw [Int.tmod_eq_emod_of_nonneg (by omega)]; omega
theorem goodSize_any (s : Int) (w : World) : Calls Tryz.prog 112 #[.int .i64 s] w fun e w' => e = .returned (.bool (decide (0 ≤ s ∧ s ≤ 4096))) ∧ w = w' := by
  by_cases h0 : 0 ≤ s
  · by_cases h1 : s ≤ 4096
    · go_enter Tryz.func112, Tryz.ntmps112
      go_wp2
      go_ret
      exact ⟨by simp [h0, h1], rfl⟩
    · have h1' : decide (s ≤ 4096) = false := by simp; omega
      go_enter Tryz.func112, Tryz.ntmps112
      go_wp2
      go_ret
      exact ⟨by simp [h0, h1], rfl⟩
  · have h0' : decide (0 ≤ s) = false := by simp; omega
    go_enter Tryz.func112, Tryz.ntmps112
    go_wp2
    go_ret
    exact ⟨by simp [h0], rfl⟩
theorem wordsOf_any (s : Nat) (hs : s ≤ 4096) (w : World) : Calls Tryz.prog 113 #[.int .i64 (s : Int)] w fun e w' => e = .returned (.int .i64 (((s + 63) / 64 : Nat) : Int)) ∧ w = w' := by
  go_enter Tryz.func113, Tryz.ntmps113
  go_wp2
  go_ret
  exact ⟨congrArg (fun z => Ending.returned (Value.int .i64 z)) (show ((s : Int) + 64 - 1) / 64 = (((s + 63) / 64 : Nat) : Int) from by omega), rfl⟩
theorem below_any (s n : Int) (v : Value) (w : World) : Calls Tryz.prog 76 #[.agg #[.int .i64 s, v], .int .i64 n] w fun e w' => e = .returned (.bool (decide (0 ≤ n ∧ n < s))) ∧ Below w.heap.size w w' := by
  have B0 := Lib.hid ((Below.refl _ w).alloc (Nat.le_refl _) (.cells #[.int .i64 s, v] 64))
  by_cases h0 : 0 ≤ n
  · by_cases h1 : n < s
    · go_enter Tryz.func76, Tryz.ntmps76
      go_wp2
      go_ret
      exact ⟨by simp [h0, h1], B0.out⟩
    · have h1' : decide (n < s) = false := by simp; omega
      go_enter Tryz.func76, Tryz.ntmps76
      go_wp2
      go_ret
      exact ⟨by simp [h0, h1], B0.out⟩
  · have h0' : decide (0 ≤ n) = false := by simp; omega
    go_enter Tryz.func76, Tryz.ntmps76
    go_wp2
    go_ret
    exact ⟨by simp [h0], B0.out⟩
theorem spills_no (s : Nat) (v : Value) (w : World) (hu : s % 64 = 0) : Calls Tryz.prog 124 #[.agg #[.int .i64 (s : Int), v]] w fun e w' => e = .returned (.bool false) ∧ Below w.heap.size w w' := by
  have B0 := Lib.hid ((Below.refl _ w).alloc (Nat.le_refl _) (.cells #[.int .i64 (s : Int), v] 64))
  have hm : (s : Int).tmod 64 = 0 := by rw [tmod64]; omega
  go_enter Tryz.func124, Tryz.ntmps124
  go_wp2
  go_ret
  exact ⟨rfl, B0.out⟩
theorem spills_yes (s k n : Nat) (x : UInt64) (ad : Addr) (c : Nat) (w : World) (hs : s ≤ 4096) (hk : s % 64 = k) (hk0 : 0 < k) (hx : w.cell? (ad.add (n - 1)) = some (.int .u64 (x.toNat : Int))) (hn : 0 < n) (hn2 : n ≤ 64) : Calls Tryz.prog 124 #[.agg #[.int .i64 (s : Int), .slice (some ad) n c]] w fun e w' => e = .returned (.bool (decide (x.toNat / 2 ^ k ≠ 0))) ∧ Below w.heap.size w w' := by
  have B0 := Lib.hid ((Below.refl _ w).alloc (Nat.le_refl _) (.cells #[.int .i64 (s : Int), .slice (some ad) n c] 64))
  have hm : (s : Int).tmod 64 = (k : Int) := by rw [tmod64]; omega
  have hx' := (World.cell?_alloc_lt w (.cells #[.int .i64 (s : Int), .slice (some ad) n c] 64) _ (lt_of_cell hx)).trans hx
  have hk0' : (0 : Int) < (k : Int) := by omega
  go_enter Tryz.func124, Tryz.ntmps124
  go_wp2
  go_ret
  refine ⟨?_, B0.out⟩
  rw [shr_nat]
  exact congrArg (fun b => Ending.returned (.bool b)) (by rw [bne_int])
end Go.Proofs.YtegjeijiekggdaaGreatDoor
end
section
/- How many bits of a word are 1: what the sums of pairs, of fours and of bytes come to (plain). -/
namespace Go.Proofs.YtegjeijiekggdaaGreatDoor
set_option linter.unusedVariables false
/-- How many numbers below n have p. -/
def cnt (p : Nat → Bool) : Nat → Nat
  | 0 => 0
  | n + 1 => cnt p n + (p n).toNat
theorem cnt_le (p : Nat → Bool) : ∀ n, cnt p n ≤ n
  | 0 => Nat.le_refl _
  | n + 1 => by
    have := cnt_le p n
    have := Bool.toNat_le (p n)
    show cnt p n + (p n).toNat ≤ n + 1
    omega
theorem cnt_congr {p q : Nat → Bool} : ∀ n, (∀ i, i < n → p i = q i) → cnt p n = cnt q n
  | 0, _ => rfl
  | n + 1, h => by
    show cnt p n + (p n).toNat = cnt q n + (q n).toNat
    rw [cnt_congr n (fun i hi => h i (by omega)), h n (by omega)]
theorem cnt_add (p : Nat → Bool) (a : Nat) : ∀ b, cnt p (a + b) = cnt p a + cnt (fun i => p (a + i)) b
  | 0 => rfl
  | b + 1 => by
    show cnt p (a + b) + (p (a + b)).toNat = cnt p a + (cnt (fun i => p (a + i)) b + (p (a + b)).toNat)
    rw [cnt_add p a b]
    omega
def mask (k : Nat) : Nat → Nat
  | 0 => 0
  | n + 1 => k + 256 * mask k n
def f1 (b : Nat) : Nat := (b / 2 &&& 0x55) + (b &&& 0x55)
def f2 (b : Nat) : Nat := (b / 4 &&& 0x33) + (b &&& 0x33)
def f3 (b : Nat) : Nat := b / 16 + b &&& 0x0f
theorem and_split (x y : Nat) : x &&& y = (x % 256 &&& y % 256) + 256 * (x / 256 &&& y / 256) := by
  have h1 : (x &&& y) % 2 ^ 8 = x % 2 ^ 8 &&& y % 2 ^ 8 := Nat.and_mod_two_pow
  have h2 : (x &&& y) / 2 ^ 8 = x / 2 ^ 8 &&& y / 2 ^ 8 := Nat.and_div_two_pow
  have h3 : (2 : Nat) ^ 8 = 256 := by decide
  rw [h3] at h1 h2
  have := Nat.div_add_mod (x &&& y) 256
  omega
theorem and_mask (x k n : Nat) (hk : k < 256) : x &&& mask k (n + 1) = (x % 256 &&& k) + 256 * (x / 256 &&& mask k n) := by
  rw [and_split]
  have e1 : mask k (n + 1) % 256 = k := by show (k + 256 * mask k n) % 256 = k; omega
  have e2 : mask k (n + 1) / 256 = mask k n := by show (k + 256 * mask k n) / 256 = mask k n; omega
  rw [e1, e2]
theorem t1 : ∀ b : Fin 256, ∀ c : Fin 2, (b.val / 2 + 128 * c.val) &&& 0x55 = b.val / 2 &&& 0x55 := by decide +kernel
theorem t2 : ∀ b : Fin 256, ∀ c : Fin 4, (b.val / 4 + 64 * c.val) &&& 0x33 = b.val / 4 &&& 0x33 := by decide +kernel
theorem t3 : ∀ b : Fin 256, ∀ c : Fin 16, b.val / 16 ≤ 4 → b.val % 16 ≤ 4 → c.val ≤ 4 → (b.val / 16 + 16 * c.val + b.val) &&& 0x0f = b.val / 16 + b.val &&& 0x0f := by decide +kernel
theorem t4 : ∀ b : Fin 256, f2 (f1 b.val) / 16 ≤ 4 ∧ f2 (f1 b.val) % 16 ≤ 4 ∧ f1 b.val < 256 ∧ f2 (f1 b.val) < 256 := by decide +kernel
def stage1 (n x : Nat) : Nat := (x / 2 &&& mask 0x55 n) + (x &&& mask 0x55 n)
def stage2 (n x : Nat) : Nat := (x / 4 &&& mask 0x33 n) + (x &&& mask 0x33 n)
def stage3 (n x : Nat) : Nat := x / 16 + x &&& mask 0x0f n
theorem stage1_cons (n b x : Nat) (hb : b < 256) : stage1 (n + 1) (b + 256 * x) = f1 b + 256 * stage1 n x := by
  unfold stage1 f1
  rw [and_mask _ _ _ (by omega), and_mask _ _ _ (by omega)]
  have e1 : (b + 256 * x) / 2 % 256 = b / 2 + 128 * (x % 2) := by omega
  have e2 : (b + 256 * x) / 2 / 256 = x / 2 := by omega
  have e3 : (b + 256 * x) % 256 = b := by omega
  have e4 : (b + 256 * x) / 256 = x := by omega
  have := t1 ⟨b, hb⟩ ⟨x % 2, by omega⟩
  simp only at this
  rw [e1, e2, e3, e4, this]
  omega
theorem stage2_cons (n b x : Nat) (hb : b < 256) : stage2 (n + 1) (b + 256 * x) = f2 b + 256 * stage2 n x := by
  unfold stage2 f2
  rw [and_mask _ _ _ (by omega), and_mask _ _ _ (by omega)]
  have e1 : (b + 256 * x) / 4 % 256 = b / 4 + 64 * (x % 4) := by omega
  have e2 : (b + 256 * x) / 4 / 256 = x / 4 := by omega
  have e3 : (b + 256 * x) % 256 = b := by omega
  have e4 : (b + 256 * x) / 256 = x := by omega
  have := t2 ⟨b, hb⟩ ⟨x % 4, by omega⟩
  simp only at this
  rw [e1, e2, e3, e4, this]
  omega
theorem stage3_cons (n b x : Nat) (hb : b < 256) (h1 : b / 16 ≤ 4) (h2 : b % 16 ≤ 4) (h3 : x % 16 ≤ 4) : stage3 (n + 1) (b + 256 * x) = f3 b + 256 * stage3 n x := by
  unfold stage3 f3
  rw [and_mask _ _ _ (by omega)]
  have e1 : ((b + 256 * x) / 16 + (b + 256 * x)) % 256 = b / 16 + 16 * (x % 16) + b := by omega
  have e2 : ((b + 256 * x) / 16 + (b + 256 * x)) / 256 = x / 16 + x := by omega
  have := t3 ⟨b, hb⟩ ⟨x % 16, by omega⟩ h1 h2 h3
  simp only at this
  rw [e1, e2, this]
/-- The bytes of x, the low one first. -/
def low8 : Nat → Nat → List Nat
  | 0, _ => []
  | n + 1, x => x % 256 :: low8 n (x / 256)
def tot : List Nat → Nat
  | [] => 0
  | b :: l => b + 256 * tot l
theorem tot_low8 : ∀ n x, x < 256 ^ n → tot (low8 n x) = x
  | 0, x, h => by simp at h; subst h; rfl
  | n + 1, x, h => by
    show x % 256 + 256 * tot (low8 n (x / 256)) = x
    rw [tot_low8 n (x / 256) (by rw [Nat.pow_succ] at h; omega)]
    omega
theorem low8_lt : ∀ n x, ∀ b ∈ low8 n x, b < 256
  | 0, _, _, h => by cases h
  | n + 1, x, b, h => by
    rcases List.mem_cons.1 h with rfl | h
    · omega
    · exact low8_lt n _ b h
theorem low8_len : ∀ n x, (low8 n x).length = n
  | 0, _ => rfl
  | n + 1, x => by show (low8 n (x / 256)).length + 1 = n + 1; rw [low8_len]
theorem stage1_tot : ∀ l : List Nat, (∀ b ∈ l, b < 256) → stage1 l.length (tot l) = tot (l.map f1)
  | [], _ => by decide
  | b :: l, h => by
    show stage1 (l.length + 1) (b + 256 * tot l) = f1 b + 256 * tot (l.map f1)
    rw [stage1_cons _ _ _ (h b (by simp)), stage1_tot l (fun c hc => h c (by simp [hc]))]
theorem stage2_tot : ∀ l : List Nat, (∀ b ∈ l, b < 256) → stage2 l.length (tot l) = tot (l.map f2)
  | [], _ => by decide
  | b :: l, h => by
    show stage2 (l.length + 1) (b + 256 * tot l) = f2 b + 256 * tot (l.map f2)
    rw [stage2_cons _ _ _ (h b (by simp)), stage2_tot l (fun c hc => h c (by simp [hc]))]
theorem tot_mod (l : List Nat) (h : ∀ b ∈ l, b % 16 ≤ 4) : tot l % 16 ≤ 4 := by
  cases l with
  | nil => decide
  | cons b l => have := h b (by simp); show (b + 256 * tot l) % 16 ≤ 4; omega
theorem stage3_tot : ∀ l : List Nat, (∀ b ∈ l, b < 256 ∧ b / 16 ≤ 4 ∧ b % 16 ≤ 4) → stage3 l.length (tot l) = tot (l.map f3)
  | [], _ => by decide
  | b :: l, h => by
    show stage3 (l.length + 1) (b + 256 * tot l) = f3 b + 256 * tot (l.map f3)
    have hb := h b (by simp)
    rw [stage3_cons _ _ _ hb.1 hb.2.1 hb.2.2 (tot_mod l (fun c hc => (h c (by simp [hc])).2.2)), stage3_tot l (fun c hc => h c (by simp [hc]))]
def ones8 (b : Nat) : Nat := cnt b.testBit 8
theorem t5 : ∀ b : Fin 256, f3 (f2 (f1 b.val)) = ones8 b.val ∧ ones8 b.val ≤ 8 := by decide +kernel
def onesOf (x : Nat) : Nat := cnt x.testBit 64
theorem bits_low8 : ∀ n x, cnt x.testBit (8 * n) = ((low8 n x).map ones8).sum
  | 0, _ => rfl
  | n + 1, x => by
    show cnt x.testBit (8 * (n + 1)) = ones8 (x % 256) + ((low8 n (x / 256)).map ones8).sum
    rw [show 8 * (n + 1) = 8 + 8 * n by omega, cnt_add, ← bits_low8 n (x / 256)]
    have e1 : cnt x.testBit 8 = ones8 (x % 256) := cnt_congr 8 fun i hi => by
      rw [show (256 : Nat) = 2 ^ 8 by decide, Nat.testBit_mod_two_pow]
      simp [hi]
    have e2 : cnt (fun i => x.testBit (8 + i)) (8 * n) = cnt (x / 256).testBit (8 * n) := cnt_congr _ fun i _ => by
      show x.testBit (8 + i) = _
      rw [show (256 : Nat) = 2 ^ 8 by decide, Nat.testBit_div_two_pow, Nat.add_comm]
    rw [e1, e2]
theorem tot_lt : ∀ l : List Nat, (∀ b ∈ l, b < 256) → tot l < 256 ^ l.length
  | [], _ => by decide
  | b :: l, h => by
    have h1 := tot_lt l (fun c hc => h c (by simp [hc]))
    have h2 := h b (by simp)
    show b + 256 * tot l < 256 ^ (l.length + 1)
    rw [Nat.pow_succ]
    omega
theorem tot_half : ∀ l : List Nat, (∀ b ∈ l, b ≤ 79) → tot l * 2 < 256 ^ l.length
  | [], _ => by decide
  | b :: l, h => by
    have h1 := tot_half l (fun c hc => h c (by simp [hc]))
    have h2 := h b (by simp)
    show (b + 256 * tot l) * 2 < 256 ^ (l.length + 1)
    rw [Nat.pow_succ]
    omega
theorem list8 {l : List Nat} (h : l.length = 8) : ∃ a b c d e f g i, l = [a, b, c, d, e, f, g, i] := by
  match l, h with
  | [a, b, c, d, e, f, g, i], _ => exact ⟨a, b, c, d, e, f, g, i, rfl⟩
theorem fin8 (o0 o1 o2 o3 o4 o5 o6 o7 T0 T1 T2 T3 T4 T5 T6 : Nat) (c0 : o0 ≤ 8) (c1 : o1 ≤ 8) (c2 : o2 ≤ 8) (c3 : o3 ≤ 8) (c4 : o4 ≤ 8) (c5 : o5 ≤ 8) (c6 : o6 ≤ 8) (c7 : o7 ≤ 8)
    (h0 : T0 = o0 + 256 * T1) (h1 : T1 = o1 + 256 * T2) (h2 : T2 = o2 + 256 * T3) (h3 : T3 = o3 + 256 * T4) (h4 : T4 = o4 + 256 * T5) (h5 : T5 = o5 + 256 * T6) (h6 : T6 = o6 + 256 * o7) :
    T0 + T0 / 256 < 18446744073709551616 ∧ (T0 + T0 / 256) + (T0 + T0 / 256) / 65536 < 18446744073709551616 ∧ ((T0 + T0 / 256) + (T0 + T0 / 256) / 65536) + ((T0 + T0 / 256) + (T0 + T0 / 256) / 65536) / 4294967296 < 9223372036854775808 ∧ (((T0 + T0 / 256) + (T0 + T0 / 256) / 65536) + ((T0 + T0 / 256) + (T0 + T0 / 256) / 65536) / 4294967296) % 128 = o0 + (o1 + (o2 + (o3 + (o4 + (o5 + (o6 + o7)))))) := by
  have k1 : T0 / 256 = T1 := by clear h1 h2 h3 h4 h5 h6; omega
  rw [k1]
  have k2 : (T0 + T1) / 65536 = T2 + T3 := by
    have e : T0 + T1 = (o0 + o1) + 256 * (o1 + o2) + 65536 * (T2 + T3) := by clear h3 h4 h5 h6; omega
    rw [e]
    clear h0 h1 h2 h3 h4 h5 h6 k1 e
    omega
  rw [k2]
  have k3 : (T0 + T1 + (T2 + T3)) / 4294967296 = T4 + T5 + T6 + o7 := by
    have e : T0 + T1 + (T2 + T3) = (o0 + o1 + o2 + o3) + 256 * (o1 + o2 + o3 + o4) + 65536 * (o2 + o3 + o4 + o5) + 16777216 * (o3 + o4 + o5 + o6) + 4294967296 * (T4 + T5 + T6 + o7) := by clear k1 k2; omega
    rw [e]
    clear h0 h1 h2 h3 h4 h5 h6 k1 k2 e
    omega
  rw [k3]
  have z6 : T6 ≤ 2056 := by omega
  have z5 : T5 ≤ 526344 := by omega
  have z4 : T4 ≤ 134744072 := by omega
  have z3 : T3 ≤ 34494482440 := by omega
  have z2 : T2 ≤ 8830587504648 := by omega
  have z1 : T1 ≤ 2260630401189896 := by omega
  have z0 : T0 ≤ 578721382704613384 := by omega
  refine ⟨by omega, by omega, by omega, ?_⟩
  clear z0 z1 z2 z3 z4 z5 z6 k1 k2 k3
  omega
/-- The whole: what math/bits.OnesCount64 makes of x. -/
theorem swar (x a b c : Nat) (hx : x < 18446744073709551616) (ha : a = stage1 8 x) (hb : b = stage2 8 a) (hc : c = stage3 8 b) :
    a < 18446744073709551616 ∧ b < 18446744073709551616 ∧ b / 16 + b < 18446744073709551616 ∧ c + c / 256 < 18446744073709551616 ∧ (c + c / 256) + (c + c / 256) / 65536 < 18446744073709551616 ∧ ((c + c / 256) + (c + c / 256) / 65536) + ((c + c / 256) + (c + c / 256) / 65536) / 4294967296 < 9223372036854775808 ∧ (((c + c / 256) + (c + c / 256) / 65536) + ((c + c / 256) + (c + c / 256) / 65536) / 4294967296) % 128 = onesOf x := by
  have hl := low8_len 8 x
  have hlt := low8_lt 8 x
  have ht := tot_low8 8 x (by show x < 256 ^ 8; rw [show (256 : Nat) ^ 8 = 18446744073709551616 by decide]; exact hx)
  have hs : onesOf x = ((low8 8 x).map ones8).sum := bits_low8 8 x
  generalize low8 8 x = l at *
  have e1 : a = tot (l.map f1) := by rw [ha, ← ht]; have := stage1_tot l hlt; rw [hl] at this; exact this
  have e2 : b = tot ((l.map f1).map f2) := by
    rw [hb, e1]
    have := stage2_tot (l.map f1) (fun y hy => by obtain ⟨z, hz, rfl⟩ := List.mem_map.1 hy; exact (t4 ⟨z, hlt z hz⟩).2.2.1)
    rw [List.length_map, hl] at this
    exact this
  have e3 : c = tot (((l.map f1).map f2).map f3) := by
    rw [hc, e2]
    have := stage3_tot ((l.map f1).map f2) (fun y hy => by
      obtain ⟨z, hz, rfl⟩ := List.mem_map.1 hy
      obtain ⟨u, hu, rfl⟩ := List.mem_map.1 hz
      have := t4 ⟨u, hlt u hu⟩
      exact ⟨this.2.2.2, this.1, this.2.1⟩)
    rw [List.length_map, List.length_map, hl] at this
    exact this
  have ba : a < 18446744073709551616 := by
    have := tot_lt (l.map f1) (fun y hy => by obtain ⟨z, hz, rfl⟩ := List.mem_map.1 hy; exact (t4 ⟨z, hlt z hz⟩).2.2.1)
    rw [List.length_map, hl, show (256 : Nat) ^ 8 = 18446744073709551616 by decide, ← e1] at this
    exact this
  have bb : b * 2 < 18446744073709551616 := by
    have := tot_half ((l.map f1).map f2) (fun y hy => by
      obtain ⟨z, hz, rfl⟩ := List.mem_map.1 hy
      obtain ⟨u, hu, rfl⟩ := List.mem_map.1 hz
      have := t4 ⟨u, hlt u hu⟩
      simp only at this
      omega)
    rw [List.length_map, List.length_map, hl, show (256 : Nat) ^ 8 = 18446744073709551616 by decide, ← e2] at this
    exact this
  refine ⟨ba, by omega, by omega, ?_⟩
  clear e1 e2 ba bb ha hb hc ht hx
  obtain ⟨b0, b1, b2, b3, b4, b5, b6, b7, rfl⟩ := list8 hl
  have g : ∀ z, z ∈ [b0, b1, b2, b3, b4, b5, b6, b7] → f3 (f2 (f1 z)) = ones8 z ∧ ones8 z ≤ 8 := fun z hz => t5 ⟨z, hlt z hz⟩
  have g0 := g b0 (by simp); have g1 := g b1 (by simp); have g2 := g b2 (by simp); have g3 := g b3 (by simp)
  have g4 := g b4 (by simp); have g5 := g b5 (by simp); have g6 := g b6 (by simp); have g7 := g b7 (by simp)
  simp only [List.map_cons, List.map_nil, tot, List.sum_cons, List.sum_nil, Nat.mul_zero, Nat.add_zero] at e3 hs
  rw [g0.1, g1.1, g2.1, g3.1, g4.1, g5.1, g6.1, g7.1] at e3
  rw [hs]
  exact fin8 _ _ _ _ _ _ _ _ c _ _ _ _ _ _ g0.2 g1.2 g2.2 g3.2 g4.2 g5.2 g6.2 g7.2 e3 rfl rfl rfl rfl rfl rfl
end Go.Proofs.YtegjeijiekggdaaGreatDoor
end
