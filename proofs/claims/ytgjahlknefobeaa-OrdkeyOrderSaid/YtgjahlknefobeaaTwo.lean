/- Two rows of bytes that a call owns at once, and an append onto either. -/
import Derived.Test.YtgjahlknefobeaaReg
import Derived.Test.YtgjahlknefobeaaArr
namespace Go.Proofs.Ytgjahlknefobeaa
open Go.RowKit

theorem ob_kept {base : Nat} {w w' : World} {v : Value} {l : List UInt8} {row : Option Nat} (h : OB base w v l) (hg : w.grownBy w' row) (hne : v.ownBlock = none ∨ v.ownBlock ≠ row) : OB base w' v l := World.ownsRow.kept h hg hne

theorem run_append_own_B {base : Nat} {w : World} {v : Value} {l : List UInt8} (ty : TypeId) (hown : OB base w v l) {A : Option Addr} {m : Nat} (c : Nat) {news : List UInt8} (hm : news.length = m) (hr : RB w A news)
    (hbound : l.length + m ≤ 70368744177664) (hbase : base ≤ w.heap.size) :
    ∃ v' w', (Builtin.append_ #[22, 22] ty #[v, .slice A m c]).run Try.prog w = .ok v' w' ∧ OB base w' v' (l ++ news) ∧ Below base w w' ∧ w.grownBy w' v.ownBlock ∧ (v'.ownBlock = v.ownBlock ∨ v'.ownBlock = some w.heap.size) := by
  obtain ⟨i0, hi, hz0, hz1, hz2⟩ := info_parts Try.info5
  subst hm
  rcases Classical.em (A = none) with rfl | hA
  · obtain rfl : news = [] := by
      rcases hr with h | ⟨ad, h, _⟩
      · exact h
      · cases h
    refine ⟨v, w, ?_, by simpa using hown, Below.refl _ _, ⟨rfl, rfl, rfl, Nat.le_refl _, fun _ _ _ => rfl⟩, .inl rfl⟩
    unfold OB at hown
    rcases hown.2 with ⟨rfl, hl⟩ | ⟨g, cap, cur, rfl, _, _, hnc, _⟩
    · simp [Builtin.append_, run_underlying Try.underlying22, sizeOf, typeInfo, hi, Builtin.lenOf, Builtin.firstCells]
    · simp [Builtin.append_, run_underlying Try.underlying22, sizeOf, typeInfo, hi, Builtin.lenOf, Builtin.firstCells, hnc, storeCells]
  · obtain ⟨ad, rfl⟩ := Option.ne_none_iff_exists'.1 hA
    have hcells : ∀ j u, (cellsB news)[j]? = some u → w.cell? (ad.add j) = some u := by
      intro j u hu
      simp only [cellsB, List.getElem?_map, Option.map_eq_some_iff] at hu
      obtain ⟨x, hx, rfl⟩ := hu
      rcases hr with h | ⟨ad', h, hc⟩
      · subst h; simp at hx
      · injection h with h
        subst h
        exact hc j x hx
    obtain ⟨v', w', hrun, h2, h3, _, h5⟩ := run_append_own_at (P := Try.prog) w base 22 ty 5 i0 _ 1 1 Try.underlying22 hi hz0 hz1 hz2 rfl (by omega) v l.length (cellsB l) hown ad news.length c (cellsB news)
      (by simp [cellsB]) hcells (by intro u hu; simp only [cellsB, List.mem_map] at hu; obtain ⟨x, _, rfl⟩ := hu; rfl) (by simp only [maxLen]; omega) (by omega) hbase
    refine ⟨v', w', hrun, ?_, ?_, h3, h5⟩
    · unfold OB
      simpa [cellsB] using h2
    · refine (Below.refl base w).grown h3 hbase fun k hk => ?_
      exact (World.ownsRow.lt hown k hk).1

/-- From block g on the call owns the bytes l in v and the bytes k in u, in two rows. -/
def Two (g : Nat) (w : World) (v : Value) (l : List UInt8) (u : Value) (k : List UInt8) : Prop := g ≤ w.heap.size ∧ OB g w v l ∧ OB g w u k ∧ ∀ b, v.ownBlock = some b → u.ownBlock ≠ some b

theorem Two.swap {g : Nat} {w : World} {v u : Value} {l k : List UInt8} (h : Two g w v l u k) : Two g w u k v l := ⟨h.1, h.2.2.1, h.2.1, fun b hb hv => h.2.2.2 b hv hb⟩
theorem Two.new {g : Nat} {w : World} {v : Value} {l : List UInt8} (h : OB g w v l) (hg : g ≤ w.heap.size) (b : Nat) (hb : b = w.heap.size) : Two g (w.alloc (.cells #[] 5)) v l (.slice (some ⟨b, 0, none⟩) 0 0) [] := by
  subst hb
  refine ⟨by simp; omega, h.alloc _, OB.lit w g [] _ (by simp [cellsB]) hg (by simp [maxLen]), fun b hb he => ?_⟩
  simp only [Value.ownBlock, Option.some.injEq] at he
  subst he
  have := (World.ownsRow.lt h _ hb).2
  omega
theorem Two.append {g : Nat} {w : World} {v u : Value} {l k : List UInt8} (h : Two g w v l u k) (ty : TypeId) {A : Option Addr} {m : Nat} (c : Nat) {news : List UInt8} (hm : news.length = m) (hr : RB w A news) (hbound : l.length + m ≤ 70368744177664) :
    ∃ v' w', (Builtin.append_ #[22, 22] ty #[v, .slice A m c]).run Try.prog w = .ok v' w' ∧ Two g w' v' (l ++ news) u k ∧ Below g w w' := by
  obtain ⟨hg, ho, hu, hne⟩ := h
  obtain ⟨v', w', hrun, h2, h3, h4, h5⟩ := run_append_own_B ty ho c hm hr hbound hg
  have hu' : OB g w' u k := ob_kept hu h4 (by
    cases hb : u.ownBlock with
    | none => exact .inl rfl
    | some b => right; intro e; exact hne b e.symm hb)
  refine ⟨v', w', hrun, ⟨Nat.le_trans hg h3.size, h2, hu', fun b hb he => ?_⟩, h3⟩
  rcases h5 with h5 | h5
  · exact hne b (h5 ▸ hb) he
  · rw [h5] at hb
    injection hb with hb
    subst hb
    have := (World.ownsRow.lt hu _ he).2
    omega

theorem step_own_B {w : World} {ops : Array Oper} {o : Oper} {a : Act} {K : Act → World → Prop} {Q : Exit → Act → World → Prop} {E : Prop} (s x : Operand)
    (ho : o.op = .call { callee := .builtin .append, args := #[s, x], argTypes := #[22, 22] }) (hw : Region.wanted o (yielded ops a.tmps) = true)
    (base : Nat) (v : Value) (l : List UInt8) (hs : a.eval s = v) (hown : OB base w v l) (A : Option Addr) (m c : Nat) (news : List UInt8) (hx : a.eval x = .slice A m c) (hm : news.length = m) (hr : RB w A news)
    (hbound : l.length + m ≤ 70368744177664) (hbase : base ≤ w.heap.size)
    (h : ∀ v' w', OB base w' v' (l ++ news) → Below base w w' → K (a.put o.dst v') w') :
    if Region.wanted o (yielded ops a.tmps) = true then Oper.wp Try.prog o a w K Q else E := by
  rw [if_pos hw]
  obtain ⟨v', w', hrun, h2, h3, _⟩ := run_append_own_B o.type hown c hm hr hbound hbase
  unfold Oper.wp execOp
  simp only [ho, resolve, invoke, builtin, Sem.run_bind, Sem.run_pure, Result.andThen_ok, List.map_toArray, List.map_cons, List.map_nil, hs, hx, hrun]
  exact h v' w' h2 h3
theorem step_two_B {w : World} {ops : Array Oper} {o : Oper} {a : Act} {K : Act → World → Prop} {Q : Exit → Act → World → Prop} {E : Prop} (s x : Operand)
    (ho : o.op = .call { callee := .builtin .append, args := #[s, x], argTypes := #[22, 22] }) (hw : Region.wanted o (yielded ops a.tmps) = true)
    (g : Nat) (v : Value) (l : List UInt8) (u : Value) (k : List UInt8) (hs : a.eval s = v) (hown : Two g w v l u k) (A : Option Addr) (m c : Nat) (news : List UInt8) (hx : a.eval x = .slice A m c) (hm : news.length = m) (hr : RB w A news)
    (hbound : l.length + m ≤ 70368744177664)
    (h : ∀ v' w', Two g w' v' (l ++ news) u k → Below g w w' → K (a.put o.dst v') w') :
    if Region.wanted o (yielded ops a.tmps) = true then Oper.wp Try.prog o a w K Q else E := by
  rw [if_pos hw]
  obtain ⟨v', w', hrun, h2, h3⟩ := hown.append o.type c hm hr hbound
  unfold Oper.wp execOp
  simp only [ho, resolve, invoke, builtin, Sem.run_bind, Sem.run_pure, Result.andThen_ok, List.map_toArray, List.map_cons, List.map_nil, hs, hx, hrun]
  exact h v' w' h2 h3

theorem takeU {P : Program} {md : Region.Mode} {ops : Array Oper} {Q : Exit → Act → World → Prop} {fuel : Nat} {listed : Array Bool} {a : Act} {w : World} (i : Nat) (d : Nat) {oi : Oper}
    (hi : ops[i]? = some oi) (hd : oi.dst = some d) (hs : Region.noSelect ops = true) (hf : Region.free md ops listed i = true) (hr : (Region.ready md ops listed).contains i = true)
    (hQ : ∀ c a w, Q (.panic c) (a.put (some d) undef) w → Q (.panic c) a w) (hw : Region.wanted oi (yielded ops a.tmps) = false)
    (h : wpAny P md ops Q fuel (listed.setIfInBounds i true) (a.put (some d) undef) w) : wpAny P md ops Q (fuel + 1) listed a w :=
  wpAny_take (v := undef) hi hs hf hr (by rw [hd]; exact hQ) (.inr ⟨hw, rfl⟩) (by rw [hd]; exact h)
end Go.Proofs.Ytgjahlknefobeaa
