/- Words for memory and plain facts on bytes and numbers, for the proofs over the package ordkey: nothing of the program is proved here. -/
import Derived.Test.YtjmmaghjbaigiaaRows
import Derived.WalkKit
import Derived.Below
import Derived.Lib.Hide
import Derived.Laws.OwnMore
import Derived.Laws.AppendOwnNone
import Derived.Deep.AppendLies
import Derived.Deep.Draws
import Derived.Maps.AppendAt
import Derived.RegionTactic
import Derived.OwnWalk
namespace Go.Proofs.Ytjmmaghjbaigiaa
open Go.RowKit

def cellB (x : UInt8) : Value := .int .u8 (x.toNat : Int)
def cellsB (l : List UInt8) : List Value := l.map cellB

/-- The slice at the address A reads as the bytes l in w. -/
def RB (w : World) (A : Option Addr) (l : List UInt8) : Prop :=
  l = [] ∨ ∃ ad, A = some ad ∧ ∀ (j : Nat) (x : UInt8), l[j]? = some x → w.cell? (ad.add j) = some (.int .u8 (x.toNat : Int))

theorem block_of_add (a : Addr) (n : Nat) : (a.add n).block = a.block := by unfold Addr.add; split <;> rfl
theorem add_of_add (a : Addr) (i j : Nat) : (a.add i).add j = a.add (i + j) := by
  unfold Addr.add
  by_cases hi : i = 0 <;> by_cases hj : j = 0 <;> simp [hi, hj, Nat.add_assoc]
theorem lt_of_cell {w : World} {p : Addr} {v : Value} (h : w.cell? p = some v) : p.block < w.heap.size := by
  rcases Nat.lt_or_ge p.block w.heap.size with hlt | hge
  · exact hlt
  · simp [World.cell?, Array.getElem?_eq_none hge] at h

theorem RB.nil {w : World} {A : Option Addr} : RB w A [] := .inl rfl
theorem RB.at_ {w : World} {A : Option Addr} {l : List UInt8} {k : Nat} (h : RB w A l) (hk : k < l.length) :
    ∃ ad x, A = some ad ∧ l[k]? = some x ∧ w.cell? (ad.add k) = some (.int .u8 (x.toNat : Int)) := by
  rcases h with rfl | ⟨ad, rfl, hc⟩
  · simp at hk
  · exact ⟨ad, l[k], rfl, List.getElem?_eq_getElem hk, hc k _ (List.getElem?_eq_getElem hk)⟩
theorem RB.keep {w w' : World} {A : Option Addr} {l : List UInt8} (h : RB w A l) (hk : ∀ p : Addr, p.block < w.heap.size → w'.cell? p = w.cell? p) : RB w' A l := by
  rcases h with rfl | ⟨ad, rfl, hc⟩
  · exact .inl rfl
  · exact .inr ⟨ad, rfl, fun j x hx => (hk _ (lt_of_cell (hc j x hx))).trans (hc j x hx)⟩
theorem RB.below {w w' : World} {A : Option Addr} {l : List UInt8} (h : RB w A l) (hb : Below w.heap.size w w') : RB w' A l := h.keep fun _ hp => hb.cell hp
theorem RB.drew {w : World} {A : Option Addr} {l : List UInt8} (h : RB w A l) : RB w.drew A l := h
theorem RB.drewN {w : World} {A : Option Addr} {l : List UInt8} (h : RB w A l) (k : Nat) : RB (w.drewN k) A l := h
theorem RB.alloc {w : World} {A : Option Addr} {l : List UInt8} (h : RB w A l) (o : Obj) : RB (w.alloc o) A l := h.keep fun p hp => World.cell?_alloc_lt w o p hp
theorem RB.take {w : World} {A : Option Addr} {l : List UInt8} (h : RB w A l) (k : Nat) : RB w A (l.take k) := by
  rcases h with rfl | ⟨ad, rfl, hc⟩
  · exact .inl (by simp)
  · refine .inr ⟨ad, rfl, fun j x hx => hc j x ?_⟩
    rw [List.getElem?_take] at hx
    split at hx
    · exact hx
    · cases hx
theorem RB.drop {w : World} {ad : Addr} {l : List UInt8} (h : RB w (some ad) l) (k : Nat) : RB w (some (ad.add k)) (l.drop k) := by
  rcases h with rfl | ⟨ad', e, hc⟩
  · exact .inl (by simp)
  · injection e with e
    subst e
    refine .inr ⟨_, rfl, fun j x hx => ?_⟩
    rw [add_of_add]
    exact hc _ x (by rw [← hx, List.getElem?_drop])

/-- The bytes as a number, the highest first. -/
def be (l : List UInt8) : Nat := l.foldl (fun a x => a * 256 + x.toNat) 0
theorem be_snoc (l : List UInt8) (x : UInt8) : be (l ++ [x]) = be l * 256 + x.toNat := by simp [be, List.foldl_append]
theorem be_lt (l : List UInt8) : be l < 256 ^ l.length := by
  have go : ∀ (m : List UInt8), ∀ a, m.foldl (fun a (x : UInt8) => a * 256 + x.toNat) a < (a + 1) * 256 ^ m.length := by
    intro m
    induction m with
    | nil => intro a; simp
    | cons x m ih =>
      intro a
      have h := ih (a * 256 + x.toNat)
      have hx : x.toNat < 256 := x.toNat_lt
      simp only [List.foldl_cons, List.length_cons]
      refine Nat.lt_of_lt_of_le h ?_
      rw [Nat.pow_succ, Nat.mul_comm (256 ^ m.length) 256, ← Nat.mul_assoc]
      exact Nat.mul_le_mul_right _ (by omega)
  have := go l 0
  simpa [be] using this
theorem pow256_le {a b : Nat} (h : a ≤ b) : 256 ^ a ≤ 256 ^ b := Nat.pow_le_pow_right (by omega) h
theorem be_le8 (l : List UInt8) (h : l.length ≤ 8) : be l < 18446744073709551616 := by
  have h1 := be_lt l
  have h2 : 256 ^ l.length ≤ 256 ^ 8 := pow256_le h
  have h3 : (256 : Nat) ^ 8 = 18446744073709551616 := by decide
  omega
theorem be_le7 (l : List UInt8) (h : l.length ≤ 7) : be l < 72057594037927936 := by
  have h1 := be_lt l
  have h2 : 256 ^ l.length ≤ 256 ^ 7 := pow256_le h
  have h3 : (256 : Nat) ^ 7 = 72057594037927936 := by decide
  omega
theorem take_snoc {l : List UInt8} {k : Nat} {x : UInt8} (h : l[k]? = some x) : l.take (k + 1) = l.take k ++ [x] := by
  rw [List.take_add_one, h]; rfl

theorem Try.info5 : (Try.prog.info? 5).map (fun i => (i.zero, i.size, i.bytes)) = some (some (.int .u8 0), 1, 1) := by kernel_rfl

/-- v is a slice of the bytes l at the head of a row of its own, from block base on. -/
def OB (base : Nat) (w : World) (v : Value) (l : List UInt8) : Prop := w.ownsRow base 5 1 v l.length (cellsB l)

theorem OB.nil {base : Nat} {w : World} : OB base w (.slice none 0 0) [] := World.ownsRow_nil w base 5 1
theorem OB.alloc {base : Nat} {w : World} {v : Value} {l : List UInt8} (h : OB base w v l) (o : Obj) : OB base (w.alloc o) v l := World.ownsRow.alloc h o
theorem OB.form {base : Nat} {w : World} {v : Value} {l : List UInt8} (h : OB base w v l) : ∃ A c, v = .slice A l.length c ∧ l.length ≤ c ∧ RB w A l := by
  unfold OB at h
  rcases h.2 with ⟨e, hn⟩ | ⟨g, cap, cur, e, hb, hh, hc, hm, hsz, ht⟩
  · obtain rfl : l = [] := List.eq_nil_of_length_eq_zero hn
    exact ⟨none, 0, e, Nat.le_refl _, .inl rfl⟩
  · refine ⟨some ⟨g, 0, none⟩, cap, e, hc, .inr ⟨_, rfl, fun j x hx => ?_⟩⟩
    subst e
    exact World.ownsRow.cells h (g := g) rfl j _ (by simp [cellsB, hx, cellB])
theorem OB.lift {base B : Nat} {w : World} {v : Value} {l : List UInt8} (h : OB base w v l) (hB : B ≤ base) : OB B w v l := by
  unfold OB at h ⊢
  refine ⟨h.1, ?_⟩
  rcases h.2 with h | ⟨g, cap, cur, e, hb, r⟩
  · exact .inl h
  · exact .inr ⟨g, cap, cur, e, Nat.le_trans hB hb, r⟩
theorem OB.keep {base B : Nat} {w w' : World} {v : Value} {l : List UInt8} (h : OB base w v l) (hb : Below B w w') (hB : w.heap.size ≤ B) : OB base w' v l := by
  unfold OB at h ⊢
  refine ⟨h.1, ?_⟩
  rcases h.2 with h | ⟨g, cap, cur, e, hb', hh, r⟩
  · exact .inl h
  · refine .inr ⟨g, cap, cur, e, hb', ?_, r⟩
    rw [hb.block g (Nat.lt_of_lt_of_le (by
      rcases Nat.lt_or_ge g w.heap.size with hlt | hge
      · exact hlt
      · rw [Array.getElem?_eq_none hge] at hh; cases hh) hB)]
    exact hh
theorem OB.len {base : Nat} {w : World} {A : Option Addr} {n c : Nat} {l : List UInt8} (h : OB base w (.slice A n c) l) : n = l.length := by
  obtain ⟨A', c', e, _⟩ := h.form
  injection e
theorem OB.reads {base : Nat} {w : World} {A : Option Addr} {n c : Nat} {l : List UInt8} (h : OB base w (.slice A n c) l) : RB w A l := by
  obtain ⟨A', c', e, _, hr⟩ := h.form
  injection e with e1
  subst e1
  exact hr
theorem OB.lit (w : World) (base : Nat) (l : List UInt8) (cs : Array Value) (hcs : cs = (cellsB l).toArray) (hb : base ≤ w.heap.size) (hn : l.length ≤ maxLen) :
    OB base (w.alloc (.cells cs 5)) (.slice (some ⟨w.heap.size, 0, none⟩) l.length l.length) l := by
  subst hcs
  have h := World.ownsRow_lit (base := base) (e := 5) (size := 1) w (cellsB l).toArray l.length hb hn (by simp [cellsB])
  unfold OB
  simpa using h
theorem RB.lit (w : World) (l : List UInt8) (cs : Array Value) (hcs : cs = (cellsB l).toArray) (hn : l.length ≤ maxLen) : RB (w.alloc (.cells cs 5)) (some ⟨w.heap.size, 0, none⟩) l :=
  (OB.lit w w.heap.size l cs hcs (Nat.le_refl _) hn).reads
theorem RB.one (w : World) (z : Int) (x : UInt8) (h : z = (x.toNat : Int)) : RB (w.alloc (.cells #[.int .u8 z] 5)) (some ⟨w.heap.size, 0, none⟩) [x] :=
  RB.lit w [x] _ (by simp [cellsB, cellB, h]) (by simp [maxLen])

set_option maxRecDepth 100000 in
theorem run_append_B {base : Nat} {w : World} {v : Value} {l : List UInt8} (ty : TypeId) (hown : OB base w v l) {A : Option Addr} {m : Nat} (c : Nat) {news : List UInt8} (hm : news.length = m) (hr : RB w A news)
    (hbound : l.length + m ≤ 70368744177664) (hbase : base ≤ w.heap.size) :
    ∃ v' w', (Builtin.append_ #[25, 25] ty #[v, .slice A m c]).run Try.prog w = .ok v' w' ∧ OB base w' v' (l ++ news) ∧ Below base w w' ∧ w.grownBy w' v.ownBlock := by
  obtain ⟨i0, hi, hz0, hz1, hz2⟩ := info_parts Try.info5
  subst hm
  rcases Classical.em (A = none) with rfl | hA
  · have hn : news = [] := by
      rcases hr with h | ⟨ad, h, _⟩
      · exact h
      · cases h
    subst hn
    refine ⟨v, w, ?_, by simpa using hown, Below.refl _ _, ⟨rfl, rfl, rfl, Nat.le_refl _, fun _ _ _ => rfl⟩⟩
    unfold OB at hown
    rcases hown.2 with ⟨rfl, hl⟩ | ⟨g, cap, cur, rfl, _, _, hnc, _⟩
    · simp [Builtin.append_, run_underlying Try.underlying25, sizeOf, typeInfo, hi, Builtin.lenOf, Builtin.firstCells]
    · simp [Builtin.append_, run_underlying Try.underlying25, sizeOf, typeInfo, hi, Builtin.lenOf, Builtin.firstCells, hnc, storeCells]
  · obtain ⟨ad, rfl⟩ := Option.ne_none_iff_exists'.1 hA
    have hcells : ∀ j u, (cellsB news)[j]? = some u → w.cell? (ad.add j) = some u := by
      intro j u hu
      simp only [cellsB, List.getElem?_map, Option.map_eq_some_iff] at hu
      obtain ⟨x, hx, rfl⟩ := hu
      rcases hr with h | ⟨ad', h, hc⟩
      · subst h; simp at hx
      · injection h with h
        subst h
        exact hc j x hx
    obtain ⟨v', w', hrun, h2, h3, _, _⟩ := run_append_own_at (P := Try.prog) w base 25 ty 5 i0 _ 1 1 Try.underlying25 hi hz0 hz1 hz2 rfl (by omega) v l.length (cellsB l) hown ad news.length c (cellsB news)
      (by simp [cellsB]) hcells (by intro u hu; simp only [cellsB, List.mem_map] at hu; obtain ⟨x, _, rfl⟩ := hu; rfl) (by simp only [maxLen]; omega) (by omega) hbase
    refine ⟨v', w', hrun, ?_, ?_, h3⟩
    · unfold OB
      simpa [cellsB] using h2
    · refine (Below.refl base w).grown h3 hbase fun k hk => ?_
      exact (World.ownsRow.lt hown k hk).1

theorem RB.grown {w w' : World} {ad : Addr} {l : List UInt8} {row : Option Nat} (h : RB w (some ad) l) (hg : w.grownBy w' row) (hne : some ad.block ≠ row) : RB w' (some ad) l := by
  rcases h with rfl | ⟨ad', e, hc⟩
  · exact .inl rfl
  · injection e with e
    subst e
    exact .inr ⟨_, rfl, fun j x hx => hg.cell (hc j x hx) (by rw [block_of_add]; exact hne)⟩

theorem wpList_append_B {w : World} {ops : Array Oper} {rest : List Oper} {o : Oper} {a : Act} {Q : Exit → Act → World → Prop} (hgd : o.guard = none) (s x : Operand)
    (ho : o.op = .call { callee := .builtin .append, args := #[s, x], argTypes := #[25, 25] })
    (base : Nat) (v : Value) (l : List UInt8) (hs : a.eval s = v) (hown : OB base w v l) (A : Option Addr) (m c : Nat) (news : List UInt8) (hx : a.eval x = .slice A m c) (hm : news.length = m) (hr : RB w A news)
    (hbound : l.length + m ≤ 70368744177664) (hbase : base ≤ w.heap.size)
    (h : ∀ v' w', OB base w' v' (l ++ news) → Below base w w' → wpList Try.prog ops Q rest (a.put o.dst v') w') : wpList Try.prog ops Q (o :: rest) a w :=
  wpList_plain hgd fun K hK => by
    obtain ⟨v', w', hrun, h2, h3, _⟩ := run_append_B o.type hown c hm hr hbound hbase
    unfold Oper.wp execOp
    simp only [ho, resolve, invoke, builtin, Sem.run_bind, Sem.run_pure, Result.andThen_ok, List.map_toArray, List.map_cons, List.map_nil, hs, hx, hrun]
    exact hK _ _ (h v' w' h2 h3)

end Go.Proofs.Ytjmmaghjbaigiaa
