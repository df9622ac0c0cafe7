/- Joined: Base Words Own. -/
import Derived.Test.YtlohhbpncbnipaaRows
import Derived.WalkKit
import Derived.Below
import Derived.Lib.Hide
import Derived.Laws.OwnMore
import Derived.Laws.AppendOwnNone
import Derived.Deep.AppendLies
import Derived.Deep.Draws
import Derived.Maps.AppendAt
import Derived.RegionTactic
import Derived.OwnWalk
import Derived.Laws.BytesString
import Derived.Laws.Cells
import Derived.Lib.SliceRun
import Derived.Lib.SmallJoins
import Derived.Lib.SlBytesConst
import Derived.Deep.RegionHeld3
import Derived.OrdersHeld
import Derived.OpenShut
import Derived.Laws.CopyOwn
import Derived.Lib.AppendZeros
section
/- Words for memory and plain facts on bytes and numbers, for the proofs over the package ordkey: nothing of the program is proved here. -/
namespace Go.Proofs.Ytlohhbpncbnipaa
open Go.RowKit

def cellB (x : UInt8) : Value := .int .u8 (x.toNat : Int)
def cellsB (l : List UInt8) : List Value := l.map cellB

/-- The slice at the address A reads as the bytes l in w. -/
def RB (w : World) (A : Option Addr) (l : List UInt8) : Prop :=
  l = [] ∨ ∃ ad, A = some ad ∧ ∀ (j : Nat) (x : UInt8), l[j]? = some x → w.cell? (ad.add j) = some (.int .u8 (x.toNat : Int))

theorem block_of_add (a : Addr) (n : Nat) : (a.add n).block = a.block := by unfold Addr.add; split <;> rfl
theorem add_of_add (a : Addr) (i j : Nat) : (a.add i).add j = a.add (i + j) := by
  unfold Addr.add
  by_cases hi : i = 0 <;> by_cases hj : j = 0 <;> simp [hi, hj, Nat.add_assoc]
theorem lt_of_cell {w : World} {p : Addr} {v : Value} (h : w.cell? p = some v) : p.block < w.heap.size := by
  rcases Nat.lt_or_ge p.block w.heap.size with hlt | hge
  · exact hlt
  · simp [World.cell?, Array.getElem?_eq_none hge] at h

theorem RB.nil {w : World} {A : Option Addr} : RB w A [] := .inl rfl
theorem RB.at_ {w : World} {A : Option Addr} {l : List UInt8} {k : Nat} (h : RB w A l) (hk : k < l.length) :
    ∃ ad x, A = some ad ∧ l[k]? = some x ∧ w.cell? (ad.add k) = some (.int .u8 (x.toNat : Int)) := by
  rcases h with rfl | ⟨ad, rfl, hc⟩
  · simp at hk
  · exact ⟨ad, l[k], rfl, List.getElem?_eq_getElem hk, hc k _ (List.getElem?_eq_getElem hk)⟩
theorem RB.keep {w w' : World} {A : Option Addr} {l : List UInt8} (h : RB w A l) (hk : ∀ p : Addr, p.block < w.heap.size → w'.cell? p = w.cell? p) : RB w' A l := by
  rcases h with rfl | ⟨ad, rfl, hc⟩
  · exact .inl rfl
  · exact .inr ⟨ad, rfl, fun j x hx => (hk _ (lt_of_cell (hc j x hx))).trans (hc j x hx)⟩
theorem RB.below {w w' : World} {A : Option Addr} {l : List UInt8} (h : RB w A l) (hb : Below w.heap.size w w') : RB w' A l := h.keep fun _ hp => hb.cell hp
theorem RB.drew {w : World} {A : Option Addr} {l : List UInt8} (h : RB w A l) : RB w.drew A l := h
theorem RB.drewN {w : World} {A : Option Addr} {l : List UInt8} (h : RB w A l) (k : Nat) : RB (w.drewN k) A l := h
theorem RB.alloc {w : World} {A : Option Addr} {l : List UInt8} (h : RB w A l) (o : Obj) : RB (w.alloc o) A l := h.keep fun p hp => World.cell?_alloc_lt w o p hp
theorem RB.take {w : World} {A : Option Addr} {l : List UInt8} (h : RB w A l) (k : Nat) : RB w A (l.take k) := by
  rcases h with rfl | ⟨ad, rfl, hc⟩
  · exact .inl (by simp)
  · refine .inr ⟨ad, rfl, fun j x hx => hc j x ?_⟩
    rw [List.getElem?_take] at hx
    split at hx
    · exact hx
    · cases hx
theorem RB.drop {w : World} {ad : Addr} {l : List UInt8} (h : RB w (some ad) l) (k : Nat) : RB w (some (ad.add k)) (l.drop k) := by
  rcases h with rfl | ⟨ad', e, hc⟩
  · exact .inl (by simp)
  · injection e with e
    subst e
    refine .inr ⟨_, rfl, fun j x hx => ?_⟩
    rw [add_of_add]
    exact hc _ x (by rw [← hx, List.getElem?_drop])

/-- The bytes as a number, the highest first. -/
def be (l : List UInt8) : Nat := l.foldl (fun a x => a * 256 + x.toNat) 0
theorem be_snoc (l : List UInt8) (x : UInt8) : be (l ++ [x]) = be l * 256 + x.toNat := by simp [be, List.foldl_append]
theorem be_lt (l : List UInt8) : be l < 256 ^ l.length := by
  have go : ∀ (m : List UInt8), ∀ a, m.foldl (fun a (x : UInt8) => a * 256 + x.toNat) a < (a + 1) * 256 ^ m.length := by
    intro m
    induction m with
    | nil => intro a; simp
    | cons x m ih =>
      intro a
      have h := ih (a * 256 + x.toNat)
      have hx : x.toNat < 256 := x.toNat_lt
      simp only [List.foldl_cons, List.length_cons]
      refine Nat.lt_of_lt_of_le h ?_
      rw [Nat.pow_succ, Nat.mul_comm (256 ^ m.length) 256, ← Nat.mul_assoc]
      exact Nat.mul_le_mul_right _ (by omega)
  have := go l 0
  simpa [be] using this
theorem pow256_le {a b : Nat} (h : a ≤ b) : 256 ^ a ≤ 256 ^ b := Nat.pow_le_pow_right (by omega) h
theorem be_le8 (l : List UInt8) (h : l.length ≤ 8) : be l < 18446744073709551616 := by
  have h1 := be_lt l
  have h2 : 256 ^ l.length ≤ 256 ^ 8 := pow256_le h
  have h3 : (256 : Nat) ^ 8 = 18446744073709551616 := by decide
  omega
theorem be_le7 (l : List UInt8) (h : l.length ≤ 7) : be l < 72057594037927936 := by
  have h1 := be_lt l
  have h2 : 256 ^ l.length ≤ 256 ^ 7 := pow256_le h
  have h3 : (256 : Nat) ^ 7 = 72057594037927936 := by decide
  omega
theorem take_snoc {l : List UInt8} {k : Nat} {x : UInt8} (h : l[k]? = some x) : l.take (k + 1) = l.take k ++ [x] := by
  rw [List.take_add_one, h]; rfl

theorem Try.info5 : (Try.prog.info? 5).map (fun i => (i.zero, i.size, i.bytes)) = some (some (.int .u8 0), 1, 1) := by kernel_rfl

/-- v is a slice of the bytes l at the head of a row of its own, from block base on. -/
def OB (base : Nat) (w : World) (v : Value) (l : List UInt8) : Prop := w.ownsRow base 5 1 v l.length (cellsB l)

theorem OB.nil {base : Nat} {w : World} : OB base w (.slice none 0 0) [] := World.ownsRow_nil w base 5 1
theorem OB.alloc {base : Nat} {w : World} {v : Value} {l : List UInt8} (h : OB base w v l) (o : Obj) : OB base (w.alloc o) v l := World.ownsRow.alloc h o
theorem OB.form {base : Nat} {w : World} {v : Value} {l : List UInt8} (h : OB base w v l) : ∃ A c, v = .slice A l.length c ∧ l.length ≤ c ∧ RB w A l := by
  unfold OB at h
  rcases h.2 with ⟨e, hn⟩ | ⟨g, cap, cur, e, hb, hh, hc, hm, hsz, ht⟩
  · obtain rfl : l = [] := List.eq_nil_of_length_eq_zero hn
    exact ⟨none, 0, e, Nat.le_refl _, .inl rfl⟩
  · refine ⟨some ⟨g, 0, none⟩, cap, e, hc, .inr ⟨_, rfl, fun j x hx => ?_⟩⟩
    subst e
    exact World.ownsRow.cells h (g := g) rfl j _ (by simp [cellsB, hx, cellB])
theorem OB.lift {base B : Nat} {w : World} {v : Value} {l : List UInt8} (h : OB base w v l) (hB : B ≤ base) : OB B w v l := by
  unfold OB at h ⊢
  refine ⟨h.1, ?_⟩
  rcases h.2 with h | ⟨g, cap, cur, e, hb, r⟩
  · exact .inl h
  · exact .inr ⟨g, cap, cur, e, Nat.le_trans hB hb, r⟩
theorem OB.keep {base B : Nat} {w w' : World} {v : Value} {l : List UInt8} (h : OB base w v l) (hb : Below B w w') (hB : w.heap.size ≤ B) : OB base w' v l := by
  unfold OB at h ⊢
  refine ⟨h.1, ?_⟩
  rcases h.2 with h | ⟨g, cap, cur, e, hb', hh, r⟩
  · exact .inl h
  · refine .inr ⟨g, cap, cur, e, hb', ?_, r⟩
    rw [hb.block g (Nat.lt_of_lt_of_le (by
      rcases Nat.lt_or_ge g w.heap.size with hlt | hge
      · exact hlt
      · rw [Array.getElem?_eq_none hge] at hh; cases hh) hB)]
    exact hh
theorem OB.len {base : Nat} {w : World} {A : Option Addr} {n c : Nat} {l : List UInt8} (h : OB base w (.slice A n c) l) : n = l.length := by
  obtain ⟨A', c', e, _⟩ := h.form
  injection e
theorem OB.reads {base : Nat} {w : World} {A : Option Addr} {n c : Nat} {l : List UInt8} (h : OB base w (.slice A n c) l) : RB w A l := by
  obtain ⟨A', c', e, _, hr⟩ := h.form
  injection e with e1
  subst e1
  exact hr
theorem OB.lit (w : World) (base : Nat) (l : List UInt8) (cs : Array Value) (hcs : cs = (cellsB l).toArray) (hb : base ≤ w.heap.size) (hn : l.length ≤ maxLen) :
    OB base (w.alloc (.cells cs 5)) (.slice (some ⟨w.heap.size, 0, none⟩) l.length l.length) l := by
  subst hcs
  have h := World.ownsRow_lit (base := base) (e := 5) (size := 1) w (cellsB l).toArray l.length hb hn (by simp [cellsB])
  unfold OB
  simpa using h
theorem RB.lit (w : World) (l : List UInt8) (cs : Array Value) (hcs : cs = (cellsB l).toArray) (hn : l.length ≤ maxLen) : RB (w.alloc (.cells cs 5)) (some ⟨w.heap.size, 0, none⟩) l :=
  (OB.lit w w.heap.size l cs hcs (Nat.le_refl _) hn).reads
theorem RB.one (w : World) (z : Int) (x : UInt8) (h : z = (x.toNat : Int)) : RB (w.alloc (.cells #[.int .u8 z] 5)) (some ⟨w.heap.size, 0, none⟩) [x] :=
  RB.lit w [x] _ (by simp [cellsB, cellB, h]) (by simp [maxLen])

set_option maxRecDepth 100000 in
theorem run_append_B {base : Nat} {w : World} {v : Value} {l : List UInt8} (ty : TypeId) (hown : OB base w v l) {A : Option Addr} {m : Nat} (c : Nat) {news : List UInt8} (hm : news.length = m) (hr : RB w A news)
    (hbound : l.length + m ≤ 70368744177664) (hbase : base ≤ w.heap.size) :
    ∃ v' w', (Builtin.append_ #[27, 27] ty #[v, .slice A m c]).run Try.prog w = .ok v' w' ∧ OB base w' v' (l ++ news) ∧ Below base w w' ∧ w.grownBy w' v.ownBlock := by
  obtain ⟨i0, hi, hz0, hz1, hz2⟩ := info_parts Try.info5
  subst hm
  rcases Classical.em (A = none) with rfl | hA
  · have hn : news = [] := by
      rcases hr with h | ⟨ad, h, _⟩
      · exact h
      · cases h
    subst hn
    refine ⟨v, w, ?_, by simpa using hown, Below.refl _ _, ⟨rfl, rfl, rfl, Nat.le_refl _, fun _ _ _ => rfl⟩⟩
    unfold OB at hown
    rcases hown.2 with ⟨rfl, hl⟩ | ⟨g, cap, cur, rfl, _, _, hnc, _⟩
    · simp [Builtin.append_, run_underlying Try.underlying27, sizeOf, typeInfo, hi, Builtin.lenOf, Builtin.firstCells]
    · simp [Builtin.append_, run_underlying Try.underlying27, sizeOf, typeInfo, hi, Builtin.lenOf, Builtin.firstCells, hnc, storeCells]
  · obtain ⟨ad, rfl⟩ := Option.ne_none_iff_exists'.1 hA
    have hcells : ∀ j u, (cellsB news)[j]? = some u → w.cell? (ad.add j) = some u := by
      intro j u hu
      simp only [cellsB, List.getElem?_map, Option.map_eq_some_iff] at hu
      obtain ⟨x, hx, rfl⟩ := hu
      rcases hr with h | ⟨ad', h, hc⟩
      · subst h; simp at hx
      · injection h with h
        subst h
        exact hc j x hx
    obtain ⟨v', w', hrun, h2, h3, _, _⟩ := run_append_own_at (P := Try.prog) w base 27 ty 5 i0 _ 1 1 Try.underlying27 hi hz0 hz1 hz2 rfl (by omega) v l.length (cellsB l) hown ad news.length c (cellsB news)
      (by simp [cellsB]) hcells (by intro u hu; simp only [cellsB, List.mem_map] at hu; obtain ⟨x, _, rfl⟩ := hu; rfl) (by simp only [maxLen]; omega) (by omega) hbase
    refine ⟨v', w', hrun, ?_, ?_, h3⟩
    · unfold OB
      simpa [cellsB] using h2
    · refine (Below.refl base w).grown h3 hbase fun k hk => ?_
      exact (World.ownsRow.lt hown k hk).1

theorem RB.grown {w w' : World} {ad : Addr} {l : List UInt8} {row : Option Nat} (h : RB w (some ad) l) (hg : w.grownBy w' row) (hne : some ad.block ≠ row) : RB w' (some ad) l := by
  rcases h with rfl | ⟨ad', e, hc⟩
  · exact .inl rfl
  · injection e with e
    subst e
    exact .inr ⟨_, rfl, fun j x hx => hg.cell (hc j x hx) (by rw [block_of_add]; exact hne)⟩

theorem wpList_append_B {w : World} {ops : Array Oper} {rest : List Oper} {o : Oper} {a : Act} {Q : Exit → Act → World → Prop} (hgd : o.guard = none) (s x : Operand)
    (ho : o.op = .call { callee := .builtin .append, args := #[s, x], argTypes := #[27, 27] })
    (base : Nat) (v : Value) (l : List UInt8) (hs : a.eval s = v) (hown : OB base w v l) (A : Option Addr) (m c : Nat) (news : List UInt8) (hx : a.eval x = .slice A m c) (hm : news.length = m) (hr : RB w A news)
    (hbound : l.length + m ≤ 70368744177664) (hbase : base ≤ w.heap.size)
    (h : ∀ v' w', OB base w' v' (l ++ news) → Below base w w' → wpList Try.prog ops Q rest (a.put o.dst v') w') : wpList Try.prog ops Q (o :: rest) a w :=
  wpList_plain hgd fun K hK => by
    obtain ⟨v', w', hrun, h2, h3, _⟩ := run_append_B o.type hown c hm hr hbound hbase
    unfold Oper.wp execOp
    simp only [ho, resolve, invoke, builtin, Sem.run_bind, Sem.run_pure, Result.andThen_ok, List.map_toArray, List.map_cons, List.map_nil, hs, hx, hrun]
    exact hK _ _ (h v' w' h2 h3)

end Go.Proofs.Ytlohhbpncbnipaa
end
section
/- Words for memory: a conversion of bytes to a text, bytes.Clone, a store into an own row, a row that came in, an operation of a drawn region taken first. -/
namespace Go.Proofs.Ytlohhbpncbnipaa
open Go.RowKit
set_option linter.unusedVariables false

theorem ofNat_toNat (n : Nat) : (UInt8.ofNat n).toNat = n % 256 := by simp
theorem Addr.add_nought (a : Go.Addr) : a.add 0 = a := by simp [Go.Addr.add]
theorem Addr.add_one_ (a : Go.Addr) : a.add 1 = ⟨a.block, a.off + 1, none⟩ := by simp [Go.Addr.add]
/-- The text of some bytes. -/
def str (l : List UInt8) : ByteArray := ⟨l.toArray⟩
theorem str_size (l : List UInt8) : (str l).size = l.length := by simp [str, ByteArray.size]

theorem fold_push (l : List UInt8) (s : ByteArray) : (l.map fun x : UInt8 => (x.toNat : Int)).foldl (fun r n => r.push (UInt8.ofNat n.toNat)) s = ⟨s.data ++ l.toArray⟩ := by
  induction l generalizing s with
  | nil => simp
  | cons x l ih =>
    simp only [List.map_cons, List.foldl_cons]
    rw [ih]
    simp [ByteArray.push]

theorem run_str (w : World) (A : Option Addr) (n c : Nat) (l : List UInt8) (hl : l.length = n) (hr : RB w A l) : (convert 27 9 (.slice A n c)).run Try.prog w = .ok (.string (str l)) w := by
  rw [run_convert_bytes_string w 27 9 5 A n c Try.underlying27 Try.underlying5 Try.underlying9]
  subst hl
  rcases A with _ | ad
  · obtain rfl : l = [] := by
      rcases hr with h | ⟨ad, h, _⟩
      · exact h
      · cases h
    rfl
  · have h := run_loadCells_list (P := Try.prog) w ad ((l.map fun x : UInt8 => (x.toNat : Int)).map (Value.int .u8)) (by
      intro j v hv
      rcases hr with rfl | ⟨ad', h, hc⟩
      · simp at hv
      · injection h with h
        subst h
        simp only [List.getElem?_map, Option.map_eq_some_iff] at hv
        obtain ⟨z, ⟨x, hx, rfl⟩, rfl⟩ := hv
        exact hc j x hx)
    rw [show ((l.map fun x : UInt8 => (x.toNat : Int)).map (Value.int .u8)).length = l.length by simp] at h
    rw [run_bytesToString w ad l.length c _ h, fold_push]
    simp [str]

set_option maxHeartbeats 400000 in
theorem clone_any (A : Option Addr) (n c : Nat) (l : List UInt8) (w : World) (hn : n ≤ 70368744177664) (hl : l.length = n) (hr : RB w A l) :
    Calls Try.prog 51 #[.slice A n c] w fun e w' => ∃ v', e = .returned v' ∧ OB w.heap.size w' v' l ∧ Below w.heap.size w w' := by
  have q22 : ∀ (w : World) (a : Option Addr) (n c n' c' : Nat), (binOp .eql 27 (.slice a n c) (.slice none n' c')).run Try.prog w = .ok (.bool a.isNone) w := fun w a n c n' c' => Lib.run_eql_slice_nil w _ _ a n c n' c' Try.underlying27
  have HL := Lib.hid hl
  clear hl
  rcases A with _ | ad
  · obtain rfl : l = [] := by
      rcases hr with h | ⟨ad, h, _⟩
      · exact h
      · cases h
    go_enter Try.func51, Try.ntmps51
    go_wp2
    go_ret
    exact ⟨_, rfl, OB.nil, Below.refl _ _⟩
  · go_enter Try.func51, Try.ntmps51
    go_wp2_with (at_builtin; refine wpList_append_B rfl (.tmp 5) (.tmp 6) rfl w.heap.size _ [] rfl (OB.lit w w.heap.size [] _ (by simp [cellsB]) (Nat.le_refl _) (by simp [maxLen])) _ _ _ l rfl HL.out (hr.alloc _) (by simp; omega) (by simp) ?_; intro v1 w1 hown1 hb1)
    go_ret
    exact ⟨_, rfl, hown1, ((Below.refl _ _).alloc (Nat.le_refl _) _).trans hb1⟩

theorem OB.at_ {base : Nat} {w : World} {A : Option Addr} {n c k : Nat} {l : List UInt8} {x : UInt8} (h : OB base w (.slice A n c) l) (hk : l[k]? = some x) :
    ∃ g, A = some ⟨g, 0, none⟩ ∧ base ≤ g ∧ g < w.heap.size ∧ w.cell? ⟨g, k, none⟩ = some (.int .u8 (x.toNat : Int)) ∧ w.frozen? ⟨g, k, none⟩ = false ∧
      ∀ (y : UInt8) (z : Int), z = (y.toNat : Int) → OB base (w.setCell ⟨g, k, none⟩ (.int .u8 z)) (.slice A n c) (l.set k y) := by
  have hlen := h.len
  subst hlen
  have hl : k < l.length := (List.getElem?_eq_some_iff.1 hk).1
  unfold OB at h
  rcases h.2 with ⟨_, h0⟩ | ⟨g, cap, cur, e, hb, hh, r⟩
  · omega
  · have hg : g < w.heap.size := by
      rcases Nat.lt_or_ge g w.heap.size with hlt | hge
      · exact hlt
      · rw [Array.getElem?_eq_none hge] at hh; cases hh
    injection e with e1 e2 e3
    subst e1 e3
    refine ⟨g, rfl, hb, hg, ?_, World.ownsRow.frozenAt h k, ?_⟩
    · rw [World.ownsRow.cellAt h k (by omega)]
      simp [cellsB, hk, cellB]
    · intro y z hz
      have hs := World.ownsRow.stored h k (.int .u8 z)
      unfold OB
      simpa [cellsB, cellB, hz, List.map_set] using hs.1

theorem set_last {a : List UInt8} {k : Nat} (h : a.length = k) (x y : UInt8) : (a ++ [x]).set k y = a ++ [y] := by
  subst h
  simp

theorem step_append_B {w : World} {ops : Array Oper} {o : Oper} {a : Act} {K : Act → World → Prop} {Q : Exit → Act → World → Prop} {E : Prop} (hgd : o.guard = none) (s x : Operand)
    (ho : o.op = .call { callee := .builtin .append, args := #[s, x], argTypes := #[27, 27] })
    (base : Nat) (v : Value) (l : List UInt8) (hs : a.eval s = v) (hown : OB base w v l) (A : Option Addr) (m c : Nat) (news : List UInt8) (hx : a.eval x = .slice A m c) (hm : news.length = m) (hr : RB w A news)
    (hbound : l.length + m ≤ 70368744177664) (hbase : base ≤ w.heap.size)
    (h : ∀ v' w', OB base w' v' (l ++ news) → Below base w w' → w.grownBy w' v.ownBlock → K (a.put o.dst v') w') :
    if Region.wanted o (yielded ops a.tmps) = true then Oper.wp Try.prog o a w K Q else E := by
  have hw : Region.wanted o (yielded ops a.tmps) = true := by simp [Region.wanted, hgd]
  rw [if_pos hw]
  obtain ⟨v', w', hrun, h2, h3, h4⟩ := run_append_B o.type hown c hm hr hbound hbase
  unfold Oper.wp execOp
  simp only [ho, resolve, invoke, builtin, Sem.run_bind, Sem.run_pure, Result.andThen_ok, List.map_toArray, List.map_cons, List.map_nil, hs, hx, hrun]
  exact h v' w' h2 h3 h4

theorem heap_size_alloc (w : World) (o : Obj) : (w.alloc o).heap.size = w.heap.size + 1 := by simp

theorem RB.mark (w : World) (l : List UInt8) (cs : Array Value) (fr : Nat × Nat) (hcs : cs = (cellsB l).toArray) : RB (w.alloc (.cells cs 5 fr)) (some ⟨w.heap.size, 0, none⟩) l := by
  subst hcs
  refine .inr ⟨_, rfl, fun j x hx => ?_⟩
  have e : (⟨w.heap.size, 0, none⟩ : Addr).add j = ⟨w.heap.size, j, none⟩ := by cases j <;> simp [Addr.add]
  rw [e, World.cell?_alloc_mark]
  simp [cellsB, hx, cellB]

theorem rb_of_row {w : World} {a : Option Addr} {len cap : Nat} {zs : List Int}
    (h : (a = none ∧ len = 0 ∧ cap = 0 ∧ zs = []) ∨ ∃ x, a = some x ∧ len ≤ cap ∧ cap ≤ maxLen ∧ zs.length = cap ∧ (∀ i, i < zs.length → w.cell? (x.add i) = some (.int .u8 (zs.getD i 0))) ∧ ∀ n ∈ zs, (Lit.int .u8 n).wf = true) :
    ∃ l : List UInt8, l.length = len ∧ len ≤ cap ∧ cap ≤ maxLen ∧ RB w a l := by
  rcases h with ⟨rfl, rfl, rfl, rfl⟩ | ⟨x, rfl, hl, hm, hz, hc, hw⟩
  · exact ⟨[], rfl, Nat.le_refl _, Nat.zero_le _, .inl rfl⟩
  · refine ⟨(zs.take len).map (fun z => UInt8.ofNat z.toNat), by simp; omega, hl, hm, .inr ⟨x, rfl, fun j y hy => ?_⟩⟩
    simp only [List.getElem?_map, Option.map_eq_some_iff, List.getElem?_take] at hy
    obtain ⟨z, hzj, rfl⟩ := hy
    split at hzj
    · rename_i hj
      obtain ⟨hjl, rfl⟩ := List.getElem?_eq_some_iff.1 hzj
      have h1 := hc j hjl
      rw [h1]
      have h2 := hw zs[j] (List.getElem_mem hjl)
      have h3 : 0 ≤ zs[j] ∧ zs[j] ≤ 255 := bounds_u8 h2
      rw [ofNat_toNat]
      simp [List.getElem?_eq_getElem hjl]
      omega
    · cases hzj

theorem takeH {P : Program} {md : Region.Mode} {ops : Array Oper} {Q : Exit → Act → World → Prop} {S : World → Prop} {fuel : Nat} {listed : Array Bool} {a : Act} {w : World} (i : Nat) (d : Nat) {oi : Oper} {v : Value}
    (hi : ops[i]? = some oi) (hd : oi.dst = some d) (hs : Region.noSelect ops = true) (hf : Region.free md ops listed i = true) (hr : (Region.ready md ops listed).contains i = true)
    (hQ : ∀ c a w, Q (.panic c) (a.put (some d) v) w → Q (.panic c) a w) (hS : S w) (hw : Region.wanted oi (yielded ops a.tmps) = true)
    (hy : ∀ w, S w → (execOp a.eval oi).run P w = .ok (.value v) w)
    (h : wpAnyH P md ops Q S fuel (listed.setIfInBounds i true) (a.put (some d) v) w) : wpAnyH P md ops Q S (fuel + 1) listed a w :=
  wpAnyH_take hi hs hf hr (by rw [hd]; exact hQ) (.inl ⟨hw, hy⟩) hS (by rw [hd]; exact h)

theorem take0 {P : Program} {md : Region.Mode} {ops : Array Oper} {Q : Exit → Act → World → Prop} {fuel : Nat} {listed : Array Bool} {a : Act} {w : World} (i : Nat) (d : Nat) {oi : Oper} {v : Value}
    (hi : ops[i]? = some oi) (hd : oi.dst = some d) (hs : Region.noSelect ops = true) (hf : Region.free md ops listed i = true) (hr : (Region.ready md ops listed).contains i = true)
    (hQ : ∀ c a w, Q (.panic c) (a.put (some d) v) w → Q (.panic c) a w) (hw : Region.wanted oi (yielded ops a.tmps) = true)
    (hy : ∀ w, (execOp a.eval oi).run P w = .ok (.value v) w)
    (h : wpAny P md ops Q fuel (listed.setIfInBounds i true) (a.put (some d) v) w) : wpAny P md ops Q (fuel + 1) listed a w :=
  wpAny_take hi hs hf hr (by rw [hd]; exact hQ) (.inl ⟨hw, hy⟩) (by rw [hd]; exact h)

end Go.Proofs.Ytlohhbpncbnipaa
end
section
/- Laws on a row of bytes of the call's own: made, copied into, zeros appended. -/
namespace Go.Proofs.Ytlohhbpncbnipaa
open Go.RowKit
set_option linter.unusedVariables false

theorem zeroCells_B (m : Nat) : (Builtin.zeroCells (Value.int .u8 0).cells m).toList = cellsB (List.replicate m 0) := by
  have h : (Builtin.zeroCells (Value.int .u8 0).cells m).size = m := by simp [Builtin.zeroCells, Value.cells]
  apply List.ext_getElem
  · simp [cellsB, h]
  · intro i h1 h2
    simp [Builtin.zeroCells, cellsB, cellB, Value.cells, Nat.mod_one]
theorem madeCells_B (m : Nat) : (madeCells (Value.int .u8 0).cells (m * 1)).toList = cellsB (List.replicate m 0) := by
  apply List.ext_getElem
  · simp [cellsB, madeCells]
  · intro i h1 h2
    simp [madeCells, cellsB, cellB, Value.cells, Nat.mod_one]

theorem wpList_make_B {w : World} {ops : Array Oper} {rest : List Oper} {o : Oper} {a : Act} {Q : Exit → Act → World → Prop} (hgd : o.guard = none) (s x : Operand)
    (ho : o.op = Op.makeSlice 27 s x) (base n : Nat) (L C : Int) (hs : a.eval s = .int .i64 L) (hx : a.eval x = .int .i64 C) (hL : L = (n : Int)) (hC : C = (n : Int)) (hn : n ≤ 70368744177664) (hbase : base ≤ w.heap.size)
    (h : ∀ w', OB base w' (.slice (some ⟨w.heap.size, 0, none⟩) n n) (List.replicate n 0) → Below base w w' → wpList Try.prog ops Q rest (a.put o.dst (.slice (some ⟨w.heap.size, 0, none⟩) n n)) w') : wpList Try.prog ops Q (o :: rest) a w := by
  obtain ⟨i0, hi, hz0, hz1, hz2⟩ := info_parts Try.info5
  refine wpList_make_full w hgd s x 27 ho base 5 i0 _ 1 Try.underlying27 hi hz0 hz1 .i64 .i64 L C n hs hx hL hC (by rw [hz2]; omega) (by simp only [maxLen]; omega) hbase ?_
  intro w' h1 h2
  refine h w' ?_ ?_
  · unfold OB
    rw [madeCells_B] at h1
    simpa using h1
  · exact (Below.refl base w).grown h2 hbase fun k hk => by cases hk

theorem run_append_zeros_B {base : Nat} {w : World} {v : Value} {l : List UInt8} (ty : TypeId) (hown : OB base w v l) (hl : 0 < l.length) (m : Nat) (hbound : l.length + m ≤ 70368744177664) (hbase : base ≤ w.heap.size) :
    ∃ v' w', (Builtin.append_ #[27, 3] ty #[v, .int .i64 m]).run Try.prog w = .ok v' w' ∧ OB base w' v' (l ++ List.replicate m 0) ∧ Below base w w' ∧ w.grownBy w' v.ownBlock := by
  obtain ⟨i0, hi, hz0, hz1, hz2⟩ := info_parts Try.info5
  have hown' := hown
  unfold OB at hown
  have hlen : (cellsB l ++ cellsB (List.replicate m 0)).length = l.length + m := by simp [cellsB]
  have hcat : cellsB (l ++ List.replicate m 0) = cellsB l ++ cellsB (List.replicate m 0) := by simp [cellsB]
  have h1c : ∀ u ∈ cellsB (List.replicate m 0), u.oneCell' = true := by
    intro u hu
    simp only [cellsB, List.mem_map] at hu
    obtain ⟨x, _, rfl⟩ := hu
    rfl
  have hw : IntKind.i64.wrap (m : Int) = m := by rw [IntKind.wrap_i64]; omega
  have hneg : ¬ ((m : Int) < 0) := by omega
  have h48i : ¬ (281474976710656 < (m : Int)) := by omega
  have hzz := zeroCells_B m
  rcases hown.2 with ⟨rfl, h0⟩ | ⟨g, cap, cur, rfl, hbg, hg, hnc, hcm, hcs, htake⟩
  · omega
  · by_cases hroom : l.length + m ≤ cap
    · have hst := run_storeCells_at Try.prog g l.length 5 (cellsB (List.replicate m 0)) 0 cur w hg (by simp only [cellsB, List.length_map, List.length_replicate]; omega) h1c
      simp only [Nat.add_zero] at hst
      have hrun : (Builtin.append_ #[27, 3] ty #[.slice (some ⟨g, 0, none⟩) l.length cap, .int .i64 m]).run Try.prog w = .ok (.slice (some ⟨g, 0, none⟩) (l.length + m) cap) (w.setRow g (cur.toList.take l.length ++ cellsB (List.replicate m 0) ++ cur.toList.drop (l.length + (cellsB (List.replicate m 0)).length)).toArray) := by
        by_cases hm : m = 0
        · subst hm
          have e : w.setRow g (cur.toList.take l.length ++ cellsB (List.replicate 0 0) ++ cur.toList.drop (l.length + (cellsB (List.replicate 0 0)).length)).toArray = w := by
            simp only [List.replicate_zero, cellsB, List.map_nil, List.append_nil, List.length_nil, Nat.add_zero, List.take_append_drop, Array.toArray_toList]
            exact setRow_self w g cur _ (0, 0) hg
          rw [e]
          have hw0 : IntKind.i64.wrap 0 = 0 := by rw [IntKind.wrap_i64]; rfl
          simp [hw0, Builtin.append_, run_underlying Try.underlying27, run_underlying Try.underlying3, sizeOf, typeInfo, zeroValue, hi, hz0, hz2, asInt, asIntOf, hnc, storeCells]
        · have hms : ¬ (m * i0.size = 0) := by rw [hz1]; omega
          simp [Builtin.append_, run_underlying Try.underlying27, run_underlying Try.underlying3, sizeOf, typeInfo, zeroValue, hi, hz0, hz1, hz2, asInt, asIntOf, hw, hneg, h48i, hroom, hm, hzz, Addr.add_lit, hst]
      refine ⟨_, _, hrun, ?_, ?_, ?_⟩
      · unfold OB
        rw [hcat]
        refine ⟨by simp [cellsB], .inr ⟨g, cap, _, by simp, hbg, setRow_heap w g cur _ _ _ hg, by simp; omega, hcm, ?_, ?_⟩⟩
        · simp only [List.size_toArray, List.length_append, List.length_take, List.length_drop, Array.length_toList, cellsB, List.length_map, List.length_replicate]
          omega
        · simp only [List.length_append, List.length_replicate, Nat.mul_one]
          rw [← hlen]
          rw [show cur.toList.take l.length = cellsB l by simpa using htake]
          exact List.take_left
      · exact (Below.refl base w).grown (row := some g) ⟨rfl, rfl, rfl, by simp, fun k _ hk => setRow_other w g k _ (fun e => hk (by rw [e]))⟩ hbase fun k hk => by cases hk; exact hbg
      · exact ⟨rfl, rfl, rfl, by simp, fun k _ hk => setRow_other w g k _ (fun e => hk (by simp [Value.ownBlock, e]))⟩
    · have hn : ¬ (l.length + m ≤ cap) := hroom
      have h63' : ¬ (9223372036854775807 < ((l.length : Int) + (m : Int))) := by omega
      have hgs := growslice_fits (need := l.length + m) (old := cap) (bytes := 1) (by omega) (by omega)
      have h48' : ¬ (281474976710656 < Builtin.nextslicecap (l.length + m) cap) := by omega
      have hm0 : m ≠ 0 := by omega
      have holds : ∀ j u, (cellsB l)[j]? = some u → w.drew.cell? ((⟨g, 0, none⟩ : Addr).add j) = some u := World.ownsRow.cells hown (g := g) rfl
      have hfo := run_firstCells_some (P := Try.prog) w.drew 1 l.length ⟨g, 0, none⟩ l.length cap (cellsB l) (by simp [cellsB]) holds
      have hrun : (Builtin.append_ #[27, 3] ty #[.slice (some ⟨g, 0, none⟩) l.length cap, .int .i64 m]).run Try.prog w = .ok (.slice (some ⟨w.heap.size, 0, none⟩) (l.length + m) (grownCap w (l.length + m) cap 5))
          (w.drew.alloc (.cells ((cellsB l).toArray ++ Builtin.zeroCells (Value.int .u8 0).cells m ++ Builtin.zeroCells (Value.int .u8 0).cells (grownCap w (l.length + m) cap 5 - (l.length + m))) 5)) := by
        simp [Builtin.append_, run_underlying Try.underlying27, run_underlying Try.underlying3, sizeOf, typeInfo, zeroValue, hi, hz0, hz1, hz2, asInt, asIntOf, hw, hneg, h48i, hn, hm0, h63', h48', Question.forced, hfo, newRow, grownCap]
      have hge := grownCap_ge w (l.length + m) cap 5
      have hgm : grownCap w (l.length + m) cap 5 ≤ maxLen := grownCap_le_maxLen w (l.length + m) cap 5 (by simp only [maxLen]; omega)
      refine ⟨_, _, hrun, ?_, ?_, ?_⟩
      · unfold OB
        rw [hcat]
        refine ⟨by simp [cellsB], .inr ⟨w.heap.size, _, _, by simp, hbase, heap_alloc_new w.drew _, by simpa using hge, hgm, ?_, ?_⟩⟩
        · simp only [Array.size_append, List.size_toArray, cellsB, List.length_map, size_zeroCells]
          simp [Value.cells]
          omega
        · simp only [List.length_append, List.length_replicate, Nat.mul_one]
          rw [← hlen]
          simp only [Array.toList_append, hzz]
          exact List.take_left
      · exact (Below.refl base w).grown (row := none) ⟨rfl, rfl, rfl, by simp, fun k hk _ => heap_alloc_old w.drew _ hk⟩ hbase fun k hk => by cases hk
      · exact ⟨rfl, rfl, rfl, by simp, fun k hk _ => heap_alloc_old w.drew _ hk⟩

theorem wpList_append_zeros_B {w : World} {ops : Array Oper} {rest : List Oper} {o : Oper} {a : Act} {Q : Exit → Act → World → Prop} (hgd : o.guard = none) (s x : Operand)
    (ho : o.op = .call { callee := .builtin .append, args := #[s, x], argTypes := #[27, 3] })
    (base : Nat) (v : Value) (l : List UInt8) (hs : a.eval s = v) (hown : OB base w v l) (hl : 0 < l.length) (m : Nat) (z : Int) (hx : a.eval x = .int .i64 z) (hz : z = (m : Int))
    (hbound : l.length + m ≤ 70368744177664) (hbase : base ≤ w.heap.size)
    (h : ∀ v' w', OB base w' v' (l ++ List.replicate m 0) → Below base w w' → wpList Try.prog ops Q rest (a.put o.dst v') w') : wpList Try.prog ops Q (o :: rest) a w :=
  wpList_plain hgd fun K hK => by
    subst hz
    obtain ⟨v', w', hrun, h2, h3, _⟩ := run_append_zeros_B o.type hown hl m hbound hbase
    unfold Oper.wp execOp
    simp only [ho, resolve, invoke, builtin, Sem.run_bind, Sem.run_pure, Result.andThen_ok, List.map_toArray, List.map_cons, List.map_nil, hs, hx, hrun]
    exact hK _ _ (h v' w' h2 h3)

theorem wpList_copy_B {w : World} {ops : Array Oper} {rest : List Oper} {o : Oper} {a : Act} {Q : Exit → Act → World → Prop} (hgd : o.guard = none) (d s : Operand)
    (ho : o.op = .call { callee := .builtin .copy, args := #[d, s], argTypes := #[27, 27] })
    (base g n c : Nat) (l : List UInt8) (hown : OB base w (.slice (some ⟨g, 0, none⟩) n c) l) (off : Nat) (dp A : Option Addr) (dn dc m sc : Nat) (news : List UInt8)
    (hd : a.eval d = .slice dp dn dc) (hs : a.eval s = .slice A m sc) (hm : news.length = m) (hr : RB w A news) (hfit : off + m ≤ n) (hdn : m ≤ dn) (hdp : 0 < m → dp = some ⟨g, off, none⟩)
    (h : ∀ w', OB base w' (.slice (some ⟨g, 0, none⟩) n c) (splice l off news) → Below base w w' → wpList Try.prog ops Q rest (a.put o.dst (.int .i64 m)) w') : wpList Try.prog ops Q (o :: rest) a w := by
  have hn : n = l.length := hown.len
  subst hn
  unfold OB at hown
  rcases hown.2 with ⟨e, h0⟩ | ⟨g', cap, cur, e, hbg, hg, hnc, hcm, hcs, htake⟩
  · cases e
  · injection e with e1 e2 e3
    injection e1 with e1
    injection e1 with e1
    subst e1
    subst e3
    refine wpList_copy_splice hgd d s 27 27 ho 5 Try.underlying27 (by kernel_rfl) dp A dn dc m sc hd hs g off cur.toList 5 (by simpa using hg) (cellsB news) (by simp only [cellsB, List.length_map, hm]; exact (Nat.min_eq_left hdn).symm) ?_ ?_ ?_ base w (Below.refl _ _) hbg ?_
    · intro hp
      have hp' : 0 < m := by simpa [cellsB, hm] using hp
      refine ⟨hdp hp', ?_⟩
      rcases hr with rfl | ⟨ad, rfl, hc⟩
      · simp at hm; omega
      · refine ⟨ad, rfl, fun j v hv => ?_⟩
        simp only [cellsB, List.getElem?_map, Option.map_eq_some_iff] at hv
        obtain ⟨x, hx, rfl⟩ := hv
        exact hc j x hx
    · simp [cellsB, hm]; omega
    · intro u hu
      simp only [cellsB, List.mem_map] at hu
      obtain ⟨x, _, rfl⟩ := hu
      rfl
    · intro w' hg' hb'
      have e2 : (goInt (cellsB news).length) = .int .i64 (m : Int) := by simp [cellsB, hm, goInt]
      rw [e2]
      refine h w' ?_ hb'
      unfold OB
      have hsl : (splice l off news).length = l.length := length_splice _ _ _ (by omega)
      have hcl : (cellsB (splice l off news)) = splice (cellsB l) off (cellsB news) := by simp [cellsB, splice]
      have hlen : l.length ≤ cur.toList.length := by simp; omega
      rw [hsl, hcl]
      refine ⟨?_, .inr ⟨g, c, _, rfl, hbg, hg'.out, hnc, hcm, ?_, ?_⟩⟩
      · rw [length_splice _ _ _ (by simp [cellsB]; omega)]
        simp [cellsB]
      · simp only [List.size_toArray]
        rw [length_splice _ _ _ (by simp [cellsB]; omega)]
        simpa using hcs
      · have ht : cur.toList.take l.length = cellsB l := by simpa using htake
        rw [← ht]
        simp only [splice, Nat.mul_one, cellsB, List.length_map]
        rw [List.take_append, List.take_append, List.length_take, List.length_map]
        rw [List.take_take, List.take_take, List.drop_take, Nat.min_eq_left (by omega : off ≤ cur.toList.length), Nat.min_eq_right (by omega), Nat.min_eq_left (by omega : off ≤ l.length)]
        rw [List.take_of_length_le (by simp; omega : (List.map cellB news).length ≤ l.length - off)]
        rw [show l.length - off - news.length = l.length - (off + news.length) by omega]

theorem OB.atg {base g : Nat} {w : World} {n c k : Nat} {l : List UInt8} (x : UInt8) (h : OB base w (.slice (some ⟨g, 0, none⟩) n c) l) (hk : l[k]? = some x) :
    base ≤ g ∧ g < w.heap.size ∧ w.cell? ⟨g, k, none⟩ = some (.int .u8 (x.toNat : Int)) ∧ w.frozen? ⟨g, k, none⟩ = false ∧
      ∀ (y : UInt8) (z : Int), z = (y.toNat : Int) → OB base (w.setCell ⟨g, k, none⟩ (.int .u8 z)) (.slice (some ⟨g, 0, none⟩) n c) (l.set k y) := by
  obtain ⟨g', e, h1, h2, h3, h4, h5⟩ := h.at_ hk
  injection e with e
  injection e with e
  subst e
  exact ⟨h1, h2, h3, h4, h5⟩
theorem RB.dropw {w : World} {ad : Addr} {l : List UInt8} (h : RB w (some ad) l) (k : Nat) (hk : 0 < k) : RB w (some ⟨ad.block, ad.off + k, none⟩) (l.drop k) := by
  have h1 := h.drop k
  have e : ad.add k = ⟨ad.block, ad.off + k, none⟩ := by
    unfold Addr.add
    rw [if_neg (by omega)]
  rw [e] at h1
  exact h1
end Go.Proofs.Ytlohhbpncbnipaa
end
