/- Rows of texts: what reads as them, and a row of them of one's own. -/
import Derived.Test.YtjmmaghjbaigiaaOwn
import Derived.Deep.OwnRows
import Derived.Deep.RegionHeld3
namespace Go.Proofs.Ytjmmaghjbaigiaa
open Go.RowKit
set_option linter.unusedVariables false
set_option linter.unusedSimpArgs false
def cellS (t : List UInt8) : Value := .string (str t)
/-- The slice of texts at A reads as the texts L. -/
def RS (w : World) (A : Option Addr) (L : List (List UInt8)) : Prop := ∀ (j : Nat) (t : List UInt8), L[j]? = some t → ∃ ad, A = some ad ∧ w.cell? (ad.add j) = some (.string (str t))
theorem RS.nil {w : World} {A : Option Addr} : RS w A [] := fun j t hj => by simp at hj
theorem RS.at_ {w : World} {A : Option Addr} {L : List (List UInt8)} (h : RS w A L) {k : Nat} {t : List UInt8} (hk : L[k]? = some t) : ∃ ad, A = some ad ∧ w.cell? (ad.add k) = some (.string (str t)) := h k t hk
theorem RS.keep {w w' : World} {A : Option Addr} {L : List (List UInt8)} (h : RS w A L) (hk : ∀ p : Addr, p.block < w.heap.size → w'.cell? p = w.cell? p) : RS w' A L := fun j t hj => by
  obtain ⟨ad, e, hc⟩ := h j t hj
  exact ⟨ad, e, (hk _ (lt_of_cell hc)).trans hc⟩
theorem RS.alloc {w : World} {A : Option Addr} {L : List (List UInt8)} (h : RS w A L) (o : Obj) : RS (w.alloc o) A L := h.keep fun p hp => World.cell?_alloc_lt w o p hp
theorem RS.below {w w' : World} {A : Option Addr} {L : List (List UInt8)} (h : RS w A L) (hb : Below w.heap.size w w') : RS w' A L := fun j t hj => by
  obtain ⟨ad, e, hc⟩ := h j t hj
  exact ⟨ad, e, (hb.cell (lt_of_cell hc)).trans hc⟩
theorem infoS : (Try.prog.info? 9).map (fun i => (i.zero, i.size, i.bytes)) = some (some (.string (str [])), 1, 16) := by kernel_rfl
/-- A row of texts of the call's own. -/
def OS (base : Nat) (w : World) (v : Value) (L : List (List UInt8)) : Prop := w.ownsRow base 9 1 v L.length (L.map cellS)
theorem OS.nil {base : Nat} {w : World} : OS base w (.slice none 0 0) [] := World.ownsRow_nil w base 9 1
theorem OS.form {base : Nat} {w : World} {v : Value} {L : List (List UInt8)} (h : OS base w v L) : ∃ A c, v = .slice A L.length c ∧ L.length ≤ c ∧ RS w A L ∧ ∀ ad, A = some ad → ad.off = 0 ∧ ad.block < w.heap.size := by
  have h' := h
  rcases h.2 with ⟨rfl, h0⟩ | ⟨g, cap, cur, rfl, hb, hh, hc, hm, hsz, ht⟩
  · have : L = [] := List.length_eq_zero_iff.1 h0
    subst this
    exact ⟨none, 0, rfl, Nat.le_refl _, (fun j t hj => by simp at hj), fun ad e => by cases e⟩
  · exact ⟨_, cap, rfl, hc, (fun j t hj => ⟨_, rfl, World.ownsRow.cells h (g := g) rfl j _ (by simp [hj, cellS])⟩), fun ad e => by injection e with e; subst e; exact ⟨rfl, (Array.getElem?_eq_some_iff.1 hh).1⟩⟩
theorem OS.below {base : Nat} {w w' : World} {v : Value} {L : List (List UInt8)} (h : OS base w v L) (hb : Below w.heap.size w w') : OS base w' v L := by
  obtain ⟨h1, h2⟩ := h
  refine ⟨h1, ?_⟩
  rcases h2 with h | ⟨g, cap, cur, e, hb', hh, r⟩
  · exact .inl h
  · exact .inr ⟨g, cap, cur, e, hb', (hb.block g (Array.getElem?_eq_some_iff.1 hh).1).trans hh, r⟩
theorem OS.alloc {base : Nat} {w : World} {v : Value} {L : List (List UInt8)} (h : OS base w v L) (o : Obj) : OS base (w.alloc o) v L := h.below ((Below.refl w.heap.size w).alloc (Nat.le_refl _) o)
theorem OS.lift {b B : Nat} {w : World} {v : Value} {L : List (List UInt8)} (h : OS b w v L) (hB : B ≤ b) : OS B w v L := by
  obtain ⟨h1, h2⟩ := h
  refine ⟨h1, ?_⟩
  rcases h2 with h | ⟨g, cap, cur, e, hb', r⟩
  · exact .inl h
  · exact .inr ⟨g, cap, cur, e, Nat.le_trans hB hb', r⟩
theorem RS.take {w : World} {A : Option Addr} {L : List (List UInt8)} (h : RS w A L) (k : Nat) : RS w A (L.take k) := fun j t hj => by
  rw [List.getElem?_take] at hj
  split at hj
  · exact h j t hj
  · cases hj
theorem RS.drop {w : World} {ad : Addr} {L : List (List UInt8)} (h : RS w (some ad) L) (k : Nat) : RS w (some (ad.add k)) (L.drop k) := fun j t hj => by
  rw [List.getElem?_drop] at hj
  obtain ⟨ad', e, hc⟩ := h _ _ hj
  injection e with e
  subst e
  exact ⟨_, rfl, by rw [add_of_add]; exact hc⟩
theorem RS.drew {w : World} {A : Option Addr} {L : List (List UInt8)} (h : RS w A L) : RS w.drew A L := h
theorem RS.grown {w w' : World} {ad : Addr} {L : List (List UInt8)} {row : Option Nat} (h : RS w (some ad) L) (hg : w.grownBy w' row) (hne : some ad.block ≠ row) : RS w' (some ad) L := fun j t hj => by
  obtain ⟨ad', e, hc⟩ := h j t hj
  injection e with e
  subst e
  exact ⟨_, rfl, hg.cell hc (by rw [block_of_add]; exact hne)⟩
theorem RS.one (w : World) (t : List UInt8) : RS (w.alloc (.cells #[.string (str t)] 9)) (some ⟨w.heap.size, 0, none⟩) [t] := fun j x hj => by
  cases j with
  | zero =>
    simp at hj
    subst hj
    exact ⟨_, rfl, by rw [Addr.add_nought]; simp⟩
  | succ j => simp at hj
theorem run_append_S {base : Nat} {w : World} {v : Value} {L : List (List UInt8)} (ty : TypeId) (hown : OS base w v L) {A : Option Addr} {m : Nat} (c : Nat) {M : List (List UInt8)} (hm : M.length = m) (hr : RS w A M) (hbound : L.length + m ≤ 1000000) (hbase : base ≤ w.heap.size) :
    ∃ v' w', (Builtin.append_ #[85, 85] ty #[v, .slice A m c]).run Try.prog w = .ok v' w' ∧ OS base w' v' (L ++ M) ∧ Below base w w' ∧ w.grownBy w' v.ownBlock := by
  obtain ⟨i0, hi, hz0, hz1, hz2⟩ := info_parts infoS
  subst hm
  rcases Classical.em (A = none) with rfl | hA
  · have hn : M = [] := by
      cases M with
      | nil => rfl
      | cons x t => obtain ⟨ad, e, _⟩ := hr 0 x rfl; cases e
    subst hn
    refine ⟨v, w, ?_, by simpa using hown, Below.refl _ _, ⟨rfl, rfl, rfl, Nat.le_refl _, fun _ _ _ => rfl⟩⟩
    rcases hown.2 with ⟨rfl, hl⟩ | ⟨g, cap, cur, rfl, _, _, hnc, _⟩
    · simp [Builtin.append_, run_underlying Try.underlying85, sizeOf, typeInfo, hi, Builtin.lenOf, Builtin.firstCells]
    · simp [Builtin.append_, run_underlying Try.underlying85, sizeOf, typeInfo, hi, Builtin.lenOf, Builtin.firstCells, hnc, storeCells]
  · obtain ⟨ad, rfl⟩ := Option.ne_none_iff_exists'.1 hA
    have hcells : ∀ j u, (M.map cellS)[j]? = some u → w.cell? (ad.add j) = some u := by
      intro j u hu
      simp only [List.getElem?_map, Option.map_eq_some_iff] at hu
      obtain ⟨x, hx, rfl⟩ := hu
      obtain ⟨ad', e, hc⟩ := hr j x hx
      have e' : ad = ad' := Option.some.inj e
      clear hbound e
      subst e'
      exact hc
    obtain ⟨v', w', hrun, h2, h3, _, _⟩ := run_append_own_at (P := Try.prog) w base 85 ty 9 i0 _ 1 16 Try.underlying85 hi hz0 hz1 hz2 rfl (by omega) v L.length (L.map cellS) hown ad M.length c (M.map cellS)
      (by simp) hcells (by intro u hu; simp only [List.mem_map] at hu; obtain ⟨x, _, rfl⟩ := hu; rfl) (by simp only [maxLen]; omega) (by omega) hbase
    refine ⟨v', w', hrun, ?_, ?_, h3⟩
    · unfold OS
      rw [List.length_append, List.map_append]
      exact h2
    · refine (Below.refl base w).grown h3 hbase fun k hk => ?_
      exact (World.ownsRow.lt hown k hk).1
theorem step_append_S {w : World} {ops : Array Oper} {o : Oper} {a : Act} {K : Act → World → Prop} {Q : Exit → Act → World → Prop} {E : Prop} (hgd : o.guard = none) (s x : Operand)
    (ho : o.op = .call { callee := .builtin .append, args := #[s, x], argTypes := #[85, 85] })
    (base : Nat) (v : Value) (L : List (List UInt8)) (hs : a.eval s = v) (hown : OS base w v L) (A : Option Addr) (m c : Nat) (M : List (List UInt8)) (hx : a.eval x = .slice A m c) (hm : M.length = m) (hr : RS w A M)
    (hbound : L.length + m ≤ 1000000) (hbase : base ≤ w.heap.size)
    (h : ∀ v' w', OS base w' v' (L ++ M) → Below base w w' → w.grownBy w' v.ownBlock → K (a.put o.dst v') w') :
    if Region.wanted o (yielded ops a.tmps) = true then Oper.wp Try.prog o a w K Q else E := by
  have hw : Region.wanted o (yielded ops a.tmps) = true := by simp [Region.wanted, hgd]
  rw [if_pos hw]
  obtain ⟨v', w', hrun, h2, h3, h4⟩ := run_append_S o.type hown c hm hr hbound hbase
  unfold Oper.wp execOp
  simp only [ho, resolve, invoke, builtin, Sem.run_bind, Sem.run_pure, Result.andThen_ok, List.map_toArray, List.map_cons, List.map_nil, hs, hx, hrun]
  exact h v' w' h2 h3 h4
theorem wpList_append_S {w : World} {ops : Array Oper} {rest : List Oper} {o : Oper} {a : Act} {Q : Exit → Act → World → Prop} (hgd : o.guard = none) (s x : Operand)
    (ho : o.op = .call { callee := .builtin .append, args := #[s, x], argTypes := #[85, 85] })
    (base : Nat) (v : Value) (L : List (List UInt8)) (hs : a.eval s = v) (hown : OS base w v L) (A : Option Addr) (m c : Nat) (M : List (List UInt8)) (hx : a.eval x = .slice A m c) (hm : M.length = m) (hr : RS w A M)
    (hbound : L.length + m ≤ 1000000) (hbase : base ≤ w.heap.size)
    (h : ∀ v' w', OS base w' v' (L ++ M) → Below base w w' → w.grownBy w' v.ownBlock → wpList Try.prog ops Q rest (a.put o.dst v') w') : wpList Try.prog ops Q (o :: rest) a w :=
  wpList_step fun K hK => step_append_S hgd s x ho base v L hs hown A m c M hx hm hr hbound hbase fun v' w' h2 h3 h4 => hK _ _ (h v' w' h2 h3 h4)
end Go.Proofs.Ytjmmaghjbaigiaa
