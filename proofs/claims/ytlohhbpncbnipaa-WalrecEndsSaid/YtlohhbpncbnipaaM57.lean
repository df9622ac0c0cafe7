/- Joined: WrR. -/
import Derived.Test.YtlohhbpncbnipaaM54
section
/- A row of records of one's own, and what comes behind it. -/
namespace Go.Proofs.Ytlohhbpncbnipaa
open Go.RowKit
set_option linter.unusedVariables false
set_option linter.unusedSimpArgs false
theorem infoRec : (Try.prog.info? 23).map (fun i => (i.zero, i.size, i.bytes)) = some (some (.agg #[.int .u8 0, .int .i64 0, .int .i64 0, .string ⟨#[]⟩, .bool false, .string ⟨#[]⟩]), 6, 64) := by kernel_rfl
theorem flat6_len : ∀ l : List Rec, (l.flatMap Rec.cells).length = l.length * 6
  | [] => rfl
  | r :: t => by rw [List.flatMap_cons, List.length_append, flat6_len t]; simp [Rec.cells]; omega
/-- A row of records of the call's own. -/
def OR (base : Nat) (w : World) (v : Value) (l : List Rec) : Prop := w.ownsRow base 23 6 v l.length (l.flatMap Rec.cells) ∧ ∀ r ∈ l, r.fits
theorem OR.form {base : Nat} {w : World} {v : Value} {l : List Rec} (h : OR base w v l) : ∃ A c, v = .slice A l.length c ∧ l.length ≤ c ∧ RcsAt w A l := by
  obtain ⟨h, hf⟩ := h
  rcases h.2 with ⟨rfl, h0⟩ | ⟨g, cap, cur, rfl, hb, hh, hc, hm, hsz, ht⟩
  · have : l = [] := List.length_eq_zero_iff.1 h0
    subst this
    exact ⟨none, 0, rfl, Nat.le_refl _, .inl rfl⟩
  · refine ⟨_, cap, rfl, hc, .inr ⟨_, rfl, fun i a hi => ?_⟩⟩
    have e : ∀ j u, j < 6 → a.cells[j]? = some u → w.cell? (((⟨g, 0, none⟩ : Addr).add (i * 6)).add j) = some u := by
      intro j u hj hu
      rw [add_of_add]
      exact World.ownsRow.cells h (g := g) rfl _ _ (by rw [flat6 l i j hj, hi]; exact hu)
    exact ⟨e 0 _ (by omega) rfl, e 1 _ (by omega) rfl, e 2 _ (by omega) rfl, e 3 _ (by omega) rfl, e 4 _ (by omega) rfl, e 5 _ (by omega) rfl, hf _ (List.mem_of_getElem? hi)⟩
theorem OR.below {base : Nat} {w w' : World} {v : Value} {l : List Rec} (h : OR base w v l) (hb : Below w.heap.size w w') : OR base w' v l := by
  obtain ⟨⟨h1, h2⟩, hf⟩ := h
  refine ⟨⟨h1, ?_⟩, hf⟩
  rcases h2 with h | ⟨g, cap, cur, e, hb', hh, r⟩
  · exact .inl h
  · exact .inr ⟨g, cap, cur, e, hb', (hb.block g (Array.getElem?_eq_some_iff.1 hh).1).trans hh, r⟩
theorem OR.alloc {base : Nat} {w : World} {v : Value} {l : List Rec} (h : OR base w v l) (o : Obj) : OR base (w.alloc o) v l := h.below ((Below.refl w.heap.size w).alloc (Nat.le_refl _) o)
theorem OR.empty (w : World) (base : Nat) (hb : base ≤ w.heap.size) : OR base (w.alloc (.cells #[] 23)) (.slice (some ⟨w.heap.size, 0, none⟩) 0 0) [] := by
  refine ⟨⟨rfl, .inr ⟨w.heap.size, 0, #[], rfl, hb, ?_, Nat.le_refl _, Nat.zero_le _, rfl, rfl⟩⟩, fun r hr => by simp at hr⟩
  unfold World.alloc
  simp
theorem run_append_R {base : Nat} {w : World} {v : Value} {l : List Rec} (ty : TypeId) (hown : OR base w v l) {A : Option Addr} {m : Nat} (c : Nat) {news : List Rec} (hm : news.length = m) (hr : RcsAt w A news) (hf : ∀ r ∈ news, r.fits)
    (hbound : l.length + m ≤ 1000000) (hbase : base ≤ w.heap.size) :
    ∃ v' w', (Builtin.append_ #[25, 25] ty #[v, .slice A m c]).run Try.prog w = .ok v' w' ∧ OR base w' v' (l ++ news) ∧ Below base w w' := by
  obtain ⟨i0, hi, hz0, hz1, hz2⟩ := info_parts infoRec
  subst hm
  rcases Classical.em (A = none) with rfl | hA
  · have hn : news = [] := by
      rcases hr with h | ⟨ad, h, _⟩
      · exact h
      · cases h
    subst hn
    refine ⟨v, w, ?_, by simpa using hown, Below.refl _ _⟩
    rcases hown.1.2 with ⟨rfl, hl⟩ | ⟨g, cap, cur, rfl, _, _, hnc, _⟩
    · simp [Builtin.append_, run_underlying Try.underlying25, sizeOf, typeInfo, hi, Builtin.lenOf, Builtin.firstCells]
    · simp [Builtin.append_, run_underlying Try.underlying25, sizeOf, typeInfo, hi, Builtin.lenOf, Builtin.firstCells, hnc, storeCells]
  · obtain ⟨ad, rfl⟩ := Option.ne_none_iff_exists'.1 hA
    have hcells : ∀ j u, (news.flatMap Rec.cells)[j]? = some u → w.cell? (ad.add j) = some u := by
      intro j u hu
      have hlt : j < news.length * 6 := by rw [← flat6_len]; exact (List.getElem?_eq_some_iff.1 hu).1
      obtain ⟨q, s, hs6, rfl⟩ : ∃ q s, s < 6 ∧ j = q * 6 + s := ⟨j / 6, j % 6, by omega, by omega⟩
      rw [flat6 news q s hs6] at hu
      obtain ⟨r, hr1, hr2⟩ := Option.bind_eq_some_iff.1 hu
      rcases hr with h | ⟨ad', h, hc⟩
      · subst h; simp at hr1
      · have h' : ad = ad' := Option.some.inj h
        clear h hbound
        subst h'
        have g := hc _ _ hr1
        rw [← add_of_add]
        have h6 : s = 0 ∨ s = 1 ∨ s = 2 ∨ s = 3 ∨ s = 4 ∨ s = 5 := by omega
        rcases h6 with rfl | rfl | rfl | rfl | rfl | rfl <;> simp [Rec.cells] at hr2 <;> subst hr2
        · exact g.c0
        · exact g.c1
        · exact g.c2
        · exact g.c3
        · exact g.c4
        · exact g.c5
    obtain ⟨v', w', hrun, h2, h3, _, _⟩ := run_append_own_at (P := Try.prog) w base 25 ty 23 i0 _ 6 64 Try.underlying25 hi hz0 hz1 hz2 rfl (by omega) v l.length (l.flatMap Rec.cells) hown.1 ad news.length c (news.flatMap Rec.cells)
      (flat6_len news) hcells (by intro u hu; simp only [List.mem_flatMap] at hu; obtain ⟨r, _, hr⟩ := hu; simp only [Rec.cells, List.mem_cons, List.not_mem_nil, or_false] at hr; rcases hr with rfl | rfl | rfl | rfl | rfl | rfl <;> rfl) (by simp only [maxLen]; omega) (by omega) hbase
    refine ⟨v', w', hrun, ⟨?_, ?_⟩, ?_⟩
    · rw [List.length_append, List.flatMap_append]
      exact h2
    · intro r hr
      rcases List.mem_append.1 hr with h | h
      · exact hown.2 r h
      · exact hf r h
    · refine (Below.refl base w).grown h3 hbase fun k hk => ?_
      exact (World.ownsRow.lt hown.1 k hk).1
theorem wpList_append_R {w : World} {ops : Array Oper} {rest : List Oper} {o : Oper} {a : Act} {Q : Exit → Act → World → Prop} (hgd : o.guard = none) (s x : Operand)
    (ho : o.op = .call { callee := .builtin .append, args := #[s, x], argTypes := #[25, 25] })
    (base : Nat) (v : Value) (l : List Rec) (hs : a.eval s = v) (hown : OR base w v l) (A : Option Addr) (m c : Nat) (news : List Rec) (hx : a.eval x = .slice A m c) (hm : news.length = m) (hr : RcsAt w A news) (hf : ∀ r ∈ news, r.fits)
    (hbound : l.length + m ≤ 1000000) (hbase : base ≤ w.heap.size)
    (h : ∀ v' w', OR base w' v' (l ++ news) → Below base w w' → wpList Try.prog ops Q rest (a.put o.dst v') w') : wpList Try.prog ops Q (o :: rest) a w :=
  wpList_plain hgd fun K hK => by
    obtain ⟨v', w', hrun, h2, h3⟩ := run_append_R o.type hown c hm hr hf hbound hbase
    unfold Oper.wp execOp
    simp only [ho, resolve, invoke, builtin, Sem.run_bind, Sem.run_pure, Result.andThen_ok, List.map_toArray, List.map_cons, List.map_nil, hs, hx, hrun]
    exact hK _ _ (h v' w' h2 h3)
/-- What ends a transaction. -/
def endR (t : Int) : Rec := ⟨3, t, 0, ⟨#[]⟩, false, ⟨#[]⟩⟩
theorem liveB_ends : ∀ (L : List Int) (l : List Rec) (t : Int), liveB (l ++ L.map endR) t = (liveB l t && decide (t ∉ L))
  | [], l, t => by simp
  | x :: L, l, t => by
    rw [List.map_cons, show l ++ endR x :: L.map endR = (l ++ [endR x]) ++ L.map endR from by simp, liveB_ends L, liveB_snoc, liveStep, if_neg (by simp [endR])]
    by_cases e : t = x
    · subst e
      simp [endR]
    · have e2 : ¬ t = (endR x).txn := e
      rw [if_neg e2]
      simp [e]
theorem LiveOf.ends {l : List Rec} {L : List Int} (h : LiveOf l L) (k : Nat) : LiveOf (l ++ (L.take k).map endR) (L.drop k) := by
  refine ⟨h.1.drop, fun t => ?_⟩
  rw [liveB_ends, Bool.and_eq_true, decide_eq_true_iff, ← h.2 t]
  have hsplit := List.take_append_drop k L
  have hp : (L.take k ++ L.drop k).Pairwise (· < ·) := by rw [hsplit]; exact h.1
  have hd := (List.pairwise_append.1 hp).2.2
  constructor
  · intro ht
    refine ⟨List.mem_of_mem_drop ht, fun h1 => ?_⟩
    have := hd t h1 t ht
    omega
  · rintro ⟨h1, h2⟩
    rw [← hsplit] at h1
    rcases List.mem_append.1 h1 with h3 | h3
    · exact absurd h3 h2
    · exact h3
end Go.Proofs.Ytlohhbpncbnipaa
end
