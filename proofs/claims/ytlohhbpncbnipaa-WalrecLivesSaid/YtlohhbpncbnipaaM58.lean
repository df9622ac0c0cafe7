/- Joined: WrS. -/
import Derived.Test.YtlohhbpncbnipaaM54
import Derived.Deep.RegionHeld3
section
/- A row of ints of one's own; which transactions are not over, as the document finds them (plain). -/
namespace Go.Proofs.Ytlohhbpncbnipaa
open Go.RowKit
set_option linter.unusedVariables false
set_option linter.unusedSimpArgs false
theorem infoZ : (Try.prog.info? 3).map (fun i => (i.zero, i.size, i.bytes)) = some (some (.int .i64 0), 1, 8) := by kernel_rfl
/-- A row of ints of the call's own. -/
def OI (base : Nat) (w : World) (v : Value) (L : List Int) : Prop := w.ownsRow base 3 1 v L.length (L.map encZ)
theorem OI.nil {base : Nat} {w : World} : OI base w (.slice none 0 0) [] := World.ownsRow_nil w base 3 1
theorem OI.form {base : Nat} {w : World} {v : Value} {L : List Int} (h : OI base w v L) : ∃ A c, v = .slice A L.length c ∧ L.length ≤ c ∧ RI w A L ∧ ∀ ad, A = some ad → ad.off = 0 ∧ ad.block < w.heap.size := by
  have h' := h
  rcases h.2 with ⟨rfl, h0⟩ | ⟨g, cap, cur, rfl, hb, hh, hc, hm, hsz, ht⟩
  · have : L = [] := List.length_eq_zero_iff.1 h0
    subst this
    exact ⟨none, 0, rfl, Nat.le_refl _, (fun j t hj => by simp at hj), fun ad e => by cases e⟩
  · exact ⟨_, cap, rfl, hc, (fun j t hj => ⟨_, rfl, World.ownsRow.cells h (g := g) rfl j _ (by simp [hj, encZ])⟩), fun ad e => by injection e with e; subst e; exact ⟨rfl, (Array.getElem?_eq_some_iff.1 hh).1⟩⟩
theorem OI.below {base : Nat} {w w' : World} {v : Value} {L : List Int} (h : OI base w v L) (hb : Below w.heap.size w w') : OI base w' v L := by
  obtain ⟨h1, h2⟩ := h
  refine ⟨h1, ?_⟩
  rcases h2 with h | ⟨g, cap, cur, e, hb', hh, r⟩
  · exact .inl h
  · exact .inr ⟨g, cap, cur, e, hb', (hb.block g (Array.getElem?_eq_some_iff.1 hh).1).trans hh, r⟩
theorem OI.alloc {base : Nat} {w : World} {v : Value} {L : List Int} (h : OI base w v L) (o : Obj) : OI base (w.alloc o) v L := h.below ((Below.refl w.heap.size w).alloc (Nat.le_refl _) o)
theorem OI.lift {b B : Nat} {w : World} {v : Value} {L : List Int} (h : OI b w v L) (hB : B ≤ b) : OI B w v L := by
  obtain ⟨h1, h2⟩ := h
  refine ⟨h1, ?_⟩
  rcases h2 with h | ⟨g, cap, cur, e, hb', r⟩
  · exact .inl h
  · exact .inr ⟨g, cap, cur, e, Nat.le_trans hB hb', r⟩
theorem RI.take {w : World} {A : Option Addr} {L : List Int} (h : RI w A L) (k : Nat) : RI w A (L.take k) := fun j t hj => by
  rw [List.getElem?_take] at hj
  split at hj
  · exact h j t hj
  · cases hj
theorem RI.drop {w : World} {ad : Addr} {L : List Int} (h : RI w (some ad) L) (k : Nat) : RI w (some (ad.add k)) (L.drop k) := fun j t hj => by
  rw [List.getElem?_drop] at hj
  obtain ⟨ad', e, hc⟩ := h _ _ hj
  injection e with e
  subst e
  exact ⟨_, rfl, by rw [add_of_add]; exact hc⟩
theorem RI.drew {w : World} {A : Option Addr} {L : List Int} (h : RI w A L) : RI w.drew A L := h
theorem RI.grown {w w' : World} {ad : Addr} {L : List Int} {row : Option Nat} (h : RI w (some ad) L) (hg : w.grownBy w' row) (hne : some ad.block ≠ row) : RI w' (some ad) L := fun j t hj => by
  obtain ⟨ad', e, hc⟩ := h j t hj
  injection e with e
  subst e
  exact ⟨_, rfl, hg.cell hc (by rw [block_of_add]; exact hne)⟩
theorem RI.one (w : World) (t : Int) : RI (w.alloc (.cells #[.int .i64 t] 3)) (some ⟨w.heap.size, 0, none⟩) [t] := fun j x hj => by
  cases j with
  | zero =>
    simp at hj
    subst hj
    exact ⟨_, rfl, by rw [Addr.add_nought]; simp⟩
  | succ j => simp at hj
theorem run_append_I {base : Nat} {w : World} {v : Value} {L : List Int} (ty : TypeId) (hown : OI base w v L) {A : Option Addr} {m : Nat} (c : Nat) {M : List Int} (hm : M.length = m) (hr : RI w A M) (hbound : L.length + m ≤ 1000000) (hbase : base ≤ w.heap.size) :
    ∃ v' w', (Builtin.append_ #[41, 41] ty #[v, .slice A m c]).run Try.prog w = .ok v' w' ∧ OI base w' v' (L ++ M) ∧ Below base w w' ∧ w.grownBy w' v.ownBlock := by
  obtain ⟨i0, hi, hz0, hz1, hz2⟩ := info_parts infoZ
  subst hm
  rcases Classical.em (A = none) with rfl | hA
  · have hn : M = [] := by
      cases M with
      | nil => rfl
      | cons x t => obtain ⟨ad, e, _⟩ := hr 0 x rfl; cases e
    subst hn
    refine ⟨v, w, ?_, by simpa using hown, Below.refl _ _, ⟨rfl, rfl, rfl, Nat.le_refl _, fun _ _ _ => rfl⟩⟩
    rcases hown.2 with ⟨rfl, hl⟩ | ⟨g, cap, cur, rfl, _, _, hnc, _⟩
    · simp [Builtin.append_, run_underlying Try.underlying41, sizeOf, typeInfo, hi, Builtin.lenOf, Builtin.firstCells]
    · simp [Builtin.append_, run_underlying Try.underlying41, sizeOf, typeInfo, hi, Builtin.lenOf, Builtin.firstCells, hnc, storeCells]
  · obtain ⟨ad, rfl⟩ := Option.ne_none_iff_exists'.1 hA
    have hcells : ∀ j u, (M.map encZ)[j]? = some u → w.cell? (ad.add j) = some u := by
      intro j u hu
      simp only [List.getElem?_map, Option.map_eq_some_iff] at hu
      obtain ⟨x, hx, rfl⟩ := hu
      obtain ⟨ad', e, hc⟩ := hr j x hx
      have e' : ad = ad' := Option.some.inj e
      clear hbound e
      subst e'
      exact hc
    obtain ⟨v', w', hrun, h2, h3, _, _⟩ := run_append_own_at (P := Try.prog) w base 41 ty 3 i0 _ 1 8 Try.underlying41 hi hz0 hz1 hz2 rfl (by omega) v L.length (L.map encZ) hown ad M.length c (M.map encZ)
      (by simp) hcells (by intro u hu; simp only [List.mem_map] at hu; obtain ⟨x, _, rfl⟩ := hu; rfl) (by simp only [maxLen]; omega) (by omega) hbase
    refine ⟨v', w', hrun, ?_, ?_, h3⟩
    · unfold OI
      rw [List.length_append, List.map_append]
      exact h2
    · refine (Below.refl base w).grown h3 hbase fun k hk => ?_
      exact (World.ownsRow.lt hown k hk).1
theorem step_append_I {w : World} {ops : Array Oper} {o : Oper} {a : Act} {K : Act → World → Prop} {Q : Exit → Act → World → Prop} {E : Prop} (hgd : o.guard = none) (s x : Operand)
    (ho : o.op = .call { callee := .builtin .append, args := #[s, x], argTypes := #[41, 41] })
    (base : Nat) (v : Value) (L : List Int) (hs : a.eval s = v) (hown : OI base w v L) (A : Option Addr) (m c : Nat) (M : List Int) (hx : a.eval x = .slice A m c) (hm : M.length = m) (hr : RI w A M)
    (hbound : L.length + m ≤ 1000000) (hbase : base ≤ w.heap.size)
    (h : ∀ v' w', OI base w' v' (L ++ M) → Below base w w' → w.grownBy w' v.ownBlock → K (a.put o.dst v') w') :
    if Region.wanted o (yielded ops a.tmps) = true then Oper.wp Try.prog o a w K Q else E := by
  have hw : Region.wanted o (yielded ops a.tmps) = true := by simp [Region.wanted, hgd]
  rw [if_pos hw]
  obtain ⟨v', w', hrun, h2, h3, h4⟩ := run_append_I o.type hown c hm hr hbound hbase
  unfold Oper.wp execOp
  simp only [ho, resolve, invoke, builtin, Sem.run_bind, Sem.run_pure, Result.andThen_ok, List.map_toArray, List.map_cons, List.map_nil, hs, hx, hrun]
  exact h v' w' h2 h3 h4
/-- A record that no later one below n ends, or goes on with. -/
def lastIn (l : List Rec) (j n : Nat) (r : Rec) : Prop := (r.kind ≠ 4 ∧ r.kind ≠ 2 ∧ r.kind ≠ 3) ∧ ∀ (m : Nat) (y : Rec), j < m → m < n → l[m]? = some y → y.kind = 4 ∨ y.txn ≠ r.txn
theorem liveB_of_last {l : List Rec} {j : Nat} {r : Rec} (hj : l[j]? = some r) : ∀ d, j + 1 + d ≤ l.length → lastIn l j (j + 1 + d) r → liveB (l.take (j + 1 + d)) r.txn = true
  | 0, _, h => by
    rw [Nat.add_zero, liveB_at hj, liveStep, if_neg h.1.1, if_pos rfl]
    exact decide_eq_true h.1.2
  | d + 1, hd, h => by
    have hd' : j + 1 + d < l.length := by omega
    obtain ⟨y, hy⟩ : ∃ y, l[j + 1 + d]? = some y := ⟨_, List.getElem?_eq_getElem hd'⟩
    rw [show j + 1 + (d + 1) = (j + 1 + d) + 1 from rfl, liveB_at hy]
    have ih := liveB_of_last hj d (by omega) ⟨h.1, fun m z h1 h2 => h.2 m z h1 (by omega)⟩
    rcases h.2 (j + 1 + d) y (by omega) (by omega) hy with e | e
    · rw [liveStep, if_pos e]; exact ih
    · unfold liveStep
      split
      · exact ih
      · rw [if_neg (fun e' => e e'.symm)]; exact ih
theorem last_of_liveB {l : List Rec} {t : Int} : ∀ n, n ≤ l.length → liveB (l.take n) t = true → ∃ j r, j < n ∧ l[j]? = some r ∧ r.txn = t ∧ lastIn l j n r
  | 0, _, h => by simp [liveB] at h
  | n + 1, hn, h => by
    obtain ⟨y, hy⟩ : ∃ y, l[n]? = some y := ⟨_, List.getElem?_eq_getElem (by omega)⟩
    rw [liveB_at hy] at h
    unfold liveStep at h
    have more : (y.kind = 4 ∨ y.txn ≠ t) → liveB (l.take n) t = true → ∃ j r, j < n + 1 ∧ l[j]? = some r ∧ r.txn = t ∧ lastIn l j (n + 1) r := by
      intro hy2 h2
      obtain ⟨j, r, h3, h4, h5, h6⟩ := last_of_liveB n (by omega) h2
      refine ⟨j, r, by omega, h4, h5, h6.1, fun m z h7 h8 hz => ?_⟩
      by_cases e : m = n
      · subst e
        rw [hy] at hz
        injection hz with hz
        subst hz
        rw [h5]
        exact hy2
      · exact h6.2 m z h7 (by omega) hz
    split at h
    · rename_i e; exact more (.inl e) h
    · rename_i e4
      split at h
      · rename_i e
        exact ⟨n, y, by omega, hy, e.symm, ⟨⟨e4, of_decide_eq_true h⟩, fun m z h1 h2 => by omega⟩⟩
      · rename_i e
        exact more (.inr (fun e' => e e'.symm)) h
/-- What the document's list has behind k records. -/
def RefInv (l : List Rec) (k : Nat) (L : List Int) : Prop := L.Pairwise (· < ·) ∧ ∀ t, t ∈ L ↔ ∃ j r, j < k ∧ l[j]? = some r ∧ r.txn = t ∧ lastIn l j l.length r
theorem RefInv.done {l : List Rec} {L : List Int} (h : RefInv l l.length L) : LiveOf l L := by
  refine ⟨h.1, fun t => (h.2 t).trans ?_⟩
  constructor
  · rintro ⟨j, r, h1, h2, rfl, h3⟩
    have := liveB_of_last h2 (l.length - (j + 1)) (by omega) (by rw [show j + 1 + (l.length - (j + 1)) = l.length by omega]; exact h3)
    rwa [show j + 1 + (l.length - (j + 1)) = l.length by omega, List.take_length] at this
  · intro ht
    obtain ⟨j, r, h1, h2, h3, h4⟩ := last_of_liveB l.length (Nat.le_refl _) (by rw [List.take_length]; exact ht)
    exact ⟨j, r, h1, h2, h3, h4⟩
theorem RefInv.skip {l : List Rec} {k : Nat} {L : List Int} {r : Rec} (h : RefInv l k L) (hk : l[k]? = some r) (hn : ¬ lastIn l k l.length r) : RefInv l (k + 1) L := by
  refine ⟨h.1, fun t => (h.2 t).trans ⟨?_, ?_⟩⟩
  · rintro ⟨j, x, h1, h2⟩; exact ⟨j, x, by omega, h2⟩
  · rintro ⟨j, x, h1, h2, h3, h4⟩
    refine ⟨j, x, ?_, h2, h3, h4⟩
    rcases Nat.lt_or_ge j k with e | e
    · exact e
    · have : j = k := by omega
      subst this
      rw [hk] at h2
      injection h2 with h2
      subst h2
      exact absurd h4 hn
theorem RefInv.fresh {l : List Rec} {k : Nat} {L : List Int} {r : Rec} (h : RefInv l k L) (hk : l[k]? = some r) (h4 : r.kind ≠ 4) : r.txn ∉ L := by
  intro ht
  obtain ⟨j, x, h1, h2, h3, h5⟩ := (h.2 _).1 ht
  rcases h5.2 k r h1 (List.getElem?_eq_some_iff.1 hk).1 hk with e | e
  · exact h4 e
  · exact e h3.symm
theorem RefInv.put {l : List Rec} {k : Nat} {L : List Int} {r : Rec} (h : RefInv l k L) (hk : l[k]? = some r) (hl : lastIn l k l.length r) {a : Nat} (ha : a ≤ L.length) (h1 : ∀ (j : Nat) (t : Int), j < a → L[j]? = some t → t < r.txn) (h2 : ∀ t, L[a]? = some t → r.txn ≤ t) :
    RefInv l (k + 1) ((L.take a ++ [r.txn]) ++ L.drop a) := by
  have hf := h.fresh hk hl.1.1
  have hsplit := List.take_append_drop a L
  have hp : (L.take a ++ L.drop a).Pairwise (· < ·) := by rw [hsplit]; exact h.1
  obtain ⟨p1, p2, p3⟩ := List.pairwise_append.1 hp
  have q1 : ∀ t ∈ L.take a, t < r.txn := by
    intro t ht
    obtain ⟨j, hj, e⟩ := List.getElem_of_mem ht
    have hja : j < a := by have := hj; rw [List.length_take] at this; omega
    refine h1 j t hja ?_
    have hjl : j < L.length := by have := hj; rw [List.length_take] at this; omega
    rw [List.getElem?_eq_getElem hjl]
    rw [List.getElem_take] at e
    rw [e]
  have q2 : ∀ t ∈ L.drop a, r.txn < t := by
    intro t ht
    have hne : t ≠ r.txn := fun e => hf (by rw [← e]; exact List.mem_of_mem_drop ht)
    have hlt : a < L.length := by
      rcases Nat.lt_or_ge a L.length with e | e
      · exact e
      · rw [List.drop_eq_nil_of_le e] at ht; cases ht
    have h3 := h2 L[a] (List.getElem?_eq_getElem hlt)
    rw [List.drop_eq_getElem_cons hlt] at ht p2
    rcases List.mem_cons.1 ht with e | e
    · subst e; omega
    · have := (List.pairwise_cons.1 p2).1 t e
      omega
  refine ⟨?_, fun t => ?_⟩
  · rw [List.append_assoc]
    refine List.pairwise_append.2 ⟨p1, ?_, ?_⟩
    · rw [List.singleton_append]
      exact List.pairwise_cons.2 ⟨q2, p2⟩
    · intro x hx y hy
      rcases List.mem_append.1 hy with e | e
      · simp at e; subst e; exact q1 x hx
      · exact p3 x hx y e
  · have hm : t ∈ (L.take a ++ [r.txn]) ++ L.drop a ↔ t ∈ L ∨ t = r.txn := by
      have e : t ∈ L ↔ t ∈ L.take a ∨ t ∈ L.drop a := by rw [← List.mem_append, hsplit]
      rw [e]
      simp only [List.mem_append, List.mem_singleton]
      constructor
      · rintro ((h | h) | h)
        · exact .inl (.inl h)
        · exact .inr h
        · exact .inl (.inr h)
      · rintro ((h | h) | h)
        · exact .inl (.inl h)
        · exact .inr h
        · exact .inl (.inr h)
    rw [hm, h.2 t]
    constructor
    · rintro (⟨j, x, g1, g2⟩ | rfl)
      · exact ⟨j, x, by omega, g2⟩
      · exact ⟨k, r, by omega, hk, rfl, hl⟩
    · rintro ⟨j, x, g1, g2, g3, g4⟩
      rcases Nat.lt_or_ge j k with e | e
      · exact .inl ⟨j, x, e, g2, g3, g4⟩
      · have : j = k := by omega
        subst this
        rw [hk] at g2
        injection g2 with g2
        subst g2
        exact .inr g3.symm
end Go.Proofs.Ytlohhbpncbnipaa
end
