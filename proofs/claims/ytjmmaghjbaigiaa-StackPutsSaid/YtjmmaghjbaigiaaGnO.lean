/- A row of rows of one's own whose last row still grows, in the general words. -/
import Derived.Test.YtjmmaghjbaigiaaGn
namespace Go.Proofs.Ytjmmaghjbaigiaa
open Go.RowKit
set_option linter.unusedVariables false
set_option linter.unusedSimpArgs false
def CR.Flat {α : Type} (K : CR α) : Prop := ∀ w cs x b, ¬ K.foot w cs x b
theorem list_foot {α : Type} {K : CR α} (hK : K.Flat) {w : World} {a : Value} {l : List α} {b : Nat} (h : (CR.list K).foot w [a] l b) : a.ownBlock = some b := by
  obtain ⟨A, c, e, j, x, ad, cs, hx, hA, _, _, h⟩ := h
  injection e with e _
  subst e
  subst hA
  rcases h with h | h
  · rw [← h]; rfl
  · exact (hK _ _ _ _ h).elim
/-- The rows F are whole, the last one, cur, still grows: its value is u. -/
def OO {α : Type} (K : CR α) (T TS : TypeId) (base : Nat) (w : World) (v u : Value) (F : List (List α)) (cur : List α) : Prop :=
  ∃ vs : List Value, w.ownsRow base TS 1 v (F.length + 1) (vs ++ [u]) ∧ vs.length = F.length ∧ OG K T base w u cur ∧ (∀ b, u.ownBlock = some b → v.ownBlock ≠ some b) ∧
    ∀ (j : Nat) (x : List α), F[j]? = some x → ∃ a, vs[j]? = some a ∧ (CR.list K).E w [a] x ∧ ∀ b, (CR.list K).foot w [a] x b → v.ownBlock ≠ some b ∧ u.ownBlock ≠ some b
theorem OG.listE {α : Type} {K : CR α} {T : TypeId} {base : Nat} {w : World} {u : Value} {l : List α} (h : OG K T base w u l) : (CR.list K).E w [u] l := by
  obtain ⟨A, c, rfl, h1, h2, h3, _⟩ := h.rg
  exact ⟨A, c, rfl, h1, h2, h3⟩
theorem OO.og {α : Type} {K : CR α} (hK : K.Flat) {T TS : TypeId} {base : Nat} {w : World} {v u : Value} {F : List (List α)} {cur : List α} (h : OO K T TS base w v u F cur) : OG (CR.list K) TS base w v (F ++ [cur]) := by
  obtain ⟨vs, h1, h2, h3, h4, h5⟩ := h
  have key : ∀ l : List Value, (l.map fun a => [a]).flatten = l := fun l => by induction l with | nil => rfl | cons a r ih => simpa using ih
  refine ⟨(vs ++ [u]).map fun a => [a], by rw [key, List.length_append]; exact h1, by simp [h2], fun j x hj => ?_⟩
  by_cases hlt : j < F.length
  · rw [List.getElem?_append_left hlt] at hj
    obtain ⟨a, g1, g2, g3⟩ := h5 j x hj
    exact ⟨[a], by rw [List.getElem?_map, List.getElem?_append_left (by omega), g1]; rfl, g2, fun b hb => (g3 b hb).1⟩
  · rw [List.getElem?_append_right (by omega)] at hj
    have hj0 : j - F.length = 0 := by
      have := (List.getElem?_eq_some_iff.1 hj).1
      simp at this
      omega
    rw [hj0] at hj
    simp at hj
    subst hj
    exact ⟨[u], by rw [List.getElem?_map, List.getElem?_append_right (by omega), h2, hj0]; rfl, h3.listE, fun b hb => h4 b (list_foot hK hb)⟩
theorem OO.below {α : Type} {K : CR α} {T TS : TypeId} {base : Nat} {w w' : World} {v u : Value} {F : List (List α)} {cur : List α} (h : OO K T TS base w v u F cur) (hb : Below w.heap.size w w') : OO K T TS base w' v u F cur := by
  obtain ⟨vs, h1, h2, h3, h4, h5⟩ := h
  refine ⟨vs, ownsRow_keepB h1 fun g hg => hb.block g (World.ownsRow.lt h1 g hg).2, h2, h3.below hb, h4, fun j x hj => ?_⟩
  obtain ⟨a, g1, g2, g3⟩ := h5 j x hj
  have := (CR.list K).keep g2 fun b hf => hb.block b ((CR.list K).lt g2 b hf)
  exact ⟨a, g1, this.1, fun b hf => g3 b (this.2 b hf)⟩
/-- Where the last row's value lies. -/
theorem OO.cell {α : Type} {K : CR α} {T TS : TypeId} {base : Nat} {w : World} {v u : Value} {F : List (List α)} {cur : List α} (h : OO K T TS base w v u F cur) : ∃ g c, v = .slice (some ⟨g, 0, none⟩) (F.length + 1) c ∧ F.length + 1 ≤ c ∧ c ≤ maxLen ∧ w.cell? ⟨g, F.length, none⟩ = some u ∧ w.frozen? ⟨g, F.length, none⟩ = false ∧ base ≤ g := by
  obtain ⟨vs, h1, h2, h3, h4, h5⟩ := h
  have h1' := h1
  rcases h1.2 with ⟨_, h0⟩ | ⟨g, cap, cur', e, hb, hh, hc, hm, hsz, ht⟩
  · omega
  · refine ⟨g, cap, e, hc, hm, ?_, by simp [World.frozen?, hh], hb⟩
    subst e
    have := World.ownsRow.cells h1' (g := g) rfl F.length u (by rw [List.getElem?_append_right (by omega), h2, Nat.sub_self]; rfl)
    rwa [show (⟨g, 0, none⟩ : Addr).add F.length = ⟨g, F.length, none⟩ from by cases F.length <;> simp [Addr.add]] at this
theorem OO.cellAt {α : Type} {K : CR α} {T TS : TypeId} {base g n c : Nat} {w : World} {u : Value} {F : List (List α)} {cur : List α} (h : OO K T TS base w (.slice (some ⟨g, 0, none⟩) n c) u F cur) : w.cell? ⟨g, F.length, none⟩ = some u := by
  obtain ⟨g', c', e, _, _, h, _⟩ := h.cell
  injection e with e
  injection e with e
  injection e with e
  rw [e]
  exact h
/-- A further row is begun. -/
theorem OO.next {α : Type} {K : CR α} (hK : K.Flat) {P : Program} {T TS TO : TypeId} (tg : TG (CR.list K) P TO TS) {base : Nat} {w : World} {v u : Value} {F : List (List α)} {cur : List α} (ty : TypeId) (h : OO K T TS base w v u F cur) {g : Nat} (hg : w.cell? ⟨g, 0, none⟩ = some (.slice none 0 0)) (hn : F.length ≤ 100000) (hbase : base ≤ w.heap.size) :
    ∃ v' w', (Builtin.append_ #[TO, TO] ty #[v, .slice (some ⟨g, 0, none⟩) 1 1]).run P w = .ok v' w' ∧ OO K T TS base w' v' (.slice none 0 0) (F ++ [cur]) [] ∧ Below base w w' := by
  obtain ⟨vs, h1, h2, h3, h4, h5⟩ := h
  obtain ⟨z, bytes, hinfo, hby, hzc⟩ := tg.info
  obtain ⟨i0, hi, hz0, hz1, hz2⟩ := info_parts hinfo
  obtain ⟨v', w', hrun, b1, b2, _, b3⟩ := run_append_own_at (P := P) w base TO ty TS i0 z 1 bytes tg.und hi hz0 hz1 hz2 hzc (by omega) v (F.length + 1) (vs ++ [u]) h1 ⟨g, 0, none⟩ 1 1 [.slice none 0 0]
    rfl (fun j x hx => by
      cases j with
      | zero =>
        simp at hx
        subst hx
        rw [Addr.add_nought]
        exact hg
      | succ j => simp at hx) (by intro u hu; simp at hu; subst hu; rfl) (by simp only [maxLen]; omega) (Nat.le_trans (Nat.mul_le_mul (show _ ≤ 1000000 by omega) hby) (by omega)) hbase
  have nb : ∀ b, b < w.heap.size → v.ownBlock ≠ some b → v'.ownBlock ≠ some b := fun b e1 e2 e3 => by
    rcases b3 with b3 | b3
    · exact e2 (by rw [← b3]; exact e3)
    · rw [b3] at e3
      injection e3 with e3
      omega
  refine ⟨v', w', hrun, ⟨vs ++ [u], by simpa using b1, by simp [h2], OG.nil, fun b hb => (by cases hb), fun j x hj => ?_⟩, (Below.refl base w).grown b2 hbase fun q hq => (World.ownsRow.lt h1 q hq).1⟩
  by_cases hlt : j < F.length
  · rw [List.getElem?_append_left hlt] at hj
    obtain ⟨a, g1, g2, g3⟩ := h5 j x hj
    have := (CR.list K).keep (w' := w') g2 fun b hf => b2.block b ((CR.list K).lt g2 b hf) fun e => (g3 b hf).1 e.symm
    exact ⟨a, by rw [List.getElem?_append_left (by omega)]; exact g1, this.1, fun b hf => ⟨nb b ((CR.list K).lt g2 b (this.2 b hf)) (g3 b (this.2 b hf)).1, fun e => by cases e⟩⟩
  · rw [List.getElem?_append_right (by omega)] at hj
    have hj0 : j - F.length = 0 := by
      have := (List.getElem?_eq_some_iff.1 hj).1
      simp at this
      omega
    rw [hj0] at hj
    simp at hj
    subst hj
    have he := h3.listE
    have hf0 : ∀ b, (CR.list K).foot w [u] cur b → v.ownBlock ≠ some b := fun b hf => h4 b (list_foot hK hf)
    have := (CR.list K).keep (w' := w') he fun b hf => b2.block b ((CR.list K).lt he b hf) fun e => hf0 b hf e.symm
    exact ⟨u, by rw [List.getElem?_append_right (by omega), h2, hj0]; rfl, this.1, fun b hf => ⟨nb b ((CR.list K).lt he b (this.2 b hf)) (hf0 b (this.2 b hf)), fun e => by cases e⟩⟩
/-- The first row is begun. -/
theorem OO.first {α : Type} {K : CR α} {P : Program} {T TS TO : TypeId} (tg : TG (CR.list K) P TO TS) {base : Nat} {w : World} (ty : TypeId) {g : Nat} (hg : w.cell? ⟨g, 0, none⟩ = some (.slice none 0 0)) (hbase : base ≤ w.heap.size) :
    ∃ v' w', (Builtin.append_ #[TO, TO] ty #[.slice none 0 0, .slice (some ⟨g, 0, none⟩) 1 1]).run P w = .ok v' w' ∧ OO K T TS base w' v' (.slice none 0 0) [] ([] : List α) ∧ Below base w w' := by
  obtain ⟨z, bytes, hinfo, hby, hzc⟩ := tg.info
  obtain ⟨i0, hi, hz0, hz1, hz2⟩ := info_parts hinfo
  obtain ⟨v', w', hrun, b1, b2, _, b3⟩ := run_append_own_at (P := P) w base TO ty TS i0 z 1 bytes tg.und hi hz0 hz1 hz2 hzc (by omega) (.slice none 0 0) 0 [] (World.ownsRow_nil w base TS 1) ⟨g, 0, none⟩ 1 1 [.slice none 0 0]
    rfl (fun j x hx => by
      cases j with
      | zero =>
        simp at hx
        subst hx
        rw [Addr.add_nought]
        exact hg
      | succ j => simp at hx) (by intro u hu; simp at hu; subst hu; rfl) (by simp only [maxLen]; omega) (Nat.le_trans (Nat.mul_le_mul (show _ ≤ 1000000 by omega) hby) (by omega)) hbase
  exact ⟨v', w', hrun, ⟨[], b1, rfl, OG.nil, fun b hb => (by cases hb), fun j x hj => by simp at hj⟩, (Below.refl base w).grown b2 hbase fun q hq => by cases hq⟩
/-- The last row has grown to u' in w', and u' is stored in its place. -/
theorem OO.store {α : Type} {K : CR α} {T TS : TypeId} {base g n c : Nat} {w w' : World} {u u' : Value} {F : List (List α)} {cur cur' : List α} (h : OO K T TS base w (.slice (some ⟨g, 0, none⟩) n c) u F cur)
    (hg : w.grownBy w' u.ownBlock) (ho : OG K T base w' u' cur') (hfl : K.Flat) (hu : u'.ownBlock = u.ownBlock ∨ ∃ b, u'.ownBlock = some b ∧ w.heap.size ≤ b) :
    w'.frozen? ⟨g, F.length, none⟩ = false ∧ w'.cell? ⟨g, F.length, none⟩ = some u ∧ OO K T TS base (w'.setCell ⟨g, F.length, none⟩ u') (.slice (some ⟨g, 0, none⟩) n c) u' F cur' := by
  obtain ⟨vs, h1, h2, h3, h4, h5⟩ := h
  have hgl := (World.ownsRow.lt h1 g rfl).2
  have hgu : u.ownBlock ≠ some g := fun e => h4 g e rfl
  have hgu' : u'.ownBlock ≠ some g := fun e => by
    rcases hu with hu | ⟨b, hu, hb⟩
    · exact hgu (by rw [← hu]; exact e)
    · rw [hu] at e
      injection e with e
      omega
  have hr : w'.ownsRow base TS 1 (.slice (some ⟨g, 0, none⟩) n c) (F.length + 1) (vs ++ [u]) := ownsRow_keepB h1 fun b hb => by
    injection hb with hb
    subst hb
    exact hg.block _ hgl fun e => hgu e.symm
  have hr' := hr
  rcases hr.2 with ⟨e, _⟩ | ⟨g', cap, cu, e, hb, hh, hc, hm, hsz, ht⟩
  · cases e
  · injection e with e1 e2 e3
    injection e1 with e1
    injection e1 with e1
    subst e1 e2 e3
    have hcell := World.ownsRow.cells hr' (g := g) rfl F.length u (by rw [List.getElem?_append_right (by omega), h2, Nat.sub_self]; rfl)
    rw [show (⟨g, 0, none⟩ : Addr).add F.length = ⟨g, F.length, none⟩ from by cases F.length <;> simp [Addr.add]] at hcell
    have hoth : ∀ b, b ≠ g → (w'.setCell ⟨g, F.length, none⟩ u').heap[b]? = w'.heap[b]? := fun b hne => by
      rw [setCell_eq_setRow w' g _ cu TS (0, 0) u' hh]
      exact setRow_other w' g b _ hne
    rw [Nat.mul_one] at hsz ht
    refine ⟨by simp [World.frozen?, hh], hcell, vs, ⟨by simp [h2], .inr ⟨g, c, cu.setIfInBounds F.length u', rfl, hb, heap_setCell_same w' g _ cu TS u' hh, hc, hm, by simpa using hsz, ?_⟩⟩, h2, ?_, fun b hb e => by injection e with e; subst e; exact hgu' hb, fun j x hj => ?_⟩
    · rw [Nat.mul_one, Array.toList_setIfInBounds, List.take_set, ht, List.set_append_right _ _ (by omega), h2, Nat.sub_self]
      rfl
    · obtain ⟨css, o1, o2, o3⟩ := ho
      refine ⟨css, ownsRow_keepB o1 fun b hb => hoth b fun e => hgu' (by rw [hb, e]), o2, fun j x hj => ?_⟩
      obtain ⟨cs, q1, q2, q3⟩ := o3 j x hj
      have := K.keep (w' := w'.setCell ⟨g, F.length, none⟩ u') q2 fun b hb => (hfl _ _ _ _ hb).elim
      exact ⟨cs, q1, this.1, fun b hb => q3 b (this.2 b hb)⟩
    · obtain ⟨a, q1, q2, q3⟩ := h5 j x hj
      have k1 := (CR.list K).keep (w' := w') q2 fun b hb => hg.block b ((CR.list K).lt q2 b hb) fun e => (q3 b hb).2 e.symm
      have k2 := (CR.list K).keep (w' := w'.setCell ⟨g, F.length, none⟩ u') k1.1 fun b hb => hoth b fun e => (q3 b (k1.2 b hb)).1 (by rw [e]; rfl)
      refine ⟨a, q1, k2.1, fun b hb => ⟨(q3 b (k1.2 b (k2.2 b hb))).1, fun e => ?_⟩⟩
      rcases hu with hu | ⟨b', hu, hb'⟩
      · exact (q3 b (k1.2 b (k2.2 b hb))).2 (by rw [← hu]; exact e)
      · rw [hu] at e
        injection e with e
        have := (CR.list K).lt q2 b (k1.2 b (k2.2 b hb))
        omega
end Go.Proofs.Ytjmmaghjbaigiaa
