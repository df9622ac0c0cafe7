/- Stacks, plain: a stack that may be still may be; what a Commit and an Abort leave. -/
import Derived.Test.YtjmmaghjbaigiaaVsP
namespace Go.Proofs.Ytjmmaghjbaigiaa
set_option linter.unusedVariables false
set_option linter.unusedSimpArgs false
theorem vsPend_iff {t : Int} {v : Vn} : vsPend t v = true ↔ v.ts = 0 ∧ v.txn = t := by simp [vsPend]
theorem vsAt_lt {l : List Vn} {t : Int} : vsAt l t < l.length ↔ ∃ v ∈ l, vsPend t v = true := List.findIdx_lt_length
theorem vsAt_spec {l : List Vn} {t : Int} (h : vsAt l t < l.length) : vsPend t (l[vsAt l t]'h) = true := List.findIdx_getElem (w := h)
theorem vsAt_not {l : List Vn} {t : Int} {i : Nat} (h : i < vsAt l t) (hl : i < l.length) : vsPend t (l[i]'hl) = false := by
  have := List.not_of_lt_findIdx h
  simpa using this
abbrev vsO (l : List Vn) : Prop := l.Pairwise fun a b => vsFol b a = true
def vsKey (v : Vn) : Int × Int := (v.ts, v.txn)
def vsFolK (a b : Int × Int) : Bool := if b.1 = 0 then decide (a.1 = 0) && decide (a.2 ≠ b.2) else decide (a.1 = 0) || decide (b.1 ≤ a.1)
theorem vsO_key (l : List Vn) : vsO l ↔ (l.map vsKey).Pairwise fun a b => vsFolK b a = true := by rw [List.pairwise_map]; rfl
theorem vsWrite_len (l : List Vn) (v : Vn) (h : l.length ≤ 8) : (vsWrite l v).length ≤ 8 := by
  unfold vsWrite
  split
  · rw [List.length_set]; exact h
  · split
    · rw [List.length_append]; simp; omega
    · exact h
theorem vsWrite_ord {l : List Vn} (v : Vn) (h : vsO l) : vsO (vsWrite l v) := by
  unfold vsWrite
  split
  · rename_i hi
    rw [vsO_key] at h ⊢
    rw [List.map_set]
    have := vsPend_iff.1 (vsAt_spec hi)
    have e : (l.map vsKey).set (vsAt l v.txn) (vsKey { v with ts := 0 }) = l.map vsKey := by
      refine List.ext_getElem? fun i => ?_
      rw [List.getElem?_set]
      split
      · rename_i hh
        subst hh
        rw [if_pos (by simpa using hi), List.getElem?_map, List.getElem?_eq_getElem hi]
        simp [vsKey, this.1, this.2]
      · rfl
    rw [e]
    exact h
  · split
    · rename_i hi _
      refine List.pairwise_append.2 ⟨h, List.pairwise_singleton _ _, fun a ha b hb => ?_⟩
      simp at hb
      subst hb
      unfold vsFol
      split
      · rename_i h0
        simp
        intro e
        exact hi (vsAt_lt.2 ⟨a, ha, vsPend_iff.2 ⟨h0, e.symm⟩⟩)
      · simp
    · exact h
theorem vsWrite_fault {l : List Vn} {v : Vn} (h : ∀ x ∈ l, vsFault x = 0) (hv : vsFault { v with ts := 0 } = 0) : ∀ x ∈ vsWrite l v, vsFault x = 0 := by
  unfold vsWrite
  intro x hx
  split at hx
  · rcases List.mem_or_eq_of_mem_set hx with hx | rfl
    · exact h x hx
    · exact hv
  · split at hx
    · rcases List.mem_append.1 hx with hx | hx
      · exact h x hx
      · simp at hx; rw [hx]; exact hv
    · exact h x hx
theorem vsLast_spec {p : Vn → Bool} : ∀ {l : List Vn}, 0 < vsLast p l → ∃ x, l[vsLast p l - 1]? = some x ∧ p x = true
  | [], h => by simp [vsLast] at h
  | x :: r, h => by
    rw [vsLast] at h ⊢
    split at h
    · rename_i h0
      rw [if_pos h0]
      split at h
      · rename_i hx
        rw [if_pos hx]
        exact ⟨x, rfl, hx⟩
      · omega
    · rename_i h0
      rw [if_neg h0]
      obtain ⟨y, h1, h2⟩ := vsLast_spec (l := r) (p := p) (by omega)
      refine ⟨y, ?_, h2⟩
      have : vsLast p r + 1 - 1 = vsLast p r - 1 + 1 := by omega
      rw [this, List.getElem?_cons_succ]
      exact h1
theorem vsLast_behind {p : Vn → Bool} : ∀ {l : List Vn}, ∀ x ∈ l.drop (vsLast p l), p x = false
  | [], x, h => by simp at h
  | y :: r, x, h => by
    rw [vsLast] at h
    split at h
    · rename_i h0
      have ih := vsLast_behind (l := r) (p := p)
      rw [h0] at ih
      split at h
      · rename_i hy
        simp at h
        exact ih x (by simpa using h)
      · rename_i hy
        simp at h
        rcases h with rfl | h
        · simpa using hy
        · exact ih x (by simpa using h)
    · rw [List.drop_succ_cons] at h
      exact vsLast_behind (l := r) x h
theorem vsLast_ahead {s : Int} {l : List Vn} (h : vsO l) : ∀ a ∈ l.take (vsLast (vsBy s) l), a.ts ≠ 0 ∧ a.ts ≤ s := by
  intro a ha
  obtain ⟨i, hi, e⟩ := List.getElem_of_mem ha
  rw [List.length_take] at hi
  have hp : 0 < vsLast (vsBy s) l := by omega
  obtain ⟨x, h1, h2⟩ := vsLast_spec hp
  simp only [vsBy, Bool.and_eq_true, decide_eq_true_eq] at h2
  rw [List.getElem_take] at e
  subst e
  by_cases hlast : i = vsLast (vsBy s) l - 1
  · subst hlast
    rw [List.getElem?_eq_getElem (by omega)] at h1
    injection h1 with h1
    rw [h1]
    exact h2
  · have := (vsOrd_iff l).2 h i (vsLast (vsBy s) l - 1) _ x (by omega) (List.getElem?_eq_getElem (by omega)) h1
    unfold vsFol at this
    split at this
    · rename_i h0
      simp at this
      exact (h2.1 this.1).elim
    · rename_i h0
      refine ⟨h0, ?_⟩
      simp only [Bool.or_eq_true, decide_eq_true_eq] at this
      rcases this with this | this
      · exact (h2.1 this).elim
      · exact Int.le_trans this h2.2
theorem vsPut_mem {l : List Vn} {k : Nat} {v x : Vn} : x ∈ vsPut l k v ↔ x = v ∨ x ∈ l := by
  unfold vsPut
  rw [List.mem_append, List.mem_cons]
  constructor
  · rintro (h | h | h)
    · exact .inr (List.mem_of_mem_take h)
    · exact .inl h
    · exact .inr (List.mem_of_mem_drop h)
  · rintro (h | h)
    · exact .inr (.inl h)
    · rw [← List.take_append_drop k l, List.mem_append] at h
      rcases h with h | h
      · exact .inl h
      · exact .inr (.inr h)
theorem vsPut_len (l : List Vn) (k : Nat) (v : Vn) : (vsPut l k v).length = l.length + 1 := by
  unfold vsPut
  rw [List.length_append, List.length_cons, List.length_take, List.length_drop]
  omega
theorem vsCommit_len (l : List Vn) (t s : Int) : (vsCommit l t s).length = l.length := by
  unfold vsCommit
  split
  · split
    · rename_i h _
      rw [vsPut_len, List.length_eraseIdx_of_lt h]
      omega
    · rfl
  · rfl
theorem vsCommit_ord {l : List Vn} (t s : Int) (h : vsO l) : vsO (vsCommit l t s) := by
  unfold vsCommit
  split
  · rename_i hl
    split
    · rename_i hs
      have h1 : vsO (l.eraseIdx (vsAt l t)) := h.sublist (List.eraseIdx_sublist l (vsAt l t))
      generalize l.eraseIdx (vsAt l t) = L at *
      generalize l[vsAt l t] = x
      have hT := vsLast_ahead (s := s) h1
      have hD := vsLast_behind (l := L) (p := vsBy s)
      unfold vsPut
      generalize vsLast (vsBy s) L = k at *
      rw [← List.take_append_drop k L] at h1
      unfold vsO at h1 ⊢
      rw [List.pairwise_append] at h1 ⊢
      refine ⟨h1.1, List.pairwise_cons.2 ⟨fun b hb => ?_, h1.2.1⟩, fun a ha b hb => ?_⟩
      · have := hD b hb
        simp only [vsBy, Bool.and_eq_false_iff, decide_eq_false_iff_not] at this
        unfold vsFol
        rw [if_neg (show ¬ s = 0 by omega)]
        simp only [Bool.or_eq_true, decide_eq_true_eq]
        simp at this
        omega
      · rcases List.mem_cons.1 hb with rfl | hb
        · have := hT a ha
          unfold vsFol
          rw [if_neg this.1]
          simp only [Bool.or_eq_true, decide_eq_true_eq]
          exact .inr this.2
        · exact h1.2.2 a ha b hb
    · exact h
  · exact h
theorem vsCommit_fault {l : List Vn} {t s : Int} (h : ∀ x ∈ l, vsFault x = 0) (hs : s ≤ 1099511627776) : ∀ x ∈ vsCommit l t s, vsFault x = 0 := by
  unfold vsCommit
  intro x hx
  split at hx
  · rename_i hl
    split at hx
    · rename_i h1
      rcases vsPut_mem.1 hx with rfl | hx
      · have := vsFault_zero.1 (h _ (List.getElem_mem hl))
        exact vsFault_zero.2 ⟨this.1, this.2.1, this.2.2.1, by dsimp only; omega, hs⟩
      · exact h x ((List.eraseIdx_sublist l (vsAt l t)).subset hx)
    · exact h x hx
  · exact h x hx
theorem vsAbort_sub (l : List Vn) (t : Int) : (vsAbort l t).Sublist l := List.filter_sublist
theorem vsPrune_sub (l : List Vn) (t : Int) : (vsPrune l t).Sublist l := vsKeep_sub _ _ _
theorem vsCheck_sub {key : ByteArray} {l m : List Vn} (h : vsCheck key l = 0) (hs : m.Sublist l) : vsCheck key m = 0 := by
  rw [vsCheck_zero] at h ⊢
  exact ⟨h.1, Nat.le_trans hs.length_le h.2.1, fun v hv => h.2.2.1 v (hs.subset hv), h.2.2.2.sublist hs⟩
theorem vsCheck_write {key : ByteArray} {l : List Vn} {v : Vn} (h : vsCheck key l = 0) (hv : vsFault { v with ts := 0 } = 0) : vsCheck key (vsWrite l v) = 0 := by
  rw [vsCheck_zero] at h ⊢
  exact ⟨h.1, vsWrite_len l v h.2.1, vsWrite_fault h.2.2.1 hv, vsWrite_ord v h.2.2.2⟩
theorem vsCheck_commit {key : ByteArray} {l : List Vn} {t s : Int} (h : vsCheck key l = 0) (hs : s ≤ 1099511627776) : vsCheck key (vsCommit l t s) = 0 := by
  rw [vsCheck_zero] at h ⊢
  exact ⟨h.1, by rw [vsCommit_len]; exact h.2.1, vsCommit_fault h.2.2.1 hs, vsCommit_ord t s h.2.2.2⟩
/-- Is one pending? -/
def vsHas (l : List Vn) (t : Int) : Bool := decide (vsAt l t < l.length)
theorem vsHas_iff {l : List Vn} {t : Int} : vsHas l t = true ↔ ∃ v ∈ l, vsPend t v = true := by rw [vsHas, decide_eq_true_eq, vsAt_lt]
theorem vsHas_write (l : List Vn) (v : Vn) : vsHas (vsWrite l v) v.txn = (vsHas l v.txn || decide (l.length < 8)) := by
  rw [Bool.eq_iff_iff, vsHas_iff, Bool.or_eq_true, decide_eq_true_eq]
  unfold vsWrite
  split
  · rename_i h
    exact ⟨fun _ => .inl (by rw [vsHas, decide_eq_true_eq]; exact h), fun _ => ⟨_, List.mem_set h _, by simp [vsPend]⟩⟩
  · rename_i h
    split
    · rename_i h8
      exact ⟨fun _ => .inr h8, fun _ => ⟨_, List.mem_append_right _ (List.mem_singleton_self _), by simp [vsPend]⟩⟩
    · rename_i h8
      rw [vsHas_iff]
      exact ⟨.inl, fun h => h.resolve_right h8⟩
theorem vsHas_commit {l : List Vn} {t s : Int} (h : vsO l) (hs : 1 ≤ s) : vsHas (vsCommit l t s) t = false := by
  rw [Bool.eq_false_iff, Ne, vsHas_iff]
  rintro ⟨x, hx, hp⟩
  unfold vsCommit at hx
  split at hx
  · rename_i hl
    rcases vsPut_mem.1 hx with rfl | hx
    · have := (vsPend_iff.1 hp).1
      dsimp only at this
      omega
    · obtain ⟨i, hil, hi, rfl⟩ := List.mem_eraseIdx_iff_getElem.1 hx

      have h1 := vsPend_iff.1 hp
      have h2 := vsPend_iff.1 (vsAt_spec hl)
      rcases Nat.lt_or_gt_of_ne hi with hlt | hgt
      · have := (vsOrd_iff l).2 h i (vsAt l t) _ _ hlt (List.getElem?_eq_getElem (by omega)) (List.getElem?_eq_getElem hl)
        simp [vsFol, h1.1, h1.2, h2.1, h2.2] at this
      · have := (vsOrd_iff l).2 h (vsAt l t) i _ _ hgt (List.getElem?_eq_getElem hl) (List.getElem?_eq_getElem (by omega))
        simp [vsFol, h1.1, h1.2, h2.1, h2.2] at this
  · rename_i hl
    exact hl (vsAt_lt.2 ⟨x, hx, hp⟩)
theorem vsHas_abort (l : List Vn) (t : Int) : vsHas (vsAbort l t) t = false := by
  rw [Bool.eq_false_iff, Ne, vsHas_iff]
  rintro ⟨x, hx, hp⟩
  have := (List.mem_filter.1 hx).2
  rw [hp] at this
  cases this
theorem vsAbort_write {l : List Vn} {v : Vn} (h : vsHas l v.txn = false) : vsAbort (vsWrite l v) v.txn = l := by
  have hn : ∀ x ∈ l, vsPend v.txn x = false := fun x hx => by
    rw [Bool.eq_false_iff, Ne, vsHas_iff] at h
    exact Bool.eq_false_iff.2 fun hp => h ⟨x, hx, hp⟩
  have hf : l.filter (fun x => !vsPend v.txn x) = l := List.filter_eq_self.2 fun x hx => by rw [hn x hx]; rfl
  unfold vsWrite vsAbort
  rw [vsHas, decide_eq_false_iff_not] at h
  rw [if_neg h]
  split
  · rw [List.filter_append, hf]
    simp [vsPend]
  · exact hf
/-- How many of a list are in another one. -/
def vsCount (l m : List Vn) : Nat := l.countP fun x => decide (x ∈ m)
theorem vsCount_self (l m : List Vn) (h : ∀ x ∈ l, x ∈ m) : vsCount l m = l.length := List.countP_eq_length.2 fun x hx => by simp [h x hx]
theorem vsCount_commit (l : List Vn) (t s : Int) : l.length ≤ vsCount (vsCommit l t s) l + 1 ∧ (vsHas l t = false → vsCount (vsCommit l t s) l = l.length) := by
  unfold vsCommit
  split
  · rename_i hl
    refine ⟨?_, fun h => by rw [vsHas, decide_eq_false_iff_not] at h; exact (h hl).elim⟩
    split
    · have hm : ∀ x ∈ l.eraseIdx (vsAt l t), x ∈ l := fun x hx => (List.eraseIdx_sublist l (vsAt l t)).subset hx
      have hlen := List.length_eraseIdx_of_lt hl
      generalize l.eraseIdx (vsAt l t) = L at *
      unfold vsPut vsCount
      rw [List.countP_append, List.countP_cons]
      have h1 := vsCount_self (L.take (vsLast (vsBy s) L)) l fun x hx => hm x (List.mem_of_mem_take hx)
      have h2 := vsCount_self (L.drop (vsLast (vsBy s) L)) l fun x hx => hm x (List.mem_of_mem_drop hx)
      unfold vsCount at h1 h2
      rw [h1, h2, List.length_take, List.length_drop]
      have := vsLast_le (vsBy s) L
      omega
    · rw [vsCount_self l l fun x hx => hx]; omega
  · rw [vsCount_self l l fun x hx => hx]
    exact ⟨by omega, fun _ => rfl⟩
end Go.Proofs.Ytjmmaghjbaigiaa
