/- What a snapshot sees, plain: which version, what it reads, and what pruning, writing and committing leave of it. -/
import Derived.Test.YtjmmaghjbaigiaaVsQ
namespace Go.Proofs.Ytjmmaghjbaigiaa
set_option linter.unusedVariables false
set_option linter.unusedSimpArgs false
/-- The place of the last one of those with the greatest time up to t, of the places from lo on below hi; -1, where there is none. -/
def VbBest (l : List Vn) (t : Int) (lo hi : Nat) (b : Int) : Prop :=
  (b = -1 ∧ ∀ j u, lo ≤ j → j < hi → l[j]? = some u → vsOld t u = false) ∨
  ∃ (i : Nat) (v : Vn), b = (i : Int) ∧ lo ≤ i ∧ i < hi ∧ l[i]? = some v ∧ vsOld t v = true ∧ ∀ j u, lo ≤ j → j < hi → l[j]? = some u → vsOld t u = true → u.ts ≤ v.ts ∧ (i < j → u.ts < v.ts)
theorem VbBest.start (l : List Vn) (t : Int) (k : Nat) : VbBest l t k k (-1) := .inl ⟨rfl, fun j u h1 h2 => by omega⟩
theorem VbBest.lt {l : List Vn} {t b : Int} {lo hi : Nat} (h : VbBest l t lo hi b) : b = -1 ∨ ∃ (i : Nat) (v : Vn), b = (i : Int) ∧ lo ≤ i ∧ i < hi ∧ l[i]? = some v := by
  rcases h with ⟨h, _⟩ | ⟨i, v, h1, h2, h3, h4, _⟩
  · exact .inl h
  · exact .inr ⟨i, v, h1, h2, h3, h4⟩
theorem VbBest.up_no {l : List Vn} {t b : Int} {lo k : Nat} {v : Vn} (h : VbBest l t lo k b) (hv : l[k]? = some v) (hn : vsOld t v = false ∨ ∃ (i : Nat) (u : Vn), b = (i : Int) ∧ l[i]? = some u ∧ v.ts < u.ts) : VbBest l t lo (k + 1) b := by
  rcases h with ⟨h1, h2⟩ | ⟨i, x, h1, h2, h3, h4, h5, h6⟩
  · rcases hn with hn | ⟨i, u, h3, _⟩
    · refine .inl ⟨h1, fun j u a1 a2 a3 => ?_⟩
      by_cases e : j = k
      · subst e; rw [hv] at a3; injection a3 with a3; rw [← a3]; exact hn
      · exact h2 j u a1 (by omega) a3
    · omega
  · refine .inr ⟨i, x, h1, h2, by omega, h4, h5, fun j u a1 a2 a3 a4 => ?_⟩
    by_cases e : j = k
    · subst e
      rw [hv] at a3; injection a3 with a3; subst a3
      rcases hn with hn | ⟨i', u', e1, e2, e3⟩
      · rw [hn] at a4; simp at a4
      · have : i' = i := by omega
        subst this
        rw [h4] at e2; injection e2 with e2; subst e2
        exact ⟨by omega, fun _ => e3⟩
    · exact h6 j u a1 (by omega) a3 a4
theorem VbBest.up_yes {l : List Vn} {t b : Int} {lo k : Nat} {v : Vn} (h : VbBest l t lo k b) (hv : l[k]? = some v) (ho : vsOld t v = true) (hn : b = -1 ∨ ∃ (i : Nat) (u : Vn), b = (i : Int) ∧ l[i]? = some u ∧ u.ts ≤ v.ts) (hk : lo ≤ k) : VbBest l t lo (k + 1) (k : Int) := by
  refine .inr ⟨k, v, rfl, hk, by omega, hv, ho, fun j u a1 a2 a3 a4 => ?_⟩
  by_cases e : j = k
  · subst e; rw [hv] at a3; injection a3 with a3; subst a3; exact ⟨Int.le_refl _, fun h => absurd h (Nat.lt_irrefl _)⟩
  · rcases h with ⟨h1, h2⟩ | ⟨i, x, h1, h2, h3, h4, h5, h6⟩
    · rw [h2 j u a1 (by omega) a3] at a4; simp at a4
    · rcases hn with hn | ⟨i', u', e1, e2, e3⟩
      · omega
      · have : i' = i := by omega
        subst this
        rw [h4] at e2; injection e2 with e2; subst e2
        have := (h6 j u a1 (by omega) a3 a4).1
        exact ⟨by omega, fun _ => by omega⟩
theorem VbBest.down_no {l : List Vn} {t b : Int} {k hi : Nat} {v : Vn} (h : VbBest l t (k + 1) hi b) (hv : l[k]? = some v) (hn : vsOld t v = false ∨ ∃ (i : Nat) (u : Vn), b = (i : Int) ∧ l[i]? = some u ∧ v.ts ≤ u.ts) : VbBest l t k hi b := by
  rcases h with ⟨h1, h2⟩ | ⟨i, x, h1, h2, h3, h4, h5, h6⟩
  · rcases hn with hn | ⟨i, u, h3, _⟩
    · refine .inl ⟨h1, fun j u a1 a2 a3 => ?_⟩
      by_cases e : j = k
      · subst e; rw [hv] at a3; injection a3 with a3; rw [← a3]; exact hn
      · exact h2 j u (by omega) a2 a3
    · omega
  · refine .inr ⟨i, x, h1, by omega, h3, h4, h5, fun j u a1 a2 a3 a4 => ?_⟩
    by_cases e : j = k
    · subst e
      rw [hv] at a3; injection a3 with a3; subst a3
      rcases hn with hn | ⟨i', u', e1, e2, e3⟩
      · rw [hn] at a4; simp at a4
      · have : i' = i := by omega
        subst this
        rw [h4] at e2; injection e2 with e2; subst e2
        exact ⟨e3, fun h => by omega⟩
    · exact h6 j u (by omega) a2 a3 a4
theorem VbBest.down_yes {l : List Vn} {t b : Int} {k hi : Nat} {v : Vn} (h : VbBest l t (k + 1) hi b) (hv : l[k]? = some v) (ho : vsOld t v = true) (hn : b = -1 ∨ ∃ (i : Nat) (u : Vn), b = (i : Int) ∧ l[i]? = some u ∧ u.ts < v.ts) (hk : k < hi) : VbBest l t k hi (k : Int) := by
  refine .inr ⟨k, v, rfl, Nat.le_refl _, hk, hv, ho, fun j u a1 a2 a3 a4 => ?_⟩
  by_cases e : j = k
  · subst e; rw [hv] at a3; injection a3 with a3; subst a3; exact ⟨Int.le_refl _, fun h => absurd h (Nat.lt_irrefl _)⟩
  · rcases h with ⟨h1, h2⟩ | ⟨i, x, h1, h2, h3, h4, h5, h6⟩
    · rw [h2 j u (by omega) a2 a3] at a4; simp at a4
    · rcases hn with hn | ⟨i', u', e1, e2, e3⟩
      · omega
      · have : i' = i := by omega
        subst this
        rw [h4] at e2; injection e2 with e2; subst e2
        have := (h6 j u (by omega) a2 a3 a4).1
        exact ⟨by omega, fun _ => by omega⟩
theorem VbBest.unique {l : List Vn} {t b c : Int} {lo hi : Nat} (h : VbBest l t lo hi b) (g : VbBest l t lo hi c) : b = c := by
  rcases h with ⟨h1, h2⟩ | ⟨i, x, h1, h2, h3, h4, h5, h6⟩ <;> rcases g with ⟨g1, g2⟩ | ⟨k, y, g1, g2, g3, g4, g5, g6⟩
  · omega
  · rw [h2 k y g2 g3 g4] at g5; simp at g5
  · rw [g2 i x h2 h3 h4] at h5; simp at h5
  · have a := h6 k y g2 g3 g4 g5
    have b := g6 i x h2 h3 h4 h5
    have : ¬ i < k := fun e => by have := a.2 e; omega
    have : ¬ k < i := fun e => by have := b.2 e; omega
    omega
theorem VbBest.ex (l : List Vn) (t : Int) : ∀ k, k ≤ l.length → ∃ b, VbBest l t 0 k b
  | 0, _ => ⟨-1, VbBest.start l t 0⟩
  | k + 1, hk => by
    obtain ⟨b, h⟩ := VbBest.ex l t k (by omega)
    have hv : l[k]? = some (l[k]'(by omega)) := List.getElem?_eq_getElem (by omega)
    cases ho : vsOld t (l[k]'(by omega)) with
    | false => exact ⟨b, h.up_no hv (.inl ho)⟩
    | true =>
      rcases h.lt with e | ⟨i, u, e1, e2, e3, e4⟩
      · exact ⟨k, h.up_yes hv ho (.inl e) (Nat.zero_le _)⟩
      · by_cases hu : u.ts ≤ (l[k]'(by omega)).ts
        · exact ⟨k, h.up_yes hv ho (.inr ⟨i, u, e1, e4, hu⟩) (Nat.zero_le _)⟩
        · exact ⟨b, h.up_no hv (.inr ⟨i, u, e1, e4, by omega⟩)⟩
noncomputable def vbBest (l : List Vn) (t : Int) : Int := (VbBest.ex l t l.length (Nat.le_refl _)).choose
theorem vbBest_is (l : List Vn) (t : Int) : VbBest l t 0 l.length (vbBest l t) := (VbBest.ex l t l.length (Nat.le_refl _)).choose_spec
theorem vbBest_of {l : List Vn} {t b : Int} (h : VbBest l t 0 l.length b) : vbBest l t = b := (vbBest_is l t).unique h
/-- The place of the version that is seen, or -1. -/
noncomputable def vbWhich (l : List Vn) (me t : Int) : Int := if 0 ≤ me ∧ vsAt l me < l.length then (vsAt l me : Int) else vbBest l t
theorem vbWhich_lt (l : List Vn) (me t : Int) : vbWhich l me t = -1 ∨ ∃ (i : Nat) (v : Vn), vbWhich l me t = (i : Int) ∧ i < l.length ∧ l[i]? = some v := by
  unfold vbWhich
  split
  · rename_i h
    exact .inr ⟨_, _, rfl, h.2, List.getElem?_eq_getElem h.2⟩
  · rcases (vbBest_is l t).lt with h | ⟨i, v, h1, h2, h3, h4⟩
    · exact .inl h
    · exact .inr ⟨i, v, h1, h3, h4⟩
def vbOut : Option Vn → ByteArray × Bool
  | none => (⟨#[]⟩, false)
  | some v => if v.gone then (⟨#[]⟩, false) else (v.val, true)
def vbGet (l : List Vn) (b : Int) : Option Vn := if b < 0 then none else l[b.toNat]?
/-- What is read. -/
noncomputable def vbRd (l : List Vn) (me t : Int) : ByteArray × Bool := vbOut (vbGet l (vbWhich l me t))
def vbNewer (l : List Vn) (me t : Int) : Bool := l.any fun v => decide (t < v.ts) && decide (v.txn ≠ me)
def vbRoom (l : List Vn) (me : Int) : Bool := decide (l.length < 8) || (decide (0 ≤ me) && vsHas l me)
def vbCount (l : List Vn) (t : Int) : Nat := l.countP (vsOld t)
def vbSettled (l : List Vn) (t : Int) : Bool := decide (vbCount l t = 0) || (decide (vbCount l t = 1) && (decide (1 < l.length) || !(l.any fun v => v.gone)))
noncomputable def vbScan (ls : List (ByteArray × List Vn)) (me t : Int) : List (ByteArray × ByteArray) := ls.filterMap fun s => if (vbRd s.2 me t).2 then some (s.1, (vbRd s.2 me t).1) else none
/-! ### Of a list that stands in its order -/
theorem vb_find (p : Vn → Bool) : ∀ l : List Vn, l[l.findIdx p]? = (l.filter p).head?
  | [] => rfl
  | x :: r => by
    cases h : p x with
    | true => simp [List.findIdx_cons, h]
    | false => simp [List.findIdx_cons, h, vb_find p r]
theorem vb_split (p : Vn → Bool) : ∀ l : List Vn, (∀ v ∈ l, p v = false) ∨ ∃ A x C, l = A ++ x :: C ∧ p x = true ∧ ∀ v ∈ C, p v = false
  | [] => .inl (by simp)
  | x :: r => by
    rcases vb_split p r with h | ⟨A, y, C, h1, h2, h3⟩
    · cases hx : p x with
      | true => exact .inr ⟨[], x, r, rfl, hx, h⟩
      | false => exact .inl fun v hv => (List.mem_cons.1 hv).elim (fun e => by rw [e]; exact hx) (h v)
    · exact .inr ⟨x :: A, y, C, by rw [h1]; rfl, h2, h3⟩
theorem vsOld_iff {t : Int} {v : Vn} : vsOld t v = true ↔ 1 ≤ v.ts ∧ v.ts ≤ t := by simp [vsOld]
theorem vb_fil_none {p : Vn → Bool} {C : List Vn} (h : ∀ v ∈ C, p v = false) : C.filter p = [] := by
  rw [List.filter_eq_nil_iff]
  intro v hv
  rw [h v hv]
  simp
theorem vb_last (p : Vn → Bool) {A C : List Vn} {x : Vn} (hx : p x = true) (hC : ∀ v ∈ C, p v = false) : ((A ++ x :: C).filter p).getLast? = some x := by
  rw [List.filter_append, List.filter_cons, if_pos hx, vb_fil_none hC]
  simp
theorem vbBest_ord {l : List Vn} (h : vsO l) (t : Int) : vbGet l (vbBest l t) = (l.filter (vsOld t)).getLast? := by
  rcases vb_split (vsOld t) l with hn | ⟨A, x, C, rfl, hx, hC⟩
  · rw [vbBest_of (b := -1) (.inl ⟨rfl, fun j u _ _ hu => hn u (List.mem_of_getElem? hu)⟩), vb_fil_none hn]
    rfl
  · have hv : (A ++ x :: C)[A.length]? = some x := by simp
    rw [vb_last (vsOld t) hx hC, vbBest_of (b := (A.length : Int)) (.inr ⟨A.length, x, rfl, Nat.zero_le _, by simp, hv, hx, ?_⟩)]
    · unfold vbGet
      rw [if_neg (by omega), Int.toNat_natCast]
      exact hv
    · intro j u _ _ hu ho
      by_cases e : j < A.length
      · rw [List.getElem?_append_left e] at hu
        have := (List.pairwise_append.1 h).2.2 u (List.mem_of_getElem? hu) x List.mem_cons_self
        rw [vsOld_iff] at hx ho
        unfold vsFol at this
        rw [if_neg (by omega)] at this
        simp at this
        exact ⟨by omega, fun e' => by omega⟩
      · by_cases e' : j = A.length
        · subst e'; rw [hv] at hu; injection hu with hu; subst hu; exact ⟨Int.le_refl _, fun h => absurd h (Nat.lt_irrefl _)⟩
        · rw [List.getElem?_append_right (by omega), show j - A.length = (j - A.length - 1) + 1 from by omega, List.getElem?_cons_succ] at hu
          rw [hC u (List.mem_of_getElem? hu)] at ho
          simp at ho
/-- Which version is seen, of a list in its order. -/
def vbPick (l : List Vn) (me t : Int) : Option Vn := if 0 ≤ me then (l.filter (vsPend me)).head?.or (l.filter (vsOld t)).getLast? else (l.filter (vsOld t)).getLast?
theorem vbRd_ord {l : List Vn} (h : vsO l) (me t : Int) : vbRd l me t = vbOut (vbPick l me t) := by
  unfold vbRd vbPick vbWhich
  have hf := vb_find (vsPend me) l
  by_cases hm : 0 ≤ me
  · rw [if_pos hm]
    by_cases hl : vsAt l me < l.length
    · rw [if_pos ⟨hm, hl⟩]
      unfold vbGet
      have h1 : l[List.findIdx (vsPend me) l]? = some (l[vsAt l me]'hl) := List.getElem?_eq_getElem hl
      rw [if_neg (by omega), Int.toNat_natCast, vsAt, ← hf, h1]
      rfl
    · rw [if_neg (fun e => hl e.2), vbBest_ord h, ← hf, List.getElem?_eq_none (by unfold vsAt at hl; omega)]
      rfl
  · rw [if_neg hm, if_neg (fun e => hm e.1), vbBest_ord h]
/-! ### Pruning -/
theorem vsLast_none {p : Vn → Bool} : ∀ {C : List Vn}, (∀ v ∈ C, p v = false) → vsLast p C = 0
  | [], _ => rfl
  | x :: r, h => by
    rw [vsLast, vsLast_none (fun v hv => h v (List.mem_cons_of_mem _ hv)), if_pos rfl, h x List.mem_cons_self]
    rfl
theorem vsLast_split {p : Vn → Bool} {x : Vn} {C : List Vn} (hx : p x = true) (hC : ∀ v ∈ C, p v = false) : ∀ A : List Vn, vsLast p (A ++ x :: C) = A.length + 1
  | [] => by rw [List.nil_append, vsLast, vsLast_none hC, if_pos rfl, if_pos hx]; rfl
  | y :: A => by rw [List.cons_append, vsLast, vsLast_split hx hC A, if_neg (by omega)]; rfl
theorem vsKeep_append (g : Nat → Vn → Bool) : ∀ (i : Nat) (A B : List Vn), vsKeep g i (A ++ B) = vsKeep g i A ++ vsKeep g (i + A.length) B
  | i, [], B => rfl
  | i, x :: A, B => by
    rw [List.cons_append, vsKeep, vsKeep, vsKeep_append g (i + 1) A B, show i + 1 + A.length = i + (x :: A).length from by simp; omega]
    split <;> rfl
theorem vsKeep_none {g : Nat → Vn → Bool} : ∀ (i : Nat) (A : List Vn), (∀ j v, i ≤ j → j < i + A.length → v ∈ A → g j v = true) → vsKeep g i A = []
  | i, [], _ => rfl
  | i, x :: A, h => by
    rw [vsKeep, if_pos (h i x (Nat.le_refl _) (by simp) List.mem_cons_self)]
    exact vsKeep_none (i + 1) A fun j v h1 h2 h3 => h j v (by omega) (by simp; omega) (List.mem_cons_of_mem _ h3)
theorem vsKeep_all {g : Nat → Vn → Bool} : ∀ (i : Nat) (A : List Vn), (∀ j, ∀ v ∈ A, g j v = false) → vsKeep g i A = A
  | i, [], _ => rfl
  | i, x :: A, h => by
    rw [vsKeep, if_neg (by rw [h i x List.mem_cons_self]; simp), vsKeep_all (i + 1) A fun j v hv => h j v (List.mem_cons_of_mem _ hv)]
theorem vsPrune_none {l : List Vn} {t : Int} (h : ∀ v ∈ l, vsOld t v = false) : vsPrune l t = l := vsKeep_all 0 l fun j v hv => by rw [h v hv]; rfl
theorem vsPrune_split {A C : List Vn} {x : Vn} {t : Int} (hA : ∀ v ∈ A, vsOld t v = true) (hx : vsOld t x = true) (hC : ∀ v ∈ C, vsOld t v = false) : vsPrune (A ++ x :: C) t = (if x.gone then [] else [x]) ++ C := by
  unfold vsPrune
  rw [vsLast_split hx hC A, vsKeep_append, vsKeep_none, List.nil_append, vsKeep]
  · rw [vsKeep_all _ C fun j v hv => by rw [hC v hv]; rfl]
    cases hg : x.gone
    · simp [hx, hg]
    · simp [hx, hg]
  · intro j v h1 h2 h3
    rw [hA v h3]
    simp
    omega
theorem vb_ahead {A C : List Vn} {x : Vn} {t : Int} (h : vsO (A ++ x :: C)) (hf : ∀ v ∈ A ++ x :: C, 0 ≤ v.ts) (hx : vsOld t x = true) : ∀ v ∈ A, vsOld t v = true := by
  intro v hv
  have := (List.pairwise_append.1 h).2.2 v hv x List.mem_cons_self
  have h0 := hf v (List.mem_append_left _ hv)
  rw [vsOld_iff] at hx ⊢
  unfold vsFol at this
  by_cases e : v.ts = 0
  · rw [if_pos e] at this; simp at this; omega
  · rw [if_neg e] at this; simp at this; omega
theorem vb_prunes {l : List Vn} {t at' me : Int} (h : vsO l) (hf : ∀ v ∈ l, 0 ≤ v.ts) (ht : t ≤ at') :
    vbRd (vsPrune l t) me at' = vbRd l me at' ∧ vbNewer (vsPrune l t) me at' = vbNewer l me at' ∧ vbSettled (vsPrune l t) t = true := by
  have hp : vsO (vsPrune l t) := h.sublist (vsPrune_sub l t)
  rw [vbRd_ord hp, vbRd_ord h]
  rcases vb_split (vsOld t) l with hn | ⟨A, x, C, rfl, hx, hC⟩
  · rw [vsPrune_none hn]
    refine ⟨rfl, rfl, ?_⟩
    have : vbCount l t = 0 := List.countP_eq_zero.2 fun v hv => by rw [hn v hv]; simp
    unfold vbSettled
    rw [this]
    rfl
  · have hA := vb_ahead h hf hx
    rw [vsPrune_split hA hx hC]
    have hx' := vsOld_iff.1 hx
    have hpA : ∀ v ∈ A, vsPend me v = false := fun v hv => by
      have := vsOld_iff.1 (hA v hv)
      cases e : vsPend me v with
      | false => rfl
      | true => have := (vsPend_iff.1 e).1; omega
    have hpx : vsPend me x = false := by
      cases e : vsPend me x with
      | false => rfl
      | true => have := (vsPend_iff.1 e).1; omega
    have hxa : vsOld at' x = true := vsOld_iff.2 ⟨hx'.1, by omega⟩
    have hn1 : ∀ v ∈ A, (decide (at' < v.ts) && decide (v.txn ≠ me)) = false := fun v hv => by
      have := vsOld_iff.1 (hA v hv)
      rw [decide_eq_false (by omega)]; rfl
    have hn2 : (decide (at' < x.ts) && decide (x.txn ≠ me)) = false := by rw [decide_eq_false (by omega)]; rfl
    have hP1 : (A ++ x :: C).filter (vsPend me) = C.filter (vsPend me) := by rw [List.filter_append, vb_fil_none hpA, List.filter_cons, if_neg (by rw [hpx]; simp)]; rfl
    have hP2 : ((if x.gone then [] else [x]) ++ C).filter (vsPend me) = C.filter (vsPend me) := by
      rw [List.filter_append]
      cases x.gone <;> simp [hpx]
    have hO1 : ((A ++ x :: C).filter (vsOld at')).getLast? = (C.filter (vsOld at')).getLast?.or (some x) := by
      rw [List.filter_append, List.filter_cons, if_pos hxa, ← List.singleton_append, ← List.append_assoc, List.getLast?_append]
      simp
    have hO2 : (((if x.gone then [] else [x]) ++ C).filter (vsOld at')).getLast? = (C.filter (vsOld at')).getLast?.or (if x.gone then none else some x) := by
      rw [List.filter_append, List.getLast?_append]
      cases x.gone <;> simp [hxa]
    have hX : vbOut ((C.filter (vsOld at')).getLast?.or (if x.gone then none else some x)) = vbOut ((C.filter (vsOld at')).getLast?.or (some x)) := by
      cases (C.filter (vsOld at')).getLast? with
      | some y => rfl
      | none => cases hg : x.gone <;> simp [vbOut, hg]
    refine ⟨?_, ?_, ?_⟩
    · unfold vbPick
      rw [hP1, hP2, hO1, hO2]
      split
      · cases (C.filter (vsPend me)).head? with
        | some y => rfl
        | none => exact hX
      · exact hX
    · unfold vbNewer
      have g1 : (A ++ x :: C).any (fun v => decide (at' < v.ts) && decide (v.txn ≠ me)) = C.any (fun v => decide (at' < v.ts) && decide (v.txn ≠ me)) := by
        rw [List.any_append, List.any_cons, hn2, List.any_eq_false.2 (fun v hv => by rw [hn1 v hv]; simp)]; rfl
      have g2 : ((if x.gone then [] else [x]) ++ C).any (fun v => decide (at' < v.ts) && decide (v.txn ≠ me)) = C.any (fun v => decide (at' < v.ts) && decide (v.txn ≠ me)) := by
        rw [List.any_append]
        cases x.gone
        · rw [if_neg (by simp), List.any_cons, hn2]; rfl
        · rfl
      rw [g1, g2]
    · have hc : vbCount C t = 0 := List.countP_eq_zero.2 fun v hv => by rw [hC v hv]; simp
      unfold vbSettled
      cases hg : x.gone with
      | true =>
        have : vbCount ((if true = true then [] else [x]) ++ C) t = 0 := by rw [if_pos rfl]; exact hc
        rw [this]; rfl
      | false =>
        have : vbCount ((if false = true then [] else [x]) ++ C) t = 1 := by
          rw [if_neg (by simp)]; unfold vbCount at hc ⊢; rw [List.countP_append, hc, List.countP_cons, hx]; rfl
        rw [this]
        cases C with
        | nil => simp [hg]
        | cons y C => simp
/-! ### Writing and committing -/
theorem vb_set {p : Vn → Bool} {l : List Vn} {i : Nat} {v : Vn} (hi : i < l.length) (h1 : p (l[i]'hi) = false) (h2 : p v = false) : (l.set i v).filter p = l.filter p := by
  rw [List.set_eq_take_append_cons_drop, if_pos hi]
  conv => rhs; rw [← List.take_append_drop i l, List.drop_eq_getElem_cons hi]
  rw [List.filter_append, List.filter_append, List.filter_cons, List.filter_cons, if_neg (by rw [h2]; simp), if_neg (by rw [h1]; simp)]
theorem vb_erase {p : Vn → Bool} {l : List Vn} {i : Nat} (hi : i < l.length) (h1 : p (l[i]'hi) = false) : (l.eraseIdx i).filter p = l.filter p := by
  rw [List.eraseIdx_eq_take_drop_succ]
  conv => rhs; rw [← List.take_append_drop i l, List.drop_eq_getElem_cons hi]
  rw [List.filter_append, List.filter_append, List.filter_cons, if_neg (by rw [h1]; simp)]
theorem vb_put (p : Vn → Bool) (m : List Vn) (k : Nat) (v : Vn) : (vsPut m k v).filter p = (m.take k).filter p ++ ((if p v then [v] else []) ++ (m.drop k).filter p) := by
  unfold vsPut
  rw [List.filter_append, List.filter_cons]
  split <;> rfl
theorem vb_put_no {p : Vn → Bool} {v : Vn} (h : p v = false) (m : List Vn) (k : Nat) : (vsPut m k v).filter p = m.filter p := by
  rw [vb_put, h, if_neg (by simp), List.nil_append, ← List.filter_append, List.take_append_drop]
/-- What of a list a predicate that knows of no pending one of a transaction sees is not changed by its writing. -/
theorem vb_write {p : Vn → Bool} {l : List Vn} {v : Vn} (hp : ∀ x, vsPend v.txn x = true → p x = false) : (vsWrite l v).filter p = l.filter p := by
  have h0 : p { v with ts := 0 } = false := hp _ (vsPend_iff.2 ⟨rfl, rfl⟩)
  unfold vsWrite
  split
  · rename_i hl
    exact vb_set hl (hp _ (vsAt_spec hl)) h0
  · split
    · rw [List.filter_append, List.filter_cons, if_neg (by rw [h0]; simp)]; simp
    · rfl
theorem vb_write_at {l : List Vn} {v : Vn} (h : vsHas l v.txn = true ∨ l.length < 8) : ((vsWrite l v).filter (vsPend v.txn)).head? = some { v with ts := 0 } := by
  have h0 : vsPend v.txn { v with ts := 0 } = true := vsPend_iff.2 ⟨rfl, rfl⟩
  unfold vsWrite
  split
  · rename_i hl
    rw [List.set_eq_take_append_cons_drop, if_pos hl, List.filter_append, List.filter_cons, if_pos h0, vb_fil_none]
    · rfl
    · intro x hx
      obtain ⟨i, hi⟩ := List.mem_iff_getElem?.1 hx
      rw [List.getElem?_take] at hi
      split at hi
      · rename_i hlt
        obtain ⟨h1, h2⟩ := List.getElem?_eq_some_iff.1 hi
        rw [← h2]
        exact vsAt_not hlt h1
      · simp at hi
  · rename_i hl
    have h8 : l.length < 8 := by
      rcases h with h | h
      · rw [vsHas, decide_eq_true_eq] at h; omega
      · exact h
    rw [if_pos h8, List.filter_append, List.filter_cons, if_pos h0, vb_fil_none]
    · rfl
    · intro x hx
      cases e : vsPend v.txn x with
      | false => rfl
      | true => exact absurd (vsAt_lt.2 ⟨x, hx, e⟩) hl
theorem vb_pend_other {a b : Int} (h : b ≠ a) : ∀ x, vsPend a x = true → vsPend b x = false := fun x hx => by
  cases e : vsPend b x with
  | false => rfl
  | true => exact absurd ((vsPend_iff.1 e).2.symm.trans (vsPend_iff.1 hx).2) h
theorem vb_pend_old (a t : Int) : ∀ x, vsPend a x = true → vsOld t x = false := fun x hx => by
  cases e : vsOld t x with
  | false => rfl
  | true => have := (vsOld_iff.1 e).1; have := (vsPend_iff.1 hx).1; omega
theorem vb_write_own {l : List Vn} {v : Vn} (h : vsO l) (hr : vsHas l v.txn = true ∨ l.length < 8) (h0 : 0 ≤ v.txn) (t : Int) : vbRd (vsWrite l v) v.txn t = if v.gone then (⟨#[]⟩, false) else (v.val, true) := by
  rw [vbRd_ord (vsWrite_ord v h)]
  unfold vbPick
  rw [if_pos h0, vb_write_at hr]
  rfl
theorem vb_write_other {l : List Vn} {v : Vn} {me : Int} (h : vsO l) (hm : me ≠ v.txn) (t : Int) : vbRd (vsWrite l v) me t = vbRd l me t := by
  rw [vbRd_ord (vsWrite_ord v h), vbRd_ord h]
  unfold vbPick
  rw [vb_write (vb_pend_other hm), vb_write (vb_pend_old v.txn t)]
theorem vb_has {l : List Vn} {t : Int} : vsHas l t = true ↔ (l.filter (vsPend t)).head? ≠ none := by
  rw [vsHas_iff]
  constructor
  · rintro ⟨v, h1, h2⟩ e
    rw [List.head?_eq_none_iff, List.filter_eq_nil_iff] at e
    exact e v h1 h2
  · intro h
    cases e : (l.filter (vsPend t)).head? with
    | none => exact absurd e h
    | some x =>
      have := List.mem_filter.1 (List.mem_of_mem_head? (by rw [e]; rfl : x ∈ (l.filter (vsPend t)).head?))
      exact ⟨x, this.1, this.2⟩
/-- What is written and committed later than all is seen from then on by all who have nothing pending, and not ahead of it. -/
theorem vb_commits {l : List Vn} {v : Vn} {me top : Int} (h : vsO l) (hr : vsHas l v.txn = true ∨ l.length < 8) (hm : me ≠ v.txn) (ht : 1 ≤ top) :
    vbRd (vsCommit (vsWrite l v) v.txn top) me top = (if 0 ≤ me ∧ vsHas l me = true then vbRd l me top else if v.gone then (⟨#[]⟩, false) else (v.val, true)) ∧
    vbRd (vsCommit (vsWrite l v) v.txn top) me (top - 1) = vbRd l me (top - 1) ∧ vbNewer (vsCommit (vsWrite l v) v.txn top) me (top - 1) = true := by
  have hw := vsWrite_ord v h
  have hat := vb_write_at hr
  have hp1 := vb_write (l := l) (vb_pend_other hm)
  have hp2 := fun t => vb_write (l := l) (vb_pend_old v.txn t)
  have hd := vsCommit_ord (l := vsWrite l v) v.txn top hw
  rw [vbRd_ord hd, vbRd_ord hd, vbRd_ord h, vbRd_ord h]
  have hlt : vsAt (vsWrite l v) v.txn < (vsWrite l v).length := by
    have : vsHas (vsWrite l v) v.txn = true := vb_has.2 (by rw [hat]; simp)
    rw [vsHas, decide_eq_true_eq] at this
    exact this
  have hx := vb_find (vsPend v.txn) (vsWrite l v)
  rw [hat] at hx
  have hxp := vsAt_spec hlt
  have hx : (vsWrite l v)[vsAt (vsWrite l v) v.txn]'hlt = { v with ts := 0 } := by
    have := List.getElem?_eq_getElem hlt
    unfold vsAt at this
    rw [hx] at this
    injection this with this
    exact this.symm
  unfold vsCommit
  rw [dif_pos hlt, if_pos ht, hx]
  generalize hW : vsWrite l v = W at *
  generalize hM : W.eraseIdx (vsAt W v.txn) = m at *
  have hv : vsPend me ({ v with ts := top } : Vn) = false := by
    cases e : vsPend me ({ v with ts := top } : Vn) with
    | false => rfl
    | true => have := (vsPend_iff.1 e).1; simp at this; omega
  have hv1 : vsOld (top - 1) ({ v with ts := top } : Vn) = false := by
    cases e : vsOld (top - 1) ({ v with ts := top } : Vn) with
    | false => rfl
    | true => have := (vsOld_iff.1 e).2; simp at this; omega
  have hv2 : vsOld top ({ v with ts := top } : Vn) = true := vsOld_iff.2 ⟨ht, Int.le_refl _⟩
  have hm1 : m.filter (vsPend me) = l.filter (vsPend me) := by
    rw [← hM, vb_erase hlt (vb_pend_other hm _ hxp), hp1]
  have hm2 : ∀ t, m.filter (vsOld t) = l.filter (vsOld t) := fun t => by
    rw [← hM, vb_erase hlt (vb_pend_old _ t _ hxp), hp2]
  have hdrop : (m.drop (vsLast (vsBy top) m)).filter (vsOld top) = [] := vb_fil_none fun x hx => by
    cases e : vsOld top x with
    | false => rfl
    | true =>
      have h1 := vsOld_iff.1 e
      have h2 := vsLast_behind (p := vsBy top) x hx
      unfold vsBy at h2
      simp at h2
      omega
  refine ⟨?_, ?_, ?_⟩
  · unfold vbPick
    have hl : ((vsPut m (vsLast (vsBy top) m) ({ v with ts := top } : Vn)).filter (vsOld top)).getLast? = some { v with ts := top } := by
      rw [vb_put, hdrop, if_pos hv2, List.append_nil]; simp
    rw [vb_put_no hv, hm1, hl]
    by_cases h0 : 0 ≤ me
    · rw [if_pos h0, if_pos h0]
      by_cases hb : vsHas l me = true
      · rw [if_pos ⟨h0, hb⟩]
        have := vb_has.1 hb
        cases e : (l.filter (vsPend me)).head? with
        | none => exact absurd e this
        | some y => rfl
      · rw [if_neg (fun e => hb e.2)]
        have : (l.filter (vsPend me)).head? = none := by
          cases e : (l.filter (vsPend me)).head? with
          | none => rfl
          | some y => exact absurd (vb_has.2 (by rw [e]; simp)) hb
        rw [this]
        rfl
    · rw [if_neg h0, if_neg h0, if_neg (fun e => h0 e.1)]
      rfl
  · unfold vbPick
    rw [vb_put_no hv, hm1, vb_put_no hv1, hm2]
  · unfold vbNewer vsPut
    rw [List.any_append, List.any_cons, decide_eq_true (show top - 1 < ({ v with ts := top } : Vn).ts from by show top - 1 < top; omega), decide_eq_true (show ({ v with ts := top } : Vn).txn ≠ me from fun e => hm e.symm)]
    simp
end Go.Proofs.Ytjmmaghjbaigiaa
