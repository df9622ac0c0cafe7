/- Slots: lists of sectors in memory; the bytes of a body are put. -/
import Derived.Test.YtlpobinmkedgeaaSlD
namespace Go.Proofs.Ytlpobinmkedgeaa
open Go.RowKit
set_option linter.unusedVariables false
set_option linter.unusedSimpArgs false
/-- The slice of slices at A reads as the rows L. -/
def RBS (w : World) (A : Option Addr) (L : List (List UInt8)) : Prop :=
  ∀ (j : Nat) (l : List UInt8), L[j]? = some l → ∃ (ad : Addr) (B : Option Addr) (c : Nat), A = some ad ∧ w.cell? (ad.add j) = some (.slice B l.length c) ∧ l.length ≤ c ∧ c ≤ maxLen ∧ RB w B l
theorem RBS.keep {w w' : World} {A : Option Addr} {L : List (List UInt8)} (h : RBS w A L) (hk : ∀ p : Addr, p.block < w.heap.size → w'.cell? p = w.cell? p) : RBS w' A L := fun j l hj => by
  obtain ⟨ad, B, c, e, h1, h2, h3, h4⟩ := h j l hj
  exact ⟨ad, B, c, e, (hk _ (lt_of_cell h1)).trans h1, h2, h3, h4.keep hk⟩
theorem RBS.below {w w' : World} {A : Option Addr} {L : List (List UInt8)} (h : RBS w A L) (hb : Below w.heap.size w w') : RBS w' A L := h.keep fun _ hp => hb.cell hp
theorem RBS.alloc {w : World} {A : Option Addr} {L : List (List UInt8)} (h : RBS w A L) (o : Obj) : RBS (w.alloc o) A L := h.keep fun p hp => World.cell?_alloc_lt w o p hp
theorem RBS.drew {w : World} {A : Option Addr} {L : List (List UInt8)} (h : RBS w A L) : RBS w.drew A L := h
theorem RBS.nil {w : World} {A : Option Addr} : RBS w A [] := fun j l hj => by simp at hj

/-- Values that are slices that read as the rows L, in blocks from lo on. -/
def Rws (w : World) (lo : Nat) (vs : List Value) (L : List (List UInt8)) : Prop :=
  vs.length = L.length ∧ ∀ (j : Nat) (l : List UInt8), L[j]? = some l → ∃ (ad : Addr) (c : Nat), vs[j]? = some (.slice (some ad) l.length c) ∧ l.length ≤ c ∧ c ≤ maxLen ∧ RB w (some ad) l ∧ lo ≤ ad.block ∧ ad.block < w.heap.size
theorem Rws.nil {w : World} {lo : Nat} : Rws w lo [] [] := ⟨rfl, fun j l hj => by simp at hj⟩
theorem Rws.below {w w' : World} {lo : Nat} {vs : List Value} {L : List (List UInt8)} (h : Rws w lo vs L) (hb : Below w.heap.size w w') : Rws w' lo vs L := ⟨h.1, fun j l hj => by
  obtain ⟨ad, c, h1, h2, h3, h4, h5, h6⟩ := h.2 j l hj
  exact ⟨ad, c, h1, h2, h3, h4.below hb, h5, Nat.lt_of_lt_of_le h6 hb.size⟩⟩
theorem Rws.snoc {w : World} {lo : Nat} {vs : List Value} {L : List (List UInt8)} (h : Rws w lo vs L) {ad : Addr} {c : Nat} {l : List UInt8} (h2 : l.length ≤ c) (h3 : c ≤ maxLen) (h4 : RB w (some ad) l) (h5 : lo ≤ ad.block) (h6 : ad.block < w.heap.size) :
    Rws w lo (vs ++ [.slice (some ad) l.length c]) (L ++ [l]) := by
  refine ⟨by simp [h.1], fun j x hj => ?_⟩
  by_cases hl : j < L.length
  · rw [List.getElem?_append_left hl] at hj
    obtain ⟨ad', c', g1, g2⟩ := h.2 j x hj
    exact ⟨ad', c', by rw [List.getElem?_append_left (by rw [h.1]; exact hl)]; exact g1, g2⟩
  · have : j = L.length := by
      have h7 := (List.getElem?_eq_some_iff.1 hj).1
      simp at h7
      omega
    subst this
    simp only [List.getElem?_concat_length, Option.some.injEq] at hj
    subst hj
    exact ⟨ad, c, by rw [← h.1]; simp, h2, h3, h4, h5, h6⟩
theorem Rws.only {w w' : World} {lo g : Nat} {vs : List Value} {L : List (List UInt8)} (h : Rws w lo vs L) (ho : OnlyB g w w') (hg : g < lo) : Rws w' lo vs L := ⟨h.1, fun j l hj => by
  obtain ⟨ad, c, h1, h2, h3, h4, h5, h6⟩ := h.2 j l hj
  refine ⟨ad, c, h1, h2, h3, ?_, h5, by rw [ho.size]; exact h6⟩
  rcases h4 with rfl | ⟨ad', e, hc⟩
  · exact .inl rfl
  · injection e with e
    subst e
    refine .inr ⟨_, rfl, fun i x hx => ?_⟩
    have h7 := hc i x hx
    rw [← h7]
    exact World.cell?_of_block (ho.block _ (by rw [block_of_add]; omega))⟩
theorem Rws.rbs {w : World} {lo g : Nat} {vs : List Value} {L : List (List UInt8)} {t : TypeId} {fr : Nat × Nat} {more : List Value} (h : Rws w lo vs L) (hg : w.heap[g]? = some (.cells (vs ++ more).toArray t fr)) : RBS w (some ⟨g, 0, none⟩) L := fun j l hj => by
  obtain ⟨ad, c, h1, h2, h3, h4, _⟩ := h.2 j l hj
  refine ⟨_, some ad, c, rfl, ?_, h2, h3, h4⟩
  have e : (⟨g, 0, none⟩ : Addr).add j = ⟨g, j, none⟩ := by cases j <;> simp [Addr.add]
  rw [e, cell_of_row w g j _ t fr hg]
  have hj' : j < vs.length := by rw [h.1]; exact (List.getElem?_eq_some_iff.1 hj).1
  simp only [List.getElem?_toArray]
  rw [List.getElem?_append_left hj']
  exact h1
theorem OB.row {base : Nat} {w : World} {v : Value} {l : List UInt8} (h : OB base w v l) (hl : 0 < l.length) : ∃ ad c, v = .slice (some ad) l.length c ∧ l.length ≤ c ∧ c ≤ maxLen ∧ RB w (some ad) l ∧ base ≤ ad.block ∧ ad.block < w.heap.size := by
  have hf := h.form
  unfold OB at h
  rcases h.2 with ⟨e, hn⟩ | ⟨g, cap, cur, e, hb, hh, hc, hm, hsz, ht⟩
  · omega
  · obtain ⟨A, c, e2, h2, h3⟩ := hf
    rw [e] at e2
    injection e2 with e3 e4 e5
    subst e3 e5
    exact ⟨_, _, e, hc, hm, h3, hb, (Array.getElem?_eq_some_iff.1 hh).1⟩
theorem put_no (gen : Int) (A : Option Addr) (n c : Nat) (w : World) (h : gen < 1 ∨ 1099511627776 < gen) :
    Calls Try.prog 8 #[.int .i64 gen, .slice A n c] w fun e w' => e = .returned (.tuple #[.slice none 0 0, .int .i64 9]) ∧ w = w' := by
  have h1 : (decide (gen < 1) || decide (1099511627776 < gen)) = true := by rcases h with h | h <;> simp [h]
  by_cases h2 : gen < 1
  · go_enter Try.func8, Try.ntmps8
    go_wp2
    go_ret2
    exact ⟨rfl, rfl⟩
  · have h3 : 1099511627776 < gen := by omega
    go_enter Try.func8, Try.ntmps8
    go_wp2
    go_ret2
    exact ⟨rfl, rfl⟩
theorem put_big (gen : Int) (A : Option Addr) (n c : Nat) (w : World) (h1 : 1 ≤ gen) (h2 : gen ≤ 1099511627776) (h3 : 954 < n) :
    Calls Try.prog 8 #[.int .i64 gen, .slice A n c] w fun e w' => e = .returned (.tuple #[.slice none 0 0, .int .i64 5]) ∧ w = w' := by
  have h4 : decide (954 < (n : Int)) = true := by simp; omega
  go_enter Try.func8, Try.ntmps8
  go_wp2
  go_ret2
  exact ⟨rfl, rfl⟩
end Go.Proofs.Ytlpobinmkedgeaa
