/- How what comes in to a statement reads, in the general words. -/
import Derived.Test.YtjmmaghjbaigiaaGn
import Derived.ProofKit
import Derived.OpenShut
import Derived.Deep.Slices
import Derived.Deep.Fields
import Derived.ChangeSame
namespace Go.Proofs.Ytjmmaghjbaigiaa
open Go.ChangeShapes Go.WideShapes Go.ChangeAt Go.RowKit
set_option linter.unusedVariables false
/-- Cells of the type T that come in read as an a of which Q holds. -/
def Opens (P : Program) {α : Type} (K : CR α) (Q : α → Prop) (T : TypeId) : Prop :=
  ∀ {H : Type} {enc : TypeId × Value → H} {W : World} {base : Nat} {held : Bool} {k : Nat} {cs : List Value} {x : DataW H × List MemPlace}, DataW.trod enc P W base (fun _ => true) held k T cs = some x → ∃ a, K.E W cs a ∧ Q a
/-- The numbers of a kind. -/
def InK (k : IntKind) (n : Int) : Prop := (Lit.int k n).wf = true
theorem opens_int {P : Program} {k : IntKind} {T : TypeId} (h : P.underlying T = some (.int k)) : Opens P (CR.int k) (InK k) T := fun hf => by
  obtain ⟨z, e, _, w⟩ := DataW.trod_int h hf
  exact ⟨z, e, w⟩
theorem opens_u8 {P : Program} {T : TypeId} (h : P.underlying T = some (.int .u8)) : Opens P CR.u8 (fun _ => True) T := fun hf => by
  obtain ⟨z, e, _, w⟩ := DataW.trod_int h hf
  have b := bounds_u8 w
  obtain ⟨y, rfl⟩ := Int.eq_ofNat_of_zero_le b.1
  refine ⟨UInt8.ofNat y, ?_, trivial⟩
  show _ = [Value.int .u8 ((UInt8.ofNat y).toNat : Int)]
  rw [e, ofNat_toNat, Nat.mod_eq_of_lt (by omega)]
theorem opens_bool {P : Program} {T : TypeId} (h : P.underlying T = some .bool) : Opens P CR.bool (fun _ => True) T := fun hf => by
  obtain ⟨b, e, _⟩ := DataW.trod_bool h hf
  exact ⟨b, e, trivial⟩
theorem str_data (s : ByteArray) : str s.data.toList = s := rfl
theorem opens_str {P : Program} {T : TypeId} (h : P.underlying T = some .string) : Opens P CR.str (fun t => t.length ≤ maxLen) T := fun hf => by
  obtain ⟨s, e, _, hs⟩ := DataW.trod_string h hf
  exact ⟨s.data.toList, by rw [e]; rfl, by simpa using hs⟩
theorem opens_via {P : Program} {α β : Type} {K : CR α} {Q : α → Prop} {T : TypeId} (h : Opens P K Q T) (f : β → α) (g : α → β) (hfg : ∀ a, f (g a) = a) : Opens P (K.via f) (fun b => Q (f b)) T := fun hf => by
  obtain ⟨a, h1, h2⟩ := h hf
  exact ⟨g a, by show K.E _ _ (f (g a)); rw [hfg]; exact h1, by show Q (f (g a)); rw [hfg]; exact h2⟩
theorem opens_imp {P : Program} {α : Type} {K : CR α} {Q R : α → Prop} {T : TypeId} (h : Opens P K Q T) (hi : ∀ a, Q a → R a) : Opens P K R T := fun hf => by
  obtain ⟨a, h1, h2⟩ := h hf
  exact ⟨a, h1, hi a h2⟩
/-- The fields fs, from the cell o on, read as an a of which Q holds. -/
def OpensF (P : Program) {α : Type} (K : CR α) (Q : α → Prop) (fs : List Field) (o : Nat) : Prop :=
  ∀ {H : Type} {enc : TypeId × Value → H} {W : World} {base : Nat} {held : Bool} {n : Nat} {cs : List Value}, cs.length = o + K.k → (∀ (i : Nat) (f : Field), fs[i]? = some f → ∃ x, DataW.trod enc P W base (fun _ => true) held n f.type ((cs.drop f.offset).take (P.cellsOf f.type)) = some x) → ∃ a, K.E W (cs.drop o) a ∧ Q a
theorem opensF_last {P : Program} {α : Type} {K : CR α} {Q : α → Prop} {f : Field} {o : Nat} (h : Opens P K Q f.type) (ho : f.offset = o) (hc : P.cellsOf f.type = K.k) : OpensF P K Q [f] o := fun {H enc W base held n cs} hl hf => by
  obtain ⟨x, hx⟩ := hf 0 f rfl
  rw [ho, hc, List.take_of_length_le (by rw [List.length_drop]; omega)] at hx
  exact h hx
theorem opensF_cons {P : Program} {α β : Type} {K : CR α} {M : CR β} {Q : α → Prop} {R : β → Prop} {f : Field} {fs : List Field} {o : Nat} (h : Opens P K Q f.type) (ho : f.offset = o) (hc : P.cellsOf f.type = K.k) (hr : OpensF P M R fs (o + K.k)) : OpensF P (K.prod M) (fun x => Q x.1 ∧ R x.2) (f :: fs) o := fun {H enc W base held n cs} hl hf => by
  obtain ⟨x, hx⟩ := hf 0 f rfl
  rw [ho, hc] at hx
  obtain ⟨a, h1, h2⟩ := h hx
  have hl' : cs.length = o + (K.k + M.k) := hl
  obtain ⟨b, h3, h4⟩ := hr (by omega) fun i g hg => hf (i + 1) g hg
  exact ⟨(a, b), ⟨_, _, by rw [← List.drop_drop, List.take_append_drop], h1, h3⟩, h2, h4⟩
theorem opens_struct {P : Program} {α : Type} {K : CR α} {Q : α → Prop} {T : TypeId} {fs : Array Field} (hu : P.underlying T = some (.struct fs)) (hc : P.cellsOf T = K.k) (h : OpensF P K Q fs.toList 0) : Opens P K Q T := fun {H enc W base held k cs x} hf => by
  obtain ⟨xs, n, _, _, hl0, hxl, hg⟩ := DataW.trod_struct hu hf
  obtain ⟨a, h1, h2⟩ := h (n := n) (enc := enc) (W := W) (base := base) (held := held) (cs := cs) (by omega) fun i f hi => by
    have hi' : fs[i]? = some f := by simpa using hi
    have hlt := (Array.getElem?_eq_some_iff.1 hi').1
    have := hg i f hi'
    exact ⟨xs[i]'(by omega), by rw [this]; exact List.getElem?_eq_getElem _⟩
  exact ⟨a, by simpa using h1, h2⟩
theorem list_of_all {α : Type} {Pr : Nat → α → Prop} : ∀ (n : Nat), (∀ i, i < n → ∃ a, Pr i a) → ∃ l : List α, l.length = n ∧ ∀ i a, l[i]? = some a → Pr i a
  | 0, _ => ⟨[], rfl, fun i a h => by simp at h⟩
  | n + 1, h => by
    obtain ⟨l, hl, hp⟩ := list_of_all n (fun i hi => h i (by omega))
    obtain ⟨a, ha⟩ := h n (by omega)
    refine ⟨l ++ [a], by simp [hl], fun i b hb => ?_⟩
    rcases Nat.lt_or_ge i l.length with hlt | hge
    · rw [List.getElem?_append_left hlt] at hb
      exact hp i b hb
    · have hi := (List.getElem?_eq_some_iff.1 hb).1
      simp at hi
      have : i = l.length := by omega
      subst this
      simp at hb
      subst hb
      rw [hl]
      exact ha
theorem opens_list {P : Program} {α : Type} {K : CR α} {Q : α → Prop} {T e : TypeId} (hu : P.underlying T = some (.slice e)) (hc : P.cellsOf e = K.k) (h : Opens P K Q e) : Opens P (CR.list K) (fun l => ∀ x ∈ l, Q x) T := fun {H enc W base held k cs x} hf => by
  rcases Go.Deep.open_slice hu hf with ⟨hcs, _⟩ | ⟨ad, l, c, m, n, D, Pl, hcs, _, hl, hm, hmm, _, hi⟩
  · exact ⟨[], ⟨none, 0, hcs, by simp, by simp [maxLen], RG.nil⟩, by simp⟩
  · simp only [if_true] at hmm
    subst hmm
    obtain ⟨L, hL, hp⟩ := list_of_all (Pr := fun i a => ∃ ds, CellsAt W (ad.add (i * K.k)) ds ∧ K.E W ds a ∧ Q a) l (fun i hlt => by
      obtain ⟨cs', hc', ht⟩ := hi i (by omega)
      rw [hc] at hc'
      obtain ⟨_, hcl, hat⟩ := World.cells?_some hc'
      obtain ⟨a, h1, h2⟩ := h ht
      refine ⟨a, cs', fun j u hj => ?_, h1, h2⟩
      have hjl := (List.getElem?_eq_some_iff.1 hj).1
      rw [hat j (by omega)]
      exact hj)
    refine ⟨L, ⟨some ad, _, by rw [hcs, hL], by omega, hm, fun j x hx => ?_⟩, fun x hx => ?_⟩
    · obtain ⟨ds, h1, h2, _⟩ := hp j x hx
      exact ⟨ad, ds, rfl, h1, h2⟩
    · obtain ⟨j, hj, e⟩ := List.getElem_of_mem hx
      obtain ⟨_, _, _, h3⟩ := hp j x (by rw [← e]; exact List.getElem?_eq_getElem hj)
      exact h3
/-- A slice that comes in. -/
theorem open_list {P : Program} {α : Type} {K : CR α} {Q : α → Prop} {T : TypeId} (h : Opens P (CR.list K) (fun l => ∀ x ∈ l, Q x) T) {H : Type} {enc : TypeId × Value → H} {W : World} {base : Nat} {held : Bool} {v : Value} {d : DataW H} {p : List MemPlace} (hv : ∃ A n c, v = .slice A n c) (ht : DataW.Trod enc P W base (fun _ => true) held T v d p) :
    ∃ (A : Option Addr) (c : Nat) (l : List α), v = .slice A l.length c ∧ l.length ≤ c ∧ c ≤ maxLen ∧ RG K W A l ∧ ∀ x ∈ l, Q x := by
  obtain ⟨A0, n0, c0, rfl⟩ := hv
  obtain ⟨k, hk⟩ := ht
  obtain ⟨l, ⟨A, c, e, h1, h2, h3⟩, h4⟩ := h hk
  simp only [Value.cells, List.cons.injEq, and_true] at e
  exact ⟨A, c, l, e, h1, h2, h3, h4⟩
/-- A struct or an array that comes in. -/
theorem open_aggE {P : Program} {α : Type} {K : CR α} {Q : α → Prop} {T : TypeId} (h : Opens P K Q T) {H : Type} {enc : TypeId × Value → H} {W : World} {base : Nat} {held : Bool} {v : Value} {d : DataW H} {p : List MemPlace} (hv : ∃ cs, v = .agg cs) (ht : DataW.Trod enc P W base (fun _ => true) held T v d p) :
    ∃ (cs : List Value) (a : α), v = .agg cs.toArray ∧ K.E W cs a ∧ Q a := by
  obtain ⟨cs, rfl⟩ := hv
  obtain ⟨k, hk⟩ := ht
  obtain ⟨a, h1, h2⟩ := h hk
  exact ⟨cs.toList, a, by simp, h1, h2⟩
end Go.Proofs.Ytjmmaghjbaigiaa
