/- The package sector: the map of what waits, in plain words. -/
import Derived.Test.YtochifbbefbehaaScB
namespace Go.Proofs.Ytochifbbefbehaa
open Go.RowKit Go.Maps
set_option linter.unusedVariables false

/-- The numbers below N at which f has something, rising. -/
def keysOf (f : Nat → Option (List UInt8)) (N : Nat) : List Nat := (List.range N).filter fun k => (f k).isSome
theorem mem_keysOf {f : Nat → Option (List UInt8)} {N k : Nat} : k ∈ keysOf f N ↔ k < N ∧ (f k).isSome = true := by simp [keysOf]
theorem keysOf_length (f : Nat → Option (List UInt8)) (N : Nat) : (keysOf f N).length ≤ N := by
  have := List.length_filter_le (fun k => (f k).isSome) (List.range N)
  simpa [keysOf] using this
theorem keysOf_sorted (f : Nat → Option (List UInt8)) (N : Nat) : (keysOf f N).Pairwise (· < ·) := List.Pairwise.filter _ List.pairwise_lt_range
theorem nodup_map_cast {l : List Nat} (h : l.Nodup) : (l.map fun k : Nat => (k : Int)).Nodup := by
  refine List.pairwise_map.2 (h.imp fun {a b} hne e => hne ?_)
  exact_mod_cast e
theorem sorted_cast {l : List Nat} (h : l.Pairwise (· < ·)) : (l.map fun k : Nat => (k : Int)).mergeSort leI = l.map fun k : Nat => (k : Int) := by
  have tr : ∀ a b c : Int, leI a b = true → leI b c = true → leI a c = true := fun a b c h1 h2 => by simp only [leI, decide_eq_true_eq] at *; exact Int.le_trans h1 h2
  have to : ∀ a b : Int, (leI a b || leI b a) = true := fun a b => by simp only [leI, Bool.or_eq_true, decide_eq_true_eq]; exact Int.le_total a b
  refine List.Perm.eq_of_pairwise (le := fun a b => leI a b = true) (fun a b _ _ h1 h2 => ?_) (List.pairwise_mergeSort tr to _) ?_ (List.mergeSort_perm _ leI)
  · simp only [leI, decide_eq_true_eq] at h1 h2
    exact Int.le_antisymm h1 h2
  · refine List.pairwise_map.2 (h.imp fun {a b} hlt => ?_)
    simp only [leI, decide_eq_true_eq]
    omega

/-- A map, opened: as few entries as there are numbers below N, its keys, what they have. -/
structure MapOpen (w : World) (m : Nat) (f : Nat → Option (List UInt8)) (N : Nat) (n : Nat) (D : DataW Unit) : Prop where
  owns : w.ownsMap (H := Unit) Try.prog 3 secR m n D
  few : n ≤ N
  size : Maps.size D ≤ N
  has : ∀ k : Nat, Maps.has D (.int .i64 (k : Int)) = (f k).isSome
  neg : ∀ k : Int, k < 0 → Maps.has D (.int .i64 k) = false
  at_ : ∀ k l, f k = some l → ∀ zd, D.atKey (.int .i64 (k : Int)) zd = .lit (.string l)
  perm : ((keysOf f N).map fun k : Nat => (k : Int)).Perm (intKeys D)
theorem MapIs.open_ {w : World} {m : Nat} {f : Nat → Option (List UInt8)} (h : MapIs w m f) {N : Nat} (hN : ∀ k l, f k = some l → k < N) : ∃ n D, MapOpen w m f N n D := by
  obtain ⟨n, D, ho, hh, hneg, hat⟩ := h
  have K := int_keyed (P := Try.prog) (k := 3) Try.underlying3
  obtain ⟨es, rfl, hp, hk⟩ := ho.entries K
  have hkey : ∀ p ∈ es, ∃ x, p.1 = .int .i64 x := by
    obtain ⟨es', e, hk'⟩ := ho.keysOf
    injection e with e
    subst e
    intro p hp
    obtain ⟨v, hv⟩ := hk' p hp
    obtain ⟨x, _, e, _⟩ := Maps.keyOf_i64 Try.underlying3 hv
    exact ⟨x, e⟩
  have hperm : ((keysOf f N).map fun k : Nat => (k : Int)).Perm (intKeys (.map es)) := by
    refine perm_intKeys hp hkey (nodup_map_cast ((keysOf_sorted f N).imp fun {a b} hlt => Nat.ne_of_lt hlt)) fun x => ?_
    constructor
    · intro hx
      obtain ⟨k, hk, rfl⟩ := List.mem_map.1 hx
      rw [hh k]
      exact (mem_keysOf.1 hk).2
    · intro hx
      by_cases h0 : x < 0
      · rw [hneg x h0] at hx; cases hx
      · obtain ⟨k, rfl⟩ := Int.eq_ofNat_of_zero_le (show 0 ≤ x by omega)
        rw [hh k] at hx
        obtain ⟨l, hl⟩ := Option.isSome_iff_exists.1 hx
        exact List.mem_map.2 ⟨k, mem_keysOf.2 ⟨hN k l hl, hx⟩, rfl⟩
  have hlen : es.length ≤ N := by
    have h1 := hperm.length_eq
    have h2 : (intKeys (.map es : DataW Unit)).length = es.length := by simp [intKeys]
    have h3 := keysOf_length f N
    simp only [List.length_map] at h1
    omega
  obtain ⟨es0, clock, hb, Ft, hs, hD⟩ := ho
  refine ⟨es0.size, .map es, ⟨es0, clock, hb, Ft, Nat.le_refl _, hD⟩, ?_, hlen, hh, hneg, hat, hperm⟩
  injection hD with hD
  have : es.length = es0.size := by rw [hD, length_sorted]; simp
  omega
theorem keyLit (k : Int) : WideAt.IsKeyLit (.int .i64 k) := trivial
theorem MapOpen.put {w w' : World} {m : Nat} {f : Nat → Option (List UInt8)} {N n n' : Nat} {D : DataW Unit} (h : MapOpen w m f N n D) (k : Nat) (l : List UInt8) (ho : w'.ownsMap (H := Unit) Try.prog 3 secR m n' (D.put (.int .i64 (k : Int)) (.lit (.string l)))) :
    MapIs w' m (fun i => if i = k then some l else f i) := by
  have hm : IsMap D := h.owns.isMap
  refine ⟨n', _, ho, fun i => ?_, fun i hi => ?_, fun i r hr zd => ?_⟩
  · show _ = (if i = k then some l else f i).isSome
    by_cases e : i = k
    · subst e; rw [if_pos rfl, has_put_same hm (keyLit _)]; rfl
    · rw [if_neg e, has_put_other (by simp; omega), h.has i]
  · rw [has_put_other (by simp; omega), h.neg i hi]
  · have hr : (if i = k then some l else f i) = some r := hr
    by_cases e : i = k
    · subst e
      rw [if_pos rfl] at hr
      injection hr with hr
      subst hr
      exact atKey_put_same hm (keyLit _) _ _
    · rw [if_neg e] at hr
      rw [atKey_put_other (by simp; omega)]
      exact h.at_ i r hr zd
theorem MapIs.cleared {w : World} {m : Nat} {f : Nat → Option (List UInt8)} (h : MapIs w m f) (ty : TypeId) :
    ∃ w', (Builtin.clear_ #[50] ty #[.map (some m)]).run Try.prog w = .ok (.tuple #[]) w' ∧ MapIs w' m (fun _ => none) ∧ w.grownBy w' (some m) := by
  obtain ⟨n, D, ⟨es, clock, hb, Ft, hs, hD⟩, _⟩ := h
  refine ⟨ChangeMaps.setBlock w m (.map #[] clock), ?_, ⟨0, .map [], ⟨#[], clock, ChangeMaps.heap_setBlock_same hb _, ⟨by simp, MapKept.stamped_empty clock, by simp⟩, Nat.le_refl _, rfl⟩, fun k => rfl, fun k _ => rfl, fun k l h => by cases h⟩,
    ⟨rfl, rfl, rfl, by simp [ChangeMaps.setBlock], fun i _ hi => ChangeMaps.heap_setBlock_other hb _ (fun e => hi (by rw [e]))⟩⟩
  simp [Builtin.clear_, run_underlying Try.underlying50, MapKept.run_getObj_map hb, MapKept.run_setObj_map _ hb, Result.andThen, ChangeMaps.setBlock]
end Go.Proofs.Ytochifbbefbehaa
