/- The package sector: Waits. -/
import Derived.Test.YtgnoodafaofkiaaScK
import Derived.Test.YtgnoodafaofkiaaShelf
namespace Go.Proofs.Ytgnoodafaofkiaa
open Go.RowKit Go.Maps Go.Sort Go.Shelf
set_option linter.unusedVariables false
/-- The slice at the address A reads as the numbers l in w. -/
def RN (w : World) (A : Option Addr) (l : List Nat) : Prop :=
  l = [] ∨ ∃ ad, A = some ad ∧ ∀ (j k : Nat), l[j]? = some k → w.cell? (ad.add j) = some (.int .i64 (k : Int))
theorem RN.keep {w w' : World} {A : Option Addr} {l : List Nat} (h : RN w A l) (hk : ∀ p : Addr, p.block < w.heap.size → (∀ ad, A = some ad → p.block = ad.block) → w'.cell? p = w.cell? p) : RN w' A l := by
  rcases h with rfl | ⟨ad, rfl, hc⟩
  · exact .inl rfl
  · exact .inr ⟨ad, rfl, fun j x hx => (hk _ (lt_of_cell (hc j x hx)) (fun ad' e => by injection e with e; subst e; exact block_of_add _ _)).trans (hc j x hx)⟩
def Dk.waits (s : Dk) : List Nat := keysOf s.wt s.rows.length
theorem sortsA (m : Nat) : AnyZI.SortsIn Try.prog Try.sortedA_ren Fence.wide m :=
  ⟨fun blk off cap ss W hH hblk hsz => callsIn_wide.2 (AnyM.slices_Sort_int Try.sortA blk off cap ss W hH hblk hsz),
   fun p cap W => callsIn_wide.2 (AnyM.slices_Sort_int_none Try.sortA p cap W)⟩
theorem keys_any (mb : Option Nat) (w : World) : Calls Try.prog 52 #[.map mb] w fun e w' => e = .returned (.func (.func 70) #[] #[.pointer (some ⟨w.heap.size, 0, none⟩)]) ∧ w' = w.alloc (.cells #[.map mb] 76) :=
  (callsIn_wide (n := 5)).1 (AnyZI.keys_in Try.keysA Fence.wide 5 trivial rfl mb w)
set_option maxHeartbeats 1000000 in
theorem sorted_any {b nn : Nat} {D0 : DataW Unit} {w : World} (hown : w.ownsMap Try.prog 3 secR b nn D0) (hmax : Maps.size D0 ≤ 4096) :
    Calls Try.prog 51 #[.func (.func 70) #[] #[.pointer (some ⟨w.heap.size, 0, none⟩)]] (w.alloc (.cells #[.map (some b)] 76)) fun e w' => ∃ (v : Value) (ss : List Int), e = .returned v ∧ ss.Perm (intKeys D0) ∧
      w'.ownsRow (w.heap.size + 1) 3 1 v ss.length ((ss.mergeSort (fun x y => decide (x ≤ y))).map encZ) ∧ Below (w.heap.size + 1) (w.alloc (.cells #[.map (some b)] 76)) w' := by
  have hbl := hown.lt
  have hseq : SeqGives Fence.wide 2 Try.prog 70 #[.pointer (some ⟨w.heap.size, 0, none⟩)] encZ (fun ss => ss.Perm (intKeys D0)) (Maps.size D0) (w.alloc (.cells #[.map (some b)] 76)) :=
    AnyZI.keys_gives (ρ := Try.keysA_ren) { Try.keysA with } Fence.wide _ trivial rfl (by omega) w.heap.size b nn D0 _ (by simp) (by simp) (by
      obtain ⟨es, clock, hb, Ft, hs, hD⟩ := hown
      exact ⟨es, clock, (Below.heap_alloc _ _ b hbl).trans hb, Ft, hs, hD⟩)
  have cS := AnyZI.sorted_in Try.sortedA Fence.wide 5 trivial trivial trivial trivial rfl (by omega) (sortsA _) (enters_of Try.func69 (by kernel_rfl) rfl) 70 #[.pointer (some ⟨w.heap.size, 0, none⟩)] trivial (enters_of Try.func70 (by kernel_rfl) rfl) _ _ (by simp only [maxLen]; omega) (by omega) _ hseq
  change CallsIn _ _ Try.prog 51 _ _ _ at cS
  refine (callsIn_wide.1 cS).mono ?_
  rintro e w' ⟨v, ss, rfl, hS, hrow, hnil, hb⟩
  rw [heap_size_alloc] at hrow hb
  exact ⟨v, ss, rfl, hS, hrow, hb⟩
set_option maxHeartbeats 1000000 in
theorem waits_any {base : Nat} {F : Ft} {w : World} {s : Dk} (h : DkAt base F w s) : Calls Try.prog 22 #[.pointer (some ⟨F.b, 0, none⟩)] w fun e w' => ∃ A c, e = .returned (.slice A s.waits.length c) ∧ RN w' A s.waits ∧ (∀ ad, A = some ad → w.heap.size ≤ ad.block) ∧ Below w.heap.size w w' := by
  have c1 := h.c1
  obtain ⟨nn, D, hM⟩ := h.map.open_ h.ok.wlt
  have hmany := h.ok.many
  have hsz := hM.size
  have HS := Lib.hid (sorted_any hM.owns (by omega))
  have HP := Lib.hid hM.perm
  clear h hM
  go_enter Try.func22, Try.ntmps22
  go_wp2_with (first
    | (go_at_call 52; refine (keys_any _ _).mono ?_; rintro e w' ⟨rfl, rfl⟩)
    | (go_at_call 51; refine HS.out.mono ?_; rintro e w' ⟨v, ss, rfl, hS, hrow, hb⟩))
  go_ret
  have hp := (HP.out.trans hS.symm)
  have hlen : ss.length = s.waits.length := by rw [← hp.length_eq, List.length_map]; rfl
  have hms : ss.mergeSort (fun x y => decide (x ≤ y)) = s.waits.map fun k : Nat => (k : Int) := by
    rw [← mergeSort_of_perm_i hp]
    exact sorted_cast (keysOf_sorted _ _)
  rw [hms, hlen] at hrow
  have hB : Below w.heap.size w w' := ((Below.refl _ w).alloc (Nat.le_refl _) _).trans (hb.mono (by omega))
  rcases hrow.2 with ⟨rfl, h0⟩ | ⟨g, cap, cur, rfl, hbase, hg, r1, r2, r3, r4⟩
  · have e0 : s.waits = [] := List.eq_nil_of_length_eq_zero h0
    exact ⟨none, 0, by rw [e0]; rfl, .inl e0, (fun ad e => by cases e), hB⟩
  · refine ⟨some ⟨g, 0, none⟩, cap, rfl, .inr ⟨_, rfl, fun j k hj => ?_⟩, (fun ad e => by injection e with e; subst e; show w.heap.size ≤ g; omega), hB⟩
    exact World.ownsRow.cells hrow (g := g) rfl j _ (by simp [hj, encZ])
end Go.Proofs.Ytgnoodafaofkiaa
