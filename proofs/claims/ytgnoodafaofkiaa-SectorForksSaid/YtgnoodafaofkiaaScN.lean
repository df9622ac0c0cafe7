/- The package sector: the next byte of fates. -/
import Derived.Test.YtgnoodafaofkiaaScL
namespace Go.Proofs.Ytgnoodafaofkiaa
open Go.RowKit
set_option linter.unusedVariables false
/-- The next byte of fates, and what is left. -/
def tk : List UInt8 → UInt8 × List UInt8
  | [] => (0, [])
  | f :: r => (f, r)
/-- The slice at A reads as l, and none of its bytes lie in X or in block B. -/
def RBX (X : Nat → Prop) (B : Nat) (w : World) (A : Option Addr) (l : List UInt8) : Prop :=
  l = [] ∨ ∃ ad, A = some ad ∧ ¬ X ad.block ∧ ad.block ≠ B ∧ ∀ (j : Nat) (x : UInt8), l[j]? = some x → w.cell? (ad.add j) = some (.int .u8 (x.toNat : Int))
/-- The variable in block B has a slice that reads as l, none of whose bytes lie in X. -/
def BoxF (X : Nat → Prop) (w : World) (B : Nat) (l : List UInt8) : Prop :=
  ∃ A c, w.heap[B]? = some (.cells #[.slice A l.length c] 32 (0, 0)) ∧ l.length ≤ c ∧ RBX X B w A l
theorem BoxF.keep {X Y : Nat → Prop} {w w' : World} {B : Nat} {l : List UInt8} (h : BoxF X w B l) (hf : Frm Y w w') (hB : ¬ Y B) (hY : ∀ i, Y i → X i ∨ w.heap.size ≤ i) : BoxF X w' B l := by
  obtain ⟨A, c, hh, hc, hr⟩ := h
  have hlt := (Array.getElem?_eq_some_iff.1 hh).1
  refine ⟨A, c, (hf.block _ hlt hB).trans hh, hc, ?_⟩
  rcases hr with rfl | ⟨ad, rfl, hx1, hx2, hcell⟩
  · exact .inl rfl
  · refine .inr ⟨ad, rfl, hx1, hx2, fun j x hj => ?_⟩
    have h1 := hcell j x hj
    have h2 := lt_of_cell h1
    rw [hf.cell h2 (fun hy => by
      rw [block_of_add] at hy h2
      rcases hY _ hy with h | h
      · exact hx1 h
      · omega)]
    exact h1
theorem RBX.setCell {X : Nat → Prop} {B : Nat} {w : World} {A : Option Addr} {l : List UInt8} (h : RBX X B w A l) (v : Value) : RBX X B (w.setCell ⟨B, 0, none⟩ v) A l := by
  rcases h with rfl | ⟨ad, rfl, hx1, hx2, hc⟩
  · exact .inl rfl
  · refine .inr ⟨ad, rfl, hx1, hx2, fun j x hj => ?_⟩
    have h1 := hc j x hj
    have : (w.setCell ⟨B, 0, none⟩ v).heap[(ad.add j).block]? = w.heap[(ad.add j).block]? := Below.heap_setCell _ _ _ _ (by rw [block_of_add]; exact hx2)
    rw [World.cell?_of_block (w := w) this]
    exact h1
set_option maxHeartbeats 1000000 in
theorem next_any {X : Nat → Prop} {w : World} {B : Nat} {l : List UInt8} (h : BoxF X w B l) (hm : l.length ≤ maxLen) :
    Calls Try.prog 45 #[.pointer (some ⟨B, 0, none⟩)] w fun e w' => e = .returned (.int .u8 ((tk l).1.toNat : Int)) ∧ BoxF X w' B (tk l).2 ∧ Frm (fun k => k = B) w w' := by
  obtain ⟨A, c, hh, hc, hr⟩ := h
  have hcell : w.cell? ⟨B, 0, none⟩ = some (.slice A l.length c) := by
    rw [cell_of_row w B 0 _ _ _ hh]; rfl
  have hfro : w.frozen? ⟨B, 0, none⟩ = false := by simp [World.frozen?, hh]
  have HH := Lib.hid hh
  clear hh
  unfold maxLen at hm
  cases l with
  | nil =>
    go_enter Try.func45, Try.ntmps45
    go_wp2
    go_ret
    exact ⟨rfl, ⟨A, c, HH.out, hc, .inl rfl⟩, Frm.refl _ _⟩
  | cons f r =>
    rcases hr with hr | ⟨ad, rfl, hx1, hx2, hcl⟩
    · cases hr
    have h0 := hcl 0 f rfl
    rw [Addr.add_nought] at h0
    have HC := Lib.hid hcl
    generalize hn : (f :: r).length = n at *
    have hn0 : r.length + 1 = n := by simpa using hn
    have hpos : 0 < n := by omega
    have hnb : ((n : Int) == 0) = false := by simp; omega
    have HN := Lib.hid hn0
    have n0 : (1 : Int) ≤ (n : Int) := by omega
    have n1 : (n : Int) ≤ (c : Int) := by omega
    clear hcl hn hn0
    have Hend : ∀ (A' : Option Addr) (c' : Nat), r.length ≤ c' → RBX X B w A' r → BoxF X (w.setCell ⟨B, 0, none⟩ (.slice A' r.length c')) B r := fun A' c' h1 h2 => by
      refine ⟨A', c', ?_, h1, h2.setCell _⟩
      rw [heap_setCell_block _ HH.out]
      rfl
    have HEnd := Lib.hid Hend
    clear Hend
    have hrb : RBX X B w (some (ad.add 1)) r := .inr ⟨_, rfl, by rw [block_of_add]; exact hx1, by rw [block_of_add]; exact hx2, fun j x hj => by
      rw [add_of_add, Nat.add_comm]
      exact HC.out (j + 1) x (by simpa using hj)⟩
    have HRB := Lib.hid hrb
    clear hrb
    by_cases hck : c = 1
    · subst hck
      obtain rfl : r = [] := List.eq_nil_of_length_eq_zero (by have := HN.out; omega)
      obtain rfl : 1 = n := HN.out
      go_enter Try.func45, Try.ntmps45
      go_wp2
      go_ret
      refine ⟨rfl, ?_, Frm.setCell _ _ _ rfl⟩
      exact HEnd.out (some ad) 0 (Nat.le_refl _) (.inl rfl)
    · go_enter Try.func45, Try.ntmps45
      go_wp2
      go_ret
      refine ⟨rfl, ?_, Frm.setCell _ _ _ rfl⟩
      have e := HEnd.out (some (ad.add 1)) (c - 1) (by have := HN.out; omega) HRB.out
      rw [Addr.add_one_, show r.length = n - 1 by have := HN.out; omega] at e
      exact e
end Go.Proofs.Ytgnoodafaofkiaa
