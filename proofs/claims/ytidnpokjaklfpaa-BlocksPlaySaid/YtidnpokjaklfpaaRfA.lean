/- The document's disk: words, and the calls that look. -/
import Derived.Test.YtidnpokjaklfpaaScU
namespace Go.Proofs.Ytidnpokjaklfpaa
open Go.RowKit
set_option linter.unusedVariables false
/-- A sector of the document's disk. -/
structure Sx where
  has : List UInt8
  safe : List UInt8
  w : Bool
def sxCells (x : Sx) : List Value := [.string (str x.has), .string (str x.safe), .bool x.w]
def rowS (S : List Sx) : List Value := S.flatMap sxCells
/-- The document's disk. -/
structure Rk where
  S : List Sx
  off : Bool
  calls : Int
  after : Int
  done : Bool
def rkV (A : Option Addr) (c : Nat) (r : Rk) : Value := .agg #[.slice A r.S.length c, .bool r.off, .int .i64 r.calls, .int .i64 r.after, .bool r.done]
/-- The slice at A reads as the sectors S in w. -/
def RS (w : World) (A : Option Addr) (S : List Sx) : Prop := S = [] ∨ ∃ g, A = some ⟨g, 0, none⟩ ∧ ∀ j u, (rowS S)[j]? = some u → w.cell? ⟨g, j, none⟩ = some u
theorem rowS_length (S : List Sx) : (rowS S).length = S.length * 3 := by
  induction S with
  | nil => rfl
  | cons x S ih =>
    show (sxCells x ++ rowS S).length = _
    rw [List.length_append, ih]
    simp [sxCells]
    omega
theorem rowS_at : ∀ (S : List Sx) (i : Nat) (x : Sx), S[i]? = some x → (rowS S)[i * 3]? = some (.string (str x.has)) ∧ (rowS S)[i * 3 + 1]? = some (.string (str x.safe)) ∧ (rowS S)[i * 3 + 2]? = some (.bool x.w)
  | [], i, x, h => by simp at h
  | y :: S, 0, x, h => by
    simp only [List.getElem?_cons_zero, Option.some.injEq] at h
    subst h
    exact ⟨rfl, rfl, rfl⟩
  | y :: S, i + 1, x, h => by
    simp only [List.getElem?_cons_succ] at h
    obtain ⟨h1, h2, h3⟩ := rowS_at S i x h
    have e : ∀ k, (rowS (y :: S))[(i + 1) * 3 + k]? = (rowS S)[i * 3 + k]? := fun k => by
      show (sxCells y ++ rowS S)[(i + 1) * 3 + k]? = _
      rw [List.getElem?_append_right (by simp [sxCells]; omega)]
      congr 1
      simp [sxCells]
      omega
    exact ⟨(e 0).trans h1, (e 1).trans h2, (e 2).trans h3⟩
theorem RS.at_ {w : World} {A : Option Addr} {S : List Sx} (h : RS w A S) {i : Nat} {x : Sx} (hi : S[i]? = some x) : ∃ g, A = some ⟨g, 0, none⟩ ∧ g < w.heap.size ∧ w.cell? ⟨g, i * 3, none⟩ = some (.string (str x.has)) ∧ w.cell? ⟨g, i * 3 + 1, none⟩ = some (.string (str x.safe)) ∧ w.cell? ⟨g, i * 3 + 2, none⟩ = some (.bool x.w) := by
  rcases h with rfl | ⟨g, rfl, hc⟩
  · simp at hi
  · obtain ⟨h1, h2, h3⟩ := rowS_at S i x hi
    exact ⟨g, rfl, lt_of_cell (hc _ _ h1), hc _ _ h1, hc _ _ h2, hc _ _ h3⟩
theorem RS.frm {w w' : World} {A : Option Addr} {S : List Sx} {X : Nat → Prop} (h : RS w A S) (hf : Frm X w w') (hx : S ≠ [] → ∀ ad, A = some ad → ¬ X ad.block) : RS w' A S := by
  rcases h with rfl | ⟨g, rfl, hc⟩
  · exact .inl rfl
  · by_cases hS : S = []
    · exact .inl hS
    · exact .inr ⟨g, rfl, fun j u hj => (hf.cell (lt_of_cell (hc j u hj)) (hx hS ⟨g, 0, none⟩ rfl)).trans (hc j u hj)⟩
theorem RS.below {w w' : World} {A : Option Addr} {S : List Sx} (h : RS w A S) (hb : Below w.heap.size w w') : RS w' A S := h.frm (X := fun _ => False) (Frm.of_below hb) (fun _ _ _ => id)
theorem RS.drew {w : World} {A : Option Addr} {S : List Sx} (h : RS w A S) : RS w.drew A S := h
theorem RS.drewN {w : World} {A : Option Addr} {S : List Sx} (h : RS w A S) (n : Nat) : RS (w.drewN n) A S := h
theorem RS.ofOwn {base : Nat} {w : World} {A : Option Addr} {c : Nat} {S : List Sx} (h : w.ownsRow base 82 3 (.slice A S.length c) S.length (rowS S)) : RS w A S ∧ (S ≠ [] → ∀ ad, A = some ad → base ≤ ad.block) := by
  rcases h.2 with ⟨e, h0⟩ | ⟨g, cap, cur, e, hb, hh, _⟩
  · have : S = [] := List.eq_nil_of_length_eq_zero h0
    exact ⟨.inl this, fun hn => absurd this hn⟩
  · injection e with e1 e2 e3
    subst e1
    refine ⟨.inr ⟨g, rfl, fun j u hj => ?_⟩, fun _ ad e => by injection e with e; subst e; exact hb⟩
    have := World.ownsRow.cells h (g := g) rfl j u hj
    have e : (⟨g, 0, none⟩ : Addr).add j = ⟨g, j, none⟩ := by cases j <;> simp [Addr.add]
    rw [e] at this
    exact this
def Rk.at (r : Rk) (n : Int) : Nat := if r.off = true then 8 else if n < 0 ∨ (r.S.length : Int) ≤ n then 9 else 0
def Rk.reads (r : Rk) (n : Int) : List UInt8 := if r.at n = 0 then ((r.S[n.toNat]?).map (·.has)).getD [] else []
set_option maxHeartbeats 1000000 in
theorem refAt_any (A : Option Addr) (c : Nat) (r : Rk) (n : Int) (w : World) (hs : r.S.length ≤ 4096) : Calls Try.prog 66 #[rkV A c r, .int .i64 n] w fun e w' => e = .returned (.int .i64 (r.at n : Int)) ∧ Below w.heap.size w w' := by
  obtain ⟨S, off, calls, after, done⟩ := r
  have hs : S.length ≤ 4096 := hs
  have hat : Rk.at ⟨S, off, calls, after, done⟩ n = if off = true then 8 else if n < 0 ∨ (S.length : Int) ≤ n then 9 else 0 := rfl
  have HAT := Lib.hid hat
  clear hat
  unfold rkV
  show Calls Try.prog 66 #[.agg #[.slice A S.length c, .bool off, .int .i64 calls, .int .i64 after, .bool done], .int .i64 n] w _
  generalize S.length = N at *
  cases off with
  | true =>
    go_enter Try.func66, Try.ntmps66
    go_wp2
    go_ret
    exact ⟨by rw [HAT.out]; rfl, (Below.refl _ _).alloc (Nat.le_refl _) _⟩
  | false =>
    by_cases h1 : n < 0
    · go_enter Try.func66, Try.ntmps66
      go_wp2
      go_ret
      exact ⟨by rw [HAT.out, if_neg (by simp), if_pos (.inl h1)]; rfl, (Below.refl _ _).alloc (Nat.le_refl _) _⟩
    · have h1' : 0 ≤ n := by omega
      by_cases h2 : (N : Int) ≤ n
      · go_enter Try.func66, Try.ntmps66
        go_wp2
        go_ret
        exact ⟨by rw [HAT.out, if_neg (by simp), if_pos (.inr h2)]; rfl, (Below.refl _ _).alloc (Nat.le_refl _) _⟩
      · have h2' : n < (N : Int) := by omega
        have HN := Lib.hid (show ¬ (n < 0 ∨ (N : Int) ≤ n) from by omega)
        clear h1 h2
        go_enter Try.func66, Try.ntmps66
        go_wp2
        go_ret
        exact ⟨by rw [HAT.out, if_neg (by simp), if_neg HN.out]; rfl, (Below.refl _ _).alloc (Nat.le_refl _) _⟩
end Go.Proofs.Ytidnpokjaklfpaa
