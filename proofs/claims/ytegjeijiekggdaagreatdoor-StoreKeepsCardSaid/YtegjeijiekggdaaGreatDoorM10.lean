/- Joined: RfA RfB. -/
import Derived.Test.YtegjeijiekggdaaGreatDoorM08
import Derived.RegionTactic
import Derived.Deep.QuietTactic
import Derived.BigQuiet
section
/- The document's disk: words, and the calls that look. -/
namespace Go.Proofs.YtegjeijiekggdaaGreatDoor
open Go.RowKit
set_option linter.unusedVariables false
/-- A sector of the document's disk. -/
structure Sx where
  has : List UInt8
  safe : List UInt8
  w : Bool
def sxCells (x : Sx) : List Value := [.string (str x.has), .string (str x.safe), .bool x.w]
def rowS (S : List Sx) : List Value := S.flatMap sxCells
/-- The document's disk. -/
structure Rk where
  S : List Sx
  off : Bool
  calls : Int
  after : Int
  done : Bool
def rkV (A : Option Addr) (c : Nat) (r : Rk) : Value := .agg #[.slice A r.S.length c, .bool r.off, .int .i64 r.calls, .int .i64 r.after, .bool r.done]
/-- The slice at A reads as the sectors S in w. -/
def RS (w : World) (A : Option Addr) (S : List Sx) : Prop := S = [] ∨ ∃ g, A = some ⟨g, 0, none⟩ ∧ ∀ j u, (rowS S)[j]? = some u → w.cell? ⟨g, j, none⟩ = some u
theorem rowS_length (S : List Sx) : (rowS S).length = S.length * 3 := by
  induction S with
  | nil => rfl
  | cons x S ih =>
    show (sxCells x ++ rowS S).length = _
    rw [List.length_append, ih]
    simp [sxCells]
    omega
theorem rowS_at : ∀ (S : List Sx) (i : Nat) (x : Sx), S[i]? = some x → (rowS S)[i * 3]? = some (.string (str x.has)) ∧ (rowS S)[i * 3 + 1]? = some (.string (str x.safe)) ∧ (rowS S)[i * 3 + 2]? = some (.bool x.w)
  | [], i, x, h => by simp at h
  | y :: S, 0, x, h => by
    simp only [List.getElem?_cons_zero, Option.some.injEq] at h
    subst h
    exact ⟨rfl, rfl, rfl⟩
  | y :: S, i + 1, x, h => by
    simp only [List.getElem?_cons_succ] at h
    obtain ⟨h1, h2, h3⟩ := rowS_at S i x h
    have e : ∀ k, (rowS (y :: S))[(i + 1) * 3 + k]? = (rowS S)[i * 3 + k]? := fun k => by
      show (sxCells y ++ rowS S)[(i + 1) * 3 + k]? = _
      rw [List.getElem?_append_right (by simp [sxCells]; omega)]
      congr 1
      simp [sxCells]
      omega
    exact ⟨(e 0).trans h1, (e 1).trans h2, (e 2).trans h3⟩
theorem RS.at_ {w : World} {A : Option Addr} {S : List Sx} (h : RS w A S) {i : Nat} {x : Sx} (hi : S[i]? = some x) : ∃ g, A = some ⟨g, 0, none⟩ ∧ g < w.heap.size ∧ w.cell? ⟨g, i * 3, none⟩ = some (.string (str x.has)) ∧ w.cell? ⟨g, i * 3 + 1, none⟩ = some (.string (str x.safe)) ∧ w.cell? ⟨g, i * 3 + 2, none⟩ = some (.bool x.w) := by
  rcases h with rfl | ⟨g, rfl, hc⟩
  · simp at hi
  · obtain ⟨h1, h2, h3⟩ := rowS_at S i x hi
    exact ⟨g, rfl, lt_of_cell (hc _ _ h1), hc _ _ h1, hc _ _ h2, hc _ _ h3⟩
theorem RS.frm {w w' : World} {A : Option Addr} {S : List Sx} {X : Nat → Prop} (h : RS w A S) (hf : Frm X w w') (hx : S ≠ [] → ∀ ad, A = some ad → ¬ X ad.block) : RS w' A S := by
  rcases h with rfl | ⟨g, rfl, hc⟩
  · exact .inl rfl
  · by_cases hS : S = []
    · exact .inl hS
    · exact .inr ⟨g, rfl, fun j u hj => (hf.cell (lt_of_cell (hc j u hj)) (hx hS ⟨g, 0, none⟩ rfl)).trans (hc j u hj)⟩
theorem RS.below {w w' : World} {A : Option Addr} {S : List Sx} (h : RS w A S) (hb : Below w.heap.size w w') : RS w' A S := h.frm (X := fun _ => False) (Frm.of_below hb) (fun _ _ _ => id)
theorem RS.drew {w : World} {A : Option Addr} {S : List Sx} (h : RS w A S) : RS w.drew A S := h
theorem RS.drewN {w : World} {A : Option Addr} {S : List Sx} (h : RS w A S) (n : Nat) : RS (w.drewN n) A S := h
theorem RS.ofOwn {base : Nat} {w : World} {A : Option Addr} {c : Nat} {S : List Sx} (h : w.ownsRow base 143 3 (.slice A S.length c) S.length (rowS S)) : RS w A S ∧ (S ≠ [] → ∀ ad, A = some ad → base ≤ ad.block) := by
  rcases h.2 with ⟨e, h0⟩ | ⟨g, cap, cur, e, hb, hh, _⟩
  · have : S = [] := List.eq_nil_of_length_eq_zero h0
    exact ⟨.inl this, fun hn => absurd this hn⟩
  · injection e with e1 e2 e3
    subst e1
    refine ⟨.inr ⟨g, rfl, fun j u hj => ?_⟩, fun _ ad e => by injection e with e; subst e; exact hb⟩
    have := World.ownsRow.cells h (g := g) rfl j u hj
    have e : (⟨g, 0, none⟩ : Addr).add j = ⟨g, j, none⟩ := by cases j <;> simp [Addr.add]
    rw [e] at this
    exact this
def Rk.at (r : Rk) (n : Int) : Nat := if r.off = true then 8 else if n < 0 ∨ (r.S.length : Int) ≤ n then 9 else 0
def Rk.reads (r : Rk) (n : Int) : List UInt8 := if r.at n = 0 then ((r.S[n.toNat]?).map (·.has)).getD [] else []
set_option maxHeartbeats 1000000 in
theorem refAt_any (A : Option Addr) (c : Nat) (r : Rk) (n : Int) (w : World) (hs : r.S.length ≤ 4096) : Calls Tryz.prog 131 #[rkV A c r, .int .i64 n] w fun e w' => e = .returned (.int .i64 (r.at n : Int)) ∧ Below w.heap.size w w' := by
  obtain ⟨S, off, calls, after, done⟩ := r
  have hs : S.length ≤ 4096 := hs
  have hat : Rk.at ⟨S, off, calls, after, done⟩ n = if off = true then 8 else if n < 0 ∨ (S.length : Int) ≤ n then 9 else 0 := rfl
  have HAT := Lib.hid hat
  clear hat
  unfold rkV
  show Calls Tryz.prog 131 #[.agg #[.slice A S.length c, .bool off, .int .i64 calls, .int .i64 after, .bool done], .int .i64 n] w _
  generalize S.length = N at *
  cases off with
  | true =>
    go_enter Tryz.func131, Tryz.ntmps131
    go_wp2
    go_ret
    exact ⟨by rw [HAT.out]; rfl, (Below.refl _ _).alloc (Nat.le_refl _) _⟩
  | false =>
    by_cases h1 : n < 0
    · go_enter Tryz.func131, Tryz.ntmps131
      go_wp2
      go_ret
      exact ⟨by rw [HAT.out, if_neg (by simp), if_pos (.inl h1)]; rfl, (Below.refl _ _).alloc (Nat.le_refl _) _⟩
    · have h1' : 0 ≤ n := by omega
      by_cases h2 : (N : Int) ≤ n
      · go_enter Tryz.func131, Tryz.ntmps131
        go_wp2
        go_ret
        exact ⟨by rw [HAT.out, if_neg (by simp), if_pos (.inr h2)]; rfl, (Below.refl _ _).alloc (Nat.le_refl _) _⟩
      · have h2' : n < (N : Int) := by omega
        have HN := Lib.hid (show ¬ (n < 0 ∨ (N : Int) ≤ n) from by omega)
        clear h1 h2
        go_enter Tryz.func131, Tryz.ntmps131
        go_wp2
        go_ret
        exact ⟨by rw [HAT.out, if_neg (by simp), if_neg HN.out]; rfl, (Below.refl _ _).alloc (Nat.le_refl _) _⟩
end Go.Proofs.YtegjeijiekggdaaGreatDoor
end
section
/- The document's disk: Read, take, Break, call. -/
namespace Go.Proofs.YtegjeijiekggdaaGreatDoor
open Go.RowKit
set_option linter.unusedVariables false
set_option maxHeartbeats 1000000 in
theorem refRead_any (A : Option Addr) (c : Nat) (r : Rk) (n : Int) (w : World) (hs : r.S.length ≤ 4096) (hr : RS w A r.S) : Calls Tryz.prog 86 #[rkV A c r, .int .i64 n] w fun e w' => e = .returned (.tuple #[.string (str (r.reads n)), .int .i64 (r.at n : Int)]) ∧ Below w.heap.size w w' := by
  have KA := Lib.hid (fun W => refAt_any A c r n W hs)
  obtain ⟨S, off, calls, after, done⟩ := r
  have hs : S.length ≤ 4096 := hs
  have hr : RS w A S := hr
  by_cases h0 : Rk.at ⟨S, off, calls, after, done⟩ n = 0
  · have HE := Lib.hid h0
    obtain ⟨hn0, hn1⟩ : 0 ≤ n ∧ n < (S.length : Int) := by
      unfold Rk.at at h0
      split at h0
      · cases h0
      · split at h0
        · cases h0
        · rename_i hh; have hh : ¬ (n < 0 ∨ (S.length : Int) ≤ n) := hh; omega
    obtain ⟨k, rfl⟩ := Int.eq_ofNat_of_zero_le hn0
    have hk : k < S.length := by omega
    obtain ⟨g, hA, hg, x1, x2, x3⟩ := hr.at_ (List.getElem?_eq_getElem hk)
    have HR := Lib.hid (show Rk.reads ⟨S, off, calls, after, done⟩ (k : Int) = S[k].has from by unfold Rk.reads; rw [if_pos h0]; simp [List.getElem?_eq_getElem hk])
    rw [h0] at KA
    subst hA
    unfold rkV at *
    have KA : Hid (∀ W, Calls Tryz.prog 131 #[.agg #[.slice (some ⟨g, 0, none⟩) S.length c, .bool off, .int .i64 calls, .int .i64 after, .bool done], .int .i64 (k : Int)] W fun e w' => e = .returned (.int .i64 ((0 : Nat) : Int)) ∧ Below W.heap.size W w') := KA
    show Calls Tryz.prog 86 #[.agg #[.slice (some ⟨g, 0, none⟩) S.length c, .bool off, .int .i64 calls, .int .i64 after, .bool done], .int .i64 (k : Int)] w _
    clear h0 hr x2 x3
    generalize S[k].has = y at *
    clear hk
    generalize S.length = N at *
    go_enter Tryz.func86, Tryz.ntmps86
    go_wp2_with fail
    refine (KA.out _).mono ?_
    rintro e w1 ⟨rfl, b1⟩
    have y1 : w1.cell? ⟨g, k * 3, none⟩ = some (.string (str y)) := (b1.cell (p := ⟨g, k * 3, none⟩) (by simp; omega)).trans ((World.cell?_alloc_lt w _ ⟨g, k * 3, none⟩ hg).trans x1)
    have y2 : w1.cell? ⟨w.heap.size, 0, none⟩ = some (.slice (some ⟨g, 0, none⟩) N c) := (b1.cell (p := ⟨w.heap.size, 0, none⟩) (by simp)).trans ((cell_of_row _ _ 0 _ _ _ (heap_alloc_last w _)).trans rfl)
    have B1 := Lib.hid (((Below.refl _ w).alloc (Nat.le_refl _) _).trans (b1.mono (by simp)))
    clear b1 x1 KA
    go_wp2
    go_ret2
    exact ⟨by rw [HR.out, HE.out]; rfl, B1.out⟩
  · have HR := Lib.hid (show Rk.reads ⟨S, off, calls, after, done⟩ n = [] from by unfold Rk.reads; rw [if_neg h0])
    have hb : (((Rk.at ⟨S, off, calls, after, done⟩ n : Nat) : Int) != 0) = true := by rw [bne_iff_ne]; omega
    generalize Rk.at ⟨S, off, calls, after, done⟩ n = q at *
    unfold rkV at *
    have KA : Hid (∀ W, Calls Tryz.prog 131 #[.agg #[.slice A S.length c, .bool off, .int .i64 calls, .int .i64 after, .bool done], .int .i64 n] W fun e w' => e = .returned (.int .i64 (q : Int)) ∧ Below W.heap.size W w') := KA
    show Calls Tryz.prog 86 #[.agg #[.slice A S.length c, .bool off, .int .i64 calls, .int .i64 after, .bool done], .int .i64 n] w _
    generalize S.length = N at *
    clear h0 hr
    go_enter Tryz.func86, Tryz.ntmps86
    go_wp2_with fail
    refine (KA.out _).mono ?_
    rintro e w1 ⟨rfl, b1⟩
    have B1 := Lib.hid (((Below.refl _ w).alloc (Nat.le_refl _) _).trans (b1.mono (by simp)))
    clear b1 KA
    go_wp2
    go_ret2
    exact ⟨by rw [HR.out]; rfl, B1.out⟩
def Rk.breakErr (r : Rk) (n : Int) : Nat := if r.off = true then 8 else if n < 0 then 2 else 0
def Rk.brk (r : Rk) (n : Int) (d : Bool) : Rk := if r.off = true ∨ n < 0 then r else { r with after := n, done := d }
set_option maxHeartbeats 1000000 in
theorem refBreak_any (A : Option Addr) (c : Nat) (r : Rk) (n : Int) (d : Bool) (w : World) : Calls Tryz.prog 98 #[rkV A c r, .int .i64 n, .bool d] w fun e w' => e = .returned (.tuple #[rkV A c (r.brk n d), .int .i64 (r.breakErr n : Int)]) ∧ Below w.heap.size w w' := by
  obtain ⟨S, off, calls, after, done⟩ := r
  have HE := Lib.hid (show Rk.breakErr ⟨S, off, calls, after, done⟩ n = if off = true then 8 else if n < 0 then 2 else 0 from rfl)
  have HB := Lib.hid (show Rk.brk ⟨S, off, calls, after, done⟩ n d = if off = true ∨ n < 0 then ⟨S, off, calls, after, done⟩ else ⟨S, off, calls, n, d⟩ from rfl)
  cases off with
  | true =>
    rw [if_pos rfl] at HE
    rw [if_pos (.inl rfl)] at HB
    show Calls Tryz.prog 98 #[.agg #[.slice A S.length c, .bool true, .int .i64 calls, .int .i64 after, .bool done], .int .i64 n, .bool d] w _
    go_enter Tryz.func98, Tryz.ntmps98
    go_wp2
    refine bodyPost_ret (v := .tuple #[.agg #[.slice A S.length c, .bool true, .int .i64 calls, .int .i64 after, .bool done], .int .i64 8]) (by simp [results, Tryz.results98, go_sem]) rfl ⟨?_, ?_⟩
    · rw [HE.out, HB.out]; rfl
    · exact ((Below.refl _ _).alloc (Nat.le_refl _) _).alloc (by simp) _
  | false =>
    by_cases h1 : n < 0
    · rw [if_neg (by simp), if_pos h1] at HE
      rw [if_pos (.inr h1)] at HB
      show Calls Tryz.prog 98 #[.agg #[.slice A S.length c, .bool false, .int .i64 calls, .int .i64 after, .bool done], .int .i64 n, .bool d] w _
      go_enter Tryz.func98, Tryz.ntmps98
      go_wp2
      refine bodyPost_ret (v := .tuple #[.agg #[.slice A S.length c, .bool false, .int .i64 calls, .int .i64 after, .bool done], .int .i64 2]) (by simp [results, Tryz.results98, go_sem]) rfl ⟨?_, ?_⟩
      · rw [HE.out, HB.out]; rfl
      · exact ((Below.refl _ _).alloc (Nat.le_refl _) _).alloc (by simp) _
    · rw [if_neg (by simp), if_neg h1] at HE
      rw [if_neg (by simp; omega)] at HB
      have h1' : 0 ≤ n := by omega
      show Calls Tryz.prog 98 #[.agg #[.slice A S.length c, .bool false, .int .i64 calls, .int .i64 after, .bool done], .int .i64 n, .bool d] w _
      go_enter Tryz.func98, Tryz.ntmps98
      go_wp2
      refine bodyPost_ret (v := .tuple #[.agg #[.slice A S.length c, .bool false, .int .i64 calls, .int .i64 n, .bool d], .int .i64 0]) (by simp [results, Tryz.results98, go_sem]) rfl ⟨?_, ?_⟩
      · rw [HE.out, HB.out]; rfl
      · repeat (first | exact Below.refl _ _ | refine Below.setCell ?_ (by simp <;> omega) _ | refine Below.alloc ?_ (by simp <;> omega) _)
def Rk.up (r : Rk) : Rk := { r with calls := r.calls + 1, after := if 0 ≤ r.after then r.after - 1 else r.after }
def Rk.callGoes (r : Rk) : Bool := decide (r.after ≠ 0) || r.done
def Rk.callErr (r : Rk) : Nat := if r.after = 0 then 8 else 0
def Rk.call (r t : Rk) : Rk := if r.after ≠ 0 then { t with calls := r.up.calls, after := r.up.after } else if r.done = true then { t with calls := r.up.calls, after := r.up.after, off := true } else { r.up with off := true }
def Rk.callV (r t : Rk) (A : Option Addr) (c : Nat) (A' : Option Addr) (c' : Nat) : Value := if r.callGoes = true then rkV A' c' (r.call t) else rkV A c (r.call t)
set_option maxHeartbeats 2000000 in
set_option maxRecDepth 100000 in
theorem refCall_any (A A' : Option Addr) (c c' : Nat) (r t : Rk) (w : World) (h0 : 0 ≤ r.calls) (h1 : r.calls ≤ 4611686018427387904) (h2 : -1 ≤ r.after) (h3 : r.after ≤ 9223372036854775807) :
    Calls Tryz.prog 141 #[rkV A c r, rkV A' c' t] w fun e w' => e = .returned (.tuple #[r.callV t A c A' c', .int .i64 (r.callErr : Int)]) ∧ Below w.heap.size w w' := by
  obtain ⟨S, off, calls, after, done⟩ := r
  obtain ⟨S', off', calls', after', done'⟩ := t
  have h0 : 0 ≤ calls := h0
  have h1 : calls ≤ 4611686018427387904 := h1
  have h2 : -1 ≤ after := h2
  have h3 : after ≤ 9223372036854775807 := h3
  show Calls Tryz.prog 141 #[.agg #[.slice A S.length c, .bool off, .int .i64 calls, .int .i64 after, .bool done], .agg #[.slice A' S'.length c', .bool off', .int .i64 calls', .int .i64 after', .bool done']] w _
  by_cases hz : after = 0
  · subst hz
    cases done with
    | true =>
      have HV := Lib.hid (show Rk.callV ⟨S, off, calls, 0, true⟩ ⟨S', off', calls', after', done'⟩ A c A' c' = .agg #[.slice A' S'.length c', .bool true, .int .i64 (calls + 1), .int .i64 (-1), .bool done'] from rfl)
      have HE := Lib.hid (show Rk.callErr ⟨S, off, calls, 0, true⟩ = 8 from rfl)
      go_enter Tryz.func141, Tryz.ntmps141
      go_wp2
      go_region
      all_goals
        go_wp2
        refine bodyPost_ret (v := .tuple #[.agg #[.slice A' S'.length c', .bool true, .int .i64 (calls + 1), .int .i64 (-1), .bool done'], .int .i64 8]) (by simp [results, Tryz.results141, go_sem]) rfl ⟨?_, ?_⟩
        · rw [HE.out, HV.out]; rfl
        · repeat (first | exact Below.refl _ _ | refine Below.drew ?_ | refine Below.setCell ?_ (by simp <;> omega) _ | refine Below.alloc ?_ (by simp <;> omega) _)
    | false =>
      have HV := Lib.hid (show Rk.callV ⟨S, off, calls, 0, false⟩ ⟨S', off', calls', after', done'⟩ A c A' c' = .agg #[.slice A S.length c, .bool true, .int .i64 (calls + 1), .int .i64 (-1), .bool false] from rfl)
      have HE := Lib.hid (show Rk.callErr ⟨S, off, calls, 0, false⟩ = 8 from rfl)
      go_enter Tryz.func141, Tryz.ntmps141
      go_wp2
      go_region
      all_goals
        go_wp2
        refine bodyPost_ret (v := .tuple #[.agg #[.slice A S.length c, .bool true, .int .i64 (calls + 1), .int .i64 (-1), .bool false], .int .i64 8]) (by simp [results, Tryz.results141, go_sem]) rfl ⟨?_, ?_⟩
        · rw [HE.out, HV.out]; rfl
        · repeat (first | exact Below.refl _ _ | refine Below.drew ?_ | refine Below.setCell ?_ (by simp <;> omega) _ | refine Below.alloc ?_ (by simp <;> omega) _)
  · have hg : Rk.callGoes ⟨S, off, calls, after, done⟩ = true := by simp [Rk.callGoes, hz]
    have hcl : Rk.call ⟨S, off, calls, after, done⟩ ⟨S', off', calls', after', done'⟩ = ⟨S', off', calls + 1, if 0 ≤ after then after - 1 else after, done'⟩ := by unfold Rk.call; rw [if_pos (show (⟨S, off, calls, after, done⟩ : Rk).after ≠ 0 from hz)]; rfl
    have HE := Lib.hid (show Rk.callErr ⟨S, off, calls, after, done⟩ = 0 from by unfold Rk.callErr; rw [if_neg hz])
    have hzb : (after == 0) = false := by simp [hz]
    by_cases hp : 0 ≤ after
    · have HV := Lib.hid (show Rk.callV ⟨S, off, calls, after, done⟩ ⟨S', off', calls', after', done'⟩ A c A' c' = .agg #[.slice A' S'.length c', .bool off', .int .i64 (calls + 1), .int .i64 (after - 1), .bool done'] from by unfold Rk.callV; rw [if_pos hg, hcl, if_pos hp]; rfl)
      have hp1 : 1 ≤ after := by omega
      clear hcl hg hz
      go_enter Tryz.func141, Tryz.ntmps141
      go_wp2
      go_region
      all_goals
        go_wp2
        refine bodyPost_ret (v := .tuple #[.agg #[.slice A' S'.length c', .bool off', .int .i64 (calls + 1), .int .i64 (after - 1), .bool done'], .int .i64 0]) (by simp [results, Tryz.results141, go_sem]) rfl ⟨?_, ?_⟩
        · rw [HE.out, HV.out]; rfl
        · repeat (first | exact Below.refl _ _ | refine Below.drew ?_ | refine Below.setCell ?_ (by simp <;> omega) _ | refine Below.alloc ?_ (by simp <;> omega) _)
    · have HV := Lib.hid (show Rk.callV ⟨S, off, calls, after, done⟩ ⟨S', off', calls', after', done'⟩ A c A' c' = .agg #[.slice A' S'.length c', .bool off', .int .i64 (calls + 1), .int .i64 after, .bool done'] from by unfold Rk.callV; rw [if_pos hg, hcl, if_neg hp]; rfl)
      have hp1 : after < 0 := by omega
      clear hcl hg hz
      go_enter Tryz.func141, Tryz.ntmps141
      go_wp2
      go_region
      all_goals
        go_wp2
        refine bodyPost_ret (v := .tuple #[.agg #[.slice A' S'.length c', .bool off', .int .i64 (calls + 1), .int .i64 after, .bool done'], .int .i64 0]) (by simp [results, Tryz.results141, go_sem]) rfl ⟨?_, ?_⟩
        · rw [HE.out, HV.out]; rfl
        · repeat (first | exact Below.refl _ _ | refine Below.drew ?_ | refine Below.setCell ?_ (by simp <;> omega) _ | refine Below.alloc ?_ (by simp <;> omega) _)
end Go.Proofs.YtegjeijiekggdaaGreatDoor
end
