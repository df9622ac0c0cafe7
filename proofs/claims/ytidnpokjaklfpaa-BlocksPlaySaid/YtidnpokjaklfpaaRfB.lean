/- The document's disk: Read, take, Break, call. -/
import Derived.Test.YtidnpokjaklfpaaRfA
import Derived.RegionTactic
import Derived.Deep.QuietTactic
import Derived.BigQuiet
namespace Go.Proofs.Ytidnpokjaklfpaa
open Go.RowKit
set_option linter.unusedVariables false
set_option maxHeartbeats 1000000 in
theorem refRead_any (A : Option Addr) (c : Nat) (r : Rk) (n : Int) (w : World) (hs : r.S.length ≤ 4096) (hr : RS w A r.S) : Calls Try.prog 42 #[rkV A c r, .int .i64 n] w fun e w' => e = .returned (.tuple #[.string (str (r.reads n)), .int .i64 (r.at n : Int)]) ∧ Below w.heap.size w w' := by
  have KA := Lib.hid (fun W => refAt_any A c r n W hs)
  obtain ⟨S, off, calls, after, done⟩ := r
  have hs : S.length ≤ 4096 := hs
  have hr : RS w A S := hr
  by_cases h0 : Rk.at ⟨S, off, calls, after, done⟩ n = 0
  · have HE := Lib.hid h0
    obtain ⟨hn0, hn1⟩ : 0 ≤ n ∧ n < (S.length : Int) := by
      unfold Rk.at at h0
      split at h0
      · cases h0
      · split at h0
        · cases h0
        · rename_i hh; have hh : ¬ (n < 0 ∨ (S.length : Int) ≤ n) := hh; omega
    obtain ⟨k, rfl⟩ := Int.eq_ofNat_of_zero_le hn0
    have hk : k < S.length := by omega
    obtain ⟨g, hA, hg, x1, x2, x3⟩ := hr.at_ (List.getElem?_eq_getElem hk)
    have HR := Lib.hid (show Rk.reads ⟨S, off, calls, after, done⟩ (k : Int) = S[k].has from by unfold Rk.reads; rw [if_pos h0]; simp [List.getElem?_eq_getElem hk])
    rw [h0] at KA
    subst hA
    unfold rkV at *
    have KA : Hid (∀ W, Calls Try.prog 66 #[.agg #[.slice (some ⟨g, 0, none⟩) S.length c, .bool off, .int .i64 calls, .int .i64 after, .bool done], .int .i64 (k : Int)] W fun e w' => e = .returned (.int .i64 ((0 : Nat) : Int)) ∧ Below W.heap.size W w') := KA
    show Calls Try.prog 42 #[.agg #[.slice (some ⟨g, 0, none⟩) S.length c, .bool off, .int .i64 calls, .int .i64 after, .bool done], .int .i64 (k : Int)] w _
    clear h0 hr x2 x3
    generalize S[k].has = y at *
    clear hk
    generalize S.length = N at *
    go_enter Try.func42, Try.ntmps42
    go_wp2_with fail
    refine (KA.out _).mono ?_
    rintro e w1 ⟨rfl, b1⟩
    have y1 : w1.cell? ⟨g, k * 3, none⟩ = some (.string (str y)) := (b1.cell (p := ⟨g, k * 3, none⟩) (by simp; omega)).trans ((World.cell?_alloc_lt w _ ⟨g, k * 3, none⟩ hg).trans x1)
    have y2 : w1.cell? ⟨w.heap.size, 0, none⟩ = some (.slice (some ⟨g, 0, none⟩) N c) := (b1.cell (p := ⟨w.heap.size, 0, none⟩) (by simp)).trans ((cell_of_row _ _ 0 _ _ _ (heap_alloc_last w _)).trans rfl)
    have B1 := Lib.hid (((Below.refl _ w).alloc (Nat.le_refl _) _).trans (b1.mono (by simp)))
    clear b1 x1 KA
    go_wp2
    go_ret2
    exact ⟨by rw [HR.out, HE.out]; rfl, B1.out⟩
  · have HR := Lib.hid (show Rk.reads ⟨S, off, calls, after, done⟩ n = [] from by unfold Rk.reads; rw [if_neg h0])
    have hb : (((Rk.at ⟨S, off, calls, after, done⟩ n : Nat) : Int) != 0) = true := by rw [bne_iff_ne]; omega
    generalize Rk.at ⟨S, off, calls, after, done⟩ n = q at *
    unfold rkV at *
    have KA : Hid (∀ W, Calls Try.prog 66 #[.agg #[.slice A S.length c, .bool off, .int .i64 calls, .int .i64 after, .bool done], .int .i64 n] W fun e w' => e = .returned (.int .i64 (q : Int)) ∧ Below W.heap.size W w') := KA
    show Calls Try.prog 42 #[.agg #[.slice A S.length c, .bool off, .int .i64 calls, .int .i64 after, .bool done], .int .i64 n] w _
    generalize S.length = N at *
    clear h0 hr
    go_enter Try.func42, Try.ntmps42
    go_wp2_with fail
    refine (KA.out _).mono ?_
    rintro e w1 ⟨rfl, b1⟩
    have B1 := Lib.hid (((Below.refl _ w).alloc (Nat.le_refl _) _).trans (b1.mono (by simp)))
    clear b1 KA
    go_wp2
    go_ret2
    exact ⟨by rw [HR.out]; rfl, B1.out⟩
def Rk.breakErr (r : Rk) (n : Int) : Nat := if r.off = true then 8 else if n < 0 then 2 else 0
def Rk.brk (r : Rk) (n : Int) (d : Bool) : Rk := if r.off = true ∨ n < 0 then r else { r with after := n, done := d }
set_option maxHeartbeats 1000000 in
theorem refBreak_any (A : Option Addr) (c : Nat) (r : Rk) (n : Int) (d : Bool) (w : World) : Calls Try.prog 38 #[rkV A c r, .int .i64 n, .bool d] w fun e w' => e = .returned (.tuple #[rkV A c (r.brk n d), .int .i64 (r.breakErr n : Int)]) ∧ Below w.heap.size w w' := by
  obtain ⟨S, off, calls, after, done⟩ := r
  have HE := Lib.hid (show Rk.breakErr ⟨S, off, calls, after, done⟩ n = if off = true then 8 else if n < 0 then 2 else 0 from rfl)
  have HB := Lib.hid (show Rk.brk ⟨S, off, calls, after, done⟩ n d = if off = true ∨ n < 0 then ⟨S, off, calls, after, done⟩ else ⟨S, off, calls, n, d⟩ from rfl)
  cases off with
  | true =>
    rw [if_pos rfl] at HE
    rw [if_pos (.inl rfl)] at HB
    show Calls Try.prog 38 #[.agg #[.slice A S.length c, .bool true, .int .i64 calls, .int .i64 after, .bool done], .int .i64 n, .bool d] w _
    go_enter Try.func38, Try.ntmps38
    go_wp2
    refine bodyPost_ret (v := .tuple #[.agg #[.slice A S.length c, .bool true, .int .i64 calls, .int .i64 after, .bool done], .int .i64 8]) (by simp [results, Try.results38, go_sem]) rfl ⟨?_, ?_⟩
    · rw [HE.out, HB.out]; rfl
    · exact ((Below.refl _ _).alloc (Nat.le_refl _) _).alloc (by simp) _
  | false =>
    by_cases h1 : n < 0
    · rw [if_neg (by simp), if_pos h1] at HE
      rw [if_pos (.inr h1)] at HB
      show Calls Try.prog 38 #[.agg #[.slice A S.length c, .bool false, .int .i64 calls, .int .i64 after, .bool done], .int .i64 n, .bool d] w _
      go_enter Try.func38, Try.ntmps38
      go_wp2
      refine bodyPost_ret (v := .tuple #[.agg #[.slice A S.length c, .bool false, .int .i64 calls, .int .i64 after, .bool done], .int .i64 2]) (by simp [results, Try.results38, go_sem]) rfl ⟨?_, ?_⟩
      · rw [HE.out, HB.out]; rfl
      · exact ((Below.refl _ _).alloc (Nat.le_refl _) _).alloc (by simp) _
    · rw [if_neg (by simp), if_neg h1] at HE
      rw [if_neg (by simp; omega)] at HB
      have h1' : 0 ≤ n := by omega
      show Calls Try.prog 38 #[.agg #[.slice A S.length c, .bool false, .int .i64 calls, .int .i64 after, .bool done], .int .i64 n, .bool d] w _
      go_enter Try.func38, Try.ntmps38
      go_wp2
      refine bodyPost_ret (v := .tuple #[.agg #[.slice A S.length c, .bool false, .int .i64 calls, .int .i64 n, .bool d], .int .i64 0]) (by simp [results, Try.results38, go_sem]) rfl ⟨?_, ?_⟩
      · rw [HE.out, HB.out]; rfl
      · repeat (first | exact Below.refl _ _ | refine Below.setCell ?_ (by simp <;> omega) _ | refine Below.alloc ?_ (by simp <;> omega) _)
def Rk.up (r : Rk) : Rk := { r with calls := r.calls + 1, after := if 0 ≤ r.after then r.after - 1 else r.after }
def Rk.callGoes (r : Rk) : Bool := decide (r.after ≠ 0) || r.done
def Rk.callErr (r : Rk) : Nat := if r.after = 0 then 8 else 0
def Rk.call (r t : Rk) : Rk := if r.after ≠ 0 then { t with calls := r.up.calls, after := r.up.after } else if r.done = true then { t with calls := r.up.calls, after := r.up.after, off := true } else { r.up with off := true }
def Rk.callV (r t : Rk) (A : Option Addr) (c : Nat) (A' : Option Addr) (c' : Nat) : Value := if r.callGoes = true then rkV A' c' (r.call t) else rkV A c (r.call t)
set_option maxHeartbeats 2000000 in
set_option maxRecDepth 100000 in
theorem refCall_any (A A' : Option Addr) (c c' : Nat) (r t : Rk) (w : World) (h0 : 0 ≤ r.calls) (h1 : r.calls ≤ 4611686018427387904) (h2 : -1 ≤ r.after) (h3 : r.after ≤ 9223372036854775807) :
    Calls Try.prog 62 #[rkV A c r, rkV A' c' t] w fun e w' => e = .returned (.tuple #[r.callV t A c A' c', .int .i64 (r.callErr : Int)]) ∧ Below w.heap.size w w' := by
  obtain ⟨S, off, calls, after, done⟩ := r
  obtain ⟨S', off', calls', after', done'⟩ := t
  have h0 : 0 ≤ calls := h0
  have h1 : calls ≤ 4611686018427387904 := h1
  have h2 : -1 ≤ after := h2
  have h3 : after ≤ 9223372036854775807 := h3
  show Calls Try.prog 62 #[.agg #[.slice A S.length c, .bool off, .int .i64 calls, .int .i64 after, .bool done], .agg #[.slice A' S'.length c', .bool off', .int .i64 calls', .int .i64 after', .bool done']] w _
  by_cases hz : after = 0
  · subst hz
    cases done with
    | true =>
      have HV := Lib.hid (show Rk.callV ⟨S, off, calls, 0, true⟩ ⟨S', off', calls', after', done'⟩ A c A' c' = .agg #[.slice A' S'.length c', .bool true, .int .i64 (calls + 1), .int .i64 (-1), .bool done'] from rfl)
      have HE := Lib.hid (show Rk.callErr ⟨S, off, calls, 0, true⟩ = 8 from rfl)
      go_enter Try.func62, Try.ntmps62
      go_wp2
      go_region
      all_goals
        go_wp2
        refine bodyPost_ret (v := .tuple #[.agg #[.slice A' S'.length c', .bool true, .int .i64 (calls + 1), .int .i64 (-1), .bool done'], .int .i64 8]) (by simp [results, Try.results62, go_sem]) rfl ⟨?_, ?_⟩
        · rw [HE.out, HV.out]; rfl
        · repeat (first | exact Below.refl _ _ | refine Below.drew ?_ | refine Below.setCell ?_ (by simp <;> omega) _ | refine Below.alloc ?_ (by simp <;> omega) _)
    | false =>
      have HV := Lib.hid (show Rk.callV ⟨S, off, calls, 0, false⟩ ⟨S', off', calls', after', done'⟩ A c A' c' = .agg #[.slice A S.length c, .bool true, .int .i64 (calls + 1), .int .i64 (-1), .bool false] from rfl)
      have HE := Lib.hid (show Rk.callErr ⟨S, off, calls, 0, false⟩ = 8 from rfl)
      go_enter Try.func62, Try.ntmps62
      go_wp2
      go_region
      all_goals
        go_wp2
        refine bodyPost_ret (v := .tuple #[.agg #[.slice A S.length c, .bool true, .int .i64 (calls + 1), .int .i64 (-1), .bool false], .int .i64 8]) (by simp [results, Try.results62, go_sem]) rfl ⟨?_, ?_⟩
        · rw [HE.out, HV.out]; rfl
        · repeat (first | exact Below.refl _ _ | refine Below.drew ?_ | refine Below.setCell ?_ (by simp <;> omega) _ | refine Below.alloc ?_ (by simp <;> omega) _)
  · have hg : Rk.callGoes ⟨S, off, calls, after, done⟩ = true := by simp [Rk.callGoes, hz]
    have hcl : Rk.call ⟨S, off, calls, after, done⟩ ⟨S', off', calls', after', done'⟩ = ⟨S', off', calls + 1, if 0 ≤ after then after - 1 else after, done'⟩ := by unfold Rk.call; rw [if_pos (show (⟨S, off, calls, after, done⟩ : Rk).after ≠ 0 from hz)]; rfl
    have HE := Lib.hid (show Rk.callErr ⟨S, off, calls, after, done⟩ = 0 from by unfold Rk.callErr; rw [if_neg hz])
    have hzb : (after == 0) = false := by simp [hz]
    by_cases hp : 0 ≤ after
    · have HV := Lib.hid (show Rk.callV ⟨S, off, calls, after, done⟩ ⟨S', off', calls', after', done'⟩ A c A' c' = .agg #[.slice A' S'.length c', .bool off', .int .i64 (calls + 1), .int .i64 (after - 1), .bool done'] from by unfold Rk.callV; rw [if_pos hg, hcl, if_pos hp]; rfl)
      have hp1 : 1 ≤ after := by omega
      clear hcl hg hz
      go_enter Try.func62, Try.ntmps62
      go_wp2
      go_region
      all_goals
        go_wp2
        refine bodyPost_ret (v := .tuple #[.agg #[.slice A' S'.length c', .bool off', .int .i64 (calls + 1), .int .i64 (after - 1), .bool done'], .int .i64 0]) (by simp [results, Try.results62, go_sem]) rfl ⟨?_, ?_⟩
        · rw [HE.out, HV.out]; rfl
        · repeat (first | exact Below.refl _ _ | refine Below.drew ?_ | refine Below.setCell ?_ (by simp <;> omega) _ | refine Below.alloc ?_ (by simp <;> omega) _)
    · have HV := Lib.hid (show Rk.callV ⟨S, off, calls, after, done⟩ ⟨S', off', calls', after', done'⟩ A c A' c' = .agg #[.slice A' S'.length c', .bool off', .int .i64 (calls + 1), .int .i64 after, .bool done'] from by unfold Rk.callV; rw [if_pos hg, hcl, if_neg hp]; rfl)
      have hp1 : after < 0 := by omega
      clear hcl hg hz
      go_enter Try.func62, Try.ntmps62
      go_wp2
      go_region
      all_goals
        go_wp2
        refine bodyPost_ret (v := .tuple #[.agg #[.slice A' S'.length c', .bool off', .int .i64 (calls + 1), .int .i64 after, .bool done'], .int .i64 0]) (by simp [results, Try.results62, go_sem]) rfl ⟨?_, ?_⟩
        · rw [HE.out, HV.out]; rfl
        · repeat (first | exact Below.refl _ _ | refine Below.drew ?_ | refine Below.setCell ?_ (by simp <;> omega) _ | refine Below.alloc ?_ (by simp <;> omega) _)
end Go.Proofs.Ytidnpokjaklfpaa
