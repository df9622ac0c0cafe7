/- The package sector: what calls leave, while no failure is to come (plain). -/
import Derived.Test.YtgnoodafaofkiaaScS
namespace Go.Proofs.Ytgnoodafaofkiaa
open Go.RowKit
set_option linter.unusedVariables false
/-- A disk of N sectors whose power is on, with no failure to come. -/
structure Good (s : Dk) (N : Nat) : Prop where
  len : s.rows.length = N
  off : s.off = false
  fset : s.fset = false
theorem good_new (N : Nat) (h : N ≤ 4096) : Good (Dk.new N) N := ⟨by
  show (List.replicate (min (max (N : Int) 0) 4096).toNat zeros).length = N
  rw [List.length_replicate]
  omega, rfl, rfl⟩
theorem Good.fault0 {s : Dk} {N : Nat} (h : Good s N) {n : Nat} (hn : n < N) : s.faultAt (n : Int) = 0 := by
  unfold Dk.faultAt
  rw [h.off, h.len, if_neg (by simp), if_neg (by omega)]
theorem Good.fault9 {s : Dk} {N : Nat} (h : Good s N) {n : Int} (hn : n < 0 ∨ (N : Int) ≤ n) : s.faultAt n = 9 := by
  unfold Dk.faultAt
  rw [h.off, h.len, if_neg (by simp), if_pos hn]
theorem Good.call {s : Dk} {N : Nat} (h : Good s N) (upd : Dk → Dk) : s.call upd = upd { s with calls := s.calls + 1 } := by
  unfold Dk.call
  rw [h.fset, if_neg (by simp), if_neg (by simp)]
theorem Good.callErr {s : Dk} {N : Nat} (h : Good s N) : s.callErr = 0 := by
  unfold Dk.callErr
  rw [h.fset, if_neg (by simp)]
theorem Good.write {s : Dk} {N : Nat} (h : Good s N) {n : Nat} (hn : n < N) {l : List UInt8} (hl : l.length = 256) : s.write (n : Int) l = ({ s with calls := s.calls + 1 } : Dk).put n l ∧ s.writeErr (n : Int) l = 0 := by
  have h0 := h.fault0 hn
  unfold Dk.write Dk.writeErr
  rw [h0, if_neg (by omega), if_neg (by omega), if_neg (by omega), h.call, h.callErr]
  exact ⟨rfl, rfl⟩
theorem Good.writeNo {s : Dk} {N : Nat} (h : Good s N) {n : Int} (hn : n < 0 ∨ (N : Int) ≤ n) (l : List UInt8) : s.write n l = s := by
  unfold Dk.write
  rw [h.fault9 hn, if_pos (.inl (by omega))]
theorem Good.ofWrite {s : Dk} {N : Nat} (h : Good s N) (n : Int) {l : List UInt8} (hl : l.length = 256) : Good (s.write n l) N ∧ (s.write n l).calls ≤ s.calls + 1 := by
  by_cases hn : n < 0 ∨ (N : Int) ≤ n
  · rw [h.writeNo hn]; exact ⟨h, by omega⟩
  · obtain ⟨k, rfl⟩ := Int.eq_ofNat_of_zero_le (show 0 ≤ n by omega)
    rw [(h.write (n := k) (by omega) hl).1]
    exact ⟨⟨h.len, h.off, h.fset⟩, Nat.le_refl _⟩
theorem Good.sync {s : Dk} {N : Nat} (h : Good s N) : s.sync = ({ s with calls := s.calls + 1 } : Dk).synced ∧ s.syncErr = 0 := by
  have h0 : ¬ s.off = true := by rw [h.off]; simp
  unfold Dk.sync Dk.syncErr
  rw [if_neg h0, if_neg h0, h.call, h.callErr]
  exact ⟨rfl, rfl⟩
theorem Good.ofSync {s : Dk} {N : Nat} (h : Good s N) : Good s.sync N := by
  rw [h.sync.1]
  refine ⟨?_, h.off, h.fset⟩
  show ((List.range s.rows.length).map _).length = N
  rw [List.length_map, List.length_range, h.len]
theorem Good.ofPower {s : Dk} {N : Nat} (h : Good s N) (f : List UInt8) : Good (s.power f) N := by
  refine ⟨?_, rfl, rfl⟩
  show (powerGo s.wt s.waits (s.rows, f)).1.length = N
  rw [powerGo_length]
  exact h.len
theorem put_at (s : Dk) (n : Nat) (l : List UInt8) (i : Nat) : (s.put n l).at_ i = if i = n then l else s.at_ i := by
  unfold Dk.at_ Dk.put
  show (if i = n then some l else s.wt i).getD _ = _
  split <;> rfl
theorem synced_at (s : Dk) (i : Nat) (h : i < s.rows.length) : s.synced.at_ i = s.at_ i := by
  unfold Dk.synced
  show Option.getD none (((List.range s.rows.length).map s.at_).getD i []) = _
  simp [h]
theorem keysOf_none (N : Nat) : keysOf (fun _ => none) N = [] := by simp [keysOf]
theorem power_synced_at (s : Dk) (f : List UInt8) (i : Nat) : (s.synced.power f).at_ i = s.synced.at_ i := by
  have hw : s.synced.waits = [] := keysOf_none _
  unfold Dk.power
  rw [hw]
  rfl
/-- Behind a Write, a Sync and a loss of power. -/
theorem Good.three {s : Dk} {N : Nat} (h : Good s N) {n : Nat} (hn : n < N) {l : List UInt8} (hl : l.length = 256) (f : List UInt8) :
    (∀ i, i < N → ((s.write (n : Int) l).sync.power f).at_ i = if i = n then l else s.at_ i) ∧ ((s.write (n : Int) l).sync.power f).calls = s.calls + 2 ∧ Good ((s.write (n : Int) l).sync.power f) N := by
  have h1 := (h.ofWrite (n : Int) hl).1
  refine ⟨fun i hi => ?_, ?_, (h1.ofSync).ofPower f⟩
  · rw [h1.sync.1, power_synced_at, synced_at _ _ (by show i < (s.write (n : Int) l).rows.length; rw [h1.len]; exact hi)]
    rw [(h.write hn hl).1]
    have : ({ ({ s with calls := s.calls + 1 } : Dk).put n l with calls := (({ s with calls := s.calls + 1 } : Dk).put n l).calls + 1 } : Dk).at_ i = (s.put n l).at_ i := rfl
    rw [this, put_at]
  · rw [h1.sync.1, (h.write hn hl).1]
    rfl
theorem Good.reads {s : Dk} {N : Nat} (h : Good s N) {n : Nat} (hn : n < N) : s.reads (n : Int) = s.at_ n := by
  unfold Dk.reads
  rw [if_pos (h.fault0 hn)]
  rfl
end Go.Proofs.Ytgnoodafaofkiaa
