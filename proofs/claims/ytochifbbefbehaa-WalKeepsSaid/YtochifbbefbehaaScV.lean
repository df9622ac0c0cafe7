/- The package sector, plain: what a call that may fail, a write, a sync and a loss of power leave. -/
import Derived.Test.YtochifbbefbehaaScU
namespace Go.Proofs.Ytochifbbefbehaa
set_option linter.unusedVariables false
set_option linter.unusedSimpArgs false
theorem dkAt_none {d : Dk} {i : Nat} (h : d.wt i = none) : d.at_ i = d.rows.getD i [] := by
  unfold Dk.at_
  rw [h]
  rfl
theorem Dk.powerNone {d : Dk} (h : d.Ok) (f : List UInt8) {i : Nat} (hi : i < d.rows.length) (hw : d.wt i = none) : (d.power f).rows.getD i [] = d.rows.getD i [] := by
  obtain ⟨k, _, e⟩ := d.power_at h f hi
  rw [dkAt_none hw, List.take_append_drop] at e
  exact e
theorem dkPower_len (d : Dk) (f : List UInt8) : (d.power f).rows.length = d.rows.length := by
  show (powerGo d.wt d.waits (d.rows, f)).1.length = _
  rw [powerGo_length]
theorem dkCall_ok {d : Dk} (upd : Dk → Dk) (h : d.callErr = 0) : d.call upd = upd { d with calls := d.calls + 1, left := if d.fset = true then d.left - 1 else d.left } := by
  unfold Dk.callErr at h
  unfold Dk.call
  split at h
  · cases h
  · rename_i hc
    rw [if_neg hc]
theorem dkCall_no {d : Dk} (upd : Dk → Dk) (h : d.callErr ≠ 0) : d.callErr = 8 ∧ d.call upd = { (if d.done = true then upd { d with calls := d.calls + 1 } else { d with calls := d.calls + 1 }) with off := true } := by
  unfold Dk.callErr at h ⊢
  unfold Dk.call
  split at h
  · rename_i hc
    rw [if_pos hc, if_pos hc]
    exact ⟨rfl, rfl⟩
  · exact absurd rfl h
theorem dkRow_synced (d : Dk) (c l : Nat) {i : Nat} (h : i < d.rows.length) : (({ d with calls := c, left := l } : Dk).synced).rows.getD i [] = d.at_ i := synced_at ({ d with calls := c, left := l } : Dk) i h
theorem dkLen_synced (d : Dk) : d.synced.rows.length = d.rows.length := by
  show ((List.range d.rows.length).map _).length = _
  simp
/-- What a Sync leaves. -/
structure DkSy (d d' : Dk) : Prop where
  len : d'.rows.length = d.rows.length
  wt : ∀ i, d'.wt i = none
  row : ∀ i, i < d.rows.length → d'.rows.getD i [] = d.at_ i
theorem dkSync_is {d : Dk} (ho : d.off = false) : (d.syncErr = 0 ∧ d.sync.off = false ∧ DkSy d d.sync) ∨ (d.syncErr = 8 ∧ d.sync.off = true ∧ (DkSy d d.sync ∨ (d.sync.rows = d.rows ∧ d.sync.wt = d.wt))) := by
  have h0 : ¬ d.off = true := by rw [ho]; simp
  unfold Dk.syncErr Dk.sync
  rw [if_neg h0, if_neg h0]
  by_cases hc : d.callErr = 0
  · left
    rw [dkCall_ok _ hc]
    exact ⟨hc, ho, ⟨dkLen_synced _, fun _ => rfl, fun i hi => dkRow_synced d _ _ hi⟩⟩
  · right
    obtain ⟨e1, e2⟩ := dkCall_no Dk.synced hc
    rw [e2]
    refine ⟨e1, rfl, ?_⟩
    cases hd : d.done
    · right; rw [if_neg (by simp)]; exact ⟨rfl, rfl⟩
    · left; rw [if_pos rfl]; exact ⟨dkLen_synced _, fun _ => rfl, fun i hi => dkRow_synced d (d.calls + 1) d.left hi⟩
theorem dkWrite_is {d : Dk} (ho : d.off = false) {n : Nat} (hn : n < d.rows.length) {l : List UInt8} (hl : l.length = 256) :
    (d.write (n : Int) l).rows = d.rows ∧ ((d.writeErr (n : Int) l = 0 ∧ (d.write (n : Int) l).off = false ∧ ∀ i, (d.write (n : Int) l).wt i = if i = n then some l else d.wt i) ∨
      (d.writeErr (n : Int) l = 8 ∧ (d.write (n : Int) l).off = true ∧ ∀ i, (d.write (n : Int) l).wt i = d.wt i ∨ (i = n ∧ (d.write (n : Int) l).wt i = some l))) := by
  have hf : d.faultAt (n : Int) = 0 := by
    unfold Dk.faultAt
    rw [ho, if_neg (by simp), if_neg (by omega)]
  unfold Dk.write Dk.writeErr
  rw [hf, if_neg (by omega), if_neg (by omega), if_neg (by omega), Int.toNat_natCast]
  by_cases hc : d.callErr = 0
  · rw [dkCall_ok _ hc]
    exact ⟨rfl, .inl ⟨hc, ho, fun i => rfl⟩⟩
  · obtain ⟨e1, e2⟩ := dkCall_no (fun t => t.put n l) hc
    rw [e2]
    cases hd : d.done
    · rw [if_neg (by simp)]
      exact ⟨rfl, .inr ⟨e1, rfl, fun i => .inl rfl⟩⟩
    · rw [if_pos rfl]
      refine ⟨rfl, .inr ⟨e1, rfl, fun i => ?_⟩⟩
      show (if i = n then some l else d.wt i) = _ ∨ (_ ∧ (if i = n then some l else d.wt i) = _)
      by_cases hi : i = n
      · rw [if_pos hi]; exact .inr ⟨hi, rfl⟩
      · rw [if_neg hi]; exact .inl rfl
end Go.Proofs.Ytochifbbefbehaa
