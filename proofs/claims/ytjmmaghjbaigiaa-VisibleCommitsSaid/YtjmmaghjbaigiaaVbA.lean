/- What a snapshot sees: the program's waitsFor and committedBy. -/
import Derived.Test.YtjmmaghjbaigiaaVbP
import Derived.Test.YtjmmaghjbaigiaaVsM
import Derived.Deep.CutBlock
import Derived.Deep.DeepMust
namespace Go.Proofs.Ytjmmaghjbaigiaa
open Go.RowKit
set_option linter.unusedVariables false
set_option linter.unusedSimpArgs false
def vbWaits (me : Int) (v : Vn) : Bool := decide (0 ≤ me) && vsPend me v
theorem vbWhich_none {l : List Vn} {me t b : Int} (h : ∀ (j : Nat) (v : Vn), j < l.length → l[j]? = some v → vbWaits me v = false) (hb : VbBest l t 0 l.length b) : vbWhich l me t = b := by
  unfold vbWhich
  rw [vbBest_of hb, if_neg]
  rintro ⟨h1, h2⟩
  have h3 := h _ _ h2 (List.getElem?_eq_getElem h2)
  rw [vbWaits, vsAt_spec h2, decide_eq_true h1] at h3
  simp at h3
theorem vbWhich_found {l : List Vn} {me : Int} {k : Nat} {x : Vn} (t : Int) (h : ∀ (j : Nat) (v : Vn), j < k → l[j]? = some v → vbWaits me v = false) (hx : l[k]? = some x) (hw : vbWaits me x = true) : vbWhich l me t = (k : Int) := by
  unfold vbWaits at hw
  simp only [Bool.and_eq_true, decide_eq_true_eq] at hw
  obtain ⟨h0, hp⟩ := hw
  obtain ⟨hk, e⟩ := List.getElem?_eq_some_iff.1 hx
  have hle : vsAt l me ≤ k := by
    rcases Nat.lt_or_ge k (vsAt l me) with h1 | h1
    · have := vsAt_not h1 hk
      rw [e, hp] at this
      cases this
    · exact h1
  have hlt : vsAt l me < l.length := by omega
  have hge : ¬ vsAt l me < k := fun h1 => by
    have := h _ _ h1 (List.getElem?_eq_getElem hlt)
    rw [vbWaits, vsAt_spec hlt, decide_eq_true h0] at this
    cases this
  unfold vbWhich
  rw [if_pos ⟨h0, hlt⟩]
  omega
set_option maxHeartbeats 1000000 in
theorem vbWaits_any (v : Vn) (me : Int) (w : World) : Calls Try.prog 69 #[v.v, .int .i64 me] w fun e w' => e = .returned (.bool (vbWaits me v)) ∧ Below w.heap.size w w' := by
  have hb := Lib.hid (below1 w (.cells #[.int .i64 v.txn, .int .i64 v.ts, .bool v.gone, .string v.val] 66))
  have e1 : (v.ts == 0) = decide (v.ts = 0) := by rw [Bool.eq_iff_iff]; simp
  have e2 : (v.txn == me) = decide (v.txn = me) := by rw [Bool.eq_iff_iff]; simp
  unfold Vn.v vbWaits vsPend
  generalize decide (v.txn = me) = d2 at e2 ⊢
  generalize decide (v.ts = 0) = d1 at e1 ⊢
  by_cases h0 : 0 ≤ me
  · have HD := Lib.hid (decide_eq_true h0)
    cases d1 <;> cases d2
    all_goals
      go_enter Try.func69, Try.ntmps69
      go_wp2
      go_ret
      rw [HD.out]
      exact ⟨rfl, hb.out⟩
  · have HD := Lib.hid (decide_eq_false h0)
    go_enter Try.func69, Try.ntmps69
    go_wp2
    go_ret
    rw [HD.out]
    exact ⟨rfl, hb.out⟩
set_option maxHeartbeats 1000000 in
theorem vbComm_any (v : Vn) (t : Int) (w : World) : Calls Try.prog 68 #[v.v, .int .i64 t] w fun e w' => e = .returned (.bool (vsOld t v)) ∧ Below w.heap.size w w' := by
  have hb := Lib.hid (below1 w (.cells #[.int .i64 v.txn, .int .i64 v.ts, .bool v.gone, .string v.val] 66))
  unfold Vn.v vsOld
  by_cases h0 : 1 ≤ v.ts
  · have HD := Lib.hid (decide_eq_true h0)
    go_enter Try.func68, Try.ntmps68
    go_wp2
    go_ret
    rw [HD.out]
    exact ⟨rfl, hb.out⟩
  · have HD := Lib.hid (decide_eq_false h0)
    go_enter Try.func68, Try.ntmps68
    go_wp2
    go_ret
    rw [HD.out]
    exact ⟨rfl, hb.out⟩
end Go.Proofs.Ytjmmaghjbaigiaa
