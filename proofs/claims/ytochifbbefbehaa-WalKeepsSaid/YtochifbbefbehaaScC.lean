/- The package sector: a change that is counted, and done unless the power fails ahead of it. -/
import Derived.Test.YtochifbbefbehaaScB
namespace Go.Proofs.Ytochifbbefbehaa
open Go.RowKit
set_option linter.unusedVariables false

/-- What a call leaves, of which upd is the change. -/
def Dk.call (s : Dk) (upd : Dk → Dk) : Dk :=
  if s.fset = true ∧ s.left = 0 then { (if s.done = true then upd { s with calls := s.calls + 1 } else { s with calls := s.calls + 1 }) with off := true }
  else upd { s with calls := s.calls + 1, left := if s.fset = true then s.left - 1 else s.left }
def Dk.callErr (s : Dk) : Nat := if s.fset = true ∧ s.left = 0 then 8 else 0

set_option maxHeartbeats 1000000 in
theorem call_any {base : Nat} {F : Ft} {w : World} {s : Dk} (h : DkAt base F w s) (hcalls : s.calls < 4611686018427387904) (f : Nat) (cap : Array Value) (eg : ∀ args w, (callFunc f args).run Try.prog w = .ok (.enter f args) w)
    (X : Nat → Prop) (hX : X F.b) (upd : Dk → Dk)
    (hch : ∀ W t, Frm X w W → DkAt base F W t → t.rows = s.rows → t.wt = s.wt → t.calls = s.calls + 1 → Calls Try.prog f cap W fun e W' => e = .returned (.tuple #[]) ∧ DkAt base F W' (upd t) ∧ Frm X W W') :
    Calls Try.prog 54 #[.pointer (some ⟨F.b, 0, none⟩), .func (.func f) #[] cap] w fun e w' => e = .returned (.int .i64 (s.callErr : Int)) ∧ DkAt base F w' (s.call upd) ∧ Frm X w w' := by
  have c2 := h.c2; have c4 := h.c4; have c5 := h.c5; have c6 := h.c6
  have f2 := h.frozenAt 2; have f3 := h.frozenAt 3; have f5 := h.frozenAt 5
  have h1 : DkAt base F (w.setCell ⟨F.b, 2, none⟩ (.int .i64 ((s.calls : Int) + 1))) { s with calls := s.calls + 1 } := h.field 2 _ rfl rfl (by simp [dkCells]) h.ok.left
  have F1 : Frm X w (w.setCell ⟨F.b, 2, none⟩ (.int .i64 ((s.calls : Int) + 1))) := Frm.setCell _ _ _ hX
  have hc0 : 0 ≤ (s.calls : Int) := by omega
  have hc1 : (s.calls : Int) ≤ 4611686018427387904 := by omega
  have hl0 : 0 ≤ (s.left : Int) := by omega
  have hl1 : (s.left : Int) ≤ 9223372036854775807 := by have := h.ok.left; omega
  by_cases hb : s.fset = true
  · by_cases hz : s.left = 0
    · by_cases hd : s.done = true
      · have HC := Lib.hid (show s.call upd = { upd { s with calls := s.calls + 1 } with off := true } from by unfold Dk.call; rw [if_pos ⟨hb, hz⟩, if_pos hd])
        have HE := Lib.hid (show s.callErr = 8 from by unfold Dk.callErr; rw [if_pos ⟨hb, hz⟩])
        have Hch := Lib.hid (hch _ _ F1 h1 rfl rfl rfl)
        rw [hb] at c4; rw [hz] at c5; rw [hd] at c6
        have H := Lib.hid h
        have H1 := Lib.hid h1
        clear h h1 hch hb hz hd hl0 hl1
        go_enter Try.func54, Try.ntmps54
        go_wp2_with fail
        refine Hch.out.mono ?_
        rintro e w2 ⟨rfl, h2, F2⟩
        have c3' := h2.c3
        have f3' := h2.frozenAt 3
        go_wp2
        go_ret
        refine ⟨by rw [HE.out]; rfl, ?_, F1.trans (F2.trans (Frm.setCell _ _ _ hX))⟩
        rw [HC.out]
        exact h2.field 3 _ rfl rfl (by simp [dkCells]) h2.ok.left
      · have HC := Lib.hid (show s.call upd = { s with calls := s.calls + 1, off := true } from by unfold Dk.call; rw [if_pos ⟨hb, hz⟩, if_neg hd])
        have HE := Lib.hid (show s.callErr = 8 from by unfold Dk.callErr; rw [if_pos ⟨hb, hz⟩])
        rw [hb] at c4; rw [hz] at c5; rw [Bool.eq_false_iff.2 hd] at c6
        have c3 := h.c3
        have H1 := Lib.hid h1
        clear h h1 hch hb hz hd hl0 hl1
        go_enter Try.func54, Try.ntmps54
        go_wp2
        go_ret
        refine ⟨by rw [HE.out]; rfl, ?_, F1.trans (Frm.setCell _ _ _ hX)⟩
        rw [HC.out]
        exact H1.out.field 3 _ rfl rfl (by simp [dkCells]) H1.out.ok.left
    · have HC := Lib.hid (show s.call upd = upd { s with calls := s.calls + 1, left := s.left - 1 } from by unfold Dk.call; rw [if_neg (fun x => hz x.2), if_pos hb])
      have HE := Lib.hid (show s.callErr = 0 from by unfold Dk.callErr; rw [if_neg (fun x => hz x.2)])
      have h2 : DkAt base F ((w.setCell ⟨F.b, 2, none⟩ (.int .i64 ((s.calls : Int) + 1))).setCell ⟨F.b, 5, none⟩ (.int .i64 ((s.left : Int) - 1))) { s with calls := s.calls + 1, left := s.left - 1 } :=
        h1.field 5 _ rfl rfl (by simp [dkCells]; omega) (by have := h.ok.left; show s.left - 1 ≤ _; omega)
      have Hch := Lib.hid (hch _ _ (F1.trans (Frm.setCell _ _ _ hX)) h2 rfl rfl rfl)
      have hz' : ((s.left : Int) == 0) = false := by simp; omega
      have hz'' : 1 ≤ (s.left : Int) := by omega
      rw [hb] at c4
      clear h h1 h2 hch hb hz
      go_enter Try.func54, Try.ntmps54
      go_wp2_with fail
      refine Hch.out.mono ?_
      rintro e w2 ⟨rfl, h2, F2⟩
      go_wp2
      go_ret
      refine ⟨by rw [HE.out]; rfl, ?_, (F1.trans (Frm.setCell _ _ _ hX)).trans F2⟩
      rw [HC.out]
      exact h2
  · have HC := Lib.hid (show s.call upd = upd { s with calls := s.calls + 1 } from by unfold Dk.call; rw [if_neg (fun x => hb x.1), if_neg hb])
    have HE := Lib.hid (show s.callErr = 0 from by unfold Dk.callErr; rw [if_neg (fun x => hb x.1)])
    have Hch := Lib.hid (hch _ _ F1 h1 rfl rfl rfl)
    rw [Bool.eq_false_iff.2 hb] at c4
    clear h h1 hch hb
    go_enter Try.func54, Try.ntmps54
    go_wp2_with fail
    refine Hch.out.mono ?_
    rintro e w2 ⟨rfl, h2, F2⟩
    go_wp2
    go_ret
    refine ⟨by rw [HE.out]; rfl, ?_, F1.trans F2⟩
    rw [HC.out]
    exact h2
end Go.Proofs.Ytochifbbefbehaa
