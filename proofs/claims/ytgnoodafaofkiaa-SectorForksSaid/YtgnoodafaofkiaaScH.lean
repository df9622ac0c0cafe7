/- The package sector: Sync, Break, Read, New; a sector of one byte. -/
import Derived.Test.YtgnoodafaofkiaaScG
namespace Go.Proofs.Ytgnoodafaofkiaa
open Go.RowKit
set_option linter.unusedVariables false
def Dk.syncErr (s : Dk) : Nat := if s.off = true then 8 else s.callErr
def Dk.sync (s : Dk) : Dk := if s.off = true then s else s.call Dk.synced
theorem enters_sync1 : ∀ args w, (callFunc 50 args).run Try.prog w = .ok (.enter 50 args) w := Go.Proofs.enters_of Try.func50 (by kernel_rfl) rfl
set_option maxHeartbeats 1000000 in
theorem sync_any {base : Nat} {F : Ft} {w : World} {s : Dk} (h : DkAt base F w s) (hcalls : s.calls < 4611686018427387904) :
    Calls Try.prog 18 #[.pointer (some ⟨F.b, 0, none⟩)] w fun e w' => e = .returned (.int .i64 (s.syncErr : Int)) ∧ DkAt base F w' s.sync ∧ Frm F.has w w' := by
  have FX := Frm.alloc F.has w (.cells #[.pointer (some ⟨F.b, 0, none⟩)] 24)
  have h1 := h.alloc (.cells #[.pointer (some ⟨F.b, 0, none⟩)] 24)
  have q0 := box_new w (.pointer (some ⟨F.b, 0, none⟩)) 24
  have qs := Lib.hid (heap_size_alloc w (.cells #[.pointer (some ⟨F.b, 0, none⟩)] 24))
  have hin := Lib.hid h.inside
  clear h
  go_enter Try.func18, Try.ntmps18
  go_wp2_with fail
  generalize w.alloc (.cells #[.pointer (some ⟨F.b, 0, none⟩)] 24) = W at *
  refine (fault_any h1).mono ?_
  rintro e w' ⟨rfl, rfl⟩
  by_cases ho : s.off = true
  · have HE := Lib.hid (show s.syncErr = 8 from by unfold Dk.syncErr; rw [if_pos ho])
    have HS := Lib.hid (show s.sync = s from by unfold Dk.sync; rw [if_pos ho])
    rw [show s.fault = 8 from by unfold Dk.fault; rw [if_pos ho]]
    have H1 := Lib.hid h1
    clear ho h1
    go_wp2
    go_ret
    exact ⟨by rw [HE.out]; rfl, by rw [HS.out]; exact H1.out, FX⟩
  · have HE := Lib.hid (show s.syncErr = s.callErr from by unfold Dk.syncErr; rw [if_neg ho])
    have HS := Lib.hid (show s.sync = s.call Dk.synced from by unfold Dk.sync; rw [if_neg ho])
    rw [show s.fault = 0 from by unfold Dk.fault; rw [if_neg ho]]
    have nb : ∀ i, w.heap.size ≤ i → ¬ F.has i := fun i hi hx => by have := hin.out i hx; omega
    have HC := Lib.hid (call_any h1 hcalls 50 #[.pointer (some ⟨w.heap.size, 0, none⟩)] enters_sync1 F.has (.inl rfl) Dk.synced
      (fun W' t hf ht _ _ _ => sync1_any ht w.heap.size ((hf.cell (p := ⟨w.heap.size, 0, none⟩) (by show w.heap.size < _; rw [qs.out]; omega) (nb _ (Nat.le_refl _))).trans q0) (nb _ (Nat.le_refl _))))
    clear ho h1 nb
    go_wp2_with fail
    refine HC.out.mono ?_
    rintro e w2 ⟨rfl, h2, f2⟩
    go_wp2
    go_ret
    refine ⟨by rw [HE.out]; rfl, ?_, FX.trans f2⟩
    rw [HS.out]
    exact h2
def Dk.breakErr (s : Dk) (after : Int) : Nat := if s.off = true then 8 else if after < 0 then 2 else 0
def Dk.brk (s : Dk) (after : Int) (d : Bool) : Dk := if s.off = true ∨ after < 0 then s else { s with fset := true, left := after.toNat, done := d }
theorem DkAt.fail {base : Nat} {F : Ft} {w : World} {s : Dk} (h : DkAt base F w s) (p : Bool) (n : Nat) (d : Bool) (hn : n ≤ 9223372036854775807) :
    DkAt base F (((w.setCell ⟨F.b, 4, none⟩ (.bool p)).setCell ⟨F.b, 5, none⟩ (.int .i64 (n : Int))).setCell ⟨F.b, 6, none⟩ (.bool d)) { s with fset := p, left := n, done := d } :=
  ((h.field (s' := { s with fset := p }) 4 (.bool p) rfl rfl (by simp [dkCells]) h.ok.left).field (s' := { s with fset := p, left := n }) 5 (.int .i64 (n : Int)) rfl rfl (by simp [dkCells]) hn).field (s' := { s with fset := p, left := n, done := d }) 6 (.bool d) rfl rfl (by simp [dkCells]) hn
set_option maxHeartbeats 1000000 in
theorem break_any {base : Nat} {F : Ft} {w : World} {s : Dk} (h : DkAt base F w s) (n : Int) (d : Bool) (hn : n ≤ 9223372036854775807) :
    Calls Try.prog 19 #[.pointer (some ⟨F.b, 0, none⟩), .int .i64 n, .bool d] w fun e w' => e = .returned (.int .i64 (s.breakErr n : Int)) ∧ DkAt base F w' (s.brk n d) ∧ Frm F.has w w' := by
  have Hf := Lib.hid (fault_any h)
  have c4 := h.c4; have c5 := h.c5; have c6 := h.c6
  have f4 := h.frozenAt 4; have f5 := h.frozenAt 5; have f6 := h.frozenAt 6
  have H := Lib.hid h
  clear h
  by_cases ho : s.off = true
  · have HE := Lib.hid (show s.breakErr n = 8 from by unfold Dk.breakErr; rw [if_pos ho])
    have HS := Lib.hid (show s.brk n d = s from by unfold Dk.brk; rw [if_pos (.inl ho)])
    rw [show s.fault = 8 from by unfold Dk.fault; rw [if_pos ho]] at Hf
    clear ho
    go_enter Try.func19, Try.ntmps19
    go_wp2_with (go_at_call 49; refine Hf.out.mono ?_; rintro e w' ⟨rfl, rfl⟩)
    go_ret
    exact ⟨by rw [HE.out]; rfl, by rw [HS.out]; exact H.out, Frm.refl _ _⟩
  · rw [show s.fault = 0 from by unfold Dk.fault; rw [if_neg ho]] at Hf
    by_cases h0 : n < 0
    · have HE := Lib.hid (show s.breakErr n = 2 from by unfold Dk.breakErr; rw [if_neg ho, if_pos h0])
      have HS := Lib.hid (show s.brk n d = s from by unfold Dk.brk; rw [if_pos (.inr h0)])
      clear ho
      go_enter Try.func19, Try.ntmps19
      go_wp2_with (go_at_call 49; refine Hf.out.mono ?_; rintro e w' ⟨rfl, rfl⟩)
      go_ret
      exact ⟨by rw [HE.out]; rfl, by rw [HS.out]; exact H.out, Frm.refl _ _⟩
    · have HE := Lib.hid (show s.breakErr n = 0 from by unfold Dk.breakErr; rw [if_neg ho, if_neg h0])
      have HS := Lib.hid (show s.brk n d = { s with fset := true, left := n.toNat, done := d } from by unfold Dk.brk; rw [if_neg (fun x => x.elim ho h0)])
      obtain ⟨k, rfl⟩ := Int.eq_ofNat_of_zero_le (show 0 ≤ n by omega)
      have h0' : 0 ≤ (k : Int) := by omega
      clear ho h0
      go_enter Try.func19, Try.ntmps19
      go_wp2_with (go_at_call 49; refine Hf.out.mono ?_; rintro e w' ⟨rfl, rfl⟩)
      go_ret
      refine ⟨by rw [HE.out]; rfl, ?_, (Frm.setCell _ _ _ (.inl rfl)).trans ((Frm.setCell _ _ _ (.inl rfl)).trans (Frm.setCell _ _ _ (.inl rfl)))⟩
      rw [HS.out]
      exact H.out.fail true k d (by omega)
end Go.Proofs.Ytgnoodafaofkiaa
