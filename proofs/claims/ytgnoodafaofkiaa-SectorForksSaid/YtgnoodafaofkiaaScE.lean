/- The package sector: Write. -/
import Derived.Test.YtgnoodafaofkiaaScD
import Derived.Shelf.Abstract
namespace Go.Proofs.Ytgnoodafaofkiaa
open Go.RowKit
set_option linter.unusedVariables false
def Dk.writeErr (s : Dk) (n : Int) (l : List UInt8) : Nat := if s.faultAt n ≠ 0 then s.faultAt n else if l.length ≠ 256 then 2 else s.callErr
def Dk.write (s : Dk) (n : Int) (l : List UInt8) : Dk := if s.faultAt n ≠ 0 ∨ l.length ≠ 256 then s else s.call fun t => t.put n.toNat l
theorem Dk.faultAt_ok {s : Dk} {n : Int} (h : s.faultAt n = 0) : 0 ≤ n ∧ n < (s.rows.length : Int) := by
  unfold Dk.faultAt at h
  split at h
  · cases h
  · split at h
    · cases h
    · omega
theorem enters_write1 : ∀ args w, (callFunc 48 args).run Try.prog w = .ok (.enter 48 args) w := Go.Proofs.enters_of Try.func48 (by kernel_rfl) rfl
theorem box_new (w : World) (v : Value) (t : TypeId) : (w.alloc (.cells #[v] t)).cell? ⟨w.heap.size, 0, none⟩ = some v := by
  unfold World.cell?
  rw [heap_alloc_last w (.cells #[v] t)]
  rfl
theorem box_old (w : World) (o : Obj) (p : Addr) (h : p.block < w.heap.size) : (w.alloc o).cell? p = w.cell? p := World.cell?_alloc_lt w o p h
theorem box3_0 (w : World) (v : Value) (t : TypeId) (o2 o3 : Obj) : (((w.alloc (.cells #[v] t)).alloc o2).alloc o3).cell? ⟨w.heap.size, 0, none⟩ = some v :=
  (box_old _ o3 _ (by simp; omega)).trans ((box_old _ o2 _ (by simp)).trans (box_new w v t))
theorem box3_1 (w : World) (v : Value) (t : TypeId) (o1 o3 : Obj) : (((w.alloc o1).alloc (.cells #[v] t)).alloc o3).cell? ⟨w.heap.size + 1, 0, none⟩ = some v := by
  have h := box_new (w.alloc o1) v t
  rw [heap_size_alloc] at h
  exact (box_old _ o3 _ (by simp)).trans h
theorem box3_2 (w : World) (v : Value) (t : TypeId) (o1 o2 : Obj) : (((w.alloc o1).alloc o2).alloc (.cells #[v] t)).cell? ⟨w.heap.size + 1 + 1, 0, none⟩ = some v := by
  have h := box_new ((w.alloc o1).alloc o2) v t
  rw [heap_size_alloc, heap_size_alloc] at h
  exact h
theorem Frm.box3 (X : Nat → Prop) (w : World) (o1 o2 o3 : Obj) : Frm X w (((w.alloc o1).alloc o2).alloc o3) := (Frm.alloc X w o1).trans ((Frm.alloc X _ o2).trans (Frm.alloc X _ o3))
set_option maxHeartbeats 1000000 in
set_option maxRecDepth 100000 in
theorem write_any {base : Nat} {F : Ft} {w : World} {s : Dk} (h : DkAt base F w s) (hcalls : s.calls < 4611686018427387904) (n : Int) (A : Option Addr) (m c : Nat) (l : List UInt8) (hl : l.length = m) (hr : RB w A l) (hne : ∀ ad, A = some ad → ¬ F.has ad.block) :
    Calls Try.prog 17 #[.pointer (some ⟨F.b, 0, none⟩), .int .i64 n, .slice A m c] w fun e w' => e = .returned (.int .i64 (s.writeErr n l : Int)) ∧ DkAt base F w' (s.write n l) ∧ Frm F.has w w' := by
  have FX := Frm.box3 F.has w (.cells #[.pointer (some ⟨F.b, 0, none⟩)] 24) (.cells #[.int .i64 n] 3) (.cells #[.slice A m c] 32)
  have h1 := ((h.alloc (.cells #[.pointer (some ⟨F.b, 0, none⟩)] 24)).alloc (.cells #[.int .i64 n] 3)).alloc (.cells #[.slice A m c] 32)
  have r1 := ((hr.alloc (.cells #[.pointer (some ⟨F.b, 0, none⟩)] 24)).alloc (.cells #[.int .i64 n] 3)).alloc (.cells #[.slice A m c] 32)
  have q0 : (((w.alloc (.cells #[.pointer (some ⟨F.b, 0, none⟩)] 24)).alloc (.cells #[.int .i64 n] 3)).alloc (.cells #[.slice A m c] 32)).cell? ⟨w.heap.size, 0, none⟩ = some (.pointer (some ⟨F.b, 0, none⟩)) := box3_0 _ _ _ _ _
  have q1 : (((w.alloc (.cells #[.pointer (some ⟨F.b, 0, none⟩)] 24)).alloc (.cells #[.int .i64 n] 3)).alloc (.cells #[.slice A m c] 32)).cell? ⟨w.heap.size + 1, 0, none⟩ = some (.int .i64 n) := box3_1 _ _ _ _ _
  have q2 : (((w.alloc (.cells #[.pointer (some ⟨F.b, 0, none⟩)] 24)).alloc (.cells #[.int .i64 n] 3)).alloc (.cells #[.slice A m c] 32)).cell? ⟨w.heap.size + 1 + 1, 0, none⟩ = some (.slice A m c) := box3_2 _ _ _ _ _
  have qs : (((w.alloc (.cells #[.pointer (some ⟨F.b, 0, none⟩)] 24)).alloc (.cells #[.int .i64 n] 3)).alloc (.cells #[.slice A m c] 32)).heap.size = w.heap.size + 3 := by simp
  have hin := Lib.hid h.inside
  have HL := Lib.hid hl
  have HN := Lib.hid hne
  clear hl h hr hne
  go_enter Try.func17, Try.ntmps17
  go_wp2_with fail
  generalize ((w.alloc (.cells #[.pointer (some ⟨F.b, 0, none⟩)] 24)).alloc (.cells #[.int .i64 n] 3)).alloc (.cells #[.slice A m c] 32) = W at *
  refine (faultAt_any h1 n).mono ?_
  rintro e w' ⟨rfl, rfl⟩
  by_cases h0 : s.faultAt n = 0
  · obtain ⟨hn0, hn1⟩ := Dk.faultAt_ok h0
    rw [h0]
    by_cases hlen : l.length = 256
    · have HE := Lib.hid (show s.writeErr n l = s.callErr from by unfold Dk.writeErr; rw [if_neg (by omega), if_neg (by omega)])
      have HW := Lib.hid (show s.write n l = s.call fun t => t.put n.toNat l from by unfold Dk.write; rw [if_neg (by omega)])
      obtain rfl : 256 = m := by rw [← HL.out, hlen]
      obtain ⟨k, rfl⟩ := Int.eq_ofNat_of_zero_le hn0
      have HC := Lib.hid (call_any h1 hcalls 48 #[.pointer (some ⟨w.heap.size + 1 + 1, 0, none⟩), .pointer (some ⟨w.heap.size, 0, none⟩), .pointer (some ⟨w.heap.size + 1, 0, none⟩)] enters_write1 F.has (.inl rfl) (fun t => t.put k l)
        (fun W' t hf ht hrows _ _ => by
          have nb : ∀ i, w.heap.size ≤ i → ¬ F.has i := fun i hi hx => by have := hin.out i hx; omega
          refine (write1_any ht (w.heap.size + 1 + 1) w.heap.size (w.heap.size + 1) A c l k hlen (by rw [hrows]; omega) ((hf.cell (by rw [qs]; show w.heap.size + 1 + 1 < _; omega) (nb _ (by show w.heap.size ≤ w.heap.size + 1 + 1; omega))).trans q2)
            ((hf.cell (by rw [qs]; show w.heap.size < _; omega) (nb _ (Nat.le_refl _))).trans q0) ((hf.cell (by rw [qs]; show w.heap.size + 1 < _; omega) (nb _ (by show w.heap.size ≤ w.heap.size + 1; omega))).trans q1) ?_).mono ?_
          · rcases A with _ | ad
            · rcases r1 with rfl | ⟨ad, e, _⟩
              · exact .inl rfl
              · cases e
            · exact hf.rb r1 (HN.out ad rfl)
          · rintro e w2 ⟨rfl, h2, f2⟩
            exact ⟨rfl, h2, f2.mono fun i hi => .inr (.inl hi)⟩))
      clear HL qs hn1 h0 hlen hin HN r1 h1
      go_wp2_with fail
      refine HC.out.mono ?_
      rintro e w2 ⟨rfl, h2, f2⟩
      go_wp2
      go_ret
      refine ⟨by rw [HE.out]; rfl, ?_, FX.trans f2⟩
      rw [HW.out]
      exact h2
    · have HE := Lib.hid (show s.writeErr n l = 2 from by unfold Dk.writeErr; rw [if_neg (by omega), if_pos hlen])
      have HW := Lib.hid (show s.write n l = s from by unfold Dk.write; rw [if_pos (.inr hlen)])
      have hb : ((m : Int) != 256) = true := by rw [bne_iff_ne]; have := HL.out; omega
      have H1 := Lib.hid h1
      clear HL qs hn0 hn1 h0 hlen hin HN r1 h1
      go_wp2
      go_ret
      exact ⟨by rw [HE.out]; rfl, by rw [HW.out]; exact H1.out, FX⟩
  · have HE := Lib.hid (show s.writeErr n l = s.faultAt n from by unfold Dk.writeErr; rw [if_pos h0])
    have HW := Lib.hid (show s.write n l = s from by unfold Dk.write; rw [if_pos (.inl h0)])
    have hb : (((s.faultAt n : Nat) : Int) != 0) = true := by rw [bne_iff_ne]; omega
    have H1 := Lib.hid h1
    clear HL qs hin HN r1 h1
    generalize s.faultAt n = q at *
    clear h0
    go_wp2
    go_ret
    exact ⟨by rw [HE.out]; rfl, by rw [HW.out]; exact H1.out, FX⟩
end Go.Proofs.Ytgnoodafaofkiaa
