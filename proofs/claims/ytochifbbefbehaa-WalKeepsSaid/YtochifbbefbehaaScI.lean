/- The package sector: Read. -/
import Derived.Test.YtochifbbefbehaaScH
namespace Go.Proofs.Ytochifbbefbehaa
open Go.RowKit
set_option linter.unusedVariables false
/-- What Read tells of a sector. -/
def Dk.reads (s : Dk) (n : Int) : List UInt8 := if s.faultAt n = 0 then s.at_ n.toNat else []
def zeros : List UInt8 := List.replicate 256 0
theorem zeros_len : zeros.length = 256 := List.length_replicate ..
theorem zeroSec_eq : Try.zeroCells67 = (cellsB zeros).toArray := by kernel_rfl
theorem zeroSec_read : secR (.agg Try.zeroCells67) = some (.lit (.string zeros), []) := by
  rw [zeroSec_eq]
  exact secR_mk zeros_len
theorem Dk.at_len {s : Dk} (h : s.Ok) {n : Nat} (hn : n < s.rows.length) : (s.at_ n).length = 256 := by
  unfold Dk.at_
  cases e : s.wt n with
  | some l => exact h.wlen n l e
  | none =>
    have : s.rows.getD n [] ∈ s.rows := by
      rw [List.getD_eq_getElem?_getD, List.getElem?_eq_getElem hn]
      exact List.getElem_mem hn
    exact h.each _ this
theorem rb_of_row' {w : World} {g : Nat} {l : List UInt8} {t : TypeId} {fr : Nat × Nat} (h : w.heap[g]? = some (.cells (cellsB l).toArray t fr)) : RB w (some ⟨g, 0, none⟩) l := by
  refine .inr ⟨_, rfl, fun j x hx => ?_⟩
  have e : (⟨g, 0, none⟩ : Addr).add j = ⟨g, j, none⟩ := by cases j <;> simp [Addr.add]
  rw [e, cell_of_row w g j _ _ _ h]
  simp [cellsB, hx, cellB]
set_option maxHeartbeats 1000000 in
set_option maxRecDepth 100000 in
theorem read_new {base : Nat} {F : Ft} {w : World} {s : Dk} (h : DkAt base F w s) (n : Int) :
    Calls Try.prog 49 #[.pointer (some ⟨F.b, 0, none⟩), .int .i64 n] w fun e w' => ∃ A, e = .returned (.tuple #[.slice A (s.reads n).length (s.reads n).length, .int .i64 (s.faultAt n : Int)]) ∧ RB w' A (s.reads n) ∧ Below w.heap.size w w' ∧ ∀ ad, A = some ad → w.heap.size ≤ ad.block := by
  have Hf := Lib.hid (faultAt_any h n)
  have c0 := h.c0; have c1 := h.c1
  have g3 : F.b < w.heap.size := h.blt
  have hmany := h.ok.many
  obtain ⟨nn, D, hM⟩ := h.map.open_ h.ok.wlt
  have hown := Lib.hid hM.owns
  have H := Lib.hid h
  have HM := Lib.hid hM
  clear h hM
  by_cases h0 : s.faultAt n = 0
  · obtain ⟨hn0, hn1⟩ := Dk.faultAt_ok h0
    have HR := Lib.hid (show s.reads n = s.at_ n.toNat from by unfold Dk.reads; rw [if_pos h0])
    have HE := Lib.hid h0
    rw [h0] at Hf
    obtain ⟨k, rfl⟩ := Int.eq_ofNat_of_zero_le hn0
    have hk : k < s.rows.length := by omega
    have HL := Lib.hid (Dk.at_len H.out.ok hk)
    have hkey : keyOf Try.prog 3 (.int .i64 (k : Int)) = some (.int .i64 (k : Int)) := Maps.keyOf_int_mk Try.underlying3 (WalkArith.wf_i64 ⟨by omega, by omega⟩)
    have HK := Lib.hid hkey
    clear h0 hkey
    have hh := HM.out.has k
    cases hw : s.wt k with
    | some l =>
      rw [hw] at hh
      have HA := Lib.hid (show s.at_ k = l from by unfold Dk.at_; rw [hw]; rfl)
      have hl := Lib.hid (H.out.ok.wlen k l hw)
      have hat := Lib.hid (HM.out.at_ k l hw)
      have hh := Lib.hid hh
      clear hw
      go_enter Try.func49, Try.ntmps49
      go_wp2_with (first
        | (go_at_call 53; refine Hf.out.mono ?_; rintro e w' ⟨rfl, rfl⟩)
        | (at_lookup; refine wpList_lookup_own_ok _ rfl (.tmp 19) (.tmp 20) 50 rfl 3 67 (Maps.int_keyed Try.underlying3) Try.underlying50 secR (Try.zeroValue67 _) (.lit (.string zeros)) [] zeroSec_read F.m nn D rfl hown.out (.int .i64 (k : Int)) (.int .i64 (k : Int)) rfl HK.out ?_; intro v ps hv; rw [hh.out]; rw [hat.out] at hv; obtain ⟨l', hl1, rfl, hl2⟩ := secR_inv hv; obtain rfl : l = l' := by simpa using congrArg Prod.fst hl2)
        | (refine wpList_store_new rfl 67 (.tmp 7) (.tmp 22) rfl Try.zeroCells67 (cellsB l).toArray rfl rfl (infoSec_of hl.out) (zeroSec_size hl.out) (secCells_all l) ?_))
      go_ret2
      refine ⟨some ⟨w.heap.size, 0, none⟩, ?_, ?_, (Below.refl _ w).alloc (Nat.le_refl _) _, fun ad e => by injection e with e; rw [← e]; exact Nat.le_refl _⟩
      · rw [HR.out, HE.out, Int.toNat_natCast, HL.out]; rfl
      · rw [HR.out, Int.toNat_natCast, HA.out]; exact rb_of_row' (heap_alloc_last w _)
    | none =>
      rw [hw] at hh
      have HA := Lib.hid (show s.at_ k = s.rows.getD k [] from by unfold Dk.at_; rw [hw]; rfl)
      have hh := Lib.hid hh
      obtain ⟨g, hA, _, hra, _⟩ := H.out.setRow hk zeros_len
      rw [hA] at c0
      have hrl : (s.rows.getD k []).length = 256 := by rw [← HA.out]; exact HL.out
      generalize s.rows.getD k [] = r at *
      have HRL := Lib.hid hrl
      have HRA := Lib.hid hra
      have kk : (k : Int) < (s.rows.length : Int) := by omega
      generalize s.rows.length = NN at c0 kk
      clear hw hrl hra
      go_enter Try.func49, Try.ntmps49
      go_wp2_with (first
        | (go_at_call 53; refine Hf.out.mono ?_; rintro e w' ⟨rfl, rfl⟩)
        | (at_lookup; refine wpList_lookup_own_ok _ rfl (.tmp 19) (.tmp 20) 50 rfl 3 67 (Maps.int_keyed Try.underlying3) Try.underlying50 secR (Try.zeroValue67 _) (.lit (.string zeros)) [] zeroSec_read F.m nn D rfl hown.out (.int .i64 (k : Int)) (.int .i64 (k : Int)) rfl HK.out ?_; intro v ps hv; rw [hh.out]; obtain ⟨l, hl, rfl, _⟩ := secR_inv hv; clear hv; have hl := Lib.hid hl)
        | (refine wpList_store_new rfl 67 (.tmp 7) (.tmp 22) rfl Try.zeroCells67 (cellsB l).toArray rfl rfl (infoSec_of hl.out) (zeroSec_size hl.out) (secCells_all l) ?_)
        | (refine wpList_load_mid rfl 67 (.tmp 31) rfl g (k * 256) rfl (cellsB r) _ (World.rangeAt_alloc HRA.out _) Try.underlying67 rfl (infoSec_list HRL.out) ?_)
        | (refine wpList_store_new rfl 67 (.tmp 7) (.tmp 32) rfl (cellsB l).toArray (cellsB r).toArray rfl rfl (infoSec_of HRL.out) (by rw [List.size_toArray, List.size_toArray, length_cellsB, length_cellsB, hl.out, HRL.out]) (secCells_all r) ?_))
      go_ret2
      refine ⟨some ⟨w.heap.size, 0, none⟩, ?_, ?_, (Below.refl _ w).alloc (Nat.le_refl _) _, fun ad e => by injection e with e; rw [← e]; exact Nat.le_refl _⟩
      · rw [HR.out, HE.out, Int.toNat_natCast, HL.out]; rfl
      · rw [HR.out, Int.toNat_natCast, HA.out]; exact rb_of_row' (heap_alloc_last w _)
  · have HR := Lib.hid (show s.reads n = [] from by unfold Dk.reads; rw [if_neg h0])
    have hb : (((s.faultAt n : Nat) : Int) != 0) = true := by rw [bne_iff_ne]; omega
    generalize s.faultAt n = q at *
    clear h0
    go_enter Try.func49, Try.ntmps49
    go_wp2_with (go_at_call 53; refine Hf.out.mono ?_; rintro e w' ⟨rfl, rfl⟩)
    go_ret2
    refine ⟨none, ?_, ?_, Below.refl _ w, fun ad e => by cases e⟩
    · rw [HR.out]; rfl
    · rw [HR.out]; exact RB.nil
theorem read_any {base : Nat} {F : Ft} {w : World} {s : Dk} (h : DkAt base F w s) (n : Int) :
    Calls Try.prog 49 #[.pointer (some ⟨F.b, 0, none⟩), .int .i64 n] w fun e w' => ∃ A, e = .returned (.tuple #[.slice A (s.reads n).length (s.reads n).length, .int .i64 (s.faultAt n : Int)]) ∧ RB w' A (s.reads n) ∧ Below w.heap.size w w' := (read_new h n).mono fun e w' ⟨A, h1, h2, h3, _⟩ => ⟨A, h1, h2, h3⟩
end Go.Proofs.Ytochifbbefbehaa
