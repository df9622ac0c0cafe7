/- A reader of numbers, with and without an error. -/
import Derived.Test.YtjmmaghjbaigiaaOkB
namespace Go.Proofs.Ytjmmaghjbaigiaa
open Go.RowKit
set_option linter.unusedVariables false
set_option linter.unusedSimpArgs false
/-- Nothing but block g may have changed. -/
structure OnlyB (g : Nat) (w w' : World) : Prop where
  os : w'.os = w.os
  tape : w'.tape = w.tape
  output : w'.output = w.output
  size : w'.heap.size = w.heap.size
  block : ∀ b, b ≠ g → w'.heap[b]? = w.heap[b]?
theorem OnlyB.refl (g : Nat) (w : World) : OnlyB g w w := ⟨rfl, rfl, rfl, rfl, fun _ _ => rfl⟩
theorem OnlyB.set (g i : Nat) (w : World) (v : Value) : OnlyB g w (w.setCell ⟨g, i, none⟩ v) := by
  have h := (Below.refl 0 w).setCell (p := ⟨g, i, none⟩) (Nat.zero_le _) v
  refine ⟨h.os, h.tape, h.output, ?_, fun b hb => ?_⟩
  · simp [World.setCell]
  · unfold World.setCell
    simp [Array.getElem?_modify, Ne.symm hb]
theorem OnlyB.below {g base : Nat} {w w' : World} (h : OnlyB g w w') (hb : base ≤ g) : Below base w w' := ⟨h.os, h.tape, h.output, Nat.le_of_eq h.size.symm, fun b hlt => h.block b (by omega)⟩
theorem cell_block {w w' : World} {p : Addr} (h : w'.heap[p.block]? = w.heap[p.block]?) : w'.cell? p = w.cell? p := by
  unfold World.cell?
  rw [h]
theorem frozen_block {w w' : World} {p : Addr} (h : w'.heap[p.block]? = w.heap[p.block]?) : w'.frozen? p = w.frozen? p := by
  unfold World.frozen?
  rw [h]
/-- What a reader of the bytes l with the error f tells, and what it has behind that. -/
def rdV (l : List UInt8) (f : Nat) : Nat := if f = 0 ∧ (getSmall l).2.2 = 0 ∧ (getSmall l).1 ≤ 1099511627776 then (getSmall l).1 else 0
def rdL (l : List UInt8) (f : Nat) : List UInt8 := if f = 0 ∧ (getSmall l).2.2 = 0 ∧ (getSmall l).1 ≤ 1099511627776 then l.drop (getSmall l).2.1 else l
def rdF (l : List UInt8) (f : Nat) : Nat := if f = 0 then (if (getSmall l).2.2 = 0 then (if (getSmall l).1 ≤ 1099511627776 then 0 else 9) else (getSmall l).2.2) else f
theorem getSmall_use (l : List UInt8) : (getSmall l).2.1 ≤ l.length := by
  cases l with
  | nil => exact Nat.le_refl _
  | cons x r =>
    rw [getSmall_cons]
    split
    · exact Nat.zero_le _
    · split
      · exact Nat.zero_le _
      · split
        · exact Nat.zero_le _
        · simp; omega
theorem getSmall_lt (l : List UInt8) : (getSmall l).1 < 18446744073709551616 := by
  cases l with
  | nil => decide
  | cons x r =>
    rw [getSmall_cons]
    split
    · decide
    · split
      · decide
      · split
        · decide
        · exact be_le8 _ (by rw [List.length_take]; omega)
theorem getSmall_err (l : List UInt8) : (getSmall l).2.2 ≤ 4 := by
  cases l with
  | nil => decide
  | cons x r =>
    rw [getSmall_cons]
    split
    · decide
    · split
      · decide
      · split
        · decide
        · exact Nat.zero_le _
/-- Block g is a reader that has the bytes l left, and the error f. -/
def RDF (w : World) (g : Nat) (l : List UInt8) (f : Nat) : Prop :=
  ∃ A c, l.length ≤ c ∧ RB w A l ∧ (∀ ad, A = some ad → ad.block < g) ∧ w.cell? ⟨g, 0, none⟩ = some (.slice A l.length c) ∧ w.cell? ⟨g, 1, none⟩ = some (.int .i64 (f : Int)) ∧ w.frozen? ⟨g, 0, none⟩ = false ∧ w.frozen? ⟨g, 1, none⟩ = false
theorem RDF.keep {w w' : World} {g f : Nat} {l : List UInt8} (h : RDF w g l f) (hb : Below w.heap.size w w') : RDF w' g l f := by
  obtain ⟨A, c, h1, h2, h3, h4, h5, h6, h7⟩ := h
  have hg := lt_of_cell h4
  exact ⟨A, c, h1, h2.below hb, h3, (hb.cell (p := ⟨g, 0, none⟩) hg).trans h4, (hb.cell (p := ⟨g, 1, none⟩) hg).trans h5, (hb.frozen (p := ⟨g, 0, none⟩) hg).trans h6, (hb.frozen (p := ⟨g, 1, none⟩) hg).trans h7⟩
theorem RDF.stay {w w' : World} {g f : Nat} {l : List UInt8} (h : RDF w g l f) {base : Nat} (hg : g < base) (hb : Below base w w') : RDF w' g l f := by
  obtain ⟨A, c, h1, h2, h3, h4, h5, h6, h7⟩ := h
  refine ⟨A, c, h1, ?_, h3, (hb.cell (p := ⟨g, 0, none⟩) hg).trans h4, (hb.cell (p := ⟨g, 1, none⟩) hg).trans h5, (hb.frozen (p := ⟨g, 0, none⟩) hg).trans h6, (hb.frozen (p := ⟨g, 1, none⟩) hg).trans h7⟩
  rcases h2 with rfl | ⟨ad, rfl, hc⟩
  · exact .inl rfl
  · refine .inr ⟨ad, rfl, fun j x hx => ?_⟩
    have := h3 ad rfl
    exact (hb.cell (p := ad.add j) (by rw [block_of_add]; omega)).trans (hc j x hx)
theorem RDF.lt {w : World} {g f : Nat} {l : List UInt8} (h : RDF w g l f) : g < w.heap.size := by
  obtain ⟨A, c, h1, h2, h3, h4, h5, h6, h7⟩ := h
  exact lt_of_cell h4
theorem OB.blt {base : Nat} {w : World} {ad : Addr} {n c : Nat} {l : List UInt8} (h : OB base w (.slice (some ad) n c) l) : ad.block < w.heap.size := by
  unfold OB at h
  exact (World.ownsRow.lt h ad.block rfl).2
theorem RB.setCell {w : World} {A : Option Addr} {l : List UInt8} (h : RB w A l) {p : Addr} (hne : ∀ ad, A = some ad → ad.block < p.block) (u : Value) : RB (w.setCell p u) A l := by
  rcases h with rfl | ⟨ad, rfl, hc⟩
  · exact .inl rfl
  · refine .inr ⟨ad, rfl, fun j x hx => ?_⟩
    rw [World.cell?_setCell_other w p (ad.add j) u (fun e => by have := hne ad rfl; rw [e, block_of_add] at this; omega)]
    exact hc j x hx
set_option maxHeartbeats 400000 in
theorem okNew_any (A : Option Addr) (n c : Nat) (l : List UInt8) (w : World) (hn : n ≤ 70368744177664) (hl : l.length = n) (hr : RB w A l) :
    Calls Try.prog 81 #[.slice A n c] w fun e w' => ∃ g, e = .returned (.pointer (some ⟨g, 0, none⟩)) ∧ RDF w' g l 0 ∧ w.heap.size ≤ g ∧ Below w.heap.size w w' := by
  go_enter Try.func81, Try.ntmps81
  go_wp2_with fail
  refine (clone_any A n c l _ hn hl hr).mono ?_
  rintro e w1 ⟨v1, rfl, ho, hb⟩
  obtain ⟨A1, c1, rfl, hc1, hr1⟩ := ho.form
  go_wp2
  go_ret
  refine ⟨w1.heap.size, rfl, ⟨A1, c1, hc1, hr1.alloc _, ?_, by simp [hl], by simp, by simp, by simp⟩, hb.size, hb.alloc hb.size _⟩
  intro ad e
  subst e
  exact ho.blt
theorem RDF.moved {w : World} {g m : Nat} {l : List UInt8} {A : Option Addr} {c : Nat} {B : Option Addr} {n d : Nat} (hm : m ≤ l.length) (h1 : l.length ≤ c) (h2 : RB w A l) (h3 : ∀ ad, A = some ad → ad.block < g)
    (h4 : w.cell? ⟨g, 0, none⟩ = some (.slice A l.length c)) (h5 : w.cell? ⟨g, 1, none⟩ = some (.int .i64 ((0 : Nat) : Int))) (h6 : w.frozen? ⟨g, 0, none⟩ = false) (h7 : w.frozen? ⟨g, 1, none⟩ = false)
    (hB : B = A ∧ m = l.length ∨ B = A.map (fun x => x.add m)) (hn : n = l.length - m) (hd : d = c - m) :
    RDF (w.setCell ⟨g, 0, none⟩ (.slice B n d)) g (l.drop m) 0 ∧ OnlyB g w (w.setCell ⟨g, 0, none⟩ (.slice B n d)) := by
  subst hn hd
  have hb3 : ∀ ad, B = some ad → ad.block < g := by
    rcases hB with ⟨rfl, _⟩ | rfl
    · exact h3
    · intro ad e
      rcases A with _ | a
      · cases e
      · simp only [Option.map_some, Option.some.injEq] at e
        subst e
        rw [block_of_add]
        exact h3 a rfl
  have hrb : RB w B (l.drop m) := by
    rcases hB with ⟨rfl, rfl⟩ | rfl
    · exact .inl (by simp)
    · rcases A with _ | a
      · rcases h2 with h | ⟨_, h, _⟩
        · subst h; exact .inl (by simp)
        · cases h
      · exact h2.drop m
  refine ⟨⟨B, c - m, by simp; omega, hrb.setCell hb3 _, hb3, ?_, ?_, ?_, ?_⟩, OnlyB.set _ _ _ _⟩
  · rw [World.cell?_setCell_same' _ _ _ (by rw [h4]; rfl)]; simp
  · rw [World.cell?_setCell_other w _ _ _ (by simp)]; exact h5
  · simpa using h6
  · simpa using h7
theorem RDF.fail {w : World} {g f e : Nat} {l : List UInt8} (h : RDF w g l f) (z : Int) (hz : z = (e : Int)) : RDF (w.setCell ⟨g, 1, none⟩ (.int .i64 z)) g l e ∧ OnlyB g w (w.setCell ⟨g, 1, none⟩ (.int .i64 z)) := by
  subst hz
  obtain ⟨A, c, h1, h2, h3, h4, h5, h6, h7⟩ := h
  refine ⟨⟨A, c, h1, h2.setCell h3 _, h3, ?_, ?_, ?_, ?_⟩, OnlyB.set _ _ _ _⟩
  · rw [World.cell?_setCell_other w _ _ _ (by simp)]; exact h4
  · rw [World.cell?_setCell_same' _ _ _ (by rw [h5]; rfl)]
  · simpa using h6
  · simpa using h7
set_option maxHeartbeats 400000 in
theorem okTake_ok (g m : Nat) (l : List UInt8) (w : World) (hR : RDF w g l 0) (hm : m ≤ l.length) (hl : l.length ≤ 70368744177664) :
    Calls Try.prog 107 #[.pointer (some ⟨g, 0, none⟩), .int .i64 m, .int .i64 0] w fun e w' => e = .returned (.bool true) ∧ RDF w' g (l.drop m) 0 ∧ OnlyB g w w' := by
  obtain ⟨A, c, h1, h2, h3, h4, h5, h6, h7⟩ := hR
  have HM := Lib.hid (fun (B : Option Addr) (n d : Nat) => RDF.moved (B := B) (n := n) (d := d) hm h1 h2 h3 h4 h5 h6 h7)
  clear h3
  by_cases hc : c = m
  · have HC := Lib.hid (show m = l.length from by omega)
    go_enter Try.func107, Try.ntmps107
    go_wp2
    go_ret
    exact ⟨rfl, HM.out _ _ _ (.inl ⟨rfl, HC.out⟩) rfl (by omega)⟩
  · go_enter Try.func107, Try.ntmps107
    go_wp2
    go_ret
    exact ⟨rfl, HM.out _ _ _ (.inr rfl) rfl rfl⟩
set_option maxHeartbeats 400000 in
theorem okTake_bad (g m f : Nat) (l : List UInt8) (w : World) (hR : RDF w g l 0) (hf : 0 < f) :
    Calls Try.prog 107 #[.pointer (some ⟨g, 0, none⟩), .int .i64 m, .int .i64 (f : Int)] w fun e w' => e = .returned (.bool false) ∧ RDF w' g l f ∧ OnlyB g w w' := by
  have HM := Lib.hid (fun z (hz : z = (f : Int)) => hR.fail z hz)
  obtain ⟨A, c, h1, h2, h3, h4, h5, h6, h7⟩ := hR
  have hne : ((f : Int) != 0) = true := by simp; omega
  clear h3
  go_enter Try.func107, Try.ntmps107
  go_wp2
  go_ret
  exact ⟨rfl, HM.out _ rfl⟩
set_option maxHeartbeats 800000 in
theorem okSmall_any (g f : Nat) (l : List UInt8) (w : World) (hR : RDF w g l f) (hl : l.length ≤ 17592186044416) :
    Calls Try.prog 83 #[.pointer (some ⟨g, 0, none⟩)] w fun e w' => e = .returned (.int .i64 (rdV l f : Int)) ∧ RDF w' g (rdL l f) (rdF l f) ∧ OnlyB g w w' := by
  have HR := Lib.hid hR
  obtain ⟨A, c, h1, h2, h3, h4, h5, h6, h7⟩ := hR
  have KG := getSmall_any A l.length c l w (by omega) rfl h1 h2
  have hu := getSmall_use l
  have hv := getSmall_lt l
  have he := getSmall_err l
  unfold rdV rdL rdF
  clear h3
  by_cases hf : f = 0
  · subst hf
    generalize getSmall l = G at *
    obtain ⟨v, m, e⟩ := G
    dsimp only at *
    by_cases he0 : e = 0
    · subst he0
      by_cases hv2 : v ≤ 1099511627776
      · rw [if_pos ⟨rfl, rfl, hv2⟩, if_pos ⟨rfl, rfl, hv2⟩, if_pos rfl, if_pos rfl, if_pos hv2]
        have d : decide ((1099511627776 : Int) < (v : Int)) = false := by simp; omega
        have KG := Lib.hid KG
        have KT := Lib.hid (okTake_ok g m l w HR.out hu (by omega))
        go_enter Try.func83, Try.ntmps83
        go_wp2_with fail
        refine KG.out.mono ?_
        rintro e w1 ⟨rfl, rfl⟩
        go_wp2_with fail
        refine KT.out.mono ?_
        rintro e w2 ⟨rfl, hR2, hb2⟩
        go_wp2
        go_ret
        exact ⟨rfl, hR2, hb2⟩
      · rw [if_neg (fun h => hv2 h.2.2), if_neg (fun h => hv2 h.2.2), if_pos rfl, if_pos rfl, if_neg hv2]
        have d : (1099511627776 : Int) < (v : Int) := by omega
        have KG := Lib.hid KG
        have KT := Lib.hid (okTake_bad g m 9 l w HR.out (by omega))
        go_enter Try.func83, Try.ntmps83
        go_wp2_with fail
        refine KG.out.mono ?_
        rintro e w1 ⟨rfl, rfl⟩
        go_wp2_with fail
        refine KT.out.mono ?_
        rintro e w2 ⟨rfl, hR2, hb2⟩
        go_wp2
        go_ret
        exact ⟨rfl, hR2, hb2⟩
    · rw [if_neg (fun h => he0 h.2.1), if_neg (fun h => he0 h.2.1), if_pos rfl, if_neg he0]
      have d : ((e : Int) == 0) = false := by simp; omega
      have KG := Lib.hid KG
      have KT := Lib.hid (okTake_bad g m e l w HR.out (by omega))
      go_enter Try.func83, Try.ntmps83
      go_wp2_with fail
      refine KG.out.mono ?_
      rintro e w1 ⟨rfl, rfl⟩
      go_wp2_with fail
      refine KT.out.mono ?_
      rintro e w2 ⟨rfl, hR2, hb2⟩
      go_wp2
      go_ret
      exact ⟨rfl, hR2, hb2⟩
  · rw [if_neg (fun h => hf h.1), if_neg (fun h => hf h.1), if_neg hf]
    have d : ((f : Int) != 0) = true := by simp; omega
    clear KG hu hv he
    go_enter Try.func83, Try.ntmps83
    go_wp2
    go_ret
    exact ⟨rfl, HR.out, OnlyB.refl _ _⟩
/-- What Done tells. -/
def rdD (l : List UInt8) (f : Nat) : Nat := if f = 0 then (if l = [] then 0 else 4) else f
end Go.Proofs.Ytjmmaghjbaigiaa
