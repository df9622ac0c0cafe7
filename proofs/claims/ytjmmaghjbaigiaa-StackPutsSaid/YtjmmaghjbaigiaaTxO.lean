/- A reader of which it is known how far down its row may lie. -/
import Derived.Test.YtjmmaghjbaigiaaTxR
namespace Go.Proofs.Ytjmmaghjbaigiaa
open Go.RowKit
set_option linter.unusedVariables false
set_option linter.unusedSimpArgs false
theorem OB.bge {base : Nat} {w : World} {ad : Addr} {n c : Nat} {l : List UInt8} (h : OB base w (.slice (some ad) n c) l) : base ≤ ad.block := by
  unfold OB at h
  exact (World.ownsRow.lt h ad.block rfl).1
/-- Block g is a reader that has the bytes l left, and the error f. -/
def RDO (b : Nat) (w : World) (g : Nat) (l : List UInt8) (f : Nat) : Prop :=
  ∃ A c, l.length ≤ c ∧ RB w A l ∧ (∀ ad, A = some ad → b ≤ ad.block ∧ ad.block < g) ∧ w.cell? ⟨g, 0, none⟩ = some (.slice A l.length c) ∧ w.cell? ⟨g, 1, none⟩ = some (.int .i64 (f : Int)) ∧ w.frozen? ⟨g, 0, none⟩ = false ∧ w.frozen? ⟨g, 1, none⟩ = false
theorem RDO.keep {b : Nat} {w w' : World} {g f : Nat} {l : List UInt8} (h : RDO b w g l f) (hb : Below w.heap.size w w') : RDO b w' g l f := by
  obtain ⟨A, c, h1, h2, h3, h4, h5, h6, h7⟩ := h
  have hg := lt_of_cell h4
  exact ⟨A, c, h1, h2.below hb, h3, (hb.cell (p := ⟨g, 0, none⟩) hg).trans h4, (hb.cell (p := ⟨g, 1, none⟩) hg).trans h5, (hb.frozen (p := ⟨g, 0, none⟩) hg).trans h6, (hb.frozen (p := ⟨g, 1, none⟩) hg).trans h7⟩
theorem RDO.stay {b : Nat} {w w' : World} {g f : Nat} {l : List UInt8} (h : RDO b w g l f) {base : Nat} (hg : g < base) (hb : Below base w w') : RDO b w' g l f := by
  obtain ⟨A, c, h1, h2, h3, h4, h5, h6, h7⟩ := h
  refine ⟨A, c, h1, ?_, h3, (hb.cell (p := ⟨g, 0, none⟩) hg).trans h4, (hb.cell (p := ⟨g, 1, none⟩) hg).trans h5, (hb.frozen (p := ⟨g, 0, none⟩) hg).trans h6, (hb.frozen (p := ⟨g, 1, none⟩) hg).trans h7⟩
  rcases h2 with rfl | ⟨ad, rfl, hc⟩
  · exact .inl rfl
  · refine .inr ⟨ad, rfl, fun j x hx => ?_⟩
    have := (h3 ad rfl).2
    exact (hb.cell (p := ad.add j) (by rw [block_of_add]; omega)).trans (hc j x hx)
theorem RDO.box {b : Nat} {w : World} {g f : Nat} {l : List UInt8} (h : RDO b w g l f) {p : Addr} (hp : p.block < b) (hg : p.block < g) (v : Value) : RDO b (w.setCell p v) g l f := by
  obtain ⟨A, c, h1, h2, h3, h4, h5, h6, h7⟩ := h
  refine ⟨A, c, h1, ?_, h3, ?_, ?_, ?_, ?_⟩
  · rcases h2 with rfl | ⟨ad, rfl, hc⟩
    · exact .inl rfl
    · refine .inr ⟨ad, rfl, fun j x hx => ?_⟩
      rw [World.cell?_setCell_other w p (ad.add j) v (fun e => by have := (h3 ad rfl).1; rw [e, block_of_add] at hp; omega)]
      exact hc j x hx
  · rw [World.cell?_setCell_other w p _ v (fun e => by rw [e] at hg; exact Nat.lt_irrefl _ hg)]; exact h4
  · rw [World.cell?_setCell_other w p _ v (fun e => by rw [e] at hg; exact Nat.lt_irrefl _ hg)]; exact h5
  · simpa using h6
  · simpa using h7
theorem RDO.lt {b : Nat} {w : World} {g f : Nat} {l : List UInt8} (h : RDO b w g l f) : g < w.heap.size := by
  obtain ⟨A, c, h1, h2, h3, h4, h5, h6, h7⟩ := h
  exact lt_of_cell h4
set_option maxHeartbeats 400000 in
theorem okNewO_any (A : Option Addr) (n c : Nat) (l : List UInt8) (w : World) (hn : n ≤ 70368744177664) (hl : l.length = n) (hr : RB w A l) :
    Calls Try.prog 81 #[.slice A n c] w fun e w' => ∃ g, e = .returned (.pointer (some ⟨g, 0, none⟩)) ∧ RDO w.heap.size w' g l 0 ∧ w.heap.size ≤ g ∧ Below w.heap.size w w' := by
  go_enter Try.func81, Try.ntmps81
  go_wp2_with fail
  refine (clone_any A n c l _ hn hl hr).mono ?_
  rintro e w1 ⟨v1, rfl, ho, hb⟩
  obtain ⟨A1, c1, rfl, hc1, hr1⟩ := ho.form
  go_wp2
  go_ret
  refine ⟨w1.heap.size, rfl, ⟨A1, c1, hc1, hr1.alloc _, ?_, by simp [hl], by simp, by simp, by simp⟩, hb.size, hb.alloc hb.size _⟩
  intro ad e
  subst e
  exact ⟨ho.bge, ho.blt⟩
theorem RDO.moved {b : Nat} {w : World} {g m : Nat} {l : List UInt8} {A : Option Addr} {c : Nat} {B : Option Addr} {n d : Nat} (hm : m ≤ l.length) (h1 : l.length ≤ c) (h2 : RB w A l) (h3 : ∀ ad, A = some ad → b ≤ ad.block ∧ ad.block < g)
    (h4 : w.cell? ⟨g, 0, none⟩ = some (.slice A l.length c)) (h5 : w.cell? ⟨g, 1, none⟩ = some (.int .i64 ((0 : Nat) : Int))) (h6 : w.frozen? ⟨g, 0, none⟩ = false) (h7 : w.frozen? ⟨g, 1, none⟩ = false)
    (hB : B = A ∧ m = l.length ∨ B = A.map (fun x => x.add m)) (hn : n = l.length - m) (hd : d = c - m) :
    RDO b (w.setCell ⟨g, 0, none⟩ (.slice B n d)) g (l.drop m) 0 ∧ OnlyB g w (w.setCell ⟨g, 0, none⟩ (.slice B n d)) := by
  subst hn hd
  have hb3 : ∀ ad, B = some ad → b ≤ ad.block ∧ ad.block < g := by
    rcases hB with ⟨rfl, _⟩ | rfl
    · exact h3
    · intro ad e
      rcases A with _ | a
      · cases e
      · simp only [Option.map_some, Option.some.injEq] at e
        subst e
        rw [block_of_add]
        exact h3 a rfl
  have hrb : RB w B (l.drop m) := by
    rcases hB with ⟨rfl, rfl⟩ | rfl
    · exact .inl (by simp)
    · rcases A with _ | a
      · rcases h2 with h | ⟨_, h, _⟩
        · subst h; exact .inl (by simp)
        · cases h
      · exact h2.drop m
  refine ⟨⟨B, c - m, by simp; omega, hrb.setCell (fun ad e => (hb3 ad e).2) _, hb3, ?_, ?_, ?_, ?_⟩, OnlyB.set _ _ _ _⟩
  · rw [World.cell?_setCell_same' _ _ _ (by rw [h4]; rfl)]; simp
  · rw [World.cell?_setCell_other w _ _ _ (by simp)]; exact h5
  · simpa using h6
  · simpa using h7
theorem RDO.fail {b : Nat} {w : World} {g f e : Nat} {l : List UInt8} (h : RDO b w g l f) (z : Int) (hz : z = (e : Int)) : RDO b (w.setCell ⟨g, 1, none⟩ (.int .i64 z)) g l e ∧ OnlyB g w (w.setCell ⟨g, 1, none⟩ (.int .i64 z)) := by
  subst hz
  obtain ⟨A, c, h1, h2, h3, h4, h5, h6, h7⟩ := h
  refine ⟨⟨A, c, h1, h2.setCell (fun ad e => (h3 ad e).2) _, h3, ?_, ?_, ?_, ?_⟩, OnlyB.set _ _ _ _⟩
  · rw [World.cell?_setCell_other w _ _ _ (by simp)]; exact h4
  · rw [World.cell?_setCell_same' _ _ _ (by rw [h5]; rfl)]
  · simpa using h6
  · simpa using h7
set_option maxHeartbeats 400000 in
theorem okTake_okO (b g m : Nat) (l : List UInt8) (w : World) (hR : RDO b w g l 0) (hm : m ≤ l.length) (hl : l.length ≤ 70368744177664) :
    Calls Try.prog 107 #[.pointer (some ⟨g, 0, none⟩), .int .i64 m, .int .i64 0] w fun e w' => e = .returned (.bool true) ∧ RDO b w' g (l.drop m) 0 ∧ OnlyB g w w' := by
  obtain ⟨A, c, h1, h2, h3, h4, h5, h6, h7⟩ := hR
  have HM := Lib.hid (fun (B : Option Addr) (n d : Nat) => RDO.moved (B := B) (n := n) (d := d) hm h1 h2 h3 h4 h5 h6 h7)
  clear h3
  by_cases hc : c = m
  · have HC := Lib.hid (show m = l.length from by omega)
    go_enter Try.func107, Try.ntmps107
    go_wp2
    go_ret
    exact ⟨rfl, HM.out _ _ _ (.inl ⟨rfl, HC.out⟩) rfl (by omega)⟩
  · go_enter Try.func107, Try.ntmps107
    go_wp2
    go_ret
    exact ⟨rfl, HM.out _ _ _ (.inr rfl) rfl rfl⟩
set_option maxHeartbeats 400000 in
theorem okTake_badO (b g m f : Nat) (l : List UInt8) (w : World) (hR : RDO b w g l 0) (hf : 0 < f) :
    Calls Try.prog 107 #[.pointer (some ⟨g, 0, none⟩), .int .i64 m, .int .i64 (f : Int)] w fun e w' => e = .returned (.bool false) ∧ RDO b w' g l f ∧ OnlyB g w w' := by
  have HM := Lib.hid (fun z (hz : z = (f : Int)) => hR.fail z hz)
  obtain ⟨A, c, h1, h2, h3, h4, h5, h6, h7⟩ := hR
  have hne : ((f : Int) != 0) = true := by simp; omega
  clear h3
  go_enter Try.func107, Try.ntmps107
  go_wp2
  go_ret
  exact ⟨rfl, HM.out _ rfl⟩
set_option maxHeartbeats 800000 in
theorem okSmallO_any (b g f : Nat) (l : List UInt8) (w : World) (hR : RDO b w g l f) (hl : l.length ≤ 17592186044416) :
    Calls Try.prog 83 #[.pointer (some ⟨g, 0, none⟩)] w fun e w' => e = .returned (.int .i64 (rdV l f : Int)) ∧ RDO b w' g (rdL l f) (rdF l f) ∧ OnlyB g w w' := by
  have HR := Lib.hid hR
  obtain ⟨A, c, h1, h2, h3, h4, h5, h6, h7⟩ := hR
  have KG := getSmall_any A l.length c l w (by omega) rfl h1 h2
  have hu := getSmall_use l
  have hv := getSmall_lt l
  have he := getSmall_err l
  unfold rdV rdL rdF
  clear h3
  by_cases hf : f = 0
  · subst hf
    generalize getSmall l = G at *
    obtain ⟨v, m, e⟩ := G
    dsimp only at *
    by_cases he0 : e = 0
    · subst he0
      by_cases hv2 : v ≤ 1099511627776
      · rw [if_pos ⟨rfl, rfl, hv2⟩, if_pos ⟨rfl, rfl, hv2⟩, if_pos rfl, if_pos rfl, if_pos hv2]
        have d : decide ((1099511627776 : Int) < (v : Int)) = false := by simp; omega
        have KG := Lib.hid KG
        have KT := Lib.hid (okTake_okO b g m l w HR.out hu (by omega))
        go_enter Try.func83, Try.ntmps83
        go_wp2_with fail
        refine KG.out.mono ?_
        rintro e w1 ⟨rfl, rfl⟩
        go_wp2_with fail
        refine KT.out.mono ?_
        rintro e w2 ⟨rfl, hR2, hb2⟩
        go_wp2
        go_ret
        exact ⟨rfl, hR2, hb2⟩
      · rw [if_neg (fun h => hv2 h.2.2), if_neg (fun h => hv2 h.2.2), if_pos rfl, if_pos rfl, if_neg hv2]
        have d : (1099511627776 : Int) < (v : Int) := by omega
        have KG := Lib.hid KG
        have KT := Lib.hid (okTake_badO b g m 9 l w HR.out (by omega))
        go_enter Try.func83, Try.ntmps83
        go_wp2_with fail
        refine KG.out.mono ?_
        rintro e w1 ⟨rfl, rfl⟩
        go_wp2_with fail
        refine KT.out.mono ?_
        rintro e w2 ⟨rfl, hR2, hb2⟩
        go_wp2
        go_ret
        exact ⟨rfl, hR2, hb2⟩
    · rw [if_neg (fun h => he0 h.2.1), if_neg (fun h => he0 h.2.1), if_pos rfl, if_neg he0]
      have d : ((e : Int) == 0) = false := by simp; omega
      have KG := Lib.hid KG
      have KT := Lib.hid (okTake_badO b g m e l w HR.out (by omega))
      go_enter Try.func83, Try.ntmps83
      go_wp2_with fail
      refine KG.out.mono ?_
      rintro e w1 ⟨rfl, rfl⟩
      go_wp2_with fail
      refine KT.out.mono ?_
      rintro e w2 ⟨rfl, hR2, hb2⟩
      go_wp2
      go_ret
      exact ⟨rfl, hR2, hb2⟩
  · rw [if_neg (fun h => hf h.1), if_neg (fun h => hf h.1), if_neg hf]
    have d : ((f : Int) != 0) = true := by simp; omega
    clear KG hu hv he
    go_enter Try.func83, Try.ntmps83
    go_wp2
    go_ret
    exact ⟨rfl, HR.out, OnlyB.refl _ _⟩
set_option maxHeartbeats 1000000 in
set_option maxRecDepth 100000 in
theorem okTextO_any (b g f most : Nat) (l : List UInt8) (w : World) (hR : RDO b w g l f) (hl : l.length ≤ 17592186044416) (hmost : most ≤ 17592186044416) :
    Calls Try.prog 82 #[.pointer (some ⟨g, 0, none⟩), .int .i64 (most : Int)] w fun e w' => e = .returned (.string (str (rtV l f most))) ∧ RDO b w' g (rtL l f most) (rtF l f most) ∧ Below g w w' := by
  have HR := Lib.hid hR
  have hg := Lib.hid hR.lt
  obtain ⟨A, c, h1, h2, h3, h4, h5, h6, h7⟩ := hR
  have KG := Lib.hid (getText_any A l.length c l w (by omega) rfl h2)
  clear h3
  by_cases hf : f = 0
  · subst hf
    have hu := getText_use l
    have he := getText_err l
    by_cases he0 : (getText l).2.2 = 0
    · by_cases hv2 : (getText l).1.length ≤ most
      · obtain ⟨r1, r2, r3⟩ := rt_good he0 hv2
        rw [r1, r2, r3]
        rw [he0] at KG
        have KT := Lib.hid (fun W (h : RDO b W g l 0) => okTake_okO b g (getText l).2.1 l W h hu (by omega))
        have hsz := str_size (getText l).1
        generalize (getText l).2.1 = m at *
        generalize (getText l).1 = t at *
        have d : decide (most < (str t).size) = false := by rw [hsz]; simp; omega
        clear he0 hv2 r1 r2 r3 hsz he hu
        generalize l.drop m = R at *
        go_enter Try.func82, Try.ntmps82
        go_wp2_with fail
        refine KG.out.mono ?_
        rintro e w1 ⟨rfl, b1⟩
        have R1 := Lib.hid (HR.out.keep b1)
        go_wp2_with fail
        refine (KT.out _ R1.out).mono ?_
        rintro e w2 ⟨rfl, hR2, hb2⟩
        have B2 := Lib.hid ((b1.mono (Nat.le_of_lt hg.out)).trans (hb2.below (Nat.le_refl _)))
        have R2 := Lib.hid hR2
        clear b1 hb2 hR2
        go_wp2
        go_ret
        exact ⟨rfl, R2.out, B2.out⟩
      · obtain ⟨r1, r2, r3⟩ := rt_big (m := most) he0 (by omega)
        rw [r1, r2, r3]
        rw [he0] at KG
        have KT := Lib.hid (fun W (h : RDO b W g l 0) => okTake_badO b g (getText l).2.1 5 l W h (by omega))
        have hsz := str_size (getText l).1
        generalize (getText l).2.1 = m at *
        generalize (getText l).1 = t at *
        have d : most < (str t).size := by rw [hsz]; omega
        clear he0 hv2 r1 r2 r3 hsz he hu
        go_enter Try.func82, Try.ntmps82
        go_wp2_with fail
        refine KG.out.mono ?_
        rintro e w1 ⟨rfl, b1⟩
        have R1 := Lib.hid (HR.out.keep b1)
        go_wp2_with fail
        refine (KT.out _ R1.out).mono ?_
        rintro e w2 ⟨rfl, hR2, hb2⟩
        have B2 := Lib.hid ((b1.mono (Nat.le_of_lt hg.out)).trans (hb2.below (Nat.le_refl _)))
        have R2 := Lib.hid hR2
        clear b1 hb2 hR2
        go_wp2
        go_ret
        exact ⟨rfl, R2.out, B2.out⟩
    · obtain ⟨r1, r2, r3⟩ := rt_form most he0
      rw [r1, r2, r3]
      have d : (((getText l).2.2 : Int) == 0) = false := by simp; omega
      have KT := Lib.hid (fun W (h : RDO b W g l 0) => okTake_badO b g (getText l).2.1 (getText l).2.2 l W h (by omega))
      generalize (getText l).2.1 = m at *
      generalize (getText l).1 = t at *
      generalize (getText l).2.2 = er at *
      clear he0 r1 r2 r3 he hu
      go_enter Try.func82, Try.ntmps82
      go_wp2_with fail
      refine KG.out.mono ?_
      rintro e w1 ⟨rfl, b1⟩
      have R1 := Lib.hid (HR.out.keep b1)
      go_wp2_with fail
      refine (KT.out _ R1.out).mono ?_
      rintro e w2 ⟨rfl, hR2, hb2⟩
      have B2 := Lib.hid ((b1.mono (Nat.le_of_lt hg.out)).trans (hb2.below (Nat.le_refl _)))
      have R2 := Lib.hid hR2
      clear b1 hb2 hR2
      go_wp2
      go_ret
      exact ⟨rfl, R2.out, B2.out⟩
  · obtain ⟨r1, r2, r3⟩ := rt_err (l := l) most hf
    rw [r1, r2, r3]
    have d : ((f : Int) != 0) = true := by simp; omega
    clear KG r1 r2 r3 hf
    go_enter Try.func82, Try.ntmps82
    go_wp2
    go_ret
    exact ⟨rfl, HR.out, Below.refl _ _⟩
theorem okLeftO_any (b g f : Nat) (l : List UInt8) (w : World) (hR : RDO b w g l f) : Calls Try.prog 85 #[.pointer (some ⟨g, 0, none⟩)] w fun e w' => e = .returned (.int .i64 (l.length : Int)) ∧ w = w' := by
  obtain ⟨A, c, h1, h2, h3, h4, h5, h6, h7⟩ := hR
  clear h3 h1
  generalize l.length = n at *
  go_enter Try.func85, Try.ntmps85
  go_wp2
  go_ret
  exact ⟨rfl, rfl⟩
end Go.Proofs.Ytjmmaghjbaigiaa
