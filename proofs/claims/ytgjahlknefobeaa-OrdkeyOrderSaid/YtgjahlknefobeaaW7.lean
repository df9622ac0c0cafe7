/- Contracts of a reader, where it has no error and meets none. -/
import Derived.Test.YtgjahlknefobeaaW6
import Derived.Test.YtgjahlknefobeaaW3
namespace Go.Proofs.Ytgjahlknefobeaa
open Go.RowKit
set_option linter.unusedVariables false

/-- Block g is a reader that has the bytes l left, and no error. -/
def RD (w : World) (g : Nat) (l : List UInt8) : Prop :=
  ∃ A c, l.length ≤ c ∧ RB w A l ∧ (∀ ad, A = some ad → ad.block < g) ∧ w.cell? ⟨g, 0, none⟩ = some (.slice A l.length c) ∧ w.cell? ⟨g, 1, none⟩ = some (.int .i64 0) ∧ w.frozen? ⟨g, 0, none⟩ = false ∧ w.frozen? ⟨g, 1, none⟩ = false
theorem RD.keep {w w' : World} {g : Nat} {l : List UInt8} (h : RD w g l) (hb : Below w.heap.size w w') : RD w' g l := by
  obtain ⟨A, c, h1, h2, h3, h4, h5, h6, h7⟩ := h
  have hg := lt_of_cell h4
  exact ⟨A, c, h1, h2.below hb, h3, (hb.cell (p := ⟨g, 0, none⟩) hg).trans h4, (hb.cell (p := ⟨g, 1, none⟩) hg).trans h5, (hb.frozen (p := ⟨g, 0, none⟩) hg).trans h6, (hb.frozen (p := ⟨g, 1, none⟩) hg).trans h7⟩
theorem OB.lt {base : Nat} {w : World} {ad : Addr} {n c : Nat} {l : List UInt8} (h : OB base w (.slice (some ad) n c) l) : ad.block < w.heap.size := by
  unfold OB at h
  exact (World.ownsRow.lt h ad.block rfl).2
theorem RB.setCell {w : World} {A : Option Addr} {l : List UInt8} (h : RB w A l) {p : Addr} (hne : ∀ ad, A = some ad → ad.block < p.block) (u : Value) : RB (w.setCell p u) A l := by
  rcases h with rfl | ⟨ad, rfl, hc⟩
  · exact .inl rfl
  · refine .inr ⟨ad, rfl, fun j x hx => ?_⟩
    rw [World.cell?_setCell_other w p (ad.add j) u (fun e => by have := hne ad rfl; rw [e, block_of_add] at this; omega)]
    exact hc j x hx

set_option maxHeartbeats 400000 in
theorem new_any (A : Option Addr) (n c : Nat) (l : List UInt8) (w : World) (hn : n ≤ 70368744177664) (hl : l.length = n) (hr : RB w A l) :
    Calls Try.prog 29 #[.slice A n c] w fun e w' => ∃ g, e = .returned (.pointer (some ⟨g, 0, none⟩)) ∧ RD w' g l ∧ w.heap.size ≤ g ∧ Below w.heap.size w w' := by
  go_enter Try.func29, Try.ntmps29
  go_wp2_with fail
  refine (clone_any A n c l _ hn hl hr).mono ?_
  rintro e w1 ⟨v1, rfl, ho, hb⟩
  obtain ⟨A1, c1, rfl, hc1, hr1⟩ := ho.form
  go_wp2
  go_ret
  refine ⟨w1.heap.size, rfl, ⟨A1, c1, hc1, hr1.alloc _, ?_, by simp [hl], by simp, by simp, by simp⟩, hb.size, hb.alloc hb.size _⟩
  intro ad e
  subst e
  exact ho.lt

theorem RD.moved {w : World} {g m base : Nat} {l : List UInt8} {A : Option Addr} {c : Nat} {B : Option Addr} {n d : Nat} (hm : m ≤ l.length) (hbase : base ≤ g) (h1 : l.length ≤ c) (h2 : RB w A l) (h3 : ∀ ad, A = some ad → ad.block < g)
    (h4 : w.cell? ⟨g, 0, none⟩ = some (.slice A l.length c)) (h5 : w.cell? ⟨g, 1, none⟩ = some (.int .i64 0)) (h6 : w.frozen? ⟨g, 0, none⟩ = false) (h7 : w.frozen? ⟨g, 1, none⟩ = false)
    (hB : B = A ∧ m = l.length ∨ B = A.map (fun x => x.add m)) (hn : n = l.length - m) (hd : d = c - m) :
    RD (w.setCell ⟨g, 0, none⟩ (.slice B n d)) g (l.drop m) ∧ Below base w (w.setCell ⟨g, 0, none⟩ (.slice B n d)) := by
  subst hn hd
  have hb3 : ∀ ad, B = some ad → ad.block < g := by
    rcases hB with ⟨rfl, _⟩ | rfl
    · exact h3
    · intro ad e
      rcases A with _ | a
      · cases e
      · simp only [Option.map_some, Option.some.injEq] at e
        subst e
        rw [block_of_add]
        exact h3 a rfl
  have hrb : RB w B (l.drop m) := by
    rcases hB with ⟨rfl, rfl⟩ | rfl
    · exact .inl (by simp)
    · rcases A with _ | a
      · rcases h2 with h | ⟨_, h, _⟩
        · subst h; exact .inl (by simp)
        · cases h
      · exact h2.drop m
  refine ⟨⟨B, c - m, by simp; omega, hrb.setCell hb3 _, hb3, ?_, ?_, ?_, ?_⟩, (Below.refl _ _).setCell hbase _⟩
  · rw [World.cell?_setCell_same' _ _ _ (by rw [h4]; rfl)]; simp
  · rw [World.cell?_setCell_other w _ _ _ (by simp)]; exact h5
  · simpa using h6
  · simpa using h7

set_option maxHeartbeats 400000 in
theorem take_ok (g m base : Nat) (l : List UInt8) (w : World) (hR : RD w g l) (hm : m ≤ l.length) (hl : l.length ≤ 70368744177664) (hbase : base ≤ g) :
    Calls Try.prog 41 #[.pointer (some ⟨g, 0, none⟩), .int .i64 m, .int .i64 0] w fun e w' => e = .returned (.bool true) ∧ RD w' g (l.drop m) ∧ Below base w w' := by
  obtain ⟨A, c, h1, h2, h3, h4, h5, h6, h7⟩ := hR
  have HM := Lib.hid (fun (B : Option Addr) (n d : Nat) => RD.moved (B := B) (n := n) (d := d) hm hbase h1 h2 h3 h4 h5 h6 h7)
  clear h3
  by_cases hc : c = m
  · have HC := Lib.hid (show m = l.length from by omega)
    go_enter Try.func41, Try.ntmps41
    go_wp2
    go_ret
    exact ⟨rfl, HM.out _ _ _ (.inl ⟨rfl, HC.out⟩) rfl (by omega)⟩
  · go_enter Try.func41, Try.ntmps41
    go_wp2
    go_ret
    exact ⟨rfl, HM.out _ _ _ (.inr rfl) rfl rfl⟩

theorem RD.len {w : World} {g : Nat} {l : List UInt8} (h : RD w g l) : g < w.heap.size := by
  obtain ⟨A, c, h1, h2, h3, h4, h5, h6, h7⟩ := h
  exact lt_of_cell h4

set_option maxHeartbeats 400000 in
theorem text_ok (g m most base : Nat) (l t : List UInt8) (w : World) (hR : RD w g l) (hl : l.length ≤ 17592186044416) (hg : getText l = (t, m, 0)) (hm : m ≤ l.length) (ht : t.length ≤ most) (hbase : base ≤ g) :
    Calls Try.prog 30 #[.pointer (some ⟨g, 0, none⟩), .int .i64 most] w fun e w' => e = .returned (.string (str t)) ∧ RD w' g (l.drop m) ∧ Below base w w' := by
  have HG := Lib.hid hg
  have HR := Lib.hid hR
  have hgl := hR.len
  obtain ⟨A, c, h1, h2, h3, h4, h5, h6, h7⟩ := hR
  have hsz : (str t).size ≤ most := by rw [str_size]; exact ht
  clear hg h3
  go_enter Try.func30, Try.ntmps30
  go_wp2_with fail
  refine (getText_any A l.length c l _ hl rfl h2).mono ?_
  rw [HG.out]
  rintro e w1 ⟨rfl, hb⟩
  go_wp2_with fail
  refine (take_ok g m base l _ (HR.out.keep hb) hm (by omega) hbase).mono ?_
  rintro e w2 ⟨rfl, hR2, hb2⟩
  go_wp2
  go_ret
  exact ⟨rfl, hR2, (hb.mono (by omega)).trans hb2⟩

set_option maxHeartbeats 400000 in
theorem small_ok (g m v base : Nat) (l : List UInt8) (w : World) (hR : RD w g l) (hl : l.length ≤ 17592186044416) (hg : getSmall l = (v, m, 0)) (hm : m ≤ l.length) (hv : v ≤ 1099511627776) (hbase : base ≤ g) :
    Calls Try.prog 31 #[.pointer (some ⟨g, 0, none⟩)] w fun e w' => e = .returned (.int .i64 v) ∧ RD w' g (l.drop m) ∧ Below base w w' := by
  have HG := Lib.hid hg
  have HR := Lib.hid hR
  have hgl := hR.len
  obtain ⟨A, c, h1, h2, h3, h4, h5, h6, h7⟩ := hR
  clear hg h3
  go_enter Try.func31, Try.ntmps31
  go_wp2_with fail
  refine (getSmall_any A l.length c l _ (by omega) rfl h1 h2).mono ?_
  rw [HG.out]
  rintro e w1 ⟨rfl, rfl⟩
  go_wp2_with fail
  refine (take_ok g m base l _ HR.out hm (by omega) hbase).mono ?_
  rintro e w2 ⟨rfl, hR2, hb2⟩
  go_wp2
  go_ret
  exact ⟨rfl, hR2, hb2⟩

set_option maxHeartbeats 400000 in
theorem done_ok (g : Nat) (w : World) (hR : RD w g []) : Calls Try.prog 32 #[.pointer (some ⟨g, 0, none⟩)] w fun e w' => e = .returned (.int .i64 0) ∧ w = w' := by
  obtain ⟨A, c, h1, h2, h3, h4, h5, h6, h7⟩ := hR
  clear h3
  rw [List.length_nil] at h4
  go_enter Try.func32, Try.ntmps32
  go_wp2
  go_ret
  exact ⟨rfl, rfl⟩

end Go.Proofs.Ytgjahlknefobeaa
