/- Slots: awake. -/
import Derived.Test.YtlpobinmkedgeaaSlJ
import Derived.Test.YtlpobinmkedgeaaSlH
namespace Go.Proofs.Ytlpobinmkedgeaa
open Go.RowKit
set_option linter.unusedVariables false
set_option linter.unusedSimpArgs false
theorem RBS.take {w : World} {A : Option Addr} {L : List (List UInt8)} (h : RBS w A L) (k : Nat) : RBS w A (L.take k) := fun j l hj => by
  rw [List.getElem?_take] at hj
  split at hj
  · exact h j l hj
  · cases hj
theorem RBS.drop {w : World} {ad : Addr} {L : List (List UInt8)} (h : RBS w (some ad) L) (k : Nat) : RBS w (some (ad.add k)) (L.drop k) := fun j l hj => by
  rw [List.getElem?_drop] at hj
  obtain ⟨ad', B, c, e, h1, h2⟩ := h _ l hj
  injection e with e
  subst e
  exact ⟨_, B, c, rfl, by rw [add_of_add]; exact h1, h2⟩
theorem add_pos (ad : Addr) (k : Nat) (h : 0 < k) : ad.add k = ⟨ad.block, ad.off + k, none⟩ := by unfold Addr.add; rw [if_neg (by omega)]
/-- What is laid of two bytes. -/
def abL : List (List UInt8) := putL 5 [97, 98]
theorem ab_len : abL.length = 4 := rfl
theorem ab_stamp : stampP (abL.getD 3 []) = 5 := by kernel_rfl
theorem ab_seen : seenP (abL.drop 1) = 5 := by kernel_rfl
theorem ab_cut : ((abL.getD 0 []).drop 7).take 7 = [5, 0, 0, 2, 97, 98, 0] := by kernel_rfl
theorem ab_last : (abL.getD 0 [])[255]? = some 5 := by kernel_rfl
theorem ab_l0 : (abL.getD 0 []).length = 256 := by kernel_rfl
theorem ab_l3 : (abL.getD 3 []).length = 256 := by kernel_rfl
theorem ab_0 : abL[0]? = some (abL.getD 0 []) := by kernel_rfl
theorem ab_3 : abL[3]? = some (abL.getD 3 []) := by kernel_rfl
set_option maxHeartbeats 2000000 in
set_option maxRecDepth 100000 in
theorem awake_any (w : World) : Calls Try.prog 7 #[] w fun e w' => e = .returned (.bool true) ∧ Below w.heap.size w w' := by
  have kc := fun (w : World) (C : Array Value) (n c : Nat) => Lib.run_convert_bytes_const (P := Try.prog) w 22 5 C n c Try.underlying22 Try.underlying5
  have KP := Lib.hid (fun ad W hr => put_ok 5 (some ad) 2 2 [97, 98] W (by omega) (by omega) rfl (by omega) (Nat.le_refl _) hr)
  go_enter Try.func7, Try.ntmps7
  go_wp2_with fail
  refine (KP.out _ _ (RB.mark w [97, 98] _ _ rfl)).mono ?_
  rintro e w1 ⟨ad, rfl, r1, _, b1⟩
  have B1 := Lib.hid (show Below w.heap.size w w1 from ((Below.refl _ w).alloc (Nat.le_refl _) _).trans (b1.mono (by rw [heap_size_alloc]; exact Nat.le_succ _)))
  have HR := Lib.hid (show RBS w1 (some ad) abL from r1)
  have K2 := Lib.hid (get_any (some ad) 4 4 abL w1 ab_len (Nat.le_refl _) (by decide) HR.out)
  obtain ⟨e1, e2, e3⟩ := get_putL (g := 5) (b := [97, 98]) (by decide) (by omega) (by decide)
  unfold GetPost at K2
  have hE : getE abL = 0 := e1
  have hG : getG abL = 5 := e2
  have hB : getB abL = [97, 98] := e3
  rw [hE, hG, hB] at K2
  clear kc KP r1 b1 e1 e2 e3 hE hG hB
  go_wp2_with fail
  refine K2.out.mono ?_
  rintro e w2 ⟨v2, rfl, o2, b2⟩
  obtain ⟨A2, c2, rfl, _, r2⟩ := o2.form
  have B2 := Lib.hid (B1.out.trans (b2.mono B1.out.size))
  have HR2 := Lib.hid (HR.out.below b2)
  have S2 := Lib.hid r2
  obtain ⟨X0, d0, y0, y1, y2, y3⟩ := HR2.out.at ab_0
  obtain ⟨X3, d3, z0, z1, z2, z3⟩ := HR2.out.at ab_3
  rw [Addr.add_nought] at y0
  rw [add_pos ad 3 (by omega)] at z0
  rw [ab_l0] at y0 y1
  rw [ab_l3] at z0 z1
  have K3 := Lib.hid (stamp_any X3 256 d3 (abL.getD 3 []) w2 ab_l3 z1 z2 z3)
  have hok : okP (abL.getD 3 []) = true := by unfold okP; rw [ab_stamp]; rfl
  rw [ab_stamp, hok] at K3
  have K4 := Lib.hid (fun W (h : Below w2.heap.size w2 W) => get_any (some ad) 3 4 (abL.take 3) W rfl (by decide) (by decide) ((HR2.out.below h).take 3))
  have he3 := getE_3 (shared_len (L := abL.take 3) (by decide))
  unfold GetPost at K4
  rw [he3.1, he3.2.1, he3.2.2] at K4
  have K5 := Lib.hid (fun W (h : Below w2.heap.size w2 W) => seen_any (some (ad.add 1)) 3 3 (abL.drop 1) W rfl (by decide) (by decide) ((HR2.out.below h).drop 1))
  rw [ab_seen, add_pos ad 1 (by omega)] at K5
  obtain ⟨bd, hbd⟩ := y3.some_of (by rw [ab_l0]; omega)
  subst hbd
  have HY0 := Lib.hid (show ∀ W, Below w2.heap.size w2 W → W.cell? ad = some (.slice (some bd) 256 d0) from fun W h => (h.cell (lt_of_cell y0)).trans y0)
  have HY3 := Lib.hid (show ∀ W, Below w2.heap.size w2 W → RB W (some bd) (abL.getD 0 []) from fun W h => y3.below h)
  clear K2 b2 o2 r2 hok he3 z1 z2 z3 y2 y3 HR HR2
  go_wp2_with (go_at_call 14; refine K3.out.mono ?_; rintro e w3 ⟨rfl, b3⟩)
  refine (K4.out w3 b3).mono ?_
  rintro e w4 ⟨v4, rfl, o4, b4⟩
  obtain ⟨A4, c4, rfl, _, _⟩ := o4.form
  have D4 := Lib.hid (b3.trans (b4.mono b3.size))
  have hs1 := run_str w4 A2 2 c2 [97, 98] rfl (S2.out.below D4.out)
  rw [show str [97, 98] = ⟨#[97, 98]⟩ from rfl] at hs1
  have hd0 : (14 : Int) ≤ (d0 : Int) := by omega
  have hd7 : ¬ d0 = 7 := by omega
  have HCUT := Lib.hid (show ∀ W, Below w2.heap.size w2 W → (convert 22 9 (.slice (some ⟨bd.block, bd.off + 7, none⟩) 7 (d0 - 7))).run Try.prog W = .ok (.string ⟨#[5, 0, 0, 2, 97, 98, 0]⟩) W from fun W h => by
    have h5 := ((HY3.out W h).drop 7).take 7
    rw [ab_cut, add_pos bd 7 (by omega)] at h5
    exact run_str W _ 7 (d0 - 7) [5, 0, 0, 2, 97, 98, 0] rfl h5)
  have HLAST := Lib.hid (show ∀ W, Below w2.heap.size w2 W → W.cell? ⟨bd.block, bd.off + 255, none⟩ = some (.int .u8 5) from fun W h => by
    obtain ⟨ad', x, e, hx, hc⟩ := (HY3.out W h).at_ (k := 255) (by rw [ab_l0]; omega)
    injection e with e
    subst e
    rw [ab_last] at hx
    injection hx with hx
    subst hx
    rw [add_pos bd 255 (by omega)] at hc
    exact hc)
  clear b3 b4 o4 K3 K4 y0 z0 y1
  go_wp2_with (go_at_call 16; refine (K5.out w4 D4.out).mono ?_; rintro e w5 ⟨rfl, b5⟩; have D5 := Lib.hid (D4.out.trans (b5.mono D4.out.size)); have y5 := HY0.out w5 D5.out; have hs5 := HCUT.out w5 D5.out; have hl5 := HLAST.out w5 D5.out)
  go_ret
  exact ⟨rfl, B2.out.trans (D5.out.mono B2.out.size)⟩
end Go.Proofs.Ytlpobinmkedgeaa
