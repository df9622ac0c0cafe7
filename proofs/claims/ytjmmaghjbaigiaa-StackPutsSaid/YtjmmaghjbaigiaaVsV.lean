/- Stacks as bytes: what the program guesses. -/
import Derived.Test.YtjmmaghjbaigiaaVsU
import Derived.Test.YtjmmaghjbaigiaaVsH
import Derived.Test.YtjmmaghjbaigiaaTxO
namespace Go.Proofs.Ytjmmaghjbaigiaa
open Go.RowKit
set_option linter.unusedVariables false
set_option linter.unusedSimpArgs false
theorem StBox.same {W W' : World} {q : Nat} {key : ByteArray} {A : Option Addr} {n c : Nat} (h : StBox W q key A n c) (hb : W'.heap[q]? = W.heap[q]?) : StBox W' q key A n c := by
  have hc : ∀ i, W'.cell? ⟨q, i, none⟩ = W.cell? ⟨q, i, none⟩ := fun i => cell_same (p := ⟨q, i, none⟩) hb
  have hf : ∀ i, W'.frozen? ⟨q, i, none⟩ = W.frozen? ⟨q, i, none⟩ := fun i => by unfold World.frozen?; rw [hb]
  exact ⟨(hc 0).trans h.c0, (hc 1).trans h.c1, (hf 0).trans h.f0, (hf 1).trans h.f1⟩
theorem VnBox.same {W W' : World} {q : Nat} {v : Vn} (h : VnBox W q v) (hb : W'.heap[q]? = W.heap[q]?) : VnBox W' q v := by
  have hc : ∀ i, W'.cell? ⟨q, i, none⟩ = W.cell? ⟨q, i, none⟩ := fun i => cell_same (p := ⟨q, i, none⟩) hb
  have hf : ∀ i, W'.frozen? ⟨q, i, none⟩ = W.frozen? ⟨q, i, none⟩ := fun i => by unfold World.frozen?; rw [hb]
  exact ⟨(hc 0).trans h.c0, (hc 1).trans h.c1, (hc 2).trans h.c2, (hc 3).trans h.c3, (hf 0).trans h.f0, (hf 1).trans h.f1, (hf 2).trans h.f2, (hf 3).trans h.f3⟩
theorem OG.sameV {T : TypeId} {base : Nat} {w w' : World} {v : Value} {l : List Vn} (h : OG KV T base w v l) (hk : ∀ b, v.ownBlock = some b → w'.heap[b]? = w.heap[b]?) : OG KV T base w' v l := by
  obtain ⟨css, h1, h2, h3⟩ := h
  exact ⟨css, ownsRow_keepB h1 hk, h2, h3⟩
theorem RDO.same {b : Nat} {w w' : World} {g f : Nat} {l : List UInt8} (h : RDO b w g l f) (hg : w'.heap[g]? = w.heap[g]?) (hk : ∀ k, b ≤ k → k < g → w'.heap[k]? = w.heap[k]?) : RDO b w' g l f := by
  obtain ⟨A, c, h1, h2, h3, h4, h5, h6, h7⟩ := h
  have hc : ∀ i, w'.cell? ⟨g, i, none⟩ = w.cell? ⟨g, i, none⟩ := fun i => cell_same (p := ⟨g, i, none⟩) hg
  have hf : ∀ i, w'.frozen? ⟨g, i, none⟩ = w.frozen? ⟨g, i, none⟩ := fun i => by unfold World.frozen?; rw [hg]
  refine ⟨A, c, h1, ?_, h3, (hc 0).trans h4, (hc 1).trans h5, (hf 0).trans h6, (hf 1).trans h7⟩
  rcases h2 with rfl | ⟨ad, rfl, hx⟩
  · exact .inl rfl
  · refine .inr ⟨ad, rfl, fun j x hj => ?_⟩
    have := h3 ad rfl
    exact (cell_same (p := ad.add j) (by rw [block_of_add]; exact hk _ this.1 this.2)).trans (hx j x hj)
theorem RB.tail1 {w : World} {ad : Addr} {l : List UInt8} (h : RB w (some ad) l) : RB w (some (ad.add 1)) l.tail := by
  have := h.drop 1
  rwa [List.drop_one] at this
set_option maxHeartbeats 2000000 in
theorem vsAhead_any (A : Option Addr) (n c : Nat) (l : List UInt8) (w : World) (hn : n ≤ 17592186044416) (hl : l.length = n) (hc : n ≤ c) (hr : RB w A l) :
    Calls Try.prog 84 #[.slice A n c] w fun e w' => ∃ g, e = .returned (.tuple #[.bool (l.headD 0 == 1), .pointer (some ⟨g, 0, none⟩)]) ∧ RDO w.heap.size w' g l.tail 0 ∧ w.heap.size ≤ g ∧ Below w.heap.size w w' := by
  cases l with
  | nil =>
    obtain rfl : n = 0 := hl.symm
    have K := Lib.hid (okNewO_any none 0 0 [] w (by omega) rfl (.inl rfl))
    clear hr hl
    go_enter Try.func84, Try.ntmps84
    go_wp2_with (go_at_call 81; refine K.out.mono ?_; rintro e w1 ⟨g, rfl, h1, h2, h3⟩; have H1 := Lib.hid h1; have H2 := Lib.hid h2; have H3 := Lib.hid h3; clear h1 h2 h3)
    go_ret2
    exact ⟨g, rfl, H1.out, H2.out, H3.out⟩
  | cons x r =>
    obtain ⟨ad, y, rfl, hy, hcy⟩ := hr.at_ (k := 0) (by simp)
    simp at hy
    subst hy
    rw [Addr.add_nought] at hcy
    have hln : n = r.length + 1 := by rw [← hl]; rfl
    have HE : Hid (((x.toNat : Int) == 1) = (x == 1)) := Lib.hid (by
      rw [Bool.eq_iff_iff, beq_iff_eq, beq_iff_eq, ← UInt8.toNat_inj]
      show (x.toNat : Int) = 1 ↔ x.toNat = 1
      omega)
    have K := Lib.hid (fun (B : Option Addr) (d : Nat) (h : RB w.drew B r) => okNewO_any B (n - 1) d r w.drew (by omega) (by omega) h)
    have HT := Lib.hid (show RB w.drew (some (ad.add 1)) r from hr.tail1)
    have ka : w.drew.cell? ad = some (.int .u8 (x.toNat : Int)) := hcy
    have HCY := Lib.hid (fun W (h : Below w.drew.heap.size w.drew W) => (h.cell (p := ad) (lt_of_cell hcy)).trans hcy)
    have hR0 : Hid (c = 1 → r = []) := Lib.hid fun e => List.eq_nil_of_length_eq_zero (by omega)
    have h1n : 1 ≤ n := by omega
    have z0 : 0 < n := by omega
    have z1 : (0 : Int) < (n : Int) := by omega
    have z2 : (1 : Int) ≤ (n : Int) := by omega
    have z3 : (n : Int) ≤ (c : Int) := by omega
    have HLN := Lib.hid hln
    clear hr hl hn hln
    by_cases hc1 : c = 1
    · have hn1 : n = 1 := by omega
      obtain rfl := hR0.out hc1
      subst hc1 hn1
      go_enter Try.func84, Try.ntmps84
      go_upto_region 3 with fail
      go_region_held3 (fun W => W.cell? ad = some (.int .u8 (x.toNat : Int))) (first | with_reducible exact ka | with_reducible exact kb | fail)
        (first
          | (go_at_call 81; refine (K.out _ _ (.inl rfl)).mono ?_; rintro e w1 ⟨g, rfl, h1, h2, h3⟩; have kb := HCY.out w1 h3; have H1 := Lib.hid h1; have H2 := Lib.hid h2; have H3 := Lib.hid h3; clear h1 h2 h3)
          | fail)
      all_goals
        go_wp2
        go_ret2
        exact ⟨g, by rw [List.headD_cons, ← HE.out]; rfl, H1.out, H2.out, (Below.refl _ w).drew.trans H3.out⟩
    · go_enter Try.func84, Try.ntmps84
      go_upto_region 3 with fail
      go_region_held3 (fun W => W.cell? ad = some (.int .u8 (x.toNat : Int))) (first | with_reducible exact ka | with_reducible exact kb | fail)
        (first
          | (go_at_call 81; refine (K.out _ _ HT.out).mono ?_; rintro e w1 ⟨g, rfl, h1, h2, h3⟩; have kb := HCY.out w1 h3; have H1 := Lib.hid h1; have H2 := Lib.hid h2; have H3 := Lib.hid h3; clear h1 h2 h3)
          | fail)
      all_goals
        go_wp2
        go_ret2
        exact ⟨g, by rw [List.headD_cons, ← HE.out]; rfl, H1.out, H2.out, (Below.refl _ w).drew.trans H3.out⟩
end Go.Proofs.Ytjmmaghjbaigiaa
