/- Versions: where the first pending one stands; a copy of a row. -/
import Derived.Test.YtjmmaghjbaigiaaVsA
namespace Go.Proofs.Ytjmmaghjbaigiaa
open Go.RowKit
set_option linter.unusedVariables false
set_option linter.unusedSimpArgs false
def vsIdx (l : List Vn) (t : Int) : Int := if vsAt l t < l.length then (vsAt l t : Int) else -1
theorem vsIdx_found {l : List Vn} {t : Int} {k : Nat} {x : Vn} (hall : ∀ (j : Nat) (v : Vn), j < k → l[j]? = some v → vsPend t v = false) (hk : l[k]? = some x) (hp : vsPend t x = true) : vsAt l t = k ∧ vsIdx l t = (k : Int) := by
  have hkl := (List.getElem?_eq_some_iff.1 hk).1
  have e : vsAt l t = k := by
    unfold vsAt
    rw [List.findIdx_eq hkl]
    refine ⟨?_, fun j hj => ?_⟩
    · have := (List.getElem?_eq_some_iff.1 hk).2
      rw [this]; exact hp
    · exact hall j _ hj (List.getElem?_eq_getElem (by omega))
  exact ⟨e, by unfold vsIdx; rw [e, if_pos hkl]⟩
theorem vsIdx_none {l : List Vn} {t : Int} (hall : ∀ (j : Nat) (v : Vn), j < l.length → l[j]? = some v → vsPend t v = false) : vsAt l t = l.length ∧ vsIdx l t = -1 := by
  have e : ¬ vsAt l t < l.length := fun h => by
    have h1 := vsAt_spec' h
    rw [hall (vsAt l t) _ h (List.getElem?_eq_getElem h)] at h1
    cases h1
  have : vsAt l t ≤ l.length := List.findIdx_le_length
  exact ⟨by omega, by unfold vsIdx; rw [if_neg e]⟩
theorem drop_slot {w W : World} {q : Nat} {t : Int} (hq : w.cell? ⟨q, 0, none⟩ = some (.int .i64 t)) (hb : Below w.heap.size w W) : W.cell? ⟨q, 0, none⟩ = some (.int .i64 t) := (hb.cell (p := ⟨q, 0, none⟩) (lt_of_cell hq)).trans hq
set_option maxHeartbeats 1000000 in
set_option maxRecDepth 100000 in
theorem vsIndexFunc_any (A : Option Addr) (n c : Nat) (l : List Vn) (t : Int) (q : Nat) (w : World) (hl : l.length = n) (hn : n ≤ 1000) (hr : RG KV w A l) (hq : w.cell? ⟨q, 0, none⟩ = some (.int .i64 t)) :
    Calls Try.prog 71 #[.slice A n c, .func (.func 101) #[] #[.pointer (some ⟨q, 0, none⟩)]] w fun e w' => e = .returned (.int .i64 (vsIdx l t)) ∧ Below w.heap.size w w' := by
  have HL := Lib.hid hl
  have HR := Lib.hid hr
  have HQ := Lib.hid (fun W h => drop_slot (W := W) hq h)
  have HF := Lib.hid (fun (k : Nat) (x : Vn) => vsIdx_found (l := l) (t := t) (k := k) (x := x))
  have HN := Lib.hid (vsIdx_none (l := l) (t := t))
  generalize vsIdx l t = R at HF HN ⊢
  clear hl hr hq
  go_enter Try.func71, Try.ntmps71
  go_wp2
  go_loopw [5, 8] (fun _ i wr => ∃ k : Nat, k ≤ n ∧ i = .int .i64 (k : Int) ∧ (∀ (j : Nat) (v : Vn), j < k → l[j]? = some v → vsPend t v = false) ∧ Below w.heap.size w wr) (fun _ i _ => n - (intOf i).toNat)
  case atStart => exact ⟨0, Nat.zero_le _, rfl, fun j v hj => by omega, Below.refl _ _⟩
  case round =>
    obtain ⟨k, hk, rfl, hf, hb⟩ := hrel
    have HB := Lib.hid hb
    have HA := Lib.hid hf
    by_cases hlt : k < n
    · obtain ⟨x, hx⟩ : ∃ x, l[k]? = some x := ⟨l[k]'(by rw [HL.out]; exact hlt), List.getElem?_eq_getElem _⟩
      obtain ⟨ad, rfl, hv⟩ := (HR.out.below hb).vn hx
      have c0 := hv.d0; have c1 := hv.d1; have c2 := hv.d2; have c3 := hv.d3
      have HX := Lib.hid hx
      have KP := Lib.hid (fun W (h : Below w.heap.size w W) => vsPends_any t x ⟨q, 0, none⟩ W (HQ.out W h))
      unfold Vn.v at KP
      cases hp : vsPend t x with
      | true =>
        rw [hp] at KP
        obtain ⟨e1, e2⟩ := HF.out k x hf hx hp
        clear hf hb hx hv hp
        go_wp2_with (go_at_call 101; refine (KP.out _ HB.out).mono ?_; rintro e w1 ⟨rfl, b1⟩; have B1 := Lib.hid b1; clear b1)
        go_ret
        exact ⟨by rw [e2]; rfl, HB.out.trans (B1.out.mono HB.out.size)⟩
      | false =>
        rw [hp] at KP
        have HP := Lib.hid hp
        clear hf hb hx hv hp
        go_wp2_with (go_at_call 101; refine (KP.out _ HB.out).mono ?_; rintro e w1 ⟨rfl, b1⟩; have B1 := Lib.hid b1; clear b1)
        go_round
        case rel =>
          refine ⟨k + 1, by omega, by go_num, fun j v hj hv => ?_, HB.out.trans (B1.out.mono HB.out.size)⟩
          by_cases e : j = k
          · subst e
            rw [HX.out] at hv
            injection hv with hv
            rw [← hv]; exact HP.out
          · exact HA.out j v (by omega) hv
        case measure => simp [intOf]; omega
    · obtain rfl : k = n := by omega
      obtain ⟨e1, e2⟩ := HN.out (by rw [HL.out]; exact hf)
      clear hf hb
      go_wp2
      go_ret
      exact ⟨by rw [e2]; rfl, HB.out⟩
set_option maxHeartbeats 1000000 in
theorem vsClone_any (A : Option Addr) (n c : Nat) (l : List Vn) (W : World) (hl : l.length = n) (hn : n ≤ 1000) (hr : RG KV W A l) :
    Calls Try.prog 70 #[.slice A n c] W fun e w' => ∃ v', e = .returned v' ∧ OG KV 66 W.heap.size w' v' l ∧ Below W.heap.size W w' := by
  have q22 : ∀ (w : World) (a : Option Addr) (n c n' c' : Nat), (binOp .eql 22 (.slice a n c) (.slice none n' c')).run Try.prog w = .ok (.bool a.isNone) w := fun w a n c n' c' => Lib.run_eql_slice_nil w _ _ a n c n' c' Try.underlying22
  rcases A with _ | ad
  · have hL : l = [] := by
      cases l with
      | nil => rfl
      | cons x r => obtain ⟨ad, _, e, _⟩ := hr 0 x rfl; cases e
    subst hL
    clear hr
    go_enter Try.func70, Try.ntmps70
    go_wp2
    go_ret
    exact ⟨_, rfl, OG.nil, Below.refl _ _⟩
  · have H3 := Lib.hid (hr.alloc (.cells #[] 66))
    have O0 := Lib.hid (OG.lit0 (K := KV) (T := 66) (base := W.heap.size) W (Nat.le_refl _))
    have B0 := Lib.hid ((Below.refl W.heap.size W).alloc (Nat.le_refl _) (.cells #[] 66))
    clear hr
    go_enter Try.func70, Try.ntmps70
    go_wp2_with (at_builtin; (refine wpList_append_G tgV rfl _ _ rfl W.heap.size _ ([] : List Vn) rfl O0.out (some ad) n c l rfl hl H3.out (Apart.flat vn_flat) (by simp; omega) B0.out.size ?_; intro v1 w1 o1 b1 _ _))
    go_ret
    exact ⟨_, rfl, by simpa using o1, B0.out.trans b1⟩
end Go.Proofs.Ytjmmaghjbaigiaa
