/- What a snapshot sees: the program's Newer and Room. -/
import Derived.Test.YtjmmaghjbaigiaaVbA
namespace Go.Proofs.Ytjmmaghjbaigiaa
open Go.RowKit
set_option linter.unusedVariables false
set_option linter.unusedSimpArgs false
def vbNew (me t : Int) (v : Vn) : Bool := decide (t < v.ts) && decide (v.txn ≠ me)
theorem vbNewer_found {l : List Vn} {me t : Int} {k : Nat} {x : Vn} (hx : l[k]? = some x) (h : vbNew me t x = true) : vbNewer l me t = true := List.any_eq_true.2 ⟨x, List.mem_of_getElem? hx, h⟩
theorem vbNewer_none {l : List Vn} {me t : Int} (h : ∀ (j : Nat) (v : Vn), j < l.length → l[j]? = some v → vbNew me t v = false) : vbNewer l me t = false := by
  unfold vbNewer
  rw [List.any_eq_false]
  intro x hx
  obtain ⟨j, hj, e⟩ := List.getElem_of_mem hx
  have := h j x hj (by rw [← e]; exact List.getElem?_eq_getElem hj)
  unfold vbNew at this
  rw [this]
  simp
set_option maxHeartbeats 1000000 in
set_option maxRecDepth 100000 in
theorem vbNewer_any (key : ByteArray) (A : Option Addr) (n c : Nat) (l : List Vn) (me t : Int) (w : World) (hl : l.length = n) (hn : n ≤ 1000) (hr : RG KV w A l) :
    Calls Try.prog 30 #[.agg #[.string key, .slice A n c], .int .i64 me, .int .i64 t] w fun e w' => e = .returned (.bool (vbNewer l me t)) ∧ Below w.heap.size w w' := by
  have HB := Lib.hid (below1 w (.cells #[.string key, .slice A n c] 24))
  have SX := Lib.hid (StBox.new w key A n c 24)
  have HL := Lib.hid hl
  have HR := Lib.hid (fun W (h : Below w.heap.size w W) => hr.below h)
  have HF := Lib.hid (fun (k : Nat) (x : Vn) => vbNewer_found (l := l) (me := me) (t := t) (k := k) (x := x))
  have HN := Lib.hid (vbNewer_none (l := l) (me := me) (t := t))
  generalize vbNewer l me t = R at HF HN ⊢
  clear hl hr
  go_enter Try.func30, Try.ntmps30
  go_upto_region 1 with fail
  generalize w.alloc (.cells #[.string key, .slice A n c] 24) = W0 at *
  have s1 := SX.out.c1
  go_wp2
  go_loopw [8, 12] (fun _ i wr => ∃ k : Nat, k ≤ n ∧ i = .int .i64 (k : Int) ∧ (∀ (j : Nat) (v : Vn), j < k → l[j]? = some v → vbNew me t v = false) ∧ Below w.heap.size w wr) (fun _ i _ => n - (intOf i).toNat)
  case atStart => exact ⟨0, Nat.zero_le _, rfl, fun j v hj => by omega, HB.out⟩
  case round =>
    obtain ⟨k, hk, rfl, hf, hb⟩ := hrel
    have HA := Lib.hid hf
    by_cases hlt : k < n
    · obtain ⟨x, hx⟩ : ∃ x, l[k]? = some x := ⟨l[k]'(by rw [HL.out]; exact hlt), List.getElem?_eq_getElem _⟩
      obtain ⟨ad, rfl, hv⟩ := (HR.out _ hb).vn hx
      have c0 := hv.d0; have c1 := hv.d1; have c2 := hv.d2; have c3 := hv.d3
      have HX := Lib.hid hx
      have HB2 := Lib.hid (hb.alloc hb.size (.cells #[.int .i64 x.txn, .int .i64 x.ts, .bool x.gone, .string x.val] 66))
      have d2 : (x.txn != me) = decide (x.txn ≠ me) := by rw [Bool.eq_iff_iff]; simp
      cases hc : vbNew me t x with
      | true =>
        have e2 := HF.out k x hx hc
        unfold vbNew at hc
        rw [Bool.and_eq_true] at hc
        obtain ⟨h1, h2⟩ := hc
        rw [h2] at d2
        clear hf hx hv hb h2
        go_wp2
        go_ret
        exact ⟨by first | rfl | (rw [e2]; rfl) | (rw [e2]), HB2.out⟩
      | false =>
        have HC := Lib.hid hc
        unfold vbNew at hc
        by_cases h1 : t < x.ts
        · have h2 : decide (x.txn ≠ me) = false := by rw [decide_eq_true h1] at hc; simpa using hc
          rw [h2] at d2
          clear hf hx hv hb h2 hc
          go_wp2
          go_round
          case rel => exact ⟨k + 1, by omega, by go_num, fun j v hj hv => by
            by_cases e : j = k
            · subst e
              rw [HX.out] at hv
              injection hv with hv
              rw [← hv]; exact HC.out
            · exact HA.out j v (by omega) hv, HB2.out⟩
          case measure => simp [intOf]; omega
        · clear hf hx hv hb hc
          go_wp2
          go_round
          case rel => exact ⟨k + 1, by omega, by go_num, fun j v hj hv => by
            by_cases e : j = k
            · subst e
              rw [HX.out] at hv
              injection hv with hv
              rw [← hv]; exact HC.out
            · exact HA.out j v (by omega) hv, HB2.out⟩
          case measure => simp [intOf]; omega
    · obtain rfl : k = n := by omega
      have e2 := HN.out (by rw [HL.out]; exact hf)
      have HB2 := Lib.hid hb
      clear hf hb
      go_wp2
      go_ret
      exact ⟨by first | rfl | (rw [e2]; rfl) | (rw [e2]), HB2.out⟩
theorem vbRoom_few {l : List Vn} (me : Int) (h : l.length < 8) : vbRoom l me = true := by unfold vbRoom; rw [decide_eq_true h]; rfl
theorem vbRoom_found {l : List Vn} {me : Int} {k : Nat} {x : Vn} (hx : l[k]? = some x) (h : vbWaits me x = true) : vbRoom l me = true := by
  unfold vbRoom
  unfold vbWaits at h
  rw [Bool.and_eq_true] at h
  rw [h.1, vsHas_iff.2 ⟨x, List.mem_of_getElem? hx, h.2⟩]
  simp
theorem vbRoom_none {l : List Vn} {me : Int} (h8 : ¬ l.length < 8) (h : ∀ (j : Nat) (v : Vn), j < l.length → l[j]? = some v → vbWaits me v = false) : vbRoom l me = false := by
  unfold vbRoom
  rw [decide_eq_false h8, Bool.false_or]
  by_cases h0 : 0 ≤ me
  · rw [decide_eq_true h0, Bool.true_and]
    cases e : vsHas l me with
    | false => rfl
    | true =>
      obtain ⟨x, hx, hp⟩ := vsHas_iff.1 e
      obtain ⟨j, hj, e⟩ := List.getElem_of_mem hx
      have := h j x hj (by rw [← e]; exact List.getElem?_eq_getElem hj)
      rw [vbWaits, decide_eq_true h0, hp] at this
      simp at this
  · rw [decide_eq_false h0]; rfl
set_option maxHeartbeats 1000000 in
set_option maxRecDepth 100000 in
theorem vbRoom_any (key : ByteArray) (A : Option Addr) (n c : Nat) (l : List Vn) (me : Int) (w : World) (hl : l.length = n) (hn : n ≤ 1000) (hr : RG KV w A l) :
    Calls Try.prog 32 #[.agg #[.string key, .slice A n c], .int .i64 me] w fun e w' => e = .returned (.bool (vbRoom l me)) ∧ Below w.heap.size w w' := by
  have HB := Lib.hid (below1 w (.cells #[.string key, .slice A n c] 24))
  have SX := Lib.hid (StBox.new w key A n c 24)
  have HL := Lib.hid hl
  have HR := Lib.hid (fun W (h : Below w.heap.size w W) => hr.below h)
  have KW := Lib.hid (fun (x : Vn) (W : World) => vbWaits_any x me W)
  have H8 := Lib.hid (vbRoom_few (l := l) me)
  have HF := Lib.hid (fun (k : Nat) (x : Vn) => vbRoom_found (l := l) (me := me) (k := k) (x := x))
  have HN := Lib.hid (vbRoom_none (l := l) (me := me))
  generalize vbRoom l me = R at H8 HF HN ⊢
  clear hl hr
  unfold Vn.v at KW
  by_cases h8 : n < 8
  · have d8 : decide ((n : Int) < 8) = true := by simp; omega
    have e2 := H8.out (by rw [HL.out]; exact h8)
    go_enter Try.func32, Try.ntmps32
    go_upto_region 1 with fail
    generalize w.alloc (.cells #[.string key, .slice A n c] 24) = W0 at *
    have s1 := SX.out.c1
    go_wp2
    go_ret
    exact ⟨by first | rfl | (rw [e2]; rfl) | (rw [e2]), HB.out⟩
  · have d8 : decide ((n : Int) < 8) = false := by simp; omega
    have H9 := Lib.hid (show ¬ l.length < 8 from by rw [HL.out]; exact h8)
    clear h8
    go_enter Try.func32, Try.ntmps32
    go_upto_region 1 with fail
    generalize w.alloc (.cells #[.string key, .slice A n c] 24) = W0 at *
    have s1 := SX.out.c1
    go_wp2
    clear d8
    go_loopw [6, 14] (fun _ i wr => ∃ k : Nat, k ≤ n ∧ i = .int .i64 (k : Int) ∧ (∀ (j : Nat) (v : Vn), j < k → l[j]? = some v → vbWaits me v = false) ∧ Below w.heap.size w wr) (fun _ i _ => n - (intOf i).toNat)
    case atStart => exact ⟨0, Nat.zero_le _, rfl, fun j v hj => by omega, HB.out⟩
    case round =>
      obtain ⟨k, hk, rfl, hf, hb⟩ := hrel
      have HA := Lib.hid hf
      by_cases hlt : k < n
      · obtain ⟨x, hx⟩ : ∃ x, l[k]? = some x := ⟨l[k]'(by rw [HL.out]; exact hlt), List.getElem?_eq_getElem _⟩
        obtain ⟨ad, rfl, hv⟩ := (HR.out _ hb).vn hx
        have c0 := hv.d0; have c1 := hv.d1; have c2 := hv.d2; have c3 := hv.d3
        have HX := Lib.hid hx
        have HB2 := Lib.hid (hb.alloc hb.size (.cells #[.int .i64 x.txn, .int .i64 x.ts, .bool x.gone, .string x.val] 66))
        have K1 := Lib.hid (KW.out x)
        cases hc : vbWaits me x with
        | true =>
          have e2 := HF.out k x hx hc
          rw [hc] at K1
          clear hf hx hv hb hc
          go_wp2_with (first | (go_at_call 69; refine (K1.out _).mono ?_; rintro e w1 ⟨rfl, b1⟩; have HB2 := Lib.hid (HB2.out.trans (b1.mono HB2.out.size)); clear b1) | fail)
          go_ret
          exact ⟨by first | rfl | (rw [e2]; rfl) | (rw [e2]), HB2.out⟩
        | false =>
          have HC := Lib.hid hc
          rw [hc] at K1
          clear hf hx hv hb hc
          go_wp2_with (first | (go_at_call 69; refine (K1.out _).mono ?_; rintro e w1 ⟨rfl, b1⟩; have HB2 := Lib.hid (HB2.out.trans (b1.mono HB2.out.size)); clear b1) | fail)
          go_round
          case rel => exact ⟨k + 1, by omega, by go_num, fun j v hj hv => by
            by_cases e : j = k
            · subst e
              rw [HX.out] at hv
              injection hv with hv
              rw [← hv]; exact HC.out
            · exact HA.out j v (by omega) hv, HB2.out⟩
          case measure => simp [intOf]; omega
      · obtain rfl : k = n := by omega
        have e2 := HN.out H9.out (by rw [HL.out]; exact hf)
        have HB2 := Lib.hid hb
        clear hf hb
        go_wp2
        go_ret
        exact ⟨by first | rfl | (rw [e2]; rfl) | (rw [e2]), HB2.out⟩
end Go.Proofs.Ytjmmaghjbaigiaa
