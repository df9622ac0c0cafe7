/- Versions: the closures of Commit, Abort and Prune; where a version goes. -/
import Derived.Test.YtjmmaghjbaigiaaVsWC
import Derived.Test.YtjmmaghjbaigiaaVsWA
import Derived.Test.YtjmmaghjbaigiaaVsWP
namespace Go.Proofs.Ytjmmaghjbaigiaa
open Go.RowKit
set_option linter.unusedVariables false
set_option linter.unusedSimpArgs false
theorem vsAtFn_any (i a : Nat) (v : Vn) (p : Addr) (w : World) (hp : w.cell? p = some (.int .i64 (a : Int))) :
    Calls Try.prog 73 (#[.int .i64 (i : Int), v.v] ++ #[.pointer (some p)]) w fun e w' => e = .returned (.bool (decide (i = a))) ∧ Below w.heap.size w w' := by
  have hb := Lib.hid (below1 w (.cells #[.int .i64 v.txn, .int .i64 v.ts, .bool v.gone, .string v.val] 66))
  have hp' : (w.alloc (.cells #[.int .i64 v.txn, .int .i64 v.ts, .bool v.gone, .string v.val] 66)).cell? p = some (.int .i64 (a : Int)) := (hb.out.cell (p := p) (lt_of_cell hp)).trans hp
  have HE := Lib.hid (show ((i : Int) == (a : Int)) = decide (i = a) from by rw [Bool.eq_iff_iff]; simp; omega)
  unfold Vn.v
  go_enter Try.func73, Try.ntmps73
  go_wp2
  go_ret
  exact ⟨by rw [← HE.out]; rfl, hb.out⟩
set_option maxHeartbeats 1000000 in
theorem vsAbortFn_any (i : Nat) (t : Int) (v : Vn) (p : Addr) (q : Nat) (w : World) (hp : w.cell? p = some (.func (.func 101) #[] #[.pointer (some ⟨q, 0, none⟩)])) (hq : w.cell? ⟨q, 0, none⟩ = some (.int .i64 t)) :
    Calls Try.prog 76 (#[.int .i64 (i : Int), v.v] ++ #[.pointer (some p)]) w fun e w' => e = .returned (.bool (vsPend t v)) ∧ Below w.heap.size w w' := by
  have hb := Lib.hid (below1 w (.cells #[.int .i64 v.txn, .int .i64 v.ts, .bool v.gone, .string v.val] 66))
  have hp' : (w.alloc (.cells #[.int .i64 v.txn, .int .i64 v.ts, .bool v.gone, .string v.val] 66)).cell? p = _ := (hb.out.cell (p := p) (lt_of_cell hp)).trans hp
  have K := Lib.hid (vsPends_any t v ⟨q, 0, none⟩ (w.alloc (.cells #[.int .i64 v.txn, .int .i64 v.ts, .bool v.gone, .string v.val] 66)) ((hb.out.cell (p := ⟨q, 0, none⟩) (lt_of_cell hq)).trans hq))
  unfold Vn.v at K ⊢
  generalize vsPend t v = d at K ⊢
  clear hp hq
  go_enter Try.func76, Try.ntmps76
  go_wp2_with (go_at_call 101; refine K.out.mono ?_; rintro e w1 ⟨rfl, b1⟩; have B1 := Lib.hid b1; clear b1)
  go_ret
  exact ⟨rfl, hb.out.trans (B1.out.mono (by simp))⟩
set_option maxHeartbeats 1000000 in
theorem vsOld_any (t : Int) (v : Vn) (w : World) : Calls Try.prog 65 #[v.v, .int .i64 t] w fun e w' => e = .returned (.bool (vsOld t v)) ∧ Below w.heap.size w w' := by
  unfold Vn.v
  have hb := Lib.hid (below1 w (.cells #[.int .i64 v.txn, .int .i64 v.ts, .bool v.gone, .string v.val] 66))
  unfold vsOld
  by_cases h : 1 ≤ v.ts
  · have HD := Lib.hid (decide_eq_true h)
    go_enter Try.func65, Try.ntmps65
    go_wp2
    go_ret
    rw [HD.out]
    exact ⟨rfl, hb.out⟩
  · have HD := Lib.hid (decide_eq_false h)
    go_enter Try.func65, Try.ntmps65
    go_wp2
    go_ret
    rw [HD.out]
    exact ⟨rfl, hb.out⟩
def vsGoes (t : Int) (L : Nat) (i : Nat) (v : Vn) : Bool := vsOld t v && (decide (i + 1 ≠ L) || v.gone)
set_option maxHeartbeats 2000000 in
theorem vsPruneFn_any (i L : Nat) (t : Int) (v : Vn) (p q : Addr) (w : World) (hp : w.cell? p = some (.int .i64 t)) (hq : w.cell? q = some (.int .i64 ((L : Int) - 1))) :
    Calls Try.prog 67 (#[.int .i64 (i : Int), v.v] ++ #[.pointer (some p), .pointer (some q)]) w fun e w' => e = .returned (.bool (vsGoes t L i v)) ∧ Below w.heap.size w w' := by
  have hb := below1 w (.cells #[.int .i64 v.txn, .int .i64 v.ts, .bool v.gone, .string v.val] 66)
  have hp' : (w.alloc (.cells #[.int .i64 v.txn, .int .i64 v.ts, .bool v.gone, .string v.val] 66)).cell? p = _ := (hb.cell (p := p) (lt_of_cell hp)).trans hp
  have HQ : Hid (∀ W, Below w.heap.size w W → W.cell? q = some (.int .i64 ((L : Int) - 1))) := Lib.hid fun W h => (h.cell (p := q) (lt_of_cell hq)).trans hq
  have HG : Hid (∀ W, Below (w.heap.size + 1) (w.alloc (.cells #[.int .i64 v.txn, .int .i64 v.ts, .bool v.gone, .string v.val] 66)) W → W.cell? ⟨w.heap.size, 2, none⟩ = some (.bool v.gone)) := Lib.hid fun W h => by
    rw [h.cell (by simp)]; simp
  have HB := Lib.hid hb
  have K := Lib.hid (vsOld_any t v (w.alloc (.cells #[.int .i64 v.txn, .int .i64 v.ts, .bool v.gone, .string v.val] 66)))
  have HN := Lib.hid (show ((i : Int) != ((L : Int) - 1)) = decide (i + 1 ≠ L) from by rw [Bool.eq_iff_iff]; simp; omega)
  unfold Vn.v at K ⊢
  unfold vsGoes
  clear hp hq hb
  cases ho : vsOld t v with
  | false =>
    rw [ho] at K
    clear ho
    go_enter Try.func67, Try.ntmps67
    go_wp2_with (go_at_call 65; refine K.out.mono ?_; rintro e w1 ⟨rfl, b1⟩; have B1 := Lib.hid (HB.out.trans (b1.mono (by simp))); clear b1)
    go_ret
    exact ⟨rfl, B1.out⟩
  | true =>
    rw [ho] at K
    clear ho
    have hn := HN.out
    generalize decide (i + 1 ≠ L) = d at hn ⊢
    have hn' := Lib.hid hn
    cases d with
    | true =>
      go_enter Try.func67, Try.ntmps67
      go_wp2_with (go_at_call 65; refine K.out.mono ?_; rintro e w1 ⟨rfl, b1⟩; have cg := HG.out w1 (by simpa using b1); have bb := HB.out.trans (b1.mono (by simp)); have cq := HQ.out w1 bb; have B1 := Lib.hid bb; clear b1 bb)
      go_ret
      exact ⟨rfl, B1.out⟩
    | false =>
      go_enter Try.func67, Try.ntmps67
      go_wp2_with (go_at_call 65; refine K.out.mono ?_; rintro e w1 ⟨rfl, b1⟩; have cg := HG.out w1 (by simpa using b1); have bb := HB.out.trans (b1.mono (by simp)); have cq := HQ.out w1 bb; have B1 := Lib.hid bb; clear b1 bb)
      go_ret
      exact ⟨rfl, B1.out⟩
set_option maxHeartbeats 2000000 in
set_option maxRecDepth 100000 in
theorem vsPlaceOf_any (A : Option Addr) (n c : Nat) (l : List Vn) (s : Int) (w : World) (hl : l.length = n) (hn : n ≤ 1000) (hr : RG KV w A l) :
    Calls Try.prog 75 #[.slice A n c, .int .i64 s] w fun e w' => e = .returned (.int .i64 (vsLast (vsBy s) l : Nat)) ∧ Below w.heap.size w w' := by
  have HL := Lib.hid hl
  have HR := Lib.hid hr
  clear hl hr
  go_enter Try.func75, Try.ntmps75
  go_wp2
  go_loopw [5, 6, 7, 10] (fun z _ _ i wr => ∃ k : Nat, k ≤ n ∧ i = .int .i64 (k : Int) ∧ z = .int .i64 (vsLast (vsBy s) (l.take k) : Nat) ∧ Below w.heap.size w wr) (fun _ _ _ i _ => n - (intOf i).toNat)
  case atStart => exact ⟨0, Nat.zero_le _, rfl, rfl, Below.refl _ _⟩
  case round =>
    obtain ⟨k, hk, rfl, rfl, hb⟩ := hrel
    by_cases hlt : k < n
    · obtain ⟨x, hx⟩ : ∃ x, l[k]? = some x := ⟨l[k]'(by rw [HL.out]; exact hlt), List.getElem?_eq_getElem _⟩
      obtain ⟨ad, rfl, hv⟩ := (HR.out.below hb).vn hx
      have c0 := hv.d0; have c1 := hv.d1; have c2 := hv.d2; have c3 := hv.d3
      have HS : vsLast (vsBy s) (l.take (k + 1)) = if vsBy s x then k + 1 else vsLast (vsBy s) (l.take k) := by
        rw [List.take_add_one, hx, Option.toList_some, vsLast_snoc, List.length_take, Nat.min_eq_left (by rw [HL.out]; omega)]
      have HZ : Hid (∀ b, vsBy s x = b → vsLast (vsBy s) (l.take (k + 1)) = if b then k + 1 else vsLast (vsBy s) (l.take k)) := Lib.hid fun b e => by rw [HS, e]
      have HB := Lib.hid (hb.alloc hb.size (.cells #[.int .i64 x.txn, .int .i64 x.ts, .bool x.gone, .string x.val] 66))
      have KP := Lib.hid (fun W => vsPending_any x W)
      unfold Vn.v at KP
      have H1 : Hid (∀ W, Below (wr.alloc (.cells #[.int .i64 x.txn, .int .i64 x.ts, .bool x.gone, .string x.val] 66)).heap.size (wr.alloc (.cells #[.int .i64 x.txn, .int .i64 x.ts, .bool x.gone, .string x.val] 66)) W → W.cell? ⟨wr.heap.size, 1, none⟩ = some (.int .i64 x.ts)) := Lib.hid fun W h => by
        rw [h.cell (by simp)]; simp
      clear hb hv hx HS
      by_cases h0 : x.ts = 0
      · rw [decide_eq_true h0] at KP
        have HE := Lib.hid (HZ.out false (by simp [vsBy, h0]))
        clear h0
        go_wp2_with (go_at_call 102; refine (KP.out _).mono ?_; rintro e w1 ⟨rfl, b1⟩; have B1 := Lib.hid b1; clear b1)
        go_round
        case rel => exact ⟨k + 1, by omega, by go_num, by rw [HE.out]; rfl, HB.out.trans (B1.out.mono HB.out.size)⟩
        case measure => simp [intOf]; omega
      · rw [decide_eq_false h0] at KP
        by_cases h2 : x.ts ≤ s
        · have HE := Lib.hid (HZ.out true (by simp [vsBy, h0, h2]))
          have hd : decide (x.ts ≤ s) = true := decide_eq_true h2
          clear h0
          go_wp2_with (go_at_call 102; refine (KP.out _).mono ?_; rintro e w1 ⟨rfl, b1⟩; have B1 := Lib.hid b1; have c5 := H1.out w1 b1; clear b1)
          go_round
          case rel => exact ⟨k + 1, by omega, by go_num, by rw [HE.out]; simp, HB.out.trans (B1.out.mono HB.out.size)⟩
          case measure => simp [intOf]; omega
        · have HE := Lib.hid (HZ.out false (by simp [vsBy, h0, h2]))
          have hd : decide (x.ts ≤ s) = false := decide_eq_false h2
          clear h0
          go_wp2_with (go_at_call 102; refine (KP.out _).mono ?_; rintro e w1 ⟨rfl, b1⟩; have B1 := Lib.hid b1; have c5 := H1.out w1 b1; clear b1)
          go_round
          case rel => exact ⟨k + 1, by omega, by go_num, by rw [HE.out]; rfl, HB.out.trans (B1.out.mono HB.out.size)⟩
          case measure => simp [intOf]; omega
    · obtain rfl : k = n := by omega
      rw [List.take_of_length_le (by rw [HL.out]; exact Nat.le_refl _)]
      have HB := Lib.hid hb
      clear hb
      go_wp2
      go_ret
      exact ⟨rfl, HB.out⟩
end Go.Proofs.Ytjmmaghjbaigiaa
