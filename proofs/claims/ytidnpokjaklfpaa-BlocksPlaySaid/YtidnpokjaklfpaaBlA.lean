/- The package blocks: whether an area may be, whether it has a block, and a block's sectors. -/
import Derived.Test.YtidnpokjaklfpaaScB
namespace Go.Proofs.Ytidnpokjaklfpaa
open Go.RowKit
set_option linter.unusedVariables false
/-- An area of blocks. -/
structure Ar where
  first : Int
  count : Int
def Ar.v (a : Ar) : Value := .agg #[.int .i64 a.first, .int .i64 a.count]
def Ar.may (a : Ar) : Bool := decide (0 ≤ a.first ∧ a.first ≤ 4096 ∧ 0 ≤ a.count ∧ a.count ≤ 512)
def Ar.has (a : Ar) (n : Int) : Bool := decide (0 ≤ n ∧ n < a.count)
set_option maxHeartbeats 1000000 in
set_option maxRecDepth 100000 in
theorem mayBe_any (a : Ar) (w : World) : Calls Try.prog 53 #[a.v] w fun e w' => e = .returned (.bool a.may) ∧ Below w.heap.size w w' := by
  obtain ⟨p, q⟩ := a
  show Calls Try.prog 53 #[.agg #[.int .i64 p, .int .i64 q]] w _
  by_cases h1 : 0 ≤ p
  · by_cases h2 : p ≤ 4096
    · by_cases h3 : 0 ≤ q
      · by_cases h4 : q ≤ 512
        · rw [show Ar.may ⟨p, q⟩ = true from decide_eq_true ⟨h1, h2, h3, h4⟩]
          go_enter Try.func53, Try.ntmps53
          go_wp2
          go_ret
          exact ⟨rfl, (Below.refl _ _).alloc (Nat.le_refl _) _⟩
        · rw [show Ar.may ⟨p, q⟩ = false from decide_eq_false (fun h => h4 h.2.2.2)]
          go_enter Try.func53, Try.ntmps53
          go_wp2
          go_ret
          exact ⟨rfl, (Below.refl _ _).alloc (Nat.le_refl _) _⟩
      · rw [show Ar.may ⟨p, q⟩ = false from decide_eq_false (fun h => h3 h.2.2.1)]
        go_enter Try.func53, Try.ntmps53
        go_wp2
        go_ret
        exact ⟨rfl, (Below.refl _ _).alloc (Nat.le_refl _) _⟩
    · rw [show Ar.may ⟨p, q⟩ = false from decide_eq_false (fun h => h2 h.2.1)]
      go_enter Try.func53, Try.ntmps53
      go_wp2
      go_ret
      exact ⟨rfl, (Below.refl _ _).alloc (Nat.le_refl _) _⟩
  · rw [show Ar.may ⟨p, q⟩ = false from decide_eq_false (fun h => h1 h.1)]
    go_enter Try.func53, Try.ntmps53
    go_wp2
    go_ret
    exact ⟨rfl, (Below.refl _ _).alloc (Nat.le_refl _) _⟩
set_option maxHeartbeats 1000000 in
set_option maxRecDepth 100000 in
theorem has_any (a : Ar) (n : Int) (w : World) : Calls Try.prog 60 #[a.v, .int .i64 n] w fun e w' => e = .returned (.bool (a.has n)) ∧ Below w.heap.size w w' := by
  obtain ⟨p, q⟩ := a
  show Calls Try.prog 60 #[.agg #[.int .i64 p, .int .i64 q], .int .i64 n] w _
  by_cases h1 : 0 ≤ n
  · by_cases h2 : n < q
    · rw [show Ar.has ⟨p, q⟩ n = true from decide_eq_true ⟨h1, h2⟩]
      go_enter Try.func60, Try.ntmps60
      go_wp2
      go_ret
      exact ⟨rfl, (Below.refl _ _).alloc (Nat.le_refl _) _⟩
    · rw [show Ar.has ⟨p, q⟩ n = false from decide_eq_false (fun h => h2 h.2)]
      go_enter Try.func60, Try.ntmps60
      go_wp2
      go_ret
      exact ⟨rfl, (Below.refl _ _).alloc (Nat.le_refl _) _⟩
  · rw [show Ar.has ⟨p, q⟩ n = false from decide_eq_false (fun h => h1 h.1)]
    go_enter Try.func60, Try.ntmps60
    go_wp2
    go_ret
    exact ⟨rfl, (Below.refl _ _).alloc (Nat.le_refl _) _⟩
theorem Try.infoI : (Try.prog.info? 3).map (fun i => (i.zero, i.size, i.bytes)) = some (some (.int .i64 0), 1, 8) := by kernel_rfl
theorem wpList_make_I {w : World} {ops : Array Oper} {rest : List Oper} {o : Oper} {a : Act} {Q : Exit → Act → World → Prop} (hgd : o.guard = none) (s x : Operand)
    (ho : o.op = Op.makeSlice 46 s x) (base n : Nat) (L C : Int) (hs : a.eval s = .int .i64 L) (hx : a.eval x = .int .i64 C) (hL : L = (n : Int)) (hC : C = (n : Int)) (hn : n ≤ 4096) (hbase : base ≤ w.heap.size)
    (h : ∀ w', w'.ownsRow base 3 1 (.slice (some ⟨w.heap.size, 0, none⟩) n n) n (madeCells (Value.int .i64 0).cells (n * 1)).toList → Below base w w' → wpList Try.prog ops Q rest (a.put o.dst (.slice (some ⟨w.heap.size, 0, none⟩) n n)) w') : wpList Try.prog ops Q (o :: rest) a w := by
  obtain ⟨i0, hi, hz0, hz1, hz2⟩ := info_parts Try.infoI
  refine wpList_make_full w hgd s x 46 ho base 3 i0 _ 1 Try.underlying46 hi hz0 hz1 .i64 .i64 L C n hs hx hL hC (by rw [hz2]; omega) (by simp only [maxLen]; omega) hbase ?_
  intro w' h1 h2
  exact h w' h1 ((Below.refl base w).grown h2 hbase fun k hk => by cases hk)
/-- The numbers of four sectors, of which k are there. -/
def four (x : Int) (k : Nat) : Array Value := #[.int .i64 (if 0 < k then x else 0), .int .i64 (if 1 < k then x + 1 else 0), .int .i64 (if 2 < k then x + 2 else 0), .int .i64 (if 3 < k then x + 3 else 0)]
/-- A slice reads as the sectors' numbers. -/
def Four (w : World) (g : Nat) (x : Int) (k : Nat) : Prop := w.heap[g]? = some (.cells (four x k) 3 (0, 0))
theorem Four.cell {w : World} {g : Nat} {x : Int} {k : Nat} (h : Four w g x k) (i : Nat) : w.cell? ⟨g, i, none⟩ = (four x k)[i]? := by simp only [World.cell?, show w.heap[g]? = some (.cells (four x k) 3 (0, 0)) from h]; rfl
theorem Four.frozen {w : World} {g : Nat} {x : Int} {k : Nat} (h : Four w g x k) (i : Nat) : w.frozen? ⟨g, i, none⟩ = false := by simp [World.frozen?, show w.heap[g]? = some (.cells (four x k) 3 (0, 0)) from h]
theorem Four.set {w : World} {g : Nat} {x : Int} {k : Nat} (h : Four w g x k) (hk : k < 4) : Four (w.setCell ⟨g, k, none⟩ (.int .i64 (x + k))) g x (k + 1) := by
  have h : w.heap[g]? = some (.cells (four x k) 3 (0, 0)) := h
  show (w.setCell ⟨g, k, none⟩ (.int .i64 (x + k))).heap[g]? = _
  have : (w.setCell ⟨g, k, none⟩ (.int .i64 (x + k))).heap[g]? = some (.cells ((four x k).setIfInBounds k (.int .i64 (x + k))) 3 (0, 0)) := by
    simp [World.setCell, Array.getElem?_modify, h]
  rw [this]
  match k, hk with
  | 0, _ => simp [four]
  | 1, _ => simp [four]
  | 2, _ => simp [four]
  | 3, _ => simp [four]
set_option maxHeartbeats 1000000 in
set_option maxRecDepth 100000 in
theorem sectors_none (a : Ar) (n : Int) (w : World) (h : (a.may && a.has n) = false) : Calls Try.prog 31 #[a.v, .int .i64 n] w fun e w' => e = .returned (.slice none 0 0) ∧ Below w.heap.size w w' := by
  have K1 := Lib.hid (fun W => mayBe_any a W)
  have K2 := Lib.hid (fun W => has_any a n W)
  obtain ⟨p, q⟩ := a
  generalize Ar.may ⟨p, q⟩ = m1 at *
  generalize Ar.has ⟨p, q⟩ n = m2 at *
  show Calls Try.prog 31 #[.agg #[.int .i64 p, .int .i64 q], .int .i64 n] w _
  have K1 : Hid (∀ W, Calls Try.prog 53 #[.agg #[.int .i64 p, .int .i64 q]] W fun e w' => e = .returned (.bool m1) ∧ Below W.heap.size W w') := K1
  have K2 : Hid (∀ W, Calls Try.prog 60 #[.agg #[.int .i64 p, .int .i64 q], .int .i64 n] W fun e w' => e = .returned (.bool m2) ∧ Below W.heap.size W w') := K2
  have hz := heap_size_alloc w (.cells #[.int .i64 p, .int .i64 q] 53)
  cases m1 with
  | false =>
    go_enter Try.func31, Try.ntmps31
    go_wp2_with (first
      | (go_at_call 53; refine (K1.out _).mono ?_; rintro e w1 ⟨rfl, b1⟩; have B1 := Lib.hid (((Below.refl _ w).alloc (Nat.le_refl _) _).trans (b1.mono (by omega))); clear b1)
      | fail)
    go_ret
    exact ⟨rfl, B1.out⟩
  | true =>
    obtain rfl : m2 = false := by simpa using h
    go_enter Try.func31, Try.ntmps31
    go_wp2_with fail
    refine (K1.out _).mono ?_
    rintro e w1 ⟨rfl, b1⟩
    have B1 := Lib.hid (((Below.refl _ w).alloc (Nat.le_refl _) _).trans (b1.mono (by omega)))
    have hh : w1.heap[w.heap.size]? = some (.cells #[.int .i64 p, .int .i64 q] 53 (0, 0)) := (b1.block _ (by omega)).trans (heap_alloc_last w _)
    have x0 : w1.cell? ⟨w.heap.size, 0, none⟩ = some (.int .i64 p) := (cell_of_row w1 _ 0 _ _ _ hh).trans rfl
    have x1 : w1.cell? ⟨w.heap.size, 1, none⟩ = some (.int .i64 q) := (cell_of_row w1 _ 1 _ _ _ hh).trans rfl
    clear b1 hh
    go_wp2_with fail
    refine (K2.out _).mono ?_
    rintro e w2 ⟨rfl, b2⟩
    have B2 := Lib.hid (B1.out.trans (b2.mono B1.out.size))
    clear b2
    go_wp2
    go_ret
    exact ⟨rfl, B2.out⟩
set_option maxHeartbeats 1000000 in
set_option maxRecDepth 100000 in
theorem sectors_some (a : Ar) (n : Int) (w : World) (h1 : a.may = true) (h2 : a.has n = true) : Calls Try.prog 31 #[a.v, .int .i64 n] w fun e w' => ∃ g, e = .returned (.slice (some ⟨g, 0, none⟩) 4 4) ∧ w.heap.size < g ∧ Four w' g (a.first + 4 * n) 4 ∧ Below w.heap.size w w' := by
  have K1 := Lib.hid (fun W => mayBe_any a W)
  have K2 := Lib.hid (fun W => has_any a n W)
  rw [h1] at K1
  rw [h2] at K2
  obtain ⟨p, q⟩ := a
  obtain ⟨p0, p1, q0, q1⟩ : 0 ≤ p ∧ p ≤ 4096 ∧ 0 ≤ q ∧ q ≤ 512 := of_decide_eq_true h1
  obtain ⟨n0, n1⟩ : 0 ≤ n ∧ n < q := of_decide_eq_true h2
  have n2 : n ≤ 511 := by omega
  clear h1 h2
  show Calls Try.prog 31 #[.agg #[.int .i64 p, .int .i64 q], .int .i64 n] w fun e w' => ∃ g, e = .returned (.slice (some ⟨g, 0, none⟩) 4 4) ∧ w.heap.size < g ∧ Four w' g (p + 4 * n) 4 ∧ Below w.heap.size w w'
  have K1 : Hid (∀ W, Calls Try.prog 53 #[.agg #[.int .i64 p, .int .i64 q]] W fun e w' => e = .returned (.bool true) ∧ Below W.heap.size W w') := K1
  have K2 : Hid (∀ W, Calls Try.prog 60 #[.agg #[.int .i64 p, .int .i64 q], .int .i64 n] W fun e w' => e = .returned (.bool true) ∧ Below W.heap.size W w') := K2
  have hz := heap_size_alloc w (.cells #[.int .i64 p, .int .i64 q] 53)
  go_enter Try.func31, Try.ntmps31
  go_wp2_with fail
  refine (K1.out _).mono ?_
  rintro e w1 ⟨rfl, b1⟩
  have B1 := Lib.hid (((Below.refl _ w).alloc (Nat.le_refl _) _).trans (b1.mono (by omega)))
  have hh : w1.heap[w.heap.size]? = some (.cells #[.int .i64 p, .int .i64 q] 53 (0, 0)) := (b1.block _ (by omega)).trans (heap_alloc_last w _)
  have hs1 : w.heap.size < w1.heap.size := (Array.getElem?_eq_some_iff.1 hh).1
  have x0 : w1.cell? ⟨w.heap.size, 0, none⟩ = some (.int .i64 p) := (cell_of_row w1 _ 0 _ _ _ hh).trans rfl
  have x1 : w1.cell? ⟨w.heap.size, 1, none⟩ = some (.int .i64 q) := (cell_of_row w1 _ 1 _ _ _ hh).trans rfl
  clear b1
  go_wp2_with fail
  refine (K2.out _).mono ?_
  rintro e w2 ⟨rfl, b2⟩
  have B2 := Lib.hid (B1.out.trans (b2.mono B1.out.size))
  have HH2 := Lib.hid ((b2.block _ hs1).trans hh)
  have hs2 : w.heap.size < w2.heap.size := Nat.lt_of_lt_of_le hs1 b2.size
  clear b2 x0 x1 hh K1 K2 B1 hs1 hz
  go_wp2_with (at_make; refine wpList_make_I rfl _ _ rfl w2.heap.size 4 _ _ rfl rfl rfl rfl (by omega) (Nat.le_refl _) ?_; intro w3 hr3 hb3)
  have f3 : Four w3 w2.heap.size (p + 4 * n) 0 := by
    rcases hr3.2 with ⟨e, _⟩ | ⟨g, cap, cur, e, _, hh, hc, hm, hsz, ht⟩
    · cases e
    · injection e with e1 e2 e3
      injection e1 with e1
      injection e1 with e1
      subst e1
      subst e3
      show w3.heap[w2.heap.size]? = _
      rw [hh]
      have : cur = four (p + 4 * n) 0 := by
        apply Array.toList_inj.1
        rw [List.take_of_length_le (by simp [hsz])] at ht
        rw [ht, show four (p + 4 * n) 0 = #[.int .i64 0, .int .i64 0, .int .i64 0, .int .i64 0] from by simp [four]]
        kernel_rfl
      rw [this]
  have B3 := Lib.hid (B2.out.trans (hb3.mono B2.out.size))
  have HH3 := Lib.hid ((hb3.block _ hs2).trans HH2.out)
  have F3 := Lib.hid f3
  clear f3 hr3 hb3 B2 HH2
  go_loopw [6, 19] (fun _ i wr => ∃ k : Nat, k ≤ 4 ∧ i = .int .i64 k ∧ Four wr w2.heap.size (p + 4 * n) k ∧ wr.heap[w.heap.size]? = some (.cells #[.int .i64 p, .int .i64 q] 53 (0, 0)) ∧ Below w.heap.size w wr) (fun _ i _ => 4 - (RowKit.intOf i).toNat)
  case atStart => exact ⟨0, Nat.zero_le _, rfl, F3.out, HH3.out, B3.out⟩
  case round =>
    obtain ⟨k, hk, rfl, hf, hh, hb⟩ := hrel
    have FF := Lib.hid hf
    have HH := Lib.hid hh
    have BB := Lib.hid hb
    have x0 : wr.cell? ⟨w.heap.size, 0, none⟩ = some (.int .i64 p) := (cell_of_row wr _ 0 _ _ _ hh).trans rfl
    by_cases hlt : k < 4
    · have k0 : (k : Int) < 4 := by omega
      have y0 : wr.cell? ⟨w2.heap.size, k, none⟩ = some (.int .i64 0) := by
        rw [hf.cell k]
        match k, hlt with
        | 0, _ => rfl
        | 1, _ => rfl
        | 2, _ => rfl
        | 3, _ => rfl
      have y1 := hf.frozen k
      clear hf hh hb
      go_wp2
      go_roundw
      case rel =>
        refine ⟨k + 1, by omega, by go_num, FF.out.set hlt, ?_, BB.out.setCell (by show w.heap.size ≤ w2.heap.size; omega) _⟩
        rw [← HH.out]
        exact Below.heap_setCell _ _ _ _ (by show w.heap.size ≠ w2.heap.size; omega)
      case measure => simp [RowKit.intOf]; omega
    · obtain rfl : k = 4 := by omega
      clear hf hh hb
      go_wp2
      go_ret
      exact ⟨_, rfl, hs2, FF.out, BB.out⟩
end Go.Proofs.Ytidnpokjaklfpaa
