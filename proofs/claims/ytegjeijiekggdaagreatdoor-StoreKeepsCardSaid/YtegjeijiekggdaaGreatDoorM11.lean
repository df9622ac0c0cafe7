/- Joined: RfF. -/
import Derived.Test.YtegjeijiekggdaaGreatDoorM10
import Derived.Shelf.SlicesE.Clone
import Derived.Deep.Cut
import Derived.Deep.CutRange
import Derived.StillTailTactics
import Derived.Deep.RegionHeld3
import Derived.OrdersHeld
section
/- The document's disk: a sector changed. The document's disk: all of it made safe; the next byte of fates. The document's disk: Sync. The document's disk: Waits. -/
namespace Go.Proofs.YtegjeijiekggdaaGreatDoor
open Go.RowKit
set_option linter.unusedVariables false
theorem Tryz.infoSx : (Tryz.prog.info? 143).map (fun i => (i.zero, i.size, i.bytes)) = some (some (.agg #[.string ⟨#[]⟩, .string ⟨#[]⟩, .bool false]), 3, 40) := by kernel_rfl
theorem infoSx3 : (Tryz.prog.info? 143).map (·.size) = some 3 := by kernel_rfl
/-- Three boxes made one behind the other, and what grows behind them. -/
theorem three_boxes (w w1 : World) (a b c : Array Value) (ta tb tc : TypeId) (h : (((w.alloc (.cells a ta)).alloc (.cells b tb)).alloc (.cells c tc)).grownBy w1 none) :
    w1.heap[w.heap.size]? = some (.cells a ta (0, 0)) ∧ w1.heap[w.heap.size + 1]? = some (.cells b tb (0, 0)) ∧ w1.heap[w.heap.size + 1 + 1]? = some (.cells c tc (0, 0)) ∧ Below w.heap.size w w1 ∧ w.heap.size + 3 ≤ w1.heap.size := by
  have e1 : (w.alloc (.cells a ta)).heap.size = w.heap.size + 1 := heap_size_alloc _ _
  have e2 : ((w.alloc (.cells a ta)).alloc (.cells b tb)).heap.size = w.heap.size + 1 + 1 := by rw [heap_size_alloc, e1]
  have e3 : (((w.alloc (.cells a ta)).alloc (.cells b tb)).alloc (.cells c tc)).heap.size = w.heap.size + 1 + 1 + 1 := by rw [heap_size_alloc, e2]
  have h1 := heap_alloc_last w (.cells a ta)
  have h2 := heap_alloc_last (w.alloc (.cells a ta)) (.cells b tb)
  have h3 := heap_alloc_last ((w.alloc (.cells a ta)).alloc (.cells b tb)) (.cells c tc)
  rw [e1] at h2
  rw [e2] at h3
  refine ⟨?_, ?_, ?_, ?_, ?_⟩
  · rw [h.block _ (by omega) (by simp), Below.heap_alloc _ _ _ (by omega), Below.heap_alloc _ _ _ (by omega), h1]
  · rw [h.block _ (by omega) (by simp), Below.heap_alloc _ _ _ (by omega), h2]
  · rw [h.block _ (by omega) (by simp), h3]
  · exact ((((Below.refl _ w).alloc (Nat.le_refl _) _).alloc (by omega) _).alloc (by omega) _).grown h (by omega) (fun k e => by cases e)
  · have := h.size; omega
theorem oneCells_S (S : List Sx) : ∀ v ∈ rowS S, v.oneCell' = true := by
  intro v hv
  obtain ⟨x, _, hx⟩ := List.mem_flatMap.1 hv
  simp [sxCells] at hx
  rcases hx with rfl | rfl | rfl <;> rfl
theorem oneCells_x (x : Sx) : ∀ v ∈ sxCells x, v.oneCell' = true := by
  intro v hx
  simp [sxCells] at hx
  rcases hx with rfl | rfl | rfl <;> rfl
theorem rowS_set : ∀ (S : List Sx) (k : Nat) (x : Sx), k < S.length → rowS (S.set k x) = (rowS S).take (k * 3) ++ sxCells x ++ (rowS S).drop (k * 3 + 3)
  | [], k, x, h => by simp at h
  | y :: S, 0, x, _ => by
    show sxCells x ++ rowS S = ([] ++ sxCells x) ++ (sxCells y ++ rowS S).drop 3
    have : (sxCells y ++ rowS S).drop 3 = rowS S := rfl
    rw [this]
    rfl
  | y :: S, k + 1, x, h => by
    have ih := rowS_set S k x (by simpa using h)
    show sxCells y ++ rowS (S.set k x) = (sxCells y ++ rowS S).take ((k + 1) * 3) ++ sxCells x ++ (sxCells y ++ rowS S).drop ((k + 1) * 3 + 3)
    have h3 : (sxCells y).length = 3 := rfl
    have e1 : (sxCells y ++ rowS S).take ((k + 1) * 3) = sxCells y ++ (rowS S).take (k * 3) := by
      rw [show (k + 1) * 3 = (sxCells y).length + k * 3 by omega, List.take_length_add_append]
    have e2 : (sxCells y ++ rowS S).drop ((k + 1) * 3 + 3) = (rowS S).drop (k * 3 + 3) := by
      rw [show (k + 1) * 3 + 3 = (sxCells y).length + (k * 3 + 3) by omega, ← List.drop_drop, List.drop_left]
    rw [ih, e1, e2]
    simp only [List.append_assoc]
theorem ownS_set {base : Nat} {w : World} {g n c : Nat} {S : List Sx} (h : w.ownsRow base 143 3 (.slice (some ⟨g, 0, none⟩) n c) n (rowS S)) {k : Nat} (hn : S.length = n) (hk : k < S.length) (x : Sx) :
    w.there g (k * 3) 3 ∧ (w.setCells g (k * 3) (sxCells x)).ownsRow base 143 3 (.slice (some ⟨g, 0, none⟩) n c) n (rowS (S.set k x)) ∧ w.grownBy (w.setCells g (k * 3) (sxCells x)) (some g) ∧ base ≤ g := by
  rcases h.2 with ⟨e, _⟩ | ⟨g', cap, cur, e, hb, hg, hc, hm, hsz, ht⟩
  · cases e
  injection e with e1 e2 e3
  injection e1 with e1
  injection e1 with e1
  subst e1 e3
  have hxs : k * 3 + 3 ≤ n * 3 := by omega
  have hcs : n * 3 ≤ cur.size := by rw [hsz]; exact Nat.mul_le_mul_right _ hc
  have h3 : (sxCells x).length = 3 := rfl
  obtain ⟨r1, r2⟩ := setCells_row (o := k * 3) (vs := sxCells x) hg (by omega) (oneCells_x x)
  refine ⟨there_of_heap hg (by omega), ⟨?_, .inr ⟨g, c, _, rfl, hb, r1, hc, hm, ?_, ?_⟩⟩, r2, hb⟩
  · rw [rowS_length, List.length_set, hn]
  · simp only [List.size_toArray, List.length_append, List.length_take, List.length_drop, Array.length_toList, h3]
    omega
  · rw [rowS_set S k x hk, h3]
    exact take_spliced (n * 3) (k * 3) 3 cur.toList _ _ ht hxs (by simpa using hcs) h3
set_option maxHeartbeats 2000000 in
set_option maxRecDepth 100000 in
theorem refWith_any (A : Option Addr) (c : Nat) (r : Rk) (k : Nat) (x : Sx) (w : World) (hk : k < r.S.length) (hs : r.S.length ≤ 4096) (hr : RS w A r.S) :
    Calls Tryz.prog 93 #[rkV A c r, .int .i64 (k : Int), .agg (sxCells x).toArray] w fun e w' => ∃ A' c', e = .returned (rkV A' c' { r with S := r.S.set k x }) ∧ RS w' A' (r.S.set k x) ∧ (∀ ad, A' = some ad → w.heap.size ≤ ad.block) ∧ Below w.heap.size w w' := by
  obtain ⟨S, off, calls, after, done⟩ := r
  have hs : S.length ≤ 4096 := hs
  have hr : RS w A S := hr
  have hk : k < S.length := hk
  obtain ⟨i0, hi, hz0, hz1, hz2⟩ := info_parts Tryz.infoSx
  have hi := Lib.hid hi; have hz0 := Lib.hid hz0; have hz1 := Lib.hid hz1; have hz2 := Lib.hid hz2
  rcases hr with e | ⟨g, rfl, hc⟩
  · rw [e] at hk; simp at hk
  have HC := Lib.hid hc
  have hgl : g < w.heap.size := lt_of_cell (hc 0 _ (List.getElem?_eq_getElem (by rw [rowS_length]; omega)))
  clear hc
  have k0 : 0 ≤ (k : Int) := by omega
  have k1 : (k : Int) < (S.length : Int) := by omega
  show Calls Tryz.prog 93 #[.agg #[.slice (some ⟨g, 0, none⟩) S.length c, .bool off, .int .i64 calls, .int .i64 after, .bool done], .int .i64 (k : Int), .agg #[.string (str x.has), .string (str x.safe), .bool x.w]] w _
  have HN := Lib.hid (show S.length = S.length from rfl)
  generalize hN : S.length = N at *
  have hNN := Lib.hid hN
  clear hN HN
  go_enter Tryz.func93, Tryz.ntmps93
  go_wp2_with (at_builtin; refine wpList_append_own _ rfl (.tmp 8) (.tmp 10) 37 rfl (w.heap.size + 3) 143 i0 _ 3 40 Tryz.underlying37 hi.out hz0.out hz1.out hz2.out rfl (by omega) _ _ _ rfl (World.ownsRow_nil _ _ _ _) ⟨g, 0, none⟩ N c (rowS S) rfl ?qc1 ?qc2 ?qc3 ?qc4 ?qc5 ?qc6 ?_)
  case qc1 => rw [rowS_length, hNN.out]
  case qc2 =>
    intro j u hj
    have h1 := HC.out j u hj
    have h2 := lt_of_cell h1
    rw [World.cell?_alloc_lt _ _ _ (by simp at h2 ⊢; omega), World.cell?_alloc_lt _ _ _ (by simp at h2 ⊢; omega), World.cell?_alloc_lt _ _ _ h2]
    exact h1
  case qc3 => exact oneCells_S S
  case qc4 => simp only [maxLen]; omega
  case qc5 => omega
  intro v' w1 hown hgrow hnil
  obtain ⟨p1, p2, p3, bw1, sz1⟩ := three_boxes w w1 _ _ _ _ _ _ hgrow
  rcases hown.2 with ⟨_, h0⟩ | ⟨g', cap', cur', rfl, hb', hh', _⟩
  · omega
  have hg1 : w.heap.size + 1 + 1 < g' := by omega
  have q0 : w1.cell? ⟨w.heap.size, 0, none⟩ = some (.slice (some ⟨g, 0, none⟩) N c) := (cell_of_row w1 _ 0 _ _ _ p1).trans rfl
  have q1 : w1.cell? ⟨w.heap.size, 1, none⟩ = some (.bool off) := (cell_of_row w1 _ 1 _ _ _ p1).trans rfl
  have q2 : w1.cell? ⟨w.heap.size, 2, none⟩ = some (.int .i64 calls) := (cell_of_row w1 _ 2 _ _ _ p1).trans rfl
  have q3 : w1.cell? ⟨w.heap.size, 3, none⟩ = some (.int .i64 after) := (cell_of_row w1 _ 3 _ _ _ p1).trans rfl
  have q4 : w1.cell? ⟨w.heap.size, 4, none⟩ = some (.bool done) := (cell_of_row w1 _ 4 _ _ _ p1).trans rfl
  have qf : w1.frozen? ⟨w.heap.size, 0, none⟩ = false := by simp [World.frozen?, p1]
  have x0 : w1.cell? ⟨w.heap.size + 1, 0, none⟩ = some (.string (str x.has)) := (cell_of_row w1 _ 0 _ _ _ p2).trans rfl
  have x1 : w1.cell? ⟨w.heap.size + 1, 1, none⟩ = some (.string (str x.safe)) := (cell_of_row w1 _ 1 _ _ _ p2).trans rfl
  have x2 : w1.cell? ⟨w.heap.size + 1, 2, none⟩ = some (.bool x.w) := (cell_of_row w1 _ 2 _ _ _ p2).trans rfl
  have OWN := Lib.hid hown
  have P3 := Lib.hid p3
  have P1 := Lib.hid p1
  have BW := Lib.hid bw1
  have hsz : Hid ((S.length : Nat) = N) := hNN
  have nb1 : w.heap.size ≠ g' := by omega
  have nb2 : w.heap.size + 1 ≠ g' := by omega
  have nb3 : w.heap.size + 1 + 1 ≠ g' := by omega
  have nb4 : g' ≠ w.heap.size := by omega
  have nb5 : w.heap.size ≠ w.heap.size + 1 := by omega
  obtain ⟨u1, u2, u3⟩ := rowS_at S k (S[k]'(by rw [hNN.out]; exact hk)) (List.getElem?_eq_getElem (by rw [hNN.out]; exact hk))
  have own1 : w1.ownsRow (w.heap.size + 3) 143 3 (.slice (some ⟨g', 0, none⟩) N cap') N (rowS S) := by simpa using OWN.out
  have ca : ∀ j u, (rowS S)[j]? = some u → w1.cell? ⟨g', j, none⟩ = some u := fun j u hj => by
    have := World.ownsRow.cells own1 (g := g') rfl j u hj
    have e : (⟨g', 0, none⟩ : Addr).add j = ⟨g', j, none⟩ := by cases j <;> simp [Addr.add]
    rwa [e] at this
  have cg0 := ca _ _ u1
  have cg1 := ca _ _ u2
  have cg2 := ca _ _ u3
  have fg : ∀ j, w1.frozen? ⟨g', j, none⟩ = false := fun j => by simp [World.frozen?, hh']
  have fg0 := fg (k * 3)
  have fg1 := fg (k * 3 + 1)
  have fg2 := fg (k * 3 + 2)
  have r0 : w1.cell? ⟨w.heap.size + 1 + 1, 0, none⟩ = some (.slice none 0 0) := (cell_of_row w1 _ 0 _ _ _ p3).trans rfl
  have r1 : w1.cell? ⟨w.heap.size + 1 + 1, 1, none⟩ = some (.bool false) := (cell_of_row w1 _ 1 _ _ _ p3).trans rfl
  have r2 : w1.cell? ⟨w.heap.size + 1 + 1, 2, none⟩ = some (.int .i64 0) := (cell_of_row w1 _ 2 _ _ _ p3).trans rfl
  have r3 : w1.cell? ⟨w.heap.size + 1 + 1, 3, none⟩ = some (.int .i64 0) := (cell_of_row w1 _ 3 _ _ _ p3).trans rfl
  have r4 : w1.cell? ⟨w.heap.size + 1 + 1, 4, none⟩ = some (.bool false) := (cell_of_row w1 _ 4 _ _ _ p3).trans rfl
  have rf : ∀ j, w1.frozen? ⟨w.heap.size + 1 + 1, j, none⟩ = false := fun j => by simp [World.frozen?, p3]
  have rf0 := rf 0; have rf1 := rf 1; have rf2 := rf 2; have rf3 := rf 3; have rf4 := rf 4
  have own2 := ownsRow_setCell_below own1 (a := ⟨w.heap.size, 0, none⟩) (by show w.heap.size < w.heap.size + 3; omega) (.slice (some ⟨g', 0, none⟩) N cap')
  obtain ⟨_, own3, gr3, _⟩ := ownS_set (S := S) (k := k) own2 hNN.out (by rw [hNN.out]; exact hk) x
  have BL3 := Lib.hid ((bw1.setCell (p := ⟨w.heap.size, 0, none⟩) (Nat.le_refl _) (.slice (some ⟨g', 0, none⟩) N cap')).grown gr3 (by have := sz1; simp [World.setCell]; omega) (fun i e => by injection e with e; omega))
  have OWN3 := Lib.hid own3
  clear own1 own2 own3 gr3 ca fg rf sz1 u1 u2 u3 hown hgrow hnil p1 p2 p3 bw1 hh' OWN P3 P1 BW
  go_wp2
  refine bodyPost_ret (v := .agg #[.slice (some ⟨g', 0, none⟩) N cap', .bool off, .int .i64 calls, .int .i64 after, .bool done]) (by simp [results, Tryz.results93, go_sem, r0, r1, r2, r3, r4]) rfl ⟨some ⟨g', 0, none⟩, cap', ?_, ?_, ?_, ?_⟩
  · show _ = Ending.returned (.agg #[.slice (some ⟨g', 0, none⟩) (S.set k x).length cap', .bool off, .int .i64 calls, .int .i64 after, .bool done])
    rw [List.length_set, hNN.out]
  · have o4 := ownsRow_setCell_below (ownsRow_setCell_below (ownsRow_setCell_below (ownsRow_setCell_below (ownsRow_setCell_below OWN3.out (a := ⟨w.heap.size + 1 + 1, 0, none⟩) (by show w.heap.size + 1 + 1 < _; omega) (.slice (some ⟨g', 0, none⟩) N cap')) (a := ⟨w.heap.size + 1 + 1, 1, none⟩) (by show w.heap.size + 1 + 1 < _; omega) (.bool off)) (a := ⟨w.heap.size + 1 + 1, 2, none⟩) (by show w.heap.size + 1 + 1 < _; omega) (.int .i64 calls)) (a := ⟨w.heap.size + 1 + 1, 3, none⟩) (by show w.heap.size + 1 + 1 < _; omega) (.int .i64 after)) (a := ⟨w.heap.size + 1 + 1, 4, none⟩) (by show w.heap.size + 1 + 1 < _; omega) (.bool done)
    have hN' : N = (S.set k x).length := by rw [List.length_set, hNN.out]
    rw [hN'] at o4
    have := (RS.ofOwn (S := S.set k x) o4).1
    rw [← hN'] at this
    exact this
  · intro ad e
    injection e with e
    subst e
    show w.heap.size ≤ g'
    omega
  · exact ((((BL3.out.setCell (p := ⟨w.heap.size + 1 + 1, 0, none⟩) (by show w.heap.size ≤ w.heap.size + 1 + 1; omega) _).setCell (p := ⟨w.heap.size + 1 + 1, 1, none⟩) (by show w.heap.size ≤ w.heap.size + 1 + 1; omega) _).setCell (p := ⟨w.heap.size + 1 + 1, 2, none⟩) (by show w.heap.size ≤ w.heap.size + 1 + 1; omega) _).setCell (p := ⟨w.heap.size + 1 + 1, 3, none⟩) (by show w.heap.size ≤ w.heap.size + 1 + 1; omega) _).setCell (p := ⟨w.heap.size + 1 + 1, 4, none⟩) (by show w.heap.size ≤ w.heap.size + 1 + 1; omega) _
end Go.Proofs.YtegjeijiekggdaaGreatDoor
namespace Go.Proofs.YtegjeijiekggdaaGreatDoor
open Go.RowKit
set_option linter.unusedVariables false
def Sx.safed (x : Sx) : Sx := ⟨x.has, x.has, false⟩
theorem rowS_snoc (S : List Sx) (x : Sx) : rowS (S ++ [x]) = rowS S ++ sxCells x := by simp [rowS, List.flatMap_append]
set_option maxHeartbeats 1000000 in
theorem refTake_any (A : Option Addr) (c : Nat) (l : List UInt8) (w : World) (hc : l.length ≤ c) (hm : l.length ≤ maxLen) (hr : RB w A l) :
    Calls Tryz.prog 92 #[.slice A l.length c] w fun e w' => ∃ A' c', e = .returned (.tuple #[.int .u8 ((tk l).1.toNat : Int), .slice A' (tk l).2.length c']) ∧ (tk l).2.length ≤ c' ∧ RB w A' (tk l).2 ∧ ∃ q, w' = w.drewN q := by
  unfold maxLen at hm
  cases l with
  | nil =>
    go_enter Tryz.func92, Tryz.ntmps92
    go_wp2
    go_ret2
    exact ⟨none, 0, rfl, Nat.le_refl _, .inl rfl, 0, rfl⟩
  | cons f r =>
    rcases hr with hr | ⟨ad, rfl, hcl⟩
    · cases hr
    have h0 := hcl 0 f rfl
    rw [Addr.add_nought] at h0
    have hrb : RB w (some (ad.add 1)) r := by
      have := RB.drop (w := w) (ad := ad) (l := f :: r) (.inr ⟨ad, rfl, hcl⟩) 1
      simpa using this
    have HRB := Lib.hid hrb
    generalize hn : (f :: r).length = n at *
    have hn0 : r.length + 1 = n := by simpa using hn
    have HN := Lib.hid hn0
    have hnb : ((n : Int) == 0) = false := by simp; omega
    have n0 : (1 : Int) ≤ (n : Int) := by omega
    have n1 : (n : Int) ≤ (c : Int) := by omega
    have npos : 0 < n := by omega
    clear hcl hn hn0 hrb
    by_cases hck : c = 1
    · subst hck
      obtain rfl : r = [] := List.eq_nil_of_length_eq_zero (by have := HN.out; omega)
      obtain rfl : 1 = n := HN.out
      go_enter Tryz.func92, Tryz.ntmps92
      go_wp2
      go_quiet (fail)
      go_wp2
      go_ret2
      exact ⟨some ad, 0, rfl, Nat.le_refl _, .inl rfl, _, rfl⟩
    · go_enter Tryz.func92, Tryz.ntmps92
      go_wp2
      go_quiet (fail)
      go_wp2
      go_ret2
      refine ⟨some (ad.add 1), c - 1, ?_, ?_, HRB.out, _, rfl⟩
      · show _ = Ending.returned (.tuple #[.int .u8 (f.toNat : Int), .slice (some (ad.add 1)) r.length (c - 1)])
        rw [Addr.add_one_, show r.length = n - 1 by have := HN.out; omega]
        rfl
      · show r.length ≤ c - 1
        have := HN.out
        omega
theorem step_append_S {w : World} {ops : Array Oper} {o : Oper} {a : Act} {K : Act → World → Prop} {Q : Exit → Act → World → Prop} {E : Prop} (hgd : o.guard = none) (s x : Operand)
    (ho : o.op = .call { callee := .builtin .append, args := #[s, x], argTypes := #[37, 37] })
    (base : Nat) (v : Value) (L : List Sx) (y : Sx) (hs : a.eval s = v) (hown : w.ownsRow base 143 3 v L.length (rowS L)) (q : Nat) (hx : a.eval x = .slice (some ⟨q, 0, none⟩) 1 1) (hq : w.heap[q]? = some (.cells (sxCells y).toArray 143 (0, 0)))
    (hbound : L.length ≤ 4096) (hbase : base ≤ w.heap.size)
    (h : ∀ v' w', w'.ownsRow base 143 3 v' (L.length + 1) (rowS L ++ sxCells y) → w.grownBy w' v.ownBlock → K (a.put o.dst v') w') :
    if Region.wanted o (yielded ops a.tmps) = true then Oper.wp Tryz.prog o a w K Q else E := by
  have hw : Region.wanted o (yielded ops a.tmps) = true := by simp [Region.wanted, hgd]
  rw [if_pos hw]
  obtain ⟨i0, hi, hz0, hz1, hz2⟩ := info_parts Tryz.infoSx
  obtain ⟨v', w', hrun, h2, h3, _, _⟩ := run_append_own_at (P := Tryz.prog) w base 37 o.type 143 i0 _ 3 40 Tryz.underlying37 hi hz0 hz1 hz2 rfl (by omega) v L.length (rowS L) hown ⟨q, 0, none⟩ 1 1 (sxCells y)
    rfl (fun j u hu => by
      have e : (⟨q, 0, none⟩ : Addr).add j = ⟨q, j, none⟩ := by cases j <;> simp [Addr.add]
      rw [e, cell_of_row w q j _ _ _ hq]
      simpa using hu) (oneCells_x y) (by simp only [maxLen]; omega) (by omega) hbase
  unfold Oper.wp execOp
  simp only [ho, resolve, invoke, builtin, Sem.run_bind, Sem.run_pure, Result.andThen_ok, List.map_toArray, List.map_cons, List.map_nil, hs, hx, hrun]
  exact h v' w' h2 h3
/-- While a row of sectors grows: those of L are there, the two boxes and what lay before stand. -/
structure GrowS (w : World) (box res : Array Value) (L : List Sx) (v : Value) (wr : World) : Prop where
  own : wr.ownsRow (w.heap.size + 2) 143 3 v L.length (rowS L)
  b0 : wr.heap[w.heap.size]? = some (.cells box 39 (0, 0))
  b1 : wr.heap[w.heap.size + 1]? = some (.cells res 39 (0, 0))
  below : Below w.heap.size w wr
theorem GrowS.form {w : World} {box res : Array Value} {L : List Sx} {v : Value} {wr : World} (h : GrowS w box res L v wr) : ∃ A c, v = .slice A L.length c ∧ ∀ ad, A = some ad → w.heap.size + 2 ≤ ad.block := by
  rcases h.own.2 with ⟨e, h0⟩ | ⟨g, cap, cur, e, hb, _⟩
  · exact ⟨none, 0, by rw [e, h0], fun ad e => by cases e⟩
  · exact ⟨some ⟨g, 0, none⟩, cap, e, fun ad e => by injection e with e; subst e; exact hb⟩
theorem GrowS.step {w : World} {box res : Array Value} {L : List Sx} {v v' : Value} {wr w1 : World} (h : GrowS w box res L v wr) (hsz : w.heap.size + 2 ≤ wr.heap.size) (o : Obj) (x : Sx) (hown : w1.ownsRow (w.heap.size + 2) 143 3 v' (L.length + 1) (rowS L ++ sxCells x)) (hg : (wr.drew.alloc o).grownBy w1 v.ownBlock) : GrowS w box res (L ++ [x]) v' w1 := by
  have hvb : ∀ i, v.ownBlock = some i → w.heap.size + 2 ≤ i := fun i e => (World.ownsRow.lt h.own i e).1
  have keep : ∀ i, i < w.heap.size + 2 → w1.heap[i]? = wr.heap[i]? := fun i hi =>
    (hg.block i (by simp; omega) (fun e => by have := hvb i e.symm; omega)).trans ((Below.heap_alloc _ _ _ (by show i < wr.heap.size; omega)))
  refine ⟨?_, (keep _ (by omega)).trans h.b0, (keep _ (by omega)).trans h.b1, ?_⟩
  · rw [rowS_snoc, List.length_append]
    exact hown
  · refine ⟨hg.os.trans h.below.os, hg.tape.trans h.below.tape, hg.output.trans h.below.output, Nat.le_trans h.below.size (Nat.le_trans (by simp) hg.size), fun i hi => (keep i (by omega)).trans (h.below.block i hi)⟩
def SafeRel (w : World) (box res : Array Value) (S : List Sx) (v i : Value) (wr : World) : Prop :=
  ∃ k : Nat, k ≤ S.length ∧ i = .int .i64 (k : Int) ∧ GrowS w box res ((S.take k).map Sx.safed) v wr
theorem bsz {wr : World} {b : Array Value} {t : TypeId} {i : Nat} (h : wr.heap[i]? = some (.cells b t (0, 0))) : i < wr.heap.size := (Array.getElem?_eq_some_iff.1 h).1
set_option maxHeartbeats 2000000 in
set_option maxRecDepth 100000 in
theorem refSafe_any (A : Option Addr) (c : Nat) (r : Rk) (w : World) (hs : r.S.length ≤ 4096) (hr : RS w A r.S) :
    Calls Tryz.prog 94 #[rkV A c r] w fun e w' => ∃ A' c', e = .returned (rkV A' c' { r with S := r.S.map Sx.safed }) ∧ RS w' A' (r.S.map Sx.safed) ∧ (∀ ad, A' = some ad → w.heap.size ≤ ad.block) ∧ Below w.heap.size w w' := by
  obtain ⟨S, off, calls, after, done⟩ := r
  have hs : S.length ≤ 4096 := hs
  have hr : RS w A S := hr
  obtain ⟨i0, hi, hz0, hz1, hz2⟩ := info_parts Tryz.infoSx
  have hi := Lib.hid hi; have hz0 := Lib.hid hz0; have hz1 := Lib.hid hz1; have hz2 := Lib.hid hz2
  show Calls Tryz.prog 94 #[.agg #[.slice A S.length c, .bool off, .int .i64 calls, .int .i64 after, .bool done]] w _
  have hz := heap_size_alloc w (.cells #[.slice A S.length c, .bool off, .int .i64 calls, .int .i64 after, .bool done] 39)
  have st0 : GrowS w #[.slice A S.length c, .bool off, .int .i64 calls, .int .i64 after, .bool done] #[.slice none 0 0, .bool false, .int .i64 0, .int .i64 0, .bool false] [] (.slice none 0 0) ((w.alloc (.cells #[.slice A S.length c, .bool off, .int .i64 calls, .int .i64 after, .bool done] 39)).alloc (.cells #[.slice none 0 0, .bool false, .int .i64 0, .int .i64 0, .bool false] 39)) := by
    refine ⟨World.ownsRow_nil _ _ _ _, (Below.heap_alloc _ _ _ (by omega)).trans (heap_alloc_last w _), ?_, ((Below.refl _ w).alloc (Nat.le_refl _) _).alloc (by omega) _⟩
    have := heap_alloc_last (w.alloc (.cells #[.slice A S.length c, .bool off, .int .i64 calls, .int .i64 after, .bool done] 39)) (.cells #[.slice none 0 0, .bool false, .int .i64 0, .int .i64 0, .bool false] 39)
    rw [hz] at this
    exact this
  have ST0 := Lib.hid st0
  clear st0 hz
  go_enter Tryz.func94, Tryz.ntmps94
  go_wp2
  go_loopw [3, 4] (fun v i wr => SafeRel w #[.slice A S.length c, .bool off, .int .i64 calls, .int .i64 after, .bool done] #[.slice none 0 0, .bool false, .int .i64 0, .int .i64 0, .bool false] S v i wr) (fun _ i _ => S.length - (RowKit.intOf i).toNat)
  case atStart => exact ⟨0, Nat.zero_le _, rfl, by simpa using ST0.out⟩
  case round =>
    obtain ⟨k, hk, rfl, st⟩ := hrel
    obtain ⟨A1, c1, rfl, hA1⟩ := st.form
    have k0 : 0 ≤ (k : Int) := by omega
    have q0 : wr.cell? ⟨w.heap.size, 0, none⟩ = some (.slice A S.length c) := (cell_of_row wr _ 0 _ _ _ st.b0).trans rfl
    have hsz := bsz st.b1
    have ST := Lib.hid st
    have HLn := Lib.hid (show ((S.take k).map Sx.safed).length = k from by rw [List.length_map, List.length_take]; omega)
    by_cases hlt : k < S.length
    · obtain ⟨g, rfl, hgw, y1, _, _⟩ := hr.at_ (List.getElem?_eq_getElem hlt)
      have x1 := (st.below.cell (p := ⟨g, k * 3, none⟩) hgw).trans y1
      have hg : g < wr.heap.size := Nat.lt_of_lt_of_le hgw st.below.size
      have kk : (k : Int) < (S.length : Int) := by omega
      have HT := Lib.hid (show (S.take (k + 1)).map Sx.safed = (S.take k).map Sx.safed ++ [S[k].safed] from by rw [List.take_add_one, List.getElem?_eq_getElem hlt, List.map_append]; rfl)
      have hh : S[k].safed = ⟨S[k].has, S[k].has, false⟩ := rfl
      rw [hh] at HT
      generalize S[k].has = y at *
      have HLn' := HLn
      generalize hLn : ((S.take k).map Sx.safed).length = ln at HLn ST
      have hln : ln = k := HLn.out
      subst hln
      clear st hh
      have SX : wr.cell? ⟨w.heap.size, 0, none⟩ = some (.slice (some ⟨g, 0, none⟩) S.length c) ∧ wr.cell? ⟨g, ln * 3, none⟩ = some (.string (str y)) := ⟨q0, x1⟩
      have HS2 := Lib.hid (show ∀ o, (wr.drew.alloc o).cell? ⟨w.heap.size, 0, none⟩ = some (.slice (some ⟨g, 0, none⟩) S.length c) ∧ (wr.drew.alloc o).cell? ⟨g, ln * 3, none⟩ = some (.string (str y)) from fun o => ⟨(World.cell?_alloc_lt wr.drew o ⟨w.heap.size, 0, none⟩ (by show w.heap.size < wr.heap.size; omega)).trans q0, (World.cell?_alloc_lt wr.drew o ⟨g, ln * 3, none⟩ hg).trans x1⟩)
      have OWN1 := Lib.hid (show ∀ o, (wr.drew.alloc o).ownsRow (w.heap.size + 2) 143 3 (.slice A1 ln c1) ((S.take ln).map Sx.safed).length (rowS ((S.take ln).map Sx.safed)) from fun o => World.ownsRow.alloc (w := wr.drew) ST.out.own o)
      have HQ := Lib.hid (show ∀ o, (wr.drew.alloc o).heap[wr.heap.size]? = some o from fun o => heap_alloc_last wr.drew o)
      have LB := Lib.hid (show ((S.take ln).map Sx.safed).length ≤ 4096 from by rw [HLn'.out]; omega)
      have HB2 := Lib.hid (show w.heap.size + 2 ≤ (wr.drew.alloc (.cells #[.string (str y), .string (str y), .bool false] 143)).heap.size from by rw [heap_size_alloc]; show _ ≤ wr.heap.size + 1; omega)
      have STEP := Lib.hid (show ∀ o v' w1, w1.ownsRow (w.heap.size + 2) 143 3 v' (((S.take ln).map Sx.safed).length + 1) (rowS ((S.take ln).map Sx.safed) ++ sxCells ⟨y, y, false⟩) → (wr.drew.alloc o).grownBy w1 (Value.slice A1 ln c1).ownBlock → GrowS w #[.slice (some ⟨g, 0, none⟩) S.length c, .bool off, .int .i64 calls, .int .i64 after, .bool done] #[.slice none 0 0, .bool false, .int .i64 0, .int .i64 0, .bool false] ((S.take ln).map Sx.safed ++ [⟨y, y, false⟩]) v' w1 from fun o v' w1 h1 h2 => ST.out.step (by omega) o ⟨y, y, false⟩ h1 h2)
      have HS3 := Lib.hid (show ∀ v' w1, GrowS w #[.slice (some ⟨g, 0, none⟩) S.length c, .bool off, .int .i64 calls, .int .i64 after, .bool done] #[.slice none 0 0, .bool false, .int .i64 0, .int .i64 0, .bool false] ((S.take ln).map Sx.safed ++ [⟨y, y, false⟩]) v' w1 → w1.cell? ⟨w.heap.size, 0, none⟩ = some (.slice (some ⟨g, 0, none⟩) S.length c) ∧ w1.cell? ⟨g, ln * 3, none⟩ = some (.string (str y)) from fun v' w1 h => ⟨(cell_of_row w1 _ 0 _ _ _ h.b0).trans rfl, (h.below.cell (p := ⟨g, ln * 3, none⟩) hgw).trans y1⟩)
      go_wp2
      go_region_held3 (fun W => W.cell? ⟨w.heap.size, 0, none⟩ = some (.slice (some ⟨g, 0, none⟩) S.length c) ∧ W.cell? ⟨g, ln * 3, none⟩ = some (.string (str y))) (first | exact SX | exact HS2.out _ | assumption)
        (first
          | (refine step_append_S rfl (.tmp 12) (.tmp 26) rfl (w.heap.size + 2) _ ((S.take ln).map Sx.safed) ⟨y, y, false⟩ rfl (OWN1.out _) wr.heap.size rfl (HQ.out _) LB.out HB2.out ?_; intro v' w1 hown' hgr; have st' := STEP.out _ v' w1 hown' hgr; have s3 := HS3.out v' w1 st')
          | fail)
      all_goals
        have ST' := Lib.hid st'
        clear st' s3
        go_wp2
        go_roundw
        case rel =>
          refine ⟨ln + 1, by omega, by go_num, ?_⟩
          rw [HT.out]
          exact ST'.out
        case measure => simp [RowKit.intOf]; omega
    · have hkS : k = S.length := by omega
      subst hkS
      have nn : ¬ ((S.length : Int) < (S.length : Int)) := by omega
      have eqL : (S.take S.length).map Sx.safed = S.map Sx.safed := by rw [List.take_length]
      have OWN := Lib.hid (show wr.ownsRow (w.heap.size + 2) 143 3 (.slice A1 (S.map Sx.safed).length c1) (S.map Sx.safed).length (rowS (S.map Sx.safed)) from by have := ST.out.own; rw [HLn.out, eqL] at this; rw [List.length_map]; exact this)
      have q1 : wr.cell? ⟨w.heap.size, 1, none⟩ = some (.bool off) := (cell_of_row wr _ 1 _ _ _ st.b0).trans rfl
      have q2 : wr.cell? ⟨w.heap.size, 2, none⟩ = some (.int .i64 calls) := (cell_of_row wr _ 2 _ _ _ st.b0).trans rfl
      have q3 : wr.cell? ⟨w.heap.size, 3, none⟩ = some (.int .i64 after) := (cell_of_row wr _ 3 _ _ _ st.b0).trans rfl
      have q4 : wr.cell? ⟨w.heap.size, 4, none⟩ = some (.bool done) := (cell_of_row wr _ 4 _ _ _ st.b0).trans rfl
      have qf : wr.frozen? ⟨w.heap.size, 0, none⟩ = false := by simp [World.frozen?, st.b0]
      have r0 : wr.cell? ⟨w.heap.size + 1, 0, none⟩ = some (.slice none 0 0) := (cell_of_row wr _ 0 _ _ _ st.b1).trans rfl
      have r1 : wr.cell? ⟨w.heap.size + 1, 1, none⟩ = some (.bool false) := (cell_of_row wr _ 1 _ _ _ st.b1).trans rfl
      have r2 : wr.cell? ⟨w.heap.size + 1, 2, none⟩ = some (.int .i64 0) := (cell_of_row wr _ 2 _ _ _ st.b1).trans rfl
      have r3 : wr.cell? ⟨w.heap.size + 1, 3, none⟩ = some (.int .i64 0) := (cell_of_row wr _ 3 _ _ _ st.b1).trans rfl
      have r4 : wr.cell? ⟨w.heap.size + 1, 4, none⟩ = some (.bool false) := (cell_of_row wr _ 4 _ _ _ st.b1).trans rfl
      have rf : ∀ j, wr.frozen? ⟨w.heap.size + 1, j, none⟩ = false := fun j => by simp [World.frozen?, st.b1]
      have rf0 := rf 0; have rf1 := rf 1; have rf2 := rf 2; have rf3 := rf 3; have rf4 := rf 4
      have nb5 : w.heap.size ≠ w.heap.size + 1 := by omega
      have BW := Lib.hid st.below
      have HA1 := Lib.hid hA1
      have HLn2 := Lib.hid (show ((S.take S.length).map Sx.safed).length = S.length from HLn.out)
      rw [HLn.out] at *
      have HLM := Lib.hid (show (S.map Sx.safed).length = S.length from by simp)
      clear rf st ST hA1 eqL
      go_wp2
      refine bodyPost_ret (v := .agg #[.slice A1 S.length c1, .bool off, .int .i64 calls, .int .i64 after, .bool done]) (by simp [results, Tryz.results94, go_sem, r0, r1, r2, r3, r4]) rfl ⟨A1, ⟨c1, ?_⟩, ?_, ?_, ?_⟩
      · show _ = Ending.returned (.agg #[.slice A1 (S.map Sx.safed).length c1, .bool off, .int .i64 calls, .int .i64 after, .bool done])
        rw [HLM.out]
      · have o4 := ownsRow_setCell_below (ownsRow_setCell_below (ownsRow_setCell_below (ownsRow_setCell_below (ownsRow_setCell_below (ownsRow_setCell_below OWN.out (a := ⟨w.heap.size, 0, none⟩) (by show w.heap.size < _; omega) (.slice A1 S.length c1)) (a := ⟨w.heap.size + 1, 0, none⟩) (by show w.heap.size + 1 < _; omega) (.slice A1 S.length c1)) (a := ⟨w.heap.size + 1, 1, none⟩) (by show w.heap.size + 1 < _; omega) (.bool off)) (a := ⟨w.heap.size + 1, 2, none⟩) (by show w.heap.size + 1 < _; omega) (.int .i64 calls)) (a := ⟨w.heap.size + 1, 3, none⟩) (by show w.heap.size + 1 < _; omega) (.int .i64 after)) (a := ⟨w.heap.size + 1, 4, none⟩) (by show w.heap.size + 1 < _; omega) (.bool done)
        exact (RS.ofOwn (S := S.map Sx.safed) o4).1
      · intro ad e
        have := HA1.out ad e
        omega
      · exact (((((BW.out.setCell (p := ⟨w.heap.size, 0, none⟩) (Nat.le_refl _) _).setCell (p := ⟨w.heap.size + 1, 0, none⟩) (by show w.heap.size ≤ w.heap.size + 1; omega) _).setCell (p := ⟨w.heap.size + 1, 1, none⟩) (by show w.heap.size ≤ w.heap.size + 1; omega) _).setCell (p := ⟨w.heap.size + 1, 2, none⟩) (by show w.heap.size ≤ w.heap.size + 1; omega) _).setCell (p := ⟨w.heap.size + 1, 3, none⟩) (by show w.heap.size ≤ w.heap.size + 1; omega) _).setCell (p := ⟨w.heap.size + 1, 4, none⟩) (by show w.heap.size ≤ w.heap.size + 1; omega) _
end Go.Proofs.YtegjeijiekggdaaGreatDoor
namespace Go.Proofs.YtegjeijiekggdaaGreatDoor
open Go.RowKit
set_option linter.unusedVariables false
def Rk.safed (r : Rk) : Rk := { r with S := r.S.map Sx.safed }
def Rk.sync (r : Rk) : Rk := if r.off = true then r else r.call r.safed
def Rk.syncErr (r : Rk) : Nat := if r.off = true then 8 else r.callErr
/-- A value reads as the document's disk r, whose rows are in w. -/
def RkIs (w : World) (r : Rk) (v : Value) : Prop := ∃ A c, v = rkV A c r ∧ RS w A r.S
theorem RkIs.below {w w' : World} {r : Rk} {v : Value} (h : RkIs w r v) (hb : Below w.heap.size w w') : RkIs w' r v := by
  obtain ⟨A, c, e, hr⟩ := h
  exact ⟨A, c, e, hr.below hb⟩
theorem RkIs.call {w : World} {A A' : Option Addr} {c c' : Nat} {r t : Rk} (h : RS w A r.S) (h' : RS w A' t.S) : RkIs w (r.call t) (r.callV t A c A' c') := by
  unfold Rk.callV Rk.callGoes Rk.call
  by_cases hz : r.after = 0
  · cases hd : r.done <;> simp [hz]
    · exact ⟨A, c, rfl, h⟩
    · exact ⟨A', c', rfl, h'⟩
  · simp [hz]
    exact ⟨A', c', rfl, h'⟩
theorem Rk.call_len (r t : Rk) (h : t.S.length = r.S.length) : (r.call t).S.length = r.S.length := by
  unfold Rk.call
  split
  · exact h
  · split
    · exact h
    · rfl
theorem callV_pick (P : Option Addr → List Sx → Prop) {A A' : Option Addr} (c c' : Nat) (r t : Rk) (h : P A r.S) (h' : P A' t.S) : ∃ A2 c2, r.callV t A c A' c' = rkV A2 c2 (r.call t) ∧ P A2 (r.call t).S := by
  unfold Rk.callV Rk.callGoes Rk.call
  by_cases hz : r.after = 0
  · cases hd : r.done <;> simp [hz]
    · exact ⟨A, ⟨c, rfl⟩, h⟩
    · exact ⟨A', ⟨c', rfl⟩, h'⟩
  · simp [hz]
    exact ⟨A', ⟨c', rfl⟩, h'⟩
theorem RS.lt {w : World} {A : Option Addr} {S : List Sx} (h : RS w A S) : S ≠ [] → ∀ ad, A = some ad → ad.block < w.heap.size := by
  intro hS ad e
  rcases h with h | ⟨g, rfl, hc⟩
  · exact absurd h hS
  · injection e with e
    subst e
    cases S with
    | nil => exact absurd rfl hS
    | cons x S => exact lt_of_cell (hc 0 (.string (str x.has)) rfl)
/-- A row that is not in the block b. -/
def Out (b : Nat) (A : Option Addr) (S : List Sx) : Prop := S ≠ [] → ∀ ad, A = some ad → ad.block ≠ b
/-- Two boxes of five cells made one behind the other. -/
structure Two5 (b : Nat) (x y : Array Value) (W : World) : Prop where
  b0 : W.heap[b]? = some (.cells x 39 (0, 0))
  b1 : W.heap[b + 1]? = some (.cells y 39 (0, 0))
theorem Two5.mk2 (w : World) (x y : Array Value) : Two5 w.heap.size x y ((w.alloc (.cells x 39)).alloc (.cells y 39)) := by
  have hz := heap_size_alloc w (.cells x 39)
  refine ⟨(Below.heap_alloc _ _ _ (by omega)).trans (heap_alloc_last w _), ?_⟩
  have := heap_alloc_last (w.alloc (.cells x 39)) (.cells y 39)
  rw [hz] at this
  exact this
theorem Two5.below {b : Nat} {x y : Array Value} {W W' : World} (h : Two5 b x y W) {n : Nat} (hn : b + 2 ≤ n) (hb : Below n W W') : Two5 b x y W' := ⟨(hb.block _ (by omega)).trans h.b0, (hb.block _ (by omega)).trans h.b1⟩
theorem Two5.drew {b : Nat} {x y : Array Value} {W : World} (h : Two5 b x y W) : Two5 b x y W.drew := ⟨h.b0, h.b1⟩
theorem Two5.size {b : Nat} {x y : Array Value} {W : World} (h : Two5 b x y W) : b + 2 ≤ W.heap.size := bsz h.b1
theorem Two5.c0 {b : Nat} {x : Array Value} {a0 a1 a2 a3 a4 : Value} {W : World} (h : Two5 b #[a0, a1, a2, a3, a4] x W) : W.cell? ⟨b, 0, none⟩ = some a0 ∧ W.cell? ⟨b, 1, none⟩ = some a1 ∧ W.cell? ⟨b, 2, none⟩ = some a2 ∧ W.cell? ⟨b, 3, none⟩ = some a3 ∧ W.cell? ⟨b, 4, none⟩ = some a4 :=
  ⟨(cell_of_row W _ 0 _ _ _ h.b0).trans rfl, (cell_of_row W _ 1 _ _ _ h.b0).trans rfl, (cell_of_row W _ 2 _ _ _ h.b0).trans rfl, (cell_of_row W _ 3 _ _ _ h.b0).trans rfl, (cell_of_row W _ 4 _ _ _ h.b0).trans rfl⟩
theorem Two5.c1 {b : Nat} {x : Array Value} {a0 a1 a2 a3 a4 : Value} {W : World} (h : Two5 b x #[a0, a1, a2, a3, a4] W) : W.cell? ⟨b + 1, 0, none⟩ = some a0 ∧ W.cell? ⟨b + 1, 1, none⟩ = some a1 ∧ W.cell? ⟨b + 1, 2, none⟩ = some a2 ∧ W.cell? ⟨b + 1, 3, none⟩ = some a3 ∧ W.cell? ⟨b + 1, 4, none⟩ = some a4 :=
  ⟨(cell_of_row W _ 0 _ _ _ h.b1).trans rfl, (cell_of_row W _ 1 _ _ _ h.b1).trans rfl, (cell_of_row W _ 2 _ _ _ h.b1).trans rfl, (cell_of_row W _ 3 _ _ _ h.b1).trans rfl, (cell_of_row W _ 4 _ _ _ h.b1).trans rfl⟩
theorem Two5.f1 {b : Nat} {x y : Array Value} {W : World} (h : Two5 b x y W) (j : Nat) : W.frozen? ⟨b + 1, j, none⟩ = false := by simp [World.frozen?, h.b1]
set_option maxHeartbeats 4000000 in
set_option maxRecDepth 100000 in
theorem refSync_any (A : Option Addr) (c : Nat) (r : Rk) (w : World) (hs : r.S.length ≤ 4096) (hr : RS w A r.S) (h0 : 0 ≤ r.calls) (h1 : r.calls ≤ 4611686018427387904) (h2 : -1 ≤ r.after) (h3 : r.after ≤ 9223372036854775807) :
    Calls Tryz.prog 97 #[rkV A c r] w fun e w' => ∃ v, e = .returned (.tuple #[v, .int .i64 (r.syncErr : Int)]) ∧ RkIs w' r.sync v ∧ Below w.heap.size w w' := by
  by_cases ho : r.off = true
  · have e1 : r.sync = r := if_pos ho
    have e2 : r.syncErr = 8 := if_pos ho
    rw [e1, e2]
    clear e1 e2
    obtain ⟨S, off, calls, after, done⟩ := r
    have ho : off = true := ho
    subst ho
    have hr : RS w A S := hr
    have B := Lib.hid (fun x y => ((Below.refl _ w).alloc (Nat.le_refl _) (.cells x 39)).alloc (by rw [heap_size_alloc]; omega) (.cells y 39))
    have F := Lib.hid (fun W (hb : Below w.heap.size w W) => show RkIs W ⟨S, true, calls, after, done⟩ (.agg #[.slice A S.length c, .bool true, .int .i64 calls, .int .i64 after, .bool done]) from ⟨A, c, rfl, hr.below hb⟩)
    show Calls Tryz.prog 97 #[.agg #[.slice A S.length c, .bool true, .int .i64 calls, .int .i64 after, .bool done]] w _
    go_enter Tryz.func97, Tryz.ntmps97
    go_wp2
    refine bodyPost_ret (v := .tuple #[.agg #[.slice A S.length c, .bool true, .int .i64 calls, .int .i64 after, .bool done], .int .i64 8]) (by simp [results, Tryz.results97, go_sem]) rfl ⟨_, rfl, F.out _ (B.out _ _), B.out _ _⟩
  · have ho : r.off = false := by simpa using ho
    have e1 : r.sync = r.call r.safed := if_neg (by simp [ho])
    have e2 : r.syncErr = r.callErr := if_neg (by simp [ho])
    rw [e1, e2]
    clear e1 e2
    have hl : (r.call r.safed).S.length = r.S.length := Rk.call_len r r.safed (by simp [Rk.safed])
    have KS : Hid (∀ W, RS W A r.S → Calls Tryz.prog 94 #[.agg #[.slice A r.S.length c, .bool false, .int .i64 r.calls, .int .i64 r.after, .bool r.done]] W fun e w' => ∃ A' c', e = .returned (.agg #[.slice A' r.S.length c', .bool false, .int .i64 r.calls, .int .i64 r.after, .bool r.done]) ∧ RS w' A' r.safed.S ∧ (∀ ad, A' = some ad → W.heap.size ≤ ad.block) ∧ Below W.heap.size W w') := Lib.hid fun W h => by
      have k := refSafe_any A c r W hs h
      unfold rkV at k
      rw [ho, List.length_map] at k
      refine k.mono ?_
      rintro e w' ⟨A', c', rfl, a, d, b⟩
      exact ⟨A', c', rfl, a, d, b⟩
    have KC : Hid (∀ A' c' W, RS W A r.S ∧ Out (w.heap.size + 1) A r.S → RS W A' r.safed.S ∧ Out (w.heap.size + 1) A' r.safed.S → Calls Tryz.prog 141 #[.agg #[.slice A r.S.length c, .bool false, .int .i64 r.calls, .int .i64 r.after, .bool r.done], .agg #[.slice A' r.S.length c', .bool false, .int .i64 r.calls, .int .i64 r.after, .bool r.done]] W fun e w' => ∃ A2 c2, e = .returned (.tuple #[.agg #[.slice A2 r.S.length c2, .bool (r.call r.safed).off, .int .i64 (r.call r.safed).calls, .int .i64 (r.call r.safed).after, .bool (r.call r.safed).done], .int .i64 (r.callErr : Int)]) ∧ RS w' A2 (r.call r.safed).S ∧ Out (w.heap.size + 1) A2 (r.call r.safed).S ∧ Below W.heap.size W w') := Lib.hid fun A' c' W ha hb => by
      have k := refCall_any A A' c c' r r.safed W h0 h1 h2 h3
      have q1 : rkV A c r = .agg #[.slice A r.S.length c, .bool false, .int .i64 r.calls, .int .i64 r.after, .bool r.done] := by unfold rkV; rw [ho]
      have q2 : rkV A' c' r.safed = .agg #[.slice A' r.S.length c', .bool false, .int .i64 r.calls, .int .i64 r.after, .bool r.done] := by unfold rkV Rk.safed; rw [List.length_map, ho]
      rw [q1, q2] at k
      refine k.mono ?_
      rintro e w' ⟨rfl, b⟩
      obtain ⟨A2, c2, e2, hr2⟩ := callV_pick (fun A S => RS W A S ∧ Out (w.heap.size + 1) A S) c c' r r.safed ha hb
      refine ⟨A2, c2, ?_, hr2.1.below b, hr2.2, b⟩
      rw [e2]
      unfold rkV
      rw [hl]
    have FIN := Lib.hid (fun W A2 c2 (h : RS W A2 (r.call r.safed).S) => show RkIs W (r.call r.safed) (.agg #[.slice A2 r.S.length c2, .bool (r.call r.safed).off, .int .i64 (r.call r.safed).calls, .int .i64 (r.call r.safed).after, .bool (r.call r.safed).done]) from ⟨A2, c2, by unfold rkV; rw [hl], h⟩)
    have q1 : rkV A c r = .agg #[.slice A r.S.length c, .bool false, .int .i64 r.calls, .int .i64 r.after, .bool r.done] := by unfold rkV; rw [ho]
    rw [q1]
    clear q1 hl h0 h1 h2 h3 hs ho
    generalize r.call r.safed = R at *
    generalize r.safed = T at *
    generalize r.callErr = re at *
    obtain ⟨S, off, calls, after, done⟩ := r
    obtain ⟨S2, off2, calls2, after2, done2⟩ := R
    simp only at KS KC FIN hr ⊢
    generalize hN : S.length = N at *
    have T0 := Lib.hid (fun x y => Two5.mk2 w x y)
    have B0 := Lib.hid (fun x y => ((Below.refl _ w).alloc (Nat.le_refl _) (.cells x 39)).alloc (by rw [heap_size_alloc]; omega) (.cells y 39))
    have HR := Lib.hid hr
    have OA := Lib.hid (show Out (w.heap.size + 1) A S from fun h ad e => by have := hr.lt h ad e; omega)
    clear hr hN
    go_enter Tryz.func97, Tryz.ntmps97
    go_wp2
    have t0 := T0.out #[.slice A N c, .bool false, .int .i64 calls, .int .i64 after, .bool done] #[.slice none 0 0, .bool false, .int .i64 0, .int .i64 0, .bool false]
    have b0 := B0.out #[.slice A N c, .bool false, .int .i64 calls, .int .i64 after, .bool done] #[.slice none 0 0, .bool false, .int .i64 0, .int .i64 0, .bool false]
    have TT := Lib.hid t0.drew
    have BB := Lib.hid b0.drew
    have HRD := Lib.hid (HR.out.below BB.out)
    clear t0 b0 T0 B0
    generalize World.alloc (World.alloc w _) _ = W0 at *
    have c0 := TT.out.c0
    have nb5 : w.heap.size ≠ w.heap.size + 1 := by omega
    go_region_held3 (fun W => W.cell? ⟨w.heap.size, 0, none⟩ = some (.slice A N c) ∧ W.cell? ⟨w.heap.size, 1, none⟩ = some (.bool false) ∧ W.cell? ⟨w.heap.size, 2, none⟩ = some (.int .i64 calls) ∧ W.cell? ⟨w.heap.size, 3, none⟩ = some (.int .i64 after) ∧ W.cell? ⟨w.heap.size, 4, none⟩ = some (.bool done)) (first | with_reducible assumption | with_reducible exact c0 | go_keep | fail)
      (first
        | (go_at_call 94; refine (KS.out _ HRD.out).mono ?_; rintro e w1 ⟨A1, c1, rfl, hr1, d1, b1⟩; have OA1 := Lib.hid (show Out (w.heap.size + 1) A1 T.S from fun _ ad e => by have := d1 ad e; have := TT.out.size; omega); have T1 := Lib.hid (TT.out.below TT.out.size b1); have s1 := T1.out.c0; have B1 := Lib.hid (BB.out.trans (b1.mono BB.out.size)); have HR1 := Lib.hid hr1; clear hr1 b1 d1)
        | (go_at_call 141; refine (KC.out _ _ _ ⟨HR.out.below B1.out, OA.out⟩ ⟨HR1.out, OA1.out⟩).mono ?_; rintro e w2 ⟨A2, c2, rfl, hr2, d2, b2⟩; have OA2 := Lib.hid d2; have T2 := Lib.hid (T1.out.below T1.out.size b2); have s2 := T2.out.c0; have B2 := Lib.hid (B1.out.trans (b2.mono B1.out.size)); have HR2 := Lib.hid hr2; obtain ⟨r0, r1, r2, r3, r4⟩ := T2.out.c1; have rf0 := T2.out.f1 0; have rf1 := T2.out.f1 1; have rf2 := T2.out.f1 2; have rf3 := T2.out.f1 3; have rf4 := T2.out.f1 4; clear hr2 b2 d2)
        | fail)
    all_goals
      go_wp2
      refine bodyPost_ret (v := .tuple #[.agg #[.slice A2 N c2, .bool off2, .int .i64 calls2, .int .i64 after2, .bool done2], .int .i64 (re : Int)]) (by simp [results, Tryz.results97, go_sem, r0, r1, r2, r3, r4]) rfl ⟨_, rfl, FIN.out _ _ _ ?_, ?_⟩
      · rcases HR2.out with e | ⟨g, rfl, hc⟩
        · exact .inl e
        · by_cases hS : S2 = []
          · exact .inl hS
          · have hg : g ≠ w.heap.size + 1 := OA2.out hS ⟨g, 0, none⟩ rfl
            refine .inr ⟨g, rfl, fun j u hj => ?_⟩
            have hcj := hc j u hj
            simpa [go_sem, hg, Ne.symm hg] using hcj
      · exact ((((B2.out.setCell (p := ⟨w.heap.size + 1, 0, none⟩) (by show w.heap.size ≤ w.heap.size + 1; omega) _).setCell (p := ⟨w.heap.size + 1, 1, none⟩) (by show w.heap.size ≤ w.heap.size + 1; omega) _).setCell (p := ⟨w.heap.size + 1, 2, none⟩) (by show w.heap.size ≤ w.heap.size + 1; omega) _).setCell (p := ⟨w.heap.size + 1, 3, none⟩) (by show w.heap.size ≤ w.heap.size + 1; omega) _).setCell (p := ⟨w.heap.size + 1, 4, none⟩) (by show w.heap.size ≤ w.heap.size + 1; omega) _
end Go.Proofs.YtegjeijiekggdaaGreatDoor
namespace Go.Proofs.YtegjeijiekggdaaGreatDoor
open Go.RowKit
set_option linter.unusedVariables false
theorem Tryz.infoInt : (Tryz.prog.info? 3).map (fun i => (i.zero, i.size, i.bytes)) = some (some (.int .i64 0), 1, 8) := by kernel_rfl
def waitsTo (S : List Sx) : Nat → List Nat
  | 0 => []
  | k + 1 => if ((S[k]?).map (·.w)).getD false = true then waitsTo S k ++ [k] else waitsTo S k
theorem waitsTo_length (S : List Sx) : ∀ k, (waitsTo S k).length ≤ k
  | 0 => Nat.le_refl _
  | k + 1 => by
    have := waitsTo_length S k
    unfold waitsTo
    split
    · simp; omega
    · omega
def rowN (L : List Nat) : List Value := L.map fun (n : Nat) => Value.int .i64 (n : Int)
/-- While a row of numbers grows behind one box. -/
structure GrowN (w : World) (box : Array Value) (L : List Nat) (v : Value) (wr : World) : Prop where
  own : wr.ownsRow (w.heap.size + 1) 3 1 v L.length (rowN L)
  b0 : wr.heap[w.heap.size]? = some (.cells box 39 (0, 0))
  below : Below w.heap.size w wr
theorem GrowN.form {w : World} {box : Array Value} {L : List Nat} {v : Value} {wr : World} (h : GrowN w box L v wr) : ∃ A c, v = .slice A L.length c := by
  rcases h.own.2 with ⟨e, h0⟩ | ⟨g, cap, cur, e, _⟩
  · exact ⟨none, 0, by rw [e, h0]⟩
  · exact ⟨some ⟨g, 0, none⟩, cap, e⟩
theorem GrowN.step {w : World} {box : Array Value} {L : List Nat} {v v' : Value} {wr w1 : World} (h : GrowN w box L v wr) (o : Obj) (x : Nat) (hown : w1.ownsRow (w.heap.size + 1) 3 1 v' (L.length + 1) (rowN L ++ [.int .i64 (x : Int)])) (hg : (wr.alloc o).grownBy w1 v.ownBlock) : GrowN w box (L ++ [x]) v' w1 := by
  have hsz := bsz h.b0
  have hvb : ∀ i, v.ownBlock = some i → w.heap.size + 1 ≤ i := fun i e => (World.ownsRow.lt h.own i e).1
  have keep : ∀ i, i < w.heap.size + 1 → w1.heap[i]? = wr.heap[i]? := fun i hi =>
    (hg.block i (by simp; omega) (fun e => by have := hvb i e.symm; omega)).trans ((Below.heap_alloc _ _ _ (by omega)))
  refine ⟨?_, (keep _ (by omega)).trans h.b0, ?_⟩
  · rw [List.length_append]
    unfold rowN at *
    rw [List.map_append]
    exact hown
  · exact ⟨hg.os.trans h.below.os, hg.tape.trans h.below.tape, hg.output.trans h.below.output, Nat.le_trans h.below.size (Nat.le_trans (by simp) hg.size), fun i hi => (keep i (by omega)).trans (h.below.block i hi)⟩
def WaitsRel (w : World) (box : Array Value) (S : List Sx) (v i : Value) (wr : World) : Prop :=
  ∃ k : Nat, k ≤ S.length ∧ i = .int .i64 (k : Int) ∧ GrowN w box (waitsTo S k) v wr
set_option maxHeartbeats 2000000 in
set_option maxRecDepth 100000 in
theorem refWaits_any (A : Option Addr) (c : Nat) (r : Rk) (w : World) (hs : r.S.length ≤ 4096) (hr : RS w A r.S) :
    Calls Tryz.prog 82 #[rkV A c r] w fun e w' => ∃ v, e = .returned v ∧ w'.ownsRow (w.heap.size + 1) 3 1 v (waitsTo r.S r.S.length).length (rowN (waitsTo r.S r.S.length)) ∧ Below w.heap.size w w' := by
  obtain ⟨S, off, calls, after, done⟩ := r
  have hs : S.length ≤ 4096 := hs
  have hr : RS w A S := hr
  obtain ⟨i0, hi, hz0, hz1, hz2⟩ := info_parts Tryz.infoInt
  have hi := Lib.hid hi; have hz0 := Lib.hid hz0; have hz1 := Lib.hid hz1; have hz2 := Lib.hid hz2
  show Calls Tryz.prog 82 #[.agg #[.slice A S.length c, .bool off, .int .i64 calls, .int .i64 after, .bool done]] w fun e w' => ∃ v, e = .returned v ∧ w'.ownsRow (w.heap.size + 1) 3 1 v (waitsTo S S.length).length (rowN (waitsTo S S.length)) ∧ Below w.heap.size w w'
  have st0 : GrowN w #[.slice A S.length c, .bool off, .int .i64 calls, .int .i64 after, .bool done] [] (.slice none 0 0) (w.alloc (.cells #[.slice A S.length c, .bool off, .int .i64 calls, .int .i64 after, .bool done] 39)) :=
    ⟨World.ownsRow_nil _ _ _ _, heap_alloc_last w _, (Below.refl _ w).alloc (Nat.le_refl _) _⟩
  have ST0 := Lib.hid st0
  clear st0
  go_enter Tryz.func82, Tryz.ntmps82
  go_wp2
  go_loopw [3, 4] (fun v i wr => WaitsRel w #[.slice A S.length c, .bool off, .int .i64 calls, .int .i64 after, .bool done] S v i wr) (fun _ i _ => S.length - (RowKit.intOf i).toNat)
  case atStart => exact ⟨0, Nat.zero_le _, rfl, ST0.out⟩
  case round =>
    obtain ⟨k, hk, rfl, st⟩ := hrel
    obtain ⟨A1, c1, rfl⟩ := st.form
    have k0 : 0 ≤ (k : Int) := by omega
    have q0 : wr.cell? ⟨w.heap.size, 0, none⟩ = some (.slice A S.length c) := (cell_of_row wr _ 0 _ _ _ st.b0).trans rfl
    have hsz := bsz st.b0
    have ST := Lib.hid st
    have LB := Lib.hid (waitsTo_length S k)
    by_cases hlt : k < S.length
    · obtain ⟨g, rfl, hgw, _, _, y1⟩ := hr.at_ (List.getElem?_eq_getElem hlt)
      have x1 := (st.below.cell (p := ⟨g, k * 3 + 2, none⟩) hgw).trans y1
      have kk : (k : Int) < (S.length : Int) := by omega
      have hg : g < wr.heap.size := Nat.lt_of_lt_of_le hgw st.below.size
      have HT := Lib.hid (show waitsTo S (k + 1) = if S[k].w = true then waitsTo S k ++ [k] else waitsTo S k from by rw [waitsTo, List.getElem?_eq_getElem hlt]; rfl)
      generalize S[k].w = y at *
      clear st y1
      cases y with
      | false =>
        go_wp2
        go_roundw
        case rel =>
          refine ⟨k + 1, by omega, by go_num, ?_⟩
          rw [HT.out, if_neg (by simp)]
          exact ST.out
        case measure => simp [RowKit.intOf]; omega
      | true =>
        go_wp2_with (at_builtin; refine wpList_append_own _ rfl (.tmp 18) (.tmp 20) 131 rfl (w.heap.size + 1) 3 i0 _ 1 8 Tryz.underlying131 hi.out hz0.out hz1.out hz2.out rfl (by omega) _ _ _ rfl (World.ownsRow.alloc ST.out.own _) ⟨wr.heap.size, 0, none⟩ 1 1 [.int .i64 (k : Int)] rfl ?qc1 ?qc2 ?qc3 ?qc4 ?qc5 ?qc6 ?_)
        case qc3 => rfl
        case qc4 =>
          have := LB.out
          simp only [maxLen]
          omega
        case qc5 =>
          have := LB.out
          omega
        case qc6 => omega
        intro v' w1 hown hgrow hnil
        have st' := ST.out.step _ k hown hgrow
        have ST' := Lib.hid st'
        clear st' hown hgrow hnil
        go_wp2
        go_roundw
        case rel =>
          refine ⟨k + 1, by omega, by go_num, ?_⟩
          rw [HT.out, if_pos trivial]
          exact ST'.out
        case measure => simp [RowKit.intOf]; omega
    · have hkS : k = S.length := by omega
      subst hkS
      clear st
      go_wp2
      go_ret
      exact ⟨_, rfl, ST.out.own, ST.out.below⟩
end Go.Proofs.YtegjeijiekggdaaGreatDoor
end
