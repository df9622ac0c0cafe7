/- The document's disk: all of it made safe; the next byte of fates. -/
import Derived.Test.YtgnoodafaofkiaaRfC
import Derived.StillTailTactics
import Derived.Deep.RegionHeld3
import Derived.OrdersHeld
namespace Go.Proofs.Ytgnoodafaofkiaa
open Go.RowKit
set_option linter.unusedVariables false
def Sx.safed (x : Sx) : Sx := ⟨x.has, x.has, false⟩
theorem rowS_snoc (S : List Sx) (x : Sx) : rowS (S ++ [x]) = rowS S ++ sxCells x := by simp [rowS, List.flatMap_append]
set_option maxHeartbeats 1000000 in
theorem refTake_any (A : Option Addr) (c : Nat) (l : List UInt8) (w : World) (hc : l.length ≤ c) (hm : l.length ≤ maxLen) (hr : RB w A l) :
    Calls Try.prog 64 #[.slice A l.length c] w fun e w' => ∃ A' c', e = .returned (.tuple #[.int .u8 ((tk l).1.toNat : Int), .slice A' (tk l).2.length c']) ∧ (tk l).2.length ≤ c' ∧ RB w A' (tk l).2 ∧ ∃ q, w' = w.drewN q := by
  unfold maxLen at hm
  cases l with
  | nil =>
    go_enter Try.func64, Try.ntmps64
    go_wp2
    go_ret2
    exact ⟨none, 0, rfl, Nat.le_refl _, .inl rfl, 0, rfl⟩
  | cons f r =>
    rcases hr with hr | ⟨ad, rfl, hcl⟩
    · cases hr
    have h0 := hcl 0 f rfl
    rw [Addr.add_nought] at h0
    have hrb : RB w (some (ad.add 1)) r := by
      have := RB.drop (w := w) (ad := ad) (l := f :: r) (.inr ⟨ad, rfl, hcl⟩) 1
      simpa using this
    have HRB := Lib.hid hrb
    generalize hn : (f :: r).length = n at *
    have hn0 : r.length + 1 = n := by simpa using hn
    have HN := Lib.hid hn0
    have hnb : ((n : Int) == 0) = false := by simp; omega
    have n0 : (1 : Int) ≤ (n : Int) := by omega
    have n1 : (n : Int) ≤ (c : Int) := by omega
    have npos : 0 < n := by omega
    clear hcl hn hn0 hrb
    by_cases hck : c = 1
    · subst hck
      obtain rfl : r = [] := List.eq_nil_of_length_eq_zero (by have := HN.out; omega)
      obtain rfl : 1 = n := HN.out
      go_enter Try.func64, Try.ntmps64
      go_wp2
      go_quiet (fail)
      go_wp2
      go_ret2
      exact ⟨some ad, 0, rfl, Nat.le_refl _, .inl rfl, _, rfl⟩
    · go_enter Try.func64, Try.ntmps64
      go_wp2
      go_quiet (fail)
      go_wp2
      go_ret2
      refine ⟨some (ad.add 1), c - 1, ?_, ?_, HRB.out, _, rfl⟩
      · show _ = Ending.returned (.tuple #[.int .u8 (f.toNat : Int), .slice (some (ad.add 1)) r.length (c - 1)])
        rw [Addr.add_one_, show r.length = n - 1 by have := HN.out; omega]
        rfl
      · show r.length ≤ c - 1
        have := HN.out
        omega
theorem step_append_S {w : World} {ops : Array Oper} {o : Oper} {a : Act} {K : Act → World → Prop} {Q : Exit → Act → World → Prop} {E : Prop} (hgd : o.guard = none) (s x : Operand)
    (ho : o.op = .call { callee := .builtin .append, args := #[s, x], argTypes := #[26, 26] })
    (base : Nat) (v : Value) (L : List Sx) (y : Sx) (hs : a.eval s = v) (hown : w.ownsRow base 82 3 v L.length (rowS L)) (q : Nat) (hx : a.eval x = .slice (some ⟨q, 0, none⟩) 1 1) (hq : w.heap[q]? = some (.cells (sxCells y).toArray 82 (0, 0)))
    (hbound : L.length ≤ 4096) (hbase : base ≤ w.heap.size)
    (h : ∀ v' w', w'.ownsRow base 82 3 v' (L.length + 1) (rowS L ++ sxCells y) → w.grownBy w' v.ownBlock → K (a.put o.dst v') w') :
    if Region.wanted o (yielded ops a.tmps) = true then Oper.wp Try.prog o a w K Q else E := by
  have hw : Region.wanted o (yielded ops a.tmps) = true := by simp [Region.wanted, hgd]
  rw [if_pos hw]
  obtain ⟨i0, hi, hz0, hz1, hz2⟩ := info_parts Try.infoSx
  obtain ⟨v', w', hrun, h2, h3, _, _⟩ := run_append_own_at (P := Try.prog) w base 26 o.type 82 i0 _ 3 40 Try.underlying26 hi hz0 hz1 hz2 rfl (by omega) v L.length (rowS L) hown ⟨q, 0, none⟩ 1 1 (sxCells y)
    rfl (fun j u hu => by
      have e : (⟨q, 0, none⟩ : Addr).add j = ⟨q, j, none⟩ := by cases j <;> simp [Addr.add]
      rw [e, cell_of_row w q j _ _ _ hq]
      simpa using hu) (oneCells_x y) (by simp only [maxLen]; omega) (by omega) hbase
  unfold Oper.wp execOp
  simp only [ho, resolve, invoke, builtin, Sem.run_bind, Sem.run_pure, Result.andThen_ok, List.map_toArray, List.map_cons, List.map_nil, hs, hx, hrun]
  exact h v' w' h2 h3
/-- While a row of sectors grows: those of L are there, the two boxes and what lay before stand. -/
structure GrowS (w : World) (box res : Array Value) (L : List Sx) (v : Value) (wr : World) : Prop where
  own : wr.ownsRow (w.heap.size + 2) 82 3 v L.length (rowS L)
  b0 : wr.heap[w.heap.size]? = some (.cells box 28 (0, 0))
  b1 : wr.heap[w.heap.size + 1]? = some (.cells res 28 (0, 0))
  below : Below w.heap.size w wr
theorem GrowS.form {w : World} {box res : Array Value} {L : List Sx} {v : Value} {wr : World} (h : GrowS w box res L v wr) : ∃ A c, v = .slice A L.length c ∧ ∀ ad, A = some ad → w.heap.size + 2 ≤ ad.block := by
  rcases h.own.2 with ⟨e, h0⟩ | ⟨g, cap, cur, e, hb, _⟩
  · exact ⟨none, 0, by rw [e, h0], fun ad e => by cases e⟩
  · exact ⟨some ⟨g, 0, none⟩, cap, e, fun ad e => by injection e with e; subst e; exact hb⟩
theorem GrowS.step {w : World} {box res : Array Value} {L : List Sx} {v v' : Value} {wr w1 : World} (h : GrowS w box res L v wr) (hsz : w.heap.size + 2 ≤ wr.heap.size) (o : Obj) (x : Sx) (hown : w1.ownsRow (w.heap.size + 2) 82 3 v' (L.length + 1) (rowS L ++ sxCells x)) (hg : (wr.drew.alloc o).grownBy w1 v.ownBlock) : GrowS w box res (L ++ [x]) v' w1 := by
  have hvb : ∀ i, v.ownBlock = some i → w.heap.size + 2 ≤ i := fun i e => (World.ownsRow.lt h.own i e).1
  have keep : ∀ i, i < w.heap.size + 2 → w1.heap[i]? = wr.heap[i]? := fun i hi =>
    (hg.block i (by simp; omega) (fun e => by have := hvb i e.symm; omega)).trans ((Below.heap_alloc _ _ _ (by show i < wr.heap.size; omega)))
  refine ⟨?_, (keep _ (by omega)).trans h.b0, (keep _ (by omega)).trans h.b1, ?_⟩
  · rw [rowS_snoc, List.length_append]
    exact hown
  · refine ⟨hg.os.trans h.below.os, hg.tape.trans h.below.tape, hg.output.trans h.below.output, Nat.le_trans h.below.size (Nat.le_trans (by simp) hg.size), fun i hi => (keep i (by omega)).trans (h.below.block i hi)⟩
def SafeRel (w : World) (box res : Array Value) (S : List Sx) (v i : Value) (wr : World) : Prop :=
  ∃ k : Nat, k ≤ S.length ∧ i = .int .i64 (k : Int) ∧ GrowS w box res ((S.take k).map Sx.safed) v wr
theorem bsz {wr : World} {b : Array Value} {t : TypeId} {i : Nat} (h : wr.heap[i]? = some (.cells b t (0, 0))) : i < wr.heap.size := (Array.getElem?_eq_some_iff.1 h).1
set_option maxHeartbeats 2000000 in
set_option maxRecDepth 100000 in
theorem refSafe_any (A : Option Addr) (c : Nat) (r : Rk) (w : World) (hs : r.S.length ≤ 4096) (hr : RS w A r.S) :
    Calls Try.prog 63 #[rkV A c r] w fun e w' => ∃ A' c', e = .returned (rkV A' c' { r with S := r.S.map Sx.safed }) ∧ RS w' A' (r.S.map Sx.safed) ∧ (∀ ad, A' = some ad → w.heap.size ≤ ad.block) ∧ Below w.heap.size w w' := by
  obtain ⟨S, off, calls, after, done⟩ := r
  have hs : S.length ≤ 4096 := hs
  have hr : RS w A S := hr
  obtain ⟨i0, hi, hz0, hz1, hz2⟩ := info_parts Try.infoSx
  have hi := Lib.hid hi; have hz0 := Lib.hid hz0; have hz1 := Lib.hid hz1; have hz2 := Lib.hid hz2
  show Calls Try.prog 63 #[.agg #[.slice A S.length c, .bool off, .int .i64 calls, .int .i64 after, .bool done]] w _
  have hz := heap_size_alloc w (.cells #[.slice A S.length c, .bool off, .int .i64 calls, .int .i64 after, .bool done] 28)
  have st0 : GrowS w #[.slice A S.length c, .bool off, .int .i64 calls, .int .i64 after, .bool done] #[.slice none 0 0, .bool false, .int .i64 0, .int .i64 0, .bool false] [] (.slice none 0 0) ((w.alloc (.cells #[.slice A S.length c, .bool off, .int .i64 calls, .int .i64 after, .bool done] 28)).alloc (.cells #[.slice none 0 0, .bool false, .int .i64 0, .int .i64 0, .bool false] 28)) := by
    refine ⟨World.ownsRow_nil _ _ _ _, (Below.heap_alloc _ _ _ (by omega)).trans (heap_alloc_last w _), ?_, ((Below.refl _ w).alloc (Nat.le_refl _) _).alloc (by omega) _⟩
    have := heap_alloc_last (w.alloc (.cells #[.slice A S.length c, .bool off, .int .i64 calls, .int .i64 after, .bool done] 28)) (.cells #[.slice none 0 0, .bool false, .int .i64 0, .int .i64 0, .bool false] 28)
    rw [hz] at this
    exact this
  have ST0 := Lib.hid st0
  clear st0 hz
  go_enter Try.func63, Try.ntmps63
  go_wp2
  go_loopw [3, 4] (fun v i wr => SafeRel w #[.slice A S.length c, .bool off, .int .i64 calls, .int .i64 after, .bool done] #[.slice none 0 0, .bool false, .int .i64 0, .int .i64 0, .bool false] S v i wr) (fun _ i _ => S.length - (RowKit.intOf i).toNat)
  case atStart => exact ⟨0, Nat.zero_le _, rfl, by simpa using ST0.out⟩
  case round =>
    obtain ⟨k, hk, rfl, st⟩ := hrel
    obtain ⟨A1, c1, rfl, hA1⟩ := st.form
    have k0 : 0 ≤ (k : Int) := by omega
    have q0 : wr.cell? ⟨w.heap.size, 0, none⟩ = some (.slice A S.length c) := (cell_of_row wr _ 0 _ _ _ st.b0).trans rfl
    have hsz := bsz st.b1
    have ST := Lib.hid st
    have HLn := Lib.hid (show ((S.take k).map Sx.safed).length = k from by rw [List.length_map, List.length_take]; omega)
    by_cases hlt : k < S.length
    · obtain ⟨g, rfl, hgw, y1, _, _⟩ := hr.at_ (List.getElem?_eq_getElem hlt)
      have x1 := (st.below.cell (p := ⟨g, k * 3, none⟩) hgw).trans y1
      have hg : g < wr.heap.size := Nat.lt_of_lt_of_le hgw st.below.size
      have kk : (k : Int) < (S.length : Int) := by omega
      have HT := Lib.hid (show (S.take (k + 1)).map Sx.safed = (S.take k).map Sx.safed ++ [S[k].safed] from by rw [List.take_add_one, List.getElem?_eq_getElem hlt, List.map_append]; rfl)
      have hh : S[k].safed = ⟨S[k].has, S[k].has, false⟩ := rfl
      rw [hh] at HT
      generalize S[k].has = y at *
      have HLn' := HLn
      generalize hLn : ((S.take k).map Sx.safed).length = ln at HLn ST
      have hln : ln = k := HLn.out
      subst hln
      clear st hh
      have SX : wr.cell? ⟨w.heap.size, 0, none⟩ = some (.slice (some ⟨g, 0, none⟩) S.length c) ∧ wr.cell? ⟨g, ln * 3, none⟩ = some (.string (str y)) := ⟨q0, x1⟩
      have HS2 := Lib.hid (show ∀ o, (wr.drew.alloc o).cell? ⟨w.heap.size, 0, none⟩ = some (.slice (some ⟨g, 0, none⟩) S.length c) ∧ (wr.drew.alloc o).cell? ⟨g, ln * 3, none⟩ = some (.string (str y)) from fun o => ⟨(World.cell?_alloc_lt wr.drew o ⟨w.heap.size, 0, none⟩ (by show w.heap.size < wr.heap.size; omega)).trans q0, (World.cell?_alloc_lt wr.drew o ⟨g, ln * 3, none⟩ hg).trans x1⟩)
      have OWN1 := Lib.hid (show ∀ o, (wr.drew.alloc o).ownsRow (w.heap.size + 2) 82 3 (.slice A1 ln c1) ((S.take ln).map Sx.safed).length (rowS ((S.take ln).map Sx.safed)) from fun o => World.ownsRow.alloc (w := wr.drew) ST.out.own o)
      have HQ := Lib.hid (show ∀ o, (wr.drew.alloc o).heap[wr.heap.size]? = some o from fun o => heap_alloc_last wr.drew o)
      have LB := Lib.hid (show ((S.take ln).map Sx.safed).length ≤ 4096 from by rw [HLn'.out]; omega)
      have HB2 := Lib.hid (show w.heap.size + 2 ≤ (wr.drew.alloc (.cells #[.string (str y), .string (str y), .bool false] 82)).heap.size from by rw [heap_size_alloc]; show _ ≤ wr.heap.size + 1; omega)
      have STEP := Lib.hid (show ∀ o v' w1, w1.ownsRow (w.heap.size + 2) 82 3 v' (((S.take ln).map Sx.safed).length + 1) (rowS ((S.take ln).map Sx.safed) ++ sxCells ⟨y, y, false⟩) → (wr.drew.alloc o).grownBy w1 (Value.slice A1 ln c1).ownBlock → GrowS w #[.slice (some ⟨g, 0, none⟩) S.length c, .bool off, .int .i64 calls, .int .i64 after, .bool done] #[.slice none 0 0, .bool false, .int .i64 0, .int .i64 0, .bool false] ((S.take ln).map Sx.safed ++ [⟨y, y, false⟩]) v' w1 from fun o v' w1 h1 h2 => ST.out.step (by omega) o ⟨y, y, false⟩ h1 h2)
      have HS3 := Lib.hid (show ∀ v' w1, GrowS w #[.slice (some ⟨g, 0, none⟩) S.length c, .bool off, .int .i64 calls, .int .i64 after, .bool done] #[.slice none 0 0, .bool false, .int .i64 0, .int .i64 0, .bool false] ((S.take ln).map Sx.safed ++ [⟨y, y, false⟩]) v' w1 → w1.cell? ⟨w.heap.size, 0, none⟩ = some (.slice (some ⟨g, 0, none⟩) S.length c) ∧ w1.cell? ⟨g, ln * 3, none⟩ = some (.string (str y)) from fun v' w1 h => ⟨(cell_of_row w1 _ 0 _ _ _ h.b0).trans rfl, (h.below.cell (p := ⟨g, ln * 3, none⟩) hgw).trans y1⟩)
      go_wp2
      go_region_held3 (fun W => W.cell? ⟨w.heap.size, 0, none⟩ = some (.slice (some ⟨g, 0, none⟩) S.length c) ∧ W.cell? ⟨g, ln * 3, none⟩ = some (.string (str y))) (first | exact SX | exact HS2.out _ | assumption)
        (first
          | (refine step_append_S rfl (.tmp 12) (.tmp 26) rfl (w.heap.size + 2) _ ((S.take ln).map Sx.safed) ⟨y, y, false⟩ rfl (OWN1.out _) wr.heap.size rfl (HQ.out _) LB.out HB2.out ?_; intro v' w1 hown' hgr; have st' := STEP.out _ v' w1 hown' hgr; have s3 := HS3.out v' w1 st')
          | fail)
      all_goals
        have ST' := Lib.hid st'
        clear st' s3
        go_wp2
        go_roundw
        case rel =>
          refine ⟨ln + 1, by omega, by go_num, ?_⟩
          rw [HT.out]
          exact ST'.out
        case measure => simp [RowKit.intOf]; omega
    · have hkS : k = S.length := by omega
      subst hkS
      have nn : ¬ ((S.length : Int) < (S.length : Int)) := by omega
      have eqL : (S.take S.length).map Sx.safed = S.map Sx.safed := by rw [List.take_length]
      have OWN := Lib.hid (show wr.ownsRow (w.heap.size + 2) 82 3 (.slice A1 (S.map Sx.safed).length c1) (S.map Sx.safed).length (rowS (S.map Sx.safed)) from by have := ST.out.own; rw [HLn.out, eqL] at this; rw [List.length_map]; exact this)
      have q1 : wr.cell? ⟨w.heap.size, 1, none⟩ = some (.bool off) := (cell_of_row wr _ 1 _ _ _ st.b0).trans rfl
      have q2 : wr.cell? ⟨w.heap.size, 2, none⟩ = some (.int .i64 calls) := (cell_of_row wr _ 2 _ _ _ st.b0).trans rfl
      have q3 : wr.cell? ⟨w.heap.size, 3, none⟩ = some (.int .i64 after) := (cell_of_row wr _ 3 _ _ _ st.b0).trans rfl
      have q4 : wr.cell? ⟨w.heap.size, 4, none⟩ = some (.bool done) := (cell_of_row wr _ 4 _ _ _ st.b0).trans rfl
      have qf : wr.frozen? ⟨w.heap.size, 0, none⟩ = false := by simp [World.frozen?, st.b0]
      have r0 : wr.cell? ⟨w.heap.size + 1, 0, none⟩ = some (.slice none 0 0) := (cell_of_row wr _ 0 _ _ _ st.b1).trans rfl
      have r1 : wr.cell? ⟨w.heap.size + 1, 1, none⟩ = some (.bool false) := (cell_of_row wr _ 1 _ _ _ st.b1).trans rfl
      have r2 : wr.cell? ⟨w.heap.size + 1, 2, none⟩ = some (.int .i64 0) := (cell_of_row wr _ 2 _ _ _ st.b1).trans rfl
      have r3 : wr.cell? ⟨w.heap.size + 1, 3, none⟩ = some (.int .i64 0) := (cell_of_row wr _ 3 _ _ _ st.b1).trans rfl
      have r4 : wr.cell? ⟨w.heap.size + 1, 4, none⟩ = some (.bool false) := (cell_of_row wr _ 4 _ _ _ st.b1).trans rfl
      have rf : ∀ j, wr.frozen? ⟨w.heap.size + 1, j, none⟩ = false := fun j => by simp [World.frozen?, st.b1]
      have rf0 := rf 0; have rf1 := rf 1; have rf2 := rf 2; have rf3 := rf 3; have rf4 := rf 4
      have nb5 : w.heap.size ≠ w.heap.size + 1 := by omega
      have BW := Lib.hid st.below
      have HA1 := Lib.hid hA1
      have HLn2 := Lib.hid (show ((S.take S.length).map Sx.safed).length = S.length from HLn.out)
      rw [HLn.out] at *
      have HLM := Lib.hid (show (S.map Sx.safed).length = S.length from by simp)
      clear rf st ST hA1 eqL
      go_wp2
      refine bodyPost_ret (v := .agg #[.slice A1 S.length c1, .bool off, .int .i64 calls, .int .i64 after, .bool done]) (by simp [results, Try.results63, go_sem, r0, r1, r2, r3, r4]) rfl ⟨A1, ⟨c1, ?_⟩, ?_, ?_, ?_⟩
      · show _ = Ending.returned (.agg #[.slice A1 (S.map Sx.safed).length c1, .bool off, .int .i64 calls, .int .i64 after, .bool done])
        rw [HLM.out]
      · have o4 := ownsRow_setCell_below (ownsRow_setCell_below (ownsRow_setCell_below (ownsRow_setCell_below (ownsRow_setCell_below (ownsRow_setCell_below OWN.out (a := ⟨w.heap.size, 0, none⟩) (by show w.heap.size < _; omega) (.slice A1 S.length c1)) (a := ⟨w.heap.size + 1, 0, none⟩) (by show w.heap.size + 1 < _; omega) (.slice A1 S.length c1)) (a := ⟨w.heap.size + 1, 1, none⟩) (by show w.heap.size + 1 < _; omega) (.bool off)) (a := ⟨w.heap.size + 1, 2, none⟩) (by show w.heap.size + 1 < _; omega) (.int .i64 calls)) (a := ⟨w.heap.size + 1, 3, none⟩) (by show w.heap.size + 1 < _; omega) (.int .i64 after)) (a := ⟨w.heap.size + 1, 4, none⟩) (by show w.heap.size + 1 < _; omega) (.bool done)
        exact (RS.ofOwn (S := S.map Sx.safed) o4).1
      · intro ad e
        have := HA1.out ad e
        omega
      · exact (((((BW.out.setCell (p := ⟨w.heap.size, 0, none⟩) (Nat.le_refl _) _).setCell (p := ⟨w.heap.size + 1, 0, none⟩) (by show w.heap.size ≤ w.heap.size + 1; omega) _).setCell (p := ⟨w.heap.size + 1, 1, none⟩) (by show w.heap.size ≤ w.heap.size + 1; omega) _).setCell (p := ⟨w.heap.size + 1, 2, none⟩) (by show w.heap.size ≤ w.heap.size + 1; omega) _).setCell (p := ⟨w.heap.size + 1, 3, none⟩) (by show w.heap.size ≤ w.heap.size + 1; omega) _).setCell (p := ⟨w.heap.size + 1, 4, none⟩) (by show w.heap.size ≤ w.heap.size + 1; omega) _
end Go.Proofs.Ytgnoodafaofkiaa
