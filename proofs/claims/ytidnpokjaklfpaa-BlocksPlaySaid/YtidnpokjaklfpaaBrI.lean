/- The document's Sound. Blocks of the program's disk and of the document's are the same (plain). The law's do: a call of blocks, or of the disk, on both. A block's sectors, as both tell them. -/
import Derived.Test.YtidnpokjaklfpaaBrF
namespace Go.Proofs.Ytidnpokjaklfpaa
open Go.RowKit
set_option linter.unusedVariables false
def Rk.soundTo (r : Rk) (a : Ar) : Nat → List Nat
  | 0 => []
  | k + 1 => if (r.bread a (k : Int)).2 = 0 then r.soundTo a k ++ [k] else r.soundTo a k
theorem Rk.soundTo_length (r : Rk) (a : Ar) : ∀ k, (r.soundTo a k).length ≤ k
  | 0 => Nat.le_refl _
  | k + 1 => by
    have := Rk.soundTo_length r a k
    unfold Rk.soundTo
    split
    · simp; omega
    · omega
def Rk.sound (r : Rk) (a : Ar) : List Nat := if a.check r.S.length = 0 then r.soundTo a a.count.toNat else []
set_option maxHeartbeats 1000000 in
set_option maxRecDepth 100000 in
theorem refSound_any (A : Option Addr) (c : Nat) (r : Rk) (a : Ar) (w : World) (hs : r.S.length ≤ 4096) (hr : RS w A r.S) (hx : ∀ x ∈ r.S, x.has.length = 256 ∧ x.safe.length = 256) :
    Calls Try.prog 34 #[rkV A c r, a.v] w fun e w' => ∃ A' c', e = .returned (.slice A' (r.sound a).length c') ∧ RN w' A' (r.sound a) ∧ Below w.heap.size w w' := by
  obtain ⟨i0, hi, hz0, hz1, hz2⟩ := info_parts Try.infoInt
  have hi := Lib.hid hi; have hz0 := Lib.hid hz0; have hz1 := Lib.hid hz1; have hz2 := Lib.hid hz2
  have KC := Lib.hid (fun W => refCheck_any A c r a W hs)
  have KR := Lib.hid (fun W n (hb : Below w.heap.size w W) => refBread_any A c r a n W hs (hr.below hb) hx)
  have HC := Lib.hid (a.check_two r.S.length)
  unfold rkV at *
  obtain ⟨p, q⟩ := a
  have KC : Hid (∀ W, Calls Try.prog 26 #[.agg #[.slice A r.S.length c, .bool r.off, .int .i64 r.calls, .int .i64 r.after, .bool r.done], .agg #[.int .i64 p, .int .i64 q]] W fun e w' => e = .returned (.int .i64 (Ar.check ⟨p, q⟩ r.S.length : Int)) ∧ Below W.heap.size W w') := KC
  have KR : Hid (∀ W n, Below w.heap.size w W → Calls Try.prog 29 #[.agg #[.slice A r.S.length c, .bool r.off, .int .i64 r.calls, .int .i64 r.after, .bool r.done], .agg #[.int .i64 p, .int .i64 q], .int .i64 n] W fun e w' => ∃ v, e = .returned (.tuple #[v, .int .i64 ((r.bread ⟨p, q⟩ n).2 : Int)]) ∧ OB W.heap.size w' v (r.bread ⟨p, q⟩ n).1 ∧ Below W.heap.size W w') := KR
  show Calls Try.prog 34 #[.agg #[.slice A r.S.length c, .bool r.off, .int .i64 r.calls, .int .i64 r.after, .bool r.done], .agg #[.int .i64 p, .int .i64 q]] w _
  have hz := heap_size_alloc w (.cells #[.slice A r.S.length c, .bool r.off, .int .i64 r.calls, .int .i64 r.after, .bool r.done] 28)
  have BW := Lib.hid ((Below.refl _ w).alloc (Nat.le_refl _) (.cells #[.slice A r.S.length c, .bool r.off, .int .i64 r.calls, .int .i64 r.after, .bool r.done] 28))
  have DB := Lib.hid (heap_alloc_last w (.cells #[.slice A r.S.length c, .bool r.off, .int .i64 r.calls, .int .i64 r.after, .bool r.done] 28))
  have ST0 : Hid (GrowI (w.alloc (.cells #[.slice A r.S.length c, .bool r.off, .int .i64 r.calls, .int .i64 r.after, .bool r.done] 28)) (.cells #[.int .i64 p, .int .i64 q] 50 (0, 0)) [] (.slice none 0 0) ((w.alloc (.cells #[.slice A r.S.length c, .bool r.off, .int .i64 r.calls, .int .i64 r.after, .bool r.done] 28)).alloc (.cells #[.int .i64 p, .int .i64 q] 50))) := Lib.hid ⟨World.ownsRow_nil _ _ _ _, heap_alloc_last _ _, (Below.refl _ _).alloc (Nat.le_refl _) _⟩
  have cells : ∀ W : World, Below (w.alloc (.cells #[.slice A r.S.length c, .bool r.off, .int .i64 r.calls, .int .i64 r.after, .bool r.done] 28)).heap.size (w.alloc (.cells #[.slice A r.S.length c, .bool r.off, .int .i64 r.calls, .int .i64 r.after, .bool r.done] 28)) W → W.cell? ⟨w.heap.size, 0, none⟩ = some (.slice A r.S.length c) ∧ W.cell? ⟨w.heap.size, 1, none⟩ = some (.bool r.off) ∧ W.cell? ⟨w.heap.size, 2, none⟩ = some (.int .i64 r.calls) ∧ W.cell? ⟨w.heap.size, 3, none⟩ = some (.int .i64 r.after) ∧ W.cell? ⟨w.heap.size, 4, none⟩ = some (.bool r.done) := fun W hW => by
    have h := (hW.block w.heap.size (by omega)).trans DB.out
    exact ⟨(cell_of_row W _ 0 _ _ _ h).trans rfl, (cell_of_row W _ 1 _ _ _ h).trans rfl, (cell_of_row W _ 2 _ _ _ h).trans rfl, (cell_of_row W _ 3 _ _ _ h).trans rfl, (cell_of_row W _ 4 _ _ _ h).trans rfl⟩
  have CELL := Lib.hid cells
  clear cells hx hr
  by_cases hc : Ar.check ⟨p, q⟩ r.S.length = 0
  · have HS : Hid (r.sound ⟨p, q⟩ = r.soundTo ⟨p, q⟩ q.toNat) := Lib.hid (if_pos hc)
    obtain ⟨q0, q1⟩ : 0 ≤ q ∧ q ≤ 512 := by
      unfold Ar.check at hc
      split at hc
      · rename_i h2
        have : 0 ≤ p ∧ p ≤ 4096 ∧ 0 ≤ q ∧ q ≤ 512 := of_decide_eq_true h2.1
        exact this.2.2
      · cases hc
    obtain ⟨Q, rfl⟩ := Int.eq_ofNat_of_zero_le q0
    rw [hc] at KC
    have HS : Hid (r.sound ⟨p, (Q : Int)⟩ = r.soundTo ⟨p, (Q : Int)⟩ Q) := HS
    generalize r.sound ⟨p, (Q : Int)⟩ = RS_ at *
    clear hc HC
    have hzw : (w.alloc (.cells #[.slice A r.S.length c, .bool r.off, .int .i64 r.calls, .int .i64 r.after, .bool r.done] 28)).heap.size = w.heap.size + 1 := hz
    go_enter Try.func34, Try.ntmps34
    go_wp2
    go_loopw [5, 6, 7, 8] (fun v i _ _ wr => ∃ k : Nat, k ≤ Q ∧ i = .int .i64 (k : Int) ∧ GrowI (w.alloc (.cells #[.slice A r.S.length c, .bool r.off, .int .i64 r.calls, .int .i64 r.after, .bool r.done] 28)) (.cells #[.int .i64 p, .int .i64 (Q : Int)] 50 (0, 0)) (r.soundTo ⟨p, (Q : Int)⟩ k) v wr) (fun _ i _ _ _ => Q - (RowKit.intOf i).toNat)
    case atStart => exact ⟨0, Nat.zero_le _, rfl, ST0.out⟩
    case round =>
      obtain ⟨k, hk, rfl, st⟩ := hrel
      obtain ⟨A1, c1, rfl⟩ := st.form
      have STK := Lib.hid st
      have b0 := st.b0
      rw [hzw] at b0
      have y0 : wr.cell? ⟨w.heap.size + 1, 0, none⟩ = some (.int .i64 p) := (cell_of_row wr _ 0 _ _ _ b0).trans rfl
      have y1 : wr.cell? ⟨w.heap.size + 1, 1, none⟩ = some (.int .i64 (Q : Int)) := (cell_of_row wr _ 1 _ _ _ b0).trans rfl
      obtain ⟨x0, x1, x2, x3, x4⟩ := CELL.out wr st.below
      clear b0
      by_cases hlt : k < Q
      · have kk : (k : Int) < (Q : Int) := by omega
        clear st
        go_wp2_with fail
        refine (KC.out _).mono ?_
        rintro e w1 ⟨rfl, b1⟩
        have ST1 := Lib.hid (STK.out.later b1)
        clear b1 x0 x1 x2 x3 x4 y0 y1
        have b0 := ST1.out.b0
        rw [hzw] at b0
        have y0 : w1.cell? ⟨w.heap.size + 1, 0, none⟩ = some (.int .i64 p) := (cell_of_row w1 _ 0 _ _ _ b0).trans rfl
        have y1 : w1.cell? ⟨w.heap.size + 1, 1, none⟩ = some (.int .i64 (Q : Int)) := (cell_of_row w1 _ 1 _ _ _ b0).trans rfl
        obtain ⟨x0, x1, x2, x3, x4⟩ := CELL.out w1 ST1.out.below
        have KW := Lib.hid (KR.out w1 (k : Int) (BW.out.trans (ST1.out.below.mono (by omega))))
        have HT := Lib.hid (show r.soundTo ⟨p, (Q : Int)⟩ (k + 1) = if (r.bread ⟨p, (Q : Int)⟩ (k : Int)).2 = 0 then r.soundTo ⟨p, (Q : Int)⟩ k ++ [k] else r.soundTo ⟨p, (Q : Int)⟩ k from rfl)
        have LB := Lib.hid (Rk.soundTo_length r ⟨p, (Q : Int)⟩ k)
        clear b0
        by_cases he : (r.bread ⟨p, (Q : Int)⟩ (k : Int)).2 = 0
        · rw [he] at KW
          rw [if_pos he] at HT
          clear he
          go_wp2_with fail
          refine KW.out.mono ?_
          rintro e w2 ⟨v2, rfl, o2, b2⟩
          have ST2 := Lib.hid (ST1.out.later b2)
          have hw2 : (w.alloc (.cells #[.slice A r.S.length c, .bool r.off, .int .i64 r.calls, .int .i64 r.after, .bool r.done] 28)).heap.size < w2.heap.size := ST2.out.lt
          clear o2 b2 KW x0 x1 x2 x3 x4 y0 y1
          go_wp2_with (at_builtin; refine wpList_append_own _ rfl (.tmp 30) (.tmp 32) 46 rfl ((w.alloc (.cells #[.slice A r.S.length c, .bool r.off, .int .i64 r.calls, .int .i64 r.after, .bool r.done] 28)).heap.size + 1) 3 i0 _ 1 8 Try.underlying46 hi.out hz0.out hz1.out hz2.out rfl (by omega) _ _ _ rfl (World.ownsRow.alloc ST2.out.own _) ⟨w2.heap.size, 0, none⟩ 1 1 [.int .i64 (k : Int)] rfl ?qc1 ?qc2 ?qc3 ?qc4 ?qc5 ?qc6 ?_)
          case qc1 => rfl
          case qc2 =>
            intro j v hj
            match j, hj with
            | 0, hj =>
              obtain rfl : Value.int .i64 (k : Int) = v := by simpa using hj
              rw [Addr.add_nought]
              exact (cell_of_row _ _ 0 _ _ _ (heap_alloc_last w2 _)).trans rfl
            | j + 1, hj => simp at hj
          case qc3 =>
            intro u hu
            simp only [List.mem_singleton] at hu
            subst hu
            rfl
          case qc4 =>
            have := LB.out
            simp only [maxLen]
            omega
          case qc5 =>
            have := LB.out
            omega
          case qc6 => rw [heap_size_alloc w2]; omega
          intro v' w3 hown hgrow hnil
          have hown' := hown
          rw [← hzw] at hown'
          have ST3 := Lib.hid (ST2.out.step _ k hown' hgrow)
          clear hown'
          clear hown hgrow hnil
          go_wp2
          go_roundw
          case rel =>
            refine ⟨k + 1, by omega, by go_num, ?_⟩
            rw [HT.out]
            exact ST3.out
          case measure => simp [RowKit.intOf]; omega
        · rw [if_neg he] at HT
          have hb : ((((r.bread ⟨p, (Q : Int)⟩ (k : Int)).2 : Nat) : Int) == 0) = false := by rw [beq_eq_false_iff_ne]; omega
          generalize (r.bread ⟨p, (Q : Int)⟩ (k : Int)).2 = er at *
          clear he
          go_wp2_with fail
          refine KW.out.mono ?_
          rintro e w2 ⟨v2, rfl, o2, b2⟩
          have ST2 := Lib.hid (ST1.out.later b2)
          clear o2 b2 KW
          go_wp2
          go_roundw
          case rel =>
            refine ⟨k + 1, by omega, by go_num, ?_⟩
            rw [HT.out]
            exact ST2.out
          case measure => simp [RowKit.intOf]; omega
      · obtain rfl : k = Q := by omega
        clear st
        go_wp2
        go_ret
        rw [HS.out]
        obtain ⟨A9, c9, e9, n9⟩ := RN.ofOwn STK.out.own
        injection e9 with e91 e92 e93
        subst e91
        subst e93
        exact ⟨_, _, rfl, n9, BW.out.trans (STK.out.below.mono (by omega))⟩
  · have HS : Hid (r.sound ⟨p, q⟩ = []) := Lib.hid (if_neg hc)
    have h2 : Ar.check ⟨p, q⟩ r.S.length = 2 := by rcases HC.out with e | e; exact absurd e hc; exact e
    rw [h2] at KC
    generalize r.sound ⟨p, q⟩ = RS_ at *
    clear hc HC h2
    have BV := Lib.hid (BW.out.alloc BW.out.size (.cells #[.int .i64 p, .int .i64 q] 50))
    obtain ⟨x0, x1, x2, x3, x4⟩ := CELL.out _ ST0.out.below
    by_cases hq : 0 < q
    · go_enter Try.func34, Try.ntmps34
      go_wp2
      go_loopw [5, 6, 7, 8] (fun v i _ _ wr => v = .slice none 0 0 ∧ i = .int .i64 0 ∧ wr = (w.alloc (.cells #[.slice A r.S.length c, .bool r.off, .int .i64 r.calls, .int .i64 r.after, .bool r.done] 28)).alloc (.cells #[.int .i64 p, .int .i64 q] 50)) (fun _ _ _ _ _ => 0)
      case atStart => exact ⟨rfl, rfl, rfl⟩
      case round =>
        obtain ⟨rfl, rfl, rfl⟩ := hrel
        go_wp2_with fail
        refine (KC.out _).mono ?_
        rintro e w1 ⟨rfl, b1⟩
        have B1 := Lib.hid (BV.out.trans (b1.mono BV.out.size))
        clear b1
        go_wp2
        go_ret
        rw [HS.out]
        exact ⟨none, 0, rfl, .inl rfl, B1.out⟩
    · have hq' : decide (0 < q) = false := by simp; omega
      go_enter Try.func34, Try.ntmps34
      go_wp2
      go_loopw [5, 6, 7, 8] (fun v i _ _ wr => v = .slice none 0 0 ∧ i = .int .i64 0 ∧ wr = (w.alloc (.cells #[.slice A r.S.length c, .bool r.off, .int .i64 r.calls, .int .i64 r.after, .bool r.done] 28)).alloc (.cells #[.int .i64 p, .int .i64 q] 50)) (fun _ _ _ _ _ => 0)
      case atStart => exact ⟨rfl, rfl, rfl⟩
      case round =>
        obtain ⟨rfl, rfl, rfl⟩ := hrel
        go_wp2
        go_ret
        rw [HS.out]
        exact ⟨none, 0, rfl, .inl rfl, BV.out⟩
end Go.Proofs.Ytidnpokjaklfpaa
namespace Go.Proofs.Ytidnpokjaklfpaa
open Go.RowKit
set_option linter.unusedVariables false
theorem Twin.bw {s : Dk} {r : Rk} (h : Twin s r) (x : Int) (b : List UInt8) : ∀ k, Twin (s.bw x b k).1 (r.bw x b k).1 ∧ (r.bw x b k).2 = (s.bw x b k).2
  | 0 => ⟨h, rfl⟩
  | k + 1 => by
    obtain ⟨h1, h2⟩ := Twin.bw h x b k
    unfold Dk.bw Rk.bw
    rw [h2]
    split
    · exact ⟨h1.write _ _, h1.writeErr _ _⟩
    · exact ⟨h1, h2⟩
theorem Twin.bwrite {s : Dk} {r : Rk} (h : Twin s r) (a : Ar) (n : Int) (l : List UInt8) : Twin (s.bwrite a n l).1 (r.bwrite a n l).1 ∧ (r.bwrite a n l).2 = (s.bwrite a n l).2 := by
  unfold Dk.bwrite Rk.bwrite
  rw [h.len]
  split
  · exact ⟨h, rfl⟩
  · split
    · exact ⟨h, rfl⟩
    · exact h.bw _ _ 4
theorem Dk.bw_len (s : Dk) (x : Int) (b : List UInt8) : ∀ k, (s.bw x b k).1.rows.length = s.rows.length
  | 0 => rfl
  | k + 1 => by
    have ih := Dk.bw_len s x b k
    unfold Dk.bw
    split
    · show ((s.bw x b k).1.write _ _).rows.length = _
      rw [Dk.write_len]
      exact ih
    · exact ih
theorem Dk.bwrite_len (s : Dk) (a : Ar) (n : Int) (l : List UInt8) : (s.bwrite a n l).1.rows.length = s.rows.length := by
  unfold Dk.bwrite
  split
  · rfl
  · split
    · rfl
    · exact Dk.bw_len _ _ _ 4
theorem Dk.bwrite_calls (s : Dk) (a : Ar) (n : Int) (l : List UInt8) : (s.bwrite a n l).1.calls ≤ s.calls + 4 := by
  unfold Dk.bwrite
  split
  · show s.calls ≤ _; omega
  · split
    · show s.calls ≤ _; omega
    · exact Dk.bw_calls _ _ _ 4
theorem Twin.rd {s : Dk} {r : Rk} (h : Twin s r) (X : Nat) : ∀ k, X + k ≤ s.rows.length → r.rd X k = s.rd X k
  | 0, _ => rfl
  | k + 1, hk => by
    have ih := Twin.rd h X k (by omega)
    show r.rd X k ++ ((r.S[X + k]?).map (·.has)).getD [] = s.rd X k ++ s.at_ (X + k)
    rw [ih, h.S, s.twinS_at (by omega)]
    rfl
theorem Twin.bread {s : Dk} {r : Rk} (h : Twin s r) (a : Ar) (n : Int) : r.bread a n = s.bread a n := by
  unfold Dk.bread Rk.bread
  rw [h.len, h.off]
  split
  · rfl
  · rename_i h0
    obtain ⟨_, _, X, hX, hX4⟩ := Ar.fault_ok (show a.fault s.rows.length n = 0 by omega)
    rw [hX]
    show (if s.off = true then ([], 8) else opn (r.rd X 4) 1024) = if s.off = true then ([], 8) else opn (s.rd X 4) 1024
    rw [h.rd X 4 hX4]
theorem Twin.sound {s : Dk} {r : Rk} (h : Twin s r) (a : Ar) : r.sound a = s.sound a := by
  have go : ∀ k, r.soundTo a k = s.soundTo a k := by
    intro k
    induction k with
    | zero => rfl
    | succ k ih =>
      unfold Rk.soundTo Dk.soundTo
      rw [h.bread, ih]
  unfold Rk.sound Dk.sound
  rw [h.len, go]
theorem Twin.ok {s : Dk} {r : Rk} (h : Twin s r) (hs : s.Ok) (hc : s.calls < 4611686018427387900) : RkOk r r.S.length 4611686018427387900 :=
  ⟨rfl, by rw [h.calls]; omega, by rw [h.calls]; omega, h.lo, h.hi hs⟩
end Go.Proofs.Ytidnpokjaklfpaa
namespace Go.Proofs.Ytidnpokjaklfpaa
open Go.RowKit
set_option linter.unusedVariables false
structure B4 (b : Nat) (x y z : Array Value) (W : World) : Prop where
  b0 : W.heap[b]? = some (.cells x 28 (0, 0))
  b1 : W.heap[b + 1]? = some (.cells y 50 (0, 0))
  b2 : W.heap[b + 2]? = some (.cells z 59 (0, 0))
  b3 : W.heap[b + 3]? = some (.cells #[.slice none 0 0, .bool false, .int .i64 0, .int .i64 0, .bool false] 28 (0, 0))
theorem B4.mk4 (w : World) (x y z : Array Value) : B4 w.heap.size x y z ((((w.alloc (.cells x 28)).alloc (.cells y 50)).alloc (.cells z 59)).alloc (.cells #[.slice none 0 0, .bool false, .int .i64 0, .int .i64 0, .bool false] 28)) ∧ Below w.heap.size w ((((w.alloc (.cells x 28)).alloc (.cells y 50)).alloc (.cells z 59)).alloc (.cells #[.slice none 0 0, .bool false, .int .i64 0, .int .i64 0, .bool false] 28)) := by
  have h1 := heap_size_alloc w (.cells x 28)
  have h2 := heap_size_alloc (w.alloc (.cells x 28)) (.cells y 50)
  have h3 := heap_size_alloc ((w.alloc (.cells x 28)).alloc (.cells y 50)) (.cells z 59)
  refine ⟨⟨?_, ?_, ?_, ?_⟩, ((((Below.refl _ w).alloc (Nat.le_refl _) _).alloc (by omega) _).alloc (by omega) _).alloc (by omega) _⟩
  · exact (Below.heap_alloc _ _ _ (by omega)).trans ((Below.heap_alloc _ _ _ (by omega)).trans ((Below.heap_alloc _ _ _ (by omega)).trans (heap_alloc_last w _)))
  · refine (Below.heap_alloc _ _ _ (by omega)).trans ((Below.heap_alloc _ _ _ (by omega)).trans ?_)
    have := heap_alloc_last (w.alloc (.cells x 28)) (.cells y 50)
    rw [h1] at this
    exact this
  · refine (Below.heap_alloc _ _ _ (by omega)).trans ?_
    have := heap_alloc_last ((w.alloc (.cells x 28)).alloc (.cells y 50)) (.cells z 59)
    rw [h2, h1] at this
    exact this
  · have := heap_alloc_last (((w.alloc (.cells x 28)).alloc (.cells y 50)).alloc (.cells z 59)) (.cells #[.slice none 0 0, .bool false, .int .i64 0, .int .i64 0, .bool false] 28)
    rw [h3, h2, h1] at this
    exact this
theorem B4.size {b : Nat} {x y z : Array Value} {W : World} (h : B4 b x y z W) : b + 3 < W.heap.size := (Array.getElem?_eq_some_iff.1 h.b3).1
theorem B4.frm {b : Nat} {x y z : Array Value} {W W' : World} {P : Nat → Prop} (h : B4 b x y z W) (hf : Frm P W W') (hP : ∀ k, P k → k < b) : B4 b x y z W' := by
  have := h.size
  exact ⟨(hf.block _ (by omega) (fun hx => by have := hP _ hx; omega)).trans h.b0, (hf.block _ (by omega) (fun hx => by have := hP _ hx; omega)).trans h.b1, (hf.block _ (by omega) (fun hx => by have := hP _ hx; omega)).trans h.b2, (hf.block _ (by omega) (fun hx => by have := hP _ hx; omega)).trans h.b3⟩
theorem B4.below {b : Nat} {x y z : Array Value} {W W' : World} (h : B4 b x y z W) (hb : Below W.heap.size W W') : B4 b x y z W' := h.frm (P := fun _ => False) (Frm.of_below hb) (fun _ e => e.elim)
theorem B4.c {b : Nat} {x y z : Array Value} {W : World} (h : B4 b x y z W) (i : Nat) : W.cell? ⟨b, i, none⟩ = x[i]? ∧ W.cell? ⟨b + 1, i, none⟩ = y[i]? ∧ W.cell? ⟨b + 2, i, none⟩ = z[i]? ∧ W.cell? ⟨b + 3, i, none⟩ = (#[.slice none 0 0, .bool false, .int .i64 0, .int .i64 0, .bool false] : Array Value)[i]? :=
  ⟨cell_of_row W _ i _ _ _ h.b0, cell_of_row W _ i _ _ _ h.b1, cell_of_row W _ i _ _ _ h.b2, cell_of_row W _ i _ _ _ h.b3⟩
theorem B4.f3 {b : Nat} {x y z : Array Value} {W : World} (h : B4 b x y z W) (j : Nat) : W.frozen? ⟨b + 3, j, none⟩ = false := by simp [World.frozen?, h.b3]
theorem B4.res {b : Nat} {x y z : Array Value} {W : World} (h : B4 b x y z W) (o : Obj) (a0 a1 a2 a3 a4 : Value) :
    ((((((W.setCell ⟨b + 1 + 1 + 1, 0, none⟩ a0).setCell ⟨b + 1 + 1 + 1, 1, none⟩ a1).setCell ⟨b + 1 + 1 + 1, 2, none⟩ a2).setCell ⟨b + 1 + 1 + 1, 3, none⟩ a3).setCell ⟨b + 1 + 1 + 1, 4, none⟩ a4).alloc o).cell? ⟨b + 1 + 1 + 1, 0, none⟩ = some a0 ∧ ((((((W.setCell ⟨b + 1 + 1 + 1, 0, none⟩ a0).setCell ⟨b + 1 + 1 + 1, 1, none⟩ a1).setCell ⟨b + 1 + 1 + 1, 2, none⟩ a2).setCell ⟨b + 1 + 1 + 1, 3, none⟩ a3).setCell ⟨b + 1 + 1 + 1, 4, none⟩ a4).alloc o).cell? ⟨b + 1 + 1 + 1, 1, none⟩ = some a1 ∧ ((((((W.setCell ⟨b + 1 + 1 + 1, 0, none⟩ a0).setCell ⟨b + 1 + 1 + 1, 1, none⟩ a1).setCell ⟨b + 1 + 1 + 1, 2, none⟩ a2).setCell ⟨b + 1 + 1 + 1, 3, none⟩ a3).setCell ⟨b + 1 + 1 + 1, 4, none⟩ a4).alloc o).cell? ⟨b + 1 + 1 + 1, 2, none⟩ = some a2 ∧ ((((((W.setCell ⟨b + 1 + 1 + 1, 0, none⟩ a0).setCell ⟨b + 1 + 1 + 1, 1, none⟩ a1).setCell ⟨b + 1 + 1 + 1, 2, none⟩ a2).setCell ⟨b + 1 + 1 + 1, 3, none⟩ a3).setCell ⟨b + 1 + 1 + 1, 4, none⟩ a4).alloc o).cell? ⟨b + 1 + 1 + 1, 3, none⟩ = some a3 ∧ ((((((W.setCell ⟨b + 1 + 1 + 1, 0, none⟩ a0).setCell ⟨b + 1 + 1 + 1, 1, none⟩ a1).setCell ⟨b + 1 + 1 + 1, 2, none⟩ a2).setCell ⟨b + 1 + 1 + 1, 3, none⟩ a3).setCell ⟨b + 1 + 1 + 1, 4, none⟩ a4).alloc o).cell? ⟨b + 1 + 1 + 1, 4, none⟩ = some a4 := by
  have h5 : (set5 W (b + 1 + 1 + 1) a0 a1 a2 a3 a4).heap[b + 1 + 1 + 1]? = some (.cells #[a0, a1, a2, a3, a4] 28 (0, 0)) := heap_set5 h.b3 a0 a1 a2 a3 a4
  have h6 := (Below.heap_alloc (set5 W (b + 1 + 1 + 1) a0 a1 a2 a3 a4) o _ (Array.getElem?_eq_some_iff.1 h5).1).trans h5
  exact ⟨(cell_of_row _ _ 0 _ _ _ h6).trans rfl, (cell_of_row _ _ 1 _ _ _ h6).trans rfl, (cell_of_row _ _ 2 _ _ _ h6).trans rfl, (cell_of_row _ _ 3 _ _ _ h6).trans rfl, (cell_of_row _ _ 4 _ _ _ h6).trans rfl⟩
theorem RB.frmOut {W W' : World} {P : Nat → Prop} {A : Option Addr} {l : List UInt8} (h : RB W A l) (hf : Frm P W W') (hne : l ≠ [] → ∀ ad, A = some ad → ¬ P ad.block) : RB W' A l := by
  by_cases hl : l = []
  · exact .inl hl
  · have h' := h
    rcases h with e | ⟨ad, rfl, hc⟩
    · exact .inl e
    · exact hf.rb h' (hne hl ad rfl)
def bcV (x : Bc) : Value := .agg #[.int .u8 (x.kind.toNat : Int), .int .i64 x.n, .slice x.bA x.body.length x.bc, .int .u8 (x.d.kind.toNat : Int), .int .i64 x.d.n, .int .u8 (x.d.c.toNat : Int), .int .u8 (x.d.cut.toNat : Int), .bool x.d.done, .slice x.d.fA x.d.fates.length x.d.fc]
/-- What do leaves. -/
def DoPost4 (base : Nat) (F : Ft) (w : World) (s : Dk) (e : Ending) (w' : World) : Prop :=
  ∃ s' r' A' c', e = .returned (.tuple #[rkV A' c' r', .bool true]) ∧ DkAt base F w' s' ∧ RS w' A' r'.S ∧ Twin s' r' ∧ s'.calls ≤ s.calls + 4 ∧ s'.rows.length = s.rows.length ∧ Frm F.has w w'
theorem do4_last {base : Nat} {F : Ft} {w w2 : World} {s s' : Dk} {r' : Rk} {A2 : Option Addr} {c2 : Nat} {x y z : Array Value} (hd : DkAt base F w2 s') (hr : RS w2 A2 r'.S) (ht : Twin s' r') (hc : s'.calls ≤ s.calls + 4) (hl : s'.rows.length = s.rows.length) (hf : Frm F.has w w2) (hin : ∀ k, F.has k → k < w.heap.size)
    (hb : B4 w.heap.size x y z w2) (o : Obj) (b0 b1 b2 b3 b4 : Value) : DoPost4 base F w s (.returned (.tuple #[rkV A2 c2 r', .bool true])) ((set5 w2 (w.heap.size + 3) b0 b1 b2 b3 b4).alloc o) := by
  have n6 : ¬ F.has (w.heap.size + 3) := fun h => by have := hin _ h; omega
  have hr' := hr.set5 (b := w.heap.size + 3) ((hb.c 0).2.2.2.trans rfl) (fun t e => by cases e) b0 b1 b2 b3 b4
  have hf' := hf.set5 (b := w.heap.size + 3) (by omega) b0 b1 b2 b3 b4
  exact ⟨s', r', A2, c2, rfl, (hd.set5 n6 _ _ _ _ _).alloc o, hr'.below ((Below.refl _ _).alloc (Nat.le_refl _) o), ht, hc, hl, hf'.trans (Frm.alloc _ _ _)⟩
set_option maxHeartbeats 1000000 in
set_option maxRecDepth 100000 in
theorem do4_any {base : Nat} {F : Ft} {w : World} {s : Dk} (h : DkAt base F w s) (A : Option Addr) (c : Nat) (r : Rk) (hr : RS w A r.S) (ht : Twin s r) (hcalls : s.calls < 4611686018427387900) (a : Ar) (x : Bc) (hrb : RB w x.d.fA x.d.fates) (hroom : x.d.fates.length ≤ x.d.fc) (hmost : x.d.fc ≤ maxLen) (hlo : -9223372036854775808 ≤ x.d.n) (hhi : x.d.n ≤ 9223372036854775807) (hne : x.d.fates ≠ [] → ∀ ad, x.d.fA = some ad → ¬ F.has ad.block) (hbb : RB w x.bA x.body) (hbl : x.body.length ≤ 1100) (hbn : x.body ≠ [] → ∀ ad, x.bA = some ad → ¬ F.has ad.block) :
    Calls Try.prog 27 #[.pointer (some ⟨F.b, 0, none⟩), rkV A c r, a.v, bcV x] w (DoPost4 base F w s) := by
  obtain ⟨p, q⟩ := a
  have T0 := Lib.hid (B4.mk4 w #[.slice A r.S.length c, .bool r.off, .int .i64 r.calls, .int .i64 r.after, .bool r.done] #[.int .i64 p, .int .i64 q] #[.int .u8 (x.kind.toNat : Int), .int .i64 x.n, .slice x.bA x.body.length x.bc, .int .u8 (x.d.kind.toNat : Int), .int .i64 x.d.n, .int .u8 (x.d.c.toNat : Int), .int .u8 (x.d.cut.toNat : Int), .bool x.d.done, .slice x.d.fA x.d.fates.length x.d.fc])
  have IN := Lib.hid h.inside
  have D0 := Lib.hid h
  have R0 := Lib.hid hr
  have TW := Lib.hid ht
  have LL := Lib.hid ht.len
  have zk0 : 0 ≤ (x.kind.toNat : Int) := by omega
  have zk1 : (x.kind.toNat : Int) < 256 := by have := x.kind.toNat_lt; omega
  have KDO := Lib.hid (fun W (hb : Below w.heap.size w W) => do_any (h.below hb) A c r (hr.below hb) ht hcalls x.d (hrb.below hb) hroom hmost hlo hhi hne)
  have KWD := Lib.hid (fun W (hb : Below w.heap.size w W) => bwrite_any (h.below hb) (by omega) ⟨p, q⟩ x.n x.bA x.body.length x.bc x.body rfl (by omega) (hbb.below hb))
  have RBB := Lib.hid hbb
  have HBN := Lib.hid hbn
  have EW := Lib.hid (ht.bwrite ⟨p, q⟩ x.n x.body)
  have OKR := Lib.hid (ht.ok h.ok hcalls)
  have h4096 : Hid (r.S.length ≤ 4096) := Lib.hid (by rw [ht.len]; exact h.ok.many)
  have nb5 : w.heap.size ≠ w.heap.size + 3 := by omega
  unfold rkV bcV acV at *
  show Calls Try.prog 27 #[.pointer (some ⟨F.b, 0, none⟩), .agg #[.slice A r.S.length c, .bool r.off, .int .i64 r.calls, .int .i64 r.after, .bool r.done], .agg #[.int .i64 p, .int .i64 q], .agg #[.int .u8 (x.kind.toNat : Int), .int .i64 x.n, .slice x.bA x.body.length x.bc, .int .u8 (x.d.kind.toNat : Int), .int .i64 x.d.n, .int .u8 (x.d.c.toNat : Int), .int .u8 (x.d.cut.toNat : Int), .bool x.d.done, .slice x.d.fA x.d.fates.length x.d.fc]] w _
  clear h hr ht hrb hne hbb hbn
  by_cases hk : 1 < x.kind.toNat % 4
  · have hk1 : (1 : Int) < (x.kind.toNat : Int) % 4 := by omega
    go_enter Try.func27, Try.ntmps27
    go_wp2_with fail
    refine (KDO.out _ T0.out.2).mono ?_
    rintro e w5 ⟨s5, r5, A5, c5, rfl, d5, rs5, t5, q5, l5, f5⟩
    have X5 := Lib.hid (T0.out.1.frm f5 IN.out)
    have FIN := Lib.hid (fun o a0 a1 a2 a3 a4 => do4_last (s := s) (c2 := c5) d5 rs5 t5 (by omega) l5 ((Frm.of_below T0.out.2).trans f5) IN.out X5.out o a0 a1 a2 a3 a4)
    have o0 := (X5.out.c 0).2.2.2; have o1 := (X5.out.c 1).2.2.2; have o2 := (X5.out.c 2).2.2.2; have o3 := (X5.out.c 3).2.2.2; have o4 := (X5.out.c 4).2.2.2
    have z0 := X5.out.f3 0; have z1 := X5.out.f3 1; have z2 := X5.out.f3 2; have z3 := X5.out.f3 3; have z4 := X5.out.f3 4
    have ec0 := fun o a0 a1 a2 a3 a4 => (X5.out.res o a0 a1 a2 a3 a4).1
    have ec1 := fun o a0 a1 a2 a3 a4 => (X5.out.res o a0 a1 a2 a3 a4).2.1
    have ec2 := fun o a0 a1 a2 a3 a4 => (X5.out.res o a0 a1 a2 a3 a4).2.2.1
    have ec3 := fun o a0 a1 a2 a3 a4 => (X5.out.res o a0 a1 a2 a3 a4).2.2.2.1
    have ec4 := fun o a0 a1 a2 a3 a4 => (X5.out.res o a0 a1 a2 a3 a4).2.2.2.2
    have EC0 := Lib.hid ec0; have EC1 := Lib.hid ec1; have EC2 := Lib.hid ec2; have EC3 := Lib.hid ec3; have EC4 := Lib.hid ec4
    clear ec0 ec1 ec2 ec3 ec4
    have hsz := X5.out.size
    have nq : w5.heap.size ≠ w.heap.size + 3 := by omega
    have nq2 : w.heap.size + 3 ≠ w5.heap.size := by omega
    clear d5 rs5 f5
    unfold rkV at *
    go_wp2
    refine bodyPost_ret (v := .tuple #[.agg #[.slice A5 r5.S.length c5, .bool r5.off, .int .i64 r5.calls, .int .i64 r5.after, .bool r5.done], .bool true]) (by simp [results, Try.results27, go_sem, EC0.out, EC1.out, EC2.out, EC3.out, EC4.out]) rfl ?_
    exact FIN.out _ _ _ _ _ _
  · have hk1 : decide ((1 : Int) < (x.kind.toNat : Int) % 4) = false := by simp; omega
    go_enter Try.func27, Try.ntmps27
    go_wp2_with fail
    refine (KWD.out _ T0.out.2).mono ?_
    rintro e w5 ⟨rfl, d5, f5⟩
    have X5 := Lib.hid (T0.out.1.frm f5 IN.out)
    have F5 := Lib.hid ((Frm.of_below T0.out.2).trans f5)
    have R5 := Lib.hid ((R0.out.below T0.out.2).frm f5 ((D0.out.below T0.out.2).rs_out (R0.out.below T0.out.2) LL.out))
    have RB5 := Lib.hid (RB.frmOut (RBB.out.below T0.out.2) f5 HBN.out)
    have D5 := Lib.hid d5
    have KRW := refBwrite_any A c r ⟨p, q⟩ x.n x.bA x.body.length x.bc x.body w5 h4096.out R5.out OKR.out rfl (by omega) RB5.out
    unfold rkV at KRW
    rw [EW.out.2] at KRW
    have KRW : Hid (Calls Try.prog 55 #[.agg #[.slice A r.S.length c, .bool r.off, .int .i64 r.calls, .int .i64 r.after, .bool r.done], .agg #[.int .i64 p, .int .i64 q], .int .i64 x.n, .slice x.bA x.body.length x.bc] w5 _) := Lib.hid KRW
    have i0 := (X5.out.c 0).1; have i1 := (X5.out.c 1).1; have i2 := (X5.out.c 2).1; have i3 := (X5.out.c 3).1; have i4 := (X5.out.c 4).1
    have m0 := (X5.out.c 0).2.1; have m1 := (X5.out.c 1).2.1
    have k1 := (X5.out.c 1).2.2.1; have k2 := (X5.out.c 2).2.2.1
    have TWW := Lib.hid EW.out.1
    have CWW := Lib.hid (Dk.bwrite_calls s ⟨p, q⟩ x.n x.body)
    have LWW := Lib.hid (Dk.bwrite_len s ⟨p, q⟩ x.n x.body)
    clear d5 f5
    generalize (s.bwrite ⟨p, q⟩ x.n x.body).2 = er at *
    generalize (s.bwrite ⟨p, q⟩ x.n x.body).1 = s5 at *
    generalize (r.bwrite ⟨p, q⟩ x.n x.body).1 = r5 at *
    have hee : ((er : Int) == (er : Int)) = true := by simp
    go_wp2_with fail
    refine KRW.out.mono ?_
    rintro e w6 ⟨v6, rfl, ⟨A5, c5, rfl, rs6⟩, b6⟩
    have X6 := Lib.hid (X5.out.below b6)
    have FIN := Lib.hid (fun o a0 a1 a2 a3 a4 => do4_last (s := s) (c2 := c5) (D5.out.below b6) rs6 TWW.out CWW.out LWW.out (F5.out.trans (Frm.of_below b6)) IN.out X6.out o a0 a1 a2 a3 a4)
    clear i0 i1 i2 i3 i4 m0 m1 k1 k2 rs6 b6
    have o0 := (X6.out.c 0).2.2.2; have o1 := (X6.out.c 1).2.2.2; have o2 := (X6.out.c 2).2.2.2; have o3 := (X6.out.c 3).2.2.2; have o4 := (X6.out.c 4).2.2.2
    have z0 := X6.out.f3 0; have z1 := X6.out.f3 1; have z2 := X6.out.f3 2; have z3 := X6.out.f3 3; have z4 := X6.out.f3 4
    have ec0 := fun o a0 a1 a2 a3 a4 => (X6.out.res o a0 a1 a2 a3 a4).1
    have ec1 := fun o a0 a1 a2 a3 a4 => (X6.out.res o a0 a1 a2 a3 a4).2.1
    have ec2 := fun o a0 a1 a2 a3 a4 => (X6.out.res o a0 a1 a2 a3 a4).2.2.1
    have ec3 := fun o a0 a1 a2 a3 a4 => (X6.out.res o a0 a1 a2 a3 a4).2.2.2.1
    have ec4 := fun o a0 a1 a2 a3 a4 => (X6.out.res o a0 a1 a2 a3 a4).2.2.2.2
    have EC0 := Lib.hid ec0; have EC1 := Lib.hid ec1; have EC2 := Lib.hid ec2; have EC3 := Lib.hid ec3; have EC4 := Lib.hid ec4
    clear ec0 ec1 ec2 ec3 ec4
    have hsz := X6.out.size
    have nq : w6.heap.size ≠ w.heap.size + 3 := by omega
    have nq2 : w.heap.size + 3 ≠ w6.heap.size := by omega
    unfold rkV at *
    go_wp2
    refine bodyPost_ret (v := .tuple #[.agg #[.slice A5 r5.S.length c5, .bool r5.off, .int .i64 r5.calls, .int .i64 r5.after, .bool r5.done], .bool true]) (by simp [results, Try.results27, go_sem, EC0.out, EC1.out, EC2.out, EC3.out, EC4.out]) rfl ?_
    exact FIN.out _ _ _ _ _ _
end Go.Proofs.Ytidnpokjaklfpaa
namespace Go.Proofs.Ytidnpokjaklfpaa
open Go.RowKit
set_option linter.unusedVariables false
def Ar.secs (a : Ar) (n : Int) : List Nat := if (a.may && a.has n) = true then from4 (a.first + 4 * n).toNat 4 else []
theorem Ar.secs_len (a : Ar) (n : Int) : (a.secs n).length ≤ 4096 := by
  unfold Ar.secs
  split
  · rw [from4_len]; omega
  · simp
theorem Ar.nat_of {a : Ar} {n : Int} (h1 : a.may = true) (h2 : a.has n = true) : a.first + 4 * n = ((a.first + 4 * n).toNat : Int) := by
  have m1 : 0 ≤ a.first ∧ a.first ≤ 4096 ∧ 0 ≤ a.count ∧ a.count ≤ 512 := of_decide_eq_true h1
  have m2 : 0 ≤ n ∧ n < a.count := of_decide_eq_true h2
  omega
theorem sectors_rn (a : Ar) (n : Int) (w : World) : Calls Try.prog 31 #[a.v, .int .i64 n] w fun e w' => ∃ A c, e = .returned (.slice A (a.secs n).length c) ∧ RN w' A (a.secs n) ∧ Below w.heap.size w w' := by
  by_cases h : (a.may && a.has n) = true
  · have h' := h
    simp only [Bool.and_eq_true] at h'
    have e : a.secs n = from4 (a.first + 4 * n).toNat 4 := if_pos h
    rw [e]
    refine (sectors_some a n w h'.1 h'.2).mono ?_
    rintro e w' ⟨g, rfl, _, f, b⟩
    rw [Ar.nat_of h'.1 h'.2] at f
    exact ⟨_, 4, by rw [from4_len], f.rn, b⟩
  · have e : a.secs n = [] := if_neg h
    rw [e]
    refine (sectors_none a n w (by simpa using h)).mono ?_
    rintro e w' ⟨rfl, b⟩
    exact ⟨none, 0, rfl, .inl rfl, b⟩
theorem refSectors_rn (a : Ar) (n : Int) (w : World) : Calls Try.prog 32 #[a.v, .int .i64 n] w fun e w' => ∃ A c, e = .returned (.slice A (a.secs n).length c) ∧ RN w' A (a.secs n) ∧ Below w.heap.size w w' := by
  by_cases h : (a.may && a.has n) = true
  · have h' := h
    simp only [Bool.and_eq_true] at h'
    have e : a.secs n = from4 (a.first + 4 * n).toNat 4 := if_pos h
    rw [e]
    refine (refSectors_some a n _ w h'.1 h'.2 (Ar.nat_of h'.1 h'.2)).mono ?_
    rintro e w' ⟨v, rfl, o, b⟩
    obtain ⟨A, c, rfl, r⟩ := RN.ofOwn o
    exact ⟨A, c, rfl, r, b⟩
  · have e : a.secs n = [] := if_neg h
    rw [e]
    refine (refSectors_none a n w (by simpa using h)).mono ?_
    rintro e w' ⟨rfl, b⟩
    exact ⟨none, 0, rfl, .inl rfl, b⟩
theorem sound_rn {base : Nat} {F : Ft} {w : World} {s : Dk} (h : DkAt base F w s) (a : Ar) : Calls Try.prog 33 #[.pointer (some ⟨F.b, 0, none⟩), a.v] w fun e w' => ∃ A c, e = .returned (.slice A (s.sound a).length c) ∧ RN w' A (s.sound a) ∧ Below w.heap.size w w' := by
  refine (sound_any h a).mono ?_
  rintro e w' ⟨v, rfl, o, b⟩
  obtain ⟨A, c, rfl, r⟩ := RN.ofOwn o
  exact ⟨A, c, rfl, r, b⟩
theorem Dk.sound_len (s : Dk) (a : Ar) : (s.sound a).length ≤ 4096 := by
  unfold Dk.sound
  split
  · rename_i h
    have := Dk.soundTo_length s a a.count.toNat
    unfold Ar.check at h
    split at h
    · rename_i h2
      have m1 : 0 ≤ a.first ∧ a.first ≤ 4096 ∧ 0 ≤ a.count ∧ a.count ≤ 512 := of_decide_eq_true h2.1
      omega
    · cases h
  · simp
end Go.Proofs.Ytidnpokjaklfpaa
