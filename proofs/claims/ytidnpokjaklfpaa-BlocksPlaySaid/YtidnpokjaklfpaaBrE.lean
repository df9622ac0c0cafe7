/- The law's sameInts; the document's Read of a block. The document's Read of a block. The document's Write of a block. -/
import Derived.Test.YtidnpokjaklfpaaBrB
import Derived.Laws.IdiomStrings
namespace Go.Proofs.Ytidnpokjaklfpaa
open Go.RowKit
set_option linter.unusedVariables false
set_option maxHeartbeats 1000000 in
set_option maxRecDepth 100000 in
theorem sameInts_any (A B : Option Addr) (c e : Nat) (L : List Nat) (w : World) (hl : L.length ≤ 4096) (ha : RN w A L) (hb : RN w B L) : Calls Try.prog 30 #[.slice A L.length c, .slice B L.length e] w fun e w' => e = .returned (.bool true) ∧ Below w.heap.size w w' := by
  have HA := Lib.hid ha
  have HB := Lib.hid hb
  have dl : ((L.length : Int) != (L.length : Int)) = false := by simp
  clear ha hb
  go_enter Try.func30, Try.ntmps30
  go_wp2
  go_loopw [5] (fun i wr => ∃ k : Nat, k ≤ L.length ∧ i = .int .i64 (k : Int) ∧ RN wr A L ∧ RN wr B L ∧ Below w.heap.size w wr) (fun i _ => L.length - (RowKit.intOf i).toNat)
  case atStart => exact ⟨0, Nat.zero_le _, rfl, HA.out, HB.out, Below.refl _ _⟩
  case round =>
    obtain ⟨k, hk, rfl, r1, r2, bel⟩ := hrel
    have R1 := Lib.hid r1
    have R2 := Lib.hid r2
    have BE := Lib.hid bel
    clear bel
    by_cases hlt : k < L.length
    · have hk' : (k : Int) < (L.length : Int) := by omega
      obtain ⟨a5, rfl, y5⟩ := r1.at_ hlt
      obtain ⟨a6, rfl, y6⟩ := r2.at_ hlt
      generalize L[k] = z at *
      have dz : ((z : Int) != (z : Int)) = false := by simp
      clear r1 r2
      go_wp2
      go_quiet (fail)
      go_wp2
      go_roundw
      case rel => exact ⟨k + 1, by omega, by go_num, R1.out, R2.out, ⟨BE.out.os, BE.out.tape, BE.out.output, BE.out.size, BE.out.block⟩⟩
      case measure => simp [RowKit.intOf]; omega
    · obtain rfl : k = L.length := by omega
      clear r1 r2
      go_wp2
      go_ret
      exact ⟨rfl, BE.out⟩
/-- What the first k sectors from x on have. -/
def Rk.rd (r : Rk) (X : Nat) : Nat → List UInt8
  | 0 => []
  | k + 1 => r.rd X k ++ ((r.S[X + k]?).map (·.has)).getD []
def Rk.bread (r : Rk) (a : Ar) (n : Int) : List UInt8 × Nat :=
  if a.fault r.S.length n ≠ 0 then ([], a.fault r.S.length n) else if r.off = true then ([], 8) else opn (r.rd (a.first + 4 * n).toNat 4) 1024
theorem Rk.rd_len {r : Rk} (hx : ∀ x ∈ r.S, x.has.length = 256 ∧ x.safe.length = 256) {X : Nat} : ∀ {k : Nat}, X + k ≤ r.S.length → (r.rd X k).length = 256 * k
  | 0, _ => rfl
  | k + 1, hk => by
    show (r.rd X k ++ ((r.S[X + k]?).map (·.has)).getD []).length = _
    rw [List.length_append, Rk.rd_len hx (by omega), List.getElem?_eq_getElem (by omega)]
    have := (hx _ (List.getElem_mem (show X + k < r.S.length by omega))).1
    simp [this]
    omega
theorem str_cat (a b : List UInt8) : str a ++ str b = str (a ++ b) := by
  apply ByteArray.ext
  rw [ByteArray.data_append]
  simp [str]
end Go.Proofs.Ytidnpokjaklfpaa
namespace Go.Proofs.Ytidnpokjaklfpaa
open Go.RowKit
set_option linter.unusedVariables false
/-- Four numbers lie in a block, one behind the other. -/
def N4 (w : World) (g X : Nat) : Prop := ∀ k, k < 4 → w.cell? ⟨g, k, none⟩ = some (.int .i64 ((X + k : Nat) : Int))
theorem N4.below {w w' : World} {g X : Nat} (h : N4 w g X) (hb : Below w.heap.size w w') : N4 w' g X := fun k hk => (hb.cell (p := ⟨g, k, none⟩) (lt_of_cell (h k hk))).trans (h k hk)
theorem N4.ofOwn {base : Nat} {w : World} {v : Value} {X : Nat} (h : w.ownsRow base 3 1 v (from4 X 4).length (rowN (from4 X 4))) : ∃ g cap, v = .slice (some ⟨g, 0, none⟩) 4 cap ∧ base ≤ g ∧ N4 w g X := by
  rcases h.2 with ⟨_, h0⟩ | ⟨g, cap, cur, e, hb, _⟩
  · rw [from4_len] at h0; cases h0
  · refine ⟨g, cap, by rw [e, from4_len], hb, fun k hk => ?_⟩
    subst e
    have := World.ownsRow.cells h (g := g) rfl k (.int .i64 ((X + k : Nat) : Int)) (by
      match k, hk with
      | 0, _ => rfl
      | 1, _ => rfl
      | 2, _ => rfl
      | 3, _ => rfl)
    have e : (⟨g, 0, none⟩ : Addr).add k = ⟨g, k, none⟩ := by cases k <;> simp [Addr.add]
    rw [e] at this
    exact this
theorem rb_bytesRow (W : World) (l : List UInt8) (cap : Nat) (t : TypeId) (fr : Nat × Nat) : RB (W.alloc (.cells (bytesRow (str l) cap) t fr)) (some ⟨W.heap.size, 0, none⟩) l := by
  refine .inr ⟨_, rfl, fun j x hx => ?_⟩
  have e : (⟨W.heap.size, 0, none⟩ : Addr).add j = ⟨W.heap.size, j, none⟩ := by cases j <;> simp [Addr.add]
  have hj : j < l.length := (List.getElem?_eq_some_iff.1 hx).1
  rw [e, World.cell?_alloc_mark]
  unfold bytesRow str
  rw [Array.getElem?_append_left (by simpa using hj)]
  simp [hx]
/-- Between two sectors that are read. -/
structure Bd (w : World) (N : Nat) (A : Option Addr) (c : Nat) (r : Rk) (g X k : Nat) (all e : Value) (wr : World) : Prop where
  all : all = .string (str (r.rd X k))
  err : e = .int .i64 0
  off : 0 < k → r.off = false
  bx : wr.heap[w.heap.size]? = some (.cells #[.slice A N c, .bool r.off, .int .i64 r.calls, .int .i64 r.after, .bool r.done] 28 (0, 0))
  n4 : N4 wr g X
  below : Below w.heap.size w wr
set_option maxHeartbeats 1000000 in
set_option maxRecDepth 100000 in
theorem refBread_any (A : Option Addr) (c : Nat) (r : Rk) (a : Ar) (n : Int) (w : World) (hs : r.S.length ≤ 4096) (hr : RS w A r.S) (hx : ∀ x ∈ r.S, x.has.length = 256 ∧ x.safe.length = 256) :
    Calls Try.prog 29 #[rkV A c r, a.v, .int .i64 n] w fun e w' => ∃ v, e = .returned (.tuple #[v, .int .i64 ((r.bread a n).2 : Int)]) ∧ OB w.heap.size w' v (r.bread a n).1 ∧ Below w.heap.size w w' := by
  have K1 := Lib.hid (fun W => refBat_any A c r a n W hs)
  have KR := Lib.hid (fun W m (hb : Below w.heap.size w W) => refRead_any A c r m W hs (hr.below hb))
  have HZ := Lib.hid (show ∀ f, f = a.fault r.S.length n → f ≠ 0 → r.bread a n = ([], f) from fun f hf h0 => by subst hf; exact if_pos h0)
  have HO := Lib.hid (show a.fault r.S.length n = 0 → r.bread a n = if r.off = true then ([], 8) else opn (r.rd (a.first + 4 * n).toNat 4) 1024 from fun h0 => if_neg (by simp [h0]))
  have KN := Lib.hid (fun W (X : Nat) (h1 : a.may = true) (h2 : a.has n = true) (hX : a.first + 4 * n = (X : Int)) => refSectors_some a n X W h1 h2 hX)
  have HF := Lib.hid (show a.fault r.S.length n = 0 → _ from Ar.fault_ok)
  have HRX := Lib.hid hx
  unfold rkV at *
  obtain ⟨p, q⟩ := a
  have K1 : Hid (∀ W, Calls Try.prog 58 #[.agg #[.slice A r.S.length c, .bool r.off, .int .i64 r.calls, .int .i64 r.after, .bool r.done], .agg #[.int .i64 p, .int .i64 q], .int .i64 n] W fun e w' => e = .returned (.int .i64 (Ar.fault ⟨p, q⟩ r.S.length n : Int)) ∧ Below W.heap.size W w') := K1
  show Calls Try.prog 29 #[.agg #[.slice A r.S.length c, .bool r.off, .int .i64 r.calls, .int .i64 r.after, .bool r.done], .agg #[.int .i64 p, .int .i64 q], .int .i64 n] w _
  have KN : Hid (∀ W X, Ar.may ⟨p, q⟩ = true → Ar.has ⟨p, q⟩ n = true → p + 4 * n = ((X : Nat) : Int) → Calls Try.prog 32 #[.agg #[.int .i64 p, .int .i64 q], .int .i64 n] W fun e w' => ∃ v, e = .returned v ∧ w'.ownsRow (W.heap.size + 1) 3 1 v (from4 X 4).length (rowN (from4 X 4)) ∧ Below W.heap.size W w') := KN
  have HO : Hid (Ar.fault ⟨p, q⟩ r.S.length n = 0 → r.bread ⟨p, q⟩ n = if r.off = true then ([], 8) else opn (r.rd (p + 4 * n).toNat 4) 1024) := HO
  have HF : Hid (Ar.fault ⟨p, q⟩ r.S.length n = 0 → Ar.may ⟨p, q⟩ = true ∧ Ar.has ⟨p, q⟩ n = true ∧ ∃ X : Nat, p + 4 * n = (X : Int) ∧ X + 4 ≤ r.S.length) := HF
  generalize r.bread ⟨p, q⟩ n = R at *
  generalize Ar.fault ⟨p, q⟩ r.S.length n = f at *
  obtain ⟨N, hN⟩ : ∃ N, N = r.S.length := ⟨_, rfl⟩
  rw [← hN] at K1 KR hs ⊢
  have HN := Lib.hid hN
  have T0 := Lib.hid (two_boxes w #[.slice A N c, .bool r.off, .int .i64 r.calls, .int .i64 r.after, .bool r.done] #[.int .i64 p, .int .i64 q] 28 50)
  by_cases hf : f = 0
  · subst hf
    obtain ⟨hm1, hm2, X, hX, hX4⟩ := HF.out rfl
    have HR := Lib.hid (HO.out rfl)
    rw [hX] at HR
    have KN := Lib.hid (fun W => KN.out W X hm1 hm2 hX)
    rw [← hN] at hX4
    have HX4 := Lib.hid hX4
    clear HF HO HZ hX hX4 hm1 hm2 hr hx hN
    go_enter Try.func29, Try.ntmps29
    go_wp2_with fail
    obtain ⟨t0, t1, t2, t3⟩ := T0.out
    refine (K1.out _).mono ?_
    rintro e w1 ⟨rfl, b1⟩
    have hb0 := Lib.hid ((b1.block _ (by omega)).trans t0)
    have hb1 := (b1.block _ (by omega)).trans t1
    have y0 : w1.cell? ⟨w.heap.size + 1, 0, none⟩ = some (.int .i64 p) := (cell_of_row w1 _ 0 _ _ _ hb1).trans rfl
    have y1 : w1.cell? ⟨w.heap.size + 1, 1, none⟩ = some (.int .i64 q) := (cell_of_row w1 _ 1 _ _ _ hb1).trans rfl
    have B1 := Lib.hid (t2.trans (b1.mono (by omega)))
    clear b1 t0 t1 t2 t3 hb1 T0 K1
    go_wp2_with fail
    refine (KN.out _).mono ?_
    rintro e w2 ⟨v2, rfl, o2, b2⟩
    obtain ⟨g, cap, rfl, hg, n4⟩ := N4.ofOwn o2
    have ST : Hid (Bd w N A c r g X 0 (.string ⟨#[]⟩) (.int .i64 0) w2) := Lib.hid ⟨rfl, rfl, fun h => by omega, (b2.block _ (Array.getElem?_eq_some_iff.1 hb0.out).1).trans hb0.out, n4, B1.out.trans (b2.mono B1.out.size)⟩
    clear o2 b2 hg n4 y0 y1 KN hb0
    go_wp2
    go_loopw [8, 9, 10, 12] (fun e all _ i wr => ∃ k : Nat, k ≤ 4 ∧ i = .int .i64 (k : Int) ∧ Bd w N A c r g X k all e wr) (fun _ _ _ i _ => 4 - (RowKit.intOf i).toNat)
    case atStart => exact ⟨0, Nat.zero_le _, rfl, ST.out⟩
    case round =>
      obtain ⟨k, hk, rfl, st⟩ := hrel
      obtain ⟨rfl, rfl⟩ := And.intro st.all st.err
      have SQ := Lib.hid st
      by_cases hlt : k < 4
      · have kk : (k : Int) < 4 := by omega
        have y0 : wr.drew.cell? ⟨g, k, none⟩ = some (.int .i64 ((X + k : Nat) : Int)) := st.n4 k hlt
        have c0 : wr.drew.cell? ⟨w.heap.size, 0, none⟩ = some (.slice A N c) ∧ wr.drew.cell? ⟨w.heap.size, 1, none⟩ = some (.bool r.off) ∧ wr.drew.cell? ⟨w.heap.size, 2, none⟩ = some (.int .i64 r.calls) ∧ wr.drew.cell? ⟨w.heap.size, 3, none⟩ = some (.int .i64 r.after) ∧ wr.drew.cell? ⟨w.heap.size, 4, none⟩ = some (.bool r.done) := ⟨(cell_of_row wr _ 0 _ _ _ st.bx).trans rfl, (cell_of_row wr _ 1 _ _ _ st.bx).trans rfl, (cell_of_row wr _ 2 _ _ _ st.bx).trans rfl, (cell_of_row wr _ 3 _ _ _ st.bx).trans rfl, (cell_of_row wr _ 4 _ _ _ st.bx).trans rfl⟩
        have c9 : (wr.drew.cell? ⟨w.heap.size, 0, none⟩ = some (.slice A N c) ∧ wr.drew.cell? ⟨w.heap.size, 1, none⟩ = some (.bool r.off) ∧ wr.drew.cell? ⟨w.heap.size, 2, none⟩ = some (.int .i64 r.calls) ∧ wr.drew.cell? ⟨w.heap.size, 3, none⟩ = some (.int .i64 r.after) ∧ wr.drew.cell? ⟨w.heap.size, 4, none⟩ = some (.bool r.done)) ∧ wr.drew.cell? ⟨g, k, none⟩ = some (.int .i64 ((X + k : Nat) : Int)) := ⟨c0, y0⟩
        have KQ := KR.out wr.drew ((X + k : Nat) : Int) st.below.drew
        have KEEP := Lib.hid (fun W (hb : Below wr.heap.size wr W) => (show (W.cell? ⟨w.heap.size, 0, none⟩ = some (.slice A N c) ∧ W.cell? ⟨w.heap.size, 1, none⟩ = some (.bool r.off) ∧ W.cell? ⟨w.heap.size, 2, none⟩ = some (.int .i64 r.calls) ∧ W.cell? ⟨w.heap.size, 3, none⟩ = some (.int .i64 r.after) ∧ W.cell? ⟨w.heap.size, 4, none⟩ = some (.bool r.done)) ∧ W.cell? ⟨g, k, none⟩ = some (.int .i64 ((X + k : Nat) : Int)) from by
          have hB := (hb.block _ (Array.getElem?_eq_some_iff.1 SQ.out.bx).1).trans SQ.out.bx
          exact ⟨⟨(cell_of_row W _ 0 _ _ _ hB).trans rfl, (cell_of_row W _ 1 _ _ _ hB).trans rfl, (cell_of_row W _ 2 _ _ _ hB).trans rfl, (cell_of_row W _ 3 _ _ _ hB).trans rfl, (cell_of_row W _ 4 _ _ _ hB).trans rfl⟩, SQ.out.n4.below hb k hlt⟩))
        have hX0 : 0 ≤ ((X + k : Nat) : Int) := by omega
        clear st c0
        by_cases hoff : r.off = true
        · have e1 : r.at ((X + k : Nat) : Int) = 8 := by unfold Rk.at; rw [if_pos hoff]
          have e2 : r.reads ((X + k : Nat) : Int) = [] := by unfold Rk.reads; rw [e1]; rfl
          rw [e1, e2] at KQ
          rw [if_pos hoff] at HR
          have KQ := Lib.hid KQ
          clear e1 e2 hoff
          go_wp2
          go_region_held3 (fun W => (W.cell? ⟨w.heap.size, 0, none⟩ = some (.slice A N c) ∧ W.cell? ⟨w.heap.size, 1, none⟩ = some (.bool r.off) ∧ W.cell? ⟨w.heap.size, 2, none⟩ = some (.int .i64 r.calls) ∧ W.cell? ⟨w.heap.size, 3, none⟩ = some (.int .i64 r.after) ∧ W.cell? ⟨w.heap.size, 4, none⟩ = some (.bool r.done)) ∧ W.cell? ⟨g, k, none⟩ = some (.int .i64 ((X + k : Nat) : Int))) (first | with_reducible assumption | with_reducible exact c9 | with_reducible exact c5 | fail)
            (first
              | (go_at_call 42; refine KQ.out.mono ?_; rintro e w5 ⟨rfl, b5⟩; have c5 := KEEP.out w5 ((Below.refl _ wr).drew.trans b5); have B5 := Lib.hid (SQ.out.below.drew.trans (b5.mono SQ.out.below.size)); clear b5)
              | fail)
          all_goals
            clear c5 c9
            go_wp2
            go_ret2
            rw [HR.out]
            exact ⟨_, rfl, OB.nil, B5.out⟩
        · have hoff' : r.off = false := by simpa using hoff
          have e1 : r.at ((X + k : Nat) : Int) = 0 := by
            unfold Rk.at
            rw [if_neg hoff, if_neg (by have := HX4.out; have := HN.out; omega)]
          have e2 : r.reads ((X + k : Nat) : Int) = ((r.S[X + k]?).map (·.has)).getD [] := by unfold Rk.reads; rw [if_pos e1]; rfl
          rw [e1, e2] at KQ
          have KQ := Lib.hid KQ
          have HRD := Lib.hid (show r.rd X (k + 1) = r.rd X k ++ ((r.S[X + k]?).map (·.has)).getD [] from rfl)
          have hl1 := Rk.rd_len HRX.out (X := X) (k := k) (by have := HX4.out; have := HN.out; omega)
          have hl2 : (((r.S[X + k]?).map (·.has)).getD []).length = 256 := by
            have hi : X + k < r.S.length := by have := HX4.out; have := HN.out; omega
            rw [List.getElem?_eq_getElem hi]
            exact (HRX.out _ (List.getElem_mem hi)).1
          have OFF := Lib.hid hoff'
          generalize ((r.S[X + k]?).map (·.has)).getD [] = lr at *
          have hcat : ¬ 9223372036854775807 < (str (r.rd X k)).size + (str lr).size := by rw [str_size, str_size, hl1, hl2]; omega
          have hcat2 := Lib.hid (str_cat (r.rd X k) lr)
          clear e1 e2 hoff hoff' hl1 hl2
          go_wp2
          go_region_held3 (fun W => (W.cell? ⟨w.heap.size, 0, none⟩ = some (.slice A N c) ∧ W.cell? ⟨w.heap.size, 1, none⟩ = some (.bool r.off) ∧ W.cell? ⟨w.heap.size, 2, none⟩ = some (.int .i64 r.calls) ∧ W.cell? ⟨w.heap.size, 3, none⟩ = some (.int .i64 r.after) ∧ W.cell? ⟨w.heap.size, 4, none⟩ = some (.bool r.done)) ∧ W.cell? ⟨g, k, none⟩ = some (.int .i64 ((X + k : Nat) : Int))) (first | with_reducible assumption | with_reducible exact c9 | with_reducible exact c5 | fail)
            (first
              | (go_at_call 42; refine KQ.out.mono ?_; rintro e w5 ⟨rfl, b5⟩; have c5 := KEEP.out w5 ((Below.refl _ wr).drew.trans b5); have B5 := Lib.hid ((Below.refl _ wr).drew.trans b5); clear b5)
              | fail)
          all_goals
            clear c5 c9
            go_wp2
            go_roundw
            case rel =>
              refine ⟨k + 1, by omega, by go_num, ?_, rfl, fun _ => OFF.out, (B5.out.block _ (Array.getElem?_eq_some_iff.1 SQ.out.bx).1).trans SQ.out.bx, SQ.out.n4.below B5.out, SQ.out.below.trans (B5.out.mono SQ.out.below.size)⟩
              rw [HRD.out, ← hcat2.out]
            case measure => simp [RowKit.intOf]; omega
      · obtain rfl : k = 4 := by omega
        have hoff := st.off (by omega)
        rw [if_neg (by rw [hoff]; simp)] at HR
        have HR : Hid (R = opn (r.rd X 4) 1024) := HR
        have hl1 := Rk.rd_len HRX.out (X := X) (k := 4) (by have := HX4.out; have := HN.out; omega)
        generalize r.rd X 4 = la at *
        have kcv := run_bytes_of_string (P := Try.prog) wr 9 32 5 (str la) Try.underlying9 Try.underlying32 Try.underlying5
        have hge := grownCap_ge wr (str la).size 0 5
        rw [str_size, hl1] at kcv hge
        generalize grownCap wr (256 * 4) 0 5 = cp at *
        have KO := Lib.hid (fun W (hW : RB W (some ⟨wr.heap.size, 0, none⟩) la) => refOpen_any (some ⟨wr.heap.size, 0, none⟩) 1024 cp la W hl1 hge (by omega) (by omega) hW)
        have RBB := Lib.hid (fun fr => rb_bytesRow wr.drew la cp 5 fr)
        have BNN := Lib.hid (fun o => SQ.out.below.drew.alloc SQ.out.below.size o)
        generalize opn la 1024 = R4 at *
        clear st hl1
        go_wp2_with fail
        refine (KO.out _ (RBB.out _)).mono ?_
        rintro e w7 ⟨v7, rfl, o7, b7⟩
        have O7 := Lib.hid (o7.lift (BNN.out _).size)
        have B7 := Lib.hid ((BNN.out _).trans (b7.mono (BNN.out _).size))
        clear o7 b7
        go_wp2
        go_ret2
        rw [HR.out]
        exact ⟨_, rfl, O7.out, B7.out⟩
  · have HR := Lib.hid (HZ.out f rfl hf)
    have hb : ((f : Int) != 0) = true := by rw [bne_iff_ne]; omega
    clear HO HZ HF KN hf hr hx hN
    go_enter Try.func29, Try.ntmps29
    go_wp2_with fail
    obtain ⟨t0, t1, t2, t3⟩ := T0.out
    refine (K1.out _).mono ?_
    rintro e w1 ⟨rfl, b1⟩
    have B1 := Lib.hid (t2.trans (b1.mono (by omega)))
    clear b1 t0 t1 t2 t3 T0 K1
    go_wp2
    go_ret2
    rw [HR.out]
    exact ⟨_, rfl, OB.nil, B1.out⟩
end Go.Proofs.Ytidnpokjaklfpaa
namespace Go.Proofs.Ytidnpokjaklfpaa
open Go.RowKit
set_option linter.unusedVariables false
def Rk.bw (r : Rk) (x : Int) (b : List UInt8) : Nat → Rk × Nat
  | 0 => (r, 0)
  | k + 1 => if (r.bw x b k).2 = 0 then ((r.bw x b k).1.write (x + k) (part b k), (r.bw x b k).1.writeErr (x + k) (part b k)) else r.bw x b k
theorem Rk.bw_stop {r : Rk} {x : Int} {b : List UInt8} {k : Nat} (h : (r.bw x b k).2 ≠ 0) : ∀ j, k ≤ j → r.bw x b j = r.bw x b k := by
  intro j hj
  induction j with
  | zero => obtain rfl : k = 0 := by omega
            rfl
  | succ j ih =>
    by_cases e : k = j + 1
    · subst e; rfl
    · have ih := ih (by omega)
      show (if (r.bw x b j).2 = 0 then _ else r.bw x b j) = _
      rw [ih, if_neg h]
def Rk.bwrite (r : Rk) (a : Ar) (n : Int) (l : List UInt8) : Rk × Nat :=
  if a.fault r.S.length n ≠ 0 then (r, a.fault r.S.length n) else if 1016 < l.length then (r, 5) else r.bw (a.first + 4 * n) (sealL l 1024) 4
/-- A disk of the document's whose numbers are small enough. -/
structure RkOk (r : Rk) (N : Nat) (K : Int) : Prop where
  len : r.S.length = N
  c0 : 0 ≤ r.calls
  c1 : r.calls ≤ K
  a0 : -1 ≤ r.after
  a1 : r.after ≤ 9223372036854775807
theorem RkOk.write {r : Rk} {N : Nat} {K : Int} (h : RkOk r N K) (n : Int) (l : List UInt8) : RkOk (r.write n l) N (K + 1) := by
  have h1 := h.c0; have h2 := h.c1; have h3 := h.a0; have h4 := h.a1
  unfold Rk.write
  split
  · exact ⟨h.len, h1, by omega, h3, h4⟩
  · unfold Rk.call
    have ha : -1 ≤ r.up.after ∧ r.up.after ≤ 9223372036854775807 := by
      show -1 ≤ (if 0 ≤ r.after then r.after - 1 else r.after) ∧ (if 0 ≤ r.after then r.after - 1 else r.after) ≤ 9223372036854775807
      split <;> omega
    have hc : 0 ≤ r.up.calls ∧ r.up.calls ≤ K + 1 := by
      show 0 ≤ r.calls + 1 ∧ r.calls + 1 ≤ K + 1
      omega
    have hl : (r.put n.toNat l).S.length = N := by show (r.S.set _ _).length = N; rw [List.length_set]; exact h.len
    split
    · exact ⟨hl, hc.1, hc.2, ha.1, ha.2⟩
    · split
      · exact ⟨hl, hc.1, hc.2, ha.1, ha.2⟩
      · exact ⟨h.len, hc.1, hc.2, ha.1, ha.2⟩
theorem RkOk.bw {r : Rk} {N : Nat} {K : Int} (h : RkOk r N K) (x : Int) (b : List UInt8) : ∀ k : Nat, RkOk (r.bw x b k).1 N (K + k)
  | 0 => by have := h.c1; exact ⟨h.len, h.c0, by show r.calls ≤ K + 0; omega, h.a0, h.a1⟩
  | k + 1 => by
    have ih := RkOk.bw h x b k
    unfold Rk.bw
    split
    · have := ih.write (x + k) (part b k)
      exact ⟨this.len, this.c0, by have := this.c1; show ((r.bw x b k).1.write (x + k) (part b k)).calls ≤ _; omega, this.a0, this.a1⟩
    · exact ⟨ih.len, ih.c0, by have := ih.c1; omega, ih.a0, ih.a1⟩
/-- Three boxes: a disk, an area, and the result's. -/
structure B3 (b : Nat) (x y : Array Value) (W : World) : Prop where
  b0 : W.heap[b]? = some (.cells x 28 (0, 0))
  b1 : W.heap[b + 1]? = some (.cells y 50 (0, 0))
  b2 : W.heap[b + 2]? = some (.cells #[.slice none 0 0, .bool false, .int .i64 0, .int .i64 0, .bool false] 28 (0, 0))
theorem B3.mk3 (w : World) (x y : Array Value) : B3 w.heap.size x y (((w.alloc (.cells x 28)).alloc (.cells y 50)).alloc (.cells #[.slice none 0 0, .bool false, .int .i64 0, .int .i64 0, .bool false] 28)) ∧ Below w.heap.size w (((w.alloc (.cells x 28)).alloc (.cells y 50)).alloc (.cells #[.slice none 0 0, .bool false, .int .i64 0, .int .i64 0, .bool false] 28)) := by
  have hz := heap_size_alloc w (.cells x 28)
  have hz1 := heap_size_alloc (w.alloc (.cells x 28)) (.cells y 50)
  refine ⟨⟨?_, ?_, ?_⟩, (((Below.refl _ w).alloc (Nat.le_refl _) _).alloc (by omega) _).alloc (by omega) _⟩
  · exact (Below.heap_alloc _ _ _ (by omega)).trans ((Below.heap_alloc _ _ _ (by omega)).trans (heap_alloc_last w _))
  · refine (Below.heap_alloc _ _ _ (by omega)).trans ?_
    have := heap_alloc_last (w.alloc (.cells x 28)) (.cells y 50)
    rw [hz] at this
    exact this
  · have := heap_alloc_last ((w.alloc (.cells x 28)).alloc (.cells y 50)) (.cells #[.slice none 0 0, .bool false, .int .i64 0, .int .i64 0, .bool false] 28)
    rw [hz1, hz] at this
    exact this
theorem B3.below {b : Nat} {x y : Array Value} {W W' : World} (h : B3 b x y W) (hb : Below W.heap.size W W') : B3 b x y W' :=
  ⟨(hb.block _ (Array.getElem?_eq_some_iff.1 h.b0).1).trans h.b0, (hb.block _ (Array.getElem?_eq_some_iff.1 h.b1).1).trans h.b1, (hb.block _ (Array.getElem?_eq_some_iff.1 h.b2).1).trans h.b2⟩
theorem B3.set {b : Nat} {x0 x1 x2 x3 x4 : Value} {y : Array Value} {W : World} (h : B3 b #[x0, x1, x2, x3, x4] y W) (a0 a1 a2 a3 a4 : Value) : B3 b #[a0, a1, a2, a3, a4] y (set5 W b a0 a1 a2 a3 a4) :=
  ⟨heap_set5 h.b0 _ _ _ _ _, (heap_set5_other _ _ _ (by omega) _ _ _ _ _).trans h.b1, (heap_set5_other _ _ _ (by omega) _ _ _ _ _).trans h.b2⟩
theorem B3.c0 {b : Nat} {y : Array Value} {a0 a1 a2 a3 a4 : Value} {W : World} (h : B3 b #[a0, a1, a2, a3, a4] y W) : W.cell? ⟨b, 0, none⟩ = some a0 ∧ W.cell? ⟨b, 1, none⟩ = some a1 ∧ W.cell? ⟨b, 2, none⟩ = some a2 ∧ W.cell? ⟨b, 3, none⟩ = some a3 ∧ W.cell? ⟨b, 4, none⟩ = some a4 :=
  ⟨(cell_of_row W _ 0 _ _ _ h.b0).trans rfl, (cell_of_row W _ 1 _ _ _ h.b0).trans rfl, (cell_of_row W _ 2 _ _ _ h.b0).trans rfl, (cell_of_row W _ 3 _ _ _ h.b0).trans rfl, (cell_of_row W _ 4 _ _ _ h.b0).trans rfl⟩
theorem B3.c2 {b : Nat} {x y : Array Value} {W : World} (h : B3 b x y W) : W.cell? ⟨b + 2, 0, none⟩ = some (.slice none 0 0) ∧ W.cell? ⟨b + 2, 1, none⟩ = some (.bool false) ∧ W.cell? ⟨b + 2, 2, none⟩ = some (.int .i64 0) ∧ W.cell? ⟨b + 2, 3, none⟩ = some (.int .i64 0) ∧ W.cell? ⟨b + 2, 4, none⟩ = some (.bool false) :=
  ⟨(cell_of_row W _ 0 _ _ _ h.b2).trans rfl, (cell_of_row W _ 1 _ _ _ h.b2).trans rfl, (cell_of_row W _ 2 _ _ _ h.b2).trans rfl, (cell_of_row W _ 3 _ _ _ h.b2).trans rfl, (cell_of_row W _ 4 _ _ _ h.b2).trans rfl⟩
theorem B3.f0 {b : Nat} {x y : Array Value} {W : World} (h : B3 b x y W) (j : Nat) : W.frozen? ⟨b, j, none⟩ = false := by simp [World.frozen?, h.b0]
theorem B3.f2 {b : Nat} {x y : Array Value} {W : World} (h : B3 b x y W) (j : Nat) : W.frozen? ⟨b + 2, j, none⟩ = false := by simp [World.frozen?, h.b2]
/-- The result is laid. -/
theorem RkIs.res {w W : World} {r' : Rk} {A' : Option Addr} {c' : Nat} {x y : Array Value} (hr : RS W A' r'.S) (hb : B3 w.heap.size x y W) (hw : Below w.heap.size w W) (a0 a1 a2 a3 a4 : Value) : RkIs (set5 W (w.heap.size + 2) a0 a1 a2 a3 a4) r' (.agg #[.slice A' r'.S.length c', .bool r'.off, .int .i64 r'.calls, .int .i64 r'.after, .bool r'.done]) ∧ Below w.heap.size w (set5 W (w.heap.size + 2) a0 a1 a2 a3 a4) :=
  ⟨⟨A', c', rfl, hr.set5 hb.c2.1 (fun t e => by cases e) _ _ _ _ _⟩, below_set5 hw (by omega) _ _ _ _ _⟩
end Go.Proofs.Ytidnpokjaklfpaa
