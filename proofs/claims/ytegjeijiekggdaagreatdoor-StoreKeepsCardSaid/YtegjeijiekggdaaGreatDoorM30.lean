/- Joined: RfI. -/
import Derived.Test.YtegjeijiekggdaaGreatDoorM28
section
/- The document's disk: Power. -/
namespace Go.Proofs.YtegjeijiekggdaaGreatDoor
open Go.RowKit
set_option linter.unusedVariables false
set_option maxHeartbeats 1000000 in
theorem refTake2_any (A : Option Addr) (c : Nat) (l : List UInt8) (w : World) (hc : l.length ≤ c) (hm : l.length ≤ maxLen) (hr : RB w A l) :
    Calls Tryz.prog 92 #[.slice A l.length c] w fun e w' => ∃ A' c', e = .returned (.tuple #[.int .u8 ((tk l).1.toNat : Int), .slice A' (tk l).2.length c']) ∧ (tk l).2.length ≤ c' ∧ (∀ W, RB W A l → RB W A' (tk l).2) ∧ ∃ q, w' = w.drewN q := by
  unfold maxLen at hm
  cases l with
  | nil =>
    go_enter Tryz.func92, Tryz.ntmps92
    go_wp2
    go_ret2
    exact ⟨none, 0, rfl, Nat.le_refl _, fun _ _ => .inl rfl, 0, rfl⟩
  | cons f r =>
    rcases hr with hr | ⟨ad, rfl, hcl⟩
    · cases hr
    have h0 := hcl 0 f rfl
    rw [Addr.add_nought] at h0
    have HRB := Lib.hid (show ∀ W, RB W (some ad) (f :: r) → RB W (some (ad.add 1)) r from fun W h => by
      have := RB.drop (w := W) (ad := ad) (l := f :: r) h 1
      simpa using this)
    generalize hn : (f :: r).length = n at *
    have hn0 : r.length + 1 = n := by simpa using hn
    have HN := Lib.hid hn0
    have hnb : ((n : Int) == 0) = false := by simp; omega
    have n0 : (1 : Int) ≤ (n : Int) := by omega
    have n1 : (n : Int) ≤ (c : Int) := by omega
    have npos : 0 < n := by omega
    clear hcl hn hn0
    by_cases hck : c = 1
    · subst hck
      obtain rfl : r = [] := List.eq_nil_of_length_eq_zero (by have := HN.out; omega)
      obtain rfl : 1 = n := HN.out
      go_enter Tryz.func92, Tryz.ntmps92
      go_wp2
      go_quiet (fail)
      go_wp2
      go_ret2
      exact ⟨some ad, 0, rfl, Nat.le_refl _, fun _ _ => .inl rfl, _, rfl⟩
    · go_enter Tryz.func92, Tryz.ntmps92
      go_wp2
      go_quiet (fail)
      go_wp2
      go_ret2
      refine ⟨some (ad.add 1), c - 1, ?_, ?_, HRB.out, _, rfl⟩
      · show _ = Ending.returned (.tuple #[.int .u8 (f.toNat : Int), .slice (some (ad.add 1)) r.length (c - 1)])
        rw [Addr.add_one_, show r.length = n - 1 by have := HN.out; omega]
        rfl
      · show r.length ≤ c - 1
        have := HN.out
        omega
theorem str_parts (a b : List UInt8) (k : Nat) : (str a).extract 0 k ++ (str b).extract k (str b).size = str (a.take k ++ b.drop k) := by
  apply ByteArray.ext
  rw [ByteArray.data_append, ByteArray.data_extract, ByteArray.data_extract, str_size]
  simp only [str, List.extract_toArray, List.extract_eq_take_drop, List.append_toArray]
  congr 1
  simp [List.take_of_length_le]
/-- What a sector becomes at a loss of power, and what is left of the fates. -/
def Sx.fate (x : Sx) (fs : List UInt8) : Sx × List UInt8 := if x.w = true then (⟨(fate1 x.safe x.has fs).1, x.safe, x.w⟩, (fate1 x.safe x.has fs).2) else (x, fs)
def pwTo (S : List Sx) (fs : List UInt8) : Nat → List Sx × List UInt8
  | 0 => (S, fs)
  | k + 1 => match (pwTo S fs k).1[k]? with
    | some x => ((pwTo S fs k).1.set k (x.fate (pwTo S fs k).2).1, (x.fate (pwTo S fs k).2).2)
    | none => pwTo S fs k
theorem pwTo_len (S : List Sx) (fs : List UInt8) : ∀ k, (pwTo S fs k).1.length = S.length
  | 0 => rfl
  | k + 1 => by
    have := pwTo_len S fs k
    unfold pwTo
    split
    · rw [List.length_set]; exact this
    · exact this
theorem pwTo_later (S : List Sx) (fs : List UInt8) : ∀ k i, k ≤ i → (pwTo S fs k).1[i]? = S[i]?
  | 0, i, _ => rfl
  | k + 1, i, h => by
    have ih := pwTo_later S fs k i (by omega)
    unfold pwTo
    split
    · rw [List.getElem?_set_ne (by omega)]; exact ih
    · exact ih
def Rk.power (r : Rk) (fs : List UInt8) : Rk := ⟨(pwTo r.S fs r.S.length).1.map Sx.safed, false, r.calls, -1, false⟩
/-- While sectors are gone through. -/
structure Pw (w : World) (N : Nat) (off : Bool) (calls after : Int) (done : Bool) (T : List Sx) (fs : List UInt8) (vf : Value) (A : Option Addr) (c : Nat) (wr : World) : Prop where
  b0 : wr.heap[w.heap.size]? = some (.cells #[.slice A N c, .bool off, .int .i64 calls, .int .i64 after, .bool done] 39 (0, 0))
  b1 : wr.heap[w.heap.size + 1]? = some (.cells #[.slice none 0 0, .bool false, .int .i64 0, .int .i64 0, .bool false] 39 (0, 0))
  rs : RS wr A T
  out : T ≠ [] → ∀ ad, A = some ad → ad.block ≠ w.heap.size ∧ ad.block ≠ w.heap.size + 1
  len : T.length = N
  fat : ∃ B e, vf = .slice B fs.length e ∧ fs.length ≤ e ∧ fs.length ≤ maxLen ∧ RB w B fs
  below : Below w.heap.size w wr
theorem heap_set5 {W : World} {b : Nat} {x0 x1 x2 x3 x4 : Value} {t : TypeId} (h : W.heap[b]? = some (.cells #[x0, x1, x2, x3, x4] t (0, 0))) (a0 a1 a2 a3 a4 : Value) : (set5 W b a0 a1 a2 a3 a4).heap[b]? = some (.cells #[a0, a1, a2, a3, a4] t (0, 0)) := by
  unfold set5
  rw [heap_setCell_block a4 (heap_setCell_block a3 (heap_setCell_block a2 (heap_setCell_block a1 (heap_setCell_block a0 h))))]
  rfl
theorem heap_set5_other (W : World) (b k : Nat) (h : k ≠ b) (a0 a1 a2 a3 a4 : Value) : (set5 W b a0 a1 a2 a3 a4).heap[k]? = W.heap[k]? := by
  have one : ∀ (W : World) (i : Nat) (v : Value), (W.setCell ⟨b, i, none⟩ v).heap[k]? = W.heap[k]? := fun W i v => Below.heap_setCell _ _ _ _ h
  unfold set5
  rw [one, one, one, one, one]
theorem below_set5 {B b : Nat} {w W : World} (h : Below B w W) (hb : B ≤ b) (a0 a1 a2 a3 a4 : Value) : Below B w (set5 W b a0 a1 a2 a3 a4) :=
  ((((h.setCell (p := ⟨b, 0, none⟩) hb _).setCell (p := ⟨b, 1, none⟩) hb _).setCell (p := ⟨b, 2, none⟩) hb _).setCell (p := ⟨b, 3, none⟩) hb _).setCell (p := ⟨b, 4, none⟩) hb _
theorem Pw.later {w : World} {N : Nat} {off : Bool} {calls after : Int} {done : Bool} {T : List Sx} {fs : List UInt8} {vf : Value} {A : Option Addr} {c : Nat} {wr W : World} (h : Pw w N off calls after done T fs vf A c wr) (hb : Below wr.heap.size wr W) : Pw w N off calls after done T fs vf A c W :=
  ⟨(hb.block _ (Array.getElem?_eq_some_iff.1 h.b0).1).trans h.b0, (hb.block _ (Array.getElem?_eq_some_iff.1 h.b1).1).trans h.b1, h.rs.below hb, h.out, h.len, h.fat, h.below.trans (hb.mono h.below.size)⟩
theorem Pw.next {w : World} {N : Nat} {off : Bool} {calls after : Int} {done : Bool} {T T' : List Sx} {fs fs' : List UInt8} {vf vf' : Value} {A A2 : Option Addr} {c c2 : Nat} {wr W w2 : World} (h : Pw w N off calls after done T fs vf A c wr) (hW : Below wr.heap.size wr W)
    (rs : RS w2 A2 T') (d : ∀ ad, A2 = some ad → W.heap.size ≤ ad.block) (b2 : Below W.heap.size W w2) (hl : T'.length = N) (hf : ∃ B e, vf' = .slice B fs'.length e ∧ fs'.length ≤ e ∧ fs'.length ≤ maxLen ∧ RB w B fs') :
    Pw w N off calls after done T' fs' vf' A2 c2 (set5 w2 w.heap.size (.slice A2 N c2) (.bool off) (.int .i64 calls) (.int .i64 after) (.bool done)) := by
  have h2 := (h.later hW).later b2
  have hsz : w.heap.size + 1 < W.heap.size := Nat.lt_of_lt_of_le (Array.getElem?_eq_some_iff.1 h.b1).1 hW.size
  refine ⟨heap_set5 h2.b0 _ _ _ _ _, (heap_set5_other _ _ _ (by omega) _ _ _ _ _).trans h2.b1, ?_, fun _ ad e => by have := d ad e; omega, hl, hf, below_set5 h2.below (Nat.le_refl _) _ _ _ _ _⟩
  rcases rs with e | ⟨g, rfl, hc⟩
  · exact .inl e
  · have hg := d ⟨g, 0, none⟩ rfl
    simp only at hg
    exact .inr ⟨g, rfl, fun j u hj => (cell_set5 w2 w.heap.size ⟨g, j, none⟩ (by simp only; omega) _ _ _ _ _).trans (hc j u hj)⟩
def PwRel (w : World) (S : List Sx) (fs : List UInt8) (off : Bool) (calls after : Int) (done : Bool) (vf i : Value) (wr : World) : Prop :=
  ∃ (k : Nat) (A : Option Addr) (c : Nat), k ≤ S.length ∧ i = .int .i64 (k : Int) ∧ Pw w S.length off calls after done (pwTo S fs k).1 (pwTo S fs k).2 vf A c wr
set_option maxHeartbeats 4000000 in
set_option maxRecDepth 100000 in
theorem refPower_any (A : Option Addr) (c : Nat) (r : Rk) (B : Option Addr) (m e : Nat) (fs : List UInt8) (w : World) (hs : r.S.length ≤ 4096) (hr : RS w A r.S) (hx : ∀ x ∈ r.S, x.has.length = 256 ∧ x.safe.length = 256) (hl : fs.length = m) (he : m ≤ e) (hm : m ≤ maxLen) (hb : RB w B fs) :
    Calls Tryz.prog 42 #[rkV A c r, .slice B m e] w fun e w' => ∃ v, e = .returned v ∧ RkIs w' (r.power fs) v ∧ Below w.heap.size w w' := by
  obtain ⟨S, off, calls, after, done⟩ := r
  have hs : S.length ≤ 4096 := hs
  have hr : RS w A S := hr
  have hx : ∀ x ∈ S, x.has.length = 256 ∧ x.safe.length = 256 := hx
  have HX := Lib.hid hx
  show Calls Tryz.prog 42 #[.agg #[.slice A S.length c, .bool off, .int .i64 calls, .int .i64 after, .bool done], .slice B m e] w _
  have t0 := Two5.mk2 w #[.slice A S.length c, .bool off, .int .i64 calls, .int .i64 after, .bool done] #[.slice none 0 0, .bool false, .int .i64 0, .int .i64 0, .bool false]
  have b0 := ((Below.refl _ w).alloc (Nat.le_refl _) (.cells #[.slice A S.length c, .bool off, .int .i64 calls, .int .i64 after, .bool done] 39)).alloc (by rw [heap_size_alloc]; omega) (.cells #[.slice none 0 0, .bool false, .int .i64 0, .int .i64 0, .bool false] 39)
  have st0 : PwRel w S fs off calls after done (.slice B m e) (.int .i64 ((0 : Nat) : Int)) ((w.alloc (.cells #[.slice A S.length c, .bool off, .int .i64 calls, .int .i64 after, .bool done] 39)).alloc (.cells #[.slice none 0 0, .bool false, .int .i64 0, .int .i64 0, .bool false] 39)) :=
    ⟨0, A, c, Nat.zero_le _, rfl, t0.b0, t0.b1, hr.below b0, fun h ad e => by have := hr.lt h ad e; omega, rfl, ⟨B, e, (show Value.slice B m e = .slice B fs.length e from by rw [hl]), (show fs.length ≤ e from by omega), (show fs.length ≤ maxLen from by omega), hb⟩, b0⟩
  have ST0 := Lib.hid st0
  clear st0 t0 b0 hr hx hl hb he hm
  go_enter Tryz.func42, Tryz.ntmps42
  go_wp2
  go_loopw [1, 5, 6, 7, 8] (fun vf i _ _ _ wr => PwRel w S fs off calls after done vf i wr) (fun _ i _ _ _ _ => S.length - (RowKit.intOf i).toNat)
  case atStart => exact ST0.out
  case round =>
    obtain ⟨k, A1, c1, hk, rfl, st⟩ := hrel
    obtain ⟨B1, e1, rfl, he1, hm1, hb1⟩ := st.fat
    have q0 : wr.cell? ⟨w.heap.size, 0, none⟩ = some (.slice A1 S.length c1) := (cell_of_row wr _ 0 _ _ _ st.b0).trans rfl
    have q1 : wr.cell? ⟨w.heap.size, 1, none⟩ = some (.bool off) := (cell_of_row wr _ 1 _ _ _ st.b0).trans rfl
    have q2 : wr.cell? ⟨w.heap.size, 2, none⟩ = some (.int .i64 calls) := (cell_of_row wr _ 2 _ _ _ st.b0).trans rfl
    have q3 : wr.cell? ⟨w.heap.size, 3, none⟩ = some (.int .i64 after) := (cell_of_row wr _ 3 _ _ _ st.b0).trans rfl
    have q4 : wr.cell? ⟨w.heap.size, 4, none⟩ = some (.bool done) := (cell_of_row wr _ 4 _ _ _ st.b0).trans rfl
    have ST := Lib.hid st
    have hsz : w.heap.size + 1 < wr.heap.size := (Array.getElem?_eq_some_iff.1 st.b1).1
    have HB1 := Lib.hid hb1
    have HM1 := Lib.hid hm1
    by_cases hlt : k < S.length
    · have hlT : k < (pwTo S fs k).1.length := by rw [pwTo_len]; exact hlt
      obtain ⟨g, rfl, hgw, y0, y1, y2⟩ := st.rs.at_ (List.getElem?_eq_getElem hlT)
      have hgo := (st.out (by intro h; rw [h] at hlT; simp at hlT) ⟨g, 0, none⟩ rfl)
      have hgs0 := pwTo_later S fs k k (Nat.le_refl _)
      rw [List.getElem?_eq_getElem hlT, List.getElem?_eq_getElem hlt] at hgs0
      have hgs : (pwTo S fs k).1[k] = S[k] := by injection hgs0
      clear hgs0
      have HPW := Lib.hid (show pwTo S fs (k + 1) = ((pwTo S fs k).1.set k (S[k].fate (pwTo S fs k).2).1, (S[k].fate (pwTo S fs k).2).2) from by
        show (match (pwTo S fs k).1[k]? with | some x => _ | none => _) = _
        rw [List.getElem?_eq_getElem hlT]
        simp only [hgs])
      rw [hgs] at y0 y1 y2
      have hlen := HX.out S[k] (List.getElem_mem hlt)
      have kk : (k : Int) < (S.length : Int) := by omega
      have HK := Lib.hid hlT
      have HSET := Lib.hid (show (pwTo S fs k).1.set k S[k] = (pwTo S fs k).1 from by rw [← hgs]; exact List.set_getElem_self _)
      have HXM := Lib.hid (List.getElem_mem hlt)
      clear hgs
      generalize S[k] = x at *
      clear hlT st hb1
      cases hw : x.w with
      | false =>
        have HF := Lib.hid (show ∀ fs, x.fate fs = (x, fs) from fun fs => by unfold Sx.fate; rw [hw]; rfl)
        rw [hw] at y2
        clear hw
        go_wp2
        go_roundw
        case rel =>
          refine ⟨k + 1, some ⟨g, 0, none⟩, c1, by omega, by go_num, ?_⟩
          rw [HPW.out, HF.out, HSET.out]
          exact ST.out.later ((Below.refl _ _).alloc (Nat.le_refl _) _)
        case measure => simp [RowKit.intOf]; omega
      | true =>
        have HFT := Lib.hid (show ∀ fs, x.fate fs = (⟨(fate1 x.safe x.has fs).1, x.safe, x.w⟩, (fate1 x.safe x.has fs).2) from fun fs => by unfold Sx.fate; rw [if_pos hw])
        rw [hw] at y2
        have KT := Lib.hid (fun W (h : RB W B1 (pwTo S fs k).2) => refTake2_any B1 e1 (pwTo S fs k).2 W he1 hm1 h)
        have KW := Lib.hid (fun W hasv (h : RS W (some ⟨g, 0, none⟩) (pwTo S fs k).1) => refWith_any (some ⟨g, 0, none⟩) c1 ⟨(pwTo S fs k).1, off, calls, after, done⟩ k ⟨hasv, x.safe, true⟩ W HK.out (by show (pwTo S fs k).1.length ≤ 4096; rw [pwTo_len]; exact hs) h)
        have KW : Hid (∀ W hasv, RS W (some ⟨g, 0, none⟩) (pwTo S fs k).1 → Calls Tryz.prog 93 #[.agg #[.slice (some ⟨g, 0, none⟩) S.length c1, .bool off, .int .i64 calls, .int .i64 after, .bool done], .int .i64 (k : Int), .agg #[.string (str hasv), .string (str x.safe), .bool true]] W fun e w' => ∃ A' c', e = .returned (.agg #[.slice A' S.length c', .bool off, .int .i64 calls, .int .i64 after, .bool done]) ∧ RS w' A' ((pwTo S fs k).1.set k ⟨hasv, x.safe, true⟩) ∧ (∀ ad, A' = some ad → W.heap.size ≤ ad.block) ∧ Below W.heap.size W w') := Lib.hid fun W hasv h => by
          have kk := KW.out W hasv h
          unfold rkV at kk
          rw [List.length_set, show (pwTo S fs k).1.length = S.length from pwTo_len S fs k] at kk
          exact kk
        have HLT := Lib.hid (show ∀ y, ((pwTo S fs k).1.set k y).length = S.length from fun y => by rw [List.length_set, pwTo_len])
        have HW := Lib.hid hw
        generalize (pwTo S fs k).1 = T at *
        generalize (pwTo S fs k).2 = fk at *
        obtain ⟨hlh, hls⟩ := hlen
        have HFL := Lib.hid (show fk.length ≤ maxLen from HM1.out)
        clear hm1
        go_wp2_with fail
        have xq := heap_alloc_last wr (.cells #[.string (str x.has), .string (str x.safe), .bool true] 143)
        have bq := (Below.refl _ wr).alloc (Nat.le_refl _) (.cells #[.string (str x.has), .string (str x.safe), .bool true] 143)
        refine (KT.out _ (HB1.out.below (ST.out.below.trans (bq.mono ST.out.below.size)))).mono ?_
        rintro e w1 ⟨A', c', rfl, hc', hrb', nq, rfl⟩
        have XQ := Lib.hid (show ((wr.alloc (.cells #[.string (str x.has), .string (str x.safe), .bool true] 143)).drewN nq).heap[wr.heap.size]? = some (.cells #[.string (str x.has), .string (str x.safe), .bool true] 143 (0, 0)) from xq)
        have BQ : Hid (Below wr.heap.size wr ((wr.alloc (.cells #[.string (str x.has), .string (str x.safe), .bool true] 143)).drewN nq)) := Lib.hid ⟨bq.os, bq.tape, bq.output, bq.size, bq.block⟩
        clear xq bq KT
        generalize (wr.alloc (.cells #[.string (str x.has), .string (str x.safe), .bool true] 143)).drewN nq = W1 at *
        have RB1 := Lib.hid (hrb' w HB1.out)
        have p0 := (BQ.out.cell (p := ⟨w.heap.size, 0, none⟩) (lt_of_cell q0)).trans q0
        have p1 := (BQ.out.cell (p := ⟨w.heap.size, 1, none⟩) (lt_of_cell q1)).trans q1
        have p2 := (BQ.out.cell (p := ⟨w.heap.size, 2, none⟩) (lt_of_cell q2)).trans q2
        have p3 := (BQ.out.cell (p := ⟨w.heap.size, 3, none⟩) (lt_of_cell q3)).trans q3
        have p4 := (BQ.out.cell (p := ⟨w.heap.size, 4, none⟩) (lt_of_cell q4)).trans q4
        have z0 : W1.cell? ⟨wr.heap.size, 0, none⟩ = some (.string (str x.has)) := (cell_of_row W1 _ 0 _ _ _ XQ.out).trans rfl
        have z1 : W1.cell? ⟨wr.heap.size, 1, none⟩ = some (.string (str x.safe)) := (cell_of_row W1 _ 1 _ _ _ XQ.out).trans rfl
        have z2 : W1.cell? ⟨wr.heap.size, 2, none⟩ = some (.bool true) := (cell_of_row W1 _ 2 _ _ _ XQ.out).trans rfl
        have z3 : W1.frozen? ⟨wr.heap.size, 0, none⟩ = false := by simp [World.frozen?, XQ.out]
        have PF : ∀ i, W1.frozen? ⟨w.heap.size, i, none⟩ = false := fun i => by simp [World.frozen?, (ST.out.later BQ.out).b0]
        have HFA := Lib.hid (show fate1 x.safe x.has fk = if (tk fk).1.toNat % 4 = 2 then (x.has, (tk fk).2) else if (tk fk).1.toNat % 4 = 3 then (x.has.take (tk (tk fk).2).1.toNat ++ x.safe.drop (tk (tk fk).2).1.toNat, (tk (tk fk).2).2) else (x.safe, (tk fk).2) from rfl)
        have hf0 : 0 ≤ ((tk fk).1.toNat : Int) := by omega
        have hf1 : ((tk fk).1.toNat : Int) < 256 := by have := (tk fk).1.toNat_lt; omega
        have TL := Lib.hid (tk_len fk)
        clear q0 q1 q2 q3 q4 y0 y1 y2
        by_cases e2 : (tk fk).1.toNat % 4 = 2
        · rw [if_pos e2] at HFA
          have t2 : (((tk fk).1.toNat : Int) % 4 == 2) = true := by simp; omega
          clear e2
          generalize (tk fk).1 = f at *
          generalize (tk fk).2 = f2 at *
          go_wp2_with fail
          refine (KW.out W1 x.has (ST.out.rs.below BQ.out)).mono ?_
          rintro e w2 ⟨A2, c2, rfl, rs2, d2, b2⟩
          have NX := Lib.hid (ST.out.next (fs' := f2) (vf' := .slice A' f2.length c') (c2 := c2) BQ.out rs2 d2 b2 (HLT.out _) ⟨A', c', rfl, hc', by have := TL.out; have := HFL.out; omega, RB1.out⟩)
          have P2 := (ST.out.later BQ.out).later b2
          have s0 : w2.cell? ⟨w.heap.size, 0, none⟩ = some (.slice (some ⟨g, 0, none⟩) S.length c1) := (cell_of_row w2 _ 0 _ _ _ P2.b0).trans rfl
          have s1 : w2.cell? ⟨w.heap.size, 1, none⟩ = some (.bool off) := (cell_of_row w2 _ 1 _ _ _ P2.b0).trans rfl
          have s2 : w2.cell? ⟨w.heap.size, 2, none⟩ = some (.int .i64 calls) := (cell_of_row w2 _ 2 _ _ _ P2.b0).trans rfl
          have s3 : w2.cell? ⟨w.heap.size, 3, none⟩ = some (.int .i64 after) := (cell_of_row w2 _ 3 _ _ _ P2.b0).trans rfl
          have s4 : w2.cell? ⟨w.heap.size, 4, none⟩ = some (.bool done) := (cell_of_row w2 _ 4 _ _ _ P2.b0).trans rfl
          have sf : ∀ i, w2.frozen? ⟨w.heap.size, i, none⟩ = false := fun i => by simp [World.frozen?, P2.b0]
          have sf0 := sf 0; have sf1 := sf 1; have sf2 := sf 2; have sf3 := sf 3; have sf4 := sf 4
          clear P2 rs2 d2 b2 sf
          go_wp2
          go_roundw
          case rel =>
            refine ⟨k + 1, A2, c2, by omega, by go_num, ?_⟩
            rw [HPW.out, HFT.out, HFA.out, HW.out]
            exact NX.out
          case measure => simp [RowKit.intOf]; omega
        · rw [if_neg e2] at HFA
          have t2 : (((tk fk).1.toNat : Int) % 4 == 2) = false := by simp; omega
          have nbx : w.heap.size ≠ wr.heap.size := by omega
          by_cases e3 : (tk fk).1.toNat % 4 = 3
          · rw [if_pos e3] at HFA
            have t3 : (((tk fk).1.toNat : Int) % 4 == 3) = true := by simp; omega
            clear e2 e3
            have KT2 := Lib.hid (refTake2_any A' c' (tk fk).2 W1 hc' (Nat.le_trans TL.out HFL.out) (hrb' W1 (HB1.out.below (ST.out.below.trans (BQ.out.mono ST.out.below.size)))))
            generalize (tk fk).1 = f at *
            generalize (tk fk).2 = f2 at *
            have TL2 := Lib.hid (tk_len f2)
            go_wp2_with fail
            refine KT2.out.mono ?_
            rintro e w1 ⟨A4, c4, rfl, hc4, hrb4, nq2, rfl⟩
            have RB4 := Lib.hid (hrb4 w RB1.out)
            have hk0 : 0 ≤ ((tk f2).1.toNat : Int) := by omega
            have hk1 : ((tk f2).1.toNat : Int) ≤ 255 := by have := (tk f2).1.toNat_lt; omega
            generalize (tk f2).1 = kb at *
            generalize (tk f2).2 = f4 at *
            have hk2 : ((kb.toNat : Nat) : Int) ≤ ((str x.has).size : Int) := by rw [str_size, hlh]; omega
            have hk3 : ((kb.toNat : Nat) : Int) ≤ ((str x.safe).size : Int) := by rw [str_size, hls]; omega
            have BQ2 : Hid (Below wr.heap.size wr (W1.drewN (nq2 + 1))) := Lib.hid ⟨BQ.out.os, BQ.out.tape, BQ.out.output, BQ.out.size, BQ.out.block⟩
            have hcat : ¬ 9223372036854775807 < min kb.toNat (str x.has).size + ((str x.safe).size - kb.toNat) := by rw [str_size, str_size, hlh, hls]; omega
            have BR := Lib.hid (BQ2.out.setCell (p := ⟨wr.heap.size, 0, none⟩) (Nat.le_refl _) (.string (str (x.has.take kb.toNat ++ x.safe.drop kb.toNat))))
            have HST := Lib.hid (str_parts x.has x.safe kb.toNat)
            go_wp2
            go_region
            rw [HST.out]
            have v0 : (W1.drewN (nq2 + 1)).cell? ⟨w.heap.size, 0, none⟩ = some (.slice (some ⟨g, 0, none⟩) S.length c1) := p0
            have v1 : (W1.drewN (nq2 + 1)).cell? ⟨w.heap.size, 1, none⟩ = some (.bool off) := p1
            have v2 : (W1.drewN (nq2 + 1)).cell? ⟨w.heap.size, 2, none⟩ = some (.int .i64 calls) := p2
            have v3 : (W1.drewN (nq2 + 1)).cell? ⟨w.heap.size, 3, none⟩ = some (.int .i64 after) := p3
            have v4 : (W1.drewN (nq2 + 1)).cell? ⟨w.heap.size, 4, none⟩ = some (.bool done) := p4
            have u0 : (W1.drewN (nq2 + 1)).cell? ⟨wr.heap.size, 0, none⟩ = some (.string (str x.has)) := z0
            have u1 : (W1.drewN (nq2 + 1)).cell? ⟨wr.heap.size, 1, none⟩ = some (.string (str x.safe)) := z1
            have u2 : (W1.drewN (nq2 + 1)).cell? ⟨wr.heap.size, 2, none⟩ = some (.bool true) := z2
            generalize W1.drewN (nq2 + 1) = W3 at *
            clear p0 p1 p2 p3 p4 z0 z1 z2 hcat hk2 hk3
            go_wp2_with fail
            refine (KW.out _ (x.has.take kb.toNat ++ x.safe.drop kb.toNat) (ST.out.rs.below BR.out)).mono ?_
            rintro e w2 ⟨A2, c2, rfl, rs2, d2, b2⟩
            have NX := Lib.hid (ST.out.next (fs' := f4) (vf' := .slice A4 f4.length c4) (c2 := c2) BR.out rs2 d2 b2 (HLT.out _) ⟨A4, c4, rfl, hc4, by have := TL.out; have := TL2.out; have := HFL.out; omega, RB4.out⟩)
            have P2 := (ST.out.later BR.out).later b2
            have s0 : w2.cell? ⟨w.heap.size, 0, none⟩ = some (.slice (some ⟨g, 0, none⟩) S.length c1) := (cell_of_row w2 _ 0 _ _ _ P2.b0).trans rfl
            have s1 : w2.cell? ⟨w.heap.size, 1, none⟩ = some (.bool off) := (cell_of_row w2 _ 1 _ _ _ P2.b0).trans rfl
            have s2 : w2.cell? ⟨w.heap.size, 2, none⟩ = some (.int .i64 calls) := (cell_of_row w2 _ 2 _ _ _ P2.b0).trans rfl
            have s3 : w2.cell? ⟨w.heap.size, 3, none⟩ = some (.int .i64 after) := (cell_of_row w2 _ 3 _ _ _ P2.b0).trans rfl
            have s4 : w2.cell? ⟨w.heap.size, 4, none⟩ = some (.bool done) := (cell_of_row w2 _ 4 _ _ _ P2.b0).trans rfl
            have sf : ∀ i, w2.frozen? ⟨w.heap.size, i, none⟩ = false := fun i => by simp [World.frozen?, P2.b0]
            have sf0 := sf 0; have sf1 := sf 1; have sf2 := sf 2; have sf3 := sf 3; have sf4 := sf 4
            clear P2 rs2 d2 b2 sf
            go_wp2
            go_roundw
            case rel =>
              refine ⟨k + 1, A2, c2, by omega, by go_num, ?_⟩
              rw [HPW.out, HFT.out, HFA.out, HW.out]
              exact NX.out
            case measure => simp [RowKit.intOf]; omega
          · rw [if_neg e3] at HFA
            have t3 : (((tk fk).1.toNat : Int) % 4 == 3) = false := by simp; omega
            clear e2 e3
            generalize (tk fk).1 = f at *
            generalize (tk fk).2 = f2 at *
            have BR := Lib.hid (BQ.out.setCell (p := ⟨wr.heap.size, 0, none⟩) (Nat.le_refl _) (.string (str x.safe)))
            go_wp2_with fail
            refine (KW.out _ x.safe (ST.out.rs.below BR.out)).mono ?_
            rintro e w2 ⟨A2, c2, rfl, rs2, d2, b2⟩
            have NX := Lib.hid (ST.out.next (fs' := f2) (vf' := .slice A' f2.length c') (c2 := c2) BR.out rs2 d2 b2 (HLT.out _) ⟨A', c', rfl, hc', by have := TL.out; have := HFL.out; omega, RB1.out⟩)
            have P2 := (ST.out.later BR.out).later b2
            have s0 : w2.cell? ⟨w.heap.size, 0, none⟩ = some (.slice (some ⟨g, 0, none⟩) S.length c1) := (cell_of_row w2 _ 0 _ _ _ P2.b0).trans rfl
            have s1 : w2.cell? ⟨w.heap.size, 1, none⟩ = some (.bool off) := (cell_of_row w2 _ 1 _ _ _ P2.b0).trans rfl
            have s2 : w2.cell? ⟨w.heap.size, 2, none⟩ = some (.int .i64 calls) := (cell_of_row w2 _ 2 _ _ _ P2.b0).trans rfl
            have s3 : w2.cell? ⟨w.heap.size, 3, none⟩ = some (.int .i64 after) := (cell_of_row w2 _ 3 _ _ _ P2.b0).trans rfl
            have s4 : w2.cell? ⟨w.heap.size, 4, none⟩ = some (.bool done) := (cell_of_row w2 _ 4 _ _ _ P2.b0).trans rfl
            have sf : ∀ i, w2.frozen? ⟨w.heap.size, i, none⟩ = false := fun i => by simp [World.frozen?, P2.b0]
            have sf0 := sf 0; have sf1 := sf 1; have sf2 := sf 2; have sf3 := sf 3; have sf4 := sf 4
            clear P2 rs2 d2 b2 sf
            go_wp2
            go_roundw
            case rel =>
              refine ⟨k + 1, A2, c2, by omega, by go_num, ?_⟩
              rw [HPW.out, HFT.out, HFA.out, HW.out]
              exact NX.out
            case measure => simp [RowKit.intOf]; omega
    · obtain rfl : k = S.length := by omega
      have HP := Lib.hid (show Rk.power ⟨S, off, calls, after, done⟩ fs = ⟨(pwTo S fs S.length).1.map Sx.safed, false, calls, -1, false⟩ from rfl)
      have HLT := Lib.hid st.len
      generalize (pwTo S fs S.length).1 = T at *
      generalize (pwTo S fs S.length).2 = fk at *
      have nb5 : w.heap.size ≠ w.heap.size + 1 := by omega
      have qf : ∀ i, wr.frozen? ⟨w.heap.size, i, none⟩ = false := fun i => by simp [World.frozen?, st.b0]
      have qf1 := qf 1; have qf3 := qf 3; have qf4 := qf 4
      have B5 := Lib.hid (((st.below.setCell (p := ⟨w.heap.size, 1, none⟩) (Nat.le_refl _) (.bool false)).setCell (p := ⟨w.heap.size, 3, none⟩) (Nat.le_refl _) (.int .i64 (-1))).setCell (p := ⟨w.heap.size, 4, none⟩) (Nat.le_refl _) (.bool false))
      have R5 : Hid (RS (((wr.setCell ⟨w.heap.size, 1, none⟩ (.bool false)).setCell ⟨w.heap.size, 3, none⟩ (.int .i64 (-1))).setCell ⟨w.heap.size, 4, none⟩ (.bool false)) A1 T) := Lib.hid (by
        rcases st.rs with e | ⟨g, rfl, hc⟩
        · exact .inl e
        · by_cases hT : T = []
          · exact .inl hT
          · have hg := (st.out hT ⟨g, 0, none⟩ rfl).1
            simp only at hg
            refine .inr ⟨g, rfl, fun j u hj => ?_⟩
            have one : ∀ (W : World) (i : Nat) (v : Value), (W.setCell ⟨w.heap.size, i, none⟩ v).cell? ⟨g, j, none⟩ = W.cell? ⟨g, j, none⟩ := fun W i v => World.cell?_of_block (w := W) (Below.heap_setCell _ _ _ _ hg)
            rw [one, one, one]
            exact hc j u hj)
      have X5 := Lib.hid (show (((wr.setCell ⟨w.heap.size, 1, none⟩ (.bool false)).setCell ⟨w.heap.size, 3, none⟩ (.int .i64 (-1))).setCell ⟨w.heap.size, 4, none⟩ (.bool false)).heap[w.heap.size + 1]? = some (.cells #[.slice none 0 0, .bool false, .int .i64 0, .int .i64 0, .bool false] 39 (0, 0)) from by
        have one : ∀ (W : World) (i : Nat) (v : Value), (W.setCell ⟨w.heap.size, i, none⟩ v).heap[w.heap.size + 1]? = W.heap[w.heap.size + 1]? := fun W i v => Below.heap_setCell _ _ _ _ (by simp only; omega)
        rw [one, one, one]
        exact st.b1)
      have KS : Hid (∀ W, RS W A1 T → Calls Tryz.prog 94 #[.agg #[.slice A1 S.length c1, .bool false, .int .i64 calls, .int .i64 (-1), .bool false]] W fun e w' => ∃ A' c', e = .returned (.agg #[.slice A' S.length c', .bool false, .int .i64 calls, .int .i64 (-1), .bool false]) ∧ RS w' A' (T.map Sx.safed) ∧ (∀ ad, A' = some ad → W.heap.size ≤ ad.block) ∧ Below W.heap.size W w') := Lib.hid fun W h => by
        have kk := refSafe_any A1 c1 ⟨T, false, calls, -1, false⟩ W (by show T.length ≤ 4096; rw [HLT.out]; exact hs) h
        unfold rkV at kk
        rw [List.length_map, HLT.out] at kk
        exact kk
      clear st qf
      go_wp2_with fail
      generalize ((wr.setCell ⟨w.heap.size, 1, none⟩ (.bool false)).setCell ⟨w.heap.size, 3, none⟩ (.int .i64 (-1))).setCell ⟨w.heap.size, 4, none⟩ (.bool false) = W5 at *
      refine (KS.out _ R5.out).mono ?_
      rintro e w6 ⟨A6, c6, rfl, r6, d6, b6⟩
      have X6 := (b6.block _ (Array.getElem?_eq_some_iff.1 X5.out).1).trans X5.out
      have hsz5 : w.heap.size + 1 < W5.heap.size := (Array.getElem?_eq_some_iff.1 X5.out).1
      have B6 := Lib.hid (B5.out.trans (b6.mono B5.out.size))
      have r0 : w6.cell? ⟨w.heap.size + 1, 0, none⟩ = some (.slice none 0 0) := (cell_of_row w6 _ 0 _ _ _ X6).trans rfl
      have r1 : w6.cell? ⟨w.heap.size + 1, 1, none⟩ = some (.bool false) := (cell_of_row w6 _ 1 _ _ _ X6).trans rfl
      have r2 : w6.cell? ⟨w.heap.size + 1, 2, none⟩ = some (.int .i64 0) := (cell_of_row w6 _ 2 _ _ _ X6).trans rfl
      have r3 : w6.cell? ⟨w.heap.size + 1, 3, none⟩ = some (.int .i64 0) := (cell_of_row w6 _ 3 _ _ _ X6).trans rfl
      have r4 : w6.cell? ⟨w.heap.size + 1, 4, none⟩ = some (.bool false) := (cell_of_row w6 _ 4 _ _ _ X6).trans rfl
      have rf : ∀ i, w6.frozen? ⟨w.heap.size + 1, i, none⟩ = false := fun i => by simp [World.frozen?, X6]
      have rf0 := rf 0; have rf1 := rf 1; have rf2 := rf 2; have rf3 := rf 3; have rf4 := rf 4
      have D6 := Lib.hid d6
      have R6 := Lib.hid r6
      clear rf r6 d6 b6 X6
      go_wp2
      refine bodyPost_ret (v := .agg #[.slice A6 S.length c6, .bool false, .int .i64 calls, .int .i64 (-1), .bool false]) (by simp [results, Tryz.results42, go_sem, r0, r1, r2, r3, r4]) rfl ⟨_, rfl, ?_, ?_⟩
      · rw [HP.out]
        refine ⟨A6, c6, by unfold rkV; rw [List.length_map, HLT.out], ?_⟩
        rcases R6.out with e | ⟨g, rfl, hc⟩
        · exact .inl e
        · have hg := D6.out ⟨g, 0, none⟩ rfl
          simp only at hg
          exact .inr ⟨g, rfl, fun j u hj => (cell_set5 w6 (w.heap.size + 1) ⟨g, j, none⟩ (by simp only; omega) _ _ _ _ _).trans (hc j u hj)⟩
      · exact below_set5 B6.out (by omega) _ _ _ _ _
end Go.Proofs.YtegjeijiekggdaaGreatDoor
end
