/- The walk of the law SectorForks. -/
import Derived.Test.YtgnoodafaofkiaaKSectorPlays
import Derived.Test.YtgnoodafaofkiaaRfN
namespace Go.Proofs.Ytgnoodafaofkiaa.sectorForks
open Go.RowKit Go.Proofs.Ytgnoodafaofkiaa.sectorPlays
set_option linter.unusedVariables false
theorem St.later {w : World} {F : Ft} {b : Nat} {s : Dk} {r : Rk} {A : Option Addr} {c k : Nat} {W W' : World} (h : St w F b s r A c k W) (hb : Below W.heap.size W W') : St w F b s r A c k W' :=
  ⟨h.dk.below hb, h.rs.below hb, h.tw, h.calls, (hb.block _ (Array.getElem?_eq_some_iff.1 h.bx).1).trans h.bx, h.below.trans (hb.mono h.below.size)⟩
theorem St.cells {w : World} {F : Ft} {b : Nat} {s : Dk} {r : Rk} {A : Option Addr} {c k : Nat} {W : World} (h : St w F b s r A c k W) : W.cell? ⟨b, 0, none⟩ = some (.slice A r.S.length c) ∧ W.cell? ⟨b, 1, none⟩ = some (.bool r.off) ∧ W.cell? ⟨b, 2, none⟩ = some (.int .i64 r.calls) ∧ W.cell? ⟨b, 3, none⟩ = some (.int .i64 r.after) ∧ W.cell? ⟨b, 4, none⟩ = some (.bool r.done) :=
  ⟨(cell_of_row W _ 0 _ _ _ h.bx).trans rfl, (cell_of_row W _ 1 _ _ _ h.bx).trans rfl, (cell_of_row W _ 2 _ _ _ h.bx).trans rfl, (cell_of_row W _ 3 _ _ _ h.bx).trans rfl, (cell_of_row W _ 4 _ _ _ h.bx).trans rfl⟩
theorem St.atW {w : World} {F : Ft} {b : Nat} {s : Dk} {r : Rk} {A : Option Addr} {c k : Nat} {W W' : World} (h : St w F b s r A c k W) (hW : W'.heap[b]? = W.heap[b]?) : W'.heap[b]? = some (.cells #[.slice A r.S.length c, .bool r.off, .int .i64 r.calls, .int .i64 r.after, .bool r.done] 28 (0, 0)) := hW.trans h.bx
theorem bcells {b : Nat} {r : Rk} {A : Option Addr} {c : Nat} {W : World} (h : W.heap[b]? = some (.cells #[.slice A r.S.length c, .bool r.off, .int .i64 r.calls, .int .i64 r.after, .bool r.done] 28 (0, 0))) : W.cell? ⟨b, 0, none⟩ = some (.slice A r.S.length c) ∧ W.cell? ⟨b, 1, none⟩ = some (.bool r.off) ∧ W.cell? ⟨b, 2, none⟩ = some (.int .i64 r.calls) ∧ W.cell? ⟨b, 3, none⟩ = some (.int .i64 r.after) ∧ W.cell? ⟨b, 4, none⟩ = some (.bool r.done) :=
  ⟨(cell_of_row W _ 0 _ _ _ h).trans rfl, (cell_of_row W _ 1 _ _ _ h).trans rfl, (cell_of_row W _ 2 _ _ _ h).trans rfl, (cell_of_row W _ 3 _ _ _ h).trans rfl, (cell_of_row W _ 4 _ _ _ h).trans rfl⟩
theorem St.frozen {w : World} {F : Ft} {b : Nat} {s : Dk} {r : Rk} {A : Option Addr} {c k : Nat} {W : World} (h : St w F b s r A c k W) (i : Nat) : W.frozen? ⟨b, i, none⟩ = false := by simp [World.frozen?, h.bx]
/-- What Do leaves of the disk and of the variable that has the document's. -/
theorem St.done {w : World} {F : Ft} {b : Nat} {s s5 : Dk} {r r5 : Rk} {A A5 : Option Addr} {c c5 k : Nat} {W w5 : World} (h : St w F b s r A c k W) (d5 : DkAt w.heap.size F w5 s5) (rs5 : RS w5 A5 r5.S) (t5 : Twin s5 r5) (q5 : s5.calls ≤ s.calls + 1) (f5 : Frm F.has W w5) (nF : ¬ F.has b) (hb : w.heap.size ≤ b) : St w F b s5 r5 A5 c5 (k + 1) (set5 w5 b (.slice A5 r5.S.length c5) (.bool r5.off) (.int .i64 r5.calls) (.int .i64 r5.after) (.bool r5.done)) :=
  fin1 d5 rs5 t5 (by have := h.calls; omega) ((f5.block b (Array.getElem?_eq_some_iff.1 h.bx).1 nF).trans h.bx) (fun t e => by cases e) nF hb (h.below.trans (f5.below h.dk.based h.below.size))
theorem DkAt.base_le {B B' : Nat} {F : Ft} {w : World} {s : Dk} (h : DkAt B F w s) (hb : B' ≤ B) : DkAt B' F w s := by
  refine ⟨h.ok, Nat.le_trans hb h.bb, Nat.le_trans hb h.bm, h.cells, ⟨h.row.1, ?_⟩, h.map⟩
  rcases h.row.2 with e | ⟨g, cap, cur, e, hg, r⟩
  · exact .inl e
  · exact .inr ⟨g, cap, cur, e, Nat.le_trans hb hg, r⟩
def Rel1 (w : World) (F : Ft) (b m : Nat) (i : Value) (wr : World) : Prop :=
  ∃ (k : Nat) (s : Dk) (r : Rk) (A : Option Addr) (c : Nat), k ≤ 40 ∧ k ≤ m ∧ i = .int .i64 (k : Int) ∧ St w F b s r A c k wr
def Rel2 (W8 : World) (F : Ft) (b m : Nat) (i : Value) (wr : World) : Prop :=
  ∃ (k : Nat) (s : Dk) (r : Rk) (A : Option Addr) (c : Nat), k ≤ 40 ∧ k ≤ m ∧ i = .int .i64 (k : Int) ∧ St W8 F b s r A c (40 + k) wr
set_option maxHeartbeats 2000000 in
set_option maxRecDepth 100000 in
theorem core (A : Option Addr) (n c : Nat) (l : List Ac) (A' : Option Addr) (n' c' : Nat) (l' : List Ac) (w : World) (hl : l.length = n) (hnm : n ≤ maxLen) (ha : ActsAt w A l) (hl' : l'.length = n') (hnm' : n' ≤ maxLen) (ha' : ActsAt w A' l') :
    Calls Try.prog 4 #[.slice A n c, .slice A' n' c'] w fun e w' => e = .returned (.bool true) ∧ Below w.heap.size w w' := by
  have HL := Lib.hid hl
  have HA := Lib.hid ha
  have HL' := Lib.hid hl'
  have HA' := Lib.hid ha'
  have HM : n ≤ 9223372036854775807 := by simp only [maxLen] at hnm; omega
  have HM' : n' ≤ 9223372036854775807 := by simp only [maxLen] at hnm'; omega
  clear hl ha hnm hl' ha' hnm'
  by_cases hn : 40 < n
  · have hn1 : (40 : Int) < (n : Int) := by omega
    go_enter Try.func4, Try.ntmps4
    go_wp2_with (first
      | (go_at_call 8; refine (awake_any _).mono ?_; rintro e w1 ⟨rfl, b1⟩; have B1 := Lib.hid b1; clear b1)
      | fail)
    go_ret
    exact ⟨rfl, B1.out⟩
  · have hn1 : decide ((40 : Int) < (n : Int)) = false := by simp; omega
    have hn40 : n ≤ 40 := by omega
    clear hn
    by_cases hn' : 40 < n'
    · have hn2 : (40 : Int) < (n' : Int) := by omega
      go_enter Try.func4, Try.ntmps4
      go_wp2_with (first
        | (go_at_call 8; refine (awake_any _).mono ?_; rintro e w1 ⟨rfl, b1⟩; have B1 := Lib.hid b1; clear b1)
        | fail)
      go_ret
      exact ⟨rfl, B1.out⟩
    · have hn2 : decide ((40 : Int) < (n' : Int)) = false := by simp; omega
      have hn40' : n' ≤ 40 := by omega
      clear hn'
      go_enter Try.func4, Try.ntmps4
      go_upto_region 4 with (first
        | (go_at_call 9; refine (new_any 9 _).mono ?_; rintro e w1 ⟨F, rfl, h0, b0⟩; have H0 := Lib.hid h0; have B0 := Lib.hid b0; clear h0 b0)
        | (go_at_call 10; refine (refNew_any 9 _).mono ?_; rintro e w2 ⟨A2, c2, rfl, r2, b2⟩; have R2 := Lib.hid r2; have B2 := Lib.hid b2; clear r2 b2; unfold rkV)
        | fail)
      have nFb : Hid (¬ F.has w2.heap.size) := Lib.hid (fun hx => by have := (H0.out.below B2.out).inside _ hx; omega)
      have gb : w.heap.size ≤ w2.heap.size := Nat.le_trans B0.out.size B2.out.size
      have ST : Hid (Rel1 w F w2.heap.size n (.int .i64 ((0 : Nat) : Int)) (w2.alloc (.cells #[.slice A2 (Rk.new 9).S.length c2, .bool (Rk.new 9).off, .int .i64 (Rk.new 9).calls, .int .i64 (Rk.new 9).after, .bool (Rk.new 9).done] 28))) := Lib.hid ⟨0, _, _, A2, c2, by omega, by omega, rfl, (H0.out.below B2.out).alloc _, R2.out.below ((Below.refl _ _).alloc (Nat.le_refl _) _), twin_new 9 (by omega), Nat.le_refl _, heap_alloc_last w2 _, (B0.out.trans (B2.out.mono B0.out.size)).alloc gb _⟩
      generalize w2.heap.size = b at *
      generalize w2.alloc (.cells #[.slice A2 (Rk.new 9).S.length c2, .bool (Rk.new 9).off, .int .i64 (Rk.new 9).calls, .int .i64 (Rk.new 9).after, .bool (Rk.new 9).done] 28) = W3 at *
      clear H0 R2 B2 B0
      generalize (.agg #[.slice A2 (Rk.new 9).S.length c2, .bool (Rk.new 9).off, .int .i64 (Rk.new 9).calls, .int .i64 (Rk.new 9).after, .bool (Rk.new 9).done] : Value) = vv at *
      go_wp2
      go_loopw [7] (fun i wr => Rel1 w F b n i wr) (fun i _ => n - (RowKit.intOf i).toNat)
      case atStart => exact ST.out
      case round =>
        obtain ⟨k, s, r, A1, c1, hk, hkn, rfl, st⟩ := hrel
        have SQ := Lib.hid st
        by_cases hlt : k < n
        · have hk' : (k : Int) < (n : Int) := by omega
          obtain ⟨ad, a, rfl, hka, hat0⟩ := HA.out.at_ (i := k) (by rw [HL.out]; exact hlt)
          have hat := hat0.below st.below
          have nF := Lib.hid (show ∀ g, g < w.heap.size → ¬ F.has g from fun g hg hx => by have := st.dk.based g hx; omega)
          have KDO := Lib.hid (do_any st.dk.drew A1 c1 r st.rs.drew st.tw (by have := st.calls; omega) a hat.rb.drew hat.room hat.most hat.lo hat.hi (fun hf ad e => nF.out _ (hat0.flt hf ad e)))
          unfold rkV acV at KDO
          have v0 : wr.drew.cell? ⟨b, 0, none⟩ = some (.slice A1 r.S.length c1) := (St.cells st).1
          have v1 : wr.drew.cell? ⟨b, 1, none⟩ = some (.bool r.off) := (St.cells st).2.1
          have v2 : wr.drew.cell? ⟨b, 2, none⟩ = some (.int .i64 r.calls) := (St.cells st).2.2.1
          have v3 : wr.drew.cell? ⟨b, 3, none⟩ = some (.int .i64 r.after) := (St.cells st).2.2.2.1
          have v4 : wr.drew.cell? ⟨b, 4, none⟩ = some (.bool r.done) := (St.cells st).2.2.2.2
          have x0 : wr.drew.cell? (ad.add (k * 6)) = some (.int .u8 (a.kind.toNat : Int)) := hat.d0
          have x1 : wr.drew.cell? ⟨(ad.add (k * 6)).block, (ad.add (k * 6)).off + 1, none⟩ = some (.int .i64 a.n) := hat.d1
          have x2 : wr.drew.cell? ⟨(ad.add (k * 6)).block, (ad.add (k * 6)).off + 2, none⟩ = some (.int .u8 (a.c.toNat : Int)) := hat.d2
          have x3 : wr.drew.cell? ⟨(ad.add (k * 6)).block, (ad.add (k * 6)).off + 3, none⟩ = some (.int .u8 (a.cut.toNat : Int)) := hat.d3
          have x4 : wr.drew.cell? ⟨(ad.add (k * 6)).block, (ad.add (k * 6)).off + 4, none⟩ = some (.bool a.done) := hat.d4
          have x5 : wr.drew.cell? ⟨(ad.add (k * 6)).block, (ad.add (k * 6)).off + 5, none⟩ = some (.slice a.fA a.fates.length a.fc) := hat.d5
          clear st hat hat0 hka
          go_wp2
          go_region_with (first
            | (go_at_call 11; refine KDO.out.mono ?_; rintro e w5 ⟨s5, r5, A5, cp5, rfl, d5, rs5, t5, q5, l5, f5⟩; have FIN := Lib.hid (St.done (c5 := cp5) SQ.out d5 rs5 t5 q5 (show Frm F.has wr w5 from ⟨f5.os, f5.tape, f5.output, f5.size, f5.block⟩) nFb.out gb); have ST5 := (f5.block b (Array.getElem?_eq_some_iff.1 SQ.out.bx).1 nFb.out).trans SQ.out.bx; have u0 : w5.cell? ⟨b, 0, none⟩ = some (.slice A1 r.S.length c1) := (cell_of_row w5 _ 0 _ _ _ ST5).trans rfl; have u1 : w5.cell? ⟨b, 1, none⟩ = some (.bool r.off) := (cell_of_row w5 _ 1 _ _ _ ST5).trans rfl; have u2 : w5.cell? ⟨b, 2, none⟩ = some (.int .i64 r.calls) := (cell_of_row w5 _ 2 _ _ _ ST5).trans rfl; have u3 : w5.cell? ⟨b, 3, none⟩ = some (.int .i64 r.after) := (cell_of_row w5 _ 3 _ _ _ ST5).trans rfl; have u4 : w5.cell? ⟨b, 4, none⟩ = some (.bool r.done) := (cell_of_row w5 _ 4 _ _ _ ST5).trans rfl; have fz : ∀ i, w5.frozen? ⟨b, i, none⟩ = false := (fun i => by simp [World.frozen?, ST5]); have fz0 := fz 0; have fz1 := fz 1; have fz2 := fz 2; have fz3 := fz 3; have fz4 := fz 4; clear fz d5 rs5 f5 ST5; unfold rkV)
            | fail)
          all_goals
            go_wp2
            go_roundw
            case rel => exact ⟨k + 1, s5, r5, A5, cp5, by omega, by omega, by go_num, FIN.out⟩
            case measure => simp [RowKit.intOf]; omega
        · obtain rfl : k = n := by omega
          have HN8 := Lib.hid (St.cells st)
          have c0 : wr.drew.cell? ⟨b, 0, none⟩ = some (.slice A1 r.S.length c1) ∧ wr.drew.cell? ⟨b, 1, none⟩ = some (.bool r.off) ∧ wr.drew.cell? ⟨b, 2, none⟩ = some (.int .i64 r.calls) ∧ wr.drew.cell? ⟨b, 3, none⟩ = some (.int .i64 r.after) ∧ wr.drew.cell? ⟨b, 4, none⟩ = some (.bool r.done) := bcells (W := wr.drew) st.bx
          have bl : b < wr.heap.size := (Array.getElem?_eq_some_iff.1 st.bx).1
          have cc := (fun (W : World) (hW : W.heap[b]? = wr.heap[b]?) => (show W.cell? ⟨b, 0, none⟩ = some (.slice A1 r.S.length c1) ∧ W.cell? ⟨b, 1, none⟩ = some (.bool r.off) ∧ W.cell? ⟨b, 2, none⟩ = some (.int .i64 r.calls) ∧ W.cell? ⟨b, 3, none⟩ = some (.int .i64 r.after) ∧ W.cell? ⟨b, 4, none⟩ = some (.bool r.done) from bcells (St.atW st hW)))
          have CC := Lib.hid cc
          have CA := Lib.hid (fun o => cc (wr.alloc o).drew (Below.heap_alloc wr o _ bl))
          have BD : Hid (Below wr.heap.size wr wr.drew) := Lib.hid ((Below.refl _ wr).drew)
          have BA := Lib.hid (fun o => ((Below.refl _ wr).alloc (Nat.le_refl _) o).drew)
          have DF := Lib.hid (fun W (hb : Below wr.heap.size wr W) => fork_any (st.dk.below hb))
          have KOK := Lib.hid st.tw
          clear st cc
          go_wp2
          go_region_held3 (fun W => W.cell? ⟨b, 0, none⟩ = some (.slice A1 r.S.length c1) ∧ W.cell? ⟨b, 1, none⟩ = some (.bool r.off) ∧ W.cell? ⟨b, 2, none⟩ = some (.int .i64 r.calls) ∧ W.cell? ⟨b, 3, none⟩ = some (.int .i64 r.after) ∧ W.cell? ⟨b, 4, none⟩ = some (.bool r.done)) (first | with_reducible assumption | with_reducible exact c0 | with_reducible exact CA.out _ | with_reducible exact c5 | with_reducible exact C5.out _ | with_reducible exact K5.out _ _ _ _ _ | with_reducible exact K6.out _ _ _ _ _ _ | fail)
            (first
              | (go_at_call 14; refine (DF.out _ BD.out).mono ?_; rintro e w5 ⟨F5, rfl, d5, b5⟩; have hb5 := b5.block b bl; have bl5 : b < w5.heap.size := Nat.lt_of_lt_of_le bl b5.size; have c5 := CC.out w5 hb5; have C5 := Lib.hid (fun o => CC.out (w5.alloc o) ((Below.heap_alloc w5 o _ bl5).trans hb5)); have B5 := Lib.hid b5; have D5 := Lib.hid d5; have K6 := Lib.hid (fun o a0 a1 a2 a3 a4 => CC.out ((((((w5.alloc o).setCell ⟨w5.heap.size, 0, none⟩ a0).setCell ⟨w5.heap.size, 1, none⟩ a1).setCell ⟨w5.heap.size, 2, none⟩ a2).setCell ⟨w5.heap.size, 3, none⟩ a3).setCell ⟨w5.heap.size, 4, none⟩ a4) ((heap_set5_other (w5.alloc o) w5.heap.size b (by omega) a0 a1 a2 a3 a4).trans ((Below.heap_alloc w5 o _ bl5).trans hb5))); have nq1 : b ≠ w5.heap.size := (by omega); have nq2 : w5.heap.size ≠ b := (by omega); have one : Hid (w5 = w5) := Lib.hid rfl; clear hb5 d5 b5)
              | (go_at_call 14; refine (DF.out _ (BA.out (.cells #[.slice none 0 0, .bool false, .int .i64 0, .int .i64 0, .bool false] 28))).mono ?_; rintro e w5 ⟨F5, rfl, d5, b5⟩; have hsA : (wr.alloc (.cells #[.slice none 0 0, .bool false, .int .i64 0, .int .i64 0, .bool false] 28)).drew.heap.size = wr.heap.size + 1 := heap_size_alloc wr _; have hb5 := (b5.block b (by omega)).trans (Below.heap_alloc wr _ _ bl); have c5 := CC.out w5 hb5; have B5 := Lib.hid b5; have D5 := Lib.hid d5; have hz5 := (b5.block wr.heap.size (by omega)).trans (heap_alloc_last wr _); have K5 := Lib.hid (fun a0 a1 a2 a3 a4 => CC.out (((((w5.setCell ⟨wr.heap.size, 0, none⟩ a0).setCell ⟨wr.heap.size, 1, none⟩ a1).setCell ⟨wr.heap.size, 2, none⟩ a2).setCell ⟨wr.heap.size, 3, none⟩ a3).setCell ⟨wr.heap.size, 4, none⟩ a4) ((heap_set5_other w5 wr.heap.size b (by omega) a0 a1 a2 a3 a4).trans hb5)); have gz : ∀ i, w5.frozen? ⟨wr.heap.size, i, none⟩ = false := (fun i => by simp [World.frozen?, hz5]); have gz0 := gz 0; have gz1 := gz 1; have gz2 := gz 2; have gz3 := gz 3; have gz4 := gz 4; have y0 : w5.cell? ⟨wr.heap.size, 0, none⟩ = some (.slice none 0 0) := (cell_of_row w5 _ 0 _ _ _ hz5).trans rfl; have y1 : w5.cell? ⟨wr.heap.size, 1, none⟩ = some (.bool false) := (cell_of_row w5 _ 1 _ _ _ hz5).trans rfl; have y2 : w5.cell? ⟨wr.heap.size, 2, none⟩ = some (.int .i64 0) := (cell_of_row w5 _ 2 _ _ _ hz5).trans rfl; have y3 : w5.cell? ⟨wr.heap.size, 3, none⟩ = some (.int .i64 0) := (cell_of_row w5 _ 3 _ _ _ hz5).trans rfl; have y4 : w5.cell? ⟨wr.heap.size, 4, none⟩ = some (.bool false) := (cell_of_row w5 _ 4 _ _ _ hz5).trans rfl; have HZ5 := Lib.hid hz5; have nq1 : b ≠ wr.heap.size := (by omega); have nq2 : wr.heap.size ≠ b := (by omega); have two : Hid (w5 = w5) := Lib.hid rfl; clear hb5 d5 b5 gz hz5)
              | fail)
          · have GQ : Hid (wr.heap.size ≤ w5.heap.size) := Lib.hid B5.out.size
            have NQ : Hid (¬ F5.has w5.heap.size) := Lib.hid (fun hx => by have := D5.out.inside _ hx; omega)
            have SF : Hid (St wr F5 w5.heap.size s r A1 c1 (40 + 0) (w5.alloc (.cells #[.slice A1 r.S.length c1, .bool r.off, .int .i64 r.calls, .int .i64 r.after, .bool r.done] 28))) := Lib.hid ⟨D5.out.alloc _, (SQ.out.rs.below (show Below wr.heap.size wr w5 from BD.out.trans B5.out)).below ((Below.refl _ _).alloc (Nat.le_refl _) _), SQ.out.tw, by have := SQ.out.calls; omega, heap_alloc_last w5 _, (BD.out.trans B5.out).alloc B5.out.size _⟩
            generalize hq : w5.heap.size = q at *
            generalize w5.alloc (.cells #[.slice A1 r.S.length c1, .bool r.off, .int .i64 r.calls, .int .i64 r.after, .bool r.done] 28) = V at *
            clear hq C5 K6
            have gq : wr.heap.size ≤ q := GQ.out
            have nFw := Lib.hid (show ∀ g, g < w.heap.size → ¬ F5.has g from fun g hg hx => by have := SF.out.dk.based g hx; have := SQ.out.below.size; omega)
            clear HN8 CC CA BA BD DF KOK c0 c5
            obtain ⟨V8, hV8⟩ : ∃ V8 : World, V8 = wr := ⟨_, rfl⟩
            subst hV8
            go_wp2
            go_loopw [10, 11] (fun _ i wr2 => Rel2 V8 F5 q n' i wr2) (fun _ i _ => n' - (RowKit.intOf i).toNat)
            case atStart => exact ⟨0, s, r, A1, c1, by omega, by omega, rfl, SF.out⟩
            case round =>
              obtain ⟨k2, s2, r2, A2, c2, hk2, hkn2, rfl, st⟩ := hrel
              have S2 := Lib.hid st
              by_cases hlt2 : k2 < n'
              · have hk2' : (k2 : Int) < (n' : Int) := by omega
                obtain ⟨ad, a, rfl, hka, hat00⟩ := HA'.out.at_ (i := k2) (by rw [HL'.out]; exact hlt2)
                have hat0 := hat00.below SQ.out.below
                have hat := hat0.below st.below
                have KDO := Lib.hid (do_any st.dk.drew A2 c2 r2 st.rs.drew st.tw (by have := st.calls; omega) a hat.rb.drew hat.room hat.most hat.lo hat.hi (fun hf ad e => nFw.out _ (hat00.flt hf ad e)))
                unfold rkV acV at KDO
                have v0 : wr.drew.cell? ⟨q, 0, none⟩ = some (.slice A2 r2.S.length c2) := (St.cells st).1
                have v1 : wr.drew.cell? ⟨q, 1, none⟩ = some (.bool r2.off) := (St.cells st).2.1
                have v2 : wr.drew.cell? ⟨q, 2, none⟩ = some (.int .i64 r2.calls) := (St.cells st).2.2.1
                have v3 : wr.drew.cell? ⟨q, 3, none⟩ = some (.int .i64 r2.after) := (St.cells st).2.2.2.1
                have v4 : wr.drew.cell? ⟨q, 4, none⟩ = some (.bool r2.done) := (St.cells st).2.2.2.2
                have x0 : wr.drew.cell? (ad.add (k2 * 6)) = some (.int .u8 (a.kind.toNat : Int)) := hat.d0
                have x1 : wr.drew.cell? ⟨(ad.add (k2 * 6)).block, (ad.add (k2 * 6)).off + 1, none⟩ = some (.int .i64 a.n) := hat.d1
                have x2 : wr.drew.cell? ⟨(ad.add (k2 * 6)).block, (ad.add (k2 * 6)).off + 2, none⟩ = some (.int .u8 (a.c.toNat : Int)) := hat.d2
                have x3 : wr.drew.cell? ⟨(ad.add (k2 * 6)).block, (ad.add (k2 * 6)).off + 3, none⟩ = some (.int .u8 (a.cut.toNat : Int)) := hat.d3
                have x4 : wr.drew.cell? ⟨(ad.add (k2 * 6)).block, (ad.add (k2 * 6)).off + 4, none⟩ = some (.bool a.done) := hat.d4
                have x5 : wr.drew.cell? ⟨(ad.add (k2 * 6)).block, (ad.add (k2 * 6)).off + 5, none⟩ = some (.slice a.fA a.fates.length a.fc) := hat.d5
                clear st hat hat0 hat00 hka
                go_wp2
                go_region_with (first
                  | (go_at_call 11; refine KDO.out.mono ?_; rintro e w6 ⟨s5, r5, A5, cp5, rfl, d5, rs5, t5, q5, l5, f5⟩; have FIN := Lib.hid (St.done (c5 := cp5) S2.out d5 rs5 t5 q5 (show Frm F5.has wr w6 from ⟨f5.os, f5.tape, f5.output, f5.size, f5.block⟩) NQ.out gq); have ST5 := (f5.block q (Array.getElem?_eq_some_iff.1 S2.out.bx).1 NQ.out).trans S2.out.bx; have u0 : w6.cell? ⟨q, 0, none⟩ = some (.slice A2 r2.S.length c2) := (cell_of_row w6 _ 0 _ _ _ ST5).trans rfl; have u1 : w6.cell? ⟨q, 1, none⟩ = some (.bool r2.off) := (cell_of_row w6 _ 1 _ _ _ ST5).trans rfl; have u2 : w6.cell? ⟨q, 2, none⟩ = some (.int .i64 r2.calls) := (cell_of_row w6 _ 2 _ _ _ ST5).trans rfl; have u3 : w6.cell? ⟨q, 3, none⟩ = some (.int .i64 r2.after) := (cell_of_row w6 _ 3 _ _ _ ST5).trans rfl; have u4 : w6.cell? ⟨q, 4, none⟩ = some (.bool r2.done) := (cell_of_row w6 _ 4 _ _ _ ST5).trans rfl; have fz : ∀ i, w6.frozen? ⟨q, i, none⟩ = false := (fun i => by simp [World.frozen?, ST5]); have fz0 := fz 0; have fz1 := fz 1; have fz2 := fz 2; have fz3 := fz 3; have fz4 := fz 4; clear fz d5 rs5 f5 ST5; unfold rkV)
                  | fail)
                all_goals
                  go_wp2
                  go_roundw
                  case rel => exact ⟨k2 + 1, s5, r5, A5, cp5, by omega, by omega, by go_num, FIN.out⟩
                  case measure => simp [RowKit.intOf]; omega
              · obtain rfl : k2 = n' := by omega
                clear st
                have BB := Lib.hid (Below.refl wr.heap.size wr)
                have KX := Lib.hid (fun W (hb : Below wr.heap.size wr W) => same_any (St.later S2.out hb).dk A2 c2 r2 (St.later S2.out hb).rs S2.out.tw)
                have KY := Lib.hid (fun W (hb : Below wr.heap.size wr W) => same_any (St.later (St.later SQ.out S2.out.below) hb).dk A1 c1 r (St.later (St.later SQ.out S2.out.below) hb).rs SQ.out.tw)
                unfold rkV at KX KY
                have CX := Lib.hid (fun W (hb : Below wr.heap.size wr W) => St.cells (St.later S2.out hb))
                have CY := Lib.hid (fun W (hb : Below wr.heap.size wr W) => St.cells (St.later (St.later SQ.out S2.out.below) hb))
                have BE := Lib.hid (fun W (hb : Below wr.heap.size wr W) => (show Below w.heap.size w W from (St.later (St.later SQ.out S2.out.below) hb).below))
                go_upto_region 18 with (first
                  | (go_at_call 15; refine (power_nil _).mono ?_; rintro e w10 ⟨rfl, b10⟩; have B10 := Lib.hid b10; clear b10)
                  | (go_at_call 16; refine (read_nil _).mono ?_; rintro e w11 ⟨rfl, b11⟩; have B11 := Lib.hid (B10.out.trans (b11.mono B10.out.size)); clear b11)
                  | fail)
                go_upto_region 19 with (first
                  | (go_at_call 17; refine (write_nil _).mono ?_; rintro e w12 ⟨rfl, b12⟩; have B12 := Lib.hid (B11.out.trans (b12.mono B11.out.size)); clear b12)
                  | (go_at_call 18; refine (sync_nil _).mono ?_; rintro e w13 ⟨rfl, b13⟩; have B13 := Lib.hid (B12.out.trans (b13.mono B12.out.size)); clear b13)
                  | (go_at_call 19; refine (break_nil _).mono ?_; rintro e w14 ⟨rfl, b14⟩; have B14 := Lib.hid (B13.out.trans (b14.mono B13.out.size)); clear b14)
                  | (go_at_call 20; refine (off_nil _).mono ?_; rintro e w15 ⟨rfl, b15⟩; have B15 := Lib.hid (B14.out.trans (b15.mono B14.out.size)); clear b15)
                  | (go_at_call 13; refine (size_nil _).mono ?_; rintro e w16 ⟨rfl, b16⟩; have B16 := Lib.hid (B15.out.trans (b16.mono B15.out.size)); clear b16)
                  | (go_at_call 21; refine (calls_nil _).mono ?_; rintro e w17 ⟨rfl, b17⟩; have B17 := Lib.hid (B16.out.trans (b17.mono B16.out.size)); clear b17)
                  | (go_at_call 22; refine (waits_nil _).mono ?_; rintro e w18 ⟨rfl, b18⟩; have B18 := Lib.hid (B17.out.trans (b18.mono B17.out.size)); clear b18)
                  | (go_at_call 14; refine (fork_nil _).mono ?_; rintro e w19 ⟨rfl, b19⟩; have B19 := Lib.hid (B18.out.trans (b19.mono B18.out.size)); clear b19)
                  | fail)
                obtain ⟨v0, v1, v2, v3, v4⟩ := CX.out _ B19.out
                go_wp2_with fail
                refine (KX.out _ B19.out).mono ?_
                rintro e w20 ⟨rfl, b20⟩
                have B20 := Lib.hid (B19.out.trans (b20.mono B19.out.size))
                clear b20 v0 v1 v2 v3 v4
                obtain ⟨z0, z1, z2, z3, z4⟩ := CY.out _ B20.out
                go_wp2_with fail
                refine (KY.out _ B20.out).mono ?_
                rintro e w21 ⟨rfl, b21⟩
                have B21 := Lib.hid (B20.out.trans (b21.mono B20.out.size))
                clear b21 z0 z1 z2 z3 z4
                go_wp2_with fail
                refine (awake_any _).mono ?_
                rintro e w22 ⟨rfl, b22⟩
                have B22 := Lib.hid (B21.out.trans (b22.mono B21.out.size))
                clear b22
                go_wp2
                go_ret
                exact ⟨rfl, BE.out _ B22.out⟩
          · have BW := Lib.hid ((BA.out (.cells #[.slice none 0 0, .bool false, .int .i64 0, .int .i64 0, .bool false] 28)).trans (B5.out.mono (by omega)))
            have NQ : Hid (¬ F5.has wr.heap.size) := Lib.hid (fun hx => by have := D5.out.based _ hx; omega)
            have GQ : Hid (wr.heap.size ≤ wr.heap.size) := Lib.hid (Nat.le_refl _)
            have SF : Hid (St wr F5 wr.heap.size s r A1 c1 (40 + 0) (set5 w5 wr.heap.size (.slice A1 r.S.length c1) (.bool r.off) (.int .i64 r.calls) (.int .i64 r.after) (.bool r.done))) := Lib.hid (fin1 (DkAt.base_le D5.out (by omega)) (SQ.out.rs.below BW.out) SQ.out.tw (by have := SQ.out.calls; omega) HZ5.out (fun t e => by cases e) NQ.out (Nat.le_refl _) BW.out)
            have SF : Hid (St wr F5 wr.heap.size s r A1 c1 (40 + 0) (((((w5.setCell ⟨wr.heap.size, 0, none⟩ (.slice A1 r.S.length c1)).setCell ⟨wr.heap.size, 1, none⟩ (.bool r.off)).setCell ⟨wr.heap.size, 2, none⟩ (.int .i64 r.calls)).setCell ⟨wr.heap.size, 3, none⟩ (.int .i64 r.after)).setCell ⟨wr.heap.size, 4, none⟩ (.bool r.done))) := SF
            generalize ((((w5.setCell ⟨wr.heap.size, 0, none⟩ (.slice A1 r.S.length c1)).setCell ⟨wr.heap.size, 1, none⟩ (.bool r.off)).setCell ⟨wr.heap.size, 2, none⟩ (.int .i64 r.calls)).setCell ⟨wr.heap.size, 3, none⟩ (.int .i64 r.after)).setCell ⟨wr.heap.size, 4, none⟩ (.bool r.done) = V at *
            clear K5 HZ5 gz0 gz1 gz2 gz3 gz4 y0 y1 y2 y3 y4
            have gq : wr.heap.size ≤ wr.heap.size := GQ.out
            have nFw := Lib.hid (show ∀ g, g < w.heap.size → ¬ F5.has g from fun g hg hx => by have := SF.out.dk.based g hx; have := SQ.out.below.size; omega)
            clear HN8 CC CA BA BD DF KOK c0 c5
            obtain ⟨V8, hV8⟩ : ∃ V8 : World, V8 = wr := ⟨_, rfl⟩
            subst hV8
            go_wp2
            go_loopw [10, 11] (fun _ i wr2 => Rel2 V8 F5 V8.heap.size n' i wr2) (fun _ i _ => n' - (RowKit.intOf i).toNat)
            case atStart => exact ⟨0, s, r, A1, c1, by omega, by omega, rfl, SF.out⟩
            case round =>
              obtain ⟨k2, s2, r2, A2, c2, hk2, hkn2, rfl, st⟩ := hrel
              have S2 := Lib.hid st
              by_cases hlt2 : k2 < n'
              · have hk2' : (k2 : Int) < (n' : Int) := by omega
                obtain ⟨ad, a, rfl, hka, hat00⟩ := HA'.out.at_ (i := k2) (by rw [HL'.out]; exact hlt2)
                have hat0 := hat00.below SQ.out.below
                have hat := hat0.below st.below
                have KDO := Lib.hid (do_any st.dk.drew A2 c2 r2 st.rs.drew st.tw (by have := st.calls; omega) a hat.rb.drew hat.room hat.most hat.lo hat.hi (fun hf ad e => nFw.out _ (hat00.flt hf ad e)))
                unfold rkV acV at KDO
                have v0 : wr.drew.cell? ⟨V8.heap.size, 0, none⟩ = some (.slice A2 r2.S.length c2) := (St.cells st).1
                have v1 : wr.drew.cell? ⟨V8.heap.size, 1, none⟩ = some (.bool r2.off) := (St.cells st).2.1
                have v2 : wr.drew.cell? ⟨V8.heap.size, 2, none⟩ = some (.int .i64 r2.calls) := (St.cells st).2.2.1
                have v3 : wr.drew.cell? ⟨V8.heap.size, 3, none⟩ = some (.int .i64 r2.after) := (St.cells st).2.2.2.1
                have v4 : wr.drew.cell? ⟨V8.heap.size, 4, none⟩ = some (.bool r2.done) := (St.cells st).2.2.2.2
                have x0 : wr.drew.cell? (ad.add (k2 * 6)) = some (.int .u8 (a.kind.toNat : Int)) := hat.d0
                have x1 : wr.drew.cell? ⟨(ad.add (k2 * 6)).block, (ad.add (k2 * 6)).off + 1, none⟩ = some (.int .i64 a.n) := hat.d1
                have x2 : wr.drew.cell? ⟨(ad.add (k2 * 6)).block, (ad.add (k2 * 6)).off + 2, none⟩ = some (.int .u8 (a.c.toNat : Int)) := hat.d2
                have x3 : wr.drew.cell? ⟨(ad.add (k2 * 6)).block, (ad.add (k2 * 6)).off + 3, none⟩ = some (.int .u8 (a.cut.toNat : Int)) := hat.d3
                have x4 : wr.drew.cell? ⟨(ad.add (k2 * 6)).block, (ad.add (k2 * 6)).off + 4, none⟩ = some (.bool a.done) := hat.d4
                have x5 : wr.drew.cell? ⟨(ad.add (k2 * 6)).block, (ad.add (k2 * 6)).off + 5, none⟩ = some (.slice a.fA a.fates.length a.fc) := hat.d5
                clear st hat hat0 hat00 hka
                go_wp2
                go_region_with (first
                  | (go_at_call 11; refine KDO.out.mono ?_; rintro e w6 ⟨s5, r5, A5, cp5, rfl, d5, rs5, t5, q5, l5, f5⟩; have FIN := Lib.hid (St.done (c5 := cp5) S2.out d5 rs5 t5 q5 (show Frm F5.has wr w6 from ⟨f5.os, f5.tape, f5.output, f5.size, f5.block⟩) NQ.out gq); have ST5 := (f5.block V8.heap.size (Array.getElem?_eq_some_iff.1 S2.out.bx).1 NQ.out).trans S2.out.bx; have u0 : w6.cell? ⟨V8.heap.size, 0, none⟩ = some (.slice A2 r2.S.length c2) := (cell_of_row w6 _ 0 _ _ _ ST5).trans rfl; have u1 : w6.cell? ⟨V8.heap.size, 1, none⟩ = some (.bool r2.off) := (cell_of_row w6 _ 1 _ _ _ ST5).trans rfl; have u2 : w6.cell? ⟨V8.heap.size, 2, none⟩ = some (.int .i64 r2.calls) := (cell_of_row w6 _ 2 _ _ _ ST5).trans rfl; have u3 : w6.cell? ⟨V8.heap.size, 3, none⟩ = some (.int .i64 r2.after) := (cell_of_row w6 _ 3 _ _ _ ST5).trans rfl; have u4 : w6.cell? ⟨V8.heap.size, 4, none⟩ = some (.bool r2.done) := (cell_of_row w6 _ 4 _ _ _ ST5).trans rfl; have fz : ∀ i, w6.frozen? ⟨V8.heap.size, i, none⟩ = false := (fun i => by simp [World.frozen?, ST5]); have fz0 := fz 0; have fz1 := fz 1; have fz2 := fz 2; have fz3 := fz 3; have fz4 := fz 4; clear fz d5 rs5 f5 ST5; unfold rkV)
                  | fail)
                all_goals
                  go_wp2
                  go_roundw
                  case rel => exact ⟨k2 + 1, s5, r5, A5, cp5, by omega, by omega, by go_num, FIN.out⟩
                  case measure => simp [RowKit.intOf]; omega
              · obtain rfl : k2 = n' := by omega
                clear st
                have BB := Lib.hid (Below.refl wr.heap.size wr)
                have KX := Lib.hid (fun W (hb : Below wr.heap.size wr W) => same_any (St.later S2.out hb).dk A2 c2 r2 (St.later S2.out hb).rs S2.out.tw)
                have KY := Lib.hid (fun W (hb : Below wr.heap.size wr W) => same_any (St.later (St.later SQ.out S2.out.below) hb).dk A1 c1 r (St.later (St.later SQ.out S2.out.below) hb).rs SQ.out.tw)
                unfold rkV at KX KY
                have CX := Lib.hid (fun W (hb : Below wr.heap.size wr W) => St.cells (St.later S2.out hb))
                have CY := Lib.hid (fun W (hb : Below wr.heap.size wr W) => St.cells (St.later (St.later SQ.out S2.out.below) hb))
                have BE := Lib.hid (fun W (hb : Below wr.heap.size wr W) => (show Below w.heap.size w W from (St.later (St.later SQ.out S2.out.below) hb).below))
                go_upto_region 18 with (first
                  | (go_at_call 15; refine (power_nil _).mono ?_; rintro e w10 ⟨rfl, b10⟩; have B10 := Lib.hid b10; clear b10)
                  | (go_at_call 16; refine (read_nil _).mono ?_; rintro e w11 ⟨rfl, b11⟩; have B11 := Lib.hid (B10.out.trans (b11.mono B10.out.size)); clear b11)
                  | fail)
                go_upto_region 19 with (first
                  | (go_at_call 17; refine (write_nil _).mono ?_; rintro e w12 ⟨rfl, b12⟩; have B12 := Lib.hid (B11.out.trans (b12.mono B11.out.size)); clear b12)
                  | (go_at_call 18; refine (sync_nil _).mono ?_; rintro e w13 ⟨rfl, b13⟩; have B13 := Lib.hid (B12.out.trans (b13.mono B12.out.size)); clear b13)
                  | (go_at_call 19; refine (break_nil _).mono ?_; rintro e w14 ⟨rfl, b14⟩; have B14 := Lib.hid (B13.out.trans (b14.mono B13.out.size)); clear b14)
                  | (go_at_call 20; refine (off_nil _).mono ?_; rintro e w15 ⟨rfl, b15⟩; have B15 := Lib.hid (B14.out.trans (b15.mono B14.out.size)); clear b15)
                  | (go_at_call 13; refine (size_nil _).mono ?_; rintro e w16 ⟨rfl, b16⟩; have B16 := Lib.hid (B15.out.trans (b16.mono B15.out.size)); clear b16)
                  | (go_at_call 21; refine (calls_nil _).mono ?_; rintro e w17 ⟨rfl, b17⟩; have B17 := Lib.hid (B16.out.trans (b17.mono B16.out.size)); clear b17)
                  | (go_at_call 22; refine (waits_nil _).mono ?_; rintro e w18 ⟨rfl, b18⟩; have B18 := Lib.hid (B17.out.trans (b18.mono B17.out.size)); clear b18)
                  | (go_at_call 14; refine (fork_nil _).mono ?_; rintro e w19 ⟨rfl, b19⟩; have B19 := Lib.hid (B18.out.trans (b19.mono B18.out.size)); clear b19)
                  | fail)
                obtain ⟨v0, v1, v2, v3, v4⟩ := CX.out _ B19.out
                go_wp2_with fail
                refine (KX.out _ B19.out).mono ?_
                rintro e w20 ⟨rfl, b20⟩
                have B20 := Lib.hid (B19.out.trans (b20.mono B19.out.size))
                clear b20 v0 v1 v2 v3 v4
                obtain ⟨z0, z1, z2, z3, z4⟩ := CY.out _ B20.out
                go_wp2_with fail
                refine (KY.out _ B20.out).mono ?_
                rintro e w21 ⟨rfl, b21⟩
                have B21 := Lib.hid (B20.out.trans (b21.mono B20.out.size))
                clear b21 z0 z1 z2 z3 z4
                go_wp2_with fail
                refine (awake_any _).mono ?_
                rintro e w22 ⟨rfl, b22⟩
                have B22 := Lib.hid (B21.out.trans (b22.mono B21.out.size))
                clear b22
                go_wp2
                go_ret
                exact ⟨rfl, BE.out _ B22.out⟩
end Go.Proofs.Ytgnoodafaofkiaa.sectorForks
