/- The walk of the law SectorPlays. -/
import Derived.Test.YtgnoodafaofkiaaRfT
namespace Go.Proofs.Ytgnoodafaofkiaa.sectorPlays
open Go.RowKit
set_option linter.unusedVariables false
/-- Between two calls. -/
structure St (w : World) (F : Ft) (b : Nat) (s : Dk) (r : Rk) (A : Option Addr) (c : Nat) (k : Nat) (wr : World) : Prop where
  dk : DkAt w.heap.size F wr s
  rs : RS wr A r.S
  tw : Twin s r
  calls : s.calls ≤ k
  bx : wr.heap[b]? = some (.cells #[.slice A r.S.length c, .bool r.off, .int .i64 r.calls, .int .i64 r.after, .bool r.done] 28 (0, 0))
  below : Below w.heap.size w wr
def Rel (w : World) (F : Ft) (b : Nat) (i : Value) (wr : World) : Prop :=
  ∃ (k : Nat) (s : Dk) (r : Rk) (A : Option Addr) (c : Nat), k ≤ 60 ∧ i = .int .i64 (k : Int) ∧ St w F b s r A c k wr
theorem big_len : (Dk.new 1099511627776).rows.length = 4096 := by
  show (List.replicate (min (max (1099511627776 : Int) 0) 4096).toNat zeros).length = 4096
  rw [List.length_replicate]
  decide
theorem fin1 {w X : World} {F : Ft} {b k : Nat} {s5 : Dk} {r5 : Rk} {A5 : Option Addr} {cp5 : Nat} {x0 x1 x2 x3 x4 : Value} (hd : DkAt w.heap.size F X s5) (hr : RS X A5 r5.S) (ht : Twin s5 r5) (hc : s5.calls ≤ k) (hx : X.heap[b]? = some (.cells #[x0, x1, x2, x3, x4] 28 (0, 0))) (h0 : ∀ t, x0 ≠ .string t) (hF : ¬ F.has b) (hb : w.heap.size ≤ b) (hw : Below w.heap.size w X) :
    St w F b s5 r5 A5 cp5 k (set5 X b (.slice A5 r5.S.length cp5) (.bool r5.off) (.int .i64 r5.calls) (.int .i64 r5.after) (.bool r5.done)) :=
  ⟨hd.set5 hF _ _ _ _ _, hr.set5 ((cell_of_row X _ 0 _ _ _ hx).trans rfl) h0 _ _ _ _ _, ht, hc, heap_set5 hx _ _ _ _ _, below_set5 hw hb _ _ _ _ _⟩
theorem St.alloc {w : World} {F : Ft} {b : Nat} {s : Dk} {r : Rk} {A : Option Addr} {c k : Nat} {W : World} {a0 a1 a2 a3 a4 : Value} (h : St w F b s r A c k (set5 W b a0 a1 a2 a3 a4)) (hb : b < W.heap.size) (o : Obj) : St w F b s r A c k ((((((W.setCell ⟨b, 0, none⟩ a0).setCell ⟨b, 1, none⟩ a1).setCell ⟨b, 2, none⟩ a2).setCell ⟨b, 3, none⟩ a3).setCell ⟨b, 4, none⟩ a4).alloc o) := by
  have hs : b < (set5 W b a0 a1 a2 a3 a4).heap.size := Nat.lt_of_lt_of_le hb (below_set5 (Below.refl 0 W) (Nat.zero_le b) a0 a1 a2 a3 a4).size
  exact ⟨h.dk.alloc o, h.rs.below ((Below.refl _ _).alloc (Nat.le_refl _) o), h.tw, h.calls, (Below.heap_alloc _ o _ hs).trans h.bx, h.below.alloc h.below.size o⟩
set_option maxHeartbeats 2000000 in
set_option maxRecDepth 100000 in
theorem core (sec : Int) (A : Option Addr) (n c : Nat) (l : List Ac) (w : World) (hl : l.length = n) (hnm : n ≤ maxLen) (ha : ActsAt w A l) :
    Calls Try.prog 3 #[.int .i64 sec, .slice A n c] w fun e w' => e = .returned (.bool true) ∧ Below w.heap.size w w' := by
  have HL := Lib.hid hl
  have HA := Lib.hid ha
  have HM : n ≤ 9223372036854775807 := by simp only [maxLen] at hnm; omega
  clear hl ha hnm
  by_cases hs : 40 < sec
  · go_enter Try.func3, Try.ntmps3
    go_wp2_with (first
      | (go_at_call 8; refine (awake_any _).mono ?_; rintro e w1 ⟨rfl, b1⟩; have B1 := Lib.hid b1; clear b1)
      | fail)
    go_ret
    exact ⟨rfl, B1.out⟩
  · have hs' : decide (40 < sec) = false := by simp; omega
    have HS := Lib.hid (show sec ≤ 40 from by omega)
    clear hs
    by_cases hn : 60 < n
    · have hn' : (60 : Int) < (n : Int) := by omega
      go_enter Try.func3, Try.ntmps3
      go_wp2_with (first
        | (go_at_call 8; refine (awake_any _).mono ?_; rintro e w1 ⟨rfl, b1⟩; have B1 := Lib.hid b1; clear b1)
        | fail)
      go_ret
      exact ⟨rfl, B1.out⟩
    · have hn' : decide ((60 : Int) < (n : Int)) = false := by simp; omega
      have hn60 : n ≤ 60 := by omega
      clear hn
      go_enter Try.func3, Try.ntmps3
      go_upto_region 4 with (first
        | (go_at_call 9; refine (new_any sec _).mono ?_; rintro e w1 ⟨F, rfl, h0, b0⟩; have H0 := Lib.hid h0; have B0 := Lib.hid b0; clear h0 b0)
        | (go_at_call 10; refine (refNew_any sec _).mono ?_; rintro e w2 ⟨A2, c2, rfl, r2, b2⟩; have R2 := Lib.hid r2; have B2 := Lib.hid b2; clear r2 b2; unfold rkV)
        | fail)
      have nFb : Hid (¬ F.has w2.heap.size) := Lib.hid (fun hx => by have := (H0.out.below B2.out).inside _ hx; omega)
      have gb : w.heap.size ≤ w2.heap.size := Nat.le_trans B0.out.size B2.out.size
      have ST : Hid (Rel w F w2.heap.size (.int .i64 ((0 : Nat) : Int)) (w2.alloc (.cells #[.slice A2 (Rk.new sec).S.length c2, .bool (Rk.new sec).off, .int .i64 (Rk.new sec).calls, .int .i64 (Rk.new sec).after, .bool (Rk.new sec).done] 28))) := Lib.hid ⟨0, _, _, A2, c2, by omega, rfl, (H0.out.below B2.out).alloc _, R2.out.below ((Below.refl _ _).alloc (Nat.le_refl _) _), twin_new sec HS.out, Nat.le_refl _, heap_alloc_last w2 _, (B0.out.trans (B2.out.mono B0.out.size)).alloc gb _⟩
      generalize w2.heap.size = b at *
      generalize w2.alloc (.cells #[.slice A2 (Rk.new sec).S.length c2, .bool (Rk.new sec).off, .int .i64 (Rk.new sec).calls, .int .i64 (Rk.new sec).after, .bool (Rk.new sec).done] 28) = W3 at *
      clear H0 R2 B2 B0
      generalize (.agg #[.slice A2 (Rk.new sec).S.length c2, .bool (Rk.new sec).off, .int .i64 (Rk.new sec).calls, .int .i64 (Rk.new sec).after, .bool (Rk.new sec).done] : Value) = vv at *
      go_wp2
      go_loopw [7, 8, 9] (fun i _ _ wr => Rel w F b i wr ∧ (RowKit.intOf i).toNat ≤ n) (fun i _ _ _ => n - (RowKit.intOf i).toNat)
      case atStart => exact ⟨ST.out, by simp [RowKit.intOf]⟩
      case round =>
        obtain ⟨⟨k, s, r, A1, c1, hk, rfl, st⟩, hkn⟩ := hrel
        have hkn : k ≤ n := by simpa [RowKit.intOf] using hkn
        have SQ := Lib.hid st
        have cc : ∀ W : World, W.heap[b]? = some (.cells #[.slice A1 r.S.length c1, .bool r.off, .int .i64 r.calls, .int .i64 r.after, .bool r.done] 28 (0, 0)) → W.cell? ⟨b, 0, none⟩ = some (.slice A1 r.S.length c1) ∧ W.cell? ⟨b, 1, none⟩ = some (.bool r.off) ∧ W.cell? ⟨b, 2, none⟩ = some (.int .i64 r.calls) ∧ W.cell? ⟨b, 3, none⟩ = some (.int .i64 r.after) ∧ W.cell? ⟨b, 4, none⟩ = some (.bool r.done) := fun W hW =>
          ⟨(cell_of_row W _ 0 _ _ _ hW).trans rfl, (cell_of_row W _ 1 _ _ _ hW).trans rfl, (cell_of_row W _ 2 _ _ _ hW).trans rfl, (cell_of_row W _ 3 _ _ _ hW).trans rfl, (cell_of_row W _ 4 _ _ _ hW).trans rfl⟩
        have CC := Lib.hid cc
        clear cc
        by_cases hlt : k < n
        · have hk' : (k : Int) < (n : Int) := by omega
          obtain ⟨ad, a, rfl, hka, hat0⟩ := HA.out.at_ (i := k) (by rw [HL.out]; exact hlt)
          have hat := hat0.below st.below
          have nF := Lib.hid (show ∀ g, g < w.heap.size → ¬ F.has g from fun g hg hx => by have := st.dk.based g hx; omega)
          have KDO := Lib.hid (fun W (hb : Below wr.heap.size wr W) => do_any (st.dk.below hb) A1 c1 r (st.rs.below hb) st.tw (by have := st.calls; omega) a (hat.rb.below hb) hat.room hat.most hat.lo hat.hi (fun hf ad e => nF.out _ (hat0.flt hf ad e)))
          have HAT := Lib.hid hat
          have HAT0 := Lib.hid hat0
          unfold rkV acV at KDO
          clear st hat hat0 hka
          have SS := Lib.hid (show ∀ W : World, W.heap[b]? = wr.heap[b]? → (∀ q, q < w.heap.size → W.heap[q]? = wr.heap[q]?) → W.cell? ⟨b, 0, none⟩ = some (.slice A1 r.S.length c1) ∧ W.cell? ⟨b, 1, none⟩ = some (.bool r.off) ∧ W.cell? ⟨b, 2, none⟩ = some (.int .i64 r.calls) ∧ W.cell? ⟨b, 3, none⟩ = some (.int .i64 r.after) ∧ W.cell? ⟨b, 4, none⟩ = some (.bool r.done) ∧ W.cell? (ad.add (k * 6)) = some (.int .u8 (a.kind.toNat : Int)) ∧ W.cell? ⟨(ad.add (k * 6)).block, (ad.add (k * 6)).off + 1, none⟩ = some (.int .i64 a.n) ∧ W.cell? ⟨(ad.add (k * 6)).block, (ad.add (k * 6)).off + 2, none⟩ = some (.int .u8 (a.c.toNat : Int)) ∧ W.cell? ⟨(ad.add (k * 6)).block, (ad.add (k * 6)).off + 3, none⟩ = some (.int .u8 (a.cut.toNat : Int)) ∧ W.cell? ⟨(ad.add (k * 6)).block, (ad.add (k * 6)).off + 4, none⟩ = some (.bool a.done) ∧ W.cell? ⟨(ad.add (k * 6)).block, (ad.add (k * 6)).off + 5, none⟩ = some (.slice a.fA a.fates.length a.fc) from fun W h1 h2 => by
            have hp : (ad.add (k * 6)).block < w.heap.size := HAT0.out.lt
            have e : ∀ q : Addr, q.block = (ad.add (k * 6)).block → W.cell? q = wr.cell? q := fun q hq => World.cell?_of_block (w := wr) (by rw [hq]; exact h2 _ hp)
            obtain ⟨b0, b1, b2, b3, b4⟩ := CC.out W (h1.trans SQ.out.bx)
            exact ⟨b0, b1, b2, b3, b4, (e (ad.add (k * 6)) rfl).trans HAT.out.d0, (e ⟨(ad.add (k * 6)).block, (ad.add (k * 6)).off + 1, none⟩ rfl).trans HAT.out.d1, (e ⟨(ad.add (k * 6)).block, (ad.add (k * 6)).off + 2, none⟩ rfl).trans HAT.out.d2, (e ⟨(ad.add (k * 6)).block, (ad.add (k * 6)).off + 3, none⟩ rfl).trans HAT.out.d3, (e ⟨(ad.add (k * 6)).block, (ad.add (k * 6)).off + 4, none⟩ rfl).trans HAT.out.d4, (e ⟨(ad.add (k * 6)).block, (ad.add (k * 6)).off + 5, none⟩ rfl).trans HAT.out.d5⟩)
          have bl : b < wr.heap.size := (Array.getElem?_eq_some_iff.1 SQ.out.bx).1
          have c0 := SS.out wr.drew rfl (fun _ _ => rfl)
          have CA := Lib.hid (fun o => SS.out (wr.alloc o).drew (Below.heap_alloc wr o _ bl) (fun q hq => Below.heap_alloc wr o _ (Nat.lt_of_lt_of_le hq SQ.out.below.size)))
          have BD : Hid (Below wr.heap.size wr wr.drew) := Lib.hid ((Below.refl _ wr).drew)
          have BA := Lib.hid (fun o => ((Below.refl _ wr).alloc (Nat.le_refl _) o).drew)
          go_wp2
          go_region_held3 (fun W => W.cell? ⟨b, 0, none⟩ = some (.slice A1 r.S.length c1) ∧ W.cell? ⟨b, 1, none⟩ = some (.bool r.off) ∧ W.cell? ⟨b, 2, none⟩ = some (.int .i64 r.calls) ∧ W.cell? ⟨b, 3, none⟩ = some (.int .i64 r.after) ∧ W.cell? ⟨b, 4, none⟩ = some (.bool r.done) ∧ W.cell? (ad.add (k * 6)) = some (.int .u8 (a.kind.toNat : Int)) ∧ W.cell? ⟨(ad.add (k * 6)).block, (ad.add (k * 6)).off + 1, none⟩ = some (.int .i64 a.n) ∧ W.cell? ⟨(ad.add (k * 6)).block, (ad.add (k * 6)).off + 2, none⟩ = some (.int .u8 (a.c.toNat : Int)) ∧ W.cell? ⟨(ad.add (k * 6)).block, (ad.add (k * 6)).off + 3, none⟩ = some (.int .u8 (a.cut.toNat : Int)) ∧ W.cell? ⟨(ad.add (k * 6)).block, (ad.add (k * 6)).off + 4, none⟩ = some (.bool a.done) ∧ W.cell? ⟨(ad.add (k * 6)).block, (ad.add (k * 6)).off + 5, none⟩ = some (.slice a.fA a.fates.length a.fc)) (first | with_reducible assumption | with_reducible exact c0 | with_reducible exact CA.out _ | with_reducible exact c5 | with_reducible exact C5.out _ | with_reducible exact K5.out _ _ _ _ _ | with_reducible exact K6.out _ _ _ _ _ _ | fail)
            (first
              | (go_at_call 11; refine (KDO.out _ BD.out).mono ?_; rintro e w5 ⟨s5, r5, A5, cp5, rfl, d5, rs5, t5, q5, l5, f5⟩; have hb5 := f5.block b bl nFb.out; have hq5 := (fun q (hq : q < w.heap.size) => f5.block q (Nat.lt_of_lt_of_le hq SQ.out.below.size) (nF.out q hq)); have bl5 : b < w5.heap.size := Nat.lt_of_lt_of_le bl f5.size; have ws5 : w.heap.size ≤ w5.heap.size := Nat.le_trans SQ.out.below.size f5.size; have c5 := SS.out w5 hb5 hq5; have C5 := Lib.hid (fun o => SS.out (w5.alloc o) ((Below.heap_alloc _ _ _ bl5).trans hb5) (fun q hq => (Below.heap_alloc _ _ _ (Nat.lt_of_lt_of_le hq ws5)).trans (hq5 q hq))); have K6 := Lib.hid (fun o a0 a1 a2 a3 a4 => SS.out ((((((w5.alloc o).setCell ⟨w5.heap.size, 0, none⟩ a0).setCell ⟨w5.heap.size, 1, none⟩ a1).setCell ⟨w5.heap.size, 2, none⟩ a2).setCell ⟨w5.heap.size, 3, none⟩ a3).setCell ⟨w5.heap.size, 4, none⟩ a4) ((heap_set5_other (w5.alloc o) w5.heap.size b (by omega) a0 a1 a2 a3 a4).trans ((Below.heap_alloc _ _ _ bl5).trans hb5)) (fun q hq => (heap_set5_other (w5.alloc o) w5.heap.size q (by omega) a0 a1 a2 a3 a4).trans ((Below.heap_alloc _ _ _ (Nat.lt_of_lt_of_le hq ws5)).trans (hq5 q hq)))); have BW := Lib.hid (SQ.out.below.drew.trans (f5.below SQ.out.dk.based SQ.out.below.size)); have FA := Lib.hid (fun o => (fin1 (cp5 := cp5) d5 rs5 t5 (show s5.calls ≤ k + 1 from by have := SQ.out.calls; omega) (hb5.trans SQ.out.bx) (fun t e => by cases e) nFb.out gb BW.out).alloc bl5 o); have fz : ∀ i, w5.frozen? ⟨b, i, none⟩ = false := (fun i => by simp [World.frozen?, hb5.trans SQ.out.bx]); have fz0 := fz 0; have fz1 := fz 1; have fz2 := fz 2; have fz3 := fz 3; have fz4 := fz 4; have nq1 : b ≠ w5.heap.size := (by omega); have nq2 : w5.heap.size ≠ b := (by omega); clear fz hb5 hq5 d5 rs5 f5; unfold rkV)
              | (go_at_call 11; refine (KDO.out _ (BA.out (.cells #[.slice none 0 0, .bool false, .int .i64 0, .int .i64 0, .bool false] 28))).mono ?_; rintro e w5 ⟨s5, r5, A5, cp5, rfl, d5, rs5, t5, q5, l5, f5⟩; have hsA : (wr.alloc (.cells #[.slice none 0 0, .bool false, .int .i64 0, .int .i64 0, .bool false] 28)).drew.heap.size = wr.heap.size + 1 := heap_size_alloc wr _; have hb5 := (f5.block b (by omega) nFb.out).trans (Below.heap_alloc wr _ _ bl); have hq5 := (fun q (hq : q < w.heap.size) => (f5.block q (by have := SQ.out.below.size; omega) (nF.out q hq)).trans (Below.heap_alloc wr _ _ (Nat.lt_of_lt_of_le hq SQ.out.below.size))); have nFq : ¬ F.has wr.heap.size := (fun hx => by have := SQ.out.dk.inside _ hx; omega); have hz5 := (f5.block wr.heap.size (by omega) nFq).trans (heap_alloc_last wr _); have c5 := SS.out w5 hb5 hq5; have wsz := SQ.out.below.size; have K5 := Lib.hid (fun a0 a1 a2 a3 a4 => SS.out (((((w5.setCell ⟨wr.heap.size, 0, none⟩ a0).setCell ⟨wr.heap.size, 1, none⟩ a1).setCell ⟨wr.heap.size, 2, none⟩ a2).setCell ⟨wr.heap.size, 3, none⟩ a3).setCell ⟨wr.heap.size, 4, none⟩ a4) ((heap_set5_other w5 wr.heap.size b (by omega) a0 a1 a2 a3 a4).trans hb5) (fun q hq => (heap_set5_other w5 wr.heap.size q (by omega) a0 a1 a2 a3 a4).trans (hq5 q hq))); have BW := Lib.hid ((SQ.out.below.alloc SQ.out.below.size (.cells #[.slice none 0 0, .bool false, .int .i64 0, .int .i64 0, .bool false] 28)).drew.trans (f5.below SQ.out.dk.based (by omega))); have FB := Lib.hid (fun a0 a1 a2 a3 a4 => fin1 (cp5 := cp5) (d5.set5 nFq a0 a1 a2 a3 a4) (rs5.set5 ((cell_of_row w5 _ 0 _ _ _ hz5).trans rfl) (fun t e => by cases e) a0 a1 a2 a3 a4) t5 (show s5.calls ≤ k + 1 from by have := SQ.out.calls; omega) ((heap_set5_other w5 wr.heap.size b (by omega) a0 a1 a2 a3 a4).trans (hb5.trans SQ.out.bx)) (fun t e => by cases e) nFb.out gb (below_set5 BW.out wsz a0 a1 a2 a3 a4)); have fz : ∀ i, w5.frozen? ⟨b, i, none⟩ = false := (fun i => by simp [World.frozen?, hb5.trans SQ.out.bx]); have fz0 := fz 0; have fz1 := fz 1; have fz2 := fz 2; have fz3 := fz 3; have fz4 := fz 4; have gz : ∀ i, w5.frozen? ⟨wr.heap.size, i, none⟩ = false := (fun i => by simp [World.frozen?, hz5]); have gz0 := gz 0; have gz1 := gz 1; have gz2 := gz 2; have gz3 := gz 3; have gz4 := gz 4; have y0 : w5.cell? ⟨wr.heap.size, 0, none⟩ = some (.slice none 0 0) := (cell_of_row w5 _ 0 _ _ _ hz5).trans rfl; have y1 : w5.cell? ⟨wr.heap.size, 1, none⟩ = some (.bool false) := (cell_of_row w5 _ 1 _ _ _ hz5).trans rfl; have y2 : w5.cell? ⟨wr.heap.size, 2, none⟩ = some (.int .i64 0) := (cell_of_row w5 _ 2 _ _ _ hz5).trans rfl; have y3 : w5.cell? ⟨wr.heap.size, 3, none⟩ = some (.int .i64 0) := (cell_of_row w5 _ 3 _ _ _ hz5).trans rfl; have y4 : w5.cell? ⟨wr.heap.size, 4, none⟩ = some (.bool false) := (cell_of_row w5 _ 4 _ _ _ hz5).trans rfl; have nq1 : b ≠ wr.heap.size := (by omega); have nq2 : wr.heap.size ≠ b := (by omega); clear fz gz hb5 hq5 d5 rs5 f5 hz5; unfold rkV)
              | fail)
          · obtain ⟨v0, v1, v2, v3, v4, _⟩ := c5
            clear C5 K6 CA BA BD SS KDO
            go_wp2
            go_roundw
            case rel => exact ⟨⟨k + 1, s5, r5, A5, cp5, by omega, by go_num, FA.out _⟩, by simp [RowKit.intOf]; omega⟩
            case measure => simp [RowKit.intOf]; omega
          · obtain ⟨v0, v1, v2, v3, v4, _⟩ := c5
            clear K5 CA BA BD SS KDO
            go_wp2
            go_roundw
            case rel => exact ⟨⟨k + 1, s5, r5, A5, cp5, by omega, by go_num, FB.out _ _ _ _ _⟩, by simp [RowKit.intOf]; omega⟩
            case measure => simp [RowKit.intOf]; omega
        · obtain rfl : k = n := by omega
          obtain ⟨v0, v1, v2, v3, v4⟩ := CC.out _ st.bx
          have KS := same_any st.dk A1 c1 r st.rs st.tw
          unfold rkV at KS
          have KS := Lib.hid KS
          clear st
          go_wp2_with (first
            | (go_at_call 12; refine KS.out.mono ?_; rintro e w5 ⟨rfl, b5⟩; have B5 := Lib.hid (SQ.out.below.trans (b5.mono SQ.out.below.size)); clear b5)
            | (go_at_call 9; refine (new_any 1099511627776 _).mono ?_; rintro e w6 ⟨F6, rfl, h6, b6⟩; have B6 := Lib.hid (B5.out.trans (b6.mono B5.out.size)); have k6 := size_any h6; rw [big_len] at k6; have K6 := Lib.hid k6; clear b6 k6 h6)
            | (go_at_call 13; refine K6.out.mono ?_; rintro e w' ⟨rfl, rfl⟩)
            | (go_at_call 8; refine (awake_any _).mono ?_; rintro e w7 ⟨rfl, b7⟩; have B7 := Lib.hid (B6.out.trans (b7.mono B6.out.size)); clear b7)
            | fail)
          go_ret
          exact ⟨rfl, B7.out⟩
end Go.Proofs.Ytgnoodafaofkiaa.sectorPlays
