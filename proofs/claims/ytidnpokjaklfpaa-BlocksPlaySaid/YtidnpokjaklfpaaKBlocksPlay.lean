/- The walk of the law BlocksPlay. -/
import Derived.Test.YtidnpokjaklfpaaBrI
namespace Go.Proofs.Ytidnpokjaklfpaa.blocksPlay
open Go.RowKit
set_option linter.unusedVariables false
theorem twin_new' (n : Int) : Twin (Dk.new n) (Rk.new n) := by
  have hl : newLen n = (min (max n 0) 4096).toNat := by unfold newLen; omega
  refine ⟨?_, rfl, rfl, fun _ => ⟨rfl, fun e => by cases e⟩, fun e => by cases e⟩
  refine twinS_ext ?_ fun i hi => ?_
  · show (List.replicate (newLen n) zeroS).length = (List.replicate (min (max n 0) 4096).toNat zeros).length
    rw [List.length_replicate, List.length_replicate, hl]
  · have hi' : i < (min (max n 0) 4096).toNat := by
      have : i < (List.replicate (min (max n 0) 4096).toNat zeros).length := hi
      rwa [List.length_replicate] at this
    show (List.replicate (newLen n) zeroS)[i]? = _
    rw [List.getElem?_replicate, if_pos (by omega)]
    have e : (Dk.new n).rows.getD i [] = zeros := by
      show (List.replicate (min (max n 0) 4096).toNat zeros).getD i [] = zeros
      rw [List.getD_eq_getElem?_getD, List.getElem?_replicate, if_pos hi']
      rfl
    have e2 : (Dk.new n).at_ i = zeros := e
    unfold Dk.sx
    rw [e, e2]
    rfl
theorem DkAt.base_le' {B B' : Nat} {F : Ft} {w : World} {s : Dk} (h : DkAt B F w s) (hb : B' ≤ B) : DkAt B' F w s := by
  refine ⟨h.ok, Nat.le_trans hb h.bb, Nat.le_trans hb h.bm, h.cells, ⟨h.row.1, ?_⟩, h.map⟩
  rcases h.row.2 with e | ⟨g, cap, cur, e, hg, r⟩
  · exact .inl e
  · exact .inr ⟨g, cap, cur, e, Nat.le_trans hb hg, r⟩
theorem BcAt.dcells {w : World} {p : Addr} {x : Bc} (h : BcAt w p x) : w.cell? ⟨p.block, p.off + 3, none⟩ = some (.int .u8 (x.d.kind.toNat : Int)) ∧ w.cell? ⟨p.block, p.off + 4, none⟩ = some (.int .i64 x.d.n) ∧ w.cell? ⟨p.block, p.off + 5, none⟩ = some (.int .u8 (x.d.c.toNat : Int)) ∧ w.cell? ⟨p.block, p.off + 6, none⟩ = some (.int .u8 (x.d.cut.toNat : Int)) ∧ w.cell? ⟨p.block, p.off + 7, none⟩ = some (.bool x.d.done) ∧ w.cell? ⟨p.block, p.off + 8, none⟩ = some (.slice x.d.fA x.d.fates.length x.d.fc) := by
  have e := add_pos p 3 (by omega)
  have d := h.dd
  rw [e] at d
  exact ⟨d.d0, d.d1, d.d2, d.d3, d.d4, d.d5⟩
/-- Between two calls. -/
structure Sp (w : World) (F : Ft) (b b2 : Nat) (p q : Int) (s : Dk) (r : Rk) (A : Option Addr) (c k : Nat) (wr : World) : Prop where
  dk : DkAt w.heap.size F wr s
  rs : RS wr A r.S
  tw : Twin s r
  calls : s.calls ≤ 4 * k
  bx : wr.heap[b]? = some (.cells #[.slice A r.S.length c, .bool r.off, .int .i64 r.calls, .int .i64 r.after, .bool r.done] 28 (0, 0))
  ba : wr.heap[w.heap.size]? = some (.cells #[.int .i64 p, .int .i64 q] 50 (0, 0))
  bb : wr.heap[b2]? = some (.cells #[.int .i64 p, .int .i64 q] 53 (0, 0))
  below : Below w.heap.size w wr
theorem Sp.later {w : World} {F : Ft} {b b2 : Nat} {p q : Int} {s : Dk} {r : Rk} {A : Option Addr} {c k : Nat} {W W' : World} (h : Sp w F b b2 p q s r A c k W) (hb : Below W.heap.size W W') : Sp w F b b2 p q s r A c k W' :=
  ⟨h.dk.below hb, h.rs.below hb, h.tw, h.calls, (hb.block _ (Array.getElem?_eq_some_iff.1 h.bx).1).trans h.bx, (hb.block _ (Array.getElem?_eq_some_iff.1 h.ba).1).trans h.ba, (hb.block _ (Array.getElem?_eq_some_iff.1 h.bb).1).trans h.bb, h.below.trans (hb.mono h.below.size)⟩
theorem Sp.cells {w : World} {F : Ft} {b b2 : Nat} {p q : Int} {s : Dk} {r : Rk} {A1 : Option Addr} {c1 k : Nat} {W : World} (h : Sp w F b b2 p q s r A1 c1 k W) : W.cell? ⟨b, 0, none⟩ = some (.slice A1 r.S.length c1) ∧ W.cell? ⟨b, 1, none⟩ = some (.bool r.off) ∧ W.cell? ⟨b, 2, none⟩ = some (.int .i64 r.calls) ∧ W.cell? ⟨b, 3, none⟩ = some (.int .i64 r.after) ∧ W.cell? ⟨b, 4, none⟩ = some (.bool r.done) ∧ W.cell? ⟨w.heap.size, 0, none⟩ = some (.int .i64 p) ∧ W.cell? ⟨w.heap.size, 1, none⟩ = some (.int .i64 q) ∧ W.cell? ⟨b2, 0, none⟩ = some (.int .i64 p) ∧ W.cell? ⟨b2, 1, none⟩ = some (.int .i64 q) :=
  ⟨(cell_of_row W _ 0 _ _ _ h.bx).trans rfl, (cell_of_row W _ 1 _ _ _ h.bx).trans rfl, (cell_of_row W _ 2 _ _ _ h.bx).trans rfl, (cell_of_row W _ 3 _ _ _ h.bx).trans rfl, (cell_of_row W _ 4 _ _ _ h.bx).trans rfl, (cell_of_row W _ 0 _ _ _ h.ba).trans rfl, (cell_of_row W _ 1 _ _ _ h.ba).trans rfl, (cell_of_row W _ 0 _ _ _ h.bb).trans rfl, (cell_of_row W _ 1 _ _ _ h.bb).trans rfl⟩
set_option maxHeartbeats 1000000 in
set_option maxRecDepth 100000 in
theorem core (sec : UInt8) (p q : Int) (A : Option Addr) (n c : Nat) (l : List Bc) (w : World) (hl : l.length = n) (hnm : n ≤ maxLen) (ha : BActsAt w A l) :
    Calls Try.prog 5 #[.int .u8 (sec.toNat : Int), .agg #[.int .i64 p, .int .i64 q], .slice A n c] w fun e w' => e = .returned (.bool true) ∧ Below w.heap.size w w' := by
  have HL := Lib.hid hl
  have HA := Lib.hid ha
  have KF := Lib.hid (fun W (hb : Below w.heap.size w W) => few_any A n c l 16 W hl hnm (ha.below hb))
  have HM : n ≤ 9223372036854775807 := by simp only [maxLen] at hnm; omega
  have hz := heap_size_alloc w (.cells #[.int .i64 p, .int .i64 q] 50)
  have B0 := Lib.hid ((Below.refl _ w).alloc (Nat.le_refl _) (.cells #[.int .i64 p, .int .i64 q] 50))
  have X0 := Lib.hid (heap_alloc_last w (.cells #[.int .i64 p, .int .i64 q] 50))
  clear hl ha hnm
  cases hf : fewL l 16 with
  | false =>
    rw [hf] at KF
    go_enter Try.func5, Try.ntmps5
    go_wp2_with fail
    refine (KF.out _ B0.out).mono ?_
    rintro e w1 ⟨rfl, rfl⟩
    go_wp2_with fail
    refine (awake4_any _).mono ?_
    rintro e w1 ⟨rfl, b1⟩
    have B1 := Lib.hid (B0.out.trans (b1.mono B0.out.size))
    clear b1
    go_wp2
    go_ret
    exact ⟨rfl, B1.out⟩
  | true =>
    rw [hf] at KF
    obtain ⟨hf1, hf2⟩ := fewL_at hf
    have HF2 := Lib.hid hf2
    rw [HL.out] at hf1
    clear hf hf2
    obtain ⟨N, hN⟩ : ∃ N, N = sec.toNat % 61 := ⟨_, rfl⟩
    have hN60 : N ≤ 60 := by omega
    have hNi : (sec.toNat : Int) % 61 = (N : Int) := by omega
    have zs := sec.toNat_lt
    clear hN
    go_enter Try.func5, Try.ntmps5
    go_wp2_with fail
    refine (KF.out _ B0.out).mono ?_
    rintro e w1 ⟨rfl, rfl⟩
    generalize w.alloc (.cells #[.int .i64 p, .int .i64 q] 50) = W0 at *
    go_upto_region 6 with (first
      | (go_at_call 9; refine (new_any (N : Int) _).mono ?_; rintro e w1 ⟨F, rfl, h1, b1⟩; have H1 := Lib.hid h1; have B1 := Lib.hid b1; have X1 := Lib.hid ((b1.block _ (Array.getElem?_eq_some_iff.1 X0.out).1).trans X0.out); clear h1 b1)
      | (go_at_call 10; refine (refNew_any (N : Int) _).mono ?_; rintro e w2 ⟨A2, c2, rfl, r2, b2⟩; have R2 := Lib.hid r2; have B2 := Lib.hid b2; have X2 := (b2.block _ (Array.getElem?_eq_some_iff.1 X1.out).1).trans X1.out; have y0 : w2.cell? ⟨w.heap.size, 0, none⟩ = some (.int .i64 p) := (cell_of_row w2 _ 0 _ _ _ X2).trans rfl; have y1 : w2.cell? ⟨w.heap.size, 1, none⟩ = some (.int .i64 q) := (cell_of_row w2 _ 1 _ _ _ X2).trans rfl; have hs2 : w.heap.size < w2.heap.size := (Array.getElem?_eq_some_iff.1 X2).1; have XX2 := Lib.hid X2; clear r2 b2 X2; unfold rkV)
      | fail)
    have hb : w2.heap.size < (w2.alloc (.cells #[.slice A2 (Rk.new (N : Int)).S.length c2, .bool (Rk.new (N : Int)).off, .int .i64 (Rk.new (N : Int)).calls, .int .i64 (Rk.new (N : Int)).after, .bool (Rk.new (N : Int)).done] 28)).heap.size := by rw [heap_size_alloc]; omega
    have hb2 := heap_size_alloc w2 (.cells #[.slice A2 (Rk.new (N : Int)).S.length c2, .bool (Rk.new (N : Int)).off, .int .i64 (Rk.new (N : Int)).calls, .int .i64 (Rk.new (N : Int)).after, .bool (Rk.new (N : Int)).done] 28)
    have BB := Lib.hid ((B0.out.trans (B1.out.mono B0.out.size)).trans (B2.out.mono (B0.out.trans (B1.out.mono B0.out.size)).size))
    have SP : Hid (Sp w F w2.heap.size (w2.heap.size + 1) p q (Dk.new (N : Int)) (Rk.new (N : Int)) A2 c2 0 ((w2.alloc (.cells #[.slice A2 (Rk.new (N : Int)).S.length c2, .bool (Rk.new (N : Int)).off, .int .i64 (Rk.new (N : Int)).calls, .int .i64 (Rk.new (N : Int)).after, .bool (Rk.new (N : Int)).done] 28)).alloc (.cells #[.int .i64 p, .int .i64 q] 53))) := Lib.hid ⟨((DkAt.base_le' H1.out B0.out.size).below B2.out |>.alloc _).alloc _, (R2.out.below ((Below.refl _ _).alloc (Nat.le_refl _) _)).below ((Below.refl _ _).alloc (Nat.le_refl _) _), twin_new' _, Nat.zero_le _, (Below.heap_alloc _ _ _ hb).trans (heap_alloc_last w2 _), (Below.heap_alloc _ _ _ (by omega)).trans ((Below.heap_alloc _ _ _ hs2).trans XX2.out), by have := heap_alloc_last (w2.alloc (.cells #[.slice A2 (Rk.new (N : Int)).S.length c2, .bool (Rk.new (N : Int)).off, .int .i64 (Rk.new (N : Int)).calls, .int .i64 (Rk.new (N : Int)).after, .bool (Rk.new (N : Int)).done] 28)) (.cells #[.int .i64 p, .int .i64 q] 53); rw [hb2] at this; exact this, (BB.out.alloc BB.out.size _).alloc (by have := BB.out.size; omega) _⟩
    have nFb : Hid (¬ F.has w2.heap.size ∧ ¬ F.has (w2.heap.size + 1)) := Lib.hid ⟨fun hx => by have := (H1.out.below B2.out).inside _ hx; omega, fun hx => by have := (H1.out.below B2.out).inside _ hx; omega⟩
    have gb : w.heap.size < w2.heap.size := hs2
    have nFa : Hid (¬ F.has w.heap.size) := Lib.hid (fun hx => by have := H1.out.based _ hx; omega)
    generalize (w2.alloc (.cells #[.slice A2 (Rk.new (N : Int)).S.length c2, .bool (Rk.new (N : Int)).off, .int .i64 (Rk.new (N : Int)).calls, .int .i64 (Rk.new (N : Int)).after, .bool (Rk.new (N : Int)).done] 28)).alloc (.cells #[.int .i64 p, .int .i64 q] 53) = V at *
    obtain ⟨b2, hb2e⟩ : ∃ b2, b2 = w2.heap.size + 1 := ⟨_, rfl⟩
    rw [← hb2e] at SP nFb ⊢
    generalize w2.heap.size = b at *
    have HB2 := Lib.hid hb2e
    clear hb2e
    obtain ⟨r, hre⟩ : ∃ r, r = (Rk.new (N : Int)) := ⟨_, rfl⟩
    obtain ⟨s, hse⟩ : ∃ s, s = Dk.new (N : Int) := ⟨_, rfl⟩
    rw [← hre, ← hse] at SP
    rw [← hre]
    clear H1 B1 X1 R2 B2 XX2 BB y0 y1 hs2 hb hb2 hre hse X0 B0 hz
    have c0 : V.drew.cell? ⟨b, 0, none⟩ = some (.slice A2 r.S.length c2) ∧ V.drew.cell? ⟨b, 1, none⟩ = some (.bool r.off) ∧ V.drew.cell? ⟨b, 2, none⟩ = some (.int .i64 r.calls) ∧ V.drew.cell? ⟨b, 3, none⟩ = some (.int .i64 r.after) ∧ V.drew.cell? ⟨b, 4, none⟩ = some (.bool r.done) ∧ V.drew.cell? ⟨w.heap.size, 0, none⟩ = some (.int .i64 p) ∧ V.drew.cell? ⟨w.heap.size, 1, none⟩ = some (.int .i64 q) ∧ V.drew.cell? ⟨b2, 0, none⟩ = some (.int .i64 p) ∧ V.drew.cell? ⟨b2, 1, none⟩ = some (.int .i64 q) := SP.out.cells
    have KC := Lib.hid (fun W (h : Below V.heap.size V W) => check_any (SP.out.later h).dk ⟨p, q⟩)
    have KRC := Lib.hid (fun W => refCheck_any A2 c2 r ⟨p, q⟩ W (by rw [SP.out.tw.len]; exact SP.out.dk.ok.many))
    rw [SP.out.tw.len] at KRC
    have KCN := Lib.hid (fun W => check_nil ⟨p, q⟩ W)
    unfold rkV at KRC
    have KRC : Hid (∀ W, Calls Try.prog 26 #[.agg #[.slice A2 r.S.length c2, .bool r.off, .int .i64 r.calls, .int .i64 r.after, .bool r.done], .agg #[.int .i64 p, .int .i64 q]] W fun e w' => e = .returned (.int .i64 (Ar.check ⟨p, q⟩ s.rows.length : Int)) ∧ Below W.heap.size W w') := KRC
    have KC : Hid (∀ W, Below V.heap.size V W → Calls Try.prog 25 #[.pointer (some ⟨F.b, 0, none⟩), .agg #[.int .i64 p, .int .i64 q]] W fun e w' => e = .returned (.int .i64 (Ar.check ⟨p, q⟩ s.rows.length : Int)) ∧ Below W.heap.size W w') := KC
    have KCN : Hid (∀ W, Calls Try.prog 25 #[.pointer none, .agg #[.int .i64 p, .int .i64 q]] W fun e w' => e = .returned (.int .i64 1) ∧ Below W.heap.size W w') := KCN
    have CC := Lib.hid (fun W (h : Below V.heap.size V W) => (SP.out.later h).cells)
    generalize Ar.check ⟨p, q⟩ s.rows.length = cc at *
    have dc : ((cc : Int) != (cc : Int)) = false := by simp
    have BV : Hid (Below V.heap.size V V.drew) := Lib.hid ((Below.refl _ V).drew)
    go_region_held3 (fun W => W.cell? ⟨b, 0, none⟩ = some (.slice A2 r.S.length c2) ∧ W.cell? ⟨b, 1, none⟩ = some (.bool r.off) ∧ W.cell? ⟨b, 2, none⟩ = some (.int .i64 r.calls) ∧ W.cell? ⟨b, 3, none⟩ = some (.int .i64 r.after) ∧ W.cell? ⟨b, 4, none⟩ = some (.bool r.done) ∧ W.cell? ⟨w.heap.size, 0, none⟩ = some (.int .i64 p) ∧ W.cell? ⟨w.heap.size, 1, none⟩ = some (.int .i64 q) ∧ W.cell? ⟨b2, 0, none⟩ = some (.int .i64 p) ∧ W.cell? ⟨b2, 1, none⟩ = some (.int .i64 q)) (first | with_reducible assumption | with_reducible exact c0 | with_reducible exact c5 | with_reducible exact c6 | with_reducible exact c7 | fail)
      (first
        | (go_at_call 26; refine (KRC.out _).mono ?_; rintro e w6 ⟨rfl, b6⟩; have B6 := Lib.hid (B5.out.trans (b6.mono B5.out.size)); have c6 := CC.out w6 B6.out; clear b6)
        | (go_at_call 25; with_reducible refine (KCN.out _).mono ?_; rintro e w7 ⟨rfl, b7⟩; have B7 := Lib.hid (B6.out.trans (b7.mono B6.out.size)); have c7 := CC.out w7 B7.out; clear b7)
        | (go_at_call 25; refine (KC.out _ BV.out).mono ?_; rintro e w5 ⟨rfl, b5⟩; have B5 := Lib.hid (BV.out.trans b5); have c5 := CC.out w5 B5.out; clear b5)
        | fail)
    all_goals
      have SP7 := Lib.hid (SP.out.later B7.out)
      clear c0 c5 c6 c7 KC KRC KCN CC BV B5 B6 B7 SP dc
      go_wp2
      go_loopw [11, 12, 13, 14, 15, 16] (fun _ i _ _ _ _ wr => ∃ (k : Nat) (s : Dk) (r : Rk) (A1 : Option Addr) (c1 : Nat), k ≤ 16 ∧ k ≤ n ∧ i = .int .i64 (k : Int) ∧ Sp w F b b2 p q s r A1 c1 k wr) (fun _ i _ _ _ _ _ => n - (RowKit.intOf i).toNat)
      case atStart => exact ⟨0, _, _, A2, c2, by omega, by omega, rfl, SP7.out⟩
      case round =>
        obtain ⟨k, s1, r1, A1, c1, hk, hkn, rfl, st⟩ := hrel
        have SQ := Lib.hid st
        by_cases hlt : k < n
        · have hk' : (k : Int) < (n : Int) := by omega
          obtain ⟨ad, x, rfl, hka, hat0⟩ := HA.out.at_ (i := k) (by rw [HL.out]; exact hlt)
          have hat := hat0.below st.below
          have hlen := HF2.out k x hka
          have nF := Lib.hid (show ∀ g, g < w.heap.size → ¬ F.has g from fun g hg hx => by have := st.dk.based g hx; omega)
          obtain ⟨d0, d1, d2, d3, d4, a0, a1, _, _⟩ := st.cells
          have HS : wr.drew.cell? ⟨w.heap.size, 0, none⟩ = some (.int .i64 p) ∧ wr.drew.cell? ⟨w.heap.size, 1, none⟩ = some (.int .i64 q) ∧ wr.drew.cell? (ad.add (k * 9)) = some (.int .u8 (x.kind.toNat : Int)) ∧ wr.drew.cell? ⟨(ad.add (k * 9)).block, (ad.add (k * 9)).off + 1, none⟩ = some (.int .i64 x.n) ∧ wr.drew.cell? ⟨(ad.add (k * 9)).block, (ad.add (k * 9)).off + 2, none⟩ = some (.slice x.bA x.body.length x.bc) ∧ wr.drew.cell? ⟨(ad.add (k * 9)).block, (ad.add (k * 9)).off + 3, none⟩ = some (.int .u8 (x.d.kind.toNat : Int)) ∧ wr.drew.cell? ⟨(ad.add (k * 9)).block, (ad.add (k * 9)).off + 4, none⟩ = some (.int .i64 x.d.n) ∧ wr.drew.cell? ⟨(ad.add (k * 9)).block, (ad.add (k * 9)).off + 5, none⟩ = some (.int .u8 (x.d.c.toNat : Int)) ∧ wr.drew.cell? ⟨(ad.add (k * 9)).block, (ad.add (k * 9)).off + 6, none⟩ = some (.int .u8 (x.d.cut.toNat : Int)) ∧ wr.drew.cell? ⟨(ad.add (k * 9)).block, (ad.add (k * 9)).off + 7, none⟩ = some (.bool x.d.done) ∧ wr.drew.cell? ⟨(ad.add (k * 9)).block, (ad.add (k * 9)).off + 8, none⟩ = some (.slice x.d.fA x.d.fates.length x.d.fc) := ⟨a0, a1, hat.d0, hat.d1, hat.d2, (BcAt.dcells hat).1, (BcAt.dcells hat).2.1, (BcAt.dcells hat).2.2.1, (BcAt.dcells hat).2.2.2.1, (BcAt.dcells hat).2.2.2.2.1, (BcAt.dcells hat).2.2.2.2.2⟩
          have i0 : wr.drew.cell? ⟨b, 0, none⟩ = _ := d0
          have i1 : wr.drew.cell? ⟨b, 1, none⟩ = _ := d1
          have i2 : wr.drew.cell? ⟨b, 2, none⟩ = _ := d2
          have i3 : wr.drew.cell? ⟨b, 3, none⟩ = _ := d3
          have i4 : wr.drew.cell? ⟨b, 4, none⟩ = _ := d4
          have KDO := do4_any st.dk.drew A1 c1 r1 st.rs.drew st.tw (by have := st.calls; omega) ⟨p, q⟩ x hat.dd.rb.drew hat.dd.room hat.dd.most hat.dd.lo hat.dd.hi (fun hf ad e => nF.out _ (hat0.dd.flt hf ad e)) hat.rb.drew hlen (fun hf ad e => nF.out _ (RB.blt hat0.rb hf ad e))
          unfold rkV bcV Ar.v at KDO
          have KDO := Lib.hid KDO
          have SS := Lib.hid (fun (W : World) (h1 : W.heap[w.heap.size]? = wr.heap[w.heap.size]?) (h2 : ∀ g, g < w.heap.size → W.heap[g]? = wr.heap[g]?) => (show W.cell? ⟨w.heap.size, 0, none⟩ = some (.int .i64 p) ∧ W.cell? ⟨w.heap.size, 1, none⟩ = some (.int .i64 q) ∧ W.cell? (ad.add (k * 9)) = some (.int .u8 (x.kind.toNat : Int)) ∧ W.cell? ⟨(ad.add (k * 9)).block, (ad.add (k * 9)).off + 1, none⟩ = some (.int .i64 x.n) ∧ W.cell? ⟨(ad.add (k * 9)).block, (ad.add (k * 9)).off + 2, none⟩ = some (.slice x.bA x.body.length x.bc) ∧ W.cell? ⟨(ad.add (k * 9)).block, (ad.add (k * 9)).off + 3, none⟩ = some (.int .u8 (x.d.kind.toNat : Int)) ∧ W.cell? ⟨(ad.add (k * 9)).block, (ad.add (k * 9)).off + 4, none⟩ = some (.int .i64 x.d.n) ∧ W.cell? ⟨(ad.add (k * 9)).block, (ad.add (k * 9)).off + 5, none⟩ = some (.int .u8 (x.d.c.toNat : Int)) ∧ W.cell? ⟨(ad.add (k * 9)).block, (ad.add (k * 9)).off + 6, none⟩ = some (.int .u8 (x.d.cut.toNat : Int)) ∧ W.cell? ⟨(ad.add (k * 9)).block, (ad.add (k * 9)).off + 7, none⟩ = some (.bool x.d.done) ∧ W.cell? ⟨(ad.add (k * 9)).block, (ad.add (k * 9)).off + 8, none⟩ = some (.slice x.d.fA x.d.fates.length x.d.fc) from by
            have hp : (ad.add (k * 9)).block < w.heap.size := hat0.lt
            have e : ∀ q : Addr, q.block = (ad.add (k * 9)).block → W.cell? q = wr.cell? q := fun q hq => World.cell?_of_block (w := wr) (by rw [hq]; exact h2 _ hp)
            have ea : ∀ i, W.cell? ⟨w.heap.size, i, none⟩ = wr.cell? ⟨w.heap.size, i, none⟩ := fun i => World.cell?_of_block (w := wr) h1
            obtain ⟨e0, e1, e2, e3, e4, e5, e6, e7, e8, e9, e10⟩ := HS
            exact ⟨(ea 0).trans e0, (ea 1).trans e1, (e (ad.add (k * 9)) rfl).trans e2, (e ⟨(ad.add (k * 9)).block, (ad.add (k * 9)).off + 1, none⟩ rfl).trans e3, (e ⟨(ad.add (k * 9)).block, (ad.add (k * 9)).off + 2, none⟩ rfl).trans e4, (e ⟨(ad.add (k * 9)).block, (ad.add (k * 9)).off + 3, none⟩ rfl).trans e5, (e ⟨(ad.add (k * 9)).block, (ad.add (k * 9)).off + 4, none⟩ rfl).trans e6, (e ⟨(ad.add (k * 9)).block, (ad.add (k * 9)).off + 5, none⟩ rfl).trans e7, (e ⟨(ad.add (k * 9)).block, (ad.add (k * 9)).off + 6, none⟩ rfl).trans e8, (e ⟨(ad.add (k * 9)).block, (ad.add (k * 9)).off + 7, none⟩ rfl).trans e9, (e ⟨(ad.add (k * 9)).block, (ad.add (k * 9)).off + 8, none⟩ rfl).trans e10⟩))
          have HAT := Lib.hid hat
          have HAT0 := Lib.hid hat0
          clear st hat hat0 hka d0 d1 d2 d3 d4 a0 a1
          · go_wp2
            refine wp_region_any (by kernel_rfl) ?_
            change wpAny _ _ _ _ _ _ _ (World.drew _)
            refine wpAny_of_held (S := fun W => W.cell? ⟨w.heap.size, 0, none⟩ = some (.int .i64 p) ∧ W.cell? ⟨w.heap.size, 1, none⟩ = some (.int .i64 q) ∧ W.cell? (ad.add (k * 9)) = some (.int .u8 (x.kind.toNat : Int)) ∧ W.cell? ⟨(ad.add (k * 9)).block, (ad.add (k * 9)).off + 1, none⟩ = some (.int .i64 x.n) ∧ W.cell? ⟨(ad.add (k * 9)).block, (ad.add (k * 9)).off + 2, none⟩ = some (.slice x.bA x.body.length x.bc) ∧ W.cell? ⟨(ad.add (k * 9)).block, (ad.add (k * 9)).off + 3, none⟩ = some (.int .u8 (x.d.kind.toNat : Int)) ∧ W.cell? ⟨(ad.add (k * 9)).block, (ad.add (k * 9)).off + 4, none⟩ = some (.int .i64 x.d.n) ∧ W.cell? ⟨(ad.add (k * 9)).block, (ad.add (k * 9)).off + 5, none⟩ = some (.int .u8 (x.d.c.toNat : Int)) ∧ W.cell? ⟨(ad.add (k * 9)).block, (ad.add (k * 9)).off + 6, none⟩ = some (.int .u8 (x.d.cut.toNat : Int)) ∧ W.cell? ⟨(ad.add (k * 9)).block, (ad.add (k * 9)).off + 7, none⟩ = some (.bool x.d.done) ∧ W.cell? ⟨(ad.add (k * 9)).block, (ad.add (k * 9)).off + 8, none⟩ = some (.slice x.d.fA x.d.fates.length x.d.fc)) _ _ _ _ ?_
            refine takeH 0 48 (v := ?_) rfl rfl (by kernel_rfl) (by kernel_rfl) (by kernel_rfl) (fun _ _ _ h => h) HS (by rfl) ?_ ?_
            rotate_left
            · intro w' hSw
              obtain ⟨h0, h1, h2, h3, h4, h5, h6, h7, h8, h9, h10⟩ := hSw
              go_simp
              try (with_reducible rfl)
            simp only [Act.put, List.setIfInBounds_toArray, List.set_cons_zero, List.set_cons_succ]
            refine takeH 2 50 (v := ?_) rfl rfl (by kernel_rfl) (by kernel_rfl) (by kernel_rfl) (fun _ _ _ h => h) HS (by rfl) ?_ ?_
            rotate_left
            · intro w' hSw
              obtain ⟨h0, h1, h2, h3, h4, h5, h6, h7, h8, h9, h10⟩ := hSw
              go_simp
              try (with_reducible rfl)
            simp only [Act.put, List.setIfInBounds_toArray, List.set_cons_zero, List.set_cons_succ]
            refine takeH 3 51 (v := ?_) rfl rfl (by kernel_rfl) (by kernel_rfl) (by kernel_rfl) (fun _ _ _ h => h) HS (by rfl) ?_ ?_
            rotate_left
            · intro w' hSw
              obtain ⟨h0, h1, h2, h3, h4, h5, h6, h7, h8, h9, h10⟩ := hSw
              go_simp
              try (with_reducible rfl)
            simp only [Act.put, List.setIfInBounds_toArray, List.set_cons_zero, List.set_cons_succ]
            refine takeH 4 52 (v := ?_) rfl rfl (by kernel_rfl) (by kernel_rfl) (by kernel_rfl) (fun _ _ _ h => h) HS (by rfl) ?_ ?_
            rotate_left
            · intro w' hSw
              obtain ⟨h0, h1, h2, h3, h4, h5, h6, h7, h8, h9, h10⟩ := hSw
              go_simp
              try (with_reducible rfl)
            simp only [Act.put, List.setIfInBounds_toArray, List.set_cons_zero, List.set_cons_succ]
            refine takeH 5 53 (v := ?_) rfl rfl (by kernel_rfl) (by kernel_rfl) (by kernel_rfl) (fun _ _ _ h => h) HS (by rfl) ?_ ?_
            rotate_left
            · intro w' hSw
              obtain ⟨h0, h1, h2, h3, h4, h5, h6, h7, h8, h9, h10⟩ := hSw
              go_simp
              try (with_reducible rfl)
            simp only [Act.put, List.setIfInBounds_toArray, List.set_cons_zero, List.set_cons_succ]
            refine takeH 6 54 (v := ?_) rfl rfl (by kernel_rfl) (by kernel_rfl) (by kernel_rfl) (fun _ _ _ h => h) HS (by rfl) ?_ ?_
            rotate_left
            · intro w' hSw
              obtain ⟨h0, h1, h2, h3, h4, h5, h6, h7, h8, h9, h10⟩ := hSw
              go_simp
              try (with_reducible rfl)
            simp only [Act.put, List.setIfInBounds_toArray, List.set_cons_zero, List.set_cons_succ]
            refine wpAnyH_ready (rs := [1]) (by kernel_rfl) (by simp) ?_
            refine AllReadyH.cons rfl (fun K hK => ?_) AllReadyH.nil
            go_simp
            refine hK _ _ HS (fun _ => ?_)
            clear hK K
            refine wpAnyH_ready (rs := [7]) (by kernel_rfl) (by simp) ?_
            refine AllReadyH.cons rfl (fun K hK => ?_) AllReadyH.nil
            go_simp
            refine KDO.out.mono ?_
            rintro e w5 ⟨s5, r5, A5, c5, rfl, d5, rs5, t5, q5, l5, f5⟩
            have hA5 := f5.block w.heap.size (Array.getElem?_eq_some_iff.1 SQ.out.ba).1 nFa.out
            have hg5 := fun g (hg : g < w.heap.size) => f5.block g (Nat.lt_of_lt_of_le hg SQ.out.below.size) (nF.out g hg)
            have hX5 := (f5.block b (Array.getElem?_eq_some_iff.1 SQ.out.bx).1 nFb.out.1).trans SQ.out.bx
            have hB5 := (f5.block b2 (Array.getElem?_eq_some_iff.1 SQ.out.bb).1 nFb.out.2).trans SQ.out.bb
            have HS := SS.out w5 hA5 hg5
            refine hK _ _ HS (fun _ => ?_)
            clear hK K
            unfold rkV
            refine takeH 8 47 (v := ?_) rfl rfl (by kernel_rfl) (by kernel_rfl) (by kernel_rfl) (fun _ _ _ h => h) HS (by rfl) ?_ ?_
            rotate_left
            · intro w' hSw
              obtain ⟨h0, h1, h2, h3, h4, h5, h6, h7, h8, h9, h10⟩ := hSw
              go_simp
              try (with_reducible rfl)
            simp only [Act.put, List.setIfInBounds_toArray, List.set_cons_zero, List.set_cons_succ]
            refine takeH 9 56 (v := ?_) rfl rfl (by kernel_rfl) (by kernel_rfl) (by kernel_rfl) (fun _ _ _ h => h) HS (by rfl) ?_ ?_
            rotate_left
            · intro w' hSw
              obtain ⟨h0, h1, h2, h3, h4, h5, h6, h7, h8, h9, h10⟩ := hSw
              go_simp
              try (with_reducible rfl)
            simp only [Act.put, List.setIfInBounds_toArray, List.set_cons_zero, List.set_cons_succ]
            refine takeH 10 57 (v := ?_) rfl rfl (by kernel_rfl) (by kernel_rfl) (by kernel_rfl) (fun _ _ _ h => h) HS (by rfl) ?_ ?_
            rotate_left
            · intro w' hSw
              obtain ⟨h0, h1, h2, h3, h4, h5, h6, h7, h8, h9, h10⟩ := hSw
              go_simp
              try (with_reducible rfl)
            simp only [Act.put, List.setIfInBounds_toArray, List.set_cons_zero, List.set_cons_succ]
            have u0 : w5.cell? ⟨b, 0, none⟩ = _ := (cell_of_row w5 _ 0 _ _ _ hX5).trans rfl
            have u1 : w5.cell? ⟨b, 1, none⟩ = _ := (cell_of_row w5 _ 1 _ _ _ hX5).trans rfl
            have u2 : w5.cell? ⟨b, 2, none⟩ = _ := (cell_of_row w5 _ 2 _ _ _ hX5).trans rfl
            have u3 : w5.cell? ⟨b, 3, none⟩ = _ := (cell_of_row w5 _ 3 _ _ _ hX5).trans rfl
            have u4 : w5.cell? ⟨b, 4, none⟩ = _ := (cell_of_row w5 _ 4 _ _ _ hX5).trans rfl
            have fz : ∀ i, w5.frozen? ⟨b, i, none⟩ = false := fun i => by simp [World.frozen?, hX5]
            have fz0 := fz 0; have fz1 := fz 1; have fz2 := fz 2; have fz3 := fz 3; have fz4 := fz 4
            refine wpAnyH_ready (rs := [11]) (by kernel_rfl) (by simp) ?_
            refine AllReadyH.cons rfl (fun K hK => ?_) AllReadyH.nil
            go_simp
            have HS := SS.out (((((w5.setCell ⟨b, 0, none⟩ (.slice A5 r5.S.length c5)).setCell ⟨b, 1, none⟩ (.bool r5.off)).setCell ⟨b, 2, none⟩ (.int .i64 r5.calls)).setCell ⟨b, 3, none⟩ (.int .i64 r5.after)).setCell ⟨b, 4, none⟩ (.bool r5.done)) ((heap_set5_other w5 b w.heap.size (by omega) (.slice A5 r5.S.length c5) (.bool r5.off) (.int .i64 r5.calls) (.int .i64 r5.after) (.bool r5.done)).trans hA5) (fun g hg => (heap_set5_other w5 b g (by omega) (.slice A5 r5.S.length c5) (.bool r5.off) (.int .i64 r5.calls) (.int .i64 r5.after) (.bool r5.done)).trans (hg5 g hg))
            refine hK _ _ HS (fun _ => ?_)
            clear hK K
            refine takeH 12 11 (v := ?_) rfl rfl (by kernel_rfl) (by kernel_rfl) (by kernel_rfl) (fun _ _ _ h => h) HS (by rfl) ?_ ?_
            rotate_left
            · intro w' hSw
              obtain ⟨h0, h1, h2, h3, h4, h5, h6, h7, h8, h9, h10⟩ := hSw
              go_simp
              try (with_reducible rfl)
            simp only [Act.put, List.setIfInBounds_toArray, List.set_cons_zero, List.set_cons_succ]
            refine wpAnyH_done (by kernel_rfl) ?_ _
            have BW5 : Below w.heap.size w w5 := SQ.out.below.drew.trans (f5.below SQ.out.dk.based SQ.out.below.size)
            have SP5 : Hid (Sp w F b b2 p q s5 r5 A5 c5 (k + 1) (((((w5.setCell ⟨b, 0, none⟩ (.slice A5 r5.S.length c5)).setCell ⟨b, 1, none⟩ (.bool r5.off)).setCell ⟨b, 2, none⟩ (.int .i64 r5.calls)).setCell ⟨b, 3, none⟩ (.int .i64 r5.after)).setCell ⟨b, 4, none⟩ (.bool r5.done))) := Lib.hid ⟨d5.set5 nFb.out.1 _ _ _ _ _, rs5.set5 ((cell_of_row w5 _ 0 _ _ _ hX5).trans rfl) (fun t e => by cases e) _ _ _ _ _, t5, by have := SQ.out.calls; omega, heap_set5 hX5 _ _ _ _ _, (heap_set5_other w5 b w.heap.size (by omega) (.slice A5 r5.S.length c5) (.bool r5.off) (.int .i64 r5.calls) (.int .i64 r5.after) (.bool r5.done)).trans (hA5.trans SQ.out.ba), (heap_set5_other w5 b b2 (by have := HB2.out; omega) (.slice A5 r5.S.length c5) (.bool r5.off) (.int .i64 r5.calls) (.int .i64 r5.after) (.bool r5.done)).trans hB5, below_set5 BW5 (by omega) _ _ _ _ _⟩
            have CX := Lib.hid HS
            generalize (((((w5.setCell ⟨b, 0, none⟩ (.slice A5 r5.S.length c5)).setCell ⟨b, 1, none⟩ (.bool r5.off)).setCell ⟨b, 2, none⟩ (.int .i64 r5.calls)).setCell ⟨b, 3, none⟩ (.int .i64 r5.after)).setCell ⟨b, 4, none⟩ (.bool r5.done)) = V5 at *
            clear u0 u1 u2 u3 u4 fz fz0 fz1 fz2 fz3 fz4 hA5 hg5 hX5 hB5 d5 rs5 f5 BW5 HS
            have KB := Lib.hid (fun (W : World) (h : Below V5.heap.size V5 W) => bread_any (SP5.out.later h).dk ⟨p, q⟩ x.n)
            have KQ := Lib.hid (fun (W : World) (h : Below V5.heap.size V5 W) => refBread_any A5 c5 r5 ⟨p, q⟩ x.n W (by rw [SP5.out.tw.len]; exact SP5.out.dk.ok.many) (SP5.out.later h).rs (SP5.out.tw.rows SP5.out.dk.ok))
            rw [SP5.out.tw.bread] at KQ
            unfold rkV at KQ
            generalize (s5.bread ⟨p, q⟩ x.n).1 = lr at KB KQ
            generalize (s5.bread ⟨p, q⟩ x.n).2 = er at KB KQ
            have KB : Hid (∀ W, Below V5.heap.size V5 W → Calls Try.prog 28 #[.pointer (some ⟨F.b, 0, none⟩), .agg #[.int .i64 p, .int .i64 q], .int .i64 x.n] W fun e w' => ∃ v, e = .returned (.tuple #[v, .int .i64 (er : Int)]) ∧ OB W.heap.size w' v lr ∧ Below W.heap.size W w') := KB
            have KQ : Hid (∀ W, Below V5.heap.size V5 W → Calls Try.prog 29 #[.agg #[.slice A5 r5.S.length c5, .bool r5.off, .int .i64 r5.calls, .int .i64 r5.after, .bool r5.done], .agg #[.int .i64 p, .int .i64 q], .int .i64 x.n] W fun e w' => ∃ v, e = .returned (.tuple #[v, .int .i64 (er : Int)]) ∧ OB W.heap.size w' v lr ∧ Below W.heap.size W w') := KQ
            have CE := Lib.hid (fun (W : World) (h : Below V5.heap.size V5 W) => (show W.cell? ⟨b, 0, none⟩ = some (.slice A5 r5.S.length c5) ∧ W.cell? ⟨b, 1, none⟩ = some (.bool r5.off) ∧ W.cell? ⟨b, 2, none⟩ = some (.int .i64 r5.calls) ∧ W.cell? ⟨b, 3, none⟩ = some (.int .i64 r5.after) ∧ W.cell? ⟨b, 4, none⟩ = some (.bool r5.done) ∧ W.cell? ⟨w.heap.size, 0, none⟩ = some (.int .i64 p) ∧ W.cell? ⟨w.heap.size, 1, none⟩ = some (.int .i64 q) ∧ W.cell? ⟨b2, 0, none⟩ = some (.int .i64 p) ∧ W.cell? ⟨b2, 1, none⟩ = some (.int .i64 q) ∧ W.cell? ⟨(ad.add (k * 9)).block, (ad.add (k * 9)).off + 1, none⟩ = some (.int .i64 x.n) from by
              obtain ⟨e0, e1, e2, e3, e4, e5, e6, e7, e8⟩ := (SP5.out.later h).cells
              exact ⟨e0, e1, e2, e3, e4, e5, e6, e7, e8, (h.cell (p := ⟨(ad.add (k * 9)).block, (ad.add (k * 9)).off + 1, none⟩) (lt_of_cell CX.out.2.2.2.1)).trans CX.out.2.2.2.1⟩))
            have BV : Hid (Below V5.heap.size V5 V5.drew) := Lib.hid ((Below.refl _ V5).drew)
            have x0 := CE.out _ BV.out
            clear SS CX KDO t5 q5 l5 i0 i1 i2 i3 i4
            go_wp2
            go_region_held3 (fun W => W.cell? ⟨b, 0, none⟩ = some (.slice A5 r5.S.length c5) ∧ W.cell? ⟨b, 1, none⟩ = some (.bool r5.off) ∧ W.cell? ⟨b, 2, none⟩ = some (.int .i64 r5.calls) ∧ W.cell? ⟨b, 3, none⟩ = some (.int .i64 r5.after) ∧ W.cell? ⟨b, 4, none⟩ = some (.bool r5.done) ∧ W.cell? ⟨w.heap.size, 0, none⟩ = some (.int .i64 p) ∧ W.cell? ⟨w.heap.size, 1, none⟩ = some (.int .i64 q) ∧ W.cell? ⟨b2, 0, none⟩ = some (.int .i64 p) ∧ W.cell? ⟨b2, 1, none⟩ = some (.int .i64 q) ∧ W.cell? ⟨(ad.add (k * 9)).block, (ad.add (k * 9)).off + 1, none⟩ = some (.int .i64 x.n)) (first | with_reducible assumption | with_reducible exact x0 | with_reducible exact x6 | fail)
              (first
                | (go_at_call 28; refine (KB.out _ BV.out).mono ?_; rintro e w6 ⟨v6, rfl, o6, b6⟩; obtain ⟨A6, c6, rfl, hc6, r6⟩ := o6.form; have B6 := Lib.hid (BV.out.trans b6); have R6 := Lib.hid r6; have x6 := CE.out w6 B6.out; clear b6 o6 r6 hc6)
                | fail)
            all_goals
              clear x0 x6
              have BV6 := Lib.hid B6.out.drew
              have x0 := CE.out _ BV6.out
              go_wp2
              go_region_held3 (fun W => W.cell? ⟨b, 0, none⟩ = some (.slice A5 r5.S.length c5) ∧ W.cell? ⟨b, 1, none⟩ = some (.bool r5.off) ∧ W.cell? ⟨b, 2, none⟩ = some (.int .i64 r5.calls) ∧ W.cell? ⟨b, 3, none⟩ = some (.int .i64 r5.after) ∧ W.cell? ⟨b, 4, none⟩ = some (.bool r5.done) ∧ W.cell? ⟨w.heap.size, 0, none⟩ = some (.int .i64 p) ∧ W.cell? ⟨w.heap.size, 1, none⟩ = some (.int .i64 q) ∧ W.cell? ⟨b2, 0, none⟩ = some (.int .i64 p) ∧ W.cell? ⟨b2, 1, none⟩ = some (.int .i64 q) ∧ W.cell? ⟨(ad.add (k * 9)).block, (ad.add (k * 9)).off + 1, none⟩ = some (.int .i64 x.n)) (first | with_reducible assumption | with_reducible exact x0 | with_reducible exact x7 | fail)
                (first
                  | (go_at_call 29; refine (KQ.out _ BV6.out).mono ?_; rintro e w7 ⟨v7, rfl, o7, b7⟩; obtain ⟨A7, c7, rfl, hc7, r7⟩ := o7.form; have B7 := Lib.hid (BV6.out.trans (b7.mono BV6.out.size)); have R7 := Lib.hid r7; have R67 := Lib.hid (R6.out.below ((Below.refl _ w6).drew.trans b7)); have x7 := CE.out w7 B7.out; clear b7 o7 r7 hc7)
                  | fail)
            all_goals
              clear x0 x7
              have BV7 := Lib.hid B7.out.drew
              have RR := Lib.hid (fun (W : World) (h : Below w7.heap.size w7 W) => (show (convert 32 9 (.slice A6 lr.length c6)).run Try.prog W = .ok (.string (str lr)) W ∧ (convert 32 9 (.slice A7 lr.length c7)).run Try.prog W = .ok (.string (str lr)) W from ⟨run_str W A6 _ c6 lr rfl (R67.out.below h), run_str W A7 _ c7 lr rfl (R7.out.below h)⟩))
              have CF := Lib.hid (fun (W : World) (h : Below w7.heap.size w7 W) => (show W.cell? ⟨b, 0, none⟩ = some (.slice A5 r5.S.length c5) ∧ W.cell? ⟨b, 1, none⟩ = some (.bool r5.off) ∧ W.cell? ⟨b, 2, none⟩ = some (.int .i64 r5.calls) ∧ W.cell? ⟨b, 3, none⟩ = some (.int .i64 r5.after) ∧ W.cell? ⟨b, 4, none⟩ = some (.bool r5.done) ∧ W.cell? ⟨w.heap.size, 0, none⟩ = some (.int .i64 p) ∧ W.cell? ⟨w.heap.size, 1, none⟩ = some (.int .i64 q) ∧ W.cell? ⟨b2, 0, none⟩ = some (.int .i64 p) ∧ W.cell? ⟨b2, 1, none⟩ = some (.int .i64 q) ∧ W.cell? ⟨(ad.add (k * 9)).block, (ad.add (k * 9)).off + 1, none⟩ = some (.int .i64 x.n) ∧ (convert 32 9 (.slice A6 lr.length c6)).run Try.prog W = .ok (.string (str lr)) W ∧ (convert 32 9 (.slice A7 lr.length c7)).run Try.prog W = .ok (.string (str lr)) W from by
                obtain ⟨e0, e1, e2, e3, e4, e5, e6, e7, e8, e9⟩ := CE.out W (B7.out.trans (h.mono B7.out.size))
                exact ⟨e0, e1, e2, e3, e4, e5, e6, e7, e8, e9, RR.out W h⟩))
              have hss : ((str lr).toList == (str lr).toList) = true := by simp
              have dc : ((er : Int) != (er : Int)) = false := by simp
              have BW : Hid (Below w7.heap.size w7 w7.drew) := Lib.hid ((Below.refl _ w7).drew)
              have x0 := CF.out _ BW.out
              have KS := Lib.hid (fun (W : World) => sectors_rn ⟨p, q⟩ x.n W)
              have KT := Lib.hid (fun (W : World) => refSectors_rn ⟨p, q⟩ x.n W)
              have HLS := Lib.hid (Ar.secs_len ⟨p, q⟩ x.n)
              generalize Ar.secs ⟨p, q⟩ x.n = ls at KS KT HLS
              have KS : Hid (∀ W, Calls Try.prog 31 #[.agg #[.int .i64 p, .int .i64 q], .int .i64 x.n] W fun e w' => ∃ A c, e = .returned (.slice A ls.length c) ∧ RN w' A ls ∧ Below W.heap.size W w') := KS
              have KT : Hid (∀ W, Calls Try.prog 32 #[.agg #[.int .i64 p, .int .i64 q], .int .i64 x.n] W fun e w' => ∃ A c, e = .returned (.slice A ls.length c) ∧ RN w' A ls ∧ Below W.heap.size W w') := KT
              clear CE KB KQ BV BV6 R6 R67 R7 RR
              go_wp2
              go_region_held3 (fun W => W.cell? ⟨b, 0, none⟩ = some (.slice A5 r5.S.length c5) ∧ W.cell? ⟨b, 1, none⟩ = some (.bool r5.off) ∧ W.cell? ⟨b, 2, none⟩ = some (.int .i64 r5.calls) ∧ W.cell? ⟨b, 3, none⟩ = some (.int .i64 r5.after) ∧ W.cell? ⟨b, 4, none⟩ = some (.bool r5.done) ∧ W.cell? ⟨w.heap.size, 0, none⟩ = some (.int .i64 p) ∧ W.cell? ⟨w.heap.size, 1, none⟩ = some (.int .i64 q) ∧ W.cell? ⟨b2, 0, none⟩ = some (.int .i64 p) ∧ W.cell? ⟨b2, 1, none⟩ = some (.int .i64 q) ∧ W.cell? ⟨(ad.add (k * 9)).block, (ad.add (k * 9)).off + 1, none⟩ = some (.int .i64 x.n) ∧ (convert 32 9 (.slice A6 lr.length c6)).run Try.prog W = .ok (.string (str lr)) W ∧ (convert 32 9 (.slice A7 lr.length c7)).run Try.prog W = .ok (.string (str lr)) W) (first | with_reducible assumption | with_reducible exact x0 | with_reducible exact x8 | with_reducible exact x9 | with_reducible exact x10 | fail)
                (first
                  | (go_at_call 31; refine (KS.out _).mono ?_; rintro e w8 ⟨A8, c8, rfl, r8, b8⟩; have B8 := Lib.hid (BW.out.trans b8); have R8 := Lib.hid r8; have x8 := CF.out w8 B8.out; clear b8 r8)
                  | (go_at_call 32; refine (KT.out _).mono ?_; rintro e w9 ⟨A9, c9, rfl, r9, b9⟩; have B9 := Lib.hid (B8.out.trans (b9.mono B8.out.size)); have R9 := Lib.hid r9; have R89 := Lib.hid (R8.out.below b9); have x9 := CF.out w9 B9.out; clear b9 r9)
                  | (go_at_call 30; refine (sameInts_any A8 A9 c8 c9 ls _ HLS.out R89.out R9.out).mono ?_; rintro e w10 ⟨rfl, b10⟩; have B10 := Lib.hid (B9.out.trans (b10.mono B9.out.size)); have x10 := CF.out w10 B10.out; clear b10)
                  | fail)
            all_goals
              have SP9 := Lib.hid (SP5.out.later (B7.out.trans (B10.out.mono B7.out.size)))
              clear x0 x8 x9 x10 CF KS KT R8 R9 R89
              go_wp2
              go_roundw
              case rel => exact ⟨k + 1, s5, r5, A5, c5, by omega, by omega, by go_num, SP9.out⟩
              case measure => simp [RowKit.intOf]; omega
        · obtain rfl : k = n := by omega
          have KS := Lib.hid (fun (W : World) (h : Below wr.heap.size wr W) => same_any (st.later h).dk A1 c1 r1 (st.later h).rs st.tw)
          have KP := Lib.hid (fun (W : World) (h : Below wr.heap.size wr W) => sound_rn (st.later h).dk ⟨p, q⟩)
          have KR := Lib.hid (fun (W : World) (h : Below wr.heap.size wr W) => refSound_any A1 c1 r1 ⟨p, q⟩ W (by rw [st.tw.len]; exact st.dk.ok.many) (st.later h).rs (st.tw.rows st.dk.ok))
          have HLS := Lib.hid (Dk.sound_len s1 ⟨p, q⟩)
          rw [st.tw.sound] at KR
          unfold rkV at KS KR
          generalize s1.sound ⟨p, q⟩ = ls at KP KR HLS
          have KP : Hid (∀ W, Below wr.heap.size wr W → Calls Try.prog 33 #[.pointer (some ⟨F.b, 0, none⟩), .agg #[.int .i64 p, .int .i64 q]] W fun e w' => ∃ A c, e = .returned (.slice A ls.length c) ∧ RN w' A ls ∧ Below W.heap.size W w') := KP
          have KR : Hid (∀ W, Below wr.heap.size wr W → Calls Try.prog 34 #[.agg #[.slice A1 r1.S.length c1, .bool r1.off, .int .i64 r1.calls, .int .i64 r1.after, .bool r1.done], .agg #[.int .i64 p, .int .i64 q]] W fun e w' => ∃ A c, e = .returned (.slice A ls.length c) ∧ RN w' A ls ∧ Below W.heap.size W w') := KR
          have CC := Lib.hid (fun W (h : Below wr.heap.size wr W) => (st.later h).cells)
          have BV : Hid (Below wr.heap.size wr wr.drew) := Lib.hid ((Below.refl _ wr).drew)
          have x0 := CC.out _ BV.out
          clear st
          go_wp2
          go_region_held3 (fun W => W.cell? ⟨b, 0, none⟩ = some (.slice A1 r1.S.length c1) ∧ W.cell? ⟨b, 1, none⟩ = some (.bool r1.off) ∧ W.cell? ⟨b, 2, none⟩ = some (.int .i64 r1.calls) ∧ W.cell? ⟨b, 3, none⟩ = some (.int .i64 r1.after) ∧ W.cell? ⟨b, 4, none⟩ = some (.bool r1.done) ∧ W.cell? ⟨w.heap.size, 0, none⟩ = some (.int .i64 p) ∧ W.cell? ⟨w.heap.size, 1, none⟩ = some (.int .i64 q) ∧ W.cell? ⟨b2, 0, none⟩ = some (.int .i64 p) ∧ W.cell? ⟨b2, 1, none⟩ = some (.int .i64 q)) (first | with_reducible assumption | with_reducible exact x0 | with_reducible exact x5 | with_reducible exact x6 | with_reducible exact x7 | with_reducible exact x8 | with_reducible exact x9 | fail)
            (first
              | (go_at_call 12; refine (KS.out _ BV.out).mono ?_; rintro e w5 ⟨rfl, b5⟩; have B5 := Lib.hid (BV.out.trans b5); have x5 := CC.out w5 B5.out; clear b5)
              | (go_at_call 33; refine (KP.out _ B5.out).mono ?_; rintro e w6 ⟨A6, c6, rfl, r6, b6⟩; have B6 := Lib.hid (B5.out.trans (b6.mono B5.out.size)); have R6 := Lib.hid r6; have x6 := CC.out w6 B6.out; clear b6 r6)
              | (go_at_call 34; refine (KR.out _ B6.out).mono ?_; rintro e w7 ⟨A7, c7, rfl, r7, b7⟩; have B7 := Lib.hid (B6.out.trans (b7.mono B6.out.size)); have R7 := Lib.hid r7; have R67 := Lib.hid (R6.out.below b7); have x7 := CC.out w7 B7.out; clear b7 r7)
              | (go_at_call 30; refine (sameInts_any A6 A7 c6 c7 ls _ HLS.out R67.out R7.out).mono ?_; rintro e w8 ⟨rfl, b8⟩; have B8 := Lib.hid (B7.out.trans (b8.mono B7.out.size)); have x8 := CC.out w8 B8.out; clear b8)
              | (go_at_call 24; refine (awake4_any _).mono ?_; rintro e w9 ⟨rfl, b9⟩; have B9 := Lib.hid (B8.out.trans (b9.mono B8.out.size)); have x9 := CC.out w9 B9.out; clear b9)
              | fail)
          all_goals
            go_wp2
            go_ret
            exact ⟨rfl, SQ.out.below.trans (B9.out.mono SQ.out.below.size)⟩
end Go.Proofs.Ytidnpokjaklfpaa.blocksPlay
