/- The laws' function Do: Write on both disks. -/
import Derived.Test.YtidnpokjaklfpaaRfR
namespace Go.Proofs.Ytidnpokjaklfpaa
open Go.RowKit
set_option linter.unusedVariables false
theorem do_last2 {base : Nat} {F : Ft} {w w2 : World} {s s' : Dk} {r' : Rk} {A2 : Option Addr} {c2 : Nat} {x y : Array Value} (hd : DkAt base F w2 s') (hr : RS w2 A2 r'.S) (ht : Twin s' r') (hc : s'.calls ≤ s.calls + 1) (hl : s'.rows.length = s.rows.length) (hf : Frm F.has w w2) (hin : ∀ k, F.has k → k < w.heap.size)
    (hb : Bx w.heap.size x y w2) (b0 b1 b2 b3 b4 : Value) : DoPost base F w s (.returned (.tuple #[rkV A2 c2 r', .int .i64 0])) (set5 w2 (w.heap.size + 2) b0 b1 b2 b3 b4) := by
  have n6 : ¬ F.has (w.heap.size + 2) := fun h => by have := hin _ h; omega
  refine ⟨s', r', A2, c2, rfl, hd.set5 n6 _ _ _ _ _, ?_, ht, hc, hl, hf.set5 (by omega) _ _ _ _ _⟩
  exact hr.set5 hb.c2.1 (fun t e => by cases e) _ _ _ _ _
theorem Frm.setOut {X : Nat → Prop} {w W : World} (h : Frm X w W) (p : Addr) (hp : w.heap.size ≤ p.block) (v : Value) : Frm X w (W.setCell p v) := by
  have q := (Below.refl 0 W).setCell (p := p) (Nat.zero_le _) v
  exact ⟨q.os.trans h.os, q.tape.trans h.tape, q.output.trans h.output, Nat.le_trans h.size q.size, fun k hk hx => (Below.heap_setCell _ _ _ _ (by omega)).trans (h.block k hk hx)⟩
theorem DkAt.setOut {base : Nat} {F : Ft} {W : World} {s : Dk} (h : DkAt base F W s) (p : Addr) (hp : ¬ F.has p.block) (v : Value) : DkAt base F (W.setCell p v) s :=
  h.kept fun k hk => Below.heap_setCell _ _ _ _ (fun e => hp (by rw [← e]; exact hk))
theorem RS.setOut {W : World} {A : Option Addr} {S : List Sx} (h : RS W A S) (p : Addr) (hp : S ≠ [] → ∀ ad, A = some ad → ad.block ≠ p.block) (v : Value) : RS (W.setCell p v) A S := by
  by_cases hS : S = []
  · exact .inl hS
  · rcases h with e | ⟨g, rfl, hc⟩
    · exact .inl e
    · have hg := hp hS ⟨g, 0, none⟩ rfl
      refine .inr ⟨g, rfl, fun j u hj => ?_⟩
      have one : (W.setCell p v).cell? ⟨g, j, none⟩ = W.cell? ⟨g, j, none⟩ := World.cell?_of_block (w := W) (Below.heap_setCell _ _ _ _ hg)
      exact one.trans (hc j u hj)
theorem Bx.setOut {b : Nat} {x y : Array Value} {W : World} (h : Bx b x y W) (p : Addr) (hp : b + 2 < p.block) (v : Value) : Bx b x y (W.setCell p v) :=
  ⟨(Below.heap_setCell _ _ _ _ (by omega)).trans h.b0, (Below.heap_setCell _ _ _ _ (by omega)).trans h.b1, (Below.heap_setCell _ _ _ _ (by omega)).trans h.b2⟩
/-- While the bytes that were written are changed. -/
structure Wr (base : Nat) (F : Ft) (w : World) (B g : Nat) (s' : Dk) (r' : Rk) (A2 : Option Addr) (x y : Array Value) (L : List UInt8) (wr : World) : Prop where
  own : OB B wr (.slice (some ⟨g, 0, none⟩) 256 256) L
  len : L.length = 256
  dk : DkAt base F wr s'
  rs : RS wr A2 r'.S
  bx : Bx w.heap.size x y wr
  frm : Frm F.has w wr
theorem Wr.set {base : Nat} {F : Ft} {w : World} {B g : Nat} {s' : Dk} {r' : Rk} {A2 : Option Addr} {x y : Array Value} {L : List UInt8} {wr : World} (h : Wr base F w B g s' r' A2 x y L wr) (hg : w.heap.size + 2 < g) (hF : ¬ F.has g) {k : Nat} (hk : k < 256) (v : UInt8) (z : Int) (hz : z = (v.toNat : Int)) : Wr base F w B g s' r' A2 x y (L.set k v) (wr.setCell ⟨g, k, none⟩ (.int .u8 z)) := by
  have hL := h.len
  obtain ⟨_, _, _, _, hset⟩ := h.own.atg _ (List.getElem?_eq_getElem (show k < L.length by omega))
  obtain ⟨_, _, hc0, _, _⟩ := h.own.atg _ (List.getElem?_eq_getElem (show 0 < L.length by omega))
  exact ⟨hset v z hz, by rw [List.length_set]; exact hL, h.dk.setOut _ hF _, h.rs.setOut _ (fun hS ad hA => h.rs.ne_block hS hA hc0 (fun t e => by cases e)) _, h.bx.setOut _ hg _, h.frm.setOut _ (by show w.heap.size ≤ g; omega) _⟩
theorem OB.of_block {B g n c : Nat} {w w' : World} {L : List UInt8} (h : OB B w (.slice (some ⟨g, 0, none⟩) n c) L) (hk : w'.heap[g]? = w.heap[g]?) : OB B w' (.slice (some ⟨g, 0, none⟩) n c) L := by
  unfold OB at *
  refine ⟨h.1, ?_⟩
  rcases h.2 with h | ⟨g', cap, cur, e, hb, hh, r⟩
  · exact .inl h
  · refine .inr ⟨g', cap, cur, e, hb, ?_, r⟩
    injection e with e1
    injection e1 with e1
    injection e1 with e1
    subst e1
    exact hk.trans hh
theorem OB_set5 {B b g n c : Nat} {W : World} {L : List UInt8} (h : OB B W (.slice (some ⟨g, 0, none⟩) n c) L) (hb : b + 2 < g) (a0 a1 a2 a3 a4 : Value) : OB B (set5 W b a0 a1 a2 a3 a4) (.slice (some ⟨g, 0, none⟩) n c) L :=
  h.of_block (heap_set5_other W b g (by omega) a0 a1 a2 a3 a4)
set_option maxHeartbeats 1000000 in
set_option maxRecDepth 100000 in
theorem do_write {base : Nat} {F : Ft} {w : World} {s : Dk} (h : DkAt base F w s) (A : Option Addr) (c : Nat) (r : Rk) (hr : RS w A r.S) (ht : Twin s r) (hcalls : s.calls < 4611686018427387900) (a : Ac) (hrb : RB w a.fA a.fates) (hroom : a.fates.length ≤ a.fc) (hmost : a.fc ≤ maxLen) (hlo : -9223372036854775808 ≤ a.n) (hhi : a.n ≤ 9223372036854775807) (hne : a.fates ≠ [] → ∀ ad, a.fA = some ad → ¬ F.has ad.block) (hk : a.kind.toNat % 8 < 5) :
    Calls Try.prog 11 #[.pointer (some ⟨F.b, 0, none⟩), rkV A c r, acV a] w (DoPost base F w s) := by
  have X0 := Lib.hid (Bx.mk3 w #[.slice A r.S.length c, .bool r.off, .int .i64 r.calls, .int .i64 r.after, .bool r.done] #[.int .u8 (a.kind.toNat : Int), .int .i64 a.n, .int .u8 (a.c.toNat : Int), .int .u8 (a.cut.toNat : Int), .bool a.done, .slice a.fA a.fates.length a.fc])
  have B0 := Lib.hid ((((Below.refl _ w).alloc (Nat.le_refl _) (.cells #[.slice A r.S.length c, .bool r.off, .int .i64 r.calls, .int .i64 r.after, .bool r.done] 28)).alloc (by rw [heap_size_alloc]; omega) (.cells #[.int .u8 (a.kind.toNat : Int), .int .i64 a.n, .int .u8 (a.c.toNat : Int), .int .u8 (a.cut.toNat : Int), .bool a.done, .slice a.fA a.fates.length a.fc] 34)).alloc (by rw [heap_size_alloc, heap_size_alloc]; omega) (.cells #[.slice none 0 0, .bool false, .int .i64 0, .int .i64 0, .bool false] 28))
  have IN := Lib.hid h.inside
  have D0 := Lib.hid h
  have R0 := Lib.hid hr
  have TW := Lib.hid ht
  have OK := Lib.hid h.ok
  have RBF := Lib.hid hrb
  have HNE := Lib.hid hne
  have zk0 : 0 ≤ (a.kind.toNat : Int) := by omega
  have zk1 : (a.kind.toNat : Int) < 256 := by have := a.kind.toNat_lt; omega
  have LL := Lib.hid ht.len
  have h4096 : Hid (r.S.length ≤ 4096) := Lib.hid (by rw [ht.len]; exact h.ok.many)
  have hca : Hid (0 ≤ r.calls ∧ r.calls ≤ 4611686018427387904) := Lib.hid (by rw [ht.calls]; omega)
  unfold rkV acV
  have t5 : ((a.kind.toNat : Int) % 8 == 5) = false := by simp; omega
  have t6 : ((a.kind.toNat : Int) % 8 == 6) = false := by simp; omega
  have t7 : ((a.kind.toNat : Int) % 8 == 7) = false := by simp; omega
  clear h hr ht hrb hne
  go_enter Try.func11, Try.ntmps11
  go_wp2_with fail
  have XX := X0.out
  obtain ⟨i0, i1, i2, i3, i4, i5⟩ := XX.c1
  clear XX
  generalize ((w.alloc (.cells #[.slice A r.S.length c, .bool r.off, .int .i64 r.calls, .int .i64 r.after, .bool r.done] 28)).alloc (.cells #[.int .u8 (a.kind.toNat : Int), .int .i64 a.n, .int .u8 (a.c.toNat : Int), .int .u8 (a.cut.toNat : Int), .bool a.done, .slice a.fA a.fates.length a.fc] 34)).alloc (.cells #[.slice none 0 0, .bool false, .int .i64 0, .int .i64 0, .bool false] 28) = V0 at *
  refine (full_any a.c _ rfl V0).mono ?_
  rintro e1 w1 ⟨g, rfl, hg, o1, b1⟩
  have R9 := Lib.hid (show (oneB a.c)[9]? = some a.c from rfl)
  obtain ⟨_, hgl, hc9, hf9, hs9⟩ := o1.atg _ R9.out
  have HS9 := Lib.hid hs9
  have X1 := Lib.hid (X0.out.below b1)
  have hgb : Hid (w.heap.size + 2 < g) := Lib.hid (by have := X0.out.size; omega)
  have gF : Hid (¬ F.has g) := Lib.hid (fun hx => by have := IN.out g hx; have := hgb.out; omega)
  have nF4 : Hid (¬ F.has w.heap.size) := Lib.hid (fun hx => by have := IN.out _ hx; omega)
  have B1 := Lib.hid (B0.out.trans (b1.mono B0.out.size))
  have hzc := a.c.toNat_lt
  have hzt := a.cut.toNat_lt
  clear hs9 o1 b1 i0 i1 i2 i3 i4 i5
  obtain ⟨i0, i1, i2, i3, i4, i5⟩ := X1.out.c1
  have nbg : g ≠ w.heap.size + 1 := by have := hgb.out; omega
  go_upto_region 5 with fail
  have B2 : Hid (Below w.heap.size w (w1.setCell ⟨g, 9, none⟩ (.int .u8 (((a.c.toNat : Int) + 1) % 256)))) := Lib.hid (B1.out.setCell (p := ⟨g, 9, none⟩) (by show w.heap.size ≤ g; have := hgb.out; omega) _)
  have O2 : Hid (OB V0.heap.size (w1.setCell ⟨g, 9, none⟩ (.int .u8 (((a.c.toNat : Int) + 1) % 256))) (.slice (some ⟨g, 0, none⟩) 256 256) ((oneB a.c).set 9 (UInt8.ofNat (a.c.toNat + 1)))) := Lib.hid (HS9.out _ _ (by rw [ofNat_toNat]; omega))
  have X2 := Lib.hid (X1.out.setOut ⟨g, 9, none⟩ hgb.out (.int .u8 (((a.c.toNat : Int) + 1) % 256)))
  have gl : Hid (g < (w1.setCell ⟨g, 9, none⟩ (.int .u8 (((a.c.toNat : Int) + 1) % 256))).heap.size) := Lib.hid (by simp [World.setCell]; exact hgl)
  generalize w1.setCell ⟨g, 9, none⟩ (.int .u8 (((a.c.toNat : Int) + 1) % 256)) = W2 at *
  have HL1 : Hid (((oneB a.c).set 9 (UInt8.ofNat (a.c.toNat + 1))).length = 256) := Lib.hid (by rw [List.length_set, oneB_len])
  generalize (oneB a.c).set 9 (UInt8.ofNat (a.c.toNat + 1)) = L1 at *
  have D2 := Lib.hid (D0.out.below B2.out)
  have R2 := Lib.hid (R0.out.below B2.out)
  have F2 := Lib.hid (Frm.of_below (X := F.has) B2.out)
  clear HS9 R9 X1 B1 hc9 hf9 i0 i1 i2 i3 i4 i5
  obtain ⟨i0, i1, i2, i3, i4, i5⟩ := X2.out.c1
  by_cases hcut : 0 < a.cut.toNat
  · have hcut' : (0 : Int) < (a.cut.toNat : Int) := by omega
    have hcut2 : (a.cut.toNat : Int) ≤ 256 := by omega
    have HLW := Lib.hid (show (L1.take a.cut.toNat).length = a.cut.toNat from by rw [List.length_take, HL1.out]; omega)
    have RW := Lib.hid (show RB W2 (some ⟨g, 0, none⟩) (L1.take a.cut.toNat) from O2.out.reads.take _)
    have TWW := Lib.hid (TW.out.write a.n (L1.take a.cut.toNat))
    have EEW := Lib.hid (TW.out.writeErr a.n (L1.take a.cut.toNat))
    have CWW := Lib.hid (Dk.write_calls' s a.n (L1.take a.cut.toNat))
    have LWW := Lib.hid (Dk.write_len s a.n (L1.take a.cut.toNat))
    have KD := Lib.hid (write_any D2.out (by omega) a.n (some ⟨g, 0, none⟩) a.cut.toNat 256 (L1.take a.cut.toNat) HLW.out RW.out (fun ad e => by injection e with e; subst e; exact gF.out))
    have KR := Lib.hid (fun W (h1 : RS W A r.S) (h2 : RB W (some ⟨g, 0, none⟩) (L1.take a.cut.toNat)) => refWrite_any A c r a.n (some ⟨g, 0, none⟩) a.cut.toNat 256 (L1.take a.cut.toNat) W h4096.out h1 HLW.out h2 hca.out.1 hca.out.2 TW.out.lo (TW.out.hi OK.out))
    unfold rkV at KR
    rw [EEW.out] at KR
    go_wp2_with fail
    refine KD.out.mono ?_
    rintro e1 w3 ⟨rfl, h3, f3⟩
    have X3 := Lib.hid (X2.out.frm f3 IN.out)
    have F3 := Lib.hid (F2.out.trans f3)
    have R3 := Lib.hid (R2.out.frm f3 (D2.out.rs_out R2.out LL.out))
    have RW3 := Lib.hid (f3.rb RW.out gF.out)
    have O3 := Lib.hid (show OB V0.heap.size w3 (.slice (some ⟨g, 0, none⟩) 256 256) _ from O2.out.of_block (f3.block g gl.out gF.out))
    have D3 := Lib.hid h3
    clear h3 f3 KD i0 i1 i2 i3 i4 i5
    obtain ⟨j0, j1, j2, j3, j4⟩ := X3.out.c0
    obtain ⟨i0, i1, i2, i3, i4, i5⟩ := X3.out.c1
    go_wp2_with fail
    refine (KR.out _ R3.out RW3.out).mono ?_
    rintro e2 w4 ⟨v, rfl, hv, b4⟩
    obtain ⟨A2, c2, rfl, rs4⟩ := hv
    have X4 := Lib.hid (X3.out.below b4)
    have O4 := O3.out.keep b4 (Nat.le_refl _)
    have F4 := F3.out.trans (Frm.of_below b4)
    have D4 := D3.out.below b4
    clear KR b4 j0 j1 j2 j3 j4 i0 i1 i2 i3 i4 i5
    obtain ⟨j0, j1, j2, j3, j4⟩ := X4.out.c0
    have q0 := X4.out.f0 0; have q1 := X4.out.f0 1; have q2 := X4.out.f0 2; have q3 := X4.out.f0 3; have q4 := X4.out.f0 4
    unfold rkV at *
    generalize r.write a.n (L1.take a.cut.toNat) = R at *
    generalize s.write a.n (L1.take a.cut.toNat) = s' at *
    generalize s.writeErr a.n (L1.take a.cut.toNat) = er at *
    generalize HLL1 : L1.take a.cut.toNat = lw at *
    obtain ⟨S2, off2, calls2, after2, done2⟩ := R
    have hc0 := (O4.atg _ (List.getElem?_eq_getElem (show 0 < L1.length by rw [HL1.out]; omega))).2.2.1
    have WST := Lib.hid (show Wr base F w V0.heap.size g s' ⟨S2, off2, calls2, after2, done2⟩ A2 #[.slice A2 S2.length c2, .bool off2, .int .i64 calls2, .int .i64 after2, .bool done2] #[.int .u8 (a.kind.toNat : Int), .int .i64 a.n, .int .u8 (a.c.toNat : Int), .int .u8 (a.cut.toNat : Int), .bool a.done, .slice a.fA a.fates.length a.fc] L1 (set5 w4 w.heap.size (.slice A2 S2.length c2) (.bool off2) (.int .i64 calls2) (.int .i64 after2) (.bool done2)) from ⟨OB_set5 O4 hgb.out _ _ _ _ _, HL1.out, D4.set5 nF4.out _ _ _ _ _, rs4.set5 X4.out.c0.1 (fun t e => by cases e) _ _ _ _ _, X4.out.set _ _ _ _ _, F4.set5 (Nat.le_refl _) _ _ _ _ _⟩)
    clear O4 F4 D4 rs4 hc0
    simp only
    go_wp2
    go_loopw [11] (fun i wr => ∃ (k : Nat) (L : List UInt8), k ≤ a.cut.toNat ∧ i = .int .i64 (k : Int) ∧ Wr base F w V0.heap.size g s' ⟨S2, off2, calls2, after2, done2⟩ A2 #[.slice A2 S2.length c2, .bool off2, .int .i64 calls2, .int .i64 after2, .bool done2] #[.int .u8 (a.kind.toNat : Int), .int .i64 a.n, .int .u8 (a.c.toNat : Int), .int .u8 (a.cut.toNat : Int), .bool a.done, .slice a.fA a.fates.length a.fc] L wr) (fun i _ => a.cut.toNat - (RowKit.intOf i).toNat)
    case atStart => exact ⟨0, L1, Nat.zero_le _, rfl, WST.out⟩
    case round =>
      obtain ⟨k, L, hk, rfl, st⟩ := hrel
      have ST := Lib.hid st
      by_cases hlt : k < a.cut.toNat
      · have hk' : (k : Int) < ((a.cut.toNat : Nat) : Int) := by omega
        have hk256 : k < 256 := by omega
        obtain ⟨_, _, y0, y1, _⟩ := st.own.atg _ (List.getElem?_eq_getElem (show k < L.length by rw [st.len]; exact hk256))
        generalize L[k]'_ = z at *
        have hz0 := z.toNat_lt
        clear st
        go_wp2
        go_roundw
        case rel => exact ⟨k + 1, L.set k (UInt8.ofNat (z.toNat + 1)), by omega, by go_num, ST.out.set hgb.out gF.out hk256 _ _ (by rw [ofNat_toNat]; omega)⟩
        case measure => simp [RowKit.intOf]; omega
      · obtain rfl : k = a.cut.toNat := by omega
        obtain ⟨u0, u1, u2, u3, u4⟩ := st.bx.c0
        obtain ⟨o0, o1, o2, o3, o4⟩ := st.bx.c2
        have e0 := st.bx.f2 0; have e1 := st.bx.f2 1; have e2 := st.bx.f2 2; have e3 := st.bx.f2 3; have e4 := st.bx.f2 4
        have nb5 : w.heap.size ≠ w.heap.size + 2 := by omega
        have FIN := Lib.hid (fun p0 p1 p2 p3 p4 => do_last2 (s := s) (c2 := c2) st.dk st.rs TWW.out CWW.out LWW.out st.frm IN.out st.bx p0 p1 p2 p3 p4)
        unfold rkV at FIN
        clear st
        go_wp2
        refine bodyPost_ret (v := .tuple #[.agg #[.slice A2 S2.length c2, .bool off2, .int .i64 calls2, .int .i64 after2, .bool done2], .int .i64 0]) (by simp [results, Try.results11, go_sem, o0, o1, o2, o3, o4]) rfl ?_
        exact FIN.out _ _ _ _ _
  · have hcut' : (a.cut.toNat : Int) = 0 := by omega
    have HLW := Lib.hid (show (L1).length = 256 from HL1.out)
    have RW := Lib.hid (show RB W2 (some ⟨g, 0, none⟩) (L1) from O2.out.reads)
    have TWW := Lib.hid (TW.out.write a.n (L1))
    have EEW := Lib.hid (TW.out.writeErr a.n (L1))
    have CWW := Lib.hid (Dk.write_calls' s a.n (L1))
    have LWW := Lib.hid (Dk.write_len s a.n (L1))
    have KD := Lib.hid (write_any D2.out (by omega) a.n (some ⟨g, 0, none⟩) 256 256 (L1) HLW.out RW.out (fun ad e => by injection e with e; subst e; exact gF.out))
    have KR := Lib.hid (fun W (h1 : RS W A r.S) (h2 : RB W (some ⟨g, 0, none⟩) (L1)) => refWrite_any A c r a.n (some ⟨g, 0, none⟩) 256 256 (L1) W h4096.out h1 HLW.out h2 hca.out.1 hca.out.2 TW.out.lo (TW.out.hi OK.out))
    unfold rkV at KR
    rw [EEW.out] at KR
    go_wp2_with fail
    refine KD.out.mono ?_
    rintro e1 w3 ⟨rfl, h3, f3⟩
    have X3 := Lib.hid (X2.out.frm f3 IN.out)
    have F3 := Lib.hid (F2.out.trans f3)
    have R3 := Lib.hid (R2.out.frm f3 (D2.out.rs_out R2.out LL.out))
    have RW3 := Lib.hid (f3.rb RW.out gF.out)
    have O3 := Lib.hid (show OB V0.heap.size w3 (.slice (some ⟨g, 0, none⟩) 256 256) _ from O2.out.of_block (f3.block g gl.out gF.out))
    have D3 := Lib.hid h3
    clear h3 f3 KD i0 i1 i2 i3 i4 i5
    obtain ⟨j0, j1, j2, j3, j4⟩ := X3.out.c0
    obtain ⟨i0, i1, i2, i3, i4, i5⟩ := X3.out.c1
    go_wp2_with fail
    refine (KR.out _ R3.out RW3.out).mono ?_
    rintro e2 w4 ⟨v, rfl, hv, b4⟩
    obtain ⟨A2, c2, rfl, rs4⟩ := hv
    have X4 := Lib.hid (X3.out.below b4)
    have O4 := O3.out.keep b4 (Nat.le_refl _)
    have F4 := F3.out.trans (Frm.of_below b4)
    have D4 := D3.out.below b4
    clear KR b4 j0 j1 j2 j3 j4 i0 i1 i2 i3 i4 i5
    obtain ⟨j0, j1, j2, j3, j4⟩ := X4.out.c0
    have q0 := X4.out.f0 0; have q1 := X4.out.f0 1; have q2 := X4.out.f0 2; have q3 := X4.out.f0 3; have q4 := X4.out.f0 4
    unfold rkV at *
    generalize r.write a.n (L1) = R at *
    generalize s.write a.n (L1) = s' at *
    generalize s.writeErr a.n (L1) = er at *
    skip
    obtain ⟨S2, off2, calls2, after2, done2⟩ := R
    have hc0 := (O4.atg _ (List.getElem?_eq_getElem (show 0 < L1.length by rw [HL1.out]; omega))).2.2.1
    have WST := Lib.hid (show Wr base F w V0.heap.size g s' ⟨S2, off2, calls2, after2, done2⟩ A2 #[.slice A2 S2.length c2, .bool off2, .int .i64 calls2, .int .i64 after2, .bool done2] #[.int .u8 (a.kind.toNat : Int), .int .i64 a.n, .int .u8 (a.c.toNat : Int), .int .u8 (a.cut.toNat : Int), .bool a.done, .slice a.fA a.fates.length a.fc] L1 (set5 w4 w.heap.size (.slice A2 S2.length c2) (.bool off2) (.int .i64 calls2) (.int .i64 after2) (.bool done2)) from ⟨OB_set5 O4 hgb.out _ _ _ _ _, HL1.out, D4.set5 nF4.out _ _ _ _ _, rs4.set5 X4.out.c0.1 (fun t e => by cases e) _ _ _ _ _, X4.out.set _ _ _ _ _, F4.set5 (Nat.le_refl _) _ _ _ _ _⟩)
    clear O4 F4 D4 rs4 hc0
    simp only
    go_wp2
    go_loopw [11] (fun i wr => ∃ (k : Nat) (L : List UInt8), k ≤ 256 ∧ i = .int .i64 (k : Int) ∧ Wr base F w V0.heap.size g s' ⟨S2, off2, calls2, after2, done2⟩ A2 #[.slice A2 S2.length c2, .bool off2, .int .i64 calls2, .int .i64 after2, .bool done2] #[.int .u8 (a.kind.toNat : Int), .int .i64 a.n, .int .u8 (a.c.toNat : Int), .int .u8 (a.cut.toNat : Int), .bool a.done, .slice a.fA a.fates.length a.fc] L wr) (fun i _ => 256 - (RowKit.intOf i).toNat)
    case atStart => exact ⟨0, L1, Nat.zero_le _, rfl, WST.out⟩
    case round =>
      obtain ⟨k, L, hk, rfl, st⟩ := hrel
      have ST := Lib.hid st
      by_cases hlt : k < 256
      · have hk' : (k : Int) < 256 := by omega
        have hk256 : k < 256 := by omega
        obtain ⟨_, _, y0, y1, _⟩ := st.own.atg _ (List.getElem?_eq_getElem (show k < L.length by rw [st.len]; exact hk256))
        generalize L[k]'_ = z at *
        have hz0 := z.toNat_lt
        clear st
        go_wp2
        go_roundw
        case rel => exact ⟨k + 1, L.set k (UInt8.ofNat (z.toNat + 1)), by omega, by go_num, ST.out.set hgb.out gF.out hk256 _ _ (by rw [ofNat_toNat]; omega)⟩
        case measure => simp [RowKit.intOf]; omega
      · obtain rfl : k = 256 := by omega
        obtain ⟨u0, u1, u2, u3, u4⟩ := st.bx.c0
        obtain ⟨o0, o1, o2, o3, o4⟩ := st.bx.c2
        have e0 := st.bx.f2 0; have e1 := st.bx.f2 1; have e2 := st.bx.f2 2; have e3 := st.bx.f2 3; have e4 := st.bx.f2 4
        have nb5 : w.heap.size ≠ w.heap.size + 2 := by omega
        have FIN := Lib.hid (fun p0 p1 p2 p3 p4 => do_last2 (s := s) (c2 := c2) st.dk st.rs TWW.out CWW.out LWW.out st.frm IN.out st.bx p0 p1 p2 p3 p4)
        unfold rkV at FIN
        clear st
        go_wp2
        refine bodyPost_ret (v := .tuple #[.agg #[.slice A2 S2.length c2, .bool off2, .int .i64 calls2, .int .i64 after2, .bool done2], .int .i64 0]) (by simp [results, Try.results11, go_sem, o0, o1, o2, o3, o4]) rfl ?_
        exact FIN.out _ _ _ _ _
end Go.Proofs.Ytidnpokjaklfpaa
