/- The laws' function Do: Sync, Break and Power on both disks. -/
import Derived.Test.YtgnoodafaofkiaaRfQ
namespace Go.Proofs.Ytgnoodafaofkiaa
open Go.RowKit
set_option linter.unusedVariables false
theorem Dk.call_len (s : Dk) (upd : Dk → Dk) (h : ∀ t : Dk, (upd t).rows.length = t.rows.length) : (s.call upd).rows.length = s.rows.length := by
  unfold Dk.call
  split
  · show (if s.done = true then upd { s with calls := s.calls + 1 } else { s with calls := s.calls + 1 }).rows.length = _
    split
    · rw [h]
    · rfl
  · rw [h]
theorem Dk.call_calls' (s : Dk) (upd : Dk → Dk) (h : ∀ t : Dk, (upd t).calls = t.calls) : (s.call upd).calls ≤ s.calls + 1 := by
  unfold Dk.call
  repeat (first | split | simp [h])
theorem Dk.sync_calls (s : Dk) : s.sync.calls ≤ s.calls + 1 := by
  unfold Dk.sync
  split
  · omega
  · exact Dk.call_calls' _ _ fun t => rfl
theorem Dk.sync_len (s : Dk) : s.sync.rows.length = s.rows.length := by
  unfold Dk.sync
  split
  · rfl
  · exact Dk.call_len _ _ fun t => by show ((List.range t.rows.length).map t.at_).length = _; simp
theorem Dk.brk_calls (s : Dk) (n : Int) (d : Bool) : (s.brk n d).calls ≤ s.calls + 1 := by
  unfold Dk.brk
  split
  · omega
  · show s.calls ≤ _; omega
theorem Dk.brk_len (s : Dk) (n : Int) (d : Bool) : (s.brk n d).rows.length = s.rows.length := by
  unfold Dk.brk
  split <;> rfl
theorem Rk.brk_S (r : Rk) (n : Int) (d : Bool) : (r.brk n d).S = r.S := by
  unfold Rk.brk
  split <;> rfl
theorem Dk.power_calls (s : Dk) (f : List UInt8) : (s.power f).calls ≤ s.calls + 1 := by show s.calls ≤ _; omega
theorem Dk.power_len (s : Dk) (f : List UInt8) : (s.power f).rows.length = s.rows.length := powerGo_length _ _ _
theorem Dk.write_calls' (s : Dk) (n : Int) (l : List UInt8) : (s.write n l).calls ≤ s.calls + 1 := by
  unfold Dk.write
  split
  · omega
  · exact Dk.call_calls' _ _ fun t => rfl
theorem Dk.write_len (s : Dk) (n : Int) (l : List UInt8) : (s.write n l).rows.length = s.rows.length := by
  unfold Dk.write
  split
  · rfl
  · exact Dk.call_len _ _ fun t => rfl
set_option maxHeartbeats 1000000 in
set_option maxRecDepth 100000 in
theorem do_sync {base : Nat} {F : Ft} {w : World} {s : Dk} (h : DkAt base F w s) (A : Option Addr) (c : Nat) (r : Rk) (hr : RS w A r.S) (ht : Twin s r) (hcalls : s.calls < 4611686018427387900) (a : Ac) (hrb : RB w a.fA a.fates) (hroom : a.fates.length ≤ a.fc) (hmost : a.fc ≤ maxLen) (hlo : -9223372036854775808 ≤ a.n) (hhi : a.n ≤ 9223372036854775807) (hne : a.fates ≠ [] → ∀ ad, a.fA = some ad → ¬ F.has ad.block) (hk : a.kind.toNat % 8 = 5) :
    Calls Try.prog 11 #[.pointer (some ⟨F.b, 0, none⟩), rkV A c r, acV a] w (DoPost base F w s) := by
  have X0 := Lib.hid (Bx.mk3 w #[.slice A r.S.length c, .bool r.off, .int .i64 r.calls, .int .i64 r.after, .bool r.done] #[.int .u8 (a.kind.toNat : Int), .int .i64 a.n, .int .u8 (a.c.toNat : Int), .int .u8 (a.cut.toNat : Int), .bool a.done, .slice a.fA a.fates.length a.fc])
  have B0 := Lib.hid ((((Below.refl _ w).alloc (Nat.le_refl _) (.cells #[.slice A r.S.length c, .bool r.off, .int .i64 r.calls, .int .i64 r.after, .bool r.done] 28)).alloc (by rw [heap_size_alloc]; omega) (.cells #[.int .u8 (a.kind.toNat : Int), .int .i64 a.n, .int .u8 (a.c.toNat : Int), .int .u8 (a.cut.toNat : Int), .bool a.done, .slice a.fA a.fates.length a.fc] 34)).alloc (by rw [heap_size_alloc, heap_size_alloc]; omega) (.cells #[.slice none 0 0, .bool false, .int .i64 0, .int .i64 0, .bool false] 28))
  have IN := Lib.hid h.inside
  have D0 := Lib.hid h
  have R0 := Lib.hid hr
  have TW := Lib.hid ht
  have OK := Lib.hid h.ok
  have RBF := Lib.hid hrb
  have HNE := Lib.hid hne
  have zk0 : 0 ≤ (a.kind.toNat : Int) := by omega
  have zk1 : (a.kind.toNat : Int) < 256 := by have := a.kind.toNat_lt; omega
  have LL := Lib.hid ht.len
  have h4096 : Hid (r.S.length ≤ 4096) := Lib.hid (by rw [ht.len]; exact h.ok.many)
  have hca : Hid (0 ≤ r.calls ∧ r.calls ≤ 4611686018427387904) := Lib.hid (by rw [ht.calls]; omega)
  unfold rkV acV
  have t5 : ((a.kind.toNat : Int) % 8 == 5) = true := by simp; omega
  have EE := Lib.hid ht.sync.2
  clear h hr ht hrb hne
  go_enter Try.func11, Try.ntmps11
  go_wp2_with fail
  have XX := X0.out
  obtain ⟨i0, i1, i2, i3, i4, i5⟩ := XX.c1
  clear XX
  generalize ((w.alloc (.cells #[.slice A r.S.length c, .bool r.off, .int .i64 r.calls, .int .i64 r.after, .bool r.done] 28)).alloc (.cells #[.int .u8 (a.kind.toNat : Int), .int .i64 a.n, .int .u8 (a.c.toNat : Int), .int .u8 (a.cut.toNat : Int), .bool a.done, .slice a.fA a.fates.length a.fc] 34)).alloc (.cells #[.slice none 0 0, .bool false, .int .i64 0, .int .i64 0, .bool false] 28) = V0 at *
  have K1 := sync_any (D0.out.below B0.out) (by omega)
  refine K1.mono ?_
  clear K1
  rintro e1 w1 ⟨rfl, h1, f1⟩
  have X1 := Lib.hid (X0.out.frm f1 IN.out)
  have F1 := Lib.hid ((Frm.of_below B0.out).trans f1)
  have R1 := Lib.hid ((R0.out.below B0.out).frm f1 ((D0.out.below B0.out).rs_out (R0.out.below B0.out) LL.out))
  have D1 := Lib.hid h1
  clear h1 f1 i0 i1 i2 i3 i4 i5
  obtain ⟨j0, j1, j2, j3, j4⟩ := X1.out.c0
  obtain ⟨i0, i1, i2, i3, i4, i5⟩ := X1.out.c1
  go_wp2_with fail
  have K2 := refSync_any A c r w1 h4096.out R1.out hca.out.1 hca.out.2 TW.out.lo (TW.out.hi OK.out)
  unfold rkV at K2
  rw [EE.out] at K2
  refine K2.mono ?_
  clear K2
  rintro e2 w2 ⟨v, rfl, hv, b2⟩
  obtain ⟨A2, c2, rfl, rs2⟩ := hv
  have X2 := Lib.hid (X1.out.below b2)
  have F2 := Lib.hid (F1.out.trans (Frm.of_below b2))
  have FIN := Lib.hid (fun p0 p1 p2 p3 p4 q0 q1 q2 q3 q4 ha => do_last (c2 := c2) (D1.out.below b2) rs2 TW.out.sync.1 (Dk.sync_calls s) (Dk.sync_len s) F2.out IN.out X2.out (fun t e => by cases e) p0 p1 p2 p3 p4 q0 q1 q2 q3 q4 ha)
  clear rs2 b2 j0 j1 j2 j3 j4 i0 i1 i2 i3 i4 i5
  obtain ⟨j0, j1, j2, j3, j4⟩ := X2.out.c0
  obtain ⟨o0, o1, o2, o3, o4⟩ := X2.out.c2
  have g0 := X2.out.f0 0; have g1 := X2.out.f0 1; have g2 := X2.out.f0 2; have g3 := X2.out.f0 3; have g4 := X2.out.f0 4
  have e0 := X2.out.f2 0; have e1 := X2.out.f2 1; have e2 := X2.out.f2 2; have e3 := X2.out.f2 3; have e4 := X2.out.f2 4
  have nb5 : w.heap.size ≠ w.heap.size + 2 := by omega
  unfold rkV at *
  generalize r.sync = R at *
  obtain ⟨S2, off2, calls2, after2, done2⟩ := R
  simp only at FIN ⊢
  go_wp2
  refine bodyPost_ret (v := .tuple #[.agg #[.slice A2 S2.length c2, .bool off2, .int .i64 calls2, .int .i64 after2, .bool done2], .int .i64 0]) (by simp [results, Try.results11, go_sem, o0, o1, o2, o3, o4]) rfl ?_
  exact FIN.out _ _ _ _ _ _ _ _ _ _ (fun t e => by cases e)
set_option maxHeartbeats 1000000 in
set_option maxRecDepth 100000 in
theorem do_break {base : Nat} {F : Ft} {w : World} {s : Dk} (h : DkAt base F w s) (A : Option Addr) (c : Nat) (r : Rk) (hr : RS w A r.S) (ht : Twin s r) (hcalls : s.calls < 4611686018427387900) (a : Ac) (hrb : RB w a.fA a.fates) (hroom : a.fates.length ≤ a.fc) (hmost : a.fc ≤ maxLen) (hlo : -9223372036854775808 ≤ a.n) (hhi : a.n ≤ 9223372036854775807) (hne : a.fates ≠ [] → ∀ ad, a.fA = some ad → ¬ F.has ad.block) (hk : a.kind.toNat % 8 = 6) :
    Calls Try.prog 11 #[.pointer (some ⟨F.b, 0, none⟩), rkV A c r, acV a] w (DoPost base F w s) := by
  have X0 := Lib.hid (Bx.mk3 w #[.slice A r.S.length c, .bool r.off, .int .i64 r.calls, .int .i64 r.after, .bool r.done] #[.int .u8 (a.kind.toNat : Int), .int .i64 a.n, .int .u8 (a.c.toNat : Int), .int .u8 (a.cut.toNat : Int), .bool a.done, .slice a.fA a.fates.length a.fc])
  have B0 := Lib.hid ((((Below.refl _ w).alloc (Nat.le_refl _) (.cells #[.slice A r.S.length c, .bool r.off, .int .i64 r.calls, .int .i64 r.after, .bool r.done] 28)).alloc (by rw [heap_size_alloc]; omega) (.cells #[.int .u8 (a.kind.toNat : Int), .int .i64 a.n, .int .u8 (a.c.toNat : Int), .int .u8 (a.cut.toNat : Int), .bool a.done, .slice a.fA a.fates.length a.fc] 34)).alloc (by rw [heap_size_alloc, heap_size_alloc]; omega) (.cells #[.slice none 0 0, .bool false, .int .i64 0, .int .i64 0, .bool false] 28))
  have IN := Lib.hid h.inside
  have D0 := Lib.hid h
  have R0 := Lib.hid hr
  have TW := Lib.hid ht
  have OK := Lib.hid h.ok
  have RBF := Lib.hid hrb
  have HNE := Lib.hid hne
  have zk0 : 0 ≤ (a.kind.toNat : Int) := by omega
  have zk1 : (a.kind.toNat : Int) < 256 := by have := a.kind.toNat_lt; omega
  have LL := Lib.hid ht.len
  have h4096 : Hid (r.S.length ≤ 4096) := Lib.hid (by rw [ht.len]; exact h.ok.many)
  have hca : Hid (0 ≤ r.calls ∧ r.calls ≤ 4611686018427387904) := Lib.hid (by rw [ht.calls]; omega)
  unfold rkV acV
  have t5 : ((a.kind.toNat : Int) % 8 == 5) = false := by simp; omega
  have t6 : ((a.kind.toNat : Int) % 8 == 6) = true := by simp; omega
  have EE := Lib.hid (ht.brk a.n a.done).2
  clear h hr ht hrb hne
  go_enter Try.func11, Try.ntmps11
  go_wp2_with fail
  have XX := X0.out
  obtain ⟨i0, i1, i2, i3, i4, i5⟩ := XX.c1
  clear XX
  generalize ((w.alloc (.cells #[.slice A r.S.length c, .bool r.off, .int .i64 r.calls, .int .i64 r.after, .bool r.done] 28)).alloc (.cells #[.int .u8 (a.kind.toNat : Int), .int .i64 a.n, .int .u8 (a.c.toNat : Int), .int .u8 (a.cut.toNat : Int), .bool a.done, .slice a.fA a.fates.length a.fc] 34)).alloc (.cells #[.slice none 0 0, .bool false, .int .i64 0, .int .i64 0, .bool false] 28) = V0 at *
  have K1 := break_any (D0.out.below B0.out) a.n a.done hhi
  refine K1.mono ?_
  clear K1
  rintro e1 w1 ⟨rfl, h1, f1⟩
  have X1 := Lib.hid (X0.out.frm f1 IN.out)
  have F1 := Lib.hid ((Frm.of_below B0.out).trans f1)
  have R1 := Lib.hid ((R0.out.below B0.out).frm f1 ((D0.out.below B0.out).rs_out (R0.out.below B0.out) LL.out))
  have D1 := Lib.hid h1
  clear h1 f1 i0 i1 i2 i3 i4 i5
  obtain ⟨j0, j1, j2, j3, j4⟩ := X1.out.c0
  obtain ⟨i0, i1, i2, i3, i4, i5⟩ := X1.out.c1
  go_wp2_with fail
  have K2 := refBreak_any A c r a.n a.done w1
  unfold rkV at K2
  rw [EE.out] at K2
  refine K2.mono ?_
  clear K2
  rintro e2 w2 ⟨rfl, b2⟩
  have hv : ∃ A2 c2, Value.agg #[.slice A (r.brk a.n a.done).S.length c, .bool (r.brk a.n a.done).off, .int .i64 (r.brk a.n a.done).calls, .int .i64 (r.brk a.n a.done).after, .bool (r.brk a.n a.done).done] = rkV A2 c2 (r.brk a.n a.done) ∧ RS w2 A2 (r.brk a.n a.done).S := ⟨A, c, rfl, by rw [Rk.brk_S]; exact R1.out.below b2⟩
  obtain ⟨A2, c2, ev, rs2⟩ := hv
  rw [ev]
  clear ev
  have X2 := Lib.hid (X1.out.below b2)
  have F2 := Lib.hid (F1.out.trans (Frm.of_below b2))
  have FIN := Lib.hid (fun p0 p1 p2 p3 p4 q0 q1 q2 q3 q4 ha => do_last (c2 := c2) (D1.out.below b2) rs2 (TW.out.brk a.n a.done).1 (Dk.brk_calls s a.n a.done) (Dk.brk_len s a.n a.done) F2.out IN.out X2.out (fun t e => by cases e) p0 p1 p2 p3 p4 q0 q1 q2 q3 q4 ha)
  clear rs2 b2 j0 j1 j2 j3 j4 i0 i1 i2 i3 i4 i5
  obtain ⟨j0, j1, j2, j3, j4⟩ := X2.out.c0
  obtain ⟨o0, o1, o2, o3, o4⟩ := X2.out.c2
  have g0 := X2.out.f0 0; have g1 := X2.out.f0 1; have g2 := X2.out.f0 2; have g3 := X2.out.f0 3; have g4 := X2.out.f0 4
  have e0 := X2.out.f2 0; have e1 := X2.out.f2 1; have e2 := X2.out.f2 2; have e3 := X2.out.f2 3; have e4 := X2.out.f2 4
  have nb5 : w.heap.size ≠ w.heap.size + 2 := by omega
  unfold rkV at *
  generalize r.brk a.n a.done = R at *
  obtain ⟨S2, off2, calls2, after2, done2⟩ := R
  simp only at FIN ⊢
  go_wp2
  refine bodyPost_ret (v := .tuple #[.agg #[.slice A2 S2.length c2, .bool off2, .int .i64 calls2, .int .i64 after2, .bool done2], .int .i64 0]) (by simp [results, Try.results11, go_sem, o0, o1, o2, o3, o4]) rfl ?_
  exact FIN.out _ _ _ _ _ _ _ _ _ _ (fun t e => by cases e)
set_option maxHeartbeats 1000000 in
set_option maxRecDepth 100000 in
theorem do_power {base : Nat} {F : Ft} {w : World} {s : Dk} (h : DkAt base F w s) (A : Option Addr) (c : Nat) (r : Rk) (hr : RS w A r.S) (ht : Twin s r) (hcalls : s.calls < 4611686018427387900) (a : Ac) (hrb : RB w a.fA a.fates) (hroom : a.fates.length ≤ a.fc) (hmost : a.fc ≤ maxLen) (hlo : -9223372036854775808 ≤ a.n) (hhi : a.n ≤ 9223372036854775807) (hne : a.fates ≠ [] → ∀ ad, a.fA = some ad → ¬ F.has ad.block) (hk : a.kind.toNat % 8 = 7) :
    Calls Try.prog 11 #[.pointer (some ⟨F.b, 0, none⟩), rkV A c r, acV a] w (DoPost base F w s) := by
  have X0 := Lib.hid (Bx.mk3 w #[.slice A r.S.length c, .bool r.off, .int .i64 r.calls, .int .i64 r.after, .bool r.done] #[.int .u8 (a.kind.toNat : Int), .int .i64 a.n, .int .u8 (a.c.toNat : Int), .int .u8 (a.cut.toNat : Int), .bool a.done, .slice a.fA a.fates.length a.fc])
  have B0 := Lib.hid ((((Below.refl _ w).alloc (Nat.le_refl _) (.cells #[.slice A r.S.length c, .bool r.off, .int .i64 r.calls, .int .i64 r.after, .bool r.done] 28)).alloc (by rw [heap_size_alloc]; omega) (.cells #[.int .u8 (a.kind.toNat : Int), .int .i64 a.n, .int .u8 (a.c.toNat : Int), .int .u8 (a.cut.toNat : Int), .bool a.done, .slice a.fA a.fates.length a.fc] 34)).alloc (by rw [heap_size_alloc, heap_size_alloc]; omega) (.cells #[.slice none 0 0, .bool false, .int .i64 0, .int .i64 0, .bool false] 28))
  have IN := Lib.hid h.inside
  have D0 := Lib.hid h
  have R0 := Lib.hid hr
  have TW := Lib.hid ht
  have OK := Lib.hid h.ok
  have RBF := Lib.hid hrb
  have HNE := Lib.hid hne
  have zk0 : 0 ≤ (a.kind.toNat : Int) := by omega
  have zk1 : (a.kind.toNat : Int) < 256 := by have := a.kind.toNat_lt; omega
  have LL := Lib.hid ht.len
  have h4096 : Hid (r.S.length ≤ 4096) := Lib.hid (by rw [ht.len]; exact h.ok.many)
  have hca : Hid (0 ≤ r.calls ∧ r.calls ≤ 4611686018427387904) := Lib.hid (by rw [ht.calls]; omega)
  unfold rkV acV
  have t5 : ((a.kind.toNat : Int) % 8 == 5) = false := by simp; omega
  have t6 : ((a.kind.toNat : Int) % 8 == 6) = false := by simp; omega
  have t7 : ((a.kind.toNat : Int) % 8 == 7) = true := by simp; omega
  clear h hr ht hrb hne
  go_enter Try.func11, Try.ntmps11
  go_wp2_with fail
  have XX := X0.out
  obtain ⟨i0, i1, i2, i3, i4, i5⟩ := XX.c1
  clear XX
  generalize ((w.alloc (.cells #[.slice A r.S.length c, .bool r.off, .int .i64 r.calls, .int .i64 r.after, .bool r.done] 28)).alloc (.cells #[.int .u8 (a.kind.toNat : Int), .int .i64 a.n, .int .u8 (a.c.toNat : Int), .int .u8 (a.cut.toNat : Int), .bool a.done, .slice a.fA a.fates.length a.fc] 34)).alloc (.cells #[.slice none 0 0, .bool false, .int .i64 0, .int .i64 0, .bool false] 28) = V0 at *
  have K1 := power_any (D0.out.below B0.out) a.fA a.fates.length a.fc a.fates rfl hroom (Nat.le_trans hroom hmost) (RBF.out.below B0.out) HNE.out
  refine K1.mono ?_
  clear K1
  rintro e1 w1 ⟨rfl, h1, f1⟩
  have RB1 := Lib.hid (show RB w1 a.fA a.fates from by
    by_cases hf : a.fates = []
    · exact .inl hf
    · have r0 := RBF.out.below B0.out
      rcases hA : a.fA with _ | ad
      · rw [hA] at r0
        rcases r0 with e | ⟨ad, e, _⟩
        · exact absurd e hf
        · cases e
      · rw [hA] at r0
        exact f1.rb r0 (HNE.out hf ad hA))
  have X1 := Lib.hid (X0.out.frm f1 IN.out)
  have F1 := Lib.hid ((Frm.of_below B0.out).trans f1)
  have R1 := Lib.hid ((R0.out.below B0.out).frm f1 ((D0.out.below B0.out).rs_out (R0.out.below B0.out) LL.out))
  have D1 := Lib.hid h1
  clear h1 f1 i0 i1 i2 i3 i4 i5
  obtain ⟨j0, j1, j2, j3, j4⟩ := X1.out.c0
  obtain ⟨i0, i1, i2, i3, i4, i5⟩ := X1.out.c1
  go_wp2_with fail
  have K2 := refPower_any A c r a.fA a.fates.length a.fc a.fates w1 h4096.out R1.out (TW.out.rows OK.out) rfl hroom (Nat.le_trans hroom hmost) RB1.out
  unfold rkV at K2
  refine K2.mono ?_
  clear K2
  rintro e2 w2 ⟨v, rfl, hv, b2⟩
  obtain ⟨A2, c2, rfl, rs2⟩ := hv
  have X2 := Lib.hid (X1.out.below b2)
  have F2 := Lib.hid (F1.out.trans (Frm.of_below b2))
  have FIN := Lib.hid (fun p0 p1 p2 p3 p4 q0 q1 q2 q3 q4 ha => do_last (c2 := c2) (D1.out.below b2) rs2 (TW.out.power a.fates) (Dk.power_calls s a.fates) (Dk.power_len s a.fates) F2.out IN.out X2.out (fun t e => by cases e) p0 p1 p2 p3 p4 q0 q1 q2 q3 q4 ha)
  clear rs2 b2 j0 j1 j2 j3 j4 i0 i1 i2 i3 i4 i5
  obtain ⟨j0, j1, j2, j3, j4⟩ := X2.out.c0
  obtain ⟨o0, o1, o2, o3, o4⟩ := X2.out.c2
  have g0 := X2.out.f0 0; have g1 := X2.out.f0 1; have g2 := X2.out.f0 2; have g3 := X2.out.f0 3; have g4 := X2.out.f0 4
  have e0 := X2.out.f2 0; have e1 := X2.out.f2 1; have e2 := X2.out.f2 2; have e3 := X2.out.f2 3; have e4 := X2.out.f2 4
  have nb5 : w.heap.size ≠ w.heap.size + 2 := by omega
  unfold rkV at *
  generalize r.power a.fates = R at *
  obtain ⟨S2, off2, calls2, after2, done2⟩ := R
  simp only at FIN ⊢
  go_wp2
  refine bodyPost_ret (v := .tuple #[.agg #[.slice A2 S2.length c2, .bool off2, .int .i64 calls2, .int .i64 after2, .bool done2], .int .i64 0]) (by simp [results, Try.results11, go_sem, o0, o1, o2, o3, o4]) rfl ?_
  exact FIN.out _ _ _ _ _ _ _ _ _ _ (fun t e => by cases e)
end Go.Proofs.Ytgnoodafaofkiaa
