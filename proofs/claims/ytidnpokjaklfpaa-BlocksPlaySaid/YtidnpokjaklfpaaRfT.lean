/- The laws' functions Do, whole, and Same: both disks tell the same. -/
import Derived.Test.YtidnpokjaklfpaaRfS
namespace Go.Proofs.Ytidnpokjaklfpaa
open Go.RowKit
set_option linter.unusedVariables false
theorem do_any {base : Nat} {F : Ft} {w : World} {s : Dk} (h : DkAt base F w s) (A : Option Addr) (c : Nat) (r : Rk) (hr : RS w A r.S) (ht : Twin s r) (hcalls : s.calls < 4611686018427387900) (a : Ac) (hrb : RB w a.fA a.fates) (hroom : a.fates.length ≤ a.fc) (hmost : a.fc ≤ maxLen) (hlo : -9223372036854775808 ≤ a.n) (hhi : a.n ≤ 9223372036854775807) (hne : a.fates ≠ [] → ∀ ad, a.fA = some ad → ¬ F.has ad.block) :
    Calls Try.prog 11 #[.pointer (some ⟨F.b, 0, none⟩), rkV A c r, acV a] w (DoPost base F w s) := by
  by_cases h5 : a.kind.toNat % 8 = 5
  · exact do_sync h A c r hr ht hcalls a hrb hroom hmost hlo hhi hne h5
  · by_cases h6 : a.kind.toNat % 8 = 6
    · exact do_break h A c r hr ht hcalls a hrb hroom hmost hlo hhi hne h6
    · by_cases h7 : a.kind.toNat % 8 = 7
      · exact do_power h A c r hr ht hcalls a hrb hroom hmost hlo hhi hne h7
      · exact do_write h A c r hr ht hcalls a hrb hroom hmost hlo hhi hne (by omega)
theorem RN.below {w w' : World} {A : Option Addr} {l : List Nat} (h : RN w A l) (hb : Below w.heap.size w w') : RN w' A l := h.keep fun p hp _ => hb.cell hp
theorem RN.at_ {w : World} {A : Option Addr} {l : List Nat} (h : RN w A l) {k : Nat} (hk : k < l.length) : ∃ ad, A = some ad ∧ w.cell? (ad.add k) = some (.int .i64 ((l[k] : Nat) : Int)) := by
  rcases h with e | ⟨ad, e, hc⟩
  · rw [e] at hk; simp at hk
  · exact ⟨ad, e, hc k l[k] (List.getElem?_eq_getElem hk)⟩
theorem RN.ofOwn {base : Nat} {w : World} {v : Value} {L : List Nat} (h : w.ownsRow base 3 1 v L.length (rowN L)) : ∃ A c, v = .slice A L.length c ∧ RN w A L := by
  rcases h.2 with ⟨e, h0⟩ | ⟨g, cap, cur, e, _⟩
  · have : L = [] := List.eq_nil_of_length_eq_zero h0
    exact ⟨none, 0, by rw [e, h0], .inl this⟩
  · subst e
    refine ⟨_, cap, rfl, .inr ⟨_, rfl, fun j k hj => ?_⟩⟩
    exact World.ownsRow.cells h (g := g) rfl j _ (by simp [rowN, hj])
/-- What stays while both are looked at. -/
structure Sm (base : Nat) (F : Ft) (s : Dk) (w : World) (A A5 A6 : Option Addr) (S : List Sx) (L : List Nat) (x : Array Value) (wr : World) : Prop where
  dk : DkAt base F wr s
  rs : RS wr A S
  n5 : RN wr A5 L
  n6 : RN wr A6 L
  bx : wr.heap[w.heap.size]? = some (.cells x 28 (0, 0))
  below : Below w.heap.size w wr
theorem Sm.drewN {base : Nat} {F : Ft} {s : Dk} {w : World} {A A5 A6 : Option Addr} {S : List Sx} {L : List Nat} {x : Array Value} {wr : World} (h : Sm base F s w A A5 A6 S L x wr) (n : Nat) : Sm base F s w A A5 A6 S L x (wr.drewN n) :=
  ⟨h.dk.drewN n, h.rs, h.n5, h.n6, h.bx, ⟨h.below.os, h.below.tape, h.below.output, h.below.size, h.below.block⟩⟩
theorem Sm.later {base : Nat} {F : Ft} {s : Dk} {w : World} {A A5 A6 : Option Addr} {S : List Sx} {L : List Nat} {x : Array Value} {wr W : World} (h : Sm base F s w A A5 A6 S L x wr) (hb : Below wr.heap.size wr W) : Sm base F s w A A5 A6 S L x W :=
  ⟨h.dk.below hb, h.rs.below hb, h.n5.below hb, h.n6.below hb, (hb.block _ (Array.getElem?_eq_some_iff.1 h.bx).1).trans h.bx, h.below.trans (hb.mono h.below.size)⟩
set_option maxHeartbeats 2000000 in
set_option maxRecDepth 100000 in
theorem same_any {base : Nat} {F : Ft} {w : World} {s : Dk} (h : DkAt base F w s) (A : Option Addr) (c : Nat) (r : Rk) (hr : RS w A r.S) (ht : Twin s r) :
    Calls Try.prog 12 #[.pointer (some ⟨F.b, 0, none⟩), rkV A c r] w fun e w' => e = .returned (.int .i64 0) ∧ Below w.heap.size w w' := by
  have h4096 : r.S.length ≤ 4096 := by rw [ht.len]; exact h.ok.many
  obtain ⟨N, hN⟩ : ∃ N, N = s.rows.length := ⟨_, rfl⟩
  have ev : rkV A c r = .agg #[.slice A N c, .bool s.off, .int .i64 (s.calls : Int), .int .i64 r.after, .bool r.done] := by unfold rkV; rw [ht.len, ht.off, ht.calls, hN]
  have HRD := Lib.hid (fun n => ht.reads n)
  have HAT := Lib.hid (fun n => ht.at n)
  have KRW : Hid (∀ W, RS W A r.S → Calls Try.prog 41 #[.agg #[.slice A N c, .bool s.off, .int .i64 (s.calls : Int), .int .i64 r.after, .bool r.done]] W fun e w' => ∃ v, e = .returned v ∧ w'.ownsRow (W.heap.size + 1) 3 1 v s.waits.length (rowN s.waits) ∧ Below W.heap.size W w') := Lib.hid fun W hw => by
    have k := refWaits_any A c r W h4096 hw
    rw [ht.waits, ev] at k
    exact k
  have KRR : Hid (∀ W n, RS W A r.S → Calls Try.prog 42 #[.agg #[.slice A N c, .bool s.off, .int .i64 (s.calls : Int), .int .i64 r.after, .bool r.done], .int .i64 n] W fun e w' => e = .returned (.tuple #[.string (str (s.reads n)), .int .i64 (s.faultAt n : Int)]) ∧ Below W.heap.size W w') := Lib.hid fun W n hw => by
    have k := refRead_any A c r n W h4096 hw
    rw [ht.reads, ht.at, ev] at k
    exact k
  have hm : N ≤ 4096 := by rw [hN]; exact h.ok.many
  rw [ev]
  have R0 := Lib.hid hr
  have D0 := Lib.hid h
  have HN := Lib.hid hN
  have B0 := Lib.hid (((Below.refl _ w).alloc (Nat.le_refl _) (.cells #[.slice A N c, .bool s.off, .int .i64 (s.calls : Int), .int .i64 r.after, .bool r.done] 28)).drew)
  have X0 := Lib.hid (heap_alloc_last w (.cells #[.slice A N c, .bool s.off, .int .i64 (s.calls : Int), .int .i64 r.after, .bool r.done] 28))
  clear ev hN h hr ht h4096 HRD HAT
  go_enter Try.func12, Try.ntmps12
  go_wp2
  generalize w.alloc (.cells #[.slice A N c, .bool s.off, .int .i64 (s.calls : Int), .int .i64 r.after, .bool r.done] 28) = V0 at *
  have KDW := Lib.hid (waits_any (D0.out.below B0.out))
  have X0d := Lib.hid (show V0.drew.heap[w.heap.size]? = some (.cells #[.slice A N c, .bool s.off, .int .i64 (s.calls : Int), .int .i64 r.after, .bool r.done] 28 (0, 0)) from X0.out)
  have cc : ∀ W : World, W.heap[w.heap.size]? = some (.cells #[.slice A N c, .bool s.off, .int .i64 (s.calls : Int), .int .i64 r.after, .bool r.done] 28 (0, 0)) → W.cell? ⟨w.heap.size, 0, none⟩ = some (.slice A N c) ∧ W.cell? ⟨w.heap.size, 1, none⟩ = some (.bool s.off) ∧ W.cell? ⟨w.heap.size, 2, none⟩ = some (.int .i64 (s.calls : Int)) ∧ W.cell? ⟨w.heap.size, 3, none⟩ = some (.int .i64 r.after) ∧ W.cell? ⟨w.heap.size, 4, none⟩ = some (.bool r.done) := fun W hW =>
    ⟨(cell_of_row W _ 0 _ _ _ hW).trans rfl, (cell_of_row W _ 1 _ _ _ hW).trans rfl, (cell_of_row W _ 2 _ _ _ hW).trans rfl, (cell_of_row W _ 3 _ _ _ hW).trans rfl, (cell_of_row W _ 4 _ _ _ hW).trans rfl⟩
  have CC := Lib.hid cc
  have c0 := cc _ X0d.out
  clear cc
  go_region_held3 (fun W => W.cell? ⟨w.heap.size, 0, none⟩ = some (.slice A N c) ∧ W.cell? ⟨w.heap.size, 1, none⟩ = some (.bool s.off) ∧ W.cell? ⟨w.heap.size, 2, none⟩ = some (.int .i64 (s.calls : Int)) ∧ W.cell? ⟨w.heap.size, 3, none⟩ = some (.int .i64 r.after) ∧ W.cell? ⟨w.heap.size, 4, none⟩ = some (.bool r.done)) (first | with_reducible assumption | with_reducible exact c0 | with_reducible exact c1 | with_reducible exact c2 | fail)
    (first
      | (go_at_call 22; refine KDW.out.mono ?_; rintro e w1 ⟨A5, c5, rfl, n5, _, b1⟩; have N5 := Lib.hid n5; have B1 := Lib.hid b1; have X1 := Lib.hid ((b1.block _ (Array.getElem?_eq_some_iff.1 X0d.out).1).trans X0d.out); have c1 := CC.out _ X1.out; clear n5 b1)
      | (go_at_call 41; refine (KRW.out _ ((R0.out.below B0.out).below B1.out)).mono ?_; rintro e w2 ⟨v6, rfl, o6, b2⟩; have O6 := Lib.hid o6; have B2 := Lib.hid b2; have X2 := Lib.hid ((b2.block _ (Array.getElem?_eq_some_iff.1 X1.out).1).trans X1.out); have c2 := CC.out _ X2.out; clear o6 b2)
      | fail)
  all_goals
    obtain ⟨A6, c6, rfl, n6⟩ := RN.ofOwn O6.out
    have ST := Lib.hid (show Sm base F s w A A5 A6 r.S s.waits #[.slice A N c, .bool s.off, .int .i64 (s.calls : Int), .int .i64 r.after, .bool r.done] w2 from ⟨((D0.out.below B0.out).below B1.out).below B2.out, ((R0.out.below B0.out).below B1.out).below B2.out, N5.out.below B2.out, n6, X2.out, (B0.out.trans (B1.out.mono B0.out.size)).trans (B2.out.mono (B0.out.trans (B1.out.mono B0.out.size)).size)⟩)
    have WL : Hid (s.waits.length ≤ 4096) := Lib.hid (Nat.le_trans (keysOf_length _ _) D0.out.ok.many)
    clear n6 O6 N5 B1 B2 X1 X2 X0d X0 KDW c0 c1 c2 D0 R0 B0
    go_wp2
    have SD := Lib.hid (ST.out.drewN 1)
    have c3 : w2.drew.cell? ⟨w.heap.size, 0, none⟩ = some (.slice A N c) ∧ w2.drew.cell? ⟨w.heap.size, 1, none⟩ = some (.bool s.off) ∧ w2.drew.cell? ⟨w.heap.size, 2, none⟩ = some (.int .i64 (s.calls : Int)) ∧ w2.drew.cell? ⟨w.heap.size, 3, none⟩ = some (.int .i64 r.after) ∧ w2.drew.cell? ⟨w.heap.size, 4, none⟩ = some (.bool r.done) := CC.out _ ST.out.bx
    have K1 := Lib.hid (off_any (ST.out.dk.drew))
    have K2 := Lib.hid (calls_any (ST.out.dk.drew))
    have K3 := size_any (ST.out.dk.drew)
    rw [← HN.out] at K3
    have K3 := Lib.hid K3
    have dd1 : (s.off != s.off) = false := by simp
    have dd2 : ((s.calls : Int) != (s.calls : Int)) = false := by simp
    have dd3 : ((N : Int) != (N : Int)) = false := by simp
    have dd4 : ((s.waits.length : Int) != (s.waits.length : Int)) = false := by simp
    go_region_held3 (fun W => W.cell? ⟨w.heap.size, 0, none⟩ = some (.slice A N c) ∧ W.cell? ⟨w.heap.size, 1, none⟩ = some (.bool s.off) ∧ W.cell? ⟨w.heap.size, 2, none⟩ = some (.int .i64 (s.calls : Int)) ∧ W.cell? ⟨w.heap.size, 3, none⟩ = some (.int .i64 r.after) ∧ W.cell? ⟨w.heap.size, 4, none⟩ = some (.bool r.done)) (first | with_reducible assumption | with_reducible exact c3 | fail)
      (first
        | (go_at_call 20; refine K1.out.mono ?_; rintro e w' ⟨rfl, rfl⟩)
        | (go_at_call 21; refine K2.out.mono ?_; rintro e w' ⟨rfl, rfl⟩)
        | (go_at_call 13; refine K3.out.mono ?_; rintro e w' ⟨rfl, rfl⟩)
        | fail)
    all_goals
      clear c3 K1 K2 K3 ST dd1 dd2 dd3 dd4
      have SD : Hid (Sm base F s w A A5 A6 r.S s.waits #[.slice A N c, .bool s.off, .int .i64 (s.calls : Int), .int .i64 r.after, .bool r.done] w2.drew) := SD
      generalize w2.drew = W3 at *
      have HWL := WL.out
      go_wp2
      go_loopw [7] (fun i wr => ∃ k : Nat, k ≤ s.waits.length ∧ i = .int .i64 (k : Int) ∧ Sm base F s w A A5 A6 r.S s.waits #[.slice A N c, .bool s.off, .int .i64 (s.calls : Int), .int .i64 r.after, .bool r.done] wr) (fun i _ => s.waits.length - (RowKit.intOf i).toNat)
      case atStart => exact ⟨0, Nat.zero_le _, rfl, SD.out⟩
      case round =>
        obtain ⟨k, hk, rfl, st⟩ := hrel
        have ST := Lib.hid st
        by_cases hlt : k < s.waits.length
        · have hk' : (k : Int) < (s.waits.length : Int) := by omega
          obtain ⟨a5, rfl, y5⟩ := st.n5.at_ hlt
          obtain ⟨a6, rfl, y6⟩ := st.n6.at_ hlt
          generalize s.waits[k] = z at *
          have dz : ((z : Int) != (z : Int)) = false := by simp
          clear st
          go_wp2
          go_quiet (fail)
          go_wp2
          go_roundw
          case rel => exact ⟨k + 1, by omega, by go_num, ST.out.drewN _⟩
          case measure => simp [RowKit.intOf]; omega
        · obtain rfl : k = s.waits.length := by omega
          clear st
          go_wp2
          go_loopw [8, 9, 10, 11, 12] (fun i _ _ _ _ wr => ∃ k : Nat, k ≤ N + 2 ∧ i = .int .i64 ((k : Int) - 1) ∧ Sm base F s w A A5 A6 r.S s.waits #[.slice A N c, .bool s.off, .int .i64 (s.calls : Int), .int .i64 r.after, .bool r.done] wr) (fun i _ _ _ _ _ => N + 2 - (RowKit.intOf i + 1).toNat)
          case atStart => exact ⟨0, Nat.zero_le _, rfl, ST.out⟩
          case round =>
            obtain ⟨k, hk, rfl, st⟩ := hrel
            obtain ⟨u0, u1, u2, u3, u4⟩ := CC.out _ st.bx
            have SQ := Lib.hid st
            by_cases hlt : k ≤ N + 1
            · have hk1 : (k : Int) - 1 ≤ (N : Int) := by omega
              have hk2 : -1 ≤ (k : Int) - 1 := by omega
              generalize hm1 : (k : Int) - 1 = n at *
              have HM1 := Lib.hid hm1
              have KD := Lib.hid (read_any st.dk n)
              clear st hm1
              have KR := Lib.hid (fun W (h : RS W A r.S) => KRR.out W n h)
              generalize s.reads n = lr at *
              generalize s.faultAt n = er at *
              go_wp2_with fail
              refine KD.out.mono ?_
              rintro e w4 ⟨A9, rfl, r9, b4⟩
              have S4 := Lib.hid (SQ.out.later b4)
              have R9 := Lib.hid r9
              clear r9 b4 KD u0 u1 u2 u3 u4
              obtain ⟨u0, u1, u2, u3, u4⟩ := CC.out _ S4.out.bx
              go_wp2_with fail
              refine (KR.out _ S4.out.rs).mono ?_
              rintro e w5 ⟨rfl, b5⟩
              have S5 := Lib.hid (S4.out.later b5)
              have hcv := run_str w5 A9 lr.length lr.length lr rfl (R9.out.below b5)
              have hs1 : ((str lr).toList != (str lr).toList) = false := by simp
              have hs2 : ((str lr).toList == (str lr).toList) = true := by simp
              have hs3 : ((er : Int) != (er : Int)) = false := by simp
              clear b5 KR u0 u1 u2 u3 u4
              obtain ⟨u0, u1, u2, u3, u4⟩ := CC.out _ S5.out.bx
              go_wp2
              go_roundw
              case rel => exact ⟨k + 1, by omega, by have := HM1.out; congr 1; omega, S5.out⟩
              case measure => have := HM1.out; simp [RowKit.intOf]; omega
            · obtain rfl : k = N + 2 := by omega
              have hk1 : decide (((N + 2 : Nat) : Int) - 1 ≤ (N : Int)) = false := by simp; omega
              clear st
              go_wp2
              go_ret
              exact ⟨rfl, SQ.out.below⟩
end Go.Proofs.Ytidnpokjaklfpaa
