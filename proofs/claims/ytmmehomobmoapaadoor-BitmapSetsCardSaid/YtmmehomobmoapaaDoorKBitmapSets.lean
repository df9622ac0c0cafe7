/- The law BitmapSets, the walk. -/
import Derived.Test.YtmmehomobmoapaaDoorQi
namespace Go.Proofs.YtmmehomobmoapaaDoor.bitmapSets
open Go.RowKit
set_option linter.unusedVariables false
set_option linter.unusedSimpArgs false
theorem sameEq (s : Int) (A B : Option Addr) (c d N : Nat) (L : List UInt64) (W : World) (hN : L.length = N) (hn : N ≤ 1000) (hA : RQ W A L) (hB : RQ W B L) : Calls Tryd.prog 12 #[.agg #[.int .i64 s, .slice A N c], .agg #[.int .i64 s, .slice B N d]] W fun e w' => e = .returned (.bool true) ∧ Below W.heap.size W w' := by
  have h := refSame_any s s A B c d L L W hA hB (by omega)
  rw [hN, show sameB s s L L = true from by unfold sameB; rw [decide_eq_true rfl, decide_eq_true rfl]; rfl] at h
  exact h
/-- What there is: the map m at block p, a at block q, b at block r. -/
structure St (w W : World) (p q r : Nat) (s : Int) (A Aa Ab : Option Addr) (c ca cb N : Nat) (L Lb : List UInt64) : Prop where
  bel : Below w.heap.size w W
  p0 : W.cell? ⟨p, 0, none⟩ = some (.int .i64 s)
  p1 : W.cell? ⟨p, 1, none⟩ = some (.slice A N c)
  q0 : W.cell? ⟨q, 0, none⟩ = some (.int .i64 s)
  q1 : W.cell? ⟨q, 1, none⟩ = some (.slice Aa N ca)
  r0 : W.cell? ⟨r, 0, none⟩ = some (.int .i64 s)
  r1 : W.cell? ⟨r, 1, none⟩ = some (.slice Ab N cb)
  rm : RQ W A L
  ra : RQ W Aa L
  rb : RQ W Ab Lb
theorem St.later {w W V : World} {p q r : Nat} {s : Int} {A Aa Ab : Option Addr} {c ca cb N : Nat} {L Lb : List UInt64} (h : St w W p q r s A Aa Ab c ca cb N L Lb) (hb : Below W.heap.size W V) : St w V p q r s A Aa Ab c ca cb N L Lb := by
  have k : ∀ {a : Addr} {v : Value}, W.cell? a = some v → V.cell? a = some v := fun hc => (hb.cell (lt_of_cell hc)).trans hc
  exact ⟨h.bel.trans (hb.mono h.bel.size), k h.p0, k h.p1, k h.q0, k h.q1, k h.r0, k h.r1, h.rm.below hb, h.ra.below hb, h.rb.below hb⟩
theorem St.cc {w W : World} {p q r : Nat} {s : Int} {A Aa Ab : Option Addr} {c ca cb N : Nat} {L Lb : List UInt64} (h : St w W p q r s A Aa Ab c ca cb N L Lb) : W.cell? ⟨p, 0, none⟩ = some (.int .i64 s) ∧ W.cell? ⟨p, 1, none⟩ = some (.slice A N c) ∧ W.cell? ⟨q, 0, none⟩ = some (.int .i64 s) ∧ W.cell? ⟨q, 1, none⟩ = some (.slice Aa N ca) ∧ W.cell? ⟨r, 0, none⟩ = some (.int .i64 s) ∧ W.cell? ⟨r, 1, none⟩ = some (.slice Ab N cb) := ⟨h.p0, h.p1, h.q0, h.q1, h.r0, h.r1⟩
theorem inc_u64 (x : UInt64) : IntKind.u64.wrap ((x.toNat : Int) + 1) = ((x + 1).toNat : Int) := by
  rw [IntKind.wrap_u64, UInt64.toNat_add, show (1 : UInt64).toNat = 1 from rfl]
  omega
set_option maxHeartbeats 8000000 in
set_option maxRecDepth 100000 in
theorem core (s : Int) (A : Option Addr) (c : Nat) (L : List UInt64) (n : Int) (on : Bool) (w : World) (hcap : L.length ≤ c) (hr : RQ w A L) (hT : TabAt 0 Lib.deBruijn64tab w) :
    Calls Tryd.prog 3 #[.agg #[.int .i64 s, .slice A L.length c], .int .i64 n, .bool on] w fun e w' => e = .returned (.bool true) ∧ Below w.heap.size w w' := by
  have HR := Lib.hid (fun W (hb : Below w.heap.size w W) => hr.below hb)
  have HT := Lib.hid (fun W (hb : Below w.heap.size w W) => TabAt.below hT hb (TabAt.pos hT))
  have KA := Lib.hid (fun W (hb : Below w.heap.size w W) => awake_any W (HT.out W hb))
  have KL := fun W => light_any s A L.length c W
  have B0 := Lib.hid ((Below.refl _ w).alloc (Nat.le_refl _) (.cells #[.int .i64 s, .slice A L.length c] 24))
  have BX := Lib.hid (fun W h => bx2 w (.int .i64 s) (.slice A L.length c) 24 (W := W) h)
  obtain ⟨x0, x1⟩ := BX.out _ (Below.refl _ _)
  by_cases h8 : ((L.length : Int) ≤ 8)
  · rw [decide_eq_true h8] at KL
    obtain ⟨N, hN⟩ : ∃ N, N = L.length := ⟨_, rfl⟩
    have HN := Lib.hid hN
    have hN8 : N ≤ 8 := by omega
    have KST := fun (Aa : Option Addr) (ca : Nat) W (h : RQ W Aa L) => set_any s Aa ca L n on W (by omega) h
    have KRS := fun W (h : RQ W A L) => refSet_any s A c L n on W (by omega) hcap h
    have KH := fun (Aa : Option Addr) (ca : Nat) W (h : RQ W Aa L) => has_any s Aa ca L n W h
    have KRH := fun W (h : RQ W A L) => refHas_any s A c L n W h
    have KK := fun (Aa : Option Addr) (ca : Nat) W (h : RQ W Aa L) => check_any s Aa ca L W h
    have KRK := fun W (h : RQ W A L) => refCheck_any s A c L W h
    have HLB : Hid ((setL s L n on).length = N) := Lib.hid (by rw [setL_len, hN])
    generalize setL s L n on = Lb at *
    generalize hasB s L n = hh at *
    generalize chk s L = ck0 at *
    rw [← hN] at x0 x1 B0 BX KL KST KRS KH KRH KK KRK ⊢
    have KL := Lib.hid KL
    have KST := Lib.hid KST
    have KRS := Lib.hid KRS
    have KH := Lib.hid KH
    have KRH := Lib.hid KRH
    have KK := Lib.hid KK
    have KRK := Lib.hid KRK
    clear hr hT h8 hcap hN
    go_enter Tryd.func3, Tryd.ntmps3
    go_wp2_with fail
    generalize w.alloc (.cells #[.int .i64 s, .slice A N c] 24) = W0 at *
    refine (KL.out _).mono ?_
    rintro e w1 ⟨rfl, b1⟩
    have B1 := Lib.hid (B0.out.trans (b1.mono B0.out.size))
    obtain ⟨q0, q1⟩ := BX.out w1 b1
    clear x0 x1 b1
    have CX := Lib.hid (fun W (h : Below w1.heap.size w1 W) => And.intro ((h.cell (p := ⟨w.heap.size, 0, none⟩) (lt_of_cell q0)).trans q0) ((h.cell (p := ⟨w.heap.size, 1, none⟩) (lt_of_cell q1)).trans q1))
    have R2 := Lib.hid (HR.out w1 B1.out)
    go_upto_region 3 with fail
    go_cut [7] from 19 to 25 (fun p wx => ∃ g v, p = .pointer (some ⟨g, 0, none⟩) ∧ BxQ w1.heap.size w1 wx g s v L 27)
    case first =>
      have cc := CX.out w1.drew (Below.refl _ w1).drew
      have ca := CX.out _ ((Below.refl _ w1).alloc (Nat.le_refl _) (.cells #[] 36)).drew
      have cb := CX.out _ ((Below.refl _ w1).alloc (Nat.le_refl _) (.cells #[.int .i64 0, .slice none 0 0] 27)).drew
      have cd := CX.out _ (((Below.refl _ w1).alloc (Nat.le_refl _) (.cells #[.int .i64 0, .slice none 0 0] 27)).alloc (by rw [heap_size_alloc]; omega) (.cells #[] 36)).drew
      have ce := CX.out _ (((Below.refl _ w1).alloc (Nat.le_refl _) (.cells #[] 36)).alloc (by rw [heap_size_alloc]; omega) (.cells #[.int .i64 0, .slice none 0 0] 27)).drew
      go_region_held3 (fun W => W.cell? ⟨w.heap.size, 0, none⟩ = some (.int .i64 s) ∧ W.cell? ⟨w.heap.size, 1, none⟩ = some (.slice A N c)) (first | with_reducible assumption | with_reducible exact cc | with_reducible exact ca | with_reducible exact cb | with_reducible exact cd | with_reducible exact ce | with_reducible exact KP.out _ _ | with_reducible exact ck | fail)
        (first
          | (refine step_append_Q rfl (.tmp 21) (.tmp 23) rfl w1.heap.size _ [] rfl (lit_a w1) A N c L rfl HN.out.symm (RQ.drew (R2.out.alloc _)) (by simp; omega) (by show _ ≤ (w1.alloc _).heap.size; rw [heap_size_alloc]; omega) ?_; intro v1 w4 o1 b1 g1; obtain ⟨hb3, fin⟩ := app_a (s := s) 27 o1 b1; obtain ⟨A3, n3, c3, rfl⟩ := o1.shape; have FIN := Lib.hid fin; have cc := CX.out w4 hb3; have ca := CX.out _ (hb3.alloc hb3.size (.cells #[.int .i64 0, .slice none 0 0] 27)); have ck := CX.out _ (hb3.alloc hb3.size (.cells #[.int .i64 s, .slice A3 n3 c3] 27)))
          | (refine step_append_Q rfl (.tmp 21) (.tmp 23) rfl w1.heap.size _ [] rfl (lit_b w1 (.cells #[.int .i64 0, .slice none 0 0] 27)) A N c L rfl HN.out.symm (RQ.drew ((R2.out.alloc _).alloc _)) (by simp; omega) (by show _ ≤ ((w1.alloc _).alloc _).heap.size; rw [heap_size_alloc, heap_size_alloc]; omega) ?_; intro v1 w4 o1 b1 g1; obtain ⟨hb3, ⟨t0, t1, t2, t3⟩, fin⟩ := app_bc (s := s) (g := w1.heap.size) (((Below.refl _ w1).alloc (Nat.le_refl _) _).alloc (by rw [heap_size_alloc]; omega) _).drew (Nat.le_refl _) (at_b w1 _ _ 27) (by decide) (by simp [Value.ownBlock, Act.eval]) o1 b1 g1; obtain ⟨A3, n3, c3, rfl⟩ := o1.shape; have FIN := Lib.hid fin; have cc := CX.out w4 hb3; have KP := Lib.hid (fun a0 a1 => CX.out _ (belowC hb3 (Nat.le_refl _) a0 a1)))
          | (refine step_append_Q rfl (.tmp 21) (.tmp 23) rfl w1.heap.size _ [] rfl (lit_c w1 (.cells #[.int .i64 0, .slice none 0 0] 27)) A N c L rfl HN.out.symm (RQ.drew ((R2.out.alloc _).alloc _)) (by simp; omega) (by show _ ≤ ((w1.alloc _).alloc _).heap.size; rw [heap_size_alloc, heap_size_alloc]; omega) ?_; intro v1 w4 o1 b1 g1; obtain ⟨hb3, ⟨t0, t1, t2, t3⟩, fin⟩ := app_bc (s := s) (g := w1.heap.size + 1) (((Below.refl _ w1).alloc (Nat.le_refl _) _).alloc (by rw [heap_size_alloc]; omega) _).drew (Nat.le_succ _) (at_c w1 _ _ 27) (by decide) (by simp [Value.ownBlock, Act.eval]) o1 b1 g1; obtain ⟨A3, n3, c3, rfl⟩ := o1.shape; have FIN := Lib.hid fin; have cc := CX.out w4 hb3; have KP := Lib.hid (fun a0 a1 => CX.out _ (belowC hb3 (Nat.le_succ _) a0 a1)))
          | fail)
      all_goals
        go_wp2_with fail
        go_meet
        exact ⟨_, _, rfl, FIN.out⟩
    case rest =>
      obtain ⟨WB, hWB⟩ : ∃ WB, WB = wc := ⟨_, rfl⟩
      rw [← hWB] at hcut ⊢
      clear hWB
      obtain ⟨g, va, rfl, hP⟩ := hcut
      obtain ⟨Aa, ca, rfl, hca, hra⟩ := hP.own.form
      rw [← HN.out] at hP
      obtain ⟨t0, t1, _, _⟩ := hP.cells
      have PA := Lib.hid hP
      have RA := Lib.hid hra
      have BA := Lib.hid (B1.out.trans (hP.bel.mono B1.out.size))
      obtain ⟨m0, m1⟩ := CX.out WB hP.bel
      have M := Lib.hid (And.intro m0 m1)
      have TT := Lib.hid (And.intro t0 t1)
      clear hP hra hca q0 q1 m0 m1
      go_wp2_with fail
      refine (KST.out Aa ca _ RA.out).mono ?_
      rintro e w5 ⟨vb, rfl, o5, b5⟩
      have P5 := Lib.hid (BxQ.new (s := s) 27 b5 o5 b5.size)
      obtain ⟨Ab, cb, rfl, hcb, hrb⟩ := o5.form
      rw [HLB.out] at P5 ⊢
      have bb : Below WB.heap.size WB (w5.alloc (.cells #[.int .i64 s, .slice Ab N cb] 27)) := P5.out.bel
      have k5 : ∀ {a : Addr} {v : Value}, WB.cell? a = some v → (w5.alloc (.cells #[.int .i64 s, .slice Ab N cb] 27)).cell? a = some v := fun hc => (bb.cell (lt_of_cell hc)).trans hc
      have ST := Lib.hid (St.mk (p := w.heap.size) (q := g) (r := w5.heap.size) (BA.out.trans (bb.mono BA.out.size)) (k5 M.out.1) (k5 M.out.2) (k5 TT.out.1) (k5 TT.out.2) P5.out.cells.1 P5.out.cells.2.1 ((HR.out _ BA.out).below bb) (RA.out.below bb) (hrb.alloc _))
      have CY := Lib.hid (fun W (h : Below WB.heap.size WB W) => And.intro ((h.cell (lt_of_cell M.out.1)).trans M.out.1) (And.intro ((h.cell (lt_of_cell M.out.2)).trans M.out.2) (And.intro ((h.cell (lt_of_cell TT.out.1)).trans TT.out.1) (And.intro ((h.cell (lt_of_cell TT.out.2)).trans TT.out.2) (And.intro ((HR.out _ BA.out).below h) (And.intro (RA.out.below h) (BA.out.trans (h.mono BA.out.size))))))))
      obtain ⟨r8, hr8⟩ : ∃ r8, r8 = w5.heap.size := ⟨_, rfl⟩
      clear b5 o5 hcb hrb t0 t1 k5 bb
      go_upto_region 5 with fail
      generalize w5.alloc (.cells #[.int .i64 s, .slice Ab N cb] 27) = W5 at *
      rw [← hr8] at ST P5 ⊢
      clear hr8
      have PD := Lib.hid (P5.out.later (Below.refl _ W5).drew)
      have ST := Lib.hid (ST.out.later (Below.refl _ W5).drew)
      have VV := Lib.hid (Below.refl W5.heap.size W5).drew
      have cc := ST.out.cc
      have e1 : (hh == hh) = true := by simp
      have e2 : ((ck0 : Int) == (ck0 : Int)) = true := by simp
      go_cut [9] from 30 to 56 (fun t wx => t = .bool true ∧ Below W5.heap.size W5 wx)
      case first =>
        go_region_held3 (fun W => W.cell? ⟨w.heap.size, 0, none⟩ = some (.int .i64 s) ∧ W.cell? ⟨w.heap.size, 1, none⟩ = some (.slice A N c) ∧ W.cell? ⟨g, 0, none⟩ = some (.int .i64 s) ∧ W.cell? ⟨g, 1, none⟩ = some (.slice Aa N ca) ∧ W.cell? ⟨r8, 0, none⟩ = some (.int .i64 s) ∧ W.cell? ⟨r8, 1, none⟩ = some (.slice Ab N cb)) (first | with_reducible assumption | with_reducible exact cc | fail)
          (first
            | (go_at_call 13; with_reducible refine Calls.mono (KRS.out _ ST.out.rm) ?_; rintro e w6 ⟨A6, c6, rfl, _, r6, b6⟩; have R6 := Lib.hid r6; have VV := Lib.hid (VV.out.trans (b6.mono VV.out.size)); have ST := Lib.hid (ST.out.later b6); have cc := ST.out.cc; clear b6 r6)
            | (go_at_call 12; with_reducible refine Calls.mono (sameEq s Ab A6 cb c6 N Lb _ HLB.out (by omega) ST.out.rb R6.out) ?_; rintro e w6 ⟨rfl, b6⟩; have VV := Lib.hid (VV.out.trans (b6.mono VV.out.size)); have ST := Lib.hid (ST.out.later b6); have cc := ST.out.cc; clear b6)
            | (go_at_call 12; with_reducible refine Calls.mono (sameEq s Aa A ca c N L _ HN.out.symm (by omega) ST.out.ra ST.out.rm) ?_; rintro e w6 ⟨rfl, b6⟩; have VV := Lib.hid (VV.out.trans (b6.mono VV.out.size)); have ST := Lib.hid (ST.out.later b6); have cc := ST.out.cc; clear b6)
            | (go_at_call 14; with_reducible refine Calls.mono (KH.out Aa ca _ ST.out.ra) ?_; rintro e w6 ⟨rfl, b6⟩; have VV := Lib.hid (VV.out.trans (b6.mono VV.out.size)); have ST := Lib.hid (ST.out.later b6); have cc := ST.out.cc; clear b6)
            | (go_at_call 15; with_reducible refine Calls.mono (KRH.out _ ST.out.rm) ?_; rintro e w6 ⟨rfl, b6⟩; have VV := Lib.hid (VV.out.trans (b6.mono VV.out.size)); have ST := Lib.hid (ST.out.later b6); have cc := ST.out.cc; clear b6)
            | (go_at_call 16; with_reducible refine Calls.mono (KK.out Aa ca _ ST.out.ra) ?_; rintro e w6 ⟨rfl, b6⟩; have VV := Lib.hid (VV.out.trans (b6.mono VV.out.size)); have ST := Lib.hid (ST.out.later b6); have cc := ST.out.cc; clear b6)
            | (go_at_call 17; with_reducible refine Calls.mono (KRK.out _ ST.out.rm) ?_; rintro e w6 ⟨rfl, b6⟩; have VV := Lib.hid (VV.out.trans (b6.mono VV.out.size)); have ST := Lib.hid (ST.out.later b6); have cc := ST.out.cc; clear b6)
            | fail)
        all_goals
          go_wp2_with fail
          go_meet
          exact ⟨rfl, VV.out⟩
      case rest =>
        obtain ⟨rfl, hv⟩ := hcut
        have P6 := Lib.hid (P5.out.later hv)
        have KN := Lib.hid (fun W => new_any n W)
        have KRN := Lib.hid (fun W => refNew_any n W)
        have HNX : Hid ((newL n).length ≤ 64) := Lib.hid (by
          unfold newL newOk
          split
          · rename_i h; rw [decide_eq_true_eq] at h; rw [List.length_replicate]; omega
          · exact Nat.zero_le _)
        clear hv PD ST VV cc P5 KST KRS KH KRH KK KRK
        go_wp2
        go_loopw [10] (fun i wr => ∃ (j : Nat) (L' : List UInt64), j ≤ N ∧ i = .int .i64 (j : Int) ∧ L'.length = N ∧ BxQ WB.heap.size WB wr r8 s (.slice Ab N cb) L' 27) (fun i _ => N - (RowKit.intOf i).toNat)
        case atStart => exact ⟨0, Lb, Nat.zero_le _, rfl, HLB.out, P6.out⟩
        case round =>
          obtain ⟨j, L', hj, rfl, hL', hP⟩ := hrel
          have PB := Lib.hid hP
          have HL' := Lib.hid hL'
          obtain ⟨u0, u1, _, _⟩ := hP.cells
          clear hP hL'
          by_cases hjN : j < N
          · have hjN' : (j : Int) < (N : Int) := by omega
            obtain ⟨x, hx⟩ : ∃ x, L'[j]? = some x := ⟨L'[j]'(by rw [HL'.out]; exact hjN), List.getElem?_eq_getElem _⟩
            obtain ⟨gv, rfl, hgv, cx, fx, hset⟩ := PB.out.set hx
            have P7 := Lib.hid (hset (x + 1) _ (inc_u64 x))
            have HL2 : Hid ((L'.set j (x + 1)).length = N) := Lib.hid (by rw [List.length_set]; exact HL'.out)
            clear hset hx
            go_wp2
            go_roundw
            case rel => exact ⟨j + 1, _, by omega, by go_num, HL2.out, P7.out⟩
            case measure => simp [RowKit.intOf]; omega
          · obtain rfl : j = N := by omega
            go_wp2_with fail
            refine (KN.out _).mono ?_
            rintro e w8 ⟨vx, rfl, o8, b8⟩
            obtain ⟨Ax, cx, rfl, _, rx⟩ := o8.form
            obtain ⟨NX, hNX⟩ : ∃ NX, NX = (newL n).length := ⟨_, rfl⟩
            have HNE := Lib.hid hNX
            rw [← hNX] at HNX ⊢
            have hNX64 := HNX.out
            have B8 := Lib.hid ((PB.out.bel.trans (b8.mono (Nat.le_trans PB.out.ge (Nat.le_of_lt (Array.getElem?_eq_some_iff.1 PB.out.at_).1)))).alloc (by have h1 := PB.out.ge; have h2 := (Array.getElem?_eq_some_iff.1 PB.out.at_).1; have h3 := b8.size; omega) (.cells #[.int .i64 (newS n), .slice Ax NX cx] 27))
            have RX := Lib.hid (rx.alloc (.cells #[.int .i64 (newS n), .slice Ax NX cx] 27))
            obtain ⟨a0, a1⟩ := bx2 w8 (.int .i64 (newS n)) (.slice Ax NX cx) 27 (Below.refl _ _)
            obtain ⟨r11, hr11⟩ : ∃ r11, r11 = w8.heap.size := ⟨_, rfl⟩
            clear o8 b8 rx u0 u1 hNX
            go_wp2_with fail
            generalize w8.alloc (.cells #[.int .i64 (newS n), .slice Ax NX cx] 27) = W8 at *
            rw [← hr11] at a0 a1 ⊢
            clear hr11
            refine (KRN.out _).mono ?_
            rintro e w9 ⟨vy, rfl, o9, b9⟩
            obtain ⟨Ay, cy, rfl, _, ry⟩ := o9.form
            rw [← HNE.out]
            have hsz : WB.heap.size ≤ W8.heap.size := B8.out.size
            have B9 := Lib.hid ((B8.out.trans (b9.mono hsz)).alloc (by have h3 := b9.size; omega) (.cells #[.int .i64 (newS n), .slice Ay NX cy] 24))
            have bb9 : Below W8.heap.size W8 (w9.alloc (.cells #[.int .i64 (newS n), .slice Ay NX cy] 24)) := b9.alloc b9.size _
            have c0 := (bb9.cell (p := ⟨r11, 0, none⟩) (lt_of_cell a0)).trans a0
            have c1 := (bb9.cell (p := ⟨r11, 1, none⟩) (lt_of_cell a1)).trans a1
            have RX9 := Lib.hid (RX.out.below bb9)
            have RY9 := Lib.hid (ry.alloc (.cells #[.int .i64 (newS n), .slice Ay NX cy] 24))
            obtain ⟨d0, d1⟩ := bx2 w9 (.int .i64 (newS n)) (.slice Ay NX cy) 24 (Below.refl _ _)
            obtain ⟨r13, hr13⟩ : ∃ r13, r13 = w9.heap.size := ⟨_, rfl⟩
            obtain ⟨m0, m1, t0, t1, rm, ra, be⟩ := CY.out _ B9.out
            have eE : ((newE n : Int) == (newE n : Int)) = true := by simp
            have K1 := Lib.hid (sameEq s Aa A ca c j L _ HN.out.symm (by omega) ra rm)
            clear o9 b9 ry a0 a1 bb9 ra rm
            go_wp2_with fail
            generalize w9.alloc (.cells #[.int .i64 (newS n), .slice Ay NX cy] 24) = W9 at *
            rw [← hr13] at d0 d1 ⊢
            clear hr13
            refine K1.out.mono ?_
            rintro e w10 ⟨rfl, b10⟩
            have BE10 := Lib.hid (be.trans (b10.mono be.size))
            have K2 := Lib.hid (sameEq (newS n) Ax Ay cx cy NX (newL n) w10 HNE.out.symm (by omega) (RX9.out.below b10) (RY9.out.below b10))
            have g0 := (b10.cell (p := ⟨r11, 0, none⟩) (lt_of_cell c0)).trans c0
            have g1 := (b10.cell (p := ⟨r11, 1, none⟩) (lt_of_cell c1)).trans c1
            have g2 := (b10.cell (p := ⟨r13, 0, none⟩) (lt_of_cell d0)).trans d0
            have g3 := (b10.cell (p := ⟨r13, 1, none⟩) (lt_of_cell d1)).trans d1
            clear b10 c0 c1 d0 d1 m0 m1 t0 t1 K1
            go_wp2_with fail
            refine K2.out.mono ?_
            rintro e w11 ⟨rfl, b11⟩
            have BE11 := Lib.hid (BE10.out.trans (b11.mono BE10.out.size))
            clear b11 g0 g1 g2 g3 K2
            go_wp2_with fail
            refine (KA.out _ BE11.out).mono ?_
            rintro e w12 ⟨rfl, b12⟩
            have BE12 := Lib.hid (BE11.out.trans (b12.mono BE11.out.size))
            clear b12
            go_wp2
            go_ret
            exact ⟨rfl, BE12.out⟩
  · rw [decide_eq_false h8] at KL
    have KL := Lib.hid KL
    generalize L.length = N at *
    clear hr hT h8 hcap
    go_enter Tryd.func3, Tryd.ntmps3
    go_wp2_with fail
    refine (KL.out _).mono ?_
    rintro e w1 ⟨rfl, b1⟩
    have B1 := Lib.hid (B0.out.trans (b1.mono B0.out.size))
    clear x0 x1 b1
    go_wp2_with fail
    refine (KA.out _ B1.out).mono ?_
    rintro e w2 ⟨rfl, b2⟩
    have B2 := Lib.hid (B1.out.trans (b2.mono B1.out.size))
    go_wp2
    go_ret
    exact ⟨rfl, B2.out⟩
end Go.Proofs.YtmmehomobmoapaaDoor.bitmapSets
