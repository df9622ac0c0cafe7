/- The package bitmap: mix. -/
import Derived.Test.YtmmehomobmoapaaDoorQS
import Derived.Deep.RegionHeld3
namespace Go.Proofs.YtmmehomobmoapaaDoor
open Go.RowKit
set_option linter.unusedVariables false
set_option linter.unusedSimpArgs false
theorem size3 (w : World) (a b c : Array Value) (t : TypeId) : (((w.alloc (.cells a t)).alloc (.cells b t)).alloc (.cells c t)).heap.size = w.heap.size + 3 := by rw [heap_size_alloc, heap_size_alloc, heap_size_alloc]
theorem below3 (w : World) (a b c : Array Value) (t : TypeId) : Below w.heap.size w (((w.alloc (.cells a t)).alloc (.cells b t)).alloc (.cells c t)) :=
  (((Below.refl w.heap.size w).alloc (Nat.le_refl _) _).alloc (by rw [heap_size_alloc]; omega) _).alloc (by rw [heap_size_alloc, heap_size_alloc]; omega) _
theorem cells3 (w : World) (a0 a1 b0 b1 c0 c1 : Value) (t : TypeId) (W : World) (h : Below (((w.alloc (.cells #[a0, a1] t)).alloc (.cells #[b0, b1] t)).alloc (.cells #[c0, c1] t)).heap.size (((w.alloc (.cells #[a0, a1] t)).alloc (.cells #[b0, b1] t)).alloc (.cells #[c0, c1] t)) W) :
    W.cell? ⟨w.heap.size, 0, none⟩ = some a0 ∧ W.cell? ⟨w.heap.size, 1, none⟩ = some a1 ∧ W.cell? ⟨w.heap.size + 1, 0, none⟩ = some b0 ∧ W.cell? ⟨w.heap.size + 1, 1, none⟩ = some b1 ∧ W.cell? ⟨w.heap.size + 2, 0, none⟩ = some c0 ∧ W.cell? ⟨w.heap.size + 2, 1, none⟩ = some c1 ∧ W.frozen? ⟨w.heap.size + 2, 0, none⟩ = false ∧ W.frozen? ⟨w.heap.size + 2, 1, none⟩ = false := by
  have h2 := bx2 ((w.alloc (.cells #[a0, a1] t)).alloc (.cells #[b0, b1] t)) c0 c1 t h
  rw [heap_size_alloc, heap_size_alloc] at h2
  have h4 := bx4 w a0 a1 b0 b1 t t (W := W) (((Below.refl _ _).alloc (Nat.le_refl _) _).trans (h.mono (by rw [heap_size_alloc ((w.alloc _).alloc _)]; omega)))
  have hx := heap_alloc_last ((w.alloc (.cells #[a0, a1] t)).alloc (.cells #[b0, b1] t)) (.cells #[c0, c1] t)
  have hy := (h.block _ (Array.getElem?_eq_some_iff.1 hx).1).trans hx
  rw [heap_size_alloc, heap_size_alloc] at hy
  exact ⟨h4.1.1, h4.1.2, h4.2.1, h4.2.2, h2.1, h2.2, by simp [World.frozen?, hy], by simp [World.frozen?, hy]⟩
/-- The words that are mixed so far, and zeros. -/
def mixCur (all : Bool) (L M : List UInt64) (q j : Nat) : List UInt64 := (mixWs all L M q).take j ++ List.replicate (q - j) 0
theorem mixCur_zero (all : Bool) (L M : List UInt64) (q : Nat) : mixCur all L M q 0 = List.replicate q 0 := by simp [mixCur]
theorem mixCur_full (all : Bool) (L M : List UInt64) (q : Nat) : mixCur all L M q q = mixWs all L M q := by
  unfold mixCur
  rw [List.take_of_length_le (by rw [mixWs_len]; omega), Nat.sub_self]
  simp
theorem mixCur_at (all : Bool) (L M : List UInt64) {q j : Nat} (h : j < q) : (mixCur all L M q j)[j]? = some 0 := by
  unfold mixCur
  rw [List.getElem?_append_right (by simp [mixWs_len]; omega)]
  have hl : ((mixWs all L M q).take j).length = j := by simp [mixWs_len]; omega
  rw [hl, Nat.sub_self, List.getElem?_replicate, if_pos (by omega)]
theorem mixCur_set (all : Bool) (L M : List UInt64) {q j : Nat} (h : j < q) : (mixCur all L M q j).set j (UInt64.ofNat (mixW all (wordN L j) (wordN M j))) = mixCur all L M q (j + 1) := by
  unfold mixCur
  have hl : ((mixWs all L M q).take j).length = j := by simp [mixWs_len]; omega
  rw [List.set_append_right _ _ (by omega), hl, Nat.sub_self, List.take_add_one, mixWs_at all L M h, show q - j = (q - (j + 1)) + 1 by omega, List.replicate_succ]
  simp
theorem mixU (all : Bool) (L M : List UInt64) (j : Nat) : ((mixW all (wordN L j) (wordN M j) : Nat) : Int) = ((UInt64.ofNat (mixW all (wordN L j) (wordN M j))).toNat : Int) := by
  rw [UInt64.toNat_ofNat', Nat.mod_eq_of_lt (mixW_lt all (wordN_lt _ _) (wordN_lt _ _))]
theorem BxQ.setg {base : Nat} {w W : World} {g gv : Nat} {s : Int} {n c : Nat} {L : List UInt64} {t : TypeId} (h : BxQ base w W g s (.slice (some ⟨gv, 0, none⟩) n c) L t) {k : Nat} {x : UInt64} (hk : L[k]? = some x) :
    base ≤ gv ∧ gv ≠ g ∧ W.cell? ⟨gv, k, none⟩ = some (.int .u64 (x.toNat : Int)) ∧ W.frozen? ⟨gv, k, none⟩ = false ∧ ∀ (y : UInt64) (z : Int), z = (y.toNat : Int) → BxQ base w (W.setCell ⟨gv, k, none⟩ (.int .u64 z)) g s (.slice (some ⟨gv, 0, none⟩) n c) (L.set k y) t := by
  obtain ⟨gv', e, h1, h2, h3, h4⟩ := h.set hk
  injection e with e
  injection e with e
  subst e
  exact ⟨h1, fun e => h.ne (by rw [e]; rfl), h2, h3, h4⟩
theorem keepG {base : Nat} {W W0 : World} {g gv : Nat} {s : Int} {n c : Nat} {L : List UInt64} {t : TypeId} (h : BxQ base W0 W g s (.slice (some ⟨gv, 0, none⟩) n c) L t) (h2 : gv ≠ g) (k : Nat) (z : Value) : (W.setCell ⟨gv, k, none⟩ z).cell? ⟨g, 1, none⟩ = some (.slice (some ⟨gv, 0, none⟩) n c) :=
  (World.cell?_setCell_other W ⟨gv, k, none⟩ ⟨g, 1, none⟩ _ (by intro e; injection e with e; exact h2 e)).trans h.cells.2.1
set_option maxHeartbeats 2000000 in
set_option maxRecDepth 100000 in
theorem mixBoth_any (s t : Int) (A B : Option Addr) (c d : Nat) (L M : List UInt64) (w : World) (hA : RQ w A L) (hB : RQ w B M) : Calls Tryd.prog 46 #[.agg #[.int .i64 s, .slice A L.length c], .agg #[.int .i64 t, .slice B M.length d], .func (.func 47) #[] #[]] w fun e w' => ∃ v, e = .returned (.agg #[.int .i64 (mixS s t L M), v]) ∧ OQ w.heap.size w' v (mixL true s t L M) ∧ Below w.heap.size w w' := by
  have HA := Lib.hid hA
  have HB := Lib.hid hB
  have KA := Lib.hid (fun W (hb : Below w.heap.size w W) => check_any s A c L W (HA.out.below hb))
  have KB := Lib.hid (fun W (hb : Below w.heap.size w W) => check_any t B d M W (HB.out.below hb))
  have B0 := Lib.hid (below3 w #[.int .i64 s, .slice A L.length c] #[.int .i64 t, .slice B M.length d] #[.int .i64 0, .slice none 0 0] 27)
  have C0 := Lib.hid (cells3 w (.int .i64 s) (.slice A L.length c) (.int .i64 t) (.slice B M.length d) (.int .i64 0) (.slice none 0 0) 27)
  have HZ := Lib.hid (size3 w #[.int .i64 s, .slice A L.length c] #[.int .i64 t, .slice B M.length d] #[.int .i64 0, .slice none 0 0] 27)
  have WA := Lib.hid (fun (i : Nat) W (hi : i ≤ 64) (hb : Below w.heap.size w W) => word_any s A c L i W hi (HA.out.below hb))
  have WB := Lib.hid (fun (i : Nat) W (hi : i ≤ 64) (hb : Below w.heap.size w W) => word_any t B d M i W hi (HB.out.below hb))
  obtain ⟨N, hN⟩ : ∃ N, N = L.length := ⟨_, rfl⟩
  obtain ⟨Q, hQ⟩ : ∃ Q, Q = M.length := ⟨_, rfl⟩
  rw [← hN] at KA WA B0 C0 HZ ⊢
  rw [← hQ] at KB WB B0 C0 HZ ⊢
  clear hA hB hN hQ
  obtain ⟨x0, x1, y0, y1, z0, z1, z2, z3⟩ := C0.out _ (Below.refl _ _)
  rcases chk_cases s L with ⟨a0, a1⟩ | ⟨a0, a1⟩
  · rw [a1] at KA
    rcases chk_cases t M with ⟨b0, b1⟩ | ⟨b0, b1⟩
    · rw [b1] at KB
      have HOK : Hid (mixOk s t L M = true) := Lib.hid (by unfold mixOk; rw [a0, b0]; rfl)
      obtain ⟨m, rfl, hm, hl, _⟩ := okB_nat a0
      obtain ⟨k, rfl, hk, hl2, _⟩ := okB_nat b0
      clear a0 a1 b0 b1 hl hl2
      rcases Nat.lt_or_ge m k with hmk | hmk
      · have hmk' : (m : Int) < (k : Int) := by omega
        have hmax2 : max (m : Int) (k : Int) = (k : Int) := by omega
        have hp4 : k ≤ 4096 := hk
        have KW := fun W => wordsOf_any k hp4 W
        obtain ⟨q, hq⟩ : ∃ q, q = (k + 63) / 64 := ⟨_, rfl⟩
        have hq64 : q ≤ 64 := by omega
        rw [← hq] at KW
        have KW := Lib.hid KW
        have HS : mixS (m : Int) (k : Int) L M = (k : Int) := by unfold mixS; rw [if_pos HOK.out, hmax2]
        have HL : mixL true (m : Int) (k : Int) L M = mixWs true L M q := by unfold mixL; rw [if_pos HOK.out, hmax2, Int.toNat_natCast, ← hq]
        rw [HS, HL]
        clear HS HL hq HOK
        go_enter Tryd.func46, Tryd.ntmps46
        go_wp2_with fail
        generalize ((w.alloc (.cells #[.int .i64 (m : Int), .slice A N c] 27)).alloc (.cells #[.int .i64 (k : Int), .slice B Q d] 27)).alloc (.cells #[.int .i64 0, .slice none 0 0] 27) = W0 at *
        rw [HZ.out] at C0
        refine (KA.out _ B0.out).mono ?_
        rintro e w1 ⟨rfl, b1⟩
        have B1 := Lib.hid (B0.out.trans (b1.mono B0.out.size))
        rw [HZ.out] at b1
        have V1 := Lib.hid b1
        obtain ⟨u0, u1, u2, u3, _⟩ := C0.out w1 b1
        clear x0 x1 y0 y1 z0 z1 z2 z3 b1
        go_wp2_with fail
        refine (KB.out _ B1.out).mono ?_
        rintro e w2 ⟨rfl, b2⟩
        have B2 := Lib.hid (B1.out.trans (b2.mono B1.out.size))
        have V2 := Lib.hid (V1.out.trans (b2.mono (Nat.le_trans (Nat.le_of_eq HZ.out.symm) V1.out.size)))
        obtain ⟨v0, v1, v2, v3, _⟩ := C0.out w2 V2.out
        clear u0 u1 u2 u3 b2 V1 B1
        go_wp2_with fail
        refine (KW.out _).mono ?_
        rintro e w3 ⟨rfl, rfl⟩
        have hz2 : w.heap.size + 3 ≤ w2.heap.size := Nat.le_trans (Nat.le_of_eq HZ.out.symm) V2.out.size
        go_wp2_with (at_make; refine wpList_make_Q rfl _ _ rfl (w.heap.size + 3) q _ _ rfl rfl rfl rfl (by omega) hz2 ?_; intro w3 ho3 hb3; have P0 := Lib.hid (BxQ.new (s := (k : Int)) 27 (V2.out.trans hb3) ho3 (Nat.le_trans hz2 hb3.size)); clear ho3 hb3)
        go_loopw [9, 32] (fun _ i wr => ∃ j : Nat, j ≤ q ∧ i = .int .i64 (j : Int) ∧ BxQ (w.heap.size + 3) W0 wr w3.heap.size (k : Int) (.slice (some ⟨w2.heap.size, 0, none⟩) q q) (mixCur true L M q j) 27) (fun _ i _ => q - (RowKit.intOf i).toNat)
        case atStart => exact ⟨0, Nat.zero_le _, rfl, by rw [mixCur_zero]; exact P0.out⟩
        case round =>
          obtain ⟨j, hj, rfl, hbx⟩ := hrel
          have PB := Lib.hid hbx
          have BW := Lib.hid (B0.out.trans (hbx.bel.mono (Nat.le_add_right _ 3)))
          obtain ⟨g0, g1, g2, g3⟩ := hbx.cells
          have CC := Lib.hid (fun W (h : BxQ (w.heap.size + 3) W0 W w3.heap.size (k : Int) (.slice (some ⟨w2.heap.size, 0, none⟩) q q) (mixCur true L M q j) 27) => h.cells.2.1)
          clear hbx v0 v1 v2 v3
          by_cases hjq : j < q
          · have hjq' : (j : Int) < (q : Int) := by omega
            have hj64 : j ≤ 64 := by omega
            have KX := Lib.hid (both1_any _ _ (wordN_lt L j) (wordN_lt M j))
            have SX := Lib.hid (fun W (h : BxQ (w.heap.size + 3) W0 W w3.heap.size (k : Int) (.slice (some ⟨w2.heap.size, 0, none⟩) q q) (mixCur true L M q j) 27) => h.setg (mixCur_at true L M hjq))
            have FIN := Lib.hid (fun W (h : BxQ (w.heap.size + 3) W0 W w3.heap.size (k : Int) (.slice (some ⟨w2.heap.size, 0, none⟩) q q) (mixCur true L M q j) 27) => (h.setg (mixCur_at true L M hjq)).2.2.2.2 _ _ (mixU true L M j))
            rw [mixCur_set true L M hjq] at FIN
            have GF := Lib.hid (fun (W : World) (h1 : Below (w.heap.size + 3) W0 W) (h : W.cell? ⟨w3.heap.size, 1, none⟩ = some (.slice (some ⟨w2.heap.size, 0, none⟩) q q)) => And.intro (C0.out W h1).1 (And.intro (C0.out W h1).2.1 (And.intro (C0.out W h1).2.2.1 (And.intro (C0.out W h1).2.2.2.1 h))))
            have PB := Lib.hid (PB.out.later (Below.refl _ wr).drew)
            have BW := Lib.hid BW.out.drew
            have cc := GF.out wr.drew PB.out.bel (CC.out _ PB.out)
            go_upto_region 8 with fail
            go_region_held3 (fun W => W.cell? ⟨w.heap.size, 0, none⟩ = some (.int .i64 (m : Int)) ∧ W.cell? ⟨w.heap.size, 1, none⟩ = some (.slice A N c) ∧ W.cell? ⟨w.heap.size + 1, 0, none⟩ = some (.int .i64 (k : Int)) ∧ W.cell? ⟨w.heap.size + 1, 1, none⟩ = some (.slice B Q d) ∧ W.cell? ⟨w3.heap.size, 1, none⟩ = some (.slice (some ⟨w2.heap.size, 0, none⟩) q q)) (first | with_reducible assumption | with_reducible exact cc | with_reducible exact KP.out _ | fail)
              (first
                | (go_at_call 60; with_reducible refine Calls.mono (WA.out j _ hj64 BW.out) ?_; rintro e w5 ⟨rfl, b5⟩; have PB := Lib.hid (PB.out.later b5); have BW := Lib.hid (BW.out.trans (b5.mono BW.out.size)); have cc := GF.out w5 PB.out.bel (CC.out _ PB.out); obtain ⟨e1, e2, cx, fx, _⟩ := SX.out _ PB.out; clear b5)
                | (go_at_call 60; with_reducible refine Calls.mono (WB.out j _ hj64 BW.out) ?_; rintro e w5 ⟨rfl, b5⟩; have PB := Lib.hid (PB.out.later b5); have BW := Lib.hid (BW.out.trans (b5.mono BW.out.size)); have cc := GF.out w5 PB.out.bel (CC.out _ PB.out); obtain ⟨e1, e2, cx, fx, _⟩ := SX.out _ PB.out; clear b5)
                | (go_at_call 47; refine (KX.out _).mono ?_; rintro e w6 ⟨rfl, rfl⟩; have KP := Lib.hid (fun z => GF.out _ (PB.out.bel.setCell (p := ⟨w2.heap.size, j, none⟩) e1 z) (keepG PB.out e2 j z)))
                | fail)
            all_goals
              go_wp2
              go_roundw
              case rel => exact ⟨j + 1, by omega, by go_num, FIN.out _ PB.out⟩
              case measure => simp [RowKit.intOf]; omega
          · obtain rfl : j = q := by omega
            rw [mixCur_full] at PB
            obtain ⟨_, _, _, _, r0, r1, r2, r3⟩ := C0.out wr PB.out.bel
            go_wp2
            refine bodyPost_ret (v := .agg #[.int .i64 (k : Int), .slice (some ⟨w2.heap.size, 0, none⟩) j j]) (by simp [results, Tryd.results46, go_sem, r0, r1]) rfl ⟨_, rfl, (PB.out.own.setB (by omega) _ _).lift (by omega), belowC BW.out (Nat.le_add_right _ 2) _ _⟩
      · have hmk' : (k : Int) ≤ (m : Int) := by omega
        have hmax2 : max (m : Int) (k : Int) = (m : Int) := by omega
        have hp4 : m ≤ 4096 := hm
        have KW := fun W => wordsOf_any m hp4 W
        obtain ⟨q, hq⟩ : ∃ q, q = (m + 63) / 64 := ⟨_, rfl⟩
        have hq64 : q ≤ 64 := by omega
        rw [← hq] at KW
        have KW := Lib.hid KW
        have HS : mixS (m : Int) (k : Int) L M = (m : Int) := by unfold mixS; rw [if_pos HOK.out, hmax2]
        have HL : mixL true (m : Int) (k : Int) L M = mixWs true L M q := by unfold mixL; rw [if_pos HOK.out, hmax2, Int.toNat_natCast, ← hq]
        rw [HS, HL]
        clear HS HL hq HOK
        go_enter Tryd.func46, Tryd.ntmps46
        go_wp2_with fail
        generalize ((w.alloc (.cells #[.int .i64 (m : Int), .slice A N c] 27)).alloc (.cells #[.int .i64 (k : Int), .slice B Q d] 27)).alloc (.cells #[.int .i64 0, .slice none 0 0] 27) = W0 at *
        rw [HZ.out] at C0
        refine (KA.out _ B0.out).mono ?_
        rintro e w1 ⟨rfl, b1⟩
        have B1 := Lib.hid (B0.out.trans (b1.mono B0.out.size))
        rw [HZ.out] at b1
        have V1 := Lib.hid b1
        obtain ⟨u0, u1, u2, u3, _⟩ := C0.out w1 b1
        clear x0 x1 y0 y1 z0 z1 z2 z3 b1
        go_wp2_with fail
        refine (KB.out _ B1.out).mono ?_
        rintro e w2 ⟨rfl, b2⟩
        have B2 := Lib.hid (B1.out.trans (b2.mono B1.out.size))
        have V2 := Lib.hid (V1.out.trans (b2.mono (Nat.le_trans (Nat.le_of_eq HZ.out.symm) V1.out.size)))
        obtain ⟨v0, v1, v2, v3, _⟩ := C0.out w2 V2.out
        clear u0 u1 u2 u3 b2 V1 B1
        go_wp2_with fail
        refine (KW.out _).mono ?_
        rintro e w3 ⟨rfl, rfl⟩
        have hz2 : w.heap.size + 3 ≤ w2.heap.size := Nat.le_trans (Nat.le_of_eq HZ.out.symm) V2.out.size
        go_wp2_with (at_make; refine wpList_make_Q rfl _ _ rfl (w.heap.size + 3) q _ _ rfl rfl rfl rfl (by omega) hz2 ?_; intro w3 ho3 hb3; have P0 := Lib.hid (BxQ.new (s := (m : Int)) 27 (V2.out.trans hb3) ho3 (Nat.le_trans hz2 hb3.size)); clear ho3 hb3)
        go_loopw [9, 32] (fun _ i wr => ∃ j : Nat, j ≤ q ∧ i = .int .i64 (j : Int) ∧ BxQ (w.heap.size + 3) W0 wr w3.heap.size (m : Int) (.slice (some ⟨w2.heap.size, 0, none⟩) q q) (mixCur true L M q j) 27) (fun _ i _ => q - (RowKit.intOf i).toNat)
        case atStart => exact ⟨0, Nat.zero_le _, rfl, by rw [mixCur_zero]; exact P0.out⟩
        case round =>
          obtain ⟨j, hj, rfl, hbx⟩ := hrel
          have PB := Lib.hid hbx
          have BW := Lib.hid (B0.out.trans (hbx.bel.mono (Nat.le_add_right _ 3)))
          obtain ⟨g0, g1, g2, g3⟩ := hbx.cells
          have CC := Lib.hid (fun W (h : BxQ (w.heap.size + 3) W0 W w3.heap.size (m : Int) (.slice (some ⟨w2.heap.size, 0, none⟩) q q) (mixCur true L M q j) 27) => h.cells.2.1)
          clear hbx v0 v1 v2 v3
          by_cases hjq : j < q
          · have hjq' : (j : Int) < (q : Int) := by omega
            have hj64 : j ≤ 64 := by omega
            have KX := Lib.hid (both1_any _ _ (wordN_lt L j) (wordN_lt M j))
            have SX := Lib.hid (fun W (h : BxQ (w.heap.size + 3) W0 W w3.heap.size (m : Int) (.slice (some ⟨w2.heap.size, 0, none⟩) q q) (mixCur true L M q j) 27) => h.setg (mixCur_at true L M hjq))
            have FIN := Lib.hid (fun W (h : BxQ (w.heap.size + 3) W0 W w3.heap.size (m : Int) (.slice (some ⟨w2.heap.size, 0, none⟩) q q) (mixCur true L M q j) 27) => (h.setg (mixCur_at true L M hjq)).2.2.2.2 _ _ (mixU true L M j))
            rw [mixCur_set true L M hjq] at FIN
            have GF := Lib.hid (fun (W : World) (h1 : Below (w.heap.size + 3) W0 W) (h : W.cell? ⟨w3.heap.size, 1, none⟩ = some (.slice (some ⟨w2.heap.size, 0, none⟩) q q)) => And.intro (C0.out W h1).1 (And.intro (C0.out W h1).2.1 (And.intro (C0.out W h1).2.2.1 (And.intro (C0.out W h1).2.2.2.1 h))))
            have PB := Lib.hid (PB.out.later (Below.refl _ wr).drew)
            have BW := Lib.hid BW.out.drew
            have cc := GF.out wr.drew PB.out.bel (CC.out _ PB.out)
            go_upto_region 8 with fail
            go_region_held3 (fun W => W.cell? ⟨w.heap.size, 0, none⟩ = some (.int .i64 (m : Int)) ∧ W.cell? ⟨w.heap.size, 1, none⟩ = some (.slice A N c) ∧ W.cell? ⟨w.heap.size + 1, 0, none⟩ = some (.int .i64 (k : Int)) ∧ W.cell? ⟨w.heap.size + 1, 1, none⟩ = some (.slice B Q d) ∧ W.cell? ⟨w3.heap.size, 1, none⟩ = some (.slice (some ⟨w2.heap.size, 0, none⟩) q q)) (first | with_reducible assumption | with_reducible exact cc | with_reducible exact KP.out _ | fail)
              (first
                | (go_at_call 60; with_reducible refine Calls.mono (WA.out j _ hj64 BW.out) ?_; rintro e w5 ⟨rfl, b5⟩; have PB := Lib.hid (PB.out.later b5); have BW := Lib.hid (BW.out.trans (b5.mono BW.out.size)); have cc := GF.out w5 PB.out.bel (CC.out _ PB.out); obtain ⟨e1, e2, cx, fx, _⟩ := SX.out _ PB.out; clear b5)
                | (go_at_call 60; with_reducible refine Calls.mono (WB.out j _ hj64 BW.out) ?_; rintro e w5 ⟨rfl, b5⟩; have PB := Lib.hid (PB.out.later b5); have BW := Lib.hid (BW.out.trans (b5.mono BW.out.size)); have cc := GF.out w5 PB.out.bel (CC.out _ PB.out); obtain ⟨e1, e2, cx, fx, _⟩ := SX.out _ PB.out; clear b5)
                | (go_at_call 47; refine (KX.out _).mono ?_; rintro e w6 ⟨rfl, rfl⟩; have KP := Lib.hid (fun z => GF.out _ (PB.out.bel.setCell (p := ⟨w2.heap.size, j, none⟩) e1 z) (keepG PB.out e2 j z)))
                | fail)
            all_goals
              go_wp2
              go_roundw
              case rel => exact ⟨j + 1, by omega, by go_num, FIN.out _ PB.out⟩
              case measure => simp [RowKit.intOf]; omega
          · obtain rfl : j = q := by omega
            rw [mixCur_full] at PB
            obtain ⟨_, _, _, _, r0, r1, r2, r3⟩ := C0.out wr PB.out.bel
            go_wp2
            refine bodyPost_ret (v := .agg #[.int .i64 (m : Int), .slice (some ⟨w2.heap.size, 0, none⟩) j j]) (by simp [results, Tryd.results46, go_sem, r0, r1]) rfl ⟨_, rfl, (PB.out.own.setB (by omega) _ _).lift (by omega), belowC BW.out (Nat.le_add_right _ 2) _ _⟩
    · rw [b1] at KB
      obtain ⟨e1, e2⟩ := mixL_bad (all := true) (show mixOk s t L M = false by unfold mixOk; rw [b0, Bool.and_false])
      rw [e1, e2]
      clear a0 a1 b0 b1 e1 e2 WA WB
      go_enter Tryd.func46, Tryd.ntmps46
      go_wp2_with fail
      refine (KA.out _ B0.out).mono ?_
      rintro e w1 ⟨rfl, b1⟩
      have B1 := Lib.hid (B0.out.trans (b1.mono B0.out.size))
      obtain ⟨u0, u1, u2, u3, _⟩ := C0.out w1 b1
      clear x0 x1 y0 y1 z0 z1 z2 z3
      go_wp2_with fail
      refine (KB.out _ B1.out).mono ?_
      rintro e w2 ⟨rfl, b2⟩
      have B2 := Lib.hid (B1.out.trans (b2.mono B1.out.size))
      obtain ⟨_, _, _, _, r0, r1, r2, r3⟩ := C0.out w2 (b1.trans (b2.mono b1.size))
      clear u0 u1 u2 u3 b1 b2
      go_wp2
      refine bodyPost_ret (v := .agg #[.int .i64 0, .slice none 0 0]) (by simp [results, Tryd.results46, go_sem, r0, r1]) rfl ⟨_, rfl, OQ.nil, belowC B2.out (Nat.le_add_right _ 2) _ _⟩
  · rw [a1] at KA
    obtain ⟨e1, e2⟩ := mixL_bad (all := true) (show mixOk s t L M = false by unfold mixOk; rw [a0]; rfl)
    rw [e1, e2]
    clear a0 a1 e1 e2 WA WB KB
    go_enter Tryd.func46, Tryd.ntmps46
    go_wp2_with fail
    refine (KA.out _ B0.out).mono ?_
    rintro e w1 ⟨rfl, b1⟩
    have B1 := Lib.hid (B0.out.trans (b1.mono B0.out.size))
    obtain ⟨_, _, _, _, r0, r1, r2, r3⟩ := C0.out w1 b1
    clear x0 x1 y0 y1 z0 z1 z2 z3 b1
    go_wp2
    refine bodyPost_ret (v := .agg #[.int .i64 0, .slice none 0 0]) (by simp [results, Tryd.results46, go_sem, r0, r1]) rfl ⟨_, rfl, OQ.nil, belowC B1.out (Nat.le_add_right _ 2) _ _⟩
end Go.Proofs.YtmmehomobmoapaaDoor
