/- The document's mixed, the walk; Both and Either. -/
import Derived.Test.YtmmehomobmoapaaDoorQj
namespace Go.Proofs.YtmmehomobmoapaaDoor
open Go.RowKit
set_option linter.unusedVariables false
set_option linter.unusedSimpArgs false
/-- The loop's state: nothing below base has changed, block g holds the size and the words so far. -/
structure MxS (base : Nat) (W0 W : World) (g : Nat) (S : Int) (A : Option Addr) (n c : Nat) (L : List UInt64) : Prop where
  bel : Below base W0 W
  at_ : W.heap[g]? = some (.cells #[.int .i64 S, .slice A n c] 24 (0, 0))
  ge : base ≤ g
  row : RQ W A L
  cap : n ≤ c
theorem MxS.later {base : Nat} {W0 W V : World} {g : Nat} {S : Int} {A : Option Addr} {n c : Nat} {L : List UInt64} (h : MxS base W0 W g S A n c L) (hb : Below W.heap.size W V) : MxS base W0 V g S A n c L :=
  ⟨h.bel.trans (hb.mono (Nat.le_trans h.ge (Nat.le_of_lt (Array.getElem?_eq_some_iff.1 h.at_).1))), (hb.block g (Array.getElem?_eq_some_iff.1 h.at_).1).trans h.at_, h.ge, h.row.below hb, h.cap⟩
theorem MxS.cells {base : Nat} {W0 W : World} {g : Nat} {S : Int} {A : Option Addr} {n c : Nat} {L : List UInt64} (h : MxS base W0 W g S A n c L) : W.cell? ⟨g, 0, none⟩ = some (.int .i64 S) ∧ W.cell? ⟨g, 1, none⟩ = some (.slice A n c) ∧ W.frozen? ⟨g, 0, none⟩ = false ∧ W.frozen? ⟨g, 1, none⟩ = false :=
  ⟨(cell_of_row W _ 0 _ _ _ h.at_).trans rfl, (cell_of_row W _ 1 _ _ _ h.at_).trans rfl, by simp [World.frozen?, h.at_], by simp [World.frozen?, h.at_]⟩
theorem MxS.put {base : Nat} {W0 W : World} {g : Nat} {S : Int} {A : Option Addr} {n c : Nat} {L : List UInt64} (h : MxS base W0 W g S A n c L) {A' : Option Addr} {c' : Nat} {L' : List UInt64} (hr : RQ W A' L') (hc : n ≤ c') : MxS base W0 ((W.setCell ⟨g, 0, none⟩ (.int .i64 S)).setCell ⟨g, 1, none⟩ (.slice A' n c')) g S A' n c' L' :=
  ⟨belowC h.bel h.ge _ _, heap_setC h.at_ _ _, h.ge, hr.setBox (v := .int .i64 S) h.at_ _ _, hc⟩
set_option maxHeartbeats 8000000 in
set_option maxRecDepth 100000 in
theorem refMixed_true (s t : Int) (A B : Option Addr) (c d : Nat) (L M : List UInt64) (w : World) (hA : RQ w A L) (hB : RQ w B M) : Calls Tryd.prog 48 #[.agg #[.int .i64 s, .slice A L.length c], .agg #[.int .i64 t, .slice B M.length d], .bool true] w fun e w' => ∃ A' c', e = .returned (.agg #[.int .i64 (mixS s t L M), .slice A' (mixL true s t L M).length c']) ∧ (mixL true s t L M).length ≤ c' ∧ RQ w' A' (mixL true s t L M) ∧ Below w.heap.size w w' := by
  have HRA := Lib.hid (fun W (hb : Below w.heap.size w W) => hA.below hb)
  have HRB := Lib.hid (fun W (hb : Below w.heap.size w W) => hB.below hb)
  have KA := fun W (hb : Below w.heap.size w W) => refCheck_any s A c L W (HRA.out W hb)
  have KB := fun W (hb : Below w.heap.size w W) => refCheck_any t B d M W (HRB.out W hb)
  have B0 := Lib.hid (below3 w #[.int .i64 s, .slice A L.length c] #[.int .i64 t, .slice B M.length d] #[.int .i64 0, .slice none 0 0] 24)
  have C0 := Lib.hid (cells3 w (.int .i64 s) (.slice A L.length c) (.int .i64 t) (.slice B M.length d) (.int .i64 0) (.slice none 0 0) 24)
  have HZ := Lib.hid (size3 w #[.int .i64 s, .slice A L.length c] #[.int .i64 t, .slice B M.length d] #[.int .i64 0, .slice none 0 0] 24)
  have RX2 : Hid ((((w.alloc (.cells #[.int .i64 s, .slice A L.length c] 24)).alloc (.cells #[.int .i64 t, .slice B M.length d] 24)).alloc (.cells #[.int .i64 0, .slice none 0 0] 24)).heap[w.heap.size + 2]? = some (.cells #[.int .i64 0, .slice none 0 0] 24 (0, 0))) := Lib.hid (by
    have h := heap_alloc_last ((w.alloc (.cells #[.int .i64 s, .slice A L.length c] 24)).alloc (.cells #[.int .i64 t, .slice B M.length d] 24)) (.cells #[.int .i64 0, .slice none 0 0] 24)
    rw [heap_size_alloc, heap_size_alloc] at h
    exact h)
  obtain ⟨N, hN⟩ : ∃ N, N = L.length := ⟨_, rfl⟩
  obtain ⟨Q, hQ⟩ : ∃ Q, Q = M.length := ⟨_, rfl⟩
  rcases chk_cases s L with ⟨a0, a1⟩ | ⟨a0, a1⟩
  · rw [a1] at KA
    rcases chk_cases t M with ⟨b0, b1⟩ | ⟨b0, b1⟩
    · rw [b1] at KB
      obtain ⟨m, rfl, hm, hl, _⟩ := okB_nat a0
      obtain ⟨k0, rfl, hk, hl2, _⟩ := okB_nat b0
      rcases Nat.lt_or_ge m k0 with hmk | hmk
      · have hmk' : (m : Int) < (k0 : Int) := by omega
        have hp4 : k0 ≤ 4096 := by omega
        obtain ⟨S, hS⟩ : ∃ S, S = k0 := ⟨_, rfl⟩
        have hSm : S = max m k0 := by omega
        have HMX : Hid (mixRef true S L M S = mixL true (m : Int) (k0 : Int) L M) := Lib.hid (by rw [hSm]; exact mixRef_is a0 b0)
        have HSS : mixS (m : Int) (k0 : Int) L M = (S : Int) := by unfold mixS mixOk; rw [a0, b0]; show max (m : Int) (k0 : Int) = _; omega
        have HLN : Hid ((mixL true (m : Int) (k0 : Int) L M).length = (S + 63) / 64) := Lib.hid (by rw [← HMX.out, mixRef_len (by omega)])
        have KN := fun W => refNew_any (S : Int) W
        have hok : newOk (S : Int) = true := decide_eq_true (by omega)
        rw [show newS (S : Int) = (S : Int) from if_pos hok, show newE (S : Int) = 0 from if_pos hok] at KN
        rw [hS] at KN
        have KN := Lib.hid KN
        have HA0 := Lib.hid a0
        have HB0 := Lib.hid b0
        have hS4 : S ≤ 4096 := by omega
        have HLK := Lib.hid (fun k => mixRef_len hS4 true L M k)
        have KHA0 := fun (k : Nat) W (hb : Below w.heap.size w W) => refHas_any (m : Int) A c L (k : Int) W (HRA.out W hb)
        have KHB0 := fun (k : Nat) W (hb : Below w.heap.size w W) => refHas_any (k0 : Int) B d M (k : Int) W (HRB.out W hb)
        have e0 : ∀ k : Nat, hasB (m : Int) L (k : Int) = bitL L k := fun k => has_bit a0
        have e1 : ∀ k : Nat, hasB (k0 : Int) M (k : Int) = bitL M k := fun k => has_bit b0
        have KHA0 := Lib.hid (fun (k : Nat) W (hb : Below w.heap.size w W) => by have h := KHA0 k W hb; rw [e0 k] at h; exact h)
        have KHB0 := Lib.hid (fun (k : Nat) W (hb : Below w.heap.size w W) => by have h := KHB0 k W hb; rw [e1 k] at h; exact h)
        rw [HSS, HLN.out]
        obtain ⟨NS, hNS⟩ : ∃ NS, NS = (S + 63) / 64 := ⟨_, rfl⟩
        have HNS := Lib.hid hNS
        have hNS64 : NS ≤ 64 := by omega
        rw [← hNS] at HLK ⊢
        rw [← hN] at KA KHA0 C0 B0 HZ RX2 ⊢
        rw [← hQ] at KB KHB0 C0 B0 HZ RX2 ⊢
        have KA := Lib.hid KA
        have KB := Lib.hid KB
        obtain ⟨x0, x1, y0, y1, z0, z1, z2, z3⟩ := C0.out _ (Below.refl _ _)
        have HSp := Lib.hid hS
        clear a0 a1 b0 b1 hl hl2 hA hB hN hQ e0 e1 hok hSm HSS hNS hp4 hS
        go_enter Tryd.func48, Tryd.ntmps48
        go_wp2_with fail
        generalize ((w.alloc (.cells #[.int .i64 (m : Int), .slice A N c] 24)).alloc (.cells #[.int .i64 (k0 : Int), .slice B Q d] 24)).alloc (.cells #[.int .i64 0, .slice none 0 0] 24) = W0 at *
        rw [HZ.out] at C0
        refine (KA.out _ B0.out).mono ?_
        rintro e w1 ⟨rfl, b1⟩
        have B1 := Lib.hid (B0.out.trans (b1.mono B0.out.size))
        rw [HZ.out] at b1
        have V1 := Lib.hid b1
        clear x0 x1 y0 y1 z0 z1 z2 z3 b1
        obtain ⟨x0, x1, y0, y1, _⟩ := C0.out w1 V1.out
        go_wp2_with fail
        refine (KB.out _ B1.out).mono ?_
        rintro e w2 ⟨rfl, b2⟩
        have B2 := Lib.hid (B1.out.trans (b2.mono B1.out.size))
        have V2 := Lib.hid (V1.out.trans (b2.mono (Nat.le_trans (Nat.le_of_eq HZ.out.symm) V1.out.size)))
        clear x0 x1 y0 y1 b2 V1 B1
        obtain ⟨x0, x1, y0, y1, _⟩ := C0.out w2 V2.out
        go_wp2_with fail
        refine (KN.out _).mono ?_
        rw [← HSp.out]
        rintro e w3 ⟨v3, rfl, o3, b3⟩
        have hz2 : w.heap.size + 3 ≤ w2.heap.size := Nat.le_trans (Nat.le_of_eq HZ.out.symm) V2.out.size
        obtain ⟨A3, c3, rfl, hc3, r3⟩ := o3.form
        have hl0 := HLK.out 0
        rw [show mixRef true S L M 0 = newL (S : Int) from rfl] at hl0
        rw [hl0] at hc3 ⊢
        have P3 : MxS (w.heap.size + 3) W0 (w3.alloc (.cells #[.int .i64 (S : Int), .slice A3 NS c3] 24)) w3.heap.size (S : Int) A3 NS c3 (mixRef true S L M 0) := ⟨(V2.out.trans (b3.mono hz2)).alloc (Nat.le_trans hz2 b3.size) _, heap_alloc_last w3 _, Nat.le_trans hz2 b3.size, r3.alloc _, hc3⟩
        have P3 := Lib.hid P3
        have CX := Lib.hid (fun W (h : Below (w.heap.size + 3) W0 W) => And.intro (And.intro (C0.out W h).1 (C0.out W h).2.1) (And.intro (C0.out W h).2.2.1 (C0.out W h).2.2.2.1))
        have RB2 := Lib.hid (fun W (h : Below (w.heap.size + 3) W0 W) => (h.block (w.heap.size + 2) (Nat.lt_succ_self _)).trans RX2.out)
        have BE := Lib.hid (fun W (h : Below (w.heap.size + 3) W0 W) => B0.out.trans (h.mono (Nat.le_add_right _ 3)))
        have RS := Lib.hid (fun W (h : Below (w.heap.size + 3) W0 W) => (C0.out W h).2.2.2.2)
        clear o3 b3 r3 x0 x1 y0 y1 hl0 KN KA KB
        go_wp2
        obtain ⟨g, hg⟩ : ∃ g, g = w3.heap.size := ⟨_, rfl⟩
        rw [← hg] at P3 ⊢
        generalize w3.alloc (.cells #[.int .i64 (S : Int), .slice A3 NS c3] 24) = W3 at *
        clear hg
        go_loopw [9, 10] (fun i _ wr => ∃ (k : Nat) (Ax : Option Addr) (cx : Nat), k ≤ S ∧ i = .int .i64 (k : Int) ∧ MxS (w.heap.size + 3) W0 wr g (S : Int) Ax NS cx (mixRef true S L M k)) (fun i _ _ => S - (RowKit.intOf i).toNat)
        case atStart => exact ⟨0, A3, c3, Nat.zero_le _, rfl, P3.out⟩
        case round =>
          obtain ⟨k, Ax, cx, hk, rfl, hP⟩ := hrel
          have PB := Lib.hid hP
          obtain ⟨⟨x0, x1⟩, y0, y1⟩ := CX.out _ hP.bel
          obtain ⟨u0, u1, _, _⟩ := hP.cells
          clear hP
          by_cases hlt : k < S
          · have hlt' : (k : Int) < (S : Int) := by omega
            have KHAk := fun W hb => KHA0.out k W hb
            have KHBk := fun W hb => KHB0.out k W hb
            have HLK := Lib.hid (HLK.out k)
            cases hba : bitL L k
            · cases hbb : bitL M k
              · skip
                have HSTEP : Hid (mixRef true S L M (k + 1) = setL (S : Int) (mixRef true S L M k) (k : Int) false) := Lib.hid (by rw [mixRef, hba, hbb]; rfl)
                have K13 := fun (Aq : Option Addr) (cq : Nat) W (hq : (mixRef true S L M k).length ≤ cq) (h : RQ W Aq (mixRef true S L M k)) => refSet_any (S : Int) Aq cq (mixRef true S L M k) (k : Int) false W (by rw [HLK.out]; omega) hq h
                rw [← HSTEP.out, HLK.out] at K13
                have K13 := Lib.hid K13
                rw [hba] at KHAk
                rw [hbb] at KHBk
                have KHA := Lib.hid KHAk
                have KHB := Lib.hid KHBk
                clear hba hbb KHAk KHBk
                go_wp2_with fail
                refine (KHA.out _ (BE.out _ PB.out.bel)).mono ?_
                rintro e w7 ⟨rfl, b7⟩
                have PB := Lib.hid (PB.out.later b7)
                obtain ⟨⟨x0, x1⟩, y0, y1⟩ := CX.out _ PB.out.bel
                clear b7
                go_wp2_with fail
                refine (KHB.out _ (BE.out _ PB.out.bel)).mono ?_
                rintro e w7 ⟨rfl, b7⟩
                have PB := Lib.hid (PB.out.later b7)
                obtain ⟨⟨x0, x1⟩, y0, y1⟩ := CX.out _ PB.out.bel
                clear b7
                go_wp2_with fail
                refine (KHA.out _ (BE.out _ PB.out.bel)).mono ?_
                rintro e w7 ⟨rfl, b7⟩
                have PB := Lib.hid (PB.out.later b7)
                obtain ⟨⟨x0, x1⟩, y0, y1⟩ := CX.out _ PB.out.bel
                clear b7
                obtain ⟨u0, u1, _, _⟩ := PB.out.cells
                go_wp2_with fail
                refine (K13.out Ax cx _ PB.out.cap PB.out.row).mono ?_
                rintro e w9 ⟨A9, c9, rfl, hc9, r9, b9⟩
                have PN := Lib.hid (PB.out.later b9)
                obtain ⟨v0, v1, f0, f1⟩ := PN.out.cells
                have FIN := Lib.hid (PN.out.put r9 hc9)
                clear b9 r9 u0 u1
                go_wp2
                go_roundw
                case rel => exact ⟨k + 1, A9, c9, by omega, by go_num, FIN.out⟩
                case measure => simp [RowKit.intOf]; omega
              · skip
                have HSTEP : Hid (mixRef true S L M (k + 1) = setL (S : Int) (mixRef true S L M k) (k : Int) false) := Lib.hid (by rw [mixRef, hba, hbb]; rfl)
                have K13 := fun (Aq : Option Addr) (cq : Nat) W (hq : (mixRef true S L M k).length ≤ cq) (h : RQ W Aq (mixRef true S L M k)) => refSet_any (S : Int) Aq cq (mixRef true S L M k) (k : Int) false W (by rw [HLK.out]; omega) hq h
                rw [← HSTEP.out, HLK.out] at K13
                have K13 := Lib.hid K13
                rw [hba] at KHAk
                rw [hbb] at KHBk
                have KHA := Lib.hid KHAk
                have KHB := Lib.hid KHBk
                clear hba hbb KHAk KHBk
                go_wp2_with fail
                refine (KHA.out _ (BE.out _ PB.out.bel)).mono ?_
                rintro e w7 ⟨rfl, b7⟩
                have PB := Lib.hid (PB.out.later b7)
                obtain ⟨⟨x0, x1⟩, y0, y1⟩ := CX.out _ PB.out.bel
                clear b7
                go_wp2_with fail
                refine (KHB.out _ (BE.out _ PB.out.bel)).mono ?_
                rintro e w7 ⟨rfl, b7⟩
                have PB := Lib.hid (PB.out.later b7)
                obtain ⟨⟨x0, x1⟩, y0, y1⟩ := CX.out _ PB.out.bel
                clear b7
                go_wp2_with fail
                refine (KHA.out _ (BE.out _ PB.out.bel)).mono ?_
                rintro e w7 ⟨rfl, b7⟩
                have PB := Lib.hid (PB.out.later b7)
                obtain ⟨⟨x0, x1⟩, y0, y1⟩ := CX.out _ PB.out.bel
                clear b7
                obtain ⟨u0, u1, _, _⟩ := PB.out.cells
                go_wp2_with fail
                refine (K13.out Ax cx _ PB.out.cap PB.out.row).mono ?_
                rintro e w9 ⟨A9, c9, rfl, hc9, r9, b9⟩
                have PN := Lib.hid (PB.out.later b9)
                obtain ⟨v0, v1, f0, f1⟩ := PN.out.cells
                have FIN := Lib.hid (PN.out.put r9 hc9)
                clear b9 r9 u0 u1
                go_wp2
                go_roundw
                case rel => exact ⟨k + 1, A9, c9, by omega, by go_num, FIN.out⟩
                case measure => simp [RowKit.intOf]; omega
            · cases hbb : bitL M k
              · skip
                have HSTEP : Hid (mixRef true S L M (k + 1) = setL (S : Int) (mixRef true S L M k) (k : Int) false) := Lib.hid (by rw [mixRef, hba, hbb]; rfl)
                have K13 := fun (Aq : Option Addr) (cq : Nat) W (hq : (mixRef true S L M k).length ≤ cq) (h : RQ W Aq (mixRef true S L M k)) => refSet_any (S : Int) Aq cq (mixRef true S L M k) (k : Int) false W (by rw [HLK.out]; omega) hq h
                rw [← HSTEP.out, HLK.out] at K13
                have K13 := Lib.hid K13
                rw [hba] at KHAk
                rw [hbb] at KHBk
                have KHA := Lib.hid KHAk
                have KHB := Lib.hid KHBk
                clear hba hbb KHAk KHBk
                go_wp2_with fail
                refine (KHA.out _ (BE.out _ PB.out.bel)).mono ?_
                rintro e w7 ⟨rfl, b7⟩
                have PB := Lib.hid (PB.out.later b7)
                obtain ⟨⟨x0, x1⟩, y0, y1⟩ := CX.out _ PB.out.bel
                clear b7
                go_wp2_with fail
                refine (KHA.out _ (BE.out _ PB.out.bel)).mono ?_
                rintro e w7 ⟨rfl, b7⟩
                have PB := Lib.hid (PB.out.later b7)
                obtain ⟨⟨x0, x1⟩, y0, y1⟩ := CX.out _ PB.out.bel
                clear b7
                go_wp2_with fail
                refine (KHB.out _ (BE.out _ PB.out.bel)).mono ?_
                rintro e w7 ⟨rfl, b7⟩
                have PB := Lib.hid (PB.out.later b7)
                obtain ⟨⟨x0, x1⟩, y0, y1⟩ := CX.out _ PB.out.bel
                clear b7
                obtain ⟨u0, u1, _, _⟩ := PB.out.cells
                go_wp2_with fail
                refine (K13.out Ax cx _ PB.out.cap PB.out.row).mono ?_
                rintro e w9 ⟨A9, c9, rfl, hc9, r9, b9⟩
                have PN := Lib.hid (PB.out.later b9)
                obtain ⟨v0, v1, f0, f1⟩ := PN.out.cells
                have FIN := Lib.hid (PN.out.put r9 hc9)
                clear b9 r9 u0 u1
                go_wp2
                go_roundw
                case rel => exact ⟨k + 1, A9, c9, by omega, by go_num, FIN.out⟩
                case measure => simp [RowKit.intOf]; omega
              · skip
                have HSTEP : Hid (mixRef true S L M (k + 1) = setL (S : Int) (mixRef true S L M k) (k : Int) true) := Lib.hid (by rw [mixRef, hba, hbb]; rfl)
                have K13 := fun (Aq : Option Addr) (cq : Nat) W (hq : (mixRef true S L M k).length ≤ cq) (h : RQ W Aq (mixRef true S L M k)) => refSet_any (S : Int) Aq cq (mixRef true S L M k) (k : Int) true W (by rw [HLK.out]; omega) hq h
                rw [← HSTEP.out, HLK.out] at K13
                have K13 := Lib.hid K13
                rw [hba] at KHAk
                rw [hbb] at KHBk
                have KHA := Lib.hid KHAk
                have KHB := Lib.hid KHBk
                clear hba hbb KHAk KHBk
                go_wp2_with fail
                refine (KHA.out _ (BE.out _ PB.out.bel)).mono ?_
                rintro e w7 ⟨rfl, b7⟩
                have PB := Lib.hid (PB.out.later b7)
                obtain ⟨⟨x0, x1⟩, y0, y1⟩ := CX.out _ PB.out.bel
                clear b7
                go_wp2_with fail
                refine (KHA.out _ (BE.out _ PB.out.bel)).mono ?_
                rintro e w7 ⟨rfl, b7⟩
                have PB := Lib.hid (PB.out.later b7)
                obtain ⟨⟨x0, x1⟩, y0, y1⟩ := CX.out _ PB.out.bel
                clear b7
                go_wp2_with fail
                refine (KHB.out _ (BE.out _ PB.out.bel)).mono ?_
                rintro e w7 ⟨rfl, b7⟩
                have PB := Lib.hid (PB.out.later b7)
                obtain ⟨⟨x0, x1⟩, y0, y1⟩ := CX.out _ PB.out.bel
                clear b7
                obtain ⟨u0, u1, _, _⟩ := PB.out.cells
                go_wp2_with fail
                refine (K13.out Ax cx _ PB.out.cap PB.out.row).mono ?_
                rintro e w9 ⟨A9, c9, rfl, hc9, r9, b9⟩
                have PN := Lib.hid (PB.out.later b9)
                obtain ⟨v0, v1, f0, f1⟩ := PN.out.cells
                have FIN := Lib.hid (PN.out.put r9 hc9)
                clear b9 r9 u0 u1
                go_wp2
                go_roundw
                case rel => exact ⟨k + 1, A9, c9, by omega, by go_num, FIN.out⟩
                case measure => simp [RowKit.intOf]; omega
          · obtain rfl : k = S := by omega
            obtain ⟨r0, r1, r2, r3⟩ := RS.out _ PB.out.bel
            have PF := Lib.hid PB.out.row
            rw [HMX.out] at PF
            go_wp2
            refine bodyPost_ret (v := .agg #[.int .i64 (k : Int), .slice Ax NS cx]) (by simp [results, Tryd.results48, go_sem, r0, r1]) rfl ⟨Ax, cx, rfl, PB.out.cap, RQ.setBox (v := .int .i64 0) PF.out (RB2.out _ PB.out.bel) _ _, belowC (BE.out _ PB.out.bel) (Nat.le_add_right _ 2) _ _⟩
      · have hmk' : (k0 : Int) ≤ (m : Int) := by omega
        have hp4 : m ≤ 4096 := by omega
        obtain ⟨S, hS⟩ : ∃ S, S = m := ⟨_, rfl⟩
        have hSm : S = max m k0 := by omega
        have HMX : Hid (mixRef true S L M S = mixL true (m : Int) (k0 : Int) L M) := Lib.hid (by rw [hSm]; exact mixRef_is a0 b0)
        have HSS : mixS (m : Int) (k0 : Int) L M = (S : Int) := by unfold mixS mixOk; rw [a0, b0]; show max (m : Int) (k0 : Int) = _; omega
        have HLN : Hid ((mixL true (m : Int) (k0 : Int) L M).length = (S + 63) / 64) := Lib.hid (by rw [← HMX.out, mixRef_len (by omega)])
        have KN := fun W => refNew_any (S : Int) W
        have hok : newOk (S : Int) = true := decide_eq_true (by omega)
        rw [show newS (S : Int) = (S : Int) from if_pos hok, show newE (S : Int) = 0 from if_pos hok] at KN
        rw [hS] at KN
        have KN := Lib.hid KN
        have HA0 := Lib.hid a0
        have HB0 := Lib.hid b0
        have hS4 : S ≤ 4096 := by omega
        have HLK := Lib.hid (fun k => mixRef_len hS4 true L M k)
        have KHA0 := fun (k : Nat) W (hb : Below w.heap.size w W) => refHas_any (m : Int) A c L (k : Int) W (HRA.out W hb)
        have KHB0 := fun (k : Nat) W (hb : Below w.heap.size w W) => refHas_any (k0 : Int) B d M (k : Int) W (HRB.out W hb)
        have e0 : ∀ k : Nat, hasB (m : Int) L (k : Int) = bitL L k := fun k => has_bit a0
        have e1 : ∀ k : Nat, hasB (k0 : Int) M (k : Int) = bitL M k := fun k => has_bit b0
        have KHA0 := Lib.hid (fun (k : Nat) W (hb : Below w.heap.size w W) => by have h := KHA0 k W hb; rw [e0 k] at h; exact h)
        have KHB0 := Lib.hid (fun (k : Nat) W (hb : Below w.heap.size w W) => by have h := KHB0 k W hb; rw [e1 k] at h; exact h)
        rw [HSS, HLN.out]
        obtain ⟨NS, hNS⟩ : ∃ NS, NS = (S + 63) / 64 := ⟨_, rfl⟩
        have HNS := Lib.hid hNS
        have hNS64 : NS ≤ 64 := by omega
        rw [← hNS] at HLK ⊢
        rw [← hN] at KA KHA0 C0 B0 HZ RX2 ⊢
        rw [← hQ] at KB KHB0 C0 B0 HZ RX2 ⊢
        have KA := Lib.hid KA
        have KB := Lib.hid KB
        obtain ⟨x0, x1, y0, y1, z0, z1, z2, z3⟩ := C0.out _ (Below.refl _ _)
        have HSp := Lib.hid hS
        clear a0 a1 b0 b1 hl hl2 hA hB hN hQ e0 e1 hok hSm HSS hNS hp4 hS
        go_enter Tryd.func48, Tryd.ntmps48
        go_wp2_with fail
        generalize ((w.alloc (.cells #[.int .i64 (m : Int), .slice A N c] 24)).alloc (.cells #[.int .i64 (k0 : Int), .slice B Q d] 24)).alloc (.cells #[.int .i64 0, .slice none 0 0] 24) = W0 at *
        rw [HZ.out] at C0
        refine (KA.out _ B0.out).mono ?_
        rintro e w1 ⟨rfl, b1⟩
        have B1 := Lib.hid (B0.out.trans (b1.mono B0.out.size))
        rw [HZ.out] at b1
        have V1 := Lib.hid b1
        clear x0 x1 y0 y1 z0 z1 z2 z3 b1
        obtain ⟨x0, x1, y0, y1, _⟩ := C0.out w1 V1.out
        go_wp2_with fail
        refine (KB.out _ B1.out).mono ?_
        rintro e w2 ⟨rfl, b2⟩
        have B2 := Lib.hid (B1.out.trans (b2.mono B1.out.size))
        have V2 := Lib.hid (V1.out.trans (b2.mono (Nat.le_trans (Nat.le_of_eq HZ.out.symm) V1.out.size)))
        clear x0 x1 y0 y1 b2 V1 B1
        obtain ⟨x0, x1, y0, y1, _⟩ := C0.out w2 V2.out
        go_wp2_with fail
        refine (KN.out _).mono ?_
        rw [← HSp.out]
        rintro e w3 ⟨v3, rfl, o3, b3⟩
        have hz2 : w.heap.size + 3 ≤ w2.heap.size := Nat.le_trans (Nat.le_of_eq HZ.out.symm) V2.out.size
        obtain ⟨A3, c3, rfl, hc3, r3⟩ := o3.form
        have hl0 := HLK.out 0
        rw [show mixRef true S L M 0 = newL (S : Int) from rfl] at hl0
        rw [hl0] at hc3 ⊢
        have P3 : MxS (w.heap.size + 3) W0 (w3.alloc (.cells #[.int .i64 (S : Int), .slice A3 NS c3] 24)) w3.heap.size (S : Int) A3 NS c3 (mixRef true S L M 0) := ⟨(V2.out.trans (b3.mono hz2)).alloc (Nat.le_trans hz2 b3.size) _, heap_alloc_last w3 _, Nat.le_trans hz2 b3.size, r3.alloc _, hc3⟩
        have P3 := Lib.hid P3
        have CX := Lib.hid (fun W (h : Below (w.heap.size + 3) W0 W) => And.intro (And.intro (C0.out W h).1 (C0.out W h).2.1) (And.intro (C0.out W h).2.2.1 (C0.out W h).2.2.2.1))
        have RB2 := Lib.hid (fun W (h : Below (w.heap.size + 3) W0 W) => (h.block (w.heap.size + 2) (Nat.lt_succ_self _)).trans RX2.out)
        have BE := Lib.hid (fun W (h : Below (w.heap.size + 3) W0 W) => B0.out.trans (h.mono (Nat.le_add_right _ 3)))
        have RS := Lib.hid (fun W (h : Below (w.heap.size + 3) W0 W) => (C0.out W h).2.2.2.2)
        clear o3 b3 r3 x0 x1 y0 y1 hl0 KN KA KB
        go_wp2
        obtain ⟨g, hg⟩ : ∃ g, g = w3.heap.size := ⟨_, rfl⟩
        rw [← hg] at P3 ⊢
        generalize w3.alloc (.cells #[.int .i64 (S : Int), .slice A3 NS c3] 24) = W3 at *
        clear hg
        go_loopw [9, 10] (fun i _ wr => ∃ (k : Nat) (Ax : Option Addr) (cx : Nat), k ≤ S ∧ i = .int .i64 (k : Int) ∧ MxS (w.heap.size + 3) W0 wr g (S : Int) Ax NS cx (mixRef true S L M k)) (fun i _ _ => S - (RowKit.intOf i).toNat)
        case atStart => exact ⟨0, A3, c3, Nat.zero_le _, rfl, P3.out⟩
        case round =>
          obtain ⟨k, Ax, cx, hk, rfl, hP⟩ := hrel
          have PB := Lib.hid hP
          obtain ⟨⟨x0, x1⟩, y0, y1⟩ := CX.out _ hP.bel
          obtain ⟨u0, u1, _, _⟩ := hP.cells
          clear hP
          by_cases hlt : k < S
          · have hlt' : (k : Int) < (S : Int) := by omega
            have KHAk := fun W hb => KHA0.out k W hb
            have KHBk := fun W hb => KHB0.out k W hb
            have HLK := Lib.hid (HLK.out k)
            cases hba : bitL L k
            · cases hbb : bitL M k
              · skip
                have HSTEP : Hid (mixRef true S L M (k + 1) = setL (S : Int) (mixRef true S L M k) (k : Int) false) := Lib.hid (by rw [mixRef, hba, hbb]; rfl)
                have K13 := fun (Aq : Option Addr) (cq : Nat) W (hq : (mixRef true S L M k).length ≤ cq) (h : RQ W Aq (mixRef true S L M k)) => refSet_any (S : Int) Aq cq (mixRef true S L M k) (k : Int) false W (by rw [HLK.out]; omega) hq h
                rw [← HSTEP.out, HLK.out] at K13
                have K13 := Lib.hid K13
                rw [hba] at KHAk
                rw [hbb] at KHBk
                have KHA := Lib.hid KHAk
                have KHB := Lib.hid KHBk
                clear hba hbb KHAk KHBk
                go_wp2_with fail
                refine (KHA.out _ (BE.out _ PB.out.bel)).mono ?_
                rintro e w7 ⟨rfl, b7⟩
                have PB := Lib.hid (PB.out.later b7)
                obtain ⟨⟨x0, x1⟩, y0, y1⟩ := CX.out _ PB.out.bel
                clear b7
                go_wp2_with fail
                refine (KHB.out _ (BE.out _ PB.out.bel)).mono ?_
                rintro e w7 ⟨rfl, b7⟩
                have PB := Lib.hid (PB.out.later b7)
                obtain ⟨⟨x0, x1⟩, y0, y1⟩ := CX.out _ PB.out.bel
                clear b7
                go_wp2_with fail
                refine (KHA.out _ (BE.out _ PB.out.bel)).mono ?_
                rintro e w7 ⟨rfl, b7⟩
                have PB := Lib.hid (PB.out.later b7)
                obtain ⟨⟨x0, x1⟩, y0, y1⟩ := CX.out _ PB.out.bel
                clear b7
                obtain ⟨u0, u1, _, _⟩ := PB.out.cells
                go_wp2_with fail
                refine (K13.out Ax cx _ PB.out.cap PB.out.row).mono ?_
                rintro e w9 ⟨A9, c9, rfl, hc9, r9, b9⟩
                have PN := Lib.hid (PB.out.later b9)
                obtain ⟨v0, v1, f0, f1⟩ := PN.out.cells
                have FIN := Lib.hid (PN.out.put r9 hc9)
                clear b9 r9 u0 u1
                go_wp2
                go_roundw
                case rel => exact ⟨k + 1, A9, c9, by omega, by go_num, FIN.out⟩
                case measure => simp [RowKit.intOf]; omega
              · skip
                have HSTEP : Hid (mixRef true S L M (k + 1) = setL (S : Int) (mixRef true S L M k) (k : Int) false) := Lib.hid (by rw [mixRef, hba, hbb]; rfl)
                have K13 := fun (Aq : Option Addr) (cq : Nat) W (hq : (mixRef true S L M k).length ≤ cq) (h : RQ W Aq (mixRef true S L M k)) => refSet_any (S : Int) Aq cq (mixRef true S L M k) (k : Int) false W (by rw [HLK.out]; omega) hq h
                rw [← HSTEP.out, HLK.out] at K13
                have K13 := Lib.hid K13
                rw [hba] at KHAk
                rw [hbb] at KHBk
                have KHA := Lib.hid KHAk
                have KHB := Lib.hid KHBk
                clear hba hbb KHAk KHBk
                go_wp2_with fail
                refine (KHA.out _ (BE.out _ PB.out.bel)).mono ?_
                rintro e w7 ⟨rfl, b7⟩
                have PB := Lib.hid (PB.out.later b7)
                obtain ⟨⟨x0, x1⟩, y0, y1⟩ := CX.out _ PB.out.bel
                clear b7
                go_wp2_with fail
                refine (KHB.out _ (BE.out _ PB.out.bel)).mono ?_
                rintro e w7 ⟨rfl, b7⟩
                have PB := Lib.hid (PB.out.later b7)
                obtain ⟨⟨x0, x1⟩, y0, y1⟩ := CX.out _ PB.out.bel
                clear b7
                go_wp2_with fail
                refine (KHA.out _ (BE.out _ PB.out.bel)).mono ?_
                rintro e w7 ⟨rfl, b7⟩
                have PB := Lib.hid (PB.out.later b7)
                obtain ⟨⟨x0, x1⟩, y0, y1⟩ := CX.out _ PB.out.bel
                clear b7
                obtain ⟨u0, u1, _, _⟩ := PB.out.cells
                go_wp2_with fail
                refine (K13.out Ax cx _ PB.out.cap PB.out.row).mono ?_
                rintro e w9 ⟨A9, c9, rfl, hc9, r9, b9⟩
                have PN := Lib.hid (PB.out.later b9)
                obtain ⟨v0, v1, f0, f1⟩ := PN.out.cells
                have FIN := Lib.hid (PN.out.put r9 hc9)
                clear b9 r9 u0 u1
                go_wp2
                go_roundw
                case rel => exact ⟨k + 1, A9, c9, by omega, by go_num, FIN.out⟩
                case measure => simp [RowKit.intOf]; omega
            · cases hbb : bitL M k
              · skip
                have HSTEP : Hid (mixRef true S L M (k + 1) = setL (S : Int) (mixRef true S L M k) (k : Int) false) := Lib.hid (by rw [mixRef, hba, hbb]; rfl)
                have K13 := fun (Aq : Option Addr) (cq : Nat) W (hq : (mixRef true S L M k).length ≤ cq) (h : RQ W Aq (mixRef true S L M k)) => refSet_any (S : Int) Aq cq (mixRef true S L M k) (k : Int) false W (by rw [HLK.out]; omega) hq h
                rw [← HSTEP.out, HLK.out] at K13
                have K13 := Lib.hid K13
                rw [hba] at KHAk
                rw [hbb] at KHBk
                have KHA := Lib.hid KHAk
                have KHB := Lib.hid KHBk
                clear hba hbb KHAk KHBk
                go_wp2_with fail
                refine (KHA.out _ (BE.out _ PB.out.bel)).mono ?_
                rintro e w7 ⟨rfl, b7⟩
                have PB := Lib.hid (PB.out.later b7)
                obtain ⟨⟨x0, x1⟩, y0, y1⟩ := CX.out _ PB.out.bel
                clear b7
                go_wp2_with fail
                refine (KHA.out _ (BE.out _ PB.out.bel)).mono ?_
                rintro e w7 ⟨rfl, b7⟩
                have PB := Lib.hid (PB.out.later b7)
                obtain ⟨⟨x0, x1⟩, y0, y1⟩ := CX.out _ PB.out.bel
                clear b7
                go_wp2_with fail
                refine (KHB.out _ (BE.out _ PB.out.bel)).mono ?_
                rintro e w7 ⟨rfl, b7⟩
                have PB := Lib.hid (PB.out.later b7)
                obtain ⟨⟨x0, x1⟩, y0, y1⟩ := CX.out _ PB.out.bel
                clear b7
                obtain ⟨u0, u1, _, _⟩ := PB.out.cells
                go_wp2_with fail
                refine (K13.out Ax cx _ PB.out.cap PB.out.row).mono ?_
                rintro e w9 ⟨A9, c9, rfl, hc9, r9, b9⟩
                have PN := Lib.hid (PB.out.later b9)
                obtain ⟨v0, v1, f0, f1⟩ := PN.out.cells
                have FIN := Lib.hid (PN.out.put r9 hc9)
                clear b9 r9 u0 u1
                go_wp2
                go_roundw
                case rel => exact ⟨k + 1, A9, c9, by omega, by go_num, FIN.out⟩
                case measure => simp [RowKit.intOf]; omega
              · skip
                have HSTEP : Hid (mixRef true S L M (k + 1) = setL (S : Int) (mixRef true S L M k) (k : Int) true) := Lib.hid (by rw [mixRef, hba, hbb]; rfl)
                have K13 := fun (Aq : Option Addr) (cq : Nat) W (hq : (mixRef true S L M k).length ≤ cq) (h : RQ W Aq (mixRef true S L M k)) => refSet_any (S : Int) Aq cq (mixRef true S L M k) (k : Int) true W (by rw [HLK.out]; omega) hq h
                rw [← HSTEP.out, HLK.out] at K13
                have K13 := Lib.hid K13
                rw [hba] at KHAk
                rw [hbb] at KHBk
                have KHA := Lib.hid KHAk
                have KHB := Lib.hid KHBk
                clear hba hbb KHAk KHBk
                go_wp2_with fail
                refine (KHA.out _ (BE.out _ PB.out.bel)).mono ?_
                rintro e w7 ⟨rfl, b7⟩
                have PB := Lib.hid (PB.out.later b7)
                obtain ⟨⟨x0, x1⟩, y0, y1⟩ := CX.out _ PB.out.bel
                clear b7
                go_wp2_with fail
                refine (KHA.out _ (BE.out _ PB.out.bel)).mono ?_
                rintro e w7 ⟨rfl, b7⟩
                have PB := Lib.hid (PB.out.later b7)
                obtain ⟨⟨x0, x1⟩, y0, y1⟩ := CX.out _ PB.out.bel
                clear b7
                go_wp2_with fail
                refine (KHB.out _ (BE.out _ PB.out.bel)).mono ?_
                rintro e w7 ⟨rfl, b7⟩
                have PB := Lib.hid (PB.out.later b7)
                obtain ⟨⟨x0, x1⟩, y0, y1⟩ := CX.out _ PB.out.bel
                clear b7
                obtain ⟨u0, u1, _, _⟩ := PB.out.cells
                go_wp2_with fail
                refine (K13.out Ax cx _ PB.out.cap PB.out.row).mono ?_
                rintro e w9 ⟨A9, c9, rfl, hc9, r9, b9⟩
                have PN := Lib.hid (PB.out.later b9)
                obtain ⟨v0, v1, f0, f1⟩ := PN.out.cells
                have FIN := Lib.hid (PN.out.put r9 hc9)
                clear b9 r9 u0 u1
                go_wp2
                go_roundw
                case rel => exact ⟨k + 1, A9, c9, by omega, by go_num, FIN.out⟩
                case measure => simp [RowKit.intOf]; omega
          · obtain rfl : k = S := by omega
            obtain ⟨r0, r1, r2, r3⟩ := RS.out _ PB.out.bel
            have PF := Lib.hid PB.out.row
            rw [HMX.out] at PF
            go_wp2
            refine bodyPost_ret (v := .agg #[.int .i64 (k : Int), .slice Ax NS cx]) (by simp [results, Tryd.results48, go_sem, r0, r1]) rfl ⟨Ax, cx, rfl, PB.out.cap, RQ.setBox (v := .int .i64 0) PF.out (RB2.out _ PB.out.bel) _ _, belowC (BE.out _ PB.out.bel) (Nat.le_add_right _ 2) _ _⟩
    · rw [b1] at KB
      have HE := mixL_bad (all := true) (show mixOk s t L M = false by unfold mixOk; rw [b0, Bool.and_false])
      rw [HE.1, HE.2]
      rw [← hN] at KA C0 B0 HZ ⊢
      rw [← hQ] at KB C0 B0 HZ ⊢
      have KA := Lib.hid KA
      have KB := Lib.hid KB
      obtain ⟨x0, x1, y0, y1, z0, z1, z2, z3⟩ := C0.out _ (Below.refl _ _)
      clear HE a0 a1 b0 b1 hA hB hN hQ
      go_enter Tryd.func48, Tryd.ntmps48
      go_wp2_with fail
      refine (KA.out _ B0.out).mono ?_
      rintro e w1 ⟨rfl, b1⟩
      have B1 := Lib.hid (B0.out.trans (b1.mono B0.out.size))
      clear x0 x1 y0 y1 z0 z1 z2 z3
      obtain ⟨u0, u1, u2, u3, _⟩ := C0.out w1 b1
      go_wp2_with fail
      refine (KB.out _ B1.out).mono ?_
      rintro e w2 ⟨rfl, b2⟩
      have B2 := Lib.hid (B1.out.trans (b2.mono B1.out.size))
      obtain ⟨_, _, _, _, r0, r1, r2, r3⟩ := C0.out w2 (b1.trans (b2.mono b1.size))
      clear u0 u1 u2 u3 b1 b2
      go_wp2
      refine bodyPost_ret (v := .agg #[.int .i64 0, .slice none 0 0]) (by simp [results, Tryd.results48, go_sem, r0, r1]) rfl ⟨none, 0, rfl, Nat.le_refl _, .inl rfl, belowC B2.out (Nat.le_add_right _ 2) _ _⟩
  · rw [a1] at KA
    have HE := mixL_bad (all := true) (show mixOk s t L M = false by unfold mixOk; rw [a0, Bool.false_and])
    rw [HE.1, HE.2]
    rw [← hN] at KA C0 B0 HZ ⊢
    rw [← hQ] at KB C0 B0 HZ ⊢
    have KA := Lib.hid KA
    have KB := Lib.hid KB
    obtain ⟨x0, x1, y0, y1, z0, z1, z2, z3⟩ := C0.out _ (Below.refl _ _)
    clear HE a0 a1 hA hB hN hQ
    go_enter Tryd.func48, Tryd.ntmps48
    go_wp2_with fail
    refine (KA.out _ B0.out).mono ?_
    rintro e w1 ⟨rfl, b1⟩
    have B1 := Lib.hid (B0.out.trans (b1.mono B0.out.size))
    clear x0 x1 y0 y1 z0 z1 z2 z3
    obtain ⟨_, _, _, _, r0, r1, r2, r3⟩ := C0.out w1 b1
    clear b1
    go_wp2
    refine bodyPost_ret (v := .agg #[.int .i64 0, .slice none 0 0]) (by simp [results, Tryd.results48, go_sem, r0, r1]) rfl ⟨none, 0, rfl, Nat.le_refl _, .inl rfl, belowC B1.out (Nat.le_add_right _ 2) _ _⟩
end Go.Proofs.YtmmehomobmoapaaDoor
