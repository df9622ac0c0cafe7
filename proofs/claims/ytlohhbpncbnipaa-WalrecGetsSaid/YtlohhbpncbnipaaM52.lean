/- Joined: WrI. -/
import Derived.Test.YtlohhbpncbnipaaM50
import Derived.Test.YtlohhbpncbnipaaM51
import Derived.Deep.CutBlock
section
/- The document's Get: the walk. -/
namespace Go.Proofs.Ytlohhbpncbnipaa
open Go.RowKit
set_option linter.unusedVariables false
set_option linter.unusedSimpArgs false
theorem RB.other {w : World} {A : Option Addr} {l : List UInt8} (h : RB w A l) {p : Addr} {v : Value} (hc : w.cell? p = some v) (hv : ∀ z, v ≠ .int .u8 z) (u : Value) : RB (w.setCell p u) A l := by
  rcases h with rfl | ⟨ad, rfl, hj⟩
  · exact .inl rfl
  · refine .inr ⟨ad, rfl, fun j x hx => ?_⟩
    rw [World.cell?_setCell_other w p (ad.add j) u (fun e => by have := hj j x hx; rw [← e, hc] at this; injection this with this; exact hv _ this)]
    exact hj j x hx
theorem RdBox.put0 {W : World} {q : Nat} {A : Option Addr} {n c f : Nat} (h : RdBox W q A n c f) (A' : Option Addr) (n' c' : Nat) : RdBox (W.setCell ⟨q, 0, none⟩ (.slice A' n' c')) q A' n' c' f := by
  constructor <;> simp [World.cell?_setCell_other, World.cell?_setCell_same', h.c0, h.c1, h.f0, h.f1]
theorem rbPut {W : World} {q : Nat} {A B : Option Addr} {n c f : Nat} {l : List UInt8} (hx : RdBox W q A n c f) (r : RB W B l) (A' : Option Addr) (n' c' f' : Nat) : RB ((W.setCell ⟨q, 0, none⟩ (.slice A' n' c')).setCell ⟨q, 1, none⟩ (.int .i64 (f' : Int))) B l :=
  (r.other hx.c0 (fun z => by simp) _).other (by rw [World.cell?_setCell_other W _ _ _ (by simp)]; exact hx.c1) (fun z => by simp) _
theorem refGuess_kind (k : Nat) (r : List UInt8) : (refGuessL k r).kind = k := by
  unfold refGuessL
  split
  · rfl
  · split
    · rfl
    · split
      · rfl
      · split <;> rfl
set_option maxHeartbeats 8000000 in
set_option maxRecDepth 100000 in
theorem refGet_cons (A : Option Addr) (n c : Nat) (k : UInt8) (r : List UInt8) (w : World) (hN : n ≤ 17592186044416) (hl : (k :: r).length = n) (hc : n ≤ c) (hr : RB w A (k :: r)) :
    Calls Try.prog 15 #[.slice A n c] w fun e w' => ∃ r' z, e = .returned (.tuple #[Rec.v r', .int .i64 (z : Nat)]) ∧ GetOf (k :: r) r' z ∧ Below w.heap.size w w' := by
  have HG := Lib.hid (fun x hx e => refGuess_put (r := x) (k := k) (t := r) hx e)
  have HRw := Lib.hid (fun W (hb : Below w.heap.size w W) => hr.below hb)
  have hl0 := Lib.hid hl
  obtain ⟨ad, y, rfl, hy, hcy⟩ := hr.at_ (k := 0) (by simp)
  obtain rfl : y = k := by simpa using hy.symm
  rw [Addr.add_nought] at hcy
  have hlt := lt_of_cell hcy
  have hn : r.length = n - 1 := by simp at hl; omega
  have h1n : 1 ≤ n := by simp at hl; omega
  obtain ⟨B, hB⟩ : ∃ B, B = (if c = 1 then some ad else some ⟨ad.block, ad.off + 1, none⟩) := ⟨_, rfl⟩
  have hr' := hr.pastK (m := 1) hl hc (by simp at hl; omega) B (by
    rw [hB]
    by_cases e : c = 1
    · rw [if_pos e]; exact .inl ⟨rfl, e⟩
    · rw [if_neg e]; exact .inr rfl)
  rw [List.drop_one, List.tail_cons] at hr'
  have l0 : 0 < n := by omega
  have l1 : (1 : Int) ≤ (n : Int) := by omega
  have l2 : (n : Int) ≤ (c : Int) := by omega
  have ln : ((n : Int) == 0) = false := by simp; omega
  have HB := Lib.hid hB
  have hc' := Lib.hid hc
  have hN' := Lib.hid hN
  have hn' := Lib.hid hn
  have hm' : Hid (n - 1 ≤ c - 1) := Lib.hid (by omega)
  have HRB := Lib.hid hr'
  have BXa := RecBox.new (w.alloc (.cells #[.int .u8 0, .int .i64 0, .int .i64 0, .string ⟨#[]⟩, .bool false, .string ⟨#[]⟩] 23)) (y.toNat : Int) 0 0 ⟨#[]⟩ false ⟨#[]⟩
  rw [heap_size_alloc] at BXa
  have e1 := heap_size_alloc w (.cells #[.int .u8 0, .int .i64 0, .int .i64 0, .string ⟨#[]⟩, .bool false, .string ⟨#[]⟩] 23)
  have e2 := heap_size_alloc (w.alloc (.cells #[.int .u8 0, .int .i64 0, .int .i64 0, .string ⟨#[]⟩, .bool false, .string ⟨#[]⟩] 23)) (.cells #[.int .u8 (y.toNat : Int), .int .i64 0, .int .i64 0, .string ⟨#[]⟩, .bool false, .string ⟨#[]⟩] 23)
  have RXa := RdBox.new ((w.alloc (.cells #[.int .u8 0, .int .i64 0, .int .i64 0, .string ⟨#[]⟩, .bool false, .string ⟨#[]⟩] 23)).alloc (.cells #[.int .u8 (y.toNat : Int), .int .i64 0, .int .i64 0, .string ⟨#[]⟩, .bool false, .string ⟨#[]⟩] 23)) B (n - 1) (c - 1) 0 59
  rw [e2, e1] at RXa
  have BXb := Lib.hid (BXa.below ((Below.refl (w.heap.size + 1 + 1) ((w.alloc (.cells #[.int .u8 0, .int .i64 0, .int .i64 0, .string ⟨#[]⟩, .bool false, .string ⟨#[]⟩] 23)).alloc (.cells #[.int .u8 (y.toNat : Int), .int .i64 0, .int .i64 0, .string ⟨#[]⟩, .bool false, .string ⟨#[]⟩] 23))).alloc (by rw [e2, e1]; exact Nat.le_refl _) (.cells #[.slice B (n - 1) (c - 1), .int .i64 0] 59)) (by omega))
  have PXb := Lib.hid ((RecBox.new w 0 0 0 ⟨#[]⟩ false ⟨#[]⟩).below (((Below.refl (w.heap.size + 1) (w.alloc (.cells #[.int .u8 0, .int .i64 0, .int .i64 0, .string ⟨#[]⟩, .bool false, .string ⟨#[]⟩] 23))).alloc (by rw [e1]; exact Nat.le_refl _) (.cells #[.int .u8 (y.toNat : Int), .int .i64 0, .int .i64 0, .string ⟨#[]⟩, .bool false, .string ⟨#[]⟩] 23)).alloc (by rw [e2, e1]; omega) (.cells #[.slice B (n - 1) (c - 1), .int .i64 0] 59)) (by omega))
  have BBb := Lib.hid ((((Below.refl w.heap.size w).alloc (Nat.le_refl _) (.cells #[.int .u8 0, .int .i64 0, .int .i64 0, .string ⟨#[]⟩, .bool false, .string ⟨#[]⟩] 23)).alloc (by rw [e1]; omega) (.cells #[.int .u8 (y.toNat : Int), .int .i64 0, .int .i64 0, .string ⟨#[]⟩, .bool false, .string ⟨#[]⟩] 23)).alloc (by rw [e2, e1]; omega) (.cells #[.slice B (n - 1) (c - 1), .int .i64 0] 59))
  have HR0 := Lib.hid (((hr'.alloc (.cells #[.int .u8 0, .int .i64 0, .int .i64 0, .string ⟨#[]⟩, .bool false, .string ⟨#[]⟩] 23)).alloc (.cells #[.int .u8 (y.toNat : Int), .int .i64 0, .int .i64 0, .string ⟨#[]⟩, .bool false, .string ⟨#[]⟩] 23)).alloc (.cells #[.slice B (n - 1) (c - 1), .int .i64 0] 59))
  have BX := BXb
  have PX := PXb
  have BB := BBb
  have RX := Lib.hid RXa
  clear BXa BXb PXb BBb RXa e1 e2 hr' hB hy hr hn h1n hl hc hN
  go_enter Try.func15, Try.ntmps15
  go_upto_block 0 with fail
  rw [← HB.out]
  generalize ((w.alloc (.cells #[.int .u8 0, .int .i64 0, .int .i64 0, .string ⟨#[]⟩, .bool false, .string ⟨#[]⟩] 23)).alloc (.cells #[.int .u8 (y.toNat : Int), .int .i64 0, .int .i64 0, .string ⟨#[]⟩, .bool false, .string ⟨#[]⟩] 23)).alloc (.cells #[.slice B (n - 1) (c - 1), .int .i64 0] 59) = W0 at *
  obtain ⟨gk, hgk0⟩ : ∃ g, g = refGuessL y.toNat r := ⟨_, rfl⟩
  have HGK := Lib.hid hgk0
  have hyl : Hid (y.toNat < 256) := Lib.hid y.toNat_lt
  clear hgk0 l0 l1 l2 ln HB
  go_cut [] from 21 to 90 (fun wx => RecBox wx (w.heap.size + 1) y.toNat gk.txn gk.ts gk.key gk.gone gk.val ∧ RecBox wx w.heap.size 0 0 0 ⟨#[]⟩ false ⟨#[]⟩ ∧ Below w.heap.size w wx)
  case first =>
    by_cases h0 : y.toNat = 0
    · have hk : y.toNat = 0 := h0
      clear h0
      have t0 : ((y.toNat : Int) == 0) = true := by simp only [beq_iff_eq, beq_eq_false_iff_ne, ne_eq]; omega
      have t1 : ((y.toNat : Int) == 1) = false := by simp only [beq_iff_eq, beq_eq_false_iff_ne, ne_eq]; omega
      have t2 : ((y.toNat : Int) == 2) = false := by simp only [beq_iff_eq, beq_eq_false_iff_ne, ne_eq]; omega
      have t3 : ((y.toNat : Int) == 3) = false := by simp only [beq_iff_eq, beq_eq_false_iff_ne, ne_eq]; omega
      have t4 : ((y.toNat : Int) == 4) = false := by simp only [beq_iff_eq, beq_eq_false_iff_ne, ne_eq]; omega
      have hgk := Lib.hid (show gk = ⟨y.toNat, (rdV r 0 : Nat), (rdV (rdL r 0) (rdF r 0) : Nat), ⟨#[]⟩, false, ⟨#[]⟩⟩ from by rw [HGK.out]; unfold refGuessL; simp [hk])
      have KS := Lib.hid (fun A n c W (h1 : r.length = n) (h2 : n ≤ c) (h : RB W A r) => okRefSmall_any A n c 0 r W (by have := hn'.out; have := hN'.out; omega) h1 h2 h)
      have KS2 := Lib.hid (fun A n c W (h1 : (rdL r 0).length = n) (h2 : n ≤ c) (h : RB W A (rdL r 0)) => okRefSmall_any A n c (rdF r 0) (rdL r 0) W (by have := rdL_len r 0; have := hn'.out; have := hN'.out; omega) h1 h2 h)
      generalize rdV r 0 = V1 at *
      generalize rdL r 0 = L1 at *
      generalize rdF r 0 = F1 at *
      generalize rdV L1 F1 = V2 at *
      generalize rdL L1 F1 = L2 at *
      generalize rdF L1 F1 = F2 at *
      clear hk HGK
      obtain ⟨x0, x1, x2, x3, x4, x5, xf0, xf1, xf2, xf3, xf4, xf5⟩ := BX.out
      obtain ⟨p0, p1, p2, p3, p4, p5, pf0, pf1, pf2, pf3, pf4, pf5⟩ := PX.out
      obtain ⟨q0, q1, qf0, qf1⟩ := RX.out
      go_wp2_with fail
      refine (KS.out B (n - 1) (c - 1) _ hn'.out hm'.out HR0.out).mono ?_
      rintro e w2 ⟨A2, n2, c2, rfl, m1, m2, r2, b2⟩
      try clear x0 x1 x2 x3 x4 x5 xf0 xf1 xf2 xf3 xf4 xf5 p0 p1 p2 p3 p4 p5 pf0 pf1 pf2 pf3 pf4 pf5 q0 q1 qf0 qf1
      have BX := Lib.hid (BX.out.below b2 BX.out.lt)
      have PX := Lib.hid (PX.out.below b2 PX.out.lt)
      have RX := Lib.hid (RX.out.below b2 (lt_of_cell RX.out.c0))
      have BB := Lib.hid (BB.out.trans (b2.mono BB.out.size))
      have m1 := Lib.hid m1
      have m2 := Lib.hid m2
      clear HR0
      have BX' := Lib.hid (((BX.out.other (p := ⟨w.heap.size + 1 + 1, 0, none⟩) (by dsimp only; omega) (.slice A2 n2 c2)).other (p := ⟨w.heap.size + 1 + 1, 1, none⟩) (by dsimp only; omega) (.int .i64 (F1 : Int))).set1 (V1 : Int))
      have PX' := Lib.hid (((PX.out.other (p := ⟨w.heap.size + 1 + 1, 0, none⟩) (by dsimp only; omega) (.slice A2 n2 c2)).other (p := ⟨w.heap.size + 1 + 1, 1, none⟩) (by dsimp only; omega) (.int .i64 (F1 : Int))).other (p := ⟨w.heap.size + 1, 1, none⟩) (by dsimp only; omega) (Value.int .i64 (V1 : Int)))
      have BB' := Lib.hid (((BB.out.setCell (p := ⟨w.heap.size + 1 + 1, 0, none⟩) (by dsimp only; omega) (.slice A2 n2 c2)).setCell (p := ⟨w.heap.size + 1 + 1, 1, none⟩) (by dsimp only; omega) (.int .i64 (F1 : Int))).setCell (p := ⟨w.heap.size + 1, 1, none⟩) (by dsimp only; omega) (Value.int .i64 (V1 : Int)))
      have RX' := Lib.hid ((RX.out.put A2 n2 c2 F1).other (p := ⟨w.heap.size + 1, 1, none⟩) (by dsimp only; omega) (Value.int .i64 (V1 : Int)))
      have HR := Lib.hid ((rbPut RX.out r2 A2 n2 c2 F1).other ((BX.out.other (p := ⟨w.heap.size + 1 + 1, 0, none⟩) (by dsimp only; omega) (.slice A2 n2 c2)).other (p := ⟨w.heap.size + 1 + 1, 1, none⟩) (by dsimp only; omega) (.int .i64 (F1 : Int))).c1 (fun z => by simp) (Value.int .i64 (V1 : Int)))
      clear r2
      obtain ⟨x0, x1, x2, x3, x4, x5, xf0, xf1, xf2, xf3, xf4, xf5⟩ := BX.out
      obtain ⟨p0, p1, p2, p3, p4, p5, pf0, pf1, pf2, pf3, pf4, pf5⟩ := PX.out
      obtain ⟨q0, q1, qf0, qf1⟩ := RX.out
      clear BX PX BB RX b2
      go_wp2_with fail
      generalize ((w2.setCell ⟨w.heap.size + 1 + 1, 0, none⟩ (.slice A2 n2 c2)).setCell ⟨w.heap.size + 1 + 1, 1, none⟩ (.int .i64 (F1 : Int))).setCell ⟨w.heap.size + 1, 1, none⟩ (Value.int .i64 (V1 : Int)) = W3 at *
      have BX := BX'
      have PX := PX'
      have BB := BB'
      have RX := RX'
      clear BX' PX' BB' RX'
      clear x0 x1 x2 x3 x4 x5 xf0 xf1 xf2 xf3 xf4 xf5 p0 p1 p2 p3 p4 p5 pf0 pf1 pf2 pf3 pf4 pf5 q0 q1 qf0 qf1
      refine (KS2.out A2 n2 c2 _ m1.out m2.out HR.out).mono ?_
      rintro e w2 ⟨A2, n2, c2, rfl, m1, m2, r2, b2⟩
      try clear x0 x1 x2 x3 x4 x5 xf0 xf1 xf2 xf3 xf4 xf5 p0 p1 p2 p3 p4 p5 pf0 pf1 pf2 pf3 pf4 pf5 q0 q1 qf0 qf1
      have BX := Lib.hid (BX.out.below b2 BX.out.lt)
      have PX := Lib.hid (PX.out.below b2 PX.out.lt)
      have RX := Lib.hid (RX.out.below b2 (lt_of_cell RX.out.c0))
      have BB := Lib.hid (BB.out.trans (b2.mono BB.out.size))
      have m1 := Lib.hid m1
      have m2 := Lib.hid m2
      clear HR
      have BX' := Lib.hid (BX.out.set2 (V2 : Int))
      have PX' := Lib.hid (PX.out.other (p := ⟨w.heap.size + 1, 2, none⟩) (by dsimp only; omega) (Value.int .i64 (V2 : Int)))
      have BB' := Lib.hid (BB.out.setCell (p := ⟨w.heap.size + 1, 2, none⟩) (by dsimp only; omega) (Value.int .i64 (V2 : Int)))
      have RX' := Lib.hid (RX.out.other (p := ⟨w.heap.size + 1, 2, none⟩) (by dsimp only; omega) (Value.int .i64 (V2 : Int)))
      clear r2
      obtain ⟨x0, x1, x2, x3, x4, x5, xf0, xf1, xf2, xf3, xf4, xf5⟩ := BX.out
      obtain ⟨p0, p1, p2, p3, p4, p5, pf0, pf1, pf2, pf3, pf4, pf5⟩ := PX.out
      obtain ⟨q0, q1, qf0, qf1⟩ := RX.out
      clear BX PX BB RX b2
      go_wp2_with fail
      generalize w2.setCell ⟨w.heap.size + 1, 2, none⟩ (Value.int .i64 (V2 : Int)) = W5 at *
      have BX := BX'
      have PX := PX'
      have BB := BB'
      have RX := RX'
      clear BX' PX' BB' RX'
      clear x0 x1 x2 x3 x4 x5 xf0 xf1 xf2 xf3 xf4 xf5 p0 p1 p2 p3 p4 p5 pf0 pf1 pf2 pf3 pf4 pf5 q0 q1 qf0 qf1
      go_meet
      case rel =>
        rw [hgk.out]
        exact ⟨BX.out, PX.out, BB.out⟩
    · by_cases h2 : y.toNat = 2
      · have hk : y.toNat = 2 := h2
        clear h2
        have t0 : ((y.toNat : Int) == 0) = false := by simp only [beq_iff_eq, beq_eq_false_iff_ne, ne_eq]; omega
        have t1 : ((y.toNat : Int) == 1) = false := by simp only [beq_iff_eq, beq_eq_false_iff_ne, ne_eq]; omega
        have t2 : ((y.toNat : Int) == 2) = true := by simp only [beq_iff_eq, beq_eq_false_iff_ne, ne_eq]; omega
        have t3 : ((y.toNat : Int) == 3) = false := by simp only [beq_iff_eq, beq_eq_false_iff_ne, ne_eq]; omega
        have t4 : ((y.toNat : Int) == 4) = false := by simp only [beq_iff_eq, beq_eq_false_iff_ne, ne_eq]; omega
        have hgk := Lib.hid (show gk = ⟨y.toNat, (rdV r 0 : Nat), (rdV (rdL r 0) (rdF r 0) : Nat), ⟨#[]⟩, false, ⟨#[]⟩⟩ from by rw [HGK.out]; unfold refGuessL; simp [hk])
        have KS := Lib.hid (fun A n c W (h1 : r.length = n) (h2 : n ≤ c) (h : RB W A r) => okRefSmall_any A n c 0 r W (by have := hn'.out; have := hN'.out; omega) h1 h2 h)
        have KS2 := Lib.hid (fun A n c W (h1 : (rdL r 0).length = n) (h2 : n ≤ c) (h : RB W A (rdL r 0)) => okRefSmall_any A n c (rdF r 0) (rdL r 0) W (by have := rdL_len r 0; have := hn'.out; have := hN'.out; omega) h1 h2 h)
        generalize rdV r 0 = V1 at *
        generalize rdL r 0 = L1 at *
        generalize rdF r 0 = F1 at *
        generalize rdV L1 F1 = V2 at *
        generalize rdL L1 F1 = L2 at *
        generalize rdF L1 F1 = F2 at *
        clear hk HGK
        obtain ⟨x0, x1, x2, x3, x4, x5, xf0, xf1, xf2, xf3, xf4, xf5⟩ := BX.out
        obtain ⟨p0, p1, p2, p3, p4, p5, pf0, pf1, pf2, pf3, pf4, pf5⟩ := PX.out
        obtain ⟨q0, q1, qf0, qf1⟩ := RX.out
        go_wp2_with fail
        refine (KS.out B (n - 1) (c - 1) _ hn'.out hm'.out HR0.out).mono ?_
        rintro e w2 ⟨A2, n2, c2, rfl, m1, m2, r2, b2⟩
        try clear x0 x1 x2 x3 x4 x5 xf0 xf1 xf2 xf3 xf4 xf5 p0 p1 p2 p3 p4 p5 pf0 pf1 pf2 pf3 pf4 pf5 q0 q1 qf0 qf1
        have BX := Lib.hid (BX.out.below b2 BX.out.lt)
        have PX := Lib.hid (PX.out.below b2 PX.out.lt)
        have RX := Lib.hid (RX.out.below b2 (lt_of_cell RX.out.c0))
        have BB := Lib.hid (BB.out.trans (b2.mono BB.out.size))
        have m1 := Lib.hid m1
        have m2 := Lib.hid m2
        clear HR0
        have BX' := Lib.hid (((BX.out.other (p := ⟨w.heap.size + 1 + 1, 0, none⟩) (by dsimp only; omega) (.slice A2 n2 c2)).other (p := ⟨w.heap.size + 1 + 1, 1, none⟩) (by dsimp only; omega) (.int .i64 (F1 : Int))).set1 (V1 : Int))
        have PX' := Lib.hid (((PX.out.other (p := ⟨w.heap.size + 1 + 1, 0, none⟩) (by dsimp only; omega) (.slice A2 n2 c2)).other (p := ⟨w.heap.size + 1 + 1, 1, none⟩) (by dsimp only; omega) (.int .i64 (F1 : Int))).other (p := ⟨w.heap.size + 1, 1, none⟩) (by dsimp only; omega) (Value.int .i64 (V1 : Int)))
        have BB' := Lib.hid (((BB.out.setCell (p := ⟨w.heap.size + 1 + 1, 0, none⟩) (by dsimp only; omega) (.slice A2 n2 c2)).setCell (p := ⟨w.heap.size + 1 + 1, 1, none⟩) (by dsimp only; omega) (.int .i64 (F1 : Int))).setCell (p := ⟨w.heap.size + 1, 1, none⟩) (by dsimp only; omega) (Value.int .i64 (V1 : Int)))
        have RX' := Lib.hid ((RX.out.put A2 n2 c2 F1).other (p := ⟨w.heap.size + 1, 1, none⟩) (by dsimp only; omega) (Value.int .i64 (V1 : Int)))
        have HR := Lib.hid ((rbPut RX.out r2 A2 n2 c2 F1).other ((BX.out.other (p := ⟨w.heap.size + 1 + 1, 0, none⟩) (by dsimp only; omega) (.slice A2 n2 c2)).other (p := ⟨w.heap.size + 1 + 1, 1, none⟩) (by dsimp only; omega) (.int .i64 (F1 : Int))).c1 (fun z => by simp) (Value.int .i64 (V1 : Int)))
        clear r2
        obtain ⟨x0, x1, x2, x3, x4, x5, xf0, xf1, xf2, xf3, xf4, xf5⟩ := BX.out
        obtain ⟨p0, p1, p2, p3, p4, p5, pf0, pf1, pf2, pf3, pf4, pf5⟩ := PX.out
        obtain ⟨q0, q1, qf0, qf1⟩ := RX.out
        clear BX PX BB RX b2
        go_wp2_with fail
        generalize ((w2.setCell ⟨w.heap.size + 1 + 1, 0, none⟩ (.slice A2 n2 c2)).setCell ⟨w.heap.size + 1 + 1, 1, none⟩ (.int .i64 (F1 : Int))).setCell ⟨w.heap.size + 1, 1, none⟩ (Value.int .i64 (V1 : Int)) = W3 at *
        have BX := BX'
        have PX := PX'
        have BB := BB'
        have RX := RX'
        clear BX' PX' BB' RX'
        clear x0 x1 x2 x3 x4 x5 xf0 xf1 xf2 xf3 xf4 xf5 p0 p1 p2 p3 p4 p5 pf0 pf1 pf2 pf3 pf4 pf5 q0 q1 qf0 qf1
        refine (KS2.out A2 n2 c2 _ m1.out m2.out HR.out).mono ?_
        rintro e w2 ⟨A2, n2, c2, rfl, m1, m2, r2, b2⟩
        try clear x0 x1 x2 x3 x4 x5 xf0 xf1 xf2 xf3 xf4 xf5 p0 p1 p2 p3 p4 p5 pf0 pf1 pf2 pf3 pf4 pf5 q0 q1 qf0 qf1
        have BX := Lib.hid (BX.out.below b2 BX.out.lt)
        have PX := Lib.hid (PX.out.below b2 PX.out.lt)
        have RX := Lib.hid (RX.out.below b2 (lt_of_cell RX.out.c0))
        have BB := Lib.hid (BB.out.trans (b2.mono BB.out.size))
        have m1 := Lib.hid m1
        have m2 := Lib.hid m2
        clear HR
        have BX' := Lib.hid (BX.out.set2 (V2 : Int))
        have PX' := Lib.hid (PX.out.other (p := ⟨w.heap.size + 1, 2, none⟩) (by dsimp only; omega) (Value.int .i64 (V2 : Int)))
        have BB' := Lib.hid (BB.out.setCell (p := ⟨w.heap.size + 1, 2, none⟩) (by dsimp only; omega) (Value.int .i64 (V2 : Int)))
        have RX' := Lib.hid (RX.out.other (p := ⟨w.heap.size + 1, 2, none⟩) (by dsimp only; omega) (Value.int .i64 (V2 : Int)))
        clear r2
        obtain ⟨x0, x1, x2, x3, x4, x5, xf0, xf1, xf2, xf3, xf4, xf5⟩ := BX.out
        obtain ⟨p0, p1, p2, p3, p4, p5, pf0, pf1, pf2, pf3, pf4, pf5⟩ := PX.out
        obtain ⟨q0, q1, qf0, qf1⟩ := RX.out
        clear BX PX BB RX b2
        go_wp2_with fail
        generalize w2.setCell ⟨w.heap.size + 1, 2, none⟩ (Value.int .i64 (V2 : Int)) = W5 at *
        have BX := BX'
        have PX := PX'
        have BB := BB'
        have RX := RX'
        clear BX' PX' BB' RX'
        clear x0 x1 x2 x3 x4 x5 xf0 xf1 xf2 xf3 xf4 xf5 p0 p1 p2 p3 p4 p5 pf0 pf1 pf2 pf3 pf4 pf5 q0 q1 qf0 qf1
        go_meet
        case rel =>
          rw [hgk.out]
          exact ⟨BX.out, PX.out, BB.out⟩
      · by_cases h3 : y.toNat = 3
        · have hk : y.toNat = 3 := h3
          clear h3
          have t0 : ((y.toNat : Int) == 0) = false := by simp only [beq_iff_eq, beq_eq_false_iff_ne, ne_eq]; omega
          have t1 : ((y.toNat : Int) == 1) = false := by simp only [beq_iff_eq, beq_eq_false_iff_ne, ne_eq]; omega
          have t2 : ((y.toNat : Int) == 2) = false := by simp only [beq_iff_eq, beq_eq_false_iff_ne, ne_eq]; omega
          have t3 : ((y.toNat : Int) == 3) = true := by simp only [beq_iff_eq, beq_eq_false_iff_ne, ne_eq]; omega
          have t4 : ((y.toNat : Int) == 4) = false := by simp only [beq_iff_eq, beq_eq_false_iff_ne, ne_eq]; omega
          have hgk := Lib.hid (show gk = ⟨y.toNat, (rdV r 0 : Nat), 0, ⟨#[]⟩, false, ⟨#[]⟩⟩ from by rw [HGK.out]; unfold refGuessL; simp [hk])
          have KS := Lib.hid (fun A n c W (h1 : r.length = n) (h2 : n ≤ c) (h : RB W A r) => okRefSmall_any A n c 0 r W (by have := hn'.out; have := hN'.out; omega) h1 h2 h)
          generalize rdV r 0 = V1 at *
          generalize rdL r 0 = L1 at *
          generalize rdF r 0 = F1 at *
          clear hk HGK
          obtain ⟨x0, x1, x2, x3, x4, x5, xf0, xf1, xf2, xf3, xf4, xf5⟩ := BX.out
          obtain ⟨p0, p1, p2, p3, p4, p5, pf0, pf1, pf2, pf3, pf4, pf5⟩ := PX.out
          obtain ⟨q0, q1, qf0, qf1⟩ := RX.out
          go_wp2_with fail
          refine (KS.out B (n - 1) (c - 1) _ hn'.out hm'.out HR0.out).mono ?_
          rintro e w2 ⟨A2, n2, c2, rfl, m1, m2, r2, b2⟩
          try clear x0 x1 x2 x3 x4 x5 xf0 xf1 xf2 xf3 xf4 xf5 p0 p1 p2 p3 p4 p5 pf0 pf1 pf2 pf3 pf4 pf5 q0 q1 qf0 qf1
          have BX := Lib.hid (BX.out.below b2 BX.out.lt)
          have PX := Lib.hid (PX.out.below b2 PX.out.lt)
          have RX := Lib.hid (RX.out.below b2 (lt_of_cell RX.out.c0))
          have BB := Lib.hid (BB.out.trans (b2.mono BB.out.size))
          have m1 := Lib.hid m1
          have m2 := Lib.hid m2
          clear HR0
          have BX' := Lib.hid (BX.out.set1 (V1 : Int))
          have PX' := Lib.hid (PX.out.other (p := ⟨w.heap.size + 1, 1, none⟩) (by dsimp only; omega) (Value.int .i64 (V1 : Int)))
          have BB' := Lib.hid (BB.out.setCell (p := ⟨w.heap.size + 1, 1, none⟩) (by dsimp only; omega) (Value.int .i64 (V1 : Int)))
          have RX' := Lib.hid (RX.out.other (p := ⟨w.heap.size + 1, 1, none⟩) (by dsimp only; omega) (Value.int .i64 (V1 : Int)))
          clear r2
          obtain ⟨x0, x1, x2, x3, x4, x5, xf0, xf1, xf2, xf3, xf4, xf5⟩ := BX.out
          obtain ⟨p0, p1, p2, p3, p4, p5, pf0, pf1, pf2, pf3, pf4, pf5⟩ := PX.out
          obtain ⟨q0, q1, qf0, qf1⟩ := RX.out
          clear BX PX BB RX b2
          go_wp2_with fail
          generalize w2.setCell ⟨w.heap.size + 1, 1, none⟩ (Value.int .i64 (V1 : Int)) = W3 at *
          have BX := BX'
          have PX := PX'
          have BB := BB'
          have RX := RX'
          clear BX' PX' BB' RX'
          clear x0 x1 x2 x3 x4 x5 xf0 xf1 xf2 xf3 xf4 xf5 p0 p1 p2 p3 p4 p5 pf0 pf1 pf2 pf3 pf4 pf5 q0 q1 qf0 qf1
          go_meet
          case rel =>
            rw [hgk.out]
            exact ⟨BX.out, PX.out, BB.out⟩
        · by_cases h4 : y.toNat = 4
          · have hk : y.toNat = 4 := h4
            clear h4
            have t0 : ((y.toNat : Int) == 0) = false := by simp only [beq_iff_eq, beq_eq_false_iff_ne, ne_eq]; omega
            have t1 : ((y.toNat : Int) == 1) = false := by simp only [beq_iff_eq, beq_eq_false_iff_ne, ne_eq]; omega
            have t2 : ((y.toNat : Int) == 2) = false := by simp only [beq_iff_eq, beq_eq_false_iff_ne, ne_eq]; omega
            have t3 : ((y.toNat : Int) == 3) = false := by simp only [beq_iff_eq, beq_eq_false_iff_ne, ne_eq]; omega
            have t4 : ((y.toNat : Int) == 4) = true := by simp only [beq_iff_eq, beq_eq_false_iff_ne, ne_eq]; omega
            have hgk := Lib.hid (show gk = ⟨y.toNat, 0, (rdV r 0 : Nat), ⟨#[]⟩, false, ⟨#[]⟩⟩ from by rw [HGK.out]; unfold refGuessL; simp [hk])
            have KS := Lib.hid (fun A n c W (h1 : r.length = n) (h2 : n ≤ c) (h : RB W A r) => okRefSmall_any A n c 0 r W (by have := hn'.out; have := hN'.out; omega) h1 h2 h)
            generalize rdV r 0 = V1 at *
            generalize rdL r 0 = L1 at *
            generalize rdF r 0 = F1 at *
            clear hk HGK
            obtain ⟨x0, x1, x2, x3, x4, x5, xf0, xf1, xf2, xf3, xf4, xf5⟩ := BX.out
            obtain ⟨p0, p1, p2, p3, p4, p5, pf0, pf1, pf2, pf3, pf4, pf5⟩ := PX.out
            obtain ⟨q0, q1, qf0, qf1⟩ := RX.out
            go_wp2_with fail
            refine (KS.out B (n - 1) (c - 1) _ hn'.out hm'.out HR0.out).mono ?_
            rintro e w2 ⟨A2, n2, c2, rfl, m1, m2, r2, b2⟩
            try clear x0 x1 x2 x3 x4 x5 xf0 xf1 xf2 xf3 xf4 xf5 p0 p1 p2 p3 p4 p5 pf0 pf1 pf2 pf3 pf4 pf5 q0 q1 qf0 qf1
            have BX := Lib.hid (BX.out.below b2 BX.out.lt)
            have PX := Lib.hid (PX.out.below b2 PX.out.lt)
            have RX := Lib.hid (RX.out.below b2 (lt_of_cell RX.out.c0))
            have BB := Lib.hid (BB.out.trans (b2.mono BB.out.size))
            have m1 := Lib.hid m1
            have m2 := Lib.hid m2
            clear HR0
            have BX' := Lib.hid (BX.out.set2 (V1 : Int))
            have PX' := Lib.hid (PX.out.other (p := ⟨w.heap.size + 1, 2, none⟩) (by dsimp only; omega) (Value.int .i64 (V1 : Int)))
            have BB' := Lib.hid (BB.out.setCell (p := ⟨w.heap.size + 1, 2, none⟩) (by dsimp only; omega) (Value.int .i64 (V1 : Int)))
            have RX' := Lib.hid (RX.out.other (p := ⟨w.heap.size + 1, 2, none⟩) (by dsimp only; omega) (Value.int .i64 (V1 : Int)))
            clear r2
            obtain ⟨x0, x1, x2, x3, x4, x5, xf0, xf1, xf2, xf3, xf4, xf5⟩ := BX.out
            obtain ⟨p0, p1, p2, p3, p4, p5, pf0, pf1, pf2, pf3, pf4, pf5⟩ := PX.out
            obtain ⟨q0, q1, qf0, qf1⟩ := RX.out
            clear BX PX BB RX b2
            go_wp2_with fail
            generalize w2.setCell ⟨w.heap.size + 1, 2, none⟩ (Value.int .i64 (V1 : Int)) = W3 at *
            have BX := BX'
            have PX := PX'
            have BB := BB'
            have RX := RX'
            clear BX' PX' BB' RX'
            clear x0 x1 x2 x3 x4 x5 xf0 xf1 xf2 xf3 xf4 xf5 p0 p1 p2 p3 p4 p5 pf0 pf1 pf2 pf3 pf4 pf5 q0 q1 qf0 qf1
            go_meet
            case rel =>
              rw [hgk.out]
              exact ⟨BX.out, PX.out, BB.out⟩
          · by_cases h1 : y.toNat = 1
            · have hk : y.toNat = 1 := h1
              clear h1
              have t0 : ((y.toNat : Int) == 0) = false := by simp only [beq_iff_eq, beq_eq_false_iff_ne, ne_eq]; omega
              have t1 : ((y.toNat : Int) == 1) = true := by simp only [beq_iff_eq, beq_eq_false_iff_ne, ne_eq]; omega
              have t2 : ((y.toNat : Int) == 2) = false := by simp only [beq_iff_eq, beq_eq_false_iff_ne, ne_eq]; omega
              have t3 : ((y.toNat : Int) == 3) = false := by simp only [beq_iff_eq, beq_eq_false_iff_ne, ne_eq]; omega
              have t4 : ((y.toNat : Int) == 4) = false := by simp only [beq_iff_eq, beq_eq_false_iff_ne, ne_eq]; omega
              have hgk := Lib.hid (show gk = ⟨y.toNat, (rdV r 0 : Nat), 0, str (rtV (rdL r 0) (rdF r 0) 16), (refWrit (rtL (rdL r 0) (rdF r 0) 16) (rtF (rdL r 0) (rdF r 0) 16)).1, str (refWrit (rtL (rdL r 0) (rdF r 0) 16) (rtF (rdL r 0) (rdF r 0) 16)).2⟩ from by rw [HGK.out]; unfold refGuessL; simp [hk])
              have KS := Lib.hid (fun A n c W (h1 : r.length = n) (h2 : n ≤ c) (h : RB W A r) => okRefSmall_any A n c 0 r W (by have := hn'.out; have := hN'.out; omega) h1 h2 h)
              have KT := Lib.hid (fun A n c W (h1 : (rdL r 0).length = n) (h2 : n ≤ c) (h : RB W A (rdL r 0)) => okRefText_any A n c (rdF r 0) 16 (rdL r 0) W (by have := rdL_len r 0; have := hn'.out; have := hN'.out; omega) h1 h2 h (by omega) (by omega))
              have KV := Lib.hid (fun A n c W (h1 : (rtL (rdL r 0) (rdF r 0) 16).length = n) (h2 : n ≤ c) (h : RB W A (rtL (rdL r 0) (rdF r 0) 16)) => okRefText_any A n c (rtF (rdL r 0) (rdF r 0) 16) 24 (rtL (rdL r 0) (rdF r 0) 16) W (by have := rdL_len r 0; have := rtL_len (rdL r 0) (rdF r 0) 16; have := hn'.out; have := hN'.out; omega) h1 h2 h (by omega) (by omega))
              have KV2 := Lib.hid (fun A n c W (h1 : (rtL (rdL r 0) (rdF r 0) 16).tail.length = n) (h2 : n ≤ c) (h : RB W A (rtL (rdL r 0) (rdF r 0) 16).tail) => okRefText_any A n c (rtF (rdL r 0) (rdF r 0) 16) 24 (rtL (rdL r 0) (rdF r 0) 16).tail W (by have := rdL_len r 0; have := rtL_len (rdL r 0) (rdF r 0) 16; have := hn'.out; have := hN'.out; rw [← h1, List.length_tail]; omega) h1 h2 h (by omega) (by omega))
              have HL2 : Hid ((rtL (rdL r 0) (rdF r 0) 16).length ≤ 17592186044416) := Lib.hid (by have := rdL_len r 0; have := rtL_len (rdL r 0) (rdF r 0) 16; have := hn'.out; have := hN'.out; omega)
              generalize rdV r 0 = V1 at *
              generalize rdL r 0 = L1 at *
              generalize rdF r 0 = F1 at *
              generalize rtV L1 F1 16 = TK at *
              generalize rtL L1 F1 16 = L2 at *
              generalize rtF L1 F1 16 = F2 at *
              clear hk HGK
              obtain ⟨x0, x1, x2, x3, x4, x5, xf0, xf1, xf2, xf3, xf4, xf5⟩ := BX.out
              obtain ⟨p0, p1, p2, p3, p4, p5, pf0, pf1, pf2, pf3, pf4, pf5⟩ := PX.out
              obtain ⟨q0, q1, qf0, qf1⟩ := RX.out
              go_wp2_with fail
              refine (KS.out B (n - 1) (c - 1) _ hn'.out hm'.out HR0.out).mono ?_
              rintro e w2 ⟨A2, n2, c2, rfl, m1, m2, r2, b2⟩
              try clear x0 x1 x2 x3 x4 x5 xf0 xf1 xf2 xf3 xf4 xf5 p0 p1 p2 p3 p4 p5 pf0 pf1 pf2 pf3 pf4 pf5 q0 q1 qf0 qf1
              have BX := Lib.hid (BX.out.below b2 BX.out.lt)
              have PX := Lib.hid (PX.out.below b2 PX.out.lt)
              have RX := Lib.hid (RX.out.below b2 (lt_of_cell RX.out.c0))
              have BB := Lib.hid (BB.out.trans (b2.mono BB.out.size))
              have m1 := Lib.hid m1
              have m2 := Lib.hid m2
              clear HR0
              have BX' := Lib.hid (((BX.out.other (p := ⟨w.heap.size + 1 + 1, 0, none⟩) (by dsimp only; omega) (.slice A2 n2 c2)).other (p := ⟨w.heap.size + 1 + 1, 1, none⟩) (by dsimp only; omega) (.int .i64 (F1 : Int))).set1 (V1 : Int))
              have PX' := Lib.hid (((PX.out.other (p := ⟨w.heap.size + 1 + 1, 0, none⟩) (by dsimp only; omega) (.slice A2 n2 c2)).other (p := ⟨w.heap.size + 1 + 1, 1, none⟩) (by dsimp only; omega) (.int .i64 (F1 : Int))).other (p := ⟨w.heap.size + 1, 1, none⟩) (by dsimp only; omega) (Value.int .i64 (V1 : Int)))
              have BB' := Lib.hid (((BB.out.setCell (p := ⟨w.heap.size + 1 + 1, 0, none⟩) (by dsimp only; omega) (.slice A2 n2 c2)).setCell (p := ⟨w.heap.size + 1 + 1, 1, none⟩) (by dsimp only; omega) (.int .i64 (F1 : Int))).setCell (p := ⟨w.heap.size + 1, 1, none⟩) (by dsimp only; omega) (Value.int .i64 (V1 : Int)))
              have RX' := Lib.hid ((RX.out.put A2 n2 c2 F1).other (p := ⟨w.heap.size + 1, 1, none⟩) (by dsimp only; omega) (Value.int .i64 (V1 : Int)))
              have HR := Lib.hid ((rbPut RX.out r2 A2 n2 c2 F1).other ((BX.out.other (p := ⟨w.heap.size + 1 + 1, 0, none⟩) (by dsimp only; omega) (.slice A2 n2 c2)).other (p := ⟨w.heap.size + 1 + 1, 1, none⟩) (by dsimp only; omega) (.int .i64 (F1 : Int))).c1 (fun z => by simp) (Value.int .i64 (V1 : Int)))
              clear r2
              obtain ⟨x0, x1, x2, x3, x4, x5, xf0, xf1, xf2, xf3, xf4, xf5⟩ := BX.out
              obtain ⟨p0, p1, p2, p3, p4, p5, pf0, pf1, pf2, pf3, pf4, pf5⟩ := PX.out
              obtain ⟨q0, q1, qf0, qf1⟩ := RX.out
              clear BX PX BB RX b2
              go_wp2_with fail
              generalize ((w2.setCell ⟨w.heap.size + 1 + 1, 0, none⟩ (.slice A2 n2 c2)).setCell ⟨w.heap.size + 1 + 1, 1, none⟩ (.int .i64 (F1 : Int))).setCell ⟨w.heap.size + 1, 1, none⟩ (Value.int .i64 (V1 : Int)) = W3 at *
              have BX := BX'
              have PX := PX'
              have BB := BB'
              have RX := RX'
              clear BX' PX' BB' RX'
              clear x0 x1 x2 x3 x4 x5 xf0 xf1 xf2 xf3 xf4 xf5 p0 p1 p2 p3 p4 p5 pf0 pf1 pf2 pf3 pf4 pf5 q0 q1 qf0 qf1
              by_cases hw : F2 = 0 ∧ 0 < L2.length
              · obtain ⟨hf0, hlen⟩ := hw
                obtain ⟨z, tl, rfl⟩ : ∃ z tl, L2 = z :: tl := by cases L2 with | nil => simp at hlen | cons z tl => exact ⟨z, tl, rfl⟩
                have hgk := Lib.hid (show gk = ⟨y.toNat, (V1 : Int), 0, str TK, z == 1, str (rtV tl F2 24)⟩ from by rw [hgk.out]; unfold refWrit; rw [if_pos ⟨hf0, hlen⟩]; rfl)
                simp only [List.tail_cons] at KV2
                generalize rtV tl F2 24 = TV at *
                generalize rtL tl F2 24 = LV at *
                generalize rtF tl F2 24 = FV at *
                have hz1 : ((z.toNat : Int) == 1) = (z == 1) := by rw [Bool.eq_iff_iff]; simp [← UInt8.toNat_inj]; omega
                have hf : ((F2 : Int) == 0) = true := by rw [hf0]; rfl
                clear hlen KV hf0
                refine (KT.out A2 n2 c2 _ m1.out m2.out HR.out).mono ?_
                rintro e w2 ⟨A2, n2, c2, rfl, m1, m2, r2, b2⟩
                try clear x0 x1 x2 x3 x4 x5 xf0 xf1 xf2 xf3 xf4 xf5 p0 p1 p2 p3 p4 p5 pf0 pf1 pf2 pf3 pf4 pf5 q0 q1 qf0 qf1
                have BX := Lib.hid (BX.out.below b2 BX.out.lt)
                have PX := Lib.hid (PX.out.below b2 PX.out.lt)
                have RX := Lib.hid (RX.out.below b2 (lt_of_cell RX.out.c0))
                have BB := Lib.hid (BB.out.trans (b2.mono BB.out.size))
                clear HR
                by_cases hc21 : c2 = 1
                · subst hc21
                  have hn2 : (0 : Int) < (n2 : Int) := by rw [← m1]; simp
                  have hn3 : decide ((0 : Int) < (n2 : Int)) = true := by simpa using hn2
                  have hn4 : 0 < n2 := by omega
                  have hn5 : (1 : Int) ≤ (n2 : Int) := by omega
                  have hn6 : (n2 : Int) ≤ (1 : Int) := by omega
                  obtain ⟨az, z', rfl, hz', hcz⟩ := r2.at_ (k := 0) (by simp)
                  obtain rfl : z' = z := by simpa using hz'.symm
                  rw [Addr.add_nought] at hcz
                  have r3 := r2.pastK (m := 1) m1 m2 (by omega) (some az) (.inl ⟨rfl, rfl⟩)
                  rw [List.drop_one, List.tail_cons] at r3
                  have hn7 : Hid (tl.length = n2 - 1) := Lib.hid (by rw [← m1]; simp)
                  have hn8 : Hid (n2 - 1 ≤ 0) := Lib.hid (by omega)
                  have B3 := ((BX.out.other (p := ⟨w.heap.size + 1 + 1, 0, none⟩) (by dsimp only; omega) (.slice (some az) n2 1)).other (p := ⟨w.heap.size + 1 + 1, 1, none⟩) (by dsimp only; omega) (.int .i64 (F2 : Int)))
                  have R3 := (((RX.out.put (some az) n2 1 F2).other (p := ⟨w.heap.size + 1, 3, none⟩) (by dsimp only; omega) (Value.string (str TK))).other (p := ⟨w.heap.size + 1, 4, none⟩) (by dsimp only; omega) (Value.bool (z' == 1)))
                  have C0 : (((w2.setCell ⟨w.heap.size + 1 + 1, 0, none⟩ (.slice (some az) n2 1)).setCell ⟨w.heap.size + 1 + 1, 1, none⟩ (.int .i64 (F2 : Int))).setCell ⟨w.heap.size + 1, 3, none⟩ (Value.string (str TK))).cell? az = some (.int .u8 (z'.toNat : Int)) := by
                    have e := ((rbPut RX.out r2 (some az) n2 1 F2).other B3.c3 (fun z => by simp) (Value.string (str TK))).at_ (k := 0) (by simp)
                    obtain ⟨a1, z1, ha, hz1', hc1⟩ := e
                    injection ha with ha
                    subst ha
                    obtain rfl : z1 = z' := by simpa using hz1'.symm
                    rw [Addr.add_nought] at hc1
                    exact hc1
                  have BX' := Lib.hid (((((BX.out.other (p := ⟨w.heap.size + 1 + 1, 0, none⟩) (by dsimp only; omega) (.slice (some az) n2 1)).other (p := ⟨w.heap.size + 1 + 1, 1, none⟩) (by dsimp only; omega) (.int .i64 (F2 : Int))).set3 (str TK)).set4 (z' == 1)).other (p := ⟨w.heap.size + 1 + 1, 0, none⟩) (by dsimp only; omega) (Value.slice (some az) (n2 - 1) 0))
                  have PX' := Lib.hid (((((PX.out.other (p := ⟨w.heap.size + 1 + 1, 0, none⟩) (by dsimp only; omega) (.slice (some az) n2 1)).other (p := ⟨w.heap.size + 1 + 1, 1, none⟩) (by dsimp only; omega) (.int .i64 (F2 : Int))).other (p := ⟨w.heap.size + 1, 3, none⟩) (by dsimp only; omega) (Value.string (str TK))).other (p := ⟨w.heap.size + 1, 4, none⟩) (by dsimp only; omega) (Value.bool (z' == 1))).other (p := ⟨w.heap.size + 1 + 1, 0, none⟩) (by dsimp only; omega) (Value.slice (some az) (n2 - 1) 0))
                  have BB' := Lib.hid (((((BB.out.setCell (p := ⟨w.heap.size + 1 + 1, 0, none⟩) (by dsimp only; omega) (.slice (some az) n2 1)).setCell (p := ⟨w.heap.size + 1 + 1, 1, none⟩) (by dsimp only; omega) (.int .i64 (F2 : Int))).setCell (p := ⟨w.heap.size + 1, 3, none⟩) (by dsimp only; omega) (Value.string (str TK))).setCell (p := ⟨w.heap.size + 1, 4, none⟩) (by dsimp only; omega) (Value.bool (z' == 1))).setCell (p := ⟨w.heap.size + 1 + 1, 0, none⟩) (by dsimp only; omega) (Value.slice (some az) (n2 - 1) 0))
                  have HR' := Lib.hid ((((rbPut RX.out r3 (some az) n2 1 F2).other B3.c3 (fun z => by simp) (Value.string (str TK))).other (B3.set3 (str TK)).c4 (fun z => by simp) (Value.bool (z' == 1))).other R3.c0 (fun z => by simp) (Value.slice (some az) (n2 - 1) 0))
                  have RX' : Hid (RdBox _ _ _ _ _ _) := Lib.hid (RdBox.put0 R3 (some az) (n2 - 1) 0)
                  clear r2 r3 hz' m1 m2 B3 R3 hcz
                  obtain ⟨x0, x1, x2, x3, x4, x5, xf0, xf1, xf2, xf3, xf4, xf5⟩ := BX.out
                  obtain ⟨p0, p1, p2, p3, p4, p5, pf0, pf1, pf2, pf3, pf4, pf5⟩ := PX.out
                  obtain ⟨q0, q1, qf0, qf1⟩ := RX.out
                  clear BX PX BB RX b2
                  go_wp2_with fail
                  generalize (((((w2).setCell ⟨w.heap.size + 1 + 1, 0, none⟩ (.slice (some az) n2 1)).setCell ⟨w.heap.size + 1 + 1, 1, none⟩ (.int .i64 (F2 : Int))).setCell ⟨w.heap.size + 1, 3, none⟩ (Value.string (str TK))).setCell ⟨w.heap.size + 1, 4, none⟩ (Value.bool (z' == 1))).setCell ⟨w.heap.size + 1 + 1, 0, none⟩ (Value.slice (some az) (n2 - 1) 0) = W5 at *
                  have BX := BX'
                  have PX := PX'
                  have BB := BB'
                  have RX := RX'
                  have HR := HR'
                  clear BX' PX' BB' RX' HR'
                  clear x0 x1 x2 x3 x4 x5 xf0 xf1 xf2 xf3 xf4 xf5 p0 p1 p2 p3 p4 p5 pf0 pf1 pf2 pf3 pf4 pf5 q0 q1 qf0 qf1
                  refine (KV2.out (some az) (n2 - 1) 0 _ hn7.out hn8.out HR.out).mono ?_
                  rintro e w2 ⟨A2', n2', c2', rfl, m1', m2', r2', b2⟩
                  try clear x0 x1 x2 x3 x4 x5 xf0 xf1 xf2 xf3 xf4 xf5 p0 p1 p2 p3 p4 p5 pf0 pf1 pf2 pf3 pf4 pf5 q0 q1 qf0 qf1
                  have BX := Lib.hid (BX.out.below b2 BX.out.lt)
                  have PX := Lib.hid (PX.out.below b2 PX.out.lt)
                  have RX := Lib.hid (RX.out.below b2 (lt_of_cell RX.out.c0))
                  have BB := Lib.hid (BB.out.trans (b2.mono BB.out.size))
                  clear m1' m2' r2'
                  have BX' := Lib.hid (BX.out.set5 (str TV))
                  have PX' := Lib.hid (PX.out.other (p := ⟨w.heap.size + 1, 5, none⟩) (by dsimp only; omega) (Value.string (str TV)))
                  have BB' := Lib.hid (BB.out.setCell (p := ⟨w.heap.size + 1, 5, none⟩) (by dsimp only; omega) (Value.string (str TV)))
                  have RX' := Lib.hid (RX.out.other (p := ⟨w.heap.size + 1, 5, none⟩) (by dsimp only; omega) (Value.string (str TV)))
                  obtain ⟨x0, x1, x2, x3, x4, x5, xf0, xf1, xf2, xf3, xf4, xf5⟩ := BX.out
                  obtain ⟨p0, p1, p2, p3, p4, p5, pf0, pf1, pf2, pf3, pf4, pf5⟩ := PX.out
                  obtain ⟨q0, q1, qf0, qf1⟩ := RX.out
                  clear BX PX BB RX b2
                  go_wp2_with fail
                  generalize w2.setCell ⟨w.heap.size + 1, 5, none⟩ (Value.string (str TV)) = W6 at *
                  have BX := BX'
                  have PX := PX'
                  have BB := BB'
                  have RX := RX'
                  clear BX' PX' BB' RX'
                  clear x0 x1 x2 x3 x4 x5 xf0 xf1 xf2 xf3 xf4 xf5 p0 p1 p2 p3 p4 p5 pf0 pf1 pf2 pf3 pf4 pf5 q0 q1 qf0 qf1
                  go_meet
                  case rel =>
                    rw [hgk.out]
                    exact ⟨BX.out, PX.out, BB.out⟩
                · have hn2 : (0 : Int) < (n2 : Int) := by rw [← m1]; simp
                  have hn3 : decide ((0 : Int) < (n2 : Int)) = true := by simpa using hn2
                  have hn4 : 0 < n2 := by omega
                  have hn5 : (1 : Int) ≤ (n2 : Int) := by omega
                  have hn6 : (n2 : Int) ≤ (c2 : Int) := by omega
                  obtain ⟨az, z', rfl, hz', hcz⟩ := r2.at_ (k := 0) (by simp)
                  obtain rfl : z' = z := by simpa using hz'.symm
                  rw [Addr.add_nought] at hcz
                  have r3 := r2.pastK (m := 1) m1 m2 (by omega) (some ⟨az.block, az.off + 1, none⟩) (.inr rfl)
                  rw [List.drop_one, List.tail_cons] at r3
                  have hn7 : Hid (tl.length = n2 - 1) := Lib.hid (by rw [← m1]; simp)
                  have hn8 : Hid (n2 - 1 ≤ c2 - 1) := Lib.hid (by omega)
                  have B3 := ((BX.out.other (p := ⟨w.heap.size + 1 + 1, 0, none⟩) (by dsimp only; omega) (.slice (some az) n2 c2)).other (p := ⟨w.heap.size + 1 + 1, 1, none⟩) (by dsimp only; omega) (.int .i64 (F2 : Int)))
                  have R3 := (((RX.out.put (some az) n2 c2 F2).other (p := ⟨w.heap.size + 1, 3, none⟩) (by dsimp only; omega) (Value.string (str TK))).other (p := ⟨w.heap.size + 1, 4, none⟩) (by dsimp only; omega) (Value.bool (z' == 1)))
                  have C0 : (((w2.setCell ⟨w.heap.size + 1 + 1, 0, none⟩ (.slice (some az) n2 c2)).setCell ⟨w.heap.size + 1 + 1, 1, none⟩ (.int .i64 (F2 : Int))).setCell ⟨w.heap.size + 1, 3, none⟩ (Value.string (str TK))).cell? az = some (.int .u8 (z'.toNat : Int)) := by
                    have e := ((rbPut RX.out r2 (some az) n2 c2 F2).other B3.c3 (fun z => by simp) (Value.string (str TK))).at_ (k := 0) (by simp)
                    obtain ⟨a1, z1, ha, hz1', hc1⟩ := e
                    injection ha with ha
                    subst ha
                    obtain rfl : z1 = z' := by simpa using hz1'.symm
                    rw [Addr.add_nought] at hc1
                    exact hc1
                  have BX' := Lib.hid (((((BX.out.other (p := ⟨w.heap.size + 1 + 1, 0, none⟩) (by dsimp only; omega) (.slice (some az) n2 c2)).other (p := ⟨w.heap.size + 1 + 1, 1, none⟩) (by dsimp only; omega) (.int .i64 (F2 : Int))).set3 (str TK)).set4 (z' == 1)).other (p := ⟨w.heap.size + 1 + 1, 0, none⟩) (by dsimp only; omega) (Value.slice (some ⟨az.block, az.off + 1, none⟩) (n2 - 1) (c2 - 1)))
                  have PX' := Lib.hid (((((PX.out.other (p := ⟨w.heap.size + 1 + 1, 0, none⟩) (by dsimp only; omega) (.slice (some az) n2 c2)).other (p := ⟨w.heap.size + 1 + 1, 1, none⟩) (by dsimp only; omega) (.int .i64 (F2 : Int))).other (p := ⟨w.heap.size + 1, 3, none⟩) (by dsimp only; omega) (Value.string (str TK))).other (p := ⟨w.heap.size + 1, 4, none⟩) (by dsimp only; omega) (Value.bool (z' == 1))).other (p := ⟨w.heap.size + 1 + 1, 0, none⟩) (by dsimp only; omega) (Value.slice (some ⟨az.block, az.off + 1, none⟩) (n2 - 1) (c2 - 1)))
                  have BB' := Lib.hid (((((BB.out.setCell (p := ⟨w.heap.size + 1 + 1, 0, none⟩) (by dsimp only; omega) (.slice (some az) n2 c2)).setCell (p := ⟨w.heap.size + 1 + 1, 1, none⟩) (by dsimp only; omega) (.int .i64 (F2 : Int))).setCell (p := ⟨w.heap.size + 1, 3, none⟩) (by dsimp only; omega) (Value.string (str TK))).setCell (p := ⟨w.heap.size + 1, 4, none⟩) (by dsimp only; omega) (Value.bool (z' == 1))).setCell (p := ⟨w.heap.size + 1 + 1, 0, none⟩) (by dsimp only; omega) (Value.slice (some ⟨az.block, az.off + 1, none⟩) (n2 - 1) (c2 - 1)))
                  have HR' := Lib.hid ((((rbPut RX.out r3 (some az) n2 c2 F2).other B3.c3 (fun z => by simp) (Value.string (str TK))).other (B3.set3 (str TK)).c4 (fun z => by simp) (Value.bool (z' == 1))).other R3.c0 (fun z => by simp) (Value.slice (some ⟨az.block, az.off + 1, none⟩) (n2 - 1) (c2 - 1)))
                  have RX' : Hid (RdBox _ _ _ _ _ _) := Lib.hid (RdBox.put0 R3 (some ⟨az.block, az.off + 1, none⟩) (n2 - 1) (c2 - 1))
                  clear r2 r3 hz' m1 m2 B3 R3 hcz
                  obtain ⟨x0, x1, x2, x3, x4, x5, xf0, xf1, xf2, xf3, xf4, xf5⟩ := BX.out
                  obtain ⟨p0, p1, p2, p3, p4, p5, pf0, pf1, pf2, pf3, pf4, pf5⟩ := PX.out
                  obtain ⟨q0, q1, qf0, qf1⟩ := RX.out
                  clear BX PX BB RX b2
                  go_wp2_with fail
                  generalize (((((w2).setCell ⟨w.heap.size + 1 + 1, 0, none⟩ (.slice (some az) n2 c2)).setCell ⟨w.heap.size + 1 + 1, 1, none⟩ (.int .i64 (F2 : Int))).setCell ⟨w.heap.size + 1, 3, none⟩ (Value.string (str TK))).setCell ⟨w.heap.size + 1, 4, none⟩ (Value.bool (z' == 1))).setCell ⟨w.heap.size + 1 + 1, 0, none⟩ (Value.slice (some ⟨az.block, az.off + 1, none⟩) (n2 - 1) (c2 - 1)) = W5 at *
                  have BX := BX'
                  have PX := PX'
                  have BB := BB'
                  have RX := RX'
                  have HR := HR'
                  clear BX' PX' BB' RX' HR'
                  clear x0 x1 x2 x3 x4 x5 xf0 xf1 xf2 xf3 xf4 xf5 p0 p1 p2 p3 p4 p5 pf0 pf1 pf2 pf3 pf4 pf5 q0 q1 qf0 qf1
                  refine (KV2.out (some ⟨az.block, az.off + 1, none⟩) (n2 - 1) (c2 - 1) _ hn7.out hn8.out HR.out).mono ?_
                  rintro e w2 ⟨A2', n2', c2', rfl, m1', m2', r2', b2⟩
                  try clear x0 x1 x2 x3 x4 x5 xf0 xf1 xf2 xf3 xf4 xf5 p0 p1 p2 p3 p4 p5 pf0 pf1 pf2 pf3 pf4 pf5 q0 q1 qf0 qf1
                  have BX := Lib.hid (BX.out.below b2 BX.out.lt)
                  have PX := Lib.hid (PX.out.below b2 PX.out.lt)
                  have RX := Lib.hid (RX.out.below b2 (lt_of_cell RX.out.c0))
                  have BB := Lib.hid (BB.out.trans (b2.mono BB.out.size))
                  clear m1' m2' r2'
                  have BX' := Lib.hid (BX.out.set5 (str TV))
                  have PX' := Lib.hid (PX.out.other (p := ⟨w.heap.size + 1, 5, none⟩) (by dsimp only; omega) (Value.string (str TV)))
                  have BB' := Lib.hid (BB.out.setCell (p := ⟨w.heap.size + 1, 5, none⟩) (by dsimp only; omega) (Value.string (str TV)))
                  have RX' := Lib.hid (RX.out.other (p := ⟨w.heap.size + 1, 5, none⟩) (by dsimp only; omega) (Value.string (str TV)))
                  obtain ⟨x0, x1, x2, x3, x4, x5, xf0, xf1, xf2, xf3, xf4, xf5⟩ := BX.out
                  obtain ⟨p0, p1, p2, p3, p4, p5, pf0, pf1, pf2, pf3, pf4, pf5⟩ := PX.out
                  obtain ⟨q0, q1, qf0, qf1⟩ := RX.out
                  clear BX PX BB RX b2
                  go_wp2_with fail
                  generalize w2.setCell ⟨w.heap.size + 1, 5, none⟩ (Value.string (str TV)) = W6 at *
                  have BX := BX'
                  have PX := PX'
                  have BB := BB'
                  have RX := RX'
                  clear BX' PX' BB' RX'
                  clear x0 x1 x2 x3 x4 x5 xf0 xf1 xf2 xf3 xf4 xf5 p0 p1 p2 p3 p4 p5 pf0 pf1 pf2 pf3 pf4 pf5 q0 q1 qf0 qf1
                  go_meet
                  case rel =>
                    rw [hgk.out]
                    exact ⟨BX.out, PX.out, BB.out⟩
              · have hgk := Lib.hid (show gk = ⟨y.toNat, (V1 : Int), 0, str TK, false, str (rtV L2 F2 24)⟩ from by rw [hgk.out]; unfold refWrit; rw [if_neg hw])
                clear KV2
                generalize rtV L2 F2 24 = TV at *
                generalize rtL L2 F2 24 = LV at *
                generalize rtF L2 F2 24 = FV at *
                by_cases hf0 : F2 = 0
                · have hl2 : L2.length = 0 := by rcases Nat.eq_zero_or_pos L2.length with e | e; exact e; exact absurd ⟨hf0, e⟩ hw
                  have hf : ((F2 : Int) == 0) = true := by rw [hf0]; rfl
                  clear hf0 hw
                  refine (KT.out A2 n2 c2 _ m1.out m2.out HR.out).mono ?_
                  rintro e w2 ⟨A2, n2, c2, rfl, m1, m2, r2, b2⟩
                  try clear x0 x1 x2 x3 x4 x5 xf0 xf1 xf2 xf3 xf4 xf5 p0 p1 p2 p3 p4 p5 pf0 pf1 pf2 pf3 pf4 pf5 q0 q1 qf0 qf1
                  have BX := Lib.hid (BX.out.below b2 BX.out.lt)
                  have PX := Lib.hid (PX.out.below b2 PX.out.lt)
                  have RX := Lib.hid (RX.out.below b2 (lt_of_cell RX.out.c0))
                  have BB := Lib.hid (BB.out.trans (b2.mono BB.out.size))
                  have m1 := Lib.hid m1
                  have m2 := Lib.hid m2
                  clear HR
                  have BX' := Lib.hid (((BX.out.other (p := ⟨w.heap.size + 1 + 1, 0, none⟩) (by dsimp only; omega) (.slice A2 n2 c2)).other (p := ⟨w.heap.size + 1 + 1, 1, none⟩) (by dsimp only; omega) (.int .i64 (F2 : Int))).set3 (str TK))
                  have PX' := Lib.hid (((PX.out.other (p := ⟨w.heap.size + 1 + 1, 0, none⟩) (by dsimp only; omega) (.slice A2 n2 c2)).other (p := ⟨w.heap.size + 1 + 1, 1, none⟩) (by dsimp only; omega) (.int .i64 (F2 : Int))).other (p := ⟨w.heap.size + 1, 3, none⟩) (by dsimp only; omega) (Value.string (str TK)))
                  have BB' := Lib.hid (((BB.out.setCell (p := ⟨w.heap.size + 1 + 1, 0, none⟩) (by dsimp only; omega) (.slice A2 n2 c2)).setCell (p := ⟨w.heap.size + 1 + 1, 1, none⟩) (by dsimp only; omega) (.int .i64 (F2 : Int))).setCell (p := ⟨w.heap.size + 1, 3, none⟩) (by dsimp only; omega) (Value.string (str TK)))
                  have RX' := Lib.hid ((RX.out.put A2 n2 c2 F2).other (p := ⟨w.heap.size + 1, 3, none⟩) (by dsimp only; omega) (Value.string (str TK)))
                  have HR := Lib.hid ((rbPut RX.out r2 A2 n2 c2 F2).other ((BX.out.other (p := ⟨w.heap.size + 1 + 1, 0, none⟩) (by dsimp only; omega) (.slice A2 n2 c2)).other (p := ⟨w.heap.size + 1 + 1, 1, none⟩) (by dsimp only; omega) (.int .i64 (F2 : Int))).c3 (fun z => by simp) (Value.string (str TK)))
                  clear r2
                  obtain ⟨x0, x1, x2, x3, x4, x5, xf0, xf1, xf2, xf3, xf4, xf5⟩ := BX.out
                  obtain ⟨p0, p1, p2, p3, p4, p5, pf0, pf1, pf2, pf3, pf4, pf5⟩ := PX.out
                  obtain ⟨q0, q1, qf0, qf1⟩ := RX.out
                  clear BX PX BB RX b2
                  have hn2 : n2 = 0 := by have := m1.out; omega
                  subst hn2
                  go_wp2_with fail
                  generalize ((w2.setCell ⟨w.heap.size + 1 + 1, 0, none⟩ (.slice A2 n2 c2)).setCell ⟨w.heap.size + 1 + 1, 1, none⟩ (.int .i64 (F2 : Int))).setCell ⟨w.heap.size + 1, 3, none⟩ (Value.string (str TK)) = W5 at *
                  have BX := BX'
                  have PX := PX'
                  have BB := BB'
                  have RX := RX'
                  clear BX' PX' BB' RX'
                  clear x0 x1 x2 x3 x4 x5 xf0 xf1 xf2 xf3 xf4 xf5 p0 p1 p2 p3 p4 p5 pf0 pf1 pf2 pf3 pf4 pf5 q0 q1 qf0 qf1
                  refine (KV.out A2 0 c2 _ m1.out m2.out HR.out).mono ?_
                  rintro e w2 ⟨A2', n2', c2', rfl, m1', m2', r2', b2⟩
                  try clear x0 x1 x2 x3 x4 x5 xf0 xf1 xf2 xf3 xf4 xf5 p0 p1 p2 p3 p4 p5 pf0 pf1 pf2 pf3 pf4 pf5 q0 q1 qf0 qf1
                  have BX := Lib.hid (BX.out.below b2 BX.out.lt)
                  have PX := Lib.hid (PX.out.below b2 PX.out.lt)
                  have RX := Lib.hid (RX.out.below b2 (lt_of_cell RX.out.c0))
                  have BB := Lib.hid (BB.out.trans (b2.mono BB.out.size))
                  clear m1' m2' r2'
                  have BX' := Lib.hid (BX.out.set5 (str TV))
                  have PX' := Lib.hid (PX.out.other (p := ⟨w.heap.size + 1, 5, none⟩) (by dsimp only; omega) (Value.string (str TV)))
                  have BB' := Lib.hid (BB.out.setCell (p := ⟨w.heap.size + 1, 5, none⟩) (by dsimp only; omega) (Value.string (str TV)))
                  have RX' := Lib.hid (RX.out.other (p := ⟨w.heap.size + 1, 5, none⟩) (by dsimp only; omega) (Value.string (str TV)))
                  obtain ⟨x0, x1, x2, x3, x4, x5, xf0, xf1, xf2, xf3, xf4, xf5⟩ := BX.out
                  obtain ⟨p0, p1, p2, p3, p4, p5, pf0, pf1, pf2, pf3, pf4, pf5⟩ := PX.out
                  obtain ⟨q0, q1, qf0, qf1⟩ := RX.out
                  clear BX PX BB RX b2
                  go_wp2_with fail
                  generalize w2.setCell ⟨w.heap.size + 1, 5, none⟩ (Value.string (str TV)) = W6 at *
                  have BX := BX'
                  have PX := PX'
                  have BB := BB'
                  have RX := RX'
                  clear BX' PX' BB' RX'
                  clear x0 x1 x2 x3 x4 x5 xf0 xf1 xf2 xf3 xf4 xf5 p0 p1 p2 p3 p4 p5 pf0 pf1 pf2 pf3 pf4 pf5 q0 q1 qf0 qf1
                  go_meet
                  case rel =>
                    rw [hgk.out]
                    exact ⟨BX.out, PX.out, BB.out⟩
                · have hf : ((F2 : Int) == 0) = false := by simp; omega
                  clear hf0 hw
                  refine (KT.out A2 n2 c2 _ m1.out m2.out HR.out).mono ?_
                  rintro e w2 ⟨A2, n2, c2, rfl, m1, m2, r2, b2⟩
                  try clear x0 x1 x2 x3 x4 x5 xf0 xf1 xf2 xf3 xf4 xf5 p0 p1 p2 p3 p4 p5 pf0 pf1 pf2 pf3 pf4 pf5 q0 q1 qf0 qf1
                  have BX := Lib.hid (BX.out.below b2 BX.out.lt)
                  have PX := Lib.hid (PX.out.below b2 PX.out.lt)
                  have RX := Lib.hid (RX.out.below b2 (lt_of_cell RX.out.c0))
                  have BB := Lib.hid (BB.out.trans (b2.mono BB.out.size))
                  have m1 := Lib.hid m1
                  have m2 := Lib.hid m2
                  clear HR
                  have BX' := Lib.hid (((BX.out.other (p := ⟨w.heap.size + 1 + 1, 0, none⟩) (by dsimp only; omega) (.slice A2 n2 c2)).other (p := ⟨w.heap.size + 1 + 1, 1, none⟩) (by dsimp only; omega) (.int .i64 (F2 : Int))).set3 (str TK))
                  have PX' := Lib.hid (((PX.out.other (p := ⟨w.heap.size + 1 + 1, 0, none⟩) (by dsimp only; omega) (.slice A2 n2 c2)).other (p := ⟨w.heap.size + 1 + 1, 1, none⟩) (by dsimp only; omega) (.int .i64 (F2 : Int))).other (p := ⟨w.heap.size + 1, 3, none⟩) (by dsimp only; omega) (Value.string (str TK)))
                  have BB' := Lib.hid (((BB.out.setCell (p := ⟨w.heap.size + 1 + 1, 0, none⟩) (by dsimp only; omega) (.slice A2 n2 c2)).setCell (p := ⟨w.heap.size + 1 + 1, 1, none⟩) (by dsimp only; omega) (.int .i64 (F2 : Int))).setCell (p := ⟨w.heap.size + 1, 3, none⟩) (by dsimp only; omega) (Value.string (str TK)))
                  have RX' := Lib.hid ((RX.out.put A2 n2 c2 F2).other (p := ⟨w.heap.size + 1, 3, none⟩) (by dsimp only; omega) (Value.string (str TK)))
                  have HR := Lib.hid ((rbPut RX.out r2 A2 n2 c2 F2).other ((BX.out.other (p := ⟨w.heap.size + 1 + 1, 0, none⟩) (by dsimp only; omega) (.slice A2 n2 c2)).other (p := ⟨w.heap.size + 1 + 1, 1, none⟩) (by dsimp only; omega) (.int .i64 (F2 : Int))).c3 (fun z => by simp) (Value.string (str TK)))
                  clear r2
                  obtain ⟨x0, x1, x2, x3, x4, x5, xf0, xf1, xf2, xf3, xf4, xf5⟩ := BX.out
                  obtain ⟨p0, p1, p2, p3, p4, p5, pf0, pf1, pf2, pf3, pf4, pf5⟩ := PX.out
                  obtain ⟨q0, q1, qf0, qf1⟩ := RX.out
                  clear BX PX BB RX b2
                  go_wp2_with fail
                  generalize ((w2.setCell ⟨w.heap.size + 1 + 1, 0, none⟩ (.slice A2 n2 c2)).setCell ⟨w.heap.size + 1 + 1, 1, none⟩ (.int .i64 (F2 : Int))).setCell ⟨w.heap.size + 1, 3, none⟩ (Value.string (str TK)) = W5 at *
                  have BX := BX'
                  have PX := PX'
                  have BB := BB'
                  have RX := RX'
                  clear BX' PX' BB' RX'
                  clear x0 x1 x2 x3 x4 x5 xf0 xf1 xf2 xf3 xf4 xf5 p0 p1 p2 p3 p4 p5 pf0 pf1 pf2 pf3 pf4 pf5 q0 q1 qf0 qf1
                  refine (KV.out A2 n2 c2 _ m1.out m2.out HR.out).mono ?_
                  rintro e w2 ⟨A2', n2', c2', rfl, m1', m2', r2', b2⟩
                  try clear x0 x1 x2 x3 x4 x5 xf0 xf1 xf2 xf3 xf4 xf5 p0 p1 p2 p3 p4 p5 pf0 pf1 pf2 pf3 pf4 pf5 q0 q1 qf0 qf1
                  have BX := Lib.hid (BX.out.below b2 BX.out.lt)
                  have PX := Lib.hid (PX.out.below b2 PX.out.lt)
                  have RX := Lib.hid (RX.out.below b2 (lt_of_cell RX.out.c0))
                  have BB := Lib.hid (BB.out.trans (b2.mono BB.out.size))
                  clear m1' m2' r2'
                  have BX' := Lib.hid (BX.out.set5 (str TV))
                  have PX' := Lib.hid (PX.out.other (p := ⟨w.heap.size + 1, 5, none⟩) (by dsimp only; omega) (Value.string (str TV)))
                  have BB' := Lib.hid (BB.out.setCell (p := ⟨w.heap.size + 1, 5, none⟩) (by dsimp only; omega) (Value.string (str TV)))
                  have RX' := Lib.hid (RX.out.other (p := ⟨w.heap.size + 1, 5, none⟩) (by dsimp only; omega) (Value.string (str TV)))
                  obtain ⟨x0, x1, x2, x3, x4, x5, xf0, xf1, xf2, xf3, xf4, xf5⟩ := BX.out
                  obtain ⟨p0, p1, p2, p3, p4, p5, pf0, pf1, pf2, pf3, pf4, pf5⟩ := PX.out
                  obtain ⟨q0, q1, qf0, qf1⟩ := RX.out
                  clear BX PX BB RX b2
                  go_wp2_with fail
                  generalize w2.setCell ⟨w.heap.size + 1, 5, none⟩ (Value.string (str TV)) = W6 at *
                  have BX := BX'
                  have PX := PX'
                  have BB := BB'
                  have RX := RX'
                  clear BX' PX' BB' RX'
                  clear x0 x1 x2 x3 x4 x5 xf0 xf1 xf2 xf3 xf4 xf5 p0 p1 p2 p3 p4 p5 pf0 pf1 pf2 pf3 pf4 pf5 q0 q1 qf0 qf1
                  go_meet
                  case rel =>
                    rw [hgk.out]
                    exact ⟨BX.out, PX.out, BB.out⟩
            · have t0 : ((y.toNat : Int) == 0) = false := by simp only [beq_iff_eq, beq_eq_false_iff_ne, ne_eq]; omega
              have t1 : ((y.toNat : Int) == 1) = false := by simp only [beq_iff_eq, beq_eq_false_iff_ne, ne_eq]; omega
              have t2 : ((y.toNat : Int) == 2) = false := by simp only [beq_iff_eq, beq_eq_false_iff_ne, ne_eq]; omega
              have t3 : ((y.toNat : Int) == 3) = false := by simp only [beq_iff_eq, beq_eq_false_iff_ne, ne_eq]; omega
              have t4 : ((y.toNat : Int) == 4) = false := by simp only [beq_iff_eq, beq_eq_false_iff_ne, ne_eq]; omega
              have hgk := Lib.hid (show gk = ⟨y.toNat, 0, 0, ⟨#[]⟩, false, ⟨#[]⟩⟩ from by rw [HGK.out]; unfold refGuessL; simp [h0, h1, h2, h3, h4])
              clear HGK
              obtain ⟨x0, x1, x2, x3, x4, x5, xf0, xf1, xf2, xf3, xf4, xf5⟩ := BX.out
              obtain ⟨p0, p1, p2, p3, p4, p5, pf0, pf1, pf2, pf3, pf4, pf5⟩ := PX.out
              obtain ⟨q0, q1, qf0, qf1⟩ := RX.out
              go_wp2_with fail
              go_meet
              case rel =>
                rw [hgk.out]
                exact ⟨BX.out, PX.out, BB.out⟩
  case rest =>
    obtain ⟨BX', PX', BB'⟩ := hcut
    have BX := Lib.hid BX'
    have PX := Lib.hid PX'
    have BB := Lib.hid BB'
    have HG' : ∀ x, checkR x = 0 → putR x = y :: r → gk = x := fun x hx e => HGK.out.trans (HG.out x hx e)
    have hgk : gk.kind = y.toNat := by rw [HGK.out]; exact refGuess_kind _ _
    clear BX' PX' BB' HG HGK RX hyl HR0 HRB hm' hn' hN' hc' hcy
    obtain ⟨kind, txn, ts, key, gone, val⟩ := gk
    dsimp only at hgk BX
    rw [← hgk] at BX
    clear hgk
    obtain ⟨l, hll⟩ : ∃ l, l = y :: r := ⟨_, rfl⟩
    rw [← hll] at hl0 HRw HG'
    have HL := Lib.hid hll
    clear hll
    have HG := Lib.hid HG'
    clear HG'
    have KP' := Lib.hid (fun W => refPut_any ⟨kind, txn, ts, key, gone, val⟩ W)
    have KP := KP'
    unfold Rec.v at KP
    dsimp only at KP
    have ad0 := Lib.hid (HRw.out _ BB.out)
    clear KP'
    obtain ⟨x0, x1, x2, x3, x4, x5, xf0, xf1, xf2, xf3, xf4, xf5⟩ := BX.out
    obtain ⟨p0, p1, p2, p3, p4, p5, pf0, pf1, pf2, pf3, pf4, pf5⟩ := PX.out
    go_wp2_with fail
    refine (KP.out _).mono ?_
    rintro e w2 ⟨v2, rfl, o2, b2⟩
    obtain ⟨A2, c2, rfl, hc2, r2⟩ := o2.form
    clear x0 x1 x2 x3 x4 x5 xf0 xf1 xf2 xf3 xf4 xf5 p0 p1 p2 p3 p4 p5 pf0 pf1 pf2 pf3 pf4 pf5
    have BX := Lib.hid (BX.out.below b2 BX.out.lt)
    have PX := Lib.hid (PX.out.below b2 PX.out.lt)
    have BB := Lib.hid (BB.out.trans (b2.mono BB.out.size))
    have rb := ad0.out.below b2
    have cb := run_str w2 (some ad) n c l hl0.out rb
    clear b2 o2 KP rb ad0
    obtain ⟨x0, x1, x2, x3, x4, x5, xf0, xf1, xf2, xf3, xf4, xf5⟩ := BX.out
    obtain ⟨p0, p1, p2, p3, p4, p5, pf0, pf1, pf2, pf3, pf4, pf5⟩ := PX.out
    by_cases h0 : checkR ⟨kind, txn, ts, key, gone, val⟩ = 0
    · rw [if_pos h0] at hc2 r2 ⊢
      have HS := Lib.hid h0
      rw [h0]
      generalize hL : putR ⟨kind, txn, ts, key, gone, val⟩ = L at *
      have ca := run_str w2 A2 L.length c2 L rfl r2
      by_cases he : L = l
      · have GO := Lib.hid (show GetOf (y :: r) _ _ from by rw [← HL.out]; exact GetOf.yes HS.out (hL.trans he))
        have hq : ((str L).toList == (str l).toList) = true := by rw [he]; simp
        have hq2 : ((str L).toList != (str l).toList) = false := by rw [bne, hq]; rfl
        clear h0 he hL HS HG r2 hc2
        go_wp2_with fail
        refine bodyPost_ret (v := .tuple #[.agg #[.int .u8 (kind : Int), .int .i64 txn, .int .i64 ts, .string key, .bool gone, .string val], .int .i64 0]) (by simp [results, Try.results15, go_sem, p0, p1, p2, p3, p4, p5]) rfl ⟨⟨kind, txn, ts, key, gone, val⟩, 0, rfl, GO.out, below6 BB.out (Nat.le_refl _) _ _ _ _ _ _⟩
      · have GO := Lib.hid (show GetOf (y :: r) _ _ from by rw [← HL.out]; exact GetOf.no HG.out (fun h => he (hL.symm.trans h.2)))
        have hq : ((str L).toList == (str l).toList) = false := by rw [beq_eq_false_iff_ne]; exact fun e => he (by simpa [str, ByteArray.toList_eq] using e)
        have hq2 : ((str L).toList != (str l).toList) = true := by rw [bne, hq]; rfl
        clear h0 he hL HS HG r2 hc2
        go_wp2_with fail
        refine bodyPost_ret (v := .tuple #[.agg #[.int .u8 0, .int .i64 0, .int .i64 0, .string ⟨#[]⟩, .bool false, .string ⟨#[]⟩], .int .i64 4]) (by simp [results, Try.results15, go_sem, p0, p1, p2, p3, p4, p5]) rfl ⟨⟨0, 0, 0, ⟨#[]⟩, false, ⟨#[]⟩⟩, 4, rfl, GO.out, below6 BB.out (Nat.le_refl _) _ _ _ _ _ _⟩
    · have GO := Lib.hid (show GetOf (y :: r) _ _ from by rw [← HL.out]; exact GetOf.no HG.out (fun h => h0 h.1))
      have d0 : ((checkR ⟨kind, txn, ts, key, gone, val⟩ : Int) != 0) = true := by simp; omega
      generalize checkR ⟨kind, txn, ts, key, gone, val⟩ = E at *
      clear HG r2 hc2
      go_wp2_with fail
      refine bodyPost_ret (v := .tuple #[.agg #[.int .u8 0, .int .i64 0, .int .i64 0, .string ⟨#[]⟩, .bool false, .string ⟨#[]⟩], .int .i64 4]) (by simp [results, Try.results15, go_sem, p0, p1, p2, p3, p4, p5]) rfl ⟨⟨0, 0, 0, ⟨#[]⟩, false, ⟨#[]⟩⟩, 4, rfl, GO.out, below6 BB.out (Nat.le_refl _) _ _ _ _ _ _⟩
set_option maxHeartbeats 1000000 in
theorem refGet_any (A : Option Addr) (n c : Nat) (l : List UInt8) (w : World) (hN : n ≤ 17592186044416) (hl : l.length = n) (hc : n ≤ c) (hr : RB w A l) :
    Calls Try.prog 15 #[.slice A n c] w fun e w' => ∃ r' z, e = .returned (.tuple #[Rec.v r', .int .i64 (z : Nat)]) ∧ GetOf l r' z ∧ Below w.heap.size w w' := by
  cases l with
  | cons k r => exact refGet_cons A n c k r w hN hl hc hr
  | nil =>
    obtain rfl : n = 0 := hl.symm
    have GO := Lib.hid (show GetOf [] ⟨0, 0, 0, ⟨#[]⟩, false, ⟨#[]⟩⟩ 4 from .inr ⟨fun x hx e => by simp [putR, layR] at e, rfl, rfl⟩)
    have hb := Lib.hid (fun o => (Below.refl w.heap.size w).alloc (Nat.le_refl _) o)
    clear hl hr hN hc
    go_enter Try.func15, Try.ntmps15
    go_wp2
    refine bodyPost_ret (v := .tuple #[.agg #[.int .u8 0, .int .i64 0, .int .i64 0, .string ⟨#[]⟩, .bool false, .string ⟨#[]⟩], .int .i64 4]) (by simp [results, Try.results15, go_sem]) rfl ⟨⟨0, 0, 0, ⟨#[]⟩, false, ⟨#[]⟩⟩, 4, rfl, GO.out, hb.out _⟩
end Go.Proofs.Ytlohhbpncbnipaa
end
