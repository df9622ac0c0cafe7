/- The walk of the law VisiblePrunes. -/
import Derived.Test.YtjmmaghjbaigiaaVbZ
import Derived.Test.YtjmmaghjbaigiaaVsN
import Derived.Test.YtjmmaghjbaigiaaVsG
import Derived.Test.YtjmmaghjbaigiaaVsS
import Derived.Test.YtjmmaghjbaigiaaVbW
import Derived.Deep.DeepMust
namespace Go.Proofs.Ytjmmaghjbaigiaa
open Go.RowKit
set_option linter.unusedVariables false
set_option linter.unusedSimpArgs false
set_option maxHeartbeats 2000000 in
set_option maxRecDepth 100000 in
theorem visiblePrunes_core (key : ByteArray) (A : Option Addr) (n c : Nat) (l : List Vn) (a b : Nat) (me : Int) (w : World) (hl : l.length = n) (hn : n ≤ maxLen) (hnc : n ≤ c) (hr : RG KV w A l) (ha : a < 4294967296) (hb : b < 4294967296) :
    Calls Try.prog 6 #[.agg #[.string key, .slice A n c], .agg #[.int .u32 (a : Int), .int .u32 (b : Int)], .int .i64 me] w fun e w' => e = .returned (.bool true) ∧ Below w.heap.size w w' := by
  have KA := Lib.hid (fun W => vbAwake_any W)
  have KL := Lib.hid (fun W (h : Below w.heap.size w W) => vsLight_any key A n c l W hl hn (hr.below h))
  have HB := Lib.hid (below2 w (.cells #[.string key, .slice A n c] 24) (.cells #[.int .u32 (a : Int), .int .u32 (b : Int)] 57))
  have S := Lib.hid (((RowB.new (key := key) (c := c) hr hl).on (below1 _ (.cells #[.int .u32 (a : Int), .int .u32 (b : Int)] 57))))
  have D : Hid (TwoBox ((w.alloc (.cells #[.string key, .slice A n c] 24)).alloc (.cells #[.int .u32 (a : Int), .int .u32 (b : Int)] 57)) (w.heap.size + 1) a b) := Lib.hid (by
    have := TwoBox.new (w.alloc (.cells #[.string key, .slice A n c] 24)) a b 57
    rw [heap_size_alloc] at this
    exact this)
  cases hlt : vsLight key l with
  | false =>
    rw [hlt] at KL
    clear hlt hl hn hr ha hb
    go_enter Try.func6, Try.ntmps6
    go_upto_region 1 with fail
    generalize (w.alloc (.cells #[.string key, .slice A n c] 24)).alloc (.cells #[.int .u32 (a : Int), .int .u32 (b : Int)] 57) = W0 at *
    have s0 := S.out.s.c0; have s1 := S.out.s.c1
    go_wp2_with (first
      | (go_at_call 8; refine (KL.out _ HB.out).mono ?_; rintro e w1 ⟨rfl, b1⟩; have S := Lib.hid (S.out.on b1); have D := Lib.hid (D.out.on b1); have s0 := S.out.s.c0; have s1 := S.out.s.c1; have HB := Lib.hid (HB.out.trans (b1.mono HB.out.size)); clear b1)
      | (go_at_call 23; refine (KA.out _).mono ?_; rintro e w9 ⟨rfl, b1⟩; have S := Lib.hid (S.out.on b1); have D := Lib.hid (D.out.on b1); have s0 := S.out.s.c0; have s1 := S.out.s.c1; have HB := Lib.hid (HB.out.trans (b1.mono HB.out.size)); clear b1)
      | fail)
    go_ret
    exact ⟨rfl, HB.out⟩
  | true =>
    rw [hlt] at KL
    obtain ⟨k1, k2, k3⟩ := vsLight_at hlt
    have hn12 : n ≤ 12 := by omega
    have KC := Lib.hid (fun W (h : Below w.heap.size w W) => vsCheck_any key A n c l W hl (by omega) hnc (hr.below h))
    clear hlt k1 k2 k3 hn
    by_cases hck : vsCheck key l = 0
    · obtain ⟨_, hn8, hfz, hord⟩ := vsCheck_zero.1 hck
      rw [hck] at KC
      have hts : ∀ v ∈ l, 0 ≤ v.ts := fun v hv => (vsFault_zero.1 (hfz v hv)).2.2.2.1
      obtain ⟨hp1, hp2, hp3⟩ := vb_prunes (me := me) (t := (a : Int)) (at' := (a : Int) + (b : Int)) hord hts (by omega)
      have hpl : (vsPrune l (a : Int)).length ≤ n := by rw [← hl]; exact (vsPrune_sub l (a : Int)).length_le
      have KP := Lib.hid (fun (W : World) (h : RowB W w.heap.size key A n c l) => stkCalls' (vsPrune_any key A n c l (a : Int) W h.ln (by omega) h.r))
      have KR1 := Lib.hid (fun (W : World) (h : RowB W w.heap.size key A n c l) => vbRead_any key A n c l me ((a : Int) + (b : Int)) W h.ln (by omega) h.r)
      have KN1 := Lib.hid (fun (W : World) (h : RowB W w.heap.size key A n c l) => vbNewer_any key A n c l me ((a : Int) + (b : Int)) W h.ln (by omega) h.r)
      have KR2 := Lib.hid (fun (W : World) (q : Nat) (A2 : Option Addr) (m d : Nat) (h : RowB W q key A2 m d (vsPrune l (a : Int))) => vbRead_any key A2 m d _ me ((a : Int) + (b : Int)) W h.ln (by have := h.ln; omega) h.r)
      have KN2 := Lib.hid (fun (W : World) (q : Nat) (A2 : Option Addr) (m d : Nat) (h : RowB W q key A2 m d (vsPrune l (a : Int))) => vbNewer_any key A2 m d _ me ((a : Int) + (b : Int)) W h.ln (by have := h.ln; omega) h.r)
      have KS2 := Lib.hid (fun (W : World) (q : Nat) (A2 : Option Addr) (m d : Nat) (h : RowB W q key A2 m d (vsPrune l (a : Int))) => vbSettled_any key A2 m d _ (a : Int) W h.ln (by have := h.ln; omega) h.r)
      rw [hp1] at KR2
      rw [hp2] at KN2
      rw [hp3] at KS2
      have wa : IntKind.i64.wrap (a : Int) = (a : Int) := by rw [IntKind.wrap_i64]; omega
      have wb : IntKind.i64.wrap (b : Int) = (b : Int) := by rw [IntKind.wrap_i64]; omega
      obtain ⟨ab, hab⟩ : ∃ ab : Int, ab = (a : Int) + (b : Int) := ⟨_, rfl⟩
      rw [← hab] at KR1 KN1 KR2 KN2
      have wab : IntKind.i64.wrap ((a : Int) + (b : Int)) = ab := by rw [hab, IntKind.wrap_i64]; omega
      clear hab
      generalize vsPrune l (a : Int) = pl at *
      generalize vbRd l me ab = rd at KR1 KR2
      obtain ⟨val, is⟩ := rd
      dsimp only at KR1 KR2
      generalize vbNewer l me ab = nw at KN1 KN2
      have hv : (val.toList == val.toList) = true := by simp
      have hi : (is == is) = true := by simp
      clear hck hl hr ha hb hpl hp1 hp2 hp3 hn8 hfz hord hts hn12
      go_enter Try.func6, Try.ntmps6
      go_upto_region 1 with fail
      generalize (w.alloc (.cells #[.string key, .slice A n c] 24)).alloc (.cells #[.int .u32 (a : Int), .int .u32 (b : Int)] 57) = W0 at *
      have s0 := S.out.s.c0; have s1 := S.out.s.c1
      go_upto_region 3 with (first
        | (go_at_call 8; refine (KL.out _ HB.out).mono ?_; rintro e w1 ⟨rfl, b1⟩; have S := Lib.hid (S.out.on b1); have D := Lib.hid (D.out.on b1); have s0 := S.out.s.c0; have s1 := S.out.s.c1; have HB := Lib.hid (HB.out.trans (b1.mono HB.out.size)); clear b1)
        | (go_at_call 27; refine (KC.out _ HB.out).mono ?_; rintro e w2 ⟨rfl, b1⟩; have S := Lib.hid (S.out.on b1); have D := Lib.hid (D.out.on b1); have s0 := S.out.s.c0; have s1 := S.out.s.c1; have HB := Lib.hid (HB.out.trans (b1.mono HB.out.size)); clear b1)
        | fail)
      obtain ⟨d0, d1⟩ := D.out
      go_upto_region 5 with fail
      go_upto_region 6 with (go_at_call 28; refine (KP.out _ S.out).mono ?_; rintro e w3 ⟨A3, n3, c3, rfl, e3, hc3, r3, b1⟩; have Pb := Lib.hid (RowB.new (key := key) (c := c3) r3 e3); have S := Lib.hid (S.out.on b1); have D := Lib.hid (D.out.on b1); have HB := Lib.hid (HB.out.trans (b1.mono HB.out.size)); clear b1 e3 hc3 r3)
      have S := Lib.hid (S.out.alloc (.cells #[.string key, .slice A3 n3 c3] 24))
      have HB := Lib.hid (HB.out.alloc HB.out.size (.cells #[.string key, .slice A3 n3 c3] 24))
      generalize w3.alloc (.cells #[.string key, .slice A3 n3 c3] 24) = X3 at *
      generalize w3.heap.size = q3 at *
      clear D d0 d1
      have s0 := S.out.s.c0; have s1 := S.out.s.c1
      go_upto_region 7 with (go_at_call 29; refine (KR1.out _ S.out).mono ?_; rintro e w4 ⟨rfl, b1⟩; have Pb := Lib.hid (Pb.out.on b1); have S := Lib.hid (S.out.on b1); have HB := Lib.hid (HB.out.trans (b1.mono HB.out.size)); clear b1)
      have p0 := Pb.out.s.c0; have p1 := Pb.out.s.c1
      go_upto_region 8 with (go_at_call 29; refine (KR2.out _ _ _ _ _ Pb.out).mono ?_; rintro e w5 ⟨rfl, b1⟩; have Pb := Lib.hid (Pb.out.on b1); have S := Lib.hid (S.out.on b1); have HB := Lib.hid (HB.out.trans (b1.mono HB.out.size)); clear b1)
      have KF := Lib.hid (fun (V : World) (h : Below w5.heap.size w5 V) => (⟨(S.out.s.on h).c0, (S.out.s.on h).c1, (Pb.out.s.on h).c0, (Pb.out.s.on h).c1⟩ : V.cell? ⟨w.heap.size, 0, none⟩ = some (.string key) ∧ V.cell? ⟨w.heap.size, 1, none⟩ = some (.slice A n c) ∧ V.cell? ⟨q3, 0, none⟩ = some (.string key) ∧ V.cell? ⟨q3, 1, none⟩ = some (.slice A3 n3 c3)))
      have BZ := Lib.hid (Below.refl w5.heap.size w5).drew
      have BE := BZ
      have k0 := KF.out _ BZ.out
      cases nw
      all_goals
        go_region_held3 (fun V => V.cell? ⟨w.heap.size, 0, none⟩ = some (.string key) ∧ V.cell? ⟨w.heap.size, 1, none⟩ = some (.slice A n c) ∧ V.cell? ⟨q3, 0, none⟩ = some (.string key) ∧ V.cell? ⟨q3, 1, none⟩ = some (.slice A3 n3 c3)) (first | with_reducible exact k0 | with_reducible exact k1 | fail)
          (first
            | (go_at_call 30; (with_reducible refine Calls.mono (KN1.out _ (S.out.on BZ.out)) ?_); rintro e w6 ⟨rfl, b1⟩; have BZ := Lib.hid (BZ.out.trans (b1.mono BZ.out.size)); have k1 := KF.out _ BZ.out; clear b1)
            | (go_at_call 30; (with_reducible refine Calls.mono (KN2.out _ _ _ _ _ (Pb.out.on BZ.out)) ?_); rintro e w6 ⟨rfl, b1⟩; have BZ := Lib.hid (BZ.out.trans (b1.mono BZ.out.size)); have k1 := KF.out _ BZ.out; clear b1)
            | (go_at_call 31; (with_reducible refine Calls.mono (KS2.out _ _ _ _ _ (Pb.out.on BZ.out)) ?_); rintro e w6 ⟨rfl, b1⟩; have BZ := Lib.hid (BZ.out.trans (b1.mono BZ.out.size)); have k1 := KF.out _ BZ.out; clear b1)
            | (go_at_call 23; (with_reducible refine Calls.mono (KA.out _) ?_); rintro e w6 ⟨rfl, b1⟩; have BZ := Lib.hid (BZ.out.trans (b1.mono BZ.out.size)); have k1 := KF.out _ BZ.out; clear b1)
            | fail)
      all_goals
        go_wp2_with fail
        go_ret
        exact ⟨rfl, HB.out.trans (BZ.out.mono HB.out.size)⟩
    · have hd : ((vsCheck key l : Int) != 0) = true := by simp; omega
      clear hck hl hr ha hb
      go_enter Try.func6, Try.ntmps6
      go_upto_region 1 with fail
      generalize (w.alloc (.cells #[.string key, .slice A n c] 24)).alloc (.cells #[.int .u32 (a : Int), .int .u32 (b : Int)] 57) = W0 at *
      have s0 := S.out.s.c0; have s1 := S.out.s.c1
      go_wp2_with (first
        | (go_at_call 8; refine (KL.out _ HB.out).mono ?_; rintro e w1 ⟨rfl, b1⟩; have S := Lib.hid (S.out.on b1); have D := Lib.hid (D.out.on b1); have s0 := S.out.s.c0; have s1 := S.out.s.c1; have HB := Lib.hid (HB.out.trans (b1.mono HB.out.size)); clear b1)
        | (go_at_call 27; refine (KC.out _ HB.out).mono ?_; rintro e w2 ⟨rfl, b1⟩; have S := Lib.hid (S.out.on b1); have D := Lib.hid (D.out.on b1); have s0 := S.out.s.c0; have s1 := S.out.s.c1; have HB := Lib.hid (HB.out.trans (b1.mono HB.out.size)); clear b1)
        | (go_at_call 23; refine (KA.out _).mono ?_; rintro e w9 ⟨rfl, b1⟩; have S := Lib.hid (S.out.on b1); have D := Lib.hid (D.out.on b1); have s0 := S.out.s.c0; have s1 := S.out.s.c1; have HB := Lib.hid (HB.out.trans (b1.mono HB.out.size)); clear b1)
        | fail)
      go_ret
      exact ⟨rfl, HB.out⟩
end Go.Proofs.Ytjmmaghjbaigiaa
