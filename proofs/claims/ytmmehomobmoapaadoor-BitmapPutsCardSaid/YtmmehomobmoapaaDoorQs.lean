/- The document's reader of numbers: Small. -/
import Derived.Test.YtmmehomobmoapaaDoorQr
namespace Go.Proofs.YtmmehomobmoapaaDoor
open Go.RowKit
set_option linter.unusedVariables false
set_option linter.unusedSimpArgs false
theorem rd_err {l : List UInt8} {f : Nat} (h : f ≠ 0) : rdV l f = 0 ∧ rdL l f = l ∧ rdF l f = f := by
  unfold rdV rdL rdF
  rw [if_neg (fun x => h x.1), if_neg (fun x => h x.1), if_neg h]
  exact ⟨rfl, rfl, rfl⟩
theorem rd_form {l : List UInt8} (h : (getSmall l).2.2 ≠ 0) : rdV l 0 = 0 ∧ rdL l 0 = l ∧ rdF l 0 = (getSmall l).2.2 := by
  unfold rdV rdL rdF
  rw [if_neg (fun x => h x.2.1), if_neg (fun x => h x.2.1), if_pos rfl, if_neg h]
  exact ⟨rfl, rfl, rfl⟩
theorem rd_range {l : List UInt8} (h : (getSmall l).2.2 = 0) (hv : 1099511627776 < (getSmall l).1) : rdV l 0 = 0 ∧ rdL l 0 = l ∧ rdF l 0 = 9 := by
  unfold rdV rdL rdF
  rw [if_neg (fun x => by omega), if_neg (fun x => by omega), if_pos rfl, if_pos h, if_neg (by omega)]
  exact ⟨rfl, rfl, rfl⟩
theorem rd_good {l : List UInt8} (h : (getSmall l).2.2 = 0) (hv : (getSmall l).1 ≤ 1099511627776) : rdV l 0 = (getSmall l).1 ∧ rdL l 0 = l.drop (getSmall l).2.1 ∧ rdF l 0 = 0 := by
  unfold rdV rdL rdF
  rw [if_pos ⟨rfl, h, hv⟩, if_pos ⟨rfl, h, hv⟩, if_pos rfl, if_pos h, if_pos hv]
  exact ⟨rfl, rfl, rfl⟩
theorem frozen_of {w : World} {b : Nat} {cs : Array Value} {t : TypeId} (h : w.heap[b]? = some (.cells cs t (0, 0))) (i : Nat) : w.frozen? ⟨b, i, none⟩ = false := by simp [World.frozen?, h]
theorem RB.past {w : World} {A : Option Addr} {l : List UInt8} (h : RB w A l) {n c m : Nat} (hl : l.length = n) (hc : n ≤ c) (hm : m ≤ n) (B : Option Addr) (hB : B = A ∧ c = m ∨ B = A.map (fun x => x.add m)) : RB w B (l.drop m) := by
  rcases hB with ⟨rfl, e⟩ | rfl
  · exact .inl (by rw [List.drop_eq_nil_iff]; omega)
  · rcases A with _ | a
    · rcases h with h | ⟨_, h, _⟩
      · subst h; exact .inl (by simp)
      · cases h
    · exact h.drop m
theorem bAlloc' {w W : World} (h : Below w.heap.size w W) (o : Obj) : Below w.heap.size w (W.alloc o) := h.alloc h.size o
set_option maxHeartbeats 4000000 in
set_option maxRecDepth 100000 in
theorem refSmall_any (A : Option Addr) (n c f : Nat) (l : List UInt8) (w : World) (hN : n ≤ 70368744177664) (hl : l.length = n) (hc : n ≤ c) (hf : f ≤ 100) (hr : RB w A l) :
    Calls Tryd.prog 58 #[.agg #[.slice A n c, .int .i64 (f : Int)]] w fun e w' => ∃ A' n' c', e = .returned (.tuple #[.agg #[.slice A' n' c', .int .i64 (rdF l f : Int)], .int .i64 (rdV l f : Int)]) ∧ (rdL l f).length = n' ∧ n' ≤ c' ∧ RB w' A' (rdL l f) ∧ Below w.heap.size w w' := by
  have BX := Lib.hid (fun W h => bx4 w (.slice A n c) (.int .i64 (f : Int)) (.slice none 0 0) (.int .i64 0) 84 84 (W := W) h)
  have B0 := Lib.hid (bAlloc' (bAlloc' (Below.refl w.heap.size w) (.cells #[.slice A n c, .int .i64 (f : Int)] 84)) (.cells #[.slice none 0 0, .int .i64 0] 84))
  have HR := Lib.hid (fun W (hb : Below w.heap.size w W) => hr.below hb)
  have HZ : Hid (((w.alloc (.cells #[.slice A n c, .int .i64 (f : Int)] 84)).alloc (.cells #[.slice none 0 0, .int .i64 0] 84)).heap.size = w.heap.size + 2) := Lib.hid (by rw [heap_size_alloc, heap_size_alloc])
  have HX : Hid (((w.alloc (.cells #[.slice A n c, .int .i64 (f : Int)] 84)).alloc (.cells #[.slice none 0 0, .int .i64 0] 84)).heap[w.heap.size + 1]? = some (.cells #[.slice none 0 0, .int .i64 0] 84 (0, 0))) := Lib.hid (by
    have h := heap_alloc_last (w.alloc (.cells #[.slice A n c, .int .i64 (f : Int)] 84)) (.cells #[.slice none 0 0, .int .i64 0] 84)
    rw [heap_size_alloc] at h
    exact h)
  obtain ⟨⟨x0, x1⟩, y0, y1⟩ := BX.out _ (Below.refl _ _)
  have f0 := frozen_of HX.out 0
  have f1 := frozen_of HX.out 1
  by_cases h0 : f = 0
  · subst h0
    have KG := Lib.hid (fun W (h : RB W A l) => refGetSmall_any A n c l W hN hl hc h)
    have hlt := getSmall_lt l
    have hus := getSmall_use l
    have her := getSmall_err l
    by_cases he : (getSmall l).2.2 = 0
    · by_cases hv : (getSmall l).1 ≤ 1099511627776
      · obtain ⟨r1, r2, r3⟩ := rd_good he hv
        rw [r1, r2, r3]
        have HPA := Lib.hid (fun (B : Option Addr) W (h : Below w.heap.size w W) hB => (HR.out W h).past hl hc (m := (getSmall l).2.1) (by omega) B hB)
        have HLD : Hid ((l.drop (getSmall l).2.1).length = n - (getSmall l).2.1) := Lib.hid (by rw [List.length_drop, hl])
        rw [he] at KG
        generalize l.drop (getSmall l).2.1 = R at *
        generalize (getSmall l).1 = v at *
        generalize (getSmall l).2.1 = m at *
        have hd : decide ((1099511627776 : Int) < (v : Int)) = false := by simp; omega
        have hw : IntKind.i64.wrap (v : Int) = (v : Int) := by rw [IntKind.wrap_i64]; omega
        have hmn : m ≤ n := by omega
        have hmc : m ≤ c := by omega
        have hcn : n ≤ c := hc
        clear hr hl hN her hus r1 r2 r3 he hc hlt
        by_cases hcm : c = m
        · obtain ⟨c0, hc0⟩ : ∃ c0, c0 = c := ⟨_, rfl⟩
          have e0 : m = c := hcm.symm
          subst e0
          have HNM := Lib.hid (show n - m = 0 from by omega)
          go_enter Tryd.func58, Tryd.ntmps58
          go_wp2_with fail
          generalize (w.alloc (.cells #[.slice A n m, .int .i64 ((0 : Nat) : Int)] 84)).alloc (.cells #[.slice none 0 0, .int .i64 0] 84) = W0 at *
          refine (KG.out W0 (HR.out _ B0.out)).mono ?_
          rintro e w1 ⟨rfl, q, rfl⟩
          have V1 := Lib.hid (bdrewN (Below.refl W0.heap.size W0) q)
          obtain ⟨⟨z0, z1⟩, z2, z3⟩ := BX.out _ V1.out
          have HX1 := (V1.out.block (w.heap.size + 1) (by rw [HZ.out]; omega)).trans HX.out
          have f2 := frozen_of HX1 0
          have f3 := frozen_of HX1 1
          have B1 := Lib.hid (B0.out.trans (V1.out.mono B0.out.size))
          have RB1 := Lib.hid (HR.out _ B1.out)
          clear x0 x1 y0 y1 f0 f1 HX1
          generalize W0.drewN q = W1 at *
          go_wp2
          refine bodyPost_ret (v := .tuple #[.agg #[.slice A 0 0, .int .i64 0], .int .i64 (v : Int)]) (by simp [results, Tryd.results58, go_sem, z2, z3]) rfl ⟨_, _, _, rfl, by rw [HLD.out, HNM.out], Nat.le_refl _, HPA.out A _ (belowC B1.out (Nat.le_succ _) _ _) (.inl ⟨rfl, trivial⟩), belowC B1.out (Nat.le_succ _) _ _⟩
        · go_enter Tryd.func58, Tryd.ntmps58
          go_wp2_with fail
          generalize (w.alloc (.cells #[.slice A n c, .int .i64 ((0 : Nat) : Int)] 84)).alloc (.cells #[.slice none 0 0, .int .i64 0] 84) = W0 at *
          refine (KG.out W0 (HR.out _ B0.out)).mono ?_
          rintro e w1 ⟨rfl, q, rfl⟩
          have V1 := Lib.hid (bdrewN (Below.refl W0.heap.size W0) q)
          obtain ⟨⟨z0, z1⟩, z2, z3⟩ := BX.out _ V1.out
          have HX1 := (V1.out.block (w.heap.size + 1) (by rw [HZ.out]; omega)).trans HX.out
          have f2 := frozen_of HX1 0
          have f3 := frozen_of HX1 1
          have B1 := Lib.hid (B0.out.trans (V1.out.mono B0.out.size))
          have RB1 := Lib.hid (HR.out _ B1.out)
          clear x0 x1 y0 y1 f0 f1 HX1
          generalize W0.drewN q = W1 at *
          go_wp2
          refine bodyPost_ret (v := .tuple #[.agg #[.slice (Option.map (fun x => x.add m) A) (n - m) (c - m), .int .i64 0], .int .i64 (v : Int)]) (by simp [results, Tryd.results58, go_sem, z2, z3]) rfl ⟨_, _, _, rfl, HLD.out, by omega, HPA.out _ _ (belowC B1.out (Nat.le_succ _) _ _) (.inr rfl), belowC B1.out (Nat.le_succ _) _ _⟩
      · obtain ⟨r1, r2, r3⟩ := rd_range he (by omega)
        rw [r1, r2, r3]
        rw [he] at KG
        have hd : (1099511627776 : Int) < ((getSmall l).1 : Int) := by omega
        generalize (getSmall l).1 = v at *
        generalize (getSmall l).2.1 = m at *
        have HL := Lib.hid hl
        have HC := Lib.hid hc
        clear hr hl hN her hus r1 r2 r3 he hlt hv
        go_enter Tryd.func58, Tryd.ntmps58
        go_wp2_with fail
        generalize (w.alloc (.cells #[.slice A n c, .int .i64 ((0 : Nat) : Int)] 84)).alloc (.cells #[.slice none 0 0, .int .i64 0] 84) = W0 at *
        refine (KG.out W0 (HR.out _ B0.out)).mono ?_
        rintro e w1 ⟨rfl, q, rfl⟩
        have V1 := Lib.hid (bdrewN (Below.refl W0.heap.size W0) q)
        obtain ⟨⟨z0, z1⟩, z2, z3⟩ := BX.out _ V1.out
        have HX1 := (V1.out.block (w.heap.size + 1) (by rw [HZ.out]; omega)).trans HX.out
        have f2 := frozen_of HX1 0
        have f3 := frozen_of HX1 1
        have B1 := Lib.hid (B0.out.trans (V1.out.mono B0.out.size))
        have RB1 := Lib.hid (HR.out _ B1.out)
        clear x0 x1 y0 y1 f0 f1 HX1
        generalize W0.drewN q = W1 at *
        go_wp2
        refine bodyPost_ret (v := .tuple #[.agg #[.slice A n c, .int .i64 9], .int .i64 0]) (by simp [results, Tryd.results58, go_sem, z2, z3]) rfl ⟨_, _, _, rfl, HL.out, HC.out, HR.out _ (belowC B1.out (Nat.le_succ _) _ _), belowC B1.out (Nat.le_succ _) _ _⟩
    · obtain ⟨r1, r2, r3⟩ := rd_form he
      rw [r1, r2, r3]
      have hd : (((getSmall l).2.2 : Int) != 0) = true := by simp; omega
      generalize (getSmall l).1 = v at *
      generalize (getSmall l).2.1 = m at *
      generalize (getSmall l).2.2 = er at *
      have HL := Lib.hid hl
      have HC := Lib.hid hc
      clear hr hl hN hus r1 r2 r3 he hlt
      go_enter Tryd.func58, Tryd.ntmps58
      go_wp2_with fail
      generalize (w.alloc (.cells #[.slice A n c, .int .i64 ((0 : Nat) : Int)] 84)).alloc (.cells #[.slice none 0 0, .int .i64 0] 84) = W0 at *
      refine (KG.out W0 (HR.out _ B0.out)).mono ?_
      rintro e w1 ⟨rfl, q, rfl⟩
      have V1 := Lib.hid (bdrewN (Below.refl W0.heap.size W0) q)
      obtain ⟨⟨z0, z1⟩, z2, z3⟩ := BX.out _ V1.out
      have HX1 := (V1.out.block (w.heap.size + 1) (by rw [HZ.out]; omega)).trans HX.out
      have f2 := frozen_of HX1 0
      have f3 := frozen_of HX1 1
      have B1 := Lib.hid (B0.out.trans (V1.out.mono B0.out.size))
      have RB1 := Lib.hid (HR.out _ B1.out)
      clear x0 x1 y0 y1 f0 f1 HX1
      generalize W0.drewN q = W1 at *
      go_wp2
      refine bodyPost_ret (v := .tuple #[.agg #[.slice A n c, .int .i64 (er : Int)], .int .i64 0]) (by simp [results, Tryd.results58, go_sem, z2, z3]) rfl ⟨_, _, _, rfl, HL.out, HC.out, HR.out _ (belowC B1.out (Nat.le_succ _) _ _), belowC B1.out (Nat.le_succ _) _ _⟩
  · obtain ⟨r1, r2, r3⟩ := rd_err (l := l) h0
    rw [r1, r2, r3]
    have hd : ((f : Int) != 0) = true := by simp; omega
    have HL := Lib.hid hl
    have HC := Lib.hid hc
    clear r1 r2 r3 hN hl hr h0
    go_enter Tryd.func58, Tryd.ntmps58
    go_wp2
    refine bodyPost_ret (v := .tuple #[.agg #[.slice A n c, .int .i64 (f : Int)], .int .i64 0]) (by simp [results, Tryd.results58, go_sem]) rfl ⟨A, n, c, rfl, HL.out, HC.out, HR.out _ (bAlloc' (bAlloc' (Below.refl w.heap.size w) _) _), bAlloc' (bAlloc' (Below.refl w.heap.size w) _) _⟩
end Go.Proofs.YtmmehomobmoapaaDoor
