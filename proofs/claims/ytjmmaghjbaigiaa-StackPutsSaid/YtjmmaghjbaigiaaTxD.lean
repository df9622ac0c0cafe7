/- The document's reader takes numbers and texts off. -/
import Derived.Test.YtjmmaghjbaigiaaTxR
namespace Go.Proofs.Ytjmmaghjbaigiaa
open Go.RowKit
set_option linter.unusedVariables false
set_option linter.unusedSimpArgs false
theorem rd_err' {l : List UInt8} {f : Nat} (h : f ≠ 0) : rdV l f = 0 ∧ rdL l f = l ∧ rdF l f = f := by
  unfold rdV rdL rdF
  rw [if_neg (fun x => h x.1), if_neg (fun x => h x.1), if_neg h]
  exact ⟨rfl, rfl, rfl⟩
theorem rd_form' {l : List UInt8} (h : (getSmall l).2.2 ≠ 0) : rdV l 0 = 0 ∧ rdL l 0 = l ∧ rdF l 0 = (getSmall l).2.2 := by
  unfold rdV rdL rdF
  rw [if_neg (fun x => h x.2.1), if_neg (fun x => h x.2.1), if_pos rfl, if_neg h]
  exact ⟨rfl, rfl, rfl⟩
theorem rd_range' {l : List UInt8} (h : (getSmall l).2.2 = 0) (hv : 1099511627776 < (getSmall l).1) : rdV l 0 = 0 ∧ rdL l 0 = l ∧ rdF l 0 = 9 := by
  unfold rdV rdL rdF
  rw [if_neg (fun x => by omega), if_neg (fun x => by omega), if_pos rfl, if_pos h, if_neg (by omega)]
  exact ⟨rfl, rfl, rfl⟩
theorem rd_good' {l : List UInt8} (h : (getSmall l).2.2 = 0) (hv : (getSmall l).1 ≤ 1099511627776) : rdV l 0 = (getSmall l).1 ∧ rdL l 0 = l.drop (getSmall l).2.1 ∧ rdF l 0 = 0 := by
  unfold rdV rdL rdF
  rw [if_pos ⟨rfl, h, hv⟩, if_pos ⟨rfl, h, hv⟩, if_pos rfl, if_pos h, if_pos hv]
  exact ⟨rfl, rfl, rfl⟩
theorem RB.pastK {w : World} {A : Option Addr} {l : List UInt8} (h : RB w A l) {n c m : Nat} (hl : l.length = n) (hc : n ≤ c) (hm : m ≤ n) (B : Option Addr) (hB : B = A ∧ c = m ∨ B = A.map (fun x => x.add m)) : RB w B (l.drop m) := by
  rcases hB with ⟨rfl, e⟩ | rfl
  · exact .inl (by rw [List.drop_eq_nil_iff]; omega)
  · rcases A with _ | a
    · rcases h with h | ⟨_, h, _⟩
      · subst h; exact .inl (by simp)
      · cases h
    · exact h.drop m
/-- Two boxes of two cells stay behind whatever is made later. -/
theorem okTwo (w : World) (a b c d : Value) (t u : TypeId) {W : World} (h : Below ((w.alloc (.cells #[a, b] t)).alloc (.cells #[c, d] u)).heap.size ((w.alloc (.cells #[a, b] t)).alloc (.cells #[c, d] u)) W) :
    ((W.cell? ⟨w.heap.size, 0, none⟩ = some a ∧ W.cell? ⟨w.heap.size, 1, none⟩ = some b) ∧ (W.cell? ⟨w.heap.size + 1, 0, none⟩ = some c ∧ W.cell? ⟨w.heap.size + 1, 1, none⟩ = some d)) ∧ (W.frozen? ⟨w.heap.size + 1, 0, none⟩ = false ∧ W.frozen? ⟨w.heap.size + 1, 1, none⟩ = false) ∧ Below w.heap.size w W := by
  have hs : ((w.alloc (.cells #[a, b] t)).alloc (.cells #[c, d] u)).heap.size = w.heap.size + 2 := by simp
  refine ⟨⟨⟨?_, ?_⟩, ?_, ?_⟩, ⟨?_, ?_⟩, ?_⟩
  · rw [h.cell (p := ⟨w.heap.size, 0, none⟩) (by rw [hs]; simp)]; simp
  · rw [h.cell (p := ⟨w.heap.size, 1, none⟩) (by rw [hs]; simp)]; simp
  · rw [h.cell (p := ⟨w.heap.size + 1, 0, none⟩) (by rw [hs]; simp)]; simp
  · rw [h.cell (p := ⟨w.heap.size + 1, 1, none⟩) (by rw [hs]; simp)]; simp
  · rw [h.frozen (p := ⟨w.heap.size + 1, 0, none⟩) (by rw [hs]; simp)]; simp
  · rw [h.frozen (p := ⟨w.heap.size + 1, 1, none⟩) (by rw [hs]; simp)]; simp
  · exact (((Below.refl w.heap.size w).alloc (Nat.le_refl _) _).alloc (by simp) _).trans (h.mono (by rw [hs]; omega))
theorem okBelowC {b : Nat} {w W : World} (h : Below b w W) {g : Nat} (hg : b ≤ g) (a0 a1 : Value) : Below b w ((W.setCell ⟨g, 0, none⟩ a0).setCell ⟨g, 1, none⟩ a1) := (h.setCell (p := ⟨g, 0, none⟩) hg _).setCell (p := ⟨g, 1, none⟩) hg _
set_option maxHeartbeats 4000000 in
set_option maxRecDepth 100000 in
theorem okRefSmall_any (A : Option Addr) (n c f : Nat) (l : List UInt8) (w : World) (hN : n ≤ 17592186044416) (hl : l.length = n) (hc : n ≤ c) (hr : RB w A l) :
    Calls Try.prog 60 #[.agg #[.slice A n c, .int .i64 (f : Int)]] w fun e w' => ∃ A' n' c', e = .returned (.tuple #[.agg #[.slice A' n' c', .int .i64 (rdF l f : Int)], .int .i64 (rdV l f : Int)]) ∧ (rdL l f).length = n' ∧ n' ≤ c' ∧ RB w' A' (rdL l f) ∧ Below w.heap.size w w' := by
  have BX := Lib.hid (fun W h => okTwo w (.slice A n c) (.int .i64 (f : Int)) (.slice none 0 0) (.int .i64 0) 80 80 (W := W) h)
  have HR := Lib.hid (fun W (hb : Below w.heap.size w W) => hr.below hb)
  have HL := Lib.hid hl
  have HC := Lib.hid hc
  by_cases h0 : f = 0
  · subst h0
    have KG := Lib.hid (fun W (h : RB W A l) => refGetSmall_any A n c l W (by omega) hl hc h)
    have hus := Lib.hid (getSmall_use l)
    by_cases he : (getSmall l).2.2 = 0
    · have KG : Hid (∀ W, RB W A l → _) := Lib.hid (fun W h => (by have := KG.out W h; rw [he] at this; exact this))
      by_cases hv : (getSmall l).1 ≤ 1099511627776
      · obtain ⟨r1, r2, r3⟩ := rd_good' he hv
        rw [r1, r2, r3]
        have HPA := Lib.hid (fun (B : Option Addr) W (h : Below w.heap.size w W) hB => (HR.out W h).pastK hl hc (m := (getSmall l).2.1) (by rw [← hl]; exact hus.out) B hB)
        have HLD : Hid ((l.drop (getSmall l).2.1).length = n - (getSmall l).2.1) := Lib.hid (by rw [List.length_drop, hl])
        have hmn : (getSmall l).2.1 ≤ n := by rw [← hl]; exact hus.out
        generalize l.drop (getSmall l).2.1 = R at *
        generalize (getSmall l).1 = v at *
        generalize (getSmall l).2.1 = m at *
        have hd : decide ((1099511627776 : Int) < (v : Int)) = false := by simp; omega
        have hw : IntKind.i64.wrap (v : Int) = (v : Int) := by rw [IntKind.wrap_i64]; omega
        have hmc : m ≤ c := by omega
        have hcn : n ≤ c := hc
        clear hr hl hN r1 r2 r3 he hus hv
        by_cases hcm : c = m
        · have e0 : m = c := hcm.symm
          subst e0
          have HNM := Lib.hid (show n - m = 0 from by omega)
          go_enter Try.func60, Try.ntmps60
          go_wp2_with fail
          have B0 := Lib.hid (Below.refl ((w.alloc (.cells #[.slice A n m, .int .i64 ((0 : Nat) : Int)] 80)).alloc (.cells #[.slice none 0 0, .int .i64 0] 80)).heap.size ((w.alloc (.cells #[.slice A n m, .int .i64 ((0 : Nat) : Int)] 80)).alloc (.cells #[.slice none 0 0, .int .i64 0] 80)))
          have R0 := Lib.hid (HR.out _ (BX.out _ B0.out).2.2)
          generalize (w.alloc (.cells #[.slice A n m, .int .i64 ((0 : Nat) : Int)] 80)).alloc (.cells #[.slice none 0 0, .int .i64 0] 80) = W0 at *
          refine (KG.out W0 R0.out).mono ?_
          rintro e w1 ⟨rfl, q, rfl⟩
          have b1 : Below W0.heap.size W0 (W0.drewN q) := (Below.refl _ _).trans ⟨rfl, rfl, rfl, Nat.le_refl _, fun _ _ => rfl⟩
          generalize W0.drewN q = w1 at *
          obtain ⟨⟨⟨z0, z1⟩, z2, z3⟩, ⟨f2, f3⟩, B1'⟩ := BX.out _ b1
          have B1 := Lib.hid B1'
          clear B1' b1 BX
          go_wp2
          refine bodyPost_ret (v := .tuple #[.agg #[.slice A 0 0, .int .i64 0], .int .i64 (v : Int)]) (by simp [results, Try.results60, go_sem, z2, z3]) rfl ⟨_, _, _, rfl, by rw [HLD.out, HNM.out], Nat.le_refl _, HPA.out A _ (okBelowC B1.out (Nat.le_succ _) _ _) (.inl ⟨rfl, trivial⟩), (okBelowC B1.out (Nat.le_succ _) _ _)⟩
        · go_enter Try.func60, Try.ntmps60
          go_wp2_with fail
          have B0 := Lib.hid (Below.refl ((w.alloc (.cells #[.slice A n c, .int .i64 ((0 : Nat) : Int)] 80)).alloc (.cells #[.slice none 0 0, .int .i64 0] 80)).heap.size ((w.alloc (.cells #[.slice A n c, .int .i64 ((0 : Nat) : Int)] 80)).alloc (.cells #[.slice none 0 0, .int .i64 0] 80)))
          have R0 := Lib.hid (HR.out _ (BX.out _ B0.out).2.2)
          generalize (w.alloc (.cells #[.slice A n c, .int .i64 ((0 : Nat) : Int)] 80)).alloc (.cells #[.slice none 0 0, .int .i64 0] 80) = W0 at *
          refine (KG.out W0 R0.out).mono ?_
          rintro e w1 ⟨rfl, q, rfl⟩
          have b1 : Below W0.heap.size W0 (W0.drewN q) := (Below.refl _ _).trans ⟨rfl, rfl, rfl, Nat.le_refl _, fun _ _ => rfl⟩
          generalize W0.drewN q = w1 at *
          obtain ⟨⟨⟨z0, z1⟩, z2, z3⟩, ⟨f2, f3⟩, B1'⟩ := BX.out _ b1
          have B1 := Lib.hid B1'
          clear B1' b1 BX
          go_wp2
          refine bodyPost_ret (v := .tuple #[.agg #[.slice (Option.map (fun x => x.add m) A) (n - m) (c - m), .int .i64 0], .int .i64 (v : Int)]) (by simp [results, Try.results60, go_sem, z2, z3]) rfl ⟨_, _, _, rfl, HLD.out, by omega, HPA.out _ _ (okBelowC B1.out (Nat.le_succ _) _ _) (.inr rfl), (okBelowC B1.out (Nat.le_succ _) _ _)⟩
      · obtain ⟨r1, r2, r3⟩ := rd_range' he (by omega)
        rw [r1, r2, r3]
        have hd : (1099511627776 : Int) < ((getSmall l).1 : Int) := by omega
        generalize (getSmall l).1 = v at *
        generalize (getSmall l).2.1 = m at *
        clear hr hl hN hus r1 r2 r3 he hv
        go_enter Try.func60, Try.ntmps60
        go_wp2_with fail
        have B0 := Lib.hid (Below.refl ((w.alloc (.cells #[.slice A n c, .int .i64 ((0 : Nat) : Int)] 80)).alloc (.cells #[.slice none 0 0, .int .i64 0] 80)).heap.size ((w.alloc (.cells #[.slice A n c, .int .i64 ((0 : Nat) : Int)] 80)).alloc (.cells #[.slice none 0 0, .int .i64 0] 80)))
        have R0 := Lib.hid (HR.out _ (BX.out _ B0.out).2.2)
        generalize (w.alloc (.cells #[.slice A n c, .int .i64 ((0 : Nat) : Int)] 80)).alloc (.cells #[.slice none 0 0, .int .i64 0] 80) = W0 at *
        refine (KG.out W0 R0.out).mono ?_
        rintro e w1 ⟨rfl, q, rfl⟩
        have b1 : Below W0.heap.size W0 (W0.drewN q) := (Below.refl _ _).trans ⟨rfl, rfl, rfl, Nat.le_refl _, fun _ _ => rfl⟩
        generalize W0.drewN q = w1 at *
        obtain ⟨⟨⟨z0, z1⟩, z2, z3⟩, ⟨f2, f3⟩, B1'⟩ := BX.out _ b1
        have B1 := Lib.hid B1'
        clear B1' b1 BX
        go_wp2
        refine bodyPost_ret (v := .tuple #[.agg #[.slice A n c, .int .i64 9], .int .i64 0]) (by simp [results, Try.results60, go_sem, z2, z3]) rfl ⟨_, _, _, rfl, HL.out, HC.out, HR.out _ (okBelowC B1.out (Nat.le_succ _) _ _), (okBelowC B1.out (Nat.le_succ _) _ _)⟩
    · obtain ⟨r1, r2, r3⟩ := rd_form' he
      rw [r1, r2, r3]
      have hd : (((getSmall l).2.2 : Int) != 0) = true := by simp; omega
      generalize (getSmall l).1 = v at *
      generalize (getSmall l).2.1 = m at *
      generalize (getSmall l).2.2 = er at *
      clear hr hl hN hus r1 r2 r3 he
      go_enter Try.func60, Try.ntmps60
      go_wp2_with fail
      have B0 := Lib.hid (Below.refl ((w.alloc (.cells #[.slice A n c, .int .i64 ((0 : Nat) : Int)] 80)).alloc (.cells #[.slice none 0 0, .int .i64 0] 80)).heap.size ((w.alloc (.cells #[.slice A n c, .int .i64 ((0 : Nat) : Int)] 80)).alloc (.cells #[.slice none 0 0, .int .i64 0] 80)))
      have R0 := Lib.hid (HR.out _ (BX.out _ B0.out).2.2)
      generalize (w.alloc (.cells #[.slice A n c, .int .i64 ((0 : Nat) : Int)] 80)).alloc (.cells #[.slice none 0 0, .int .i64 0] 80) = W0 at *
      refine (KG.out W0 R0.out).mono ?_
      rintro e w1 ⟨rfl, q, rfl⟩
      have b1 : Below W0.heap.size W0 (W0.drewN q) := (Below.refl _ _).trans ⟨rfl, rfl, rfl, Nat.le_refl _, fun _ _ => rfl⟩
      generalize W0.drewN q = w1 at *
      obtain ⟨⟨⟨z0, z1⟩, z2, z3⟩, ⟨f2, f3⟩, B1'⟩ := BX.out _ b1
      have B1 := Lib.hid B1'
      clear B1' b1 BX
      go_wp2
      refine bodyPost_ret (v := .tuple #[.agg #[.slice A n c, .int .i64 (er : Int)], .int .i64 0]) (by simp [results, Try.results60, go_sem, z2, z3]) rfl ⟨_, _, _, rfl, HL.out, HC.out, HR.out _ (okBelowC B1.out (Nat.le_succ _) _ _), (okBelowC B1.out (Nat.le_succ _) _ _)⟩
  · obtain ⟨r1, r2, r3⟩ := rd_err' (l := l) h0
    rw [r1, r2, r3]
    have hd : ((f : Int) != 0) = true := by simp; omega
    have B0 := Lib.hid (((Below.refl w.heap.size w).alloc (Nat.le_refl _) (.cells #[.slice A n c, .int .i64 (f : Int)] 80)).alloc (by simp) (.cells #[.slice A n c, .int .i64 (f : Int)] 80))
    clear r1 r2 r3 hN hl hr h0
    go_enter Try.func60, Try.ntmps60
    go_wp2
    refine bodyPost_ret (v := .tuple #[.agg #[.slice A n c, .int .i64 (f : Int)], .int .i64 0]) (by simp [results, Try.results60, go_sem]) rfl ⟨A, n, c, rfl, HL.out, HC.out, HR.out _ B0.out, B0.out⟩
set_option maxHeartbeats 4000000 in
set_option maxRecDepth 100000 in
theorem okRefText_any (A : Option Addr) (n c f most : Nat) (l : List UInt8) (w : World) (hN : n ≤ 17592186044416) (hl : l.length = n) (hc : n ≤ c) (hr : RB w A l) (hmost : most ≤ 17592186044416) (hm0 : 0 < most) :
    Calls Try.prog 59 #[.agg #[.slice A n c, .int .i64 (f : Int)], .int .i64 (most : Int)] w fun e w' => ∃ A' n' c', e = .returned (.tuple #[.agg #[.slice A' n' c', .int .i64 (rtF l f most : Int)], .string (str (rtV l f most))]) ∧ (rtL l f most).length = n' ∧ n' ≤ c' ∧ RB w' A' (rtL l f most) ∧ Below w.heap.size w w' := by
  have BX := Lib.hid (fun W h => okTwo w (.slice A n c) (.int .i64 (f : Int)) (.slice none 0 0) (.int .i64 0) 80 80 (W := W) h)
  have HR := Lib.hid (fun W (hb : Below w.heap.size w W) => hr.below hb)
  have HL := Lib.hid hl
  have HC := Lib.hid hc
  by_cases h0 : f = 0
  · subst h0
    have KG := Lib.hid (fun W (h : RB W A l) => refGetText_any A n c l W (by omega) hl h)
    have hus := Lib.hid (getText_use l)
    by_cases he : (getText l).2.2 = 0
    · have KG : Hid (∀ W, RB W A l → _) := Lib.hid (fun W h => (by have := KG.out W h; rw [he] at this; exact this))
      by_cases hv : (getText l).1.length ≤ most
      · obtain ⟨r1, r2, r3⟩ := rt_good he hv
        rw [r1, r2, r3]
        have HPA := Lib.hid (fun (B : Option Addr) W (h : Below w.heap.size w W) hB => (HR.out W h).pastK hl hc (m := (getText l).2.1) (by rw [← hl]; exact hus.out) B hB)
        have HLD : Hid ((l.drop (getText l).2.1).length = n - (getText l).2.1) := Lib.hid (by rw [List.length_drop, hl])
        have hmn : (getText l).2.1 ≤ n := by rw [← hl]; exact hus.out
        generalize l.drop (getText l).2.1 = R at *
        have hsz := str_size (getText l).1
        have hd : decide (most < (str (getText l).1).size) = false := by rw [hsz]; simp; omega
        generalize (getText l).1 = v at *
        generalize (getText l).2.1 = m at *
        clear hsz
        have hmc : m ≤ c := by omega
        have hcn : n ≤ c := hc
        clear hr hl hN r1 r2 r3 he hus hv
        by_cases hcm : c = m
        · have e0 : m = c := hcm.symm
          subst e0
          have HNM := Lib.hid (show n - m = 0 from by omega)
          go_enter Try.func59, Try.ntmps59
          go_wp2_with fail
          have B0 := Lib.hid (Below.refl ((w.alloc (.cells #[.slice A n m, .int .i64 ((0 : Nat) : Int)] 80)).alloc (.cells #[.slice none 0 0, .int .i64 0] 80)).heap.size ((w.alloc (.cells #[.slice A n m, .int .i64 ((0 : Nat) : Int)] 80)).alloc (.cells #[.slice none 0 0, .int .i64 0] 80)))
          have R0 := Lib.hid (HR.out _ (BX.out _ B0.out).2.2)
          generalize (w.alloc (.cells #[.slice A n m, .int .i64 ((0 : Nat) : Int)] 80)).alloc (.cells #[.slice none 0 0, .int .i64 0] 80) = W0 at *
          refine (KG.out W0 R0.out).mono ?_
          rintro e w1 ⟨rfl, b1⟩
          obtain ⟨⟨⟨z0, z1⟩, z2, z3⟩, ⟨f2, f3⟩, B1'⟩ := BX.out _ b1
          have B1 := Lib.hid B1'
          clear B1' b1 BX
          go_wp2
          refine bodyPost_ret (v := .tuple #[.agg #[.slice A 0 0, .int .i64 0], .string (str v)]) (by simp [results, Try.results59, go_sem, z2, z3]) rfl ⟨_, _, _, rfl, by rw [HLD.out, HNM.out], Nat.le_refl _, HPA.out A _ (okBelowC B1.out (Nat.le_succ _) _ _) (.inl ⟨rfl, trivial⟩), (okBelowC B1.out (Nat.le_succ _) _ _)⟩
        · go_enter Try.func59, Try.ntmps59
          go_wp2_with fail
          have B0 := Lib.hid (Below.refl ((w.alloc (.cells #[.slice A n c, .int .i64 ((0 : Nat) : Int)] 80)).alloc (.cells #[.slice none 0 0, .int .i64 0] 80)).heap.size ((w.alloc (.cells #[.slice A n c, .int .i64 ((0 : Nat) : Int)] 80)).alloc (.cells #[.slice none 0 0, .int .i64 0] 80)))
          have R0 := Lib.hid (HR.out _ (BX.out _ B0.out).2.2)
          generalize (w.alloc (.cells #[.slice A n c, .int .i64 ((0 : Nat) : Int)] 80)).alloc (.cells #[.slice none 0 0, .int .i64 0] 80) = W0 at *
          refine (KG.out W0 R0.out).mono ?_
          rintro e w1 ⟨rfl, b1⟩
          obtain ⟨⟨⟨z0, z1⟩, z2, z3⟩, ⟨f2, f3⟩, B1'⟩ := BX.out _ b1
          have B1 := Lib.hid B1'
          clear B1' b1 BX
          go_wp2
          refine bodyPost_ret (v := .tuple #[.agg #[.slice (Option.map (fun x => x.add m) A) (n - m) (c - m), .int .i64 0], .string (str v)]) (by simp [results, Try.results59, go_sem, z2, z3]) rfl ⟨_, _, _, rfl, HLD.out, by omega, HPA.out _ _ (okBelowC B1.out (Nat.le_succ _) _ _) (.inr rfl), (okBelowC B1.out (Nat.le_succ _) _ _)⟩
      · obtain ⟨r1, r2, r3⟩ := rt_big (m := most) he (by omega)
        rw [r1, r2, r3]
        have hsz := str_size (getText l).1
        have hd : most < (str (getText l).1).size := by rw [hsz]; omega
        generalize (getText l).1 = v at *
        generalize (getText l).2.1 = m at *
        clear hr hl hN hus r1 r2 r3 he hv hsz
        go_enter Try.func59, Try.ntmps59
        go_wp2_with fail
        have B0 := Lib.hid (Below.refl ((w.alloc (.cells #[.slice A n c, .int .i64 ((0 : Nat) : Int)] 80)).alloc (.cells #[.slice none 0 0, .int .i64 0] 80)).heap.size ((w.alloc (.cells #[.slice A n c, .int .i64 ((0 : Nat) : Int)] 80)).alloc (.cells #[.slice none 0 0, .int .i64 0] 80)))
        have R0 := Lib.hid (HR.out _ (BX.out _ B0.out).2.2)
        generalize (w.alloc (.cells #[.slice A n c, .int .i64 ((0 : Nat) : Int)] 80)).alloc (.cells #[.slice none 0 0, .int .i64 0] 80) = W0 at *
        refine (KG.out W0 R0.out).mono ?_
        rintro e w1 ⟨rfl, b1⟩
        obtain ⟨⟨⟨z0, z1⟩, z2, z3⟩, ⟨f2, f3⟩, B1'⟩ := BX.out _ b1
        have B1 := Lib.hid B1'
        clear B1' b1 BX
        go_wp2
        refine bodyPost_ret (v := .tuple #[.agg #[.slice A n c, .int .i64 5], .string ⟨#[]⟩]) (by simp [results, Try.results59, go_sem, z2, z3]) rfl ⟨_, _, _, rfl, HL.out, HC.out, HR.out _ (okBelowC B1.out (Nat.le_succ _) _ _), (okBelowC B1.out (Nat.le_succ _) _ _)⟩
    · obtain ⟨r1, r2, r3⟩ := rt_form most he
      rw [r1, r2, r3]
      have hd : (((getText l).2.2 : Int) != 0) = true := by simp; omega
      generalize (getText l).1 = v at *
      generalize (getText l).2.1 = m at *
      generalize (getText l).2.2 = er at *
      clear hr hl hN hus r1 r2 r3 he
      go_enter Try.func59, Try.ntmps59
      go_wp2_with fail
      have B0 := Lib.hid (Below.refl ((w.alloc (.cells #[.slice A n c, .int .i64 ((0 : Nat) : Int)] 80)).alloc (.cells #[.slice none 0 0, .int .i64 0] 80)).heap.size ((w.alloc (.cells #[.slice A n c, .int .i64 ((0 : Nat) : Int)] 80)).alloc (.cells #[.slice none 0 0, .int .i64 0] 80)))
      have R0 := Lib.hid (HR.out _ (BX.out _ B0.out).2.2)
      generalize (w.alloc (.cells #[.slice A n c, .int .i64 ((0 : Nat) : Int)] 80)).alloc (.cells #[.slice none 0 0, .int .i64 0] 80) = W0 at *
      refine (KG.out W0 R0.out).mono ?_
      rintro e w1 ⟨rfl, b1⟩
      obtain ⟨⟨⟨z0, z1⟩, z2, z3⟩, ⟨f2, f3⟩, B1'⟩ := BX.out _ b1
      have B1 := Lib.hid B1'
      clear B1' b1 BX
      go_wp2
      refine bodyPost_ret (v := .tuple #[.agg #[.slice A n c, .int .i64 (er : Int)], .string ⟨#[]⟩]) (by simp [results, Try.results59, go_sem, z2, z3]) rfl ⟨_, _, _, rfl, HL.out, HC.out, HR.out _ (okBelowC B1.out (Nat.le_succ _) _ _), (okBelowC B1.out (Nat.le_succ _) _ _)⟩
  · obtain ⟨r1, r2, r3⟩ := rt_err (l := l) most h0
    rw [r1, r2, r3]
    have hd : ((f : Int) != 0) = true := by simp; omega
    have B0 := Lib.hid (((Below.refl w.heap.size w).alloc (Nat.le_refl _) (.cells #[.slice A n c, .int .i64 (f : Int)] 80)).alloc (by simp) (.cells #[.slice A n c, .int .i64 (f : Int)] 80))
    clear r1 r2 r3 hN hl hr h0
    go_enter Try.func59, Try.ntmps59
    go_wp2
    refine bodyPost_ret (v := .tuple #[.agg #[.slice A n c, .int .i64 (f : Int)], .string ⟨#[]⟩]) (by simp [results, Try.results59, go_sem]) rfl ⟨A, n, c, rfl, HL.out, HC.out, HR.out _ B0.out, B0.out⟩
end Go.Proofs.Ytjmmaghjbaigiaa
