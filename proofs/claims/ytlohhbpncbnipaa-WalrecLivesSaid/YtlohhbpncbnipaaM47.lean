/- Joined: TxD TxP WrE. -/
import Derived.Test.YtlohhbpncbnipaaM46
import Derived.Test.YtlohhbpncbnipaaM45
section
/- The document's reader takes numbers and texts off. -/
namespace Go.Proofs.Ytlohhbpncbnipaa
open Go.RowKit
set_option linter.unusedVariables false
set_option linter.unusedSimpArgs false
theorem rd_err' {l : List UInt8} {f : Nat} (h : f ≠ 0) : rdV l f = 0 ∧ rdL l f = l ∧ rdF l f = f := by
  unfold rdV rdL rdF
  rw [if_neg (fun x => h x.1), if_neg (fun x => h x.1), if_neg h]
  exact ⟨rfl, rfl, rfl⟩
theorem rd_form' {l : List UInt8} (h : (getSmall l).2.2 ≠ 0) : rdV l 0 = 0 ∧ rdL l 0 = l ∧ rdF l 0 = (getSmall l).2.2 := by
  unfold rdV rdL rdF
  rw [if_neg (fun x => h x.2.1), if_neg (fun x => h x.2.1), if_pos rfl, if_neg h]
  exact ⟨rfl, rfl, rfl⟩
theorem rd_range' {l : List UInt8} (h : (getSmall l).2.2 = 0) (hv : 1099511627776 < (getSmall l).1) : rdV l 0 = 0 ∧ rdL l 0 = l ∧ rdF l 0 = 9 := by
  unfold rdV rdL rdF
  rw [if_neg (fun x => by omega), if_neg (fun x => by omega), if_pos rfl, if_pos h, if_neg (by omega)]
  exact ⟨rfl, rfl, rfl⟩
theorem rd_good' {l : List UInt8} (h : (getSmall l).2.2 = 0) (hv : (getSmall l).1 ≤ 1099511627776) : rdV l 0 = (getSmall l).1 ∧ rdL l 0 = l.drop (getSmall l).2.1 ∧ rdF l 0 = 0 := by
  unfold rdV rdL rdF
  rw [if_pos ⟨rfl, h, hv⟩, if_pos ⟨rfl, h, hv⟩, if_pos rfl, if_pos h, if_pos hv]
  exact ⟨rfl, rfl, rfl⟩
theorem RB.pastK {w : World} {A : Option Addr} {l : List UInt8} (h : RB w A l) {n c m : Nat} (hl : l.length = n) (hc : n ≤ c) (hm : m ≤ n) (B : Option Addr) (hB : B = A ∧ c = m ∨ B = A.map (fun x => x.add m)) : RB w B (l.drop m) := by
  rcases hB with ⟨rfl, e⟩ | rfl
  · exact .inl (by rw [List.drop_eq_nil_iff]; omega)
  · rcases A with _ | a
    · rcases h with h | ⟨_, h, _⟩
      · subst h; exact .inl (by simp)
      · cases h
    · exact h.drop m
/-- Two boxes of two cells stay behind whatever is made later. -/
theorem okTwo (w : World) (a b c d : Value) (t u : TypeId) {W : World} (h : Below ((w.alloc (.cells #[a, b] t)).alloc (.cells #[c, d] u)).heap.size ((w.alloc (.cells #[a, b] t)).alloc (.cells #[c, d] u)) W) :
    ((W.cell? ⟨w.heap.size, 0, none⟩ = some a ∧ W.cell? ⟨w.heap.size, 1, none⟩ = some b) ∧ (W.cell? ⟨w.heap.size + 1, 0, none⟩ = some c ∧ W.cell? ⟨w.heap.size + 1, 1, none⟩ = some d)) ∧ (W.frozen? ⟨w.heap.size + 1, 0, none⟩ = false ∧ W.frozen? ⟨w.heap.size + 1, 1, none⟩ = false) ∧ Below w.heap.size w W := by
  have hs : ((w.alloc (.cells #[a, b] t)).alloc (.cells #[c, d] u)).heap.size = w.heap.size + 2 := by simp
  refine ⟨⟨⟨?_, ?_⟩, ?_, ?_⟩, ⟨?_, ?_⟩, ?_⟩
  · rw [h.cell (p := ⟨w.heap.size, 0, none⟩) (by rw [hs]; simp)]; simp
  · rw [h.cell (p := ⟨w.heap.size, 1, none⟩) (by rw [hs]; simp)]; simp
  · rw [h.cell (p := ⟨w.heap.size + 1, 0, none⟩) (by rw [hs]; simp)]; simp
  · rw [h.cell (p := ⟨w.heap.size + 1, 1, none⟩) (by rw [hs]; simp)]; simp
  · rw [h.frozen (p := ⟨w.heap.size + 1, 0, none⟩) (by rw [hs]; simp)]; simp
  · rw [h.frozen (p := ⟨w.heap.size + 1, 1, none⟩) (by rw [hs]; simp)]; simp
  · exact (((Below.refl w.heap.size w).alloc (Nat.le_refl _) _).alloc (by simp) _).trans (h.mono (by rw [hs]; omega))
theorem okBelowC {b : Nat} {w W : World} (h : Below b w W) {g : Nat} (hg : b ≤ g) (a0 a1 : Value) : Below b w ((W.setCell ⟨g, 0, none⟩ a0).setCell ⟨g, 1, none⟩ a1) := (h.setCell (p := ⟨g, 0, none⟩) hg _).setCell (p := ⟨g, 1, none⟩) hg _
set_option maxHeartbeats 4000000 in
set_option maxRecDepth 100000 in
theorem okRefSmall_any (A : Option Addr) (n c f : Nat) (l : List UInt8) (w : World) (hN : n ≤ 17592186044416) (hl : l.length = n) (hc : n ≤ c) (hr : RB w A l) :
    Calls Try.prog 34 #[.agg #[.slice A n c, .int .i64 (f : Int)]] w fun e w' => ∃ A' n' c', e = .returned (.tuple #[.agg #[.slice A' n' c', .int .i64 (rdF l f : Int)], .int .i64 (rdV l f : Int)]) ∧ (rdL l f).length = n' ∧ n' ≤ c' ∧ RB w' A' (rdL l f) ∧ Below w.heap.size w w' := by
  have BX := Lib.hid (fun W h => okTwo w (.slice A n c) (.int .i64 (f : Int)) (.slice none 0 0) (.int .i64 0) 59 59 (W := W) h)
  have HR := Lib.hid (fun W (hb : Below w.heap.size w W) => hr.below hb)
  have HL := Lib.hid hl
  have HC := Lib.hid hc
  by_cases h0 : f = 0
  · subst h0
    have KG := Lib.hid (fun W (h : RB W A l) => refGetSmall_any A n c l W (by omega) hl hc h)
    have hus := Lib.hid (getSmall_use l)
    by_cases he : (getSmall l).2.2 = 0
    · have KG : Hid (∀ W, RB W A l → _) := Lib.hid (fun W h => (by have := KG.out W h; rw [he] at this; exact this))
      by_cases hv : (getSmall l).1 ≤ 1099511627776
      · obtain ⟨r1, r2, r3⟩ := rd_good' he hv
        rw [r1, r2, r3]
        have HPA := Lib.hid (fun (B : Option Addr) W (h : Below w.heap.size w W) hB => (HR.out W h).pastK hl hc (m := (getSmall l).2.1) (by rw [← hl]; exact hus.out) B hB)
        have HLD : Hid ((l.drop (getSmall l).2.1).length = n - (getSmall l).2.1) := Lib.hid (by rw [List.length_drop, hl])
        have hmn : (getSmall l).2.1 ≤ n := by rw [← hl]; exact hus.out
        generalize l.drop (getSmall l).2.1 = R at *
        generalize (getSmall l).1 = v at *
        generalize (getSmall l).2.1 = m at *
        have hd : decide ((1099511627776 : Int) < (v : Int)) = false := by simp; omega
        have hw : IntKind.i64.wrap (v : Int) = (v : Int) := by rw [IntKind.wrap_i64]; omega
        have hmc : m ≤ c := by omega
        have hcn : n ≤ c := hc
        clear hr hl hN r1 r2 r3 he hus hv
        by_cases hcm : c = m
        · have e0 : m = c := hcm.symm
          subst e0
          have HNM := Lib.hid (show n - m = 0 from by omega)
          go_enter Try.func34, Try.ntmps34
          go_wp2_with fail
          have B0 := Lib.hid (Below.refl ((w.alloc (.cells #[.slice A n m, .int .i64 ((0 : Nat) : Int)] 59)).alloc (.cells #[.slice none 0 0, .int .i64 0] 59)).heap.size ((w.alloc (.cells #[.slice A n m, .int .i64 ((0 : Nat) : Int)] 59)).alloc (.cells #[.slice none 0 0, .int .i64 0] 59)))
          have R0 := Lib.hid (HR.out _ (BX.out _ B0.out).2.2)
          generalize (w.alloc (.cells #[.slice A n m, .int .i64 ((0 : Nat) : Int)] 59)).alloc (.cells #[.slice none 0 0, .int .i64 0] 59) = W0 at *
          refine (KG.out W0 R0.out).mono ?_
          rintro e w1 ⟨rfl, q, rfl⟩
          have b1 : Below W0.heap.size W0 (W0.drewN q) := (Below.refl _ _).trans ⟨rfl, rfl, rfl, Nat.le_refl _, fun _ _ => rfl⟩
          generalize W0.drewN q = w1 at *
          obtain ⟨⟨⟨z0, z1⟩, z2, z3⟩, ⟨f2, f3⟩, B1'⟩ := BX.out _ b1
          have B1 := Lib.hid B1'
          clear B1' b1 BX
          go_wp2
          refine bodyPost_ret (v := .tuple #[.agg #[.slice A 0 0, .int .i64 0], .int .i64 (v : Int)]) (by simp [results, Try.results34, go_sem, z2, z3]) rfl ⟨_, _, _, rfl, by rw [HLD.out, HNM.out], Nat.le_refl _, HPA.out A _ (okBelowC B1.out (Nat.le_succ _) _ _) (.inl ⟨rfl, trivial⟩), (okBelowC B1.out (Nat.le_succ _) _ _)⟩
        · go_enter Try.func34, Try.ntmps34
          go_wp2_with fail
          have B0 := Lib.hid (Below.refl ((w.alloc (.cells #[.slice A n c, .int .i64 ((0 : Nat) : Int)] 59)).alloc (.cells #[.slice none 0 0, .int .i64 0] 59)).heap.size ((w.alloc (.cells #[.slice A n c, .int .i64 ((0 : Nat) : Int)] 59)).alloc (.cells #[.slice none 0 0, .int .i64 0] 59)))
          have R0 := Lib.hid (HR.out _ (BX.out _ B0.out).2.2)
          generalize (w.alloc (.cells #[.slice A n c, .int .i64 ((0 : Nat) : Int)] 59)).alloc (.cells #[.slice none 0 0, .int .i64 0] 59) = W0 at *
          refine (KG.out W0 R0.out).mono ?_
          rintro e w1 ⟨rfl, q, rfl⟩
          have b1 : Below W0.heap.size W0 (W0.drewN q) := (Below.refl _ _).trans ⟨rfl, rfl, rfl, Nat.le_refl _, fun _ _ => rfl⟩
          generalize W0.drewN q = w1 at *
          obtain ⟨⟨⟨z0, z1⟩, z2, z3⟩, ⟨f2, f3⟩, B1'⟩ := BX.out _ b1
          have B1 := Lib.hid B1'
          clear B1' b1 BX
          go_wp2
          refine bodyPost_ret (v := .tuple #[.agg #[.slice (Option.map (fun x => x.add m) A) (n - m) (c - m), .int .i64 0], .int .i64 (v : Int)]) (by simp [results, Try.results34, go_sem, z2, z3]) rfl ⟨_, _, _, rfl, HLD.out, by omega, HPA.out _ _ (okBelowC B1.out (Nat.le_succ _) _ _) (.inr rfl), (okBelowC B1.out (Nat.le_succ _) _ _)⟩
      · obtain ⟨r1, r2, r3⟩ := rd_range' he (by omega)
        rw [r1, r2, r3]
        have hd : (1099511627776 : Int) < ((getSmall l).1 : Int) := by omega
        generalize (getSmall l).1 = v at *
        generalize (getSmall l).2.1 = m at *
        clear hr hl hN hus r1 r2 r3 he hv
        go_enter Try.func34, Try.ntmps34
        go_wp2_with fail
        have B0 := Lib.hid (Below.refl ((w.alloc (.cells #[.slice A n c, .int .i64 ((0 : Nat) : Int)] 59)).alloc (.cells #[.slice none 0 0, .int .i64 0] 59)).heap.size ((w.alloc (.cells #[.slice A n c, .int .i64 ((0 : Nat) : Int)] 59)).alloc (.cells #[.slice none 0 0, .int .i64 0] 59)))
        have R0 := Lib.hid (HR.out _ (BX.out _ B0.out).2.2)
        generalize (w.alloc (.cells #[.slice A n c, .int .i64 ((0 : Nat) : Int)] 59)).alloc (.cells #[.slice none 0 0, .int .i64 0] 59) = W0 at *
        refine (KG.out W0 R0.out).mono ?_
        rintro e w1 ⟨rfl, q, rfl⟩
        have b1 : Below W0.heap.size W0 (W0.drewN q) := (Below.refl _ _).trans ⟨rfl, rfl, rfl, Nat.le_refl _, fun _ _ => rfl⟩
        generalize W0.drewN q = w1 at *
        obtain ⟨⟨⟨z0, z1⟩, z2, z3⟩, ⟨f2, f3⟩, B1'⟩ := BX.out _ b1
        have B1 := Lib.hid B1'
        clear B1' b1 BX
        go_wp2
        refine bodyPost_ret (v := .tuple #[.agg #[.slice A n c, .int .i64 9], .int .i64 0]) (by simp [results, Try.results34, go_sem, z2, z3]) rfl ⟨_, _, _, rfl, HL.out, HC.out, HR.out _ (okBelowC B1.out (Nat.le_succ _) _ _), (okBelowC B1.out (Nat.le_succ _) _ _)⟩
    · obtain ⟨r1, r2, r3⟩ := rd_form' he
      rw [r1, r2, r3]
      have hd : (((getSmall l).2.2 : Int) != 0) = true := by simp; omega
      generalize (getSmall l).1 = v at *
      generalize (getSmall l).2.1 = m at *
      generalize (getSmall l).2.2 = er at *
      clear hr hl hN hus r1 r2 r3 he
      go_enter Try.func34, Try.ntmps34
      go_wp2_with fail
      have B0 := Lib.hid (Below.refl ((w.alloc (.cells #[.slice A n c, .int .i64 ((0 : Nat) : Int)] 59)).alloc (.cells #[.slice none 0 0, .int .i64 0] 59)).heap.size ((w.alloc (.cells #[.slice A n c, .int .i64 ((0 : Nat) : Int)] 59)).alloc (.cells #[.slice none 0 0, .int .i64 0] 59)))
      have R0 := Lib.hid (HR.out _ (BX.out _ B0.out).2.2)
      generalize (w.alloc (.cells #[.slice A n c, .int .i64 ((0 : Nat) : Int)] 59)).alloc (.cells #[.slice none 0 0, .int .i64 0] 59) = W0 at *
      refine (KG.out W0 R0.out).mono ?_
      rintro e w1 ⟨rfl, q, rfl⟩
      have b1 : Below W0.heap.size W0 (W0.drewN q) := (Below.refl _ _).trans ⟨rfl, rfl, rfl, Nat.le_refl _, fun _ _ => rfl⟩
      generalize W0.drewN q = w1 at *
      obtain ⟨⟨⟨z0, z1⟩, z2, z3⟩, ⟨f2, f3⟩, B1'⟩ := BX.out _ b1
      have B1 := Lib.hid B1'
      clear B1' b1 BX
      go_wp2
      refine bodyPost_ret (v := .tuple #[.agg #[.slice A n c, .int .i64 (er : Int)], .int .i64 0]) (by simp [results, Try.results34, go_sem, z2, z3]) rfl ⟨_, _, _, rfl, HL.out, HC.out, HR.out _ (okBelowC B1.out (Nat.le_succ _) _ _), (okBelowC B1.out (Nat.le_succ _) _ _)⟩
  · obtain ⟨r1, r2, r3⟩ := rd_err' (l := l) h0
    rw [r1, r2, r3]
    have hd : ((f : Int) != 0) = true := by simp; omega
    have B0 := Lib.hid (((Below.refl w.heap.size w).alloc (Nat.le_refl _) (.cells #[.slice A n c, .int .i64 (f : Int)] 59)).alloc (by simp) (.cells #[.slice A n c, .int .i64 (f : Int)] 59))
    clear r1 r2 r3 hN hl hr h0
    go_enter Try.func34, Try.ntmps34
    go_wp2
    refine bodyPost_ret (v := .tuple #[.agg #[.slice A n c, .int .i64 (f : Int)], .int .i64 0]) (by simp [results, Try.results34, go_sem]) rfl ⟨A, n, c, rfl, HL.out, HC.out, HR.out _ B0.out, B0.out⟩
set_option maxHeartbeats 4000000 in
set_option maxRecDepth 100000 in
theorem okRefText_any (A : Option Addr) (n c f most : Nat) (l : List UInt8) (w : World) (hN : n ≤ 17592186044416) (hl : l.length = n) (hc : n ≤ c) (hr : RB w A l) (hmost : most ≤ 17592186044416) (hm0 : 0 < most) :
    Calls Try.prog 35 #[.agg #[.slice A n c, .int .i64 (f : Int)], .int .i64 (most : Int)] w fun e w' => ∃ A' n' c', e = .returned (.tuple #[.agg #[.slice A' n' c', .int .i64 (rtF l f most : Int)], .string (str (rtV l f most))]) ∧ (rtL l f most).length = n' ∧ n' ≤ c' ∧ RB w' A' (rtL l f most) ∧ Below w.heap.size w w' := by
  have BX := Lib.hid (fun W h => okTwo w (.slice A n c) (.int .i64 (f : Int)) (.slice none 0 0) (.int .i64 0) 59 59 (W := W) h)
  have HR := Lib.hid (fun W (hb : Below w.heap.size w W) => hr.below hb)
  have HL := Lib.hid hl
  have HC := Lib.hid hc
  by_cases h0 : f = 0
  · subst h0
    have KG := Lib.hid (fun W (h : RB W A l) => refGetText_any A n c l W (by omega) hl h)
    have hus := Lib.hid (getText_use l)
    by_cases he : (getText l).2.2 = 0
    · have KG : Hid (∀ W, RB W A l → _) := Lib.hid (fun W h => (by have := KG.out W h; rw [he] at this; exact this))
      by_cases hv : (getText l).1.length ≤ most
      · obtain ⟨r1, r2, r3⟩ := rt_good he hv
        rw [r1, r2, r3]
        have HPA := Lib.hid (fun (B : Option Addr) W (h : Below w.heap.size w W) hB => (HR.out W h).pastK hl hc (m := (getText l).2.1) (by rw [← hl]; exact hus.out) B hB)
        have HLD : Hid ((l.drop (getText l).2.1).length = n - (getText l).2.1) := Lib.hid (by rw [List.length_drop, hl])
        have hmn : (getText l).2.1 ≤ n := by rw [← hl]; exact hus.out
        generalize l.drop (getText l).2.1 = R at *
        have hsz := str_size (getText l).1
        have hd : decide (most < (str (getText l).1).size) = false := by rw [hsz]; simp; omega
        generalize (getText l).1 = v at *
        generalize (getText l).2.1 = m at *
        clear hsz
        have hmc : m ≤ c := by omega
        have hcn : n ≤ c := hc
        clear hr hl hN r1 r2 r3 he hus hv
        by_cases hcm : c = m
        · have e0 : m = c := hcm.symm
          subst e0
          have HNM := Lib.hid (show n - m = 0 from by omega)
          go_enter Try.func35, Try.ntmps35
          go_wp2_with fail
          have B0 := Lib.hid (Below.refl ((w.alloc (.cells #[.slice A n m, .int .i64 ((0 : Nat) : Int)] 59)).alloc (.cells #[.slice none 0 0, .int .i64 0] 59)).heap.size ((w.alloc (.cells #[.slice A n m, .int .i64 ((0 : Nat) : Int)] 59)).alloc (.cells #[.slice none 0 0, .int .i64 0] 59)))
          have R0 := Lib.hid (HR.out _ (BX.out _ B0.out).2.2)
          generalize (w.alloc (.cells #[.slice A n m, .int .i64 ((0 : Nat) : Int)] 59)).alloc (.cells #[.slice none 0 0, .int .i64 0] 59) = W0 at *
          refine (KG.out W0 R0.out).mono ?_
          rintro e w1 ⟨rfl, b1⟩
          obtain ⟨⟨⟨z0, z1⟩, z2, z3⟩, ⟨f2, f3⟩, B1'⟩ := BX.out _ b1
          have B1 := Lib.hid B1'
          clear B1' b1 BX
          go_wp2
          refine bodyPost_ret (v := .tuple #[.agg #[.slice A 0 0, .int .i64 0], .string (str v)]) (by simp [results, Try.results35, go_sem, z2, z3]) rfl ⟨_, _, _, rfl, by rw [HLD.out, HNM.out], Nat.le_refl _, HPA.out A _ (okBelowC B1.out (Nat.le_succ _) _ _) (.inl ⟨rfl, trivial⟩), (okBelowC B1.out (Nat.le_succ _) _ _)⟩
        · go_enter Try.func35, Try.ntmps35
          go_wp2_with fail
          have B0 := Lib.hid (Below.refl ((w.alloc (.cells #[.slice A n c, .int .i64 ((0 : Nat) : Int)] 59)).alloc (.cells #[.slice none 0 0, .int .i64 0] 59)).heap.size ((w.alloc (.cells #[.slice A n c, .int .i64 ((0 : Nat) : Int)] 59)).alloc (.cells #[.slice none 0 0, .int .i64 0] 59)))
          have R0 := Lib.hid (HR.out _ (BX.out _ B0.out).2.2)
          generalize (w.alloc (.cells #[.slice A n c, .int .i64 ((0 : Nat) : Int)] 59)).alloc (.cells #[.slice none 0 0, .int .i64 0] 59) = W0 at *
          refine (KG.out W0 R0.out).mono ?_
          rintro e w1 ⟨rfl, b1⟩
          obtain ⟨⟨⟨z0, z1⟩, z2, z3⟩, ⟨f2, f3⟩, B1'⟩ := BX.out _ b1
          have B1 := Lib.hid B1'
          clear B1' b1 BX
          go_wp2
          refine bodyPost_ret (v := .tuple #[.agg #[.slice (Option.map (fun x => x.add m) A) (n - m) (c - m), .int .i64 0], .string (str v)]) (by simp [results, Try.results35, go_sem, z2, z3]) rfl ⟨_, _, _, rfl, HLD.out, by omega, HPA.out _ _ (okBelowC B1.out (Nat.le_succ _) _ _) (.inr rfl), (okBelowC B1.out (Nat.le_succ _) _ _)⟩
      · obtain ⟨r1, r2, r3⟩ := rt_big (m := most) he (by omega)
        rw [r1, r2, r3]
        have hsz := str_size (getText l).1
        have hd : most < (str (getText l).1).size := by rw [hsz]; omega
        generalize (getText l).1 = v at *
        generalize (getText l).2.1 = m at *
        clear hr hl hN hus r1 r2 r3 he hv hsz
        go_enter Try.func35, Try.ntmps35
        go_wp2_with fail
        have B0 := Lib.hid (Below.refl ((w.alloc (.cells #[.slice A n c, .int .i64 ((0 : Nat) : Int)] 59)).alloc (.cells #[.slice none 0 0, .int .i64 0] 59)).heap.size ((w.alloc (.cells #[.slice A n c, .int .i64 ((0 : Nat) : Int)] 59)).alloc (.cells #[.slice none 0 0, .int .i64 0] 59)))
        have R0 := Lib.hid (HR.out _ (BX.out _ B0.out).2.2)
        generalize (w.alloc (.cells #[.slice A n c, .int .i64 ((0 : Nat) : Int)] 59)).alloc (.cells #[.slice none 0 0, .int .i64 0] 59) = W0 at *
        refine (KG.out W0 R0.out).mono ?_
        rintro e w1 ⟨rfl, b1⟩
        obtain ⟨⟨⟨z0, z1⟩, z2, z3⟩, ⟨f2, f3⟩, B1'⟩ := BX.out _ b1
        have B1 := Lib.hid B1'
        clear B1' b1 BX
        go_wp2
        refine bodyPost_ret (v := .tuple #[.agg #[.slice A n c, .int .i64 5], .string ⟨#[]⟩]) (by simp [results, Try.results35, go_sem, z2, z3]) rfl ⟨_, _, _, rfl, HL.out, HC.out, HR.out _ (okBelowC B1.out (Nat.le_succ _) _ _), (okBelowC B1.out (Nat.le_succ _) _ _)⟩
    · obtain ⟨r1, r2, r3⟩ := rt_form most he
      rw [r1, r2, r3]
      have hd : (((getText l).2.2 : Int) != 0) = true := by simp; omega
      generalize (getText l).1 = v at *
      generalize (getText l).2.1 = m at *
      generalize (getText l).2.2 = er at *
      clear hr hl hN hus r1 r2 r3 he
      go_enter Try.func35, Try.ntmps35
      go_wp2_with fail
      have B0 := Lib.hid (Below.refl ((w.alloc (.cells #[.slice A n c, .int .i64 ((0 : Nat) : Int)] 59)).alloc (.cells #[.slice none 0 0, .int .i64 0] 59)).heap.size ((w.alloc (.cells #[.slice A n c, .int .i64 ((0 : Nat) : Int)] 59)).alloc (.cells #[.slice none 0 0, .int .i64 0] 59)))
      have R0 := Lib.hid (HR.out _ (BX.out _ B0.out).2.2)
      generalize (w.alloc (.cells #[.slice A n c, .int .i64 ((0 : Nat) : Int)] 59)).alloc (.cells #[.slice none 0 0, .int .i64 0] 59) = W0 at *
      refine (KG.out W0 R0.out).mono ?_
      rintro e w1 ⟨rfl, b1⟩
      obtain ⟨⟨⟨z0, z1⟩, z2, z3⟩, ⟨f2, f3⟩, B1'⟩ := BX.out _ b1
      have B1 := Lib.hid B1'
      clear B1' b1 BX
      go_wp2
      refine bodyPost_ret (v := .tuple #[.agg #[.slice A n c, .int .i64 (er : Int)], .string ⟨#[]⟩]) (by simp [results, Try.results35, go_sem, z2, z3]) rfl ⟨_, _, _, rfl, HL.out, HC.out, HR.out _ (okBelowC B1.out (Nat.le_succ _) _ _), (okBelowC B1.out (Nat.le_succ _) _ _)⟩
  · obtain ⟨r1, r2, r3⟩ := rt_err (l := l) most h0
    rw [r1, r2, r3]
    have hd : ((f : Int) != 0) = true := by simp; omega
    have B0 := Lib.hid (((Below.refl w.heap.size w).alloc (Nat.le_refl _) (.cells #[.slice A n c, .int .i64 (f : Int)] 59)).alloc (by simp) (.cells #[.slice A n c, .int .i64 (f : Int)] 59))
    clear r1 r2 r3 hN hl hr h0
    go_enter Try.func35, Try.ntmps35
    go_wp2
    refine bodyPost_ret (v := .tuple #[.agg #[.slice A n c, .int .i64 (f : Int)], .string ⟨#[]⟩]) (by simp [results, Try.results35, go_sem]) rfl ⟨A, n, c, rfl, HL.out, HC.out, HR.out _ B0.out, B0.out⟩
end Go.Proofs.Ytlohhbpncbnipaa
end
section
/- What is laid is read again: numbers of few bytes, texts (plain). -/
namespace Go.Proofs.Ytlohhbpncbnipaa
set_option linter.unusedVariables false
set_option linter.unusedSimpArgs false
theorem txU8 {x y : UInt8} (h : x.toNat = y.toNat) : x = y := UInt8.toNat_inj.1 h

theorem txFold (l : List UInt8) (a : Nat) : l.foldl (fun a (x : UInt8) => a * 256 + x.toNat) a = a * 256 ^ l.length + be l := by
  induction l generalizing a with
  | nil => simp [be]
  | cons x l ih =>
    simp only [List.foldl_cons, List.length_cons, be]
    rw [ih, ih (0 * 256 + x.toNat), Nat.pow_succ, Nat.add_mul, Nat.zero_mul, Nat.zero_add, Nat.mul_assoc, Nat.mul_comm 256]
    omega
theorem txBeCons (x : UInt8) (l : List UInt8) : be (x :: l) = x.toNat * 256 ^ l.length + be l := by
  have := txFold l x.toNat
  simpa [be] using this
theorem txBeHi (k n : Nat) : be (hi k n) = n % 256 ^ k := by
  induction k with
  | zero => simp [hi, be, Nat.mod_one]
  | succ k ih =>
    rw [hi, txBeCons, hi_len, ih, ofNat_toNat, Nat.mod_pow_succ, Nat.mul_comm]
    omega

theorem txWidLt (n : Nat) : n < 256 ^ wid n := by
  induction n using Nat.strongRecOn with
  | _ n ih =>
    rcases Nat.eq_zero_or_pos n with rfl | h0
    · rw [wid_zero]; decide
    · rw [wid_pos h0, Nat.pow_succ]
      have := ih (n / 256) (by omega)
      omega
theorem txWidGe (n : Nat) (h : 0 < n) : 256 ^ (wid n - 1) ≤ n := by
  induction n using Nat.strongRecOn with
  | _ n ih =>
    rw [wid_pos h, Nat.add_sub_cancel]
    rcases Nat.eq_zero_or_pos (n / 256) with h0 | h0
    · rw [h0, wid_zero, Nat.pow_zero]; omega
    · have h1 := ih (n / 256) (by omega) h0
      have h2 : 0 < wid (n / 256) := by rw [wid_pos h0]; omega
      have h3 : 256 ^ wid (n / 256) = 256 ^ (wid (n / 256) - 1) * 256 := by rw [← Nat.pow_succ]; congr 1; omega
      omega
theorem getTS_enc (l r acc : List UInt8) (i : Nat) : getTS false (encT l ++ r) acc i = getTS false r (acc ++ l) (i + (encT l).length) := by
  induction l generalizing acc i with
  | nil => simp [encT]
  | cons x l ih =>
    simp only [encT]
    by_cases hx : x.toNat = 0
    · obtain rfl : x = 0 := txU8 hx
      rw [if_pos hx]
      simp only [List.cons_append, getTS]
      simp [ih]
      congr 1
      omega
    · rw [if_neg hx]
      simp only [List.cons_append, getTS]
      rw [if_neg hx, ih]
      simp
      congr 1
      omega
theorem getText_put (l r : List UInt8) : getText (putText l ++ r) = (l, (putText l).length, 0) := by
  unfold getText putText
  rw [List.append_assoc, getTS_enc]
  simp [getTS]
theorem txSmallLen (n : Nat) : (putSmall n).length = wid n + 1 := by simp [putSmall, hi_len]
theorem txSmallPut (n : Nat) (r : List UInt8) (hn : n < 18446744073709551616) : getSmall (putSmall n ++ r) = (n, (putSmall n).length, 0) := by
  have h8 := wid_le8 n hn
  rw [txSmallLen]
  unfold putSmall
  rw [List.cons_append, getSmall_cons, ofNat_toNat, Nat.mod_eq_of_lt (by omega), if_neg (by omega), if_neg (by simp [hi_len]), if_neg]
  · rw [List.take_append_of_le_length (by rw [hi_len]; omega), List.take_of_length_le (by rw [hi_len]; omega), txBeHi, Nat.mod_eq_of_lt (txWidLt n)]
    simp
    omega
  · rintro ⟨h0, h⟩
    have hn0 : 0 < n := by
      rcases Nat.eq_zero_or_pos n with rfl | hn0
      · rw [wid_zero] at h0; omega
      · exact hn0
    obtain ⟨k, hk⟩ : ∃ k, wid n = k + 1 := ⟨wid n - 1, by omega⟩
    rw [hk, hi] at h
    simp only [List.cons_append, List.head?_cons, Option.some.injEq] at h
    have h1 := txWidGe n hn0
    have h2 := txWidLt n
    rw [hk, Nat.add_sub_cancel] at h1
    rw [hk, Nat.pow_succ] at h2
    have h3 : 1 ≤ n / 256 ^ k := by
      rw [Nat.le_div_iff_mul_le (Nat.pow_pos (by omega))]; omega
    have h4 : n / 256 ^ k < 256 := Nat.div_lt_of_lt_mul (by omega)
    have h5 := congrArg UInt8.toNat h
    rw [ofNat_toNat] at h5
    simp at h5
    omega
theorem rd_put (n : Nat) (r : List UInt8) (h : n ≤ 1099511627776) : rdV (putSmall n ++ r) 0 = n ∧ rdL (putSmall n ++ r) 0 = r ∧ rdF (putSmall n ++ r) 0 = 0 := by
  have e := txSmallPut n r (by omega)
  obtain ⟨a, b, c⟩ := rd_good' (l := putSmall n ++ r) (by rw [e]) (by rw [e]; exact h)
  rw [a, b, c, e]
  simp
theorem rt_put (t r : List UInt8) (m : Nat) (h : t.length ≤ m) : rtV (putText t ++ r) 0 m = t ∧ rtL (putText t ++ r) 0 m = r ∧ rtF (putText t ++ r) 0 m = 0 := by
  have e := getText_put t r
  obtain ⟨a, b, c⟩ := rt_good (l := putText t ++ r) (m := m) (by rw [e]) (by rw [e]; exact h)
  rw [a, b, c, e]
  simp
theorem rd_suffix (l : List UInt8) (f : Nat) : ∃ k, k ≤ l.length ∧ rdL l f = l.drop k := by
  unfold rdL
  split
  · exact ⟨_, getSmall_use l, rfl⟩
  · exact ⟨0, Nat.zero_le _, rfl⟩
theorem rt_suffix (l : List UInt8) (f m : Nat) : ∃ k, k ≤ l.length ∧ rtL l f m = l.drop k := by
  unfold rtL
  split
  · exact ⟨_, getText_use l, rfl⟩
  · exact ⟨0, Nat.zero_le _, rfl⟩
end Go.Proofs.Ytlohhbpncbnipaa
end
section
/- A record of its bytes: what is guessed (plain); what stands behind a key. -/
namespace Go.Proofs.Ytlohhbpncbnipaa
open Go.RowKit
set_option linter.unusedVariables false
set_option linter.unusedSimpArgs false
def guT (a : Bool) (l : List UInt8) (f : Nat) : Nat := if a then rdV l f else 0
def guL (a : Bool) (l : List UInt8) (f : Nat) : List UInt8 := if a then rdL l f else l
def guF (a : Bool) (l : List UInt8) (f : Nat) : Nat := if a then rdF l f else f
def writ : List UInt8 → Bool × List UInt8
  | [] => (false, [])
  | x :: r => (x == 1, rtV r 0 24)
def guessL (k : Nat) (a b c : Bool) (r : List UInt8) : Rec :=
  let t := guT a r 0
  let l1 := guL a r 0
  let f1 := guF a r 0
  let s := guT b l1 f1
  let l2 := guL b l1 f1
  let f2 := guF b l1 f1
  if c then ⟨k, t, s, str (rtV l2 f2 16), (writ (rtL l2 f2 16)).1, str (writ (rtL l2 f2 16)).2⟩ else ⟨k, t, s, ⟨#[]⟩, false, ⟨#[]⟩⟩
def guessR : List UInt8 → Rec
  | [] => ⟨0, 0, 0, ⟨#[]⟩, false, ⟨#[]⟩⟩
  | k :: r => guessL k.toNat (wrHasTxn k.toNat) (wrHasTS k.toNat) (wrHasPair k.toNat) r
theorem str_data (b : ByteArray) : str b.data.toList = b := by simp [str]
theorem ba_nil {b : ByteArray} (h : b.toList = []) : b = ⟨#[]⟩ := (ba_empty b).1 (by rw [h]; rfl)
theorem strays_not {r : Rec} (h : straysB r = false) : (wrHasTxn r.kind = false → r.txn = 0) ∧ (wrHasTS r.kind = false → r.ts = 0) ∧ (wrHasPair r.kind = false → r.key = ⟨#[]⟩ ∧ r.gone = false ∧ r.val = ⟨#[]⟩) := by
  simp only [straysB, Bool.or_eq_false_iff] at h
  obtain ⟨⟨h1, h2⟩, h3⟩ := h
  refine ⟨fun e => ?_, fun e => ?_, fun e => ?_⟩
  · rw [e] at h1; simpa using h1
  · rw [e] at h2; simpa using h2
  · rw [e] at h3
    simp only [Bool.not_false, Bool.true_and, Bool.or_eq_false_iff, Bool.not_eq_false', List.isEmpty_iff] at h3
    exact ⟨ba_nil h3.1.1, h3.1.2, ba_nil h3.2⟩
theorem writ_put (g : Bool) (v : List UInt8) (h : v.length ≤ 24) : writ (wrMark g :: putText v) = (g, v) := by
  have := rt_put v [] 24 h
  rw [List.append_nil] at this
  simp only [writ, this.1]
  cases g <;> rfl
theorem guess_put {r : Rec} (h : checkR r = 0) : guessR (putR r) = r := by
  obtain ⟨c1, c2, c3, ⟨t1, t2⟩, ⟨s1, s2⟩, c4, c5⟩ := checkR_zero h
  obtain ⟨e1, e2, e3⟩ := strays_not c2
  clear h c2
  obtain ⟨kind, txn, ts, key, gone, val⟩ := r
  dsimp only at *
  obtain ⟨n, rfl⟩ := Int.eq_ofNat_of_zero_le t1
  obtain ⟨m, rfl⟩ := Int.eq_ofNat_of_zero_le s1
  have hn : n ≤ 1099511627776 := by omega
  have hm : m ≤ 1099511627776 := by omega
  have hk : (UInt8.ofNat kind).toNat = kind := by rw [ofNat_toNat]; omega
  unfold putR layR
  simp only [List.cons_append, guessR, hk, Int.toNat_natCast]
  generalize wrHasTxn kind = a at *
  generalize wrHasTS kind = b at *
  generalize wrHasPair kind = c at *
  have p1 : ∀ R, guT a ((if a = true then putSmall n else []) ++ R) 0 = n ∧ guL a ((if a = true then putSmall n else []) ++ R) 0 = R ∧ guF a ((if a = true then putSmall n else []) ++ R) 0 = 0 := by
    intro R
    cases a with
    | false => have := e1 rfl; simp [guT, guL, guF]; omega
    | true => simpa [guT, guL, guF] using rd_put n R hn
  have p2 : ∀ R, guT b ((if b = true then putSmall m else []) ++ R) 0 = m ∧ guL b ((if b = true then putSmall m else []) ++ R) 0 = R ∧ guF b ((if b = true then putSmall m else []) ++ R) 0 = 0 := by
    intro R
    cases b with
    | false => have := e2 rfl; simp [guT, guL, guF]; omega
    | true => simpa [guT, guL, guF] using rd_put m R hm
  unfold guessL
  simp only [List.nil_append, List.append_assoc]
  obtain ⟨q1, q2, q3⟩ := p1 ((if b = true then putSmall m else []) ++ if c = true then putText key.data.toList ++ wrMark gone :: putText val.data.toList else [])
  rw [q1, q2, q3]
  obtain ⟨q1, q2, q3⟩ := p2 (if c = true then putText key.data.toList ++ wrMark gone :: putText val.data.toList else [])
  rw [q1, q2, q3]
  cases c with
  | false => obtain ⟨rfl, rfl, rfl⟩ := e3 rfl; simp
  | true =>
    simp only [if_true]
    obtain ⟨q1, q2, q3⟩ := rt_put key.data.toList (wrMark gone :: putText val.data.toList) 16 (show key.data.toList.length ≤ 16 from c4)
    rw [q1, q2, writ_put _ _ (show val.data.toList.length ≤ 24 from c5), str_data, str_data]
/-- What Get tells of bytes. -/
def GetOf (l : List UInt8) (r : Rec) (e : Nat) : Prop := (checkR r = 0 ∧ putR r = l ∧ e = 0) ∨ ((∀ x, checkR x = 0 → putR x ≠ l) ∧ r = ⟨0, 0, 0, ⟨#[]⟩, false, ⟨#[]⟩⟩ ∧ e = 4)
theorem GetOf.one {l : List UInt8} {r s : Rec} {e f : Nat} (h : GetOf l r e) (g : GetOf l s f) : r = s ∧ e = f := by
  rcases h with ⟨h1, h2, h3⟩ | ⟨h1, h2, h3⟩ <;> rcases g with ⟨g1, g2, g3⟩ | ⟨g1, g2, g3⟩
  · have a := guess_put h1
    have b := guess_put g1
    rw [h2] at a
    rw [g2] at b
    exact ⟨a.symm.trans b, by omega⟩
  · exact absurd h2 (g1 _ h1)
  · exact absurd g2 (h1 _ g1)
  · exact ⟨h2.trans g2.symm, by omega⟩
theorem GetOf.yes {l : List UInt8} {g : Rec} (h1 : checkR g = 0) (h2 : putR g = l) : GetOf l g 0 := .inl ⟨h1, h2, rfl⟩
theorem GetOf.no {l : List UInt8} {g : Rec} (hg : ∀ x, checkR x = 0 → putR x = l → g = x) (h : ¬ (checkR g = 0 ∧ putR g = l)) : GetOf l ⟨0, 0, 0, ⟨#[]⟩, false, ⟨#[]⟩⟩ 4 :=
  .inr ⟨fun x hx e => h (by rw [hg x hx e]; exact ⟨hx, e⟩), rfl, rfl⟩
set_option maxHeartbeats 1000000 in
set_option maxRecDepth 100000 in
theorem written_any (A : Option Addr) (n c : Nat) (l : List UInt8) (w : World) (hN : n ≤ 17592186044416) (hl : l.length = n) (hc : n ≤ c) (hr : RB w A l) :
    Calls Try.prog 44 #[.slice A n c] w fun e w' => e = .returned (.tuple #[.bool (writ l).1, .string (str (writ l).2)]) ∧ Below w.heap.size w w' := by
  cases l with
  | nil =>
    obtain rfl : n = 0 := hl.symm
    go_enter Try.func44, Try.ntmps44
    go_wp2
    go_ret2
    exact ⟨rfl, Below.refl _ _⟩
  | cons x r =>
    obtain ⟨ad, y, rfl, hy, hcy⟩ := hr.at_ (k := 0) (by simp)
    obtain rfl : y = x := by simpa using hy.symm
    have hr' := hr.pastK (m := 1) hl hc (by simp at hl; omega)
    rw [List.drop_one, List.tail_cons] at hr'
    rw [Addr.add_nought] at hcy
    simp only [writ]
    have hb1 : ((y.toNat : Int) == 1) = (y == 1) := by rw [Bool.eq_iff_iff]; simp [← UInt8.toNat_inj]; omega
    have hn : r.length = n - 1 := by simp at hl; omega
    have h1n : 1 ≤ n := by simp at hl; omega
    have KN := Lib.hid (fun B c' W (hB : RB W B r) => okNewO_any B (n - 1) c' r W (by omega) hn hB)
    have KT := Lib.hid (fun b g W (h : RDO b W g r 0) => okTextO_any b g 0 24 r W h (by omega) (by omega))
    have KA := Lib.hid (fun W (hW : Below w.heap.size w W) => (hW.cell (lt_of_cell hcy)).trans hcy)
    generalize (y == 1) = b1 at *
    generalize rtV r 0 24 = V at *
    by_cases hc1 : c = 1
    · subst hc1
      obtain rfl : n = 1 := by omega
      have HB := Lib.hid (fun W (hW : Below w.heap.size w W) => (hr' (some ad) (.inl ⟨rfl, rfl⟩)).below hW)
      clear hl hr hr' hy hcy
      go_enter Try.func44, Try.ntmps44
      go_wp2
      have c0 : w.drew.cell? ad = some (.int .u8 (y.toNat : Int)) := KA.out _ ((Below.refl _ _).drew)
      have B0 := Lib.hid (Below.refl w.heap.size w).drew
      go_region_held3 (fun W => W.cell? ad = some (.int .u8 (y.toNat : Int))) (first | with_reducible exact c0 | with_reducible exact c1 | with_reducible exact c2 | fail)
        (first
          | (go_at_call 41; refine (KN.out _ _ _ (HB.out _ B0.out)).mono ?_; rintro e w1 ⟨g, rfl, r1, hg, b1⟩; have B1 := Lib.hid (B0.out.trans b1); have R1 := Lib.hid r1; have hg := Lib.hid hg; have c1 := KA.out _ B1.out; clear r1 b1)
          | (go_at_call 43; refine (KT.out _ _ _ R1.out).mono ?_; rintro e w2 ⟨rfl, r2, b2⟩; have B2 := Lib.hid (B1.out.trans (b2.mono hg.out)); have c2 := KA.out _ B2.out; clear r2 b2)
          | fail)
      all_goals
        go_wp2
        go_ret2
        exact ⟨rfl, B2.out⟩
    · have HB := Lib.hid (fun W (hW : Below w.heap.size w W) => (hr' (some (ad.add 1)) (.inr rfl)).below hW)
      clear hl hr hr' hy hcy
      have l1 : (1 : Int) ≤ (n : Int) := by omega
      have l0 : 0 < n := by omega
      have l2 : (n : Int) ≤ (c : Int) := by omega
      go_enter Try.func44, Try.ntmps44
      go_wp2
      have c0 : w.drew.cell? ad = some (.int .u8 (y.toNat : Int)) := KA.out _ ((Below.refl _ _).drew)
      have B0 := Lib.hid (Below.refl w.heap.size w).drew
      go_region_held3 (fun W => W.cell? ad = some (.int .u8 (y.toNat : Int))) (first | with_reducible exact c0 | with_reducible exact c1 | with_reducible exact c2 | fail)
        (first
          | (go_at_call 41; refine (KN.out _ _ _ (HB.out _ B0.out)).mono ?_; rintro e w1 ⟨g, rfl, r1, hg, b1⟩; have B1 := Lib.hid (B0.out.trans b1); have R1 := Lib.hid r1; have hg := Lib.hid hg; have c1 := KA.out _ B1.out; clear r1 b1)
          | (go_at_call 43; refine (KT.out _ _ _ R1.out).mono ?_; rintro e w2 ⟨rfl, r2, b2⟩; have B2 := Lib.hid (B1.out.trans (b2.mono hg.out)); have c2 := KA.out _ B2.out; clear r2 b2)
          | fail)
      all_goals
        go_wp2
        go_ret2
        exact ⟨rfl, B2.out⟩
end Go.Proofs.Ytlohhbpncbnipaa
end
