/- Joined: Qr Qs. -/
import Derived.Test.YtegjeijiekggdaaGreatDoorM25
section
/- The document's Put. -/
namespace Go.Proofs.YtegjeijiekggdaaGreatDoor
open Go.RowKit
set_option linter.unusedVariables false
set_option linter.unusedSimpArgs false
theorem runs_turn {s a n f : Nat} {L : List UInt64} {on : Bool} (hs : s ≤ 4096) (ha : a ≤ n) (hn : n < s) (hb : ∀ i, a ≤ i → i < n → bitL L i = on) (ht : bitL L n = !on) (hf : runM s L a on ≤ f) : ∃ f', runM s L n (!on) ≤ f' ∧ layR (runsF s L f a on) = putSmall (n - a) ++ layR (runsF s L f' n (!on)) ∧ (runsF s L f a on) = ⟨min (n - a) 4096, capN _⟩ :: runsF s L f' n (!on) := by
  have hlt : a < s := by omega
  have hE : seekR s L a (!on) = a + (n - a) := seekR_is hlt (by omega) (fun i h1 h2 => hb i h1 (by omega)) (fun _ => by rw [show a + (n - a) = n by omega]; exact ht)
  rw [show a + (n - a) = n by omega] at hE
  have hm := runM_step (L := L) (on := on) hlt
  rw [hE] at hm
  obtain ⟨f', rfl⟩ : ∃ f', f = f' + 1 := ⟨f - 1, by omega⟩
  have e : runsF s L (f' + 1) a on = ⟨min (n - a) 4096, capN _⟩ :: runsF s L f' n (!on) := by rw [runsF, if_pos hlt]; simp only [hE]
  refine ⟨f', by omega, ?_, e⟩
  rw [e]
  show putSmall (min (n - a) 4096) ++ layR (runsF s L f' n (!on)) = _
  rw [show min (n - a) 4096 = n - a by omega]
theorem runs_last {s a f : Nat} {L : List UInt64} {on : Bool} (hs : s ≤ 4096) (ha : a < s) (hb : ∀ i, a ≤ i → i < s → bitL L i = on) (hf : runM s L a on ≤ f) : layR (runsF s L f a on) = putSmall (s - a) := by
  have hE : seekR s L a (!on) = a + (s - a) := seekR_is ha (by omega) (fun i h1 h2 => hb i h1 (by omega)) (fun h => by omega)
  rw [show a + (s - a) = s by omega] at hE
  have hm := runM_step (L := L) (on := on) ha
  obtain ⟨f', rfl⟩ : ∃ f', f = f' + 1 := ⟨f - 1, by omega⟩
  have e2 : runsF s L f' s (!on) = [] := by
    cases f' with
    | zero => rfl
    | succ f' => rw [runsF, if_neg (Nat.lt_irrefl _)]
  have e : runsF s L (f' + 1) a on = ⟨min (s - a) 4096, capN _⟩ :: [] := by rw [runsF, if_pos ha]; simp only [hE, e2]
  rw [e]
  show putSmall (min (s - a) 4096) ++ [] = _
  rw [show min (s - a) 4096 = s - a by omega, List.append_nil]
theorem runs_over {s f : Nat} {L : List UInt64} {on : Bool} : runsF s L f s on = [] := by
  cases f with
  | zero => rfl
  | succ f => rw [runsF, if_neg (Nat.lt_irrefl _)]
theorem two_bools {a b : Bool} (h : ¬a = b) : (a = true ∧ b = false ∨ a = false ∧ b = true) ∧ a = !b := by cases a <;> cases b <;> simp_all
end Go.Proofs.YtegjeijiekggdaaGreatDoor
end
section
/- The document's reader of numbers: Small. -/
namespace Go.Proofs.YtegjeijiekggdaaGreatDoor
open Go.RowKit
set_option linter.unusedVariables false
set_option linter.unusedSimpArgs false
theorem rd_err {l : List UInt8} {f : Nat} (h : f ≠ 0) : rdV l f = 0 ∧ rdL l f = l ∧ rdF l f = f := by
  unfold rdV rdL rdF
  rw [if_neg (fun x => h x.1), if_neg (fun x => h x.1), if_neg h]
  exact ⟨rfl, rfl, rfl⟩
theorem rd_form {l : List UInt8} (h : (getSmall l).2.2 ≠ 0) : rdV l 0 = 0 ∧ rdL l 0 = l ∧ rdF l 0 = (getSmall l).2.2 := by
  unfold rdV rdL rdF
  rw [if_neg (fun x => h x.2.1), if_neg (fun x => h x.2.1), if_pos rfl, if_neg h]
  exact ⟨rfl, rfl, rfl⟩
theorem rd_range {l : List UInt8} (h : (getSmall l).2.2 = 0) (hv : 1099511627776 < (getSmall l).1) : rdV l 0 = 0 ∧ rdL l 0 = l ∧ rdF l 0 = 9 := by
  unfold rdV rdL rdF
  rw [if_neg (fun x => by omega), if_neg (fun x => by omega), if_pos rfl, if_pos h, if_neg (by omega)]
  exact ⟨rfl, rfl, rfl⟩
theorem rd_good {l : List UInt8} (h : (getSmall l).2.2 = 0) (hv : (getSmall l).1 ≤ 1099511627776) : rdV l 0 = (getSmall l).1 ∧ rdL l 0 = l.drop (getSmall l).2.1 ∧ rdF l 0 = 0 := by
  unfold rdV rdL rdF
  rw [if_pos ⟨rfl, h, hv⟩, if_pos ⟨rfl, h, hv⟩, if_pos rfl, if_pos h, if_pos hv]
  exact ⟨rfl, rfl, rfl⟩
theorem frozen_of {w : World} {b : Nat} {cs : Array Value} {t : TypeId} (h : w.heap[b]? = some (.cells cs t (0, 0))) (i : Nat) : w.frozen? ⟨b, i, none⟩ = false := by simp [World.frozen?, h]
theorem RB.past {w : World} {A : Option Addr} {l : List UInt8} (h : RB w A l) {n c m : Nat} (hl : l.length = n) (hc : n ≤ c) (hm : m ≤ n) (B : Option Addr) (hB : B = A ∧ c = m ∨ B = A.map (fun x => x.add m)) : RB w B (l.drop m) := by
  rcases hB with ⟨rfl, e⟩ | rfl
  · exact .inl (by rw [List.drop_eq_nil_iff]; omega)
  · rcases A with _ | a
    · rcases h with h | ⟨_, h, _⟩
      · subst h; exact .inl (by simp)
      · cases h
    · exact h.drop m
theorem bAlloc' {w W : World} (h : Below w.heap.size w W) (o : Obj) : Below w.heap.size w (W.alloc o) := h.alloc h.size o
set_option maxHeartbeats 4000000 in
set_option maxRecDepth 100000 in
theorem refSmall_any (A : Option Addr) (n c f : Nat) (l : List UInt8) (w : World) (hN : n ≤ 70368744177664) (hl : l.length = n) (hc : n ≤ c) (hf : f ≤ 100) (hr : RB w A l) :
    Calls Tryz.prog 174 #[.agg #[.slice A n c, .int .i64 (f : Int)]] w fun e w' => ∃ A' n' c', e = .returned (.tuple #[.agg #[.slice A' n' c', .int .i64 (rdF l f : Int)], .int .i64 (rdV l f : Int)]) ∧ (rdL l f).length = n' ∧ n' ≤ c' ∧ RB w' A' (rdL l f) ∧ Below w.heap.size w w' := by
  have BX := Lib.hid (fun W h => bx4 w (.slice A n c) (.int .i64 (f : Int)) (.slice none 0 0) (.int .i64 0) 229 229 (W := W) h)
  have B0 := Lib.hid (bAlloc' (bAlloc' (Below.refl w.heap.size w) (.cells #[.slice A n c, .int .i64 (f : Int)] 229)) (.cells #[.slice none 0 0, .int .i64 0] 229))
  have HR := Lib.hid (fun W (hb : Below w.heap.size w W) => hr.below hb)
  have HZ : Hid (((w.alloc (.cells #[.slice A n c, .int .i64 (f : Int)] 229)).alloc (.cells #[.slice none 0 0, .int .i64 0] 229)).heap.size = w.heap.size + 2) := Lib.hid (by rw [heap_size_alloc, heap_size_alloc])
  have HX : Hid (((w.alloc (.cells #[.slice A n c, .int .i64 (f : Int)] 229)).alloc (.cells #[.slice none 0 0, .int .i64 0] 229)).heap[w.heap.size + 1]? = some (.cells #[.slice none 0 0, .int .i64 0] 229 (0, 0))) := Lib.hid (by
    have h := heap_alloc_last (w.alloc (.cells #[.slice A n c, .int .i64 (f : Int)] 229)) (.cells #[.slice none 0 0, .int .i64 0] 229)
    rw [heap_size_alloc] at h
    exact h)
  obtain ⟨⟨x0, x1⟩, y0, y1⟩ := BX.out _ (Below.refl _ _)
  have f0 := frozen_of HX.out 0
  have f1 := frozen_of HX.out 1
  by_cases h0 : f = 0
  · subst h0
    have KG := Lib.hid (fun W (h : RB W A l) => refGetSmall_any A n c l W hN hl hc h)
    have hlt := getSmall_lt l
    have hus := getSmall_use l
    have her := getSmall_err l
    by_cases he : (getSmall l).2.2 = 0
    · by_cases hv : (getSmall l).1 ≤ 1099511627776
      · obtain ⟨r1, r2, r3⟩ := rd_good he hv
        rw [r1, r2, r3]
        have HPA := Lib.hid (fun (B : Option Addr) W (h : Below w.heap.size w W) hB => (HR.out W h).past hl hc (m := (getSmall l).2.1) (by omega) B hB)
        have HLD : Hid ((l.drop (getSmall l).2.1).length = n - (getSmall l).2.1) := Lib.hid (by rw [List.length_drop, hl])
        rw [he] at KG
        generalize l.drop (getSmall l).2.1 = R at *
        generalize (getSmall l).1 = v at *
        generalize (getSmall l).2.1 = m at *
        have hd : decide ((1099511627776 : Int) < (v : Int)) = false := by simp; omega
        have hw : IntKind.i64.wrap (v : Int) = (v : Int) := by rw [IntKind.wrap_i64]; omega
        have hmn : m ≤ n := by omega
        have hmc : m ≤ c := by omega
        have hcn : n ≤ c := hc
        clear hr hl hN her hus r1 r2 r3 he hc hlt
        by_cases hcm : c = m
        · obtain ⟨c0, hc0⟩ : ∃ c0, c0 = c := ⟨_, rfl⟩
          have e0 : m = c := hcm.symm
          subst e0
          have HNM := Lib.hid (show n - m = 0 from by omega)
          go_enter Tryz.func174, Tryz.ntmps174
          go_wp2_with fail
          generalize (w.alloc (.cells #[.slice A n m, .int .i64 ((0 : Nat) : Int)] 229)).alloc (.cells #[.slice none 0 0, .int .i64 0] 229) = W0 at *
          refine (KG.out W0 (HR.out _ B0.out)).mono ?_
          rintro e w1 ⟨rfl, q, rfl⟩
          have V1 := Lib.hid (bdrewN (Below.refl W0.heap.size W0) q)
          obtain ⟨⟨z0, z1⟩, z2, z3⟩ := BX.out _ V1.out
          have HX1 := (V1.out.block (w.heap.size + 1) (by rw [HZ.out]; omega)).trans HX.out
          have f2 := frozen_of HX1 0
          have f3 := frozen_of HX1 1
          have B1 := Lib.hid (B0.out.trans (V1.out.mono B0.out.size))
          have RB1 := Lib.hid (HR.out _ B1.out)
          clear x0 x1 y0 y1 f0 f1 HX1
          generalize W0.drewN q = W1 at *
          go_wp2
          refine bodyPost_ret (v := .tuple #[.agg #[.slice A 0 0, .int .i64 0], .int .i64 (v : Int)]) (by simp [results, Tryz.results174, go_sem, z2, z3]) rfl ⟨_, _, _, rfl, by rw [HLD.out, HNM.out], Nat.le_refl _, HPA.out A _ (belowC B1.out (Nat.le_succ _) _ _) (.inl ⟨rfl, trivial⟩), belowC B1.out (Nat.le_succ _) _ _⟩
        · go_enter Tryz.func174, Tryz.ntmps174
          go_wp2_with fail
          generalize (w.alloc (.cells #[.slice A n c, .int .i64 ((0 : Nat) : Int)] 229)).alloc (.cells #[.slice none 0 0, .int .i64 0] 229) = W0 at *
          refine (KG.out W0 (HR.out _ B0.out)).mono ?_
          rintro e w1 ⟨rfl, q, rfl⟩
          have V1 := Lib.hid (bdrewN (Below.refl W0.heap.size W0) q)
          obtain ⟨⟨z0, z1⟩, z2, z3⟩ := BX.out _ V1.out
          have HX1 := (V1.out.block (w.heap.size + 1) (by rw [HZ.out]; omega)).trans HX.out
          have f2 := frozen_of HX1 0
          have f3 := frozen_of HX1 1
          have B1 := Lib.hid (B0.out.trans (V1.out.mono B0.out.size))
          have RB1 := Lib.hid (HR.out _ B1.out)
          clear x0 x1 y0 y1 f0 f1 HX1
          generalize W0.drewN q = W1 at *
          go_wp2
          refine bodyPost_ret (v := .tuple #[.agg #[.slice (Option.map (fun x => x.add m) A) (n - m) (c - m), .int .i64 0], .int .i64 (v : Int)]) (by simp [results, Tryz.results174, go_sem, z2, z3]) rfl ⟨_, _, _, rfl, HLD.out, by omega, HPA.out _ _ (belowC B1.out (Nat.le_succ _) _ _) (.inr rfl), belowC B1.out (Nat.le_succ _) _ _⟩
      · obtain ⟨r1, r2, r3⟩ := rd_range he (by omega)
        rw [r1, r2, r3]
        rw [he] at KG
        have hd : (1099511627776 : Int) < ((getSmall l).1 : Int) := by omega
        generalize (getSmall l).1 = v at *
        generalize (getSmall l).2.1 = m at *
        have HL := Lib.hid hl
        have HC := Lib.hid hc
        clear hr hl hN her hus r1 r2 r3 he hlt hv
        go_enter Tryz.func174, Tryz.ntmps174
        go_wp2_with fail
        generalize (w.alloc (.cells #[.slice A n c, .int .i64 ((0 : Nat) : Int)] 229)).alloc (.cells #[.slice none 0 0, .int .i64 0] 229) = W0 at *
        refine (KG.out W0 (HR.out _ B0.out)).mono ?_
        rintro e w1 ⟨rfl, q, rfl⟩
        have V1 := Lib.hid (bdrewN (Below.refl W0.heap.size W0) q)
        obtain ⟨⟨z0, z1⟩, z2, z3⟩ := BX.out _ V1.out
        have HX1 := (V1.out.block (w.heap.size + 1) (by rw [HZ.out]; omega)).trans HX.out
        have f2 := frozen_of HX1 0
        have f3 := frozen_of HX1 1
        have B1 := Lib.hid (B0.out.trans (V1.out.mono B0.out.size))
        have RB1 := Lib.hid (HR.out _ B1.out)
        clear x0 x1 y0 y1 f0 f1 HX1
        generalize W0.drewN q = W1 at *
        go_wp2
        refine bodyPost_ret (v := .tuple #[.agg #[.slice A n c, .int .i64 9], .int .i64 0]) (by simp [results, Tryz.results174, go_sem, z2, z3]) rfl ⟨_, _, _, rfl, HL.out, HC.out, HR.out _ (belowC B1.out (Nat.le_succ _) _ _), belowC B1.out (Nat.le_succ _) _ _⟩
    · obtain ⟨r1, r2, r3⟩ := rd_form he
      rw [r1, r2, r3]
      have hd : (((getSmall l).2.2 : Int) != 0) = true := by simp; omega
      generalize (getSmall l).1 = v at *
      generalize (getSmall l).2.1 = m at *
      generalize (getSmall l).2.2 = er at *
      have HL := Lib.hid hl
      have HC := Lib.hid hc
      clear hr hl hN hus r1 r2 r3 he hlt
      go_enter Tryz.func174, Tryz.ntmps174
      go_wp2_with fail
      generalize (w.alloc (.cells #[.slice A n c, .int .i64 ((0 : Nat) : Int)] 229)).alloc (.cells #[.slice none 0 0, .int .i64 0] 229) = W0 at *
      refine (KG.out W0 (HR.out _ B0.out)).mono ?_
      rintro e w1 ⟨rfl, q, rfl⟩
      have V1 := Lib.hid (bdrewN (Below.refl W0.heap.size W0) q)
      obtain ⟨⟨z0, z1⟩, z2, z3⟩ := BX.out _ V1.out
      have HX1 := (V1.out.block (w.heap.size + 1) (by rw [HZ.out]; omega)).trans HX.out
      have f2 := frozen_of HX1 0
      have f3 := frozen_of HX1 1
      have B1 := Lib.hid (B0.out.trans (V1.out.mono B0.out.size))
      have RB1 := Lib.hid (HR.out _ B1.out)
      clear x0 x1 y0 y1 f0 f1 HX1
      generalize W0.drewN q = W1 at *
      go_wp2
      refine bodyPost_ret (v := .tuple #[.agg #[.slice A n c, .int .i64 (er : Int)], .int .i64 0]) (by simp [results, Tryz.results174, go_sem, z2, z3]) rfl ⟨_, _, _, rfl, HL.out, HC.out, HR.out _ (belowC B1.out (Nat.le_succ _) _ _), belowC B1.out (Nat.le_succ _) _ _⟩
  · obtain ⟨r1, r2, r3⟩ := rd_err (l := l) h0
    rw [r1, r2, r3]
    have hd : ((f : Int) != 0) = true := by simp; omega
    have HL := Lib.hid hl
    have HC := Lib.hid hc
    clear r1 r2 r3 hN hl hr h0
    go_enter Tryz.func174, Tryz.ntmps174
    go_wp2
    refine bodyPost_ret (v := .tuple #[.agg #[.slice A n c, .int .i64 (f : Int)], .int .i64 0]) (by simp [results, Tryz.results174, go_sem]) rfl ⟨A, n, c, rfl, HL.out, HC.out, HR.out _ (bAlloc' (bAlloc' (Below.refl w.heap.size w) _) _), bAlloc' (bAlloc' (Below.refl w.heap.size w) _) _⟩
end Go.Proofs.YtegjeijiekggdaaGreatDoor
end
