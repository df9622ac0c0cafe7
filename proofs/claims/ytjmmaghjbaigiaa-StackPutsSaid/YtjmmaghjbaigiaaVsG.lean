/- Stacks: Prune. -/
import Derived.Test.YtjmmaghjbaigiaaVsF
namespace Go.Proofs.Ytjmmaghjbaigiaa
open Go.RowKit
set_option linter.unusedVariables false
set_option linter.unusedSimpArgs false
/-- A box that holds a number. -/
structure IBox (W : World) (q : Nat) (z : Int) : Prop where
  c0 : W.cell? ⟨q, 0, none⟩ = some (.int .i64 z)
  f0 : W.frozen? ⟨q, 0, none⟩ = false
theorem IBox.new (w : World) (z : Int) (t : TypeId) : IBox (w.alloc (.cells #[.int .i64 z] t)) w.heap.size z := by constructor <;> simp
theorem IBox.lt {W : World} {q : Nat} {z : Int} (h : IBox W q z) : q < W.heap.size := lt_of_cell h.c0
theorem IBox.on {W W' : World} {q : Nat} {z : Int} (h : IBox W q z) (hb : Below W.heap.size W W') : IBox W' q z := ⟨(hb.cell (p := ⟨q, 0, none⟩) h.lt).trans h.c0, (hb.frozen (p := ⟨q, 0, none⟩) h.lt).trans h.f0⟩
theorem IBox.drew {W : World} {q : Nat} {z : Int} (h : IBox W q z) : IBox W.drew q z := ⟨h.c0, h.f0⟩
theorem IBox.put {W : World} {q : Nat} {z : Int} (h : IBox W q z) (y : Int) : IBox (W.setCell ⟨q, 0, none⟩ (.int .i64 y)) q y := by constructor <;> simp [World.cell?_setCell_same', h.c0, h.f0]
theorem IBox.off {W : World} {p q : Nat} {z : Int} (h : IBox W q z) (hp : p ≠ q) (i : Nat) (u : Value) : IBox (W.setCell ⟨p, i, none⟩ u) q z := ⟨by rw [World.cell?_setCell_other _ _ _ _ (fun e => hp (by injection e))]; exact h.c0, by simp [h.f0]⟩
theorem StBox.off {W : World} {p q : Nat} {k0 : ByteArray} {A0 : Option Addr} {n0 c0 : Nat} (h : StBox W q k0 A0 n0 c0) (hp : p ≠ q) (i : Nat) (u : Value) : StBox (W.setCell ⟨p, i, none⟩ u) q k0 A0 n0 c0 :=
  ⟨by rw [World.cell?_setCell_other _ _ _ _ (fun e => hp (by injection e))]; exact h.c0, by rw [World.cell?_setCell_other _ _ _ _ (fun e => hp (by injection e))]; exact h.c1, by simp [h.f0], by simp [h.f1]⟩
/-- Prune's memory: the stack, the time, the result, the last one's place. -/
structure PrW (w : World) (key : ByteArray) (A : Option Addr) (n c : Nat) (t : Int) (W : World) (z : Int) : Prop where
  b : Below w.heap.size w W
  s : StBox W w.heap.size key A n c
  t : IBox W (w.heap.size + 1) t
  r : StBox W (w.heap.size + 2) ⟨#[]⟩ none 0 0
  l : IBox W (w.heap.size + 3) z
theorem PrW.on {w : World} {key : ByteArray} {A : Option Addr} {n c : Nat} {t : Int} {W W' : World} {z : Int} (h : PrW w key A n c t W z) (hb : Below W.heap.size W W') : PrW w key A n c t W' z := ⟨h.b.trans (hb.mono h.b.size), h.s.on hb, h.t.on hb, h.r.on hb, h.l.on hb⟩
theorem PrW.drew {w : World} {key : ByteArray} {A : Option Addr} {n c : Nat} {t : Int} {W : World} {z : Int} (h : PrW w key A n c t W z) : PrW w key A n c t W.drew z := ⟨h.b.drew, h.s.drew, h.t.drew, h.r.drew, h.l.drew⟩
theorem PrW.put {w : World} {key : ByteArray} {A : Option Addr} {n c : Nat} {t : Int} {W : World} {z : Int} (h : PrW w key A n c t W z) (y : Int) : PrW w key A n c t (W.setCell ⟨w.heap.size + 3, 0, none⟩ (.int .i64 y)) y :=
  ⟨h.b.setCell (p := ⟨w.heap.size + 3, 0, none⟩) (by simp) _, h.s.off (by omega) _ _, h.t.off (by omega) _ _, h.r.off (by omega) _ _, h.l.put y⟩
theorem PrW.new (w : World) (key : ByteArray) (A : Option Addr) (n c : Nat) (t z : Int) : PrW w key A n c t ((((w.alloc (.cells #[.string key, .slice A n c] 24)).alloc (.cells #[.int .i64 t] 3)).alloc (.cells #[.string ⟨#[]⟩, .slice none 0 0] 24)).alloc (.cells #[.int .i64 z] 3)) z := by
  have b1 := below1 w (.cells #[.string key, .slice A n c] 24)
  have s1 := heap_size_alloc w (.cells #[.string key, .slice A n c] 24)
  have x1 := StBox.new w key A n c 24
  generalize w.alloc (.cells #[.string key, .slice A n c] 24) = w1 at *
  have b2 := below1 w1 (.cells #[.int .i64 t] 3)
  have s2 := heap_size_alloc w1 (.cells #[.int .i64 t] 3)
  have x2 := IBox.new w1 t 3
  generalize w1.alloc (.cells #[.int .i64 t] 3) = w2 at *
  have b3 := below1 w2 (.cells #[.string ⟨#[]⟩, .slice none 0 0] 24)
  have s3 := heap_size_alloc w2 (.cells #[.string ⟨#[]⟩, .slice none 0 0] 24)
  have x3 := StBox.new w2 ⟨#[]⟩ none 0 0 24
  generalize w2.alloc (.cells #[.string ⟨#[]⟩, .slice none 0 0] 24) = w3 at *
  have b4 := below1 w3 (.cells #[.int .i64 z] 3)
  have s4 := heap_size_alloc w3 (.cells #[.int .i64 z] 3)
  have x4 := IBox.new w3 z 3
  generalize w3.alloc (.cells #[.int .i64 z] 3) = w4 at *
  have e1 : w1.heap.size = w.heap.size + 1 := s1
  have e2 : w2.heap.size = w.heap.size + 2 := by omega
  have e3 : w3.heap.size = w.heap.size + 3 := by omega
  rw [e1] at x2
  rw [e2] at x3
  rw [e3] at x4
  have b34 : Below w2.heap.size w2 w4 := b3.trans (b4.mono (by omega))
  have b24 : Below w1.heap.size w1 w4 := b2.trans (b34.mono (by omega))
  exact ⟨b1.trans (b24.mono (by omega)), x1.on b24, x2.on b34, x3.on b4, x4⟩
set_option maxHeartbeats 4000000 in
set_option maxRecDepth 100000 in
theorem vsPrune_any (key : ByteArray) (A : Option Addr) (n c : Nat) (l : List Vn) (t : Int) (w : World) (hl : l.length = n) (hn : n ≤ 1000) (hr : RG KV w A l) :
    Calls Try.prog 28 #[.agg #[.string key, .slice A n c], .int .i64 t] w fun e w' => ∃ v', e = .returned (.agg #[.string key, v']) ∧ OG KV 66 w.heap.size w' v' (vsPrune l t) ∧ Below w.heap.size w w' := by
  have hmf : ∀ (fn : Fn) (first cap : Array Value) (w : World), (Instr.makeFunc fn first cap).run Try.prog w = .ok (.func fn first cap) w := fun _ _ _ _ => rfl
  have KW := Lib.hid (fun (W : World) (h : PrW w key A n c t W ((vsLast (vsOld t) l : Nat) - 1)) => vsWithoutP A n c l (vsGoes t (vsLast (vsOld t) l)) ⟨w.heap.size + 1, 0, none⟩ ⟨w.heap.size + 3, 0, none⟩ W hl hn (hr.below h.b) (fun W' i x _ hb => vsPruneFn_any i (vsLast (vsOld t) l) t x ⟨w.heap.size + 1, 0, none⟩ ⟨w.heap.size + 3, 0, none⟩ W' (h.on hb).t.c0 (h.on hb).l.c0))
  have HE : Hid (vsPrune l t = vsKeep (vsGoes t (vsLast (vsOld t) l)) 0 l) := Lib.hid rfl
  rw [HE.out]
  generalize vsKeep (vsGoes t (vsLast (vsOld t) l)) 0 l = L at KW ⊢
  have P0 := Lib.hid (PrW.new w key A n c t (-1))
  have HL := Lib.hid hl
  have HR := Lib.hid hr
  clear HE hl hr
  go_enter Try.func28, Try.ntmps28
  go_upto_region 2 with fail
  generalize (((w.alloc (.cells #[.string key, .slice A n c] 24)).alloc (.cells #[.int .i64 t] 3)).alloc (.cells #[.string ⟨#[]⟩, .slice none 0 0] 24)).alloc (.cells #[.int .i64 (-1)] 3) = W0 at *
  have s1 := P0.out.s.c1
  go_wp2
  go_loopw [6, 7, 11] (fun _ _ i wr => ∃ k : Nat, k ≤ n ∧ i = .int .i64 (k : Int) ∧ PrW w key A n c t wr ((vsLast (vsOld t) (l.take k) : Nat) - 1)) (fun _ _ i _ => n - (intOf i).toNat)
  case atStart => exact ⟨0, Nat.zero_le _, rfl, P0.out⟩
  case round =>
    clear s1 P0
    obtain ⟨k, hk, rfl, hp⟩ := hrel
    by_cases hlt : k < n
    · obtain ⟨x, hx⟩ : ∃ x, l[k]? = some x := ⟨l[k]'(by rw [HL.out]; exact hlt), List.getElem?_eq_getElem _⟩
      obtain ⟨ad, rfl, hv⟩ := (HR.out.below hp.b).vn hx
      have c0 := hv.d0; have c1 := hv.d1; have c2 := hv.d2; have c3 := hv.d3
      have HS : vsLast (vsOld t) (l.take (k + 1)) = if vsOld t x then k + 1 else vsLast (vsOld t) (l.take k) := by
        rw [List.take_add_one, hx, Option.toList_some, vsLast_snoc, List.length_take, Nat.min_eq_left (by rw [HL.out]; omega)]
      have KP := Lib.hid (fun W => vsOld_any t x W)
      unfold Vn.v at KP
      have HP := Lib.hid (hp.on (below1 wr (.cells #[.int .i64 x.txn, .int .i64 x.ts, .bool x.gone, .string x.val] 66)))
      have t0 := HP.out.t.c0
      clear hv hx hp
      cases ho : vsOld t x with
      | true =>
        rw [ho] at KP HS
        simp only [if_true] at HS
        have HSS := Lib.hid HS
        clear ho HS
        go_wp2_with (go_at_call 65; refine (KP.out _).mono ?_; rintro e w1 ⟨rfl, b1⟩; have P1 := Lib.hid (HP.out.on b1); have y0 := P1.out.l.c0; have y1 := P1.out.l.f0; clear b1)
        go_round
        case rel => exact ⟨k + 1, by omega, by go_num, by rw [HSS.out]; have := P1.out.put (k : Int); simpa using this⟩
        case measure => simp [intOf]; omega
      | false =>
        rw [ho] at KP HS
        simp only [Bool.false_eq_true, if_false] at HS
        have HSS := Lib.hid HS
        clear ho HS
        go_wp2_with (go_at_call 65; refine (KP.out _).mono ?_; rintro e w1 ⟨rfl, b1⟩; have P1 := Lib.hid (HP.out.on b1); clear b1)
        go_round
        case rel => exact ⟨k + 1, by omega, by go_num, by rw [HSS.out]; exact P1.out⟩
        case measure => simp [intOf]; omega
    · obtain rfl : k = n := by omega
      rw [List.take_of_length_le (by rw [HL.out]; exact Nat.le_refl _)] at hp
      have HP := Lib.hid hp
      clear hp
      have s0 := HP.out.drew.s.c0
      have s1 := HP.out.drew.s.c1
      go_upto_region 8 with fail
      go_region_held3 (fun W => W.cell? ⟨w.heap.size, 0, none⟩ = some (.string key) ∧ W.cell? ⟨w.heap.size, 1, none⟩ = some (.slice A k c)) (first | with_reducible exact ⟨s0, s1⟩ | with_reducible exact ⟨t0, t1⟩ | fail)
        (first
          | (go_at_call 66; refine (KW.out _ HP.out.drew).mono ?_; rintro e w3 ⟨v3, rfl, o3, b3⟩; obtain ⟨A3, c3, rfl, h31, h32, h33, h34⟩ := o3.rg; have O3 := Lib.hid (o3.setSt HP.out.r.lt key (.slice A3 L.length c3)); have P2 := Lib.hid (HP.out.drew.on b3); have B3 := Lib.hid (belowSetSt (q := w.heap.size + 2) P2.out.b (by omega) key (.slice A3 L.length c3)); have P3 := Lib.hid (P2.out.r.put key A3 L.length c3); have s0 := P2.out.s.c0; have s1 := P2.out.s.c1; have t0 := (P2.out.s.offSt (show w.heap.size + 2 ≠ w.heap.size from by omega) key (.slice A3 L.length c3)).c0; have t1 := (P2.out.s.offSt (show w.heap.size + 2 ≠ w.heap.size from by omega) key (.slice A3 L.length c3)).c1; unfold setSt at t0 t1; have r0 := P2.out.r.c0; have r1 := P2.out.r.c1; have g0 := P2.out.r.f0; have g1 := P2.out.r.f1; clear o3 b3 h31 h32 h33 h34)
          | fail)
      all_goals
        go_wp2
        have z0 := P3.out.c0; have z1 := P3.out.c1
        have o4 := O3.out; have b4 := B3.out
        unfold setSt at z0 z1 o4 b4
        refine bodyPost_ret (v := .agg #[.string key, .slice A3 L.length c3]) (by simp [results, Try.results28, go_sem, z0, z1]) rfl ⟨_, rfl, o4.lift HP.out.b.size, b4⟩
end Go.Proofs.Ytjmmaghjbaigiaa
