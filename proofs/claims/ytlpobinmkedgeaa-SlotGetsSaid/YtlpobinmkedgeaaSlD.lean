/- Slots: a sector is laid. -/
import Derived.Test.YtlpobinmkedgeaaSlB
namespace Go.Proofs.Ytlpobinmkedgeaa
open Go.RowKit
set_option linter.unusedVariables false
set_option linter.unusedSimpArgs false
theorem wpList_make_room_B {w : World} {ops : Array Oper} {rest : List Oper} {o : Oper} {a : Act} {Q : Exit → Act → World → Prop} (hgd : o.guard = none) (s x : Operand)
    (ho : o.op = Op.makeSlice 22 s x) (base n : Nat) (C : Int) (hs : a.eval s = .int .i64 0) (hx : a.eval x = .int .i64 C) (hC : C = (n : Int)) (hn : n ≤ 70368744177664) (hbase : base ≤ w.heap.size)
    (h : ∀ w', OB base w' (.slice (some ⟨w.heap.size, 0, none⟩) 0 n) [] → Below base w w' → wpList Try.prog ops Q rest (a.put o.dst (.slice (some ⟨w.heap.size, 0, none⟩) 0 n)) w') : wpList Try.prog ops Q (o :: rest) a w := by
  obtain ⟨i0, hi, hz0, hz1, hz2⟩ := info_parts Try.info5
  refine wpList_make_own w hgd s x 22 ho base 5 i0 _ 1 Try.underlying22 hi hz0 hz1 .i64 .i64 C n hs hx hC (by rw [hz2]; omega) (by simp only [maxLen]; omega) hbase ?_
  intro w' h1 h2
  refine h w' h1 ?_
  exact (Below.refl base w).grown h2 hbase fun k hk => by cases hk

set_option maxHeartbeats 1000000 in
set_option maxRecDepth 100000 in
theorem lay_any (s : List UInt8) (i : Nat) (A : Option Addr) (n c : Nat) (p : List UInt8) (w : World) (hs : s.length = 8) (hi : i < 256) (hp : p.length = n) (hn : n ≤ 1000000) (hr : RB w A p) :
    Calls Try.prog 19 #[stV s, .int .i64 (i : Int), .slice A n c] w fun e w' => ∃ v, e = .returned v ∧ OB w.heap.size w' v (s ++ [UInt8.ofNat i] ++ p ++ s) ∧ Below w.heap.size w w' := by
  have HS := Lib.hid hs
  have HP := Lib.hid hp
  have A1 : Hid (Arr (w.alloc (.cells (cellsB s).toArray 54)) w.heap.size 54 s) := Lib.hid (heap_alloc_last w _)
  have B1 := Lib.hid ((Below.refl _ w).alloc (Nat.le_refl _) (.cells (cellsB s).toArray 54))
  have HZ := Lib.hid (heap_size_alloc w (.cells (cellsB s).toArray 54))
  have R1 := Lib.hid (hr.alloc (.cells (cellsB s).toArray 54))
  have hmod : (i : Int) % 256 = (i : Int) := by omega
  have HI := Lib.hid (show (i : Int) = ((UInt8.ofNat i).toNat : Int) from by rw [toNat_of]; omega)
  unfold stV
  clear hs hp hr
  go_enter Try.func19, Try.ntmps19
  go_upto_region 1 with (fail)
  generalize w.alloc (.cells (cellsB s).toArray 54) = W at *
  go_upto_region 2 with (at_make; refine wpList_make_room_B rfl _ _ rfl W.heap.size 256 _ rfl rfl rfl (by omega) (Nat.le_refl _) ?_; intro w1 ho1 hb1)
  have g0 : w.heap.size < W.heap.size := by have := HZ.out; omega
  have HA := Lib.hid (fun w' (h : Below W.heap.size W w') => (A1.out.below h g0))
  have HR := Lib.hid (fun w' (h : Below W.heap.size W w') => (R1.out.below h))
  have HV := Lib.hid (fun w' (h : Below W.heap.size W w') => (B1.out.trans (h.mono (Nat.le_of_lt g0))))
  have G1 := hb1.size
  clear A1 R1 B1
  go_upto_region 3 with (at_builtin; refine wpList_append_B rfl (.tmp 9) (.tmp 10) rfl W.heap.size _ [] rfl ho1 (some ⟨w.heap.size, 0, none⟩) 8 8 s rfl HS.out (HA.out _ hb1).reads (by simp) G1 ?_; intro v3 w3 ho3 hb3)
  have D3 := Lib.hid (hb1.trans hb3)
  have G3 := D3.out.size
  clear hb1 hb3 ho1 G1
  have O3 : OB W.heap.size w3 v3 s := ho3
  clear ho3
  go_upto_region 4 with (at_builtin; refine wpList_append_B rfl (.tmp 12) (.tmp 15) rfl W.heap.size _ s rfl (O3.alloc _) _ 1 1 [UInt8.ofNat i] rfl rfl (RB.one _ _ _ HI.out) (by rw [HS.out]; omega) (by simp; omega) ?_; intro v4 w4 ho4 hb4; have D4 := Lib.hid ((D3.out.alloc G3 _).trans hb4); clear hb4)
  have G4 := D4.out.size
  have O4 := Lib.hid ho4
  have L4 := Lib.hid (show (s ++ [UInt8.ofNat i]).length = 9 from by simp [HS.out])
  clear ho4 O3 G3 D3
  go_upto_region 5 with (at_builtin; refine wpList_append_B rfl (.tmp 17) (.tmp 18) rfl W.heap.size _ _ rfl O4.out A n c p rfl HP.out (HR.out _ D4.out) (by rw [L4.out]; omega) G4 ?_; intro v5 w5 ho5 hb5; have D5 := Lib.hid (D4.out.trans hb5); clear hb5)
  have G5 := D5.out.size
  have O5 := Lib.hid ho5
  have L5 := Lib.hid (show (s ++ [UInt8.ofNat i] ++ p).length = 9 + n from by rw [List.length_append, L4.out, HP.out])
  clear ho5 O4 G4 D4
  go_wp2_with (at_builtin; refine wpList_append_B rfl (.tmp 20) (.tmp 21) rfl W.heap.size _ _ rfl O5.out (some ⟨w.heap.size, 0, none⟩) 8 8 s rfl HS.out (HA.out _ D5.out).reads (by rw [L5.out]; omega) G5 ?_; intro v6 w6 ho6 hb6; have D6 := Lib.hid (D5.out.trans hb6); clear hb6)
  go_ret
  exact ⟨_, rfl, ho6.lift (Nat.le_of_lt g0), HV.out _ D6.out⟩
end Go.Proofs.Ytlpobinmkedgeaa
