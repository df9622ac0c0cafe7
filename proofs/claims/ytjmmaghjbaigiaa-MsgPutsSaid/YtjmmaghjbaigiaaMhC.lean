/- The document's messages: their bytes. -/
import Derived.Test.YtjmmaghjbaigiaaMhA
namespace Go.Proofs.Ytjmmaghjbaigiaa
open Go.RowKit
set_option linter.unusedVariables false
set_option linter.unusedSimpArgs false
theorem mg_tests {k : Nat} (h : k ≤ 3) : (k = 0 ∧ ((k : Int) == 0) = true ∧ ((k : Int) != 3) = true ∧ ((k : Int) == 1) = false ∧ ((k : Int) == 3) = false)
    ∨ (k = 1 ∧ ((k : Int) == 0) = false ∧ ((k : Int) != 3) = true ∧ ((k : Int) == 1) = true ∧ ((k : Int) == 3) = false)
    ∨ (k = 2 ∧ ((k : Int) == 0) = false ∧ ((k : Int) != 3) = true ∧ ((k : Int) == 1) = false ∧ ((k : Int) == 3) = false)
    ∨ (k = 3 ∧ ((k : Int) == 0) = false ∧ ((k : Int) != 3) = false ∧ ((k : Int) == 1) = false ∧ ((k : Int) == 3) = true) := by
  have hk : k = 0 ∨ k = 1 ∨ k = 2 ∨ k = 3 := by omega
  rcases hk with rfl | rfl | rfl | rfl <;> simp
set_option maxHeartbeats 4000000 in
set_option maxRecDepth 100000 in
theorem refPutM_any (m : Ms) (w : World) : Calls Try.prog 19 #[m.v] w fun e w' => ∃ v', e = .returned (.tuple #[v', .int .i64 (checkM m : Int)]) ∧ OB w.heap.size w' v' (if checkM m = 0 then putM m else []) ∧ Below w.heap.size w w' := by
  have BX := Lib.hid (fun W (h : Below (w.alloc (.cells #[.int .u8 (m.kind.toNat : Int), .string m.key, .int .i64 m.txn, .int .i64 m.ts, .bool m.gone, .string m.val] 40)).heap.size (w.alloc (.cells #[.int .u8 (m.kind.toNat : Int), .string m.key, .int .i64 m.txn, .int .i64 m.ts, .bool m.gone, .string m.val] 40)) W) => (MsBox.new w m 40).on h)
  have B := Lib.hid (fun W (h : Below (w.alloc (.cells #[.int .u8 (m.kind.toNat : Int), .string m.key, .int .i64 m.txn, .int .i64 m.ts, .bool m.gone, .string m.val] 40)).heap.size (w.alloc (.cells #[.int .u8 (m.kind.toNat : Int), .string m.key, .int .i64 m.txn, .int .i64 m.ts, .bool m.gone, .string m.val] 40)) W) => (below1 w (.cells #[.int .u8 (m.kind.toNat : Int), .string m.key, .int .i64 m.txn, .int .i64 m.ts, .bool m.gone, .string m.val] 40)).trans (h.mono (below1 w (.cells #[.int .u8 (m.kind.toNat : Int), .string m.key, .int .i64 m.txn, .int .i64 m.ts, .bool m.gone, .string m.val] 40)).size))
  have K0 := Lib.hid (fun W => refCheckM_any m W)
  have hlo := heap_size_alloc w (.cells #[.int .u8 (m.kind.toNat : Int), .string m.key, .int .i64 m.txn, .int .i64 m.ts, .bool m.gone, .string m.val] 40)
  by_cases h0 : checkM m = 0
  · rw [if_pos h0]
    obtain ⟨c1, c2, c3, ⟨t1, t2⟩, ⟨s1, s2⟩, c4, c5⟩ := checkM_zero h0
    have K0 := Lib.hid (fun W => (show Calls Try.prog 56 #[m.v] W (fun e w' => e = .returned (.int .i64 0) ∧ Below W.heap.size W w') from by have h := K0.out W; rw [h0] at h; exact h))
    rw [h0]
    unfold putM Ms.v at *
    obtain ⟨kind, key, txn, ts, gone, val⟩ := m
    dsimp only at *
    obtain ⟨n, rfl⟩ := Int.eq_ofNat_of_zero_le t1
    obtain ⟨k, rfl⟩ := Int.eq_ofNat_of_zero_le s1
    have wn : IntKind.u64.wrap (n : Int) = (n : Int) := by rw [IntKind.wrap_u64]; omega
    have wm : IntKind.u64.wrap (k : Int) = (k : Int) := by rw [IntKind.wrap_u64]; omega
    have KS1 := Lib.hid (fun W => refPutSmall_any n W (by omega))
    have KS2 := Lib.hid (fun W => refPutSmall_any k W (by omega))
    have KT1 := Lib.hid (fun W => refPutText_any key W (by omega))
    have KT2 := Lib.hid (fun W => refPutText_any val W (by omega))
    have l1 := Lib.hid (vs_small n (by omega))
    have l2 := Lib.hid (vs_small k (by omega))
    have l3 := Lib.hid (vs_ba key 16 c4)
    have l4 := Lib.hid (vs_ba val 24 c5)
    have HM1 := Lib.hid (fun W => RB.one W 1 1 rfl)
    have HM0 := Lib.hid (fun W => RB.one W 0 0 rfl)
    have H5 := Lib.hid (fun W base (hb : base ≤ W.heap.size) => mgByte W base kind hb)
    simp only [Int.toNat_natCast]
    have hk := mg_tests c1
    clear h0 c1 c2 c3 c4 c5 t1 t2 s1 s2
    rcases hk with ⟨hk, t0, t3, t1, t5⟩ | ⟨hk, t0, t3, t1, t5⟩ | ⟨hk, t0, t3, t1, t5⟩ | ⟨hk, t0, t3, t1, t5⟩ <;> cases gone
    all_goals (
      have HK := Lib.hid hk
      clear hk
      go_enter Try.func19, Try.ntmps19
      go_wp2_with fail
      refine (K0.out _).mono ?_
      rintro e w1 ⟨rfl, b1⟩
      obtain ⟨x0, x1, x2, x3, x4, x5, _, _, _, _, _, _⟩ := BX.out w1 b1
      have hz := Lib.hid b1.size
      have hzl : w.heap.size < w1.heap.size := by have := b1.size; omega
      have O := Lib.hid (H5.out w1 w1.heap.size (Nat.le_refl _))
      have BS := Lib.hid (show w1.heap.size ≤ (w1.alloc (.cells #[.int .u8 (kind.toNat : Int)] 5)).heap.size from by simp)
      have BB := Lib.hid (b1.alloc hz.out (.cells #[.int .u8 (kind.toNat : Int)] 5))
      have hlo' := Lib.hid hlo
      clear b1 hlo
      obtain ⟨y0, y1, y2, y3, y4, y5, _, _, _, _, _, _⟩ := BX.out _ BB.out
      go_wp2_with (first
        | (go_at_call 41; with_reducible refine Calls.mono (KT1.out _) ?_; rintro e w2 ⟨v2, rfl, o2, b2⟩; obtain ⟨A2, c2, rfl, hc2, r2⟩ := o2.form; have O := Lib.hid (O.out.keep b2 (Nat.le_refl _)); have BB := Lib.hid (BB.out.trans (b2.mono (Nat.le_trans hz.out BS.out))); have BS := Lib.hid (Nat.le_trans BS.out b2.size); have S := Lib.hid r2; obtain ⟨x0, x1, x2, x3, x4, x5, _, _, _, _, _, _⟩ := BX.out w2 BB.out; clear o2 b2 r2)
        | (go_at_call 41; with_reducible refine Calls.mono (KT2.out _) ?_; rintro e w2 ⟨v2, rfl, o2, b2⟩; obtain ⟨A2, c2, rfl, hc2, r2⟩ := o2.form; have O := Lib.hid (O.out.keep b2 (Nat.le_refl _)); have BB := Lib.hid (BB.out.trans (b2.mono (Nat.le_trans hz.out BS.out))); have BS := Lib.hid (Nat.le_trans BS.out b2.size); have S := Lib.hid r2; obtain ⟨x0, x1, x2, x3, x4, x5, _, _, _, _, _, _⟩ := BX.out w2 BB.out; clear o2 b2 r2)
        | (go_at_call 42; with_reducible refine Calls.mono (KS1.out _) ?_; rintro e w2 ⟨v2, rfl, o2, b2⟩; obtain ⟨A2, c2, rfl, hc2, r2⟩ := o2.form; have O := Lib.hid (O.out.keep b2 (Nat.le_refl _)); have BB := Lib.hid (BB.out.trans (b2.mono (Nat.le_trans hz.out BS.out))); have BS := Lib.hid (Nat.le_trans BS.out b2.size); have S := Lib.hid r2; obtain ⟨x0, x1, x2, x3, x4, x5, _, _, _, _, _, _⟩ := BX.out w2 BB.out; clear o2 b2 r2)
        | (go_at_call 42; with_reducible refine Calls.mono (KS2.out _) ?_; rintro e w2 ⟨v2, rfl, o2, b2⟩; obtain ⟨A2, c2, rfl, hc2, r2⟩ := o2.form; have O := Lib.hid (O.out.keep b2 (Nat.le_refl _)); have BB := Lib.hid (BB.out.trans (b2.mono (Nat.le_trans hz.out BS.out))); have BS := Lib.hid (Nat.le_trans BS.out b2.size); have S := Lib.hid r2; obtain ⟨x0, x1, x2, x3, x4, x5, _, _, _, _, _, _⟩ := BX.out w2 BB.out; clear o2 b2 r2)
        | (at_builtin; refine wpList_append_B rfl (.tmp 17) (.tmp 20) rfl w1.heap.size _ _ rfl O.out _ _ _ (putText key.data.toList) rfl rfl S.out (by have := l1.out; have := l2.out; have := l3.out; have := l4.out; simp only [List.length_append, List.length_cons, List.length_nil]; omega) BS.out ?_; intro v3 w3 o3 b3; have BB := Lib.hid (BB.out.trans (b3.mono hz.out)); have BS := Lib.hid (Nat.le_trans BS.out b3.size); have O := Lib.hid o3; obtain ⟨x0, x1, x2, x3, x4, x5, _, _, _, _, _, _⟩ := BX.out w3 BB.out; clear o3 b3)
        | (at_builtin; refine wpList_append_B rfl (.tmp 25) (.tmp 29) rfl w1.heap.size _ _ rfl O.out _ _ _ (putSmall n) rfl rfl S.out (by have := l1.out; have := l2.out; have := l3.out; have := l4.out; simp only [List.length_append, List.length_cons, List.length_nil]; omega) BS.out ?_; intro v3 w3 o3 b3; have BB := Lib.hid (BB.out.trans (b3.mono hz.out)); have BS := Lib.hid (Nat.le_trans BS.out b3.size); have O := Lib.hid o3; obtain ⟨x0, x1, x2, x3, x4, x5, _, _, _, _, _, _⟩ := BX.out w3 BB.out; clear o3 b3)
        | (at_builtin; refine wpList_append_B rfl (.tmp 39) (.tmp 43) rfl w1.heap.size _ _ rfl O.out _ _ _ (putSmall k) rfl rfl S.out (by have := l1.out; have := l2.out; have := l3.out; have := l4.out; simp only [List.length_append, List.length_cons, List.length_nil]; omega) BS.out ?_; intro v3 w3 o3 b3; have BB := Lib.hid (BB.out.trans (b3.mono hz.out)); have BS := Lib.hid (Nat.le_trans BS.out b3.size); have O := Lib.hid o3; obtain ⟨x0, x1, x2, x3, x4, x5, _, _, _, _, _, _⟩ := BX.out w3 BB.out; clear o3 b3)
        | (at_builtin; refine wpList_append_B rfl (.tmp 50) (.tmp 51) rfl w1.heap.size _ _ rfl (O.out.alloc _) _ _ _ [1] rfl rfl (HM1.out _) (by have := l1.out; have := l2.out; have := l3.out; have := l4.out; simp only [List.length_append, List.length_cons, List.length_nil]; omega) (Nat.le_trans BS.out (Nat.le_of_lt (by simp))) ?_; intro v3 w3 o3 b3; have BB := Lib.hid ((BB.out.alloc (Nat.le_trans hz.out BS.out) _).trans (b3.mono hz.out)); have BS := Lib.hid (Nat.le_trans (Nat.le_trans BS.out (Nat.le_of_lt (by simp))) b3.size); have O := Lib.hid o3; obtain ⟨x0, x1, x2, x3, x4, x5, _, _, _, _, _, _⟩ := BX.out w3 BB.out; clear o3 b3)
        | (at_builtin; refine wpList_append_B rfl (.tmp 53) (.tmp 54) rfl w1.heap.size _ _ rfl (O.out.alloc _) _ _ _ [0] rfl rfl (HM0.out _) (by have := l1.out; have := l2.out; have := l3.out; have := l4.out; simp only [List.length_append, List.length_cons, List.length_nil]; omega) (Nat.le_trans BS.out (Nat.le_of_lt (by simp))) ?_; intro v3 w3 o3 b3; have BB := Lib.hid ((BB.out.alloc (Nat.le_trans hz.out BS.out) _).trans (b3.mono hz.out)); have BS := Lib.hid (Nat.le_trans (Nat.le_trans BS.out (Nat.le_of_lt (by simp))) b3.size); have O := Lib.hid o3; obtain ⟨x0, x1, x2, x3, x4, x5, _, _, _, _, _, _⟩ := BX.out w3 BB.out; clear o3 b3)
        | (at_builtin; refine wpList_append_B rfl (.tmp 56) (.tmp 59) rfl w1.heap.size _ _ rfl O.out _ _ _ (putText val.data.toList) rfl rfl S.out (by have := l1.out; have := l2.out; have := l3.out; have := l4.out; simp only [List.length_append, List.length_cons, List.length_nil]; omega) BS.out ?_; intro v3 w3 o3 b3; have BB := Lib.hid (BB.out.trans (b3.mono hz.out)); have BS := Lib.hid (Nat.le_trans BS.out b3.size); have O := Lib.hid o3; obtain ⟨x0, x1, x2, x3, x4, x5, _, _, _, _, _, _⟩ := BX.out w3 BB.out; clear o3 b3)
        | fail)
      go_ret2
      refine ⟨_, rfl, ?_, B.out _ BB.out⟩
      have := O.out.lift (B := w.heap.size) (Nat.le_of_lt hzl)
      rw [HK.out]
      simpa [layM, mgPair, mgTxn, mgTS, vsMark] using this)
  · rw [if_neg h0]
    have d0 : ((checkM m : Int) != 0) = true := by simp; omega
    generalize checkM m = E at *
    unfold Ms.v at *
    clear h0
    go_enter Try.func19, Try.ntmps19
    go_wp2_with fail
    refine (K0.out _).mono ?_
    rintro e w1 ⟨rfl, b1⟩
    go_wp2
    go_ret2
    exact ⟨_, rfl, OB.nil, B.out _ b1⟩
end Go.Proofs.Ytjmmaghjbaigiaa
