/- The document's stacks: their bytes. -/
import Derived.Test.YtjmmaghjbaigiaaVsU
import Derived.Test.YtjmmaghjbaigiaaVtE
import Derived.Test.YtjmmaghjbaigiaaTxA
import Derived.Test.YtjmmaghjbaigiaaOkB
namespace Go.Proofs.Ytjmmaghjbaigiaa
open Go.RowKit
set_option linter.unusedVariables false
set_option linter.unusedSimpArgs false
set_option maxHeartbeats 4000000 in
set_option maxRecDepth 100000 in
theorem refPutS_any (key : ByteArray) (A : Option Addr) (n c : Nat) (l : List Vn) (w : World) (hl : l.length = n) (hn : n ≤ 1000) (hr : RG KV w A l) :
    Calls Try.prog 11 #[.agg #[.string key, .slice A n c]] w fun e w' => ∃ v', e = .returned (.tuple #[v', .int .i64 (vsCheck key l : Int)]) ∧ OB w.heap.size w' v' (if vsCheck key l = 0 then putS key l else []) ∧ Below w.heap.size w w' := by
  have KC := Lib.hid (fun (W : World) (h : Below w.heap.size w W) => refCheck_any key A n c l W hl hn (hr.below h))
  have HB := Lib.hid (below1 w (.cells #[.string key, .slice A n c] 24))
  have SX := Lib.hid (StBox.new w key A n c 24)
  have HL := Lib.hid hl
  have HR := Lib.hid (fun W (h : Below w.heap.size w W) => hr.below h)
  by_cases h0 : vsCheck key l = 0
  · rw [if_pos h0]
    obtain ⟨h1, h2, h3, _⟩ := vsCheck_zero.1 h0
    have KT := Lib.hid (fun W => refPutText_any key W (by omega))
    have KN := Lib.hid (fun W => refPutSmall_any n W (by omega))
    have l1 := Lib.hid (vs_ba key 16 h1)
    have l2 := Lib.hid (vs_small n (by omega))
    have l3 := Lib.hid (fun k => layVs_len (l := l.take k) (fun v hv => h3 v (List.mem_of_mem_take hv)))
    have HF := Lib.hid h3
    have wn : IntKind.u64.wrap (n : Int) = (n : Int) := by rw [IntKind.wrap_u64]; omega
    rw [h0] at KC ⊢
    rw [hl] at h2
    have HP : Hid (putS key l = putText key.data.toList ++ putSmall n ++ layVs l) := Lib.hid (by unfold putS; rw [hl])
    clear h0 h1 h3 hl hr
    have FB : Hid (∀ W, Below (w.heap.size + 1) (w.alloc (.cells #[.string key, .slice A n c] 24)) W → Below w.heap.size w W) := Lib.hid fun W h => HB.out.trans (h.mono (by omega))
    have FS : Hid (∀ W, Below (w.heap.size + 1) (w.alloc (.cells #[.string key, .slice A n c] 24)) W → StBox W w.heap.size key A n c) := Lib.hid fun W h => SX.out.below h (by omega)
    have X : Hid (Below (w.heap.size + 1) (w.alloc (.cells #[.string key, .slice A n c] 24)) (w.alloc (.cells #[.string key, .slice A n c] 24))) := Lib.hid (Below.refl _ _)
    have Z : Hid (w.heap.size + 1 ≤ (w.alloc (.cells #[.string key, .slice A n c] 24)).heap.size) := Lib.hid (by simp)
    go_enter Try.func11, Try.ntmps11
    go_upto_region 1 with fail
    generalize w.alloc (.cells #[.string key, .slice A n c] 24) = W0 at *
    have s0 := SX.out.c0
    have s1 := SX.out.c1
    clear HB SX
    go_upto_region 4 with (first
      | (go_at_call 40; refine (KC.out _ (FB.out _ X.out)).mono ?_; rintro e w1 ⟨rfl, b1⟩; have X := Lib.hid (X.out.trans (b1.mono Z.out)); have Z := Lib.hid (Nat.le_trans Z.out b1.size); clear b1)
      | fail)
    have X := Lib.hid (show Below (w.heap.size + 1) W0 w1.drew from X.out.drew)
    have Z := Lib.hid (show w.heap.size + 1 ≤ w1.drew.heap.size from Z.out)
    clear s0 s1
    have KF := Lib.hid (fun W (h : Below (w.heap.size + 1) W0 W) => (⟨(FS.out _ h).c0, (FS.out _ h).c1⟩ : W.cell? ⟨w.heap.size, 0, none⟩ = some (.string key) ∧ W.cell? ⟨w.heap.size, 1, none⟩ = some (.slice A n c)))
    have k0 := KF.out _ X.out
    go_region_held3 (fun W => W.cell? ⟨w.heap.size, 0, none⟩ = some (.string key) ∧ W.cell? ⟨w.heap.size, 1, none⟩ = some (.slice A n c)) (first | with_reducible exact k0 | with_reducible exact k1 | with_reducible exact k2 | with_reducible exact k3 | fail)
      (first
        | (go_at_call 41; (with_reducible refine Calls.mono (KT.out _) ?_); rintro e w2 ⟨v2, rfl, o2, b2⟩; have O := Lib.hid (o2.lift Z.out); have X := Lib.hid (X.out.trans (b2.mono Z.out)); have Z := Lib.hid (Nat.le_trans Z.out b2.size); have k1 := KF.out _ X.out; clear o2 b2)
        | (go_at_call 42; (with_reducible refine Calls.mono (KN.out _) ?_); rintro e w3 ⟨v3, rfl, o3, b3⟩; obtain ⟨A3, c3, rfl, hc3, r3⟩ := o3.form; have O := Lib.hid (O.out.keep b3 (Nat.le_refl _)); have X := Lib.hid (X.out.trans (b3.mono Z.out)); have Z := Lib.hid (Nat.le_trans Z.out b3.size); have R3 := Lib.hid r3.rg; have k2 := KF.out _ X.out; clear o3 b3 r3 hc3)
        | (refine step_append_G tgB rfl (.tmp 15) (.tmp 20) rfl (w.heap.size + 1) v2 _ (by simp [Act.eval, Act.put]) (OB.og O.out) A3 (putSmall n).length c3 (putSmall n) (by simp [Act.eval, Act.put]) rfl R3.out (Apart.flat u8_flat) (by have := l1.out; have := l2.out; omega) Z.out ?_; intro v4 w4 o4 b4 _ _; have O := Lib.hid (OG.ob o4); have X := Lib.hid (X.out.trans b4); have Z := Lib.hid (Nat.le_trans Z.out b4.size); have k3 := KF.out _ X.out; clear o4 b4)
        | fail)
    go_wp2_with fail
    clear k0 k1 k2 k3
    go_loopw [5, 6, 7] (fun v i _ wr => ∃ k : Nat, k ≤ n ∧ i = .int .i64 (k : Int) ∧ OB (w.heap.size + 1) wr v (putText key.data.toList ++ putSmall n ++ layVs (l.take k)) ∧ Below (w.heap.size + 1) W0 wr ∧ w.heap.size + 1 ≤ wr.heap.size) (fun _ i _ _ => n - (intOf i).toNat)
    case atStart => exact ⟨0, Nat.zero_le _, rfl, by have := O.out; simpa [layVs] using this, X.out, Z.out⟩
    case round =>
      clear O X Z R3
      obtain ⟨k, hk, rfl, ho, hx, hz⟩ := hrel
      have X := Lib.hid hx
      have s1 := (FS.out _ hx).c1
      by_cases hlt : k < n
      · obtain ⟨x, hxl⟩ : ∃ x, l[k]? = some x := ⟨l[k]'(by rw [HL.out]; exact hlt), List.getElem?_eq_getElem _⟩
        obtain ⟨ad, rfl, hv⟩ := (HR.out _ (FB.out _ hx)).vn hxl
        obtain ⟨f1, f2, ⟨f3, f4⟩, f5, f6⟩ := vsFault_zero.1 (HF.out x (List.mem_of_getElem? hxl))
        have HS := Lib.hid (layVs_take hxl)
        have HLn := Lib.hid (show (layVs (l.take k)).length ≤ 552 from by have := l3.out k; rw [List.length_take] at this; omega)
        unfold layV at HS
        obtain ⟨txn, ts, gone, val⟩ := x
        dsimp only at *
        obtain ⟨a, rfl⟩ := Int.eq_ofNat_of_zero_le f3
        obtain ⟨b, rfl⟩ := Int.eq_ofNat_of_zero_le f5
        simp only [Int.toNat_natCast] at HS
        have wa : IntKind.u64.wrap (a : Int) = (a : Int) := by rw [IntKind.wrap_u64]; omega
        have wb : IntKind.u64.wrap (b : Int) = (b : Int) := by rw [IntKind.wrap_u64]; omega
        have c0 := hv.d0; have c1 := hv.d1; have c2 := hv.d2; have c3 := hv.d3
        have K1 := Lib.hid (fun W => refPutSmall_any a W (by omega))
        have K2 := Lib.hid (fun W => refPutSmall_any b W (by omega))
        have K4 := Lib.hid (fun W => refPutText_any val W (by omega))
        have m1 := Lib.hid (vs_small a (by omega))
        have m2 := Lib.hid (vs_small b (by omega))
        have m4 := Lib.hid (vs_ba val 24 f1)
        have HM1 := Lib.hid (fun W => (RB.one W 1 1 rfl).rg)
        have HM0 := Lib.hid (fun W => (RB.one W 0 0 rfl).rg)
        have VX := Lib.hid (VnBox.new wr ⟨a, b, gone, val⟩ 66)
        have O := Lib.hid (ho.alloc (.cells #[.int .i64 (a : Int), .int .i64 (b : Int), .bool gone, .string val] 66))
        have X := Lib.hid (hx.alloc hz (.cells #[.int .i64 (a : Int), .int .i64 (b : Int), .bool gone, .string val] 66))
        have Z := Lib.hid (show w.heap.size + 1 ≤ (wr.alloc (.cells #[.int .i64 (a : Int), .int .i64 (b : Int), .bool gone, .string val] 66)).heap.size from by rw [heap_size_alloc]; omega)
        clear hv hxl hx f1 f2 f3 f4 f5 f6
        have P := Lib.hid (PtW.mk (OB.og O.out) (fun e => by have := (OB.og ho).own_lt'' e; omega) VX.out)
        clear O VX ho
        go_upto_region 9 with fail
        generalize wr.alloc (.cells #[.int .i64 (a : Int), .int .i64 (b : Int), .bool gone, .string val] 66) = W1 at *
        generalize wr.heap.size = q at *
        clear c0 c1 c2 c3 s1
        have KG := Lib.hid (fun W (h : VnBox W q ⟨a, b, gone, val⟩) => (⟨h.c0, h.c1⟩ : W.cell? ⟨q, 0, none⟩ = some (.int .i64 (a : Int)) ∧ W.cell? ⟨q, 1, none⟩ = some (.int .i64 (b : Int))))
        have P := Lib.hid (P.out.on (Below.refl W1.heap.size W1).drew)
        have X := Lib.hid (show Below (w.heap.size + 1) W0 W1.drew from X.out.drew)
        have Z := Lib.hid (show w.heap.size + 1 ≤ W1.drew.heap.size from Z.out)
        have k0 := KG.out _ P.out.x
        go_region_held3 (fun W => W.cell? ⟨q, 0, none⟩ = some (.int .i64 (a : Int)) ∧ W.cell? ⟨q, 1, none⟩ = some (.int .i64 (b : Int))) (first | with_reducible exact k0 | with_reducible exact k1 | with_reducible exact k2 | with_reducible exact k3 | with_reducible exact k4 | fail)
          (first
            | (go_at_call 42; (with_reducible refine Calls.mono (K1.out _) ?_); rintro e w3 ⟨v3, rfl, o3, b3⟩; obtain ⟨A3, c3, rfl, hc3, r3⟩ := o3.form; have P := Lib.hid (P.out.on b3); have X := Lib.hid (X.out.trans (b3.mono Z.out)); have Z := Lib.hid (Nat.le_trans Z.out b3.size); have R3 := Lib.hid r3.rg; have k1 := KG.out _ P.out.x; clear o3 b3 r3 hc3)
            | (go_at_call 42; (with_reducible refine Calls.mono (K2.out _) ?_); rintro e w5 ⟨v5, rfl, o3, b3⟩; obtain ⟨A5, c5, rfl, hc3, r3⟩ := o3.form; have P := Lib.hid (P.out.on b3); have X := Lib.hid (X.out.trans (b3.mono Z.out)); have Z := Lib.hid (Nat.le_trans Z.out b3.size); have R5 := Lib.hid r3.rg; have k2 := KG.out _ P.out.x; clear o3 b3 r3 hc3)
            | (refine step_append_G tgB rfl (.tmp 34) (.tmp 38) rfl (w.heap.size + 1) u5 _ (by simp [Act.eval, Act.put]) P.out.o A3 (putSmall a).length c3 (putSmall a) (by simp [Act.eval, Act.put]) rfl R3.out (Apart.flat u8_flat) (by have := l1.out; have := l2.out; have := HLn.out; have := m1.out; simp only [List.length_append]; omega) Z.out ?_; intro v4 w4 o4 b4 g4 h4; have P := Lib.hid (P.out.app o4 g4 h4); have X := Lib.hid (X.out.trans b4); have Z := Lib.hid (Nat.le_trans Z.out b4.size); have k3 := KG.out _ P.out.x; clear o4 b4 g4 h4)
            | (refine step_append_G tgB rfl (.tmp 39) (.tmp 43) rfl (w.heap.size + 1) v4 _ (by simp [Act.eval, Act.put]) P.out.o A5 (putSmall b).length c5 (putSmall b) (by simp [Act.eval, Act.put]) rfl R5.out (Apart.flat u8_flat) (by have := l1.out; have := l2.out; have := HLn.out; have := m1.out; have := m2.out; simp only [List.length_append]; omega) Z.out ?_; intro v6 w6 o4 b4 g4 h4; have P := Lib.hid (P.out.app o4 g4 h4); have X := Lib.hid (X.out.trans b4); have Z := Lib.hid (Nat.le_trans Z.out b4.size); have k4 := KG.out _ P.out.x; clear o4 b4 g4 h4)
            | fail)
        all_goals
          obtain ⟨y0, y1, y2, y3, _, _, _, _⟩ := P.out.x
          cases gone
          all_goals
            go_wp2_with (first
              | (at_builtin; refine wpList_append_G tgB rfl (.tmp 47) (.tmp 48) rfl (w.heap.size + 1) _ _ rfl (P.out.alloc _).o _ _ _ [1] rfl rfl (HM1.out _) (Apart.flat u8_flat) (by have := l1.out; have := l2.out; have := HLn.out; have := m1.out; have := m2.out; simp only [List.length_append, List.length_singleton]; omega) (by have := Z.out; rw [heap_size_alloc]; omega) ?_; intro v7 w7 o4 b4 g4 h4; have X := Lib.hid ((X.out.alloc Z.out _).trans b4); have Z := Lib.hid (show w.heap.size + 1 ≤ w7.heap.size from by have := b4.size; rw [heap_size_alloc] at this; have := Z.out; omega); have P := Lib.hid ((P.out.alloc _).app o4 g4 h4); obtain ⟨y0, y1, y2, y3, _, _, _, _⟩ := P.out.x; clear o4 b4 g4 h4)
              | (at_builtin; refine wpList_append_G tgB rfl (.tmp 50) (.tmp 51) rfl (w.heap.size + 1) _ _ rfl (P.out.alloc _).o _ _ _ [0] rfl rfl (HM0.out _) (Apart.flat u8_flat) (by have := l1.out; have := l2.out; have := HLn.out; have := m1.out; have := m2.out; simp only [List.length_append, List.length_singleton]; omega) (by have := Z.out; rw [heap_size_alloc]; omega) ?_; intro v7 w7 o4 b4 g4 h4; have X := Lib.hid ((X.out.alloc Z.out _).trans b4); have Z := Lib.hid (show w.heap.size + 1 ≤ w7.heap.size from by have := b4.size; rw [heap_size_alloc] at this; have := Z.out; omega); have P := Lib.hid ((P.out.alloc _).app o4 g4 h4); obtain ⟨y0, y1, y2, y3, _, _, _, _⟩ := P.out.x; clear o4 b4 g4 h4)
              | (go_at_call 41; (with_reducible refine Calls.mono (K4.out _) ?_); rintro e w8 ⟨v8, rfl, o3, b3⟩; obtain ⟨A8, c8, rfl, hc3, r3⟩ := o3.form; have P := Lib.hid (P.out.on b3); have X := Lib.hid (X.out.trans (b3.mono Z.out)); have Z := Lib.hid (Nat.le_trans Z.out b3.size); have R8 := Lib.hid r3.rg; clear o3 b3 r3 hc3)
              | (at_builtin; refine wpList_append_G tgB rfl (.tmp 53) (.tmp 56) rfl (w.heap.size + 1) _ _ rfl P.out.o _ _ _ (putText val.data.toList) rfl rfl R8.out (Apart.flat u8_flat) (by have := l1.out; have := l2.out; have := HLn.out; have := m1.out; have := m2.out; have := m4.out; simp only [List.length_append, List.length_singleton]; omega) Z.out ?_; intro v9 w9 o4 b4 g4 h4; have P := Lib.hid (P.out.app o4 g4 h4); have X := Lib.hid (X.out.trans b4); have Z := Lib.hid (Nat.le_trans Z.out b4.size); clear o4 b4 g4 h4)
              | fail)
            go_round
            case rel => exact ⟨k + 1, by omega, by go_num, by have := OG.ob P.out.o; rw [HS.out]; simpa [vsMark] using this, X.out, Z.out⟩
            case measure => simp [intOf]; omega
      · obtain rfl : k = n := by omega
        rw [List.take_of_length_le (by rw [HL.out]; exact Nat.le_refl _)] at ho
        have O := Lib.hid ho
        clear ho hx
        go_wp2
        go_ret2
        exact ⟨_, rfl, by rw [HP.out]; exact O.out.lift (by omega), FB.out _ X.out⟩
  · rw [if_neg h0]
    generalize vsCheck key l = z at *
    have hd : ((z : Int) != 0) = true := by simp; omega
    clear h0 hl hr
    go_enter Try.func11, Try.ntmps11
    go_upto_region 1 with fail
    generalize w.alloc (.cells #[.string key, .slice A n c] 24) = W0 at *
    have s0 := SX.out.c0
    have s1 := SX.out.c1
    go_wp2_with (go_at_call 40; refine (KC.out _ HB.out).mono ?_; rintro e w1 ⟨rfl, b1⟩; have HB := Lib.hid (HB.out.trans (b1.mono HB.out.size)); clear b1)
    go_ret2
    exact ⟨_, rfl, OB.nil, HB.out⟩
end Go.Proofs.Ytjmmaghjbaigiaa
