/- The walk of the law MsgParts. -/
import Derived.Test.YtchfpgdioclajaaMgZ
import Derived.Test.YtchfpgdioclajaaVtA
import Derived.Deep.DeepMust
namespace Go.Proofs.Ytchfpgdioclajaa
open Go.RowKit
set_option linter.unusedVariables false
set_option linter.unusedSimpArgs false
theorem run_fromM (A : Option Addr) (n c k : Nat) (hk : k ≤ n) (hc : n ≤ c) (l : List Ms) (hl : l.length = n) :
    ∃ B, (∀ V, (Instr.sliceAt 50 (.slice A n c) (some (.int .i64 (k : Int))) none none).run Try.prog V = .ok (.slice B (n - k) (c - k)) V) ∧ (∀ V, (Instr.slice 50 (.slice A n c) (some (.int .i64 (k : Int))) none none).run Try.prog V = .ok (.slice B (n - k) (c - k)) V) ∧ ∀ V, (RG KM V A l → RG KM V B (l.drop k)) := by
  have ht : Try.prog.underlying 50 = some (.slice (Try.prog.elem 50)) := by kernel_rfl
  have e1 : ∀ V, (Instr.slice 50 (.slice A n c) (some (.int .i64 (k : Int))) none none).run Try.prog V = .ok (.slice (if c = k then A else A.map (·.add (k * 6))) (n - k) (c - k)) V := fun V => by
    rw [run_slice_l (P := Try.prog) V 50 A n c ht .i64 (k : Int) (by omega) (by omega)]
    rw [show Try.prog.elem 50 = 54 from by kernel_rfl, Try.sizeOf54 V]
    simp [Result.andThen, sliced]
  refine ⟨_, fun V => by rw [run_sliceAt_slice (P := Try.prog) V 50 _ _ _ _ ht]; exact e1 V, e1, fun V h => ?_⟩
  split
  · rename_i e
    rw [List.drop_of_length_le (by omega)]
    exact RG.nil
  · cases A with
    | none =>
      have e0 : l = [] := by
        cases l with
        | nil => rfl
        | cons x r => obtain ⟨ad, e⟩ := h.some_of (by simp); cases e
      subst e0
      simp
      exact RG.nil
    | some ad => exact h.drop k
theorem parts_eq (key : ByteArray) (l : List Vn) (ms : List Ms) (k : Nat) : mgFold key (mgFold key l (ms.take k)) (ms.drop k) = mgFold key l ms := by rw [← mgFold_append, List.take_append_drop]
theorem tmodN (a b : Nat) : Int.tmod (a : Int) ((b : Int) + 1) = ((a % (b + 1) : Nat) : Int) := by
  rw [Int.tmod_eq_emod_of_nonneg (by omega)]
  simp
set_option maxHeartbeats 2000000 in
set_option maxRecDepth 100000 in
theorem msgParts_core (key : ByteArray) (A : Option Addr) (n c : Nat) (l : List Vn) (B : Option Addr) (m d : Nat) (ms : List Ms) (cut : Nat) (w : World) (hl : l.length = n) (hn : n ≤ maxLen) (hnc : n ≤ c) (hr : RG KV w A l) (hm : ms.length = m) (hm1 : m ≤ maxLen) (hmd : m ≤ d) (hs : RG KM w B ms) (hcut : cut < 256) :
    Calls Try.prog 7 #[.agg #[.string key, .slice A n c], .slice B m d, .int .u8 (cut : Int)] w fun e w' => e = .returned (.bool true) ∧ Below w.heap.size w w' := by
  have KA := Lib.hid (fun W => mgAwake_any W)
  have KL := Lib.hid (fun W (h : Below w.heap.size w W) => vsLight_any key A n c l W hl hn (hr.below h))
  have KM_ := Lib.hid (fun W (h : Below w.heap.size w W) => mgLight_any B m d ms 20 W hm hm1 (by omega) (hs.below h))
  have HB := Lib.hid (below1 w (.cells #[.string key, .slice A n c] 24))
  have S := Lib.hid (StBox.new w key A n c 24)
  cases hlt : vsLight key l with
  | false =>
    rw [hlt] at KL
    clear hlt hl hn hr hm hm1 hs hmd hcut hnc
    go_enter Try.func7, Try.ntmps7
    go_upto_region 1 with fail
    generalize w.alloc (.cells #[.string key, .slice A n c] 24) = W0 at *
    have s0 := S.out.c0; have s1 := S.out.c1
    go_wp2_with (first
      | (go_at_call 9; refine (KL.out _ HB.out).mono ?_; rintro e w1 ⟨rfl, b1⟩; have HB := Lib.hid (HB.out.trans (b1.mono HB.out.size)); clear b1)
      | (go_at_call 25; refine (KA.out _).mono ?_; rintro e w2 ⟨rfl, b2⟩; have HB := Lib.hid (HB.out.trans (b2.mono HB.out.size)); clear b2)
      | fail)
    go_ret
    exact ⟨rfl, HB.out⟩
  | true =>
    rw [hlt] at KL
    obtain ⟨k1, k2, k3⟩ := vsLight_at hlt
    have hn12 : n ≤ 12 := by omega
    clear hlt k1 k2 k3 hn
    cases hlm : mgLight ms 20 with
    | false =>
      rw [hlm] at KM_
      clear hlm hl hr hm hm1 hs hmd hcut hnc
      go_enter Try.func7, Try.ntmps7
      go_upto_region 1 with fail
      generalize w.alloc (.cells #[.string key, .slice A n c] 24) = W0 at *
      have s0 := S.out.c0; have s1 := S.out.c1
      go_wp2_with (first
        | (go_at_call 9; refine (KL.out _ HB.out).mono ?_; rintro e w1 ⟨rfl, b1⟩; have HB := Lib.hid (HB.out.trans (b1.mono HB.out.size)); clear b1)
        | (go_at_call 24; refine (KM_.out _ HB.out).mono ?_; rintro e w1 ⟨rfl, rfl⟩)
        | (go_at_call 25; refine (KA.out _).mono ?_; rintro e w2 ⟨rfl, b2⟩; have HB := Lib.hid (HB.out.trans (b2.mono HB.out.size)); clear b2)
        | fail)
      go_ret
      exact ⟨rfl, HB.out⟩
    | true =>
      rw [hlm] at KM_
      have hm20 : m ≤ 20 := by rw [← hm]; exact (mgLight_at hlm).1
      clear hlm hm1
      obtain ⟨k, hk⟩ : ∃ k, k = cut % (m + 1) := ⟨_, rfl⟩
      have hkm : k ≤ m := by have := Nat.mod_lt cut (show 0 < m + 1 by omega); omega
      obtain ⟨B2, hs1, hs2, hs3⟩ := run_fromM B m d k hkm hmd ms hm
      have HB2 := Lib.hid (fun W (h : Below w.heap.size w W) => hs3 W (hs.below h))
      have K1 := Lib.hid (fun W (h : Below w.heap.size w W) => mgFold_any key A n c l B m d ms W hl hn12 (hr.below h) hm (by omega) (hs.below h))
      have K2 := Lib.hid (fun W (h : Below w.heap.size w W) => mgFold_any key A n c l B k d (ms.take k) W hl hn12 (hr.below h) (by rw [List.length_take]; omega) (by omega) ((hs.below h).take k))
      have HR1 := Lib.hid (mgFold_len key l (ms.take k) (by omega))
      have HRL := Lib.hid (mgFold_len key l ms (by omega))
      have K3 := Lib.hid (fun W (h : Below w.heap.size w W) (A1 : Option Addr) (c1 : Nat) (h1 : RG KV W A1 (mgFold key l (ms.take k))) => show Calls Try.prog 32 #[.agg #[.string key, .slice A1 (mgFold key l (ms.take k)).length c1], .slice B2 (m - k) (d - k)] W (FoldPost W key (mgFold key l ms)) from by
        have h2 := mgFold_any key A1 _ c1 (mgFold key l (ms.take k)) B2 (m - k) (d - k) (ms.drop k) W rfl HR1.out h1 (by rw [List.length_drop]; omega) (by omega) (HB2.out W h)
        rw [parts_eq] at h2
        exact h2)
      have K4 := Lib.hid (fun W (h : Below w.heap.size w W) => mgFor_any B m d ms key W hm (by omega) (hs.below h))
      have HFL := Lib.hid (Nat.le_trans (List.filter_sublist (l := ms) (p := mgAbout key)).length_le (show ms.length ≤ 20 by omega))
      have K5 := Lib.hid (fun W (h : Below w.heap.size w W) (A1 : Option Addr) (c1 : Nat) (h1 : RG KM W A1 (ms.filter (mgAbout key))) => show Calls Try.prog 32 #[.agg #[.string key, .slice A n c], .slice A1 (ms.filter (mgAbout key)).length c1] W (FoldPost W key (mgFold key l ms)) from by
        have h2 := mgFold_any key A n c l A1 _ c1 (ms.filter (mgAbout key)) W hl hn12 (hr.below h) rfl (by have := HFL.out; omega) h1
        rw [mgFold_for] at h2
        exact h2)
      have HCK := Lib.hid (fun h => mgFold_check (key := key) (l := l) ms h)
      generalize ms.filter (mgAbout key) = F at *
      generalize mgFold key l (ms.take k) = R1 at *
      generalize mgFold key l ms = R at *
      have K6 := Lib.hid (fun (W : World) (A1 A2 : Option Addr) (c1 c2 : Nat) (h : RG KV W A1 R) (g : RG KV W A2 R) => show Calls Try.prog 13 #[.agg #[.string key, .slice A1 R.length c1], .agg #[.string key, .slice A2 R.length c2]] W fun e w' => e = .returned (.bool true) ∧ Below W.heap.size W w' from by
        have h := refSame_any key key A1 A2 _ _ c1 c2 R R W rfl rfl (by have := HRL.out; omega) h g
        rw [show vsSame key R key R = true from by simp [vsSame]] at h
        exact h)
      have K7 := Lib.hid (fun (W : World) (h : Below w.heap.size w W) => vsCheck_any key A n c l W hl (by omega) hnc (hr.below h))
      have K8 := Lib.hid (fun (W : World) (A1 : Option Addr) (c1 : Nat) (hc1 : R.length ≤ c1) (h : RG KV W A1 R) => vsCheck_any key A1 R.length c1 R W rfl (by have := HRL.out; omega) hc1 h)
      have ht := tmodN cut m
      rw [← hk] at ht
      have hw1 : IntKind.i64.wrap ((m : Int) + 1) = (m : Int) + 1 := by rw [IntKind.wrap_i64]; omega
      have hw2 : IntKind.i64.wrap (k : Int) = (k : Int) := by rw [IntKind.wrap_i64]; omega
      have hw3 : IntKind.i64.wrap (cut : Int) = (cut : Int) := by rw [IntKind.wrap_i64]; omega
      have hw4 : ((m : Int) + 1 == 0) = false := by simp; omega
      have hkd : k ≤ d := by omega
      clear hl hr hs hm hk hs3 hcut hnc hmd hn12 hm20
      unfold FoldPost at *
      go_enter Try.func7, Try.ntmps7
      go_upto_region 1 with fail
      generalize w.alloc (.cells #[.string key, .slice A n c] 24) = W0 at *
      have s0 := S.out.c0; have s1 := S.out.c1
      go_upto_region 3 with (first
        | (go_at_call 9; refine (KL.out _ HB.out).mono ?_; rintro e w1 ⟨rfl, b1⟩; have S := Lib.hid (S.out.on b1); have s0 := S.out.c0; have s1 := S.out.c1; have HB := Lib.hid (HB.out.trans (b1.mono HB.out.size)); clear b1)
        | (go_at_call 24; refine (KM_.out _ HB.out).mono ?_; rintro e w1 ⟨rfl, rfl⟩)
        | fail)
      go_upto_region 5 with (go_at_call 32; refine (K1.out _ HB.out).mono ?_; rintro e w3 ⟨A3, c3, rfl, h31, h32, b3⟩; have S := Lib.hid (S.out.on b3); have C3 := Lib.hid h31; have R3 := Lib.hid h32; have HB := Lib.hid (HB.out.trans (b3.mono HB.out.size)); clear h31 h32 b3)
      clear s0 s1
      have S := Lib.hid (S.out.alloc (.cells #[.string key, .slice A3 R.length c3] 24))
      have T := Lib.hid (StBox.new w3 key A3 R.length c3 24)
      have R3 := Lib.hid (R3.out.alloc (.cells #[.string key, .slice A3 R.length c3] 24))
      have HB := Lib.hid (HB.out.alloc HB.out.size (.cells #[.string key, .slice A3 R.length c3] 24))
      generalize w3.alloc (.cells #[.string key, .slice A3 R.length c3] 24) = W4 at *
      generalize w3.heap.size = q8 at *
      have KF := Lib.hid (fun W (h : Below W4.heap.size W4 W) => (⟨(S.out.on h).c0, (S.out.on h).c1, (T.out.on h).c0, (T.out.on h).c1⟩ : _ ∧ _ ∧ _ ∧ _))
      have KB := Lib.hid (fun W (h : Below W4.heap.size W4 W) => HB.out.trans (h.mono HB.out.size))
      have KR := Lib.hid (fun W (h : Below W4.heap.size W4 W) => R3.out.below h)
      have b0 := Lib.hid (Below.refl W4.heap.size W4).drew
      have ka := KF.out _ b0.out
      go_region_held3 (fun W => W.cell? ⟨w.heap.size, 0, none⟩ = some (.string key) ∧ W.cell? ⟨w.heap.size, 1, none⟩ = some (.slice A n c) ∧ W.cell? ⟨q8, 0, none⟩ = some (.string key) ∧ W.cell? ⟨q8, 1, none⟩ = some (.slice A3 R.length c3)) (first | with_reducible exact ka | with_reducible exact kb | with_reducible exact kc | with_reducible exact kd | with_reducible exact ke | with_reducible exact kf | with_reducible exact kg | fail)
        (first
          | (go_at_call 32;
              first
                | ((with_reducible refine Calls.mono (K2.out W4.drew (KB.out _ b0.out)) ?_); rintro e w5 ⟨A5, c5, rfl, h51, h52, b⟩; have b1 := Lib.hid (b0.out.trans (b.mono b0.out.size)); have R5 := Lib.hid h52; have kb := KF.out _ b1.out; clear h51 h52 b)
                | ((with_reducible refine Calls.mono (K3.out w5 (KB.out _ b1.out) A5 c5 R5.out) ?_); rintro e w6 ⟨A6, c6, rfl, h61, h62, b⟩; have b2 := Lib.hid (b1.out.trans (b.mono b1.out.size)); have R6 := Lib.hid h62; have kc := KF.out _ b2.out; clear h61 h62 b)
                | ((with_reducible refine Calls.mono (K5.out w8 (KB.out _ b4.out) A8 c8 R8.out) ?_); rintro e w9 ⟨A9, c9, rfl, h91, h92, b⟩; have b5 := Lib.hid (b4.out.trans (b.mono b4.out.size)); have R9 := Lib.hid h92; have kf := KF.out _ b5.out; clear h91 h92 b))
          | (go_at_call 13;
              first
                | ((with_reducible refine Calls.mono (K6.out w6 A3 A6 c3 c6 (KR.out _ b2.out) R6.out) ?_); rintro e w7 ⟨rfl, b⟩; have b3 := Lib.hid (b2.out.trans (b.mono b2.out.size)); have kd := KF.out _ b3.out; clear b)
                | ((with_reducible refine Calls.mono (K6.out w9 A3 A9 c3 c9 (KR.out _ b5.out) R9.out) ?_); rintro e wa ⟨rfl, b⟩; have b6 := Lib.hid (b5.out.trans (b.mono b5.out.size)); have kg := KF.out _ b6.out; clear b))
          | (go_at_call 39; refine (K4.out w7 (KB.out _ b3.out)).mono ?_; rintro e w8 ⟨v8, rfl, o8, b⟩; obtain ⟨A8, c8, e8, h81, h82, h83, h84⟩ := o8.rg; subst e8; have b4 := Lib.hid (b3.out.trans (b.mono b3.out.size)); have R8 := Lib.hid h83; have ke := KF.out _ b4.out; clear o8 h81 h82 h83 h84 b)
          | fail)
      all_goals
        clear ka kb kc kd ke kf
        obtain ⟨s0, s1, t0, t1⟩ := kg
        by_cases hz : vsCheck key l = 0
        · have hR0 := HCK.out hz
          rw [hz] at K7
          rw [hR0] at K8
          clear hz hR0
          go_wp2_with (first
            | (go_at_call 17;
                first
                  | ((with_reducible refine Calls.mono (K7.out _ (KB.out _ b6.out)) ?_); rintro e wb ⟨rfl, b⟩; have b7 := Lib.hid (b6.out.trans (b.mono b6.out.size)); obtain ⟨s0, s1, t0, t1⟩ := KF.out _ b7.out; clear b)
                  | ((with_reducible refine Calls.mono (K8.out _ A3 c3 C3.out (KR.out _ b7.out)) ?_); rintro e wc ⟨rfl, b⟩; have b8 := Lib.hid (b7.out.trans (b.mono b7.out.size)); clear b))
            | (go_at_call 25; refine (KA.out _).mono ?_; rintro e wd ⟨rfl, b⟩; have b9 := Lib.hid (b8.out.trans (b.mono b8.out.size)); clear b)
            | fail)
          go_ret
          exact ⟨rfl, KB.out _ b9.out⟩
        · have hz1 : ((vsCheck key l : Int) != 0) = true := by simp; omega
          generalize vsCheck key l = Z at *
          clear hz
          go_wp2_with (first
            | (go_at_call 17; refine (K7.out _ (KB.out _ b6.out)).mono ?_; rintro e wb ⟨rfl, b⟩; have b7 := Lib.hid (b6.out.trans (b.mono b6.out.size)); clear b)
            | (go_at_call 25; refine (KA.out _).mono ?_; rintro e wd ⟨rfl, b⟩; have b9 := Lib.hid (b7.out.trans (b.mono b7.out.size)); clear b)
            | fail)
          go_ret
          exact ⟨rfl, KB.out _ b9.out⟩
end Go.Proofs.Ytchfpgdioclajaa
