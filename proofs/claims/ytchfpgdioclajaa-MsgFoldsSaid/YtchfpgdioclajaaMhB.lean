/- The document's messages done to a stack. -/
import Derived.Test.YtchfpgdioclajaaMhA
import Derived.Test.YtchfpgdioclajaaMgE
import Derived.Test.YtchfpgdioclajaaVtC
import Derived.Test.YtchfpgdioclajaaVtD
import Derived.Test.YtchfpgdioclajaaVtF
namespace Go.Proofs.Ytchfpgdioclajaa
open Go.RowKit
set_option linter.unusedVariables false
set_option linter.unusedSimpArgs false
def ChPostK (w : World) (key : ByteArray) (A : Option Addr) (l L : List Vn) (e : Ending) (w' : World) : Prop :=
  ∃ A' c', e = .returned (.agg #[.string key, .slice A' L.length c']) ∧ L.length ≤ c' ∧ RG KV w' A' L ∧ (∀ ad, A' = some ad → (A' = A ∧ L = l) ∨ w.heap.size ≤ ad.block) ∧ Below w.heap.size w w'
/-- A message done to a stack, whatever it is about. -/
def mgApplyK (key : ByteArray) (l : List Vn) (m : Ms) : List Vn := if mgAbout key m = true then mgApply l m else l
theorem foldl_filterK (key : ByteArray) (ms : List Ms) : ∀ l, ms.foldl (mgApplyK key) l = (ms.filter (mgAbout key)).foldl mgApply l := by
  induction ms with
  | nil => exact fun l => rfl
  | cons m r ih =>
    intro l
    rw [List.foldl_cons, ih, List.filter_cons]
    unfold mgApplyK
    cases mgAbout key m <;> simp
theorem mgFoldK (key : ByteArray) (l : List Vn) (ms : List Ms) : ms.foldl (mgApplyK key) l = mgFold key l ms := foldl_filterK key ms l
theorem mgFold_one (key : ByteArray) (l : List Vn) (m : Ms) : mgFold key l [m] = mgApplyK key l m := by rw [← mgFoldK]; rfl
theorem mgApplyK_len (key : ByteArray) (l : List Vn) (m : Ms) (h : l.length ≤ 12) : (mgApplyK key l m).length ≤ 12 := by
  unfold mgApplyK
  split
  · exact mgApply_len l m h
  · exact h
theorem mgApplyK_no {key : ByteArray} {l : List Vn} {m : Ms} (h : checkM m ≠ 0 ∨ refAboutB key m = false) : mgApplyK key l m = l := by
  unfold mgApplyK
  by_cases h0 : checkM m = 0
  · rcases h with h | h
    · exact (h h0).elim
    · rw [refAbout_ok h0] at h
      rw [h]
      rfl
  · split
    · unfold mgApply
      rw [if_neg h0]
    · rfl
theorem mgApplyK_yes {key : ByteArray} {l : List Vn} {m : Ms} (h0 : checkM m = 0) (h : refAboutB key m = true) : mgApplyK key l m = if m.kind.toNat = 0 then vsWrite l ⟨m.txn, 0, m.gone, m.val⟩ else if m.kind.toNat = 1 then vsCommit l m.txn m.ts else if m.kind.toNat = 2 then vsAbort l m.txn else vsPrune l m.ts := by
  rw [refAbout_ok h0] at h
  unfold mgApplyK mgApply
  rw [if_pos h, if_pos h0]
set_option maxHeartbeats 2000000 in
set_option maxRecDepth 100000 in
theorem refApply_any (key : ByteArray) (A : Option Addr) (n c : Nat) (l : List Vn) (m : Ms) (w : World) (hl : l.length = n) (hn : n ≤ 1000) (hnc : n ≤ c) (hr : RG KV w A l) :
    Calls Try.prog 27 #[.agg #[.string key, .slice A n c], m.v] w (ChPostK w key A l (mgApplyK key l m)) := by
  have K0 := Lib.hid (fun W (h : Below w.heap.size w W) => refWrite_any key A n c l ⟨m.txn, 0, m.gone, m.val⟩ W hl hn (hr.below h))
  have K1 := Lib.hid (fun W (h : Below w.heap.size w W) => refCommit_any key A n c l m.txn m.ts W hl hn hnc (hr.below h))
  have K2 := Lib.hid (fun W (h : Below w.heap.size w W) => refAbort_any key A n c l m.txn W hl hn (hr.below h))
  have K3 := Lib.hid (fun W (h : Below w.heap.size w W) => refPrune_any key A n c l m.ts W hl hn (hr.below h))
  have KC := Lib.hid (fun W => refCheckM_any m W)
  have KAb := Lib.hid (fun W => refAbout_any key m W)
  have M := Lib.hid (ChW.new w key A n c m)
  have HY := Lib.hid (@mgApplyK_yes key l m)
  have HNo := Lib.hid (@mgApplyK_no key l m)
  have HZ := Lib.hid (fun h => (checkM_zero (m := m) h).1)
  have HL := Lib.hid hl
  have HR := Lib.hid (fun W (h : Below w.heap.size w W) => hr.below h)
  have HNC := Lib.hid hnc
  unfold ChPostK
  obtain ⟨R, hR⟩ : ∃ R, R = mgApplyK key l m := ⟨_, rfl⟩
  rw [← hR] at HY HNo ⊢
  unfold Ms.v Vn.v at *
  dsimp only at K0
  clear hR hl hr hnc
  by_cases h0 : checkM m = 0
  · have hk := HZ.out h0
    have HY := Lib.hid (HY.out h0)
    rw [h0] at KC
    cases hab : refAboutB key m with
    | true =>
      have HM := HY.out hab
      rw [hab] at KAb
      obtain ⟨kd, hkd⟩ : ∃ k, k = m.kind.toNat := ⟨_, rfl⟩
      rw [← hkd] at HM hk
      have HKD := Lib.hid hkd
      have hk4 : kd = 0 ∨ kd = 1 ∨ kd = 2 ∨ kd = 3 := by omega
      clear hkd hk h0 HZ HY HNo hab
      rcases hk4 with rfl | rfl | rfl | rfl
      · have HV : Hid (R = vsWrite l ⟨m.txn, 0, m.gone, m.val⟩) := Lib.hid HM
        clear HM
        go_enter Try.func27, Try.ntmps27
        go_upto_region 1 with fail
        generalize ((w.alloc (.cells #[.string key, .slice A n c] 24)).alloc (.cells #[.int .u8 (m.kind.toNat : Int), .string m.key, .int .i64 m.txn, .int .i64 m.ts, .bool m.gone, .string m.val] 54)).alloc (.cells #[.string ⟨#[]⟩, .slice none 0 0] 24) = W0 at *
        have hkz : (m.kind.toNat : Int) = 0 := by rw [← HKD.out]; rfl
        have m0 := M.out.ab.c0; have m1 := M.out.ab.c1; have m2 := M.out.ab.c2; have m3 := M.out.ab.c3; have m4 := M.out.ab.c4; have m5 := M.out.ab.c5; have s0 := M.out.st.c0; have s1 := M.out.st.c1
        rw [hkz] at m0
        have KC := Lib.hid (fun W => (show Calls Try.prog 31 #[.agg #[.int .u8 0, .string m.key, .int .i64 m.txn, .int .i64 m.ts, .bool m.gone, .string m.val]] W (fun e w' => e = .returned (.int .i64 0) ∧ Below W.heap.size W w') from by have h := KC.out W; rw [hkz] at h; exact h))
        have KAb := Lib.hid (fun W => (show Calls Try.prog 64 #[.agg #[.int .u8 0, .string m.key, .int .i64 m.txn, .int .i64 m.ts, .bool m.gone, .string m.val], .string key] W (fun e w' => e = .returned (.bool true) ∧ Below W.heap.size W w') from by have h := KAb.out W; rw [hkz] at h; exact h))
        go_wp2_with (first
          | (go_at_call 31; refine (KC.out _).mono ?_; rintro e w1 ⟨rfl, b1⟩; have M := Lib.hid (M.out.on b1); have m0 := M.out.ab.c0; (rw [hkz] at m0); have m1 := M.out.ab.c1; have m2 := M.out.ab.c2; have m3 := M.out.ab.c3; have m4 := M.out.ab.c4; have m5 := M.out.ab.c5; have s0 := M.out.st.c0; have s1 := M.out.st.c1; clear b1)
          | (go_at_call 64; refine (KAb.out _).mono ?_; rintro e w1 ⟨rfl, b1⟩; have M := Lib.hid (M.out.on b1); have m0 := M.out.ab.c0; (rw [hkz] at m0); have m1 := M.out.ab.c1; have m2 := M.out.ab.c2; have m3 := M.out.ab.c3; have m4 := M.out.ab.c4; have m5 := M.out.ab.c5; have s0 := M.out.st.c0; have s1 := M.out.st.c1; clear b1)
          | (go_at_call 47; refine (K0.out _ M.out.b).mono ?_; rintro e w2 ⟨v2, rfl, o2, b2⟩; (rw [← HV.out] at o2); obtain ⟨A2, c2, e2, h21, h22, h23, h24⟩ := o2.rg; subst e2; have N2 := Lib.hid (show ∀ ad, A2 = some ad → w.heap.size ≤ ad.block from fun ad e => Nat.le_trans M.out.b.size (h24 ad e).2.1); have C2 := Lib.hid h21; have O2 := Lib.hid (o2.setSt M.out.r.lt key (.slice A2 R.length c2)); have B2 := Lib.hid (belowSetSt (q := w.heap.size + 2) (M.out.b.trans (b2.mono M.out.b.size)) (by omega) key (.slice A2 R.length c2)); have P2 := Lib.hid ((M.out.r.on b2).put key A2 R.length c2); have r0 := (M.out.r.on b2).c0; have r1 := (M.out.r.on b2).c1; have g0 := (M.out.r.on b2).f0; have g1 := (M.out.r.on b2).f1; clear o2 b2 h21 h22 h23 h24)
          | fail)
        have z0 := P2.out.c0; have z1 := P2.out.c1
        have o4 := O2.out; have b4 := B2.out
        unfold setSt at z0 z1 o4 b4
        refine bodyPost_ret (v := .agg #[.string key, .slice A2 R.length c2]) (by simp [results, Try.results27, go_sem, z0, z1]) rfl ⟨A2, c2, rfl, C2.out, ?_, fun ad e => .inr (N2.out ad e), b4⟩
        obtain ⟨A5, c5, e5, _, _, h53, _⟩ := o4.rg
        injection e5 with e51 _ _
        subst e51
        exact h53
      · have HV : Hid (R = vsCommit l m.txn m.ts) := Lib.hid HM
        clear HM
        go_enter Try.func27, Try.ntmps27
        go_upto_region 1 with fail
        generalize ((w.alloc (.cells #[.string key, .slice A n c] 24)).alloc (.cells #[.int .u8 (m.kind.toNat : Int), .string m.key, .int .i64 m.txn, .int .i64 m.ts, .bool m.gone, .string m.val] 54)).alloc (.cells #[.string ⟨#[]⟩, .slice none 0 0] 24) = W0 at *
        have hkz : (m.kind.toNat : Int) = 1 := by rw [← HKD.out]; rfl
        have m0 := M.out.ab.c0; have m1 := M.out.ab.c1; have m2 := M.out.ab.c2; have m3 := M.out.ab.c3; have m4 := M.out.ab.c4; have m5 := M.out.ab.c5; have s0 := M.out.st.c0; have s1 := M.out.st.c1
        rw [hkz] at m0
        have KC := Lib.hid (fun W => (show Calls Try.prog 31 #[.agg #[.int .u8 1, .string m.key, .int .i64 m.txn, .int .i64 m.ts, .bool m.gone, .string m.val]] W (fun e w' => e = .returned (.int .i64 0) ∧ Below W.heap.size W w') from by have h := KC.out W; rw [hkz] at h; exact h))
        have KAb := Lib.hid (fun W => (show Calls Try.prog 64 #[.agg #[.int .u8 1, .string m.key, .int .i64 m.txn, .int .i64 m.ts, .bool m.gone, .string m.val], .string key] W (fun e w' => e = .returned (.bool true) ∧ Below W.heap.size W w') from by have h := KAb.out W; rw [hkz] at h; exact h))
        go_wp2_with (first
          | (go_at_call 31; refine (KC.out _).mono ?_; rintro e w1 ⟨rfl, b1⟩; have M := Lib.hid (M.out.on b1); have m0 := M.out.ab.c0; (rw [hkz] at m0); have m1 := M.out.ab.c1; have m2 := M.out.ab.c2; have m3 := M.out.ab.c3; have m4 := M.out.ab.c4; have m5 := M.out.ab.c5; have s0 := M.out.st.c0; have s1 := M.out.st.c1; clear b1)
          | (go_at_call 64; refine (KAb.out _).mono ?_; rintro e w1 ⟨rfl, b1⟩; have M := Lib.hid (M.out.on b1); have m0 := M.out.ab.c0; (rw [hkz] at m0); have m1 := M.out.ab.c1; have m2 := M.out.ab.c2; have m3 := M.out.ab.c3; have m4 := M.out.ab.c4; have m5 := M.out.ab.c5; have s0 := M.out.st.c0; have s1 := M.out.st.c1; clear b1)
          | (go_at_call 44; refine (K1.out _ M.out.b).mono ?_; rintro e w2 ⟨v2, rfl, o2, b2⟩; (rw [← HV.out] at o2); obtain ⟨A2, c2, e2, h21, h22, h23, h24⟩ := o2.rg; subst e2; have N2 := Lib.hid (show ∀ ad, A2 = some ad → w.heap.size ≤ ad.block from fun ad e => Nat.le_trans M.out.b.size (h24 ad e).2.1); have C2 := Lib.hid h21; have O2 := Lib.hid (o2.setSt M.out.r.lt key (.slice A2 R.length c2)); have B2 := Lib.hid (belowSetSt (q := w.heap.size + 2) (M.out.b.trans (b2.mono M.out.b.size)) (by omega) key (.slice A2 R.length c2)); have P2 := Lib.hid ((M.out.r.on b2).put key A2 R.length c2); have r0 := (M.out.r.on b2).c0; have r1 := (M.out.r.on b2).c1; have g0 := (M.out.r.on b2).f0; have g1 := (M.out.r.on b2).f1; clear o2 b2 h21 h22 h23 h24)
          | fail)
        have z0 := P2.out.c0; have z1 := P2.out.c1
        have o4 := O2.out; have b4 := B2.out
        unfold setSt at z0 z1 o4 b4
        refine bodyPost_ret (v := .agg #[.string key, .slice A2 R.length c2]) (by simp [results, Try.results27, go_sem, z0, z1]) rfl ⟨A2, c2, rfl, C2.out, ?_, fun ad e => .inr (N2.out ad e), b4⟩
        obtain ⟨A5, c5, e5, _, _, h53, _⟩ := o4.rg
        injection e5 with e51 _ _
        subst e51
        exact h53
      · have HV : Hid (R = vsAbort l m.txn) := Lib.hid HM
        clear HM
        go_enter Try.func27, Try.ntmps27
        go_upto_region 1 with fail
        generalize ((w.alloc (.cells #[.string key, .slice A n c] 24)).alloc (.cells #[.int .u8 (m.kind.toNat : Int), .string m.key, .int .i64 m.txn, .int .i64 m.ts, .bool m.gone, .string m.val] 54)).alloc (.cells #[.string ⟨#[]⟩, .slice none 0 0] 24) = W0 at *
        have hkz : (m.kind.toNat : Int) = 2 := by rw [← HKD.out]; rfl
        have m0 := M.out.ab.c0; have m1 := M.out.ab.c1; have m2 := M.out.ab.c2; have m3 := M.out.ab.c3; have m4 := M.out.ab.c4; have m5 := M.out.ab.c5; have s0 := M.out.st.c0; have s1 := M.out.st.c1
        rw [hkz] at m0
        have KC := Lib.hid (fun W => (show Calls Try.prog 31 #[.agg #[.int .u8 2, .string m.key, .int .i64 m.txn, .int .i64 m.ts, .bool m.gone, .string m.val]] W (fun e w' => e = .returned (.int .i64 0) ∧ Below W.heap.size W w') from by have h := KC.out W; rw [hkz] at h; exact h))
        have KAb := Lib.hid (fun W => (show Calls Try.prog 64 #[.agg #[.int .u8 2, .string m.key, .int .i64 m.txn, .int .i64 m.ts, .bool m.gone, .string m.val], .string key] W (fun e w' => e = .returned (.bool true) ∧ Below W.heap.size W w') from by have h := KAb.out W; rw [hkz] at h; exact h))
        go_wp2_with (first
          | (go_at_call 31; refine (KC.out _).mono ?_; rintro e w1 ⟨rfl, b1⟩; have M := Lib.hid (M.out.on b1); have m0 := M.out.ab.c0; (rw [hkz] at m0); have m1 := M.out.ab.c1; have m2 := M.out.ab.c2; have m3 := M.out.ab.c3; have m4 := M.out.ab.c4; have m5 := M.out.ab.c5; have s0 := M.out.st.c0; have s1 := M.out.st.c1; clear b1)
          | (go_at_call 64; refine (KAb.out _).mono ?_; rintro e w1 ⟨rfl, b1⟩; have M := Lib.hid (M.out.on b1); have m0 := M.out.ab.c0; (rw [hkz] at m0); have m1 := M.out.ab.c1; have m2 := M.out.ab.c2; have m3 := M.out.ab.c3; have m4 := M.out.ab.c4; have m5 := M.out.ab.c5; have s0 := M.out.st.c0; have s1 := M.out.st.c1; clear b1)
          | (go_at_call 45; refine (K2.out _ M.out.b).mono ?_; rintro e w2 ⟨v2, rfl, o2, b2⟩; (rw [← HV.out] at o2); obtain ⟨A2, c2, e2, h21, h22, h23, h24⟩ := o2.rg; subst e2; have N2 := Lib.hid (show ∀ ad, A2 = some ad → w.heap.size ≤ ad.block from fun ad e => Nat.le_trans M.out.b.size (h24 ad e).2.1); have C2 := Lib.hid h21; have O2 := Lib.hid (o2.setSt M.out.r.lt key (.slice A2 R.length c2)); have B2 := Lib.hid (belowSetSt (q := w.heap.size + 2) (M.out.b.trans (b2.mono M.out.b.size)) (by omega) key (.slice A2 R.length c2)); have P2 := Lib.hid ((M.out.r.on b2).put key A2 R.length c2); have r0 := (M.out.r.on b2).c0; have r1 := (M.out.r.on b2).c1; have g0 := (M.out.r.on b2).f0; have g1 := (M.out.r.on b2).f1; clear o2 b2 h21 h22 h23 h24)
          | fail)
        have z0 := P2.out.c0; have z1 := P2.out.c1
        have o4 := O2.out; have b4 := B2.out
        unfold setSt at z0 z1 o4 b4
        refine bodyPost_ret (v := .agg #[.string key, .slice A2 R.length c2]) (by simp [results, Try.results27, go_sem, z0, z1]) rfl ⟨A2, c2, rfl, C2.out, ?_, fun ad e => .inr (N2.out ad e), b4⟩
        obtain ⟨A5, c5, e5, _, _, h53, _⟩ := o4.rg
        injection e5 with e51 _ _
        subst e51
        exact h53
      · have HV : Hid (R = vsPrune l m.ts) := Lib.hid HM
        clear HM
        go_enter Try.func27, Try.ntmps27
        go_upto_region 1 with fail
        generalize ((w.alloc (.cells #[.string key, .slice A n c] 24)).alloc (.cells #[.int .u8 (m.kind.toNat : Int), .string m.key, .int .i64 m.txn, .int .i64 m.ts, .bool m.gone, .string m.val] 54)).alloc (.cells #[.string ⟨#[]⟩, .slice none 0 0] 24) = W0 at *
        have hkz : (m.kind.toNat : Int) = 3 := by rw [← HKD.out]; rfl
        have m0 := M.out.ab.c0; have m1 := M.out.ab.c1; have m2 := M.out.ab.c2; have m3 := M.out.ab.c3; have m4 := M.out.ab.c4; have m5 := M.out.ab.c5; have s0 := M.out.st.c0; have s1 := M.out.st.c1
        rw [hkz] at m0
        have KC := Lib.hid (fun W => (show Calls Try.prog 31 #[.agg #[.int .u8 3, .string m.key, .int .i64 m.txn, .int .i64 m.ts, .bool m.gone, .string m.val]] W (fun e w' => e = .returned (.int .i64 0) ∧ Below W.heap.size W w') from by have h := KC.out W; rw [hkz] at h; exact h))
        have KAb := Lib.hid (fun W => (show Calls Try.prog 64 #[.agg #[.int .u8 3, .string m.key, .int .i64 m.txn, .int .i64 m.ts, .bool m.gone, .string m.val], .string key] W (fun e w' => e = .returned (.bool true) ∧ Below W.heap.size W w') from by have h := KAb.out W; rw [hkz] at h; exact h))
        go_wp2_with (first
          | (go_at_call 31; refine (KC.out _).mono ?_; rintro e w1 ⟨rfl, b1⟩; have M := Lib.hid (M.out.on b1); have m0 := M.out.ab.c0; (rw [hkz] at m0); have m1 := M.out.ab.c1; have m2 := M.out.ab.c2; have m3 := M.out.ab.c3; have m4 := M.out.ab.c4; have m5 := M.out.ab.c5; have s0 := M.out.st.c0; have s1 := M.out.st.c1; clear b1)
          | (go_at_call 64; refine (KAb.out _).mono ?_; rintro e w1 ⟨rfl, b1⟩; have M := Lib.hid (M.out.on b1); have m0 := M.out.ab.c0; (rw [hkz] at m0); have m1 := M.out.ab.c1; have m2 := M.out.ab.c2; have m3 := M.out.ab.c3; have m4 := M.out.ab.c4; have m5 := M.out.ab.c5; have s0 := M.out.st.c0; have s1 := M.out.st.c1; clear b1)
          | (go_at_call 46; refine (K3.out _ M.out.b).mono ?_; rintro e w2 ⟨v2, rfl, o2, b2⟩; (rw [← HV.out] at o2); obtain ⟨A2, c2, e2, h21, h22, h23, h24⟩ := o2.rg; subst e2; have N2 := Lib.hid (show ∀ ad, A2 = some ad → w.heap.size ≤ ad.block from fun ad e => Nat.le_trans M.out.b.size (h24 ad e).2.1); have C2 := Lib.hid h21; have O2 := Lib.hid (o2.setSt M.out.r.lt key (.slice A2 R.length c2)); have B2 := Lib.hid (belowSetSt (q := w.heap.size + 2) (M.out.b.trans (b2.mono M.out.b.size)) (by omega) key (.slice A2 R.length c2)); have P2 := Lib.hid ((M.out.r.on b2).put key A2 R.length c2); have r0 := (M.out.r.on b2).c0; have r1 := (M.out.r.on b2).c1; have g0 := (M.out.r.on b2).f0; have g1 := (M.out.r.on b2).f1; clear o2 b2 h21 h22 h23 h24)
          | fail)
        have z0 := P2.out.c0; have z1 := P2.out.c1
        have o4 := O2.out; have b4 := B2.out
        unfold setSt at z0 z1 o4 b4
        refine bodyPost_ret (v := .agg #[.string key, .slice A2 R.length c2]) (by simp [results, Try.results27, go_sem, z0, z1]) rfl ⟨A2, c2, rfl, C2.out, ?_, fun ad e => .inr (N2.out ad e), b4⟩
        obtain ⟨A5, c5, e5, _, _, h53, _⟩ := o4.rg
        injection e5 with e51 _ _
        subst e51
        exact h53
    | false =>
      have HV := HNo.out (.inr hab)
      subst HV
      rw [hab] at KAb
      clear h0 HZ HY HNo hk hab
      go_enter Try.func27, Try.ntmps27
      go_upto_region 1 with fail
      generalize ((w.alloc (.cells #[.string key, .slice A n c] 24)).alloc (.cells #[.int .u8 (m.kind.toNat : Int), .string m.key, .int .i64 m.txn, .int .i64 m.ts, .bool m.gone, .string m.val] 54)).alloc (.cells #[.string ⟨#[]⟩, .slice none 0 0] 24) = W0 at *
      have m0 := M.out.ab.c0; have m1 := M.out.ab.c1; have m2 := M.out.ab.c2; have m3 := M.out.ab.c3; have m4 := M.out.ab.c4; have m5 := M.out.ab.c5
      go_wp2_with (first
        | (go_at_call 31; refine (KC.out _).mono ?_; rintro e w1 ⟨rfl, b1⟩; have M := Lib.hid (M.out.on b1); have m0 := M.out.ab.c0; have m1 := M.out.ab.c1; have m2 := M.out.ab.c2; have m3 := M.out.ab.c3; have m4 := M.out.ab.c4; have m5 := M.out.ab.c5; have s0 := M.out.st.c0; have s1 := M.out.st.c1; have r0 := M.out.r.c0; have r1 := M.out.r.c1; have g0 := M.out.r.f0; have g1 := M.out.r.f1; have B2 := Lib.hid (belowSetSt (q := w.heap.size + 2) M.out.b (by omega) key (.slice A n c)); have P2 := Lib.hid (M.out.r.put key A n c); clear b1)
        | (go_at_call 64; refine (KAb.out _).mono ?_; rintro e w1 ⟨rfl, b1⟩; have M := Lib.hid (M.out.on b1); have s0 := M.out.st.c0; have s1 := M.out.st.c1; have r0 := M.out.r.c0; have r1 := M.out.r.c1; have g0 := M.out.r.f0; have g1 := M.out.r.f1; have B2 := Lib.hid (belowSetSt (q := w.heap.size + 2) M.out.b (by omega) key (.slice A n c)); have P2 := Lib.hid (M.out.r.put key A n c); clear b1)
        | fail)
      have z0 := P2.out.c0; have z1 := P2.out.c1
      have b4 := B2.out
      unfold setSt at z0 z1 b4
      have HL := HL.out
      subst HL
      refine bodyPost_ret (v := .agg #[.string key, .slice A R.length c]) (by simp [results, Try.results27, go_sem, z0, z1]) rfl ⟨A, c, rfl, HNC.out, HR.out _ b4, fun ad e => .inl ⟨rfl, by first | trivial | rfl⟩, b4⟩
  · have d0 : ((checkM m : Int) != 0) = true := by simp; omega
    have HV := HNo.out (.inl h0)
    subst HV
    generalize checkM m = E at *
    clear h0 HZ HY HNo
    go_enter Try.func27, Try.ntmps27
    go_upto_region 1 with fail
    generalize ((w.alloc (.cells #[.string key, .slice A n c] 24)).alloc (.cells #[.int .u8 (m.kind.toNat : Int), .string m.key, .int .i64 m.txn, .int .i64 m.ts, .bool m.gone, .string m.val] 54)).alloc (.cells #[.string ⟨#[]⟩, .slice none 0 0] 24) = W0 at *
    have m0 := M.out.ab.c0; have m1 := M.out.ab.c1; have m2 := M.out.ab.c2; have m3 := M.out.ab.c3; have m4 := M.out.ab.c4; have m5 := M.out.ab.c5
    go_wp2_with (first
      | (go_at_call 31; refine (KC.out _).mono ?_; rintro e w1 ⟨rfl, b1⟩; have M := Lib.hid (M.out.on b1); have m0 := M.out.ab.c0; have m1 := M.out.ab.c1; have m2 := M.out.ab.c2; have m3 := M.out.ab.c3; have m4 := M.out.ab.c4; have m5 := M.out.ab.c5; have s0 := M.out.st.c0; have s1 := M.out.st.c1; have r0 := M.out.r.c0; have r1 := M.out.r.c1; have g0 := M.out.r.f0; have g1 := M.out.r.f1; have B2 := Lib.hid (belowSetSt (q := w.heap.size + 2) M.out.b (by omega) key (.slice A n c)); have P2 := Lib.hid (M.out.r.put key A n c); clear b1)
      | (go_at_call 64; refine (KAb.out _).mono ?_; rintro e w1 ⟨rfl, b1⟩; have M := Lib.hid (M.out.on b1); have s0 := M.out.st.c0; have s1 := M.out.st.c1; have r0 := M.out.r.c0; have r1 := M.out.r.c1; have g0 := M.out.r.f0; have g1 := M.out.r.f1; have B2 := Lib.hid (belowSetSt (q := w.heap.size + 2) M.out.b (by omega) key (.slice A n c)); have P2 := Lib.hid (M.out.r.put key A n c); clear b1)
      | fail)
    have z0 := P2.out.c0; have z1 := P2.out.c1
    have b4 := B2.out
    unfold setSt at z0 z1 b4
    have HL := HL.out
    subst HL
    refine bodyPost_ret (v := .agg #[.string key, .slice A R.length c]) (by simp [results, Try.results27, go_sem, z0, z1]) rfl ⟨A, c, rfl, HNC.out, HR.out _ b4, fun ad e => .inl ⟨rfl, by first | trivial | rfl⟩, b4⟩
/-- The memory of the document's Fold: the stack that changes, the result. -/
structure FeW (w : World) (key : ByteArray) (A : Option Addr) (n c : Nat) (L : List Vn) (W : World) : Prop where
  b : Below w.heap.size w W
  s : StBox W w.heap.size key A n c
  r : StBox W (w.heap.size + 1) ⟨#[]⟩ none 0 0
  g : RG KV W A L
  ga : L = [] ∨ ∀ ad, A = some ad → ad.block ≠ w.heap.size ∧ ad.block ≠ w.heap.size + 1
  ml : L.length = n
  nc : n ≤ c
theorem FeW.on {w W W' : World} {key : ByteArray} {A : Option Addr} {n c : Nat} {L : List Vn} (h : FeW w key A n c L W) (hb : Below W.heap.size W W') : FeW w key A n c L W' :=
  ⟨h.b.trans (hb.mono h.b.size), h.s.on hb, h.r.on hb, h.g.below hb, h.ga, h.ml, h.nc⟩
theorem FeW.drew {w W : World} {key : ByteArray} {A : Option Addr} {n c : Nat} {L : List Vn} (h : FeW w key A n c L W) : FeW w key A n c L W.drew := ⟨h.b.drew, h.s.drew, h.r.drew, h.g.drew, h.ga, h.ml, h.nc⟩
theorem FeW.next {w W W' : World} {key : ByteArray} {A A' : Option Addr} {n c c' : Nat} {L L' : List Vn} (h : FeW w key A n c L W) (hb : Below W.heap.size W W') (hc : L'.length ≤ c') (g : RG KV W' A' L') (ga : ∀ ad, A' = some ad → (A' = A ∧ L' = L) ∨ W.heap.size ≤ ad.block) :
    FeW w key A' L'.length c' L' (setSt W' w.heap.size key (.slice A' L'.length c')) := by
  have h1 := h.on hb
  have hlt := h.r.lt
  have ga' : L' = [] ∨ ∀ ad, A' = some ad → ad.block ≠ w.heap.size ∧ ad.block ≠ w.heap.size + 1 := by
    by_cases hL : L' = []
    · exact .inl hL
    · refine .inr fun ad e => ?_
      rcases ga ad e with ⟨e2, e3⟩ | e2
      · rcases h.ga with h0 | h0
        · exact (hL (e3.trans h0)).elim
        · exact h0 ad (e2.symm.trans e)
      · exact ⟨by omega, by omega⟩
  refine ⟨belowSetSt h1.b (Nat.le_refl _) key _, h1.s.put key A' L'.length c', h1.r.offSt (by omega) key _, ?_, ga', rfl, hc⟩
  rcases ga' with h0 | h0
  · subst h0
    exact RG.nil
  · exact g.offK vn_flat (fun b hb => setSt_other W' _ key _ b hb) (fun ad e => (h0 ad e).1)
theorem foldlK_len (key : ByteArray) (ms : List Ms) : ∀ (l : List Vn), l.length ≤ 12 → (ms.foldl (mgApplyK key) l).length ≤ 12 := by
  induction ms with
  | nil => exact fun l h => h
  | cons m r ih => exact fun l h => ih _ (mgApplyK_len key l m h)
theorem RG.old_block {w : World} {A : Option Addr} {l : List Vn} (h : RG KV w A l) : l = [] ∨ ∃ ad, A = some ad ∧ ad.block < w.heap.size := by
  cases l with
  | nil => exact .inl rfl
  | cons x r =>
    obtain ⟨ad, e, hv⟩ := h.vn (k := 0) (v := x) rfl
    refine .inr ⟨ad, e, ?_⟩
    have := hv.lt
    rw [block_of_add] at this
    exact this
set_option maxHeartbeats 2000000 in
set_option maxRecDepth 100000 in
theorem refFoldM_any (key : ByteArray) (A : Option Addr) (n c : Nat) (l : List Vn) (B : Option Addr) (m d : Nat) (ms : List Ms) (w : World) (hl : l.length = n) (hn : n ≤ 12) (hnc : n ≤ c) (hr : RG KV w A l) (hm : ms.length = m) (hm1 : m ≤ 1000) (hs : RG KM w B ms) :
    Calls Try.prog 33 #[.agg #[.string key, .slice A n c], .slice B m d] w (FoldPost w key (mgFold key l ms)) := by
  have KD := Lib.hid (fun (W : World) (A : Option Addr) (n c : Nat) (L : List Vn) (x : Ms) (hL : L.length = n) (hn : n ≤ 12) (hc : n ≤ c) (h : RG KV W A L) => refApply_any key A n c L x W hL (by omega) hc h)
  have N0 := FdW.new w key A n c
  have HT := Lib.hid (fun k => foldlK_len key (ms.take k) l (by omega))
  have M0 : Hid (FeW w key A n c l ((w.alloc (.cells #[.string key, .slice A n c] 24)).alloc (.cells #[.string ⟨#[]⟩, .slice none 0 0] 24))) := Lib.hid ⟨N0.1, N0.2.1, N0.2.2, hr.below N0.1, by
    rcases hr.old_block with h | ⟨ad, e, h⟩
    · exact .inl h
    · refine .inr fun ad' e' => ?_
      rw [e] at e'
      injection e' with e'
      subst e'
      exact ⟨by omega, by omega⟩, hl, hnc⟩
  have HS := Lib.hid (fun W (h : Below w.heap.size w W) => hs.below h)
  have HML := Lib.hid hm
  unfold FoldPost
  rw [← mgFoldK]
  obtain ⟨R, hR⟩ : ∃ R, R = ms.foldl (mgApplyK key) l := ⟨_, rfl⟩
  rw [← hR]
  have HRR := Lib.hid hR
  clear hR N0 hl hm hr hs hnc hn
  go_enter Try.func33, Try.ntmps33
  go_upto_region 1 with fail
  generalize (w.alloc (.cells #[.string key, .slice A n c] 24)).alloc (.cells #[.string ⟨#[]⟩, .slice none 0 0] 24) = W0 at *
  go_upto_region 2 with fail
  go_loopw [5] (fun i wr => ∃ (k : Nat) (A' : Option Addr) (n' c' : Nat), k ≤ m ∧ i = .int .i64 (k : Int) ∧ FeW w key A' n' c' ((ms.take k).foldl (mgApplyK key) l) wr) (fun i _ => m - (intOf i).toNat)
  case atStart => exact ⟨0, A, n, c, Nat.zero_le _, rfl, M0.out⟩
  case round =>
    clear M0
    obtain ⟨k, A', n', c', hk, rfl, hM⟩ := hrel
    have HKL := Lib.hid (HT.out k)
    by_cases hlt : k < m
    · obtain ⟨x, hx⟩ : ∃ x, ms[k]? = some x := ⟨ms[k]'(by rw [HML.out]; exact hlt), List.getElem?_eq_getElem _⟩
      have HE : Hid ((ms.take (k + 1)).foldl (mgApplyK key) l = mgApplyK key ((ms.take k).foldl (mgApplyK key) l) x) := Lib.hid (by rw [List.take_add_one, hx, Option.toList_some, List.foldl_append]; rfl)
      generalize (ms.take k).foldl (mgApplyK key) l = L at *
      obtain ⟨L', hL'⟩ : ∃ L', L' = (ms.take (k + 1)).foldl (mgApplyK key) l := ⟨_, rfl⟩
      have HLL := Lib.hid hL'
      have HE := HE.out
      rw [← hL'] at HE
      clear hL'
      have M := Lib.hid hM.drew
      obtain ⟨ad, rfl, hv⟩ := (HS.out _ hM.b).ms hx
      have d0 := hv.d0; have d1 := hv.d1; have d2 := hv.d2; have d3 := hv.d3; have d4 := hv.d4; have d5 := hv.d5
      have s0 := hM.s.c0; have s1 := hM.s.c1
      have KD := Lib.hid (fun (W : World) (h : RG KV W A' L) => KD.out W A' n' c' L x hM.ml (by have := HKL.out; have := hM.ml; omega) hM.nc h)
      unfold ChPostK Ms.v at KD
      rw [← HE] at KD
      clear hM hv hx HE
      go_upto_region 4 with fail
      go_still_tail 5, (by kernel_rfl)
      change wpList _ _ _ _ _ wr.drew
      clear s0 s1 d0 d1 d2 d3 d4 d5
      generalize wr.drew = wd at *
      go_wp2_with (go_at_call 27; refine (KD.out _ M.out.g).mono ?_; rintro e w6 ⟨A6, c6, rfl, h61, h62, h63, b6⟩; have M6 := Lib.hid (M.out.on b6); have NX := Lib.hid (M.out.next b6 h61 h62 h63); have s0 := M6.out.s.c0; have s1 := M6.out.s.c1; have f0 := M6.out.s.f0; have f1 := M6.out.s.f1; clear h61 h62 h63 b6)
      go_roundw
      case rel => exact ⟨k + 1, A6, _, c6, by omega, by go_num, by rw [← HLL.out]; exact NX.out⟩
      case measure => simp [intOf]; omega
    · obtain rfl : k = m := by omega
      rw [List.take_of_length_le (by rw [HML.out]; exact Nat.le_refl _)] at hM
      rw [← HRR.out] at hM
      have M := Lib.hid hM
      have s0 := M.out.s.c0; have s1 := M.out.s.c1; have r0 := M.out.r.c0; have r1 := M.out.r.c1; have f0 := M.out.r.f0; have f1 := M.out.r.f1
      have ML := hM.ml
      clear hM HKL
      subst ML
      go_wp2
      have P := M.out.r.put key A' R.length c'
      have z0 := P.c0; have z1 := P.c1
      have b4 := belowSetSt (q := w.heap.size + 1) M.out.b (by omega) key (.slice A' R.length c')
      have g4 : RG KV (setSt wr (w.heap.size + 1) key (.slice A' R.length c')) A' R := by
        rcases M.out.ga with h0 | h0
        · rw [h0]; exact RG.nil
        · exact M.out.g.offK vn_flat (fun b hb => setSt_other wr (w.heap.size + 1) key (.slice A' R.length c') b hb) (fun ad e => (h0 ad e).2)
      unfold setSt at z0 z1 b4 g4
      refine bodyPost_ret (v := .agg #[.string key, .slice A' R.length c']) (by simp [results, Try.results33, go_sem, z0, z1]) rfl ⟨A', c', rfl, M.out.nc, g4, b4⟩
end Go.Proofs.Ytchfpgdioclajaa
