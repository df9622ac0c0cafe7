/- The package msg: a message done to a stack. The package msg: messages done to a stack. -/
import Derived.Test.YtjmmaghjbaigiaaMgA
import Derived.Test.YtjmmaghjbaigiaaVsK
namespace Go.Proofs.Ytjmmaghjbaigiaa
open Go.RowKit
set_option linter.unusedVariables false
set_option linter.unusedSimpArgs false
theorem RG.offK {α : Type} {K : CR α} (hf : K.Flat) {W W' : World} {A : Option Addr} {l : List α} (h : RG K W A l) {q : Nat} (hb : ∀ b, b ≠ q → W'.heap[b]? = W.heap[b]?) (ha : ∀ ad, A = some ad → ad.block ≠ q) : RG K W' A l :=
  (h.keepF fun b hb' => hb b (by
    obtain ⟨j, x, ad, cs, _, e, _, _, hh⟩ := hb'
    rcases hh with rfl | hh
    · exact ha ad e
    · exact (hf _ _ _ _ hh).elim)).1
/-- The memory of change: the stack, the message, the result. -/
structure ChW (w : World) (key : ByteArray) (A : Option Addr) (n c : Nat) (m : Ms) (W : World) : Prop where
  b : Below w.heap.size w W
  st : StBox W w.heap.size key A n c
  ab : MsBox W (w.heap.size + 1) m
  r : StBox W (w.heap.size + 2) ⟨#[]⟩ none 0 0
theorem ChW.on {w W W' : World} {key : ByteArray} {A : Option Addr} {n c : Nat} {m : Ms} (h : ChW w key A n c m W) (hb : Below W.heap.size W W') : ChW w key A n c m W' := ⟨h.b.trans (hb.mono h.b.size), h.st.on hb, h.ab.on hb, h.r.on hb⟩
theorem ChW.new (w : World) (key : ByteArray) (A : Option Addr) (n c : Nat) (m : Ms) : ChW w key A n c m (((w.alloc (.cells #[.string key, .slice A n c] 24)).alloc (.cells #[.int .u8 (m.kind.toNat : Int), .string m.key, .int .i64 m.txn, .int .i64 m.ts, .bool m.gone, .string m.val] 40)).alloc (.cells #[.string ⟨#[]⟩, .slice none 0 0] 24)) := by
  have b1 := below1 w (.cells #[.string key, .slice A n c] 24)
  have s1 := heap_size_alloc w (.cells #[.string key, .slice A n c] 24)
  have x1 := StBox.new w key A n c 24
  generalize w.alloc (.cells #[.string key, .slice A n c] 24) = w1 at *
  have b2 := below1 w1 (.cells #[.int .u8 (m.kind.toNat : Int), .string m.key, .int .i64 m.txn, .int .i64 m.ts, .bool m.gone, .string m.val] 40)
  have s2 := heap_size_alloc w1 (.cells #[.int .u8 (m.kind.toNat : Int), .string m.key, .int .i64 m.txn, .int .i64 m.ts, .bool m.gone, .string m.val] 40)
  have x2 := MsBox.new w1 m 40
  generalize w1.alloc (.cells #[.int .u8 (m.kind.toNat : Int), .string m.key, .int .i64 m.txn, .int .i64 m.ts, .bool m.gone, .string m.val] 40) = w2 at *
  have b3 := below1 w2 (.cells #[.string ⟨#[]⟩, .slice none 0 0] 24)
  have s3 := heap_size_alloc w2 (.cells #[.string ⟨#[]⟩, .slice none 0 0] 24)
  have x3 := StBox.new w2 ⟨#[]⟩ none 0 0 24
  generalize w2.alloc (.cells #[.string ⟨#[]⟩, .slice none 0 0] 24) = w3 at *
  have e1 : w1.heap.size = w.heap.size + 1 := s1
  have e2 : w2.heap.size = w.heap.size + 2 := by omega
  rw [e1] at x2
  rw [e2] at x3
  have b23 : Below w1.heap.size w1 w3 := b2.trans (b3.mono (by omega))
  exact ⟨b1.trans (b23.mono (by omega)), x1.on b23, x2.on b3, x3⟩
/-- What change tells: a stack in memory of its own, or the one that came in. -/
def ChPost (w : World) (key : ByteArray) (A : Option Addr) (L : List Vn) (e : Ending) (w' : World) : Prop :=
  ∃ A' c', e = .returned (.agg #[.string key, .slice A' L.length c']) ∧ L.length ≤ c' ∧ RG KV w' A' L ∧ (∀ ad, A' = some ad → A' = A ∨ w.heap.size ≤ ad.block) ∧ Below w.heap.size w w'
set_option maxHeartbeats 2000000 in
set_option maxRecDepth 100000 in
theorem mgChange_any (key : ByteArray) (A : Option Addr) (n c : Nat) (l : List Vn) (m : Ms) (w : World) (hl : l.length = n) (hn : n ≤ 1000) (hnc : n ≤ c) (hr : RG KV w A l) :
    Calls Try.prog 86 #[.agg #[.string key, .slice A n c], m.v] w (ChPost w key A (mgApply l m)) := by
  have K0 := Lib.hid (fun W (h : Below w.heap.size w W) => vsWrite_any key A n c l ⟨m.txn, 0, m.gone, m.val⟩ W hl hn (hr.below h))
  have K1 := Lib.hid (fun W (h : Below w.heap.size w W) => vsCommit_any key A n c l m.txn m.ts W hl hn (hr.below h))
  have K2 := Lib.hid (fun W (h : Below w.heap.size w W) => vsAbort_any key A n c l m.txn W hl hn (hr.below h))
  have K3 := Lib.hid (fun W (h : Below w.heap.size w W) => vsPrune_any key A n c l m.ts W hl hn (hr.below h))
  have KC := Lib.hid (fun W => mgCheck_any m W)
  have M := Lib.hid (ChW.new w key A n c m)
  have HM : Hid (mgApply l m = if checkM m = 0 then (if m.kind.toNat = 0 then vsWrite l ⟨m.txn, 0, m.gone, m.val⟩ else if m.kind.toNat = 1 then vsCommit l m.txn m.ts else if m.kind.toNat = 2 then vsAbort l m.txn else vsPrune l m.ts) else l) := Lib.hid rfl
  have HZ := Lib.hid (fun h => (checkM_zero (m := m) h).1)
  have HL := Lib.hid hl
  have HR := Lib.hid (fun W (h : Below w.heap.size w W) => hr.below h)
  have HNC := Lib.hid hnc
  unfold ChPost
  obtain ⟨R, hR⟩ : ∃ R, R = mgApply l m := ⟨_, rfl⟩
  rw [← hR] at HM ⊢
  unfold Ms.v Vn.v at *
  dsimp only at K0
  clear hR hl hr hnc
  by_cases h0 : checkM m = 0
  · have hk := HZ.out h0
    have HM := HM.out
    rw [if_pos h0] at HM
    rw [h0] at KC
    obtain ⟨kd, hkd⟩ : ∃ k, k = m.kind.toNat := ⟨_, rfl⟩
    rw [← hkd] at HM hk
    have HKD := Lib.hid hkd
    have hk4 : kd = 0 ∨ kd = 1 ∨ kd = 2 ∨ kd = 3 := by omega
    clear hkd hk h0 HZ
    rcases hk4 with rfl | rfl | rfl | rfl
    · have HV : Hid (R = vsWrite l ⟨m.txn, 0, m.gone, m.val⟩) := Lib.hid HM
      clear HM
      go_enter Try.func86, Try.ntmps86
      go_upto_region 1 with fail
      generalize ((w.alloc (.cells #[.string key, .slice A n c] 24)).alloc (.cells #[.int .u8 (m.kind.toNat : Int), .string m.key, .int .i64 m.txn, .int .i64 m.ts, .bool m.gone, .string m.val] 40)).alloc (.cells #[.string ⟨#[]⟩, .slice none 0 0] 24) = W0 at *
      have hkz : (m.kind.toNat : Int) = 0 := by rw [← HKD.out]; rfl
      have m0 := M.out.ab.c0; have m1 := M.out.ab.c1; have m2 := M.out.ab.c2; have m3 := M.out.ab.c3; have m4 := M.out.ab.c4; have m5 := M.out.ab.c5; have s0 := M.out.st.c0; have s1 := M.out.st.c1
      rw [hkz] at m0
      have KC := Lib.hid (fun W => (show Calls Try.prog 51 #[.agg #[.int .u8 0, .string m.key, .int .i64 m.txn, .int .i64 m.ts, .bool m.gone, .string m.val]] W (fun e w' => e = .returned (.int .i64 0) ∧ Below W.heap.size W w') from by have h := KC.out W; rw [hkz] at h; exact h))
      go_wp2_with (first
        | (go_at_call 51; refine (KC.out _).mono ?_; rintro e w1 ⟨rfl, b1⟩; have M := Lib.hid (M.out.on b1); have m0 := M.out.ab.c0; (rw [hkz] at m0); have m1 := M.out.ab.c1; have m2 := M.out.ab.c2; have m3 := M.out.ab.c3; have m4 := M.out.ab.c4; have m5 := M.out.ab.c5; have s0 := M.out.st.c0; have s1 := M.out.st.c1; clear b1)
        | (go_at_call 33; refine (K0.out _ M.out.b).mono ?_; rintro e w2 ⟨v2, rfl, o2, b2⟩; (rw [← HV.out] at o2); obtain ⟨A2, c2, e2, h21, h22, h23, h24⟩ := o2.rg; subst e2; have N2 := Lib.hid (show ∀ ad, A2 = some ad → w.heap.size ≤ ad.block from fun ad e => Nat.le_trans M.out.b.size (h24 ad e).2.1); have C2 := Lib.hid h21; have O2 := Lib.hid (o2.setSt M.out.r.lt key (.slice A2 R.length c2)); have B2 := Lib.hid (belowSetSt (q := w.heap.size + 2) (M.out.b.trans (b2.mono M.out.b.size)) (by omega) key (.slice A2 R.length c2)); have P2 := Lib.hid ((M.out.r.on b2).put key A2 R.length c2); have r0 := (M.out.r.on b2).c0; have r1 := (M.out.r.on b2).c1; have g0 := (M.out.r.on b2).f0; have g1 := (M.out.r.on b2).f1; clear o2 b2 h21 h22 h23 h24)
        | fail)
      have z0 := P2.out.c0; have z1 := P2.out.c1
      have o4 := O2.out; have b4 := B2.out
      unfold setSt at z0 z1 o4 b4
      refine bodyPost_ret (v := .agg #[.string key, .slice A2 R.length c2]) (by simp [results, Try.results86, go_sem, z0, z1]) rfl ⟨A2, c2, rfl, C2.out, ?_, fun ad e => .inr (N2.out ad e), b4⟩
      obtain ⟨A5, c5, e5, _, _, h53, _⟩ := o4.rg
      injection e5 with e51 _ _
      subst e51
      exact h53
    · have HV : Hid (R = vsCommit l m.txn m.ts) := Lib.hid HM
      clear HM
      go_enter Try.func86, Try.ntmps86
      go_upto_region 1 with fail
      generalize ((w.alloc (.cells #[.string key, .slice A n c] 24)).alloc (.cells #[.int .u8 (m.kind.toNat : Int), .string m.key, .int .i64 m.txn, .int .i64 m.ts, .bool m.gone, .string m.val] 40)).alloc (.cells #[.string ⟨#[]⟩, .slice none 0 0] 24) = W0 at *
      have hkz : (m.kind.toNat : Int) = 1 := by rw [← HKD.out]; rfl
      have m0 := M.out.ab.c0; have m1 := M.out.ab.c1; have m2 := M.out.ab.c2; have m3 := M.out.ab.c3; have m4 := M.out.ab.c4; have m5 := M.out.ab.c5; have s0 := M.out.st.c0; have s1 := M.out.st.c1
      rw [hkz] at m0
      have KC := Lib.hid (fun W => (show Calls Try.prog 51 #[.agg #[.int .u8 1, .string m.key, .int .i64 m.txn, .int .i64 m.ts, .bool m.gone, .string m.val]] W (fun e w' => e = .returned (.int .i64 0) ∧ Below W.heap.size W w') from by have h := KC.out W; rw [hkz] at h; exact h))
      go_wp2_with (first
        | (go_at_call 51; refine (KC.out _).mono ?_; rintro e w1 ⟨rfl, b1⟩; have M := Lib.hid (M.out.on b1); have m0 := M.out.ab.c0; (rw [hkz] at m0); have m1 := M.out.ab.c1; have m2 := M.out.ab.c2; have m3 := M.out.ab.c3; have m4 := M.out.ab.c4; have m5 := M.out.ab.c5; have s0 := M.out.st.c0; have s1 := M.out.st.c1; clear b1)
        | (go_at_call 34; refine (K1.out _ M.out.b).mono ?_; rintro e w2 ⟨v2, rfl, o2, b2⟩; (rw [← HV.out] at o2); obtain ⟨A2, c2, e2, h21, h22, h23, h24⟩ := o2.rg; subst e2; have N2 := Lib.hid (show ∀ ad, A2 = some ad → w.heap.size ≤ ad.block from fun ad e => Nat.le_trans M.out.b.size (h24 ad e).2.1); have C2 := Lib.hid h21; have O2 := Lib.hid (o2.setSt M.out.r.lt key (.slice A2 R.length c2)); have B2 := Lib.hid (belowSetSt (q := w.heap.size + 2) (M.out.b.trans (b2.mono M.out.b.size)) (by omega) key (.slice A2 R.length c2)); have P2 := Lib.hid ((M.out.r.on b2).put key A2 R.length c2); have r0 := (M.out.r.on b2).c0; have r1 := (M.out.r.on b2).c1; have g0 := (M.out.r.on b2).f0; have g1 := (M.out.r.on b2).f1; clear o2 b2 h21 h22 h23 h24)
        | fail)
      have z0 := P2.out.c0; have z1 := P2.out.c1
      have o4 := O2.out; have b4 := B2.out
      unfold setSt at z0 z1 o4 b4
      refine bodyPost_ret (v := .agg #[.string key, .slice A2 R.length c2]) (by simp [results, Try.results86, go_sem, z0, z1]) rfl ⟨A2, c2, rfl, C2.out, ?_, fun ad e => .inr (N2.out ad e), b4⟩
      obtain ⟨A5, c5, e5, _, _, h53, _⟩ := o4.rg
      injection e5 with e51 _ _
      subst e51
      exact h53
    · have HV : Hid (R = vsAbort l m.txn) := Lib.hid HM
      clear HM
      go_enter Try.func86, Try.ntmps86
      go_upto_region 1 with fail
      generalize ((w.alloc (.cells #[.string key, .slice A n c] 24)).alloc (.cells #[.int .u8 (m.kind.toNat : Int), .string m.key, .int .i64 m.txn, .int .i64 m.ts, .bool m.gone, .string m.val] 40)).alloc (.cells #[.string ⟨#[]⟩, .slice none 0 0] 24) = W0 at *
      have hkz : (m.kind.toNat : Int) = 2 := by rw [← HKD.out]; rfl
      have m0 := M.out.ab.c0; have m1 := M.out.ab.c1; have m2 := M.out.ab.c2; have m3 := M.out.ab.c3; have m4 := M.out.ab.c4; have m5 := M.out.ab.c5; have s0 := M.out.st.c0; have s1 := M.out.st.c1
      rw [hkz] at m0
      have KC := Lib.hid (fun W => (show Calls Try.prog 51 #[.agg #[.int .u8 2, .string m.key, .int .i64 m.txn, .int .i64 m.ts, .bool m.gone, .string m.val]] W (fun e w' => e = .returned (.int .i64 0) ∧ Below W.heap.size W w') from by have h := KC.out W; rw [hkz] at h; exact h))
      go_wp2_with (first
        | (go_at_call 51; refine (KC.out _).mono ?_; rintro e w1 ⟨rfl, b1⟩; have M := Lib.hid (M.out.on b1); have m0 := M.out.ab.c0; (rw [hkz] at m0); have m1 := M.out.ab.c1; have m2 := M.out.ab.c2; have m3 := M.out.ab.c3; have m4 := M.out.ab.c4; have m5 := M.out.ab.c5; have s0 := M.out.st.c0; have s1 := M.out.st.c1; clear b1)
        | (go_at_call 36; refine (K2.out _ M.out.b).mono ?_; rintro e w2 ⟨v2, rfl, o2, b2⟩; (rw [← HV.out] at o2); obtain ⟨A2, c2, e2, h21, h22, h23, h24⟩ := o2.rg; subst e2; have N2 := Lib.hid (show ∀ ad, A2 = some ad → w.heap.size ≤ ad.block from fun ad e => Nat.le_trans M.out.b.size (h24 ad e).2.1); have C2 := Lib.hid h21; have O2 := Lib.hid (o2.setSt M.out.r.lt key (.slice A2 R.length c2)); have B2 := Lib.hid (belowSetSt (q := w.heap.size + 2) (M.out.b.trans (b2.mono M.out.b.size)) (by omega) key (.slice A2 R.length c2)); have P2 := Lib.hid ((M.out.r.on b2).put key A2 R.length c2); have r0 := (M.out.r.on b2).c0; have r1 := (M.out.r.on b2).c1; have g0 := (M.out.r.on b2).f0; have g1 := (M.out.r.on b2).f1; clear o2 b2 h21 h22 h23 h24)
        | fail)
      have z0 := P2.out.c0; have z1 := P2.out.c1
      have o4 := O2.out; have b4 := B2.out
      unfold setSt at z0 z1 o4 b4
      refine bodyPost_ret (v := .agg #[.string key, .slice A2 R.length c2]) (by simp [results, Try.results86, go_sem, z0, z1]) rfl ⟨A2, c2, rfl, C2.out, ?_, fun ad e => .inr (N2.out ad e), b4⟩
      obtain ⟨A5, c5, e5, _, _, h53, _⟩ := o4.rg
      injection e5 with e51 _ _
      subst e51
      exact h53
    · have HV : Hid (R = vsPrune l m.ts) := Lib.hid HM
      clear HM
      go_enter Try.func86, Try.ntmps86
      go_upto_region 1 with fail
      generalize ((w.alloc (.cells #[.string key, .slice A n c] 24)).alloc (.cells #[.int .u8 (m.kind.toNat : Int), .string m.key, .int .i64 m.txn, .int .i64 m.ts, .bool m.gone, .string m.val] 40)).alloc (.cells #[.string ⟨#[]⟩, .slice none 0 0] 24) = W0 at *
      have hkz : (m.kind.toNat : Int) = 3 := by rw [← HKD.out]; rfl
      have m0 := M.out.ab.c0; have m1 := M.out.ab.c1; have m2 := M.out.ab.c2; have m3 := M.out.ab.c3; have m4 := M.out.ab.c4; have m5 := M.out.ab.c5; have s0 := M.out.st.c0; have s1 := M.out.st.c1
      rw [hkz] at m0
      have KC := Lib.hid (fun W => (show Calls Try.prog 51 #[.agg #[.int .u8 3, .string m.key, .int .i64 m.txn, .int .i64 m.ts, .bool m.gone, .string m.val]] W (fun e w' => e = .returned (.int .i64 0) ∧ Below W.heap.size W w') from by have h := KC.out W; rw [hkz] at h; exact h))
      go_wp2_with (first
        | (go_at_call 51; refine (KC.out _).mono ?_; rintro e w1 ⟨rfl, b1⟩; have M := Lib.hid (M.out.on b1); have m0 := M.out.ab.c0; (rw [hkz] at m0); have m1 := M.out.ab.c1; have m2 := M.out.ab.c2; have m3 := M.out.ab.c3; have m4 := M.out.ab.c4; have m5 := M.out.ab.c5; have s0 := M.out.st.c0; have s1 := M.out.st.c1; clear b1)
        | (go_at_call 28; refine (K3.out _ M.out.b).mono ?_; rintro e w2 ⟨v2, rfl, o2, b2⟩; (rw [← HV.out] at o2); obtain ⟨A2, c2, e2, h21, h22, h23, h24⟩ := o2.rg; subst e2; have N2 := Lib.hid (show ∀ ad, A2 = some ad → w.heap.size ≤ ad.block from fun ad e => Nat.le_trans M.out.b.size (h24 ad e).2.1); have C2 := Lib.hid h21; have O2 := Lib.hid (o2.setSt M.out.r.lt key (.slice A2 R.length c2)); have B2 := Lib.hid (belowSetSt (q := w.heap.size + 2) (M.out.b.trans (b2.mono M.out.b.size)) (by omega) key (.slice A2 R.length c2)); have P2 := Lib.hid ((M.out.r.on b2).put key A2 R.length c2); have r0 := (M.out.r.on b2).c0; have r1 := (M.out.r.on b2).c1; have g0 := (M.out.r.on b2).f0; have g1 := (M.out.r.on b2).f1; clear o2 b2 h21 h22 h23 h24)
        | fail)
      have z0 := P2.out.c0; have z1 := P2.out.c1
      have o4 := O2.out; have b4 := B2.out
      unfold setSt at z0 z1 o4 b4
      refine bodyPost_ret (v := .agg #[.string key, .slice A2 R.length c2]) (by simp [results, Try.results86, go_sem, z0, z1]) rfl ⟨A2, c2, rfl, C2.out, ?_, fun ad e => .inr (N2.out ad e), b4⟩
      obtain ⟨A5, c5, e5, _, _, h53, _⟩ := o4.rg
      injection e5 with e51 _ _
      subst e51
      exact h53
  · have HV : Hid (R = l) := Lib.hid (by rw [HM.out, if_neg h0])
    have d0 : ((checkM m : Int) != 0) = true := by simp; omega
    generalize checkM m = E at *
    clear h0 HZ HM
    have HV := HV.out
    subst HV
    go_enter Try.func86, Try.ntmps86
    go_upto_region 1 with fail
    generalize ((w.alloc (.cells #[.string key, .slice A n c] 24)).alloc (.cells #[.int .u8 (m.kind.toNat : Int), .string m.key, .int .i64 m.txn, .int .i64 m.ts, .bool m.gone, .string m.val] 40)).alloc (.cells #[.string ⟨#[]⟩, .slice none 0 0] 24) = W0 at *
    have m0 := M.out.ab.c0; have m1 := M.out.ab.c1; have m2 := M.out.ab.c2; have m3 := M.out.ab.c3; have m4 := M.out.ab.c4; have m5 := M.out.ab.c5
    go_wp2_with (go_at_call 51; refine (KC.out _).mono ?_; rintro e w1 ⟨rfl, b1⟩; have M := Lib.hid (M.out.on b1); have s0 := M.out.st.c0; have s1 := M.out.st.c1; have r0 := M.out.r.c0; have r1 := M.out.r.c1; have g0 := M.out.r.f0; have g1 := M.out.r.f1; have B2 := Lib.hid (belowSetSt (q := w.heap.size + 2) M.out.b (by omega) key (.slice A n c)); have P2 := Lib.hid (M.out.r.put key A n c); clear b1)
    have z0 := P2.out.c0; have z1 := P2.out.c1
    have b4 := B2.out
    unfold setSt at z0 z1 b4
    have HL := HL.out
    subst HL
    refine bodyPost_ret (v := .agg #[.string key, .slice A R.length c]) (by simp [results, Try.results86, go_sem, z0, z1]) rfl ⟨A, c, rfl, HNC.out, HR.out _ b4, fun ad e => .inl rfl, b4⟩
/-- The memory of Fold: the stack that changes, the result, the messages that are about its key. -/
structure FdW (w : World) (key : ByteArray) (A : Option Addr) (n c : Nat) (L : List Vn) (B : Option Addr) (F : List Ms) (W : World) : Prop where
  b : Below w.heap.size w W
  s : StBox W w.heap.size key A n c
  r : StBox W (w.heap.size + 1) ⟨#[]⟩ none 0 0
  g : RG KV W A L
  ga : ∀ ad, A = some ad → w.heap.size + 1 < ad.block
  ml : L.length = n
  nc : n ≤ c
  f : RG KM W B F
  fa : ∀ ad, B = some ad → w.heap.size + 1 < ad.block
theorem FdW.on {w W W' : World} {key : ByteArray} {A : Option Addr} {n c : Nat} {L : List Vn} {B : Option Addr} {F : List Ms} (h : FdW w key A n c L B F W) (hb : Below W.heap.size W W') : FdW w key A n c L B F W' :=
  ⟨h.b.trans (hb.mono h.b.size), h.s.on hb, h.r.on hb, h.g.below hb, h.ga, h.ml, h.nc, h.f.below hb, h.fa⟩
theorem FdW.lt {w W : World} {key : ByteArray} {A : Option Addr} {n c : Nat} {L : List Vn} {B : Option Addr} {F : List Ms} (h : FdW w key A n c L B F W) : w.heap.size + 1 < W.heap.size := h.r.lt
theorem FdW.next {w W W' : World} {key : ByteArray} {A A' : Option Addr} {n c c' : Nat} {L L' : List Vn} {B : Option Addr} {F : List Ms} (h : FdW w key A n c L B F W) (hb : Below W.heap.size W W') (hc : L'.length ≤ c') (g : RG KV W' A' L') (ga : ∀ ad, A' = some ad → A' = A ∨ W.heap.size ≤ ad.block) :
    FdW w key A' L'.length c' L' B F (setSt W' w.heap.size key (.slice A' L'.length c')) := by
  have h1 := h.on hb
  have hlt := h.lt
  have ga' : ∀ ad, A' = some ad → w.heap.size + 1 < ad.block := fun ad e => by
    rcases ga ad e with e2 | e2
    · exact h.ga ad (e2.symm.trans e)
    · omega
  exact ⟨belowSetSt h1.b (Nat.le_refl _) key _, h1.s.put key A' L'.length c', h1.r.offSt (by omega) key _, g.offK vn_flat (fun b hb => setSt_other W' _ key _ b hb) (fun ad e => by have := ga' ad e; omega), ga', rfl, hc, h1.f.offK ms_flat (fun b hb => setSt_other W' _ key _ b hb) (fun ad e => by have := h.fa ad e; omega), h.fa⟩
theorem FdW.new (w : World) (key : ByteArray) (A : Option Addr) (n c : Nat) : Below w.heap.size w ((w.alloc (.cells #[.string key, .slice A n c] 24)).alloc (.cells #[.string ⟨#[]⟩, .slice none 0 0] 24)) ∧ StBox ((w.alloc (.cells #[.string key, .slice A n c] 24)).alloc (.cells #[.string ⟨#[]⟩, .slice none 0 0] 24)) w.heap.size key A n c ∧ StBox ((w.alloc (.cells #[.string key, .slice A n c] 24)).alloc (.cells #[.string ⟨#[]⟩, .slice none 0 0] 24)) (w.heap.size + 1) ⟨#[]⟩ none 0 0 :=
  ⟨below2 w _ _, (StBox.new w key A n c 24).alloc _, by
    have := StBox.new (w.alloc (.cells #[.string key, .slice A n c] 24)) ⟨#[]⟩ none 0 0 24
    rw [heap_size_alloc] at this
    exact this⟩
theorem StBox.putL {W : World} {q : Nat} {key : ByteArray} {A : Option Addr} {n c : Nat} (h : StBox W q key A n c) (A' : Option Addr) (n' c' : Nat) : StBox (W.setCell ⟨q, 1, none⟩ (.slice A' n' c')) q key A' n' c' := by
  obtain ⟨a0, a1, f0, f1⟩ := h
  constructor <;> simp [World.cell?_setCell_other, World.cell?_setCell_same', a0, a1, f0, f1]
/-- What Fold tells. -/
def FoldPost (w : World) (key : ByteArray) (L : List Vn) (e : Ending) (w' : World) : Prop :=
  ∃ A' c', e = .returned (.agg #[.string key, .slice A' L.length c']) ∧ L.length ≤ c' ∧ RG KV w' A' L ∧ Below w.heap.size w w'
set_option maxHeartbeats 4000000 in
set_option maxRecDepth 100000 in
theorem mgFold_any (key : ByteArray) (A : Option Addr) (n c : Nat) (l : List Vn) (B : Option Addr) (m d : Nat) (ms : List Ms) (w : World) (hl : l.length = n) (hn : n ≤ 12) (hr : RG KV w A l) (hm : ms.length = m) (hm1 : m ≤ 1000) (hs : RG KM w B ms) :
    Calls Try.prog 47 #[.agg #[.string key, .slice A n c], .slice B m d] w (FoldPost w key (mgFold key l ms)) := by
  have KC := Lib.hid (fun W (h : Below w.heap.size w W) => vsClone_any A n c l W hl (by omega) (hr.below h))
  have KF := Lib.hid (fun W (h : Below w.heap.size w W) => mgFor_any B m d ms key W hm hm1 (hs.below h))
  have KD := Lib.hid (fun (W : World) (A : Option Addr) (n c : Nat) (L : List Vn) (x : Ms) (hL : L.length = n) (hn : n ≤ 12) (hc : n ≤ c) (h : RG KV W A L) => mgChange_any key A n c L x W hL (by omega) hc h)
  have N0 := Lib.hid (FdW.new w key A n c)
  have HFL : Hid ((ms.filter (mgAbout key)).length ≤ 1000) := Lib.hid (Nat.le_trans (List.filter_sublist (l := ms) (p := mgAbout key)).length_le (by omega))
  have HX : Hid (mgFold key l ms = (ms.filter (mgAbout key)).foldl mgApply l) := Lib.hid rfl
  have HT := Lib.hid (fun k => foldl_len ((ms.filter (mgAbout key)).take k) l (by omega))
  unfold FoldPost
  generalize ms.filter (mgAbout key) = F at *
  obtain ⟨R, hR⟩ : ∃ R, R = mgFold key l ms := ⟨_, rfl⟩
  rw [← hR] at HX ⊢
  have HL := Lib.hid hl
  have HN := Lib.hid hn
  clear hR hl hm hr hs
  go_enter Try.func47, Try.ntmps47
  go_upto_region 1 with fail
  generalize (w.alloc (.cells #[.string key, .slice A n c] 24)).alloc (.cells #[.string ⟨#[]⟩, .slice none 0 0] 24) = W0 at *
  have B0 := Lib.hid N0.out.1
  have S0 := Lib.hid N0.out.2.1
  have R0 := Lib.hid N0.out.2.2
  have s0 := S0.out.c0; have s1 := S0.out.c1
  go_upto_region 2 with (go_at_call 70; refine (KC.out _ B0.out).mono ?_; rintro e w1 ⟨v1, rfl, o1, b1⟩; obtain ⟨A1, c1, e1, h11, h12, h13, h14⟩ := o1.rg; (rw [HL.out] at e1 h11); subst e1; have B1 := Lib.hid (B0.out.trans (b1.mono B0.out.size)); have S1 := Lib.hid (S0.out.on b1); have R1 := Lib.hid (R0.out.on b1); have G1 := Lib.hid h13; have C1 := Lib.hid h11; have A1b := Lib.hid (show ∀ ad, A1 = some ad → w.heap.size + 1 < ad.block from fun ad e => by have := (h14 ad e).2.1; have := R0.out.lt; omega); have t1 := S1.out.c1; have t2 := S1.out.f1; clear o1 b1 h11 h12 h13 h14)
  clear s0 s1 t1 t2
  have B2 := Lib.hid (B1.out.setCell (p := ⟨w.heap.size, 1, none⟩) (Nat.le_refl _) (.slice A1 n c1))
  have S2 := Lib.hid (S1.out.putL A1 n c1)
  have R2 := Lib.hid (R1.out.off (p := w.heap.size) (by omega) 1 (.slice A1 n c1))
  have G2 := Lib.hid (G1.out.offK vn_flat (fun b hb => setCell_else w1 w.heap.size 1 (.slice A1 n c1) b hb) (fun ad e => by have := A1b.out ad e; omega))
  generalize w1.setCell ⟨w.heap.size, 1, none⟩ (.slice A1 n c1) = W2 at *
  have s0 := S2.out.c0; have s1 := S2.out.c1
  go_upto_region 3 with (go_at_call 49; refine (KF.out _ B2.out).mono ?_; rintro e w3 ⟨v3, rfl, o3, b3⟩; obtain ⟨B3, d3, e3, h31, h32, h33, h34⟩ := o3.rg; subst e3; have M3 : Hid (FdW w key A1 n c1 l B3 F w3) := Lib.hid ⟨B2.out.trans (b3.mono B2.out.size), S2.out.on b3, R2.out.on b3, G2.out.below b3, A1b.out, HL.out, C1.out, h33, fun ad e => by have := (h34 ad e).2.1; have := R2.out.lt; omega⟩; clear o3 b3 h31 h32 h33 h34)
  clear s0 s1 B0 S0 R0 B1 S1 R1 G1 B2 S2 R2 G2 A1b C1 N0
  have hF1 := HFL.out
  obtain ⟨N, hN⟩ : ∃ N, N = F.length := ⟨_, rfl⟩
  rw [← hN] at hF1 ⊢
  have HNF := Lib.hid hN
  clear hN
  go_loopw [16] (fun i wr => ∃ (k : Nat) (A' : Option Addr) (n' c' : Nat), k ≤ N ∧ i = .int .i64 (k : Int) ∧ FdW w key A' n' c' ((F.take k).foldl mgApply l) B3 F wr) (fun i _ => N - (intOf i).toNat)
  case atStart => exact ⟨0, A1, n, c1, Nat.zero_le _, rfl, M3.out⟩
  case round =>
    clear M3
    obtain ⟨k, A', n', c', hk, rfl, hM⟩ := hrel
    have HKL := Lib.hid (HT.out k)
    by_cases hlt : k < N
    · obtain ⟨x, hx⟩ : ∃ x, F[k]? = some x := ⟨F[k]'(by rw [← HNF.out]; exact hlt), List.getElem?_eq_getElem _⟩
      have HE : Hid ((F.take (k + 1)).foldl mgApply l = mgApply ((F.take k).foldl mgApply l) x) := Lib.hid (by rw [List.take_add_one, hx, Option.toList_some, mgFold_snoc key])
      generalize (F.take k).foldl mgApply l = L at *
      obtain ⟨L', hL'⟩ : ∃ L', L' = (F.take (k + 1)).foldl mgApply l := ⟨_, rfl⟩
      have HLL := Lib.hid hL'
      have HE := HE.out
      rw [← hL'] at HE
      clear hL'
      have M := Lib.hid hM
      obtain ⟨ad, rfl, hv⟩ := hM.f.ms hx
      have d0 := hv.d0; have d1 := hv.d1; have d2 := hv.d2; have d3 := hv.d3; have d4 := hv.d4; have d5 := hv.d5
      have KD := Lib.hid (fun (W : World) (h : RG KV W A' L) => KD.out W A' n' c' L x hM.ml (by have := HKL.out; have := hM.ml; omega) hM.nc h)
      unfold ChPost Ms.v at KD
      rw [← HE] at KD
      clear hM hv hx HE
      go_upto_region 5 with fail
      have M := Lib.hid (M.out.on (below1 wr (.cells #[.int .u8 (x.kind.toNat : Int), .string x.key, .int .i64 x.txn, .int .i64 x.ts, .bool x.gone, .string x.val] 40)))
      have X := Lib.hid (MsBox.new wr x 40)
      clear d0 d1 d2 d3 d4 d5
      generalize wr.alloc (.cells #[.int .u8 (x.kind.toNat : Int), .string x.key, .int .i64 x.txn, .int .i64 x.ts, .bool x.gone, .string x.val] 40) = W5 at *
      generalize wr.heap.size = q at *
      have s0 := M.out.s.c0; have s1 := M.out.s.c1; obtain ⟨x0, x1, x2, x3, x4, x5, _, _, _, _, _, _⟩ := X.out
      go_wp2_with (go_at_call 86; refine (KD.out _ M.out.g).mono ?_; rintro e w6 ⟨A6, c6, rfl, h61, h62, h63, b6⟩; have M6 := Lib.hid (M.out.on b6); have NX := Lib.hid (M.out.next b6 h61 h62 h63); have s0 := M6.out.s.c0; have s1 := M6.out.s.c1; have f0 := M6.out.s.f0; have f1 := M6.out.s.f1; clear h61 h62 h63 b6)
      go_roundw
      case rel => exact ⟨k + 1, A6, _, c6, by omega, by go_num, by rw [← HLL.out]; exact NX.out⟩
      case measure => simp [intOf]; omega
    · obtain rfl : k = N := by omega
      rw [List.take_of_length_le (by rw [HNF.out]; exact Nat.le_refl _), ← HX.out] at hM
      have M := Lib.hid hM
      have s0 := M.out.s.c0; have s1 := M.out.s.c1; have r0 := M.out.r.c0; have r1 := M.out.r.c1; have f0 := M.out.r.f0; have f1 := M.out.r.f1
      have ML := hM.ml
      clear hM HKL
      subst ML
      go_wp2
      have P := M.out.r.put key A' R.length c'
      have z0 := P.c0; have z1 := P.c1
      have b4 := belowSetSt (q := w.heap.size + 1) M.out.b (by omega) key (.slice A' R.length c')
      have g4 := M.out.g.offK vn_flat (fun b hb => setSt_other wr (w.heap.size + 1) key (.slice A' R.length c') b hb) (fun ad e => by have := M.out.ga ad e; omega)
      unfold setSt at z0 z1 b4 g4
      refine bodyPost_ret (v := .agg #[.string key, .slice A' R.length c']) (by simp [results, Try.results47, go_sem, z0, z1]) rfl ⟨A', c', rfl, M.out.nc, g4, b4⟩
end Go.Proofs.Ytjmmaghjbaigiaa
