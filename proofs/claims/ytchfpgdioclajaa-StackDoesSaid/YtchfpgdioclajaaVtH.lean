/- The laws of stacks: what a call is to make. -/
import Derived.Test.YtchfpgdioclajaaVsL
import Derived.Test.YtchfpgdioclajaaVtC
import Derived.Test.YtchfpgdioclajaaVtD
import Derived.Test.YtchfpgdioclajaaVtF
namespace Go.Proofs.Ytchfpgdioclajaa
open Go.RowKit
set_option linter.unusedVariables false
set_option linter.unusedSimpArgs false
set_option maxHeartbeats 1000000 in
set_option maxRecDepth 100000 in
theorem refWant_any (key : ByteArray) (A : Option Addr) (n c : Nat) (l : List Vn) (kd : Nat) (v : Vn) (s : Int) (w : World) (hl : l.length = n) (hn : n ≤ 1000) (hnc : n ≤ c) (hkd : kd < 256) (hr : RG KV w A l) :
    Calls Try.prog 14 #[.agg #[.string key, .slice A n c], .agg #[.int .u8 (kd : Int), .int .i64 v.txn, .int .i64 v.ts, .bool v.gone, .string v.val, .int .i64 s]] w fun e w' => ∃ v', e = .returned (.agg #[.string key, v']) ∧ OG KV 26 w.heap.size w' v' (vsDo (kd % 4) l v s) ∧ Below w.heap.size w w' := by
  have K0 := Lib.hid (fun W (h : Below w.heap.size w W) => refWrite_any key A n c l v W hl hn (hr.below h))
  have K1 := Lib.hid (fun W (h : Below w.heap.size w W) => refCommit_any key A n c l v.txn s W hl hn hnc (hr.below h))
  have K2 := Lib.hid (fun W (h : Below w.heap.size w W) => refAbort_any key A n c l v.txn W hl hn (hr.below h))
  have K3 := Lib.hid (fun W (h : Below w.heap.size w W) => refPrune_any key A n c l s W hl hn (hr.below h))
  have M := Lib.hid (DoW.new w key A n c kd v s)
  have ht := tmod4 kd
  have hw : IntKind.u8.wrap ((kd % 4 : Nat) : Int) = ((kd % 4 : Nat) : Int) := by rw [IntKind.wrap_u8]; omega
  have h4 : kd % 4 < 4 := Nat.mod_lt _ (by omega)
  obtain ⟨R, hR⟩ : ∃ R, R = vsDo (kd % 4) l v s := ⟨_, rfl⟩
  rw [← hR]
  have HR := Lib.hid hR
  unfold Vn.v at *
  generalize kd % 4 = m at *
  clear hR hl hr
  have hm : m = 0 ∨ m = 1 ∨ m = 2 ∨ m = 3 := by omega
  clear h4 hkd
  rcases hm with rfl | rfl | rfl | rfl
  · have HV : Hid (R = vsWrite l v) := Lib.hid HR.out
    clear HR
    replace ht : Int.tmod (kd : Int) 4 = 0 := ht
    replace hw : IntKind.u8.wrap (0 : Int) = 0 := hw
    go_enter Try.func14, Try.ntmps14
    go_upto_region 1 with fail
    generalize ((w.alloc (.cells #[.string key, .slice A n c] 24)).alloc (.cells #[.int .u8 (kd : Int), .int .i64 v.txn, .int .i64 v.ts, .bool v.gone, .string v.val, .int .i64 s] 28)).alloc (.cells #[.string ⟨#[]⟩, .slice none 0 0] 24) = W0 at *
    have s0 := M.out.st.c0; have s1 := M.out.st.c1; have a0 := M.out.ab.c0; have a1 := M.out.ab.c1; have a2 := M.out.ab.c2; have a3 := M.out.ab.c3; have a4 := M.out.ab.c4; have a5 := M.out.ab.c5
    go_wp2_with (first
      | (go_at_call 47; refine (K0.out _ M.out.b).mono ?_; rintro e w1 ⟨v1, rfl, o1, b1⟩; obtain ⟨A1, c1, e1, h11, h12, h13, h14⟩ := o1.rg; subst e1; have O1 := Lib.hid (o1.setSt M.out.r.lt key (.slice A1 (vsWrite l v).length c1)); have B1 := Lib.hid (belowSetSt (q := w.heap.size + 2) (M.out.b.trans (b1.mono M.out.b.size)) (by omega) key (.slice A1 (vsWrite l v).length c1)); have P1 := Lib.hid ((M.out.r.on b1).put key A1 (vsWrite l v).length c1); have r0 := (M.out.r.on b1).c0; have r1 := (M.out.r.on b1).c1; have g0 := (M.out.r.on b1).f0; have g1 := (M.out.r.on b1).f1; clear o1 b1 h11 h12 h13 h14)
      | fail)
    have z0 := P1.out.c0; have z1 := P1.out.c1
    have o4 := O1.out; have b4 := B1.out
    unfold setSt at z0 z1 o4 b4
    refine bodyPost_ret (v := .agg #[.string key, .slice A1 (vsWrite l v).length c1]) (by simp [results, Try.results14, go_sem, z0, z1]) rfl ⟨_, rfl, by rw [HV.out]; exact o4.lift M.out.b.size, b4⟩
  · have HV : Hid (R = vsCommit l v.txn s) := Lib.hid HR.out
    clear HR
    replace ht : Int.tmod (kd : Int) 4 = 1 := ht
    replace hw : IntKind.u8.wrap (1 : Int) = 1 := hw
    go_enter Try.func14, Try.ntmps14
    go_upto_region 1 with fail
    generalize ((w.alloc (.cells #[.string key, .slice A n c] 24)).alloc (.cells #[.int .u8 (kd : Int), .int .i64 v.txn, .int .i64 v.ts, .bool v.gone, .string v.val, .int .i64 s] 28)).alloc (.cells #[.string ⟨#[]⟩, .slice none 0 0] 24) = W0 at *
    have s0 := M.out.st.c0; have s1 := M.out.st.c1; have a0 := M.out.ab.c0; have a1 := M.out.ab.c1; have a2 := M.out.ab.c2; have a3 := M.out.ab.c3; have a4 := M.out.ab.c4; have a5 := M.out.ab.c5
    go_wp2_with (first
      | (go_at_call 44; refine (K1.out _ M.out.b).mono ?_; rintro e w1 ⟨v1, rfl, o1, b1⟩; obtain ⟨A1, c1, e1, h11, h12, h13, h14⟩ := o1.rg; subst e1; have O1 := Lib.hid (o1.setSt M.out.r.lt key (.slice A1 (vsCommit l v.txn s).length c1)); have B1 := Lib.hid (belowSetSt (q := w.heap.size + 2) (M.out.b.trans (b1.mono M.out.b.size)) (by omega) key (.slice A1 (vsCommit l v.txn s).length c1)); have P1 := Lib.hid ((M.out.r.on b1).put key A1 (vsCommit l v.txn s).length c1); have r0 := (M.out.r.on b1).c0; have r1 := (M.out.r.on b1).c1; have g0 := (M.out.r.on b1).f0; have g1 := (M.out.r.on b1).f1; clear o1 b1 h11 h12 h13 h14)
      | fail)
    have z0 := P1.out.c0; have z1 := P1.out.c1
    have o4 := O1.out; have b4 := B1.out
    unfold setSt at z0 z1 o4 b4
    refine bodyPost_ret (v := .agg #[.string key, .slice A1 (vsCommit l v.txn s).length c1]) (by simp [results, Try.results14, go_sem, z0, z1]) rfl ⟨_, rfl, by rw [HV.out]; exact o4.lift M.out.b.size, b4⟩
  · have HV : Hid (R = vsAbort l v.txn) := Lib.hid HR.out
    clear HR
    replace ht : Int.tmod (kd : Int) 4 = 2 := ht
    replace hw : IntKind.u8.wrap (2 : Int) = 2 := hw
    go_enter Try.func14, Try.ntmps14
    go_upto_region 1 with fail
    generalize ((w.alloc (.cells #[.string key, .slice A n c] 24)).alloc (.cells #[.int .u8 (kd : Int), .int .i64 v.txn, .int .i64 v.ts, .bool v.gone, .string v.val, .int .i64 s] 28)).alloc (.cells #[.string ⟨#[]⟩, .slice none 0 0] 24) = W0 at *
    have s0 := M.out.st.c0; have s1 := M.out.st.c1; have a0 := M.out.ab.c0; have a1 := M.out.ab.c1; have a2 := M.out.ab.c2; have a3 := M.out.ab.c3; have a4 := M.out.ab.c4; have a5 := M.out.ab.c5
    go_wp2_with (first
      | (go_at_call 45; refine (K2.out _ M.out.b).mono ?_; rintro e w1 ⟨v1, rfl, o1, b1⟩; obtain ⟨A1, c1, e1, h11, h12, h13, h14⟩ := o1.rg; subst e1; have O1 := Lib.hid (o1.setSt M.out.r.lt key (.slice A1 (vsAbort l v.txn).length c1)); have B1 := Lib.hid (belowSetSt (q := w.heap.size + 2) (M.out.b.trans (b1.mono M.out.b.size)) (by omega) key (.slice A1 (vsAbort l v.txn).length c1)); have P1 := Lib.hid ((M.out.r.on b1).put key A1 (vsAbort l v.txn).length c1); have r0 := (M.out.r.on b1).c0; have r1 := (M.out.r.on b1).c1; have g0 := (M.out.r.on b1).f0; have g1 := (M.out.r.on b1).f1; clear o1 b1 h11 h12 h13 h14)
      | fail)
    have z0 := P1.out.c0; have z1 := P1.out.c1
    have o4 := O1.out; have b4 := B1.out
    unfold setSt at z0 z1 o4 b4
    refine bodyPost_ret (v := .agg #[.string key, .slice A1 (vsAbort l v.txn).length c1]) (by simp [results, Try.results14, go_sem, z0, z1]) rfl ⟨_, rfl, by rw [HV.out]; exact o4.lift M.out.b.size, b4⟩
  · have HV : Hid (R = vsPrune l s) := Lib.hid HR.out
    clear HR
    replace ht : Int.tmod (kd : Int) 4 = 3 := ht
    replace hw : IntKind.u8.wrap (3 : Int) = 3 := hw
    go_enter Try.func14, Try.ntmps14
    go_upto_region 1 with fail
    generalize ((w.alloc (.cells #[.string key, .slice A n c] 24)).alloc (.cells #[.int .u8 (kd : Int), .int .i64 v.txn, .int .i64 v.ts, .bool v.gone, .string v.val, .int .i64 s] 28)).alloc (.cells #[.string ⟨#[]⟩, .slice none 0 0] 24) = W0 at *
    have s0 := M.out.st.c0; have s1 := M.out.st.c1; have a0 := M.out.ab.c0; have a1 := M.out.ab.c1; have a2 := M.out.ab.c2; have a3 := M.out.ab.c3; have a4 := M.out.ab.c4; have a5 := M.out.ab.c5
    go_wp2_with (first
      | (go_at_call 46; refine (K3.out _ M.out.b).mono ?_; rintro e w1 ⟨v1, rfl, o1, b1⟩; obtain ⟨A1, c1, e1, h11, h12, h13, h14⟩ := o1.rg; subst e1; have O1 := Lib.hid (o1.setSt M.out.r.lt key (.slice A1 (vsPrune l s).length c1)); have B1 := Lib.hid (belowSetSt (q := w.heap.size + 2) (M.out.b.trans (b1.mono M.out.b.size)) (by omega) key (.slice A1 (vsPrune l s).length c1)); have P1 := Lib.hid ((M.out.r.on b1).put key A1 (vsPrune l s).length c1); have r0 := (M.out.r.on b1).c0; have r1 := (M.out.r.on b1).c1; have g0 := (M.out.r.on b1).f0; have g1 := (M.out.r.on b1).f1; clear o1 b1 h11 h12 h13 h14)
      | fail)
    have z0 := P1.out.c0; have z1 := P1.out.c1
    have o4 := O1.out; have b4 := B1.out
    unfold setSt at z0 z1 o4 b4
    refine bodyPost_ret (v := .agg #[.string key, .slice A1 (vsPrune l s).length c1]) (by simp [results, Try.results14, go_sem, z0, z1]) rfl ⟨_, rfl, by rw [HV.out]; exact o4.lift M.out.b.size, b4⟩
end Go.Proofs.Ytchfpgdioclajaa
