/- The laws of stacks: a call, and which may be. -/
import Derived.Test.YtchfpgdioclajaaVsK
import Derived.Test.YtchfpgdioclajaaVsM
import Derived.Test.YtchfpgdioclajaaVsO
namespace Go.Proofs.Ytchfpgdioclajaa
open Go.RowKit
set_option linter.unusedVariables false
set_option linter.unusedSimpArgs false
def vsDo (k : Nat) (l : List Vn) (v : Vn) (s : Int) : List Vn := if k = 1 then vsCommit l v.txn s else if k = 2 then vsAbort l v.txn else if k = 3 then vsPrune l s else vsWrite l v
/-- A box that holds a call. -/
structure ABox (W : World) (q : Nat) (kd : Nat) (v : Vn) (s : Int) : Prop where
  c0 : W.cell? ⟨q, 0, none⟩ = some (.int .u8 (kd : Int))
  c1 : W.cell? ⟨q, 1, none⟩ = some (.int .i64 v.txn)
  c2 : W.cell? ⟨q, 2, none⟩ = some (.int .i64 v.ts)
  c3 : W.cell? ⟨q, 3, none⟩ = some (.bool v.gone)
  c4 : W.cell? ⟨q, 4, none⟩ = some (.string v.val)
  c5 : W.cell? ⟨q, 5, none⟩ = some (.int .i64 s)
theorem ABox.new (w : World) (kd : Nat) (v : Vn) (s : Int) (t : TypeId) : ABox (w.alloc (.cells #[.int .u8 (kd : Int), .int .i64 v.txn, .int .i64 v.ts, .bool v.gone, .string v.val, .int .i64 s] t)) w.heap.size kd v s := by constructor <;> simp
theorem ABox.lt {W : World} {q kd : Nat} {v : Vn} {s : Int} (h : ABox W q kd v s) : q < W.heap.size := lt_of_cell h.c0
theorem ABox.on {W W' : World} {q kd : Nat} {v : Vn} {s : Int} (h : ABox W q kd v s) (hb : Below W.heap.size W W') : ABox W' q kd v s :=
  ⟨(hb.cell (p := ⟨q, 0, none⟩) h.lt).trans h.c0, (hb.cell (p := ⟨q, 1, none⟩) h.lt).trans h.c1, (hb.cell (p := ⟨q, 2, none⟩) h.lt).trans h.c2, (hb.cell (p := ⟨q, 3, none⟩) h.lt).trans h.c3, (hb.cell (p := ⟨q, 4, none⟩) h.lt).trans h.c4, (hb.cell (p := ⟨q, 5, none⟩) h.lt).trans h.c5⟩
theorem ABox.drew {W : World} {q kd : Nat} {v : Vn} {s : Int} (h : ABox W q kd v s) : ABox W.drew q kd v s := ⟨h.c0, h.c1, h.c2, h.c3, h.c4, h.c5⟩
structure DoW (w : World) (key : ByteArray) (A : Option Addr) (n c : Nat) (kd : Nat) (v : Vn) (s : Int) (W : World) : Prop where
  b : Below w.heap.size w W
  st : StBox W w.heap.size key A n c
  ab : ABox W (w.heap.size + 1) kd v s
  r : StBox W (w.heap.size + 2) ⟨#[]⟩ none 0 0
theorem DoW.new (w : World) (key : ByteArray) (A : Option Addr) (n c : Nat) (kd : Nat) (v : Vn) (s : Int) : DoW w key A n c kd v s (((w.alloc (.cells #[.string key, .slice A n c] 24)).alloc (.cells #[.int .u8 (kd : Int), .int .i64 v.txn, .int .i64 v.ts, .bool v.gone, .string v.val, .int .i64 s] 28)).alloc (.cells #[.string ⟨#[]⟩, .slice none 0 0] 24)) := by
  have b1 := below1 w (.cells #[.string key, .slice A n c] 24)
  have s1 := heap_size_alloc w (.cells #[.string key, .slice A n c] 24)
  have x1 := StBox.new w key A n c 24
  generalize w.alloc (.cells #[.string key, .slice A n c] 24) = w1 at *
  have b2 := below1 w1 (.cells #[.int .u8 (kd : Int), .int .i64 v.txn, .int .i64 v.ts, .bool v.gone, .string v.val, .int .i64 s] 28)
  have s2 := heap_size_alloc w1 (.cells #[.int .u8 (kd : Int), .int .i64 v.txn, .int .i64 v.ts, .bool v.gone, .string v.val, .int .i64 s] 28)
  have x2 := ABox.new w1 kd v s 28
  generalize w1.alloc (.cells #[.int .u8 (kd : Int), .int .i64 v.txn, .int .i64 v.ts, .bool v.gone, .string v.val, .int .i64 s] 28) = w2 at *
  have b3 := below1 w2 (.cells #[.string ⟨#[]⟩, .slice none 0 0] 24)
  have s3 := heap_size_alloc w2 (.cells #[.string ⟨#[]⟩, .slice none 0 0] 24)
  have x3 := StBox.new w2 ⟨#[]⟩ none 0 0 24
  generalize w2.alloc (.cells #[.string ⟨#[]⟩, .slice none 0 0] 24) = w3 at *
  have e1 : w1.heap.size = w.heap.size + 1 := s1
  have e2 : w2.heap.size = w.heap.size + 2 := by omega
  rw [e1] at x2
  rw [e2] at x3
  have b23 : Below w1.heap.size w1 w3 := b2.trans (b3.mono (by omega))
  exact ⟨b1.trans (b23.mono (by omega)), x1.on b23, x2.on b3, x3⟩
theorem tmod4 (kd : Nat) : Int.tmod (kd : Int) 4 = ((kd % 4 : Nat) : Int) := by
  rw [Int.tmod_eq_emod_of_nonneg (by omega)]
  omega
set_option maxHeartbeats 1000000 in
set_option maxRecDepth 100000 in
theorem vsDo_any (key : ByteArray) (A : Option Addr) (n c : Nat) (l : List Vn) (kd : Nat) (v : Vn) (s : Int) (w : World) (hl : l.length = n) (hn : n ≤ 1000) (hkd : kd < 256) (hr : RG KV w A l) :
    Calls Try.prog 12 #[.agg #[.string key, .slice A n c], .agg #[.int .u8 (kd : Int), .int .i64 v.txn, .int .i64 v.ts, .bool v.gone, .string v.val, .int .i64 s]] w fun e w' => ∃ v', e = .returned (.agg #[.string key, v']) ∧ OG KV 26 w.heap.size w' v' (vsDo (kd % 4) l v s) ∧ Below w.heap.size w w' := by
  have K0 := Lib.hid (fun W (h : Below w.heap.size w W) => vsWrite_any key A n c l v W hl hn (hr.below h))
  have K1 := Lib.hid (fun W (h : Below w.heap.size w W) => vsCommit_any key A n c l v.txn s W hl hn (hr.below h))
  have K2 := Lib.hid (fun W (h : Below w.heap.size w W) => vsAbort_any key A n c l v.txn W hl hn (hr.below h))
  have K3 := Lib.hid (fun W (h : Below w.heap.size w W) => vsPrune_any key A n c l s W hl hn (hr.below h))
  have M := Lib.hid (DoW.new w key A n c kd v s)
  have ht := tmod4 kd
  have hw : IntKind.u8.wrap ((kd % 4 : Nat) : Int) = ((kd % 4 : Nat) : Int) := by rw [IntKind.wrap_u8]; omega
  have h4 : kd % 4 < 4 := Nat.mod_lt _ (by omega)
  obtain ⟨R, hR⟩ : ∃ R, R = vsDo (kd % 4) l v s := ⟨_, rfl⟩
  rw [← hR]
  have HR := Lib.hid hR
  unfold Vn.v at *
  generalize kd % 4 = m at *
  clear hR hl hr
  have hm : m = 0 ∨ m = 1 ∨ m = 2 ∨ m = 3 := by omega
  clear h4 hkd
  rcases hm with rfl | rfl | rfl | rfl
  · have HV : Hid (R = vsWrite l v) := Lib.hid HR.out
    clear HR
    replace ht : Int.tmod (kd : Int) 4 = 0 := ht
    replace hw : IntKind.u8.wrap (0 : Int) = 0 := hw
    go_enter Try.func12, Try.ntmps12
    go_upto_region 1 with fail
    generalize ((w.alloc (.cells #[.string key, .slice A n c] 24)).alloc (.cells #[.int .u8 (kd : Int), .int .i64 v.txn, .int .i64 v.ts, .bool v.gone, .string v.val, .int .i64 s] 28)).alloc (.cells #[.string ⟨#[]⟩, .slice none 0 0] 24) = W0 at *
    have s0 := M.out.st.c0; have s1 := M.out.st.c1; have a0 := M.out.ab.c0; have a1 := M.out.ab.c1; have a2 := M.out.ab.c2; have a3 := M.out.ab.c3; have a4 := M.out.ab.c4; have a5 := M.out.ab.c5
    go_wp2_with (first
      | (go_at_call 40; refine (K0.out _ M.out.b).mono ?_; rintro e w1 ⟨v1, rfl, o1, b1⟩; obtain ⟨A1, c1, e1, h11, h12, h13, h14⟩ := o1.rg; subst e1; have O1 := Lib.hid (o1.setSt M.out.r.lt key (.slice A1 (vsWrite l v).length c1)); have B1 := Lib.hid (belowSetSt (q := w.heap.size + 2) (M.out.b.trans (b1.mono M.out.b.size)) (by omega) key (.slice A1 (vsWrite l v).length c1)); have P1 := Lib.hid ((M.out.r.on b1).put key A1 (vsWrite l v).length c1); have r0 := (M.out.r.on b1).c0; have r1 := (M.out.r.on b1).c1; have g0 := (M.out.r.on b1).f0; have g1 := (M.out.r.on b1).f1; clear o1 b1 h11 h12 h13 h14)
      | fail)
    have z0 := P1.out.c0; have z1 := P1.out.c1
    have o4 := O1.out; have b4 := B1.out
    unfold setSt at z0 z1 o4 b4
    refine bodyPost_ret (v := .agg #[.string key, .slice A1 (vsWrite l v).length c1]) (by simp [results, Try.results12, go_sem, z0, z1]) rfl ⟨_, rfl, by rw [HV.out]; exact o4.lift M.out.b.size, b4⟩
  · have HV : Hid (R = vsCommit l v.txn s) := Lib.hid HR.out
    clear HR
    replace ht : Int.tmod (kd : Int) 4 = 1 := ht
    replace hw : IntKind.u8.wrap (1 : Int) = 1 := hw
    go_enter Try.func12, Try.ntmps12
    go_upto_region 1 with fail
    generalize ((w.alloc (.cells #[.string key, .slice A n c] 24)).alloc (.cells #[.int .u8 (kd : Int), .int .i64 v.txn, .int .i64 v.ts, .bool v.gone, .string v.val, .int .i64 s] 28)).alloc (.cells #[.string ⟨#[]⟩, .slice none 0 0] 24) = W0 at *
    have s0 := M.out.st.c0; have s1 := M.out.st.c1; have a0 := M.out.ab.c0; have a1 := M.out.ab.c1; have a2 := M.out.ab.c2; have a3 := M.out.ab.c3; have a4 := M.out.ab.c4; have a5 := M.out.ab.c5
    go_wp2_with (first
      | (go_at_call 41; refine (K1.out _ M.out.b).mono ?_; rintro e w1 ⟨v1, rfl, o1, b1⟩; obtain ⟨A1, c1, e1, h11, h12, h13, h14⟩ := o1.rg; subst e1; have O1 := Lib.hid (o1.setSt M.out.r.lt key (.slice A1 (vsCommit l v.txn s).length c1)); have B1 := Lib.hid (belowSetSt (q := w.heap.size + 2) (M.out.b.trans (b1.mono M.out.b.size)) (by omega) key (.slice A1 (vsCommit l v.txn s).length c1)); have P1 := Lib.hid ((M.out.r.on b1).put key A1 (vsCommit l v.txn s).length c1); have r0 := (M.out.r.on b1).c0; have r1 := (M.out.r.on b1).c1; have g0 := (M.out.r.on b1).f0; have g1 := (M.out.r.on b1).f1; clear o1 b1 h11 h12 h13 h14)
      | fail)
    have z0 := P1.out.c0; have z1 := P1.out.c1
    have o4 := O1.out; have b4 := B1.out
    unfold setSt at z0 z1 o4 b4
    refine bodyPost_ret (v := .agg #[.string key, .slice A1 (vsCommit l v.txn s).length c1]) (by simp [results, Try.results12, go_sem, z0, z1]) rfl ⟨_, rfl, by rw [HV.out]; exact o4.lift M.out.b.size, b4⟩
  · have HV : Hid (R = vsAbort l v.txn) := Lib.hid HR.out
    clear HR
    replace ht : Int.tmod (kd : Int) 4 = 2 := ht
    replace hw : IntKind.u8.wrap (2 : Int) = 2 := hw
    go_enter Try.func12, Try.ntmps12
    go_upto_region 1 with fail
    generalize ((w.alloc (.cells #[.string key, .slice A n c] 24)).alloc (.cells #[.int .u8 (kd : Int), .int .i64 v.txn, .int .i64 v.ts, .bool v.gone, .string v.val, .int .i64 s] 28)).alloc (.cells #[.string ⟨#[]⟩, .slice none 0 0] 24) = W0 at *
    have s0 := M.out.st.c0; have s1 := M.out.st.c1; have a0 := M.out.ab.c0; have a1 := M.out.ab.c1; have a2 := M.out.ab.c2; have a3 := M.out.ab.c3; have a4 := M.out.ab.c4; have a5 := M.out.ab.c5
    go_wp2_with (first
      | (go_at_call 43; refine (K2.out _ M.out.b).mono ?_; rintro e w1 ⟨v1, rfl, o1, b1⟩; obtain ⟨A1, c1, e1, h11, h12, h13, h14⟩ := o1.rg; subst e1; have O1 := Lib.hid (o1.setSt M.out.r.lt key (.slice A1 (vsAbort l v.txn).length c1)); have B1 := Lib.hid (belowSetSt (q := w.heap.size + 2) (M.out.b.trans (b1.mono M.out.b.size)) (by omega) key (.slice A1 (vsAbort l v.txn).length c1)); have P1 := Lib.hid ((M.out.r.on b1).put key A1 (vsAbort l v.txn).length c1); have r0 := (M.out.r.on b1).c0; have r1 := (M.out.r.on b1).c1; have g0 := (M.out.r.on b1).f0; have g1 := (M.out.r.on b1).f1; clear o1 b1 h11 h12 h13 h14)
      | fail)
    have z0 := P1.out.c0; have z1 := P1.out.c1
    have o4 := O1.out; have b4 := B1.out
    unfold setSt at z0 z1 o4 b4
    refine bodyPost_ret (v := .agg #[.string key, .slice A1 (vsAbort l v.txn).length c1]) (by simp [results, Try.results12, go_sem, z0, z1]) rfl ⟨_, rfl, by rw [HV.out]; exact o4.lift M.out.b.size, b4⟩
  · have HV : Hid (R = vsPrune l s) := Lib.hid HR.out
    clear HR
    replace ht : Int.tmod (kd : Int) 4 = 3 := ht
    replace hw : IntKind.u8.wrap (3 : Int) = 3 := hw
    go_enter Try.func12, Try.ntmps12
    go_upto_region 1 with fail
    generalize ((w.alloc (.cells #[.string key, .slice A n c] 24)).alloc (.cells #[.int .u8 (kd : Int), .int .i64 v.txn, .int .i64 v.ts, .bool v.gone, .string v.val, .int .i64 s] 28)).alloc (.cells #[.string ⟨#[]⟩, .slice none 0 0] 24) = W0 at *
    have s0 := M.out.st.c0; have s1 := M.out.st.c1; have a0 := M.out.ab.c0; have a1 := M.out.ab.c1; have a2 := M.out.ab.c2; have a3 := M.out.ab.c3; have a4 := M.out.ab.c4; have a5 := M.out.ab.c5
    go_wp2_with (first
      | (go_at_call 42; refine (K3.out _ M.out.b).mono ?_; rintro e w1 ⟨v1, rfl, o1, b1⟩; obtain ⟨A1, c1, e1, h11, h12, h13, h14⟩ := o1.rg; subst e1; have O1 := Lib.hid (o1.setSt M.out.r.lt key (.slice A1 (vsPrune l s).length c1)); have B1 := Lib.hid (belowSetSt (q := w.heap.size + 2) (M.out.b.trans (b1.mono M.out.b.size)) (by omega) key (.slice A1 (vsPrune l s).length c1)); have P1 := Lib.hid ((M.out.r.on b1).put key A1 (vsPrune l s).length c1); have r0 := (M.out.r.on b1).c0; have r1 := (M.out.r.on b1).c1; have g0 := (M.out.r.on b1).f0; have g1 := (M.out.r.on b1).f1; clear o1 b1 h11 h12 h13 h14)
      | fail)
    have z0 := P1.out.c0; have z1 := P1.out.c1
    have o4 := O1.out; have b4 := B1.out
    unfold setSt at z0 z1 o4 b4
    refine bodyPost_ret (v := .agg #[.string key, .slice A1 (vsPrune l s).length c1]) (by simp [results, Try.results12, go_sem, z0, z1]) rfl ⟨_, rfl, by rw [HV.out]; exact o4.lift M.out.b.size, b4⟩
def vsMay (v : Vn) (s : Int) : Bool := decide (v.val.size ≤ 24) && (!v.gone || decide (v.val = ⟨#[]⟩)) && decide (0 ≤ v.txn) && decide (v.txn ≤ 1099511627776) && decide (0 ≤ s) && decide (s ≤ 1099511627776)
theorem vsMay_iff {v : Vn} {s : Int} : vsMay v s = true ↔ vsFault { v with ts := 0 } = 0 ∧ 0 ≤ s ∧ s ≤ 1099511627776 := by
  rw [vsFault_zero]
  simp only [vsMay, Bool.and_eq_true, decide_eq_true_eq, Bool.or_eq_true, Bool.not_eq_true']
  constructor
  · rintro ⟨⟨⟨⟨⟨h1, h2⟩, h3⟩, h4⟩, h5⟩, h6⟩
    refine ⟨⟨h1, fun hg => ?_, ⟨h3, h4⟩, by omega, by omega⟩, h5, h6⟩
    rcases h2 with h2 | h2
    · rw [hg] at h2; cases h2
    · exact h2
  · rintro ⟨⟨h1, h2, ⟨h3, h4⟩, _⟩, h5, h6⟩
    refine ⟨⟨⟨⟨⟨h1, ?_⟩, h3⟩, h4⟩, h5⟩, h6⟩
    cases hg : v.gone with
    | false => exact .inl rfl
    | true => exact .inr (h2 hg)
end Go.Proofs.Ytchfpgdioclajaa
