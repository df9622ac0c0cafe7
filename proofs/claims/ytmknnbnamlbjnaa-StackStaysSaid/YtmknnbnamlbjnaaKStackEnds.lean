/- The walk of the law StackEnds. -/
import Derived.Test.YtmknnbnamlbjnaaVsZ
import Derived.Deep.DeepMust
namespace Go.Proofs.Ytmknnbnamlbjnaa
open Go.RowKit
set_option linter.unusedVariables false
set_option linter.unusedSimpArgs false
theorem vsCount_snoc {l m : List Vn} {k : Nat} {x : Vn} (h : l[k]? = some x) : vsCount (l.take (k + 1)) m = vsCount (l.take k) m + if x ∈ m then 1 else 0 := by
  unfold vsCount
  rw [List.take_add_one, h, Option.toList_some, List.countP_append, List.countP_singleton]
  by_cases e : x ∈ m <;> simp [e]
/-- A stack in a box, with its row. -/
structure RowB (W : World) (q : Nat) (key : ByteArray) (A : Option Addr) (n c : Nat) (l : List Vn) : Prop where
  s : StBox W q key A n c
  r : RG KV W A l
  ln : l.length = n
theorem RowB.on {W W' : World} {q : Nat} {key : ByteArray} {A : Option Addr} {n c : Nat} {l : List Vn} (h : RowB W q key A n c l) (hb : Below W.heap.size W W') : RowB W' q key A n c l := ⟨h.s.on hb, h.r.below hb, h.ln⟩
theorem RowB.alloc {W : World} {q : Nat} {key : ByteArray} {A : Option Addr} {n c : Nat} {l : List Vn} (h : RowB W q key A n c l) (o : Obj) : RowB (W.alloc o) q key A n c l := h.on (below1 W o)
theorem RowB.new {W : World} {key : ByteArray} {A : Option Addr} {n c : Nat} {l : List Vn} (hr : RG KV W A l) (hl : l.length = n) : RowB (W.alloc (.cells #[.string key, .slice A n c] 24)) W.heap.size key A n c l := ⟨StBox.new W key A n c _, hr.alloc _, hl⟩
theorem stkCalls' {f : FuncId} {args : Array Value} {W : World} {key : ByteArray} {l : List Vn} (h : Calls Try.prog f args W fun e w' => ∃ v', e = .returned (.agg #[.string key, v']) ∧ OG KV 26 W.heap.size w' v' l ∧ Below W.heap.size W w') :
    Calls Try.prog f args W fun e w' => ∃ A n c, e = .returned (.agg #[.string key, .slice A n c]) ∧ l.length = n ∧ n ≤ c ∧ RG KV w' A l ∧ Below W.heap.size W w' := by
  refine h.mono ?_
  rintro e w' ⟨v', rfl, o, b⟩
  obtain ⟨A, c, rfl, h1, h2, h3, _⟩ := o.rg
  exact ⟨A, _, c, rfl, rfl, h1, h3, b⟩
set_option maxHeartbeats 8000000 in
set_option maxRecDepth 100000 in
theorem stackEnds_core (key : ByteArray) (A : Option Addr) (n c : Nat) (l : List Vn) (v : Vn) (ts : Nat) (w : World) (hl : l.length = n) (hn : n ≤ maxLen) (hnc : n ≤ c) (hr : RG KV w A l) (hts : ts < 4294967296) :
    Calls Try.prog 6 #[.agg #[.string key, .slice A n c], v.v, .int .u32 (ts : Int)] w fun e w' => e = .returned (.bool true) ∧ Below w.heap.size w w' := by
  have KA := Lib.hid (fun W => vsAwake_any W)
  have KL := Lib.hid (fun W (h : Below w.heap.size w W) => vsLight_any key A n c l W hl hn (hr.below h))
  have HB := Lib.hid (below2 w (.cells #[.string key, .slice A n c] 24) (.cells #[.int .i64 v.txn, .int .i64 v.ts, .bool v.gone, .string v.val] 26))
  have S := Lib.hid (((RowB.new (key := key) (c := c) hr hl).on (below1 _ (.cells #[.int .i64 v.txn, .int .i64 v.ts, .bool v.gone, .string v.val] 26))))
  have V : Hid (VnBox ((w.alloc (.cells #[.string key, .slice A n c] 24)).alloc (.cells #[.int .i64 v.txn, .int .i64 v.ts, .bool v.gone, .string v.val] 26)) (w.heap.size + 1) v) := Lib.hid (by
    have := VnBox.new (w.alloc (.cells #[.string key, .slice A n c] 24)) v 26
    rw [heap_size_alloc] at this
    exact this)
  cases hlt : vsLight key l with
  | false =>
    rw [hlt] at KL
    clear hlt hl hn hr hts
    unfold Vn.v
    go_enter Try.func6, Try.ntmps6
    go_upto_region 1 with fail
    generalize (w.alloc (.cells #[.string key, .slice A n c] 24)).alloc (.cells #[.int .i64 v.txn, .int .i64 v.ts, .bool v.gone, .string v.val] 26) = W0 at *
    have s0 := S.out.s.c0; have s1 := S.out.s.c1
    go_wp2_with (first
      | (go_at_call 7; refine (KL.out _ HB.out).mono ?_; rintro e w1 ⟨rfl, b1⟩; have HB := Lib.hid (HB.out.trans (b1.mono HB.out.size)); clear b1)
      | (go_at_call 8; refine (KA.out _).mono ?_; rintro e w2 ⟨rfl, b2⟩; have HB := Lib.hid (HB.out.trans (b2.mono HB.out.size)); clear b2)
      | fail)
    go_ret
    exact ⟨rfl, HB.out⟩
  | true =>
    rw [hlt] at KL
    obtain ⟨k1, k2, k3⟩ := vsLight_at hlt
    have hn12 : n ≤ 12 := by omega
    have KC := Lib.hid (fun W (h : Below w.heap.size w W) => vsCheck_any key A n c l W hl (by omega) hnc (hr.below h))
    clear hlt k1 k2 k3 hn
    by_cases h24 : 24 < v.val.size
    · have h24' : decide ((24 : Int) < (v.val.size : Int)) = true := by simp; omega
      clear hl hr hts h24
      unfold Vn.v
      go_enter Try.func6, Try.ntmps6
      go_upto_region 1 with fail
      generalize (w.alloc (.cells #[.string key, .slice A n c] 24)).alloc (.cells #[.int .i64 v.txn, .int .i64 v.ts, .bool v.gone, .string v.val] 26) = W0 at *
      have s0 := S.out.s.c0; have s1 := S.out.s.c1
      go_wp2_with (first
        | (go_at_call 7; refine (KL.out _ HB.out).mono ?_; rintro e w1 ⟨rfl, b1⟩; have v3 := (V.out.on b1).c3; have HB := Lib.hid (HB.out.trans (b1.mono HB.out.size)); clear b1)
        | (go_at_call 8; refine (KA.out _).mono ?_; rintro e w2 ⟨rfl, b2⟩; have HB := Lib.hid (HB.out.trans (b2.mono HB.out.size)); clear b2)
        | fail)
      go_ret
      exact ⟨rfl, HB.out⟩
    · have h24' : decide ((24 : Int) < (v.val.size : Int)) = false := by simp; omega
      clear h24
      by_cases hck : vsCheck key l = 0
      · have HC := Lib.hid (vsCheck_zero.1 hck)
        rw [hck] at KC
        clear hck
        have P1 := Lib.hid (fun (W : World) (A : Option Addr) (n c : Nat) (q : Nat) (L : List Vn) (h : RowB W q key A n c L) (hn : n ≤ 20) => vsPendingT_any key A n c L v.txn W h.ln (by omega) h.r)
        have P2 := Lib.hid (fun (W : World) (A : Option Addr) (n c : Nat) (q : Nat) (L : List Vn) (h : RowB W q key A n c L) (hn : n ≤ 20) => stkCalls' (vsWrite_any key A n c L v W h.ln (by omega) h.r))
        have P3 := Lib.hid (fun (W : World) (A : Option Addr) (n c : Nat) (q : Nat) (L : List Vn) (h : RowB W q key A n c L) (hn : n ≤ 20) => stkCalls' (vsCommit_any key A n c L v.txn (1 + (ts : Int)) W h.ln (by omega) h.r))
        have P4 := Lib.hid (fun (W : World) (A : Option Addr) (n c : Nat) (q : Nat) (L : List Vn) (h : RowB W q key A n c L) (hn : n ≤ 20) => stkCalls' (vsAbort_any key A n c L v.txn W h.ln (by omega) h.r))
        have P5 := Lib.hid (fun (W : World) (A B : Option Addr) (n c m d p q : Nat) (L M : List Vn) (h : RowB W p key A n c L) (g : RowB W q key B m d M) (hn : n ≤ 20) => vsSame_any key key A B n m c d L M W h.ln g.ln (by omega) h.r g.r)
        have HWL := Lib.hid (show (vsWrite l v).length ≤ 8 from vsWrite_len l v HC.out.2.1)
        have HCL := Lib.hid (vsCommit_len (vsWrite l v) v.txn (1 + (ts : Int)))
        have HHW := Lib.hid (vsHas_write l v)
        have HHC := Lib.hid (vsHas_commit (l := vsWrite l v) (t := v.txn) (s := 1 + (ts : Int)) (vsWrite_ord v HC.out.2.2.2) (by omega))
        have HHA := Lib.hid (vsHas_abort (vsWrite l v) v.txn)
        have HAW : Hid (vsHas l v.txn = false → vsAbort (vsWrite l v) v.txn = l) := Lib.hid vsAbort_write
        have HCT := Lib.hid (vsCount_commit (vsWrite l v) v.txn (1 + (ts : Int)))
        have hn8 : n ≤ 8 := by have := HC.out.2.1; omega
        have wt : IntKind.i64.wrap (ts : Int) = (ts : Int) := by rw [IntKind.wrap_i64]; omega
        have wt1 : IntKind.i64.wrap (1 + (ts : Int)) = 1 + (ts : Int) := by rw [IntKind.wrap_i64]; omega
        clear hl hr hn12 hts
        unfold Vn.v at *
        go_enter Try.func6, Try.ntmps6
        go_upto_region 1 with fail
        generalize (w.alloc (.cells #[.string key, .slice A n c] 24)).alloc (.cells #[.int .i64 v.txn, .int .i64 v.ts, .bool v.gone, .string v.val] 26) = W0 at *
        have s0 := S.out.s.c0; have s1 := S.out.s.c1
        go_upto_region 3 with (first
          | (go_at_call 7; refine (KL.out _ HB.out).mono ?_; rintro e w1 ⟨rfl, b1⟩; have S := Lib.hid (S.out.on b1); have V := Lib.hid (V.out.on b1); have v3 := V.out.c3; have s0 := S.out.s.c0; have s1 := S.out.s.c1; have HB := Lib.hid (HB.out.trans (b1.mono HB.out.size)); clear b1)
          | (go_at_call 15; refine (KC.out _ HB.out).mono ?_; rintro e w2 ⟨rfl, b2⟩; have S := Lib.hid (S.out.on b2); have V := Lib.hid (V.out.on b2); have HB := Lib.hid (HB.out.trans (b2.mono HB.out.size)); clear b2)
          | fail)
        have sc0 := S.out.s.c0; have sc1 := S.out.s.c1; obtain ⟨vc0, vc1, vc2, vc3, _, _, _, _⟩ := V.out
        go_upto_region 4 with (go_at_call 13; refine (P1.out _ _ _ _ _ _ S.out (by have := HWL.out; have := HCL.out; omega)).mono ?_; rintro e w3 ⟨rfl, b⟩; have S := Lib.hid (S.out.on b); have V := Lib.hid (V.out.on b); have HB := Lib.hid (HB.out.trans (b.mono HB.out.size)); clear b)
        have S := Lib.hid (S.out.alloc (.cells #[.int .i64 (vsGot l v.txn).txn, .int .i64 (vsGot l v.txn).ts, .bool (vsGot l v.txn).gone, .string (vsGot l v.txn).val] 26))
        have V := Lib.hid (V.out.alloc (.cells #[.int .i64 (vsGot l v.txn).txn, .int .i64 (vsGot l v.txn).ts, .bool (vsGot l v.txn).gone, .string (vsGot l v.txn).val] 26))
        have HB := Lib.hid (HB.out.alloc HB.out.size (.cells #[.int .i64 (vsGot l v.txn).txn, .int .i64 (vsGot l v.txn).ts, .bool (vsGot l v.txn).gone, .string (vsGot l v.txn).val] 26))
        generalize w3.alloc (.cells #[.int .i64 (vsGot l v.txn).txn, .int .i64 (vsGot l v.txn).ts, .bool (vsGot l v.txn).gone, .string (vsGot l v.txn).val] 26) = X3 at *
        have sc0 := S.out.s.c0; have sc1 := S.out.s.c1; obtain ⟨vc0, vc1, vc2, vc3, _, _, _, _⟩ := V.out
        go_upto_region 5 with (go_at_call 23; refine (P2.out _ _ _ _ _ _ S.out (by have := HWL.out; have := HCL.out; omega)).mono ?_; rintro e w4 ⟨A4, n4, c4, rfl, e4, hc4, r4, b⟩; have Wb := Lib.hid (RowB.new (key := key) (c := c4) r4 e4); have N4 := Lib.hid e4; have S := Lib.hid (S.out.on b); have V := Lib.hid (V.out.on b); have HB := Lib.hid (HB.out.trans (b.mono HB.out.size)); clear b e4 hc4 r4)
        have S := Lib.hid (S.out.alloc (.cells #[.string key, .slice A4 n4 c4] 24))
        have V := Lib.hid (V.out.alloc (.cells #[.string key, .slice A4 n4 c4] 24))
        have HB := Lib.hid (HB.out.alloc HB.out.size (.cells #[.string key, .slice A4 n4 c4] 24))
        generalize w4.alloc (.cells #[.string key, .slice A4 n4 c4] 24) = X4 at *
        generalize w4.heap.size = q4 at *
        have hn4 : n4 ≤ 8 := by have := N4.out; have := HWL.out; omega
        have sc0 := S.out.s.c0; have sc1 := S.out.s.c1; have wbc0 := Wb.out.s.c0; have wbc1 := Wb.out.s.c1; obtain ⟨vc0, vc1, vc2, vc3, _, _, _, _⟩ := V.out
        go_upto_region 6 with (go_at_call 13; refine (P1.out _ _ _ _ _ _ Wb.out (by have := HWL.out; have := HCL.out; omega)).mono ?_; rintro e w5 ⟨rfl, b⟩; have S := Lib.hid (S.out.on b); have Wb := Lib.hid (Wb.out.on b); have V := Lib.hid (V.out.on b); have HB := Lib.hid (HB.out.trans (b.mono HB.out.size)); clear b)
        have S := Lib.hid (S.out.alloc (.cells #[.int .i64 (vsGot (vsWrite l v) v.txn).txn, .int .i64 (vsGot (vsWrite l v) v.txn).ts, .bool (vsGot (vsWrite l v) v.txn).gone, .string (vsGot (vsWrite l v) v.txn).val] 26))
        have Wb := Lib.hid (Wb.out.alloc (.cells #[.int .i64 (vsGot (vsWrite l v) v.txn).txn, .int .i64 (vsGot (vsWrite l v) v.txn).ts, .bool (vsGot (vsWrite l v) v.txn).gone, .string (vsGot (vsWrite l v) v.txn).val] 26))
        have V := Lib.hid (V.out.alloc (.cells #[.int .i64 (vsGot (vsWrite l v) v.txn).txn, .int .i64 (vsGot (vsWrite l v) v.txn).ts, .bool (vsGot (vsWrite l v) v.txn).gone, .string (vsGot (vsWrite l v) v.txn).val] 26))
        have HB := Lib.hid (HB.out.alloc HB.out.size (.cells #[.int .i64 (vsGot (vsWrite l v) v.txn).txn, .int .i64 (vsGot (vsWrite l v) v.txn).ts, .bool (vsGot (vsWrite l v) v.txn).gone, .string (vsGot (vsWrite l v) v.txn).val] 26))
        generalize w5.alloc (.cells #[.int .i64 (vsGot (vsWrite l v) v.txn).txn, .int .i64 (vsGot (vsWrite l v) v.txn).ts, .bool (vsGot (vsWrite l v) v.txn).gone, .string (vsGot (vsWrite l v) v.txn).val] 26) = X5 at *
        have sc0 := S.out.s.c0; have sc1 := S.out.s.c1; have wbc0 := Wb.out.s.c0; have wbc1 := Wb.out.s.c1; obtain ⟨vc0, vc1, vc2, vc3, _, _, _, _⟩ := V.out
        go_upto_region 7 with (go_at_call 24; refine (P3.out _ _ _ _ _ _ Wb.out (by have := HWL.out; have := HCL.out; omega)).mono ?_; rintro e w6 ⟨A6, n6, c6, rfl, e6, hc6, r6, b⟩; have Cb := Lib.hid (RowB.new (key := key) (c := c6) r6 e6); have N6 := Lib.hid e6; have S := Lib.hid (S.out.on b); have Wb := Lib.hid (Wb.out.on b); have V := Lib.hid (V.out.on b); have HB := Lib.hid (HB.out.trans (b.mono HB.out.size)); clear b e6 hc6 r6)
        have S := Lib.hid (S.out.alloc (.cells #[.string key, .slice A6 n6 c6] 24))
        have Wb := Lib.hid (Wb.out.alloc (.cells #[.string key, .slice A6 n6 c6] 24))
        have V := Lib.hid (V.out.alloc (.cells #[.string key, .slice A6 n6 c6] 24))
        have HB := Lib.hid (HB.out.alloc HB.out.size (.cells #[.string key, .slice A6 n6 c6] 24))
        generalize w6.alloc (.cells #[.string key, .slice A6 n6 c6] 24) = X6 at *
        generalize w6.heap.size = q6 at *
        have hn6 : n6 = n4 := by rw [← N6.out, HCL.out, N4.out]
        subst hn6
        have sc0 := S.out.s.c0; have sc1 := S.out.s.c1; have wbc0 := Wb.out.s.c0; have wbc1 := Wb.out.s.c1; have cbc0 := Cb.out.s.c0; have cbc1 := Cb.out.s.c1; obtain ⟨vc0, vc1, vc2, vc3, _, _, _, _⟩ := V.out
        go_upto_region 8 with (go_at_call 25; refine (P4.out _ _ _ _ _ _ Wb.out (by have := HWL.out; have := HCL.out; omega)).mono ?_; rintro e w7 ⟨A7, n7, c7, rfl, e7, hc7, r7, b⟩; have Ab := Lib.hid (RowB.new (key := key) (c := c7) r7 e7); have N7 := Lib.hid e7; have S := Lib.hid (S.out.on b); have Wb := Lib.hid (Wb.out.on b); have Cb := Lib.hid (Cb.out.on b); have V := Lib.hid (V.out.on b); have HB := Lib.hid (HB.out.trans (b.mono HB.out.size)); clear b e7 hc7 r7)
        have S := Lib.hid (S.out.alloc (.cells #[.string key, .slice A7 n7 c7] 24))
        have Wb := Lib.hid (Wb.out.alloc (.cells #[.string key, .slice A7 n7 c7] 24))
        have Cb := Lib.hid (Cb.out.alloc (.cells #[.string key, .slice A7 n7 c7] 24))
        have V := Lib.hid (V.out.alloc (.cells #[.string key, .slice A7 n7 c7] 24))
        have HB := Lib.hid (HB.out.alloc HB.out.size (.cells #[.string key, .slice A7 n7 c7] 24))
        generalize w7.alloc (.cells #[.string key, .slice A7 n7 c7] 24) = X7 at *
        generalize w7.heap.size = q7 at *
        have hn7 : n7 ≤ 8 := by have := (vsAbort_sub (vsWrite l v) v.txn).length_le; have := N7.out; have := HWL.out; omega
        have sc0 := S.out.s.c0; have sc1 := S.out.s.c1; have wbc0 := Wb.out.s.c0; have wbc1 := Wb.out.s.c1; have cbc0 := Cb.out.s.c0; have cbc1 := Cb.out.s.c1; have abc0 := Ab.out.s.c0; have abc1 := Ab.out.s.c1; obtain ⟨vc0, vc1, vc2, vc3, _, _, _, _⟩ := V.out
        go_upto_region 9 with (go_at_call 13; refine (P1.out _ _ _ _ _ _ Cb.out (by have := HWL.out; have := HCL.out; omega)).mono ?_; rintro e w8 ⟨rfl, b⟩; have S := Lib.hid (S.out.on b); have Wb := Lib.hid (Wb.out.on b); have Cb := Lib.hid (Cb.out.on b); have Ab := Lib.hid (Ab.out.on b); have V := Lib.hid (V.out.on b); have HB := Lib.hid (HB.out.trans (b.mono HB.out.size)); clear b)
        have S := Lib.hid (S.out.alloc (.cells #[.int .i64 (vsGot (vsCommit (vsWrite l v) v.txn (1 + (ts : Int))) v.txn).txn, .int .i64 (vsGot (vsCommit (vsWrite l v) v.txn (1 + (ts : Int))) v.txn).ts, .bool (vsGot (vsCommit (vsWrite l v) v.txn (1 + (ts : Int))) v.txn).gone, .string (vsGot (vsCommit (vsWrite l v) v.txn (1 + (ts : Int))) v.txn).val] 26))
        have Wb := Lib.hid (Wb.out.alloc (.cells #[.int .i64 (vsGot (vsCommit (vsWrite l v) v.txn (1 + (ts : Int))) v.txn).txn, .int .i64 (vsGot (vsCommit (vsWrite l v) v.txn (1 + (ts : Int))) v.txn).ts, .bool (vsGot (vsCommit (vsWrite l v) v.txn (1 + (ts : Int))) v.txn).gone, .string (vsGot (vsCommit (vsWrite l v) v.txn (1 + (ts : Int))) v.txn).val] 26))
        have Cb := Lib.hid (Cb.out.alloc (.cells #[.int .i64 (vsGot (vsCommit (vsWrite l v) v.txn (1 + (ts : Int))) v.txn).txn, .int .i64 (vsGot (vsCommit (vsWrite l v) v.txn (1 + (ts : Int))) v.txn).ts, .bool (vsGot (vsCommit (vsWrite l v) v.txn (1 + (ts : Int))) v.txn).gone, .string (vsGot (vsCommit (vsWrite l v) v.txn (1 + (ts : Int))) v.txn).val] 26))
        have Ab := Lib.hid (Ab.out.alloc (.cells #[.int .i64 (vsGot (vsCommit (vsWrite l v) v.txn (1 + (ts : Int))) v.txn).txn, .int .i64 (vsGot (vsCommit (vsWrite l v) v.txn (1 + (ts : Int))) v.txn).ts, .bool (vsGot (vsCommit (vsWrite l v) v.txn (1 + (ts : Int))) v.txn).gone, .string (vsGot (vsCommit (vsWrite l v) v.txn (1 + (ts : Int))) v.txn).val] 26))
        have V := Lib.hid (V.out.alloc (.cells #[.int .i64 (vsGot (vsCommit (vsWrite l v) v.txn (1 + (ts : Int))) v.txn).txn, .int .i64 (vsGot (vsCommit (vsWrite l v) v.txn (1 + (ts : Int))) v.txn).ts, .bool (vsGot (vsCommit (vsWrite l v) v.txn (1 + (ts : Int))) v.txn).gone, .string (vsGot (vsCommit (vsWrite l v) v.txn (1 + (ts : Int))) v.txn).val] 26))
        have HB := Lib.hid (HB.out.alloc HB.out.size (.cells #[.int .i64 (vsGot (vsCommit (vsWrite l v) v.txn (1 + (ts : Int))) v.txn).txn, .int .i64 (vsGot (vsCommit (vsWrite l v) v.txn (1 + (ts : Int))) v.txn).ts, .bool (vsGot (vsCommit (vsWrite l v) v.txn (1 + (ts : Int))) v.txn).gone, .string (vsGot (vsCommit (vsWrite l v) v.txn (1 + (ts : Int))) v.txn).val] 26))
        generalize w8.alloc (.cells #[.int .i64 (vsGot (vsCommit (vsWrite l v) v.txn (1 + (ts : Int))) v.txn).txn, .int .i64 (vsGot (vsCommit (vsWrite l v) v.txn (1 + (ts : Int))) v.txn).ts, .bool (vsGot (vsCommit (vsWrite l v) v.txn (1 + (ts : Int))) v.txn).gone, .string (vsGot (vsCommit (vsWrite l v) v.txn (1 + (ts : Int))) v.txn).val] 26) = X8 at *
        have sc0 := S.out.s.c0; have sc1 := S.out.s.c1; have wbc0 := Wb.out.s.c0; have wbc1 := Wb.out.s.c1; have cbc0 := Cb.out.s.c0; have cbc1 := Cb.out.s.c1; have abc0 := Ab.out.s.c0; have abc1 := Ab.out.s.c1; obtain ⟨vc0, vc1, vc2, vc3, _, _, _, _⟩ := V.out
        go_upto_region 10 with (go_at_call 13; refine (P1.out _ _ _ _ _ _ Ab.out (by have := HWL.out; have := HCL.out; omega)).mono ?_; rintro e w9 ⟨rfl, b⟩; have S := Lib.hid (S.out.on b); have Wb := Lib.hid (Wb.out.on b); have Cb := Lib.hid (Cb.out.on b); have Ab := Lib.hid (Ab.out.on b); have V := Lib.hid (V.out.on b); have HB := Lib.hid (HB.out.trans (b.mono HB.out.size)); clear b)
        have S := Lib.hid (S.out.alloc (.cells #[.int .i64 (vsGot (vsAbort (vsWrite l v) v.txn) v.txn).txn, .int .i64 (vsGot (vsAbort (vsWrite l v) v.txn) v.txn).ts, .bool (vsGot (vsAbort (vsWrite l v) v.txn) v.txn).gone, .string (vsGot (vsAbort (vsWrite l v) v.txn) v.txn).val] 26))
        have Wb := Lib.hid (Wb.out.alloc (.cells #[.int .i64 (vsGot (vsAbort (vsWrite l v) v.txn) v.txn).txn, .int .i64 (vsGot (vsAbort (vsWrite l v) v.txn) v.txn).ts, .bool (vsGot (vsAbort (vsWrite l v) v.txn) v.txn).gone, .string (vsGot (vsAbort (vsWrite l v) v.txn) v.txn).val] 26))
        have Cb := Lib.hid (Cb.out.alloc (.cells #[.int .i64 (vsGot (vsAbort (vsWrite l v) v.txn) v.txn).txn, .int .i64 (vsGot (vsAbort (vsWrite l v) v.txn) v.txn).ts, .bool (vsGot (vsAbort (vsWrite l v) v.txn) v.txn).gone, .string (vsGot (vsAbort (vsWrite l v) v.txn) v.txn).val] 26))
        have Ab := Lib.hid (Ab.out.alloc (.cells #[.int .i64 (vsGot (vsAbort (vsWrite l v) v.txn) v.txn).txn, .int .i64 (vsGot (vsAbort (vsWrite l v) v.txn) v.txn).ts, .bool (vsGot (vsAbort (vsWrite l v) v.txn) v.txn).gone, .string (vsGot (vsAbort (vsWrite l v) v.txn) v.txn).val] 26))
        have V := Lib.hid (V.out.alloc (.cells #[.int .i64 (vsGot (vsAbort (vsWrite l v) v.txn) v.txn).txn, .int .i64 (vsGot (vsAbort (vsWrite l v) v.txn) v.txn).ts, .bool (vsGot (vsAbort (vsWrite l v) v.txn) v.txn).gone, .string (vsGot (vsAbort (vsWrite l v) v.txn) v.txn).val] 26))
        have HB := Lib.hid (HB.out.alloc HB.out.size (.cells #[.int .i64 (vsGot (vsAbort (vsWrite l v) v.txn) v.txn).txn, .int .i64 (vsGot (vsAbort (vsWrite l v) v.txn) v.txn).ts, .bool (vsGot (vsAbort (vsWrite l v) v.txn) v.txn).gone, .string (vsGot (vsAbort (vsWrite l v) v.txn) v.txn).val] 26))
        generalize w9.alloc (.cells #[.int .i64 (vsGot (vsAbort (vsWrite l v) v.txn) v.txn).txn, .int .i64 (vsGot (vsAbort (vsWrite l v) v.txn) v.txn).ts, .bool (vsGot (vsAbort (vsWrite l v) v.txn) v.txn).gone, .string (vsGot (vsAbort (vsWrite l v) v.txn) v.txn).val] 26) = X9 at *
        have sc0 := S.out.s.c0; have sc1 := S.out.s.c1; have wbc0 := Wb.out.s.c0; have wbc1 := Wb.out.s.c1; have cbc0 := Cb.out.s.c0; have cbc1 := Cb.out.s.c1; have abc0 := Ab.out.s.c0; have abc1 := Ab.out.s.c1; obtain ⟨vc0, vc1, vc2, vc3, _, _, _, _⟩ := V.out
        generalize X9 = X at *
        have HLL := Lib.hid S.out.ln
        generalize vsHas l v.txn = had at *
        generalize vsHas (vsWrite l v) v.txn = has at *
        have hx := HHC.out
        have hy := HHA.out
        generalize vsHas (vsCommit (vsWrite l v) v.txn (1 + (ts : Int))) v.txn = cx at *
        generalize vsHas (vsAbort (vsWrite l v) v.txn) v.txn = ax at *
        subst hx hy
        generalize vsCommit (vsWrite l v) v.txn (1 + (ts : Int)) = CL at *
        have KS : Hid (had = false → ∀ (W : World), Below X.heap.size X W → Calls Try.prog 21 #[.agg #[.string key, .slice A7 n7 c7], .agg #[.string key, .slice A n c]] W fun e w' => e = .returned (.bool true) ∧ Below W.heap.size W w') := Lib.hid fun e W hb => by
          have h := P5.out W A7 A n7 c7 n c _ _ _ _ (Ab.out.on hb) (S.out.on hb) (by omega)
          rw [HAW.out e] at h
          simpa [vsSame] using h
        generalize vsWrite l v = WL at *
        have HX := Lib.hid (Below.refl X.heap.size X)
        have HH := HHW.out
        rw [HLL.out] at HH
        cases had
        case' true => (obtain rfl : has = true := by simpa using HH); clear HH
        case' false => (rw [Bool.false_or] at HH; by_cases h8 : n < 8)
        case' pos => ((rw [decide_eq_true h8] at HH); subst HH; (have h8d : decide ((n : Int) < 8) = true := by simp; omega))
        case' neg => ((rw [decide_eq_false h8] at HH); subst HH; (have h8d : decide ((n : Int) < 8) = false := by simp; omega))
        all_goals clear wt wt1 HHW HAW P1 P2 P3 P4 P5 KL KC HC HWL HCL HHC HHA
        all_goals
          go_upto_region 12 with (first
            | (go_at_call 21; refine (KS.out rfl _ HX.out).mono ?_; rintro e wz ⟨rfl, bz⟩; have HX := Lib.hid (HX.out.trans bz); have S := Lib.hid (S.out.on bz); have Wb := Lib.hid (Wb.out.on bz); have Cb := Lib.hid (Cb.out.on bz); have HB := Lib.hid (HB.out.trans (bz.mono HB.out.size)); have sc0 := S.out.s.c0; have sc1 := S.out.s.c1; have wbc0 := Wb.out.s.c0; have wbc1 := Wb.out.s.c1; have cbc0 := Cb.out.s.c0; have cbc1 := Cb.out.s.c1; clear bz)
            | fail)
        all_goals
          clear HX KS sc0 sc1 wbc0 wbc1 cbc0 cbc1 abc0 abc1 vc0 vc1 vc2 vc3
          go_wp2
          go_loopw [18, 19, 20] (fun z i _ wr => ∃ k : Nat, k ≤ n6 ∧ i = .int .i64 (k : Int) ∧ z = .int .i64 (vsCount (CL.take k) WL : Nat) ∧ Below w.heap.size w wr ∧ RowB wr q4 key A4 n6 c4 WL ∧ RowB wr q6 key A6 n6 c6 CL) (fun _ i _ _ => n6 - (intOf i).toNat)
          case atStart => exact ⟨0, Nat.zero_le _, rfl, rfl, HB.out, Wb.out, Cb.out⟩
          case round =>
            clear HB Wb Cb S V Ab
            obtain ⟨k, hk, rfl, rfl, hb, hw, hc⟩ := hrel
            by_cases hlt : k < n6
            · obtain ⟨x, hx⟩ : ∃ x, CL[k]? = some x := ⟨CL[k]'(by rw [N6.out]; exact hlt), List.getElem?_eq_getElem _⟩
              have HS := vsCount_snoc (m := WL) hx
              have hz8 : vsCount (CL.take k) WL ≤ k := by
                have := List.countP_le_length (p := fun x => decide (x ∈ WL)) (l := CL.take k)
                rw [List.length_take] at this
                unfold vsCount
                omega
              generalize vsCount (CL.take k) WL = z0 at *
              have HSS := Lib.hid HS
              have HX := Lib.hid hx
              have cc1 := hc.s.c1
              have HBB := Lib.hid hb
              have HWW := Lib.hid hw
              have HCC := Lib.hid hc
              clear HS hx hb hw hc
              have hk8 : k < 8 := by omega
              go_wp2_with fail
              go_loopw [18, 20] (fun z i wq => ∃ m : Nat, m ≤ n6 ∧ i = .int .i64 (m : Int) ∧ z = .int .i64 (z0 : Nat) ∧ (∀ (j : Nat) (a : Vn), j < m → WL[j]? = some a → x ≠ a) ∧ Below w.heap.size w wq ∧ RowB wq q4 key A4 n6 c4 WL ∧ RowB wq q6 key A6 n6 c6 CL) (fun _ i _ => n6 - (intOf i).toNat)
              case atStart => exact ⟨0, Nat.zero_le _, rfl, rfl, fun j a hj => by omega, HBB.out, HWW.out, HCC.out⟩
              case round =>
                clear HBB HWW HCC cc1
                obtain ⟨m, hm, rfl, rfl, hf, hb, hw, hc⟩ := hrel
                by_cases hlt2 : m < n6
                · obtain ⟨y, hy⟩ : ∃ y, WL[m]? = some y := ⟨WL[m]'(by rw [N4.out]; exact hlt2), List.getElem?_eq_getElem _⟩
                  obtain ⟨ad, rfl, hv⟩ := hc.r.vn HX.out
                  obtain ⟨bd, rfl, hv2⟩ := hw.r.vn hy
                  have c0 := hv.d0; have c1 := hv.d1; have c2 := hv.d2; have c3 := hv.d3
                  have d0 := hv2.d0; have d1 := hv2.d1; have d2 := hv2.d2; have d3 := hv2.d3
                  have e1 := hc.s.c1
                  have e2 := hw.s.c1
                  have heq := fun W => vsEqV 9998 W x y
                  rw [vsEq_dec] at heq
                  unfold Vn.v at heq
                  have HF := Lib.hid hf
                  have HY := Lib.hid hy
                  have HBB := Lib.hid (fun q => drewN_below hb q)
                  have HWW := Lib.hid (fun q => hw.on (drewN_below (Below.refl wr.heap.size wr) q))
                  have HCC := Lib.hid (fun q => hc.on (drewN_below (Below.refl wr.heap.size wr) q))
                  clear hf hy hb hw hc hv hv2
                  by_cases hab : x = y
                  · rw [decide_eq_true hab] at heq
                    have HS1 : Hid (vsCount (CL.take (k + 1)) WL = z0 + 1) := Lib.hid (by rw [HSS.out, if_pos (by rw [hab]; exact List.mem_of_getElem? HY.out)])
                    clear hab
                    go_upto_region 19 with fail
                    go_quiet (fail)
                    go_wp2
                    go_round
                    case rel => exact ⟨k + 1, by omega, by go_num, by rw [HS1.out]; simp, HBB.out _, HWW.out _, HCC.out _⟩
                    case measure => simp [intOf]; omega
                  · rw [decide_eq_false hab] at heq
                    have HNE := Lib.hid hab
                    clear hab
                    go_upto_region 19 with fail
                    go_quiet (fail)
                    go_wp2
                    go_round
                    case rel => exact ⟨m + 1, by omega, by go_num, rfl, fun j a hj ha => by
                      by_cases ej : j = m
                      · subst ej
                        rw [HY.out] at ha
                        injection ha with ha
                        rw [← ha]; exact HNE.out
                      · exact HF.out j a (by omega) ha, HBB.out _, HWW.out _, HCC.out _⟩
                    case measure => simp [intOf]; omega
                · obtain rfl : m = n6 := by omega
                  have HS0 : Hid (vsCount (CL.take (k + 1)) WL = z0) := Lib.hid (by
                    rw [HSS.out, if_neg (fun h => by
                      obtain ⟨j, hj, e⟩ := List.getElem_of_mem h
                      exact hf j _ (by rw [← N4.out]; exact hj) (List.getElem?_eq_getElem hj) e.symm)]; rfl)
                  have HBB := Lib.hid hb
                  have HWW := Lib.hid hw
                  have HCC := Lib.hid hc
                  have e2 := hw.s.c1
                  clear hf hb hw hc
                  go_wp2
                  go_round
                  case rel => exact ⟨k + 1, by omega, by go_num, by rw [HS0.out], HBB.out, HWW.out, HCC.out⟩
                  case measure => simp [intOf]; omega
            · obtain rfl : k = n6 := by omega
              rw [List.take_of_length_le (by rw [N6.out]; exact Nat.le_refl _)] 
              have H1 := HCT.out
              rw [N4.out] at H1
              generalize vsCount CL WL = z at *
              have h1 : (k : Int) - 1 ≤ (z : Int) := by omega
              have h2 := Lib.hid H1.2
              have cc1 := hc.s.c1
              have wc1 := hw.s.c1
              have HBB := Lib.hid hb
              have hz9 : decide ((k : Int) - 1 ≤ (z : Int)) = true := decide_eq_true h1
              clear H1 hb hw hc HCT
              try (have hzk := h2.out trivial; subst hzk)
              go_wp2_with (first
                | (go_at_call 8; refine (KA.out _).mono ?_; rintro e w2 ⟨rfl, b2⟩; have HBB := Lib.hid (HBB.out.trans (b2.mono HBB.out.size)); clear b2)
                | fail)
              go_ret
              exact ⟨rfl, HBB.out⟩
      · have hd : ((vsCheck key l : Int) != 0) = true := by simp; omega
        generalize vsCheck key l = z at *
        clear hl hr hts hck
        unfold Vn.v
        go_enter Try.func6, Try.ntmps6
        go_upto_region 1 with fail
        generalize (w.alloc (.cells #[.string key, .slice A n c] 24)).alloc (.cells #[.int .i64 v.txn, .int .i64 v.ts, .bool v.gone, .string v.val] 26) = W0 at *
        have s0 := S.out.s.c0; have s1 := S.out.s.c1
        go_wp2_with (first
          | (go_at_call 7; refine (KL.out _ HB.out).mono ?_; rintro e w1 ⟨rfl, b1⟩; have v3 := (V.out.on b1).c3; have s0 := (S.out.on b1).s.c0; have s1 := (S.out.on b1).s.c1; have HB := Lib.hid (HB.out.trans (b1.mono HB.out.size)); clear b1)
          | (go_at_call 15; refine (KC.out _ HB.out).mono ?_; rintro e w2 ⟨rfl, b2⟩; have HB := Lib.hid (HB.out.trans (b2.mono HB.out.size)); clear b2)
          | (go_at_call 8; refine (KA.out _).mono ?_; rintro e w2 ⟨rfl, b2⟩; have HB := Lib.hid (HB.out.trans (b2.mono HB.out.size)); clear b2)
          | fail)
        go_ret
        exact ⟨rfl, HB.out⟩
end Go.Proofs.Ytmknnbnamlbjnaa
