/- The walk of the law StackDoes. -/
import Derived.Test.YtchfpgdioclajaaVsZ
import Derived.Test.YtchfpgdioclajaaVsN
import Derived.Test.YtchfpgdioclajaaVsE
import Derived.Test.YtchfpgdioclajaaVtE
import Derived.Test.YtchfpgdioclajaaVtG
import Derived.Test.YtchfpgdioclajaaVtH
import Derived.Deep.DeepMust
namespace Go.Proofs.Ytchfpgdioclajaa
open Go.RowKit
set_option linter.unusedVariables false
set_option linter.unusedSimpArgs false
theorem flatV_setT (l : List Vn) (j : Nat) (y : Vn) (z : Int) (hy : l[j]? = some y) : flatV (l.set j { y with txn := z }) = (flatV l).set (j * 4) (.int .i64 z) := by
  induction l generalizing j with
  | nil => simp at hy
  | cons a r ih =>
    cases j with
    | zero =>
      simp at hy
      subst hy
      rw [List.set_cons_zero, flatV_cons, flatV_cons]
      simp [Vn.cs]
    | succ j =>
      rw [List.set_cons_succ, flatV_cons, flatV_cons, ih j (by simpa using hy), show (j + 1) * 4 = j * 4 + 1 + 1 + 1 + 1 by omega]
      simp only [Vn.cs, List.cons_append, List.nil_append, List.set_cons_succ]
/-- A version's transaction stored into a row of one's own. -/
theorem OG.setTxn {base : Nat} {T : TypeId} {w : World} {g n c j : Nat} {l : List Vn} {y : Vn} (h : OG KV T base w (.slice (some ⟨g, 0, none⟩) n c) l) (hl : l.length = n) (hy : l[j]? = some y) (z : Int) :
    w.frozen? ⟨g, j * 4, none⟩ = false ∧ OG KV T base (w.setCell ⟨g, j * 4, none⟩ (.int .i64 z)) (.slice (some ⟨g, 0, none⟩) n c) (l.set j { y with txn := z }) := by
  have hj : j < n := by rw [← hl]; exact (List.getElem?_eq_some_iff.mp hy).1
  have h0 := h.flatV
  rw [hl] at h0
  obtain ⟨_, a2, h1⟩ := ownsRow_set h0 (m := j * 4) (by omega) (.int .i64 z)
  refine ⟨a2, ?_⟩
  rw [← flatV_setT l j y z hy] at h1
  exact OG.ofFlat h1 (by rw [List.length_set]; exact hl)
theorem RG.belowB {W W' : World} {A : Option Addr} {l : List Vn} (h : RG KV W A l) (hb : Below W.heap.size W W') : RG KV W' A l := h.below hb
/-- What the law has at hand: the stack, the call, the stack of its own. -/
theorem dsFacts {W : World} {p q r : Nat} {key : ByteArray} {A B : Option Addr} {n c m d kd : Nat} {v : Vn} {s : Int} (h : StBox W p key A n c) (g : ABox W q kd v s) (k : StBox W r key B m d) :
    W.cell? ⟨p, 0, none⟩ = some (.string key) ∧ W.cell? ⟨p, 1, none⟩ = some (.slice A n c) ∧ W.cell? ⟨q, 0, none⟩ = some (.int .u8 (kd : Int)) ∧ W.cell? ⟨q, 1, none⟩ = some (.int .i64 v.txn) ∧ W.cell? ⟨q, 2, none⟩ = some (.int .i64 v.ts) ∧ W.cell? ⟨q, 3, none⟩ = some (.bool v.gone) ∧ W.cell? ⟨q, 4, none⟩ = some (.string v.val) ∧ W.cell? ⟨q, 5, none⟩ = some (.int .i64 s) ∧ W.cell? ⟨r, 0, none⟩ = some (.string key) ∧ W.cell? ⟨r, 1, none⟩ = some (.slice B m d) :=
  ⟨h.c0, h.c1, g.c0, g.c1, g.c2, g.c3, g.c4, g.c5, k.c0, k.c1⟩
/-- What the loop has. -/
structure DsL (W1 : World) (q : Nat) (key : ByteArray) (A : Option Addr) (n c : Nat) (W : World) (M : List Vn) : Prop where
  b : Below W1.heap.size W1 W
  y : StBox W q key A n c
  o : OG KV 26 W1.heap.size W (.slice A n c) M
  ml : M.length = n
  ne : ∀ b, (Value.slice A n c).ownBlock = some b → b ≠ q
theorem DsL.next {W1 W : World} {q : Nat} {key : ByteArray} {g n c j : Nat} {M : List Vn} {y : Vn} (h : DsL W1 q key (some ⟨g, 0, none⟩) n c W M) (hy : M[j]? = some y) (z : Int) : W.frozen? ⟨g, j * 4, none⟩ = false ∧ ∃ M', DsL W1 q key (some ⟨g, 0, none⟩) n c (W.setCell ⟨g, j * 4, none⟩ (.int .i64 z)) M' := by
  obtain ⟨a, o⟩ := h.o.setTxn h.ml hy z
  have hg : W1.heap.size ≤ g := (World.ownsRow.lt h.o.choose_spec.1 g rfl).1
  exact ⟨a, _, ⟨h.b.setCell (p := ⟨g, j * 4, none⟩) hg _, h.y.off (h.ne g rfl) _ _, o, by rw [List.length_set]; exact h.ml, h.ne⟩⟩
theorem vsSame_self (key : ByteArray) (l : List Vn) : vsSame key l key l = true := by simp [vsSame]
theorem vsDo_len (k : Nat) (l : List Vn) (v : Vn) (s : Int) (h : l.length ≤ 12) : (vsDo k l v s).length ≤ 12 := by
  unfold vsDo
  split
  · rw [vsCommit_len]; exact h
  · split
    · exact Nat.le_trans (vsAbort_sub l v.txn).length_le h
    · split
      · exact Nat.le_trans (vsPrune_sub l s).length_le h
      · unfold vsWrite
        split
        · rw [List.length_set]; exact h
        · split
          · rw [List.length_append]; simp; omega
          · exact h
set_option maxHeartbeats 8000000 in
set_option maxRecDepth 100000 in
theorem stackDoes_core (key : ByteArray) (A : Option Addr) (n c : Nat) (l : List Vn) (a : Askt) (w : World) (hl : l.length = n) (hn : n ≤ maxLen) (hnc : n ≤ c) (hr : RG KV w A l) :
    Calls Try.prog 3 #[.agg #[.string key, .slice A n c], .agg (askCs a).toArray] w fun e w' => e = .returned (.bool true) ∧ Below w.heap.size w w' := by
  obtain ⟨k8, v, s⟩ := a
  show Calls _ _ #[.agg #[.string key, .slice A n c], .agg #[.int .u8 (k8.toNat : Int), .int .i64 v.txn, .int .i64 v.ts, .bool v.gone, .string v.val, .int .i64 s]] w _
  have hkd : k8.toNat < 256 := by have := k8.toNat_lt; omega
  generalize k8.toNat = kd at *
  have KA := Lib.hid (fun W => vsAwake_any W)
  have KL := Lib.hid (fun W (h : Below w.heap.size w W) => vsLight_any key A n c l W hl hn (hr.below h))
  have HB := Lib.hid (below2 w (.cells #[.string key, .slice A n c] 24) (.cells #[.int .u8 (kd : Int), .int .i64 v.txn, .int .i64 v.ts, .bool v.gone, .string v.val, .int .i64 s] 28))
  have S := Lib.hid ((StBox.new w key A n c 24).alloc (.cells #[.int .u8 (kd : Int), .int .i64 v.txn, .int .i64 v.ts, .bool v.gone, .string v.val, .int .i64 s] 28))
  have AB : Hid (ABox ((w.alloc (.cells #[.string key, .slice A n c] 24)).alloc (.cells #[.int .u8 (kd : Int), .int .i64 v.txn, .int .i64 v.ts, .bool v.gone, .string v.val, .int .i64 s] 28)) (w.heap.size + 1) kd v s) := Lib.hid (by
    have := ABox.new (w.alloc (.cells #[.string key, .slice A n c] 24)) kd v s 28
    rw [heap_size_alloc] at this
    exact this)
  cases hlt : vsLight key l with
  | false =>
    rw [hlt] at KL
    clear hlt hl hn hr
    go_enter Try.func3, Try.ntmps3
    go_upto_region 1 with fail
    generalize (w.alloc (.cells #[.string key, .slice A n c] 24)).alloc (.cells #[.int .u8 (kd : Int), .int .i64 v.txn, .int .i64 v.ts, .bool v.gone, .string v.val, .int .i64 s] 28) = W0 at *
    have s0 := S.out.c0; have s1 := S.out.c1
    go_wp2_with (first
      | (go_at_call 9; refine (KL.out _ HB.out).mono ?_; rintro e w1 ⟨rfl, b1⟩; have HB := Lib.hid (HB.out.trans (b1.mono HB.out.size)); clear b1)
      | (go_at_call 10; refine (KA.out _).mono ?_; rintro e w2 ⟨rfl, b2⟩; have HB := Lib.hid (HB.out.trans (b2.mono HB.out.size)); clear b2)
      | fail)
    go_ret
    exact ⟨rfl, HB.out⟩
  | true =>
    rw [hlt] at KL
    obtain ⟨k1, k2, k3⟩ := vsLight_at hlt
    have hn12 : n ≤ 12 := by omega
    have HN := Lib.hid hn12
    clear hlt k1 k2 k3 hn
    by_cases h24 : 100 < v.val.size
    · have h24' : decide ((100 : Int) < (v.val.size : Int)) = true := by simp; omega
      clear hl hr h24
      go_enter Try.func3, Try.ntmps3
      go_upto_region 1 with fail
      generalize (w.alloc (.cells #[.string key, .slice A n c] 24)).alloc (.cells #[.int .u8 (kd : Int), .int .i64 v.txn, .int .i64 v.ts, .bool v.gone, .string v.val, .int .i64 s] 28) = W0 at *
      have s0 := S.out.c0; have s1 := S.out.c1
      go_wp2_with (first
        | (go_at_call 9; refine (KL.out _ HB.out).mono ?_; rintro e w1 ⟨rfl, b1⟩; have v3 := (AB.out.on b1).c4; have HB := Lib.hid (HB.out.trans (b1.mono HB.out.size)); clear b1)
        | (go_at_call 10; refine (KA.out _).mono ?_; rintro e w2 ⟨rfl, b2⟩; have HB := Lib.hid (HB.out.trans (b2.mono HB.out.size)); clear b2)
        | fail)
      go_ret
      exact ⟨rfl, HB.out⟩
    · have h24' : decide ((100 : Int) < (v.val.size : Int)) = false := by simp; omega
      clear h24
      have K1 := Lib.hid (fun (W : World) (h : Below w.heap.size w W) => own_any key A n c l W hl (by omega) (hr.below h))
      have K2 := Lib.hid (fun (W : World) (B : Option Addr) (d : Nat) (h : RG KV W B l) => vsDo_any key B n d l kd v s W hl (by omega) hkd h)
      have K3 := Lib.hid (fun (W : World) (h : Below w.heap.size w W) => refWant_any key A n c l kd v s W hl (by omega) hnc hkd (hr.below h))
      have K4 := Lib.hid (fun (W : World) (B C : Option Addr) (m d e : Nat) (L : List Vn) (hm : L.length = m) (hL : m ≤ 12) (h : RG KV W B L) (g : RG KV W C L) => show Calls Try.prog 13 #[.agg #[.string key, .slice B m d], .agg #[.string key, .slice C m e]] W fun e w' => e = .returned (.bool true) ∧ Below W.heap.size W w' from by
        have h := refSame_any key key B C m m d e L L W hm hm (by omega) h g
        rw [vsSame_self] at h
        exact h)
      have K5 := Lib.hid (fun (W : World) (B : Option Addr) (d : Nat) (h : RG KV W B l) => vsPendingT_any key B n d l v.txn W hl (by omega) h)
      have K6 := Lib.hid (fun (W : World) (h : Below w.heap.size w W) => refPending_any key A n c l v.txn W hl (by omega) (hr.below h))
      have K7 := Lib.hid (fun (W : World) (B : Option Addr) (d : Nat) (hd : n ≤ d) (h : RG KV W B l) => vsCheck_any key B n d l W hl (by omega) hd h)
      have K8 := Lib.hid (fun (W : World) (h : Below w.heap.size w W) => refCheck_any key A n c l W hl (by omega) (hr.below h))
      have HR := Lib.hid (fun (W : World) (h : Below w.heap.size w W) => hr.below h)
      have HL := Lib.hid hl
      have HD := Lib.hid (vsDo_len (kd % 4) l v s (by omega))
      generalize vsDo (kd % 4) l v s = D at *
      generalize vsGot l v.txn = G at *
      generalize vsHas l v.txn = Q at *
      generalize vsCheck key l = Z at *
      have heq : ∀ W, (Op.equalIn 10000 26 G.v G.v).run Try.prog W = .ok true W := fun W => by have h := vsEqV 9998 W G G; rw [(vsEq_iff G G).2 rfl] at h; exact h
      clear hl hr hkd hnc
      unfold Vn.v at *
      go_enter Try.func3, Try.ntmps3
      go_upto_region 1 with fail
      generalize (w.alloc (.cells #[.string key, .slice A n c] 24)).alloc (.cells #[.int .u8 (kd : Int), .int .i64 v.txn, .int .i64 v.ts, .bool v.gone, .string v.val, .int .i64 s] 28) = W0 at *
      have s0 := S.out.c0; have s1 := S.out.c1
      go_upto_region 3 with (first
        | (go_at_call 9; refine (KL.out _ HB.out).mono ?_; rintro e w1 ⟨rfl, b1⟩; have S := Lib.hid (S.out.on b1); have AB := Lib.hid (AB.out.on b1); have v3 := AB.out.c4; have s0 := S.out.c0; have s1 := S.out.c1; have HB := Lib.hid (HB.out.trans (b1.mono HB.out.size)); clear b1)
        | fail)
      go_upto_region 4 with (go_at_call 11; refine (K1.out _ HB.out).mono ?_; rintro e w2 ⟨v2, rfl, o2, b2⟩; obtain ⟨B, d, e2, h21, h22, h23, h24⟩ := o2.rg; (rw [HL.out] at e2 h21); subst e2; have S := Lib.hid (S.out.on b2); have AB := Lib.hid (AB.out.on b2); have HB := Lib.hid (HB.out.trans (b2.mono HB.out.size)); have R2 := Lib.hid h23; have D2 := Lib.hid h21; clear o2 b2 h21 h22 h23 h24)
      have S := Lib.hid (S.out.alloc (.cells #[.string key, .slice B n d] 24))
      have AB := Lib.hid (AB.out.on (below1 w2 (.cells #[.string key, .slice B n d] 24)))
      have HB := Lib.hid (HB.out.alloc HB.out.size (.cells #[.string key, .slice B n d] 24))
      have R2 := Lib.hid (R2.out.alloc (.cells #[.string key, .slice B n d] 24))
      have X2 := Lib.hid (StBox.new w2 key B n d 24)
      clear s0 s1 v3
      generalize w2.alloc (.cells #[.string key, .slice B n d] 24) = W1 at *
      generalize w2.heap.size = qx at *
      have KF := Lib.hid (fun W (h : Below W1.heap.size W1 W) => dsFacts (S.out.on h) (AB.out.on h) (X2.out.on h))
      have KX := Lib.hid (fun W (h : Below W1.heap.size W1 W) => R2.out.below h)
      have KS := Lib.hid (fun W (h : Below W1.heap.size W1 W) => HB.out.trans (h.mono HB.out.size))
      obtain ⟨s0, s1, a0, a1, a2, a3, a4, a5, x0, x1⟩ := KF.out W1 (Below.refl _ _)
      go_upto_region 5 with (go_at_call 12; refine (K2.out _ _ _ R2.out).mono ?_; rintro e w3 ⟨v3, rfl, o3, b3⟩; obtain ⟨C, f, e3, h31, h32, h33, h34⟩ := o3.rg; subst e3; have O3 := Lib.hid o3; have R3 := Lib.hid h33; have B3 := Lib.hid b3; clear o3 b3 h31 h32 h33 h34)
      clear s0 s1 a0 a1 a2 a3 a4 a5 x0 x1
      have NE3 : Hid (∀ b, (Value.slice C D.length f).ownBlock = some b → b ≠ w3.heap.size) := Lib.hid fun b hb => by have := O3.out.own_lt'' hb; omega
      have O3 := Lib.hid (O3.out.alloc (.cells #[.string key, .slice C D.length f] 24))
      have R3 := Lib.hid (R3.out.alloc (.cells #[.string key, .slice C D.length f] 24))
      have B3 := Lib.hid (B3.out.alloc B3.out.size (.cells #[.string key, .slice C D.length f] 24))
      have Y3 := Lib.hid (StBox.new w3 key C D.length f 24)
      generalize w3.alloc (.cells #[.string key, .slice C D.length f] 24) = W3 at *
      generalize w3.heap.size = qy at *
      have KG := Lib.hid (fun W (h : Below W3.heap.size W3 W) => (⟨KF.out W (B3.out.trans (h.mono B3.out.size)), (Y3.out.on h).c0, (Y3.out.on h).c1⟩ : _ ∧ _ ∧ _))
      have ka := KG.out _ (Below.refl W3.heap.size W3).drew
      have B0 := Lib.hid (Below.refl W3.heap.size W3).drew
      go_cut [7] from 29 to 38 (fun x wx => x = .bool true ∧ Below W3.heap.size W3 wx)
      case first =>
        go_region_held3 (fun W => (W.cell? ⟨w.heap.size, 0, none⟩ = some (.string key) ∧ W.cell? ⟨w.heap.size, 1, none⟩ = some (.slice A n c) ∧ W.cell? ⟨w.heap.size + 1, 0, none⟩ = some (.int .u8 (kd : Int)) ∧ W.cell? ⟨w.heap.size + 1, 1, none⟩ = some (.int .i64 v.txn) ∧ W.cell? ⟨w.heap.size + 1, 2, none⟩ = some (.int .i64 v.ts) ∧ W.cell? ⟨w.heap.size + 1, 3, none⟩ = some (.bool v.gone) ∧ W.cell? ⟨w.heap.size + 1, 4, none⟩ = some (.string v.val) ∧ W.cell? ⟨w.heap.size + 1, 5, none⟩ = some (.int .i64 s) ∧ W.cell? ⟨qx, 0, none⟩ = some (.string key) ∧ W.cell? ⟨qx, 1, none⟩ = some (.slice B n d)) ∧ W.cell? ⟨qy, 0, none⟩ = some (.string key) ∧ W.cell? ⟨qy, 1, none⟩ = some (.slice C D.length f)) (first | with_reducible exact ka | with_reducible exact kb | with_reducible exact kc | with_reducible exact kd' | fail)
          (first
            | (go_at_call 14; refine (K3.out _ (KS.out _ (B3.out.trans (B0.out.mono B3.out.size)))).mono ?_; rintro e w5 ⟨v5, rfl, o5, b5⟩; obtain ⟨E5, e5, f5, h51, h52, h53, h54⟩ := o5.rg; subst f5; have R5 := Lib.hid h53; have B5 := Lib.hid (B0.out.trans (b5.mono B0.out.size)); have kb := KG.out _ B5.out; clear o5 b5 h51 h52 h53 h54)
            | (go_at_call 13;
                first
                  | ((with_reducible refine Calls.mono (K4.out _ C E5 _ f e5 D rfl HD.out (R3.out.below B5.out) R5.out) ?_); rintro e w6 ⟨rfl, b6⟩; have B6 := Lib.hid (B5.out.trans (b6.mono B5.out.size)); have kc := KG.out _ B6.out; clear b6)
                  | ((with_reducible refine Calls.mono (K4.out _ B A n d c l HL.out HN.out (KX.out _ (B3.out.trans (B6.out.mono B3.out.size))) (HR.out _ (KS.out _ (B3.out.trans (B6.out.mono B3.out.size))))) ?_); rintro e w7 ⟨rfl, b7⟩; have B7 := Lib.hid (B6.out.trans (b7.mono B6.out.size)); have kd' := KG.out _ B7.out; clear b7))
            | fail)
        all_goals
          go_wp2_with fail
          go_meet
          exact ⟨rfl, B7.out⟩
      case rest =>
        obtain ⟨rfl, hb⟩ := hcut
        have L0 : Hid (DsL W1 qy key C D.length f wc D) := Lib.hid ⟨B3.out.trans (hb.mono B3.out.size), Y3.out.on hb, O3.out.below hb, rfl, NE3.out⟩
        clear ka B0 hb R3 B3 O3 Y3 NE3 KG
        have hd12 := HD.out
        generalize D.length = N at *
        go_upto_region 7 with fail
        go_loopw [8] (fun i wr => ∃ (k : Nat) (M : List Vn), k ≤ N ∧ i = .int .i64 (k : Int) ∧ DsL W1 qy key C N f wr M) (fun i _ => N - (intOf i).toNat)
        case atStart => exact ⟨0, D, Nat.zero_le _, rfl, L0.out⟩
        case round =>
          clear L0
          obtain ⟨k, M, hk, rfl, hM⟩ := hrel
          have y1 := hM.y.c1
          by_cases hlt : k < N
          · obtain ⟨x, hx⟩ : ∃ x, M[k]? = some x := ⟨M[k]'(by rw [hM.ml]; exact hlt), List.getElem?_eq_getElem _⟩
            obtain ⟨g, rfl, hg⟩ := hM.o.first (by rw [hM.ml]; omega)
            obtain ⟨A', c', e', h1, h2, h3, h4⟩ := hM.o.rg
            injection e' with e1 e2 e3
            subst e1
            obtain ⟨ad, e4, hv⟩ := h3.vn hx
            injection e4 with e4
            subst e4
            have c0 := hv.d0
            obtain ⟨fz, M', hM'⟩ := hM.next hx (wrap64 (x.txn + 1))
            have HM := Lib.hid hM'
            have e9 : (⟨g, 0, none⟩ : Addr).add (k * 4) = ⟨g, k * 4, none⟩ := by simp [Addr.add]; omega
            rw [e9] at c0
            clear hv h1 h2 h3 h4 e2 e3 hx hM hM' e9
            go_wp2
            go_roundw
            case rel => exact ⟨k + 1, M', by omega, by go_num, HM.out⟩
            case measure => simp [intOf]; omega
          · obtain rfl : k = N := by omega
            have BB := Lib.hid hM.b
            obtain ⟨s0, s1, a0, a1, a2, a3, a4, a5, x0, x1⟩ := KF.out _ BB.out
            clear hM
            go_upto_region 11 with (go_at_call 15; refine (K5.out _ _ _ (KX.out _ BB.out)).mono ?_; rintro e w8 ⟨rfl, b8⟩; have BB := Lib.hid (BB.out.trans (b8.mono BB.out.size)); clear b8)
            clear s0 s1 a0 a1 a2 a3 a4 a5 x0 x1
            have BB := Lib.hid (BB.out.alloc BB.out.size (.cells #[.int .i64 G.txn, .int .i64 G.ts, .bool G.gone, .string G.val] 26))
            have V1 := Lib.hid (VnBox.new w8 G 26)
            generalize w8.alloc (.cells #[.int .i64 G.txn, .int .i64 G.ts, .bool G.gone, .string G.val] 26) = W8 at *
            generalize w8.heap.size = p1 at *
            obtain ⟨s0, s1, a0, a1, a2, a3, a4, a5, x0, x1⟩ := KF.out _ BB.out
            go_upto_region 12 with (go_at_call 16; refine (K6.out _ (KS.out _ BB.out)).mono ?_; rintro e w9 ⟨rfl, b9⟩; have V1 := Lib.hid (V1.out.on b9); have BB := Lib.hid (BB.out.trans (b9.mono BB.out.size)); clear b9)
            clear s0 s1 a0 a1 a2 a3 a4 a5 x0 x1
            have BB := Lib.hid (BB.out.alloc BB.out.size (.cells #[.int .i64 G.txn, .int .i64 G.ts, .bool G.gone, .string G.val] 26))
            have V1 := Lib.hid (V1.out.alloc (.cells #[.int .i64 G.txn, .int .i64 G.ts, .bool G.gone, .string G.val] 26))
            have V2 := Lib.hid (VnBox.new w9 G 26)
            generalize w9.alloc (.cells #[.int .i64 G.txn, .int .i64 G.ts, .bool G.gone, .string G.val] 26) = W9 at *
            generalize w9.heap.size = p2 at *
            have KH := Lib.hid (fun W (h : Below W9.heap.size W9 W) => (⟨KF.out W (BB.out.trans (h.mono BB.out.size)), (V1.out.on h).c0, (V1.out.on h).c1, (V1.out.on h).c2, (V1.out.on h).c3, (V2.out.on h).c0, (V2.out.on h).c1, (V2.out.on h).c2, (V2.out.on h).c3⟩ : _ ∧ _ ∧ _ ∧ _ ∧ _ ∧ _ ∧ _ ∧ _ ∧ _))
            have KHX := Lib.hid (fun W (h : Below W9.heap.size W9 W) => BB.out.trans (h.mono BB.out.size))
            have b0 := Lib.hid (Below.refl W9.heap.size W9).drew
            have ka := KH.out _ b0.out
            go_region_held3 (fun W => (W.cell? ⟨w.heap.size, 0, none⟩ = some (.string key) ∧ W.cell? ⟨w.heap.size, 1, none⟩ = some (.slice A n c) ∧ W.cell? ⟨w.heap.size + 1, 0, none⟩ = some (.int .u8 (kd : Int)) ∧ W.cell? ⟨w.heap.size + 1, 1, none⟩ = some (.int .i64 v.txn) ∧ W.cell? ⟨w.heap.size + 1, 2, none⟩ = some (.int .i64 v.ts) ∧ W.cell? ⟨w.heap.size + 1, 3, none⟩ = some (.bool v.gone) ∧ W.cell? ⟨w.heap.size + 1, 4, none⟩ = some (.string v.val) ∧ W.cell? ⟨w.heap.size + 1, 5, none⟩ = some (.int .i64 s) ∧ W.cell? ⟨qx, 0, none⟩ = some (.string key) ∧ W.cell? ⟨qx, 1, none⟩ = some (.slice B n d)) ∧ W.cell? ⟨p1, 0, none⟩ = some (.int .i64 G.txn) ∧ W.cell? ⟨p1, 1, none⟩ = some (.int .i64 G.ts) ∧ W.cell? ⟨p1, 2, none⟩ = some (.bool G.gone) ∧ W.cell? ⟨p1, 3, none⟩ = some (.string G.val) ∧ W.cell? ⟨p2, 0, none⟩ = some (.int .i64 G.txn) ∧ W.cell? ⟨p2, 1, none⟩ = some (.int .i64 G.ts) ∧ W.cell? ⟨p2, 2, none⟩ = some (.bool G.gone) ∧ W.cell? ⟨p2, 3, none⟩ = some (.string G.val)) (first | with_reducible exact ka | with_reducible exact kb | with_reducible exact kc | with_reducible exact kd' | with_reducible exact ke | fail)
              (first
                | (go_at_call 13; refine (K4.out _ B A n d c l HL.out HN.out (KX.out _ (KHX.out _ b0.out)) (HR.out _ (KS.out _ (KHX.out _ b0.out)))).mono ?_; rintro e u1 ⟨rfl, h1⟩; have b1 := Lib.hid (b0.out.trans (h1.mono b0.out.size)); have kb := KH.out _ b1.out; clear h1)
                | (go_at_call 17; refine (K7.out _ _ _ D2.out (KX.out _ (KHX.out _ b1.out))).mono ?_; rintro e u2 ⟨rfl, h2⟩; have b2 := Lib.hid (b1.out.trans (h2.mono b1.out.size)); have kc := KH.out _ b2.out; clear h2)
                | (go_at_call 18; refine (K8.out _ (KS.out _ (KHX.out _ b2.out))).mono ?_; rintro e u3 ⟨rfl, h3⟩; have b3 := Lib.hid (b2.out.trans (h3.mono b2.out.size)); have kd' := KH.out _ b3.out; clear h3)
                | (go_at_call 10; refine (KA.out _).mono ?_; rintro e u4 ⟨rfl, h4⟩; have b4 := Lib.hid (b3.out.trans (h4.mono b3.out.size)); have ke := KH.out _ b4.out; clear h4)
                | fail)
            all_goals
              go_wp2_with fail
              go_ret
              exact ⟨rfl, KS.out _ (KHX.out _ b4.out)⟩
end Go.Proofs.Ytchfpgdioclajaa
