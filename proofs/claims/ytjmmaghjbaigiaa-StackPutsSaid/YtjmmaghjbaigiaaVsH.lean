/- Stacks: Write. -/
import Derived.Test.YtjmmaghjbaigiaaVsG
import Derived.Test.YtjmmaghjbaigiaaVsI
namespace Go.Proofs.Ytjmmaghjbaigiaa
open Go.RowKit
set_option linter.unusedVariables false
set_option linter.unusedSimpArgs false
theorem ownsRow_set {base : Nat} {T : TypeId} {w : World} {g n c m : Nat} {xs : List Value} (h : w.ownsRow base T 4 (.slice (some ⟨g, 0, none⟩) n c) n xs) (hm : m < n * 4) (u : Value) :
    (∃ u0, w.cell? ⟨g, m, none⟩ = some u0) ∧ w.frozen? ⟨g, m, none⟩ = false ∧ (w.setCell ⟨g, m, none⟩ u).ownsRow base T 4 (.slice (some ⟨g, 0, none⟩) n c) n (xs.set m u) := by
  have hl := h.1
  rcases h.2 with ⟨e, _⟩ | ⟨g', cap, cur, e, hb, hh, hc, hcm, hsz, ht⟩
  · cases e
  · injection e with e1 e2 e3
    injection e1 with e1
    injection e1 with e1
    subst e1 e3
    have hcur : m < cur.size := by omega
    refine ⟨⟨cur[m], by rw [cell_of_row w g m _ _ _ hh]; exact Array.getElem?_eq_getElem hcur⟩, by simp [World.frozen?, hh], by rw [List.length_set]; exact hl, .inr ⟨g, c, cur.setIfInBounds m u, rfl, hb, heap_setCell_same w g m cur T u hh, hc, hcm, by rw [Array.size_setIfInBounds]; exact hsz, ?_⟩⟩
    rw [Array.toList_setIfInBounds, List.take_set, ht]
theorem set4 (a b c d a' b' c' d' : Value) (R : List Value) (m : Nat) : ((((([a, b, c, d] ++ R).set (4 + m) a').set (4 + m + 1) b').set (4 + m + 2) c').set (4 + m + 3) d') = [a, b, c, d] ++ ((((R.set m a').set (m + 1) b').set (m + 2) c').set (m + 3) d') := by
  rw [show 4 + m = m + 1 + 1 + 1 + 1 by omega]
  simp only [List.cons_append, List.nil_append, List.set_cons_succ]
theorem flatV_set (l : List Vn) (j : Nat) (x : Vn) (hj : j < l.length) : flatV (l.set j x) = ((((flatV l).set (j * 4) (.int .i64 x.txn)).set (j * 4 + 1) (.int .i64 x.ts)).set (j * 4 + 2) (.bool x.gone)).set (j * 4 + 3) (.string x.val) := by
  induction l generalizing j with
  | nil => simp at hj
  | cons y r ih =>
    cases j with
    | zero =>
      rw [List.set_cons_zero, flatV_cons, flatV_cons]
      simp [Vn.cs]
    | succ j =>
      rw [List.set_cons_succ, flatV_cons, flatV_cons, ih j (by simpa using hj), show (j + 1) * 4 = 4 + j * 4 by omega]
      exact (set4 _ _ _ _ _ _ _ _ (flatV r) (j * 4)).symm
def setAt (W : World) (g m : Nat) (x : Vn) : World := (((W.setCell ⟨g, m, none⟩ (.int .i64 x.txn)).setCell ⟨g, m + 1, none⟩ (.int .i64 x.ts)).setCell ⟨g, m + 2, none⟩ (.bool x.gone)).setCell ⟨g, m + 3, none⟩ (.string x.val)
/-- A version stored into a row of one's own. -/
theorem OG.setV {base : Nat} {T : TypeId} {w : World} {g n c j : Nat} {l : List Vn} (h : OG KV T base w (.slice (some ⟨g, 0, none⟩) n c) l) (hl : l.length = n) (hj : j < n) (x : Vn) :
    (∀ i, i < 4 → (∃ u0, w.cell? ⟨g, j * 4 + i, none⟩ = some u0) ∧ w.frozen? ⟨g, j * 4 + i, none⟩ = false) ∧ OG KV T base (setAt w g (j * 4) x) (.slice (some ⟨g, 0, none⟩) n c) (l.set j x) := by
  have h0 := h.flatV
  rw [hl] at h0
  refine ⟨fun i hi => ?_, ?_⟩
  · obtain ⟨a, b, _⟩ := ownsRow_set h0 (m := j * 4 + i) (by omega) undef
    exact ⟨a, b⟩
  · obtain ⟨_, _, h1⟩ := ownsRow_set h0 (m := j * 4) (by omega) (.int .i64 x.txn)
    obtain ⟨_, _, h2⟩ := ownsRow_set h1 (m := j * 4 + 1) (by omega) (.int .i64 x.ts)
    obtain ⟨_, _, h3⟩ := ownsRow_set h2 (m := j * 4 + 2) (by omega) (.bool x.gone)
    obtain ⟨_, _, h4⟩ := ownsRow_set h3 (m := j * 4 + 3) (by omega) (.string x.val)
    rw [← flatV_set l j x (by omega)] at h4
    exact OG.ofFlat h4 (by rw [List.length_set]; exact hl)
theorem setAt_other (W : World) (g m : Nat) (x : Vn) (b : Nat) (h : b ≠ g) : (setAt W g m x).heap[b]? = W.heap[b]? := by
  unfold setAt
  rw [setCell_else _ g _ _ b h, setCell_else _ g _ _ b h, setCell_else _ g _ _ b h, setCell_else _ g _ _ b h]
theorem belowSetAt {B : Nat} {w W : World} (h : Below B w W) {g : Nat} (hg : B ≤ g) (m : Nat) (x : Vn) : Below B w (setAt W g m x) :=
  (((h.setCell (p := ⟨g, m, none⟩) hg _).setCell (p := ⟨g, m + 1, none⟩) hg _).setCell (p := ⟨g, m + 2, none⟩) hg _).setCell (p := ⟨g, m + 3, none⟩) hg _
theorem OG.first {base : Nat} {T : TypeId} {w : World} {A : Option Addr} {n c : Nat} {l : List Vn} (h : OG KV T base w (.slice A n c) l) (hl : 0 < l.length) : ∃ g, A = some ⟨g, 0, none⟩ ∧ base ≤ g := by
  obtain ⟨css, o, _⟩ := h
  rcases o.2 with ⟨e, h0⟩ | ⟨g, cap, cur, e, hb, _⟩
  · omega
  · injection e with e _ _
    exact ⟨g, e, hb⟩
/-- Write's memory: the stack, the version, the result. -/
structure WrW (w : World) (key : ByteArray) (A : Option Addr) (n c : Nat) (v : Vn) (W : World) : Prop where
  b : Below w.heap.size w W
  s : StBox W w.heap.size key A n c
  v : VnBox W (w.heap.size + 1) v
  r : StBox W (w.heap.size + 2) ⟨#[]⟩ none 0 0
theorem WrW.on {w : World} {key : ByteArray} {A : Option Addr} {n c : Nat} {v : Vn} {W W' : World} (h : WrW w key A n c v W) (hb : Below W.heap.size W W') : WrW w key A n c v W' := ⟨h.b.trans (hb.mono h.b.size), h.s.on hb, h.v.on hb, h.r.on hb⟩
theorem WrW.new (w : World) (key : ByteArray) (A : Option Addr) (n c : Nat) (v : Vn) : WrW w key A n c v (((w.alloc (.cells #[.string key, .slice A n c] 24)).alloc (.cells #[.int .i64 v.txn, .int .i64 v.ts, .bool v.gone, .string v.val] 66)).alloc (.cells #[.string ⟨#[]⟩, .slice none 0 0] 24)) := by
  have b1 := below1 w (.cells #[.string key, .slice A n c] 24)
  have s1 := heap_size_alloc w (.cells #[.string key, .slice A n c] 24)
  have x1 := StBox.new w key A n c 24
  generalize w.alloc (.cells #[.string key, .slice A n c] 24) = w1 at *
  have b2 := below1 w1 (.cells #[.int .i64 v.txn, .int .i64 v.ts, .bool v.gone, .string v.val] 66)
  have s2 := heap_size_alloc w1 (.cells #[.int .i64 v.txn, .int .i64 v.ts, .bool v.gone, .string v.val] 66)
  have x2 := VnBox.new w1 v 66
  generalize w1.alloc (.cells #[.int .i64 v.txn, .int .i64 v.ts, .bool v.gone, .string v.val] 66) = w2 at *
  have b3 := below1 w2 (.cells #[.string ⟨#[]⟩, .slice none 0 0] 24)
  have s3 := heap_size_alloc w2 (.cells #[.string ⟨#[]⟩, .slice none 0 0] 24)
  have x3 := StBox.new w2 ⟨#[]⟩ none 0 0 24
  generalize w2.alloc (.cells #[.string ⟨#[]⟩, .slice none 0 0] 24) = w3 at *
  have e1 : w1.heap.size = w.heap.size + 1 := s1
  have e2 : w2.heap.size = w.heap.size + 2 := by omega
  rw [e1] at x2
  rw [e2] at x3
  have b23 : Below w1.heap.size w1 w3 := b2.trans (b3.mono (by omega))
  exact ⟨b1.trans (b23.mono (by omega)), x1.on b23, x2.on b3, x3⟩
theorem WrW.set1 {w : World} {key : ByteArray} {A : Option Addr} {n c : Nat} {v : Vn} {W : World} (h : WrW w key A n c v W) : WrW w key A n c { v with ts := 0 } (W.setCell ⟨w.heap.size + 1, 1, none⟩ (.int .i64 0)) := by
  refine ⟨h.b.setCell (p := ⟨w.heap.size + 1, 1, none⟩) (by simp) _, h.s.off (by omega) _ _, ?_, h.r.off (by omega) _ _⟩
  obtain ⟨a0, a1, a2, a3, f0, f1, f2, f3⟩ := h.v
  constructor <;> simp [World.cell?_setCell_other, World.cell?_setCell_same', a0, a1, a2, a3, f0, f1, f2, f3]
theorem WrW.setAt {w : World} {key : ByteArray} {A : Option Addr} {n c : Nat} {v : Vn} {W : World} (h : WrW w key A n c v W) {g : Nat} (hg : w.heap.size + 2 < g) (m : Nat) (x : Vn) : WrW w key A n c v (Go.Proofs.Ytjmmaghjbaigiaa.setAt W g m x) := by
  have hb : Below g W (Go.Proofs.Ytjmmaghjbaigiaa.setAt W g m x) := belowSetAt (Below.refl _ _) (Nat.le_refl _) m x
  exact ⟨h.b.trans (hb.mono (by omega)), h.s.below hb (by omega), h.v.below hb (by omega), h.r.below hb (by omega)⟩
theorem WrW.alloc5 {w : World} {key : ByteArray} {A : Option Addr} {n c : Nat} {v : Vn} {W W' : World} {o : Obj} (h : WrW w key A n c v W) (hb : Below (w.heap.size + 3) (W.alloc o) W') : WrW w key A n c v W' := by
  have h1 := h.on (below1 W o)
  exact ⟨h1.b.trans (hb.mono (by omega)), h1.s.below hb (by omega), h1.v.below hb (by omega), h1.r.below hb (by omega)⟩
set_option maxHeartbeats 4000000 in
set_option maxRecDepth 100000 in
theorem vsWrite_any (key : ByteArray) (A : Option Addr) (n c : Nat) (l : List Vn) (v : Vn) (w : World) (hl : l.length = n) (hn : n ≤ 1000) (hr : RG KV w A l) :
    Calls Try.prog 33 #[.agg #[.string key, .slice A n c], v.v] w fun e w' => ∃ v', e = .returned (.agg #[.string key, v']) ∧ OG KV 66 w.heap.size w' v' (vsWrite l v) ∧ Below w.heap.size w w' := by
  have HK := Lib.hid (fun (W : World) => vsPendingOf_any v.txn W)
  have KC := Lib.hid (fun (W : World) (h : Below w.heap.size w W) => vsClone_any A n c l W hl hn (hr.below h))
  have KI := Lib.hid (fun (W : World) (q : Nat) (B : Option Addr) (d : Nat) (hq : W.cell? ⟨q, 0, none⟩ = some (.int .i64 v.txn)) (hB : RG KV W B l) => vsIndexFunc_any B n d l v.txn q W hl hn hB hq)
  have P0 := Lib.hid (WrW.new w key A n c v)
  have HL := Lib.hid hl
  unfold Vn.v
  have hv0 : Hid (vsWrite l v = if vsAt l v.txn < l.length then l.set (vsAt l v.txn) { v with ts := 0 } else if l.length < 8 then l ++ [{ v with ts := 0 }] else l) := Lib.hid rfl
  generalize vsWrite l v = R at hv0 ⊢
  clear hl hr
  go_enter Try.func33, Try.ntmps33
  go_upto_region 1 with fail
  generalize ((w.alloc (.cells #[.string key, .slice A n c] 24)).alloc (.cells #[.int .i64 v.txn, .int .i64 v.ts, .bool v.gone, .string v.val] 66)).alloc (.cells #[.string ⟨#[]⟩, .slice none 0 0] 24) = W0 at *
  have c1 := P0.out.v.c1
  have f1 := P0.out.v.f1
  go_upto_region 2 with fail
  have P1 := Lib.hid P0.out.set1
  have s0 := P1.out.s.c0
  have s1 := P1.out.s.c1
  clear c1 f1
  generalize W0.setCell ⟨w.heap.size + 1, 1, none⟩ (.int .i64 0) = W1 at *
  go_upto_region 3 with (go_at_call 70; refine (KC.out _ P1.out.b).mono ?_; rintro e w2 ⟨v2, rfl, o2, b2⟩; have P2 := Lib.hid (P1.out.on b2); have O2 := Lib.hid (o2.lift P1.out.r.lt); obtain ⟨A2, c2, e2, h21, h22, h23, h24⟩ := o2.rg; rw [HL.out] at e2; subst e2; have s0 := P2.out.s.c0; have s1 := P2.out.s.c1; have v0 := P2.out.v.c0; have v1 := P2.out.v.c1; have v2 := P2.out.v.c2; have v3 := P2.out.v.c3; have R2 := Lib.hid h23; clear o2 b2 h21 h22 h23 h24)
  by_cases hat : vsAt l v.txn < l.length
  · obtain ⟨k, x, e1, hk, hx, e2, _, _⟩ := vsGot_some hat
    rw [e2] at KI
    have HR : Hid (R = l.set k { v with ts := 0 }) := Lib.hid (by rw [hv0.out, if_pos hat, e1])
    obtain ⟨g, rfl, hg⟩ := O2.out.first (by omega)
    rw [HL.out] at hk
    have HG := Lib.hid hg
    clear e1 hx e2 hat hv0 hg
    go_upto_region 4 with (first
      | (go_at_call 72; refine (HK.out _).mono ?_; rintro e w3 ⟨q, rfl, q1, _, _, b3⟩; have P2 := Lib.hid (P2.out.on b3); have O2 := Lib.hid (O2.out.below b3); have R2 := Lib.hid (R2.out.below b3); have Q1 := Lib.hid q1; clear q1 b3)
      | (go_at_call 71; refine (KI.out _ q _ _ Q1.out R2.out).mono ?_; rintro e w4 ⟨rfl, b4⟩; have P2 := Lib.hid (P2.out.on b4); have O2 := Lib.hid (O2.out.below b4); obtain ⟨hc, hs⟩ := O2.out.setV HL.out hk { v with ts := 0 }; obtain ⟨⟨u0, i0⟩, j0⟩ := hc 0 (by omega); obtain ⟨⟨u1, i1⟩, j1⟩ := hc 1 (by omega); obtain ⟨⟨u2, i2⟩, j2⟩ := hc 2 (by omega); obtain ⟨⟨u3, i3⟩, j3⟩ := hc 3 (by omega); rw [Nat.add_zero] at i0 j0; have v0 := P2.out.v.c0; have v1 := P2.out.v.c1; have v2 := P2.out.v.c2; have v3 := P2.out.v.c3; have HS := Lib.hid hs; have P4 := Lib.hid (P2.out.setAt HG.out (k * 4) { v with ts := 0 }); have s0 := P4.out.s.c0; have r0 := P4.out.r.c0; have r1 := P4.out.r.c1; have g0 := P4.out.r.f0; have g1 := P4.out.r.f1; clear hc hs b4)
      | fail)
    unfold setAt at s0 r0 r1 g0 g1
    go_wp2
    have P := P4.out.r.put key (some ⟨g, 0, none⟩) n c2
    have z0 := P.c0; have z1 := P.c1
    have o6 := HS.out.setSt (q := w.heap.size + 2) (by omega) key (.slice (some ⟨g, 0, none⟩) n c2)
    have b6 := belowSetSt (q := w.heap.size + 2) P4.out.b (by omega) key (.slice (some ⟨g, 0, none⟩) n c2)
    unfold setSt setAt at z0 z1 o6 b6
    refine bodyPost_ret (v := .agg #[.string key, .slice (some ⟨g, 0, none⟩) n c2]) (by simp [results, Try.results33, go_sem, z0, z1]) rfl ⟨_, rfl, by rw [HR.out]; exact o6.lift (by omega), b6⟩
  · obtain ⟨e1, _, _⟩ := vsGot_none hat
    rw [e1] at KI
    by_cases h8 : n < 8
    · have HR : Hid (R = l ++ [{ v with ts := 0 }]) := Lib.hid (by rw [hv0.out, if_neg hat, if_pos (by rw [HL.out]; exact h8)])
      clear e1 hat hv0
      go_upto_region 4 with (first
        | (go_at_call 72; refine (HK.out _).mono ?_; rintro e w3 ⟨q, rfl, q1, _, _, b3⟩; have P2 := Lib.hid (P2.out.on b3); have O2 := Lib.hid (O2.out.below b3); have R2 := Lib.hid (R2.out.below b3); have Q1 := Lib.hid q1; clear q1 b3)
        | (go_at_call 71; refine (KI.out _ q _ _ Q1.out R2.out).mono ?_; rintro e w4 ⟨rfl, b4⟩; have P2 := Lib.hid (P2.out.on b4); have O2 := Lib.hid (O2.out.below b4); have v0 := P2.out.v.c0; have v1 := P2.out.v.c1; have v2 := P2.out.v.c2; have v3 := P2.out.v.c3; clear b4)
        | fail)
      go_upto_region 8 with (first | (at_builtin; (refine wpList_append_G tgV rfl _ _ rfl (w.heap.size + 3) _ l rfl (O2.out.alloc _) (some ⟨w4.heap.size, 0, none⟩) 1 1 [{ v with ts := 0 }] rfl rfl (rgV_lit _ _ _) (Apart.flat vn_flat) (by rw [HL.out]; simp; omega) (by have := P2.out.r.lt; simp; omega) ?_; intro v5 w5 o5 b5 _ _; have P2 := Lib.hid (P2.out.alloc5 b5); obtain ⟨A5, c5, e5, h51, h52, h53, h54⟩ := o5.rg; subst e5; have O5 := Lib.hid o5; have s0 := P2.out.s.c0; have r0 := P2.out.r.c0; have r1 := P2.out.r.c1; have g0 := P2.out.r.f0; have g1 := P2.out.r.f1; clear o5 b5 h51 h52 h53 h54)) | fail)
      go_wp2
      have P := P2.out.r.put key A5 (l.length + 1) c5
      have z0 := P.c0; have z1 := P.c1
      have o6 := O5.out.setSt (q := w.heap.size + 2) (by omega) key (.slice A5 (l.length + 1) c5)
      rw [List.length_append, List.length_singleton] at o6
      have b6 := belowSetSt (q := w.heap.size + 2) P2.out.b (by omega) key (.slice A5 (l.length + 1) c5)
      unfold setSt at z0 z1 o6 b6
      refine bodyPost_ret (v := .agg #[.string key, .slice A5 (l.length + 1) c5]) (by simp [results, Try.results33, go_sem, z0, z1]) rfl ⟨_, rfl, by rw [HR.out]; exact OG.lift (b := w.heap.size + 3) o6 (by omega), b6⟩
    · have HR : Hid (R = l) := Lib.hid (by rw [hv0.out, if_neg hat, if_neg (by rw [HL.out]; exact h8)])
      clear e1 hat hv0
      go_upto_region 4 with (first
        | (go_at_call 72; refine (HK.out _).mono ?_; rintro e w3 ⟨q, rfl, q1, _, _, b3⟩; have P2 := Lib.hid (P2.out.on b3); have O2 := Lib.hid (O2.out.below b3); have R2 := Lib.hid (R2.out.below b3); have Q1 := Lib.hid q1; clear q1 b3)
        | (go_at_call 71; refine (KI.out _ q _ _ Q1.out R2.out).mono ?_; rintro e w4 ⟨rfl, b4⟩; have P2 := Lib.hid (P2.out.on b4); have O2 := Lib.hid (O2.out.below b4); have s0 := P2.out.s.c0; have r0 := P2.out.r.c0; have r1 := P2.out.r.c1; have g0 := P2.out.r.f0; have g1 := P2.out.r.f1; clear b4)
        | fail)
      go_wp2
      have P := P2.out.r.put key A2 n c2
      have z0 := P.c0; have z1 := P.c1
      have o6 := O2.out.setSt (q := w.heap.size + 2) (by omega) key (.slice A2 n c2)
      have b6 := belowSetSt (q := w.heap.size + 2) P2.out.b (by omega) key (.slice A2 n c2)
      unfold setSt at z0 z1 o6 b6
      refine bodyPost_ret (v := .agg #[.string key, .slice A2 n c2]) (by simp [results, Try.results33, go_sem, z0, z1]) rfl ⟨_, rfl, by rw [HR.out]; exact o6.lift (by omega), b6⟩
end Go.Proofs.Ytjmmaghjbaigiaa
