/- The document's stacks: Write. -/
import Derived.Test.YtchfpgdioclajaaVtB
import Derived.Test.YtchfpgdioclajaaVsH
namespace Go.Proofs.Ytchfpgdioclajaa
open Go.RowKit
set_option linter.unusedVariables false
set_option linter.unusedSimpArgs false
theorem StBox.grown' {W W' : World} {q : Nat} {key : ByteArray} {A : Option Addr} {n c : Nat} (h : StBox W q key A n c) {row : Option Nat} (hg : W.grownBy W' row) (hne : row ≠ some q) : StBox W' q key A n c := h.same' (hg.block q h.lt fun e => hne e.symm)
/-- What is stored at the end: the stack in the box q goes into the result. -/
theorem WrW.fin {w : World} {key : ByteArray} {A : Option Addr} {n c : Nat} {v : Vn} {W : World} (h : WrW w key A n c v W) {B : Option Addr} {m d : Nat} {L : List Vn} (o : OG KV 26 (w.heap.size + 3) W (.slice B m d) L) :
    StBox (setSt W (w.heap.size + 2) key (.slice B m d)) (w.heap.size + 2) key B m d ∧ OG KV 26 w.heap.size (setSt W (w.heap.size + 2) key (.slice B m d)) (.slice B m d) L ∧ Below w.heap.size w (setSt W (w.heap.size + 2) key (.slice B m d)) :=
  ⟨h.r.put key B m d, (o.setSt (q := w.heap.size + 2) (by omega) key (.slice B m d)).lift (by omega), belowSetSt h.b (by omega) key (.slice B m d)⟩
theorem WrW.cell {w : World} {key : ByteArray} {A : Option Addr} {n c : Nat} {v : Vn} {W : World} (h : WrW w key A n c v W) {q : Nat} (hq : w.heap.size + 2 < q) (i : Nat) (u : Value) : WrW w key A n c v (W.setCell ⟨q, i, none⟩ u) := by
  have hb : Below q W (W.setCell ⟨q, i, none⟩ u) := (Below.refl _ _).setCell (p := ⟨q, i, none⟩) (Nat.le_refl _) _
  exact ⟨h.b.trans (hb.mono (by omega)), h.s.below hb (by omega), h.v.below hb (by omega), h.r.below hb (by omega)⟩
set_option maxHeartbeats 2000000 in
set_option maxRecDepth 100000 in
theorem refWrite_any (key : ByteArray) (A : Option Addr) (n c : Nat) (l : List Vn) (v : Vn) (w : World) (hl : l.length = n) (hn : n ≤ 1000) (hr : RG KV w A l) :
    Calls Try.prog 47 #[.agg #[.string key, .slice A n c], v.v] w fun e w' => ∃ v', e = .returned (.agg #[.string key, v']) ∧ OG KV 26 w.heap.size w' v' (vsWrite l v) ∧ Below w.heap.size w w' := by
  have KC := Lib.hid (fun (W : World) (h : Below w.heap.size w W) => refWith_any key (.slice A n c) A n c l W ⟨A, n, c, rfl⟩ hl hn (hr.below h))
  have KI := Lib.hid (fun (W : World) (h : Below w.heap.size w W) => refPlace_any key A n c l v.txn W hl hn (hr.below h))
  have P0 := Lib.hid (WrW.new w key A n c v)
  have HL := Lib.hid hl
  unfold Vn.v
  have hv0 : Hid (vsWrite l v = if vsAt l v.txn < l.length then l.set (vsAt l v.txn) { v with ts := 0 } else if l.length < 8 then l ++ [{ v with ts := 0 }] else l) := Lib.hid rfl
  generalize vsWrite l v = R at hv0 ⊢
  clear hl hr
  go_enter Try.func47, Try.ntmps47
  go_upto_region 1 with fail
  generalize ((w.alloc (.cells #[.string key, .slice A n c] 24)).alloc (.cells #[.int .i64 v.txn, .int .i64 v.ts, .bool v.gone, .string v.val] 26)).alloc (.cells #[.string ⟨#[]⟩, .slice none 0 0] 24) = W0 at *
  have s0 := P0.out.s.c0
  have s1 := P0.out.s.c1
  go_upto_region 2 with (go_at_call 87; refine (KC.out _ P0.out.b).mono ?_; rintro e w2 ⟨v2, rfl, o2, b2⟩; have P1 := Lib.hid (P0.out.on b2); have O1 := Lib.hid (o2.lift P0.out.r.lt); obtain ⟨A2, c2, e2, h21, h22, h23, h24⟩ := o2.rg; (rw [HL.out] at e2); subst e2; clear o2 b2 h21 h22 h23 h24)
  clear s0 s1
  have HOQ := Lib.hid (show ∀ k, (Value.slice A2 n c2).ownBlock = some k → k < w2.heap.size from fun k e => by
    obtain ⟨css, o1, _⟩ := O1.out
    exact (World.ownsRow.lt o1 k e).2)
  have P2 := Lib.hid (P1.out.on (below1 w2 (.cells #[.string key, .slice A2 n c2] 24)))
  have O2 := Lib.hid (O1.out.alloc (.cells #[.string key, .slice A2 n c2] 24))
  have G2 := Lib.hid (StBox.new w2 key A2 n c2 24)
  have HQ := Lib.hid (show w.heap.size + 2 < w2.heap.size from P1.out.r.lt)
  clear P1 O1
  generalize w2.alloc (.cells #[.string key, .slice A2 n c2] 24) = W2 at *
  generalize w2.heap.size = q at *
  have c1 := P2.out.v.c1
  have f1 := P2.out.v.f1
  go_upto_region 3 with fail
  have P3 := Lib.hid P2.out.set1
  have O3 := Lib.hid (O2.out.cellV (q := w.heap.size + 1) (by omega) 1 (.int .i64 0))
  have G3 := Lib.hid (G2.out.off (p := w.heap.size + 1) (by have := HQ.out; omega) 1 (.int .i64 0))
  clear c1 f1
  generalize W2.setCell ⟨w.heap.size + 1, 1, none⟩ (.int .i64 0) = W3 at *
  have s0 := P3.out.s.c0; have s1 := P3.out.s.c1
  have v0 := P3.out.v.c0; have v1 := P3.out.v.c1; have v2 := P3.out.v.c2; have v3 := P3.out.v.c3
  by_cases hat : vsAt l v.txn < l.length
  · obtain ⟨k, x, e1, hk, hx, e2, _, _⟩ := vsGot_some hat
    rw [e2] at KI
    have HR : Hid (R = l.set k { v with ts := 0 }) := Lib.hid (by rw [hv0.out, if_pos hat, e1])
    obtain ⟨g, rfl, hg⟩ := O3.out.first (by omega)
    rw [HL.out] at hk
    have HG := Lib.hid hg
    have HGQ := Lib.hid (HOQ.out g rfl)
    clear e1 hx e2 hat hv0 hg
    go_upto_region 4 with (first
      | (go_at_call 50; refine (KI.out _ P3.out.b).mono ?_; rintro e w4 ⟨rfl, b4⟩; have P2 := Lib.hid (P3.out.on b4); have O2 := Lib.hid (O3.out.below b4); have G4 := Lib.hid (G3.out.on b4); obtain ⟨hc, hs⟩ := O2.out.setV HL.out hk { v with ts := 0 }; obtain ⟨⟨u0, i0⟩, j0⟩ := hc 0 (by omega); obtain ⟨⟨u1, i1⟩, j1⟩ := hc 1 (by omega); obtain ⟨⟨u2, i2⟩, j2⟩ := hc 2 (by omega); obtain ⟨⟨u3, i3⟩, j3⟩ := hc 3 (by omega); (rw [Nat.add_zero] at i0 j0); have v0 := P2.out.v.c0; have v1 := P2.out.v.c1; have v2 := P2.out.v.c2; have v3 := P2.out.v.c3; have HS := Lib.hid hs; have P4 := Lib.hid (P2.out.setAt HG.out (k * 4) { v with ts := 0 }); have x1 := G4.out.c1; have G5 := Lib.hid (G4.out.same' (setAt_other w4 g (k * 4) { v with ts := 0 } q (by have := HGQ.out; omega))); have r0 := P4.out.r.c0; have r1 := P4.out.r.c1; have g0 := P4.out.r.f0; have g1 := P4.out.r.f1; have y0 := G5.out.c0; have y1 := G5.out.c1; clear hc hs b4)
      | fail)
    unfold setAt at r0 r1 g0 g1 y0 y1
    go_wp2
    obtain ⟨f1, o6, b6⟩ := P4.out.fin HS.out
    have z0 := f1.c0; have z1 := f1.c1
    unfold setSt setAt at z0 z1 o6 b6
    refine bodyPost_ret (v := .agg #[.string key, .slice (some ⟨g, 0, none⟩) n c2]) (by simp [results, Try.results47, go_sem, z0, z1]) rfl ⟨_, rfl, by rw [HR.out]; exact o6, b6⟩
  · obtain ⟨e1, _, _⟩ := vsGot_none hat
    rw [e1] at KI
    by_cases h8 : n < 8
    · have HR : Hid (R = l ++ [{ v with ts := 0 }]) := Lib.hid (by rw [hv0.out, if_neg hat, if_pos (by rw [HL.out]; exact h8)])
      clear e1 hat hv0
      go_upto_region 4 with (first
        | (go_at_call 50; refine (KI.out _ P3.out.b).mono ?_; rintro e w4 ⟨rfl, b4⟩; have P2 := Lib.hid (P3.out.on b4); have O2 := Lib.hid (O3.out.below b4); have G4 := Lib.hid (G3.out.on b4); have s1 := P2.out.s.c1; have v0 := P2.out.v.c0; have v1 := P2.out.v.c1; have v2 := P2.out.v.c2; have v3 := P2.out.v.c3; have x1 := G4.out.c1; clear b4)
        | fail)
      go_upto_region 8 with (first | (at_builtin; (refine wpList_append_G tgV rfl _ _ rfl (w.heap.size + 3) _ l rfl (O2.out.alloc _) (some ⟨w4.heap.size, 0, none⟩) 1 1 [{ v with ts := 0 }] rfl rfl (rgV_lit _ _ _) (Apart.flat vn_flat) (by rw [HL.out]; simp; omega) (by have := P2.out.r.lt; simp; omega) ?_; intro v5 w5 o5 b5 g5 h5; have HNE := Lib.hid (fun b (hb : v5.ownBlock = some b) => show b ≠ q from fun e => by have hq4 := G4.out.lt; (rcases h5 with h5 | h5); (· rw [h5] at hb; have := HOQ.out _ hb; omega); (· rw [h5] at hb; injection hb with hb; rw [heap_size_alloc] at hb; omega)); have P5 := Lib.hid (P2.out.alloc5 b5); have G5 := Lib.hid ((G4.out.on (below1 w4 _)).grown' g5 (fun e => by have := HOQ.out _ e; omega)); obtain ⟨A5, c5, e5, h51, h52, h53, h54⟩ := o5.rg; (rw [List.length_append, List.length_singleton] at e5); subst e5; have O5 := Lib.hid o5; have x2 := G5.out.f1; have x3 := G5.out.c1; clear o5 b5 g5 h51 h52 h53 h54)) | fail)
      have P6 := Lib.hid (P5.out.cell HQ.out 1 (.slice A5 (l.length + 1) c5))
      have G6 := Lib.hid (G5.out.put1' A5 (l.length + 1) c5)
      have O6 : Hid (OG KV 26 (w.heap.size + 3) (w5.setCell ⟨q, 1, none⟩ (.slice A5 (l.length + 1) c5)) (.slice A5 (l.length + 1) c5) (l ++ [{ v with ts := 0 }])) := Lib.hid (by
        have h := O5.out
        obtain ⟨css, h1, h2, h3⟩ := h
        exact ⟨css, ownsRow_keepB h1 fun b hb => setCell_else w5 q 1 _ b (HNE.out b hb), h2, h3⟩)
      generalize w5.setCell ⟨q, 1, none⟩ (.slice A5 (l.length + 1) c5) = W6 at *
      have r0 := P6.out.r.c0; have r1 := P6.out.r.c1; have g0 := P6.out.r.f0; have g1 := P6.out.r.f1; have y0 := G6.out.c0; have y1 := G6.out.c1
      go_wp2
      obtain ⟨f1, o6, b6⟩ := P6.out.fin O6.out
      have z0 := f1.c0; have z1 := f1.c1
      unfold setSt at z0 z1 o6 b6
      refine bodyPost_ret (v := .agg #[.string key, .slice A5 (l.length + 1) c5]) (by simp [results, Try.results47, go_sem, z0, z1]) rfl ⟨_, rfl, by rw [HR.out]; exact o6, b6⟩
    · have HR : Hid (R = l) := Lib.hid (by rw [hv0.out, if_neg hat, if_neg (by rw [HL.out]; exact h8)])
      clear e1 hat hv0
      go_upto_region 4 with (first
        | (go_at_call 50; refine (KI.out _ P3.out.b).mono ?_; rintro e w4 ⟨rfl, b4⟩; have P2 := Lib.hid (P3.out.on b4); have O2 := Lib.hid (O3.out.below b4); have G4 := Lib.hid (G3.out.on b4); have s1 := P2.out.s.c1; have r0 := P2.out.r.c0; have r1 := P2.out.r.c1; have g0 := P2.out.r.f0; have g1 := P2.out.r.f1; have y0 := G4.out.c0; have y1 := G4.out.c1; clear b4)
        | fail)
      go_wp2
      obtain ⟨f1, o6, b6⟩ := P2.out.fin O2.out
      have z0 := f1.c0; have z1 := f1.c1
      unfold setSt at z0 z1 o6 b6
      refine bodyPost_ret (v := .agg #[.string key, .slice A2 n c2]) (by simp [results, Try.results47, go_sem, z0, z1]) rfl ⟨_, rfl, by rw [HR.out]; exact o6, b6⟩
end Go.Proofs.Ytchfpgdioclajaa
