/- The document's stacks: Commit. -/
import Derived.Test.YtchfpgdioclajaaVtB
import Derived.Test.YtchfpgdioclajaaVsK
import Derived.Deep.CutRange
namespace Go.Proofs.Ytchfpgdioclajaa
open Go.RowKit
set_option linter.unusedVariables false
set_option linter.unusedSimpArgs false
/-- What the document's Commit has at hand. -/
structure CmW (w : World) (key : ByteArray) (A : Option Addr) (n c : Nat) (W : World) : Prop where
  b : Below w.heap.size w W
  s : StBox W w.heap.size key A n c
  r : StBox W (w.heap.size + 1) ⟨#[]⟩ none 0 0
theorem CmW.new (w : World) (key : ByteArray) (A : Option Addr) (n c : Nat) : CmW w key A n c ((w.alloc (.cells #[.string key, .slice A n c] 24)).alloc (.cells #[.string ⟨#[]⟩, .slice none 0 0] 24)) :=
  ⟨below2 w _ _, (StBox.new w key A n c 24).alloc _, by
    have := StBox.new (w.alloc (.cells #[.string key, .slice A n c] 24)) ⟨#[]⟩ none 0 0 24
    rw [heap_size_alloc] at this
    exact this⟩
theorem CmW.on {w W W' : World} {key : ByteArray} {A : Option Addr} {n c : Nat} (h : CmW w key A n c W) (hb : Below W.heap.size W W') : CmW w key A n c W' :=
  ⟨h.b.trans (hb.mono h.b.size), h.s.on hb, h.r.on hb⟩
theorem CmW.below {w W W' : World} {key : ByteArray} {A : Option Addr} {n c : Nat} (h : CmW w key A n c W) {B : Nat} (hb : Below B W W') (hB : w.heap.size + 1 < B) : CmW w key A n c W' :=
  ⟨h.b.trans (hb.mono (by omega)), h.s.below hb (by omega), h.r.below hb (by omega)⟩
theorem CmW.drew {w W : World} {key : ByteArray} {A : Option Addr} {n c : Nat} (h : CmW w key A n c W) : CmW w key A n c W.drew := ⟨h.b.drew, h.s.drew, h.r.drew⟩
theorem CmW.cell1 {w W : World} {key : ByteArray} {A : Option Addr} {n c : Nat} (h : CmW w key A n c W) {q : Nat} (hq : w.heap.size + 1 < q) (i : Nat) (u : Value) : CmW w key A n c (W.setCell ⟨q, i, none⟩ u) :=
  ⟨h.b.setCell (p := ⟨q, i, none⟩) (by show w.heap.size ≤ q; omega) u, h.s.off (by omega) i u, h.r.off (by omega) i u⟩
theorem CmW.fin {w W : World} {key : ByteArray} {A : Option Addr} {n c : Nat} (h : CmW w key A n c W) {base : Nat} {B : Option Addr} {m d : Nat} {L : List Vn} (o : OG KV 26 base W (.slice B m d) L) (hb : w.heap.size + 1 < base) :
    StBox (setSt W (w.heap.size + 1) key (.slice B m d)) (w.heap.size + 1) key B m d ∧ OG KV 26 w.heap.size (setSt W (w.heap.size + 1) key (.slice B m d)) (.slice B m d) L ∧ Below w.heap.size w (setSt W (w.heap.size + 1) key (.slice B m d)) :=
  ⟨h.r.put key B m d, (o.setSt hb key (.slice B m d)).lift (by omega), belowSetSt h.b (by omega) key (.slice B m d)⟩
theorem CmS.mk {w W : World} {key : ByteArray} {A : Option Addr} {n c q : Nat} {y : Vn} (h : CmW w key A n c W) (g : VnBox W q y) : W.cell? ⟨w.heap.size, 0, none⟩ = some (.string key) ∧ W.cell? ⟨w.heap.size, 1, none⟩ = some (.slice A n c) ∧ W.cell? ⟨q, 0, none⟩ = some (.int .i64 y.txn) ∧ W.cell? ⟨q, 1, none⟩ = some (.int .i64 y.ts) ∧ W.cell? ⟨q, 2, none⟩ = some (.bool y.gone) ∧ W.cell? ⟨q, 3, none⟩ = some (.string y.val) := ⟨h.s.c0, h.s.c1, g.c0, g.c1, g.c2, g.c3⟩
theorem CmS.of {W : World} {p : Nat} {key : ByteArray} {A : Option Addr} {n c q : Nat} {y : Vn} (h : StBox W p key A n c) (g : VnBox W q y) : W.cell? ⟨p, 0, none⟩ = some (.string key) ∧ W.cell? ⟨p, 1, none⟩ = some (.slice A n c) ∧ W.cell? ⟨q, 0, none⟩ = some (.int .i64 y.txn) ∧ W.cell? ⟨q, 1, none⟩ = some (.int .i64 y.ts) ∧ W.cell? ⟨q, 2, none⟩ = some (.bool y.gone) ∧ W.cell? ⟨q, 3, none⟩ = some (.string y.val) := ⟨h.c0, h.c1, g.c0, g.c1, g.c2, g.c3⟩
theorem OG.some_cap {α : Type} {K : CR α} {T : TypeId} {base : Nat} {w : World} {B : Option Addr} {m d : Nat} {l : List α} (h : OG K T base w (.slice B m d) l) (hd : d ≠ 0) : ∃ ad, B = some ad := by
  obtain ⟨css, h1, _⟩ := h
  rcases h1.2 with ⟨e, _⟩ | ⟨g, cap, cur, e, _⟩
  · injection e with e1 e2 e3
    exact (hd e3).elim
  · injection e with e1 e2 e3
    exact ⟨_, e1⟩
/-- A row of a literal's own stays while another row grows. -/
theorem rgV_keep {W W' : World} {p g : Nat} {y : Vn} {k : Nat} (h : RG KV W (some ⟨p, 0, none⟩) [y]) (hg : W.grownBy W' (Value.slice (some ⟨g, 0, none⟩) 0 k).ownBlock) (hne : p ≠ g) : RG KV W' (some ⟨p, 0, none⟩) [y] := h.grown hg fun b hb e => by
  obtain ⟨j, x, ad, cs, _, e1, _, _, hh⟩ := hb
  injection e1 with e1
  subst e1
  rcases hh with rfl | hh
  · injection e with e; exact hne e
  · exact vn_flat _ _ _ _ hh
set_option maxHeartbeats 4000000 in
set_option maxRecDepth 100000 in
theorem refCommit_any (key : ByteArray) (A : Option Addr) (n c : Nat) (l : List Vn) (t s : Int) (w : World) (hl : l.length = n) (hn : n ≤ 1000) (hc : n ≤ c) (hr : RG KV w A l) :
    Calls Try.prog 44 #[.agg #[.string key, .slice A n c], .int .i64 t, .int .i64 s] w fun e w' => ∃ v', e = .returned (.agg #[.string key, v']) ∧ OG KV 26 w.heap.size w' v' (vsCommit l t s) ∧ Below w.heap.size w w' := by
  have KC := Lib.hid (fun (W : World) (h : Below w.heap.size w W) => refWith_any key (.slice A n c) A n c l W ⟨A, n, c, rfl⟩ hl hn (hr.below h))
  have KI := Lib.hid (fun (W : World) (h : Below w.heap.size w W) => refPlace_any key A n c l t W hl hn (hr.below h))
  have P0 := Lib.hid (CmW.new w key A n c)
  have HL := Lib.hid hl
  have hv0 : Hid (vsCommit l t s = if h : vsAt l t < l.length then (if 1 ≤ s then vsPut (l.eraseIdx (vsAt l t)) (vsLast (vsBy s) (l.eraseIdx (vsAt l t))) { (l[vsAt l t]) with ts := s } else l) else l) := Lib.hid rfl
  generalize vsCommit l t s = R at hv0 ⊢
  have HR := Lib.hid (fun W (h : Below w.heap.size w W) => hr.below h)
  clear hl hr
  go_enter Try.func44, Try.ntmps44
  go_upto_region 1 with fail
  generalize (w.alloc (.cells #[.string key, .slice A n c] 24)).alloc (.cells #[.string ⟨#[]⟩, .slice none 0 0] 24) = W0 at *
  have s0 := P0.out.s.c0
  have s1 := P0.out.s.c1
  go_upto_region 2 with (first
    | (go_at_call 50; refine (KI.out _ P0.out.b).mono ?_; rintro e w1 ⟨rfl, b1⟩; have P1 := Lib.hid (P0.out.on b1); have s0 := P1.out.s.c0; have s1 := P1.out.s.c1; have r0 := P1.out.r.c0; have r1 := P1.out.r.c1; have g0 := P1.out.r.f0; have g1 := P1.out.r.f1; clear b1)
    | fail)
  by_cases hat : vsAt l t < l.length ∧ 1 ≤ s
  · obtain ⟨hat, hs⟩ := hat
    have hs' : decide (s < 1) = false := by simp; omega
    obtain ⟨k, x, e1, hk, hx, e2, _, _⟩ := vsGot_some hat
    have HE : Hid (R = vsPut (l.eraseIdx k) (vsLast (vsBy s) (l.eraseIdx k)) { x with ts := s }) := Lib.hid (by
      have e3 : l[vsAt l t] = x := by
        have h1 : l[vsAt l t]? = some x := by rw [e1]; exact hx
        exact (List.getElem?_eq_some_iff.mp h1).2
      rw [hv0.out, dif_pos hat, if_pos hs, e3, e1])
    rw [HL.out] at hk
    rw [e2]
    clear e1 e2 hat hs hv0 KI KC
    have HX := Lib.hid hx
    obtain ⟨ad, rfl, hv⟩ := (HR.out _ P1.out.b).vn hx
    have d0 := hv.d0; have d1 := hv.d1; have d2 := hv.d2; have d3 := hv.d3
    clear hv hx r0 r1 g0 g1
    go_upto_region 5 with fail
    have P2 := Lib.hid (P1.out.on (below1 w1 (.cells #[.int .i64 x.txn, .int .i64 x.ts, .bool x.gone, .string x.val] 26)))
    have V2 := Lib.hid (VnBox.new w1 x 26)
    have HQ := Lib.hid P1.out.r.lt
    clear P1 d0 d1 d2 d3 s0 s1
    generalize w1.alloc (.cells #[.int .i64 x.txn, .int .i64 x.ts, .bool x.gone, .string x.val] 26) = W2 at *
    generalize w1.heap.size = q at *
    have v0 := V2.out.c0; have v1 := V2.out.c1; have v2 := V2.out.c2; have v3 := V2.out.c3; have f1 := V2.out.f1
    go_upto_region 6 with fail
    have P3 := Lib.hid (P2.out.cell1 (q := q) HQ.out 1 (.int .i64 s))
    have V3 := Lib.hid (V2.out.set1 s)
    clear P2 V2 v0 v1 v2 v3 f1
    generalize W2.setCell ⟨q, 1, none⟩ (.int .i64 s) = W3 at *
    have s0 := P3.out.drew.s.c0; have s1 := P3.out.drew.s.c1
    have hP := Lib.hid P3.out.r.lt
    have hqq := Lib.hid V3.out.lt
    have P4 := Lib.hid (P3.out.on (below1 W3 (.cells #[] 26))).drew
    have V4 := Lib.hid (V3.out.on (below1 W3 (.cells #[] 26))).drew
    have u0 := P4.out.s.c0; have u1 := P4.out.s.c1
    have O0 := Lib.hid (OG.lit0 (K := KV) (T := 26) (base := W3.heap.size) W3 (Nat.le_refl _)).drew
    have hZ2 : Hid (W3.heap.size ≤ (W3.alloc (.cells #[] 26)).drew.heap.size) := Lib.hid (by
      show W3.heap.size ≤ (W3.alloc (.cells #[] 26)).heap.size
      rw [heap_size_alloc]; omega)
    have hw1 : IntKind.i64.wrap ((k : Int) + 1) = (k : Int) + 1 := IntWalk.i64_in _ (by omega)
    have hw2 : (0 : Int) ≤ (k : Int) + 1 := by omega
    have hw3 : ((k : Int) + 1).toNat = k + 1 := by omega
    have hk2 : k ≤ c := by omega
    have hk3 : k + 1 ≤ n := by omega
    have HLe : Hid (l.take k ++ l.drop (k + 1) = l.eraseIdx k) := Lib.hid (List.eraseIdx_eq_take_drop_succ l k).symm
    have HLn : Hid ((l.eraseIdx k).length = n - 1) := Lib.hid (by rw [List.length_eraseIdx, HL.out, if_pos hk])
    go_cut [9] from 32 to 46 (fun v wx => ∃ B d, v = .slice B (n - 1) d ∧ CmW w key (some ad) n c wx ∧ VnBox wx q { x with ts := s } ∧ OG KV 26 (q + 1) wx (.slice B (n - 1) d) (l.eraseIdx k))
    case first =>
      have HT : Hid ((l.take k).length = k) := Lib.hid (by rw [List.length_take, HL.out]; omega)
      have KCC := Lib.hid (fun (B : Option Addr) (d : Nat) (W : World) (h : RG KV W B (l.eraseIdx k)) => refWith_any key (.slice (some ad) n c) B (n - 1) d (l.eraseIdx k) W ⟨_, _, _, rfl⟩ HLn.out (by omega) h)
      have hk4 : (k : Int) + 1 ≤ (n : Int) := by omega
      have hk5 : (k : Int) ≤ (k : Int) + 1 := by omega
      have hfd : ∀ (B : Option Addr) (m d : Nat) (W : World), (Instr.field 24 (.agg #[.string key, .slice B m d]) 1).run Try.prog W = .ok (.slice B m d) W := fun B m d W => by kernel_rfl
      by_cases hcap : c = k + 1
      · subst hcap
        obtain rfl : n = k + 1 := by omega
        have hD : l.drop (k + 1) = [] := List.drop_of_length_le (by rw [HL.out]; omega)
        rw [hD] at HLe
        clear hD
        go_region_held3 (fun W => W.cell? ⟨w.heap.size, 0, none⟩ = some (.string key) ∧ W.cell? ⟨w.heap.size, 1, none⟩ = some (.slice (some ad) (k + 1) (k + 1))) (first | with_reducible exact ⟨s0, s1⟩ | with_reducible exact ⟨u0, u1⟩ | with_reducible exact ⟨p0, p1⟩ | with_reducible exact ⟨q0, q1⟩ | with_reducible exact ⟨r0, r1⟩ | fail)
          (first
            | (refine step_append_G tgV rfl (.tmp 33) (.tmp 37) rfl W3.heap.size (.slice (some ⟨W3.heap.size, 0, none⟩) 0 0) [] (by simp [Act.eval, Act.put]) O0.out (some ad) k (k + 1) (l.take k) (by simp [Act.eval, Act.put]) HT.out ((HR.out _ P4.out.b).take k) (Apart.flat vn_flat) (by simp; omega) hZ2.out ?_; intro v1 w4 o1 b1 _ _; (rw [List.nil_append] at o1); obtain ⟨A1, c1, e1, h11, h12, h13, h14⟩ := o1.rg; (rw [HT.out] at e1); subst e1; have P5 := Lib.hid (P4.out.below b1 hP.out); have V5 := Lib.hid (V4.out.below b1 hqq.out); have O1 := Lib.hid o1; have hZ4 : Hid (W3.heap.size ≤ w4.heap.size) := Lib.hid (by have := b1.size; have := hZ2.out; omega); have p0 := P5.out.s.c0; have p1 := P5.out.s.c1; clear o1 b1 h11 h12 h13 h14)
            | (refine step_append_G tgV rfl (.tmp 38) (.tmp 43) rfl W3.heap.size (.slice A1 k c1) (l.take k) (by simp [Act.eval, Act.put]) O1.out (some ad) 0 0 [] (by simp [Act.eval, Act.put]) rfl RG.nil (Apart.flat vn_flat) (by rw [HT.out]; omega) hZ4.out ?_; intro v2 w5 o2 b2 _ _; (rw [HLe.out] at o2); obtain ⟨A2, c2, e2, h11, h12, h13, h14⟩ := o2.rg; (rw [HLn.out] at e2); subst e2; have P6 := Lib.hid (P5.out.below b2 hP.out); have V6 := Lib.hid (V5.out.below b2 hqq.out); have O2 := Lib.hid o2; have R2 := Lib.hid h13; have hZ5 : Hid (W3.heap.size ≤ w5.heap.size) := Lib.hid (by have := b2.size; have := hZ4.out; omega); have q0 := P6.out.s.c0; have q1 := P6.out.s.c1; clear o2 b2 h11 h12 h13 h14)
            | (go_at_call 87; refine (KCC.out _ _ _ R2.out).mono ?_; rintro e w6 ⟨v3, rfl, o3, b3⟩; obtain ⟨A3, c3, e3, h11, h12, h13, h14⟩ := o3.rg; (rw [HLn.out] at e3); subst e3; have P7 := Lib.hid (P6.out.on b3); have V7 := Lib.hid (V6.out.on b3); have O3 := Lib.hid (o3.lift (show q + 1 ≤ w5.heap.size by have := hZ5.out; have := hqq.out; omega)); have r0 := P7.out.s.c0; have r1 := P7.out.s.c1; clear o3 b3 h11 h12 h13 h14)
            | fail)
        all_goals
          go_wp2_with fail
          go_meet
          exact ⟨_, _, rfl, P7.out, V7.out, O3.out⟩
      · go_region_held3 (fun W => W.cell? ⟨w.heap.size, 0, none⟩ = some (.string key) ∧ W.cell? ⟨w.heap.size, 1, none⟩ = some (.slice (some ad) n c)) (first | with_reducible exact ⟨s0, s1⟩ | with_reducible exact ⟨u0, u1⟩ | with_reducible exact ⟨p0, p1⟩ | with_reducible exact ⟨q0, q1⟩ | with_reducible exact ⟨r0, r1⟩ | fail)
          (first
            | (refine step_append_G tgV rfl (.tmp 33) (.tmp 37) rfl W3.heap.size (.slice (some ⟨W3.heap.size, 0, none⟩) 0 0) [] (by simp [Act.eval, Act.put]) O0.out (some ad) k c (l.take k) (by simp [Act.eval, Act.put]) HT.out ((HR.out _ P4.out.b).take k) (Apart.flat vn_flat) (by simp; omega) hZ2.out ?_; intro v1 w4 o1 b1 _ _; (rw [List.nil_append] at o1); obtain ⟨A1, c1, e1, h11, h12, h13, h14⟩ := o1.rg; (rw [HT.out] at e1); subst e1; have P5 := Lib.hid (P4.out.below b1 hP.out); have V5 := Lib.hid (V4.out.below b1 hqq.out); have O1 := Lib.hid o1; have hZ4 : Hid (W3.heap.size ≤ w4.heap.size) := Lib.hid (by have := b1.size; have := hZ2.out; omega); have p0 := P5.out.s.c0; have p1 := P5.out.s.c1; clear o1 b1 h11 h12 h13 h14)
            | (refine step_append_G tgV rfl (.tmp 38) (.tmp 43) rfl W3.heap.size (.slice A1 k c1) (l.take k) (by simp [Act.eval, Act.put]) O1.out (some (ad.add ((k + 1) * 4))) (n - (k + 1)) (c - (k + 1)) (l.drop (k + 1)) (by simp [Act.eval, Act.put]) (by rw [List.length_drop, HL.out]) ((HR.out _ P5.out.b).drop (k + 1)) (Apart.flat vn_flat) (by rw [HT.out]; omega) hZ4.out ?_; intro v2 w5 o2 b2 _ _; (rw [HLe.out] at o2); obtain ⟨A2, c2, e2, h11, h12, h13, h14⟩ := o2.rg; (rw [HLn.out] at e2); subst e2; have P6 := Lib.hid (P5.out.below b2 hP.out); have V6 := Lib.hid (V5.out.below b2 hqq.out); have O2 := Lib.hid o2; have R2 := Lib.hid h13; have hZ5 : Hid (W3.heap.size ≤ w5.heap.size) := Lib.hid (by have := b2.size; have := hZ4.out; omega); have q0 := P6.out.s.c0; have q1 := P6.out.s.c1; clear o2 b2 h11 h12 h13 h14)
            | (go_at_call 87; refine (KCC.out _ _ _ R2.out).mono ?_; rintro e w6 ⟨v3, rfl, o3, b3⟩; obtain ⟨A3, c3, e3, h11, h12, h13, h14⟩ := o3.rg; (rw [HLn.out] at e3); subst e3; have P7 := Lib.hid (P6.out.on b3); have V7 := Lib.hid (V6.out.on b3); have O3 := Lib.hid (o3.lift (show q + 1 ≤ w5.heap.size by have := hZ5.out; have := hqq.out; omega)); have r0 := P7.out.s.c0; have r1 := P7.out.s.c1; clear o3 b3 h11 h12 h13 h14)
            | fail)
        all_goals
          go_wp2_with fail
          go_meet
          exact ⟨_, _, rfl, P7.out, V7.out, O3.out⟩
    case rest =>
      obtain ⟨B, d, rfl, P, V, O⟩ := hcut
      obtain ⟨L, hLd⟩ : ∃ L, L = l.eraseIdx k := ⟨_, rfl⟩
      rw [← hLd] at O HLn HE
      obtain ⟨N, hN⟩ : ∃ N, N = n - 1 := ⟨_, rfl⟩
      have hN1 : N ≤ 999 := by omega
      rw [← hN] at O HLn
      rw [← hN]
      have HBB : Hid (RG KV wc B L ∧ N ≤ d) := Lib.hid (by
        obtain ⟨A2, c2, e2, h1, _, h3, _⟩ := O.rg
        injection e2 with e3 e4 e5
        subst e3
        subst e5
        rw [HLn.out] at h1
        exact ⟨h3, h1⟩)
      have PX := Lib.hid P
      have VX := Lib.hid V
      have OX := Lib.hid O
      clear P V O hLd hN HLe O0 hw1 hw2 hw3 hZ2 P4 V4 u0 u1 s0 s1 P3 V3 hP hqq hk2 hk3 HX
      go_upto_region 9 with fail
      go_loopw [10, 11] (fun z i wq => ∃ j : Nat, j ≤ N ∧ i = .int .i64 (j : Int) ∧ z = .int .i64 (vsLast (vsBy s) (L.take j) : Nat) ∧ wc = wq) (fun _ i _ => N - (intOf i).toNat)
      case atStart => exact ⟨0, Nat.zero_le _, rfl, rfl, rfl⟩
      case round =>
        obtain ⟨j, hj, rfl, rfl, rfl⟩ := hrel
        by_cases hlt : j < N
        · obtain ⟨y, hy⟩ : ∃ y, L[j]? = some y := ⟨L[j]'(by rw [HLn.out]; exact hlt), List.getElem?_eq_getElem _⟩
          obtain ⟨a2, rfl, hv⟩ := HBB.out.1.vn hy
          have d1 := hv.d1
          have HS : vsLast (vsBy s) (L.take (j + 1)) = if vsBy s y then j + 1 else vsLast (vsBy s) (L.take j) := by
            rw [List.take_add_one, hy, Option.toList_some, vsLast_snoc, List.length_take, Nat.min_eq_left (by rw [HLn.out]; omega)]
          have HZ : Hid (∀ b, vsBy s y = b → vsLast (vsBy s) (L.take (j + 1)) = if b then j + 1 else vsLast (vsBy s) (L.take j)) := Lib.hid fun b e => by rw [HS, e]
          clear hv hy HS
          by_cases h0 : y.ts = 0
          · have hd : (y.ts != 0) = false := by simp [h0]
            have HE1 := Lib.hid (HZ.out false (by simp [vsBy, h0]))
            clear h0 HZ
            go_wp2
            go_round
            case rel => exact ⟨j + 1, by omega, by go_num, by rw [HE1.out]; rfl, trivial⟩
            case measure => simp [intOf]; omega
          · have hd : (y.ts != 0) = true := by simp [h0]
            by_cases h2 : y.ts ≤ s
            · have HE1 := Lib.hid (HZ.out true (by simp [vsBy, h0, h2]))
              have hd2 : decide (y.ts ≤ s) = true := decide_eq_true h2
              clear h0 h2 HZ
              go_wp2
              go_round
              case rel => exact ⟨j + 1, by omega, by go_num, by rw [HE1.out]; simp, trivial⟩
              case measure => simp [intOf]; omega
            · have HE1 := Lib.hid (HZ.out false (by simp [vsBy, h0, h2]))
              have hd2 : decide (y.ts ≤ s) = false := decide_eq_false h2
              clear h0 h2 HZ
              go_wp2
              go_round
              case rel => exact ⟨j + 1, by omega, by go_num, by rw [HE1.out]; rfl, trivial⟩
              case measure => simp [intOf]; omega
        · obtain rfl : j = N := by omega
          rw [List.take_of_length_le (by rw [HLn.out]; exact Nat.le_refl _)]
          obtain ⟨at_, hat⟩ : ∃ a, a = vsLast (vsBy s) L := ⟨_, rfl⟩
          rw [← hat] at HE
          rw [← hat]
          have hatl : at_ ≤ j := by rw [hat, ← HLn.out]; exact vsLast_le _ _
          clear hat
          go_upto_region 13 with fail
          obtain ⟨y, hy⟩ : ∃ y : Vn, y = { x with ts := s } := ⟨_, rfl⟩
          rw [← hy] at HE VX
          clear hy
          have HRR : Hid ((L.take at_ ++ [y]) ++ L.drop at_ = R) := Lib.hid (by rw [HE.out]; simp [vsPut])
          have HRL : Hid (R.length ≤ 1000) := Lib.hid (by rw [HE.out, vsPut_len, HLn.out]; omega)
          have HTL : Hid ((L.take at_).length = at_) := Lib.hid (by rw [List.length_take, HLn.out]; omega)
          have HDL : Hid ((L.drop at_).length = j - at_) := Lib.hid (by rw [List.length_drop, HLn.out])
          have KCC := Lib.hid (fun (B : Option Addr) (d : Nat) (W : World) (h : RG KV W B R) => refWith_any key (.slice (some ad) n c) B R.length d R W ⟨_, _, _, rfl⟩ rfl HRL.out h)
          have KS := Lib.hid (fun W (h : Below wc.heap.size wc W) => CmS.mk (PX.out.on h) (VX.out.on h))
          have KT := Lib.hid (fun W (h : Below wc.heap.size wc W) => (HBB.out.1.take at_).below h)
          have hjd : j ≤ d := HBB.out.2
          have hsl : (at_ : Int) ≤ (j : Int) := by omega
          have hP := Lib.hid PX.out.r.lt
          have ba : Below wc.heap.size wc (wc.alloc (.cells #[] 26)).drew := ((Below.refl _ wc).alloc (Nat.le_refl _) _).drew
          have bs : Below wc.heap.size wc (wc.alloc (.cells #[.int .i64 y.txn, .int .i64 y.ts, .bool y.gone, .string y.val] 26)).drew := ((Below.refl _ wc).alloc (Nat.le_refl _) _).drew
          have bb : Below wc.heap.size wc ((wc.alloc (.cells #[] 26)).alloc (.cells #[.int .i64 y.txn, .int .i64 y.ts, .bool y.gone, .string y.val] 26)).drew := (((Below.refl _ wc).alloc (Nat.le_refl _) _).alloc (by rw [heap_size_alloc]; omega) _).drew
          have bc : Below wc.heap.size wc ((wc.alloc (.cells #[.int .i64 y.txn, .int .i64 y.ts, .bool y.gone, .string y.val] 26)).alloc (.cells #[] 26)).drew := (((Below.refl _ wc).alloc (Nat.le_refl _) _).alloc (by rw [heap_size_alloc]; omega) _).drew
          have BA := Lib.hid ba; have BB := Lib.hid bb; have BC := Lib.hid bc
          have ka := KS.out _ (Below.refl wc.heap.size wc).drew
          have kb := KS.out _ ba; have kc := KS.out _ bs; have kd := KS.out _ bb; have ke := KS.out _ bc
          have LA := Lib.hid ((OG.lit0 (K := KV) (T := 26) wc (Nat.le_refl wc.heap.size)).drew)
          have LB := Lib.hid (((OG.lit0 (K := KV) (T := 26) wc (Nat.le_refl wc.heap.size)).alloc (.cells #[.int .i64 y.txn, .int .i64 y.ts, .bool y.gone, .string y.val] 26)).drew)
          have LC : Hid (OG KV 26 wc.heap.size ((wc.alloc (.cells #[.int .i64 y.txn, .int .i64 y.ts, .bool y.gone, .string y.val] 26)).alloc (.cells #[] 26)).drew (.slice (some ⟨wc.heap.size + 1, 0, none⟩) 0 0) ([] : List Vn)) := by
            have := OG.lit0 (K := KV) (T := 26) (base := wc.heap.size) (wc.alloc (.cells #[.int .i64 y.txn, .int .i64 y.ts, .bool y.gone, .string y.val] 26)) (by rw [heap_size_alloc]; omega)
            rw [heap_size_alloc] at this
            exact Lib.hid this.drew
          have SB : Hid (RG KV ((wc.alloc (.cells #[] 26)).alloc (.cells #[.int .i64 y.txn, .int .i64 y.ts, .bool y.gone, .string y.val] 26)).drew (some ⟨wc.heap.size + 1, 0, none⟩) [y]) := by
            have h1 := rgV_lit (wc.alloc (.cells #[] 26)) y 26
            rw [heap_size_alloc] at h1
            exact Lib.hid h1.drew
          have SC : Hid (RG KV ((wc.alloc (.cells #[.int .i64 y.txn, .int .i64 y.ts, .bool y.gone, .string y.val] 26)).alloc (.cells #[] 26)).drew (some ⟨wc.heap.size, 0, none⟩) [y]) := Lib.hid (((rgV_lit wc y 26).alloc (.cells #[] 26)).drew)
          clear ba bs bb bc
          by_cases hcap : d = at_
          · subst hcap
            obtain rfl : j = d := by omega
            have KD := Lib.hid (fun W (h : Below wc.heap.size wc W) => (show RG KV W B (L.drop j) from by rw [List.drop_of_length_le (by rw [HLn.out]; exact Nat.le_refl _)]; exact RG.nil))
            have HDL := Lib.hid (show (L.drop j).length = 0 from by rw [HDL.out]; omega)
            have HT1 := Lib.hid (show (L.take j ++ [y]).length = j + 1 from by rw [List.length_append, HTL.out]; rfl)
            have HQN := Lib.hid (show w.heap.size + 1 ≠ q from by have := HQ.out; omega)
            go_region_held3 (fun W => W.cell? ⟨w.heap.size, 0, none⟩ = some (.string key) ∧ W.cell? ⟨w.heap.size, 1, none⟩ = some (.slice (some ad) n c) ∧ W.cell? ⟨q, 0, none⟩ = some (.int .i64 y.txn) ∧ W.cell? ⟨q, 1, none⟩ = some (.int .i64 y.ts) ∧ W.cell? ⟨q, 2, none⟩ = some (.bool y.gone) ∧ W.cell? ⟨q, 3, none⟩ = some (.string y.val)) (first | with_reducible exact ka | with_reducible exact kb | with_reducible exact kc | with_reducible exact kd | with_reducible exact ke | with_reducible exact kf | with_reducible exact kg | with_reducible exact kh | with_reducible exact ki | with_reducible exact kj | with_reducible exact kk | fail)
              (first
                | (refine step_append_G tgV rfl (.tmp 71) (.tmp 74) rfl wc.heap.size (.slice (some ⟨wc.heap.size, 0, none⟩) 0 0) [] (by simp [Act.eval, Act.put]) LA.out B j j (L.take j) (by simp [Act.eval, Act.put]) HTL.out (KT.out _ BA.out) (Apart.flat vn_flat) (by simp; omega) BA.out.size ?_; intro v4 w4 o4 b4 g4 _; (rw [List.nil_append] at o4); obtain ⟨A4, c4, e4, h41, h42, h43, h44⟩ := o4.rg; (rw [HTL.out] at e4); subst e4; have O4 := Lib.hid o4;  have B4 := Lib.hid (BA.out.trans b4); have kf := KS.out _ B4.out; have kg := KS.out _ (B4.out.alloc B4.out.size (.cells #[.int .i64 y.txn, .int .i64 y.ts, .bool y.gone, .string y.val] 26)); clear o4 b4 g4 h41 h42 h43 h44)
                | (refine step_append_G tgV rfl (.tmp 71) (.tmp 74) rfl wc.heap.size (.slice (some ⟨wc.heap.size, 0, none⟩) 0 0) [] (by simp [Act.eval, Act.put]) LB.out B j j (L.take j) (by simp [Act.eval, Act.put]) HTL.out (KT.out _ BB.out) (Apart.flat vn_flat) (by simp; omega) BB.out.size ?_; intro v4 w4 o4 b4 g4 _; (rw [List.nil_append] at o4); obtain ⟨A4, c4, e4, h41, h42, h43, h44⟩ := o4.rg; (rw [HTL.out] at e4); subst e4; have O4 := Lib.hid o4;  have B4 := Lib.hid (BB.out.trans b4); have RS4 := Lib.hid (rgV_keep SB.out g4 (by omega)); have kf := KS.out _ B4.out; clear o4 b4 g4 h41 h42 h43 h44)
                | (refine step_append_G tgV rfl (.tmp 71) (.tmp 74) rfl wc.heap.size (.slice (some ⟨wc.heap.size + 1, 0, none⟩) 0 0) [] (by simp [Act.eval, Act.put]) LC.out B j j (L.take j) (by simp [Act.eval, Act.put]) HTL.out (KT.out _ BC.out) (Apart.flat vn_flat) (by simp; omega) BC.out.size ?_; intro v4 w4 o4 b4 g4 _; (rw [List.nil_append] at o4); obtain ⟨A4, c4, e4, h41, h42, h43, h44⟩ := o4.rg; (rw [HTL.out] at e4); subst e4; have O4 := Lib.hid o4;  have B4 := Lib.hid (BC.out.trans b4); have RS4 := Lib.hid (rgV_keep SC.out g4 (by omega)); have kf := KS.out _ B4.out; clear o4 b4 g4 h41 h42 h43 h44)
                | (refine step_append_G tgV rfl (.tmp 75) (.tmp 77) rfl wc.heap.size (.slice A4 j c4) (L.take j) (by simp [Act.eval, Act.put]) (O4.out.alloc (.cells #[.int .i64 y.txn, .int .i64 y.ts, .bool y.gone, .string y.val] 26)) (some ⟨w4.heap.size, 0, none⟩) 1 1 [y] (by simp [Act.eval, Act.put]) rfl (rgV_lit w4 y 26) (Apart.flat vn_flat) (by rw [HTL.out]; omega) (by rw [heap_size_alloc]; have := B4.out.size; omega) ?_; intro v5 w5 o5 b5 _ _; obtain ⟨A5, c5, e5, h51, h52, h53, h54⟩ := o5.rg; (rw [HT1.out] at e5); subst e5; have O5 := Lib.hid o5; have B5 := Lib.hid ((B4.out.alloc B4.out.size (.cells #[.int .i64 y.txn, .int .i64 y.ts, .bool y.gone, .string y.val] 26)).trans b5); have kh := KS.out _ B5.out; clear o5 b5 h51 h52 h53 h54)
                | (refine step_append_G tgV rfl (.tmp 75) (.tmp 77) rfl wc.heap.size (.slice A4 j c4) (L.take j) (by simp [Act.eval, Act.put]) O4.out (some ⟨wc.heap.size + 1, 0, none⟩) 1 1 [y] (by simp [Act.eval, Act.put]) rfl RS4.out (Apart.flat vn_flat) (by rw [HTL.out]; omega) B4.out.size ?_; intro v5 w5 o5 b5 _ _; obtain ⟨A5, c5, e5, h51, h52, h53, h54⟩ := o5.rg; (rw [HT1.out] at e5); subst e5; have O5 := Lib.hid o5; have B5 := Lib.hid (B4.out.trans b5); have kh := KS.out _ B5.out; clear o5 b5 h51 h52 h53 h54)
                | (refine step_append_G tgV rfl (.tmp 75) (.tmp 77) rfl wc.heap.size (.slice A4 j c4) (L.take j) (by simp [Act.eval, Act.put]) O4.out (some ⟨wc.heap.size, 0, none⟩) 1 1 [y] (by simp [Act.eval, Act.put]) rfl RS4.out (Apart.flat vn_flat) (by rw [HTL.out]; omega) B4.out.size ?_; intro v5 w5 o5 b5 _ _; obtain ⟨A5, c5, e5, h51, h52, h53, h54⟩ := o5.rg; (rw [HT1.out] at e5); subst e5; have O5 := Lib.hid o5; have B5 := Lib.hid (B4.out.trans b5); have kh := KS.out _ B5.out; clear o5 b5 h51 h52 h53 h54)
                | (refine step_append_G tgV rfl (.tmp 78) (.tmp 81) rfl wc.heap.size (.slice A5 (j + 1) c5) (L.take j ++ [y]) (by simp [Act.eval, Act.put]) O5.out B 0 0 (L.drop j) (by simp [Act.eval, Act.put]) HDL.out (KD.out _ B5.out) (Apart.flat vn_flat) (by rw [HT1.out]; omega) B5.out.size ?_; intro v6 w6 o6 b6 _ _; (rw [HRR.out] at o6); obtain ⟨A6, c6, e6, h61, h62, h63, h64⟩ := o6.rg; subst e6; have R6 := Lib.hid h63; have B6 := Lib.hid (B5.out.trans b6); have ki := KS.out _ B6.out; clear o6 b6 h61 h62 h63 h64)
                | (go_at_call 87; refine (KCC.out _ _ _ R6.out).mono ?_; rintro e w7 ⟨v7, rfl, o7, b7⟩; obtain ⟨A7, c7, e7, h71, h72, h73, h74⟩ := o7.rg; subst e7; have B7 := Lib.hid (B6.out.trans (b7.mono B6.out.size)); have P7 := Lib.hid (PX.out.on B7.out); have V7 := Lib.hid (VX.out.on B7.out); have F := Lib.hid (P7.out.fin (o7.lift (show wc.heap.size ≤ w6.heap.size from B6.out.size)) hP.out); have r0 := P7.out.r.c0; have r1 := P7.out.r.c1; have g0 := P7.out.r.f0; have g1 := P7.out.r.f1; have kj := KS.out _ B7.out; have kk := (CmS.of (P7.out.s.offSt (show w.heap.size + 1 ≠ w.heap.size from by omega) key (.slice A7 R.length c7)) (V7.out.offSt HQN.out key (.slice A7 R.length c7))); unfold setSt at kk; clear o7 b7 h71 h72 h73 h74)
                | fail)
            all_goals
              go_wp2_with fail
              obtain ⟨f1, o9, b9⟩ := F.out
              have z0 := f1.c0; have z1 := f1.c1
              unfold setSt at z0 z1 o9 b9
              refine bodyPost_ret (v := .agg #[.string key, .slice A7 R.length c7]) (by simp [results, Try.results44, go_sem, z0, z1]) rfl ⟨_, rfl, o9, b9⟩
          · obtain ⟨bd, rfl⟩ := OX.out.some_cap (show d ≠ 0 from by omega)
            have KD := Lib.hid (fun W (h : Below wc.heap.size wc W) => (HBB.out.1.drop at_).below h)
            have hka : (at_ : Int) ≤ (d : Int) := by omega
            have HT1 := Lib.hid (show (L.take at_ ++ [y]).length = at_ + 1 from by rw [List.length_append, HTL.out]; rfl)
            have HQN := Lib.hid (show w.heap.size + 1 ≠ q from by have := HQ.out; omega)
            go_region_held3 (fun W => W.cell? ⟨w.heap.size, 0, none⟩ = some (.string key) ∧ W.cell? ⟨w.heap.size, 1, none⟩ = some (.slice (some ad) n c) ∧ W.cell? ⟨q, 0, none⟩ = some (.int .i64 y.txn) ∧ W.cell? ⟨q, 1, none⟩ = some (.int .i64 y.ts) ∧ W.cell? ⟨q, 2, none⟩ = some (.bool y.gone) ∧ W.cell? ⟨q, 3, none⟩ = some (.string y.val)) (first | with_reducible exact ka | with_reducible exact kb | with_reducible exact kc | with_reducible exact kd | with_reducible exact ke | with_reducible exact kf | with_reducible exact kg | with_reducible exact kh | with_reducible exact ki | with_reducible exact kj | with_reducible exact kk | fail)
              (first
                | (refine step_append_G tgV rfl (.tmp 71) (.tmp 74) rfl wc.heap.size (.slice (some ⟨wc.heap.size, 0, none⟩) 0 0) [] (by simp [Act.eval, Act.put]) LA.out (some bd) at_ d (L.take at_) (by simp [Act.eval, Act.put]) HTL.out (KT.out _ BA.out) (Apart.flat vn_flat) (by simp; omega) BA.out.size ?_; intro v4 w4 o4 b4 g4 _; (rw [List.nil_append] at o4); obtain ⟨A4, c4, e4, h41, h42, h43, h44⟩ := o4.rg; (rw [HTL.out] at e4); subst e4; have O4 := Lib.hid o4;  have B4 := Lib.hid (BA.out.trans b4); have kf := KS.out _ B4.out; have kg := KS.out _ (B4.out.alloc B4.out.size (.cells #[.int .i64 y.txn, .int .i64 y.ts, .bool y.gone, .string y.val] 26)); clear o4 b4 g4 h41 h42 h43 h44)
                | (refine step_append_G tgV rfl (.tmp 71) (.tmp 74) rfl wc.heap.size (.slice (some ⟨wc.heap.size, 0, none⟩) 0 0) [] (by simp [Act.eval, Act.put]) LB.out (some bd) at_ d (L.take at_) (by simp [Act.eval, Act.put]) HTL.out (KT.out _ BB.out) (Apart.flat vn_flat) (by simp; omega) BB.out.size ?_; intro v4 w4 o4 b4 g4 _; (rw [List.nil_append] at o4); obtain ⟨A4, c4, e4, h41, h42, h43, h44⟩ := o4.rg; (rw [HTL.out] at e4); subst e4; have O4 := Lib.hid o4;  have B4 := Lib.hid (BB.out.trans b4); have RS4 := Lib.hid (rgV_keep SB.out g4 (by omega)); have kf := KS.out _ B4.out; clear o4 b4 g4 h41 h42 h43 h44)
                | (refine step_append_G tgV rfl (.tmp 71) (.tmp 74) rfl wc.heap.size (.slice (some ⟨wc.heap.size + 1, 0, none⟩) 0 0) [] (by simp [Act.eval, Act.put]) LC.out (some bd) at_ d (L.take at_) (by simp [Act.eval, Act.put]) HTL.out (KT.out _ BC.out) (Apart.flat vn_flat) (by simp; omega) BC.out.size ?_; intro v4 w4 o4 b4 g4 _; (rw [List.nil_append] at o4); obtain ⟨A4, c4, e4, h41, h42, h43, h44⟩ := o4.rg; (rw [HTL.out] at e4); subst e4; have O4 := Lib.hid o4;  have B4 := Lib.hid (BC.out.trans b4); have RS4 := Lib.hid (rgV_keep SC.out g4 (by omega)); have kf := KS.out _ B4.out; clear o4 b4 g4 h41 h42 h43 h44)
                | (refine step_append_G tgV rfl (.tmp 75) (.tmp 77) rfl wc.heap.size (.slice A4 at_ c4) (L.take at_) (by simp [Act.eval, Act.put]) (O4.out.alloc (.cells #[.int .i64 y.txn, .int .i64 y.ts, .bool y.gone, .string y.val] 26)) (some ⟨w4.heap.size, 0, none⟩) 1 1 [y] (by simp [Act.eval, Act.put]) rfl (rgV_lit w4 y 26) (Apart.flat vn_flat) (by rw [HTL.out]; omega) (by rw [heap_size_alloc]; have := B4.out.size; omega) ?_; intro v5 w5 o5 b5 _ _; obtain ⟨A5, c5, e5, h51, h52, h53, h54⟩ := o5.rg; (rw [HT1.out] at e5); subst e5; have O5 := Lib.hid o5; have B5 := Lib.hid ((B4.out.alloc B4.out.size (.cells #[.int .i64 y.txn, .int .i64 y.ts, .bool y.gone, .string y.val] 26)).trans b5); have kh := KS.out _ B5.out; clear o5 b5 h51 h52 h53 h54)
                | (refine step_append_G tgV rfl (.tmp 75) (.tmp 77) rfl wc.heap.size (.slice A4 at_ c4) (L.take at_) (by simp [Act.eval, Act.put]) O4.out (some ⟨wc.heap.size + 1, 0, none⟩) 1 1 [y] (by simp [Act.eval, Act.put]) rfl RS4.out (Apart.flat vn_flat) (by rw [HTL.out]; omega) B4.out.size ?_; intro v5 w5 o5 b5 _ _; obtain ⟨A5, c5, e5, h51, h52, h53, h54⟩ := o5.rg; (rw [HT1.out] at e5); subst e5; have O5 := Lib.hid o5; have B5 := Lib.hid (B4.out.trans b5); have kh := KS.out _ B5.out; clear o5 b5 h51 h52 h53 h54)
                | (refine step_append_G tgV rfl (.tmp 75) (.tmp 77) rfl wc.heap.size (.slice A4 at_ c4) (L.take at_) (by simp [Act.eval, Act.put]) O4.out (some ⟨wc.heap.size, 0, none⟩) 1 1 [y] (by simp [Act.eval, Act.put]) rfl RS4.out (Apart.flat vn_flat) (by rw [HTL.out]; omega) B4.out.size ?_; intro v5 w5 o5 b5 _ _; obtain ⟨A5, c5, e5, h51, h52, h53, h54⟩ := o5.rg; (rw [HT1.out] at e5); subst e5; have O5 := Lib.hid o5; have B5 := Lib.hid (B4.out.trans b5); have kh := KS.out _ B5.out; clear o5 b5 h51 h52 h53 h54)
                | (refine step_append_G tgV rfl (.tmp 78) (.tmp 81) rfl wc.heap.size (.slice A5 (at_ + 1) c5) (L.take at_ ++ [y]) (by simp [Act.eval, Act.put]) O5.out (some (bd.add (at_ * 4))) (j - at_) (d - at_) (L.drop at_) (by simp [Act.eval, Act.put]) HDL.out (KD.out _ B5.out) (Apart.flat vn_flat) (by rw [HT1.out]; omega) B5.out.size ?_; intro v6 w6 o6 b6 _ _; (rw [HRR.out] at o6); obtain ⟨A6, c6, e6, h61, h62, h63, h64⟩ := o6.rg; subst e6; have R6 := Lib.hid h63; have B6 := Lib.hid (B5.out.trans b6); have ki := KS.out _ B6.out; clear o6 b6 h61 h62 h63 h64)
                | (go_at_call 87; refine (KCC.out _ _ _ R6.out).mono ?_; rintro e w7 ⟨v7, rfl, o7, b7⟩; obtain ⟨A7, c7, e7, h71, h72, h73, h74⟩ := o7.rg; subst e7; have B7 := Lib.hid (B6.out.trans (b7.mono B6.out.size)); have P7 := Lib.hid (PX.out.on B7.out); have V7 := Lib.hid (VX.out.on B7.out); have F := Lib.hid (P7.out.fin (o7.lift (show wc.heap.size ≤ w6.heap.size from B6.out.size)) hP.out); have r0 := P7.out.r.c0; have r1 := P7.out.r.c1; have g0 := P7.out.r.f0; have g1 := P7.out.r.f1; have kj := KS.out _ B7.out; have kk := (CmS.of (P7.out.s.offSt (show w.heap.size + 1 ≠ w.heap.size from by omega) key (.slice A7 R.length c7)) (V7.out.offSt HQN.out key (.slice A7 R.length c7))); unfold setSt at kk; clear o7 b7 h71 h72 h73 h74)
                | fail)
            all_goals
              go_wp2_with fail
              obtain ⟨f1, o9, b9⟩ := F.out
              have z0 := f1.c0; have z1 := f1.c1
              unfold setSt at z0 z1 o9 b9
              refine bodyPost_ret (v := .agg #[.string key, .slice A7 R.length c7]) (by simp [results, Try.results44, go_sem, z0, z1]) rfl ⟨_, rfl, o9, b9⟩
  · have HE : Hid (R = l) := Lib.hid (by
      rw [hv0.out]
      split
      · rename_i h
        rw [if_neg (fun g => hat ⟨h, g⟩)]
      · rfl)
    have HC : vsIdx l t = -1 ∨ ∃ k : Nat, k < n ∧ vsIdx l t = (k : Int) ∧ decide (s < 1) = true := by
      by_cases h : vsAt l t < l.length
      · obtain ⟨k, x, e1, hk, hx, e2, _, _⟩ := vsGot_some h
        exact .inr ⟨k, by rw [← HL.out]; exact hk, e2, by have := fun g => hat ⟨h, g⟩; simp; omega⟩
      · exact .inl (vsGot_none h).1
    clear hat hv0 KI
    rcases HC with e1 | ⟨k, hk, e1, e2⟩
    all_goals
      rw [e1]
      go_wp2_with (first
        | (go_at_call 87; refine (KC.out _ P1.out.b).mono ?_; rintro e w2 ⟨v2, rfl, o2, b2⟩; have P2 := Lib.hid (P1.out.on b2); have hb2 := P1.out.r.lt; have O1 := Lib.hid o2; obtain ⟨A2, c2, e2, h21, h22, h23, h24⟩ := o2.rg; subst e2; have r0 := P2.out.r.c0; have r1 := P2.out.r.c1; have g0 := P2.out.r.f0; have g1 := P2.out.r.f1; have F := Lib.hid (P2.out.fin O1.out hb2); clear o2 b2 h21 h22 h23 h24 hb2)
        | fail)
      obtain ⟨f1, o6, b6⟩ := F.out
      have z0 := f1.c0; have z1 := f1.c1
      unfold setSt at z0 z1 o6 b6
      refine bodyPost_ret (v := .agg #[.string key, .slice A2 l.length c2]) (by simp [results, Try.results44, go_sem, z0, z1]) rfl ⟨_, rfl, by rw [HE.out]; exact o6, b6⟩
end Go.Proofs.Ytchfpgdioclajaa
