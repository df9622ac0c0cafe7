/- The walk of the law StackPuts. -/
import Derived.Test.YtjmmaghjbaigiaaVsZ
import Derived.Test.YtjmmaghjbaigiaaVuD
namespace Go.Proofs.Ytjmmaghjbaigiaa
open Go.RowKit
set_option linter.unusedVariables false
set_option linter.unusedSimpArgs false
/-- A stack in a box, with its row. -/
structure RowB (W : World) (q : Nat) (key : ByteArray) (A : Option Addr) (n c : Nat) (l : List Vn) : Prop where
  s : StBox W q key A n c
  r : RG KV W A l
  ln : l.length = n
theorem RowB.on {W W' : World} {q : Nat} {key : ByteArray} {A : Option Addr} {n c : Nat} {l : List Vn} (h : RowB W q key A n c l) (hb : Below W.heap.size W W') : RowB W' q key A n c l := ⟨h.s.on hb, h.r.below hb, h.ln⟩
theorem RowB.alloc {W : World} {q : Nat} {key : ByteArray} {A : Option Addr} {n c : Nat} {l : List Vn} (h : RowB W q key A n c l) (o : Obj) : RowB (W.alloc o) q key A n c l := h.on (below1 W o)
theorem RowB.new {W : World} {key : ByteArray} {A : Option Addr} {n c : Nat} {l : List Vn} (hr : RG KV W A l) (hl : l.length = n) : RowB (W.alloc (.cells #[.string key, .slice A n c] 24)) W.heap.size key A n c l := ⟨StBox.new W key A n c _, hr.alloc _, hl⟩
set_option maxHeartbeats 4000000 in
set_option maxRecDepth 100000 in
theorem stackPuts_core (key : ByteArray) (A : Option Addr) (n c : Nat) (l : List Vn) (kez : ByteArray) (B : Option Addr) (m d : Nat) (M : List Vn) (E : Option Addr) (x y : Nat) (bs : List UInt8) (w : World)
    (hl : l.length = n) (hn : n ≤ maxLen) (hnc : n ≤ c) (hr : RG KV w A l) (hm : M.length = m) (hm1 : m ≤ maxLen) (hmd : m ≤ d) (hs : RG KV w B M) (hx : bs.length = x) (hx1 : x ≤ maxLen) (hxy : x ≤ y) (hb : RB w E bs) :
    Calls Try.prog 3 #[.agg #[.string key, .slice A n c], .agg #[.string kez, .slice B m d], .slice E x y] w fun e w' => e = .returned (.bool true) ∧ Below w.heap.size w w' := by
  have KA := Lib.hid (fun W => vsAwake_any W)
  have KL1 := Lib.hid (fun W (h : Below w.heap.size w W) => vsLight_any key A n c l W hl hn (hr.below h))
  have KL2 := Lib.hid (fun W (h : Below w.heap.size w W) => vsLight_any kez B m d M W hm hm1 (hs.below h))
  have HB := Lib.hid (below2 w (.cells #[.string key, .slice A n c] 24) (.cells #[.string kez, .slice B m d] 24))
  have S := Lib.hid (((RowB.new (key := key) (c := c) hr hl).on (below1 _ (.cells #[.string kez, .slice B m d] 24))))
  have T : Hid (RowB ((w.alloc (.cells #[.string key, .slice A n c] 24)).alloc (.cells #[.string kez, .slice B m d] 24)) (w.heap.size + 1) kez B m d M) := Lib.hid (by
    have := RowB.new (W := w.alloc (.cells #[.string key, .slice A n c] 24)) (key := kez) (c := d) (hs.alloc _) hm
    rw [heap_size_alloc] at this
    exact this)
  cases h1 : vsLight key l with
  | false =>
    rw [h1] at KL1
    clear h1 hl hn hr hm hm1 hs hb hx hx1
    go_enter Try.func3, Try.ntmps3
    go_upto_region 1 with fail
    generalize (w.alloc (.cells #[.string key, .slice A n c] 24)).alloc (.cells #[.string kez, .slice B m d] 24) = W0 at *
    have s0 := S.out.s.c0; have s1 := S.out.s.c1; have t0 := T.out.s.c0; have t1 := T.out.s.c1
    go_wp2_with (first
      | (go_at_call 8; (with_reducible refine Calls.mono (KL1.out _ HB.out) ?_); rintro e w1 ⟨rfl, b1⟩; have S := Lib.hid (S.out.on b1); have T := Lib.hid (T.out.on b1); have s0 := S.out.s.c0; have s1 := S.out.s.c1; have t0 := T.out.s.c0; have t1 := T.out.s.c1; have HB := Lib.hid (HB.out.trans (b1.mono HB.out.size)); clear b1)
      | (go_at_call 9; refine (KA.out _).mono ?_; rintro e w9 ⟨rfl, b1⟩; have S := Lib.hid (S.out.on b1); have T := Lib.hid (T.out.on b1); have s0 := S.out.s.c0; have s1 := S.out.s.c1; have t0 := T.out.s.c0; have t1 := T.out.s.c1; have HB := Lib.hid (HB.out.trans (b1.mono HB.out.size)); clear b1)
      | fail)
    go_ret
    exact ⟨rfl, HB.out⟩
  | true =>
    rw [h1] at KL1
    cases h2 : vsLight kez M with
    | false =>
      rw [h2] at KL2
      clear h1 h2 hl hn hr hm hm1 hs hb hx hx1
      go_enter Try.func3, Try.ntmps3
      go_upto_region 1 with fail
      generalize (w.alloc (.cells #[.string key, .slice A n c] 24)).alloc (.cells #[.string kez, .slice B m d] 24) = W0 at *
      have s0 := S.out.s.c0; have s1 := S.out.s.c1; have t0 := T.out.s.c0; have t1 := T.out.s.c1
      go_wp2_with (first
        | (go_at_call 8; (with_reducible refine Calls.mono (KL1.out _ HB.out) ?_); rintro e w1 ⟨rfl, b1⟩; have S := Lib.hid (S.out.on b1); have T := Lib.hid (T.out.on b1); have s0 := S.out.s.c0; have s1 := S.out.s.c1; have t0 := T.out.s.c0; have t1 := T.out.s.c1; have HB := Lib.hid (HB.out.trans (b1.mono HB.out.size)); clear b1)
        | (go_at_call 8; (with_reducible refine Calls.mono (KL2.out _ HB.out) ?_); rintro e w2 ⟨rfl, b1⟩; have S := Lib.hid (S.out.on b1); have T := Lib.hid (T.out.on b1); have s0 := S.out.s.c0; have s1 := S.out.s.c1; have t0 := T.out.s.c0; have t1 := T.out.s.c1; have HB := Lib.hid (HB.out.trans (b1.mono HB.out.size)); clear b1)
        | (go_at_call 9; refine (KA.out _).mono ?_; rintro e w9 ⟨rfl, b1⟩; have S := Lib.hid (S.out.on b1); have T := Lib.hid (T.out.on b1); have s0 := S.out.s.c0; have s1 := S.out.s.c1; have t0 := T.out.s.c0; have t1 := T.out.s.c1; have HB := Lib.hid (HB.out.trans (b1.mono HB.out.size)); clear b1)
        | fail)
      go_ret
      exact ⟨rfl, HB.out⟩
    | true =>
      rw [h2] at KL2
      by_cases h5 : 500 < x
      · have d5 : decide ((500 : Int) < (x : Int)) = true := by simp; omega
        clear h1 h2 hl hn hr hm hm1 hs hb hx hx1 h5
        go_enter Try.func3, Try.ntmps3
        go_upto_region 1 with fail
        generalize (w.alloc (.cells #[.string key, .slice A n c] 24)).alloc (.cells #[.string kez, .slice B m d] 24) = W0 at *
        have s0 := S.out.s.c0; have s1 := S.out.s.c1; have t0 := T.out.s.c0; have t1 := T.out.s.c1
        go_wp2_with (first
          | (go_at_call 8; (with_reducible refine Calls.mono (KL1.out _ HB.out) ?_); rintro e w1 ⟨rfl, b1⟩; have S := Lib.hid (S.out.on b1); have T := Lib.hid (T.out.on b1); have s0 := S.out.s.c0; have s1 := S.out.s.c1; have t0 := T.out.s.c0; have t1 := T.out.s.c1; have HB := Lib.hid (HB.out.trans (b1.mono HB.out.size)); clear b1)
          | (go_at_call 8; (with_reducible refine Calls.mono (KL2.out _ HB.out) ?_); rintro e w2 ⟨rfl, b1⟩; have S := Lib.hid (S.out.on b1); have T := Lib.hid (T.out.on b1); have s0 := S.out.s.c0; have s1 := S.out.s.c1; have t0 := T.out.s.c0; have t1 := T.out.s.c1; have HB := Lib.hid (HB.out.trans (b1.mono HB.out.size)); clear b1)
          | (go_at_call 9; refine (KA.out _).mono ?_; rintro e w9 ⟨rfl, b1⟩; have S := Lib.hid (S.out.on b1); have T := Lib.hid (T.out.on b1); have s0 := S.out.s.c0; have s1 := S.out.s.c1; have t0 := T.out.s.c0; have t1 := T.out.s.c1; have HB := Lib.hid (HB.out.trans (b1.mono HB.out.size)); clear b1)
          | fail)
        go_ret
        exact ⟨rfl, HB.out⟩
      · have d5 : decide ((500 : Int) < (x : Int)) = false := by simp; omega
        have hn12 : n ≤ 12 := by have := (vsLight_at h1).2.1; omega
        have hm12 : m ≤ 12 := by have := (vsLight_at h2).2.1; omega
        have K1 := Lib.hid (fun W (h : RowB W w.heap.size key A n c l) => vsPut_any key A n c l W h.ln (by omega) hnc h.r)
        have K2 := Lib.hid (fun W (h : RowB W w.heap.size key A n c l) => refPutS_any key A n c l W h.ln (by omega) h.r)
        have K3 := Lib.hid (fun W (h : Below w.heap.size w W) => vsGet_any E x y bs W (by omega) hx hxy (hb.below h))
        have K4 := Lib.hid (fun W (h : Below w.heap.size w W) => refGetS_any E x y bs W (by omega) hx hxy (hb.below h))
        have K5 := Lib.hid (fun W (h : RowB W w.heap.size key A n c l) (g : RowB W (w.heap.size + 1) kez B m d M) => vsSame_any key kez A B n m c d l M W h.ln g.ln (by omega) h.r g.r)
        have K6 := Lib.hid (fun W (h : RowB W w.heap.size key A n c l) (g : RowB W (w.heap.size + 1) kez B m d M) => refSame_any key kez A B n m c d l M W h.ln g.ln (by omega) h.r g.r)
        obtain ⟨P, hP⟩ : ∃ P, P = (if vsCheck key l = 0 then putS key l else []) := ⟨_, rfl⟩
        obtain ⟨z, hz⟩ : ∃ z, z = vsCheck key l := ⟨_, rfl⟩
        rw [← hP, ← hz] at K1 K2
        obtain ⟨sm, hsm⟩ : ∃ sm, sm = vsSame key l kez M := ⟨_, rfl⟩
        rw [← hsm] at K5 K6
        clear h1 h2 hl hn hr hm hm1 hs hb hx hx1 h5 hP hz hsm hnc hmd hxy hn12 hm12
        go_enter Try.func3, Try.ntmps3
        go_upto_region 1 with fail
        generalize (w.alloc (.cells #[.string key, .slice A n c] 24)).alloc (.cells #[.string kez, .slice B m d] 24) = W0 at *
        have s0 := S.out.s.c0; have s1 := S.out.s.c1; have t0 := T.out.s.c0; have t1 := T.out.s.c1
        go_upto_region 3 with (first
          | (go_at_call 8; (with_reducible refine Calls.mono (KL1.out _ HB.out) ?_); rintro e w1 ⟨rfl, b1⟩; have S := Lib.hid (S.out.on b1); have T := Lib.hid (T.out.on b1); have s0 := S.out.s.c0; have s1 := S.out.s.c1; have t0 := T.out.s.c0; have t1 := T.out.s.c1; have HB := Lib.hid (HB.out.trans (b1.mono HB.out.size)); clear b1)
          | (go_at_call 8; (with_reducible refine Calls.mono (KL2.out _ HB.out) ?_); rintro e w2 ⟨rfl, b1⟩; have S := Lib.hid (S.out.on b1); have T := Lib.hid (T.out.on b1); have s0 := S.out.s.c0; have s1 := S.out.s.c1; have t0 := T.out.s.c0; have t1 := T.out.s.c1; have HB := Lib.hid (HB.out.trans (b1.mono HB.out.size)); clear b1)
          | fail)
        clear d5
        go_upto_region 4 with (first | (go_at_call 10; refine (K1.out _ S.out).mono ?_; rintro e w3 ⟨v3, rfl, o3, b1⟩; obtain ⟨A3, c3, rfl, hc3, r3⟩ := o3.form; have R3 := Lib.hid r3; have S := Lib.hid (S.out.on b1); have T := Lib.hid (T.out.on b1); have HB := Lib.hid (HB.out.trans (b1.mono HB.out.size)); clear b1; clear o3 hc3 r3) | fail)
        clear s0 s1 t0 t1
        have s0 := S.out.s.c0; have s1 := S.out.s.c1
        go_upto_region 5 with (first | (go_at_call 11; refine (K2.out _ S.out).mono ?_; rintro e w4 ⟨v4, rfl, o4, b1⟩; obtain ⟨A4, c4, rfl, hc4, r4⟩ := o4.form; have R4 := Lib.hid r4; have S := Lib.hid (S.out.on b1); have T := Lib.hid (T.out.on b1); have R3 := Lib.hid (R3.out.below b1); have HB := Lib.hid (HB.out.trans (b1.mono HB.out.size)); clear b1; clear o4 hc4 r4) | fail)
        clear s0 s1
        go_upto_region 6 with (first | (go_at_call 12; refine (K3.out _ HB.out).mono ?_; rintro e w5 ⟨kz, v5, Lz, gz, rfl, hg5, o5, b1⟩; obtain ⟨A5, c5, rfl, hc5, _, r5, _⟩ := o5.rg; have G5 := Lib.hid hg5; have Z := Lib.hid (RowB.new (key := kz) (c := c5) r5 rfl); have S := Lib.hid (S.out.on b1); have T := Lib.hid (T.out.on b1); have R3 := Lib.hid (R3.out.below b1); have R4 := Lib.hid (R4.out.below b1); have HB := Lib.hid (HB.out.trans (b1.mono HB.out.size)); clear b1; clear hg5 o5 hc5 r5) | fail)
        have S := Lib.hid (S.out.alloc (.cells #[.string kz, .slice A5 Lz.length c5] 24))
        have T := Lib.hid (T.out.alloc (.cells #[.string kz, .slice A5 Lz.length c5] 24))
        have R3 := Lib.hid (R3.out.alloc (.cells #[.string kz, .slice A5 Lz.length c5] 24))
        have R4 := Lib.hid (R4.out.alloc (.cells #[.string kz, .slice A5 Lz.length c5] 24))
        have HB := Lib.hid (HB.out.alloc HB.out.size (.cells #[.string kz, .slice A5 Lz.length c5] 24))
        generalize w5.alloc (.cells #[.string kz, .slice A5 Lz.length c5] 24) = X5 at *
        generalize w5.heap.size = q5 at *
        go_upto_region 7 with (first | (go_at_call 13; refine (K4.out _ HB.out).mono ?_; rintro e w6 ⟨k6, B6, m6, d6, L6, g6, rfl, lm, md, m9, r6, hg6, b1⟩; obtain ⟨rfl, rfl, rfl⟩ := GetOfS.one hg6 G5.out; have U := Lib.hid (RowB.new (key := k6) (c := d6) r6 lm); have LM := Lib.hid lm; have M9 := Lib.hid m9; have S := Lib.hid (S.out.on b1); have T := Lib.hid (T.out.on b1); have Z := Lib.hid (Z.out.on b1); have R3 := Lib.hid (R3.out.below b1); have R4 := Lib.hid (R4.out.below b1); have HB := Lib.hid (HB.out.trans (b1.mono HB.out.size)); clear b1; clear hg6 r6 md lm m9) | fail)
        obtain rfl := LM.out
        have S := Lib.hid (S.out.alloc (.cells #[.string k6, .slice B6 L6.length d6] 24))
        have T := Lib.hid (T.out.alloc (.cells #[.string k6, .slice B6 L6.length d6] 24))
        have Z := Lib.hid (Z.out.alloc (.cells #[.string k6, .slice B6 L6.length d6] 24))
        have R3 := Lib.hid (R3.out.alloc (.cells #[.string k6, .slice B6 L6.length d6] 24))
        have R4 := Lib.hid (R4.out.alloc (.cells #[.string k6, .slice B6 L6.length d6] 24))
        have HB := Lib.hid (HB.out.alloc HB.out.size (.cells #[.string k6, .slice B6 L6.length d6] 24))
        generalize w6.alloc (.cells #[.string k6, .slice B6 L6.length d6] 24) = X6 at *
        generalize w6.heap.size = q6 at *
        have K7 := Lib.hid (fun W (h : RowB W q5 k6 A5 L6.length c5 L6) (g : RowB W q6 k6 B6 L6.length d6 L6) => refSame_any k6 k6 A5 B6 L6.length L6.length c5 d6 L6 L6 W h.ln g.ln (by have := M9.out; omega) h.r g.r)
        rw [show vsSame k6 L6 k6 L6 = true from by unfold vsSame; simp] at K7
        have hss : ((str P).toList == (str P).toList) = true := by simp
        have KF := Lib.hid (fun V (h : Below X6.heap.size X6 V) => (⟨(S.out.s.on h).c0, (S.out.s.on h).c1, (T.out.s.on h).c0, (T.out.s.on h).c1, (Z.out.s.on h).c0, (Z.out.s.on h).c1, (U.out.s.on h).c0, (U.out.s.on h).c1, run_str V A3 P.length c3 P rfl (R3.out.below h), run_str V A4 P.length c4 P rfl (R4.out.below h)⟩ : V.cell? ⟨w.heap.size, 0, none⟩ = some (.string key) ∧ V.cell? ⟨w.heap.size, 1, none⟩ = some (.slice A n c) ∧ V.cell? ⟨w.heap.size + 1, 0, none⟩ = some (.string kez) ∧ V.cell? ⟨w.heap.size + 1, 1, none⟩ = some (.slice B m d) ∧ V.cell? ⟨q5, 0, none⟩ = some (.string k6) ∧ V.cell? ⟨q5, 1, none⟩ = some (.slice A5 L6.length c5) ∧ V.cell? ⟨q6, 0, none⟩ = some (.string k6) ∧ V.cell? ⟨q6, 1, none⟩ = some (.slice B6 L6.length d6) ∧ (convert 25 9 (.slice A3 P.length c3)).run Try.prog V = .ok (.string (str P)) V ∧ (convert 25 9 (.slice A4 P.length c4)).run Try.prog V = .ok (.string (str P)) V))
        have BZ := Lib.hid (Below.refl X6.heap.size X6).drew
        have k0 := KF.out _ BZ.out
        clear K1 K2 K3 K4 KL1 KL2 G5
        cases sm
        all_goals
          go_region_held3 (fun V => V.cell? ⟨w.heap.size, 0, none⟩ = some (.string key) ∧ V.cell? ⟨w.heap.size, 1, none⟩ = some (.slice A n c) ∧ V.cell? ⟨w.heap.size + 1, 0, none⟩ = some (.string kez) ∧ V.cell? ⟨w.heap.size + 1, 1, none⟩ = some (.slice B m d) ∧ V.cell? ⟨q5, 0, none⟩ = some (.string k6) ∧ V.cell? ⟨q5, 1, none⟩ = some (.slice A5 L6.length c5) ∧ V.cell? ⟨q6, 0, none⟩ = some (.string k6) ∧ V.cell? ⟨q6, 1, none⟩ = some (.slice B6 L6.length d6) ∧ (convert 25 9 (.slice A3 P.length c3)).run Try.prog V = .ok (.string (str P)) V ∧ (convert 25 9 (.slice A4 P.length c4)).run Try.prog V = .ok (.string (str P)) V) (first | with_reducible exact k0 | with_reducible exact k1 | fail)
            (first
              | (go_at_call 14; (with_reducible refine Calls.mono (K7.out _ (Z.out.on BZ.out) (U.out.on BZ.out)) ?_); rintro e w7 ⟨rfl, b1⟩; have BZ := Lib.hid (BZ.out.trans (b1.mono BZ.out.size)); have k1 := KF.out _ BZ.out; clear b1)
              | (go_at_call 15; (with_reducible refine Calls.mono (K5.out _ (S.out.on BZ.out) (T.out.on BZ.out)) ?_); rintro e w7 ⟨rfl, b1⟩; have BZ := Lib.hid (BZ.out.trans (b1.mono BZ.out.size)); have k1 := KF.out _ BZ.out; clear b1)
              | (go_at_call 14; (with_reducible refine Calls.mono (K6.out _ (S.out.on BZ.out) (T.out.on BZ.out)) ?_); rintro e w7 ⟨rfl, b1⟩; have BZ := Lib.hid (BZ.out.trans (b1.mono BZ.out.size)); have k1 := KF.out _ BZ.out; clear b1)
              | (go_at_call 9; (with_reducible refine Calls.mono (KA.out _) ?_); rintro e w7 ⟨rfl, b1⟩; have BZ := Lib.hid (BZ.out.trans (b1.mono BZ.out.size)); have k1 := KF.out _ BZ.out; clear b1)
              | fail)
        all_goals
          go_wp2_with fail
          go_ret
          exact ⟨rfl, HB.out.trans (BZ.out.mono HB.out.size)⟩
end Go.Proofs.Ytjmmaghjbaigiaa
