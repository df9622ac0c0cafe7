/- The walk of the law VisibleCommits. -/
import Derived.Test.YtjmmaghjbaigiaaVbZ
import Derived.Test.YtjmmaghjbaigiaaVsN
import Derived.Test.YtjmmaghjbaigiaaVsE
import Derived.Test.YtjmmaghjbaigiaaVsH
import Derived.Test.YtjmmaghjbaigiaaVsK
import Derived.Test.YtjmmaghjbaigiaaVsS
import Derived.Test.YtjmmaghjbaigiaaVbM
import Derived.Deep.DeepMust
namespace Go.Proofs.Ytjmmaghjbaigiaa
open Go.RowKit
set_option linter.unusedVariables false
set_option linter.unusedSimpArgs false
set_option maxHeartbeats 2000000 in
set_option maxRecDepth 100000 in
theorem visibleCommits_core (key : ByteArray) (A : Option Addr) (n c : Nat) (l : List Vn) (v : Vn) (me : Int) (w : World) (hl : l.length = n) (hn : n ≤ maxLen) (hnc : n ≤ c) (hr : RG KV w A l) :
    Calls Try.prog 7 #[.agg #[.string key, .slice A n c], v.v, .int .i64 me] w fun e w' => e = .returned (.bool true) ∧ Below w.heap.size w w' := by
  obtain ⟨vt, vts, vg, vv⟩ := v
  unfold Vn.v
  dsimp only
  have KA := Lib.hid (fun W => vbAwake_any W)
  have KL := Lib.hid (fun W (h : Below w.heap.size w W) => vsLight_any key A n c l W hl hn (hr.below h))
  have HB := Lib.hid (below2 w (.cells #[.string key, .slice A n c] 24) (.cells #[.int .i64 vt, .int .i64 vts, .bool vg, .string vv] 66))
  have S := Lib.hid (((RowB.new (key := key) (c := c) hr hl).on (below1 _ (.cells #[.int .i64 vt, .int .i64 vts, .bool vg, .string vv] 66))))
  have V : Hid (VnBox ((w.alloc (.cells #[.string key, .slice A n c] 24)).alloc (.cells #[.int .i64 vt, .int .i64 vts, .bool vg, .string vv] 66)) (w.heap.size + 1) (⟨vt, vts, vg, vv⟩ : Vn)) := Lib.hid (by
    have := VnBox.new (w.alloc (.cells #[.string key, .slice A n c] 24)) (⟨vt, vts, vg, vv⟩ : Vn) 66
    rw [heap_size_alloc] at this
    exact this)
  cases hlt : vsLight key l with
  | false =>
    rw [hlt] at KL
    clear hlt hl hn hr
    skip
    go_enter Try.func7, Try.ntmps7
    go_upto_region 1 with fail
    generalize (w.alloc (.cells #[.string key, .slice A n c] 24)).alloc (.cells #[.int .i64 vt, .int .i64 vts, .bool vg, .string vv] 66) = W0 at *
    have s0 := S.out.s.c0; have s1 := S.out.s.c1; obtain ⟨v0, v1, v2, v3, _, _, _, _⟩ := V.out; (try dsimp only at v0 v1 v2 v3)
    go_wp2_with (first
      | (go_at_call 8; refine (KL.out _ HB.out).mono ?_; rintro e w1 ⟨rfl, b1⟩; have S := Lib.hid (S.out.on b1); have V := Lib.hid (V.out.on b1); have s0 := S.out.s.c0; have s1 := S.out.s.c1; obtain ⟨v0, v1, v2, v3, _, _, _, _⟩ := V.out; (try dsimp only at v0 v1 v2 v3); have HB := Lib.hid (HB.out.trans (b1.mono HB.out.size)); clear b1)
      | (go_at_call 23; refine (KA.out _).mono ?_; rintro e w9 ⟨rfl, b1⟩; have S := Lib.hid (S.out.on b1); have V := Lib.hid (V.out.on b1); have s0 := S.out.s.c0; have s1 := S.out.s.c1; obtain ⟨v0, v1, v2, v3, _, _, _, _⟩ := V.out; (try dsimp only at v0 v1 v2 v3); have HB := Lib.hid (HB.out.trans (b1.mono HB.out.size)); clear b1)
      | fail)
    go_ret
    exact ⟨rfl, HB.out⟩
  | true =>
    rw [hlt] at KL
    obtain ⟨k1, k2, k3⟩ := vsLight_at hlt
    have hn12 : n ≤ 12 := by omega
    have KC := Lib.hid (fun W (h : Below w.heap.size w W) => vsCheck_any key A n c l W hl (by omega) hnc (hr.below h))
    have KM := Lib.hid (fun W (h : Below w.heap.size w W) => vbRoom_any key A n c l vt W hl (by omega) (hr.below h))
    have he := ba_isEmpty vv
    have HLT := Lib.hid hlt
    clear hlt k1 k2 k3 hn
    by_cases h24 : 24 < vv.size
    · have h24' : decide ((24 : Int) < (vv.size : Int)) = true := by simp; omega
      clear hl hr h24
      skip
      go_enter Try.func7, Try.ntmps7
      go_upto_region 1 with fail
      generalize (w.alloc (.cells #[.string key, .slice A n c] 24)).alloc (.cells #[.int .i64 vt, .int .i64 vts, .bool vg, .string vv] 66) = W0 at *
      have s0 := S.out.s.c0; have s1 := S.out.s.c1; obtain ⟨v0, v1, v2, v3, _, _, _, _⟩ := V.out; (try dsimp only at v0 v1 v2 v3)
      go_wp2_with (first
        | (go_at_call 8; refine (KL.out _ HB.out).mono ?_; rintro e w1 ⟨rfl, b1⟩; have S := Lib.hid (S.out.on b1); have V := Lib.hid (V.out.on b1); have s0 := S.out.s.c0; have s1 := S.out.s.c1; obtain ⟨v0, v1, v2, v3, _, _, _, _⟩ := V.out; (try dsimp only at v0 v1 v2 v3); have HB := Lib.hid (HB.out.trans (b1.mono HB.out.size)); clear b1)
        | (go_at_call 23; refine (KA.out _).mono ?_; rintro e w9 ⟨rfl, b1⟩; have S := Lib.hid (S.out.on b1); have V := Lib.hid (V.out.on b1); have s0 := S.out.s.c0; have s1 := S.out.s.c1; obtain ⟨v0, v1, v2, v3, _, _, _, _⟩ := V.out; (try dsimp only at v0 v1 v2 v3); have HB := Lib.hid (HB.out.trans (b1.mono HB.out.size)); clear b1)
        | fail)
      go_ret
      exact ⟨rfl, HB.out⟩
    · have h24' : decide ((24 : Int) < (vv.size : Int)) = false := by simp; omega
      have h240 := Lib.hid h24
      clear h24
      by_cases hge : vg = true ∧ vv ≠ ⟨#[]⟩
      · obtain ⟨rfl, hne⟩ := hge
        rw [decide_eq_false hne] at he
        clear hl hr hne
        skip
        go_enter Try.func7, Try.ntmps7
        go_upto_region 1 with fail
        generalize (w.alloc (.cells #[.string key, .slice A n c] 24)).alloc (.cells #[.int .i64 vt, .int .i64 vts, .bool true, .string vv] 66) = W0 at *
        have s0 := S.out.s.c0; have s1 := S.out.s.c1; obtain ⟨v0, v1, v2, v3, _, _, _, _⟩ := V.out; (try dsimp only at v0 v1 v2 v3)
        skip
        go_wp2_with (first
          | (go_at_call 8; refine (KL.out _ HB.out).mono ?_; rintro e w1 ⟨rfl, b1⟩; have S := Lib.hid (S.out.on b1); have V := Lib.hid (V.out.on b1); have s0 := S.out.s.c0; have s1 := S.out.s.c1; obtain ⟨v0, v1, v2, v3, _, _, _, _⟩ := V.out; (try dsimp only at v0 v1 v2 v3); have HB := Lib.hid (HB.out.trans (b1.mono HB.out.size)); clear b1)
          | (go_at_call 23; refine (KA.out _).mono ?_; rintro e w9 ⟨rfl, b1⟩; have S := Lib.hid (S.out.on b1); have V := Lib.hid (V.out.on b1); have s0 := S.out.s.c0; have s1 := S.out.s.c1; obtain ⟨v0, v1, v2, v3, _, _, _, _⟩ := V.out; (try dsimp only at v0 v1 v2 v3); have HB := Lib.hid (HB.out.trans (b1.mono HB.out.size)); clear b1)
          | fail)
        go_ret
        exact ⟨rfl, HB.out⟩
      · have hgc : vg = false ∨ (vg = true ∧ vv.toList.isEmpty = true) := by
          cases vg with
          | false => exact .inl rfl
          | true => exact .inr ⟨rfl, by rw [he, decide_eq_true_eq]; exact Classical.byContradiction fun e => hge ⟨rfl, e⟩⟩
        have HGE : Hid (vg = true → vv = ⟨#[]⟩) := Lib.hid fun hg => Classical.byContradiction fun e => hge ⟨hg, e⟩
        clear he hge
        have HCK := Lib.hid (fun h => vsCheck_zero.1 (show vsCheck key l = 0 from h))
        obtain ⟨ck, hck⟩ : ∃ ck, ck = vsCheck key l := ⟨_, rfl⟩
        have HCK0 : Hid (0 = ck → vsCheck key l = 0) := Lib.hid (fun e => by rw [← hck, ← e])
        rw [← hck] at KC HCK
        clear hck
        obtain ⟨rm, hrm⟩ : ∃ rm, rm = vbRoom l vt := ⟨_, rfl⟩
        rw [← hrm] at KM
        have HRM := Lib.hid hrm
        clear hrm
        by_cases hgood : ck = 0 ∧ 0 ≤ vt ∧ me ≠ vt ∧ rm = true
        · obtain ⟨rfl, ht0, hme, rfl⟩ := hgood
          exact visibleCommits_main key A n c l vt vts vg vv me w hl hn12 hnc hr HLT.out h240.out HGE.out (HCK0.out rfl) ht0 hme HRM.out.symm
        · have HGD := Lib.hid hgood
          clear hl hr hgood
          rcases hgc with rfl | ⟨rfl, hemp⟩
          ·
            by_cases h1 : ck = 0
            · subst h1
              by_cases h2 : 0 ≤ vt
              · have d2 : decide (vt < 0) = false := by simp; omega
                by_cases h3 : me = vt
                · have d3 : (me == vt) = true := by simp [h3]
                  clear h3 h2
                  skip
                  go_enter Try.func7, Try.ntmps7
                  go_upto_region 1 with fail
                  generalize (w.alloc (.cells #[.string key, .slice A n c] 24)).alloc (.cells #[.int .i64 vt, .int .i64 vts, .bool false, .string vv] 66) = W0 at *
                  have s0 := S.out.s.c0; have s1 := S.out.s.c1; obtain ⟨v0, v1, v2, v3, _, _, _, _⟩ := V.out; (try dsimp only at v0 v1 v2 v3)
                  skip
                  go_wp2_with (first
                    | (go_at_call 8; refine (KL.out _ HB.out).mono ?_; rintro e w1 ⟨rfl, b1⟩; have S := Lib.hid (S.out.on b1); have V := Lib.hid (V.out.on b1); have s0 := S.out.s.c0; have s1 := S.out.s.c1; obtain ⟨v0, v1, v2, v3, _, _, _, _⟩ := V.out; (try dsimp only at v0 v1 v2 v3); have HB := Lib.hid (HB.out.trans (b1.mono HB.out.size)); clear b1)
                    | (go_at_call 27; refine (KC.out _ HB.out).mono ?_; rintro e w2 ⟨rfl, b1⟩; have S := Lib.hid (S.out.on b1); have V := Lib.hid (V.out.on b1); have s0 := S.out.s.c0; have s1 := S.out.s.c1; obtain ⟨v0, v1, v2, v3, _, _, _, _⟩ := V.out; (try dsimp only at v0 v1 v2 v3); have HB := Lib.hid (HB.out.trans (b1.mono HB.out.size)); clear b1)
                    | (go_at_call 23; refine (KA.out _).mono ?_; rintro e w9 ⟨rfl, b1⟩; have S := Lib.hid (S.out.on b1); have V := Lib.hid (V.out.on b1); have s0 := S.out.s.c0; have s1 := S.out.s.c1; obtain ⟨v0, v1, v2, v3, _, _, _, _⟩ := V.out; (try dsimp only at v0 v1 v2 v3); have HB := Lib.hid (HB.out.trans (b1.mono HB.out.size)); clear b1)
                    | fail)
                  go_ret
                  exact ⟨rfl, HB.out⟩
                · have d3 : (me == vt) = false := by rw [beq_eq_false_iff_ne]; exact h3
                  obtain rfl : rm = false := by
                    cases rm with
                    | false => rfl
                    | true => exact absurd ⟨rfl, h2, h3, rfl⟩ HGD.out
                  clear h3 h2
                  skip
                  go_enter Try.func7, Try.ntmps7
                  go_upto_region 1 with fail
                  generalize (w.alloc (.cells #[.string key, .slice A n c] 24)).alloc (.cells #[.int .i64 vt, .int .i64 vts, .bool false, .string vv] 66) = W0 at *
                  have s0 := S.out.s.c0; have s1 := S.out.s.c1; obtain ⟨v0, v1, v2, v3, _, _, _, _⟩ := V.out; (try dsimp only at v0 v1 v2 v3)
                  skip
                  go_wp2_with (first
                    | (go_at_call 8; refine (KL.out _ HB.out).mono ?_; rintro e w1 ⟨rfl, b1⟩; have S := Lib.hid (S.out.on b1); have V := Lib.hid (V.out.on b1); have s0 := S.out.s.c0; have s1 := S.out.s.c1; obtain ⟨v0, v1, v2, v3, _, _, _, _⟩ := V.out; (try dsimp only at v0 v1 v2 v3); have HB := Lib.hid (HB.out.trans (b1.mono HB.out.size)); clear b1)
                    | (go_at_call 27; refine (KC.out _ HB.out).mono ?_; rintro e w2 ⟨rfl, b1⟩; have S := Lib.hid (S.out.on b1); have V := Lib.hid (V.out.on b1); have s0 := S.out.s.c0; have s1 := S.out.s.c1; obtain ⟨v0, v1, v2, v3, _, _, _, _⟩ := V.out; (try dsimp only at v0 v1 v2 v3); have HB := Lib.hid (HB.out.trans (b1.mono HB.out.size)); clear b1)
                    | (go_at_call 32; refine (KM.out _ HB.out).mono ?_; rintro e w3 ⟨rfl, b1⟩; have S := Lib.hid (S.out.on b1); have V := Lib.hid (V.out.on b1); have s0 := S.out.s.c0; have s1 := S.out.s.c1; obtain ⟨v0, v1, v2, v3, _, _, _, _⟩ := V.out; (try dsimp only at v0 v1 v2 v3); have HB := Lib.hid (HB.out.trans (b1.mono HB.out.size)); clear b1)
                    | (go_at_call 23; refine (KA.out _).mono ?_; rintro e w9 ⟨rfl, b1⟩; have S := Lib.hid (S.out.on b1); have V := Lib.hid (V.out.on b1); have s0 := S.out.s.c0; have s1 := S.out.s.c1; obtain ⟨v0, v1, v2, v3, _, _, _, _⟩ := V.out; (try dsimp only at v0 v1 v2 v3); have HB := Lib.hid (HB.out.trans (b1.mono HB.out.size)); clear b1)
                    | fail)
                  go_ret
                  exact ⟨rfl, HB.out⟩
              · have d2 : decide (vt < 0) = true := by simp; omega
                clear h2
                skip
                go_enter Try.func7, Try.ntmps7
                go_upto_region 1 with fail
                generalize (w.alloc (.cells #[.string key, .slice A n c] 24)).alloc (.cells #[.int .i64 vt, .int .i64 vts, .bool false, .string vv] 66) = W0 at *
                have s0 := S.out.s.c0; have s1 := S.out.s.c1; obtain ⟨v0, v1, v2, v3, _, _, _, _⟩ := V.out; (try dsimp only at v0 v1 v2 v3)
                skip
                go_wp2_with (first
                  | (go_at_call 8; refine (KL.out _ HB.out).mono ?_; rintro e w1 ⟨rfl, b1⟩; have S := Lib.hid (S.out.on b1); have V := Lib.hid (V.out.on b1); have s0 := S.out.s.c0; have s1 := S.out.s.c1; obtain ⟨v0, v1, v2, v3, _, _, _, _⟩ := V.out; (try dsimp only at v0 v1 v2 v3); have HB := Lib.hid (HB.out.trans (b1.mono HB.out.size)); clear b1)
                  | (go_at_call 27; refine (KC.out _ HB.out).mono ?_; rintro e w2 ⟨rfl, b1⟩; have S := Lib.hid (S.out.on b1); have V := Lib.hid (V.out.on b1); have s0 := S.out.s.c0; have s1 := S.out.s.c1; obtain ⟨v0, v1, v2, v3, _, _, _, _⟩ := V.out; (try dsimp only at v0 v1 v2 v3); have HB := Lib.hid (HB.out.trans (b1.mono HB.out.size)); clear b1)
                  | (go_at_call 23; refine (KA.out _).mono ?_; rintro e w9 ⟨rfl, b1⟩; have S := Lib.hid (S.out.on b1); have V := Lib.hid (V.out.on b1); have s0 := S.out.s.c0; have s1 := S.out.s.c1; obtain ⟨v0, v1, v2, v3, _, _, _, _⟩ := V.out; (try dsimp only at v0 v1 v2 v3); have HB := Lib.hid (HB.out.trans (b1.mono HB.out.size)); clear b1)
                  | fail)
                go_ret
                exact ⟨rfl, HB.out⟩
            · have d1 : ((ck : Int) != 0) = true := by simp; omega
              clear h1
              skip
              go_enter Try.func7, Try.ntmps7
              go_upto_region 1 with fail
              generalize (w.alloc (.cells #[.string key, .slice A n c] 24)).alloc (.cells #[.int .i64 vt, .int .i64 vts, .bool false, .string vv] 66) = W0 at *
              have s0 := S.out.s.c0; have s1 := S.out.s.c1; obtain ⟨v0, v1, v2, v3, _, _, _, _⟩ := V.out; (try dsimp only at v0 v1 v2 v3)
              skip
              go_wp2_with (first
                | (go_at_call 8; refine (KL.out _ HB.out).mono ?_; rintro e w1 ⟨rfl, b1⟩; have S := Lib.hid (S.out.on b1); have V := Lib.hid (V.out.on b1); have s0 := S.out.s.c0; have s1 := S.out.s.c1; obtain ⟨v0, v1, v2, v3, _, _, _, _⟩ := V.out; (try dsimp only at v0 v1 v2 v3); have HB := Lib.hid (HB.out.trans (b1.mono HB.out.size)); clear b1)
                | (go_at_call 27; refine (KC.out _ HB.out).mono ?_; rintro e w2 ⟨rfl, b1⟩; have S := Lib.hid (S.out.on b1); have V := Lib.hid (V.out.on b1); have s0 := S.out.s.c0; have s1 := S.out.s.c1; obtain ⟨v0, v1, v2, v3, _, _, _, _⟩ := V.out; (try dsimp only at v0 v1 v2 v3); have HB := Lib.hid (HB.out.trans (b1.mono HB.out.size)); clear b1)
                | (go_at_call 23; refine (KA.out _).mono ?_; rintro e w9 ⟨rfl, b1⟩; have S := Lib.hid (S.out.on b1); have V := Lib.hid (V.out.on b1); have s0 := S.out.s.c0; have s1 := S.out.s.c1; obtain ⟨v0, v1, v2, v3, _, _, _, _⟩ := V.out; (try dsimp only at v0 v1 v2 v3); have HB := Lib.hid (HB.out.trans (b1.mono HB.out.size)); clear b1)
                | fail)
              go_ret
              exact ⟨rfl, HB.out⟩
          ·
            by_cases h1 : ck = 0
            · subst h1
              by_cases h2 : 0 ≤ vt
              · have d2 : decide (vt < 0) = false := by simp; omega
                by_cases h3 : me = vt
                · have d3 : (me == vt) = true := by simp [h3]
                  clear h3 h2
                  skip
                  go_enter Try.func7, Try.ntmps7
                  go_upto_region 1 with fail
                  generalize (w.alloc (.cells #[.string key, .slice A n c] 24)).alloc (.cells #[.int .i64 vt, .int .i64 vts, .bool true, .string vv] 66) = W0 at *
                  have s0 := S.out.s.c0; have s1 := S.out.s.c1; obtain ⟨v0, v1, v2, v3, _, _, _, _⟩ := V.out; (try dsimp only at v0 v1 v2 v3)
                  skip
                  go_wp2_with (first
                    | (go_at_call 8; refine (KL.out _ HB.out).mono ?_; rintro e w1 ⟨rfl, b1⟩; have S := Lib.hid (S.out.on b1); have V := Lib.hid (V.out.on b1); have s0 := S.out.s.c0; have s1 := S.out.s.c1; obtain ⟨v0, v1, v2, v3, _, _, _, _⟩ := V.out; (try dsimp only at v0 v1 v2 v3); have HB := Lib.hid (HB.out.trans (b1.mono HB.out.size)); clear b1)
                    | (go_at_call 27; refine (KC.out _ HB.out).mono ?_; rintro e w2 ⟨rfl, b1⟩; have S := Lib.hid (S.out.on b1); have V := Lib.hid (V.out.on b1); have s0 := S.out.s.c0; have s1 := S.out.s.c1; obtain ⟨v0, v1, v2, v3, _, _, _, _⟩ := V.out; (try dsimp only at v0 v1 v2 v3); have HB := Lib.hid (HB.out.trans (b1.mono HB.out.size)); clear b1)
                    | (go_at_call 23; refine (KA.out _).mono ?_; rintro e w9 ⟨rfl, b1⟩; have S := Lib.hid (S.out.on b1); have V := Lib.hid (V.out.on b1); have s0 := S.out.s.c0; have s1 := S.out.s.c1; obtain ⟨v0, v1, v2, v3, _, _, _, _⟩ := V.out; (try dsimp only at v0 v1 v2 v3); have HB := Lib.hid (HB.out.trans (b1.mono HB.out.size)); clear b1)
                    | fail)
                  go_ret
                  exact ⟨rfl, HB.out⟩
                · have d3 : (me == vt) = false := by rw [beq_eq_false_iff_ne]; exact h3
                  obtain rfl : rm = false := by
                    cases rm with
                    | false => rfl
                    | true => exact absurd ⟨rfl, h2, h3, rfl⟩ HGD.out
                  clear h3 h2
                  skip
                  go_enter Try.func7, Try.ntmps7
                  go_upto_region 1 with fail
                  generalize (w.alloc (.cells #[.string key, .slice A n c] 24)).alloc (.cells #[.int .i64 vt, .int .i64 vts, .bool true, .string vv] 66) = W0 at *
                  have s0 := S.out.s.c0; have s1 := S.out.s.c1; obtain ⟨v0, v1, v2, v3, _, _, _, _⟩ := V.out; (try dsimp only at v0 v1 v2 v3)
                  skip
                  go_wp2_with (first
                    | (go_at_call 8; refine (KL.out _ HB.out).mono ?_; rintro e w1 ⟨rfl, b1⟩; have S := Lib.hid (S.out.on b1); have V := Lib.hid (V.out.on b1); have s0 := S.out.s.c0; have s1 := S.out.s.c1; obtain ⟨v0, v1, v2, v3, _, _, _, _⟩ := V.out; (try dsimp only at v0 v1 v2 v3); have HB := Lib.hid (HB.out.trans (b1.mono HB.out.size)); clear b1)
                    | (go_at_call 27; refine (KC.out _ HB.out).mono ?_; rintro e w2 ⟨rfl, b1⟩; have S := Lib.hid (S.out.on b1); have V := Lib.hid (V.out.on b1); have s0 := S.out.s.c0; have s1 := S.out.s.c1; obtain ⟨v0, v1, v2, v3, _, _, _, _⟩ := V.out; (try dsimp only at v0 v1 v2 v3); have HB := Lib.hid (HB.out.trans (b1.mono HB.out.size)); clear b1)
                    | (go_at_call 32; refine (KM.out _ HB.out).mono ?_; rintro e w3 ⟨rfl, b1⟩; have S := Lib.hid (S.out.on b1); have V := Lib.hid (V.out.on b1); have s0 := S.out.s.c0; have s1 := S.out.s.c1; obtain ⟨v0, v1, v2, v3, _, _, _, _⟩ := V.out; (try dsimp only at v0 v1 v2 v3); have HB := Lib.hid (HB.out.trans (b1.mono HB.out.size)); clear b1)
                    | (go_at_call 23; refine (KA.out _).mono ?_; rintro e w9 ⟨rfl, b1⟩; have S := Lib.hid (S.out.on b1); have V := Lib.hid (V.out.on b1); have s0 := S.out.s.c0; have s1 := S.out.s.c1; obtain ⟨v0, v1, v2, v3, _, _, _, _⟩ := V.out; (try dsimp only at v0 v1 v2 v3); have HB := Lib.hid (HB.out.trans (b1.mono HB.out.size)); clear b1)
                    | fail)
                  go_ret
                  exact ⟨rfl, HB.out⟩
              · have d2 : decide (vt < 0) = true := by simp; omega
                clear h2
                skip
                go_enter Try.func7, Try.ntmps7
                go_upto_region 1 with fail
                generalize (w.alloc (.cells #[.string key, .slice A n c] 24)).alloc (.cells #[.int .i64 vt, .int .i64 vts, .bool true, .string vv] 66) = W0 at *
                have s0 := S.out.s.c0; have s1 := S.out.s.c1; obtain ⟨v0, v1, v2, v3, _, _, _, _⟩ := V.out; (try dsimp only at v0 v1 v2 v3)
                skip
                go_wp2_with (first
                  | (go_at_call 8; refine (KL.out _ HB.out).mono ?_; rintro e w1 ⟨rfl, b1⟩; have S := Lib.hid (S.out.on b1); have V := Lib.hid (V.out.on b1); have s0 := S.out.s.c0; have s1 := S.out.s.c1; obtain ⟨v0, v1, v2, v3, _, _, _, _⟩ := V.out; (try dsimp only at v0 v1 v2 v3); have HB := Lib.hid (HB.out.trans (b1.mono HB.out.size)); clear b1)
                  | (go_at_call 27; refine (KC.out _ HB.out).mono ?_; rintro e w2 ⟨rfl, b1⟩; have S := Lib.hid (S.out.on b1); have V := Lib.hid (V.out.on b1); have s0 := S.out.s.c0; have s1 := S.out.s.c1; obtain ⟨v0, v1, v2, v3, _, _, _, _⟩ := V.out; (try dsimp only at v0 v1 v2 v3); have HB := Lib.hid (HB.out.trans (b1.mono HB.out.size)); clear b1)
                  | (go_at_call 23; refine (KA.out _).mono ?_; rintro e w9 ⟨rfl, b1⟩; have S := Lib.hid (S.out.on b1); have V := Lib.hid (V.out.on b1); have s0 := S.out.s.c0; have s1 := S.out.s.c1; obtain ⟨v0, v1, v2, v3, _, _, _, _⟩ := V.out; (try dsimp only at v0 v1 v2 v3); have HB := Lib.hid (HB.out.trans (b1.mono HB.out.size)); clear b1)
                  | fail)
                go_ret
                exact ⟨rfl, HB.out⟩
            · have d1 : ((ck : Int) != 0) = true := by simp; omega
              clear h1
              skip
              go_enter Try.func7, Try.ntmps7
              go_upto_region 1 with fail
              generalize (w.alloc (.cells #[.string key, .slice A n c] 24)).alloc (.cells #[.int .i64 vt, .int .i64 vts, .bool true, .string vv] 66) = W0 at *
              have s0 := S.out.s.c0; have s1 := S.out.s.c1; obtain ⟨v0, v1, v2, v3, _, _, _, _⟩ := V.out; (try dsimp only at v0 v1 v2 v3)
              skip
              go_wp2_with (first
                | (go_at_call 8; refine (KL.out _ HB.out).mono ?_; rintro e w1 ⟨rfl, b1⟩; have S := Lib.hid (S.out.on b1); have V := Lib.hid (V.out.on b1); have s0 := S.out.s.c0; have s1 := S.out.s.c1; obtain ⟨v0, v1, v2, v3, _, _, _, _⟩ := V.out; (try dsimp only at v0 v1 v2 v3); have HB := Lib.hid (HB.out.trans (b1.mono HB.out.size)); clear b1)
                | (go_at_call 27; refine (KC.out _ HB.out).mono ?_; rintro e w2 ⟨rfl, b1⟩; have S := Lib.hid (S.out.on b1); have V := Lib.hid (V.out.on b1); have s0 := S.out.s.c0; have s1 := S.out.s.c1; obtain ⟨v0, v1, v2, v3, _, _, _, _⟩ := V.out; (try dsimp only at v0 v1 v2 v3); have HB := Lib.hid (HB.out.trans (b1.mono HB.out.size)); clear b1)
                | (go_at_call 23; refine (KA.out _).mono ?_; rintro e w9 ⟨rfl, b1⟩; have S := Lib.hid (S.out.on b1); have V := Lib.hid (V.out.on b1); have s0 := S.out.s.c0; have s1 := S.out.s.c1; obtain ⟨v0, v1, v2, v3, _, _, _, _⟩ := V.out; (try dsimp only at v0 v1 v2 v3); have HB := Lib.hid (HB.out.trans (b1.mono HB.out.size)); clear b1)
                | fail)
              go_ret
              exact ⟨rfl, HB.out⟩
end Go.Proofs.Ytjmmaghjbaigiaa
