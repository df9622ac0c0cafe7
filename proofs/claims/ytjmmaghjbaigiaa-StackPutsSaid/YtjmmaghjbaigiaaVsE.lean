/- Stacks: Pending. -/
import Derived.Test.YtjmmaghjbaigiaaVsC
import Derived.Test.YtjmmaghjbaigiaaVsQ
import Derived.Deep.CutBlock
namespace Go.Proofs.Ytjmmaghjbaigiaa
open Go.RowKit
set_option linter.unusedVariables false
set_option linter.unusedSimpArgs false
def vn0 : Vn := ⟨0, 0, false, ⟨#[]⟩⟩
/-- What Pending tells. -/
def vsGot (l : List Vn) (t : Int) : Vn := (l[vsAt l t]?).getD vn0
theorem vsGot_none {l : List Vn} {t : Int} (h : ¬ vsAt l t < l.length) : vsIdx l t = -1 ∧ vsGot l t = vn0 ∧ vsHas l t = false := ⟨by unfold vsIdx; rw [if_neg h], by unfold vsGot; rw [List.getElem?_eq_none (by omega)]; rfl, by unfold vsHas; rw [decide_eq_false h]⟩
theorem vsGot_some {l : List Vn} {t : Int} (h : vsAt l t < l.length) : ∃ k x, vsAt l t = k ∧ k < l.length ∧ l[k]? = some x ∧ vsIdx l t = (k : Int) ∧ vsGot l t = x ∧ vsHas l t = true := ⟨_, _, rfl, h, List.getElem?_eq_getElem h, by unfold vsIdx; rw [if_pos h], by unfold vsGot; rw [List.getElem?_eq_getElem h]; rfl, by unfold vsHas; rw [decide_eq_true h]⟩
set_option maxHeartbeats 2000000 in
set_option maxRecDepth 100000 in
theorem vsPendingT_any (key : ByteArray) (A : Option Addr) (n c : Nat) (l : List Vn) (t : Int) (w : World) (hl : l.length = n) (hn : n ≤ 1000) (hr : RG KV w A l) :
    Calls Try.prog 35 #[.agg #[.string key, .slice A n c], .int .i64 t] w fun e w' => e = .returned (.tuple #[(vsGot l t).v, .bool (vsHas l t)]) ∧ Below w.heap.size w w' := by
  have HK := Lib.hid (fun (W : World) => vsPendingOf_any t W)
  have KI := Lib.hid (fun (W : World) (q : Nat) (h : Below w.heap.size w W) (hq : W.cell? ⟨q, 0, none⟩ = some (.int .i64 t)) => vsIndexFunc_any A n c l t q W hl hn (hr.below h) hq)
  have HB := Lib.hid (below2 w (.cells #[.string key, .slice A n c] 24) (.cells #[.int .i64 0, .int .i64 0, .bool false, .string ⟨#[]⟩] 66))
  have SX := Lib.hid ((StBox.new w key A n c 24).alloc (.cells #[.int .i64 0, .int .i64 0, .bool false, .string ⟨#[]⟩] 66))
  have VX : Hid (VnBox ((w.alloc (.cells #[.string key, .slice A n c] 24)).alloc (.cells #[.int .i64 0, .int .i64 0, .bool false, .string ⟨#[]⟩] 66)) (w.heap.size + 1) vn0) := Lib.hid (by
    have := VnBox.new (w.alloc (.cells #[.string key, .slice A n c] 24)) vn0 66
    rw [heap_size_alloc] at this
    exact this)
  have HR := Lib.hid (fun W (h : Below w.heap.size w W) => hr.below h)
  have HL := Lib.hid hl
  by_cases h : vsAt l t < l.length
  · obtain ⟨k, x, e1, hk, hx, e2, e3, e4⟩ := vsGot_some h
    rw [e3, e4]
    rw [e2] at KI
    have HX := Lib.hid hx
    rw [hl] at hk
    clear e1 e2 e3 e4 h hx hl hr
    unfold Vn.v
    go_enter Try.func35, Try.ntmps35
    go_upto_region 1 with fail
    generalize (w.alloc (.cells #[.string key, .slice A n c] 24)).alloc (.cells #[.int .i64 0, .int .i64 0, .bool false, .string ⟨#[]⟩] 66) = W0 at *
    have cs := SX.out.drew.c1
    go_region_held3 (fun W => W.cell? ⟨w.heap.size, 1, none⟩ = some (.slice A n c)) (first | with_reducible exact cs | fail)
      (first
        | (go_at_call 72; refine (HK.out _).mono ?_; rintro e w1 ⟨q, rfl, q1, q2, q3, b1⟩; have HB := Lib.hid (HB.out.drew.trans (b1.mono HB.out.size)); have SX := Lib.hid (SX.out.drew.on b1); have VX := Lib.hid (VX.out.drew.on b1); have Q1 := Lib.hid q1; have cs := SX.out.c1; clear q1 q2 q3 b1)
        | (go_at_call 71; refine (KI.out _ _ HB.out Q1.out).mono ?_; rintro e w2 ⟨rfl, b4⟩; have HB := Lib.hid (HB.out.trans (b4.mono HB.out.size)); have SX := Lib.hid (SX.out.on b4); have VX := Lib.hid (VX.out.on b4); have cs := SX.out.c1; clear b4)
        | fail)
    obtain ⟨ad, rfl, hv⟩ := (HR.out _ HB.out).vn HX.out
    have c0 := hv.d0; have c1 := hv.d1; have c2 := hv.d2; have c3 := hv.d3
    obtain ⟨y0, y1, y2, y3, g0, g1, g2, g3⟩ := VX.out
    simp only [vn0] at y0 y1 y2 y3
    clear hv
    go_wp2
    have P := VX.out.put x
    have z0 := P.c0; have z1 := P.c1; have z2 := P.c2; have z3 := P.c3
    unfold setVn at z0 z1 z2 z3
    refine bodyPost_ret (v := .tuple #[.agg #[.int .i64 x.txn, .int .i64 x.ts, .bool x.gone, .string x.val], .bool true]) (by simp [results, Try.results35, go_sem, z0, z1, z2, z3]) rfl ⟨rfl, ?_⟩
    exact Below.setVn HB.out (q := w.heap.size + 1) (by omega) x.txn x.ts x.gone x.val
  · obtain ⟨e1, e2, e3⟩ := vsGot_none h
    rw [e2, e3]
    rw [e1] at KI
    clear e1 e2 e3 h hl hr
    unfold Vn.v
    go_enter Try.func35, Try.ntmps35
    go_upto_region 1 with fail
    generalize (w.alloc (.cells #[.string key, .slice A n c] 24)).alloc (.cells #[.int .i64 0, .int .i64 0, .bool false, .string ⟨#[]⟩] 66) = W0 at *
    have cs := SX.out.drew.c1
    go_region_held3 (fun W => W.cell? ⟨w.heap.size, 1, none⟩ = some (.slice A n c)) (first | with_reducible exact cs | fail)
      (first
        | (go_at_call 72; refine (HK.out _).mono ?_; rintro e w1 ⟨q, rfl, q1, q2, q3, b1⟩; have HB := Lib.hid (HB.out.drew.trans (b1.mono HB.out.size)); have SX := Lib.hid (SX.out.drew.on b1); have VX := Lib.hid (VX.out.drew.on b1); have Q1 := Lib.hid q1; have cs := SX.out.c1; clear q1 q2 q3 b1)
        | (go_at_call 71; refine (KI.out _ _ HB.out Q1.out).mono ?_; rintro e w2 ⟨rfl, b4⟩; have HB := Lib.hid (HB.out.trans (b4.mono HB.out.size)); have SX := Lib.hid (SX.out.on b4); have VX := Lib.hid (VX.out.on b4); have cs := SX.out.c1; clear b4)
        | fail)
    obtain ⟨y0, y1, y2, y3, g0, g1, g2, g3⟩ := VX.out
    simp only [vn0] at y0 y1 y2 y3
    go_wp2
    have P := VX.out.put vn0
    have z0 := P.c0; have z1 := P.c1; have z2 := P.c2; have z3 := P.c3
    unfold setVn at z0 z1 z2 z3
    simp only [vn0] at z0 z1 z2 z3
    refine bodyPost_ret (v := .tuple #[.agg #[.int .i64 0, .int .i64 0, .bool false, .string ⟨#[]⟩], .bool false]) (by simp [results, Try.results35, go_sem, z0, z1, z2, z3]) rfl ⟨rfl, ?_⟩
    exact Below.setVn HB.out (q := w.heap.size + 1) (by omega) 0 0 false ⟨#[]⟩
end Go.Proofs.Ytjmmaghjbaigiaa
