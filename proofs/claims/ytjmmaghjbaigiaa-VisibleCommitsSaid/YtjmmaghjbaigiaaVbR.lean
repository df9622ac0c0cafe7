/- What a snapshot sees: the program's Read. -/
import Derived.Test.YtjmmaghjbaigiaaVbB
namespace Go.Proofs.Ytjmmaghjbaigiaa
open Go.RowKit
set_option linter.unusedVariables false
set_option linter.unusedSimpArgs false
theorem vbRd_none {l : List Vn} {me t : Int} (h : vbWhich l me t = -1) : vbRd l me t = (⟨#[]⟩, false) := by
  unfold vbRd vbGet
  rw [h, if_pos (by omega)]
  rfl
theorem vbRd_some {l : List Vn} {me t : Int} {k : Nat} {x : Vn} (h : vbWhich l me t = (k : Int)) (hx : l[k]? = some x) : vbRd l me t = if x.gone then (⟨#[]⟩, false) else (x.val, true) := by
  unfold vbRd vbGet
  rw [h, if_neg (by omega), Int.toNat_natCast, hx]
  rfl
set_option maxHeartbeats 1000000 in
set_option maxRecDepth 100000 in
theorem vbRead_any (key : ByteArray) (A : Option Addr) (n c : Nat) (l : List Vn) (me t : Int) (w : World) (hl : l.length = n) (hn : n ≤ 1000) (hr : RG KV w A l) :
    Calls Try.prog 29 #[.agg #[.string key, .slice A n c], .int .i64 me, .int .i64 t] w fun e w' => e = .returned (.tuple #[.string (vbRd l me t).1, .bool (vbRd l me t).2]) ∧ Below w.heap.size w w' := by
  have KI := Lib.hid (fun W (h : Below w.heap.size w W) => vbWhich_any key A n c l me t W hl hn (hr.below h))
  have HB := Lib.hid (below1 w (.cells #[.string key, .slice A n c] 24))
  have SX := Lib.hid (StBox.new w key A n c 24)
  have HR := Lib.hid (fun W (h : Below w.heap.size w W) => hr.below h)
  rcases vbWhich_lt l me t with e | ⟨k, x, e, hk, hx⟩
  · rw [vbRd_none e]
    rw [e] at KI
    clear e hl hr
    go_enter Try.func29, Try.ntmps29
    go_upto_region 1 with fail
    generalize w.alloc (.cells #[.string key, .slice A n c] 24) = W0 at *
    have s0 := SX.out.c0; have s1 := SX.out.c1
    go_wp2_with (first | (go_at_call 61; refine (KI.out _ HB.out).mono ?_; rintro e w1 ⟨rfl, b1⟩; have HB := Lib.hid (HB.out.trans (b1.mono HB.out.size)); have SX := Lib.hid (SX.out.on b1); have s1 := SX.out.c1; clear b1) | fail)
    go_ret2
    exact ⟨rfl, HB.out⟩
  · have HX := Lib.hid hx
    rw [vbRd_some e hx]
    rw [e] at KI
    have hk1 : k < n := by omega
    have d1 : ((k : Int) == -1) = false := by rw [beq_eq_false_iff_ne]; omega
    clear e hl hr hx hk
    cases hg : x.gone
    all_goals
      go_enter Try.func29, Try.ntmps29
      go_upto_region 1 with fail
      generalize w.alloc (.cells #[.string key, .slice A n c] 24) = W0 at *
      have s0 := SX.out.c0; have s1 := SX.out.c1
      go_wp2_with (first | (go_at_call 61; refine (KI.out _ HB.out).mono ?_; rintro e w1 ⟨rfl, b1⟩; have HB := Lib.hid (HB.out.trans (b1.mono HB.out.size)); have SX := Lib.hid (SX.out.on b1); have s1 := SX.out.c1; obtain ⟨ad, rfl, hv⟩ := (HR.out _ HB.out).vn HX.out; have c2 := hv.d2; have c3 := hv.d3; rw [hg] at c2; clear b1 hv) | fail)
      go_ret2
      exact ⟨rfl, HB.out⟩
end Go.Proofs.Ytjmmaghjbaigiaa
