/- The package bitmap: word, the two ways to mix. -/
import Derived.Test.YtmmehomobmoapaaDoorQR
namespace Go.Proofs.YtmmehomobmoapaaDoor
open Go.RowKit
set_option linter.unusedVariables false
set_option linter.unusedSimpArgs false
def wordN (L : List UInt64) (i : Nat) : Nat := (L.getD i 0).toNat
theorem wordN_lt (L : List UInt64) (i : Nat) : wordN L i < 18446744073709551616 := (L.getD i 0).toNat_lt
set_option maxRecDepth 100000 in
theorem word_any (s : Int) (A : Option Addr) (c : Nat) (L : List UInt64) (i : Nat) (w : World) (hi : i ≤ 64) (hr : RQ w A L) : Calls Tryd.prog 60 #[.agg #[.int .i64 s, .slice A L.length c], .int .i64 (i : Int)] w fun e w' => e = .returned (.int .u64 (wordN L i : Int)) ∧ Below w.heap.size w w' := by
  have B0 := Lib.hid ((Below.refl _ w).alloc (Nat.le_refl _) (.cells #[.int .i64 s, .slice A L.length c] 27))
  obtain ⟨x0, x1⟩ := bx2 w (.int .i64 s) (.slice A L.length c) 27 (Below.refl _ _)
  by_cases h : i < L.length
  · obtain ⟨ad, x, rfl, hx, hc⟩ := hr.at_ h
    have hc' := (World.cell?_alloc_lt w (.cells #[.int .i64 s, .slice (some ad) L.length c] 27) _ (lt_of_cell hc)).trans hc
    have HW : Hid (wordN L i = x.toNat) := Lib.hid (by unfold wordN; rw [List.getD_eq_getElem?_getD, hx]; rfl)
    have d : decide ((L.length : Int) ≤ (i : Int)) = false := by simp; omega
    have d2 : (i : Int) < (L.length : Int) := by omega
    generalize wordN L i = R at *
    generalize L.length = N at *
    clear hr hx hc h
    go_enter Tryd.func60, Tryd.ntmps60
    go_wp2
    go_ret
    rw [HW.out]
    exact ⟨rfl, B0.out⟩
  · have HW : Hid (wordN L i = 0) := Lib.hid (by unfold wordN; rw [List.getD_eq_getElem?_getD, List.getElem?_eq_none (by omega)]; rfl)
    have d : L.length ≤ i := by omega
    generalize wordN L i = R at *
    generalize L.length = N at *
    clear hr h
    go_enter Tryd.func60, Tryd.ntmps60
    go_wp2
    go_ret
    rw [HW.out]
    exact ⟨rfl, B0.out⟩
set_option maxRecDepth 100000 in
theorem both1_any (x y : Nat) (hx : x < 18446744073709551616) (hy : y < 18446744073709551616) (w : World) : Calls Tryd.prog 47 #[.int .u64 (x : Int), .int .u64 (y : Int)] w fun e w' => e = .returned (.int .u64 ((x &&& y : Nat) : Int)) ∧ w = w' := by
  have K := Lib.hid (bits_and_u64_nat x y hx hy)
  go_enter Tryd.func47, Tryd.ntmps47
  go_wp2
  go_ret
  rw [K.out]
  exact ⟨rfl, rfl⟩
set_option maxRecDepth 100000 in
theorem either1_any (x y : Nat) (hx : x < 18446744073709551616) (hy : y < 18446744073709551616) (w : World) : Calls Tryd.prog 49 #[.int .u64 (x : Int), .int .u64 (y : Int)] w fun e w' => e = .returned (.int .u64 ((x ||| y : Nat) : Int)) ∧ w = w' := by
  have K := Lib.hid (bits_or_u64_nat x y hx hy)
  go_enter Tryd.func49, Tryd.ntmps49
  go_wp2
  go_ret
  rw [K.out]
  exact ⟨rfl, rfl⟩
/-- What is in both, or in one of two. -/
def mixW (all : Bool) (x y : Nat) : Nat := if all = true then x &&& y else x ||| y
def mixB (all : Bool) (x y : Bool) : Bool := if all = true then x && y else x || y
theorem mixW_bit (all : Bool) (x y i : Nat) : (mixW all x y).testBit i = mixB all (x.testBit i) (y.testBit i) := by
  unfold mixW mixB
  cases all
  · simp [Nat.testBit_or]
  · simp [Nat.testBit_and]
theorem mixW_lt (all : Bool) {x y : Nat} (hx : x < 18446744073709551616) (hy : y < 18446744073709551616) : mixW all x y < 18446744073709551616 := by
  unfold mixW
  rw [show (18446744073709551616 : Nat) = 2 ^ 64 by decide] at *
  cases all
  · exact Nat.or_lt_two_pow hx hy
  · exact Nat.and_lt_two_pow x hy
def mixWs (all : Bool) (L M : List UInt64) (q : Nat) : List UInt64 := (List.range q).map fun i => UInt64.ofNat (mixW all (wordN L i) (wordN M i))
def mixOk (s t : Int) (L M : List UInt64) : Bool := okB s L && okB t M
def mixS (s t : Int) (L M : List UInt64) : Int := if mixOk s t L M = true then max s t else 0
def mixL (all : Bool) (s t : Int) (L M : List UInt64) : List UInt64 := if mixOk s t L M = true then mixWs all L M (((max s t).toNat + 63) / 64) else []
theorem mixWs_len (all : Bool) (L M : List UInt64) (q : Nat) : (mixWs all L M q).length = q := by simp [mixWs]
theorem mixWs_at (all : Bool) (L M : List UInt64) {q i : Nat} (h : i < q) : (mixWs all L M q)[i]? = some (UInt64.ofNat (mixW all (wordN L i) (wordN M i))) := by
  simp [mixWs, h]
theorem bitL_out {L : List UInt64} {n : Nat} (h : 64 * L.length ≤ n) : bitL L n = false := by
  unfold bitL
  rw [List.getD_eq_getElem?_getD, List.getElem?_eq_none (by omega)]
  simp
theorem mixWs_bit (all : Bool) (L M : List UInt64) (q n : Nat) : bitL (mixWs all L M q) n = (decide (n < 64 * q) && mixB all (bitL L n) (bitL M n)) := by
  by_cases h : n < 64 * q
  · rw [decide_eq_true h, Bool.true_and]
    unfold bitL
    rw [List.getD_eq_getElem?_getD, mixWs_at all L M (show n / 64 < q by omega)]
    show (UInt64.ofNat _).toNat.testBit _ = _
    rw [UInt64.toNat_ofNat', Nat.mod_eq_of_lt (mixW_lt all (wordN_lt _ _) (wordN_lt _ _)), mixW_bit]
    rfl
  · rw [decide_eq_false h, Bool.false_and]
    exact bitL_out (by rw [mixWs_len]; omega)
theorem mixB_ff (all : Bool) : mixB all false false = false := by cases all <;> rfl
theorem mixL_ok {all : Bool} {s t : Int} {L M : List UInt64} (h : mixOk s t L M = true) : okB (mixS s t L M) (mixL all s t L M) = true := by
  unfold mixS mixL
  rw [if_pos h, if_pos h]
  unfold mixOk at h
  rw [Bool.and_eq_true] at h
  obtain ⟨a, rfl, ha, hla, hca⟩ := okB_nat h.1
  obtain ⟨b, rfl, hb, hlb, hcb⟩ := okB_nat h.2
  have e : (max (a : Int) (b : Int)) = ((max a b : Nat) : Int) := by omega
  rw [e, Int.toNat_natCast]
  unfold okB fitB cleanB
  rw [mixWs_len, Bool.and_eq_true, decide_eq_true_eq, decide_eq_true_eq, Int.toNat_natCast]
  refine ⟨by omega, fun n h1 h2 => ?_⟩
  rw [mixWs_bit]
  have e1 : bitL L n = false := by
    by_cases h : n < 64 * L.length
    · exact hca n h (by omega)
    · exact bitL_out (by omega)
  have e2 : bitL M n = false := by
    by_cases h : n < 64 * M.length
    · exact hcb n h (by omega)
    · exact bitL_out (by omega)
  rw [e1, e2, mixB_ff, Bool.and_false]
theorem mixL_bad {all : Bool} {s t : Int} {L M : List UInt64} (h : mixOk s t L M = false) : mixS s t L M = 0 ∧ mixL all s t L M = [] := by
  unfold mixS mixL
  rw [if_neg (by rw [h]; simp), if_neg (by rw [h]; simp)]
  exact ⟨rfl, rfl⟩
end Go.Proofs.YtmmehomobmoapaaDoor
