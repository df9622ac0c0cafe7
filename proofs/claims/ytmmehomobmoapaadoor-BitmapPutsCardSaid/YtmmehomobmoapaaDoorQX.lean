/- The package bitmap: fill. -/
import Derived.Test.YtmmehomobmoapaaDoorQW
import Derived.StillTailTactics
namespace Go.Proofs.YtmmehomobmoapaaDoor
open Go.RowKit
set_option linter.unusedVariables false
set_option linter.unusedSimpArgs false
def putBit (L : List UInt64) (i : Nat) : List UInt64 := L.set (i / 64) (setU (L.getD (i / 64) 0) (i % 64) true)
def fillL (L : List UInt64) (a : Nat) : Nat → List UInt64
  | 0 => L
  | k + 1 => putBit (fillL L a k) (a + k)
theorem putBit_len (L : List UInt64) (i : Nat) : (putBit L i).length = L.length := by simp [putBit]
theorem fillL_len (L : List UInt64) (a : Nat) : ∀ k, (fillL L a k).length = L.length
  | 0 => rfl
  | k + 1 => by rw [fillL, putBit_len, fillL_len]
theorem putBit_bit {L : List UInt64} {m : Nat} (hm : m / 64 < L.length) (i : Nat) : bitL (putBit L m) i = if i = m then true else bitL L i := by
  unfold putBit bitL
  rw [List.getD_eq_getElem?_getD, List.getElem?_set]
  by_cases e : m / 64 = i / 64
  · rw [if_pos e, if_pos (by omega)]
    show (setU _ _ true).toNat.testBit _ = _
    rw [setU_nat _ _ (by omega), setW_bit]
    by_cases e2 : i = m
    · subst e2; rw [if_pos rfl, if_pos rfl]
    · rw [if_neg (by omega), if_neg e2, e]
  · rw [if_neg e, if_neg (by omega), List.getD_eq_getElem?_getD]
theorem fillL_bit (L : List UInt64) (a i : Nat) : ∀ k, a + k ≤ 64 * L.length → bitL (fillL L a k) i = (bitL L i || decide (a ≤ i ∧ i < a + k))
  | 0, _ => by rw [decide_eq_false (by omega), Bool.or_false]; rfl
  | k + 1, h => by
    rw [fillL, putBit_bit (by rw [fillL_len]; omega), fillL_bit L a i k (by omega)]
    by_cases e : i = a + k
    · rw [if_pos e, decide_eq_true (by omega), Bool.or_true]
    · rw [if_neg e]
      congr 1
      rw [decide_eq_decide]
      omega
theorem OQ.own1 {base : Nat} {w : World} {gv n c : Nat} {L : List UInt64} {k : Nat} {x : UInt64} (h : OQ base w (.slice (some ⟨gv, 0, none⟩) n c) L) (hk : L[k]? = some x) (y : UInt64) (z : Int) (hz : z = (y.toNat : Int)) : OQ base (w.setCell ⟨gv, k, none⟩ (.int .u64 z)) (.slice (some ⟨gv, 0, none⟩) n c) (L.set k y) := (h.atg x hk).2.2.2.2 y z hz
theorem OnlyB.trans {g : Nat} {X Y Z : World} (h1 : OnlyB g X Y) (h2 : OnlyB g Y Z) : OnlyB g X Z := ⟨h2.os.trans h1.os, h2.tape.trans h1.tape, h2.output.trans h1.output, h2.size.trans h1.size, fun b hb => (h2.block b hb).trans (h1.block b hb)⟩
theorem OnlyB.drew {g : Nat} {X Y : World} (h : OnlyB g X Y) : OnlyB g X Y.drew := ⟨h.os, h.tape, h.output, h.size, h.block⟩
set_option maxHeartbeats 1000000 in
set_option maxRecDepth 100000 in
theorem fill_any (base gv N c : Nat) (L : List UInt64) (a n : Nat) (w : World) (hb : a + n ≤ 64 * L.length) (hL : L.length ≤ 64) (ho : OQ base w (.slice (some ⟨gv, 0, none⟩) N c) L) : Calls Tryd.prog 56 #[.slice (some ⟨gv, 0, none⟩) N c, .int .i64 (a : Int), .int .i64 (n : Int)] w fun e w' => (∃ v, e = .returned v) ∧ OQ base w' (.slice (some ⟨gv, 0, none⟩) N c) (fillL L a n) ∧ OnlyB gv w w' := by
  have HN := Lib.hid ho.len
  have HB := Lib.hid hb
  have hb2 : a + n ≤ 4096 := by omega
  have HLL := Lib.hid hL
  clear hb hL
  go_enter Tryd.func56, Tryd.ntmps56
  go_wp2
  go_loopw [6] (fun i wr => ∃ k : Nat, k ≤ n ∧ i = .int .i64 ((a + k : Nat) : Int) ∧ OQ base wr (.slice (some ⟨gv, 0, none⟩) N c) (fillL L a k) ∧ OnlyB gv w wr) (fun i _ => a + n - (RowKit.intOf i).toNat)
  case atStart => exact ⟨0, Nat.zero_le _, rfl, ho, OnlyB.refl _ _⟩
  case round =>
    obtain ⟨k, hk, rfl, hq, hx⟩ := hrel
    by_cases hlt : k < n
    · obtain ⟨j, hj⟩ : ∃ j, j = a + k := ⟨_, rfl⟩
      rw [← hj]
      have hjl : (j : Int) < (a : Int) + (n : Int) := by omega
      have hj4 : j < 4096 := by omega
      have hjN : j / 64 < (fillL L a k).length := by rw [fillL_len]; have := HB.out; omega
      have hjN2 : j / 64 < N := by rw [HN.out, ← fillL_len L a k]; exact hjN
      have hjN' : ((j / 64 : Nat) : Int) < (N : Int) := by rw [HN.out, ← fillL_len L a k]; omega
      obtain ⟨x, hxx⟩ : ∃ x, (fillL L a k)[j / 64]? = some x := ⟨_, List.getElem?_eq_getElem hjN⟩
      obtain ⟨_, hgl, cx, fx, hset⟩ := hq.atg x hxx
      have hq1 : (j : Int).tdiv 64 = ((j / 64 : Nat) : Int) := tdiv64 j
      have hq2 : (j : Int) / 64 = ((j / 64 : Nat) : Int) := by omega
      have hm2 : (j : Int).tmod 64 = ((j % 64 : Nat) : Int) := tmod64 j
      have hk0 : (0 : Int) ≤ ((j / 64 : Nat) : Int) := by omega
      have hkq : j / 64 < 64 := by omega
      have hkm : j % 64 < 64 := by omega
      have KE : bits .or .u64 (x.toNat : Int) (IntKind.u64.wrap (2 ^ (j % 64))) = ((setU x (j % 64) true).toNat : Int) := by rw [wrap_pow hkm, bits_or_u64_nat _ _ x.toNat_lt (pow_lt64 hkm), setW_or, setU_nat _ _ hkm]
      have P := Lib.hid (hset (setU x (j % 64) true) _ KE)
      have HS : Hid (fillL L a (k + 1) = (fillL L a k).set (j / 64) (setU x (j % 64) true)) := Lib.hid (by
        rw [fillL, putBit, ← hj, List.getD_eq_getElem?_getD, hxx]
        rfl)
      rw [← HS.out] at P
      have HX := Lib.hid hx
      have HJ := Lib.hid hj
      have PO := Lib.hid (OnlyB.set gv (j / 64) wr (.int .u64 (bits .or .u64 (x.toNat : Int) (IntKind.u64.wrap (2 ^ (j % 64))))))
      clear KE hset hxx hx hq hj hjN
      generalize j / 64 = jq at *
      generalize j % 64 = jm at *
      have cx' : wr.drew.cell? ⟨gv, jq, none⟩ = some (.int .u64 (x.toNat : Int)) := cx
      have fx' : wr.drew.frozen? ⟨gv, jq, none⟩ = false := fx
      have hw1 : IntKind.i64.wrap (jq : Int) = (jq : Int) := by rw [IntKind.wrap_i64]; omega
      have hw2 : IntKind.i64.wrap (jm : Int) = (jm : Int) := by rw [IntKind.wrap_i64]; omega
      go_upto_region 3 with fail
      go_still_tail 10, (by kernel_rfl)
      change wpList _ _ _ _ _ wr.drew
      go_wp2
      go_roundw
      case rel => exact ⟨k + 1, hlt, by rw [HJ.out]; go_num, P.out, HX.out.trans PO.out.drew⟩
      case measure => simp [RowKit.intOf]; omega
    · obtain rfl : k = n := by omega
      have hd : decide (((a + k : Nat) : Int) < (a : Int) + (k : Int)) = false := by simp
      go_wp2
      go_end0
      exact ⟨⟨_, rfl⟩, hq, hx⟩
end Go.Proofs.YtmmehomobmoapaaDoor
