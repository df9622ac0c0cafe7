/- Contracts of the small functions of layer 2, and of Seal (the program's and the document's). -/
import Derived.Test.YtidnpokjaklfpaaCrA
import Derived.Test.YtidnpokjaklfpaaOwn
namespace Go.Proofs.Ytidnpokjaklfpaa
open Go.RowKit
set_option linter.unusedVariables false

theorem goodSize_yes (n : Int) (w : World) (h1 : 8 ≤ n) (h2 : n ≤ 65536) :
    Calls Try.prog 72 #[.int .i64 n] w fun e w' => e = .returned (.bool true) ∧ w = w' := by
  go_enter Try.func72, Try.ntmps72
  go_wp2
  go_ret
  exact ⟨rfl, rfl⟩
theorem goodSize_no (n : Int) (w : World) (h : n < 8 ∨ 65536 < n) :
    Calls Try.prog 72 #[.int .i64 n] w fun e w' => e = .returned (.bool false) ∧ w = w' := by
  rcases h with h | h
  · go_enter Try.func72, Try.ntmps72
    go_wp2
    go_ret
    exact ⟨rfl, rfl⟩
  · have h8 : 8 ≤ n := by omega
    have h9 : decide (n ≤ 65536) = false := by simpa using h
    go_enter Try.func72, Try.ntmps72
    go_wp2
    go_ret
    exact ⟨rfl, rfl⟩

theorem or_join32 (a x : Nat) (ha : a < 16777216) (hx : x < 256) : bits .or .u32 ((a : Int) * 256) (x : Int) = ((a * 256 + x : Nat) : Int) := by
  have h := u32_or_nat (a * 256) x (by omega) (by omega)
  have e : a * 256 ||| x = a * 256 + x := by
    have := Nat.shiftLeft_add_eq_or_of_lt (i := 8) (b := x) (by omega) a
    rw [Nat.shiftLeft_eq, show (2 : Nat) ^ 8 = 256 from rfl] at this
    omega
  rw [← e, ← h]
  congr 1
theorem be_le3 (l : List UInt8) (h : l.length ≤ 3) : be l < 16777216 := by
  have h1 := be_lt l
  have h2 : 256 ^ l.length ≤ 256 ^ 3 := pow256_le h
  have h3 : (256 : Nat) ^ 3 = 16777216 := by decide
  omega

set_option maxHeartbeats 400000 in
theorem crJoin_any (A : Option Addr) (n c : Nat) (l : List UInt8) (w : World) (hl : l.length = n) (h8 : n ≤ 4) (hr : RB w A l) :
    Calls Try.prog 73 #[.slice A n c] w fun e w' => e = .returned (.int .u32 (be l : Nat)) ∧ w = w' := by
  have HL := Lib.hid hl
  clear hl
  go_enter Try.func73, Try.ntmps73
  go_wp2
  go_loop [3, 7] (fun t i => ∃ k : Nat, k ≤ n ∧ i = .int .i64 k ∧ t = .int .u32 (be (l.take k) : Nat)) (fun _ i => n - (intOf i).toNat)
  case atStart => exact ⟨0, Nat.zero_le _, rfl, rfl⟩
  case round =>
    obtain ⟨k, hk, rfl, rfl⟩ := hrel
    by_cases hlt : k < n
    · obtain ⟨ad, x, rfl, hx, hc⟩ := hr.at_ (k := k) (by rw [HL.out]; exact hlt)
      have hb := be_le3 (l.take k) (by have := List.length_take_le k l; omega)
      have hs : be (l.take (k + 1)) = be (l.take k) * 256 + x.toNat := by rw [take_snoc hx, be_snoc]
      have hx8 : x.toNat < 256 := x.toNat_lt
      have HS := Lib.hid hs
      clear hs hx
      go_wp2
      go_round
      case rel => exact ⟨k + 1, by omega, by go_num, by rw [HS.out, or_join32 _ _ hb hx8]⟩
      case measure => simp [intOf]; omega
    · go_wp2
      go_ret
      refine ⟨?_, rfl⟩
      rw [List.take_of_length_le (by rw [HL.out]; omega)]
      rfl

/-- There is no other byte than zero. -/
def allZ (l : List UInt8) : Bool := l.all (· == 0)
theorem allZ_hit {l : List UInt8} {k : Nat} {x : UInt8} (h : l[k]? = some x) (hx : x.toNat ≠ 0) : allZ l = false := by
  unfold allZ
  rw [List.all_eq_false]
  refine ⟨x, List.mem_of_getElem? h, ?_⟩
  intro e
  have : x = 0 := by simpa using e
  subst this
  exact hx rfl
theorem allZ_iff {l : List UInt8} : allZ l = true ↔ ∀ (k : Nat) (x : UInt8), l[k]? = some x → x.toNat = 0 := by
  unfold allZ
  rw [List.all_eq_true]
  constructor
  · intro h k x hx
    have := h x (List.mem_of_getElem? hx)
    have : x = 0 := by simpa using this
    subst this
    rfl
  · intro h x hx
    obtain ⟨k, hk⟩ := List.mem_iff_getElem?.1 hx
    have := h k x hk
    have : x = 0 := UInt8.toNat_inj.1 this
    subst this
    rfl
def IsBool (b : Bool) (w : World) (e : Ending) (w' : World) : Prop := e = .returned (.bool b) ∧ w = w'
set_option maxHeartbeats 400000 in
theorem zeros_raw (A : Option Addr) (n c : Nat) (l : List UInt8) (w : World) (hl : l.length = n) (hn : n ≤ 70368744177664) (hr : RB w A l) :
    Calls Try.prog 75 #[.slice A n c] w (IsBool (allZ l) w) := by
  have HL := Lib.hid hl
  clear hl
  go_enter Try.func75, Try.ntmps75
  go_wp2
  go_loop [6] (fun i => ∃ k : Nat, k ≤ n ∧ i = .int .i64 k ∧ ∀ (j : Nat) (x : UInt8), j < k → l[j]? = some x → x.toNat = 0) (fun i => n - (intOf i).toNat)
  case atStart => exact ⟨0, Nat.zero_le _, rfl, fun j x h => by omega⟩
  case round =>
    obtain ⟨k, hk, rfl, hz⟩ := hrel
    have HZ := Lib.hid hz
    clear hz
    by_cases hlt : k < n
    · obtain ⟨ad, x, rfl, hx, hc⟩ := hr.at_ (k := k) (by rw [HL.out]; exact hlt)
      have hx8 : x.toNat < 256 := x.toNat_lt
      have HX := Lib.hid hx
      clear hx
      by_cases h0 : x.toNat = 0
      · have HS := Lib.hid (show ∀ (j : Nat) (y : UInt8), j < k + 1 → l[j]? = some y → y.toNat = 0 from by
          intro j y hj hy
          rcases Nat.lt_or_ge j k with hjk | hjk
          · exact HZ.out j y hjk hy
          · obtain rfl : j = k := by omega
            have e := HX.out.symm.trans hy
            injection e with e
            subst e
            exact h0)
        rw [h0] at hc
        go_wp2
        go_round
        case rel => exact ⟨k + 1, by omega, by go_num, HS.out⟩
        case measure => simp [intOf]; omega
      · have hne : ((x.toNat : Int) != 0) = true := by simpa using h0
        go_wp2
        go_ret
        unfold IsBool
        rw [allZ_hit HX.out h0]
        exact ⟨rfl, rfl⟩
    · go_wp2
      go_ret
      unfold IsBool
      rw [allZ_iff.2 (fun j y hy => HZ.out j y (by have := (List.getElem?_eq_some_iff.1 hy).1; rw [HL.out] at this; omega) hy)]
      exact ⟨rfl, rfl⟩
theorem zeros_any (b : Bool) (A : Option Addr) (n c : Nat) (l : List UInt8) (w : World) (hl : l.length = n) (hn : n ≤ 70368744177664) (hr : RB w A l) (hb : allZ l = b) :
    Calls Try.prog 75 #[.slice A n c] w fun e w' => e = .returned (.bool b) ∧ w = w' := by
  subst hb
  exact zeros_raw A n c l w hl hn hr

end Go.Proofs.Ytidnpokjaklfpaa
