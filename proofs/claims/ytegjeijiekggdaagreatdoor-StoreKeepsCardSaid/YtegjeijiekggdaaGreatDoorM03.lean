/- Joined: CrPlain CrA CrB CrC CrPlainO CrE. -/
import Derived.Test.YtegjeijiekggdaaGreatDoorM01
import Derived.Laws.BitsAllLaws
import Derived.Deep.Cut
import Derived.Deep.QuietTactic
import Derived.BigQuiet
section
/- Plain facts on the sums of layer 2: steps of a register, linear and one to one. Nothing of the program is proved here. -/
namespace Go.Proofs.YtegjeijiekggdaaGreatDoor

/-- A step of a register. -/
def stp (r : BitVec 32) : BitVec 32 := (r <<< 1) ^^^ (if r.msb then 79764919#32 else 0#32)
/-- Many steps. -/
def stn : Nat → BitVec 32 → BitVec 32
  | 0, r => r
  | k + 1, r => stp (stn k r)
/-- A byte as the highest eight bits. -/
def top8 (x : UInt8) : BitVec 32 := BitVec.ofNat 32 (x.toNat * 16777216)
/-- The register behind some bytes. -/
def upd (r : BitVec 32) (l : List UInt8) : BitVec 32 := l.foldl (fun r x => stn 8 (r ^^^ top8 x)) r
/-- The sum of some bytes and more behind them. -/
def updc (s : BitVec 32) (l : List UInt8) : BitVec 32 := ~~~ (upd (~~~ s) l)
def crc (l : List UInt8) : BitVec 32 := updc 0#32 l

theorem stp_xor (a b : BitVec 32) : stp (a ^^^ b) = stp a ^^^ stp b := by
  unfold stp
  rw [BitVec.shiftLeft_xor_distrib, BitVec.msb_xor]
  generalize a <<< 1 = x
  generalize b <<< 1 = y
  cases a.msb <;> cases b.msb <;> simp only [Bool.xor_false, Bool.xor_true, Bool.not_true, Bool.not_false, if_true, if_false, Bool.false_eq_true, BitVec.xor_zero]
  · rw [BitVec.xor_assoc]
  · rw [BitVec.xor_assoc, BitVec.xor_assoc, BitVec.xor_comm y]
  · rw [BitVec.xor_assoc, ← BitVec.xor_assoc 79764919#32, BitVec.xor_comm 79764919#32 y, BitVec.xor_assoc y, BitVec.xor_self, BitVec.xor_zero]
theorem stp_eq_zero {x : BitVec 32} (h : stp x = 0#32) : x = 0#32 := by
  unfold stp at h
  cases hm : x.msb with
  | true =>
    rw [hm, if_pos rfl] at h
    have := congrArg (fun v => v.getLsbD 0) h
    simp at this
  | false =>
    rw [hm] at h
    simp only [Bool.false_eq_true, if_false, BitVec.xor_zero] at h
    have h1 := congrArg BitVec.toNat h
    rw [BitVec.toNat_shiftLeft] at h1
    rw [BitVec.msb_eq_false_iff_two_mul_lt] at hm
    simp [Nat.shiftLeft_eq] at h1
    have h2 := x.isLt
    apply BitVec.eq_of_toNat_eq
    simp
    omega
theorem xor_eq_zero {a b : BitVec 32} (h : a ^^^ b = 0#32) : a = b := by
  have h1 := congrArg (fun v => v ^^^ b) h
  simp only [BitVec.xor_assoc, BitVec.xor_self, BitVec.xor_zero, BitVec.zero_xor] at h1
  exact h1
theorem stp_inj {a b : BitVec 32} (h : stp a = stp b) : a = b :=
  xor_eq_zero (stp_eq_zero (by rw [stp_xor, h, BitVec.xor_self]))
theorem stn_xor (k : Nat) (a b : BitVec 32) : stn k (a ^^^ b) = stn k a ^^^ stn k b := by
  induction k with
  | zero => rfl
  | succ k ih => simp only [stn, ih, stp_xor]
theorem stn_inj (k : Nat) {a b : BitVec 32} (h : stn k a = stn k b) : a = b := by
  induction k with
  | zero => exact h
  | succ k ih => exact ih (stp_inj h)
theorem stn_add (j k : Nat) (r : BitVec 32) : stn (j + k) r = stn j (stn k r) := by
  induction j with
  | zero => simp [stn]
  | succ j ih => rw [show j + 1 + k = (j + k) + 1 by omega]; simp only [stn, ih]
theorem upd_snoc (r : BitVec 32) (l : List UInt8) (x : UInt8) : upd r (l ++ [x]) = stn 8 (upd r l ^^^ top8 x) := by simp [upd, List.foldl_append]
theorem upd_append (r : BitVec 32) (a b : List UInt8) : upd r (a ++ b) = upd (upd r a) b := by simp [upd, List.foldl_append]
theorem updc_append (s : BitVec 32) (a b : List UInt8) : updc s (a ++ b) = updc (updc s a) b := by simp [updc, upd_append]
theorem crc_parts (l : List UInt8) (k : Nat) : updc (crc (l.take k)) (l.drop k) = crc l := by
  unfold crc
  rw [← updc_append, List.take_append_drop]
theorem upd_xor (l : List UInt8) (r s : BitVec 32) : upd r l ^^^ upd s l = stn (8 * l.length) (r ^^^ s) := by
  induction l generalizing r s with
  | nil => rfl
  | cons x l ih =>
    show upd (stn 8 (r ^^^ top8 x)) l ^^^ upd (stn 8 (s ^^^ top8 x)) l = _
    rw [ih, ← stn_xor, List.length_cons, show 8 * (l.length + 1) = 8 * l.length + 8 by omega, stn_add]
    congr 2
    rw [BitVec.xor_assoc, ← BitVec.xor_assoc (top8 x), BitVec.xor_comm (top8 x) s, BitVec.xor_assoc s, BitVec.xor_self, BitVec.xor_zero]
theorem not_xor_not (a b : BitVec 32) : ~~~ a ^^^ ~~~ b = a ^^^ b := by
  apply BitVec.eq_of_getLsbD_eq
  intro i hi
  simp [hi]
theorem updc_xor (l : List UInt8) (r s : BitVec 32) : updc r l ^^^ updc s l = stn (8 * l.length) (r ^^^ s) := by
  unfold updc
  rw [not_xor_not, upd_xor, not_xor_not]
theorem updc_inj (l : List UInt8) {r s : BitVec 32} (h : updc r l = updc s l) : r = s := by
  have h1 := updc_xor l r s
  rw [h, BitVec.xor_self] at h1
  have h2 : stn (8 * l.length) (r ^^^ s) = stn (8 * l.length) 0#32 := by
    rw [← h1]
    have := stn_xor (8 * l.length) 0#32 0#32
    rw [BitVec.xor_self] at this
    rw [BitVec.xor_self] at this
    exact this.symm
  exact xor_eq_zero (stn_inj _ h2)
theorem top8_inj {x y : UInt8} (h : top8 x = top8 y) : x = y := by
  have h1 := congrArg BitVec.toNat h
  have hx := x.toNat_lt
  have hy := y.toNat_lt
  simp [top8] at h1
  exact UInt8.toNat_inj.1 (by omega)
theorem crc_set {l : List UInt8} {j : Nat} {x y : UInt8} (hj : l[j]? = some x) (hne : x ≠ y) : crc (l.set j y) ≠ crc l := by
  intro h
  obtain ⟨hlt, hx⟩ := List.getElem?_eq_some_iff.1 hj
  have e1 : l = l.take j ++ ([x] ++ l.drop (j + 1)) := by
    rw [← List.append_assoc, ← hx]; simp
  have e2 : l.set j y = l.take j ++ ([y] ++ l.drop (j + 1)) := by
    rw [List.set_eq_take_append_cons_drop, if_pos hlt]; rfl
  rw [e2] at h
  have h' : crc (l.take j ++ ([y] ++ l.drop (j + 1))) = crc (l.take j ++ ([x] ++ l.drop (j + 1))) := by rw [h, ← e1]
  unfold crc at h'
  rw [updc_append, updc_append, updc_append, updc_append] at h'
  have h2 := updc_inj _ h'
  have h3 : stn 8 (~~~ (updc 0#32 (l.take j)) ^^^ top8 y) = stn 8 (~~~ (updc 0#32 (l.take j)) ^^^ top8 x) := by
    have := congrArg (fun v => ~~~ v) h2
    simpa [updc, upd] using this
  have h4 := stn_inj _ h3
  have h5 := congrArg (fun v => ~~~ (updc 0#32 (l.take j)) ^^^ v) h4
  simp only [← BitVec.xor_assoc, BitVec.xor_self, BitVec.zero_xor] at h5
  exact hne (top8_inj h5.symm)

/-- What stands behind the sum: the length, two zeros, the bytes, zeros. -/
def body (b : List UInt8) (size : Nat) : List UInt8 := [UInt8.ofNat (b.length / 256), UInt8.ofNat b.length, 0, 0] ++ (b ++ List.replicate (size - 8 - b.length) 0)
/-- A sum's bytes, the highest first. -/
def hi4 (s : BitVec 32) : List UInt8 := [UInt8.ofNat (s.toNat / 16777216), UInt8.ofNat (s.toNat / 65536), UInt8.ofNat (s.toNat / 256), UInt8.ofNat s.toNat]
def sealL (b : List UInt8) (size : Nat) : List UInt8 := hi4 (crc (body b size)) ++ body b size
theorem body_len (b : List UInt8) (size : Nat) (h : b.length + 8 ≤ size) : (body b size).length = size - 4 := by simp [body]; omega
theorem seal_len (b : List UInt8) (size : Nat) (h : b.length + 8 ≤ size) : (sealL b size).length = size := by simp [sealL, hi4, body_len b size h]; omega
theorem set_take_drop {X Y : List UInt8} {k : Nat} {y : UInt8} (hk : k < X.length) (hy : Y[k]? = some y) : (Y.take k ++ X.drop k).set k y = Y.take (k + 1) ++ X.drop (k + 1) := by
  have hl : k < Y.length := (List.getElem?_eq_some_iff.1 hy).1
  rw [List.take_add_one, hy, List.set_append, List.length_take, if_neg (by omega), Nat.min_eq_left (by omega), Nat.sub_self, List.append_assoc]
  congr 1
  rw [List.drop_eq_getElem_cons hk]
  rfl
theorem crc_check : crc [49, 50, 51, 52, 53, 54, 55, 56, 57] = 4236843288#32 := by decide +kernel
end Go.Proofs.YtegjeijiekggdaaGreatDoor
end
section
/- Contracts of the functions that make steps of a register. -/
namespace Go.Proofs.YtegjeijiekggdaaGreatDoor
open Go.RowKit
set_option linter.unusedVariables false

theorem xor_reg (a b : BitVec 32) : bits .xor .u32 (a.toNat : Int) (b.toNat : Int) = ((a ^^^ b).toNat : Int) := by
  rw [u32_xor_nat _ _ a.isLt b.isLt, BitVec.toNat_xor]

theorem shl_reg (x : BitVec 32) : (x <<< 1).toNat = x.toNat * 2 % 4294967296 := by rw [BitVec.toNat_shiftLeft, Nat.shiftLeft_eq]
theorem msb_reg (x : BitVec 32) : x.msb = decide (2147483648 ≤ x.toNat) := by rw [BitVec.msb_eq_decide]
theorem stp_low {x : BitVec 32} (h : x.toNat < 2147483648) : (stp x).toNat = x.toNat * 2 := by
  unfold stp
  rw [msb_reg, decide_eq_false (by omega)]
  simp only [Bool.false_eq_true, if_false, BitVec.xor_zero]
  rw [shl_reg]
  omega
theorem stp_high {x : BitVec 32} (h : ¬ x.toNat < 2147483648) : bits .xor .u32 ((x.toNat : Int) * 2 % 4294967296) 79764919 = ((stp x).toNat : Int) := by
  have e : (x.toNat : Int) * (2 : Int) % (4294967296 : Int) = ((x <<< 1).toNat : Int) := by rw [shl_reg]; omega
  rw [e]
  have e2 : (79764919 : Int) = ((79764919#32).toNat : Int) := rfl
  rw [e2, xor_reg]
  unfold stp
  rw [msb_reg, decide_eq_true (by omega), if_pos rfl]
theorem stp_both (x : BitVec 32) : bits .xor .u32 ((x.toNat : Int) * 2 % 4294967296) ((x.toNat : Int) / 2147483648 * 79764919) = ((stp x).toNat : Int) := by
  have h0 : x.toNat < 4294967296 := x.isLt
  by_cases h : x.toNat < 2147483648
  · rw [show (x.toNat : Int) / 2147483648 * 79764919 = ((0#32).toNat : Int) by simp; omega]
    rw [show (x.toNat : Int) * (2 : Int) % (4294967296 : Int) = ((x <<< 1).toNat : Int) by rw [shl_reg]; omega, xor_reg, BitVec.xor_zero, stp_low h, shl_reg]
    omega
  · rw [show (x.toNat : Int) / 2147483648 * 79764919 = 79764919 by omega]
    exact stp_high h

set_option maxRecDepth 100000 in
set_option maxHeartbeats 400000 in
theorem refStep_any (r : BitVec 32) (w : World) :
    Calls Tryz.prog 185 #[.int .u32 r.toNat] w fun e w' => e = .returned (.int .u32 (stp r).toNat) ∧ w = w' := by
  have h0 : r.toNat < 4294967296 := r.isLt
  obtain ⟨z, hz⟩ : ∃ z : Int, z = (r.toNat : Int) := ⟨_, rfl⟩
  rw [← hz]
  have HZ := Lib.hid hz
  have h1 : 0 ≤ z := by omega
  have h2 : z < 4294967296 := by omega
  clear h0 hz
  by_cases h : z < 2147483648
  · go_enter Tryz.func185, Tryz.ntmps185
    go_wp2
    go_ret
    refine ⟨?_, rfl⟩
    have e := HZ.out
    subst e
    rw [stp_low (by omega)]
    show Ending.returned (.int .u32 ((r.toNat : Int) * 2)) = _
    simp
  · go_enter Tryz.func185, Tryz.ntmps185
    go_wp2
    go_ret
    refine ⟨?_, rfl⟩
    have e := HZ.out
    subst e
    rw [← stp_high (by omega)]
    rfl

set_option maxHeartbeats 400000 in
theorem stepByte_any (r : BitVec 32) (w : World) :
    Calls Tryz.prog 188 #[.int .u32 r.toNat] w fun e w' => e = .returned (.int .u32 (stn 8 r).toNat) ∧ w = w' := by
  go_enter Tryz.func188, Tryz.ntmps188
  go_wp2
  go_loop [0, 3] (fun t i => ∃ k : Nat, k ≤ 8 ∧ i = .int .i64 k ∧ t = .int .u32 ((stn k r).toNat : Nat)) (fun _ i => 8 - (intOf i).toNat)
  case atStart => exact ⟨0, Nat.zero_le _, rfl, rfl⟩
  case round =>
    obtain ⟨k, hk, rfl, rfl⟩ := hrel
    have HS : Hid (stn (k + 1) r = stp (stn k r)) := rfl
    have h0 : (stn k r).toNat < 4294967296 := (stn k r).isLt
    generalize hx : stn k r = x at *
    have HX := Lib.hid hx
    clear hx
    by_cases hlt : k < 8
    · go_wp2
      go_round
      case rel =>
        refine ⟨k + 1, by omega, by go_num, ?_⟩
        rw [HS.out]
        rw [stp_both]
      case measure => simp [intOf]; omega
    · go_wp2
      go_ret
      obtain rfl : k = 8 := by omega
      rw [HX.out]
      exact ⟨rfl, rfl⟩

theorem top8_toNat (x : UInt8) : (top8 x).toNat = x.toNat * 16777216 := by
  have := x.toNat_lt
  simp [top8]
  omega
theorem xor_top (r : BitVec 32) (x : UInt8) : bits .xor .u32 (r.toNat : Int) ((x.toNat : Int) * 16777216) = ((r ^^^ top8 x).toNat : Int) := by
  rw [show (x.toNat : Int) * (16777216 : Int) = ((top8 x).toNat : Int) by rw [top8_toNat]; omega, xor_reg]

theorem not_reg (s : BitVec 32) : bits .xor .u32 IntKind.u32.max (s.toNat : Int) = ((~~~ s).toNat : Int) := by
  rw [show IntKind.u32.max = ((BitVec.allOnes 32).toNat : Int) from rfl, xor_reg]
  congr 2
theorem not_reg' (s : BitVec 32) : bits .xor .u32 (s.toNat : Int) 4294967295 = ((~~~ s).toNat : Int) := by
  rw [show (4294967295 : Int) = ((BitVec.allOnes 32).toNat : Int) from rfl, xor_reg, BitVec.xor_comm]
  congr 2

set_option maxHeartbeats 400000 in
theorem update_any (s : BitVec 32) (A : Option Addr) (n c : Nat) (l : List UInt8) (w : World) (hl : l.length = n) (hn : n ≤ 70368744177664) (hr : RB w A l) :
    Calls Tryz.prog 180 #[.int .u32 s.toNat, .slice A n c] w fun e w' => e = .returned (.int .u32 (updc s l).toNat) ∧ w = w' := by
  have HL := Lib.hid hl
  clear hl
  have h0 : s.toNat < 4294967296 := s.isLt
  go_enter Tryz.func180, Tryz.ntmps180
  go_wp2
  go_loop [5, 11] (fun t i => ∃ k : Nat, k ≤ n ∧ i = .int .i64 k ∧ t = .int .u32 ((upd (~~~ s) (l.take k)).toNat : Nat)) (fun _ i => n - (intOf i).toNat)
  case atStart =>
    refine ⟨0, Nat.zero_le _, rfl, ?_⟩
    rw [not_reg]
    rfl
  case round =>
    obtain ⟨k, hk, rfl, rfl⟩ := hrel
    by_cases hlt : k < n
    · obtain ⟨ad, x, rfl, hx, hc⟩ := hr.at_ (k := k) (by rw [HL.out]; exact hlt)
      have HS := Lib.hid (show upd (~~~ s) (l.take (k + 1)) = stn 8 (upd (~~~ s) (l.take k) ^^^ top8 x) from by rw [take_snoc hx, upd_snoc])
      have hx8 : x.toNat < 256 := x.toNat_lt
      clear hx
      generalize hu : upd (~~~ s) (l.take k) = u at *
      clear hu
      have HX := Lib.hid (xor_top u x)
      generalize u ^^^ top8 x = v at *
      go_wp2_with fail
      rw [HX.out]
      refine (stepByte_any _ _).mono ?_
      rintro e w' ⟨rfl, rfl⟩
      go_wp2
      go_round
      case rel => exact ⟨k + 1, by omega, by go_num, by rw [HS.out]⟩
      case measure => simp [intOf]; omega
    · go_wp2
      go_ret
      refine ⟨?_, rfl⟩
      rw [List.take_of_length_le (by rw [HL.out]; omega)]
      show Ending.returned (.int .u32 (bits .xor .u32 IntKind.u32.max ((upd (~~~ s) l).toNat : Int))) = _
      rw [not_reg]
      rfl

theorem update0_any (A : Option Addr) (n c : Nat) (l : List UInt8) (w : World) (hl : l.length = n) (hn : n ≤ 70368744177664) (hr : RB w A l) :
    Calls Tryz.prog 180 #[.int .u32 0, .slice A n c] w fun e w' => e = .returned (.int .u32 (crc l).toNat) ∧ w = w' :=
  update_any 0#32 A n c l w hl hn hr

theorem of_any (A : Option Addr) (n c : Nat) (l : List UInt8) (w : World) (hl : l.length = n) (hn : n ≤ 70368744177664) (hr : RB w A l) :
    Calls Tryz.prog 162 #[.slice A n c] w fun e w' => e = .returned (.int .u32 (crc l).toNat) ∧ w = w' := by
  have HL := Lib.hid hl
  clear hl
  go_enter Tryz.func162, Tryz.ntmps162
  go_wp2_with fail
  refine (update0_any A n c l w HL.out hn hr).mono ?_
  rintro e w' ⟨rfl, rfl⟩
  go_wp2
  go_ret
  exact ⟨rfl, rfl⟩

set_option maxHeartbeats 400000 in
theorem refOf_any (A : Option Addr) (n c : Nat) (l : List UInt8) (w : World) (hl : l.length = n) (hn : n ≤ 70368744177664) (hr : RB w A l) :
    Calls Tryz.prog 172 #[.slice A n c] w fun e w' => e = .returned (.int .u32 (crc l).toNat) ∧ w = w' := by
  have HL := Lib.hid hl
  clear hl
  go_enter Tryz.func172, Tryz.ntmps172
  go_wp2
  go_loop [3, 4] (fun t i => ∃ k : Nat, k ≤ n ∧ i = .int .i64 k ∧ t = .int .u32 ((upd (~~~ 0#32) (l.take k)).toNat : Nat)) (fun _ i => n - (intOf i).toNat)
  case atStart => exact ⟨0, Nat.zero_le _, rfl, rfl⟩
  case round =>
    obtain ⟨k, hk, rfl, rfl⟩ := hrel
    by_cases hlt : k < n
    · obtain ⟨ad, x, rfl, hx, hc⟩ := hr.at_ (k := k) (by rw [HL.out]; exact hlt)
      have HS := Lib.hid (show upd (~~~ 0#32) (l.take (k + 1)) = stn 8 (upd (~~~ 0#32) (l.take k) ^^^ top8 x) from by rw [take_snoc hx, upd_snoc])
      have hx8 : x.toNat < 256 := x.toNat_lt
      clear hx
      generalize hu : upd (~~~ 0#32) (l.take k) = u at *
      clear hu
      have HX := Lib.hid (xor_top u x)
      generalize u ^^^ top8 x = v at *
      go_wp2
      rw [HX.out]
      go_loop [3, 5] (fun t i => ∃ j : Nat, j ≤ 8 ∧ i = .int .i64 j ∧ t = .int .u32 ((stn j v).toNat : Nat)) (fun _ i => 8 - (intOf i).toNat)
      case atStart => exact ⟨0, Nat.zero_le _, rfl, rfl⟩
      case round =>
        obtain ⟨j, hj, rfl, rfl⟩ := hrel
        have HT : Hid (stn (j + 1) v = stp (stn j v)) := rfl
        generalize hy : stn j v = y at *
        have HY := Lib.hid hy
        clear hy
        by_cases hlj : j < 8
        · go_wp2_with fail
          refine (refStep_any _ _).mono ?_
          rintro e w' ⟨rfl, rfl⟩
          go_wp2
          go_round
          case rel => exact ⟨j + 1, by omega, by go_num, by rw [HT.out]⟩
          case measure => simp [intOf]; omega
        · go_wp2
          go_round
          case rel =>
            obtain rfl : j = 8 := by omega
            exact ⟨k + 1, by omega, by go_num, by rw [HS.out, HY.out]⟩
          case measure => simp [intOf]; omega
    · go_wp2
      go_ret
      refine ⟨?_, rfl⟩
      rw [List.take_of_length_le (by rw [HL.out]; omega)]
      show Ending.returned (.int .u32 (bits .xor .u32 ((upd (~~~ 0#32) l).toNat : Int) 4294967295)) = _
      rw [not_reg']
      rfl

end Go.Proofs.YtegjeijiekggdaaGreatDoor
end
section
/- Contracts of the small functions of layer 2, and of Seal (the program's and the document's). -/
namespace Go.Proofs.YtegjeijiekggdaaGreatDoor
open Go.RowKit
set_option linter.unusedVariables false

theorem goodSize_yes (n : Int) (w : World) (h1 : 8 ≤ n) (h2 : n ≤ 65536) :
    Calls Tryz.prog 160 #[.int .i64 n] w fun e w' => e = .returned (.bool true) ∧ w = w' := by
  go_enter Tryz.func160, Tryz.ntmps160
  go_wp2
  go_ret
  exact ⟨rfl, rfl⟩
theorem goodSize_no (n : Int) (w : World) (h : n < 8 ∨ 65536 < n) :
    Calls Tryz.prog 160 #[.int .i64 n] w fun e w' => e = .returned (.bool false) ∧ w = w' := by
  rcases h with h | h
  · go_enter Tryz.func160, Tryz.ntmps160
    go_wp2
    go_ret
    exact ⟨rfl, rfl⟩
  · have h8 : 8 ≤ n := by omega
    have h9 : decide (n ≤ 65536) = false := by simpa using h
    go_enter Tryz.func160, Tryz.ntmps160
    go_wp2
    go_ret
    exact ⟨rfl, rfl⟩

theorem or_join32 (a x : Nat) (ha : a < 16777216) (hx : x < 256) : bits .or .u32 ((a : Int) * 256) (x : Int) = ((a * 256 + x : Nat) : Int) := by
  have h := u32_or_nat (a * 256) x (by omega) (by omega)
  have e : a * 256 ||| x = a * 256 + x := by
    have := Nat.shiftLeft_add_eq_or_of_lt (i := 8) (b := x) (by omega) a
    rw [Nat.shiftLeft_eq, show (2 : Nat) ^ 8 = 256 from rfl] at this
    omega
  rw [← e, ← h]
  congr 1
theorem be_le3 (l : List UInt8) (h : l.length ≤ 3) : be l < 16777216 := by
  have h1 := be_lt l
  have h2 : 256 ^ l.length ≤ 256 ^ 3 := pow256_le h
  have h3 : (256 : Nat) ^ 3 = 16777216 := by decide
  omega

set_option maxHeartbeats 400000 in
theorem crJoin_any (A : Option Addr) (n c : Nat) (l : List UInt8) (w : World) (hl : l.length = n) (h8 : n ≤ 4) (hr : RB w A l) :
    Calls Tryz.prog 161 #[.slice A n c] w fun e w' => e = .returned (.int .u32 (be l : Nat)) ∧ w = w' := by
  have HL := Lib.hid hl
  clear hl
  go_enter Tryz.func161, Tryz.ntmps161
  go_wp2
  go_loop [3, 7] (fun t i => ∃ k : Nat, k ≤ n ∧ i = .int .i64 k ∧ t = .int .u32 (be (l.take k) : Nat)) (fun _ i => n - (intOf i).toNat)
  case atStart => exact ⟨0, Nat.zero_le _, rfl, rfl⟩
  case round =>
    obtain ⟨k, hk, rfl, rfl⟩ := hrel
    by_cases hlt : k < n
    · obtain ⟨ad, x, rfl, hx, hc⟩ := hr.at_ (k := k) (by rw [HL.out]; exact hlt)
      have hb := be_le3 (l.take k) (by have := List.length_take_le k l; omega)
      have hs : be (l.take (k + 1)) = be (l.take k) * 256 + x.toNat := by rw [take_snoc hx, be_snoc]
      have hx8 : x.toNat < 256 := x.toNat_lt
      have HS := Lib.hid hs
      clear hs hx
      go_wp2
      go_round
      case rel => exact ⟨k + 1, by omega, by go_num, by rw [HS.out, or_join32 _ _ hb hx8]⟩
      case measure => simp [intOf]; omega
    · go_wp2
      go_ret
      refine ⟨?_, rfl⟩
      rw [List.take_of_length_le (by rw [HL.out]; omega)]
      rfl

/-- There is no other byte than zero. -/
def allZ (l : List UInt8) : Bool := l.all (· == 0)
theorem allZ_hit {l : List UInt8} {k : Nat} {x : UInt8} (h : l[k]? = some x) (hx : x.toNat ≠ 0) : allZ l = false := by
  unfold allZ
  rw [List.all_eq_false]
  refine ⟨x, List.mem_of_getElem? h, ?_⟩
  intro e
  have : x = 0 := by simpa using e
  subst this
  exact hx rfl
theorem allZ_iff {l : List UInt8} : allZ l = true ↔ ∀ (k : Nat) (x : UInt8), l[k]? = some x → x.toNat = 0 := by
  unfold allZ
  rw [List.all_eq_true]
  constructor
  · intro h k x hx
    have := h x (List.mem_of_getElem? hx)
    have : x = 0 := by simpa using this
    subst this
    rfl
  · intro h x hx
    obtain ⟨k, hk⟩ := List.mem_iff_getElem?.1 hx
    have := h k x hk
    have : x = 0 := UInt8.toNat_inj.1 this
    subst this
    rfl
def IsBool (b : Bool) (w : World) (e : Ending) (w' : World) : Prop := e = .returned (.bool b) ∧ w = w'
set_option maxHeartbeats 400000 in
theorem zeros_raw (A : Option Addr) (n c : Nat) (l : List UInt8) (w : World) (hl : l.length = n) (hn : n ≤ 70368744177664) (hr : RB w A l) :
    Calls Tryz.prog 163 #[.slice A n c] w (IsBool (allZ l) w) := by
  have HL := Lib.hid hl
  clear hl
  go_enter Tryz.func163, Tryz.ntmps163
  go_wp2
  go_loop [6] (fun i => ∃ k : Nat, k ≤ n ∧ i = .int .i64 k ∧ ∀ (j : Nat) (x : UInt8), j < k → l[j]? = some x → x.toNat = 0) (fun i => n - (intOf i).toNat)
  case atStart => exact ⟨0, Nat.zero_le _, rfl, fun j x h => by omega⟩
  case round =>
    obtain ⟨k, hk, rfl, hz⟩ := hrel
    have HZ := Lib.hid hz
    clear hz
    by_cases hlt : k < n
    · obtain ⟨ad, x, rfl, hx, hc⟩ := hr.at_ (k := k) (by rw [HL.out]; exact hlt)
      have hx8 : x.toNat < 256 := x.toNat_lt
      have HX := Lib.hid hx
      clear hx
      by_cases h0 : x.toNat = 0
      · have HS := Lib.hid (show ∀ (j : Nat) (y : UInt8), j < k + 1 → l[j]? = some y → y.toNat = 0 from by
          intro j y hj hy
          rcases Nat.lt_or_ge j k with hjk | hjk
          · exact HZ.out j y hjk hy
          · obtain rfl : j = k := by omega
            have e := HX.out.symm.trans hy
            injection e with e
            subst e
            exact h0)
        rw [h0] at hc
        go_wp2
        go_round
        case rel => exact ⟨k + 1, by omega, by go_num, HS.out⟩
        case measure => simp [intOf]; omega
      · have hne : ((x.toNat : Int) != 0) = true := by simpa using h0
        go_wp2
        go_ret
        unfold IsBool
        rw [allZ_hit HX.out h0]
        exact ⟨rfl, rfl⟩
    · go_wp2
      go_ret
      unfold IsBool
      rw [allZ_iff.2 (fun j y hy => HZ.out j y (by have := (List.getElem?_eq_some_iff.1 hy).1; rw [HL.out] at this; omega) hy)]
      exact ⟨rfl, rfl⟩
theorem zeros_any (b : Bool) (A : Option Addr) (n c : Nat) (l : List UInt8) (w : World) (hl : l.length = n) (hn : n ≤ 70368744177664) (hr : RB w A l) (hb : allZ l = b) :
    Calls Tryz.prog 163 #[.slice A n c] w fun e w' => e = .returned (.bool b) ∧ w = w' := by
  subst hb
  exact zeros_raw A n c l w hl hn hr

end Go.Proofs.YtegjeijiekggdaaGreatDoor
end
section
/- Contracts of Seal, the program's. -/
namespace Go.Proofs.YtegjeijiekggdaaGreatDoor
open Go.RowKit
set_option linter.unusedVariables false

theorem seal_pre (b : List UInt8) (size : Nat) (h : b.length + 8 ≤ size) :
    (splice (((List.replicate size (0 : UInt8)).set 4 (UInt8.ofNat (b.length / 256))).set 5 (UInt8.ofNat b.length)) 8 b).drop 4 = body b size := by
  obtain ⟨r, rfl⟩ : ∃ r, size = b.length + r + 8 := ⟨size - b.length - 8, by omega⟩
  have e : List.replicate (b.length + r + 8) (0 : UInt8) = [0, 0, 0, 0, 0, 0, 0, 0] ++ (List.replicate b.length 0 ++ List.replicate r 0) := by
    rw [List.replicate_append_replicate, show b.length + r + 8 = 8 + (b.length + r) by omega, ← List.replicate_append_replicate]
    rfl
  rw [e]
  simp only [List.cons_append, List.nil_append, List.set_cons_succ, List.set_cons_zero, splice]
  rw [show b.length + r + 8 = b.length + r + 8 from rfl]
  simp only [List.take_succ_cons, List.take_zero, List.cons_append, List.nil_append, List.drop_succ_cons, List.drop_zero, body]
  rw [show 8 + b.length = b.length + 8 by omega]
  simp only [List.drop_succ_cons]
  rw [List.drop_append, List.length_replicate, List.drop_of_length_le (by simp), Nat.sub_self, List.nil_append, List.drop_zero, show b.length + r + 8 - 8 - b.length = r by omega]

theorem hi4_at (s : BitVec 32) (k : Nat) (h : k < 4) : (hi4 s)[k]? = some (UInt8.ofNat (s.toNat / 2 ^ (24 - 8 * k))) := by
  match k, h with
  | 0, _ => rfl
  | 1, _ => rfl
  | 2, _ => rfl
  | 3, _ => simp [hi4]

set_option maxRecDepth 100000 in
set_option maxHeartbeats 800000 in
theorem seal_ok (A : Option Addr) (n c size : Nat) (l : List UInt8) (w : World) (hl : l.length = n) (h1 : n + 8 ≤ size) (h2 : size ≤ 65536) (hr : RB w A l) :
    Calls Tryz.prog 121 #[.slice A n c, .int .i64 size] w fun e w' => ∃ v', e = .returned (.tuple #[v', .int .i64 0]) ∧ OB w.heap.size w' v' (sealL l size) ∧ Below w.heap.size w w' := by
  have HL := Lib.hid hl
  clear hl
  have h3 : (n : Int) + 8 ≤ (size : Int) := by omega
  have h4 : (size : Int) ≤ 65536 := by omega
  have h5 : decide ((size : Int) - 8 < (n : Int)) = false := by simp; omega
  go_enter Tryz.func121, Tryz.ntmps121
  go_wp2_with fail
  refine (goodSize_yes _ _ (by omega) (by omega)).mono ?_
  rintro e w' ⟨rfl, rfl⟩
  have R4 := Lib.hid (show (List.replicate size (0 : UInt8))[4]? = some 0 from by rw [List.getElem?_replicate, if_pos (by omega)])
  have R5 := Lib.hid (show ((List.replicate size (0 : UInt8)).set 4 (UInt8.ofNat (n / 256)))[5]? = some 0 from by rw [List.getElem?_set_ne (by omega), List.getElem?_replicate, if_pos (by omega)])
  have R5' := Lib.hid (show (List.replicate size (0 : UInt8))[5]? = some 0 from by rw [List.getElem?_replicate, if_pos (by omega)])
  go_upto_region 7 with (at_make; refine wpList_make_B rfl _ _ rfl w.heap.size size _ _ rfl rfl rfl rfl (by omega) (Nat.le_refl _) ?_; intro w1 ho1 hb1; obtain ⟨hg1, hg2, hc4, hf4, hs4⟩ := ho1.atg 0 R4.out; obtain ⟨_, _, hc5, hf5, hs5⟩ := ho1.atg 0 R5'.out; have HS4 := Lib.hid hs4; clear hs4 hs5 ho1)
  obtain ⟨W, hW⟩ : ∃ W, W = (w1.setCell ⟨w.heap.size, 4, none⟩ (.int .u8 ((n : Int) / 256))).setCell ⟨w.heap.size, 5, none⟩ (.int .u8 ((n : Int) % 256)) := ⟨_, rfl⟩
  rw [← hW]
  have hoW : OB w.heap.size W (.slice (some ⟨w.heap.size, 0, none⟩) size size) (((List.replicate size (0 : UInt8)).set 4 (UInt8.ofNat (n / 256))).set 5 (UInt8.ofNat n)) := by
    rw [hW]
    exact ((HS4.out _ _ (by rw [ofNat_toNat]; omega)).atg 0 R5.out).2.2.2.2 _ _ (by rw [ofNat_toNat]; omega)
  have hbW : Below w.heap.size w W := by
    rw [hW]
    exact (hb1.setCell (Nat.le_refl _) _).setCell (Nat.le_refl _) _
  clear hW hc4 hf4 hc5 hf5 HS4 hb1 R4 R5 R5' hg1 hg2
  have HP := Lib.hid (show (splice (((List.replicate size (0 : UInt8)).set 4 (UInt8.ofNat (n / 256))).set 5 (UInt8.ofNat n)) 8 l).drop 4 = body l size from by
    have h := seal_pre l size (by rw [HL.out]; omega)
    rw [HL.out] at h
    exact h)
  generalize ((List.replicate size (0 : UInt8)).set 4 (UInt8.ofNat (n / 256))).set 5 (UInt8.ofNat n) = X0 at *
  have HX := Lib.hid (show X0.length = size from hoW.len.symm)
  go_upto_region 8 with (with_reducible refine wpList_copy_B rfl (.tmp 33) (.tmp 34) rfl w.heap.size w.heap.size size size X0 hoW 8 _ _ _ _ _ _ l rfl rfl HL.out (hr.below hbW) (by omega) (by omega) (fun hp => by rw [if_neg (by omega)]) ?_; intro W2 ho2 hb2; have hB2 := hbW.trans hb2)
  generalize (if size = 8 then some (⟨w.heap.size, 0, none⟩ : Addr) else some ⟨w.heap.size, 8, none⟩) = dp
  have HXL := Lib.hid (show (splice X0 8 l).length = size from by rw [length_splice _ _ _ (by rw [HX.out, HL.out]; omega), HX.out])
  generalize splice X0 8 l = X at *
  have HBL := Lib.hid (show (body l size).length = size - 4 from body_len l size (by rw [HL.out]; omega))
  have hr4 : RB W2 (some ⟨w.heap.size, 4, none⟩) (body l size) := by
    have h := ho2.reads.drop 4
    rw [HP.out] at h
    simpa [Addr.add] using h
  have hs4 : ¬ size = 4 := by omega
  clear hoW hbW hb2 HX hr
  have HH : Hid (sealL l size = hi4 (crc (body l size)) ++ body l size) := rfl
  generalize body l size = B at *
  go_wp2_with fail
  with_reducible refine (of_any _ (size - 4) _ B W2 HBL.out (by omega) hr4).mono ?_
  rintro e w' ⟨rfl, rfl⟩
  generalize crc B = sm at *
  have hsm : sm.toNat < 4294967296 := sm.isLt
  clear hr4
  go_wp2
  go_loopw [8, 39] (fun _ i wr => ∃ k : Nat, k ≤ 4 ∧ i = .int .i64 k ∧ OB w.heap.size wr (.slice (some ⟨w.heap.size, 0, none⟩) size size) ((hi4 sm).take k ++ X.drop k) ∧ Below w.heap.size w wr) (fun _ i _ => 4 - (intOf i).toNat)
  case atStart => exact ⟨0, Nat.zero_le _, rfl, by simpa using ho2, hB2⟩
  case round =>
    obtain ⟨k, hk, rfl, hown, hbel⟩ := hrel
    by_cases hlt : k < 4
    · have hXk : k < X.length := by rw [HXL.out]; omega
      have HI := Lib.hid (show ((hi4 sm).take k ++ X.drop k)[k]? = some X[k] from by
        rw [List.getElem?_append_right (by simp [hi4]; omega), List.length_take, show min k (hi4 sm).length = k by simp [hi4]; omega, Nat.sub_self, List.getElem?_drop, Nat.add_zero, List.getElem?_eq_getElem hXk])
      obtain ⟨hg1, hg2, hc, hf, hset⟩ := hown.atg _ HI.out
      have HSET := Lib.hid hset
      clear hset hown
      generalize X[k] = y at *
      have HY := Lib.hid (show (hi4 sm)[k]? = some (UInt8.ofNat (sm.toNat / 2 ^ (24 - 8 * k))) from hi4_at sm k hlt)
      have HT := Lib.hid (set_take_drop hXk HY.out)
      go_wp2
      go_roundw
      case rel =>
        refine ⟨k + 1, by omega, by go_num, ?_, hbel.setCell (Nat.le_refl _) _⟩
        rw [← HT.out]
        exact HSET.out _ _ (by rw [ofNat_toNat]; simp)
      case measure => simp [intOf]; omega
    · go_wp2
      go_ret2
      obtain rfl : k = 4 := by omega
      rw [HH.out]
      rw [HP.out] at hown
      exact ⟨_, rfl, by simpa [hi4] using hown, hbel⟩

set_option maxHeartbeats 400000 in
theorem seal_arg (A : Option Addr) (n c : Nat) (size : Int) (w : World) (h : size < 8 ∨ 65536 < size) :
    Calls Tryz.prog 121 #[.slice A n c, .int .i64 size] w fun e w' => e = .returned (.tuple #[.slice none 0 0, .int .i64 2]) ∧ w = w' := by
  go_enter Tryz.func121, Tryz.ntmps121
  go_wp2_with fail
  refine (goodSize_no _ _ h).mono ?_
  rintro e w' ⟨rfl, rfl⟩
  go_wp2
  go_ret2
  exact ⟨rfl, rfl⟩
set_option maxHeartbeats 400000 in
theorem seal_big (A : Option Addr) (n c size : Nat) (w : World) (h1 : 8 ≤ size) (h2 : size ≤ 65536) (h3 : size < n + 8) :
    Calls Tryz.prog 121 #[.slice A n c, .int .i64 size] w fun e w' => e = .returned (.tuple #[.slice none 0 0, .int .i64 5]) ∧ w = w' := by
  have h4 : (size : Int) ≤ 65536 := by omega
  have h5 : decide ((size : Int) - 8 < (n : Int)) = true := by simp; omega
  go_enter Tryz.func121, Tryz.ntmps121
  go_wp2_with fail
  refine (goodSize_yes _ _ (by omega) (by omega)).mono ?_
  rintro e w' ⟨rfl, rfl⟩
  go_wp2
  go_ret2
  exact ⟨rfl, rfl⟩

end Go.Proofs.YtegjeijiekggdaaGreatDoor
end
section
/- Plain facts on what is opened: what Seal lays, told by its parts. Nothing of the program is proved here. -/
namespace Go.Proofs.YtegjeijiekggdaaGreatDoor
open Go.RowKit

/-- What Open tells of bytes that are as many as the size: the body, and the error's number. -/
def opn (raw : List UInt8) (size : Nat) : List UInt8 × Nat :=
  if be (raw.take 4) ≠ (crc (raw.drop 4)).toNat then ([], 10)
  else if size - 8 < be ((raw.drop 4).take 2) then ([], 4)
  else if sealL ((raw.drop 8).take (be ((raw.drop 4).take 2))) size = raw then ((raw.drop 8).take (be ((raw.drop 4).take 2)), 0) else ([], 4)

theorem be4 (a b c d : UInt8) : be [a, b, c, d] = ((a.toNat * 256 + b.toNat) * 256 + c.toNat) * 256 + d.toNat := by simp [be]
theorem be2 (a b : UInt8) : be [a, b] = a.toNat * 256 + b.toNat := by simp [be]
theorem byte_eq {n : Nat} {x : UInt8} (h : n % 256 = x.toNat) : UInt8.ofNat n = x := by
  apply UInt8.toNat_inj.1
  rw [ofNat_toNat]
  exact h
theorem hi4_be {a b c d : UInt8} {s : BitVec 32} : be [a, b, c, d] = s.toNat ↔ hi4 s = [a, b, c, d] := by
  have ha := a.toNat_lt
  have hb := b.toNat_lt
  have hc := c.toNat_lt
  have hd := d.toNat_lt
  have hs : s.toNat < 4294967296 := s.isLt
  constructor
  · intro h
    rw [be4] at h
    unfold hi4
    rw [byte_eq (x := a) (by omega), byte_eq (x := b) (by omega), byte_eq (x := c) (by omega), byte_eq (x := d) (by omega)]
  · intro h
    unfold hi4 at h
    injection h with h1 h
    injection h with h2 h
    injection h with h3 h
    injection h with h4 h
    have e1 := congrArg UInt8.toNat h1
    have e2 := congrArg UInt8.toNat h2
    have e3 := congrArg UInt8.toNat h3
    have e4 := congrArg UInt8.toNat h4
    rw [ofNat_toNat] at e1 e2 e3 e4
    rw [be4]
    omega
theorem eight {l : List UInt8} (h : 8 ≤ l.length) : ∃ a b c d e f g i r, l = a :: b :: c :: d :: e :: f :: g :: i :: r := by
  match l, h with
  | a :: b :: c :: d :: e :: f :: g :: i :: r, _ => exact ⟨a, b, c, d, e, f, g, i, r, rfl⟩
theorem allZ_replicate {l : List UInt8} : allZ l = true ↔ l = List.replicate l.length 0 := by
  unfold allZ
  rw [List.all_eq_true, List.eq_replicate_iff]
  simp
theorem seal_iff {raw : List UInt8} {size : Nat} (hl : raw.length = size) (h8 : 8 ≤ size) (hs : be (raw.take 4) = (crc (raw.drop 4)).toNat) (hn : ¬ size - 8 < be ((raw.drop 4).take 2)) :
    sealL ((raw.drop 8).take (be ((raw.drop 4).take 2))) size = raw ↔ allZ ((raw.drop 6).take 2) = true ∧ allZ (raw.drop (8 + be ((raw.drop 4).take 2))) = true := by
  subst hl
  obtain ⟨a, b, c, d, e, f, g, i, r, rfl⟩ := eight h8
  simp only [List.take_succ_cons, List.take_zero, List.drop_succ_cons, List.drop_zero, List.length_cons] at hs hn ⊢
  generalize hm : be [e, f] = m at *
  have hm' := hm
  rw [be2] at hm
  have he := e.toNat_lt
  have hf := f.toNat_lt
  have hmr : m ≤ r.length := by omega
  have hd : List.drop (8 + m) (a :: b :: c :: d :: e :: f :: g :: i :: r) = r.drop m := by
    rw [Nat.add_comm]; rfl
  rw [hd]
  rw [hi4_be] at hs
  have hlen : (r.take m).length = m := by simp; omega
  have hbody : body (r.take m) (r.length + 1 + 1 + 1 + 1 + 1 + 1 + 1 + 1) = e :: f :: 0 :: 0 :: (r.take m ++ List.replicate (r.length - m) 0) := by
    unfold body
    rw [hlen, byte_eq (x := e) (by omega), byte_eq (x := f) (by omega)]
    simp
  unfold sealL
  rw [hbody]
  have hsplit : r = r.take m ++ r.drop m := (List.take_append_drop m r).symm
  constructor
  · intro h
    have h4 := congrArg (List.drop 4) h
    rw [show List.drop 4 (hi4 (crc (e :: f :: 0 :: 0 :: (r.take m ++ List.replicate (r.length - m) 0))) ++ (e :: f :: 0 :: 0 :: (r.take m ++ List.replicate (r.length - m) 0))) = e :: f :: 0 :: 0 :: (r.take m ++ List.replicate (r.length - m) 0) from rfl] at h4
    simp only [List.drop_succ_cons, List.drop_zero] at h4
    injection h4 with _ h4
    injection h4 with _ h4
    injection h4 with h5 h4
    injection h4 with h6 h4
    subst h5 h6
    refine ⟨rfl, ?_⟩
    have h7 : List.replicate (r.length - m) 0 = r.drop m := by
      have := congrArg (List.drop m) h4
      rw [List.drop_append, hlen, Nat.sub_self, List.drop_zero, List.drop_of_length_le (by rw [hlen]; omega)] at this
      simpa using this
    rw [allZ_replicate, List.length_drop, h7]
  · rintro ⟨h1, h2⟩
    have h1' : g = 0 ∧ i = 0 := by simpa [allZ] using h1
    obtain ⟨rfl, rfl⟩ := h1'
    rw [allZ_replicate, List.length_drop] at h2
    rw [← h2, List.take_append_drop, hs]
    rfl
theorem opn_sum {raw : List UInt8} {size : Nat} (h : be (raw.take 4) ≠ (crc (raw.drop 4)).toNat) : opn raw size = ([], 10) := by
  unfold opn
  rw [if_pos h]
theorem opn_big {raw : List UInt8} {size : Nat} (hs : be (raw.take 4) = (crc (raw.drop 4)).toNat) (h : size - 8 < be ((raw.drop 4).take 2)) : opn raw size = ([], 4) := by
  unfold opn
  rw [if_neg (by simpa using hs), if_pos h]
theorem opn_form {raw : List UInt8} {size : Nat} (hs : be (raw.take 4) = (crc (raw.drop 4)).toNat) (hn : ¬ size - 8 < be ((raw.drop 4).take 2)) (h : ¬ sealL ((raw.drop 8).take (be ((raw.drop 4).take 2))) size = raw) : opn raw size = ([], 4) := by
  unfold opn
  rw [if_neg (by simpa using hs), if_neg hn, if_neg h]
theorem opn_ok {raw : List UInt8} {size : Nat} (hs : be (raw.take 4) = (crc (raw.drop 4)).toNat) (hn : ¬ size - 8 < be ((raw.drop 4).take 2)) (h : sealL ((raw.drop 8).take (be ((raw.drop 4).take 2))) size = raw) : opn raw size = ((raw.drop 8).take (be ((raw.drop 4).take 2)), 0) := by
  unfold opn
  rw [if_neg (by simpa using hs), if_neg hn, if_pos h]
theorem opn_no {raw : List UInt8} {size : Nat} (hl : raw.length = size) (h8 : 8 ≤ size) (hs : be (raw.take 4) = (crc (raw.drop 4)).toNat)
    (h : ¬ (allZ ((raw.drop 6).take 2) = true ∧ allZ (raw.drop (8 + be ((raw.drop 4).take 2))) = true)) : opn raw size = ([], 4) := by
  by_cases hn : size - 8 < be ((raw.drop 4).take 2)
  · exact opn_big hs hn
  · exact opn_form hs hn (fun e => h ((seal_iff hl h8 hs hn).1 e))
theorem opn_yes {raw : List UInt8} {size : Nat} (hl : raw.length = size) (h8 : 8 ≤ size) (hs : be (raw.take 4) = (crc (raw.drop 4)).toNat) (hn : ¬ size - 8 < be ((raw.drop 4).take 2))
    (h1 : allZ ((raw.drop 6).take 2) = true) (h2 : allZ (raw.drop (8 + be ((raw.drop 4).take 2))) = true) : opn raw size = ((raw.drop 8).take (be ((raw.drop 4).take 2)), 0) :=
  opn_ok hs hn ((seal_iff hl h8 hs hn).2 ⟨h1, h2⟩)
/-- What is sealed is opened. -/
theorem opn_seal {b : List UInt8} {size : Nat} (h1 : b.length + 8 ≤ size) (h2 : size ≤ 65536) : opn (sealL b size) size = (b, 0) := by
  have hbody : (sealL b size).drop 4 = body b size := rfl
  have htake : (sealL b size).take 4 = hi4 (crc (body b size)) := rfl
  have hs : be ((sealL b size).take 4) = (crc ((sealL b size).drop 4)).toNat := by
    rw [hbody, htake]
    exact hi4_be.2 rfl
  have hn : be (((sealL b size).drop 4).take 2) = b.length := by
    rw [hbody]
    show be [UInt8.ofNat (b.length / 256), UInt8.ofNat b.length] = _
    rw [be2, ofNat_toNat, ofNat_toNat]
    omega
  have hx : ((sealL b size).drop 8).take b.length = b := by
    rw [show (sealL b size).drop 8 = b ++ List.replicate (size - 8 - b.length) 0 from rfl, List.take_left]
  rw [opn_ok hs (by rw [hn]; omega) (by rw [hn, hx]), hn, hx]
/-- With one byte changed, whichever, the sum is not that of the others. -/
theorem opn_turned {b : List UInt8} {size i : Nat} {x y : UInt8} (h1 : b.length + 8 ≤ size) (hx : (sealL b size)[i]? = some x) (hy : x ≠ y) : opn ((sealL b size).set i y) size = ([], 10) := by
  apply opn_sum
  have hbody : (sealL b size).drop 4 = body b size := rfl
  have htake : (sealL b size).take 4 = hi4 (crc (body b size)) := rfl
  by_cases hi : i < 4
  · rw [List.drop_set_of_lt (by omega), List.take_set, hbody, htake]
    intro h
    have hx' : (hi4 (crc (body b size)))[i]? = some x := by rw [← htake, List.getElem?_take, if_pos hi]; exact hx
    generalize hi4 (crc (body b size)) = s4 at *
    have hl4 : (s4.set i y).length = 4 := by rw [← htake, List.length_set, List.length_take, seal_len b size h1]; omega
    match hq : s4.set i y, hl4 with
    | [p, q, r, t], _ =>
      rw [hq] at h
      have h5 := hi4_be.1 h
      have h6 : s4 = s4.set i y := by
        rw [hq, ← h5, ← htake]
        rfl
      have h7 : (s4.set i y)[i]? = some y := by
        rw [List.getElem?_set_self]
        exact (List.getElem?_eq_some_iff.1 hx').1
      rw [← h6, hx'] at h7
      injection h7 with h7
      exact hy h7
  · rw [List.take_set_of_le (by omega), List.drop_set, if_neg (by omega), hbody, htake]
    intro h
    have h5 : (crc ((body b size).set (i - 4) y)).toNat = (crc (body b size)).toNat := by
      rw [← h]
      exact hi4_be.2 rfl
    have h6 := BitVec.eq_of_toNat_eq h5
    refine crc_set (x := x) ?_ hy h6
    rw [← hbody, List.getElem?_drop, show 4 + (i - 4) = i by omega]
    exact hx
end Go.Proofs.YtegjeijiekggdaaGreatDoor
end
section
/- Contracts of Open, the program's. -/
namespace Go.Proofs.YtegjeijiekggdaaGreatDoor
open Go.RowKit
set_option linter.unusedVariables false

theorem flip_same {P : Program} {f : FuncId} {args : Array Value} {w : World} {r : Ending} (h : Calls P f args w fun e w' => e = r ∧ w = w') : Calls P f args w fun e w' => e = r ∧ w' = w :=
  h.mono fun _ _ h => ⟨h.1, h.2.symm⟩

theorem open_arg (A : Option Addr) (n c : Nat) (size : Int) (w : World) (h : size < 8 ∨ 65536 < size) :
    Calls Tryz.prog 120 #[.slice A n c, .int .i64 size] w fun e w' => e = .returned (.tuple #[.slice none 0 0, .int .i64 2]) ∧ w = w' := by
  go_enter Tryz.func120, Tryz.ntmps120
  go_wp2_with fail
  refine (goodSize_no _ _ h).mono ?_
  rintro e w' ⟨rfl, rfl⟩
  go_wp2
  go_ret2
  exact ⟨rfl, rfl⟩
theorem open_cut (A : Option Addr) (n c size : Nat) (w : World) (h1 : 8 ≤ size) (h2 : size ≤ 65536) (h3 : ¬ n = size) :
    Calls Tryz.prog 120 #[.slice A n c, .int .i64 size] w fun e w' => e = .returned (.tuple #[.slice none 0 0, .int .i64 3]) ∧ w = w' := by
  have h4 : ((n : Int) != (size : Int)) = true := by simp; omega
  go_enter Tryz.func120, Tryz.ntmps120
  go_wp2_with fail
  refine (goodSize_yes _ _ (by omega) (by omega)).mono ?_
  rintro e w' ⟨rfl, rfl⟩
  go_wp2
  go_ret2
  exact ⟨rfl, rfl⟩

set_option maxRecDepth 100000 in
set_option maxHeartbeats 800000 in
theorem open_any (A : Option Addr) (n c : Nat) (l : List UInt8) (w : World) (hl : l.length = n) (hc : n ≤ c) (h1 : 8 ≤ n) (h2 : n ≤ 65536) (hr : RB w A l) :
    Calls Tryz.prog 120 #[.slice A n c, .int .i64 n] w fun e w' => ∃ v', e = .returned (.tuple #[v', .int .i64 ((opn l n).2 : Nat)]) ∧ OB w.heap.size w' v' (opn l n).1 ∧ Below w.heap.size w w' := by
  obtain ⟨ad, _, rfl, _, _⟩ := hr.at_ (k := 0) (by omega)
  have HL := Lib.hid hl
  clear hl
  have hc4 : ¬ c = 4 := by omega
  have hn4 : 4 ≤ n := by omega
  have R1 := (hr.take 4)
  have R2 := (hr.drop 4)
  have L1 := Lib.hid (show (l.take 4).length = 4 from by rw [List.length_take, HL.out]; omega)
  have L2 := Lib.hid (show (l.drop 4).length = n - 4 from by rw [List.length_drop, HL.out])
  have hg4 : (4 : Int) ≤ (c : Int) := by omega
  have hg4n : (4 : Int) ≤ (n : Int) := by omega
  have hnn : ((n : Int) != (n : Int)) = false := by simp
  go_enter Tryz.func120, Tryz.ntmps120
  go_wp2_with fail
  refine (goodSize_yes _ _ (by omega) (by omega)).mono ?_
  rintro e w' ⟨rfl, rfl⟩
  go_wp2
  go_quiet (first
    | (go_at_call 161; exact Calls.quiet_of_same (flip_same (crJoin_any _ 4 _ (l.take 4) _ L1.out (by omega) (R1.drewN _))))
    | (go_at_call 162; exact Calls.quiet_of_same (flip_same (of_any _ (n - 4) _ (l.drop 4) _ L2.out (by omega) (R2.drewN _)))))
  have hbW : Below w.heap.size w (w.drewN nq) := ⟨rfl, rfl, rfl, Nat.le_refl _, fun _ _ => rfl⟩
  have hrW := hr.drewN nq
  have hzW : (w.drewN nq).heap.size = w.heap.size := rfl
  have HZW := Lib.hid hzW
  clear hzW hr R1 R2 L1 L2
  generalize w.drewN nq = W at *
  by_cases hs : be (l.take 4) = (crc (l.drop 4)).toNat
  · have HFB := Lib.hid (opn_big (size := n) hs)
    have HFN := Lib.hid (opn_no HL.out h1 hs)
    have HFY := Lib.hid (opn_yes HL.out h1 hs)
    have hne : (((be (l.take 4) : Nat) : Int) != ((crc (l.drop 4)).toNat : Int)) = false := by simp [hs]
    clear hs
    generalize crc (l.drop 4) = sm at *
    generalize be (l.take 4) = S4 at *
    have h6 : ¬ c = 6 := by omega
    have hg6 : (6 : Int) ≤ (c : Int) := by omega
    have R3 := (hrW.dropw 4 (by omega)).take 2
    have L3 := Lib.hid (show ((l.drop 4).take 2).length = 2 from by rw [List.length_take, List.length_drop, HL.out]; omega)
    have hm := be_le3 ((l.drop 4).take 2) (by rw [L3.out]; omega)
    go_wp2_with fail
    with_reducible refine (crJoin_any _ 2 _ ((l.drop 4).take 2) _ L3.out (by omega) R3).mono ?_
    rintro e w' ⟨rfl, rfl⟩
    generalize be ((l.drop 4).take 2) = m at *
    clear R3 L3
    by_cases hbig : n - 8 < m
    · have hd : decide ((n : Int) - 8 < (m : Int)) = true := by simp; omega
      go_wp2
      go_ret2
      rw [HFB.out hbig]
      exact ⟨_, rfl, OB.nil, hbW⟩
    · have hd : decide ((n : Int) - 8 < (m : Int)) = false := by simp; omega
      have R4 := (hrW.dropw 6 (by omega)).take 2
      have L4 := Lib.hid (show ((l.drop 6).take 2).length = 2 from by rw [List.length_take, List.length_drop, HL.out]; omega)
      have hm1 : (m : Int) ≤ (n : Int) - 8 := by omega
      rcases hz1 : allZ ((l.drop 6).take 2) with _ | _
      · have HN := Lib.hid (HFN.out (by rw [hz1]; simp))
        have HZ1 := Lib.hid hz1
        clear hz1
        go_wp2_with fail
        with_reducible refine (zeros_any false _ 2 _ ((l.drop 6).take 2) _ L4.out (by omega) R4 HZ1.out).mono ?_
        rintro e w' ⟨rfl, rfl⟩
        go_wp2
        go_ret2
        rw [HN.out]
        exact ⟨_, rfl, OB.nil, hbW⟩
      · have L5 := Lib.hid (show (l.drop (8 + m)).length = n - (8 + m) from by rw [List.length_drop, HL.out])
        have R5 := hrW.drop (8 + m)
        have R6 : c = 8 + m → ∀ A, RB W A (l.drop (8 + m)) := fun h A => .inl (List.drop_of_length_le (by rw [HL.out]; omega))
        have HR6 := Lib.hid R6
        clear R6
        rcases hz2 : allZ (l.drop (8 + m)) with _ | _
        · have HN := Lib.hid (HFN.out (by rw [hz2]; simp))
          have HZ1 := Lib.hid hz1
          have HZ2 := Lib.hid hz2
          clear hz1 hz2
          go_wp2_with fail
          with_reducible refine (zeros_any true _ 2 _ ((l.drop 6).take 2) _ L4.out (by omega) R4 HZ1.out).mono ?_
          rintro e w' ⟨rfl, rfl⟩
          go_wp2_with fail
          all_goals
            with_reducible refine (zeros_any false _ (n - (8 + m)) _ (l.drop (8 + m)) _ L5.out (by omega) ?_ HZ2.out).mono ?_
            · first | exact R5 | exact HR6.out (by omega) _
            rintro e w' ⟨rfl, rfl⟩
            go_wp2
            go_ret2
            rw [HN.out]
            exact ⟨_, rfl, OB.nil, hbW⟩
        · have HY := Lib.hid (HFY.out hbig hz1 hz2)
          have HZ1 := Lib.hid hz1
          have HZ2 := Lib.hid hz2
          clear hz1 hz2
          have L7 := Lib.hid (show ((l.drop 8).take m).length = m from by rw [List.length_take, List.length_drop, HL.out]; omega)
          have R7 := (hrW.dropw 8 (by omega)).take m
          have R8 : c = 8 → ∀ A, RB W A ((l.drop 8).take m) := fun h A => .inl (by rw [List.drop_of_length_le (by rw [HL.out]; omega), List.take_nil])
          have HR8 := Lib.hid R8
          clear R8
          go_wp2_with fail
          with_reducible refine (zeros_any true _ 2 _ ((l.drop 6).take 2) _ L4.out (by omega) R4 HZ1.out).mono ?_
          rintro e w' ⟨rfl, rfl⟩
          go_wp2_with fail
          all_goals
            with_reducible refine (zeros_any true _ (n - (8 + m)) _ (l.drop (8 + m)) _ L5.out (by omega) ?_ HZ2.out).mono ?_
            · first | exact R5 | exact HR6.out (by omega) _
            rintro e w' ⟨rfl, rfl⟩
            go_wp2_with fail
            all_goals
              first
                | with_reducible refine (clone_any _ m _ ((l.drop 8).take m) _ (by omega) L7.out ?_).mono ?_
                | with_reducible refine (clone_any _ 0 _ ((l.drop 8).take m) _ (by omega) (by rw [L7.out]; omega) ?_).mono ?_
              · first | exact R7 | exact HR8.out (by omega) _
              rintro e w2 ⟨v2, rfl, ho2, hb2⟩
              go_wp2
              go_ret2
              rw [HY.out]
              rw [HZW.out] at ho2 hb2
              exact ⟨_, rfl, ho2, hbW.trans hb2⟩
  · have hne : (((be (l.take 4) : Nat) : Int) != ((crc (l.drop 4)).toNat : Int)) = true := by simp; omega
    have HS := Lib.hid hs
    clear hs
    go_wp2
    go_ret2
    rw [opn_sum HS.out]
    exact ⟨_, rfl, OB.nil, hbW⟩
end Go.Proofs.YtegjeijiekggdaaGreatDoor
end
