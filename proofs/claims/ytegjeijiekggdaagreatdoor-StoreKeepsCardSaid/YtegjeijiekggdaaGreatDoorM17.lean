/- Joined: QC QD QE QF. -/
import Derived.Test.YtegjeijiekggdaaGreatDoorM16
import Derived.Shelf.Spec.TrailingZeros
import Derived.Deep.WholeRow
import Derived.BigQuiet
section
/- The library's functions that bitmap calls: bits that are 1, zeros at the low end, a clone, equal rows. -/
namespace Go.Proofs.YtegjeijiekggdaaGreatDoor
open Go.RowKit
set_option linter.unusedVariables false
set_option linter.unusedSimpArgs false
theorem mask55 : mask 0x55 8 = 6148914691236517205 := by decide +kernel
theorem mask33 : mask 0x33 8 = 3689348814741910323 := by decide +kernel
theorem mask0f : mask 0x0f 8 = 1085102592571150095 := by decide +kernel
theorem and127 (a : Nat) (ha : a < 9223372036854775808) : bits .and .i64 (a : Int) 127 = ((a % 128 : Nat) : Int) := by
  have hx : a &&& 127 = a % 128 := by rw [show (127 : Nat) = 2 ^ 7 - 1 by decide, Nat.and_two_pow_sub_one_eq_mod]
  have h1 : (BitVec.ofInt 64 (a : Int)).toNat = a := by
    rw [BitVec.ofInt_natCast, BitVec.toNat_ofNat]; exact Nat.mod_eq_of_lt (by omega)
  show IntKind.i64.wrap ((BitVec.ofInt 64 (a : Int) &&& BitVec.ofInt 64 127).toNat : Int) = _
  rw [BitVec.toNat_and, h1, show (BitVec.ofInt 64 127).toNat = 127 by decide, hx, IntKind.wrap_i64]
  omega
set_option maxRecDepth 100000 in
theorem ones_any (x : Nat) (w : World) (hx : x < 18446744073709551616) : Calls Tryz.prog 75 #[.int .u64 (x : Int)] w fun e w' => e = .returned (.int .i64 (onesOf x : Int)) ∧ w = w' := by
  obtain ⟨a, ha⟩ : ∃ a, a = stage1 8 x := ⟨_, rfl⟩
  obtain ⟨b, hb⟩ : ∃ b, b = stage2 8 a := ⟨_, rfl⟩
  obtain ⟨c, hc⟩ : ∃ c, c = stage3 8 b := ⟨_, rfl⟩
  obtain ⟨za, zb, zc, zd, ze, zf, hf⟩ := swar x a b c hx ha hb hc
  have K1 : IntKind.u64.wrap (bits .and .u64 ((x : Int) / 2) 6148914691236517205 + bits .and .u64 (x : Int) 6148914691236517205) = (a : Int) := by
    rw [show (x : Int) / 2 = ((x / 2 : Nat) : Int) by omega, show (6148914691236517205 : Int) = ((6148914691236517205 : Nat) : Int) from rfl, bits_and_u64_nat _ _ (by omega) (by omega), bits_and_u64_nat _ _ hx (by omega), IntKind.wrap_u64]
    unfold stage1 at ha
    rw [mask55] at ha
    omega
  have K2 : IntKind.u64.wrap (bits .and .u64 ((a : Int) / 4) 3689348814741910323 + bits .and .u64 (a : Int) 3689348814741910323) = (b : Int) := by
    rw [show (a : Int) / 4 = ((a / 4 : Nat) : Int) by omega, show (3689348814741910323 : Int) = ((3689348814741910323 : Nat) : Int) from rfl, bits_and_u64_nat _ _ (by omega) (by omega), bits_and_u64_nat _ _ za (by omega), IntKind.wrap_u64]
    unfold stage2 at hb
    rw [mask33] at hb
    omega
  have K3 : bits .and .u64 (IntKind.u64.wrap ((b : Int) / 16 + (b : Int))) 1085102592571150095 = (c : Int) := by
    have e : IntKind.u64.wrap ((b : Int) / 16 + (b : Int)) = ((b / 16 + b : Nat) : Int) := by rw [IntKind.wrap_u64]; omega
    rw [e, show (1085102592571150095 : Int) = ((1085102592571150095 : Nat) : Int) from rfl, bits_and_u64_nat _ _ zc (by omega)]
    unfold stage3 at hc
    rw [mask0f] at hc
    rw [hc]
  obtain ⟨d, hd⟩ : ∃ d, d = c + c / 256 := ⟨_, rfl⟩
  rw [← hd] at zd ze zf hf
  obtain ⟨f, hf1⟩ : ∃ f, f = d + d / 65536 := ⟨_, rfl⟩
  rw [← hf1] at ze zf hf
  obtain ⟨g, hg⟩ : ∃ g, g = f + f / 4294967296 := ⟨_, rfl⟩
  rw [← hg] at zf hf
  have K4 : IntKind.u64.wrap ((c : Int) + (c : Int) / 256) = (d : Int) := by rw [IntKind.wrap_u64]; omega
  have K5 : IntKind.u64.wrap ((d : Int) + (d : Int) / 65536) = (f : Int) := by rw [IntKind.wrap_u64]; omega
  have K6 : IntKind.u64.wrap ((f : Int) + (f : Int) / 4294967296) = (g : Int) := by rw [IntKind.wrap_u64]; omega
  clear ha hb hc za zb zc zd ze hd hf1 hg
  go_enter Tryz.func75, Tryz.ntmps75
  go_wp2
  go_ret
  simp only [K1, K2, K3, K4, K5, K6]
  refine ⟨?_, trivial⟩
  rw [and127 _ zf, hf]
  rfl
set_option maxRecDepth 100000 in
theorem tz_core (x k idx : Nat) (w : World) (hx0 : ((x : Int) == 0) = false)
    (key : IntKind.u64.wrap (bits BinOp.and IntKind.u64 (x : Int) (IntKind.u64.wrap (-(x : Int))) * 285870213051353865) / 288230376151711744 = (idx : Int))
    (hi : idx < 64) (hk : k < 64) (hcell : w.cell? ⟨0, idx, none⟩ = some (.int .u8 k)) :
    Calls Tryz.prog 154 #[.int .u64 x] w fun e w' => e = .returned (.int .i64 k) ∧ w = w' := by
  go_enter Tryz.func154, Tryz.ntmps154
  go_wp2_with (simp only [key])
  go_ret
  exact ⟨rfl, rfl⟩
theorem tz_any (x : Nat) (w : World) (hx : x < 18446744073709551616) (hx0 : x ≠ 0) (hT : TabAt 0 Lib.deBruijn64tab w) : Calls Tryz.prog 154 #[.int .u64 x] w fun e w' => e = .returned (.int .i64 (Lib.ctz 64 x)) ∧ w = w' := by
  obtain ⟨hlow, hk⟩ := Lib.lowest_bit 64 x hx0 hx
  obtain ⟨hi, htab⟩ := Lib.deBruijn64_at _ hk
  have hcell := hT _ hi
  rw [htab] at hcell
  exact tz_core x _ _ w (by simp; omega) (tz64_key x _ hx hx0 hlow) hi hk hcell
set_option maxRecDepth 100000 in
theorem cloneQ_any (A : Option Addr) (n c : Nat) (l : List UInt64) (w : World) (hl : l.length = n) (hn : n ≤ 1000) (hr : RQ w A l) : Calls Tryz.prog 70 #[.slice A n c] w fun e w' => ∃ v, e = .returned v ∧ OQ w.heap.size w' v l ∧ Below w.heap.size w w' := by
  have HL := Lib.hid hl
  have q22 : ∀ (w : World) (a : Option Addr) (n c n' c' : Nat), (binOp .eql 40 (.slice a n c) (.slice none n' c')).run Tryz.prog w = .ok (.bool a.isNone) w := fun w a n c n' c' => Lib.run_eql_slice_nil w _ _ a n c n' c' Tryz.underlying40
  rcases A with _ | ad
  · obtain rfl : l = [] := by
      rcases hr with h | ⟨ad, h, _⟩
      · exact h
      · cases h
    obtain rfl : n = 0 := hl.symm
    go_enter Tryz.func70, Tryz.ntmps70
    go_wp2
    go_ret
    exact ⟨_, rfl, OQ.nil, Below.refl _ _⟩
  · go_enter Tryz.func70, Tryz.ntmps70
    go_wp2_with (at_builtin; refine wpList_append_Q rfl (.tmp 5) (.tmp 6) rfl w.heap.size _ [] rfl (OQ.lit w w.heap.size [] _ (by simp [cellsQ]) (Nat.le_refl _) (by simp [maxLen])) _ _ _ l rfl HL.out (hr.alloc _) (by simp; omega) (by simp) ?_; intro v1 w1 hown1 hb1)
    go_ret
    exact ⟨_, rfl, hown1, ((Below.refl _ _).alloc (Nat.le_refl _) _).trans hb1⟩
end Go.Proofs.YtegjeijiekggdaaGreatDoor
end
section
/- The package bitmap, and the document's: Check and Has. -/
namespace Go.Proofs.YtegjeijiekggdaaGreatDoor
open Go.RowKit
set_option linter.unusedVariables false
set_option linter.unusedSimpArgs false
/-- Is the number n in the words? -/
def bitL (L : List UInt64) (n : Nat) : Bool := (L.getD (n / 64) 0).toNat.testBit (n % 64)
def fitB (s : Int) (len : Nat) : Bool := decide (0 ≤ s ∧ s ≤ 4096 ∧ (len : Int) = (s + 63) / 64)
def cleanB (s : Nat) (L : List UInt64) : Bool := decide (∀ n, n < 64 * L.length → s ≤ n → bitL L n = false)
def okB (s : Int) (L : List UInt64) : Bool := fitB s L.length && cleanB s.toNat L
def chk (s : Int) (L : List UInt64) : Nat := if okB s L = true then 0 else 4
def hasB (s : Int) (L : List UInt64) (n : Int) : Bool := okB s L && decide (0 ≤ n ∧ n < s) && bitL L n.toNat
theorem okB_nat {s : Int} {L : List UInt64} (h : okB s L = true) : ∃ k : Nat, s = (k : Int) ∧ k ≤ 4096 ∧ L.length = (k + 63) / 64 ∧ ∀ n, n < 64 * L.length → k ≤ n → bitL L n = false := by
  unfold okB fitB cleanB at h
  simp only [Bool.and_eq_true, decide_eq_true_eq] at h
  obtain ⟨⟨h0, h1, h2⟩, h3⟩ := h
  refine ⟨s.toNat, by omega, by omega, by omega, h3⟩
theorem bit_div (x k : Nat) : x.testBit k = decide (x / 2 ^ k % 2 = 1) := Nat.testBit_eq_decide_div_mod_eq
theorem high_zero {x k : Nat} : x / 2 ^ k = 0 ↔ ∀ i, k ≤ i → x.testBit i = false := by
  constructor
  · intro h i hi
    have : x < 2 ^ k := by
      rcases Nat.div_eq_zero_iff.1 h with h | h
      · exact absurd h (by have := Nat.two_pow_pos k; omega)
      · exact h
    exact Nat.testBit_lt_two_pow (Nat.lt_of_lt_of_le this (Nat.pow_le_pow_right (by omega) hi))
  · intro h
    apply Nat.eq_of_testBit_eq
    intro i
    rw [Nat.testBit_div_two_pow, h _ (by omega)]
    simp
theorem clean_spill {s : Nat} {L : List UInt64} {x : UInt64} (hl : L.length = (s + 63) / 64) (hk : 0 < s % 64) (hx : L[L.length - 1]? = some x) : cleanB s L = !decide (x.toNat / 2 ^ (s % 64) ≠ 0) := by
  have hb : ∀ n, n < 64 * L.length → s ≤ n → bitL L n = x.toNat.testBit (n % 64) := by
    intro n h1 h2
    unfold bitL
    have : n / 64 = L.length - 1 := by omega
    rw [this, List.getD_eq_getElem?_getD, hx]
    rfl
  unfold cleanB
  rw [← decide_not, decide_eq_decide, Classical.not_not, high_zero]
  constructor
  · intro h i hi
    by_cases h64 : i < 64
    · have := h (64 * (L.length - 1) + i) (by omega) (by omega)
      rw [hb _ (by omega) (by omega), show (64 * (L.length - 1) + i) % 64 = i by omega] at this
      exact this
    · exact Nat.testBit_lt_two_pow (Nat.lt_of_lt_of_le x.toNat_lt (Nat.pow_le_pow_right (by omega) (by omega)))
  · intro h n h1 h2
    rw [hb n h1 h2]
    exact h _ (by omega)
theorem clean_full {s : Nat} {L : List UInt64} (hl : L.length = (s + 63) / 64) (hk : s % 64 = 0) : cleanB s L = true := decide_eq_true fun n h1 h2 => by omega
theorem bdrewN {b : Nat} {w W : World} (h : Below b w W) (n : Nat) : Below b w (W.drewN n) := h.trans ⟨rfl, rfl, rfl, Nat.le_refl _, fun _ _ => rfl⟩
theorem qFlip_same {P : Program} {f : FuncId} {args : Array Value} {w : World} {r : Ending} (h : Calls P f args w fun e w' => e = r ∧ w = w') : Calls P f args w fun e w' => e = r ∧ w' = w :=
  h.mono fun _ _ h => ⟨h.1, h.2.symm⟩
theorem bx2 (w : World) (a b : Value) (t : TypeId) {W : World} (h : Below (w.alloc (.cells #[a, b] t)).heap.size (w.alloc (.cells #[a, b] t)) W) : W.cell? ⟨w.heap.size, 0, none⟩ = some a ∧ W.cell? ⟨w.heap.size, 1, none⟩ = some b := by
  have hx := heap_alloc_last w (.cells #[a, b] t)
  have hy := (h.block _ (Array.getElem?_eq_some_iff.1 hx).1).trans hx
  exact ⟨(cell_of_row W _ 0 _ _ _ hy).trans rfl, (cell_of_row W _ 1 _ _ _ hy).trans rfl⟩
theorem spills_any (s : Nat) (A : Option Addr) (c : Nat) (L : List UInt64) (w : World) (hs : s ≤ 4096) (hl : L.length = (s + 63) / 64) (hr : RQ w A L) : Calls Tryz.prog 124 #[.agg #[.int .i64 (s : Int), .slice A L.length c]] w fun e w' => e = .returned (.bool (!cleanB s L)) ∧ Below w.heap.size w w' := by
  by_cases hk : s % 64 = 0
  · rw [clean_full hl hk]
    exact spills_no s _ w hk
  · obtain ⟨ad, x, rfl, hx, hc⟩ := hr.at_ (k := L.length - 1) (by omega)
    rw [clean_spill hl (by omega) hx, Bool.not_not]
    exact spills_yes s _ L.length x ad c w hs rfl (by omega) hc (by omega) (by omega)
set_option maxRecDepth 100000 in
theorem qCheck_any (s : Int) (A : Option Addr) (c : Nat) (L : List UInt64) (w : World) (hr : RQ w A L) : Calls Tryz.prog 74 #[.agg #[.int .i64 s, .slice A L.length c]] w fun e w' => e = .returned (.int .i64 (chk s L : Int)) ∧ Below w.heap.size w w' := by
  have HR := Lib.hid hr
  have BX := Lib.hid (fun W h => bx2 w (.int .i64 s) (.slice A L.length c) 64 (W := W) h)
  have B0 := Lib.hid ((Below.refl _ w).alloc (Nat.le_refl _) (.cells #[.int .i64 s, .slice A L.length c] 64))
  have BV : Hid (Below (w.alloc (.cells #[.int .i64 s, .slice A L.length c] 64)).heap.size (w.alloc (.cells #[.int .i64 s, .slice A L.length c] 64)) (w.alloc (.cells #[.int .i64 s, .slice A L.length c] 64)).drew) := Lib.hid (Below.refl _ _).drew
  have x0 := BX.out _ BV.out
  have KG := fun W => goodSize_any s W
  clear hr
  by_cases h0 : 0 ≤ s ∧ s ≤ 4096
  · rw [decide_eq_true h0] at KG
    have KG := Lib.hid KG
    obtain ⟨k, rfl⟩ := Int.eq_ofNat_of_zero_le h0.1
    have hk : k ≤ 4096 := by omega
    have KW := fun W => wordsOf_any k hk W
    obtain ⟨q, hq⟩ : ∃ q, q = (k + 63) / 64 := ⟨_, rfl⟩
    rw [← hq] at KW
    have KW := Lib.hid KW
    by_cases h1 : L.length = q
    · have KS := Lib.hid (fun W (hb : Below w.heap.size w W) => spills_any k A c L W hk (by omega) (HR.out.below hb))
      have HC : Hid (chk (k : Int) L = if (!cleanB k L) = true then 4 else 0) := Lib.hid (by
        unfold chk okB fitB
        rw [decide_eq_true ⟨h0.1, h0.2, by omega⟩, Bool.true_and, Int.toNat_natCast]
        cases cleanB k L <;> rfl)
      have d1 : ((L.length : Int) != (q : Int)) = false := by simp; omega
      generalize L.length = N at *
      generalize chk (k : Int) L = cc at *
      generalize (!cleanB k L) = bb at *
      clear h1 hq hk h0
      cases bb
      all_goals
        go_enter Tryz.func74, Tryz.ntmps74
        go_wp2
        generalize w.alloc (.cells #[.int .i64 (k : Int), .slice A N c] 64) = W0 at *
        go_region_held3 (fun W => W.cell? ⟨w.heap.size, 0, none⟩ = some (.int .i64 (k : Int)) ∧ W.cell? ⟨w.heap.size, 1, none⟩ = some (.slice A N c)) (first | with_reducible assumption | with_reducible exact x0 | with_reducible exact x2 | fail)
          (first
            | (go_at_call 112; refine (KG.out _).mono ?_; rintro e w1 ⟨rfl, rfl⟩)
            | (go_at_call 113; refine (KW.out _).mono ?_; rintro e w1 ⟨rfl, rfl⟩)
            | (go_at_call 124; refine (KS.out _ (B0.out.trans (BV.out.mono B0.out.size))).mono ?_; rintro e w2 ⟨rfl, b2⟩; have x2 := BX.out w2 (BV.out.trans b2); have B2 := Lib.hid (B0.out.trans ((BV.out.trans b2).mono B0.out.size)); clear b2)
            | fail)
        all_goals
          go_wp2
          go_ret
          rw [HC.out]
          exact ⟨rfl, B2.out⟩
    · have HC : Hid (chk (k : Int) L = 4) := Lib.hid (by
        unfold chk okB fitB
        rw [decide_eq_false (by omega)]
        rfl)
      have d1 : ((L.length : Int) != (q : Int)) = true := by simp; omega
      generalize L.length = N at *
      generalize chk (k : Int) L = cc at *
      clear h1 hq hk h0
      go_enter Tryz.func74, Tryz.ntmps74
      go_wp2
      generalize w.alloc (.cells #[.int .i64 (k : Int), .slice A N c] 64) = W0 at *
      have y0 : W0.cell? ⟨w.heap.size, 0, none⟩ = some (.int .i64 (k : Int)) := x0.1
      have y1 : W0.cell? ⟨w.heap.size, 1, none⟩ = some (.slice A N c) := x0.2
      go_quiet (first
        | (go_at_call 112; exact Calls.quiet_of_same (qFlip_same (KG.out _)))
        | (go_at_call 113; exact Calls.quiet_of_same (qFlip_same (KW.out _)))
        | fail)
      all_goals
        go_wp2
        go_ret
        rw [HC.out]
        exact ⟨rfl, bdrewN B0.out _⟩
  · rw [decide_eq_false h0] at KG
    have KG := Lib.hid KG
    have HC : Hid (chk s L = 4) := Lib.hid (by
      unfold chk okB fitB
      rw [decide_eq_false (by omega)]
      rfl)
    generalize L.length = N at *
    generalize chk s L = cc at *
    clear h0
    go_enter Tryz.func74, Tryz.ntmps74
    go_wp2
    generalize w.alloc (.cells #[.int .i64 s, .slice A N c] 64) = W0 at *
    have y0 : W0.cell? ⟨w.heap.size, 0, none⟩ = some (.int .i64 s) := x0.1
    have y1 : W0.cell? ⟨w.heap.size, 1, none⟩ = some (.slice A N c) := x0.2
    go_quiet (first
      | (go_at_call 112; exact Calls.quiet_of_same (qFlip_same (KG.out _)))
      | fail)
    all_goals
      go_wp2
      go_ret
      rw [HC.out]
      exact ⟨rfl, bdrewN B0.out _⟩
end Go.Proofs.YtegjeijiekggdaaGreatDoor
end
section
/- The package bitmap: Has; the document's words, bit, Check, Has. -/
namespace Go.Proofs.YtegjeijiekggdaaGreatDoor
open Go.RowKit
set_option linter.unusedVariables false
set_option linter.unusedSimpArgs false
theorem chk_cases (s : Int) (L : List UInt64) : (okB s L = true ∧ chk s L = 0) ∨ (okB s L = false ∧ chk s L = 4) := by
  unfold chk
  cases okB s L
  · exact .inr ⟨rfl, rfl⟩
  · exact .inl ⟨rfl, rfl⟩
theorem bit_and (x k : Nat) : (x / 2 ^ k &&& 1) = (x.testBit k).toNat := by
  rw [Nat.and_one_is_mod, bit_div]
  have := Nat.mod_two_eq_zero_or_one (x / 2 ^ k)
  rcases this with h | h
  · rw [h]; rfl
  · rw [h]; rfl
theorem bool1 (b : Bool) : (((b.toNat : Nat) : Int) == 1) = b := by cases b <;> rfl
theorem tdiv64 (s : Nat) : (s : Int).tdiv 64 = ((s / 64 : Nat) : Int) := by rw [Int.tdiv_eq_ediv_of_nonneg (by omega)]; omega
theorem bit_at {w : World} {A : Option Addr} {L : List UInt64} (hr : RQ w A L) {k : Nat} (hk : k < 64 * L.length) : ∃ ad x, A = some ad ∧ L[k / 64]? = some x ∧ w.cell? (ad.add (k / 64)) = some (.int .u64 (x.toNat : Int)) ∧ bitL L k = x.toNat.testBit (k % 64) := by
  obtain ⟨ad, x, e, hx, hc⟩ := hr.at_ (k := k / 64) (by omega)
  refine ⟨ad, x, e, hx, hc, ?_⟩
  unfold bitL
  rw [List.getD_eq_getElem?_getD, hx]
  rfl
set_option maxHeartbeats 1000000 in
set_option maxRecDepth 100000 in
theorem qHas_any (s : Int) (A : Option Addr) (c : Nat) (L : List UInt64) (n : Int) (w : World) (hr : RQ w A L) : Calls Tryz.prog 34 #[.agg #[.int .i64 s, .slice A L.length c], .int .i64 n] w fun e w' => e = .returned (.bool (hasB s L n)) ∧ Below w.heap.size w w' := by
  have HR := Lib.hid hr
  have BX := Lib.hid (fun W h => bx2 w (.int .i64 s) (.slice A L.length c) 64 (W := W) h)
  have B0 := Lib.hid ((Below.refl _ w).alloc (Nat.le_refl _) (.cells #[.int .i64 s, .slice A L.length c] 64))
  have x0 := BX.out _ (Below.refl _ _)
  have KC := fun W (hb : Below w.heap.size w W) => qCheck_any s A c L W (HR.out.below hb)
  have KB := fun W => below_any s n (.slice A L.length c) W
  rcases chk_cases s L with ⟨h0, h1⟩ | ⟨h0, h1⟩
  · rw [h1] at KC
    have KC := Lib.hid KC
    by_cases h2 : 0 ≤ n ∧ n < s
    · rw [decide_eq_true h2] at KB
      have KB := Lib.hid KB
      have HH : Hid (hasB s L n = bitL L n.toNat) := Lib.hid (by unfold hasB; rw [h0, decide_eq_true h2]; rfl)
      obtain ⟨m, rfl, hm, hl, _⟩ := okB_nat h0
      obtain ⟨k, rfl⟩ := Int.eq_ofNat_of_zero_le h2.1
      obtain ⟨ad, x, rfl, hx, hc, hb⟩ := bit_at hr (k := k) (by omega)
      rw [Int.toNat_natCast, hb] at HH
      have hq : (k : Int).tdiv 64 = ((k / 64 : Nat) : Int) := tdiv64 k
      have hq2 : (k : Int) / 64 = ((k / 64 : Nat) : Int) := by omega
      have hm2 : (k : Int).tmod 64 = ((k % 64 : Nat) : Int) := tmod64 k
      have hlt : ((k / 64 : Nat) : Int) < (L.length : Int) := by omega
      have hk0 : (0 : Int) ≤ ((k / 64 : Nat) : Int) := by omega
      have hkq : k / 64 < 64 := by omega
      have hkm : k % 64 < 64 := by omega
      have KEY : bits .and .u64 ((x.toNat : Int) / 2 ^ (k % 64)) 1 = (((x.toNat.testBit (k % 64)).toNat : Nat) : Int) := by
        rw [shr_nat, show (1 : Int) = ((1 : Nat) : Int) from rfl, bits_and_u64_nat _ _ (Nat.lt_of_le_of_lt (Nat.div_le_self _ _) x.toNat_lt) (by omega), bit_and]
      have b1 := bool1 (x.toNat.testBit (k % 64))
      have CX := Lib.hid (fun W (h : Below w.heap.size w W) => (h.cell (p := ad.add (k / 64)) (lt_of_cell hc)).trans hc)
      generalize x.toNat.testBit (k % 64) = tb at *
      generalize hasB (m : Int) L (k : Int) = R at *
      generalize L.length = N at *
      generalize k / 64 = kq at *
      generalize k % 64 = km at *
      clear h0 h1 h2 hr hx hb hl
      go_enter Tryz.func34, Tryz.ntmps34
      go_wp2_with fail
      refine (KC.out _ B0.out).mono ?_
      rintro e w1 ⟨rfl, b1⟩
      have B1 := Lib.hid (B0.out.trans (b1.mono B0.out.size))
      obtain ⟨y0, y1⟩ := BX.out w1 b1
      clear b1 x0
      go_wp2_with fail
      refine (KB.out _).mono ?_
      rintro e w2 ⟨rfl, b2⟩
      have B2 := Lib.hid (B1.out.trans (b2.mono B1.out.size))
      have x2 := (b2.cell (p := ⟨w.heap.size, 1, none⟩) (lt_of_cell y1)).trans y1
      have cx := CX.out w2 B2.out
      clear b2 y0 y1
      go_wp2
      go_ret
      simp only [KEY, b1]
      rw [HH.out]
      exact ⟨rfl, B2.out⟩
    · rw [decide_eq_false h2] at KB
      have KB := Lib.hid KB
      have HH : Hid (hasB s L n = false) := Lib.hid (by unfold hasB; rw [decide_eq_false h2, Bool.and_false]; rfl)
      generalize hasB s L n = R at *
      generalize L.length = N at *
      clear h0 h1 h2 hr
      go_enter Tryz.func34, Tryz.ntmps34
      go_wp2_with fail
      refine (KC.out _ B0.out).mono ?_
      rintro e w1 ⟨rfl, b1⟩
      have B1 := Lib.hid (B0.out.trans (b1.mono B0.out.size))
      obtain ⟨y0, y1⟩ := BX.out w1 b1
      clear b1 x0
      go_wp2_with fail
      refine (KB.out _).mono ?_
      rintro e w2 ⟨rfl, b2⟩
      have B2 := Lib.hid (B1.out.trans (b2.mono B1.out.size))
      clear b2 y0 y1
      go_wp2
      go_ret
      rw [HH.out]
      exact ⟨rfl, B2.out⟩
  · rw [h1] at KC
    have KC := Lib.hid KC
    have HH : Hid (hasB s L n = false) := Lib.hid (by unfold hasB; rw [h0]; rfl)
    generalize hasB s L n = R at *
    generalize L.length = N at *
    clear h0 h1 hr KB
    go_enter Tryz.func34, Tryz.ntmps34
    go_wp2_with fail
    refine (KC.out _ B0.out).mono ?_
    rintro e w1 ⟨rfl, b1⟩
    have B1 := Lib.hid (B0.out.trans (b1.mono B0.out.size))
    clear b1 x0
    go_wp2
    go_ret
    rw [HH.out]
    exact ⟨rfl, B1.out⟩
theorem refWords_any (s : Nat) (hs : s ≤ 4096) (w : World) : Calls Tryz.prog 125 #[.int .i64 (s : Int)] w fun e w' => e = .returned (.int .i64 (((s + 63) / 64 : Nat) : Int)) ∧ w = w' := by
  go_enter Tryz.func125, Tryz.ntmps125
  go_wp2
  go_loop [3] (fun i => ∃ k : Nat, k ≤ (s + 63) / 64 ∧ i = .int .i64 (k : Int)) (fun i => 65 - (RowKit.intOf i).toNat)
  case atStart => exact ⟨0, Nat.zero_le _, rfl⟩
  case round =>
    obtain ⟨k, hk, rfl⟩ := hrel
    by_cases hlt : 64 * k < s
    · have hlt' : 64 * (k : Int) < (s : Int) := by omega
      have HK := Lib.hid (show k + 1 ≤ (s + 63) / 64 from by omega)
      have hk2 : k < 65 := by omega
      clear hlt hk
      go_wp2
      go_round
      case rel => exact ⟨k + 1, HK.out, by go_num⟩
      case measure => simp [RowKit.intOf]; omega
    · have hlt' : decide (64 * (k : Int) < (s : Int)) = false := by simp; omega
      have HK := Lib.hid (show ((k : Nat) : Int) = ((s : Int) + 63) / 64 from by omega)
      have hk2 : k < 65 := by omega
      clear hlt hk
      go_wp2
      go_ret
      rw [← HK.out]
      exact ⟨rfl, rfl⟩
set_option maxHeartbeats 1000000 in
set_option maxRecDepth 100000 in
theorem refBit_any (s : Int) (A : Option Addr) (c : Nat) (L : List UInt64) (k : Nat) (w : World) (hk : k < 64 * L.length) (hb : L.length ≤ 64) (hr : RQ w A L) : Calls Tryz.prog 133 #[.agg #[.int .i64 s, .slice A L.length c], .int .i64 (k : Int)] w fun e w' => e = .returned (.bool (bitL L k)) ∧ Below w.heap.size w w' := by
  have B0 := Lib.hid ((Below.refl _ w).alloc (Nat.le_refl _) (.cells #[.int .i64 s, .slice A L.length c] 42))
  obtain ⟨ad, x, rfl, hx, hc, hbit⟩ := bit_at hr hk
  have hq : (k : Int).tdiv 64 = ((k / 64 : Nat) : Int) := tdiv64 k
  have hq2 : (k : Int) / 64 = ((k / 64 : Nat) : Int) := by omega
  have hm2 : (k : Int).tmod 64 = ((k % 64 : Nat) : Int) := tmod64 k
  have hlt : ((k / 64 : Nat) : Int) < (L.length : Int) := by omega
  have hk0 : (0 : Int) ≤ ((k / 64 : Nat) : Int) := by omega
  have hkq : k / 64 < 64 := by omega
  have hkm : k % 64 < 64 := by omega
  have HH : Hid (bitL L k = (((x.toNat : Int) / 2 ^ (k % 64)).tmod 2 == 1)) := Lib.hid (by
    rw [hbit, bit_div, shr_nat, Int.tmod_eq_emod_of_nonneg (Int.natCast_nonneg _)]
    generalize x.toNat / 2 ^ (k % 64) = y
    by_cases h : y % 2 = 1
    · rw [decide_eq_true h]; symm; rw [beq_iff_eq]; omega
    · rw [decide_eq_false h]; symm; rw [beq_eq_false_iff_ne]; omega)
  have hc' := (World.cell?_alloc_lt w (.cells #[.int .i64 s, .slice (some ad) L.length c] 42) _ (lt_of_cell hc)).trans hc
  generalize bitL L k = R at *
  generalize L.length = N at *
  generalize k / 64 = kq at *
  generalize k % 64 = km at *
  clear hr hx hbit hk hb hc
  go_enter Tryz.func133, Tryz.ntmps133
  go_wp2
  go_ret
  rw [HH.out]
  exact ⟨rfl, B0.out⟩
end Go.Proofs.YtegjeijiekggdaaGreatDoor
end
section
/- The document's Check and Has. -/
namespace Go.Proofs.YtegjeijiekggdaaGreatDoor
open Go.RowKit
set_option linter.unusedVariables false
set_option linter.unusedSimpArgs false
set_option maxHeartbeats 1000000 in
set_option maxRecDepth 100000 in
theorem qRefCheck_any (s : Int) (A : Option Addr) (c : Nat) (L : List UInt64) (w : World) (hr : RQ w A L) : Calls Tryz.prog 132 #[.agg #[.int .i64 s, .slice A L.length c]] w fun e w' => e = .returned (.int .i64 (chk s L : Int)) ∧ Below w.heap.size w w' := by
  have HR := Lib.hid hr
  have BX := Lib.hid (fun W h => bx2 w (.int .i64 s) (.slice A L.length c) 42 (W := W) h)
  have B0 := Lib.hid ((Below.refl _ w).alloc (Nat.le_refl _) (.cells #[.int .i64 s, .slice A L.length c] 42))
  have x0 := BX.out _ (Below.refl _ _)
  clear hr
  by_cases h0 : 0 ≤ s
  · obtain ⟨k, rfl⟩ := Int.eq_ofNat_of_zero_le h0
    have d0 : decide ((k : Int) < 0) = false := by simp
    by_cases h1 : k ≤ 4096
    · have d1 : decide ((4096 : Int) < (k : Int)) = false := by simp; omega
      have KW := fun W => refWords_any k h1 W
      obtain ⟨q, hq⟩ : ∃ q, q = (k + 63) / 64 := ⟨_, rfl⟩
      rw [← hq] at KW
      have KW := Lib.hid KW
      by_cases h2 : L.length = q
      · have d2 : ((L.length : Int) != (q : Int)) = false := by simp; omega
        have hN : L.length ≤ 64 := by omega
        have HC : Hid (chk (k : Int) L = if cleanB k L = true then 0 else 4) := Lib.hid (by
          unfold chk okB fitB
          rw [decide_eq_true ⟨h0, by omega, by omega⟩, Bool.true_and, Int.toNat_natCast])
        have KB := Lib.hid (fun (j : Nat) W (hj : j < 64 * L.length) (hb : Below w.heap.size w W) => refBit_any (k : Int) A c L j W hj hN (HR.out.below hb))
        have HY := Lib.hid (show (∀ j, j < 64 * L.length → k ≤ j → bitL L j = false) → cleanB k L = true from fun h => decide_eq_true h)
        have HX := Lib.hid (show ∀ j, j < 64 * L.length → k ≤ j → bitL L j = true → cleanB k L = false from fun j h1 h2 h3 => decide_eq_false fun h => by rw [h j h1 h2] at h3; cases h3)
        have hkN : k ≤ 64 * L.length := by omega
        generalize chk (k : Int) L = cc at *
        generalize L.length = N at *
        clear h2 hq h0 h1
        go_enter Tryz.func132, Tryz.ntmps132
        go_wp2
        generalize w.alloc (.cells #[.int .i64 (k : Int), .slice A N c] 42) = W0 at *
        have y0 : W0.cell? ⟨w.heap.size, 0, none⟩ = some (.int .i64 (k : Int)) := x0.1
        have y1 : W0.cell? ⟨w.heap.size, 1, none⟩ = some (.slice A N c) := x0.2
        go_quiet (first
          | (go_at_call 125; exact Calls.quiet_of_same (qFlip_same (KW.out _)))
          | fail)
        have B1 := Lib.hid (bdrewN B0.out nq)
        have X1 : Hid (∀ W, Below (W0.drewN nq).heap.size (W0.drewN nq) W → W.cell? ⟨w.heap.size, 0, none⟩ = some (.int .i64 (k : Int)) ∧ W.cell? ⟨w.heap.size, 1, none⟩ = some (.slice A N c)) := Lib.hid (fun W h => BX.out W ((bdrewN (Below.refl _ _) nq).trans h))
        have z0 : (W0.drewN nq).cell? ⟨w.heap.size, 0, none⟩ = some (.int .i64 (k : Int)) := x0.1
        have z1 : (W0.drewN nq).cell? ⟨w.heap.size, 1, none⟩ = some (.slice A N c) := x0.2
        clear x0 y0 y1 BX B0 KW
        generalize W0.drewN nq = V at *
        go_wp2
        go_loopw [3] (fun i wr => ∃ j : Nat, k ≤ j ∧ j ≤ 64 * N ∧ i = .int .i64 (j : Int) ∧ (∀ i, i < j → k ≤ i → bitL L i = false) ∧ Below V.heap.size V wr) (fun i _ => 64 * N - (RowKit.intOf i).toNat)
        case atStart => exact ⟨k, Nat.le_refl _, hkN, rfl, fun i h1 h2 => by omega, Below.refl _ _⟩
        case round =>
          obtain ⟨j, hj, hjN, rfl, hall, hb⟩ := hrel
          have HALL := Lib.hid hall
          have HB := Lib.hid hb
          obtain ⟨v0, v1⟩ := X1.out wr hb
          clear hall hb z0 z1
          by_cases hlt : j < 64 * N
          · have hlt' : (j : Int) < 64 * (N : Int) := by omega
            have KJ := Lib.hid (KB.out j wr hlt (B1.out.trans (HB.out.mono B1.out.size)))
            by_cases hbit : bitL L j = true
            · rw [hbit] at KJ
              have HF := Lib.hid (HX.out j hlt hj hbit)
              clear hbit
              go_wp2_with fail
              refine KJ.out.mono ?_
              rintro e w5 ⟨rfl, b5⟩
              have B5 := Lib.hid (B1.out.trans ((HB.out.trans (b5.mono HB.out.size)).mono B1.out.size))
              clear b5
              go_wp2
              go_ret
              rw [HC.out, if_neg (by rw [HF.out]; simp)]
              exact ⟨rfl, B5.out⟩
            · have hbit : bitL L j = false := by simpa using hbit
              rw [hbit] at KJ
              have HF := Lib.hid hbit
              clear hbit
              go_wp2_with fail
              refine KJ.out.mono ?_
              rintro e w5 ⟨rfl, b5⟩
              have B5 := Lib.hid (HB.out.trans (b5.mono HB.out.size))
              clear b5
              go_wp2
              go_roundw
              case rel =>
                refine ⟨j + 1, by omega, by omega, by go_num, fun i h1 h2 => ?_, B5.out⟩
                by_cases e : i = j
                · subst e; exact HF.out
                · exact HALL.out i (by omega) h2
              case measure => simp [RowKit.intOf]; omega
          · have hlt' : decide ((j : Int) < 64 * (N : Int)) = false := by simp; omega
            have HF := Lib.hid (HY.out fun i h1 h2 => HALL.out i (by omega) h2)
            clear hlt
            go_wp2
            go_ret
            rw [HC.out, if_pos HF.out]
            exact ⟨rfl, B1.out.trans (HB.out.mono B1.out.size)⟩
      · have d2 : ((L.length : Int) != (q : Int)) = true := by simp; omega
        have HC : Hid (chk (k : Int) L = 4) := Lib.hid (by
          unfold chk okB fitB
          rw [decide_eq_false (by omega)]
          rfl)
        generalize chk (k : Int) L = cc at *
        generalize L.length = N at *
        clear h2 hq h0 h1
        go_enter Tryz.func132, Tryz.ntmps132
        go_wp2
        generalize w.alloc (.cells #[.int .i64 (k : Int), .slice A N c] 42) = W0 at *
        have y0 : W0.cell? ⟨w.heap.size, 0, none⟩ = some (.int .i64 (k : Int)) := x0.1
        have y1 : W0.cell? ⟨w.heap.size, 1, none⟩ = some (.slice A N c) := x0.2
        go_quiet (first
          | (go_at_call 125; exact Calls.quiet_of_same (qFlip_same (KW.out _)))
          | fail)
        go_wp2
        go_ret
        rw [HC.out]
        exact ⟨rfl, bdrewN B0.out _⟩
    · have d1 : decide ((4096 : Int) < (k : Int)) = true := by simp; omega
      have HC : Hid (chk (k : Int) L = 4) := Lib.hid (by
        unfold chk okB fitB
        rw [decide_eq_false (by omega)]
        rfl)
      generalize chk (k : Int) L = cc at *
      generalize L.length = N at *
      clear h0 h1
      go_enter Tryz.func132, Tryz.ntmps132
      go_wp2
      generalize w.alloc (.cells #[.int .i64 (k : Int), .slice A N c] 42) = W0 at *
      have y0 : W0.cell? ⟨w.heap.size, 0, none⟩ = some (.int .i64 (k : Int)) := x0.1
      have y1 : W0.cell? ⟨w.heap.size, 1, none⟩ = some (.slice A N c) := x0.2
      go_quiet (fail)
      go_wp2
      go_ret
      rw [HC.out]
      exact ⟨rfl, bdrewN B0.out _⟩
  · have d0 : decide (s < 0) = true := by simp; omega
    have HC : Hid (chk s L = 4) := Lib.hid (by
      unfold chk okB fitB
      rw [decide_eq_false (by omega)]
      rfl)
    generalize chk s L = cc at *
    generalize L.length = N at *
    clear h0
    go_enter Tryz.func132, Tryz.ntmps132
    go_wp2
    generalize w.alloc (.cells #[.int .i64 s, .slice A N c] 42) = W0 at *
    have y0 : W0.cell? ⟨w.heap.size, 0, none⟩ = some (.int .i64 s) := x0.1
    have y1 : W0.cell? ⟨w.heap.size, 1, none⟩ = some (.slice A N c) := x0.2
    go_quiet (fail)
    go_wp2
    go_ret
    rw [HC.out]
    exact ⟨rfl, bdrewN B0.out _⟩
end Go.Proofs.YtegjeijiekggdaaGreatDoor
end
