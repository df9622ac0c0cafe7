/- The document's Next, Rank and Select. -/
import Derived.Test.YtmmehomobmoapaaDoorQI
namespace Go.Proofs.YtmmehomobmoapaaDoor
open Go.RowKit
set_option linter.unusedVariables false
set_option linter.unusedSimpArgs false
/-- The least number from a on, below a + k, that has p; a + k, if there is none. -/
def seekN (p : Nat → Bool) (a : Nat) : Nat → Nat
  | 0 => a
  | k + 1 => if p a = true then a else seekN p (a + 1) k
theorem seek_hit {p : Nat → Bool} : ∀ {k a r : Nat}, a ≤ r → r < a + k → p r = true → (∀ i, a ≤ i → i < r → p i = false) → seekN p a k = r
  | 0, a, r, h1, h2, _, _ => by omega
  | k + 1, a, r, h1, h2, h3, h4 => by
    unfold seekN
    by_cases e : a = r
    · subst e; rw [if_pos h3]
    · rw [if_neg (by rw [h4 a (Nat.le_refl _) (by omega)]; simp)]
      exact seek_hit (by omega) (by omega) h3 (fun i hi hr => h4 i (by omega) hr)
theorem seek_none {p : Nat → Bool} : ∀ {k a : Nat}, (∀ i, a ≤ i → i < a + k → p i = false) → seekN p a k = a + k
  | 0, a, _ => rfl
  | k + 1, a, h => by
    unfold seekN
    rw [if_neg (by rw [h a (Nat.le_refl _) (by omega)]; simp), seek_none (fun i h1 h2 => h i (by omega) (by omega))]
    omega
def isOn (L : List UInt64) (on : Bool) (n : Nat) : Bool := bitL L n == on
def nextR (s : Int) (L : List UInt64) (a : Int) (on : Bool) : Nat := seekN (isOn L on) a.toNat (s.toNat - a.toNat)
def nextB (s : Int) (L : List UInt64) (a : Int) (on : Bool) : Bool := okB s L && decide (a.toNat < s.toNat) && decide (nextR s L a on < s.toNat)
def nextN (s : Int) (L : List UInt64) (a : Int) (on : Bool) : Nat := if nextB s L a on = true then nextR s L a on else 0
theorem next_hit {s a r : Nat} {L : List UInt64} {on : Bool} {f : Int} (ho : okB (s : Int) L = true) (hf : f.toNat = a) (h1 : a ≤ r) (h2 : r < s) (h3 : isOn L on r = true) (h4 : ∀ i, a ≤ i → i < r → isOn L on i = false) : nextB (s : Int) L f on = true ∧ nextN (s : Int) L f on = r := by
  have e : nextR (s : Int) L f on = r := by
    unfold nextR
    rw [hf, Int.toNat_natCast]
    exact seek_hit h1 (by omega) h3 h4
  have b : nextB (s : Int) L f on = true := by
    unfold nextB
    rw [ho, e, hf, Int.toNat_natCast, decide_eq_true (by omega), decide_eq_true h2]
    rfl
  refine ⟨b, ?_⟩
  unfold nextN
  rw [if_pos b, e]
theorem next_none {s a : Nat} {L : List UInt64} {on : Bool} {f : Int} (hf : f.toNat = a) (h : ∀ i, a ≤ i → i < s → isOn L on i = false) : nextB (s : Int) L f on = false ∧ nextN (s : Int) L f on = 0 := by
  have b : nextB (s : Int) L f on = false := by
    unfold nextB
    by_cases hs : a < s
    · have e : nextR (s : Int) L f on = s := by
        unfold nextR
        rw [hf, Int.toNat_natCast, seek_none (fun i h1 h2 => h i h1 (by omega))]
        omega
      rw [e, Int.toNat_natCast, decide_eq_false (Nat.lt_irrefl s), Bool.and_false]
    · rw [hf, Int.toNat_natCast, decide_eq_false hs, Bool.and_false]
      rfl
  refine ⟨b, ?_⟩
  unfold nextN
  rw [if_neg (by rw [b]; simp)]
theorem next_bad {s : Int} {L : List UInt64} {on : Bool} {f : Int} (ho : okB s L = false) : nextB s L f on = false ∧ nextN s L f on = 0 := by
  have b : nextB s L f on = false := by unfold nextB; rw [ho]; rfl
  refine ⟨b, ?_⟩
  unfold nextN
  rw [if_neg (by rw [b]; simp)]
set_option maxHeartbeats 1000000 in
set_option maxRecDepth 100000 in
theorem refNext_any (s : Int) (A : Option Addr) (c : Nat) (L : List UInt64) (f : Int) (on : Bool) (w : World) (hr : RQ w A L) : Calls Tryd.prog 21 #[.agg #[.int .i64 s, .slice A L.length c], .int .i64 f, .bool on] w fun e w' => e = .returned (.tuple #[.int .i64 (nextN s L f on : Int), .bool (nextB s L f on)]) ∧ Below w.heap.size w w' := by
  have HR := Lib.hid hr
  have BX := Lib.hid (fun W h => bx2 w (.int .i64 s) (.slice A L.length c) 24 (W := W) h)
  have B0 := Lib.hid ((Below.refl _ w).alloc (Nat.le_refl _) (.cells #[.int .i64 s, .slice A L.length c] 24))
  obtain ⟨x0, x1⟩ := BX.out _ (Below.refl _ _)
  have KC := fun W (hb : Below w.heap.size w W) => refCheck_any s A c L W (HR.out.below hb)
  obtain ⟨a, ha⟩ : ∃ a, a = f.toNat := ⟨_, rfl⟩
  have hmax : (if (0 : Int) < f then f else 0) = (a : Int) := by split <;> omega
  have hmax2 : max (0 : Int) f = (a : Int) := by omega
  have HAF := Lib.hid ha
  rcases chk_cases s L with ⟨h0, h1⟩ | ⟨h0, h1⟩
  · rw [h1] at KC
    have KC := Lib.hid KC
    obtain ⟨m, rfl, hm, hl, _⟩ := okB_nat h0
    have HO := Lib.hid h0
    have KB := Lib.hid (fun (k : Nat) W (hk : k < m) (hb : Below w.heap.size w W) => refBit_any (m : Int) A c L k W (by omega) (by omega) (HR.out.below hb))
    have HT := Lib.hid (fun r h1 h2 h3 h4 => next_hit (on := on) (f := f) h0 ha.symm (r := r) h1 h2 h3 h4)
    have HN := Lib.hid (fun h => next_none (s := m) (L := L) (on := on) (f := f) ha.symm h)
    generalize nextB (m : Int) L f on = RB at *
    generalize nextN (m : Int) L f on = RN at *
    generalize L.length = N at *
    clear h0 h1 hl hr ha
    go_enter Tryd.func21, Tryd.ntmps21
    go_wp2
    generalize w.alloc (.cells #[.int .i64 (m : Int), .slice A N c] 24) = V at *
    go_loopw [8] (fun i wr => ∃ j : Nat, a ≤ j ∧ (j ≤ m ∨ j = a) ∧ i = .int .i64 (j : Int) ∧ (∀ i, a ≤ i → i < j → isOn L on i = false) ∧ Below V.heap.size V wr) (fun i _ => m - (RowKit.intOf i).toNat)
    case atStart => exact ⟨a, Nat.le_refl _, .inr rfl, rfl, fun i h1 h2 => by omega, Below.refl _ _⟩
    case round =>
      obtain ⟨j, hj, hjm, rfl, hall, hb⟩ := hrel
      have HALL := Lib.hid hall
      have HBV := Lib.hid hb
      have HBE := Lib.hid (B0.out.trans (hb.mono B0.out.size))
      obtain ⟨u0, u1⟩ := BX.out wr hb
      have HJM := Lib.hid hjm
      clear hall hb x0 x1 hmax hmax2 hjm
      by_cases hlt : j < m
      · have hlt' : (j : Int) < (m : Int) := by omega
        go_wp2_with fail
        refine (KC.out _ HBE.out).mono ?_
        rintro e w1 ⟨rfl, b1⟩
        have BV1 := Lib.hid (HBV.out.trans (b1.mono HBV.out.size))
        have BE1 := Lib.hid (HBE.out.trans (b1.mono HBE.out.size))
        obtain ⟨v0, v1⟩ := BX.out w1 BV1.out
        clear b1 u0 u1
        go_wp2_with fail
        refine (KB.out j w1 hlt BE1.out).mono ?_
        rintro e w2 ⟨rfl, b2⟩
        have BV2 := Lib.hid (BV1.out.trans (b2.mono BV1.out.size))
        have BE2 := Lib.hid (BE1.out.trans (b2.mono BE1.out.size))
        clear b2 v0 v1
        cases hon : isOn L on j with
        | true =>
          have d3 : (bitL L j == on) = true := hon
          obtain ⟨t1, t2⟩ := HT.out j hj hlt hon HALL.out
          have T1 := Lib.hid t1
          have T2 := Lib.hid t2
          clear t1 t2 hon
          generalize bitL L j = bj at *
          go_wp2
          go_ret2
          rw [T1.out, T2.out]
          exact ⟨rfl, BE2.out⟩
        | false =>
          have d3 : (bitL L j == on) = false := hon
          have HF := Lib.hid hon
          clear hon
          generalize bitL L j = bj at *
          go_wp2
          go_roundw
          case rel =>
            refine ⟨j + 1, by omega, .inl (by omega), by go_num, fun i h1 h2 => ?_, BV2.out⟩
            by_cases e : i = j
            · subst e; exact HF.out
            · exact HALL.out i h1 (by omega)
          case measure => simp [RowKit.intOf]; omega
      · have hlt' : decide ((j : Int) < (m : Int)) = false := by simp; omega
        obtain ⟨t1, t2⟩ := HN.out (fun i h1 h2 => HALL.out i h1 (by rcases HJM.out with h | h <;> omega))
        have T1 := Lib.hid t1
        have T2 := Lib.hid t2
        have hle : m ≤ j := by omega
        clear t1 t2
        go_wp2
        go_ret2
        rw [T1.out, T2.out]
        exact ⟨rfl, HBE.out⟩
  · rw [h1] at KC
    have KC := Lib.hid KC
    obtain ⟨t1, t2⟩ := next_bad (on := on) (f := f) h0
    rw [t1, t2]
    generalize L.length = N at *
    clear h0 h1 hr ha t1 t2
    by_cases hlt : (a : Int) < s
    · go_enter Tryd.func21, Tryd.ntmps21
      go_wp2
      go_loopw [8] (fun i wr => i = .int .i64 (a : Int) ∧ wr = w.alloc (.cells #[.int .i64 s, .slice A N c] 24)) (fun i _ => 0)
      case atStart => exact ⟨rfl, rfl⟩
      case round =>
        obtain ⟨rfl, rfl⟩ := hrel
        go_wp2_with fail
        refine (KC.out _ B0.out).mono ?_
        rintro e w1 ⟨rfl, b1⟩
        have BE1 := Lib.hid (B0.out.trans (b1.mono B0.out.size))
        clear b1
        go_wp2
        go_ret2
        exact ⟨rfl, BE1.out⟩
    · have hlt' : decide ((a : Int) < s) = false := by simp; omega
      clear hlt
      go_enter Tryd.func21, Tryd.ntmps21
      go_wp2
      go_loopw [8] (fun i wr => i = .int .i64 (a : Int) ∧ wr = w.alloc (.cells #[.int .i64 s, .slice A N c] 24)) (fun i _ => 0)
      case atStart => exact ⟨rfl, rfl⟩
      case round =>
        obtain ⟨rfl, rfl⟩ := hrel
        go_wp2
        go_ret2
        exact ⟨rfl, B0.out⟩
end Go.Proofs.YtmmehomobmoapaaDoor
