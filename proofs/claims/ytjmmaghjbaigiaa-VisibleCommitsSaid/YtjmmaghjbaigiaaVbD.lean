/- What a snapshot sees: the document's Which, plain: its second loop. -/
import Derived.Test.YtjmmaghjbaigiaaVbA
import Derived.Test.YtjmmaghjbaigiaaVsS
import Derived.Deep.QuietTactic
import Derived.BigQuiet
namespace Go.Proofs.Ytjmmaghjbaigiaa
open Go.RowKit
set_option linter.unusedVariables false
set_option linter.unusedSimpArgs false
/-- From k on the first one that waits, or what was best. -/
def VbDown (l : List Vn) (me b0 : Int) (k : Nat) (b : Int) : Prop :=
  (b = b0 ∧ ∀ (j : Nat) (v : Vn), k ≤ j → l[j]? = some v → vbWaits me v = false) ∨
  ∃ (i : Nat) (v : Vn), b = (i : Int) ∧ k ≤ i ∧ l[i]? = some v ∧ vbWaits me v = true ∧ ∀ (j : Nat) (u : Vn), k ≤ j → j < i → l[j]? = some u → vbWaits me u = false
theorem VbDown.start (l : List Vn) (me b0 : Int) : VbDown l me b0 l.length b0 := .inl ⟨rfl, fun j v h1 h2 => by have := (List.getElem?_eq_some_iff.1 h2).1; omega⟩
theorem VbDown.no {l : List Vn} {me b0 b : Int} {k : Nat} {x : Vn} (h : VbDown l me b0 (k + 1) b) (hx : l[k]? = some x) (hw : vbWaits me x = false) : VbDown l me b0 k b := by
  rcases h with ⟨h1, h2⟩ | ⟨i, v, h1, h2, h3, h4, h5⟩
  · refine .inl ⟨h1, fun j v a1 a2 => ?_⟩
    by_cases e : j = k
    · subst e; rw [hx] at a2; injection a2 with a2; rw [← a2]; exact hw
    · exact h2 j v (by omega) a2
  · refine .inr ⟨i, v, h1, by omega, h3, h4, fun j u a1 a2 a3 => ?_⟩
    by_cases e : j = k
    · subst e; rw [hx] at a3; injection a3 with a3; rw [← a3]; exact hw
    · exact h5 j u (by omega) a2 a3
theorem VbDown.yes {l : List Vn} {me b0 : Int} {k : Nat} {x : Vn} (hx : l[k]? = some x) (hw : vbWaits me x = true) : VbDown l me b0 k (k : Int) := .inr ⟨k, x, rfl, Nat.le_refl _, hx, hw, fun j u h1 h2 => by omega⟩
theorem VbDown.which {l : List Vn} {me t b0 b : Int} (h : VbDown l me b0 0 b) (hb : VbBest l t 0 l.length b0) : vbWhich l me t = b := by
  rcases h with ⟨h1, h2⟩ | ⟨i, v, h1, h2, h3, h4, h5⟩
  · rw [h1]; exact vbWhich_none (fun j v _ hv => h2 j v (Nat.zero_le _) hv) hb
  · rw [h1]; exact vbWhich_found t (fun j u hj hu => h5 j u (Nat.zero_le _) hj hu) h3 h4
theorem VbBest.top {l : List Vn} (t : Int) : VbBest l t l.length l.length (-1) := VbBest.start l t l.length
set_option maxHeartbeats 4000000 in
set_option maxRecDepth 100000 in
theorem refWhich_any (key : ByteArray) (A : Option Addr) (n c : Nat) (l : List Vn) (me t : Int) (w : World) (hl : l.length = n) (hn : n ≤ 1000) (hr : RG KV w A l) :
    Calls Try.prog 98 #[.agg #[.string key, .slice A n c], .int .i64 me, .int .i64 t] w fun e w' => e = .returned (.int .i64 (vbWhich l me t)) ∧ Below w.heap.size w w' := by
  have HB := Lib.hid (below1 w (.cells #[.string key, .slice A n c] 24))
  have SX := Lib.hid (StBox.new w key A n c 24)
  have HL := Lib.hid hl
  have HR := Lib.hid (fun W (h : Below w.heap.size w W) => hr.below h)
  have HV := Lib.hid (fun (b0 b : Int) (h : VbDown l me b0 0 b) (hb : VbBest l t 0 n b0) => h.which (t := t) (by rw [hl]; exact hb))
  have HT := Lib.hid (show VbBest l t n n (-1) from VbBest.start l t n)
  have HT2 := Lib.hid (fun b0 => show VbDown l me b0 n b0 from by have := VbDown.start l me b0; rwa [hl] at this)
  generalize vbWhich l me t = R at HV ⊢
  clear hl hr
  have wn : IntKind.i64.wrap ((n : Int) - 1) = (n : Int) - 1 := IntWalk.i64_in _ (by omega)
  go_enter Try.func98, Try.ntmps98
  go_upto_region 1 with fail
  generalize w.alloc (.cells #[.string key, .slice A n c] 24) = W0 at *
  have s1 := SX.out.c1
  go_wp2
  go_loopw [7, 8, 9] (fun s i _ wr => ∃ (k : Nat) (b z : Int), k ≤ n ∧ i = .int .i64 z ∧ z = (k : Int) - 1 ∧ s = .int .i64 b ∧ VbBest l t k n b ∧ Below w.heap.size w wr ∧ StBox wr w.heap.size key A n c) (fun _ i _ _ => (intOf i + 1).toNat)
  case atStart => exact ⟨n, -1, _, Nat.le_refl _, rfl, rfl, rfl, HT.out, HB.out, SX.out⟩
  case round =>
    clear s1
    obtain ⟨k, b, z, hk, rfl, hz, rfl, hbest, hb, hs⟩ := hrel
    have HBT := Lib.hid hbest
    have s1 := hs.c1
    cases k with
    | zero =>
      obtain rfl : z = -1 := by omega
      have HB2 := Lib.hid hb
      have SX2 := Lib.hid hs
      clear hbest hb hs hz
      go_wp2
      go_loopw [7, 10] (fun s i wr => ∃ (k : Nat) (d z : Int), k ≤ n ∧ i = .int .i64 z ∧ z = (k : Int) - 1 ∧ s = .int .i64 d ∧ VbDown l me b k d ∧ Below w.heap.size w wr ∧ StBox wr w.heap.size key A n c) (fun _ i _ => (intOf i + 1).toNat)
      case atStart => exact ⟨n, b, _, Nat.le_refl _, rfl, rfl, rfl, HT2.out b, HB2.out, SX2.out⟩
      case round =>
        clear s1
        obtain ⟨k, d, z, hk, rfl, hz, rfl, hdn, hb, hs⟩ := hrel
        have HDN := Lib.hid hdn
        have s1 := hs.c1
        cases k with
        | zero =>
          obtain rfl : z = -1 := by omega
          have HB3 := Lib.hid hb
          have e2 := HV.out b d hdn HBT.out
          clear hdn hb hs hz
          go_wp2
          go_ret
          exact ⟨by first | rfl | (rw [e2]; rfl) | (rw [e2]), HB3.out⟩
        | succ k =>
          obtain rfl : z = (k : Int) := by omega
          have HB3 := Lib.hid hb
          have SX3 := Lib.hid hs
          obtain ⟨x, hx⟩ : ∃ x, l[k]? = some x := ⟨l[k]'(by rw [HL.out]; omega), List.getElem?_eq_getElem _⟩
          obtain ⟨ad, rfl, hv⟩ := (HR.out _ hb).vn hx
          have c0 := hv.d0; have c1 := hv.d1
          have HX := Lib.hid hx
          have hkn : k < n := by omega
          have wk : IntKind.i64.wrap ((k : Int) - 1) = (k : Int) - 1 := IntWalk.i64_in _ (by omega)
          clear hdn hb hs hz hx hv
          by_cases h1 : x.ts = 0
          · by_cases h2 : x.txn = me
            · by_cases h3 : 0 ≤ me
              · have ND := Lib.hid (VbDown.yes (b0 := b) HX.out (show vbWaits me x = true from by simp [vbWaits, vsPend, h1, h2, h3]))
                have e1 : (x.ts == 0) = true := by simp [h1]
                have e2 : (x.txn == me) = true := by simp [h2]
                clear h1 h2
                go_wp2
                go_round
                case rel => exact ⟨k, _, _, by omega, rfl, by first | rfl | go_num | (go_num; omega), rfl, ND.out, HB3.out, SX3.out⟩
                case measure => simp [intOf]
              · have ND := Lib.hid (HDN.out.no HX.out (show vbWaits me x = false from by simp [vbWaits, h3]))
                have e1 : (x.ts == 0) = true := by simp [h1]
                have e2 : (x.txn == me) = true := by simp [h2]
                clear h1 h2
                go_wp2
                go_round
                case rel => exact ⟨k, _, _, by omega, rfl, by first | rfl | go_num | (go_num; omega), rfl, ND.out, HB3.out, SX3.out⟩
                case measure => simp [intOf]
            · have ND := Lib.hid (HDN.out.no HX.out (show vbWaits me x = false from by simp [vbWaits, vsPend, h2]))
              have e1 : (x.ts == 0) = true := by simp [h1]
              have e2 : (x.txn == me) = false := by simp [h2]
              clear h1 h2
              go_wp2
              go_round
              case rel => exact ⟨k, _, _, by omega, rfl, by first | rfl | go_num | (go_num; omega), rfl, ND.out, HB3.out, SX3.out⟩
              case measure => simp [intOf]
          · have ND := Lib.hid (HDN.out.no HX.out (show vbWaits me x = false from by simp [vbWaits, vsPend, h1]))
            have e1 : (x.ts == 0) = false := by simp [h1]
            clear h1
            go_wp2
            go_round
            case rel => exact ⟨k, _, _, by omega, rfl, by first | rfl | go_num | (go_num; omega), rfl, ND.out, HB3.out, SX3.out⟩
            case measure => simp [intOf]
    | succ k =>
      obtain rfl : z = (k : Int) := by omega
      obtain ⟨x, hx⟩ : ∃ x, l[k]? = some x := ⟨l[k]'(by rw [HL.out]; omega), List.getElem?_eq_getElem _⟩
      obtain ⟨ad, rfl, hv⟩ := (HR.out _ hb).vn hx
      have c0 := hv.d0; have c1 := hv.d1; have c2 := hv.d2; have c3 := hv.d3
      have HX := Lib.hid hx
      have HB2 := Lib.hid (hb.alloc hb.size (.cells #[.int .i64 x.txn, .int .i64 x.ts, .bool x.gone, .string x.val] 66))
      have VX := Lib.hid (VnBox.new wr x 66)
      have SX2 := Lib.hid (hs.alloc (.cells #[.int .i64 x.txn, .int .i64 x.ts, .bool x.gone, .string x.val] 66))
      have hkn : k < n := by omega
      have wk : IntKind.i64.wrap ((k : Int) - 1) = (k : Int) - 1 := IntWalk.i64_in _ (by omega)
      clear hv hx hb hs hbest hz
      go_upto_region 6 with fail
      generalize wr.alloc (.cells #[.int .i64 x.txn, .int .i64 x.ts, .bool x.gone, .string x.val] 66) = W1 at *
      generalize wr.heap.size = q at *
      clear c0 c1 c2 c3 s1
      have c1 := VX.out.c1
      have s1 := SX2.out.c1
      by_cases h1 : 1 ≤ x.ts
      · have d1 : decide (1 ≤ x.ts) = true := decide_eq_true h1
        by_cases h2 : x.ts ≤ t
        · have d2 : decide (x.ts ≤ t) = true := decide_eq_true h2
          have ho : vsOld t x = true := vsOld_iff.2 ⟨h1, h2⟩
          rcases HBT.out.lt with e | ⟨i, u, e, h0, hi, hu⟩
          · have NB := Lib.hid (HBT.out.down_yes HX.out ho (.inl e) hkn)
            have d3 : decide (b < 0) = true := by simp; omega
            clear ho h1 h2
            subst e
            go_quiet (fail)
            go_wp2
            go_round
            case rel => exact ⟨k, _, _, by omega, rfl, by first | rfl | go_num | (go_num; omega), rfl, NB.out, drewN_below HB2.out _, SX2.out.on (drewN_below (Below.refl _ _) _)⟩
            case measure => simp [intOf]
          · subst e
            obtain ⟨ad', e1, hvu⟩ := (HR.out _ HB2.out).vn hu
            injection e1 with e1
            subst e1
            have cu := hvu.d1
            have d3 : decide ((i : Int) < 0) = false := by simp
            by_cases hle : u.ts < x.ts
            · have NB := Lib.hid (HBT.out.down_yes HX.out ho (.inr ⟨i, u, rfl, hu, hle⟩) hkn)
              have d4 : decide (u.ts < x.ts) = true := decide_eq_true hle
              clear ho hu hvu h1 h2 hle
              go_quiet (fail)
              go_wp2
              go_round
              case rel => exact ⟨k, _, _, by omega, rfl, by first | rfl | go_num | (go_num; omega), rfl, NB.out, drewN_below HB2.out _, SX2.out.on (drewN_below (Below.refl _ _) _)⟩
              case measure => simp [intOf]
            · have NB := Lib.hid (HBT.out.down_no HX.out (.inr ⟨i, u, rfl, hu, by omega⟩))
              have d4 : decide (u.ts < x.ts) = false := decide_eq_false hle
              clear ho hu hvu h1 h2 hle
              go_quiet (fail)
              go_wp2
              go_round
              case rel => exact ⟨k, _, _, by omega, rfl, by first | rfl | go_num | (go_num; omega), rfl, NB.out, drewN_below HB2.out _, SX2.out.on (drewN_below (Below.refl _ _) _)⟩
              case measure => simp [intOf]
        · have d2 : decide (x.ts ≤ t) = false := decide_eq_false h2
          have NB := Lib.hid (HBT.out.down_no HX.out (.inl (show vsOld t x = false from by simp [vsOld, h2])))
          clear h1 h2
          go_quiet (fail)
          go_wp2
          go_round
          case rel => exact ⟨k, _, _, by omega, rfl, by first | rfl | go_num | (go_num; omega), rfl, NB.out, drewN_below HB2.out _, SX2.out.on (drewN_below (Below.refl _ _) _)⟩
          case measure => simp [intOf]
      · have d1 : decide (1 ≤ x.ts) = false := decide_eq_false h1
        have NB := Lib.hid (HBT.out.down_no HX.out (.inl (show vsOld t x = false from by simp [vsOld, h1])))
        clear h1
        go_quiet (fail)
        go_wp2
        go_round
        case rel => exact ⟨k, _, _, by omega, rfl, by first | rfl | go_num | (go_num; omega), rfl, NB.out, drewN_below HB2.out _, SX2.out.on (drewN_below (Below.refl _ _) _)⟩
        case measure => simp [intOf]
end Go.Proofs.Ytjmmaghjbaigiaa
