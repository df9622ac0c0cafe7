/- Stacks: whether one may be: the order, and all. -/
import Derived.Test.YtjmmaghjbaigiaaVsM
namespace Go.Proofs.Ytjmmaghjbaigiaa
open Go.RowKit
set_option linter.unusedVariables false
set_option linter.unusedSimpArgs false
/-- Up to k all stand in order. -/
def vsOrdTo (l : List Vn) (k : Nat) : Prop := ∀ (i j : Nat) (a b : Vn), i < j → j < k → l[i]? = some a → l[j]? = some b → vsFol b a = true
theorem vsOrdTo.all {l : List Vn} (h : vsOrdTo l l.length) : vsOrd l := fun i k a b hik ha hb => h i k a b hik ((List.getElem?_eq_some_iff.1 hb).1) ha hb
set_option maxHeartbeats 4000000 in
set_option maxRecDepth 100000 in
theorem vsOrdered_any (A : Option Addr) (n c : Nat) (l : List Vn) (w : World) (hl : l.length = n) (hn : n ≤ 1000) (hnc : n ≤ c) (hr : RG KV w A l) :
    Calls Try.prog 64 #[.slice A n c] w fun e w' => e = .returned (.bool (decide (vsOrd l))) ∧ Below w.heap.size w w' := by
  have HL := Lib.hid hl
  have HR := Lib.hid hr
  have HT := Lib.hid (fun (h : vsOrdTo l l.length) => decide_eq_true h.all)
  have HF := Lib.hid (fun (i j : Nat) (a b : Vn) (hij : i < j) (ha : l[i]? = some a) (hb : l[j]? = some b) (h : vsFol b a = false) => show decide (vsOrd l) = false from decide_eq_false fun g => by
    have := g i j a b hij ha hb
    rw [h] at this
    cases this)
  generalize decide (vsOrd l) = R at HT HF ⊢
  clear hl hr
  go_enter Try.func64, Try.ntmps64
  go_wp2
  go_loopw [3, 4, 6, 9] (fun _ _ _ i wr => ∃ k : Nat, k ≤ n ∧ i = .int .i64 (k : Int) ∧ vsOrdTo l k ∧ Below w.heap.size w wr) (fun _ _ _ i _ => n - (intOf i).toNat)
  case atStart => exact ⟨0, Nat.zero_le _, rfl, fun i j a b _ hj => by omega, Below.refl _ _⟩
  case round =>
    obtain ⟨k, hk, rfl, ho, hb⟩ := hrel
    have HO := Lib.hid ho
    by_cases hlt : k < n
    · obtain ⟨x, hx⟩ : ∃ x, l[k]? = some x := ⟨l[k]'(by rw [HL.out]; exact hlt), List.getElem?_eq_getElem _⟩
      obtain ⟨ad, rfl, hv⟩ := (HR.out.below hb).vn hx
      have c0 := hv.d0; have c1 := hv.d1; have c2 := hv.d2; have c3 := hv.d3
      have HX := Lib.hid hx
      have HB := Lib.hid (hb.alloc hb.size (.cells #[.int .i64 x.txn, .int .i64 x.ts, .bool x.gone, .string x.val] 66))
      have BX := Lib.hid (VnBox.new wr x 66)
      clear hv hx hb ho
      go_upto_region 4 with fail
      generalize wr.alloc (.cells #[.int .i64 x.txn, .int .i64 x.ts, .bool x.gone, .string x.val] 66) = W1 at *
      generalize wr.heap.size = e at *
      clear c0 c1 c2 c3
      go_wp2
      go_loopw [6, 18] (fun _ i wq => ∃ m : Nat, m ≤ k ∧ i = .int .i64 (m : Int) ∧ (∀ (j : Nat) (a : Vn), j < m → l[j]? = some a → vsFol x a = true) ∧ Below w.heap.size w wq ∧ VnBox wq e x) (fun _ i _ => k - (intOf i).toNat)
      case atStart => exact ⟨0, Nat.zero_le _, rfl, fun j a hj => by omega, HB.out, BX.out⟩
      case round =>
        obtain ⟨m, hm, rfl, hf, hb, hx⟩ := hrel
        have HG := Lib.hid hf
        by_cases hlt2 : m < k
        · obtain ⟨y, hy⟩ : ∃ y, l[m]? = some y := ⟨l[m]'(by rw [HL.out]; omega), List.getElem?_eq_getElem _⟩
          obtain ⟨ad', e1, hv⟩ := (HR.out.below hb).vn hy
          injection e1 with e1
          subst e1
          have c0 := hv.d0; have c1 := hv.d1; have c2 := hv.d2; have c3 := hv.d3
          have HY := Lib.hid hy
          have HB2 := Lib.hid (hb.alloc hb.size (.cells #[.int .i64 y.txn, .int .i64 y.ts, .bool y.gone, .string y.val] 66))
          have BX2 := Lib.hid (hx.alloc (.cells #[.int .i64 y.txn, .int .i64 y.ts, .bool y.gone, .string y.val] 66))
          have KF := Lib.hid (fun (W : World) => vsFol_any x y W)
          unfold Vn.v at KF
          obtain ⟨x0, x1, x2, x3, _, _, _, _⟩ := BX2.out
          clear hv hy hb hf hx
          cases hd : vsFol x y with
          | true =>
            rw [hd] at KF
            have HD := Lib.hid hd
            clear hd
            go_wp2_with (go_at_call 100; refine (KF.out _).mono ?_; rintro e1 w1 ⟨rfl, b1⟩; have B1 := Lib.hid (HB2.out.trans (b1.mono HB2.out.size)); have X1 := Lib.hid (BX2.out.on b1); clear b1)
            go_round
            case rel => exact ⟨m + 1, by omega, by go_num, fun j a hj ha => by
              by_cases ej : j = m
              · subst ej
                rw [HY.out] at ha
                injection ha with ha
                rw [← ha]; exact HD.out
              · exact HG.out j a (by omega) ha, B1.out, X1.out⟩
            case measure => simp [intOf]; omega
          | false =>
            rw [hd] at KF
            have e2 := HF.out m k y x hlt2 HY.out HX.out hd
            clear hd
            go_wp2_with (go_at_call 100; refine (KF.out _).mono ?_; rintro e1 w1 ⟨rfl, b1⟩; have B1 := Lib.hid (HB2.out.trans (b1.mono HB2.out.size)); clear b1)
            go_ret
            exact ⟨by rw [e2]; rfl, B1.out⟩
        · obtain rfl : m = k := by omega
          have HB3 := Lib.hid hb
          clear hb hf hx
          go_wp2
          go_round
          case rel => exact ⟨m + 1, by omega, by go_num, fun i j a b hij hj ha hb => by
            by_cases ej : j = m
            · subst ej
              rw [HX.out] at hb
              injection hb with hb
              rw [← hb]
              exact HG.out i a hij ha
            · exact HO.out i j a b hij (by omega) ha hb, HB3.out⟩
          case measure => simp [intOf]; omega
    · obtain rfl : k = n := by omega
      have e2 := HT.out (by rw [HL.out]; exact HO.out)
      have HB := Lib.hid hb
      clear hb ho
      go_wp2
      go_ret
      exact ⟨by rw [e2]; rfl, HB.out⟩
theorem vsFaults_first {l : List Vn} {k : Nat} {x : Vn} (h : ∀ (j : Nat) (a : Vn), j < k → l[j]? = some a → vsFault a = 0) (hx : l[k]? = some x) (hf : vsFault x ≠ 0) : vsFaults l = vsFault x := by
  induction l generalizing k with
  | nil => simp at hx
  | cons y r ih =>
    rw [vsFaults]
    cases k with
    | zero =>
      simp at hx
      rw [hx, if_neg hf]
    | succ k =>
      rw [if_pos (h 0 y (by omega) rfl)]
      exact ih (k := k) (fun j a hj ha => h (j + 1) a (by omega) (by simpa using ha)) (by simpa using hx)
theorem vsFaults_none {l : List Vn} (h : ∀ (j : Nat) (a : Vn), j < l.length → l[j]? = some a → vsFault a = 0) : vsFaults l = 0 := vsFaults_zero.2 fun v hv => by
  obtain ⟨j, hj, e⟩ := List.getElem_of_mem hv
  exact h j v hj (by rw [← e]; exact List.getElem?_eq_getElem hj)
set_option maxHeartbeats 4000000 in
set_option maxRecDepth 100000 in
theorem vsCheck_any (key : ByteArray) (A : Option Addr) (n c : Nat) (l : List Vn) (w : World) (hl : l.length = n) (hn : n ≤ 1000) (hnc : n ≤ c) (hr : RG KV w A l) :
    Calls Try.prog 27 #[.agg #[.string key, .slice A n c]] w fun e w' => e = .returned (.int .i64 (vsCheck key l : Int)) ∧ Below w.heap.size w w' := by
  have HB := Lib.hid (below1 w (.cells #[.string key, .slice A n c] 24))
  have SX := Lib.hid (StBox.new w key A n c 24)
  unfold vsCheck
  by_cases h1 : 16 < key.size
  · rw [if_pos h1]
    have h1' : decide ((16 : Int) < (key.size : Int)) = true := by simp; omega
    go_enter Try.func27, Try.ntmps27
    go_wp2
    go_ret
    exact ⟨rfl, HB.out⟩
  · rw [if_neg h1]
    have h1' : decide ((16 : Int) < (key.size : Int)) = false := by simp; omega
    clear h1
    rw [hl]
    by_cases h8 : 8 < n
    · rw [if_pos h8]
      go_enter Try.func27, Try.ntmps27
      go_wp2
      go_ret
      exact ⟨rfl, HB.out⟩
    · rw [if_neg h8]
      have HL := Lib.hid hl
      have HR := Lib.hid hr
      have KO := Lib.hid (fun (W : World) (h : Below w.heap.size w W) => vsOrdered_any A n c l W hl hn hnc (hr.below h))
      have HF := Lib.hid (fun (k : Nat) (x : Vn) => vsFaults_first (l := l) (k := k) (x := x))
      have HN := Lib.hid (vsFaults_none (l := l))
      obtain ⟨R, hR⟩ : ∃ R, R = if vsFaults l = 0 then (if vsOrd l then 0 else 12) else vsFaults l := ⟨_, rfl⟩
      rw [← hR]
      have HV := Lib.hid hR
      clear hR
      clear hl hr
      go_enter Try.func27, Try.ntmps27
      go_upto_region 1 with fail
      generalize w.alloc (.cells #[.string key, .slice A n c] 24) = W0 at *
      have s0 := SX.out.c0
      have s1 := SX.out.c1
      go_wp2
      go_loopw [4, 5, 19] (fun _ _ i wr => ∃ k : Nat, k ≤ n ∧ i = .int .i64 (k : Int) ∧ (∀ (j : Nat) (a : Vn), j < k → l[j]? = some a → vsFault a = 0) ∧ Below w.heap.size w wr ∧ StBox wr w.heap.size key A n c) (fun _ _ i _ => n - (intOf i).toNat)
      case atStart => exact ⟨0, Nat.zero_le _, rfl, fun j a hj => by omega, HB.out, SX.out⟩
      case round =>
        clear s0 s1
        obtain ⟨k, hk, rfl, hf, hb, hs⟩ := hrel
        have HG := Lib.hid hf
        by_cases hlt : k < n
        · obtain ⟨x, hx⟩ : ∃ x, l[k]? = some x := ⟨l[k]'(by rw [HL.out]; exact hlt), List.getElem?_eq_getElem _⟩
          obtain ⟨ad, rfl, hv⟩ := (HR.out.below hb).vn hx
          have c0 := hv.d0; have c1 := hv.d1; have c2 := hv.d2; have c3 := hv.d3
          have KF := Lib.hid (fun (W : World) => vsFault_any x W)
          unfold Vn.v at KF
          have HX := Lib.hid hx
          have HBr := Lib.hid (hb.alloc hb.size (.cells #[.int .i64 x.txn, .int .i64 x.ts, .bool x.gone, .string x.val] 66))
          have HSr := Lib.hid (hs.alloc (.cells #[.int .i64 x.txn, .int .i64 x.ts, .bool x.gone, .string x.val] 66))
          by_cases h0 : vsFault x = 0
          · rw [h0] at KF
            have H0 := Lib.hid h0
            clear h0 hv hx hf hb hs
            go_wp2_with (go_at_call 63; refine (KF.out _).mono ?_; rintro e w1 ⟨rfl, b1⟩; have B1 := Lib.hid (HBr.out.trans (b1.mono HBr.out.size)); have S1 := Lib.hid (HSr.out.on b1); clear b1)
            go_round
            case rel => exact ⟨k + 1, by omega, by go_num, fun j a hj ha => by
              by_cases ej : j = k
              · subst ej
                rw [HX.out] at ha
                injection ha with ha
                rw [← ha]; exact H0.out
              · exact HG.out j a (by omega) ha, B1.out, S1.out⟩
            case measure => simp [intOf]; omega
          · have e1 := HF.out k x hf hx h0
            have hd : ((vsFault x : Int) != 0) = true := by simp; omega
            have E1 := Lib.hid e1
            have H0 := Lib.hid h0
            generalize vsFault x = z at *
            clear h0 hv hx hf hb hs e1
            go_wp2_with (go_at_call 63; refine (KF.out _).mono ?_; rintro e w1 ⟨rfl, b1⟩; have B1 := Lib.hid (HBr.out.trans (b1.mono HBr.out.size)); clear b1)
            go_ret
            exact ⟨by rw [HV.out, E1.out, if_neg H0.out]; rfl, B1.out⟩
        · obtain rfl : k = n := by omega
          have e1 := Lib.hid (HN.out (by rw [HL.out]; exact hf))
          have HBr := Lib.hid hb
          have HSr := Lib.hid hs
          have s1 := hs.c1
          clear hf hb hs
          by_cases ho : vsOrd l
          · rw [decide_eq_true ho] at KO
            have H0 := Lib.hid ho
            clear ho
            go_wp2_with (go_at_call 64; refine (KO.out _ HBr.out).mono ?_; rintro e w1 ⟨rfl, b1⟩; have B1 := Lib.hid (HBr.out.trans (b1.mono HBr.out.size)); clear b1)
            go_ret
            exact ⟨by rw [HV.out, if_pos e1.out, if_pos H0.out]; rfl, B1.out⟩
          · rw [decide_eq_false ho] at KO
            have H0 := Lib.hid ho
            clear ho
            go_wp2_with (go_at_call 64; refine (KO.out _ HBr.out).mono ?_; rintro e w1 ⟨rfl, b1⟩; have B1 := Lib.hid (HBr.out.trans (b1.mono HBr.out.size)); clear b1)
            go_ret
            exact ⟨by rw [HV.out, if_pos e1.out, if_neg H0.out]; rfl, B1.out⟩
end Go.Proofs.Ytjmmaghjbaigiaa
