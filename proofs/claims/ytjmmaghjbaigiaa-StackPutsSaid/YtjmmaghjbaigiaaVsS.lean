/- Stacks: whether two are one, of both; whether one is small. -/
import Derived.Test.YtjmmaghjbaigiaaVsC
import Derived.Deep.CutBlock
import Derived.Deep.QuietTactic
import Derived.BigQuiet
namespace Go.Proofs.Ytjmmaghjbaigiaa
open Go.RowKit
set_option linter.unusedVariables false
set_option linter.unusedSimpArgs false
theorem drewN_below {B : Nat} {w W : World} (h : Below B w W) (q : Nat) : Below B w (W.drewN q) := by
  induction q with
  | zero => exact h
  | succ q ih => exact ih.drew
def vsEq (a b : Vn) : Bool := a.txn == b.txn && (a.ts == b.ts && (a.gone == b.gone && a.val == b.val))
theorem vs_beq (a b : ByteArray) : (a == b) = true ↔ a = b := by
  rcases a with ⟨a⟩
  rcases b with ⟨b⟩
  rw [ByteArray.mk.injEq]
  exact beq_iff_eq (a := a)
theorem vsEq_iff (a b : Vn) : vsEq a b = true ↔ a = b := by
  obtain ⟨a1, a2, a3, a4⟩ := a
  obtain ⟨b1, b2, b3, b4⟩ := b
  simp only [vsEq, Bool.and_eq_true, beq_iff_eq, Vn.mk.injEq, vs_beq]
theorem vsEq_dec (a b : Vn) : vsEq a b = decide (a = b) := by rw [Bool.eq_iff_iff, vsEq_iff, decide_eq_true_eq]
theorem vsEqI (d : Nat) (w : World) (a b : Int) : (Op.equalIn (d + 1) 3 (.int .i64 a) (.int .i64 b)).run Try.prog w = .ok (a == b) w := by
  simp [Op.equalIn, run_underlying Try.underlying3, go_sem]
theorem vsEqB (d : Nat) (w : World) (a b : Bool) : (Op.equalIn (d + 1) 4 (.bool a) (.bool b)).run Try.prog w = .ok (a == b) w := by
  simp [Op.equalIn, run_underlying Try.underlying4, go_sem]
theorem vsEqS (d : Nat) (w : World) (a b : ByteArray) : (Op.equalIn (d + 1) 9 (.string a) (.string b)).run Try.prog w = .ok (a == b) w := by
  simp [Op.equalIn, run_underlying Try.underlying9, go_sem]
theorem vsEqV (d : Nat) (w : World) (a b : Vn) : (Op.equalIn (d + 2) 66 a.v b.v).run Try.prog w = .ok (vsEq a b) w := by
  have hF := Try.underlying66
  have hst : Try.prog.stoodInHeld 66 = false := by kernel_rfl
  unfold Vn.v
  rw [Op.equalIn]
  simp only [Sem.run_bind, run_underlying hF, Result.andThen_ok]
  simp [hst, part, vsEqI, vsEqB, vsEqS, go_sem]
  simp only [vsEq]
  (repeat' split) <;> simp_all
theorem vs_take_snoc {L M : List Vn} {k : Nat} {a b : Vn} (h : L.take k = M.take k) (ha : L[k]? = some a) (hb : M[k]? = some b) (e : a = b) : L.take (k + 1) = M.take (k + 1) := by
  rw [List.take_add_one, List.take_add_one, ha, hb, h, e]
theorem vs_ne_at {L M : List Vn} {k : Nat} {a b : Vn} (ha : L[k]? = some a) (hb : M[k]? = some b) (h : a ≠ b) : L ≠ M := fun e => by
  subst e
  rw [ha] at hb
  injection hb with hb
  exact h hb
theorem ba_toList (a b : ByteArray) : (a.toList == b.toList) = decide (a = b) := by
  rw [Bool.eq_iff_iff]
  simp only [ByteArray.toList_eq, beq_iff_eq, decide_eq_true_eq]
  constructor
  · intro h
    rcases a with ⟨⟨a⟩⟩
    rcases b with ⟨⟨b⟩⟩
    simpa using h
  · intro h
    rw [h]
set_option maxHeartbeats 2000000 in
set_option maxRecDepth 100000 in
theorem vsEqual_any (A B : Option Addr) (n m c d : Nat) (L M : List Vn) (w : World) (hl : L.length = n) (hm : M.length = m) (hn : n ≤ 1000) (hr : RG KV w A L) (hs : RG KV w B M) :
    Calls Try.prog 46 #[.slice A n c, .slice B m d] w fun e w' => e = .returned (.bool (decide (L = M))) ∧ Below w.heap.size w w' := by
  by_cases hnm : n = m
  · subst hnm
    have HL := Lib.hid hl
    have HM := Lib.hid hm
    have HR := Lib.hid hr
    have HS := Lib.hid hs
    have hb0 : ((n : Int) != (n : Int)) = false := by simp
    clear hl hm hr hs
    go_enter Try.func46, Try.ntmps46
    go_wp2
    go_loopw [5, 13] (fun _ i wr => ∃ k : Nat, k ≤ n ∧ i = .int .i64 k ∧ L.take k = M.take k ∧ Below w.heap.size w wr) (fun _ i _ => n - (intOf i).toNat)
    case atStart => exact ⟨0, Nat.zero_le _, rfl, rfl, Below.refl _ _⟩
    case round =>
      obtain ⟨k, hk, rfl, hP, hb⟩ := hrel
      by_cases hlt : k < n
      · obtain ⟨a, ha⟩ : ∃ a, L[k]? = some a := ⟨L[k]'(by rw [HL.out]; omega), List.getElem?_eq_getElem _⟩
        obtain ⟨b, hbb⟩ : ∃ b, M[k]? = some b := ⟨M[k]'(by rw [HM.out]; omega), List.getElem?_eq_getElem _⟩
        obtain ⟨ad, rfl, hv⟩ := (HR.out.below hb).vn ha
        obtain ⟨bd, rfl, hv2⟩ := (HS.out.below hb).vn hbb
        have c0 := hv.d0; have c1 := hv.d1; have c2 := hv.d2; have c3 := hv.d3
        have d0 := hv2.d0; have d1 := hv2.d1; have d2 := hv2.d2; have d3 := hv2.d3
        have HT := Lib.hid (vs_take_snoc hP ha hbb)
        have HN := Lib.hid (vs_ne_at ha hbb)
        have heq := fun W => vsEqV 9998 W a b
        rw [vsEq_dec] at heq
        unfold Vn.v at heq
        have HB := Lib.hid (fun q => drewN_below hb q)
        clear ha hbb hP hb hv hv2
        by_cases hab : a = b
        · rw [decide_eq_true hab] at heq
          have HT2 := Lib.hid (HT.out hab)
          clear hab HT HN
          go_upto_region 6 with fail
          go_quiet (fail)
          go_wp2
          go_round
          case rel => exact ⟨k + 1, by omega, by go_num, HT2.out, HB.out _⟩
          case measure => simp [intOf]; omega
        · rw [decide_eq_false hab] at heq
          have HN2 := Lib.hid (HN.out hab)
          clear hab HT HN
          go_upto_region 6 with fail
          go_quiet (fail)
          go_wp2
          go_ret
          exact ⟨by rw [decide_eq_false HN2.out]; rfl, HB.out _⟩
      · obtain rfl : k = n := by omega
        have HT2 : Hid (L = M) := Lib.hid (by
          rw [List.take_of_length_le (by rw [HL.out]; exact Nat.le_refl _), List.take_of_length_le (by rw [HM.out]; exact Nat.le_refl _)] at hP
          exact hP)
        have HB := Lib.hid hb
        clear hP hb
        go_wp2
        go_ret
        exact ⟨by rw [decide_eq_true HT2.out]; rfl, HB.out⟩
  · have hne : L ≠ M := fun e => hnm (by rw [← hl, ← hm, e])
    have HN := Lib.hid hne
    have hb0 : ((n : Int) != (m : Int)) = true := by rw [bne_iff_ne]; omega
    clear hne hnm hl hm hr hs
    go_enter Try.func46, Try.ntmps46
    go_wp2
    go_ret
    exact ⟨by rw [decide_eq_false HN.out]; rfl, Below.refl _ _⟩
def vsSame (k1 : ByteArray) (L : List Vn) (k2 : ByteArray) (M : List Vn) : Bool := decide (k1 = k2) && decide (L = M)
set_option maxHeartbeats 2000000 in
set_option maxRecDepth 100000 in
theorem vsSame_any (k1 k2 : ByteArray) (A B : Option Addr) (n m c d : Nat) (L M : List Vn) (w : World) (hl : L.length = n) (hm : M.length = m) (hn : n ≤ 1000) (hr : RG KV w A L) (hs : RG KV w B M) :
    Calls Try.prog 15 #[.agg #[.string k1, .slice A n c], .agg #[.string k2, .slice B m d]] w fun e w' => e = .returned (.bool (vsSame k1 L k2 M)) ∧ Below w.heap.size w w' := by
  have hq := ba_toList k1 k2
  have KE := Lib.hid (fun (W : World) (h : Below w.heap.size w W) => vsEqual_any A B n m c d L M W hl hm hn (hr.below h) (hs.below h))
  have HB := Lib.hid (below2 w (.cells #[.string k1, .slice A n c] 24) (.cells #[.string k2, .slice B m d] 24))
  unfold vsSame
  generalize decide (L = M) = R at KE ⊢
  clear hl hm hr hs
  by_cases hk : k1 = k2
  · rw [decide_eq_true hk] at hq ⊢
    clear hk
    go_enter Try.func15, Try.ntmps15
    go_wp2_with (go_at_call 46; refine (KE.out _ HB.out).mono ?_; rintro e w1 ⟨rfl, b1⟩; have B1 := Lib.hid (HB.out.trans (b1.mono HB.out.size)); clear b1)
    go_ret
    exact ⟨by simp, B1.out⟩
  · rw [decide_eq_false hk] at hq ⊢
    clear hk
    go_enter Try.func15, Try.ntmps15
    go_wp2
    go_ret
    exact ⟨rfl, HB.out⟩
def vsLight (key : ByteArray) (l : List Vn) : Bool := decide (key.size ≤ 100 ∧ l.length ≤ 12) && l.all fun v => decide (v.val.size ≤ 100)
theorem vsLight_at {key : ByteArray} {l : List Vn} (h : vsLight key l = true) : key.size ≤ 100 ∧ l.length ≤ 12 ∧ ∀ v ∈ l, v.val.size ≤ 100 := by
  unfold vsLight at h
  simp only [Bool.and_eq_true, decide_eq_true_eq, List.all_eq_true] at h
  exact ⟨h.1.1, h.1.2, h.2⟩
set_option maxHeartbeats 2000000 in
set_option maxRecDepth 100000 in
theorem vsLight_any (key : ByteArray) (A : Option Addr) (n c : Nat) (l : List Vn) (w : World) (hl : l.length = n) (hn : n ≤ maxLen) (hr : RG KV w A l) :
    Calls Try.prog 8 #[.agg #[.string key, .slice A n c]] w fun e w' => e = .returned (.bool (vsLight key l)) ∧ Below w.heap.size w w' := by
  have HB := Lib.hid (below1 w (.cells #[.string key, .slice A n c] 24))
  have SX := Lib.hid (StBox.new w key A n c 24)
  have HL := Lib.hid hl
  have HR := Lib.hid (fun W (h : Below w.heap.size w W) => hr.below h)
  have HV : Hid (∀ b, vsLight key l = b → vsLight key l = b) := Lib.hid fun _ h => h
  have HG : Hid (100 < key.size ∨ 12 < l.length → vsLight key l = false) := Lib.hid fun h => by unfold vsLight; rw [decide_eq_false (by omega)]; rfl
  have HF : Hid (∀ (k : Nat) (x : Vn), l[k]? = some x → 100 < x.val.size → vsLight key l = false) := Lib.hid fun k x hx h => by
    unfold vsLight
    rw [List.all_eq_false.2 ⟨x, List.mem_of_getElem? hx, by simp; omega⟩, Bool.and_false]
  have HT : Hid (key.size ≤ 100 → l.length ≤ 12 → (∀ (j : Nat) (a : Vn), j < l.length → l[j]? = some a → a.val.size ≤ 100) → vsLight key l = true) := Lib.hid fun h1 h2 h3 => by
    unfold vsLight
    rw [decide_eq_true ⟨h1, h2⟩, List.all_eq_true.2 (fun v hv => by
      obtain ⟨j, hj, e⟩ := List.getElem_of_mem hv
      exact decide_eq_true (h3 j v hj (by rw [← e]; exact List.getElem?_eq_getElem hj)))]
    rfl
  generalize vsLight key l = R at *
  unfold maxLen at hn
  clear hr HV
  by_cases h1 : 100 < key.size
  · have e1 := HG.out (.inl h1)
    have h1' : decide ((100 : Int) < (key.size : Int)) = true := by simp; omega
    clear hl
    go_enter Try.func8, Try.ntmps8
    go_wp2
    go_ret
    exact ⟨by first | rfl | (rw [e1]; rfl), HB.out⟩
  · have h1' : decide ((100 : Int) < (key.size : Int)) = false := by simp; omega
    have HK := Lib.hid h1
    clear h1
    by_cases h2 : 12 < n
    · have e1 := HG.out (.inr (by omega))
      clear hl
      go_enter Try.func8, Try.ntmps8
      go_wp2
      go_ret
      exact ⟨by first | rfl | (rw [e1]; rfl), HB.out⟩
    · clear hl
      go_enter Try.func8, Try.ntmps8
      go_upto_region 1 with fail
      generalize w.alloc (.cells #[.string key, .slice A n c] 24) = W0 at *
      have s0 := SX.out.c0
      have s1 := SX.out.c1
      go_wp2
      go_loop [3] (fun i => ∃ k : Nat, k ≤ n ∧ i = .int .i64 (k : Int) ∧ ∀ (j : Nat) (a : Vn), j < k → l[j]? = some a → a.val.size ≤ 100) (fun i => n - (intOf i).toNat)
      case atStart => exact ⟨0, Nat.zero_le _, rfl, fun j a hj => by omega⟩
      case round =>
        obtain ⟨k, hk, rfl, hf⟩ := hrel
        have HA := Lib.hid hf
        clear hf
        by_cases hlt : k < n
        · obtain ⟨x, hx⟩ : ∃ x, l[k]? = some x := ⟨l[k]'(by rw [HL.out]; exact hlt), List.getElem?_eq_getElem _⟩
          obtain ⟨ad, rfl, hv⟩ := (HR.out _ HB.out).vn hx
          have c3 := hv.d3
          have HX := Lib.hid hx
          clear hv hx
          by_cases hb : 100 < x.val.size
          · have e1 := HF.out k x HX.out hb
            have hb' : decide ((100 : Int) < (x.val.size : Int)) = true := by simp; omega
            clear hb
            go_wp2
            go_ret
            exact ⟨by first | rfl | (rw [e1]; rfl), HB.out⟩
          · have hb' : decide ((100 : Int) < (x.val.size : Int)) = false := by simp; omega
            have HC := Lib.hid hb
            clear hb
            go_wp2
            go_round
            case rel => exact ⟨k + 1, by omega, by go_num, fun j a hj ha => by
              by_cases ej : j = k
              · subst ej
                rw [HX.out] at ha
                injection ha with ha
                have := HC.out
                rw [← ha]; omega
              · exact HA.out j a (by omega) ha⟩
            case measure => simp [intOf]; omega
        · obtain rfl : k = n := by omega
          have e1 := HT.out (by have := HK.out; omega) (by rw [HL.out]; omega) (by rw [HL.out]; exact HA.out)
          go_wp2
          go_ret
          exact ⟨by first | rfl | (rw [e1]; rfl), HB.out⟩
end Go.Proofs.Ytjmmaghjbaigiaa
