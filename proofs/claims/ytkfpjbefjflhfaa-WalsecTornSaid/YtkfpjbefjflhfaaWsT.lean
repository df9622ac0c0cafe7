/- Records in sectors: the statements' same, begins. -/
import Derived.Test.YtkfpjbefjflhfaaWsO
namespace Go.Proofs.Ytkfpjbefjflhfaa
open Go.RowKit
set_option linter.unusedVariables false
set_option linter.unusedSimpArgs false
set_option maxHeartbeats 1000000 in
theorem wsSameB_any (A B : Option Addr) (n c m d : Nat) (L M : List (List UInt8)) (w : World) (hl : L.length = n) (hm : M.length = m) (hn : n ≤ 1000000) (hr : RBS w A L) (hq : RBS w B M) :
    Calls Try.prog 11 #[.slice A n c, .slice B m d] w fun x w' => x = .returned (.bool (decide (L = M))) ∧ Below w.heap.size w w' := by
  have HL := Lib.hid hl
  have HR := Lib.hid hr
  have HM := Lib.hid hm
  have HQ := Lib.hid hq
  by_cases hnm : n = m
  case neg =>
    have HX := Lib.hid (show decide (L = M) = false from decide_eq_false fun e => hnm (by rw [← hl, ← hm, e]))
    have h1 : ((n : Int) == (m : Int)) = false := by simpa using (by omega : ¬ (n : Int) = (m : Int))
    have h2 : ((n : Int) != (m : Int)) = true := by simpa using (by omega : ¬ (n : Int) = (m : Int))
    clear hl hm hr hq hnm
    go_enter Try.func11, Try.ntmps11
    go_wp2
    go_ret
    exact ⟨by rw [HX.out]; rfl, Below.refl _ _⟩
  subst hnm
  have h1 : ((n : Int) == (n : Int)) = true := by simp
  have h2 : ((n : Int) != (n : Int)) = false := by simp
  have ST : Hid (∃ k : Nat, k ≤ n ∧ (Value.int .i64 0) = .int .i64 (k : Int) ∧ (∀ j, j < k → L[j]? = M[j]?) ∧ Below w.heap.size w w) := Lib.hid ⟨0, Nat.zero_le _, rfl, fun j hj => by omega, Below.refl _ _⟩
  clear hl hm hr hq
  go_enter Try.func11, Try.ntmps11
  go_wp2
  go_loopw [5] (fun i wr => ∃ k : Nat, k ≤ n ∧ i = .int .i64 (k : Int) ∧ (∀ j, j < k → L[j]? = M[j]?) ∧ Below w.heap.size w wr) (fun i _ => n - (intOf i).toNat)
  case atStart => exact ST.out
  case round =>
    clear ST
    obtain ⟨k, hk, rfl, hf, hB⟩ := hrel
    have HF := Lib.hid hf
    have HB := Lib.hid hB
    clear hf
    by_cases hlt : k < n
    · obtain ⟨t, ht⟩ : ∃ t, L[k]? = some t := ⟨L[k]'(by rw [HL.out]; exact hlt), List.getElem?_eq_getElem _⟩
      obtain ⟨u, hu⟩ : ∃ u, M[k]? = some u := ⟨M[k]'(by rw [HM.out]; exact hlt), List.getElem?_eq_getElem _⟩
      obtain ⟨ad, A1, c1, rfl, hc, _, _, hr1⟩ := HR.out.below hB k t ht
      obtain ⟨bd, A2, c2, rfl, hd, _, _, hr2⟩ := HQ.out.below hB k u hu
      have hse := str_eq t u
      have HT := Lib.hid ht
      have HU := Lib.hid hu
      have hs1 := run_str wr.drew A1 t.length c1 t rfl hr1.drew
      have hs2 := run_str wr.drew A2 u.length c2 u rfl hr2.drew
      have hc' : wr.drew.cell? (ad.add k) = _ := hc
      have hd' : wr.drew.cell? (bd.add k) = _ := hd
      have hlt' : (k : Int) < (n : Int) := by omega
      clear ht hu hB hr1 hr2
      by_cases hb : t = u
      · rw [decide_eq_true hb] at hse
        have HF1 := Lib.hid (show ∀ j, j < k + 1 → L[j]? = M[j]? from fun j hj => by
          by_cases hjk : j = k
          · subst hjk
            rw [HT.out, HU.out, hb]
          · exact HF.out j (by omega))
        clear hb HF HT HU
        go_upto_region 6 with (fail)
        go_region_held3 (fun V => V.cell? (ad.add k) = some (.slice A1 t.length c1) ∧ V.cell? (bd.add k) = some (.slice A2 u.length c2) ∧ (convert 34 9 (.slice A1 t.length c1)).run Try.prog V = .ok (.string (str t)) V ∧ (convert 34 9 (.slice A2 u.length c2)).run Try.prog V = .ok (.string (str u)) V) (first | exact ⟨hc', hd', hs1, hs2⟩) (first | fail)
        go_wp2
        go_roundw
        case rel => exact ⟨k + 1, by omega, by go_num, HF1.out, HB.out.drew⟩
        case measure => simp [intOf]; omega
      · rw [decide_eq_false hb] at hse
        have HX := Lib.hid (show decide (L = M) = false from decide_eq_false fun e => hb (by
          have := HT.out.symm.trans ((congrArg (·[k]?) e).trans HU.out)
          exact Option.some.inj this))
        clear hb HF HT HU
        go_upto_region 6 with (fail)
        go_region_held3 (fun V => V.cell? (ad.add k) = some (.slice A1 t.length c1) ∧ V.cell? (bd.add k) = some (.slice A2 u.length c2) ∧ (convert 34 9 (.slice A1 t.length c1)).run Try.prog V = .ok (.string (str t)) V ∧ (convert 34 9 (.slice A2 u.length c2)).run Try.prog V = .ok (.string (str u)) V) (first | exact ⟨hc', hd', hs1, hs2⟩) (first | fail)
        go_wp2
        go_ret
        exact ⟨by rw [HX.out]; rfl, HB.out.drew⟩
    · obtain rfl : k = n := by omega
      have HX := Lib.hid (show decide (L = M) = true from decide_eq_true (List.ext_getElem? fun j => by
        by_cases hj : j < k
        · exact HF.out j hj
        · rw [List.getElem?_eq_none (by rw [HL.out]; omega), List.getElem?_eq_none (by rw [HM.out]; omega)]))
      go_wp2
      go_ret
      exact ⟨by rw [HX.out]; rfl, HB.out⟩
set_option maxHeartbeats 1000000 in
theorem begins_any (A B : Option Addr) (n c m d : Nat) (L M : List (List UInt8)) (w : World) (hl : L.length = n) (hm : M.length = m) (hn : n ≤ 1000000) (hmd : m ≤ d) (hm2 : m ≤ 1000000) (hd : d ≤ maxLen) (hr : RS w A L) (hq : RS w B M) (hp : ∃ N, M = L ++ N) :
    Calls Try.prog 19 #[.slice A n c, .slice B m d] w fun x w' => x = .returned (.bool true) ∧ Below w.heap.size w w' := by
  obtain ⟨N, hN⟩ := hp
  have hle : n ≤ m := by rw [← hl, ← hm, hN]; simp
  have htk : M.take n = L := by rw [hN, ← hl]; simp
  have KS := Lib.hid (wsSame_any A B n c n d L (M.take n) w hl (by rw [List.length_take]; omega) hn hr (hq.take n))
  rw [htk, decide_eq_true rfl] at KS
  have hle' : (n : Int) ≤ (m : Int) := by omega
  have hmin : (if (n : Int) < (m : Int) then (n : Int) else (m : Int)) = (n : Int) := by split <;> omega
  unfold maxLen at hd
  clear hl hm hr hq hN htk
  go_enter Try.func19, Try.ntmps19
  go_wp2_with (go_at_call 16; refine KS.out.mono ?_; rintro x w1 ⟨rfl, b⟩; (have B1 := Lib.hid b); clear b)
  go_ret
  exact ⟨rfl, B1.out⟩
end Go.Proofs.Ytkfpjbefjflhfaa
