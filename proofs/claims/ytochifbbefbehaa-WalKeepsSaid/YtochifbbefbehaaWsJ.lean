/- Records in sectors: the document's Light, Same, stamp. -/
import Derived.Test.YtochifbbefbehaaWsI
namespace Go.Proofs.Ytochifbbefbehaa
open Go.RowKit
set_option linter.unusedVariables false
set_option linter.unusedSimpArgs false
def lightB (L : List (List UInt8)) (m : Int) : Bool := decide ((L.length : Int) ≤ m) && L.all fun t => decide (t.length ≤ 300)
theorem lightB_iff {L : List (List UInt8)} {m : Int} : lightB L m = true ↔ (L.length : Int) ≤ m ∧ ∀ t ∈ L, t.length ≤ 300 := by simp [lightB]
theorem str_eq (a b : List UInt8) : ((str a).toList == (str b).toList) = decide (a = b) := by
  have h2 : ∀ l : List UInt8, (str l).toList = l := fun l => by simp [str, ByteArray.toList_eq]
  rw [h2, h2, Bool.eq_iff_iff]
  simp
set_option maxHeartbeats 1000000 in
theorem wsSame_any (A B : Option Addr) (n c m d : Nat) (L M : List (List UInt8)) (w : World) (hl : L.length = n) (hm : M.length = m) (hn : n ≤ 1000000) (hr : RS w A L) (hq : RS w B M) :
    Calls Try.prog 20 #[.slice A n c, .slice B m d] w fun x w' => x = .returned (.bool (decide (L = M))) ∧ Below w.heap.size w w' := by
  have HL := Lib.hid hl
  have HR := Lib.hid hr
  have HM := Lib.hid hm
  have HQ := Lib.hid hq
  by_cases hnm : n = m
  case neg =>
    have HX := Lib.hid (show decide (L = M) = false from decide_eq_false fun e => hnm (by rw [← hl, ← hm, e]))
    have h1 : ((n : Int) == (m : Int)) = false := by simpa using (by omega : ¬ (n : Int) = (m : Int))
    have h2 : ((n : Int) != (m : Int)) = true := by simpa using (by omega : ¬ (n : Int) = (m : Int))
    clear hl hm hr hq hnm
    go_enter Try.func20, Try.ntmps20
    go_wp2
    go_ret
    exact ⟨by rw [HX.out]; rfl, Below.refl _ _⟩
  subst hnm
  have h1 : ((n : Int) == (n : Int)) = true := by simp
  have h2 : ((n : Int) != (n : Int)) = false := by simp
  have ST : Hid (∃ k : Nat, k ≤ n ∧ (Value.int .i64 0) = .int .i64 (k : Int) ∧ (∀ j, j < k → L[j]? = M[j]?) ∧ Below w.heap.size w w) := Lib.hid ⟨0, Nat.zero_le _, rfl, fun j hj => by omega, Below.refl _ _⟩
  clear hl hm hr hq
  go_enter Try.func20, Try.ntmps20
  go_wp2
  go_loopw [5] (fun i wr => ∃ k : Nat, k ≤ n ∧ i = .int .i64 (k : Int) ∧ (∀ j, j < k → L[j]? = M[j]?) ∧ Below w.heap.size w wr) (fun i _ => n - (intOf i).toNat)
  case atStart => exact ST.out
  case round =>
    clear ST
    obtain ⟨k, hk, rfl, hf, hB⟩ := hrel
    have HF := Lib.hid hf
    have HB := Lib.hid hB
    clear hf
    by_cases hlt : k < n
    · obtain ⟨t, ht⟩ : ∃ t, L[k]? = some t := ⟨L[k]'(by rw [HL.out]; exact hlt), List.getElem?_eq_getElem _⟩
      obtain ⟨u, hu⟩ : ∃ u, M[k]? = some u := ⟨M[k]'(by rw [HM.out]; exact hlt), List.getElem?_eq_getElem _⟩
      obtain ⟨ad, rfl, hc⟩ := (HR.out.below hB).at_ ht
      obtain ⟨bd, rfl, hd⟩ := (HQ.out.below hB).at_ hu
      have hse := str_eq t u
      have HT := Lib.hid ht
      have HU := Lib.hid hu
      have hlt' : (k : Int) < (n : Int) := by omega
      clear ht hu hB
      by_cases hb : t = u
      · rw [decide_eq_true hb] at hse
        have HF1 := Lib.hid (show ∀ j, j < k + 1 → L[j]? = M[j]? from fun j hj => by
          by_cases hjk : j = k
          · subst hjk
            rw [HT.out, HU.out, hb]
          · exact HF.out j (by omega))
        clear hb HF HT HU
        go_wp2
        go_quiet (fail)
        go_wp2
        go_roundw
        case rel => exact ⟨k + 1, by omega, by go_num, HF1.out, drewN_below HB.out _⟩
        case measure => simp [intOf]; omega
      · rw [decide_eq_false hb] at hse
        have HX := Lib.hid (show decide (L = M) = false from decide_eq_false fun e => hb (by
          have := HT.out.symm.trans ((congrArg (·[k]?) e).trans HU.out)
          exact Option.some.inj this))
        clear hb HF HT HU
        go_wp2
        go_quiet (fail)
        go_wp2
        go_ret
        exact ⟨by rw [HX.out]; rfl, drewN_below HB.out _⟩
    · obtain rfl : k = n := by omega
      have HX := Lib.hid (show decide (L = M) = true from decide_eq_true (List.ext_getElem? fun j => by
        by_cases hj : j < k
        · exact HF.out j hj
        · rw [List.getElem?_eq_none (by rw [HL.out]; omega), List.getElem?_eq_none (by rw [HM.out]; omega)]))
      go_wp2
      go_ret
      exact ⟨by rw [HX.out]; rfl, HB.out⟩
end Go.Proofs.Ytochifbbefbehaa
