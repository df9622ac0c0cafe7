/- Records in sectors: whether a text is too big. -/
import Derived.Test.YtochifbbefbehaaWsA
namespace Go.Proofs.Ytochifbbefbehaa
open Go.RowKit
set_option linter.unusedVariables false
set_option linter.unusedSimpArgs false
theorem isTooBig_any (t : List UInt8) (w : World) (ht : t.length ≤ 1000) : Calls Try.prog 41 #[.string (str t)] w fun x w' => x = .returned (.bool (decide (238 < t.length))) ∧ w = w' := by
  have hs := str_size t
  have hd : decide ((238 : Int) < (t.length : Int)) = decide (238 < t.length) := by
    rw [decide_eq_decide]; omega
  go_enter Try.func41, Try.ntmps41
  go_wp2
  go_ret
  simp [hd]
def tooBigP (L : List (List UInt8)) : Bool := L.any fun t => decide (238 < t.length)
set_option maxHeartbeats 1000000 in
theorem indexFunc_any (A : Option Addr) (n c : Nat) (L : List (List UInt8)) (w : World) (hl : L.length = n) (hn : n ≤ 1000) (hs : ∀ t ∈ L, t.length ≤ 1000) (hr : RS w A L) :
    Calls Try.prog 52 #[.slice A n c, .func (.func 41) #[] #[]] w fun x w' => (∃ i : Int, x = .returned (.int .i64 i) ∧ decide (0 ≤ i) = tooBigP L ∧ i ≤ 1000) ∧ w = w' := by
  have HL := Lib.hid hl
  have HR := Lib.hid hr
  have HS := Lib.hid hs
  clear hl hr hs
  go_enter Try.func52, Try.ntmps52
  go_wp2
  go_loop [5, 8] (fun _ i => ∃ k : Nat, k ≤ n ∧ i = .int .i64 (k : Int) ∧ ∀ (j : Nat) (t : List UInt8), j < k → L[j]? = some t → t.length ≤ 238) (fun _ i => n - (intOf i).toNat)
  case atStart => exact ⟨0, Nat.zero_le _, rfl, fun j t hj => by omega⟩
  case round =>
    obtain ⟨k, hk, rfl, hf⟩ := hrel
    have HF := Lib.hid hf
    clear hf
    by_cases hlt : k < n
    · obtain ⟨t, ht⟩ : ∃ t, L[k]? = some t := ⟨L[k]'(by rw [HL.out]; exact hlt), List.getElem?_eq_getElem _⟩
      obtain ⟨ad, rfl, hc⟩ := HR.out.at_ ht
      have h1 := HS.out t (List.mem_of_getElem? ht)
      have KT := Lib.hid fun W => isTooBig_any t W h1
      have HT := Lib.hid ht
      clear ht h1
      by_cases hb : 238 < t.length
      · have HB := Lib.hid (decide_eq_true hb)
        have HX := Lib.hid (show tooBigP L = true from List.any_eq_true.2 ⟨t, List.mem_of_getElem? HT.out, by simpa using hb⟩)
        clear hb
        go_wp2_with (go_at_call 41; refine (KT.out _).mono ?_; rintro e w1 ⟨rfl, rfl⟩; rw [HB.out])
        go_ret
        exact ⟨⟨_, rfl, by rw [HX.out]; simp, by omega⟩, rfl⟩
      · have HB := Lib.hid (decide_eq_false hb)
        clear hb
        go_wp2_with (go_at_call 41; refine (KT.out _).mono ?_; rintro e w1 ⟨rfl, rfl⟩; rw [HB.out])
        go_round
        case rel => exact ⟨k + 1, by omega, by go_num, fun j u hj hu => by
          by_cases hjk : j = k
          · subst hjk
            have e := HT.out.symm.trans hu
            injection e with e
            subst e
            have := of_decide_eq_false HB.out
            omega
          · exact HF.out j u (by omega) hu⟩
        case measure => simp [intOf]; omega
    · obtain rfl : k = n := by omega
      have HX := Lib.hid (show tooBigP L = false from by
        rw [tooBigP, List.any_eq_false]
        intro t ht
        obtain ⟨j, hj, e⟩ := List.getElem_of_mem ht
        have := HF.out j t (by rw [← HL.out]; exact hj) (by rw [← e]; exact List.getElem?_eq_getElem _)
        simp
        omega)
      go_wp2
      go_ret
      exact ⟨⟨_, rfl, by rw [HX.out]; simp, by omega⟩, rfl⟩
theorem containsFunc_any (A : Option Addr) (n c : Nat) (L : List (List UInt8)) (w : World) (hl : L.length = n) (hn : n ≤ 1000) (hs : ∀ t ∈ L, t.length ≤ 1000) (hr : RS w A L) :
    Calls Try.prog 40 #[.slice A n c, .func (.func 41) #[] #[]] w fun x w' => x = .returned (.bool (tooBigP L)) ∧ w = w' := by
  have KI := Lib.hid (indexFunc_any A n c L w hl hn hs hr)
  clear hl hr hs
  go_enter Try.func40, Try.ntmps40
  go_wp2_with (go_at_call 52; refine KI.out.mono ?_; rintro e w1 ⟨⟨i, rfl, hi, _⟩, rfl⟩)
  go_ret
  simp [← hi]
end Go.Proofs.Ytochifbbefbehaa
