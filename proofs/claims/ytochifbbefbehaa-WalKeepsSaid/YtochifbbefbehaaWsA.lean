/- Records in sectors: epochs, how many texts go into a sector, how many sectors, texts that are too big. -/
import Derived.Test.YtochifbbefbehaaWsP
import Derived.Test.YtochifbbefbehaaTsA
import Derived.Test.YtochifbbefbehaaArA
namespace Go.Proofs.Ytochifbbefbehaa
open Go.RowKit
set_option linter.unusedVariables false
set_option linter.unusedSimpArgs false
theorem isEpoch_any (e : Int) (w : World) : Calls Try.prog 39 #[.int .i64 e] w fun x w' => x = .returned (.bool (decide (1 ≤ e ∧ e ≤ 1099511627776))) ∧ w = w' := by
  by_cases h1 : 1 ≤ e
  · by_cases h2 : e ≤ 1099511627776
    · go_enter Try.func39, Try.ntmps39
      go_wp2
      go_ret
      simp [h1, h2]
    · go_enter Try.func39, Try.ntmps39
      go_wp2
      go_ret
      simp [h1, h2]
  · go_enter Try.func39, Try.ntmps39
    go_wp2
    go_ret
    simp
    omega
/-- How many texts go into a sector, when it is known that the first k do. -/
def fitAt (L : List (List UInt8)) (k : Nat) : Nat := if k = 0 then fitsP L else k + fitK (wsSize (L.take k)) (L.drop k)
theorem fitAt_end (L : List (List UInt8)) : fitAt L L.length = L.length := by
  unfold fitAt
  split
  · rename_i h
    obtain rfl := List.eq_nil_of_length_eq_zero h
    rfl
  · simp [fitK]
theorem drop_cons {L : List (List UInt8)} {k : Nat} {t : List UInt8} (h : L[k]? = some t) : L.drop k = t :: L.drop (k + 1) := by
  obtain ⟨h1, h2⟩ := List.getElem?_eq_some_iff.1 h
  rw [List.drop_eq_getElem_cons h1, h2]
theorem fitAt_next {L : List (List UInt8)} {k : Nat} {t : List UInt8} (h : L[k]? = some t) (hk : k = 0 ∨ wsSize (L.take (k + 1)) ≤ 239) : fitAt L (k + 1) = fitAt L k := by
  unfold fitAt
  rw [if_neg (by omega)]
  rcases Nat.eq_zero_or_pos k with rfl | h0
  · rw [if_pos rfl]
    cases L with
    | nil => simp at h
    | cons a r =>
      simp at h
      subst h
      simp [fitsP, wsSize, Nat.add_comm]
  · rw [if_neg (by omega), drop_cons h]
    rw [wsSize_take h] at *
    simp only [fitK]
    rw [if_neg (by omega)]
    omega
theorem fitAt_stop {L : List (List UInt8)} {k : Nat} {t : List UInt8} (h : L[k]? = some t) (hk : 0 < k) (hz : 239 < wsSize (L.take (k + 1))) : fitAt L k = k := by
  unfold fitAt
  rw [if_neg (by omega), drop_cons h]
  rw [wsSize_take h] at hz
  simp only [fitK]
  rw [if_pos (by omega)]
  rfl
theorem wsSize_big {L : List (List UInt8)} (h : ∀ t ∈ L, t.length ≤ 1000) : wsSize L ≤ 1001 * L.length := by
  induction L with
  | nil => simp [wsSize]
  | cons t r ih =>
    have := ih fun x hx => h x (by simp [hx])
    have := h t (by simp)
    simp [wsSize]
    omega
set_option maxHeartbeats 1000000 in
theorem fits_any (A : Option Addr) (n c : Nat) (L : List (List UInt8)) (w : World) (hl : L.length = n) (hn : n ≤ 1000) (hs : ∀ t ∈ L, t.length ≤ 1000) (hr : RS w A L) :
    Calls Try.prog 42 #[.slice A n c] w fun x w' => x = .returned (.int .i64 (fitsP L : Int)) ∧ w = w' := by
  have HL := Lib.hid hl
  have HR := Lib.hid hr
  have HS := Lib.hid fun k => wsSize_big (L := L.take k) fun t ht => hs t (List.mem_of_mem_take ht)
  clear hl hr hs
  go_enter Try.func42, Try.ntmps42
  go_wp2
  go_loop [3, 4, 5, 8] (fun u _ _ i => ∃ k : Nat, k ≤ n ∧ i = .int .i64 (k : Int) ∧ u = .int .i64 (239 - (wsSize (L.take k) : Int)) ∧ fitsP L = fitAt L k) (fun _ _ _ i => n - (intOf i).toNat)
  case atStart => exact ⟨0, Nat.zero_le _, rfl, rfl, rfl⟩
  case round =>
    obtain ⟨k, hk, rfl, rfl, hf⟩ := hrel
    have HF := Lib.hid hf
    clear hf
    by_cases hlt : k < n
    · obtain ⟨t, ht⟩ : ∃ t, L[k]? = some t := ⟨L[k]'(by rw [HL.out]; exact hlt), List.getElem?_eq_getElem _⟩
      obtain ⟨ad, rfl, hc⟩ := HR.out.at_ ht
      have hz := wsSize_take ht
      have h1 := HS.out k
      have h2 := HS.out (k + 1)
      rw [List.length_take, HL.out] at h1 h2
      have HZ := Lib.hid hz
      have HT := Lib.hid ht
      have hsz := str_size t
      have e : (239 : Int) - (wsSize (L.take k) : Int) - (1 + (t.length : Int)) = 239 - (wsSize (L.take (k + 1)) : Int) := by omega
      by_cases hk0 : k = 0
      · subst hk0
        rw [Addr.add_nought] at hc
        have HN := Lib.hid (fitAt_next ht (.inl rfl))
        clear ht hz
        generalize hz1 : wsSize (L.take (0 + 1)) = z at *
        have HZ1 := Lib.hid hz1
        clear hz1
        generalize wsSize (L.take 0) = y at *
        go_wp2
        go_round
        case rel => exact ⟨1, by omega, by go_num, by have := HZ1.out; simp only [Nat.zero_add] at this; go_num, by rw [HN.out]; exact HF.out⟩
        case measure => simp [intOf]; omega
      · by_cases hg : 239 < wsSize (L.take (k + 1))
        · have HN := Lib.hid (fitAt_stop ht (by omega) hg)
          clear ht hz
          generalize hz1 : wsSize (L.take (k + 1)) = z at *
          have HZ1 := Lib.hid hz1
          clear hz1
          generalize wsSize (L.take k) = y at *
          have hk1 : (0 : Int) < (k : Int) := by omega
          have hneg : (239 : Int) - (z : Int) < 0 := by omega
          go_wp2
          go_ret
          rw [HF.out, HN.out]
          exact ⟨rfl, rfl⟩
        · have HN := Lib.hid (fitAt_next ht (.inr (Nat.le_of_not_lt hg)))
          clear ht hz
          generalize hz1 : wsSize (L.take (k + 1)) = z at *
          have HZ1 := Lib.hid hz1
          clear hz1
          generalize wsSize (L.take k) = y at *
          have hk1 : (0 : Int) < (k : Int) := by omega
          have hneg : ¬ (239 : Int) - (z : Int) < 0 := by omega
          go_wp2
          go_round
          case rel => exact ⟨k + 1, by omega, by go_num, by rw [HZ1.out], by rw [HN.out]; exact HF.out⟩
          case measure => simp [intOf]; omega
    · obtain rfl : k = n := by omega
      have hE := fitAt_end L
      rw [HL.out] at hE
      have HE := Lib.hid hE
      clear hE
      go_wp2
      go_ret
      rw [HF.out, HE.out]
      exact ⟨rfl, rfl⟩
theorem RS.drop0 {w : World} {ad : Addr} {L : List (List UInt8)} (h : RS w (some ad) L) (k : Nat) (hk : 0 < k) : RS w (some ⟨ad.block, ad.off + k, none⟩) (L.drop k) := by
  have := h.drop k
  rwa [show ad.add k = ⟨ad.block, ad.off + k, none⟩ from by unfold Addr.add; rw [if_neg (by omega)]] at this
theorem RS.some_of {w : World} {A : Option Addr} {L : List (List UInt8)} (h : RS w A L) (hl : 0 < L.length) : ∃ ad, A = some ad := by
  obtain ⟨ad, e, _⟩ := h 0 (L[0]'hl) (List.getElem?_eq_getElem _)
  exact ⟨ad, e⟩
set_option maxHeartbeats 1000000 in
theorem parts_any (A : Option Addr) (n c : Nat) (L : List (List UInt8)) (w : World) (hl : L.length = n) (hn : n ≤ 1000) (hc : n ≤ c) (hm : c ≤ maxLen) (hs : ∀ t ∈ L, t.length ≤ 1000) (hr : RS w A L) :
    Calls Try.prog 32 #[.slice A n c] w fun x w' => x = .returned (.int .i64 ((grp L).length : Int)) ∧ w = w' := by
  have hgl := grp_len L
  rw [hl] at hgl
  have H0 := Lib.hid (show ∃ (A' : Option Addr) (n' c' j : Nat) (M : List (List UInt8)), Value.slice A n c = .slice A' n' c' ∧ M.length = n' ∧ n' ≤ c' ∧ c' ≤ maxLen ∧ n' ≤ 1000 ∧ (∀ t ∈ M, t.length ≤ 1000) ∧ RS w A' M ∧ (0 : Int) = (j : Int) ∧ j + (grp M).length = (grp L).length from ⟨A, n, c, 0, L, rfl, hl, hc, hm, hn, hs, hr, rfl, Nat.zero_add _⟩)
  clear hl hr hs hc hm
  go_enter Try.func32, Try.ntmps32
  go_wp2
  go_loop [0, 3] (fun v i => ∃ (A' : Option Addr) (n' c' j : Nat) (M : List (List UInt8)), v = .slice A' n' c' ∧ M.length = n' ∧ n' ≤ c' ∧ c' ≤ maxLen ∧ n' ≤ 1000 ∧ (∀ t ∈ M, t.length ≤ 1000) ∧ RS w A' M ∧ i = .int .i64 (j : Int) ∧ j + (grp M).length = (grp L).length) (fun v _ => match v with | .slice _ n _ => n | _ => 0)
  case atStart =>
    obtain ⟨A', n', c', j, M, h0, h1, h2, h3, h4, h5, h6, h7, h8⟩ := H0.out
    exact ⟨A', n', c', j, M, h0, h1, h2, h3, h4, h5, h6, by rw [h7], h8⟩
  case round =>
    clear H0
    obtain ⟨A', n', c', j, M, rfl, h1, h2, h3, h4, h5, h6, rfl, h8⟩ := hrel
    by_cases hlt : 0 < n'
    · obtain ⟨ad, rfl⟩ := h6.some_of (by omega)
      have hp := fitsP_pos (l := M) (by omega)
      have hle := fitsP_le M
      rw [h1] at hle
      have hg := congrArg List.length (grp_cons (l := M) (by omega))
      rw [List.length_cons] at hg
      have KF := Lib.hid (fun (W : World) (hr : RS W (some ad) M) => fits_any (some ad) n' c' M W h1 h4 h5 hr)
      have H6 := Lib.hid h6
      have H1 := Lib.hid h1
      have H5 := Lib.hid h5
      have H8 := Lib.hid h8
      have HG := Lib.hid hg
      have hj : j ≤ 1000 := by omega
      have hlt' : (0 : Int) < (n' : Int) := by omega
      clear h6 h1 h5 h8 hg
      generalize hf : fitsP M = f at *
      have HFe := Lib.hid hf
      clear hf
      go_wp2_with (go_at_call 42; refine (KF.out _ (show RS _ _ _ from H6.out)).mono ?_; rintro e w1 ⟨rfl, rfl⟩)
      go_round
      case rel =>
        refine ⟨_, n' - f, c' - f, j + 1, M.drop f, rfl, by rw [List.length_drop, H1.out], by omega, by omega, by omega, fun t ht => H5.out t (List.mem_of_mem_drop ht), ?_, by go_num, by have := H8.out; have := HG.out; omega⟩
        by_cases hcf : c' = f
        · rw [if_pos hcf, List.drop_of_length_le (by rw [H1.out]; omega)]
          exact RS.nil
        · rw [if_neg hcf]
          exact H6.out.drop f
      case measure => go_num
    · have h9 : (grp M).length = 0 := by
        obtain rfl := List.eq_nil_of_length_eq_zero (by omega : M.length = 0)
        rw [grp_nil]; rfl
      obtain rfl : n' = 0 := by omega
      go_wp2
      go_ret
      rw [show j = (grp L).length by omega]
      exact ⟨rfl, rfl⟩
end Go.Proofs.Ytochifbbefbehaa
