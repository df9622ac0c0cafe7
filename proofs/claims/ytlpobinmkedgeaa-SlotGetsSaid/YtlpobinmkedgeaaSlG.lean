/- Slots: the number that all sectors tell. -/
import Derived.Test.YtlpobinmkedgeaaSlC
import Derived.Test.YtlpobinmkedgeaaSlE
namespace Go.Proofs.Ytlpobinmkedgeaa
open Go.RowKit
set_option linter.unusedVariables false
set_option linter.unusedSimpArgs false
theorem shared_eq {L : List (List UInt8)} {l0 : List UInt8} (h4 : L.length = 4) (h0 : L[0]? = some l0) (h : ∀ b ∈ L, stampP b = stampP l0) : sharedP L = stampP l0 := by
  have e : L.getD 0 [] = l0 := by rw [List.getD_eq_getElem?_getD, h0]; rfl
  unfold sharedP
  rw [e, if_pos ⟨h4, h⟩]
theorem shared_zero {L : List (List UInt8)} {l0 b : List UInt8} (h0 : L[0]? = some l0) (hb : b ∈ L) (h : stampP b = 0 ∨ stampP b ≠ stampP l0) : sharedP L = 0 := by
  have e : L.getD 0 [] = l0 := by rw [List.getD_eq_getElem?_getD, h0]; rfl
  unfold sharedP
  rw [e]
  split
  · rename_i h1
    rcases h with h | h
    · rw [← h1.2 b hb, h]
    · exact absurd (h1.2 b hb) h
  · rfl
theorem shared_len {L : List (List UInt8)} (h : L.length ≠ 4) : sharedP L = 0 := by
  unfold sharedP
  rw [if_neg (fun h1 => h h1.1)]
theorem RBS.at {w : World} {ad : Addr} {L : List (List UInt8)} (h : RBS w (some ad) L) {k : Nat} {l : List UInt8} (hk : L[k]? = some l) : ∃ (B : Option Addr) (c : Nat), w.cell? (ad.add k) = some (.slice B l.length c) ∧ l.length ≤ c ∧ c ≤ maxLen ∧ RB w B l := by
  obtain ⟨ad', B, c, e, h1, h2⟩ := h k l hk
  injection e with e
  subst e
  exact ⟨B, c, h1, h2⟩
theorem RBS.some_of {w : World} {A : Option Addr} {L : List (List UInt8)} (h : RBS w A L) (hl : 0 < L.length) : ∃ ad, A = some ad := by
  obtain ⟨ad, _, _, e, _⟩ := h 0 L[0] (List.getElem?_eq_getElem hl)
  exact ⟨ad, e⟩
set_option maxHeartbeats 1000000 in
set_option maxRecDepth 100000 in
theorem shared_any (A : Option Addr) (n c : Nat) (L : List (List UInt8)) (w : World) (hl : L.length = n) (hn : n ≤ c) (hc : c ≤ maxLen) (hr : RBS w A L) :
    Calls Try.prog 22 #[.slice A n c] w fun e w' => e = .returned (.int .i64 (sharedP L : Int)) ∧ Below w.heap.size w w' := by
  unfold maxLen at hc
  by_cases h4 : n = 4
  · subst h4
    obtain ⟨ad, rfl⟩ := hr.some_of (by omega)
    obtain ⟨l0, h0⟩ : ∃ l0, L[0]? = some l0 := ⟨L[0]'(by omega), List.getElem?_eq_getElem _⟩
    obtain ⟨B0, c0, x0, x1, x2, x3⟩ := hr.at h0
    rw [Addr.add_nought] at x0
    have HE := Lib.hid (fun h => shared_eq hl h0 h)
    have HO := Lib.hid (fun b hb h => shared_zero (b := b) h0 hb h)
    have HR := Lib.hid hr
    have HL := Lib.hid hl
    have K0 := Lib.hid (stamp_any B0 l0.length c0 l0 w rfl x1 x2 x3)
    obtain ⟨gen, hgen⟩ : ∃ gen, gen = stampP l0 := ⟨_, rfl⟩
    rw [← hgen] at K0 HE HO
    clear hr x1 x2 x3 hgen hl h0
    generalize okP l0 = ok0 at *
    generalize l0.length = n0 at *
    generalize sharedP L = sh at *
    go_enter Try.func22, Try.ntmps22
    go_wp2_with fail
    refine K0.out.mono ?_
    rintro e w1 ⟨rfl, b1⟩
    have B1 := Lib.hid b1
    clear b1 K0 x0
    go_wp2
    go_loopw [6, 7, 8, 21] (fun _ _ _ i wr => ∃ k : Nat, k ≤ 4 ∧ i = .int .i64 k ∧ Below w.heap.size w wr ∧ ∀ b ∈ L.take k, stampP b = gen) (fun _ _ _ i _ => 4 - (intOf i).toNat)
    case atStart => exact ⟨0, Nat.zero_le _, rfl, B1.out, fun b hb => by simp at hb⟩
    case round =>
      obtain ⟨k, hk, rfl, hB, hP⟩ := hrel
      by_cases hlt : k < 4
      · obtain ⟨b, hb⟩ : ∃ b, L[k]? = some b := ⟨L[k]'(by rw [HL.out]; omega), List.getElem?_eq_getElem _⟩
        obtain ⟨B, cb, y0, y1, y2, y3⟩ := (HR.out.below hB).at hb
        have KB := Lib.hid (stamp_any B b.length cb b wr rfl y1 y2 y3)
        have HT := Lib.hid (show ∀ x ∈ L.take (k + 1), x ∈ L.take k ∨ x = b from fun x hx => by
          rw [List.take_add_one, hb] at hx
          simpa using hx)
        have HM := Lib.hid (List.mem_of_getElem? hb)
        have HOK : Hid (okP b = decide (stampP b ≠ 0)) := Lib.hid rfl
        obtain ⟨sp, hsp⟩ : ∃ sp, sp = stampP b := ⟨_, rfl⟩
        have HSP := Lib.hid hsp
        have hB' := Lib.hid hB
        have hP' := Lib.hid hP
        have hge := Lib.hid hB.size
        rw [← hsp] at KB HOK
        clear hb y1 y2 y3 hsp hP hB
        generalize okP b = ok at *
        generalize b.length = nb at *
        go_wp2_with fail
        refine KB.out.mono ?_
        rintro e w2 ⟨rfl, b2⟩
        have B2 := Lib.hid (hB'.out.trans (b2.mono hge.out))
        clear b2 KB y0
        by_cases hz : sp = 0
        · have hok : ok = false := by rw [HOK.out]; simp [hz]
          have H0 := Lib.hid (HO.out b HM.out (.inl (by rw [← HSP.out, hz])))
          subst hok
          clear hz HOK
          go_wp2
          go_ret
          exact ⟨by rw [H0.out]; rfl, B2.out⟩
        · have hok : ok = true := by rw [HOK.out]; simp [hz]
          subst hok
          clear hz HOK
          by_cases hg : sp = gen
          · have hbb : ((sp : Int) != (gen : Int)) = false := by rw [hg]; simp
            have HG := Lib.hid hg
            clear hg
            go_wp2
            go_roundw
            case rel => exact ⟨k + 1, by omega, by go_num, B2.out, fun x hx => by rcases HT.out x hx with h | rfl; exact hP'.out x h; rw [← HSP.out, HG.out]⟩
            case measure => simp [intOf]; omega
          · have hbb : ((sp : Int) != (gen : Int)) = true := by rw [bne_iff_ne]; omega
            have H0 := Lib.hid (HO.out b HM.out (.inr (by rw [← HSP.out]; exact hg)))
            clear hg
            go_wp2
            go_ret
            exact ⟨by rw [H0.out]; rfl, B2.out⟩
      · obtain rfl : k = 4 := by omega
        have H0 := Lib.hid (HE.out (fun b hb => hP b (by rw [List.take_of_length_le (by rw [HL.out]; exact Nat.le_refl _)]; exact hb)))
        have hB' := Lib.hid hB
        clear hP hB
        go_wp2
        go_ret
        exact ⟨by rw [H0.out]; rfl, hB'.out⟩
  · have H0 := Lib.hid (shared_len (L := L) (by omega))
    have hb : ((n : Int) != 4) = true := by rw [bne_iff_ne]; omega
    clear h4 hr
    go_enter Try.func22, Try.ntmps22
    go_wp2
    go_ret
    exact ⟨by rw [H0.out]; rfl, Below.refl _ _⟩
end Go.Proofs.Ytlpobinmkedgeaa
