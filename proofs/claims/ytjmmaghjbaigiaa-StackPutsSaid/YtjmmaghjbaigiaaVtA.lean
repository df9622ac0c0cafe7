/- The document's stacks: place, with, Pending, Same. -/
import Derived.Test.YtjmmaghjbaigiaaVsE
import Derived.Test.YtjmmaghjbaigiaaVsF
import Derived.Test.YtjmmaghjbaigiaaVsS
import Derived.Deep.CutBlock
namespace Go.Proofs.Ytjmmaghjbaigiaa
open Go.RowKit
set_option linter.unusedVariables false
set_option linter.unusedSimpArgs false
set_option maxHeartbeats 1000000 in
set_option maxRecDepth 100000 in
theorem refSame_any (k1 k2 : ByteArray) (A B : Option Addr) (n m c d : Nat) (L M : List Vn) (w : World) (hl : L.length = n) (hm : M.length = m) (hn : n ≤ 1000) (hr : RG KV w A L) (hs : RG KV w B M) :
    Calls Try.prog 14 #[.agg #[.string k1, .slice A n c], .agg #[.string k2, .slice B m d]] w fun e w' => e = .returned (.bool (vsSame k1 L k2 M)) ∧ Below w.heap.size w w' := by
  have hq := ba_toList k1 k2
  have HB := Lib.hid (below2 w (.cells #[.string k1, .slice A n c] 24) (.cells #[.string k2, .slice B m d] 24))
  have SX := Lib.hid ((StBox.new w k1 A n c 24).alloc (.cells #[.string k2, .slice B m d] 24))
  have TX : Hid (StBox ((w.alloc (.cells #[.string k1, .slice A n c] 24)).alloc (.cells #[.string k2, .slice B m d] 24)) (w.heap.size + 1) k2 B m d) := Lib.hid (by
    have := StBox.new (w.alloc (.cells #[.string k1, .slice A n c] 24)) k2 B m d 24
    rw [heap_size_alloc] at this
    exact this)
  have HL := Lib.hid hl
  have HM := Lib.hid hm
  have HR := Lib.hid (fun W (h : Below w.heap.size w W) => hr.below h)
  have HS := Lib.hid (fun W (h : Below w.heap.size w W) => hs.below h)
  obtain ⟨R, hR⟩ : ∃ R, R = vsSame k1 L k2 M := ⟨_, rfl⟩
  rw [← hR]
  have HV : Hid (R = (decide (k1 = k2) && decide (L = M))) := Lib.hid hR
  clear hR hr hs
  by_cases hk : k1 = k2
  · rw [decide_eq_true hk] at hq
    have HK := Lib.hid hk
    clear hk
    by_cases hnm : n = m
    · subst hnm
      have hb0 : ((n : Int) != (n : Int)) = false := by simp
      clear hl hm
      go_enter Try.func14, Try.ntmps14
      go_upto_region 1 with fail
      generalize (w.alloc (.cells #[.string k1, .slice A n c] 24)).alloc (.cells #[.string k2, .slice B n d] 24) = W0 at *
      have s0 := SX.out.c0; have s1 := SX.out.c1; have t0 := TX.out.c0; have t1 := TX.out.c1
      go_wp2
      go_loopw [5] (fun i wr => ∃ (k q : Nat), k ≤ n ∧ i = .int .i64 k ∧ L.take k = M.take k ∧ wr = W0.drewN q) (fun i _ => n - (intOf i).toNat)
      case atStart => exact ⟨0, 0, Nat.zero_le _, rfl, rfl, rfl⟩
      case round =>
        obtain ⟨k, q, hk, rfl, hP, hwr⟩ := hrel
        have hb := drewN_below HB.out q
        have bq := drewN_below (Below.refl W0.heap.size W0) q
        rw [← hwr] at hb bq
        have s0 := (SX.out.on bq).c0; have s1 := (SX.out.on bq).c1; have t0 := (TX.out.on bq).c0; have t1 := (TX.out.on bq).c1
        have HW := Lib.hid hwr
        clear hwr bq
        by_cases hlt : k < n
        · obtain ⟨a, ha⟩ : ∃ a, L[k]? = some a := ⟨L[k]'(by rw [HL.out]; omega), List.getElem?_eq_getElem _⟩
          obtain ⟨b, hbb⟩ : ∃ b, M[k]? = some b := ⟨M[k]'(by rw [HM.out]; omega), List.getElem?_eq_getElem _⟩
          obtain ⟨ad, rfl, hv⟩ := (HR.out _ hb).vn ha
          obtain ⟨bd, rfl, hv2⟩ := (HS.out _ hb).vn hbb
          have c0 := hv.d0; have c1 := hv.d1; have c2 := hv.d2; have c3 := hv.d3
          have d0 := hv2.d0; have d1 := hv2.d1; have d2 := hv2.d2; have d3 := hv2.d3
          have HT := Lib.hid (vs_take_snoc hP ha hbb)
          have HN := Lib.hid (vs_ne_at ha hbb)
          have heq := fun W => vsEqV 9998 W a b
          rw [vsEq_dec] at heq
          unfold Vn.v at heq
          have HBB := Lib.hid (fun q => drewN_below hb q)
          clear ha hbb hP hb hv hv2
          by_cases hab : a = b
          · rw [decide_eq_true hab] at heq
            have HT2 := Lib.hid (HT.out hab)
            clear hab HT HN
            go_upto_region 6 with fail
            go_quiet (fail)
            go_wp2
            go_round
            case rel => exact ⟨k + 1, _, by omega, by go_num, HT2.out, by rw [HW.out, World.drewN_drewN]⟩
            case measure => simp [intOf]; omega
          · rw [decide_eq_false hab] at heq
            have HN2 := Lib.hid (HN.out hab)
            clear hab HT HN
            go_upto_region 6 with fail
            go_quiet (fail)
            go_wp2
            go_ret
            exact ⟨by rw [HV.out, decide_eq_false HN2.out, Bool.and_false]; rfl, HBB.out _⟩
        · obtain rfl : k = n := by omega
          have HT2 : Hid (L = M) := Lib.hid (by
            rw [List.take_of_length_le (by rw [HL.out]; exact Nat.le_refl _), List.take_of_length_le (by rw [HM.out]; exact Nat.le_refl _)] at hP
            exact hP)
          have HBB := Lib.hid hb
          clear hP hb
          go_wp2
          go_ret
          exact ⟨by rw [HV.out, decide_eq_true HT2.out, decide_eq_true HK.out]; rfl, HBB.out⟩
    · have hne : L ≠ M := fun e => hnm (by rw [← hl, ← hm, e])
      have HN := Lib.hid hne
      have hb0 : ((n : Int) != (m : Int)) = true := by rw [bne_iff_ne]; omega
      clear hne hnm hl hm
      go_enter Try.func14, Try.ntmps14
      go_wp2
      go_ret
      exact ⟨by rw [HV.out, decide_eq_false HN.out, Bool.and_false]; rfl, HB.out⟩
  · rw [decide_eq_false hk] at hq
    have HK := Lib.hid hk
    clear hk hl hm
    go_enter Try.func14, Try.ntmps14
    go_wp2
    go_ret
    exact ⟨by rw [HV.out, decide_eq_false HK.out, Bool.false_and]; rfl, HB.out⟩
end Go.Proofs.Ytjmmaghjbaigiaa
