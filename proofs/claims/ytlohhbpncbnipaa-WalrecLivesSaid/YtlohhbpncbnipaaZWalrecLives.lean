/- Joined: KWalrecLives LWalrecLives. -/
import Derived.Test.YtlohhbpncbnipaaM59
import Derived.Test.YtlohhbpncbnipaaM54
import Derived.Test.YtlohhbpncbnipaaM53
import Derived.Test.YtlohhbpncbnipaaM55
import Derived.WalkKit
import Derived.ProofKit
import Derived.OpenShut
import Derived.ShutString
import Derived.ChangeOld
import Derived.Below
section
/- The law WalrecLives: the walk. -/
namespace Go.Proofs.Ytlohhbpncbnipaa
open Go.RowKit
set_option linter.unusedVariables false
set_option linter.unusedSimpArgs false
set_option maxHeartbeats 8000000 in
set_option maxRecDepth 100000 in
theorem walrecLives_core (A : Option Addr) (n c : Nat) (l : List Rec) (z : Int) (w : World) (hl : l.length = n) (hc : n ≤ c) (hm : c ≤ maxLen) (ha : RcsAt w A l) (hz : -9223372036854775808 ≤ z ∧ z ≤ 9223372036854775807) :
    Calls Try.prog 5 #[.slice A n c, .int .i64 z] w fun e w' => e = .returned (.bool true) ∧ Below w.heap.size w w' := by
  have KA := Lib.hid (fun W => wrAwake_any W)
  have KL := Lib.hid (light_any A n c l 60 w hl (by omega) ha)
  have hnm : n ≤ maxLen := by omega
  by_cases hlb : lightR l 60 = true
  · rw [hlb] at KL
    have hn60 : n ≤ 60 := by rw [← hl]; exact (lightR_at hlb).1
    have KV := Lib.hid (fun W (hW : Below w.heap.size w W) => live_any A n c l W hl (by omega) (ha.below hW))
    have KR := Lib.hid (fun W (hW : Below w.heap.size w W) => refLive_any A n c l W hl (by omega) (ha.below hW))
    have KC := Lib.hid (fun W (hW : Below w.heap.size w W) => clock_any A n c l z W hl hnm (ha.below hW))
    have KD := Lib.hid (fun W (hW : Below w.heap.size w W) => refClock_any A n c l z W hl hnm (ha.below hW))
    have KO := Lib.hid (fun W (hW : Below w.heap.size w W) => all_any A n c l W hl (by omega) (ha.below hW))
    have HA := Lib.hid ha
    have HL := Lib.hid hl
    generalize clockR l z = cz at *
    clear ha hl hlb hm hc hnm hz
    go_enter Try.func5, Try.ntmps5
    go_wp2_with fail
    refine KL.out.mono ?_
    rintro e w1 ⟨rfl, rfl⟩
    have B0 := Lib.hid (Below.refl w.heap.size w)
    go_wp2_with (first
      | (go_at_call 16; refine (KV.out _ B0.out).mono ?_; rintro e w2 ⟨B1, c1, L, rfl, lv, ri, hLn, b2⟩; have LV := Lib.hid lv; have R1 := Lib.hid ri; have B1' := Lib.hid b2; clear lv ri b2)
      | (go_at_call 17; refine (KR.out _ B1'.out).mono ?_; rintro e w3 ⟨B2, c2, L2, rfl, lv, ri, hLn2, b3⟩; (obtain rfl := lv.one LV.out); have R2 := Lib.hid ri; have R1 := Lib.hid (R1.out.below b3); have B2' := Lib.hid (B1'.out.trans (b3.mono B1'.out.size)); clear lv ri b3)
      | (go_at_call 18; refine (KC.out _ B2'.out).mono ?_; rintro e w4 ⟨rfl, b4⟩; have R1 := Lib.hid (R1.out.below b4); have R2 := Lib.hid (R2.out.below b4); have B2' := Lib.hid (B2'.out.trans (b4.mono B2'.out.size)); clear b4)
      | (go_at_call 19; refine (KD.out _ B2'.out).mono ?_; rintro e w5 ⟨rfl, rfl⟩)
      | fail)
    generalize w4 = W0 at *
    clear KV KR KC KD KL
    go_loopw [7] (fun i wr => ∃ k : Nat, k ≤ L2.length ∧ i = .int .i64 (k : Int) ∧ Below W0.heap.size W0 wr) (fun i _ => L2.length - (RowKit.intOf i).toNat)
    case atStart => exact ⟨0, Nat.zero_le _, rfl, Below.refl _ _⟩
    case round =>
      obtain ⟨k, hk, rfl, hbw⟩ := hrel
      have BW := Lib.hid hbw
      by_cases hlt : k < L2.length
      · have hk' : (k : Int) < (L2.length : Int) := by omega
        obtain ⟨t, ht⟩ : ∃ t, L2[k]? = some t := ⟨_, List.getElem?_eq_getElem hlt⟩
        obtain ⟨p1, rfl, h1⟩ := (R1.out.below hbw) k t ht
        obtain ⟨p2, rfl, h2⟩ := (R2.out.below hbw) k t ht
        have htt : (t != t) = false := by simp
        clear ht hbw
        go_upto_region 9 with fail
        go_quiet (fail)
        go_wp2_with fail
        go_round
        case rel => exact ⟨k + 1, by omega, by go_num, wrDrewN BW.out _⟩
        case measure => simp [RowKit.intOf]; omega
      · obtain rfl : k = L2.length := by omega
        have BB := Lib.hid (B2'.out.trans (hbw.mono B2'.out.size))
        clear hbw
        go_wp2_with fail
        refine (KO.out _ BB.out).mono ?_
        rintro e w5 ⟨v5, z5, rfl, al, b5⟩
        have BB := Lib.hid (BB.out.trans (b5.mono BB.out.size))
        clear b5 BW KO R1 R2 B2' B1'
        rcases al with ⟨rfl, hall, A5, c5, rfl, hc5, hm5, rb⟩ | ⟨kk, rr, hkk, hzz, hz0, hbef, rfl⟩
        · have RB5 := Lib.hid rb
          have HALL := Lib.hid hall
          have hln : l.length ≤ 1000 := by rw [HL.out]; omega
          rw [HL.out] at hc5 ⊢
          clear rb hall
          generalize w5 = W1 at *
          go_wp2_with fail
          go_loopw [10, 11, 12] (fun i _ _ wr => ∃ k : Nat, k ≤ n ∧ i = .int .i64 (k : Int) ∧ Below W1.heap.size W1 wr) (fun i _ _ _ => n - (RowKit.intOf i).toNat)
          case atStart => exact ⟨0, Nat.zero_le _, rfl, Below.refl _ _⟩
          case round =>
            obtain ⟨k, hk, rfl, hbw⟩ := hrel
            have BW := Lib.hid hbw
            by_cases hlt : k < n
            · have hk' : (k : Int) < (n : Int) := by omega
              obtain ⟨ad, r, rfl, hka, hat⟩ := (HA.out.below (BB.out.trans (hbw.mono BB.out.size))).at_ (i := k) (by rw [HL.out]; exact hlt)
              have hc0 := HALL.out k r hka
              have KQ := Lib.hid (fun W => refPut_any r W)
              have hkm : (l.map putR)[k]? = some (putR r) := by rw [List.getElem?_map, hka]; rfl
              rw [hc0, if_pos rfl] at KQ
              have x0 := hat.d0
              have x1 := hat.d1
              have x2 := hat.d2
              have x3 := hat.d3
              have x4 := hat.d4
              have x5 := hat.d5
              generalize putR r = pr at *
              obtain ⟨rk, rt, rs, ry, rg, rv⟩ := r
              unfold Rec.v at KQ
              dsimp only at x0 x1 x2 x3 x4 x5 KQ
              have HKM := Lib.hid hkm
              clear hka hat hc0 hkm hbw
              go_wp2_with fail
              refine (KQ.out _).mono ?_
              rintro e w6 ⟨v6, rfl, o6, b6⟩
              obtain ⟨A6, c6, rfl, hc6, r6⟩ := o6.form
              have BW6 := Lib.hid (BW.out.trans (b6.mono BW.out.size))
              obtain ⟨p5, B5, d5, rfl, q1, q2, q3, q4⟩ := (RB5.out.below BW6.out) k pr HKM.out
              have hs1 : ∀ q, (convert 27 9 (.slice B5 pr.length d5)).run Try.prog (w6.drewN q) = .ok (.string (str pr)) (w6.drewN q) := fun q => run_str _ _ _ _ pr rfl (q4.drewN q)
              have hs2 : ∀ q, (convert 27 9 (.slice A6 pr.length c6)).run Try.prog (w6.drewN q) = .ok (.string (str pr)) (w6.drewN q) := fun q => run_str _ _ _ _ pr rfl (r6.drewN q)
              have hkd : decide (k < n) = true := decide_eq_true hlt
              obtain ⟨X, hX⟩ : ∃ X, X = str pr := ⟨_, rfl⟩
              rw [← hX] at hs1 hs2
              have hss : (X.toList == X.toList) = true := by simp
              have hss2 : (X.toList != X.toList) = false := by simp
              clear q2 q3 q4 r6 o6 b6 hc6 hX x0 x1 x2 x3 x4 x5
              go_upto_region 18 with fail
              go_quiet (fail)
              go_wp2_with fail
              go_round
              case rel => exact ⟨k + 1, by omega, by go_num, wrDrewN BW6.out _⟩
              case measure => simp [RowKit.intOf]; omega
            · obtain rfl : k = n := by omega
              have BB := Lib.hid (BB.out.trans (hbw.mono BB.out.size))
              clear hbw
              go_wp2_with fail
              refine (KA.out _).mono ?_
              rintro e w6 ⟨rfl, b6⟩
              have BB := Lib.hid (BB.out.trans (b6.mono BB.out.size))
              clear b6
              go_wp2_with fail
              go_ret
              exact ⟨rfl, BB.out⟩
        · have hkn : kk < n := by rw [← HL.out]; exact (List.getElem?_eq_some_iff.1 hkk).1
          have HKK := Lib.hid hkk
          have HZZ := Lib.hid hzz
          have HZ0 := Lib.hid hz0
          have HBEF := Lib.hid hbef
          clear hkk hzz hz0 hbef
          generalize w5 = W1 at *
          go_wp2_with fail
          go_loopw [10, 11, 12] (fun i _ _ wr => ∃ k : Nat, k ≤ kk ∧ i = .int .i64 (k : Int) ∧ Below W1.heap.size W1 wr) (fun i _ _ _ => n - (RowKit.intOf i).toNat)
          case atStart => exact ⟨0, Nat.zero_le _, rfl, Below.refl _ _⟩
          case round =>
            obtain ⟨k, hk, rfl, hbw⟩ := hrel
            have BW := Lib.hid hbw
            have hlt : k < n := by omega
            have hk' : (k : Int) < (n : Int) := by omega
            obtain ⟨ad, r, rfl, hka, hat⟩ := (HA.out.below (BB.out.trans (hbw.mono BB.out.size))).at_ (i := k) (by rw [HL.out]; exact hlt)
            have KQ := Lib.hid (fun W => refPut_any r W)
            have HKA := Lib.hid hka
            have x0 := hat.d0
            have x1 := hat.d1
            have x2 := hat.d2
            have x3 := hat.d3
            have x4 := hat.d4
            have x5 := hat.d5
            by_cases hkk : k = kk
            · have hE : checkR r = z5 := by
                have e := HKK.out
                rw [← hkk, HKA.out] at e
                injection e with e
                rw [e]
                exact HZZ.out
              rw [hE] at KQ
              generalize (if z5 = 0 then putR r else []) = pr at *
              have hz1 : ((z5 : Int) != 0) = true := by have := HZ0.out; simp; omega
              have hz2 : ((z5 : Int) == (z5 : Int)) = true := by simp
              have HB6 := Lib.hid (BB.out.trans (hbw.mono BB.out.size))
              obtain ⟨rk, rt, rs, ry, rg, rv⟩ := r
              unfold Rec.v at KQ
              dsimp only at x0 x1 x2 x3 x4 x5 KQ
              clear hka hat hbw hE hkk
              go_wp2_with fail
              refine (KQ.out _).mono ?_
              rintro e w6 ⟨v6, rfl, o6, b6⟩
              have HB6 := Lib.hid (HB6.out.trans (b6.mono HB6.out.size))
              have hz3 := HZ0.out
              obtain ⟨A6, c6, rfl, _, _⟩ := o6.form
              clear o6 b6 x0 x1 x2 x3 x4 x5
              go_wp2_with fail
              all_goals (try exact absurd ‹z5 = 0› hz3)
              refine (KA.out _).mono ?_
              rintro e w7 ⟨rfl, b7⟩
              have HB6 := Lib.hid (HB6.out.trans (b7.mono HB6.out.size))
              clear b7
              go_wp2_with fail
              go_ret
              exact ⟨rfl, HB6.out⟩
            · have hE : checkR r = 0 := HBEF.out k r (by omega) HKA.out
              rw [hE, if_pos rfl] at KQ
              generalize putR r = pr at *
              obtain ⟨rk, rt, rs, ry, rg, rv⟩ := r
              unfold Rec.v at KQ
              dsimp only at x0 x1 x2 x3 x4 x5 KQ
              have hkd : decide ((k : Int) < 0) = false := decide_eq_false (by omega)
              clear hka hat hbw hE
              go_wp2_with fail
              refine (KQ.out _).mono ?_
              rintro e w6 ⟨v6, rfl, o6, b6⟩
              have BW6 := Lib.hid (BW.out.trans (b6.mono BW.out.size))
              obtain ⟨A6, c6, rfl, _, _⟩ := o6.form
              clear o6 b6 x0 x1 x2 x3 x4 x5
              go_upto_region 18 with fail
              go_quiet (fail)
              go_wp2_with fail
              go_round
              case rel => exact ⟨k + 1, by omega, by go_num, wrDrewN BW6.out _⟩
              case measure => simp [RowKit.intOf]; omega
  · have hlb' : lightR l 60 = false := by simpa using hlb
    rw [hlb'] at KL
    clear hlb hlb' ha hl hm
    go_enter Try.func5, Try.ntmps5
    go_wp2_with fail
    refine KL.out.mono ?_
    rintro e w1 ⟨rfl, rfl⟩
    go_wp2_with fail
    refine (KA.out _).mono ?_
    rintro e w3 ⟨rfl, b3⟩
    have BB := Lib.hid b3
    clear b3
    go_wp2_with fail
    go_ret
    exact ⟨rfl, BB.out⟩
end Go.Proofs.Ytlohhbpncbnipaa
end
section
/- It is proved that the law WalrecLives answers true for every records and every time, and leaves them as they were. No condition. -/
namespace Go.Proofs.Ytlohhbpncbnipaa.walrecLives
open Go.ChangeShapes Go.WideShapes Go.ChangeAt Go.RowKit
set_option linter.unusedVariables false

theorem own : ownKnob Try.prog.godebug = none := by kernel_rfl
theorem laidOut : laidOutB Try.prog = true := by kernel_rfl

set_option maxRecDepth 100000 in
theorem lifted (os : Os) (started : os.Started) (H : Type) (enc : TypeId × Value → H) :
    ReturnsInHanded {} Try.checked os 5 .any (Rows.walrecLivesSpec.pre6 enc Try.prog Try.f5 Rows.walrecLivesRow.domain false) (Rows.walrecLivesSpec.post enc Try.prog Try.f5 false true false false) := by
  refine returnsInHanded_of_change (C := Try.checked) own started (by kernel_rfl) Try.func5
    (ChangeSpec.witness6 (enc := enc) (C := Try.checked) false ⟨#[], #[.slice none 0 0, .int .i64 0], []⟩ 8 (by kernel_rfl) (by kernel_rfl) (by kernel_rfl) (by kernel_rfl)) ?_
  intro W base args ds gs before hval0 hW hcnd _
  have hval : ∀ (j : Nat) t v, Try.f5.params[j]? = some t → args[j]? = some v → Value.okWide Try.prog W .any base t v := hval0
  have hW' := hW
  obtain ⟨p, q, hA0, hV, rfl, hfz, hnd⟩ := hW
  have hA : DataW.TrodAll enc Try.prog W 0 (fun _ => true) true Try.f5.params.toList args.toList ds p := hA0
  rw [Try.params5] at hA hval
  obtain ⟨v0, vs0, d0, ds0, p0, q0, hargs, rfl, rfl, h0, r0⟩ := trodAll_cons hA
  obtain ⟨v1, vs1, d1, ds1, p1, q1, rfl, rfl, rfl, h1, r1⟩ := trodAll_cons r0
  obtain ⟨rfl, rfl, rfl⟩ := trodAll_nil r1
  obtain rfl : args = #[v0, v1] := by cases args; simp_all
  obtain ⟨rfl, rfl⟩ := trodVars_none hV
  have hv0 : ∃ A n c, v0 = .slice A n c := by
    obtain ⟨A, n, c, e⟩ := okWide_slice Try.underlying25 (hval 0 25 v0 rfl rfl)
    exact ⟨A, n, c, e⟩
  have k0 := h0
  have lt0 : ∀ x ∈ p0, x.block < W.heap.size := by obtain ⟨m, hm⟩ := k0; exact DataW.trod_lt m _ _ _ hm
  obtain ⟨a1, rfl, rfl, rfl, w1⟩ := open_int Try.underlying3 (hval 1 3 v1 rfl rfl) h1
  obtain ⟨A0, c0, l0, rfl, hc0, hm0, hr0⟩ : ∃ (A : Option Addr) (c : Nat) (l : List Rec), v0 = .slice A l.length c ∧ l.length ≤ c ∧ c ≤ maxLen ∧ RcsAt W A l := by
    obtain ⟨A, n, c, rfl⟩ := hv0
    obtain ⟨l, e, hc, hm, hr⟩ := open_recs h0
    subst e
    exact ⟨A, c, l, rfl, hc, hm, hr⟩
  clear hA0 hval0
  refine (walrecLives_core A0 l0.length c0 l0 a1 W rfl hc0 hm0 hr0 (bounds_i64 w1)).mono fun e W' ⟨he, bel⟩ => ?_
  subst he
  exact ⟨_, rfl, _, _, _, [], _, [], hW', trodAll_mk1 (shut_bool Try.underlying4 _), (trodAll_cons_mk (Below.trod laidOut (by kernel_rfl) (of_decide_eq_true (by kernel_rfl)) k0 bel lt0) (trodAll_cons_mk (shut_int Try.underlying3 w1) trodAll_mk0)), rfl, bel.frame _, fun h => by cases h⟩

theorem over : Rows.walrecLivesRow.holds Try.pinned (OpenSpec.ofChange Rows.walrecLivesSpec) :=
  OpenClaim.holds_of_wide 5 Try.f5 rfl rfl rfl rfl rfl rfl rfl ⟨rfl, rfl, rfl, rfl, rfl⟩ rfl rfl rfl rfl rfl (by kernel_rfl) Try.func5 (by kernel_rfl)
    (of_decide_eq_true (by kernel_rfl)) (by unfold Func.isWrapper; first | (rw [if_pos (by decide +kernel)]; kernel_rfl) | (rw [if_neg (by decide +kernel)]; exact ⟨rfl, rfl⟩))
    (fun os started H enc _ => lifted os started H enc)

theorem proved : Rows.WalrecLivesSaid := over
#print axioms proved
end Go.Proofs.Ytlohhbpncbnipaa.walrecLives
end
