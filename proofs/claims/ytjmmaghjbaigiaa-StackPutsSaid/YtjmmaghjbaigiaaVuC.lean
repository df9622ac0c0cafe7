/- The document's stacks: Take. -/
import Derived.Test.YtjmmaghjbaigiaaVuB
import Derived.Deep.CutBlock
import Derived.Deep.DeepMust
namespace Go.Proofs.Ytjmmaghjbaigiaa
open Go.RowKit
set_option linter.unusedVariables false
set_option linter.unusedSimpArgs false
set_option maxHeartbeats 2000000 in
set_option maxRecDepth 100000 in
theorem refTake_any (A : Option Addr) (n c : Nat) (l : List UInt8) (w : World) (hN : n ≤ 1000000) (hl : l.length = n) (hc : n ≤ c) (hr : RB w A l) :
    Calls Try.prog 45 #[.agg #[.slice A n c, .int .i64 0]] w fun e w' => ∃ A' n' c' f' key B m d L, e = .returned (.tuple #[.agg #[.slice A' n' c', .int .i64 ((f' : Nat) : Int)], .agg #[.string key, .slice B m d]]) ∧ L.length = m ∧ m ≤ d ∧ m ≤ 9 ∧ RG KV w' B L ∧ (∀ k M, vsCheck k M = 0 → putS k M = l → key = k ∧ L = M) ∧ Below w.heap.size w w' := by
  have KT := Lib.hid (fun (most : Nat) (hm : most ≤ 100) (hm0 : 0 < most) (key : ByteArray) (B : Option Addr) (m d : Nat) (L : List Vn) (A' : Option Addr) (n' c' : Nat) (l' : List UInt8) (f : Nat) (W : World) (h : TkW w A l key B m d L A' n' c' l' f W) (hle : l'.length ≤ l.length) => okRefText2_any A' n' c' f most l' W (by have := h.ln; omega) h.ln h.nc (h.rb _ (hr.below h.b)) (by omega) hm0)
  have KS := Lib.hid (fun (key : ByteArray) (B : Option Addr) (m d : Nat) (L : List Vn) (A' : Option Addr) (n' c' : Nat) (l' : List UInt8) (f : Nat) (W : World) (h : TkW w A l key B m d L A' n' c' l' f W) (hle : l'.length ≤ l.length) => okRefSmall2_any A' n' c' f l' W (by have := h.ln; omega) h.ln h.nc (h.rb _ (hr.below h.b)))
  have G := Lib.hid (TkW.new w A n c l hl hc)
  have HG := Lib.hid (TkG.start l)
  have HL1 := Lib.hid (rtL_le l 0 16)
  have HL2 := Lib.hid (Nat.le_trans (rdL_le (rtL l 0 16) (rtF l 0 16)) HL1.out)
  have HRR := Lib.hid (fun W (h : Below w.heap.size w W) => hr.below h)
  clear hr hl hc hN
  go_enter Try.func45, Try.ntmps45
  go_upto_region 3 with fail
  generalize (((w.alloc (.cells #[.slice A n c, .int .i64 0] 80)).alloc (.cells #[.slice none 0 0, .int .i64 0] 80)).alloc (.cells #[.string ⟨#[]⟩, .slice none 0 0] 24)).alloc (.cells #[.string ⟨#[]⟩, .slice none 0 0] 24) = W0 at *
  have r0 := G.out.r0; have r1 := G.out.r1
  go_cut [] from 8 to 13 (fun wx => ∃ A2 n2 c2, TkW w A l (gKey l) none 0 0 [] A2 n2 c2 (rtL l 0 16) (rtF l 0 16) wx)
  case first =>
    go_wp2_with (first | (go_at_call 59; (refine (KT.out 16 (by omega) (by omega) _ _ _ _ _ _ _ _ _ _ _ G.out (Nat.le_refl _)).mono ?_); rintro e w1 ⟨A2, n2, c2, rfl, h1, h2, h3, h4⟩; have GA := Lib.hid (G.out.on h4); have GN := Lib.hid ((GA.out.rd (rtF l 0 16) h1 h2 h3).key (gKey l)); clear r0 r1; have r0 := GA.out.r0; have r1 := GA.out.r1; have g0 := GA.out.g0; have g1 := GA.out.g1; have sc := GA.out.s.c0; have sf := GA.out.s.f0; clear h1 h2 h3 h4) | fail)
    go_meet
    exact ⟨_, _, _, GN.out⟩
  case rest =>
    obtain ⟨A1, n1, c1, hG⟩ := hcut
    have G := Lib.hid hG
    clear hG r0 r1
    obtain ⟨cnt, hcnt⟩ : ∃ cnt, cnt = rdV (rtL l 0 16) (rtF l 0 16) := ⟨_, rfl⟩
    rw [← hcnt] at HG
    have HCNT := Lib.hid hcnt
    clear hcnt
    go_upto_region 4 with fail
    have r0 := G.out.r0; have r1 := G.out.r1
    go_cut [5] from 14 to 18 (fun v wx => v = .int .i64 (cnt : Int) ∧ ∃ A2 n2 c2, TkW w A l (gKey l) none 0 0 [] A2 n2 c2 (rdL (rtL l 0 16) (rtF l 0 16)) (rdF (rtL l 0 16) (rtF l 0 16)) wx)
    case first =>
      go_wp2_with (first | (go_at_call 60; (refine (KS.out _ _ _ _ _ _ _ _ _ _ _ G.out HL1.out).mono ?_); rintro e w1 ⟨A2, n2, c2, rfl, h1, h2, h3, h4⟩; have GA := Lib.hid (G.out.on h4); have GN := Lib.hid (GA.out.rd (rdF (rtL l 0 16) (rtF l 0 16)) h1 h2 h3); clear r0 r1; have r0 := GA.out.r0; have r1 := GA.out.r1; have g0 := GA.out.g0; have g1 := GA.out.g1; clear h1 h2 h3 h4) | fail)
      go_meet
      exact ⟨by rw [HCNT.out], _, _, _, GN.out⟩
    case rest =>
      obtain ⟨rfl, A1, n1, c1, hG⟩ := hcut
      have G := Lib.hid hG
      clear hG r0 r1 HL1 HCNT
      generalize rdL (rtL l 0 16) (rtF l 0 16) = l1 at *
      generalize rdF (rtL l 0 16) (rtF l 0 16) = f1 at *
      generalize gKey l = key at *
      go_upto_block 0 with fail
      go_cut [6, 7] from 19 to 75 (fun _ _ wx => ∃ A2 n2 c2 l2 f2 B m d L, TkW w A l key B m d L A2 n2 c2 l2 f2 wx ∧ m ≤ 9 ∧ (∀ k M, vsCheck k M = 0 → putS k M = l → key = k ∧ L = M))
      case first =>
        go_wp2_with fail
        go_loopw [6, 7] (fun i _ wr => ∃ (k : Nat) (A2 : Option Addr) (n2 c2 : Nat) (l2 : List UInt8) (f2 : Nat) (B : Option Addr) (d : Nat) (L : List Vn), i = .int .i64 (k : Int) ∧ k ≤ 9 ∧ TkW w A l key B k d L A2 n2 c2 l2 f2 wr ∧ l2.length ≤ l.length ∧ TkG l key cnt k L l2 f2) (fun i _ _ => 9 - (intOf i).toNat)
        case atStart => exact ⟨0, A1, n1, c1, l1, f1, none, 0, [], rfl, by omega, G.out, HL2.out, HG.out⟩
        case round =>
          clear G HG HL2
          obtain ⟨k, A2, n2, c2, l2, f2, B, d, L, rfl, hk9, hG, hle, hTG⟩ := hrel
          have G := Lib.hid hG
          have HLE := Lib.hid hle
          have HTG := Lib.hid hTG
          have K9 := Lib.hid hk9
          clear hG hle hTG
          have r1 := G.out.r1
          by_cases h1 : k < cnt
          · by_cases h2 : k ≤ 8
            · have d2 : decide ((k : Int) ≤ 8) = true := by simp; omega
              by_cases h3 : f2 = 0
              · have d3 : ((f2 : Int) == 0) = true := by simp [h3]
                have HTS := Lib.hid (HTG.out.step h1)
                clear h3
                go_upto_region 8 with fail
                clear r1 d2 d3
                have V := Lib.hid (TkV.new G.out)
                go_upto_region 9 with fail
                generalize wr.alloc (.cells #[.int .i64 0, .int .i64 0, .bool false, .string ⟨#[]⟩] 66) = W1 at *
                generalize wr.heap.size = q at *
                have n0 : ¬ q = w.heap.size := by have := V.out.hq; omega
                have n1 : ¬ w.heap.size = q := by have := V.out.hq; omega
                have r0 := V.out.k.r0; have r1 := V.out.k.r1
                have HLa := Lib.hid (Nat.le_trans (rdL_le l2 f2) HLE.out)
                go_cut [] from 33 to 38 (fun wx => ∃ A3 n3 c3, TkV w A l key B k d L A3 n3 c3 (rdL l2 f2) (rdF l2 f2) q ⟨(rdV l2 f2 : Nat), 0, false, ⟨#[]⟩⟩ wx)
                case first =>
                  go_wp2_with (first | (go_at_call 60; (refine (KS.out _ _ _ _ _ _ _ _ _ _ _ V.out.k HLE.out).mono ?_); rintro e w1 ⟨A3, n3, c3, rfl, g1, g2, g3, g4⟩; have VA := Lib.hid (V.out.on g4); have VR := Lib.hid (VA.out.rd (rdF l2 f2) g1 g2 g3); have VN := Lib.hid (VR.out.fld 0 (.int .i64 ((rdV l2 f2 : Nat) : Int)) _ (VR.out.v.st0 _)); clear r0 r1; have r0 := VA.out.k.r0; have r1 := VA.out.k.r1; have e0 := VA.out.k.g0; have e1 := VA.out.k.g1; have x0 := VA.out.v.c0; have xf := VA.out.v.f0; clear g1 g2 g3 g4) | fail)
                  go_meet
                  exact ⟨_, _, _, VN.out⟩
                case rest =>
                  obtain ⟨A3, n3, c3, hV⟩ := hcut
                  have V := Lib.hid hV
                  clear hV r0 r1
                  have r0 := V.out.k.r0; have r1 := V.out.k.r1
                  go_upto_region 10 with fail
                  go_cut [] from 39 to 44 (fun wx => ∃ A3 n3 c3, TkV w A l key B k d L A3 n3 c3 (d2L l2 f2) (d2F l2 f2) q (dV2 l2 f2) wx)
                  case first =>
                    go_wp2_with (first | (go_at_call 60; (refine (KS.out _ _ _ _ _ _ _ _ _ _ _ V.out.k HLa.out).mono ?_); rintro e w1 ⟨A4, n4, c4, rfl, g1, g2, g3, g4⟩; have VA := Lib.hid (V.out.on g4); have VR := Lib.hid (VA.out.rd (rdF (rdL l2 f2) (rdF l2 f2)) g1 g2 g3); have VN := Lib.hid (VR.out.fld 1 (.int .i64 ((rdV (rdL l2 f2) (rdF l2 f2) : Nat) : Int)) _ (VR.out.v.st1 _)); clear r0 r1; have r0 := VA.out.k.r0; have r1 := VA.out.k.r1; have e0 := VA.out.k.g0; have e1 := VA.out.k.g1; have x0 := VA.out.v.c1; have xf := VA.out.v.f1; clear g1 g2 g3 g4) | fail)
                    go_meet
                    exact ⟨_, _, _, VN.out⟩
                  case rest =>
                    obtain ⟨A3, n3, c3, hV⟩ := hcut
                    have V := Lib.hid hV
                    clear hV r0 r1
                    have r0 := V.out.k.r0; have r1 := V.out.k.r1
                    go_upto_region 11 with fail
                    go_cut [53] from 45 to 53 (fun v wx => v = .bool (dHit l2 f2) ∧ TkV w A l key B k d L A3 n3 c3 (d2L l2 f2) (d2F l2 f2) q (dV2 l2 f2) wx)
                    case first =>
                      by_cases hf : d2F l2 f2 = 0
                      · have e1 : ((d2F l2 f2 : Int) == 0) = true := by simp [hf]
                        by_cases hl : d2L l2 f2 = []
                        · have HT := Lib.hid (show dHit l2 f2 = false from by unfold dHit; rw [hl]; simp)
                          have e2 : decide (0 < n3) = false := by have := V.out.k.ln; rw [hl] at this; simp at this; simp; omega
                          clear hf hl
                          go_wp2_with fail
                          go_meet
                          exact ⟨by rw [HT.out], V.out⟩
                        · have HT := Lib.hid (show dHit l2 f2 = true from by unfold dHit; rw [hf]; simp [hl])
                          have e2 : decide (0 < n3) = true := by have h1 := V.out.k.ln; have h2 := List.length_pos_iff.mpr hl; simp; omega
                          clear hf hl
                          go_wp2_with fail
                          go_meet
                          exact ⟨by rw [HT.out], V.out⟩
                      · have e1 : ((d2F l2 f2 : Int) == 0) = false := by simp [hf]
                        have HT := Lib.hid (show dHit l2 f2 = false from by unfold dHit; simp [hf])
                        clear hf
                        go_wp2_with fail
                        go_meet
                        exact ⟨by rw [HT.out], V.out⟩
                    case rest =>
                      obtain ⟨rfl, hV⟩ := hcut
                      have V := Lib.hid hV
                      clear hV r0 r1
                      have HLb := Lib.hid (Nat.le_trans (d4L_le l2 f2).2.1 HLE.out)
                      have HLD := Lib.hid (Nat.le_trans (d4L_le l2 f2).1 HLE.out)
                      go_upto_if 53 with fail
                      go_cut [] from 53 to 63 (fun wx => ∃ A4 n4 c4, TkV w A l key B k d L A4 n4 c4 (d3L l2 f2) (d2F l2 f2) q (dV3 l2 f2) wx)
                      case first =>
                        cases hg : dHit l2 f2 with
                        | false =>
                          have E1 : Hid (d3L l2 f2 = d2L l2 f2 ∧ dV3 l2 f2 = dV2 l2 f2) := Lib.hid (by unfold dV3 d3L; rw [hg]; exact ⟨rfl, rfl⟩)
                          clear hg
                          go_wp2_with fail
                          go_meet
                          exact ⟨_, _, _, by rw [E1.out.1, E1.out.2]; exact V.out⟩
                        | true =>
                          obtain ⟨z, tl, hz⟩ : ∃ z tl, d2L l2 f2 = z :: tl := by
                            have h := hg
                            simp only [dHit, Bool.and_eq_true, Bool.not_eq_true'] at h
                            cases hh : d2L l2 f2 with
                            | nil => rw [hh] at h; simp at h
                            | cons z tl => exact ⟨z, tl, rfl⟩
                          have E1 : Hid (d3L l2 f2 = tl ∧ dV3 l2 f2 = { dV2 l2 f2 with gone := z == 1 }) := Lib.hid (by unfold dV3 d3L; rw [hg, hz]; exact ⟨rfl, rfl⟩)
                          have HZ1 : ((z.toNat : Int) == 1) = (z == 1) := by rw [Bool.eq_iff_iff]; simp [← UInt8.toNat_inj]; omega
                          rw [hz] at V
                          obtain ⟨a3, z', rfl, hz', hcz⟩ := (V.out.k.rb _ (HRR.out _ V.out.k.b)).at_ (k := 0) (by simp)
                          obtain rfl : z' = z := by simpa using hz'.symm
                          rw [Addr.add_nought] at hcz
                          have hn1 : 1 ≤ n3 := by have h1 := V.out.k.ln; simp at h1; omega
                          obtain ⟨B3, hs1, hs2, hs3⟩ := run_from (some a3) n3 c3 1 1 rfl hn1 V.out.k.nc (z' :: tl) V.out.k.ln
                          have HB3 := Lib.hid (fun W (h : RB W (some a3) (z' :: tl)) => show RB W B3 tl from by have h2 := hs3 W h; rw [List.drop_one, List.tail_cons] at h2; exact h2)
                          have HQN := Lib.hid (show tl.length = n3 - 1 from by have h1 := V.out.k.ln; simp at h1; omega)
                          have HC3 := Lib.hid (show n3 - 1 ≤ c3 - 1 from by have := V.out.k.nc; omega)
                          have hn0 : 0 < n3 := by omega
                          clear hg hz hz' hs3
                          have r0 := V.out.k.r0; have r1 := V.out.k.r1; have x2 := V.out.v.c2; have xf := V.out.v.f2
                          go_upto_region 13 with fail
                          have V := Lib.hid (V.out.fld 2 (.bool (z' == 1)) _ (V.out.v.st2 (z' == 1)))
                          clear hcz r0 r1 x2 xf
                          generalize wc.setCell ⟨q, 2, none⟩ (.bool (z' == 1)) = W4 at *
                          have r0 := V.out.k.r0; have r1 := V.out.k.r1; have g0 := V.out.k.g0
                          have VN := Lib.hid (V.out.rd0 HQN.out HC3.out HB3.out)
                          go_wp2_with fail
                          go_meet
                          exact ⟨_, _, _, by rw [E1.out.1, E1.out.2]; exact VN.out⟩
                      case rest =>
                        obtain ⟨A4, n4, c4, hV⟩ := hcut
                        have V := Lib.hid hV
                        clear hV
                        have r0 := V.out.k.r0; have r1 := V.out.k.r1
                        go_upto_region 14 with fail
                        go_cut [] from 64 to 69 (fun wx => ∃ A5 n5 c5, TkV w A l key B k d L A5 n5 c5 (d4L l2 f2) (d4F l2 f2) q (dV4 l2 f2) wx)
                        case first =>
                          go_wp2_with (first | (go_at_call 59; (refine (KT.out 24 (by omega) (by omega) _ _ _ _ _ _ _ _ _ _ _ V.out.k HLb.out).mono ?_); rintro e w1 ⟨A5, n5, c5, rfl, g1, g2, g3, g4⟩; have VA := Lib.hid (V.out.on g4); have VR := Lib.hid (VA.out.rd (rtF (d3L l2 f2) (d2F l2 f2) 24) g1 g2 g3); have VN := Lib.hid (VR.out.fld 3 (.string (str (rtV (d3L l2 f2) (d2F l2 f2) 24))) _ (VR.out.v.st3 _)); clear r0 r1; have r0 := VA.out.k.r0; have r1 := VA.out.k.r1; have e0 := VA.out.k.g0; have e1 := VA.out.k.g1; have x0 := VA.out.v.c3; have xf := VA.out.v.f3; clear g1 g2 g3 g4) | fail)
                          go_meet
                          exact ⟨_, _, _, VN.out⟩
                        case rest =>
                          obtain ⟨A5, n5, c5, hV⟩ := hcut
                          have V := Lib.hid hV
                          clear hV r0 r1
                          generalize dV4 l2 f2 = x at *
                          generalize d4L l2 f2 = l4 at *
                          generalize d4F l2 f2 = f4 at *
                          obtain ⟨x0, x1, x2, x3, _, _, _, _⟩ := V.out.v
                          have s1 := V.out.k.s.c1
                          have LM := Lib.hid V.out.k.lm
                          go_wp2_with (first
                            | (at_builtin; refine wpList_append_G tgV rfl (.tmp 71) (.tmp 73) rfl (w.heap.size + 4) _ L rfl (V.out.k.o.alloc _) _ 1 1 [x] rfl rfl (rgV_lit _ _ _) (Apart.flat vn_flat) (by have h1 := LM.out; have h2 := K9.out; omega) (by have := V.out.k.lt; rw [heap_size_alloc]; omega) ?_; intro v6 w6 o6 b6 _ _; obtain ⟨A6, c6, rfl, h61, h62, h63, _⟩ := o6.rg; have BB := Lib.hid (((Below.refl (w.heap.size + 4) wc).alloc V.out.k.lt _).trans b6); have GN := Lib.hid (V.out.k.push BB.out o6 rfl h61); have s6 := (V.out.k.s.below BB.out (Nat.lt_succ_self _)).c1; have sf6 := (V.out.k.s.below BB.out (Nat.lt_succ_self _)).f1; clear o6 b6 h61 h62 h63)
                            | fail)
                          go_round
                          case rel => exact ⟨k + 1, _, _, _, _, _, _, _, _, by go_num, by omega, by have h1 := GN.out; rw [List.length_append, List.length_singleton] at h1; rw [LM.out] at h1 ⊢; exact h1, HLD.out, HTS.out⟩
                          case measure => simp [intOf]; omega
              · have d3 : ((f2 : Int) == 0) = false := by simp [h3]
                have HD := Lib.hid (HTG.out.done (.inr (.inr h3)))
                clear h3
                go_wp2_with fail
                go_meet
                exact ⟨_, _, _, _, _, _, _, _, _, G.out, K9.out, HD.out⟩
            · have d2 : decide ((k : Int) ≤ 8) = false := by simp; omega
              have HD := Lib.hid (HTG.out.done (.inr (.inl (by omega))))
              go_wp2_with fail
              go_meet
              exact ⟨_, _, _, _, _, _, _, _, _, G.out, K9.out, HD.out⟩
          · have HD := Lib.hid (HTG.out.done (.inl (by omega)))
            go_wp2_with fail
            go_meet
            exact ⟨_, _, _, _, _, _, _, _, _, G.out, K9.out, HD.out⟩
      case rest =>
        obtain ⟨A2, n2, c2, l2, f2, B, m, d, L, hG, hm9, hD⟩ := hcut
        have G := Lib.hid hG
        have HD := Lib.hid hD
        clear hG hD
        have r0 := G.out.r0; have r1 := G.out.r1; have z0 := G.out.z0; have z1 := G.out.z1; have y0 := G.out.y0; have y1 := G.out.y1
        have s0 := G.out.s.c0; have s1 := G.out.s.c1
        have t0 := G.out.t.c0; have t1 := G.out.t.c1; have tf0 := G.out.t.f0; have tf1 := G.out.t.f1
        go_upto_region 16 with fail
        go_region
        all_goals
          go_wp2_with fail
          have OZ := ((((G.out.o.offC (q := w.heap.size + 1) (i := 0) (G.out.o.base_ne (q := w.heap.size + 1) (by omega)) (.slice A2 n2 c2)).offC (q := w.heap.size + 1) (i := 1) (G.out.o.base_ne (q := w.heap.size + 1) (by omega)) (.int .i64 (f2 : Int))).offC (q := w.heap.size + 1 + 1) (i := 0) (G.out.o.base_ne (q := w.heap.size + 1 + 1) (by omega)) (.string key)).offC (q := w.heap.size + 1 + 1) (i := 1) (G.out.o.base_ne (q := w.heap.size + 1 + 1) (by omega)) (.slice B m d)).drew
          have BZ := ((((G.out.b.setCell (p := ⟨w.heap.size + 1, 0, none⟩) (by simp) (.slice A2 n2 c2)).setCell (p := ⟨w.heap.size + 1, 1, none⟩) (by simp) (.int .i64 (f2 : Int))).setCell (p := ⟨w.heap.size + 1 + 1, 0, none⟩) (by simp; omega) (.string key)).setCell (p := ⟨w.heap.size + 1 + 1, 1, none⟩) (by simp; omega) (.slice B m d)).drew
          obtain ⟨A9, c9, e9, _, _, h9, _⟩ := OZ.rg
          injection e9 with e9 _ _
          subst e9
          refine bodyPost_ret (v := .tuple #[.agg #[.slice A2 n2 c2, .int .i64 (f2 : Int)], .agg #[.string key, .slice B m d]]) (by simp [results, Try.results45, go_sem, World.cell?_setCell_other, World.cell?_setCell_same', z0, z1, t0, t1]) rfl ⟨A2, n2, c2, f2, key, B, m, d, L, rfl, G.out.lm, G.out.md, hm9, h9, HD.out, BZ⟩
end Go.Proofs.Ytjmmaghjbaigiaa
