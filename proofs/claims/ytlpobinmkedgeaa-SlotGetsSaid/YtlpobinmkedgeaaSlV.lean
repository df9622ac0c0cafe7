/- Slots: the document's Get. -/
import Derived.Test.YtlpobinmkedgeaaSlT
import Derived.Test.YtlpobinmkedgeaaSlU
import Derived.Test.YtlpobinmkedgeaaSlJ
namespace Go.Proofs.Ytlpobinmkedgeaa
open Go.RowKit
set_option linter.unusedVariables false
set_option linter.unusedSimpArgs false
set_option maxHeartbeats 4000000 in
set_option maxRecDepth 100000 in
theorem refGet_any (A : Option Addr) (n c : Nat) (L : List (List UInt8)) (w : World) (hl : L.length = n) (hn : n ≤ c) (hc : c ≤ maxLen) (hr : RBS w A L) :
    Calls Try.prog 13 #[.slice A n c] w (GetPost w L) := by
  unfold maxLen at hc
  have HR := Lib.hid hr
  have HL := Lib.hid hl
  by_cases h4 : n = 4
  · subst h4
    obtain ⟨ad, rfl⟩ := hr.some_of (by omega)
    obtain ⟨l0, h0⟩ : ∃ l0, L[0]? = some l0 := ⟨L[0]'(by omega), List.getElem?_eq_getElem _⟩
    obtain ⟨B0, c0, x0, x1, x2, x3⟩ := hr.at h0
    rw [Addr.add_nought] at x0
    have HE := Lib.hid (fun h => shared_eq hl h0 h)
    have HO := Lib.hid (fun b hb h => shared_zero (b := b) h0 hb h)
    have K0 := Lib.hid (refStamp_any B0 l0.length c0 l0 w rfl x1 x2 x3)
    have H3 := Lib.hid (show sharedP L = 0 → ∀ w', Below w.heap.size w w' → GetPost w L (.returned (.tuple #[.int .i64 0, .slice none 0 0, .int .i64 3])) w' from fun hz w' b => by
      obtain ⟨e1, e2, e3⟩ := getE_3 hz
      exact ⟨_, by rw [e1, e2]; rfl, by rw [e3]; exact OB.nil, b⟩)
    obtain ⟨gen, hgen⟩ : ∃ gen, gen = stampP l0 := ⟨_, rfl⟩
    rw [← hgen] at K0 HE HO
    have hgl : gen ≤ 1099511627776 := by rw [hgen]; exact stampP_le _
    clear hr x1 x2 x3 hgen hl h0
    generalize okP l0 = ok0 at *
    generalize l0.length = n0 at *
    go_enter Try.func13, Try.ntmps13
    go_wp2_with fail
    refine K0.out.mono ?_
    rintro e w1 ⟨rfl, b1⟩
    have B1 := Lib.hid b1
    clear b1 K0 x0
    go_wp2
    go_loopw [7, 8, 9, 10] (fun v i _ _ wr => ∃ k : Nat, k ≤ 4 ∧ i = .int .i64 k ∧ Below w.heap.size w wr ∧ OB w.heap.size wr v (gotP L k) ∧ (∀ b ∈ L.take k, stampP b = gen) ∧ (0 < k → gen ≠ 0)) (fun _ i _ _ _ => 4 - (intOf i).toNat)
    case atStart => exact ⟨0, Nat.zero_le _, rfl, B1.out, by unfold gotP; exact OB.nil, fun b hb => by simp at hb, fun h => by omega⟩
    case round =>
      obtain ⟨k, hk, rfl, hB, hV, hP, hG⟩ := hrel
      by_cases hlt : k < 4
      · obtain ⟨b, hb⟩ : ∃ b, L[k]? = some b := ⟨L[k]'(by rw [HL.out]; omega), List.getElem?_eq_getElem _⟩
        obtain ⟨B, cb, y0, y1, y2, y3⟩ := (HR.out.below hB).at hb
        have KB := Lib.hid (refStamp_any B b.length cb b wr rfl y1 y2 y3)
        have HT := Lib.hid (show ∀ x ∈ L.take (k + 1), x ∈ L.take k ∨ x = b from fun x hx => by
          rw [List.take_add_one, hb] at hx
          simpa using hx)
        have HM := Lib.hid (List.mem_of_getElem? hb)
        have HOK : Hid (okP b = decide (stampP b ≠ 0)) := Lib.hid rfl
        obtain ⟨sp, hsp⟩ : ∃ sp, sp = stampP b := ⟨_, rfl⟩
        have HSP := Lib.hid hsp
        have hB' := Lib.hid hB
        have hP' := Lib.hid hP
        have hge := Lib.hid hB.size
        have HGS := Lib.hid (gotP_succ hb)
        have HV := Lib.hid hV
        have HY := Lib.hid y3
        rw [← hsp] at KB HOK
        by_cases hz : sp = 0
        · have hok : okP b = false := by rw [HOK.out]; simp [hz]
          have H0 := Lib.hid (H3.out (HO.out b HM.out (.inl (by rw [← HSP.out, hz]))))
          rw [hok] at KB
          clear hb y1 y2 y3 hsp hP hB hV hG hok hz HOK
          generalize b.length = nb at *
          go_wp2_with (first
            | (go_at_call 15; refine KB.out.mono ?_; rintro e w2 ⟨rfl, b2⟩; have B2 := Lib.hid (hB'.out.trans (b2.mono hge.out)); clear b2)
            | fail)
          go_ret3
          exact H0.out _ B2.out
        · have hok : okP b = true := by rw [HOK.out]; simp [hz]
          rw [hok] at KB
          by_cases hg : sp = gen
          · have hbb : ((sp : Int) != (gen : Int)) = false := by rw [hg]; simp
            have hbl : b.length = 256 := by
              have h5 : stampP b ≠ 0 := by rw [← hsp]; exact hz
              unfold stampP at h5
              split at h5
              · rename_i h6; exact h6.1
              · exact absurd rfl h5
            have HGN := Lib.hid (show gen ≠ 0 from by rw [← hg]; exact hz)
            have HG := Lib.hid hg
            rw [hbl] at KB y0 y1
            obtain ⟨bd, rfl⟩ := y3.some_of (by omega)
            have HML := Lib.hid (midP_len hbl)
            have HDR := Lib.hid (show ∀ w', Below wr.heap.size wr w' → RB w' (some ⟨bd.block, bd.off + 9, none⟩) (midP b) from fun w' h => by
              have h5 := ((HY.out.below h).drop 9).take 239
              rw [add_posS bd 9 (by omega)] at h5
              exact h5)
            have HGL := Lib.hid (show (gotP L k).length = 239 * k from by
              have h5 : ∀ j, j ≤ k → (gotP L j).length = 239 * j := by
                intro j
                induction j with
                | zero => intro _; simp [gotP]
                | succ j ih =>
                  intro hj
                  have h6 : L[j]? = some (L[j]'(by rw [HL.out]; omega)) := List.getElem?_eq_getElem _
                  have h7 : (L[j]'(by rw [HL.out]; omega)).length = 256 := by
                    have h8 : stampP (L[j]'(by rw [HL.out]; omega)) ≠ 0 := by
                      rw [hP _ (List.mem_iff_getElem?.2 ⟨j, by rw [List.getElem?_take, if_pos (by omega), h6]⟩)]
                      exact HGN.out
                    unfold stampP at h8
                    split at h8
                    · rename_i h9; exact h9.1
                    · exact absurd rfl h8
                  rw [gotP_succ h6, List.length_append, ih (by omega), midP_len h7]
                  omega
              exact h5 k (Nat.le_refl _))
            have hc9 : ¬ cb = 9 := by omega
            have hc248 : (248 : Int) ≤ (cb : Int) := by omega
            have YC := Lib.hid (show ∀ w', Below wr.heap.size wr w' → w'.cell? (ad.add k) = some (.slice (some bd) 256 cb) from fun w' h => (h.cell (lt_of_cell y0)).trans y0)
            generalize midP b = Mb at *
            generalize gotP L k = Gk at *
            clear hb y1 y2 y3 hsp hP hB hV hG hok hz HOK hg hbl HO HE HY
            go_wp2_with (first
              | (go_at_call 15; refine KB.out.mono ?_; rintro e w2 ⟨rfl, b2⟩; have B2 := Lib.hid (hB'.out.trans (b2.mono hge.out)); have y02 := YC.out w2 b2; have V2 := Lib.hid (HV.out.keep b2 (Nat.le_refl _)); have R2 := Lib.hid (HDR.out w2 b2); have G2 := B2.out.size; clear b2)
              | (at_builtin; refine wpList_append_B rfl (.tmp 45) (.tmp 50) rfl w.heap.size _ _ rfl V2.out (some ⟨bd.block, bd.off + 9, none⟩) 239 (cb - 9) Mb rfl HML.out R2.out (by rw [HGL.out]; omega) G2 ?_; intro v3 w3 o3 b3; have O3 := Lib.hid o3; have B3 := Lib.hid (B2.out.trans b3); clear o3 b3)
              | fail)
            go_roundw
            case rel => exact ⟨k + 1, by omega, by go_num, B3.out, by rw [HGS.out]; exact O3.out, fun x hx => by rcases HT.out x hx with h | rfl; exact hP'.out x h; rw [← HSP.out, HG.out], fun _ => HGN.out⟩
            case measure => simp [intOf]; omega
          · have hbb : ((sp : Int) != (gen : Int)) = true := by rw [bne_iff_ne]; omega
            have H0 := Lib.hid (H3.out (HO.out b HM.out (.inr (by rw [← HSP.out]; exact hg))))
            clear hb y1 y2 y3 hsp hP hB hV hG hok hz HOK hg
            generalize b.length = nb at *
            go_wp2_with (first
              | (go_at_call 15; refine KB.out.mono ?_; rintro e w2 ⟨rfl, b2⟩; have B2 := Lib.hid (hB'.out.trans (b2.mono hge.out)); clear b2)
              | fail)
            go_ret3
            exact H0.out _ B2.out
      · obtain rfl : k = 4 := by omega
        have hP4 : ∀ b ∈ L, stampP b = gen := fun b hb => hP b (by rw [List.take_of_length_le (by rw [HL.out]; exact Nat.le_refl _)]; exact hb)
        have hsh := HE.out hP4
        have hg0 := hG (by omega)
        have h256 := (shared_rows (L := L) (by rw [hsh]; exact hg0)).2
        rw [gotP_all HL.out] at hV
        have hXL : (allP L).length = 956 := by rw [← gotP_all HL.out, gotP_len h256 4 (by rw [HL.out]; exact Nat.le_refl _)]
        have H4 := Lib.hid (fun h => getE_4 (L := L) (by rw [hsh]; exact hg0) h)
        have H0 := Lib.hid (fun h1 h2 => getE_0 (L := L) (by rw [hsh]; exact hg0) h1 h2)
        rw [hsh] at H4 H0
        have hg1 : 1 ≤ gen := by omega
        obtain ⟨vd, cv, hv, hcv, hcm, hrv, _, _⟩ := hV.row (by rw [hXL]; omega)
        rw [hXL] at hv hcv
        subst hv
        have HB := Lib.hid hB
        have HRV := Lib.hid hrv
        have hge := hB.size
        have HBD : Hid (bodyP (allP L) = ((allP L).drop 2).take (lenP (allP L))) := Lib.hid rfl
        have HP : Hid (lenP (allP L) = ((allP L).getD 0 0).toNat * 256 + ((allP L).getD 1 0).toNat) := Lib.hid rfl
        have HXL := Lib.hid hXL
        clear hV hP hG hP4 hsh hg0 h256 HO HE H3 hB
        generalize allP L = X at *
        obtain ⟨x0, h0⟩ : ∃ x, X[0]? = some x := ⟨X[0]'(by omega), List.getElem?_eq_getElem _⟩
        obtain ⟨x1, h1⟩ : ∃ x, X[1]? = some x := ⟨X[1]'(by omega), List.getElem?_eq_getElem _⟩
        have hcells : wr.cell? vd = some (.int .u8 (x0.toNat : Int)) ∧ wr.cell? ⟨vd.block, vd.off + 1, none⟩ = some (.int .u8 (x1.toNat : Int)) := by
          rcases hrv with e | ⟨vd', e, hcc⟩
          · rw [e] at hXL; simp at hXL
          · injection e with e
            subst e
            have q0 := hcc 0 x0 h0
            have q1 := hcc 1 x1 h1
            rw [Addr.add_nought] at q0
            rw [add_posS vd 1 (by omega)] at q1
            exact ⟨q0, q1⟩
        obtain ⟨z0, z1⟩ := hcells
        have hx0 := x0.toNat_lt
        have hx1 := x1.toNat_lt
        have hp := HP.out
        rw [List.getD_eq_getElem?_getD, List.getD_eq_getElem?_getD, h0, h1] at hp
        simp only [Option.getD_some] at hp
        have hpl : lenP X ≤ 65535 := by omega
        have hpi : (lenP X : Int) = 256 * (x0.toNat : Int) + (x1.toNat : Int) := by omega
        have HPI := Lib.hid hpi
        clear hp hpi HP h0 h1 hXL hrv
        generalize lenP X = m at *
        have q1 : IntKind.i64.wrap (256 * (x0.toNat : Int)) = 256 * (x0.toNat : Int) := wrap64 _ (by omega) (by omega)
        have q2 : IntKind.i64.wrap (256 * (x0.toNat : Int) + (x1.toNat : Int)) = (m : Int) := by rw [HPI.out]; exact wrap64 _ (by omega) (by omega)
        go_upto_region 12 with (fail)
        go_quiet (fail)
        have B5 := Lib.hid (HB.out.trans ((below_drewN wr nq).mono hge))
        have RV := Lib.hid (HRV.out.drewN nq)
        clear z0 z1 q1 q2 HB HRV hge
        generalize wr.drewN nq = V at *
        have hge := B5.out.size
        by_cases hm : 954 < m
        · obtain ⟨e1, e2, e3⟩ := H4.out (.inl hm)
          have HF := Lib.hid (show GetPost w L (.returned (.tuple #[.int .i64 0, .slice none 0 0, .int .i64 4])) V from ⟨_, by rw [e1, e2]; rfl, by rw [e3]; exact OB.nil, B5.out⟩)
          have hd : decide (954 < (m : Int)) = true := by simp; omega
          clear e1 e2 e3 hm
          go_wp2
          go_ret3
          exact HF.out
        · have H02 := Lib.hid (H0.out hm)
          have H42 := Lib.hid (fun h => H4.out (.inr h))
          have hml : (bodyP X).length = m := by rw [HBD.out, List.length_take, List.length_drop, HXL.out]; omega
          have HML := Lib.hid hml
          have HRB := Lib.hid (show RB V (some ⟨vd.block, vd.off + 2, none⟩) (bodyP X) from by
            have h5 := (RV.out.drop 2).take m
            rw [add_posS vd 2 (by omega)] at h5
            rw [HBD.out]
            exact h5)
          have hd : decide (954 < (m : Int)) = false := by simp; omega
          have hm2 : m ≤ 954 := by omega
          have hc2 : ¬ cv = 2 := by omega
          have hcv2 : 2 + (m : Int) ≤ (cv : Int) := by omega
          have hz2 : (2 + (m : Int)).toNat - 2 = m := by omega
          have hz3 : (2 + (m : Int)).toNat = 2 + m := by omega
          have hz4 : 2 + m - 2 = m := by omega
          clear hml HBD H0 H4 hm
          generalize bodyP X = Bd at *
          go_upto_region 16 with (at_builtin; refine wpList_append_B rfl (.tmp 64) (.tmp 68) rfl V.heap.size _ [] rfl (OB.lit V V.heap.size [] #[] (by simp [cellsB]) (Nat.le_refl _) (by simp [maxLen])) (some ⟨vd.block, vd.off + 2, none⟩) m (cv - 2) Bd rfl HML.out (HRB.out.alloc _) (by simp; omega) (by simp) ?_; intro v6 w6 o6 b6)
          simp only [List.nil_append] at o6
          obtain ⟨A6, c6, rfl, _, r6⟩ := o6.form
          rw [HML.out] at o6 ⊢
          have O6 := Lib.hid (o6.lift hge)
          have B6 := Lib.hid (B5.out.trans (((Below.refl _ V).alloc (Nat.le_refl _) _).trans b6 |>.mono hge))
          have KP := Lib.hid (refPut_ok gen A6 m c6 Bd w6 hg1 hgl HML.out hm2 r6)
          have hge6 : Hid (w.heap.size ≤ w6.heap.size) := Lib.hid B6.out.size
          have HPN := Lib.hid (putL_len gen Bd)
          clear o6 b6 r6 hc2 hcv2 hz2 hz3 hz4 HRB RV B5 hge
          generalize putL gen Bd = Q at *
          go_wp2_with fail
          refine KP.out.mono ?_
          rintro e w7 ⟨A7, c7, rfl, hc7, hm7, r7, b7⟩
          obtain ⟨qd, rfl⟩ := r7.some_of (by rw [HPN.out]; omega)
          have B7 := Lib.hid (B6.out.trans (b7.mono hge6.out))
          have O7 := Lib.hid (O6.out.keep b7 (Nat.le_refl _))
          have R7 := Lib.hid r7
          have RL := Lib.hid (HR.out.below B7.out)
          have hge7 : Hid (w.heap.size ≤ w7.heap.size) := Lib.hid B7.out.size
          clear KP b7 r7 O6 B6 HR
          go_wp2
          go_loopw [15] (fun i wr => ∃ k : Nat, k ≤ 4 ∧ i = .int .i64 k ∧ Below w7.heap.size w7 wr ∧ Q.take k = L.take k) (fun i _ => 4 - (intOf i).toNat)
          case atStart => exact ⟨0, Nat.zero_le _, rfl, Below.refl _ _, rfl⟩
          case round =>
            obtain ⟨k, hk, rfl, hB8, hE8⟩ := hrel
            by_cases hlt : k < 4
            · obtain ⟨a, ha⟩ : ∃ a, Q[k]? = some a := ⟨Q[k]'(by rw [HPN.out]; omega), List.getElem?_eq_getElem _⟩
              obtain ⟨b, hb⟩ : ∃ b, L[k]? = some b := ⟨L[k]'(by rw [HL.out]; omega), List.getElem?_eq_getElem _⟩
              obtain ⟨Xa, cx, x0, _, _, x3⟩ := (R7.out.below hB8).at ha
              obtain ⟨Ya, cy, y0, _, _, y3⟩ := (RL.out.below hB8).at hb
              have hs1 : ∀ q, (convert 22 9 (.slice Xa a.length cx)).run Try.prog (wr.drewN q) = .ok (.string (str a)) (wr.drewN q) := fun q => run_str _ _ _ _ a rfl (x3.drewN q)
              have hs2 : ∀ q, (convert 22 9 (.slice Ya b.length cy)).run Try.prog (wr.drewN q) = .ok (.string (str b)) (wr.drewN q) := fun q => run_str _ _ _ _ b rfl (y3.drewN q)
              have HT := Lib.hid ((take_eq_snoc hE8 ha hb).2)
              have HN := Lib.hid (ne_of_at ha hb)
              have HE := Lib.hid (str_beq a b)
              have B8 := Lib.hid (hB8.trans ((below_drewN wr 0).mono hB8.size))
              have HB8 := Lib.hid hB8
              generalize a.length = na at *
              generalize b.length = nb at *
              clear ha hb x3 y3 hB8 hE8
              by_cases hab : a = b
              · have hbt : ((str a).toList == (str b).toList) = true := by rw [HE.out]; exact decide_eq_true hab
                have HT2 := Lib.hid (HT.out hab)
                clear hab HT HN HE
                go_upto_region 20 with (fail)
                go_quiet (fail)
                go_wp2
                go_roundw
                case rel => exact ⟨k + 1, by omega, by go_num, HB8.out.trans ((below_drewN wr _).mono HB8.out.size), HT2.out⟩
                case measure => simp [intOf]; omega
              · have hbt : ((str a).toList == (str b).toList) = false := by rw [HE.out]; exact decide_eq_false hab
                obtain ⟨e1, e2, e3⟩ := H42.out (HN.out hab)
                have HF := Lib.hid (show ∀ w', Below w7.heap.size w7 w' → GetPost w L (.returned (.tuple #[.int .i64 0, .slice none 0 0, .int .i64 4])) w' from fun w' h => ⟨_, by rw [e1, e2]; rfl, by rw [e3]; exact OB.nil, B7.out.trans (h.mono hge7.out)⟩)
                clear hab HT HN HE e1 e2 e3
                go_upto_region 20 with (fail)
                go_quiet (fail)
                go_wp2
                go_ret3
                exact HF.out _ (HB8.out.trans ((below_drewN wr _).mono HB8.out.size))
            · obtain rfl : k = 4 := by omega
              have hQL : Q = L := by
                rw [List.take_of_length_le (by rw [HPN.out]; exact Nat.le_refl _), List.take_of_length_le (by rw [HL.out]; exact Nat.le_refl _)] at hE8
                exact hE8
              obtain ⟨e1, e2, e3⟩ := H02.out hQL
              have HF := Lib.hid (show GetPost w L (.returned (.tuple #[.int .i64 (gen : Int), .slice A6 m c6, .int .i64 0])) wr from ⟨_, by rw [e1, e2]; rfl, by rw [e3]; exact O7.out.keep hB8 (Nat.le_refl _), B7.out.trans (hB8.mono hge7.out)⟩)
              clear hQL e1 e2 e3 hB8 hE8
              go_wp2
              go_ret3
              exact HF.out
  · obtain ⟨e1, e2, e3⟩ := getE_3 (shared_len (L := L) (by omega))
    have HF := Lib.hid (show GetPost w L (.returned (.tuple #[.int .i64 0, .slice none 0 0, .int .i64 3])) w from ⟨_, by rw [e1, e2]; rfl, by rw [e3]; exact OB.nil, Below.refl _ _⟩)
    have hb : ((n : Int) != 4) = true := by rw [bne_iff_ne]; omega
    clear h4 hr e1 e2 e3
    go_enter Try.func13, Try.ntmps13
    go_wp2
    go_ret3
    exact HF.out
end Go.Proofs.Ytlpobinmkedgeaa
