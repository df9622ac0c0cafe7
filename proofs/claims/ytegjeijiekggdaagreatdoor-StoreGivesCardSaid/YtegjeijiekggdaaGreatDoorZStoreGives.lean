/- Joined: KStoreGives LStoreGives. -/
import Derived.Test.YtegjeijiekggdaaGreatDoorM39
import Derived.Test.YtegjeijiekggdaaGreatDoorM23
import Derived.Test.YtegjeijiekggdaaGreatDoorTie
import Derived.Test.YtegjeijiekggdaaGreatDoorCards
import Derived.SevenTiedAt
section
/- The walk of the law StoreGives. -/
namespace Go.Proofs.YtegjeijiekggdaaGreatDoor
open Go.RowKit
set_option linter.unusedVariables false
set_option linter.unusedSimpArgs false
theorem meas_step {k n : Nat} (h : k < n) : n - (intOf (.int .i64 ((k : Int) + 1))).toNat < n - (intOf (.int .i64 (k : Int))).toNat := by
  show n - ((k : Int) + 1).toNat < n - (k : Int).toNat
  omega
set_option maxHeartbeats 4000000 in
set_option maxRecDepth 100000 in
theorem storeGives_core (a0 : Int) (A : Option Addr) (n c : Nat) (l : List Sa) (w : World) (h0 : 0 ≤ a0) (h1 : a0 ≤ 255) (hl : l.length = n) (hn : n ≤ maxLen) (ha : SActsAt w A l) (hT : TabAt 0 Lib.deBruijn64tab w) :
    Calls Tryz.prog 6 #[.int .u8 a0, .slice A n c] w fun e w' => e = .returned (.bool true) ∧ Below w.heap.size w w' := by
  have HL := Lib.hid hl
  have HA := Lib.hid ha
  have HT := Lib.hid hT
  have KF := Lib.hid (sfew_any A n c l 30 w hl hn ha)
  have HM : n ≤ 9223372036854775807 := by simp only [maxLen] at hn; omega
  clear hl ha hT hn
  cases hf : sfewL l 30 with
  | false =>
    rw [hf] at KF
    have KA := Lib.hid (stAwake_any w HT.out)
    go_enter Tryz.func6, Tryz.ntmps6
    go_wp2_with (first
      | (go_at_call 7; refine KF.out.mono ?_; rintro e w0 ⟨rfl, rfl⟩)
      | (go_at_call 8; refine KA.out.mono ?_; rintro e w1 ⟨rfl, b1⟩; have B1 := Lib.hid b1; clear b1)
      | fail)
    go_ret
    exact ⟨rfl, B1.out⟩
  | true =>
    rw [hf] at KF
    obtain ⟨hf1, hf2⟩ := sfewL_at hf
    rw [HL.out] at hf1
    clear hf hf2
    obtain ⟨N, hN⟩ : ∃ N : Nat, (N : Int) = 40 + a0 % 61 := ⟨(40 + a0 % 61).toNat, by omega⟩
    have hN1 : 40 ≤ N := by omega
    have hN2 : N ≤ 100 := by omega
    obtain ⟨d0, t0, hfm, g0, _⟩ := gv_format hN1 (by omega) 4 (by omega)
    have HFM := Lib.hid hfm
    have G0 := Lib.hid g0
    have hz1 : a0.tmod 61 = a0 % 61 := Int.tmod_eq_emod_of_nonneg h0
    have HN := Lib.hid hN
    clear hN hfm g0
    go_enter Tryz.func6, Tryz.ntmps6
    go_wp2_with (first
      | (go_at_call 7; refine KF.out.mono ?_; rintro e w0 ⟨rfl, rfl⟩)
      | fail)
    rw [← HN.out]
    refine (new_any (N : Int) w).mono ?_
    rintro e w0 ⟨F, rfl, k0, b0⟩
    have B0 := Lib.hid b0
    have K0 := format_any (d := Dk.new (N : Int)) k0 (by rw [show (Dk.new (N : Int)).calls = 0 from rfl]; omega) 4 (by omega) (by omega)
    have hfm : formatP (Dk.new (N : Int)) 4 = (d0, some t0, 0) := HFM.out
    rw [hfm] at K0
    have K0 := Lib.hid K0
    clear k0 b0 hfm HFM
    go_wp2_with fail
    refine K0.out.mono ?_
    rintro e w1 ⟨k1, f1, _, hs⟩
    obtain ⟨P, rfl, s1⟩ := hs _ rfl
    have k1 : DkAt w.heap.size F w1 d0 := k1
    have T1 : Gt w F P.G w1 d0 t0 := ⟨⟨P, rfl, s1.lower B0.out.size⟩, k1, B0.out.trans (f1.below k1.based B0.out.size)⟩
    have T1 := Lib.hid T1
    clear K0 k1 f1 hs s1 B0
    generalize P.G = G at *
    go_upto_region 8 with fail
    have H1 := Lib.hid (show ∃ (k : Nat) (d : Dk) (t : Sto), k ≤ n ∧ (0 : Int) = (k : Int) ∧ Gt w F G w1 d t ∧ Gv N d t k from ⟨0, d0, t0, Nat.zero_le _, rfl, T1.out, G0.out⟩)
    clear T1 G0
    go_loopw [8] (fun i wr => ∃ (k : Nat) (d : Dk) (t : Sto), k ≤ n ∧ i = .int .i64 (k : Int) ∧ Gt w F G wr d t ∧ Gv N d t k) (fun i _ => n - (intOf i).toNat)
    case atStart =>
      obtain ⟨k, d, t, h1, h2, h3, h4⟩ := H1.out
      exact ⟨k, d, t, h1, by rw [h2], h3, h4⟩
    case round =>
      clear H1
      obtain ⟨k, d, t, hk, rfl, st, gv⟩ := hrel
      have ST := Lib.hid st
      have GV := Lib.hid gv
      have HT1 := Lib.hid (st.tab HT.out)
      by_cases hlt : k < n
      · have hk' : (k : Int) < (n : Int) := by omega
        obtain ⟨ad, a, rfl, hka, hat⟩ := (HA.out.below st.bel).at_ (i := k) (by rw [HL.out]; exact hlt)
        have x0 := hat.d0
        have x1 := hat.d1
        have zk0 : 0 ≤ (a.kind.toNat : Int) := by omega
        have zk1 : (a.kind.toNat : Int) < 256 := by have := a.kind.toNat_lt; omega
        generalize hkd : (a.kind.toNat : Int) = kd at *
        have KA := Lib.hid (gAlloc st gv HT.out)
        have KR := Lib.hid (gFree st gv a.n)
        have KC := Lib.hid (gCommit st gv (by omega) none 0 0 [] rfl (by omega) RB.nil)
        clear st gv hka hat hkd
        by_cases q0 : kd % 10 = 0 ∨ kd % 10 = 1 ∨ kd % 10 = 2
        · rcases q0 with q0 | q0 | q0 <;>
          · go_wp2_with (first
              | (go_at_call 16; refine KA.out.mono ?_; rintro e w2 ⟨rfl, s2, f2⟩; have S2 := Lib.hid s2; clear s2 f2)
              | fail)
            go_round
            case rel => exact ⟨k + 1, _, _, by omega, by go_num, S2.out, (GV.out.alloc).more (by omega)⟩
            case measure => exact meas_step hlt
        · by_cases q5 : kd % 10 = 5
          · go_wp2_with (first
              | (go_at_call 20; refine KR.out.mono ?_; rintro e w2 ⟨rfl, s2, f2⟩; have S2 := Lib.hid s2; clear s2 f2)
              | fail)
            go_round
            case rel => exact ⟨k + 1, _, _, by omega, by go_num, S2.out, (GV.out.free _).more (by omega)⟩
            case measure => exact meas_step hlt
          · by_cases q6 : kd % 10 = 6
            · go_wp2_with (first
                | (go_at_call 21; refine KC.out.mono ?_; rintro e w2 ⟨d2, t2, rfl, s2, g2, _, _, _, f2⟩; have S2 := Lib.hid s2; have G2 := Lib.hid g2; clear s2 g2 f2)
                | fail)
              go_round
              case rel => exact ⟨k + 1, _, _, by omega, by go_num, S2.out, G2.out⟩
              case measure => exact meas_step hlt
            · have y0 : (kd % 10 == 0) = false := by simp; omega
              have y1 : (kd % 10 == 1) = false := by simp; omega
              have y2 : (kd % 10 == 2) = false := by simp; omega
              have y5 : (kd % 10 == 5) = false := by simp; omega
              have y6 : (kd % 10 == 6) = false := by simp; omega
              clear q0 q5 q6
              go_wp2_with fail
              go_round
              case rel => exact ⟨k + 1, _, _, by omega, by go_num, ST.out, GV.out.more (by omega)⟩
              case measure => exact meas_step hlt
      · obtain rfl : k = n := by omega
        clear st gv
        obtain ⟨A0, U, m, s, hU, hm, hs⟩ : ∃ (x : Nat) (U : List UInt64) (m s : Nat), U = t.used ∧ m = U.length ∧ s = t.size := ⟨0, _, _, _, rfl, rfl, rfl⟩
        have GU := gUsed ST.out GV.out
        rw [← hU, ← hm, ← hs] at GU
        have GU := Lib.hid GU
        have HU := Lib.hid hU
        have HMM := Lib.hid hm
        have HS := Lib.hid hs
        clear hU hm hs A0
        go_upto_region 20 with (first
          | (go_at_call 24; refine GU.out.mono ?_; rintro e w2 ⟨AU, cu, rfl, hcu, ru, au, b2⟩; have HCU := Lib.hid hcu; have RU := Lib.hid ru; have AUX := Lib.hid au; have B2 := Lib.hid b2; clear hcu ru au b2)
          | fail)
        have T3 := Lib.hid ((ST.out.below B2.out).below ((Below.refl _ w2).alloc (Nat.le_refl _) (.cells #[.int .i64 (s : Int), .slice AU m cu] 64)))
        have C3 := Lib.hid (show Ct F G w2.heap.size s m U AU cu (w2.alloc (.cells #[.int .i64 (s : Int), .slice AU m cu] 64)) from
          ⟨HMM.out.symm, by have := HCU.out; omega, (cell_of_row _ _ 0 _ _ _ (heap_alloc_last w2 _)).trans rfl, (cell_of_row _ _ 1 _ _ _ (heap_alloc_last w2 _)).trans rfl, RU.out.below ((Below.refl _ w2).alloc (Nat.le_refl _) _),
            fun hk => by have := ST.out.gl _ hk; have := B2.out.size; omega, fun ad e hne hk => by have := ST.out.gl _ hk; have := AUX.out ad e; omega⟩)
        clear GU RU AUX B2 HCU ST
        generalize w2.heap.size = C at *
        generalize w2.alloc (.cells #[.int .i64 (s : Int), .slice AU m cu] 64) = w3 at *
        have kc := fun (w : World) (C : Array Value) (n c : Nat) => Lib.run_convert_bytes_const (P := Tryz.prog) w 29 5 C n c Tryz.underlying29 Tryz.underlying5
        have Y3 := Lib.hid (show Below w3.heap.size w3 (w3.alloc (.cells #[.int .u8 120] 5 (1, 2))) from (Below.refl _ w3).alloc (Nat.le_refl _) _)
        have KC := gCommit (T3.out.below Y3.out) GV.out (by omega) (some ⟨w3.heap.size, 0, none⟩) 1 1 [120] rfl (by omega) (RB.mark w3 [120] _ (1, 2) (by simp [cellsB, cellB]))
        rw [← HU.out, ← HS.out] at KC
        have KC := Lib.hid KC
        clear T3
        go_wp2_with (first
          | (go_at_call 21; refine KC.out.mono ?_; rintro e w4 ⟨d4, t4, rfl, s4, g4, q1, q2, q3, f4⟩; have S4 := Lib.hid s4; have G4 := Lib.hid g4; have C4 := Lib.hid ((C3.out.below Y3.out).frm f4); have Q1 := Lib.hid q1; have Q2 := Lib.hid q2; have Q3 := Lib.hid q3; have x0 := C4.out.x0; have x1 := C4.out.x1; clear s4 g4 f4 q1 q2 q3 kc)
          | fail)
        have hok : okB (s : Int) U = true := by
          have h1 := G4.out.ok.used
          rw [Q1.out, Q3.out] at h1
          exact h1
        obtain ⟨r, hr⟩ : ∃ r, r = rankB (s : Int) U (s : Int) := ⟨_, rfl⟩
        have P4 := Lib.hid (show Ph s U t4 r from ⟨Q1.out, Q2.out, hok, by rw [Q3.out]; exact hok, fun i hi => by rw [Q3.out]; exact hi, by rw [Q3.out]; exact hr.symm, G4.out.bad⟩)
        have hrs : r ≤ s := by rw [hr]; exact rankB_le _ _ _
        have hs5 : s ≤ 512 := by
          have h1 := G4.out.len.1
          rw [Q1.out] at h1
          exact h1
        have HR := Lib.hid hr
        have HOK := Lib.hid hok
        have KR := cRank C4.out
        rw [← hr] at KR
        have KR := Lib.hid KR
        have KO := fun (V : World) (b : Below w4.heap.size w4 V) => gRoom (S4.out.below b) G4.out
        rw [P4.out.room] at KO
        have KO := Lib.hid KO
        have hsr : ((s - r : Nat) : Int) = (s : Int) - (r : Int) := by omega
        clear hr hok Q1 Q2 Q3 C3 Y3 KC HS HU GV
        go_upto_region 27 with (first
          | (go_at_call 33; refine KR.out.mono ?_; rintro e w5 ⟨rfl, b5⟩; have B5 := Lib.hid b5; clear b5)
          | (go_at_call 25; refine (KO.out _ B5.out).mono ?_; rintro e w6 ⟨rfl, b6⟩; have B6 := Lib.hid (B5.out.trans (b6.mono B5.out.size)); clear b6)
          | fail)
        have S6 := Lib.hid (S4.out.below B6.out)
        have C6 := Lib.hid (C4.out.below B6.out)
        clear KR KO B5 B6 S4 C4 x0 x1 hsr
        have H6 := Lib.hid (show ∃ (j : Nat) (t : Sto), r ≤ j ∧ j ≤ s ∧ (r : Int) = (j : Int) ∧ Gt w F G w6 d4 t ∧ Gv N d4 t (k + 1) ∧ Ph s U t j ∧ Ct F G C s m U AU cu w6 from ⟨r, t4, Nat.le_refl _, hrs, rfl, S6.out, G4.out, P4.out, C6.out⟩)
        clear S6 G4 P4 C6
        go_loopw [12] (fun i wr => ∃ (j : Nat) (t : Sto), r ≤ j ∧ j ≤ s ∧ i = .int .i64 (j : Int) ∧ Gt w F G wr d4 t ∧ Gv N d4 t (k + 1) ∧ Ph s U t j ∧ Ct F G C s m U AU cu wr) (fun i _ => s - (intOf i).toNat)
        case atStart =>
          obtain ⟨j, t, z1, z2, z3, z4⟩ := H6.out
          exact ⟨j, t, z1, z2, by rw [z3], z4⟩
        case round =>
          clear H6
          obtain ⟨j, t5, hj1, hj2, rfl, st, gv, ph, ct⟩ := hrel
          have PH := Lib.hid ph
          have CT := Lib.hid ct
          have ST5 := Lib.hid st
          have GV5 := Lib.hid gv
          have KA := gAlloc st gv HT.out
          by_cases hlt2 : j < s
          · obtain ⟨x, hx1, hx2, hx3⟩ := ph.alloc hlt2
            have PH' := Lib.hid hx3
            have GA := Lib.hid gv.alloc
            rw [hx1] at KA
            have KA := Lib.hid KA
            have HX2 := Lib.hid hx2
            generalize (allocP t5).1 = t6 at *
            clear hx1 hx2 hx3 st gv ph ct PH ST5 GV5
            go_wp2_with (first
              | (go_at_call 16; refine KA.out.mono ?_; rintro e w7 ⟨rfl, s7, f7⟩; have S7 := Lib.hid s7; have C7 := Lib.hid (CT.out.frm f7); have x0 := C7.out.x0; have x1 := C7.out.x1; have KH := cHas C7.out (x : Int); rw [HX2.out] at KH; have KH := Lib.hid KH; clear s7 f7)
              | (go_at_call 34; refine KH.out.mono ?_; rintro e w8 ⟨rfl, b8⟩; have B8 := Lib.hid b8; clear b8)
              | fail)
            go_round
            case rel => exact ⟨j + 1, t6, by omega, by omega, by go_num, S7.out.below B8.out, GA.out, PH'.out, C7.out.below B8.out⟩
            case measure => exact meas_step hlt2
          · obtain rfl : s = j := by omega
            rw [ph.full] at KA
            have KA := Lib.hid KA
            have KO := fun (V : World) (S : Gt w F G V d4 t5) => gRoom S gv
            rw [ph.fr.room] at KO
            have KO := Lib.hid KO
            obtain ⟨U5, m5, hU5, hm5⟩ : ∃ (U5 : List UInt64) (m5 : Nat), U5 = t5.used ∧ m5 = U5.length := ⟨_, _, rfl, rfl⟩
            have KU := fun (V : World) (S : Gt w F G V d4 t5) => gUsed S gv
            rw [← hU5, ← hm5, ph.size] at KU
            have KU := Lib.hid KU
            have KR := fun (V : World) (A : Option Addr) (c : Nat) (hc : m5 ≤ c) (hr : RQ V A U5) => rank_any (s : Int) A c U5 (s : Int) V (by rw [← hm5]; exact hc) hr
            have hrk := ph.rank
            rw [← hU5] at hrk
            rw [← hm5, hrk] at KR
            have KR := Lib.hid KR
            clear hU5 hm5 hrk st gv ph ct hj1 hj2 hlt2
            go_upto_region 36 with (first
              | (go_at_call 16; refine KA.out.mono ?_; rintro e w7 ⟨rfl, s7, f7⟩; have S7 := Lib.hid s7; have C7 := Lib.hid (CT.out.frm f7); clear s7 f7)
              | (go_at_call 25; refine (KO.out _ S7.out).mono ?_; rintro e w8 ⟨rfl, b8⟩; have S8 := Lib.hid (S7.out.below b8); have C8 := Lib.hid (C7.out.below b8); clear b8)
              | (go_at_call 24; refine (KU.out _ S8.out).mono ?_; rintro e w9 ⟨A9, c9, rfl, hc9, r9, _, b9⟩; have HC9 := Lib.hid hc9; have R9 := Lib.hid r9; have S9 := Lib.hid (S8.out.below b9); have C9 := Lib.hid (C8.out.below b9); clear hc9 r9 b9)
              | (go_at_call 33; refine (KR.out _ _ _ HC9.out R9.out).mono ?_; rintro e w10 ⟨rfl, b10⟩; have S10 := Lib.hid (S9.out.below b10); have C10 := Lib.hid (C9.out.below b10); clear b10)
              | fail)
            have H10 := Lib.hid (show ∃ (j : Nat) (t : Sto), j ≤ s ∧ (0 : Int) = (j : Int) ∧ Gt w F G w10 d4 t ∧ Gv N d4 t (k + 1) ∧ Fr s U t j ∧ Ct F G C s m U AU cu w10 from ⟨0, t5, Nat.zero_le _, rfl, S10.out, GV5.out, PH.out.fr, C10.out⟩)
            clear KA KO KU KR HC9 R9 S7 S8 S9 S10 C7 C8 C9 C10 PH CT ST5 GV5
            go_loopw [17] (fun i wr => ∃ (j : Nat) (t : Sto), j ≤ s ∧ i = .int .i64 (j : Int) ∧ Gt w F G wr d4 t ∧ Gv N d4 t (k + 1) ∧ Fr s U t j ∧ Ct F G C s m U AU cu wr) (fun i _ => s - (intOf i).toNat)
            case atStart =>
              obtain ⟨j, t, z1, z3, z4⟩ := H10.out
              exact ⟨j, t, z1, by rw [z3], z4⟩
            case round =>
              clear H10
              obtain ⟨j, t6, hj, rfl, st, gv, fr, ct⟩ := hrel
              by_cases hlt3 : j < s
              · have x0 := ct.x0
                have x1 := ct.x1
                have KH := cHas ct (j : Int)
                cases hh : hasB (s : Int) U (j : Int) with
                | false =>
                  rw [hh] at KH
                  have KH := Lib.hid KH
                  have FR := Lib.hid (fr.skip hlt3 hh)
                  have S6 := Lib.hid st
                  have G6 := Lib.hid gv
                  have C6 := Lib.hid ct
                  clear hh st gv fr ct
                  go_wp2_with (first
                    | (go_at_call 34; refine KH.out.mono ?_; rintro e w7 ⟨rfl, b7⟩; have S7 := Lib.hid (S6.out.below b7); have C7 := Lib.hid (C6.out.below b7); clear b7)
                    | fail)
                  go_round
                  case rel => exact ⟨j + 1, t6, by omega, by go_num, S7.out, G6.out, FR.out, C7.out⟩
                  case measure => exact meas_step hlt3
                | true =>
                  rw [hh] at KH
                  have KH := Lib.hid KH
                  obtain ⟨y1, y2⟩ := fr.free hlt3 hh
                  have FR := Lib.hid y2
                  have KD := fun (V : World) (S : Gt w F G V d4 t6) => gFree S gv (j : Int)
                  rw [y1] at KD
                  have KD := Lib.hid KD
                  have G7 := Lib.hid (gv.free (j : Int))
                  have S6 := Lib.hid st
                  have C6 := Lib.hid ct
                  clear hh st gv fr ct y1 y2
                  generalize (freeP t6 (j : Int)).1 = t7 at *
                  have KO := fun (V : World) (S : Gt w F G V d4 t7) => gRoom S G7.out
                  rw [FR.out.room] at KO
                  have KO := Lib.hid KO
                  go_wp2_with (first
                    | (go_at_call 34; refine KH.out.mono ?_; rintro e w7 ⟨rfl, b7⟩; have S7 := Lib.hid (S6.out.below b7); have C7 := Lib.hid (C6.out.below b7); clear b7)
                    | (go_at_call 20; refine (KD.out _ S7.out).mono ?_; rintro e w8 ⟨rfl, s8, f8⟩; have S8 := Lib.hid s8; have C8 := Lib.hid (C7.out.frm f8); clear s8 f8)
                    | (go_at_call 25; refine (KO.out _ S8.out).mono ?_; rintro e w9 ⟨rfl, b9⟩; have S9 := Lib.hid (S8.out.below b9); have C9 := Lib.hid (C8.out.below b9); clear b9)
                    | fail)
                  go_round
                  case rel => exact ⟨j + 1, t7, by omega, by go_num, S9.out, G7.out, FR.out, C9.out⟩
                  case measure => exact meas_step hlt3
              · obtain rfl : s = j := by omega
                clear hj hlt3
                have T6 := st.below (Below.refl _ _).drew
                have CT6 := ct.below (Below.refl _ _).drew
                obtain ⟨y1, y2⟩ := fr.forget
                rw [← HR.out] at y2
                have G7 := Lib.hid (gv.used (L := U) (by rw [fr.size]; exact HOK.out))
                have P7 := Lib.hid y2
                have KA := gForget T6
                rw [y1] at KA
                have KA := Lib.hid KA
                clear y1 y2
                have hu7 : ({ t6 with used := U } : Sto).used = U := rfl
                generalize ({ t6 with used := U } : Sto) = t7 at *
                have KU := fun (V : World) (S : Gt w F G V d4 t7) => gUsed S G7.out
                rw [hu7, P7.out.size, ← HMM.out] at KU
                have KU := Lib.hid KU
                have KS := fun (V : World) (X : Option Addr) (c : Nat) (hX : RQ V X U) (hY : RQ V AU U) => qSame_any (s : Int) (s : Int) X AU c cu U U V hX hY (by have := G7.out.len; rw [hu7] at this; omega)
                rw [same_self, ← HMM.out] at KS
                have KS := Lib.hid KS
                have KO := fun (V : World) (S : Gt w F G V d4 t7) => gRoom S G7.out
                have hsr : ((s - r : Nat) : Int) = (s : Int) - (r : Int) := by omega
                rw [P7.out.room, hsr] at KO
                have KO := Lib.hid KO
                have x6 := And.intro CT6.x0 CT6.x1
                have C6 := Lib.hid CT6
                have hwr : IntKind.i64.wrap ((s : Int) - (r : Int)) = (s : Int) - (r : Int) := wrap64 _ (by omega) (by omega)
                clear T6 CT6 st gv fr ct hsr hu7
                go_upto_region 40 with fail
                (try clear HM); (try clear hf1); (try clear hN1); (try clear hN2); (try clear h0); (try clear h1); (try clear hz1); (try clear hs5); (try clear hrs); (try clear hlt)
                go_region_held3 (fun W => W.cell? ⟨C, 0, none⟩ = some (.int .i64 (s : Int)) ∧ W.cell? ⟨C, 1, none⟩ = some (.slice AU m cu)) (first | with_reducible assumption | with_reducible exact x6 | with_reducible exact x7 | with_reducible exact x8 | with_reducible exact x9 | with_reducible exact x10 | with_reducible exact x11 | go_keep | fail)
                  (first
                    | (go_at_call 22; refine KA.out.mono ?_; rintro e w7 ⟨rfl, s7, f7⟩; have S7 := Lib.hid s7; have C7 := Lib.hid (C6.out.frm f7); have x7 := And.intro C7.out.x0 C7.out.x1; clear s7 f7)
                    | (go_at_call 24; refine (KU.out _ S7.out).mono ?_; rintro e w8 ⟨A8, c8, rfl, _, r8, _, b8⟩; have R8 := Lib.hid r8; have S8 := Lib.hid (S7.out.below b8); have C8 := Lib.hid (C7.out.below b8); have x8 := And.intro C8.out.x0 C8.out.x1; clear r8 b8)
                    | (go_at_call 35; refine (KS.out _ A8 c8 R8.out C8.out.rq).mono ?_; rintro e w9 ⟨rfl, b9⟩; have S9 := Lib.hid (S8.out.below b9); have C9 := Lib.hid (C8.out.below b9); have x9 := And.intro C9.out.x0 C9.out.x1; clear b9)
                    | (go_at_call 25; refine (KO.out _ S9.out).mono ?_; rintro e w10 ⟨rfl, b10⟩; have S10 := Lib.hid (S9.out.below b10); have C10 := Lib.hid (C9.out.below b10); have x10 := And.intro C10.out.x0 C10.out.x1; clear b10)
                    | (go_at_call 8; refine (stAwake_any _ (S10.out.tab HT.out)).mono ?_; rintro e w11 ⟨rfl, b11⟩; have S11 := Lib.hid (S10.out.below b11); have C11 := Lib.hid (C10.out.below b11); have x11 := And.intro C11.out.x0 C11.out.x1; clear b11)
                    | fail)
                all_goals
                  first | go_ret | (go_wp2_with fail; go_ret)
                  exact ⟨rfl, S11.out.bel⟩
end Go.Proofs.YtegjeijiekggdaaGreatDoor
end
section
/- It is proved that the law StoreGives answers true for every size and every list of calls, and leaves what it is given as it was, the table of math/bits being as the program's text lays it (tied). No other condition. -/
namespace Go.Proofs.YtegjeijiekggdaaGreatDoor.storeGives
open Go.ChangeShapes Go.WideShapes Go.ChangeAt Go.RowKit
set_option linter.unusedVariables false
set_option maxRecDepth 100000 in
theorem lifted (os : Os) (started : os.Started) (H : Type) (enc : TypeId × Value → H) :
    ReturnsInHanded {} Tryz.checked os 6 .any (fun w args => (Rows.storeGivesSpec.pre enc Tryz.prog Tryz.f6 [] false w args ∧ laidMetH Tryz.prog laidT w) ∧ sizedMet enc Tryz.prog Tryz.f6 (OpenSpec.ofChange Rows.storeGivesSpec) false w args)
      (Rows.storeGivesSpec.post enc Tryz.prog Tryz.f6 false true false false) := by
  refine returnsInHanded_of_change_and (C := Tryz.checked) (X := fun w _ => laidMetH Tryz.prog laidT w) (fun _ _ _ hh h => h.of_heap hh) f_own started (by kernel_rfl) Tryz.func6
    (ChangeSpec.witness_shaped (enc := enc) (C := Tryz.checked) (os := os) (X := fun w _ => laidMetH Tryz.prog laidT w) false (World.doorLaid Tryz.prog 400 os) #[.int .u8 0, .slice none 0 0] 8 rfl (World.shaped_of_RefB (by kernel_rfl) (by kernel_rfl)) (by kernel_rfl) (by kernel_rfl) (by kernel_rfl) (door_met os _)) ?_
  intro W base args ds gs before hval0 hW _ _ hL _
  have hval : ∀ (j : Nat) t v, Tryz.f6.params[j]? = some t → args[j]? = some v → Value.okWide Tryz.prog W .any base t v := hval0
  have hW' := hW
  obtain ⟨p, q, hA0, hV, rfl, hfz, hnd⟩ := hW
  have hA : DataW.TrodAll enc Tryz.prog W 0 (fun _ => true) true Tryz.f6.params.toList args.toList ds p := hA0
  rw [Tryz.params6] at hA hval
  obtain ⟨v0, vs0, d0, ds0, p0, q0, hargs, rfl, rfl, h0, r0⟩ := trodAll_cons hA
  obtain ⟨v1, vs1, d1, ds1, p1, q1, rfl, rfl, rfl, h1, r1⟩ := trodAll_cons r0
  obtain ⟨rfl, rfl, rfl⟩ := trodAll_nil r1
  obtain rfl : args = #[v0, v1] := by cases args; simp_all
  obtain ⟨rfl, rfl⟩ := trodVars_none hV
  obtain ⟨a0, rfl, rfl, rfl, w0⟩ := open_int Tryz.underlying5 (hval 0 5 v0 rfl rfl) h0
  have k1 := h1
  have lt1 : ∀ x ∈ p1, x.block < W.heap.size := by obtain ⟨m, hm⟩ := k1; exact DataW.trod_lt m _ _ _ hm
  obtain ⟨a1, len1, cap1, rfl⟩ := okWide_slice Tryz.underlying22 (hval 1 22 v1 rfl rfl)
  obtain ⟨l1, hl1, hc1, hm1, ha1⟩ := open_sacts h1
  have b0 := bounds_u8 w0
  clear hA0 hval0
  refine (storeGives_core a0 a1 len1 cap1 l1 W b0.1 (by omega) hl1 (Nat.le_trans hc1 hm1) ha1 (tab_of_laid hL)).mono fun e W' ⟨he, bel⟩ => ?_
  subst he
  exact ⟨_, rfl, _, _, _, [], _, [], hW', trodAll_mk1 (shut_bool Tryz.underlying4 _), (trodAll_cons_mk (shut_int Tryz.underlying5 w0) (trodAll_cons_mk (Below.trod f_laidOut (by kernel_rfl) (of_decide_eq_true (by kernel_rfl)) k1 bel lt1) trodAll_mk0)), rfl, bel.frame _, fun h => by cases h⟩
theorem over : Rows.storeGivesRow.holds Tryz.pinned (OpenSpec.ofChange Rows.storeGivesSpec) :=
  OpenClaim.holds_of_wide 6 Tryz.f6 rfl rfl rfl rfl rfl rfl rfl ⟨rfl, rfl, rfl, rfl, rfl⟩ rfl rfl rfl rfl rfl (by kernel_rfl) Tryz.func6 (by kernel_rfl)
    (of_decide_eq_true (by kernel_rfl)) (by unfold Func.isWrapper; first | (rw [if_pos (by decide +kernel)]; kernel_rfl) | (rw [if_neg (by decide +kernel)]; exact ⟨rfl, rfl⟩))
    (fun os started H enc _ => lifted os started H enc)
theorem card : Rows.StoreGivesCardSaid :=
  Claim7.holds_tied_plain_at .later [] [.data] true (true, "87c400e9a875d8f09e90d994a6227dd961d7be556afac1fe58f07ecc56b8673e") true
    over (fun _ h => by cases h) (by kernel_rfl) (fun _ h => by cases h) storeGives_row_tie rfl ⟨rfl, rfl⟩ (by kernel_rfl) rfl
    (fun f fn hf hfn => by
      obtain rfl : f = 6 := Option.some.inj ((show Tryz.prog.funcNamed "fascicle/fasciclelaw07.StoreGives" = some 6 by kernel_rfl).symm.trans hf) |>.symm
      obtain rfl : fn = Tryz.f6 := (Option.some.inj (Tryz.func6.symm.trans hfn)).symm
      exact ⟨by kernel_rfl, fun j t ht => by
        rw [Tryz.params6] at ht
        match j, ht with
        | 0, ht => obtain rfl := Option.some.inj ht; exact (show Tryz.prog.wantsStandIn 5 = false by kernel_rfl)
        | 1, ht => obtain rfl := Option.some.inj ht; exact (show Tryz.prog.wantsStandIn 22 = false by kernel_rfl)
        | j + 2, ht => simp at ht⟩)
    (by kernel_rfl)
#print axioms card
end Go.Proofs.YtegjeijiekggdaaGreatDoor.storeGives
end
