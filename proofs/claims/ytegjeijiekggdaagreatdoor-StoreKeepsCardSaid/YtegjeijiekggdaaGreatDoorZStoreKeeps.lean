/- Joined: KStoreKeeps LStoreKeeps. -/
import Derived.Test.YtegjeijiekggdaaGreatDoorM43
import Derived.Deep.CutBlock
import Derived.Deep.CutRange
import Derived.Test.YtegjeijiekggdaaGreatDoorM23
import Derived.Test.YtegjeijiekggdaaGreatDoorTie
import Derived.Test.YtegjeijiekggdaaGreatDoorCards
import Derived.SevenTiedAt
section
/- The walk of the law StoreKeeps. -/
namespace Go.Proofs.YtegjeijiekggdaaGreatDoor
open Go.RowKit
set_option linter.unusedVariables false
set_option linter.unusedSimpArgs false
set_option maxHeartbeats 4000000 in
set_option maxRecDepth 100000 in
theorem storeKeeps_core (A : Option Addr) (n c : Nat) (l : List Sa) (w : World) (hl : l.length = n) (hn : n ≤ maxLen) (ha : SActsAt w A l) (hT : TabAt 0 Lib.deBruijn64tab w) :
    Calls Tryz.prog 5 #[.slice A n c] w fun e w' => e = .returned (.bool true) ∧ Below w.heap.size w w' := by
  have HL := Lib.hid hl
  have HA := Lib.hid ha
  have HT := Lib.hid hT
  have KF := Lib.hid (sfew_any A n c l 30 w hl hn ha)
  have HM : n ≤ 9223372036854775807 := by simp only [maxLen] at hn; omega
  clear hl ha hT hn
  cases hf : sfewL l 30 with
  | false =>
    rw [hf] at KF
    have KA := Lib.hid (stAwake_any w HT.out)
    go_enter Tryz.func5, Tryz.ntmps5
    go_wp2_with (first
      | (go_at_call 7; refine KF.out.mono ?_; rintro e w0 ⟨rfl, rfl⟩)
      | (go_at_call 8; refine KA.out.mono ?_; rintro e w1 ⟨rfl, b1⟩; have B1 := Lib.hid b1; clear b1)
      | fail)
    go_ret
    exact ⟨rfl, B1.out⟩
  | true =>
    rw [hf] at KF
    obtain ⟨hf1, hf2⟩ := sfewL_at hf
    rw [HL.out] at hf1
    have HF2 := Lib.hid hf2
    clear hf hf2
    obtain ⟨d0, t0, hfm, kp0, ho0, hb0, hc0, hu0⟩ := keeps_format
    have HFM := Lib.hid hfm
    have KP0 := Lib.hid kp0
    have HO0 := Lib.hid ho0
    have HB0 := Lib.hid hb0
    have HC0 := Lib.hid hc0
    have HU0 := Lib.hid hu0
    clear hfm kp0 ho0 hb0 hc0 hu0
    go_enter Tryz.func5, Tryz.ntmps5
    go_wp2_with (first
      | (go_at_call 7; refine KF.out.mono ?_; rintro e w0 ⟨rfl, rfl⟩)
      | fail)
    refine (new_any 60 w).mono ?_
    rintro e w0 ⟨F, rfl, k0, b0⟩
    have B0 := Lib.hid b0
    have K0 := format_any (d := Dk.new 60) k0 (by rw [show (Dk.new 60).calls = 0 from rfl]; omega) 4 (by omega) (by omega)
    have hfm : formatP (Dk.new 60) 4 = (d0, some t0, 0) := HFM.out
    rw [hfm] at K0
    have K0 := Lib.hid K0
    clear k0 b0 hfm HFM
    go_wp2_with fail
    refine K0.out.mono ?_
    rintro e w1 ⟨k1, f1, _, hs⟩
    obtain ⟨P, rfl, s1⟩ := hs _ rfl
    have k1 : DkAt w.heap.size F w1 d0 := k1
    have T1 : Gt w F P.G w1 d0 t0 := ⟨⟨P, rfl, s1.lower B0.out.size⟩, k1, B0.out.trans (f1.below k1.based B0.out.size)⟩
    have T1 := Lib.hid T1
    clear K0 k1 f1 hs s1 B0
    generalize P.G = G at *
    have KI := image_any T1.out KP0.out.len HO0.out HB0.out KP0.out.tok
    rw [HU0.out] at KI
    have KI := Lib.hid KI
    go_upto_region 9 with (first
      | (go_at_call 29; refine KI.out.mono ?_; rintro e w2 ⟨rfl, s2, f2⟩; have S2 := Lib.hid s2; clear s2 f2)
      | fail)
    have H2 := Lib.hid (show ∃ (k G' : Nat) (d : Dk) (t : Sto), k ≤ n ∧ (0 : Int) = (k : Int) ∧ G = G' ∧ str (imgP d0 t0 t0.cts) = str (imgP d t t.cts) ∧ Gt w F G' w2 d t ∧ Kp d t (k + 1) ∧ d.off = false ∧ t.bad = false ∧ d.calls ≤ 20 * (k + 1) from ⟨0, G, d0, t0, Nat.zero_le _, rfl, rfl, rfl, S2.out, KP0.out, HO0.out, HB0.out, HC0.out⟩)
    clear T1 KI S2 KP0 HO0 HB0 HC0 HU0
    go_loopw [4, 5, 6, 7] (fun p q z i wr => ∃ (k G' : Nat) (d : Dk) (t : Sto), k ≤ n ∧ q = .int .i64 0 ∧ i = .int .i64 (k : Int) ∧ p = .pointer (some ⟨G', 0, none⟩) ∧ z = .string (str (imgP d t t.cts)) ∧ Gt w F G' wr d t ∧ Kp d t (k + 1) ∧ d.off = false ∧ t.bad = false ∧ d.calls ≤ 20 * (k + 1)) (fun _ _ _ i _ => n - (intOf i).toNat)
    case atStart =>
      obtain ⟨k, G', d, t, z1, z2, z3, z4, z5⟩ := H2.out
      exact ⟨k, G', d, t, z1, rfl, by rw [z2], by rw [z3], by rw [z4], z5⟩
    case round =>
      clear H2
      obtain ⟨k, G', d, t, hk, rfl, rfl, rfl, rfl, st, kp, ho, hbad, hcalls⟩ := hrel
      have ST := Lib.hid st
      have KP := Lib.hid kp
      by_cases hlt : k < n
      · have hk' : (k : Int) < (n : Int) := by omega
        obtain ⟨ad, a, rfl, hka, hat⟩ := (HA.out.below st.bel).at_ (i := k) (by rw [HL.out]; exact hlt)
        have hkn : k ≤ 30 := by omega
        have x0 := hat.d0
        have x1 := hat.d1
        have x2 := hat.d2
        obtain ⟨x3, x4, x5, x6, x7, x8⟩ := SaAt.dcells hat
        obtain ⟨ad', a', e1, e2, hat0⟩ := HA.out.at_ (i := k) (by rw [HL.out]; exact hlt)
        obtain rfl : a = a' := Option.some.inj (hka.symm.trans e2)
        have HAT := Lib.hid hat0
        have KW := Lib.hid (Kw.start (a := a) st)
        have hb1 : a.body.length ≤ 1100 := HF2.out k a hka
        have HB1 := Lib.hid hb1
        clear hat hat0 hka st kp e1 e2 hb1
        go_upto_region 12 with fail
        clear x0 x1 x2 x3 x4 x5 x6 x7 x8
        generalize wr.heap.size = C at *
        have KW : Hid (Kw w F G' C a (wr.alloc (.cells #[.int .u8 (a.kind.toNat : Int), .int .i64 a.n, .slice a.bA a.body.length a.bc, .int .u8 (a.d.kind.toNat : Int), .int .i64 a.d.n, .int .u8 (a.d.c.toNat : Int), .int .u8 (a.d.cut.toNat : Int), .bool a.d.done, .slice a.d.fA a.d.fates.length a.d.fc] 33)) d t) := KW
        generalize (wr.alloc (.cells #[.int .u8 (a.kind.toNat : Int), .int .i64 a.n, .slice a.bA a.body.length a.bc, .int .u8 (a.d.kind.toNat : Int), .int .i64 a.d.n, .int .u8 (a.d.c.toNat : Int), .int .u8 (a.d.cut.toNat : Int), .bool a.d.done, .slice a.d.fA a.d.fates.length a.d.fc] 33)) = wa at *
        have x0 : wa.cell? ⟨C, 0, none⟩ = some (.int .u8 (a.kind.toNat : Int)) := KW.out.cell 0
        have x1 : wa.cell? ⟨C, 1, none⟩ = some (.int .i64 a.n) := KW.out.cell 1
        have x2 : wa.cell? ⟨C, 2, none⟩ = some (.slice a.bA a.body.length a.bc) := KW.out.cell 2
        have x4 : wa.cell? ⟨C, 4, none⟩ = some (.int .i64 a.d.n) := KW.out.cell 4
        have x7 : wa.cell? ⟨C, 7, none⟩ = some (.bool a.d.done) := KW.out.cell 7
        have x8 : wa.cell? ⟨C, 8, none⟩ = some (.slice a.d.fA a.d.fates.length a.d.fc) := KW.out.cell 8
        have zk0 : 0 ≤ (a.kind.toNat : Int) := by omega
        have zk1 : (a.kind.toNat : Int) < 256 := by have := a.kind.toNat_lt; omega
        have tok := KP.out.tok
        generalize hkd : (a.kind.toNat : Int) = kd at *
        clear hkd
        have KB := Lib.hid (show ∀ z : Int, z ≤ 9223372036854775807 → Calls Tryz.prog 30 #[.pointer (some ⟨F.b, 0, none⟩), .int .i64 z, .bool a.d.done] wa (fun e w' => e = .returned (.int .i64 (d.breakErr z : Int)) ∧ Kw w F G' C a w' (d.brk z a.d.done) t) from fun z hz => by
          refine (break_any KW.out.gt.disk z a.d.done hz).mono ?_
          rintro e w' ⟨rfl, dk, f⟩
          obtain ⟨P, hG, s⟩ := KW.out.gt.ex
          exact ⟨rfl, KW.out.frm (KW.out.gt.ofFrm ⟨P, hG, s.disk f⟩ dk f.wr) f.wr⟩)
        have KA := Lib.hid (kAlloc KW.out.gt tok HT.out)
        have KE := Lib.hid (kFree KW.out.gt tok a.n)
        have KG := Lib.hid (kForget KW.out.gt tok)
        have ha := HAT.out.below KW.out.gt.bel
        have KWR := Lib.hid (kWrite KW.out.gt (by omega) a.n a.bA a.body.length a.bc a.body rfl (by have := HB1.out; omega) ha.rb)
        have KC := Lib.hid (fun V (K : Kw w F G' C a V d t) => kCommit K.gt tok (by omega) a.bA a.body.length a.bc a.body rfl (by have := HB1.out; unfold maxLen; omega) ((HAT.out.below K.gt.bel).rb))
        have KP2 := Lib.hid (kPower KW.out HAT.out)
        clear ha
        go_upto_block 2 with fail
        go_cut [4, 5, 6, 9] from 29 to 152 (fun p q z nx wx => SwR w F C k a p q z nx wx)
        case first =>
          by_cases q8 : kd % 10 = 8
          · go_wp2_with (first
              | (go_at_call 30; refine (KB.out _ (by unfold RowKit.wrap64; omega)).mono ?_; rintro e w3 ⟨rfl, k3⟩; have K3 := Lib.hid k3; clear k3)
              | fail)
            go_meet
            case rel =>
              obtain ⟨y1, y2, y3, y4⟩ := (KP.out.more (show k + 1 ≤ k + 2 by omega)).brk (RowKit.wrap64 ((IntKind.u64.wrap a.d.n).tmod 9)) a.d.done
              exact SwR.stay K3.out (by omega) y1 (fun _ => hbad) y2
          · by_cases q9 : kd % 10 = 9
            · go_wp2_with (first
                | (go_at_call 31; refine KP2.out.mono ?_; rintro e w3 ⟨rfl, k3⟩; have K3 := Lib.hid k3; clear k3)
                | (go_at_call 14; refine (kOpen K3.out (KP.out.power ST.out.disk.ok a.d.fates).1).mono ?_; rintro e w4 ⟨G4, rfl, k4⟩; have K4 := Lib.hid k4; clear k4)
                | (go_at_call 29; refine (kImageX K4.out (KP.out.power ST.out.disk.ok a.d.fates).2.1 rfl rfl (KP.out.power ST.out.disk.ok a.d.fates).2.2).mono ?_; rintro e w5 ⟨rfl, k5⟩; have K5 := Lib.hid k5; clear k5)
                | fail)
              go_meet
              case rel =>
                obtain ⟨y1, y2, y3⟩ := KP.out.power ST.out.disk.ok a.d.fates
                exact SwR.stay K5.out (by show d.calls ≤ _; omega) (y2.more (by omega)) (fun _ => rfl) y3
            · by_cases q6 : kd % 10 = 6
              · obtain ⟨er, her⟩ : ∃ er : Int, er = ((commitP d t a.body).2.2 : Int) := ⟨_, rfl⟩
                rw [← her] at KC
                have HER := Lib.hid her
                clear her
                by_cases hb7 : a.body.length ≤ 700
                · have hb7' : (a.body.length : Int) ≤ 700 := by omega
                  go_upto_region 19 with fail
                  clear q6 q8 q9
                  go_cut [9] from 64 to 73 (fun nx wx => nx = .string (str (a.body ++ (124 :: restP d t.log t.size t.used))) ∧ Kw w F G' C a wx d t)
                  case first =>
                    obtain ⟨Z, hZ⟩ : ∃ Z, Z = str (imgP d t t.used) := ⟨_, rfl⟩
                    obtain ⟨bl, hbl⟩ : ∃ bl, bl = t.body.length := ⟨_, rfl⟩
                    have KI2 := fun V (K : Kw w F G' C a V d t) => kImage K KP.out ho hbad
                    rw [← hZ] at KI2
                    have KI2 := Lib.hid KI2
                    have KB2 := fun V (K : Kw w F G' C a V d t) => kBody K KP.out
                    rw [← hbl] at KB2
                    have KB2 := Lib.hid KB2
                    have hz0 : bl ≤ Z.size := by rw [hZ, hbl, str_size]; unfold imgP; rw [List.length_append]; omega
                    have hz1 : (0 : Int) ≤ (bl : Int) := by omega
                    have hz2 : (bl : Int) ≤ (Z.size : Int) := by omega
                    have hz3 : Z.size ≤ 600000 := by
                      rw [hZ, str_size]
                      have h1 := restK_len d t.log t.used t.size
                      have h2 := tok.body
                      have h3 := tok.lens
                      have h4 : restP d t.log t.size t.used = restK d t.log t.used t.size := rfl
                      unfold imgP
                      rw [h4, List.length_append, List.length_cons]
                      omega
                    have hz4 : ¬ 9223372036854775807 < (str a.body).size + (Z.size - bl) := by rw [str_size]; omega
                    have hz5 : ¬ 9223372036854775807 < (str a.body).size + (Z.extract bl Z.size).size := by rw [ByteArray.size_extract]; omega
                    have hz6 : ¬ 9223372036854775807 < a.body.length + (Z.size - bl) := by omega
                    have HZ := Lib.hid hZ
                    have HBL := Lib.hid hbl
                    clear hZ hbl
                    have HS := Lib.hid (fun V (K : Kw w F G' C a V d t) => show V.cell? ⟨C, 2, none⟩ = some (.slice a.bA a.body.length a.bc) ∧ (convert 29 9 (.slice a.bA a.body.length a.bc)).run Tryz.prog V = .ok (.string (str a.body)) V from ⟨K.cell 2, run_str V a.bA a.body.length a.bc a.body rfl (HAT.out.below K.gt.bel).rb⟩)
                    have KW := Lib.hid (KW.out.below (Below.refl _ wa).drew)
                    have x6 := HS.out _ KW.out
                    clear KP2 KC KWR KG KE KA KB x0 x1 x4 x7 x8
                    go_region_held3 (fun W => W.cell? ⟨C, 2, none⟩ = some (.slice a.bA a.body.length a.bc) ∧ (convert 29 9 (.slice a.bA a.body.length a.bc)).run Tryz.prog W = .ok (.string (str a.body)) W) (first | with_reducible assumption | with_reducible exact x6 | go_keep | fail)
                      (first
                        | (go_at_call 29; refine (KI2.out _ KW.out).mono ?_; rintro e w3 ⟨rfl, k3⟩; have KW := Lib.hid k3; have x6 := HS.out _ KW.out; clear k3)
                        | (go_at_call 23; refine (KB2.out _ KW.out).mono ?_; rintro e w3 ⟨A3, c3, rfl, k3⟩; have KW := Lib.hid k3; have x6 := HS.out _ KW.out; clear k3)
                        | fail)
                    go_wp2_with fail
                    go_meet
                    case rel =>
                      refine ⟨?_, KW.out⟩
                      rw [HZ.out, str_drop, str_add]
                      congr 2
                      unfold imgP
                      rw [HBL.out, List.drop_left]
                  case rest =>
                    obtain ⟨rfl, kw⟩ := hcut
                    have KW1 := Lib.hid kw
                    have x2 : wc.cell? ⟨C, 2, none⟩ = some (.slice a.bA a.body.length a.bc) := kw.cell 2
                    clear kw KP2 KWR KG KE KA KB x0 x1 x4 x7 x8 KW
                    obtain ⟨Y, hY⟩ : ∃ Y, Y = a.body ++ (124 :: restP d t.log t.size t.used) := ⟨_, rfl⟩
                    rw [← hY]
                    have HY := Lib.hid hY
                    clear hY
                    by_cases he : er = 0
                    · subst he
                      go_wp2_with (first
                        | (go_at_call 21; refine (KC.out _ KW1.out).mono ?_; rintro e w3 ⟨rfl, g3, f3⟩; have K3 := Lib.hid (KW1.out.frm g3 f3); clear g3 f3)
                        | fail)
                      go_meet
                      case rel =>
                        rcases SwR.commit hkn KP.out ho hbad hcalls K3.out (imgP d t t.cts) Y rfl (fun e => HY.out) with ⟨h1, h2⟩ | ⟨h1, h2⟩
                        · exact h2
                        · have := HER.out
                          omega
                    · have he' : (er == 0) = false := by simp [he]
                      go_wp2_with (first
                        | (go_at_call 21; refine (KC.out _ KW1.out).mono ?_; rintro e w3 ⟨rfl, g3, f3⟩; have K3 := Lib.hid (KW1.out.frm g3 f3); clear g3 f3)
                        | fail)
                      go_meet
                      case rel =>
                        rcases SwR.commit hkn KP.out ho hbad hcalls K3.out (imgP d t t.cts) Y rfl (fun e => HY.out) with ⟨h1, h2⟩ | ⟨h1, h2⟩
                        · have := HER.out
                          omega
                        · exact h2
                · have hb7' : (700 : Int) < (a.body.length : Int) := by omega
                  by_cases he : er = 0
                  · subst he
                    go_wp2_with (first
                      | (go_at_call 21; refine (KC.out _ KW.out).mono ?_; rintro e w3 ⟨rfl, g3, f3⟩; have K3 := Lib.hid (KW.out.frm g3 f3); clear g3 f3)
                      | fail)
                    go_meet
                    case rel => rcases SwR.commit hkn KP.out ho hbad hcalls K3.out (imgP d t t.cts) (imgP d t t.cts) rfl (fun e => absurd e hb7) with ⟨h1, h2⟩ | ⟨h1, h2⟩ <;> exact h2
                  · have he' : (er == 0) = false := by simp [he]
                    go_wp2_with (first
                      | (go_at_call 21; refine (KC.out _ KW.out).mono ?_; rintro e w3 ⟨rfl, g3, f3⟩; have K3 := Lib.hid (KW.out.frm g3 f3); clear g3 f3)
                      | fail)
                    go_meet
                    case rel => rcases SwR.commit hkn KP.out ho hbad hcalls K3.out (imgP d t t.cts) (imgP d t t.cts) rfl (fun e => absurd e hb7) with ⟨h1, h2⟩ | ⟨h1, h2⟩ <;> exact h2
              · by_cases q7 : kd % 10 = 7
                · go_wp2_with (first
                    | (go_at_call 22; refine KG.out.mono ?_; rintro e w3 ⟨L, x, rfl, hL, g3, f3⟩; have K3 := Lib.hid (KW.out.frm g3 f3); have H3 := Lib.hid hL; clear g3 f3 hL)
                    | fail)
                  go_meet
                  case rel => exact SwR.stay K3.out (by omega) ((KP.out.used t.bad H3.out).more (by omega)) (fun _ => hbad) rfl
                · by_cases q5 : kd % 10 = 5
                  · go_wp2_with (first
                      | (go_at_call 20; refine KE.out.mono ?_; rintro e w3 ⟨L, x, rfl, hL, g3, f3⟩; have K3 := Lib.hid (KW.out.frm g3 f3); have H3 := Lib.hid hL; clear g3 f3 hL)
                      | fail)
                    go_meet
                    case rel => exact SwR.stay K3.out (by omega) ((KP.out.used t.bad H3.out).more (by omega)) (fun _ => hbad) rfl
                  · by_cases q34 : kd % 10 = 3 ∨ kd % 10 = 4
                    · rcases q34 with q34 | q34 <;>
                      · go_wp2_with (first
                          | (go_at_call 19; refine KWR.out.mono ?_; rintro e w3 ⟨rfl, g3, f3⟩; have K3 := Lib.hid (KW.out.frm g3 f3); clear g3 f3)
                          | fail)
                        go_meet
                        case rel =>
                          obtain ⟨b, y1, y2, y3, y4⟩ := KP.out.write ho hbad a.n a.body
                          have y5 := write_callsK d t a.n a.body
                          have K3 := K3.out
                          rw [y1] at K3
                          exact SwR.stay K3 (by omega) ((y3.used b y3.tok.used).more (by omega)) y2 y4
                    · have z3 : (kd % 10 == 3) = false := by simp; omega
                      have z4 : (kd % 10 == 4) = false := by simp; omega
                      have z5 : (kd % 10 == 5) = false := by simp; omega
                      have z6 : (kd % 10 == 6) = false := by simp; omega
                      have z7 : (kd % 10 == 7) = false := by simp; omega
                      have z8 : (kd % 10 == 8) = false := by simp; omega
                      have z9 : (kd % 10 == 9) = false := by simp; omega
                      clear q34 q5 q6 q7 q8 q9
                      go_wp2_with (first
                        | (go_at_call 16; refine KA.out.mono ?_; rintro e w3 ⟨L, x, y, rfl, hL, g3, f3⟩; have K3 := Lib.hid (KW.out.frm g3 f3); have H3 := Lib.hid hL; clear g3 f3 hL)
                        | fail)
                      go_meet
                      case rel => exact SwR.stay K3.out (by omega) ((KP.out.used t.bad H3.out).more (by omega)) (fun _ => hbad) rfl
        case rest =>
          obtain ⟨G1, d1, t1, x, y, rfl, rfl, rfl, rfl, kw, hc1, hor⟩ := hcut
          have x8 : wc.cell? ⟨C, 8, none⟩ = some (.slice a.d.fA a.d.fates.length a.d.fc) := kw.cell 8
          have KO := kOff kw
          have K1 := Lib.hid kw
          have KP3 := Lib.hid (kPower kw HAT.out)
          rcases hor with ⟨o1, b1, kp1, rfl⟩ | ⟨o1, pw1⟩
          · rw [o1] at KO
            have KO := Lib.hid KO
            have P1 := Lib.hid kp1
            clear kw kp1 KP2 KC KWR KG KE KA KB tok
            go_wp2_with (first
              | (go_at_call 32; refine KO.out.mono ?_; rintro e w3 ⟨rfl, rfl⟩)
              | fail)
            case roundEnd => exact ⟨⟨k + 1, G1, d1, t1, by omega, rfl, by go_num, rfl, rfl, K1.out.gt, P1.out, o1, b1, by omega⟩, meas_next hlt⟩
          · rw [o1] at KO
            have KO := Lib.hid KO
            obtain ⟨u, u1, u2', u3', u4', u5'⟩ := pw1 a.d.fates
            have U1 := Lib.hid u1
            have U2 := Lib.hid u2'
            have hub : u.bad = false := u3'
            have U4 := Lib.hid u4'
            clear kw pw1 KP2 KC KWR KG KE KA KB tok u1 u2' u3'
            rw [← u4'] at u5'
            clear u4'
            rcases u5' with u5' | u5'
            all_goals
              have U5 := Lib.hid u5'
              clear u5'
              go_wp2_with (first
                | (go_at_call 32; refine KO.out.mono ?_; rintro e w3 ⟨rfl, rfl⟩)
                | (go_at_call 31; refine KP3.out.mono ?_; rintro e w3 ⟨rfl, k3⟩; have K3 := Lib.hid k3; clear k3)
                | (go_at_call 14; refine (kOpen K3.out U1.out).mono ?_; rintro e w4 ⟨G4, rfl, k4⟩; have K4 := Lib.hid k4; clear k4)
                | (go_at_call 29; refine (kImageX K4.out U2.out rfl hub U5.out).mono ?_; rintro e w5 ⟨rfl, k5⟩; have K5 := Lib.hid k5; clear k5)
                | fail)
              all_goals exact ⟨⟨k + 1, G4, d1.power a.d.fates, u, by omega, rfl, by go_num, rfl, by rw [← U4.out, U5.out], K5.out.gt, U2.out, rfl, hub, by show d1.calls ≤ _; omega⟩, meas_next hlt⟩
      · obtain rfl : k = n := by omega
        have HTX := Lib.hid (st.tab HT.out)
        clear st kp
        go_wp2_with (first
          | (go_at_call 8; refine (stAwake_any _ HTX.out).mono ?_; rintro e w3 ⟨rfl, b3⟩; have B3 := Lib.hid b3; clear b3)
          | fail)
        go_ret
        exact ⟨rfl, ST.out.bel.trans (B3.out.mono ST.out.bel.size)⟩
end Go.Proofs.YtegjeijiekggdaaGreatDoor
end
section
/- It is proved that the law StoreKeeps answers true for every list of calls, and leaves what it is given as it was, the table of math/bits being as the program's text lays it (tied). No other condition. -/
namespace Go.Proofs.YtegjeijiekggdaaGreatDoor.storeKeeps
open Go.ChangeShapes Go.WideShapes Go.ChangeAt Go.RowKit
set_option linter.unusedVariables false
set_option maxRecDepth 100000 in
theorem lifted (os : Os) (started : os.Started) (H : Type) (enc : TypeId × Value → H) :
    ReturnsInHanded {} Tryz.checked os 5 .any (fun w args => (Rows.storeKeepsSpec.pre enc Tryz.prog Tryz.f5 [] false w args ∧ laidMetH Tryz.prog laidT w) ∧ sizedMet enc Tryz.prog Tryz.f5 (OpenSpec.ofChange Rows.storeKeepsSpec) false w args)
      (Rows.storeKeepsSpec.post enc Tryz.prog Tryz.f5 false true false false) := by
  refine returnsInHanded_of_change_and (C := Tryz.checked) (X := fun w _ => laidMetH Tryz.prog laidT w) (fun _ _ _ hh h => h.of_heap hh) f_own started (by kernel_rfl) Tryz.func5
    (ChangeSpec.witness_shaped (enc := enc) (C := Tryz.checked) (os := os) (X := fun w _ => laidMetH Tryz.prog laidT w) false (World.doorLaid Tryz.prog 400 os) #[.slice none 0 0] 8 rfl (World.shaped_of_RefB (by kernel_rfl) (by kernel_rfl)) (by kernel_rfl) (by kernel_rfl) (by kernel_rfl) (door_met os _)) ?_
  intro W base args ds gs before hval0 hW _ _ hL _
  have hval : ∀ (j : Nat) t v, Tryz.f5.params[j]? = some t → args[j]? = some v → Value.okWide Tryz.prog W .any base t v := hval0
  have hW' := hW
  obtain ⟨p, q, hA0, hV, rfl, hfz, hnd⟩ := hW
  have hA : DataW.TrodAll enc Tryz.prog W 0 (fun _ => true) true Tryz.f5.params.toList args.toList ds p := hA0
  rw [Tryz.params5] at hA hval
  obtain ⟨v0, vs0, d0, ds0, p0, q0, hargs, rfl, rfl, h0, r0⟩ := trodAll_cons hA
  obtain ⟨rfl, rfl, rfl⟩ := trodAll_nil r0
  obtain rfl : args = #[v0] := by cases args; simp_all
  obtain ⟨rfl, rfl⟩ := trodVars_none hV
  have k0 := h0
  have lt0 : ∀ x ∈ p0, x.block < W.heap.size := by obtain ⟨m, hm⟩ := k0; exact DataW.trod_lt m _ _ _ hm
  obtain ⟨a0, len0, cap0, rfl⟩ := okWide_slice Tryz.underlying22 (hval 0 22 v0 rfl rfl)
  obtain ⟨l0, hl0, hc0, hm0, ha0⟩ := open_sacts h0
  clear hA0 hval0
  refine (storeKeeps_core a0 len0 cap0 l0 W hl0 (Nat.le_trans hc0 hm0) ha0 (tab_of_laid hL)).mono fun e W' ⟨he, bel⟩ => ?_
  subst he
  exact ⟨_, rfl, _, _, _, [], _, [], hW', trodAll_mk1 (shut_bool Tryz.underlying4 _), (trodAll_cons_mk (Below.trod f_laidOut (by kernel_rfl) (of_decide_eq_true (by kernel_rfl)) k0 bel lt0) trodAll_mk0), rfl, bel.frame _, fun h => by cases h⟩
theorem over : Rows.storeKeepsRow.holds Tryz.pinned (OpenSpec.ofChange Rows.storeKeepsSpec) :=
  OpenClaim.holds_of_wide 5 Tryz.f5 rfl rfl rfl rfl rfl rfl rfl ⟨rfl, rfl, rfl, rfl, rfl⟩ rfl rfl rfl rfl rfl (by kernel_rfl) Tryz.func5 (by kernel_rfl)
    (of_decide_eq_true (by kernel_rfl)) (by unfold Func.isWrapper; first | (rw [if_pos (by decide +kernel)]; kernel_rfl) | (rw [if_neg (by decide +kernel)]; exact ⟨rfl, rfl⟩))
    (fun os started H enc _ => lifted os started H enc)
theorem card : Rows.StoreKeepsCardSaid :=
  Claim7.holds_tied_plain_at .later [] [.data] true (true, "87c400e9a875d8f09e90d994a6227dd961d7be556afac1fe58f07ecc56b8673e") true
    over (fun _ h => by cases h) (by kernel_rfl) (fun _ h => by cases h) storeKeeps_row_tie rfl ⟨rfl, rfl⟩ (by kernel_rfl) rfl
    (fun f fn hf hfn => by
      obtain rfl : f = 5 := Option.some.inj ((show Tryz.prog.funcNamed "fascicle/fasciclelaw07.StoreKeeps" = some 5 by kernel_rfl).symm.trans hf) |>.symm
      obtain rfl : fn = Tryz.f5 := (Option.some.inj (Tryz.func5.symm.trans hfn)).symm
      exact ⟨by kernel_rfl, fun j t ht => by
        rw [Tryz.params5] at ht
        match j, ht with
        | 0, ht => obtain rfl := Option.some.inj ht; exact (show Tryz.prog.wantsStandIn 22 = false by kernel_rfl)
        | j + 1, ht => simp at ht⟩)
    (by kernel_rfl)
#print axioms card
end Go.Proofs.YtegjeijiekggdaaGreatDoor.storeKeeps
end
