/- Joined: WrT. -/
import Derived.Test.YtlohhbpncbnipaaM58
import Derived.Deep.CutBlock
import Derived.Deep.QuietTactic
import Derived.BigQuiet
section
/- The document's Live: the walk. -/
namespace Go.Proofs.Ytlohhbpncbnipaa
open Go.RowKit
set_option linter.unusedVariables false
set_option linter.unusedSimpArgs false
theorem wrDrewN {B : Nat} {a w : World} (h : Below B a w) (q : Nat) : Below B a (w.drewN q) := ⟨h.os, h.tape, h.output, h.size, h.block⟩
set_option maxHeartbeats 8000000 in
set_option maxRecDepth 100000 in
theorem refLive_any (A : Option Addr) (n c : Nat) (l : List Rec) (w : World) (hl : l.length = n) (hn : n ≤ 1000) (ha : RcsAt w A l) :
    Calls Try.prog 17 #[.slice A n c] w fun e w' => ∃ B c' L, e = .returned (.slice B L.length c') ∧ LiveOf l L ∧ RI w' B L ∧ L.length ≤ n ∧ Below w.heap.size w w' := by
  have HL := Lib.hid hl
  have HA := Lib.hid ha
  clear hl ha
  go_enter Try.func17, Try.ntmps17
  go_wp2
  go_loopw [3, 4, 5, 6, 7, 8] (fun v i _ _ _ _ wr => ∃ (k : Nat) (L : List Int), k ≤ n ∧ i = .int .i64 (k : Int) ∧ OI w.heap.size wr v L ∧ L.length ≤ k ∧ RefInv l k L ∧ Below w.heap.size w wr) (fun _ i _ _ _ _ _ => n - (RowKit.intOf i).toNat)
  case atStart => exact ⟨0, [], Nat.zero_le _, rfl, OI.nil, Nat.zero_le _, ⟨List.Pairwise.nil, fun t => ⟨fun h => by simp at h, fun ⟨j, r, h, _⟩ => by omega⟩⟩, Below.refl _ _⟩
  case round =>
    obtain ⟨k, L, hk, rfl, hO, hLk, hI, hB⟩ := hrel
    generalize wr = w0 at *
    clear wr
    have HO := Lib.hid hO
    have HI := Lib.hid hI
    have HB := Lib.hid hB
    have HW := Lib.hid hB.size
    by_cases hlt : k < n
    · have hk' : (k : Int) < (n : Int) := by omega
      obtain ⟨ad, r, rfl, hka, hat⟩ := (HA.out.below hB).at_ (i := k) (by rw [HL.out]; exact hlt)
      have HK := Lib.hid hka
      have HC := Lib.hid (fun W (hW : Below w0.heap.size w0 W) => (hW.cell (lt_of_cell hat.d1)).trans hat.d1)
      have x0 := hat.d0
      have x1 := hat.d1
      have HF := Lib.hid (RefInv.skip hI hka)
      have HP := Lib.hid (fun hl (a : Nat) ha h1 h2 => RefInv.put hI hka (by rw [HL.out]; exact hl) (a := a) ha h1 h2)
      rw [HL.out] at HF
      obtain ⟨rk, rt, rs, ry, rg, rv⟩ := r
      dsimp only at x0 x1 HC HP
      obtain ⟨P, hP⟩ : ∃ P, P = lastIn l k := ⟨_, rfl⟩
      have hal : P (k + 1) ⟨rk, rt, rs, ry, rg, rv⟩ ↔ rk ≠ 4 ∧ rk ≠ 2 ∧ rk ≠ 3 := by
        rw [hP]
        exact ⟨fun h => h.1, fun h => ⟨h, fun m y h1 h2 => by omega⟩⟩
      have HAL := Lib.hid hal
      have HPP := Lib.hid hP
      have BWr := Lib.hid hB
      clear hka hat hO hI hB hal hP
      go_upto_region 5 with fail
      go_cut [5] from 15 to 36 (fun v wx => w0 = wx ∧ ∃ b : Bool, v = .bool b ∧ (b = true ↔ P (k + 1) ⟨rk, rt, rs, ry, rg, rv⟩))
      case first =>
        by_cases h4 : rk = 4
        · have t4 : ((rk : Int) != 4) = false := by rw [h4]; rfl
          have HN := Lib.hid (show ¬ (rk ≠ 4 ∧ rk ≠ 2 ∧ rk ≠ 3) from fun h => h.1 h4)
          clear h4
          go_wp2_with fail
          go_meet
          exact ⟨rfl, false, rfl, ⟨(fun h => by cases h), (fun h => absurd (HAL.out.1 h) HN.out)⟩⟩
        · have t4 : ((rk : Int) != 4) = true := by simp; omega
          by_cases h2 : rk = 2
          · have t2 : ((rk : Int) != 2) = false := by rw [h2]; rfl
            have HN := Lib.hid (show ¬ (rk ≠ 4 ∧ rk ≠ 2 ∧ rk ≠ 3) from fun h => h.2.1 h2)
            clear h4 h2
            go_wp2_with fail
            go_meet
            exact ⟨rfl, false, rfl, ⟨(fun h => by cases h), (fun h => absurd (HAL.out.1 h) HN.out)⟩⟩
          · have t2 : ((rk : Int) != 2) = true := by simp; omega
            by_cases h3 : rk = 3
            · have t3 : ((rk : Int) != 3) = false := by rw [h3]; rfl
              have HN := Lib.hid (show ¬ (rk ≠ 4 ∧ rk ≠ 2 ∧ rk ≠ 3) from fun h => h.2.2 h3)
              clear h4 h2 h3
              go_wp2_with fail
              go_meet
              exact ⟨rfl, false, rfl, ⟨(fun h => by cases h), (fun h => absurd (HAL.out.1 h) HN.out)⟩⟩
            · have t3 : ((rk : Int) != 3) = true := by simp; omega
              have HN := Lib.hid (show (rk ≠ 4 ∧ rk ≠ 2 ∧ rk ≠ 3) from ⟨h4, h2, h3⟩)
              clear h4 h2 h3
              go_wp2_with fail
              go_meet
              exact ⟨rfl, true, rfl, ⟨fun _ => HAL.out.2 HN.out, fun _ => rfl⟩⟩
      case rest =>
        obtain ⟨rfl, b, rfl, hb⟩ := hcut
        have HBb := Lib.hid hb
        clear hb
        go_wp2_with fail
        go_loopw [5, 6] (fun v i wr => ∃ (b : Bool) (m : Nat), k + 1 ≤ m ∧ m ≤ n ∧ v = .bool b ∧ i = .int .i64 (m : Int) ∧ (b = true ↔ P m ⟨rk, rt, rs, ry, rg, rv⟩) ∧ Below w0.heap.size w0 wr) (fun _ i _ => n - (RowKit.intOf i).toNat)
        case atStart => exact ⟨b, k + 1, by omega, by omega, rfl, by go_num, HBb.out, Below.refl _ _⟩
        case round =>
          obtain ⟨b, m, hm1, hm2, rfl, rfl, hb, hbw⟩ := hrel
          have HB2 := Lib.hid hb
          have BW := Lib.hid hbw
          have x1 := HC.out wr hbw
          clear hb hbw
          by_cases hmn : m < n
          · have hm' : (m : Int) < (n : Int) := by omega
            obtain ⟨ad2, y, ea, hmy, hat⟩ := (HA.out.below (BWr.out.trans (BW.out.mono BWr.out.size))).at_ (i := m) (by rw [HL.out]; exact hmn)
            obtain rfl : ad = ad2 := Option.some.inj ea
            have z0 := hat.d0
            have z1 := hat.d1
            have HY := Lib.hid hmy
            obtain ⟨yk, yt, ys, yy, yg, yv⟩ := y
            dsimp only at z0 z1
            have HST := Lib.hid (show P (m + 1) ⟨rk, rt, rs, ry, rg, rv⟩ ↔ P m ⟨rk, rt, rs, ry, rg, rv⟩ ∧ (yk = 4 ∨ yt ≠ rt) from by
              rw [HPP.out]
              constructor
              · intro h
                exact ⟨⟨h.1, fun q z h1 h2 hz => h.2 q z h1 (by omega) hz⟩, h.2 m _ (by omega) (by omega) HY.out⟩
              · rintro ⟨h, h5⟩
                refine ⟨h.1, fun q z h1 h2 hz => ?_⟩
                by_cases e : q = m
                · subst e
                  rw [HY.out] at hz
                  injection hz with hz
                  subst hz
                  exact h5
                · exact h.2 q z h1 (by omega) hz)
            clear ea hmy hat
            cases b with
            | false =>
              have HN := Lib.hid (show false = true ↔ P (m + 1) ⟨rk, rt, rs, ry, rg, rv⟩ from ⟨(fun h => by cases h), fun h => HB2.out.2 (HST.out.1 h).1⟩)
              go_upto_region 9 with fail
              go_quiet (fail)
              go_wp2_with fail
              go_round
              case rel => exact ⟨false, m + 1, by omega, by omega, rfl, by go_num, HN.out, wrDrewN BW.out _⟩
              case measure => simp [RowKit.intOf]; omega
            | true =>
              by_cases h4 : yk = 4
              · have t4 : ((yk : Int) == 4) = true := by rw [h4]; rfl
                have HN := Lib.hid (show true = true ↔ P (m + 1) ⟨rk, rt, rs, ry, rg, rv⟩ from ⟨fun h => HST.out.2 ⟨HB2.out.1 h, .inl h4⟩, fun _ => rfl⟩)
                clear h4
                go_upto_region 9 with fail
                go_quiet (fail)
                go_wp2_with fail
                go_round
                case rel => exact ⟨true, m + 1, by omega, by omega, rfl, by go_num, HN.out, wrDrewN BW.out _⟩
                case measure => simp [RowKit.intOf]; omega
              · have t4 : ((yk : Int) == 4) = false := by simp; omega
                by_cases h5 : yt = rt
                · have t5 : (yt != rt) = false := by simp [h5]
                  have HN := Lib.hid (show false = true ↔ P (m + 1) ⟨rk, rt, rs, ry, rg, rv⟩ from ⟨(fun h => by cases h), fun h => by rcases (HST.out.1 h).2 with e | e; exact absurd e h4; exact absurd h5 e⟩)
                  clear h4 h5
                  go_upto_region 9 with fail
                  go_quiet (fail)
                  go_wp2_with fail
                  go_round
                  case rel => exact ⟨false, m + 1, by omega, by omega, rfl, by go_num, HN.out, wrDrewN BW.out _⟩
                  case measure => simp [RowKit.intOf]; omega
                · have t5 : (yt != rt) = true := by simp [h5]
                  have HN := Lib.hid (show true = true ↔ P (m + 1) ⟨rk, rt, rs, ry, rg, rv⟩ from ⟨fun h => HST.out.2 ⟨HB2.out.1 h, .inr h5⟩, fun _ => rfl⟩)
                  clear h4 h5
                  go_upto_region 9 with fail
                  go_quiet (fail)
                  go_wp2_with fail
                  go_round
                  case rel => exact ⟨true, m + 1, by omega, by omega, rfl, by go_num, HN.out, wrDrewN BW.out _⟩
                  case measure => simp [RowKit.intOf]; omega
          · obtain rfl : m = n := by omega
            cases b with
            | false =>
              have HR := Lib.hid (HF.out (by rw [← HPP.out]; exact fun h => by have := HB2.out.2 h; cases this))
              go_wp2_with fail
              go_round
              case rel => exact ⟨k + 1, L, by omega, by go_num, HO.out.below BW.out, by omega, HR.out, HB.out.trans (BW.out.mono HW.out)⟩
              case measure => simp [RowKit.intOf]; omega
            | true =>
              have HPUT0 := Lib.hid (fun (a : Nat) ha h1 h2 => HP.out (by rw [← HPP.out]; exact HB2.out.1 rfl) a ha h1 h2)
              clear HP HF HB2
              generalize wr = w1 at *
              have hO1 := HO.out.below BW.out
              have HB1 := Lib.hid (HB.out.trans (BW.out.mono HW.out))
              have HW1 := Lib.hid (Nat.le_trans HW.out BW.out.size)
              have HC1 := Lib.hid (fun W (hW : Below w1.heap.size w1 W) => HC.out W (BW.out.trans (hW.mono BW.out.size)))
              have HA1 := Lib.hid (fun W (hW : Below w1.heap.size w1 W) => HA.out.below (HB1.out.trans (hW.mono HW1.out)))
              clear BW HO HB HW HC x0 x1
              rcases hO1.2 with ⟨rfl, h0⟩ | ⟨g, cap, cur, rfl, hb', hh, hc3, hm3, hsz, ht⟩
              · obtain rfl : L = [] := List.length_eq_zero_iff.1 h0
                have HPUT := Lib.hid (HPUT0.out 0 (Nat.zero_le _) (fun j t hj => by omega) (fun t ht => by simp at ht))
                have HL1 := Lib.hid (show (([] : List Int).take 0).length = 0 from rfl)
                have HL2 := Lib.hid (show (([] : List Int).drop 0).length = 0 from rfl)
                clear HPUT0
                go_wp2_with fail
                go_loopw [7] (fun p wr => p = .int .i64 0 ∧ Below w1.heap.size w1 wr) (fun _ _ => 0)
                case atStart => exact ⟨rfl, Below.refl _ _⟩
                case round =>
                  obtain ⟨rfl, hbw⟩ := hrel
                  have HC1 := Lib.hid (fun W (hW : Below wr.heap.size wr W) => HC1.out W (hbw.trans (hW.mono hbw.size)))
                  have HB1 := Lib.hid (HB1.out.trans (hbw.mono HW1.out))
                  have HW1 := Lib.hid (Nat.le_trans HW1.out hbw.size)
                  have x1 := HC1.out wr (Below.refl _ _)
                  clear hbw
                  generalize wr = w1 at *
                  go_upto_region 12 with fail
                  go_quiet (fail)
                  have HC1 := Lib.hid (fun W (hW : Below (w1.drewN nq).heap.size (w1.drewN nq) W) => HC1.out W ((wrDrewN (Below.refl w1.heap.size w1) nq).trans hW))
                  have HB1 := Lib.hid (wrDrewN HB1.out nq)
                  have HW1 := Lib.hid (show w.heap.size ≤ (w1.drewN nq).heap.size from HW1.out)
                  clear x1
                  generalize w1.drewN nq = w1 at *
                  go_upto_region 15 with fail
                  have D0 := Lib.hid (Below.refl w1.heap.size w1).drew
                  have DB := Lib.hid ((Below.refl w1.heap.size w1).alloc (Nat.le_refl _) (.cells #[.int .i64 rt] 3)).drew
                  have S0 := HC1.out _ D0.out
                  have SB := HC1.out _ DB.out
                  have RT1 := Lib.hid (show RI w1 none (([] : List Int).take 0) from fun j t hj => by simp at hj)
                  have RT2 := Lib.hid (show RI w1 none (([] : List Int).drop 0) from fun j t hj => by simp at hj)
                  go_region_held3 (fun W => W.cell? ⟨(ad.add (k * 6)).block, (ad.add (k * 6)).off + 1, none⟩ = some (.int .i64 rt)) (first | with_reducible assumption | with_reducible exact S0 | with_reducible exact SB | with_reducible exact S1 | with_reducible exact S1b | with_reducible exact S2 | with_reducible exact S3 | fail)
                    (first
                      | (refine step_append_I rfl (.tmp 87) (.tmp 90) rfl w1.heap.size (.slice none 0 0) [] rfl OI.nil none 0 _ (([] : List Int).take 0) rfl HL1.out (RT1.out.below D0.out) (by simp only [List.length_nil]; omega) (by show _ ≤ w1.heap.size; omega) ?_; intro v1 wa o1 b1 g1; have O1 := Lib.hid o1; have D1 := Lib.hid (D0.out.trans b1); have S1 := HC1.out _ D1.out; have D1b := Lib.hid (D1.out.alloc D1.out.size (.cells #[.int .i64 rt] 3)); have S1b := HC1.out _ D1b.out; clear o1 b1 g1)
                      | (refine step_append_I rfl (.tmp 87) (.tmp 90) rfl w1.heap.size (.slice none 0 0) [] rfl OI.nil none 0 _ (([] : List Int).take 0) rfl HL1.out (RT1.out.below DB.out) (by simp only [List.length_nil]; omega) (by show _ ≤ (w1.alloc (.cells #[.int .i64 rt] 3)).heap.size; rw [heap_size_alloc]; omega) ?_; intro v1 wa o1 b1 g1; have O1 := Lib.hid o1; have D1 := Lib.hid (DB.out.trans b1); have S1 := HC1.out _ D1.out; have RBB := Lib.hid (RI.grown (show RI (w1.alloc (.cells #[.int .i64 rt] 3)).drew (some ⟨w1.heap.size, 0, none⟩) [rt] from RI.one w1 rt) g1 (by simp [Value.ownBlock])); clear o1 b1 g1)
                      | (refine step_append_I rfl (.tmp 91) (.tmp 97) rfl w1.heap.size v1 ([] ++ ([] : List Int).take 0) rfl (OI.alloc O1.out _) _ 1 1 [rt] rfl rfl (RI.one wa rt) (by rw [List.nil_append, HL1.out]; omega) D1b.out.size ?_; intro v2 wb o2 b2 g2; have O2 := Lib.hid o2; have D2 := Lib.hid (D1b.out.trans b2); have S2 := HC1.out _ D2.out; clear o2 b2 g2)
                      | (refine step_append_I rfl (.tmp 91) (.tmp 97) rfl w1.heap.size v1 ([] ++ ([] : List Int).take 0) rfl O1.out _ 1 1 [rt] rfl rfl RBB.out (by rw [List.nil_append, HL1.out]; omega) D1.out.size ?_; intro v2 wb o2 b2 g2; have O2 := Lib.hid o2; have D2 := Lib.hid (D1.out.trans b2); have S2 := HC1.out _ D2.out; clear o2 b2 g2)
                      | (refine step_append_I rfl (.tmp 98) (.tmp 101) rfl w1.heap.size v2 ([] ++ ([] : List Int).take 0 ++ [rt]) rfl O2.out none 0 _ (([] : List Int).drop 0) rfl HL2.out (RT2.out.below D2.out) (by rw [List.nil_append, List.length_append, HL1.out]; simp only [List.length_cons, List.length_nil]; omega) D2.out.size ?_; intro v3 wd o3 b3 g3; have O3 := Lib.hid o3; have D3 := Lib.hid (D2.out.trans b3); have S3 := HC1.out _ D3.out; clear o3 b3 g3)
                      | fail)
                  all_goals
                    go_wp2_with fail
                    go_round
                    case rel => exact ⟨k + 1, _, by omega, by go_num, (by have := O3.out.lift HW1.out; rwa [List.nil_append] at this), by have h1 := HL1.out; have h2 := HL2.out; simp only [List.length_append, List.length_singleton]; omega, HPUT.out, HB1.out.trans (D3.out.mono HW1.out)⟩
                    case measure => simp [RowKit.intOf]; omega
              · obtain ⟨p3, hp3⟩ : ∃ p : Addr, p = ⟨g, 0, none⟩ := ⟨_, rfl⟩
                have HR1 := Lib.hid (show RI w1 (some p3) L from fun j t hj => ⟨_, rfl, by rw [hp3]; exact World.ownsRow.cells hO1 (g := g) rfl j _ (by simp [hj, encZ])⟩)
                rw [← hp3]
                clear hb' hh hm3 hsz ht hO1 hp3
                go_wp2_with fail
                go_loopw [7] (fun p wr => ∃ a : Nat, a ≤ L.length ∧ p = .int .i64 (a : Int) ∧ (∀ (j : Nat) (t : Int), j < a → L[j]? = some t → t < rt) ∧ Below w1.heap.size w1 wr) (fun p _ => L.length - (RowKit.intOf p).toNat)
                case atStart => exact ⟨0, Nat.zero_le _, rfl, (fun j t hj => by omega), Below.refl _ _⟩
                case round =>
                  obtain ⟨a, haL, rfl, hlow, hbw⟩ := hrel
                  have HLO := Lib.hid hlow
                  have BW1 := Lib.hid hbw
                  have HC1 := Lib.hid (fun W (hW : Below wr.heap.size wr W) => HC1.out W (hbw.trans (hW.mono hbw.size)))
                  have HB1 := Lib.hid (HB1.out.trans (hbw.mono HW1.out))
                  have HW1' := Lib.hid HW1.out
                  have HW1 := Lib.hid (Nat.le_trans HW1.out hbw.size)
                  have HR1 := Lib.hid (HR1.out.below hbw)
                  have x1 := HC1.out wr (Below.refl _ _)
                  clear hbw hlow
                  have na0 : (a : Int) ≤ (L.length : Int) := by omega
                  by_cases haN : a < L.length
                  · have da : decide (a < L.length) = true := decide_eq_true haN
                    have ga : (a : Int) < (L.length : Int) := by omega
                    obtain ⟨t, ht⟩ : ∃ t, L[a]? = some t := ⟨_, List.getElem?_eq_getElem haN⟩
                    obtain ⟨ad3, e3, hct⟩ := HR1.out a t ht
                    obtain rfl : p3 = ad3 := Option.some.inj e3
                    have HT := Lib.hid ht
                    clear e3 ht
                    by_cases htr : t < rt
                    · have dt : decide (t < rt) = true := decide_eq_true htr
                      have HLO2 := Lib.hid (show ∀ (j : Nat) (x : Int), j < a + 1 → L[j]? = some x → x < rt from fun j x hj hx => by
                        by_cases e : j = a
                        · subst e
                          rw [HT.out] at hx
                          injection hx with hx
                          subst hx
                          exact htr
                        · exact HLO.out j x (by omega) hx)
                      clear htr
                      go_upto_region 12 with fail
                      go_quiet (fail)
                      go_wp2_with fail
                      go_round
                      case rel => exact ⟨a + 1, by omega, by go_num, HLO2.out, wrDrewN BW1.out _⟩
                      case measure => simp [RowKit.intOf]; omega
                    · have dt : decide (t < rt) = false := decide_eq_false htr
                      have HPUT := Lib.hid (HPUT0.out a (by omega) HLO.out (fun x hx => by rw [HT.out] at hx; injection hx with hx; subst hx; omega))
                      clear htr
                      generalize wr = w1 at *
                      go_upto_region 12 with fail
                      go_quiet (fail)
                      have HC1 := Lib.hid (fun W (hW : Below (w1.drewN nq).heap.size (w1.drewN nq) W) => HC1.out W ((wrDrewN (Below.refl w1.heap.size w1) nq).trans hW))
                      have HB1 := Lib.hid (wrDrewN HB1.out nq)
                      have HW1 := Lib.hid (show w.heap.size ≤ (w1.drewN nq).heap.size from HW1.out)
                      have HR1 := Lib.hid (show RI (w1.drewN nq) (some p3) L from HR1.out)
                      clear x1 hct
                      generalize w1.drewN nq = w1 at *
                      have HL1 := Lib.hid (show (L.take a).length = a from by rw [List.length_take]; omega)
                      have HL2 := Lib.hid (show (L.drop a).length = L.length - a from List.length_drop ..)
                      have ga0 : (a : Int) ≤ (L.length : Int) := by omega
                      have ga1 : (L.length : Int) ≤ (cap : Int) := by omega
                      have ga2 : (a : Int) ≤ (cap : Int) := by omega
                      have gc : ¬ cap = a := by omega
                      go_upto_region 15 with fail
                      have D0 := Lib.hid (Below.refl w1.heap.size w1).drew
                      have DB := Lib.hid ((Below.refl w1.heap.size w1).alloc (Nat.le_refl _) (.cells #[.int .i64 rt] 3)).drew
                      have S0 := HC1.out _ D0.out
                      have SB := HC1.out _ DB.out
                      have RT1 := Lib.hid (HR1.out.take a)
                      have RT2 := Lib.hid (HR1.out.drop a)
                      go_region_held3 (fun W => W.cell? ⟨(ad.add (k * 6)).block, (ad.add (k * 6)).off + 1, none⟩ = some (.int .i64 rt)) (first | with_reducible assumption | with_reducible exact S0 | with_reducible exact SB | with_reducible exact S1 | with_reducible exact S1b | with_reducible exact S2 | with_reducible exact S3 | fail)
                        (first
                          | (refine step_append_I rfl (.tmp 87) (.tmp 90) rfl w1.heap.size (.slice none 0 0) [] rfl OI.nil (some p3) a _ (L.take a) rfl HL1.out (RT1.out.below D0.out) (by simp only [List.length_nil]; omega) (by show _ ≤ w1.heap.size; omega) ?_; intro v1 wa o1 b1 g1; have O1 := Lib.hid o1; have D1 := Lib.hid (D0.out.trans b1); have S1 := HC1.out _ D1.out; have D1b := Lib.hid (D1.out.alloc D1.out.size (.cells #[.int .i64 rt] 3)); have S1b := HC1.out _ D1b.out; clear o1 b1 g1)
                          | (refine step_append_I rfl (.tmp 87) (.tmp 90) rfl w1.heap.size (.slice none 0 0) [] rfl OI.nil (some p3) a _ (L.take a) rfl HL1.out (RT1.out.below DB.out) (by simp only [List.length_nil]; omega) (by show _ ≤ (w1.alloc (.cells #[.int .i64 rt] 3)).heap.size; rw [heap_size_alloc]; omega) ?_; intro v1 wa o1 b1 g1; have O1 := Lib.hid o1; have D1 := Lib.hid (DB.out.trans b1); have S1 := HC1.out _ D1.out; have RBB := Lib.hid (RI.grown (show RI (w1.alloc (.cells #[.int .i64 rt] 3)).drew (some ⟨w1.heap.size, 0, none⟩) [rt] from RI.one w1 rt) g1 (by simp [Value.ownBlock])); clear o1 b1 g1)
                          | (refine step_append_I rfl (.tmp 91) (.tmp 97) rfl w1.heap.size v1 ([] ++ L.take a) rfl (OI.alloc O1.out _) _ 1 1 [rt] rfl rfl (RI.one wa rt) (by rw [List.nil_append, HL1.out]; omega) D1b.out.size ?_; intro v2 wb o2 b2 g2; have O2 := Lib.hid o2; have D2 := Lib.hid (D1b.out.trans b2); have S2 := HC1.out _ D2.out; clear o2 b2 g2)
                          | (refine step_append_I rfl (.tmp 91) (.tmp 97) rfl w1.heap.size v1 ([] ++ L.take a) rfl O1.out _ 1 1 [rt] rfl rfl RBB.out (by rw [List.nil_append, HL1.out]; omega) D1.out.size ?_; intro v2 wb o2 b2 g2; have O2 := Lib.hid o2; have D2 := Lib.hid (D1.out.trans b2); have S2 := HC1.out _ D2.out; clear o2 b2 g2)
                          | (refine step_append_I rfl (.tmp 98) (.tmp 101) rfl w1.heap.size v2 ([] ++ L.take a ++ [rt]) rfl O2.out (some (p3.add a)) (L.length - a) _ (L.drop a) rfl HL2.out (RT2.out.below D2.out) (by rw [List.nil_append, List.length_append, HL1.out]; simp only [List.length_cons, List.length_nil]; omega) D2.out.size ?_; intro v3 wd o3 b3 g3; have O3 := Lib.hid o3; have D3 := Lib.hid (D2.out.trans b3); have S3 := HC1.out _ D3.out; clear o3 b3 g3)
                          | fail)
                      all_goals
                        go_wp2_with fail
                        go_round
                        case rel => exact ⟨k + 1, _, by omega, by go_num, (by have := O3.out.lift HW1.out; rwa [List.nil_append] at this), by have h1 := HL1.out; have h2 := HL2.out; simp only [List.length_append, List.length_singleton]; omega, HPUT.out, HB1.out.trans (D3.out.mono HW1.out)⟩
                        case measure => simp [RowKit.intOf]; omega
                  · have da : decide (a < L.length) = false := decide_eq_false haN
                    have HPUT := Lib.hid (HPUT0.out a (by omega) HLO.out (fun x hx => by rw [List.getElem?_eq_none (by omega)] at hx; cases hx))
                    generalize wr = w1 at *
                    go_upto_region 12 with fail
                    go_quiet (fail)
                    have HC1 := Lib.hid (fun W (hW : Below (w1.drewN nq).heap.size (w1.drewN nq) W) => HC1.out W ((wrDrewN (Below.refl w1.heap.size w1) nq).trans hW))
                    have HB1 := Lib.hid (wrDrewN HB1.out nq)
                    have HW1 := Lib.hid (show w.heap.size ≤ (w1.drewN nq).heap.size from HW1.out)
                    have HR1 := Lib.hid (show RI (w1.drewN nq) (some p3) L from HR1.out)
                    clear x1
                    generalize w1.drewN nq = w1 at *
                    have HL1 := Lib.hid (show (L.take a).length = a from by rw [List.length_take]; omega)
                    have HL2 := Lib.hid (show (L.drop a).length = L.length - a from List.length_drop ..)
                    have ga0 : (a : Int) ≤ (L.length : Int) := by omega
                    have ga1 : (L.length : Int) ≤ (cap : Int) := by omega
                    have ga2 : (a : Int) ≤ (cap : Int) := by omega
                    by_cases gc : cap = a
                    · go_upto_region 15 with fail
                      have D0 := Lib.hid (Below.refl w1.heap.size w1).drew
                      have DB := Lib.hid ((Below.refl w1.heap.size w1).alloc (Nat.le_refl _) (.cells #[.int .i64 rt] 3)).drew
                      have S0 := HC1.out _ D0.out
                      have SB := HC1.out _ DB.out
                      have RT1 := Lib.hid (HR1.out.take a)
                      have RT2 := Lib.hid (show RI w1 (some p3) (L.drop a) from by rw [List.drop_eq_nil_of_le (by omega)]; exact fun j t hj => by simp at hj)
                      go_region_held3 (fun W => W.cell? ⟨(ad.add (k * 6)).block, (ad.add (k * 6)).off + 1, none⟩ = some (.int .i64 rt)) (first | with_reducible assumption | with_reducible exact S0 | with_reducible exact SB | with_reducible exact S1 | with_reducible exact S1b | with_reducible exact S2 | with_reducible exact S3 | fail)
                        (first
                          | (refine step_append_I rfl (.tmp 87) (.tmp 90) rfl w1.heap.size (.slice none 0 0) [] rfl OI.nil (some p3) a _ (L.take a) rfl HL1.out (RT1.out.below D0.out) (by simp only [List.length_nil]; omega) (by show _ ≤ w1.heap.size; omega) ?_; intro v1 wa o1 b1 g1; have O1 := Lib.hid o1; have D1 := Lib.hid (D0.out.trans b1); have S1 := HC1.out _ D1.out; have D1b := Lib.hid (D1.out.alloc D1.out.size (.cells #[.int .i64 rt] 3)); have S1b := HC1.out _ D1b.out; clear o1 b1 g1)
                          | (refine step_append_I rfl (.tmp 87) (.tmp 90) rfl w1.heap.size (.slice none 0 0) [] rfl OI.nil (some p3) a _ (L.take a) rfl HL1.out (RT1.out.below DB.out) (by simp only [List.length_nil]; omega) (by show _ ≤ (w1.alloc (.cells #[.int .i64 rt] 3)).heap.size; rw [heap_size_alloc]; omega) ?_; intro v1 wa o1 b1 g1; have O1 := Lib.hid o1; have D1 := Lib.hid (DB.out.trans b1); have S1 := HC1.out _ D1.out; have RBB := Lib.hid (RI.grown (show RI (w1.alloc (.cells #[.int .i64 rt] 3)).drew (some ⟨w1.heap.size, 0, none⟩) [rt] from RI.one w1 rt) g1 (by simp [Value.ownBlock])); clear o1 b1 g1)
                          | (refine step_append_I rfl (.tmp 91) (.tmp 97) rfl w1.heap.size v1 ([] ++ L.take a) rfl (OI.alloc O1.out _) _ 1 1 [rt] rfl rfl (RI.one wa rt) (by rw [List.nil_append, HL1.out]; omega) D1b.out.size ?_; intro v2 wb o2 b2 g2; have O2 := Lib.hid o2; have D2 := Lib.hid (D1b.out.trans b2); have S2 := HC1.out _ D2.out; clear o2 b2 g2)
                          | (refine step_append_I rfl (.tmp 91) (.tmp 97) rfl w1.heap.size v1 ([] ++ L.take a) rfl O1.out _ 1 1 [rt] rfl rfl RBB.out (by rw [List.nil_append, HL1.out]; omega) D1.out.size ?_; intro v2 wb o2 b2 g2; have O2 := Lib.hid o2; have D2 := Lib.hid (D1.out.trans b2); have S2 := HC1.out _ D2.out; clear o2 b2 g2)
                          | (refine step_append_I rfl (.tmp 98) (.tmp 101) rfl w1.heap.size v2 ([] ++ L.take a ++ [rt]) rfl O2.out (some p3) (L.length - a) _ (L.drop a) rfl HL2.out (RT2.out.below D2.out) (by rw [List.nil_append, List.length_append, HL1.out]; simp only [List.length_cons, List.length_nil]; omega) D2.out.size ?_; intro v3 wd o3 b3 g3; have O3 := Lib.hid o3; have D3 := Lib.hid (D2.out.trans b3); have S3 := HC1.out _ D3.out; clear o3 b3 g3)
                          | fail)
                      all_goals
                        go_wp2_with fail
                        go_round
                        case rel => exact ⟨k + 1, _, by omega, by go_num, (by have := O3.out.lift HW1.out; rwa [List.nil_append] at this), by have h1 := HL1.out; have h2 := HL2.out; simp only [List.length_append, List.length_singleton]; omega, HPUT.out, HB1.out.trans (D3.out.mono HW1.out)⟩
                        case measure => simp [RowKit.intOf]; omega
                    · go_upto_region 15 with fail
                      have D0 := Lib.hid (Below.refl w1.heap.size w1).drew
                      have DB := Lib.hid ((Below.refl w1.heap.size w1).alloc (Nat.le_refl _) (.cells #[.int .i64 rt] 3)).drew
                      have S0 := HC1.out _ D0.out
                      have SB := HC1.out _ DB.out
                      have RT1 := Lib.hid (HR1.out.take a)
                      have RT2 := Lib.hid (HR1.out.drop a)
                      go_region_held3 (fun W => W.cell? ⟨(ad.add (k * 6)).block, (ad.add (k * 6)).off + 1, none⟩ = some (.int .i64 rt)) (first | with_reducible assumption | with_reducible exact S0 | with_reducible exact SB | with_reducible exact S1 | with_reducible exact S1b | with_reducible exact S2 | with_reducible exact S3 | fail)
                        (first
                          | (refine step_append_I rfl (.tmp 87) (.tmp 90) rfl w1.heap.size (.slice none 0 0) [] rfl OI.nil (some p3) a _ (L.take a) rfl HL1.out (RT1.out.below D0.out) (by simp only [List.length_nil]; omega) (by show _ ≤ w1.heap.size; omega) ?_; intro v1 wa o1 b1 g1; have O1 := Lib.hid o1; have D1 := Lib.hid (D0.out.trans b1); have S1 := HC1.out _ D1.out; have D1b := Lib.hid (D1.out.alloc D1.out.size (.cells #[.int .i64 rt] 3)); have S1b := HC1.out _ D1b.out; clear o1 b1 g1)
                          | (refine step_append_I rfl (.tmp 87) (.tmp 90) rfl w1.heap.size (.slice none 0 0) [] rfl OI.nil (some p3) a _ (L.take a) rfl HL1.out (RT1.out.below DB.out) (by simp only [List.length_nil]; omega) (by show _ ≤ (w1.alloc (.cells #[.int .i64 rt] 3)).heap.size; rw [heap_size_alloc]; omega) ?_; intro v1 wa o1 b1 g1; have O1 := Lib.hid o1; have D1 := Lib.hid (DB.out.trans b1); have S1 := HC1.out _ D1.out; have RBB := Lib.hid (RI.grown (show RI (w1.alloc (.cells #[.int .i64 rt] 3)).drew (some ⟨w1.heap.size, 0, none⟩) [rt] from RI.one w1 rt) g1 (by simp [Value.ownBlock])); clear o1 b1 g1)
                          | (refine step_append_I rfl (.tmp 91) (.tmp 97) rfl w1.heap.size v1 ([] ++ L.take a) rfl (OI.alloc O1.out _) _ 1 1 [rt] rfl rfl (RI.one wa rt) (by rw [List.nil_append, HL1.out]; omega) D1b.out.size ?_; intro v2 wb o2 b2 g2; have O2 := Lib.hid o2; have D2 := Lib.hid (D1b.out.trans b2); have S2 := HC1.out _ D2.out; clear o2 b2 g2)
                          | (refine step_append_I rfl (.tmp 91) (.tmp 97) rfl w1.heap.size v1 ([] ++ L.take a) rfl O1.out _ 1 1 [rt] rfl rfl RBB.out (by rw [List.nil_append, HL1.out]; omega) D1.out.size ?_; intro v2 wb o2 b2 g2; have O2 := Lib.hid o2; have D2 := Lib.hid (D1.out.trans b2); have S2 := HC1.out _ D2.out; clear o2 b2 g2)
                          | (refine step_append_I rfl (.tmp 98) (.tmp 101) rfl w1.heap.size v2 ([] ++ L.take a ++ [rt]) rfl O2.out (some (p3.add a)) (L.length - a) _ (L.drop a) rfl HL2.out (RT2.out.below D2.out) (by rw [List.nil_append, List.length_append, HL1.out]; simp only [List.length_cons, List.length_nil]; omega) D2.out.size ?_; intro v3 wd o3 b3 g3; have O3 := Lib.hid o3; have D3 := Lib.hid (D2.out.trans b3); have S3 := HC1.out _ D3.out; clear o3 b3 g3)
                          | fail)
                      all_goals
                        go_wp2_with fail
                        go_round
                        case rel => exact ⟨k + 1, _, by omega, by go_num, (by have := O3.out.lift HW1.out; rwa [List.nil_append] at this), by have h1 := HL1.out; have h2 := HL2.out; simp only [List.length_append, List.length_singleton]; omega, HPUT.out, HB1.out.trans (D3.out.mono HW1.out)⟩
                        case measure => simp [RowKit.intOf]; omega
    · obtain rfl : k = n := by omega
      have LV := Lib.hid (show LiveOf l L from RefInv.done (by rw [HL.out]; exact hI))
      obtain ⟨B, c', rfl, _, ri, _⟩ := hO.form
      have RR := Lib.hid ri
      clear hO hI hB ri
      go_wp2_with fail
      exact bodyPost_ret (v := .slice B L.length c') (by simp [results, Try.results17, go_sem]) rfl ⟨B, c', L, rfl, LV.out, RR.out, hLk, HB.out⟩
end Go.Proofs.Ytlohhbpncbnipaa
end
