/- The walk of the law WalsecBack. -/
import Derived.Test.YtkfpjbefjflhfaaWsU
namespace Go.Proofs.Ytkfpjbefjflhfaa
open Go.RowKit
set_option linter.unusedVariables false
set_option linter.unusedSimpArgs false
/-- What packed sectors tell, alone, ahead of further ones, and ahead of themselves. -/
theorem back_plain {e : Nat} {L M : List (List UInt8)} (he : 1 ≤ e ∧ e ≤ 1099511627776) (hl : L.length ≤ 100) (hm : M.length ≤ 100) (hL : ∀ t ∈ L, t.length ≤ 238) (hM : ∀ t ∈ M, t.length ≤ 238) :
    scanK e 0 (wsSecs e 0 (grp L)) = (L, (grp L).length) ∧ scanK e 0 (wsSecs e 0 (grp L) ++ wsSecs e (grp L).length (grp M)) = (L ++ M, (grp L).length + (grp M).length) ∧ scanK e 0 (wsSecs e 0 (grp L) ++ wsSecs e 0 (grp L)) = (L, (grp L).length) := by
  have h1 := grp_len L
  have h2 := grp_len M
  have k := fun more => scanK_secs he.1 he.2 (grp L) grp_some (grp_size hL) 0 (by omega) more
  have k2 := scanK_secs he.1 he.2 (grp M) grp_some (grp_size hM) (grp L).length (by omega) []
  rw [grp_flat] at k k2
  simp only [Nat.zero_add] at k
  rw [List.append_nil] at k2
  simp only [scanK, List.append_nil, Nat.add_zero] at k2
  refine ⟨?_, ?_, ?_⟩
  · have := k []
    rw [List.append_nil] at this
    rw [this]
    simp [scanK]
  · have := k (wsSecs e (grp L).length (grp M))
    rw [this, k2]
  · rw [k]
    cases hg : grp L with
    | nil => simp [wsSecs, scanK]
    | cons g r =>
      rw [wsSecs, scanK_none]
      · simp
      · exact rd_other (m := 256 * e + 0) (wsSec_st e 0 g) (by omega) (fun _ _ => by simp; omega)
theorem wsSame_self (A B : Option Addr) (n c m d : Nat) (L : List (List UInt8)) (w : World) (hl : L.length = n) (hm : L.length = m) (hn : n ≤ 1000000) (hr : RS w A L) (hq : RS w B L) :
    Calls Try.prog 16 #[.slice A n c, .slice B m d] w fun x w' => x = .returned (.bool true) ∧ Below w.heap.size w w' := (wsSame_any A B n c m d L L w hl hm hn hr hq).mono fun x w' ⟨h1, h2⟩ => ⟨by rw [h1, decide_eq_true rfl], h2⟩
theorem not_light {L : List (List UInt8)} {m : Int} (h : ¬ lightB L m = true) : lightB L m = false := by simpa using h
theorem packE_or {e f : Int} {L : List (List UInt8)} (h : (1 ≤ e ∧ e ≤ 1099511627776) ∧ 0 ≤ f ∧ f ≤ 256 - ((grp L).length : Int)) : (packE e f L = 0 ∧ (∀ t ∈ L, t.length ≤ 238) ∧ packR e f L = wsSecs e.toNat f.toNat (grp L)) ∨ packE e f L = 5 := by
  by_cases hb : tooBigP L = true
  · exact .inr (packE_big h hb)
  · have hb' : tooBigP L = false := by simpa using hb
    have := packE_ok h hb'
    exact .inl ⟨this, notBig hb', by rw [packR, if_pos this]⟩
set_option maxHeartbeats 8000000 in
set_option maxRecDepth 100000 in
theorem walsecBack_core (ep : Nat) (A A' : Option Addr) (n n' c c' : Nat) (L M : List (List UInt8)) (w : World) (hep : ep < 4294967296) (hl : L.length = n) (hc : n ≤ c) (hm : c ≤ maxLen) (hs : ∀ t ∈ L, t.length ≤ maxLen) (hr : RS w A L) (hl' : M.length = n') (hc' : n' ≤ c') (hm' : c' ≤ maxLen) (hs' : ∀ t ∈ M, t.length ≤ maxLen) (hr' : RS w A' M) :
    Calls Try.prog 6 #[.int .u32 (ep : Int), .slice A n c, .slice A' n' c'] w fun x w' => x = .returned (.bool true) ∧ Below w.heap.size w w' := by
  have KL := Lib.hid (wsLight_any A n c L 30 w hl (by omega) hs hr)
  have KM := Lib.hid (wsLight_any A' n' c' M 30 w hl' (by omega) hs' hr')
  by_cases hL : lightB L 30 = true
  case neg =>
    rw [not_light hL] at KL
    clear hL hl hc hm hs hr hl' hc' hm' hs' hr' KM
    go_enter Try.func6, Try.ntmps6
    go_wp2_with (first
      | (go_at_call 7; (with_reducible refine Calls.mono KL.out ?_); rintro x w1 ⟨rfl, rfl⟩)
      | (go_at_call 8; refine (wsAwake_any _).mono ?_; rintro x w6 ⟨rfl, b6⟩; (have B6 := Lib.hid (b6)); clear b6))
    go_ret
    exact ⟨rfl, B6.out⟩
  by_cases hM : lightB M 30 = true
  case neg =>
    rw [hL] at KL
    rw [not_light hM] at KM
    clear hL hM hl hc hm hs hr hl' hc' hm' hs' hr'
    go_enter Try.func6, Try.ntmps6
    go_wp2_with (first
      | (go_at_call 7; (with_reducible refine Calls.mono KL.out ?_); rintro x w1 ⟨rfl, rfl⟩)
      | (go_at_call 7; (with_reducible refine Calls.mono KM.out ?_); rintro x w1 ⟨rfl, rfl⟩)
      | (go_at_call 8; refine (wsAwake_any _).mono ?_; rintro x w6 ⟨rfl, b6⟩; (have B6 := Lib.hid (b6)); clear b6))
    go_ret
    exact ⟨rfl, B6.out⟩
  rw [hL] at KL
  rw [hM] at KM
  obtain ⟨hn, hLs⟩ := lightB_iff.1 hL
  obtain ⟨hn', hMs⟩ := lightB_iff.1 hM
  have hn30 : n ≤ 30 := by omega
  have hn30' : n' ≤ 30 := by omega
  have g1 := grp_len L
  have g2 := grp_len M
  have hL1000 : ∀ t ∈ L, t.length ≤ 1000 := fun t ht => Nat.le_trans (hLs t ht) (by omega)
  have hM1000 : ∀ t ∈ M, t.length ≤ 1000 := fun t ht => Nat.le_trans (hMs t ht) (by omega)
  obtain ⟨e, hE⟩ : ∃ e : Nat, e = 1 + ep := ⟨_, rfl⟩
  have he : (1 : Int) + (ep : Int) = (e : Int) := by omega
  have heb : 1 ≤ e ∧ e ≤ 1099511627776 := by omega
  have he2 : e ≤ 4294967296 := by omega
  have KP := Lib.hid (pack_any A n c L (e : Int) 0 w hl (by omega) hc hm hL1000 hr)
  unfold PackPost at KP
  rcases packE_or (e := (e : Int)) (f := 0) (L := L) ⟨by omega, by omega, by omega⟩ with ⟨e1, hL238, r1⟩ | e1
  case inr =>
    rw [e1] at KP
    clear hL hM hl hc hm hs hr hl' hc' hm' hs' hr' hE hLs hMs hL1000 hM1000 heb e1
    go_enter Try.func6, Try.ntmps6
    go_wp2_with (first
      | (go_at_call 7; (with_reducible refine Calls.mono KL.out ?_); rintro x w1 ⟨rfl, rfl⟩)
      | (go_at_call 7; (with_reducible refine Calls.mono KM.out ?_); rintro x w1 ⟨rfl, rfl⟩)
      | (go_at_call 9; refine KP.out.mono ?_; rintro x w1 ⟨v1, rfl, o1, b1⟩; (have B1 := Lib.hid b1); clear o1 b1)
      | (go_at_call 8; refine (wsAwake_any _).mono ?_; rintro x w6 ⟨rfl, b6⟩; (have B6 := Lib.hid (B1.out.trans (b6.mono B1.out.size))); clear b6))
    go_ret
    exact ⟨rfl, B6.out⟩
  rw [e1, r1, Int.toNat_natCast, show (0 : Int).toNat = 0 from rfl] at KP
  have KQ := Lib.hid (fun W (h : Below w.heap.size w W) => pack_any A' n' c' M (e : Int) ((grp L).length : Int) W hl' (by omega) hc' hm' hM1000 (hr'.below h))
  unfold PackPost at KQ
  have HXL := Lib.hid (wsSecs_len e 0 (grp L))
  have KSX := Lib.hid (fun (A1 : Option Addr) (c1 : Nat) W (h : RBS W A1 (wsSecs e 0 (grp L))) => scan_any A1 (grp L).length c1 (wsSecs e 0 (grp L)) (e : Int) W (wsSecs_len _ _ _) (by omega) h)
  have KSA := Lib.hid (fun (A1 : Option Addr) (c1 : Nat) W (h : RS W A1 L) (h2 : RS W A L) => wsSame_self A1 A L.length c1 n c L W rfl hl (by omega) h h2)
  have KPA := Lib.hid (fun W (h : Below w.heap.size w W) => parts_any A n c L W hl (by omega) hc hm hL1000 (hr.below h))
  have HR := Lib.hid hr
  have HR' := Lib.hid hr'
  have HL := Lib.hid hl
  have HL' := Lib.hid hl'
  rcases packE_or (e := (e : Int)) (f := ((grp L).length : Int)) (L := M) ⟨by omega, by omega, by omega⟩ with ⟨e2, hM238, r2⟩ | e2
  case inr =>
    have hp := scanK_secs heb.1 heb.2 (grp L) grp_some (grp_size hL238) 0 (by omega) []
    rw [grp_flat, List.append_nil] at hp
    simp only [scanK, List.append_nil, Nat.add_zero] at hp
    unfold ScanPost at KSX
    rw [hp] at KSX
    dsimp only at KSX
    rw [e2] at KQ
    generalize wsSecs e 0 (grp L) = X at *
    generalize (grp L).length = N at *
    have hNN : ((N : Int) == (N : Int)) = true := by simp
    have hNn : ((N : Int) != (N : Int)) = false := by simp
    have hNX : ¬ (n : Int) < (N : Int) := by omega
    clear hL hM hl hc hm hs hr hl' hc' hm' hs' hr' hE hLs hMs hL1000 hM1000 heb e1 e2 r1 hp g1 g2
    go_enter Try.func6, Try.ntmps6
    go_wp2_with (first
      | (go_at_call 7; (with_reducible refine Calls.mono KL.out ?_); rintro x w1 ⟨rfl, rfl⟩)
      | (go_at_call 7; (with_reducible refine Calls.mono KM.out ?_); rintro x w1 ⟨rfl, rfl⟩)
      | (go_at_call 9; (with_reducible refine Calls.mono KP.out ?_); rintro x w1 ⟨v1, rfl, o1, b1⟩; obtain ⟨A1, c1, rfl, _, _, r1, _⟩ := o1.rg; (have R1 := Lib.hid r1); (have B1 := Lib.hid b1); clear o1 b1 r1; rw [HXL.out])
      | (go_at_call 9; (with_reducible refine Calls.mono (KQ.out _ B1.out) ?_); rintro x w2 ⟨v2, rfl, o2, b2⟩; (have R2 := Lib.hid (R1.out.below b2)); (have B2 := Lib.hid (B1.out.trans (b2.mono B1.out.size))); clear o2 b2)
      | (go_at_call 17; (with_reducible refine Calls.mono (KSX.out A1 c1 _ R2.out.rbs) ?_); rintro x w3 ⟨v3, rfl, o3, b3⟩; obtain ⟨A3, c3, rfl, _, r3, _⟩ := o3.form; (have R3 := Lib.hid r3); (have B3 := Lib.hid (B2.out.trans (b3.mono B2.out.size))); clear o3 b3 r3)
      | (go_at_call 16; (with_reducible refine Calls.mono (KSA.out A3 c3 _ R3.out (HR.out.below B3.out)) ?_); rintro x w4 ⟨rfl, b4⟩; (have B4 := Lib.hid (B3.out.trans (b4.mono B3.out.size))); clear b4)
      | (go_at_call 12; (with_reducible refine Calls.mono (KPA.out _ B4.out) ?_); rintro x w5 ⟨rfl, rfl⟩)
      | (go_at_call 8; refine (wsAwake_any _).mono ?_; rintro x w6 ⟨rfl, b6⟩; (have B6 := Lib.hid (B4.out.trans (b6.mono B4.out.size))); clear b6))
    go_ret
    exact ⟨rfl, B6.out⟩
  obtain ⟨q1, q2, q3⟩ := back_plain heb (by omega) (by omega) hL238 hM238
  rw [e2, r2, Int.toNat_natCast, Int.toNat_natCast] at KQ
  have HYL := Lib.hid (wsSecs_len e (grp L).length (grp M))
  have KSY := Lib.hid (fun (A1 : Option Addr) (c1 : Nat) W (h : RBS W A1 (wsSecs e 0 (grp L) ++ wsSecs e (grp L).length (grp M))) => scan_any A1 ((grp L).length + (grp M).length) c1 _ (e : Int) W (by rw [List.length_append, wsSecs_len, wsSecs_len]) (by omega) h)
  have KSZ := Lib.hid (fun (A1 : Option Addr) (c1 : Nat) W (h : RBS W A1 (wsSecs e 0 (grp L) ++ wsSecs e 0 (grp L))) => scan_any A1 ((grp L).length + (grp L).length) c1 _ (e : Int) W (by rw [List.length_append, wsSecs_len]) (by omega) h)
  have KSM := Lib.hid (fun (A1 A2 : Option Addr) (c1 c2 n1 n2 : Nat) W (h1 : L.length + M.length = n1) (h2 : L.length + M.length = n2) (h : RS W A1 (L ++ M)) (h2' : RS W A2 (L ++ M)) => wsSame_self A1 A2 n1 c1 n2 c2 (L ++ M) W (by rw [List.length_append]; exact h1) (by rw [List.length_append]; exact h2) (by omega) h h2')
  unfold ScanPost at KSX KSY KSZ
  rw [q1] at KSX
  rw [q2] at KSY
  rw [q3] at KSZ
  dsimp only at KSX KSY KSZ
  generalize wsSecs e 0 (grp L) = X at *
  generalize wsSecs e (grp L).length (grp M) = Y at *
  generalize (grp M).length = N' at *
  generalize (grp L).length = N at *
  have hNN : ((N : Int) == (N : Int)) = true := by simp
  have hNn : ((N : Int) != (N : Int)) = false := by simp
  have hNN' : (((N + N' : Nat) : Int) == (N : Int) + (N' : Int)) = true := by simp
  have hNX : ¬ (n : Int) < (N : Int) := by omega
  have hN30 : N ≤ 30 ∧ N' ≤ 30 := by omega
  clear hL hM hl hc hm hs hr hl' hc' hm' hs' hr' hE hLs hMs hL1000 hM1000 heb e1 e2 r1 r2 q1 q2 q3 g1 g2
  go_enter Try.func6, Try.ntmps6
  go_upto_region 13 with (first
    | (go_at_call 7; (with_reducible refine Calls.mono KL.out ?_); rintro x w1 ⟨rfl, rfl⟩)
    | (go_at_call 7; (with_reducible refine Calls.mono KM.out ?_); rintro x w1 ⟨rfl, rfl⟩)
    | (go_at_call 9; (with_reducible refine Calls.mono KP.out ?_); rintro x w1 ⟨v1, rfl, o1, b1⟩; obtain ⟨A1, c1, rfl, _, _, r1, _⟩ := o1.rg; (have R1 := Lib.hid r1); (have B1 := Lib.hid b1); clear o1 b1 r1; rw [HXL.out])
    | (go_at_call 9; (with_reducible refine Calls.mono (KQ.out _ B1.out) ?_); rintro x w2 ⟨v2, rfl, o2, b2⟩; obtain ⟨A2, c2, rfl, _, _, r2, _⟩ := o2.rg; (have RY2 := Lib.hid r2); (have R2 := Lib.hid (R1.out.below b2)); (have B2 := Lib.hid (B1.out.trans (b2.mono B1.out.size))); clear o2 b2 r2; rw [HYL.out])
    | (go_at_call 17; (with_reducible refine Calls.mono (KSX.out A1 c1 _ R2.out.rbs) ?_); rintro x w3 ⟨v3, rfl, o3, b3⟩; obtain ⟨A3, c3, rfl, _, r3, _⟩ := o3.form; (have R3 := Lib.hid r3); (have C3 := Lib.hid b3); clear o3 b3 r3)
    | (go_at_call 16; (with_reducible refine Calls.mono (KSA.out A3 c3 _ R3.out (HR.out.below (B2.out.trans (C3.out.mono B2.out.size)))) ?_); rintro x w4 ⟨rfl, b4⟩; (have C4 := Lib.hid (C3.out.trans (b4.mono C3.out.size))); clear b4)
    | (go_at_call 12; (with_reducible refine Calls.mono (KPA.out _ (B2.out.trans (C4.out.mono B2.out.size))) ?_); rintro x w5 ⟨rfl, rfl⟩))
  clear KL KM KP KQ KSX R1 B1 R3 C3
  have HX := Lib.hid (fun W (h : Below w2.heap.size w2 W) => R2.out.below h)
  have HY := Lib.hid (fun W (h : Below w2.heap.size w2 W) => RY2.out.below h)
  clear R2 RY2
  have X4 := Lib.hid (HX.out _ C4.out)
  have O4 : Hid (OG KB 34 w4.heap.size (w4.alloc (.cells #[] 34)) (.slice (some ⟨w4.heap.size, 0, none⟩) 0 0) []) := Lib.hid (OG.lit0 w4 (Nat.le_refl _))
  have D4 := Lib.hid ((Below.refl w4.heap.size w4).alloc (Nat.le_refl _) (.cells #[] 34))
  go_upto_region 14 with (first
    | (refine wpList_append_G tgBB rfl (.tmp 81) (.tmp 82) rfl w4.heap.size _ [] rfl O4.out A1 N c1 X rfl HXL.out (X4.out.below D4.out) ?_ ?_ D4.out.size ?_; (exact Apart.older X4.out D4.out O4.out.choose_spec.1 (Nat.le_refl _)); (simp only [List.length_nil]; omega); intro v5 w5 o5 b5 g5 h5; (have O5 := Lib.hid o5); (have D5 := Lib.hid (D4.out.trans b5)); (have C5 := Lib.hid (C4.out.trans (D5.out.mono C4.out.size))); clear o5 b5 g5 h5)
    | (refine wpList_append_G tgBB rfl (.tmp 83) (.tmp 84) rfl w4.heap.size _ ([] ++ X) rfl O5.out A2 N' c2 Y rfl HYL.out (HY.out _ C5.out) ?_ ?_ D5.out.size ?_; (exact Apart.older (HY.out _ C4.out) D5.out O5.out.choose_spec.1 (Nat.le_refl _)); (simp only [List.nil_append, HXL.out]; omega); intro v6 w6 o6 b6 g6 h6; obtain ⟨A6, c6, rfl, _, _, r6, _⟩ := o6.rg; (have R6 := Lib.hid (show RG KB w6 A6 (X ++ Y) from r6)); (have C6 := Lib.hid (C4.out.trans ((D5.out.trans b6).mono C4.out.size))); clear o6 b6 g6 h6 r6; rw [List.nil_append, List.length_append, HXL.out, HYL.out])
    | (go_at_call 17; (with_reducible refine Calls.mono (KSY.out A6 c6 _ R6.out.rbs) ?_); rintro x w7 ⟨v7, rfl, o7, b7⟩; obtain ⟨A7, c7, rfl, _, r7, _⟩ := o7.form; (have R7 := Lib.hid r7); (have C7 := Lib.hid (C6.out.trans (b7.mono C6.out.size))); clear o7 b7 r7))
  have X7 := Lib.hid (HX.out _ C7.out)
  have O7 : Hid (OG KB 34 w7.heap.size (w7.alloc (.cells #[] 34)) (.slice (some ⟨w7.heap.size, 0, none⟩) 0 0) []) := Lib.hid (OG.lit0 w7 (Nat.le_refl _))
  have D7 := Lib.hid ((Below.refl w7.heap.size w7).alloc (Nat.le_refl _) (.cells #[] 34))
  go_upto_region 15 with (first
    | (refine wpList_append_G tgBB rfl (.tmp 91) (.tmp 92) rfl w7.heap.size _ [] rfl O7.out A1 N c1 X rfl HXL.out (X7.out.below D7.out) ?_ ?_ D7.out.size ?_; (exact Apart.older X7.out D7.out O7.out.choose_spec.1 (Nat.le_refl _)); (simp only [List.length_nil]; omega); intro v8 w8 o8 b8 g8 h8; (have O8 := Lib.hid o8); (have D8 := Lib.hid (D7.out.trans b8)); (have C8 := Lib.hid (C7.out.trans (D8.out.mono C7.out.size))); clear o8 b8 g8 h8)
    | (refine wpList_append_G tgBB rfl (.tmp 93) (.tmp 94) rfl w7.heap.size _ ([] ++ X) rfl O8.out A1 N c1 X rfl HXL.out (HX.out _ C8.out) ?_ ?_ D8.out.size ?_; (exact Apart.older (HX.out _ C7.out) D8.out O8.out.choose_spec.1 (Nat.le_refl _)); (simp only [List.nil_append, HXL.out]; omega); intro v9 w9 o9 b9 g9 h9; obtain ⟨A9, c9, rfl, _, _, r9, _⟩ := o9.rg; (have R9 := Lib.hid (show RG KB w9 A9 (X ++ X) from r9)); (have C9 := Lib.hid (C7.out.trans ((D8.out.trans b9).mono C7.out.size))); (have D9 := Lib.hid (D8.out.trans b9)); clear o9 b9 g9 h9 r9; rw [List.nil_append, List.length_append, HXL.out])
    | (go_at_call 17; (with_reducible refine Calls.mono (KSZ.out A9 c9 _ R9.out.rbs) ?_); rintro x w10 ⟨v10, rfl, o10, b10⟩; obtain ⟨A10, c10, rfl, _, r10, _⟩ := o10.form; (have R10 := Lib.hid r10); (have C10 := Lib.hid (C9.out.trans (b10.mono C9.out.size))); (have D10 := Lib.hid (D9.out.trans (b10.mono D9.out.size))); clear o10 b10 r10))
  have B10 := Lib.hid (B2.out.trans (C10.out.mono B2.out.size))
  have S7 := Lib.hid (R7.out.below D10.out)
  clear KSY KSZ HX HY X4 O4 D4 X7 O7 D7 R6 R9 O5 D5 O8 D8 D9 R7
  have T10 := Lib.hid ((HR.out.below B10.out).rg)
  have U10 := Lib.hid ((HR'.out.below B10.out).rg)
  have P10 : Hid (OG CR.str 9 w10.heap.size (w10.alloc (.cells #[] 9)) (.slice (some ⟨w10.heap.size, 0, none⟩) 0 0) []) := Lib.hid (OG.lit0 w10 (Nat.le_refl _))
  have E10 := Lib.hid ((Below.refl w10.heap.size w10).alloc (Nat.le_refl _) (.cells #[] 9))
  go_wp2_with (first
    | (refine wpList_append_Gw tgS rfl (.tmp 109) (.tmp 110) rfl w10.heap.size _ [] rfl P10.out A n c L rfl HL.out (T10.out.below E10.out) (Apart.flat str_flat) ?_ E10.out.size ?_; (simp only [List.length_nil]; omega); intro v11 w11 o11 b11 g11 h11; (have P11 := Lib.hid o11); (have E11 := Lib.hid (E10.out.trans b11)); clear o11 b11 g11 h11)
    | (refine wpList_append_Gw tgS rfl (.tmp 111) (.tmp 112) rfl w10.heap.size _ ([] ++ L) rfl P11.out A' n' c' M rfl HL'.out (U10.out.below E11.out) (Apart.flat str_flat) ?_ E11.out.size ?_; (simp only [List.nil_append, HL.out]; omega); intro v12 w12 o12 b12 g12 h12; obtain ⟨A12, c12, rfl, _, _, r12, _⟩ := o12.rg; (have R12 := Lib.hid (show RS w12 A12 (L ++ M) from r12.rs)); (have E12 := Lib.hid (E11.out.trans b12)); clear o12 b12 g12 h12 r12; rw [List.nil_append])
    | (go_at_call 16; (with_reducible refine Calls.mono (KSM.out A7 A12 c7 c12 _ _ _ (by simp) (by simp) (S7.out.below E12.out) R12.out) ?_); rintro x w13 ⟨rfl, b13⟩; (have E13 := Lib.hid (E12.out.trans (b13.mono E12.out.size))); clear b13)
    | (go_at_call 16; (with_reducible refine Calls.mono (KSA.out A10 c10 _ (R10.out.below E13.out) (HR.out.below (B10.out.trans (E13.out.mono B10.out.size)))) ?_); rintro x w14 ⟨rfl, b14⟩; (have E14 := Lib.hid (E13.out.trans (b14.mono E13.out.size))); clear b14)
    | (go_at_call 8; refine (wsAwake_any _).mono ?_; rintro x w6 ⟨rfl, b6⟩; (have B6 := Lib.hid (B10.out.trans ((E14.out.trans (b6.mono E14.out.size)).mono B10.out.size))); clear b6))
  go_ret
  exact ⟨rfl, B6.out⟩
end Go.Proofs.Ytkfpjbefjflhfaa
