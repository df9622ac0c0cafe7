/- Joined: WrFd WrG. -/
import Derived.Test.YtlohhbpncbnipaaM48
import Derived.Test.YtlohhbpncbnipaaM49
section
/- The program's guess of a record of its bytes, by what its kind has. -/
namespace Go.Proofs.Ytlohhbpncbnipaa
open Go.RowKit
set_option linter.unusedVariables false
set_option linter.unusedSimpArgs false
set_option maxHeartbeats 4000000 in
set_option maxRecDepth 100000 in
theorem guess_tft (A : Option Addr) (n c : Nat) (k : UInt8) (r : List UInt8) (w : World) (hN : n ≤ 17592186044416) (hl : (k :: r).length = n) (hc : n ≤ c) (hr : RB w A (k :: r)) (ea : wrHasTxn k.toNat = true) (eb : wrHasTS k.toNat = false) (ec : wrHasPair k.toNat = true) :
    Calls Try.prog 32 #[.slice A n c] w fun e w' => e = .returned (guessR (k :: r)).v ∧ Below w.heap.size w w' := by
  rw [show guessR (k :: r) = (⟨k.toNat, (rdV r 0 : Nat), 0, str (rtV (rdL r 0) (rdF r 0) 16), (writ (rtL (rdL r 0) (rdF r 0) 16)).1, str (writ (rtL (rdL r 0) (rdF r 0) 16)).2⟩ : Rec) from by show guessL k.toNat (wrHasTxn k.toNat) (wrHasTS k.toNat) (wrHasPair k.toNat) r = _; rw [ea, eb, ec]; rfl]
  have KA := Lib.hid (fun W => hasTxn_any k.toNat W)
  have KB := Lib.hid (fun W => hasTS_any k.toNat W)
  have KC := Lib.hid (fun W => hasPair_any k.toNat W)
  rw [ea] at KA
  rw [eb] at KB
  rw [ec] at KC
  clear ea eb ec
  obtain ⟨ad, y, rfl, hy, hcy⟩ := hr.at_ (k := 0) (by simp)
  obtain rfl : y = k := by simpa using hy.symm
  have hr' := hr.pastK (m := 1) hl hc (by simp at hl; omega)
  rw [List.drop_one, List.tail_cons] at hr'
  rw [Addr.add_nought] at hcy
  have hlt := lt_of_cell hcy
  have hn : r.length = n - 1 := by simp at hl; omega
  have h1n : 1 ≤ n := by simp at hl; omega
  have KN := Lib.hid (fun B c' W (hB : RB W B r) => okNewO_any B (n - 1) c' r W (by omega) hn hB)
  have KS1 := Lib.hid (fun b g W (h : RDO b W g r 0) => okSmallO_any b g 0 r W h (by omega))
  have KT := Lib.hid (fun b g W (h : RDO b W g (rdL r 0) (rdF r 0)) => okTextO_any b g (rdF r 0) 16 (rdL r 0) W h (by have := rdL_len r 0; omega) (by omega))
  have KL := Lib.hid (fun b g W (h : RDO b W g (rtL (rdL r 0) (rdF r 0) 16) (rtF (rdL r 0) (rdF r 0) 16)) => okLeftO_any b g _ _ W h)
  have hd : (y :: r).drop (n - (rtL (rdL r 0) (rdF r 0) 16).length) = rtL (rdL r 0) (rdF r 0) 16 ∧ (rtL (rdL r 0) (rdF r 0) 16).length ≤ n - 1 := by
    obtain ⟨k1, h1, e1⟩ := rd_suffix r 0
    obtain ⟨k2, h2, e2⟩ := rt_suffix (rdL r 0) (rdF r 0) 16
    refine ⟨?_, ?_⟩
    · rw [← hl]
      exact suffix_drop rfl (by simp) e1 e2
    · rw [e2, e1, List.length_drop, List.length_drop]; omega
  have KW := Lib.hid (fun B n' c' W (h1 : (rtL (rdL r 0) (rdF r 0) 16).length = n') (h2 : n' ≤ c') (hB : RB W B (rtL (rdL r 0) (rdF r 0) 16)) => written_any B n' c' _ W (by omega) h1 h2 hB)
  generalize rtV (rdL r 0) (rdF r 0) 16 = V3 at *
  generalize rtF (rdL r 0) (rdF r 0) 16 = F3 at *
  generalize (writ (rtL (rdL r 0) (rdF r 0) 16)).1 = G3 at *
  generalize (writ (rtL (rdL r 0) (rdF r 0) 16)).2 = T3 at *
  generalize rtL (rdL r 0) (rdF r 0) 16 = L3 at *
  generalize rdV r 0 = V1 at *
  generalize rdL r 0 = L1 at *
  generalize rdF r 0 = F1 at *
  have hw0 := heap_size_alloc w (.cells #[.int .u8 0, .int .i64 0, .int .i64 0, .string ⟨#[]⟩, .bool false, .string ⟨#[]⟩] 23)
  have hw1 := heap_size_alloc (w.alloc (.cells #[.int .u8 0, .int .i64 0, .int .i64 0, .string ⟨#[]⟩, .bool false, .string ⟨#[]⟩] 23)) (.cells #[.int .u8 (y.toNat : Int), .int .i64 0, .int .i64 0, .string ⟨#[]⟩, .bool false, .string ⟨#[]⟩] 23)
  have BX0 := RecBox.new (w.alloc (.cells #[.int .u8 0, .int .i64 0, .int .i64 0, .string ⟨#[]⟩, .bool false, .string ⟨#[]⟩] 23)) (y.toNat : Int) 0 0 ⟨#[]⟩ false ⟨#[]⟩
  rw [hw0] at BX0
  have BX := Lib.hid BX0
  have PX := Lib.hid ((RecBox.new w 0 0 0 ⟨#[]⟩ false ⟨#[]⟩).below ((Below.refl (w.heap.size + 1) (w.alloc (.cells #[.int .u8 0, .int .i64 0, .int .i64 0, .string ⟨#[]⟩, .bool false, .string ⟨#[]⟩] 23))).alloc (by rw [hw0]; exact Nat.le_refl _) (.cells #[.int .u8 (y.toNat : Int), .int .i64 0, .int .i64 0, .string ⟨#[]⟩, .bool false, .string ⟨#[]⟩] 23)) (Nat.lt_succ_self _))
  have BB := Lib.hid (((Below.refl w.heap.size w).alloc (Nat.le_refl _) (.cells #[.int .u8 0, .int .i64 0, .int .i64 0, .string ⟨#[]⟩, .bool false, .string ⟨#[]⟩] 23)).alloc (by simp) (.cells #[.int .u8 (y.toNat : Int), .int .i64 0, .int .i64 0, .string ⟨#[]⟩, .bool false, .string ⟨#[]⟩] 23))
  have hq1 : Hid (w.heap.size < ((w.alloc (.cells #[.int .u8 0, .int .i64 0, .int .i64 0, .string ⟨#[]⟩, .bool false, .string ⟨#[]⟩] 23)).alloc (.cells #[.int .u8 (y.toNat : Int), .int .i64 0, .int .i64 0, .string ⟨#[]⟩, .bool false, .string ⟨#[]⟩] 23)).heap.size) := Lib.hid (by omega)
  have hq2 : Hid (w.heap.size + 1 < ((w.alloc (.cells #[.int .u8 0, .int .i64 0, .int .i64 0, .string ⟨#[]⟩, .bool false, .string ⟨#[]⟩] 23)).alloc (.cells #[.int .u8 (y.toNat : Int), .int .i64 0, .int .i64 0, .string ⟨#[]⟩, .bool false, .string ⟨#[]⟩] 23)).heap.size) := Lib.hid (by omega)
  clear hw0 hw1 BX0
  have l0 : 0 < n := by omega
  have l1 : (1 : Int) ≤ (n : Int) := by omega
  have l2 : (n : Int) ≤ (c : Int) := by omega
  by_cases hc1 : c = 1
  · subst hc1
    obtain rfl : n = 1 := by omega
    have HB := Lib.hid (fun W (hW : Below w.heap.size w W) => (hr' (some ad) (.inl ⟨rfl, rfl⟩)).below hW)
    have d0 : L3.length = 0 := by omega
    obtain rfl : L3 = [] := List.length_eq_zero_iff.1 d0
    have HB2 := Lib.hid (fun W (hW : Below w.heap.size w W) => (show RB W (some ad) [] from .inl rfl))
    clear d0 hd
    clear hl hr hr' hy hn h1n hN
    go_enter Try.func32, Try.ntmps32
    go_wp2_with fail
    generalize ((w.alloc (.cells #[.int .u8 0, .int .i64 0, .int .i64 0, .string ⟨#[]⟩, .bool false, .string ⟨#[]⟩] 23)).alloc (.cells #[.int .u8 (y.toNat : Int), .int .i64 0, .int .i64 0, .string ⟨#[]⟩, .bool false, .string ⟨#[]⟩] 23)) = W0 at *
    refine (KN.out _ _ _ (HB.out _ BB.out)).mono ?_
    rintro e w1 ⟨g, rfl, r1, hg', b1⟩
    have hg := Lib.hid hg'
    have R := Lib.hid r1
    have BX := Lib.hid (BX.out.below b1 hq2.out)
    have PX := Lib.hid (PX.out.below b1 hq1.out)
    have BB := Lib.hid (BB.out.trans (b1.mono (Nat.le_of_lt hq1.out)))
    clear r1 b1 hg'
    obtain ⟨x0, x1, x2, x3, x4, x5, xf0, xf1, xf2, xf3, xf4, xf5⟩ := BX.out
    obtain ⟨p0, p1, p2, p3, p4, p5, pf0, pf1, pf2, pf3, pf4, pf5⟩ := PX.out
    go_wp2_with (first
      | (go_at_call 21; refine (KA.out _).mono ?_; rintro e w' ⟨rfl, rfl⟩)
      | (go_at_call 23; refine (KB.out _).mono ?_; rintro e w' ⟨rfl, rfl⟩)
      | (go_at_call 24; refine (KC.out _).mono ?_; rintro e w' ⟨rfl, rfl⟩)
      | fail)
    refine (KS1.out _ _ _ R.out).mono ?_
    rintro e w2 ⟨rfl, r2, o2⟩
    have b2 := o2.below (Nat.le_refl _)
    clear x0 x1 x2 x3 x4 x5 xf0 xf1 xf2 xf3 xf4 xf5 p0 p1 p2 p3 p4 p5 pf0 pf1 pf2 pf3 pf4 pf5
    clear o2 R
    have BX := Lib.hid (BX.out.below b2 (Nat.lt_of_lt_of_le hq2.out hg.out))
    have PX := Lib.hid (PX.out.below b2 (Nat.lt_of_lt_of_le hq1.out hg.out))
    have BB := Lib.hid (BB.out.trans (b2.mono (Nat.le_trans (Nat.le_of_lt hq1.out) hg.out)))
    have R := Lib.hid (r2.box (p := ⟨w.heap.size + 1, 1, none⟩) hq2.out (Nat.lt_of_lt_of_le hq2.out hg.out) (Value.int .i64 (V1 : Int)))
    obtain ⟨x0, x1, x2, x3, x4, x5, xf0, xf1, xf2, xf3, xf4, xf5⟩ := BX.out
    obtain ⟨p0, p1, p2, p3, p4, p5, pf0, pf1, pf2, pf3, pf4, pf5⟩ := PX.out
    have BX' := Lib.hid (BX.out.set1 (V1 : Int))
    have PX' := Lib.hid (PX.out.other (p := ⟨w.heap.size + 1, 1, none⟩) (Nat.succ_ne_self _) (Value.int .i64 (V1 : Int)))
    have BB' := Lib.hid (BB.out.setCell (p := ⟨w.heap.size + 1, 1, none⟩) (Nat.le_succ _) (Value.int .i64 (V1 : Int)))
    clear BX PX BB r2 b2
    go_wp2_with (first
      | (go_at_call 21; refine (KA.out _).mono ?_; rintro e w' ⟨rfl, rfl⟩)
      | (go_at_call 23; refine (KB.out _).mono ?_; rintro e w' ⟨rfl, rfl⟩)
      | (go_at_call 24; refine (KC.out _).mono ?_; rintro e w' ⟨rfl, rfl⟩)
      | fail)
    generalize w2.setCell ⟨w.heap.size + 1, 1, none⟩ (Value.int .i64 (V1 : Int)) = w4 at *
    have BX := BX'
    have PX := PX'
    have BB := BB'
    clear BX' PX' BB'
    clear x0 x1 x2 x3 x4 x5 xf0 xf1 xf2 xf3 xf4 xf5 p0 p1 p2 p3 p4 p5 pf0 pf1 pf2 pf3 pf4 pf5
    obtain ⟨x0, x1, x2, x3, x4, x5, xf0, xf1, xf2, xf3, xf4, xf5⟩ := BX.out
    obtain ⟨p0, p1, p2, p3, p4, p5, pf0, pf1, pf2, pf3, pf4, pf5⟩ := PX.out
    go_wp2_with (first
      | (go_at_call 21; refine (KA.out _).mono ?_; rintro e w' ⟨rfl, rfl⟩)
      | (go_at_call 23; refine (KB.out _).mono ?_; rintro e w' ⟨rfl, rfl⟩)
      | (go_at_call 24; refine (KC.out _).mono ?_; rintro e w' ⟨rfl, rfl⟩)
      | fail)
    refine (KT.out _ _ _ R.out).mono ?_
    rintro e w2 ⟨rfl, r2, b2⟩
    clear x0 x1 x2 x3 x4 x5 xf0 xf1 xf2 xf3 xf4 xf5 p0 p1 p2 p3 p4 p5 pf0 pf1 pf2 pf3 pf4 pf5
    clear R
    have BX := Lib.hid (BX.out.below b2 (Nat.lt_of_lt_of_le hq2.out hg.out))
    have PX := Lib.hid (PX.out.below b2 (Nat.lt_of_lt_of_le hq1.out hg.out))
    have BB := Lib.hid (BB.out.trans (b2.mono (Nat.le_trans (Nat.le_of_lt hq1.out) hg.out)))
    have R := Lib.hid (r2.box (p := ⟨w.heap.size + 1, 3, none⟩) hq2.out (Nat.lt_of_lt_of_le hq2.out hg.out) (Value.string (str V3)))
    obtain ⟨x0, x1, x2, x3, x4, x5, xf0, xf1, xf2, xf3, xf4, xf5⟩ := BX.out
    obtain ⟨p0, p1, p2, p3, p4, p5, pf0, pf1, pf2, pf3, pf4, pf5⟩ := PX.out
    have BX' := Lib.hid (BX.out.set3 (str V3))
    have PX' := Lib.hid (PX.out.other (p := ⟨w.heap.size + 1, 3, none⟩) (Nat.succ_ne_self _) (Value.string (str V3)))
    have BB' := Lib.hid (BB.out.setCell (p := ⟨w.heap.size + 1, 3, none⟩) (Nat.le_succ _) (Value.string (str V3)))
    clear BX PX BB r2 b2
    go_wp2_with (first
      | (go_at_call 21; refine (KA.out _).mono ?_; rintro e w' ⟨rfl, rfl⟩)
      | (go_at_call 23; refine (KB.out _).mono ?_; rintro e w' ⟨rfl, rfl⟩)
      | (go_at_call 24; refine (KC.out _).mono ?_; rintro e w' ⟨rfl, rfl⟩)
      | fail)
    generalize w2.setCell ⟨w.heap.size + 1, 3, none⟩ (Value.string (str V3)) = w4 at *
    have BX := BX'
    have PX := PX'
    have BB := BB'
    clear BX' PX' BB'
    clear x0 x1 x2 x3 x4 x5 xf0 xf1 xf2 xf3 xf4 xf5 p0 p1 p2 p3 p4 p5 pf0 pf1 pf2 pf3 pf4 pf5
    obtain ⟨x0, x1, x2, x3, x4, x5, xf0, xf1, xf2, xf3, xf4, xf5⟩ := BX.out
    obtain ⟨p0, p1, p2, p3, p4, p5, pf0, pf1, pf2, pf3, pf4, pf5⟩ := PX.out
    go_wp2_with (first
      | (go_at_call 21; refine (KA.out _).mono ?_; rintro e w' ⟨rfl, rfl⟩)
      | (go_at_call 23; refine (KB.out _).mono ?_; rintro e w' ⟨rfl, rfl⟩)
      | (go_at_call 24; refine (KC.out _).mono ?_; rintro e w' ⟨rfl, rfl⟩)
      | fail)
    refine (KL.out _ _ _ R.out).mono ?_
    rintro e w5 ⟨rfl, rfl⟩
    go_wp2_with (first
      | (go_at_call 21; refine (KA.out _).mono ?_; rintro e w' ⟨rfl, rfl⟩)
      | (go_at_call 23; refine (KB.out _).mono ?_; rintro e w' ⟨rfl, rfl⟩)
      | (go_at_call 24; refine (KC.out _).mono ?_; rintro e w' ⟨rfl, rfl⟩)
      | fail)
    refine (KW.out _ _ _ _ rfl (Nat.le_refl _) (HB2.out _ BB.out)).mono ?_
    rintro e w5 ⟨rfl, b5⟩
    have BX := Lib.hid (BX.out.below b5 BX.out.lt)
    have PX := Lib.hid (PX.out.below b5 PX.out.lt)
    have BB := Lib.hid (BB.out.trans (b5.mono BB.out.size))
    clear b5 R
    clear x0 x1 x2 x3 x4 x5 xf0 xf1 xf2 xf3 xf4 xf5 p0 p1 p2 p3 p4 p5 pf0 pf1 pf2 pf3 pf4 pf5
    obtain ⟨x0, x1, x2, x3, x4, x5, xf0, xf1, xf2, xf3, xf4, xf5⟩ := BX.out
    obtain ⟨p0, p1, p2, p3, p4, p5, pf0, pf1, pf2, pf3, pf4, pf5⟩ := PX.out
    have BBF := BB
    go_wp2_with (first
      | (go_at_call 21; refine (KA.out _).mono ?_; rintro e w' ⟨rfl, rfl⟩)
      | (go_at_call 23; refine (KB.out _).mono ?_; rintro e w' ⟨rfl, rfl⟩)
      | (go_at_call 24; refine (KC.out _).mono ?_; rintro e w' ⟨rfl, rfl⟩)
      | fail)
    refine bodyPost_ret (v := .agg #[.int .u8 (y.toNat : Int), .int .i64 (V1 : Int), .int .i64 0, .string (str V3), .bool G3, .string (str T3)]) (by simp [results, Try.results32, go_sem, p0, p1, p2, p3, p4, p5]) rfl ⟨rfl, below6 ((BBF.out.setCell (p := ⟨w.heap.size + 1, 4, none⟩) (Nat.le_succ _) (Value.bool G3)).setCell (p := ⟨w.heap.size + 1, 5, none⟩) (Nat.le_succ _) (Value.string (str T3))) (Nat.le_refl _) _ _ _ _ _ _⟩
  · have HB := Lib.hid (fun W (hW : Below w.heap.size w W) => (hr' (some (ad.add 1)) (.inr rfl)).below hW)
    obtain ⟨d, hdd⟩ : ∃ d, d = L3.length := ⟨_, rfl⟩
    rw [← hdd] at hd KL
    obtain ⟨m, hm⟩ : ∃ m, m = n - d := ⟨_, rfl⟩
    rw [← hm] at hd
    have hw : IntKind.i64.wrap ((n : Int) - (d : Int)) = (m : Int) := by rw [IntKind.wrap_i64]; omega
    have lm : m ≤ n := by omega
    have lm0 : (0 : Int) ≤ (m : Int) := by omega
    have lm1 : (m : Int) ≤ (n : Int) := by omega
    have lm2 : (m : Int) ≤ (c : Int) := by omega
    have HD : Hid (L3.length = n - m) := Lib.hid (by omega)
    by_cases hcm : c = m
    · have HNM := Lib.hid (show n - m = 0 from by omega)
      have HB2 := Lib.hid (fun W (hW : Below w.heap.size w W) => (show RB W (some ad) L3 from .inl (List.length_eq_zero_iff.1 (by omega))))
      have e0 : m = c := hcm.symm
      subst e0
      clear hl hr hr' hy hn h1n hN hd hdd hm
      go_enter Try.func32, Try.ntmps32
      go_wp2_with fail
      generalize ((w.alloc (.cells #[.int .u8 0, .int .i64 0, .int .i64 0, .string ⟨#[]⟩, .bool false, .string ⟨#[]⟩] 23)).alloc (.cells #[.int .u8 (y.toNat : Int), .int .i64 0, .int .i64 0, .string ⟨#[]⟩, .bool false, .string ⟨#[]⟩] 23)) = W0 at *
      refine (KN.out _ _ _ (HB.out _ BB.out)).mono ?_
      rintro e w1 ⟨g, rfl, r1, hg', b1⟩
      have hg := Lib.hid hg'
      have R := Lib.hid r1
      have BX := Lib.hid (BX.out.below b1 hq2.out)
      have PX := Lib.hid (PX.out.below b1 hq1.out)
      have BB := Lib.hid (BB.out.trans (b1.mono (Nat.le_of_lt hq1.out)))
      clear r1 b1 hg'
      obtain ⟨x0, x1, x2, x3, x4, x5, xf0, xf1, xf2, xf3, xf4, xf5⟩ := BX.out
      obtain ⟨p0, p1, p2, p3, p4, p5, pf0, pf1, pf2, pf3, pf4, pf5⟩ := PX.out
      go_wp2_with (first
        | (go_at_call 21; refine (KA.out _).mono ?_; rintro e w' ⟨rfl, rfl⟩)
        | (go_at_call 23; refine (KB.out _).mono ?_; rintro e w' ⟨rfl, rfl⟩)
        | (go_at_call 24; refine (KC.out _).mono ?_; rintro e w' ⟨rfl, rfl⟩)
        | fail)
      refine (KS1.out _ _ _ R.out).mono ?_
      rintro e w2 ⟨rfl, r2, o2⟩
      have b2 := o2.below (Nat.le_refl _)
      clear x0 x1 x2 x3 x4 x5 xf0 xf1 xf2 xf3 xf4 xf5 p0 p1 p2 p3 p4 p5 pf0 pf1 pf2 pf3 pf4 pf5
      clear o2 R
      have BX := Lib.hid (BX.out.below b2 (Nat.lt_of_lt_of_le hq2.out hg.out))
      have PX := Lib.hid (PX.out.below b2 (Nat.lt_of_lt_of_le hq1.out hg.out))
      have BB := Lib.hid (BB.out.trans (b2.mono (Nat.le_trans (Nat.le_of_lt hq1.out) hg.out)))
      have R := Lib.hid (r2.box (p := ⟨w.heap.size + 1, 1, none⟩) hq2.out (Nat.lt_of_lt_of_le hq2.out hg.out) (Value.int .i64 (V1 : Int)))
      obtain ⟨x0, x1, x2, x3, x4, x5, xf0, xf1, xf2, xf3, xf4, xf5⟩ := BX.out
      obtain ⟨p0, p1, p2, p3, p4, p5, pf0, pf1, pf2, pf3, pf4, pf5⟩ := PX.out
      have BX' := Lib.hid (BX.out.set1 (V1 : Int))
      have PX' := Lib.hid (PX.out.other (p := ⟨w.heap.size + 1, 1, none⟩) (Nat.succ_ne_self _) (Value.int .i64 (V1 : Int)))
      have BB' := Lib.hid (BB.out.setCell (p := ⟨w.heap.size + 1, 1, none⟩) (Nat.le_succ _) (Value.int .i64 (V1 : Int)))
      clear BX PX BB r2 b2
      go_wp2_with (first
        | (go_at_call 21; refine (KA.out _).mono ?_; rintro e w' ⟨rfl, rfl⟩)
        | (go_at_call 23; refine (KB.out _).mono ?_; rintro e w' ⟨rfl, rfl⟩)
        | (go_at_call 24; refine (KC.out _).mono ?_; rintro e w' ⟨rfl, rfl⟩)
        | fail)
      generalize w2.setCell ⟨w.heap.size + 1, 1, none⟩ (Value.int .i64 (V1 : Int)) = w4 at *
      have BX := BX'
      have PX := PX'
      have BB := BB'
      clear BX' PX' BB'
      clear x0 x1 x2 x3 x4 x5 xf0 xf1 xf2 xf3 xf4 xf5 p0 p1 p2 p3 p4 p5 pf0 pf1 pf2 pf3 pf4 pf5
      obtain ⟨x0, x1, x2, x3, x4, x5, xf0, xf1, xf2, xf3, xf4, xf5⟩ := BX.out
      obtain ⟨p0, p1, p2, p3, p4, p5, pf0, pf1, pf2, pf3, pf4, pf5⟩ := PX.out
      go_wp2_with (first
        | (go_at_call 21; refine (KA.out _).mono ?_; rintro e w' ⟨rfl, rfl⟩)
        | (go_at_call 23; refine (KB.out _).mono ?_; rintro e w' ⟨rfl, rfl⟩)
        | (go_at_call 24; refine (KC.out _).mono ?_; rintro e w' ⟨rfl, rfl⟩)
        | fail)
      refine (KT.out _ _ _ R.out).mono ?_
      rintro e w2 ⟨rfl, r2, b2⟩
      clear x0 x1 x2 x3 x4 x5 xf0 xf1 xf2 xf3 xf4 xf5 p0 p1 p2 p3 p4 p5 pf0 pf1 pf2 pf3 pf4 pf5
      clear R
      have BX := Lib.hid (BX.out.below b2 (Nat.lt_of_lt_of_le hq2.out hg.out))
      have PX := Lib.hid (PX.out.below b2 (Nat.lt_of_lt_of_le hq1.out hg.out))
      have BB := Lib.hid (BB.out.trans (b2.mono (Nat.le_trans (Nat.le_of_lt hq1.out) hg.out)))
      have R := Lib.hid (r2.box (p := ⟨w.heap.size + 1, 3, none⟩) hq2.out (Nat.lt_of_lt_of_le hq2.out hg.out) (Value.string (str V3)))
      obtain ⟨x0, x1, x2, x3, x4, x5, xf0, xf1, xf2, xf3, xf4, xf5⟩ := BX.out
      obtain ⟨p0, p1, p2, p3, p4, p5, pf0, pf1, pf2, pf3, pf4, pf5⟩ := PX.out
      have BX' := Lib.hid (BX.out.set3 (str V3))
      have PX' := Lib.hid (PX.out.other (p := ⟨w.heap.size + 1, 3, none⟩) (Nat.succ_ne_self _) (Value.string (str V3)))
      have BB' := Lib.hid (BB.out.setCell (p := ⟨w.heap.size + 1, 3, none⟩) (Nat.le_succ _) (Value.string (str V3)))
      clear BX PX BB r2 b2
      go_wp2_with (first
        | (go_at_call 21; refine (KA.out _).mono ?_; rintro e w' ⟨rfl, rfl⟩)
        | (go_at_call 23; refine (KB.out _).mono ?_; rintro e w' ⟨rfl, rfl⟩)
        | (go_at_call 24; refine (KC.out _).mono ?_; rintro e w' ⟨rfl, rfl⟩)
        | fail)
      generalize w2.setCell ⟨w.heap.size + 1, 3, none⟩ (Value.string (str V3)) = w4 at *
      have BX := BX'
      have PX := PX'
      have BB := BB'
      clear BX' PX' BB'
      clear x0 x1 x2 x3 x4 x5 xf0 xf1 xf2 xf3 xf4 xf5 p0 p1 p2 p3 p4 p5 pf0 pf1 pf2 pf3 pf4 pf5
      obtain ⟨x0, x1, x2, x3, x4, x5, xf0, xf1, xf2, xf3, xf4, xf5⟩ := BX.out
      obtain ⟨p0, p1, p2, p3, p4, p5, pf0, pf1, pf2, pf3, pf4, pf5⟩ := PX.out
      go_wp2_with (first
        | (go_at_call 21; refine (KA.out _).mono ?_; rintro e w' ⟨rfl, rfl⟩)
        | (go_at_call 23; refine (KB.out _).mono ?_; rintro e w' ⟨rfl, rfl⟩)
        | (go_at_call 24; refine (KC.out _).mono ?_; rintro e w' ⟨rfl, rfl⟩)
        | fail)
      refine (KL.out _ _ _ R.out).mono ?_
      rintro e w5 ⟨rfl, rfl⟩
      go_wp2_with (first
        | (go_at_call 21; refine (KA.out _).mono ?_; rintro e w' ⟨rfl, rfl⟩)
        | (go_at_call 23; refine (KB.out _).mono ?_; rintro e w' ⟨rfl, rfl⟩)
        | (go_at_call 24; refine (KC.out _).mono ?_; rintro e w' ⟨rfl, rfl⟩)
        | fail)
      refine (KW.out _ _ _ _ (by rw [HD.out, HNM.out]) (Nat.le_refl _) (HB2.out _ BB.out)).mono ?_
      rintro e w5 ⟨rfl, b5⟩
      have BX := Lib.hid (BX.out.below b5 BX.out.lt)
      have PX := Lib.hid (PX.out.below b5 PX.out.lt)
      have BB := Lib.hid (BB.out.trans (b5.mono BB.out.size))
      clear b5 R
      clear x0 x1 x2 x3 x4 x5 xf0 xf1 xf2 xf3 xf4 xf5 p0 p1 p2 p3 p4 p5 pf0 pf1 pf2 pf3 pf4 pf5
      obtain ⟨x0, x1, x2, x3, x4, x5, xf0, xf1, xf2, xf3, xf4, xf5⟩ := BX.out
      obtain ⟨p0, p1, p2, p3, p4, p5, pf0, pf1, pf2, pf3, pf4, pf5⟩ := PX.out
      have BBF := BB
      go_wp2_with (first
        | (go_at_call 21; refine (KA.out _).mono ?_; rintro e w' ⟨rfl, rfl⟩)
        | (go_at_call 23; refine (KB.out _).mono ?_; rintro e w' ⟨rfl, rfl⟩)
        | (go_at_call 24; refine (KC.out _).mono ?_; rintro e w' ⟨rfl, rfl⟩)
        | fail)
      refine bodyPost_ret (v := .agg #[.int .u8 (y.toNat : Int), .int .i64 (V1 : Int), .int .i64 0, .string (str V3), .bool G3, .string (str T3)]) (by simp [results, Try.results32, go_sem, p0, p1, p2, p3, p4, p5]) rfl ⟨rfl, below6 ((BBF.out.setCell (p := ⟨w.heap.size + 1, 4, none⟩) (Nat.le_succ _) (Value.bool G3)).setCell (p := ⟨w.heap.size + 1, 5, none⟩) (Nat.le_succ _) (Value.string (str T3))) (Nat.le_refl _) _ _ _ _ _ _⟩
    · have HB2 := Lib.hid (fun W (hW : Below w.heap.size w W) => (show RB W (some (ad.add m)) L3 from by rw [← hd.1]; exact (hr.drop m).below hW))
      clear hl hr hr' hy hn h1n hN hd hdd hm
      go_enter Try.func32, Try.ntmps32
      go_wp2_with fail
      generalize ((w.alloc (.cells #[.int .u8 0, .int .i64 0, .int .i64 0, .string ⟨#[]⟩, .bool false, .string ⟨#[]⟩] 23)).alloc (.cells #[.int .u8 (y.toNat : Int), .int .i64 0, .int .i64 0, .string ⟨#[]⟩, .bool false, .string ⟨#[]⟩] 23)) = W0 at *
      refine (KN.out _ _ _ (HB.out _ BB.out)).mono ?_
      rintro e w1 ⟨g, rfl, r1, hg', b1⟩
      have hg := Lib.hid hg'
      have R := Lib.hid r1
      have BX := Lib.hid (BX.out.below b1 hq2.out)
      have PX := Lib.hid (PX.out.below b1 hq1.out)
      have BB := Lib.hid (BB.out.trans (b1.mono (Nat.le_of_lt hq1.out)))
      clear r1 b1 hg'
      obtain ⟨x0, x1, x2, x3, x4, x5, xf0, xf1, xf2, xf3, xf4, xf5⟩ := BX.out
      obtain ⟨p0, p1, p2, p3, p4, p5, pf0, pf1, pf2, pf3, pf4, pf5⟩ := PX.out
      go_wp2_with (first
        | (go_at_call 21; refine (KA.out _).mono ?_; rintro e w' ⟨rfl, rfl⟩)
        | (go_at_call 23; refine (KB.out _).mono ?_; rintro e w' ⟨rfl, rfl⟩)
        | (go_at_call 24; refine (KC.out _).mono ?_; rintro e w' ⟨rfl, rfl⟩)
        | fail)
      refine (KS1.out _ _ _ R.out).mono ?_
      rintro e w2 ⟨rfl, r2, o2⟩
      have b2 := o2.below (Nat.le_refl _)
      clear x0 x1 x2 x3 x4 x5 xf0 xf1 xf2 xf3 xf4 xf5 p0 p1 p2 p3 p4 p5 pf0 pf1 pf2 pf3 pf4 pf5
      clear o2 R
      have BX := Lib.hid (BX.out.below b2 (Nat.lt_of_lt_of_le hq2.out hg.out))
      have PX := Lib.hid (PX.out.below b2 (Nat.lt_of_lt_of_le hq1.out hg.out))
      have BB := Lib.hid (BB.out.trans (b2.mono (Nat.le_trans (Nat.le_of_lt hq1.out) hg.out)))
      have R := Lib.hid (r2.box (p := ⟨w.heap.size + 1, 1, none⟩) hq2.out (Nat.lt_of_lt_of_le hq2.out hg.out) (Value.int .i64 (V1 : Int)))
      obtain ⟨x0, x1, x2, x3, x4, x5, xf0, xf1, xf2, xf3, xf4, xf5⟩ := BX.out
      obtain ⟨p0, p1, p2, p3, p4, p5, pf0, pf1, pf2, pf3, pf4, pf5⟩ := PX.out
      have BX' := Lib.hid (BX.out.set1 (V1 : Int))
      have PX' := Lib.hid (PX.out.other (p := ⟨w.heap.size + 1, 1, none⟩) (Nat.succ_ne_self _) (Value.int .i64 (V1 : Int)))
      have BB' := Lib.hid (BB.out.setCell (p := ⟨w.heap.size + 1, 1, none⟩) (Nat.le_succ _) (Value.int .i64 (V1 : Int)))
      clear BX PX BB r2 b2
      go_wp2_with (first
        | (go_at_call 21; refine (KA.out _).mono ?_; rintro e w' ⟨rfl, rfl⟩)
        | (go_at_call 23; refine (KB.out _).mono ?_; rintro e w' ⟨rfl, rfl⟩)
        | (go_at_call 24; refine (KC.out _).mono ?_; rintro e w' ⟨rfl, rfl⟩)
        | fail)
      generalize w2.setCell ⟨w.heap.size + 1, 1, none⟩ (Value.int .i64 (V1 : Int)) = w4 at *
      have BX := BX'
      have PX := PX'
      have BB := BB'
      clear BX' PX' BB'
      clear x0 x1 x2 x3 x4 x5 xf0 xf1 xf2 xf3 xf4 xf5 p0 p1 p2 p3 p4 p5 pf0 pf1 pf2 pf3 pf4 pf5
      obtain ⟨x0, x1, x2, x3, x4, x5, xf0, xf1, xf2, xf3, xf4, xf5⟩ := BX.out
      obtain ⟨p0, p1, p2, p3, p4, p5, pf0, pf1, pf2, pf3, pf4, pf5⟩ := PX.out
      go_wp2_with (first
        | (go_at_call 21; refine (KA.out _).mono ?_; rintro e w' ⟨rfl, rfl⟩)
        | (go_at_call 23; refine (KB.out _).mono ?_; rintro e w' ⟨rfl, rfl⟩)
        | (go_at_call 24; refine (KC.out _).mono ?_; rintro e w' ⟨rfl, rfl⟩)
        | fail)
      refine (KT.out _ _ _ R.out).mono ?_
      rintro e w2 ⟨rfl, r2, b2⟩
      clear x0 x1 x2 x3 x4 x5 xf0 xf1 xf2 xf3 xf4 xf5 p0 p1 p2 p3 p4 p5 pf0 pf1 pf2 pf3 pf4 pf5
      clear R
      have BX := Lib.hid (BX.out.below b2 (Nat.lt_of_lt_of_le hq2.out hg.out))
      have PX := Lib.hid (PX.out.below b2 (Nat.lt_of_lt_of_le hq1.out hg.out))
      have BB := Lib.hid (BB.out.trans (b2.mono (Nat.le_trans (Nat.le_of_lt hq1.out) hg.out)))
      have R := Lib.hid (r2.box (p := ⟨w.heap.size + 1, 3, none⟩) hq2.out (Nat.lt_of_lt_of_le hq2.out hg.out) (Value.string (str V3)))
      obtain ⟨x0, x1, x2, x3, x4, x5, xf0, xf1, xf2, xf3, xf4, xf5⟩ := BX.out
      obtain ⟨p0, p1, p2, p3, p4, p5, pf0, pf1, pf2, pf3, pf4, pf5⟩ := PX.out
      have BX' := Lib.hid (BX.out.set3 (str V3))
      have PX' := Lib.hid (PX.out.other (p := ⟨w.heap.size + 1, 3, none⟩) (Nat.succ_ne_self _) (Value.string (str V3)))
      have BB' := Lib.hid (BB.out.setCell (p := ⟨w.heap.size + 1, 3, none⟩) (Nat.le_succ _) (Value.string (str V3)))
      clear BX PX BB r2 b2
      go_wp2_with (first
        | (go_at_call 21; refine (KA.out _).mono ?_; rintro e w' ⟨rfl, rfl⟩)
        | (go_at_call 23; refine (KB.out _).mono ?_; rintro e w' ⟨rfl, rfl⟩)
        | (go_at_call 24; refine (KC.out _).mono ?_; rintro e w' ⟨rfl, rfl⟩)
        | fail)
      generalize w2.setCell ⟨w.heap.size + 1, 3, none⟩ (Value.string (str V3)) = w4 at *
      have BX := BX'
      have PX := PX'
      have BB := BB'
      clear BX' PX' BB'
      clear x0 x1 x2 x3 x4 x5 xf0 xf1 xf2 xf3 xf4 xf5 p0 p1 p2 p3 p4 p5 pf0 pf1 pf2 pf3 pf4 pf5
      obtain ⟨x0, x1, x2, x3, x4, x5, xf0, xf1, xf2, xf3, xf4, xf5⟩ := BX.out
      obtain ⟨p0, p1, p2, p3, p4, p5, pf0, pf1, pf2, pf3, pf4, pf5⟩ := PX.out
      go_wp2_with (first
        | (go_at_call 21; refine (KA.out _).mono ?_; rintro e w' ⟨rfl, rfl⟩)
        | (go_at_call 23; refine (KB.out _).mono ?_; rintro e w' ⟨rfl, rfl⟩)
        | (go_at_call 24; refine (KC.out _).mono ?_; rintro e w' ⟨rfl, rfl⟩)
        | fail)
      refine (KL.out _ _ _ R.out).mono ?_
      rintro e w5 ⟨rfl, rfl⟩
      go_wp2_with (first
        | (go_at_call 21; refine (KA.out _).mono ?_; rintro e w' ⟨rfl, rfl⟩)
        | (go_at_call 23; refine (KB.out _).mono ?_; rintro e w' ⟨rfl, rfl⟩)
        | (go_at_call 24; refine (KC.out _).mono ?_; rintro e w' ⟨rfl, rfl⟩)
        | fail)
      refine (KW.out _ _ _ _ HD.out (by omega) (HB2.out _ BB.out)).mono ?_
      rintro e w5 ⟨rfl, b5⟩
      have BX := Lib.hid (BX.out.below b5 BX.out.lt)
      have PX := Lib.hid (PX.out.below b5 PX.out.lt)
      have BB := Lib.hid (BB.out.trans (b5.mono BB.out.size))
      clear b5 R
      clear x0 x1 x2 x3 x4 x5 xf0 xf1 xf2 xf3 xf4 xf5 p0 p1 p2 p3 p4 p5 pf0 pf1 pf2 pf3 pf4 pf5
      obtain ⟨x0, x1, x2, x3, x4, x5, xf0, xf1, xf2, xf3, xf4, xf5⟩ := BX.out
      obtain ⟨p0, p1, p2, p3, p4, p5, pf0, pf1, pf2, pf3, pf4, pf5⟩ := PX.out
      have BBF := BB
      go_wp2_with (first
        | (go_at_call 21; refine (KA.out _).mono ?_; rintro e w' ⟨rfl, rfl⟩)
        | (go_at_call 23; refine (KB.out _).mono ?_; rintro e w' ⟨rfl, rfl⟩)
        | (go_at_call 24; refine (KC.out _).mono ?_; rintro e w' ⟨rfl, rfl⟩)
        | fail)
      refine bodyPost_ret (v := .agg #[.int .u8 (y.toNat : Int), .int .i64 (V1 : Int), .int .i64 0, .string (str V3), .bool G3, .string (str T3)]) (by simp [results, Try.results32, go_sem, p0, p1, p2, p3, p4, p5]) rfl ⟨rfl, below6 ((BBF.out.setCell (p := ⟨w.heap.size + 1, 4, none⟩) (Nat.le_succ _) (Value.bool G3)).setCell (p := ⟨w.heap.size + 1, 5, none⟩) (Nat.le_succ _) (Value.string (str T3))) (Nat.le_refl _) _ _ _ _ _ _⟩
end Go.Proofs.Ytlohhbpncbnipaa
end
section
/- The program's Get: a record of its bytes, or none. -/
namespace Go.Proofs.Ytlohhbpncbnipaa
open Go.RowKit
set_option linter.unusedVariables false
set_option linter.unusedSimpArgs false
set_option maxHeartbeats 1000000 in
set_option maxRecDepth 100000 in
theorem guess_any (A : Option Addr) (n c : Nat) (l : List UInt8) (w : World) (hN : n ≤ 17592186044416) (hl : l.length = n) (hc : n ≤ c) (hr : RB w A l) :
    Calls Try.prog 32 #[.slice A n c] w fun e w' => e = .returned (guessR l).v ∧ Below w.heap.size w w' := by
  cases l with
  | cons k r =>
    rcases wr_kinds k.toNat with ⟨a, b, d⟩ | ⟨a, b, d⟩ | ⟨a, b, d⟩ | ⟨a, b, d⟩
    · exact guess_ttf A n c k r w hN hl hc hr a b d
    · exact guess_tft A n c k r w hN hl hc hr a b d
    · exact guess_tff A n c k r w hN hl hc hr a b d
    · exact guess_ftf A n c k r w hN hl hc hr a b d
  | nil =>
    obtain rfl : n = 0 := hl.symm
    clear hr hl
    have hb := Lib.hid (fun o => (Below.refl w.heap.size w).alloc (Nat.le_refl _) o)
    show Calls _ _ _ _ fun e w' => e = .returned (⟨0, 0, 0, ⟨#[]⟩, false, ⟨#[]⟩⟩ : Rec).v ∧ Below w.heap.size w w'
    go_enter Try.func32, Try.ntmps32
    go_wp2
    refine bodyPost_ret (v := .agg #[.int .u8 0, .int .i64 0, .int .i64 0, .string ⟨#[]⟩, .bool false, .string ⟨#[]⟩]) (by simp [results, Try.results32, go_sem]) rfl ⟨rfl, ?_⟩
    exact hb.out _
theorem guess_of {l : List UInt8} : ∀ x, checkR x = 0 → putR x = l → guessR l = x := fun x hx e => by rw [← e]; exact guess_put hx
theorem wrEqual_any (A B : Option Addr) (n m c d : Nat) (a b : List UInt8) (w : World) (ha : a.length = n) (hb : b.length = m) (hr : RB w A a) (hs : RB w B b) :
    Calls Try.prog 33 #[.slice A n c, .slice B m d] w fun e w' => e = .returned (.bool (decide (a = b))) ∧ w = w' := by
  have h1 := run_str w A n c a ha hr
  have h2 := run_str w B m d b hb hs
  have HE : ((str a).toList == (str b).toList) = decide (a = b) := by
    rw [Bool.eq_iff_iff, beq_iff_eq, decide_eq_true_iff]
    exact ⟨fun e => by simpa [str, ByteArray.toList_eq] using e, fun e => by rw [e]⟩
  have HE := Lib.hid HE
  clear ha hb hr hs
  go_enter Try.func33, Try.ntmps33
  go_wp2
  go_ret
  exact ⟨by rw [← HE.out]; rfl, rfl⟩
set_option maxHeartbeats 2000000 in
set_option maxRecDepth 100000 in
theorem wrGet_any (A : Option Addr) (n c : Nat) (l : List UInt8) (w : World) (hN : n ≤ 17592186044416) (hl : l.length = n) (hc : n ≤ c) (hr : RB w A l) :
    Calls Try.prog 14 #[.slice A n c] w fun e w' => ∃ r z, e = .returned (.tuple #[Rec.v r, .int .i64 (z : Nat)]) ∧ GetOf l r z ∧ Below w.heap.size w w' := by
  have KG := Lib.hid (fun W (hb : Below w.heap.size w W) => guess_any A n c l W hN hl hc (hr.below hb))
  have HG := Lib.hid (guess_of (l := l))
  generalize guessR l = g at *
  have KP := Lib.hid (fun W => wrPut_any g W)
  have HE := Lib.hid (fun (B : Option Addr) (m d : Nat) (b : List UInt8) W (hb : Below w.heap.size w W) (h1 : b.length = m) (hB : RB W B b) => wrEqual_any B A m n d c b l W h1 hl hB (hr.below hb))
  have hw0 := heap_size_alloc w (.cells #[.int .u8 0, .int .i64 0, .int .i64 0, .string ⟨#[]⟩, .bool false, .string ⟨#[]⟩] 23)
  have PX0 := RecBox.new w 0 0 0 ⟨#[]⟩ false ⟨#[]⟩
  have BB := Lib.hid ((Below.refl w.heap.size w).alloc (Nat.le_refl _) (.cells #[.int .u8 0, .int .i64 0, .int .i64 0, .string ⟨#[]⟩, .bool false, .string ⟨#[]⟩] 23))
  have hs0 := Lib.hid hw0
  have hle := Lib.hid (Nat.le_trans (Nat.le_succ _) (Nat.le_of_eq hw0.symm))
  have PX := Lib.hid PX0
  clear hw0 PX0 hr hl hN hc
  obtain ⟨kind, txn, ts, key, gone, val⟩ := g
  have KP' := KP.out
  unfold Rec.v at KP' KG
  dsimp only at KP' KG
  have KP := Lib.hid KP'
  clear KP'
  go_enter Try.func14, Try.ntmps14
  go_wp2_with fail
  generalize (w.alloc (.cells #[.int .u8 0, .int .i64 0, .int .i64 0, .string ⟨#[]⟩, .bool false, .string ⟨#[]⟩] 23)) = W0 at *
  have hlt : Hid (w.heap.size < W0.heap.size) := Lib.hid (by have := hs0.out; omega)
  refine (KG.out _ BB.out).mono ?_
  rintro e w1 ⟨rfl, b1⟩
  have PX := Lib.hid (PX.out.below b1 hlt.out)
  have BB := Lib.hid (BB.out.trans (b1.mono hle.out))
  have h1 := heap_size_alloc w1 (.cells #[.int .u8 (kind : Int), .int .i64 txn, .int .i64 ts, .string key, .bool gone, .string val] 23)
  have hs1 := b1.size
  have BX := Lib.hid (RecBox.new w1 (kind : Int) txn ts key gone val)
  have PX := Lib.hid (PX.out.below ((Below.refl w1.heap.size w1).alloc (Nat.le_refl _) (.cells #[.int .u8 (kind : Int), .int .i64 txn, .int .i64 ts, .string key, .bool gone, .string val] 23)) (Nat.lt_of_lt_of_le hlt.out hs1))
  have BB := Lib.hid (BB.out.alloc (Nat.le_trans hle.out hs1) (.cells #[.int .u8 (kind : Int), .int .i64 txn, .int .i64 ts, .string key, .bool gone, .string val] 23))
  have hq : Hid (w1.heap.size < (w1.alloc (.cells #[.int .u8 (kind : Int), .int .i64 txn, .int .i64 ts, .string key, .bool gone, .string val] 23)).heap.size) := Lib.hid (by omega)
  have hp : Hid (w.heap.size < (w1.alloc (.cells #[.int .u8 (kind : Int), .int .i64 txn, .int .i64 ts, .string key, .bool gone, .string val] 23)).heap.size) := Lib.hid (by have := hlt.out; omega)
  clear b1 h1 hs1
  go_wp2_with fail
  generalize (w1.alloc (.cells #[.int .u8 (kind : Int), .int .i64 txn, .int .i64 ts, .string key, .bool gone, .string val] 23)) = W1 at *
  refine (KP.out _).mono ?_
  rintro e w2 ⟨v2, rfl, o2, b2⟩
  obtain ⟨A2, c2, rfl, hc2, r2⟩ := o2.form
  have PX := Lib.hid (PX.out.below b2 hp.out)
  have BX := Lib.hid (BX.out.below b2 hq.out)
  have BB := Lib.hid (BB.out.trans (b2.mono (Nat.le_of_lt hp.out)))
  clear b2 o2 hq hp hle hlt hs0 KG KP
  obtain ⟨x0, x1, x2, x3, x4, x5, xf0, xf1, xf2, xf3, xf4, xf5⟩ := BX.out
  obtain ⟨p0, p1, p2, p3, p4, p5, pf0, pf1, pf2, pf3, pf4, pf5⟩ := PX.out
  by_cases h0 : checkR ⟨kind, txn, ts, key, gone, val⟩ = 0
  · rw [if_pos h0] at hc2 r2 ⊢
    have KE := Lib.hid (HE.out A2 _ c2 _ w2 BB.out rfl r2)
    have HS := Lib.hid h0
    rw [h0]
    generalize hL : putR ⟨kind, txn, ts, key, gone, val⟩ = L at *
    by_cases he : L = l
    · have GO := Lib.hid (GetOf.yes HS.out (hL.trans he))
      have KE := Lib.hid (show Calls Try.prog 33 #[.slice A2 L.length c2, .slice A n c] w2 (fun e w' => e = .returned (.bool true) ∧ w2 = w') from by have h := KE.out; rw [decide_eq_true he] at h; exact h)
      clear h0 he hL HS HE HG r2 hc2
      go_wp2_with (first
        | (go_at_call 33; refine KE.out.mono ?_; rintro e w' ⟨rfl, rfl⟩)
        | fail)
      refine bodyPost_ret (v := .tuple #[.agg #[.int .u8 (kind : Int), .int .i64 txn, .int .i64 ts, .string key, .bool gone, .string val], .int .i64 0]) (by simp [results, Try.results14, go_sem, p0, p1, p2, p3, p4, p5]) rfl ⟨_, 0, rfl, GO.out, below6 BB.out (Nat.le_refl _) _ _ _ _ _ _⟩
    · have GO := Lib.hid (GetOf.no HG.out (fun h => he (hL.symm.trans h.2)))
      have KE := Lib.hid (show Calls Try.prog 33 #[.slice A2 L.length c2, .slice A n c] w2 (fun e w' => e = .returned (.bool false) ∧ w2 = w') from by have h := KE.out; rw [decide_eq_false he] at h; exact h)
      clear h0 he hL HS HE HG r2 hc2
      go_wp2_with (first
        | (go_at_call 33; refine KE.out.mono ?_; rintro e w' ⟨rfl, rfl⟩)
        | fail)
      refine bodyPost_ret (v := .tuple #[.agg #[.int .u8 0, .int .i64 0, .int .i64 0, .string ⟨#[]⟩, .bool false, .string ⟨#[]⟩], .int .i64 4]) (by simp [results, Try.results14, go_sem, p0, p1, p2, p3, p4, p5]) rfl ⟨⟨0, 0, 0, ⟨#[]⟩, false, ⟨#[]⟩⟩, 4, rfl, GO.out, below6 BB.out (Nat.le_refl _) _ _ _ _ _ _⟩
  · have GO := Lib.hid (GetOf.no HG.out (fun h => h0 h.1))
    have d0 : ((checkR ⟨kind, txn, ts, key, gone, val⟩ : Int) != 0) = true := by simp; omega
    generalize checkR ⟨kind, txn, ts, key, gone, val⟩ = E at *
    clear HE HG r2 hc2
    go_wp2_with fail
    refine bodyPost_ret (v := .tuple #[.agg #[.int .u8 0, .int .i64 0, .int .i64 0, .string ⟨#[]⟩, .bool false, .string ⟨#[]⟩], .int .i64 4]) (by simp [results, Try.results14, go_sem, p0, p1, p2, p3, p4, p5]) rfl ⟨⟨0, 0, 0, ⟨#[]⟩, false, ⟨#[]⟩⟩, 4, rfl, GO.out, below6 BB.out (Nat.le_refl _) _ _ _ _ _ _⟩
end Go.Proofs.Ytlohhbpncbnipaa
end
