/- The walk of the law BlocksStay. -/
import Derived.Test.YtgnoodafaofkiaaBlS
namespace Go.Proofs.Ytgnoodafaofkiaa.blocksStay
open Go.RowKit
set_option linter.unusedVariables false
/-- What is known of the disk, of whose block 2 the bytes B were synced. -/
structure Keeps (s : Dk) (B : List UInt8) (c : Nat) : Prop where
  good : Good s 24
  calls : s.calls ≤ c
  wt : ∀ i, 10 ≤ i → i < 14 → s.wt i = none
  rows : ∀ i, 10 ≤ i → i < 14 → s.rows.getD i [] = part B (i - 10)
theorem fault_in {s : Dk} (h : Good s 24) {n : Int} (hn : 0 ≤ n ∧ n < 5) : Ar.fault ⟨2, 5⟩ s.rows.length n = 0 := by rw [h.len]; exact Ar.fault_zero (by omega) (by omega) hn
theorem fault_out {s : Dk} (h : Good s 24) {n : Int} (hn : ¬ (0 ≤ n ∧ n < 5)) : Ar.fault ⟨2, 5⟩ s.rows.length n = 9 := by rw [h.len]; exact Ar.fault_nine (by omega) (by omega) hn
theorem first {s : Dk} (h : Good s 24) (hc : s.calls = 0) (l : List UInt8) (hl : l.length ≤ 1016) : (s.bwrite ⟨2, 5⟩ 2 l).2 = 0 ∧ (s.bwrite ⟨2, 5⟩ 2 l).1.calls ≤ 4 ∧ (s.bwrite ⟨2, 5⟩ 2 l).1.syncErr = 0 ∧ Keeps (s.bwrite ⟨2, 5⟩ 2 l).1.sync (sealL l 1024) 5 := by
  have e : s.bwrite ⟨2, 5⟩ 2 l = s.bw ((10 : Nat) : Int) (sealL l 1024) 4 := by
    unfold Dk.bwrite
    rw [fault_in h (by omega), if_neg (by simp), if_neg (by omega)]
    rfl
  have hL : (sealL l 1024).length = 1024 := seal_len l 1024 (by omega)
  obtain ⟨h1, h2, h3, h4, h5⟩ := h.bw (x := 10) hL (by omega) 4 (by omega)
  rw [e]
  generalize (s.bw ((10 : Nat) : Int) (sealL l 1024) 4) = r at *
  obtain ⟨t, er⟩ := r
  simp only at h1 h2 h3 h4 h5 ⊢
  refine ⟨h1, by omega, h2.sync.2, h2.ofSync, ?_, ?_, ?_⟩
  · rw [h2.sync.1]
    show t.calls + 1 ≤ 5
    omega
  · intro i _ _
    rw [h2.sync.1]
    rfl
  · intro i hi hi'
    rw [h2.sync.1]
    have : ({ t with calls := t.calls + 1 } : Dk).synced.rows.getD i [] = t.at_ i := synced_at ({ t with calls := t.calls + 1 } : Dk) i (by show i < t.rows.length; rw [h2.len]; omega)
    rw [this]
    unfold Dk.at_
    rw [h5 i, if_pos (by omega)]
    rfl
theorem step {s : Dk} {B : List UInt8} {c : Nat} (h : Keeps s B c) (n : Int) (hn : n ≠ 2) (l : List UInt8) : Keeps (s.bwrite ⟨2, 5⟩ n l).1 B (c + 4) ∧ ((s.bwrite ⟨2, 5⟩ n l).2 = 0 ↔ (0 ≤ n ∧ n < 5) ∧ l.length ≤ 1016) := by
  by_cases hi : 0 ≤ n ∧ n < 5
  · by_cases hl : 1016 < l.length
    · have e : s.bwrite ⟨2, 5⟩ n l = (s, 5) := by
        unfold Dk.bwrite
        rw [fault_in h.good hi, if_neg (by simp), if_pos hl]
      rw [e]
      exact ⟨⟨h.good, Nat.le_trans h.calls (by omega), h.wt, h.rows⟩, ⟨fun x => absurd x (by simp), fun x => absurd x.2 (by omega)⟩⟩
    · obtain ⟨x, hx⟩ := Int.eq_ofNat_of_zero_le (show 0 ≤ 2 + 4 * n by omega)
      have e : s.bwrite ⟨2, 5⟩ n l = s.bw (x : Int) (sealL l 1024) 4 := by
        unfold Dk.bwrite
        rw [fault_in h.good hi, if_neg (by simp), if_neg hl]
        show s.bw (2 + 4 * n) _ _ = _
        rw [hx]
      obtain ⟨h1, h2, h3, h4, h5⟩ := h.good.bw (x := x) (seal_len l 1024 (by omega)) (by omega) 4 (by omega)
      rw [e]
      refine ⟨⟨h2, by have := h.calls; omega, fun i a b => ?_, fun i a b => ?_⟩, ⟨fun _ => ⟨hi, by omega⟩, fun _ => h1⟩⟩
      · rw [h5 i, if_neg (by omega)]
        exact h.wt i a b
      · rw [h4]
        exact h.rows i a b
  · have e : s.bwrite ⟨2, 5⟩ n l = (s, 9) := by
      unfold Dk.bwrite
      rw [fault_out h.good hi, if_pos (by simp)]
    rw [e]
    exact ⟨⟨h.good, Nat.le_trans h.calls (by omega), h.wt, h.rows⟩, ⟨fun x => absurd x (by simp), fun x => absurd x.1 hi⟩⟩
theorem last {s : Dk} {l : List UInt8} {c : Nat} (h : Keeps s (sealL l 1024) c) (hl : l.length ≤ 1016) (f : List UInt8) : (s.power f).bread ⟨2, 5⟩ 2 = (l, 0) := by
  refine Dk.bread_seal (h.good.ofPower f) (by omega) (by omega) (by omega) (by omega) fun k hk => ?_
  show (s.power f).at_ (10 + k) = _
  have hni : 10 + k ∉ s.waits := fun hm => by
    have := (mem_keysOf.1 hm).2
    rw [h.wt (10 + k) (by omega) (by omega)] at this
    cases this
  show (powerGo s.wt s.waits (s.rows, f)).1.getD (10 + k) [] = _
  rw [powerGo_out _ _ _ _ hni]
  show s.rows.getD (10 + k) [] = _
  rw [h.rows (10 + k) (by omega) (by omega), show 10 + k - 10 = k by omega]
theorem RB.blt {w : World} {A : Option Addr} {l : List UInt8} (h : RB w A l) (hl : l ≠ []) : ∀ ad, A = some ad → ad.block < w.heap.size := by
  intro ad e
  rcases h with e' | ⟨ad', e', hc⟩
  · exact absurd e' hl
  · rw [e] at e'
    injection e' with e'
    subst e'
    cases l with
    | nil => exact absurd rfl hl
    | cons x l =>
      have := lt_of_cell (hc 0 x rfl)
      rwa [Addr.add_nought] at this
/-- Between two writes. -/
def Rel (w : World) (F : Ft) (b : Nat) (B : List UInt8) (i : Value) (wr : World) : Prop :=
  ∃ (k : Nat) (s : Dk), k ≤ 12 ∧ i = .int .i64 (k : Int) ∧ DkAt w.heap.size F wr s ∧ Keeps s B (5 + 4 * k) ∧ wr.heap[b]? = some (.cells #[.int .i64 2, .int .i64 5] 53 (0, 0)) ∧ Below w.heap.size w wr
set_option maxHeartbeats 4000000 in
set_option maxRecDepth 100000 in
theorem core (A : Option Addr) (n c : Nat) (l : List UInt8) (A1 : Option Addr) (n1 c1 : Nat) (l1 : List Bc) (A2 : Option Addr) (n2 c2 : Nat) (l2 : List UInt8) (w : World) (hl : l.length = n) (hnm : n ≤ maxLen) (hr : RB w A l) (hl1 : l1.length = n1) (hn1 : n1 ≤ maxLen) (ha : BActsAt w A1 l1) (hl2 : l2.length = n2) (hc2 : n2 ≤ c2) (hn2 : n2 ≤ maxLen) (hr2 : RB w A2 l2) :
    Calls Try.prog 6 #[.slice A n c, .slice A1 n1 c1, .slice A2 n2 c2] w fun e w' => e = .returned (.bool true) ∧ Below w.heap.size w w' := by
  have HL := Lib.hid hl
  have HL1 := Lib.hid hl1
  have HL2 := Lib.hid hl2
  have HR := Lib.hid hr
  have HR2 := Lib.hid hr2
  have HA := Lib.hid ha
  have KF := Lib.hid (few_any A1 n1 c1 l1 12 w hl1 hn1 ha)
  have HN2 := Lib.hid hn2
  have HM : n ≤ 9223372036854775807 := by simp only [maxLen] at hnm; omega
  have HM1 : n1 ≤ 9223372036854775807 := by simp only [maxLen] at hn1; omega
  clear hl hl1 hl2 hr hr2 ha hn2 hnm hn1
  by_cases hbig : 1016 < n
  · have h1 : (1016 : Int) < (n : Int) := by omega
    go_enter Try.func6, Try.ntmps6
    go_wp2_with (first
      | (go_at_call 24; refine (awake4_any _).mono ?_; rintro e w1 ⟨rfl, b1⟩; have B1 := Lib.hid b1; clear b1)
      | fail)
    go_ret
    exact ⟨rfl, B1.out⟩
  · have h1 : (n : Int) ≤ 1016 := by omega
    have HS := Lib.hid (show l.length ≤ 1016 from by rw [HL.out]; omega)
    clear hbig
    cases hf : fewL l1 12 with
    | false =>
      rw [hf] at KF
      go_enter Try.func6, Try.ntmps6
      go_wp2_with (first
        | (go_at_call 23; refine KF.out.mono ?_; rintro e w0 ⟨rfl, rfl⟩)
        | (go_at_call 24; refine (awake4_any _).mono ?_; rintro e w1 ⟨rfl, b1⟩; have B1 := Lib.hid b1; clear b1)
        | fail)
      go_ret
      exact ⟨rfl, B1.out⟩
    | true =>
      rw [hf] at KF
      obtain ⟨hf1, hf2⟩ := fewL_at hf
      have HF2 := Lib.hid hf2
      rw [HL1.out] at hf1
      clear hf hf2
      go_enter Try.func6, Try.ntmps6
      go_upto_region 5 with (first
        | (go_at_call 23; refine KF.out.mono ?_; rintro e w0 ⟨rfl, rfl⟩)
        | (go_at_call 9; refine (new_any 24 _).mono ?_; rintro e w1 ⟨F, rfl, h0, b0⟩; have H0 := Lib.hid (show DkAt w.heap.size F w1 (Dk.new 24) from h0); have B0 := Lib.hid b0; clear h0 b0)
        | fail)
      have h2 := H0.out.alloc (.cells #[.int .i64 2, .int .i64 5] 53)
      have B2 := Lib.hid (B0.out.alloc B0.out.size (.cells #[.int .i64 2, .int .i64 5] 53))
      have x2 := heap_alloc_last w1 (.cells #[.int .i64 2, .int .i64 5] 53)
      have nF := Lib.hid (not_has H0.out (Nat.le_refl _))
      have gb := B0.out.size
      generalize w1.alloc (.cells #[.int .i64 2, .int .i64 5] 53) = W2 at *
      clear B0 H0
      generalize w1.heap.size = b at *
      have X2 := Lib.hid x2
      have y0 : W2.cell? ⟨b, 0, none⟩ = some (.int .i64 2) := (cell_of_row W2 _ 0 _ _ _ x2).trans rfl
      have y1 : W2.cell? ⟨b, 1, none⟩ = some (.int .i64 5) := (cell_of_row W2 _ 1 _ _ _ x2).trans rfl
      obtain ⟨f1, f2, f3, f4⟩ := first (good_new 24 (by omega)) rfl l HS.out
      have k2 : Calls Try.prog 35 #[.pointer (some ⟨F.b, 0, none⟩), .agg #[.int .i64 2, .int .i64 5], .int .i64 2, .slice A n c] W2 _ := bwrite_any h2 (by show (0 : Nat) < _; omega) ⟨2, 5⟩ 2 A n c l HL.out (by omega) (HR.out.below B2.out)
      have e24 : Dk.new ((24 : Nat) : Int) = Dk.new 24 := rfl
      rw [e24] at f1 f2 f3 f4
      rw [f1] at k2
      have K2 := Lib.hid k2
      have F4 := Lib.hid f4
      have F3 := Lib.hid f3
      have F2 := Lib.hid f2
      clear k2 f1 f2 f3 f4 h2 x2 e24
      generalize ((Dk.new 24).bwrite ⟨2, 5⟩ 2 l).1 = s1 at *
      go_upto_region 7 with (first
        | (go_at_call 35; refine K2.out.mono ?_; rintro e w3 ⟨rfl, h3, f3⟩; have B3 := Lib.hid (B2.out.trans (f3.below h3.based B2.out.size)); have X3 := Lib.hid ((f3.block b (Array.getElem?_eq_some_iff.1 X2.out).1 nF.out).trans X2.out); have k3 := sync_any h3 (by have := F2.out; omega); rw [F3.out] at k3; have K3 := Lib.hid k3; clear k3 h3 f3)
        | (go_at_call 18; refine K3.out.mono ?_; rintro e w4 ⟨rfl, h4, f4⟩; have B4 := Lib.hid (B3.out.trans (f4.below h4.based B3.out.size)); have X4 := Lib.hid ((f4.block b (Array.getElem?_eq_some_iff.1 X3.out).1 nF.out).trans X3.out); have H4 := Lib.hid h4; clear h4 f4)
        | fail)
      clear y0 y1 X2 X3 B2 B3 K2 K3 F2 F3
      have ST : Hid (Rel w F b (sealL l 1024) (.int .i64 ((0 : Nat) : Int)) w4) := Lib.hid ⟨0, _, by omega, rfl, H4.out, F4.out, X4.out, B4.out⟩
      clear H4 F4 X4 B4
      go_wp2
      go_loopw [9, 10, 11] (fun i _ _ wr => Rel w F b (sealL l 1024) i wr ∧ (RowKit.intOf i).toNat ≤ n1) (fun i _ _ _ => n1 - (RowKit.intOf i).toNat)
      case atStart => exact ⟨ST.out, by simp [RowKit.intOf]⟩
      case round =>
        obtain ⟨⟨k, s, hk, rfl, hd, hkp, hx, hb⟩, hkn⟩ := hrel
        have hkn : k ≤ n1 := by simpa [RowKit.intOf] using hkn
        have HD := Lib.hid hd
        have HK := Lib.hid hkp
        have HX := Lib.hid hx
        have HB := Lib.hid hb
        have y0 : wr.cell? ⟨b, 0, none⟩ = some (.int .i64 2) := (cell_of_row wr _ 0 _ _ _ hx).trans rfl
        have y1 : wr.cell? ⟨b, 1, none⟩ = some (.int .i64 5) := (cell_of_row wr _ 1 _ _ _ hx).trans rfl
        have nFw := Lib.hid (show ∀ g, g < w.heap.size → ¬ F.has g from fun g hg hx => by have := hd.based g hx; omega)
        clear hd hkp hx hb
        by_cases hlt : k < n1
        · have hk' : (k : Int) < (n1 : Int) := by omega
          obtain ⟨ad, a, rfl, hka, hat0⟩ := HA.out.at_ (i := k) (by rw [HL1.out]; exact hlt)
          have hat := hat0.below HB.out
          have x1 := hat.d1
          have x2 := hat.d2
          have hlen := HF2.out k a hka
          have HT := Lib.hid hat
          have HT0 := Lib.hid hat0
          have hlo := hat.lo
          have hhi := hat.hi
          clear hat hat0 hka
          by_cases e2 : a.n = 2
          · have t2 : (a.n == 2) = true := by simp [e2]
            clear e2
            go_wp2
            go_roundw
            case rel => exact ⟨⟨k + 1, s, by omega, by go_num, HD.out, ⟨HK.out.good, by have := HK.out.calls; omega, HK.out.wt, HK.out.rows⟩, HX.out, HB.out⟩, by simp [RowKit.intOf]; omega⟩
            case measure => simp [RowKit.intOf]; omega
          · have t2 : (a.n == 2) = false := by simp [e2]
            obtain ⟨sk, si⟩ := step HK.out a.n e2 a.body
            have SK := Lib.hid sk
            have KW : Calls Try.prog 35 #[.pointer (some ⟨F.b, 0, none⟩), .agg #[.int .i64 2, .int .i64 5], .int .i64 a.n, .slice a.bA a.body.length a.bc] wr.drew _ := bwrite_any HD.out.drew (by have := HK.out.calls; omega) ⟨2, 5⟩ a.n a.bA a.body.length a.bc a.body rfl (by omega) HT.out.rb.drew
            have KW := Lib.hid KW
            have nb : Hid (¬ F.has (ad.add (k * 9)).block) := Lib.hid (nFw.out _ HT0.out.lt)
            have lb : Hid ((ad.add (k * 9)).block < wr.heap.size) := Lib.hid HT.out.lt
            have SI := Lib.hid si
            clear e2 sk si
            have x3 : wr.drew.cell? ⟨b, 0, none⟩ = some (.int .i64 2) ∧ wr.drew.cell? ⟨b, 1, none⟩ = some (.int .i64 5) ∧ wr.drew.cell? ⟨(ad.add (k * 9)).block, (ad.add (k * 9)).off + 1, none⟩ = some (.int .i64 a.n) ∧ wr.drew.cell? ⟨(ad.add (k * 9)).block, (ad.add (k * 9)).off + 2, none⟩ = some (.slice a.bA a.body.length a.bc) := ⟨y0, y1, x1, x2⟩
            generalize (s.bwrite ⟨2, 5⟩ a.n a.body).1 = s' at *
            generalize (s.bwrite ⟨2, 5⟩ a.n a.body).2 = er at *
            go_wp2
            go_region_held3 (fun W => W.cell? ⟨b, 0, none⟩ = some (.int .i64 2) ∧ W.cell? ⟨b, 1, none⟩ = some (.int .i64 5) ∧ W.cell? ⟨(ad.add (k * 9)).block, (ad.add (k * 9)).off + 1, none⟩ = some (.int .i64 a.n) ∧ W.cell? ⟨(ad.add (k * 9)).block, (ad.add (k * 9)).off + 2, none⟩ = some (.slice a.bA a.body.length a.bc)) (first | with_reducible assumption | with_reducible exact x3 | with_reducible exact x5 | go_keep | fail)
              (first
                | (go_at_call 35; refine KW.out.mono ?_; rintro e w5 ⟨rfl, h5, f5⟩; have x5 := (show w5.cell? ⟨b, 0, none⟩ = some (.int .i64 2) ∧ w5.cell? ⟨b, 1, none⟩ = some (.int .i64 5) ∧ w5.cell? ⟨(ad.add (k * 9)).block, (ad.add (k * 9)).off + 1, none⟩ = some (.int .i64 a.n) ∧ w5.cell? ⟨(ad.add (k * 9)).block, (ad.add (k * 9)).off + 2, none⟩ = some (.slice a.bA a.body.length a.bc) from ⟨(f5.cell (p := ⟨b, 0, none⟩) (lt_of_cell y0) nF.out).trans y0, (f5.cell (p := ⟨b, 1, none⟩) (lt_of_cell y1) nF.out).trans y1, (f5.cell (p := ⟨(ad.add (k * 9)).block, (ad.add (k * 9)).off + 1, none⟩) lb.out nb.out).trans x1, (f5.cell (p := ⟨(ad.add (k * 9)).block, (ad.add (k * 9)).off + 2, none⟩) lb.out nb.out).trans x2⟩); have H5 := Lib.hid h5; have B5 := Lib.hid (HB.out.drew.trans (f5.below h5.based HB.out.size)); have X5 := Lib.hid ((f5.block b (Array.getElem?_eq_some_iff.1 HX.out).1 nF.out).trans HX.out); clear h5 f5)
                | fail)
            all_goals
              obtain ⟨_, _, z1, z2⟩ := x5
              by_cases i0 : 0 ≤ a.n
              · by_cases i5 : a.n < 5
                · by_cases il : a.body.length ≤ 1016
                  · obtain rfl : er = 0 := SI.out.2 ⟨⟨i0, i5⟩, il⟩
                    have il' : (a.body.length : Int) ≤ 1016 := by omega
                    clear il SI
                    go_wp2
                    go_roundw
                    case rel => exact ⟨⟨k + 1, s', by omega, by go_num, H5.out, ⟨SK.out.good, by have := SK.out.calls; omega, SK.out.wt, SK.out.rows⟩, X5.out, B5.out⟩, by simp [RowKit.intOf]; omega⟩
                    case measure => simp [RowKit.intOf]; omega
                  · have he : ((er : Int) == 0) = false := by rw [beq_eq_false_iff_ne]; intro h; exact il (SI.out.1 (by omega)).2
                    have il' : decide ((a.body.length : Int) ≤ 1016) = false := by simp; omega
                    clear il SI
                    go_wp2
                    go_roundw
                    case rel => exact ⟨⟨k + 1, s', by omega, by go_num, H5.out, ⟨SK.out.good, by have := SK.out.calls; omega, SK.out.wt, SK.out.rows⟩, X5.out, B5.out⟩, by simp [RowKit.intOf]; omega⟩
                    case measure => simp [RowKit.intOf]; omega
                · have he : ((er : Int) == 0) = false := by rw [beq_eq_false_iff_ne]; intro h; exact i5 (SI.out.1 (by omega)).1.2
                  have i5' : decide (a.n < 5) = false := by simp; omega
                  clear i5 SI
                  go_wp2
                  go_roundw
                  case rel => exact ⟨⟨k + 1, s', by omega, by go_num, H5.out, ⟨SK.out.good, by have := SK.out.calls; omega, SK.out.wt, SK.out.rows⟩, X5.out, B5.out⟩, by simp [RowKit.intOf]; omega⟩
                  case measure => simp [RowKit.intOf]; omega
              · have he : ((er : Int) == 0) = false := by rw [beq_eq_false_iff_ne]; intro h; exact i0 (SI.out.1 (by omega)).1.1
                have i0' : decide (0 ≤ a.n) = false := by simp; omega
                clear i0 SI
                go_wp2
                go_roundw
                case rel => exact ⟨⟨k + 1, s', by omega, by go_num, H5.out, ⟨SK.out.good, by have := SK.out.calls; omega, SK.out.wt, SK.out.rows⟩, X5.out, B5.out⟩, by simp [RowKit.intOf]; omega⟩
                case measure => simp [RowKit.intOf]; omega
        · obtain rfl : k = n1 := by omega
          have KP := Lib.hid (power_any HD.out A2 n2 c2 l2 HL2.out hc2 HN2.out (HR2.out.below HB.out) (fun hf ad e => nFw.out _ (RB.blt HR2.out hf ad e)))
          have HLA := Lib.hid (last HK.out HS.out l2)
          generalize s.power l2 = s5 at *
          go_wp2_with fail
          refine KP.out.mono ?_
          rintro e w5 ⟨rfl, h5, f5⟩
          have B5 := Lib.hid (HB.out.trans (f5.below h5.based HB.out.size))
          have X5 := (f5.block b (Array.getElem?_eq_some_iff.1 HX.out).1 nF.out).trans HX.out
          have v0 : w5.cell? ⟨b, 0, none⟩ = some (.int .i64 2) := (cell_of_row w5 _ 0 _ _ _ X5).trans rfl
          have v1 : w5.cell? ⟨b, 1, none⟩ = some (.int .i64 5) := (cell_of_row w5 _ 1 _ _ _ X5).trans rfl
          have k5 : Calls Try.prog 28 #[.pointer (some ⟨F.b, 0, none⟩), .agg #[.int .i64 2, .int .i64 5], .int .i64 2] w5 _ := bread_any h5 ⟨2, 5⟩ 2
          rw [HLA.out] at k5
          have K5 := Lib.hid k5
          clear k5 h5 f5 X5 KP
          go_wp2_with fail
          refine K5.out.mono ?_
          rintro e w6 ⟨v6, rfl, o6, q6⟩
          obtain ⟨A6, c6, rfl, hc6, r6⟩ := o6.form
          have B6 := Lib.hid (B5.out.trans (q6.mono B5.out.size))
          have hcv := run_str w6 A6 l.length c6 l rfl r6
          have hcw := run_str w6 A n c l HL.out (HR.out.below B6.out)
          have hss : ((str l).toList == (str l).toList) = true := by simp
          clear o6 q6 r6 hc6 K5
          go_wp2_with (first
            | (go_at_call 24; refine (awake4_any _).mono ?_; rintro e w7 ⟨rfl, b7⟩; have B7 := Lib.hid (B6.out.trans (b7.mono B6.out.size)); clear b7)
            | fail)
          go_ret
          exact ⟨rfl, B7.out⟩
end Go.Proofs.Ytgnoodafaofkiaa.blocksStay
