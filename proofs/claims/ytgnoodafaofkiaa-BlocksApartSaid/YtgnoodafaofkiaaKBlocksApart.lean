/- The walk of the law BlocksApart. -/
import Derived.Test.YtgnoodafaofkiaaBlF
import Derived.RegionTactic
import Derived.Deep.QuietTactic
import Derived.BigQuiet
namespace Go.Proofs.Ytgnoodafaofkiaa.blocksApart
open Go.RowKit
set_option linter.unusedVariables false
/-- The numbers of no sectors, or of four. -/
def Nums (w : World) (A : Option Addr) (x : Int) (len : Nat) : Prop := (len = 0 ∧ A = none) ∨ (len = 4 ∧ ∃ g, A = some ⟨g, 0, none⟩ ∧ Four w g x 4)
theorem Nums.below {w w' : World} {A : Option Addr} {x : Int} {len : Nat} (h : Nums w A x len) (hb : Below w.heap.size w w') : Nums w' A x len := by
  rcases h with h | ⟨h1, g, h2, h3⟩
  · exact .inl h
  · exact .inr ⟨h1, g, h2, (hb.block g (Array.getElem?_eq_some_iff.1 h3).1).trans h3⟩
theorem Nums.le {w : World} {A : Option Addr} {x : Int} {len : Nat} (h : Nums w A x len) : len ≤ 4 := by
  rcases h with ⟨h, _⟩ | ⟨h, _⟩ <;> omega
theorem Nums.at_ {w : World} {A : Option Addr} {x : Int} {len k : Nat} (h : Nums w A x len) (hk : k < len) : ∃ g, A = some ⟨g, 0, none⟩ ∧ w.cell? ⟨g, k, none⟩ = some (.int .i64 (x + k)) := by
  rcases h with ⟨h, _⟩ | ⟨h1, g, h2, h3⟩
  · omega
  · refine ⟨g, h2, ?_⟩
    rw [h3.cell k]
    have hk : k < 4 := by omega
    match k, hk with
    | 0, _ => simp [four]
    | 1, _ => simp [four]
    | 2, _ => simp [four]
    | 3, _ => simp [four]
theorem sectors_nums (a : Ar) (n : Int) (w : World) : Calls Try.prog 31 #[a.v, .int .i64 n] w fun e w' => ∃ A len, e = .returned (.slice A len len) ∧ Nums w' A (a.first + 4 * n) len ∧ (len = 4 ↔ (a.may && a.has n) = true) ∧ Below w.heap.size w w' := by
  by_cases h : (a.may && a.has n) = true
  · have h' := h
    simp only [Bool.and_eq_true] at h'
    refine (sectors_some a n w h'.1 h'.2).mono ?_
    rintro e w' ⟨g, rfl, _, f, b⟩
    exact ⟨_, 4, rfl, .inr ⟨rfl, g, rfl, f⟩, ⟨fun _ => h, fun _ => rfl⟩, b⟩
  · refine (sectors_none a n w (by simpa using h)).mono ?_
    rintro e w' ⟨rfl, b⟩
    exact ⟨_, 0, rfl, .inl ⟨rfl, rfl⟩, ⟨fun e => absurd e (by omega), fun e => absurd e h⟩, b⟩
/-- What stays while sectors are looked at. -/
structure St (w : World) (b g8 : Nat) (p q X Y : Int) (A9 : Option Addr) (l9 : Nat) (wr : World) : Prop where
  bel : Below w.heap.size w wr
  f8 : Four wr g8 X 4
  n9 : Nums wr A9 Y l9
  c0 : wr.cell? ⟨b, 0, none⟩ = some (.int .i64 p)
  c1 : wr.cell? ⟨b, 1, none⟩ = some (.int .i64 q)
theorem St.drewN {w : World} {b g8 : Nat} {p q X Y : Int} {A9 : Option Addr} {l9 : Nat} {wr : World} (h : St w b g8 p q X Y A9 l9 wr) (n : Nat) : St w b g8 p q X Y A9 l9 (wr.drewN n) :=
  ⟨⟨h.bel.os, h.bel.tape, h.bel.output, h.bel.size, h.bel.block⟩, h.f8, h.n9, h.c0, h.c1⟩
set_option maxHeartbeats 4000000 in
set_option maxRecDepth 100000 in
theorem core (a0 a1 : Nat) (n m : Int) (w : World) (h0 : a0 < 65536) (h1 : a1 < 65536) (n0 : -9223372036854775808 ≤ n) (n1 : n ≤ 9223372036854775807) (m0 : -9223372036854775808 ≤ m) (m1 : m ≤ 9223372036854775807) :
    Calls Try.prog 7 #[.agg #[.int .u16 (a0 : Int), .int .u16 (a1 : Int)], .int .i64 n, .int .i64 m] w fun e w' => e = .returned (.bool true) ∧ Below w.heap.size w w' := by
  go_enter Try.func7, Try.ntmps7
  go_upto_region 2 with fail
  have p0 : 0 ≤ (a0 : Int) % 4097 ∧ (a0 : Int) % 4097 ≤ 4096 := by omega
  have q0 : 0 ≤ (a1 : Int) % 513 ∧ (a1 : Int) % 513 ≤ 512 := by omega
  generalize (a0 : Int) % 4097 = p at *
  generalize (a1 : Int) % 513 = q at *
  obtain ⟨p0, p1⟩ := p0
  obtain ⟨q0, q1⟩ := q0
  have b0 := Lib.hid ((((Below.refl _ w).alloc (Nat.le_refl _) (.cells #[.int .u16 (a0 : Int), .int .u16 (a1 : Int)] 72)).alloc (by simp) (.cells #[.int .i64 p, .int .i64 q] 53)).drew)
  have hh := heap_alloc_last (w.alloc (.cells #[.int .u16 (a0 : Int), .int .u16 (a1 : Int)] 72)) (.cells #[.int .i64 p, .int .i64 q] 53)
  rw [heap_size_alloc] at hh
  generalize (w.alloc (.cells #[.int .u16 (a0 : Int), .int .u16 (a1 : Int)] 72)).alloc (.cells #[.int .i64 p, .int .i64 q] 53) = W0 at *
  have hw1 : w.heap.size ≤ w.heap.size + 1 := by omega
  generalize w.heap.size + 1 = b at *
  have c0 : W0.drew.cell? ⟨b, 0, none⟩ = some (.int .i64 p) := (cell_of_row W0 _ 0 _ _ _ hh).trans rfl
  have c1 : W0.drew.cell? ⟨b, 1, none⟩ = some (.int .i64 q) := (cell_of_row W0 _ 1 _ _ _ hh).trans rfl
  have K1 : Hid (∀ W, Calls Try.prog 31 #[.agg #[.int .i64 p, .int .i64 q], .int .i64 n] W fun e w' => ∃ A len, e = .returned (.slice A len len) ∧ Nums w' A (p + 4 * n) len ∧ (len = 4 ↔ (Ar.may ⟨p, q⟩ && Ar.has ⟨p, q⟩ n) = true) ∧ Below W.heap.size W w') := Lib.hid (fun W => sectors_nums ⟨p, q⟩ n W)
  have K2 : Hid (∀ W, Calls Try.prog 31 #[.agg #[.int .i64 p, .int .i64 q], .int .i64 m] W fun e w' => ∃ A len, e = .returned (.slice A len len) ∧ Nums w' A (p + 4 * m) len ∧ (len = 4 ↔ (Ar.may ⟨p, q⟩ && Ar.has ⟨p, q⟩ m) = true) ∧ Below W.heap.size W w') := Lib.hid (fun W => sectors_nums ⟨p, q⟩ m W)
  have HM := Lib.hid (show Ar.may ⟨p, q⟩ = true from Ar.may_of ⟨p0, p1, q0, q1⟩)
  have HN := Lib.hid (show ∀ n, Ar.has ⟨p, q⟩ n = decide (0 ≤ n ∧ n < q) from fun n => rfl)
  clear hh
  go_region_held3 (fun W => W.cell? ⟨b, 0, none⟩ = some (.int .i64 p) ∧ W.cell? ⟨b, 1, none⟩ = some (.int .i64 q)) (first | with_reducible assumption | with_reducible exact ⟨c0, c1⟩ | with_reducible exact ⟨c80, c81⟩ | with_reducible exact ⟨c90, c91⟩ | go_keep | fail)
    (first
      | (go_at_call 31; with_reducible refine (K1.out _).mono ?_; rintro e w8 ⟨A8, l8, rfl, n8, i8, q8⟩; have N8 := Lib.hid n8; have I8 := Lib.hid i8; have Q8 := Lib.hid q8; have c80 := (q8.cell (p := ⟨b, 0, none⟩) (lt_of_cell c0)).trans c0; have c81 := (q8.cell (p := ⟨b, 1, none⟩) (lt_of_cell c1)).trans c1; clear n8 q8 i8)
      | (go_at_call 31; with_reducible refine (K2.out _).mono ?_; rintro e w9 ⟨A9, l9, rfl, n9, i9, q9⟩; have N9 := Lib.hid n9; have I9 := Lib.hid i9; have Q9 := Lib.hid q9; have c90 := (q9.cell (p := ⟨b, 0, none⟩) (lt_of_cell c80)).trans c80; have c91 := (q9.cell (p := ⟨b, 1, none⟩) (lt_of_cell c81)).trans c81; clear n9 q9 i9)
      | fail)
  all_goals
    have B8 := Lib.hid (b0.out.trans (Q8.out.mono b0.out.size))
    have B9 := Lib.hid (B8.out.trans (Q9.out.mono B8.out.size))
    have M8 := Lib.hid (N8.out.below Q9.out)
    have L9 := N9.out.le
    have D8 : Hid (l8 = 4 ↔ (0 ≤ n ∧ n < q)) := Lib.hid (by rw [I8.out, HM.out, HN.out]; simp)
    have E8 := Lib.hid N8.out
    clear c0 c1 c80 c81 K1 K2 N8 Q8 Q9 B8 b0 HM HN I8 I9
    by_cases hn : 0 ≤ n ∧ n < q
    · obtain rfl : l8 = 4 := D8.out.2 hn
      obtain ⟨g8, rfl, _⟩ := M8.out.at_ (k := 0) (by omega)
      obtain ⟨hn0, hn1⟩ := hn
      have X0 : p ≤ p + 4 * n ∧ p + 4 * n + 4 ≤ p + 4 * q := by omega
      have HXM := Lib.hid (show n ≠ m → ∀ j k : Nat, j < 4 → k < 4 → p + 4 * n + (j : Int) ≠ p + 4 * m + (k : Int) from fun hne j k hj hk e => by omega)
      obtain ⟨f8, hf8⟩ : ∃ f8, Hid (Four w9 g8 (p + 4 * n) 4) ∧ f8 = True := by
        rcases M8.out with ⟨e, _⟩ | ⟨_, g, e, f⟩
        · cases e
        · injection e with e
          injection e with e
          subst e
          exact ⟨True, f, rfl⟩
      generalize p + 4 * n = X at *
      generalize p + 4 * m = Y at *
      obtain ⟨X0, X1⟩ := X0
      have F8 := hf8.1
      clear hf8 f8 D8 E8 M8
      have S9 := Lib.hid (show St w b g8 p q X Y A9 l9 w9 from ⟨B9.out, F8.out, N9.out, c90, c91⟩)
      have L9 : l9 ≤ 4 := N9.out.le
      clear c90 c91 F8 N9 B9
      have hX2 : X ≤ 10000 := by omega
      have hX3 : 0 ≤ X := by omega
      go_wp2
      go_loopw [10, 11] (fun i _ wr => St w b g8 p q X Y A9 l9 wr ∧ ∃ j : Nat, j ≤ 4 ∧ i = .int .i64 (j : Int)) (fun i _ _ => 4 - (RowKit.intOf i).toNat)
      case atStart => exact ⟨S9.out, 0, by omega, rfl⟩
      case round =>
        obtain ⟨st, j, hj, rfl⟩ := hrel
        have z0 := st.c0
        have z1 := st.c1
        have SR := Lib.hid st
        clear st
        by_cases hlt : j < 4
        · match j, hlt with
          | 0, _ =>
            have y0 : wr.cell? ⟨g8, 0, none⟩ = some (.int .i64 (X)) := (SR.out.f8.cell 0).trans (by simp [four])
            have d1 : decide (X < p) = false := by simp; omega
            have d2 : decide (p + 4 * q ≤ X) = false := by simp; omega
            go_wp2
            go_quiet (fail)
            clear d1 d2
            go_wp2
            go_loopw [11] (fun k wr' => St w b g8 p q X Y A9 l9 wr' ∧ ∃ kk : Nat, kk ≤ l9 ∧ k = .int .i64 (kk : Int)) (fun k _ => l9 - (RowKit.intOf k).toNat)
            case atStart => exact ⟨SR.out.drewN _, 0, by omega, rfl⟩
            case round =>
              obtain ⟨st, kk, hkk, rfl⟩ := hrel
              have SQ := Lib.hid st
              clear st
              by_cases hk : kk < l9
              · by_cases hnm : n = m
                · have hk' : (kk : Int) < (l9 : Int) := by omega
                  have e1 : (n != m) = false := by simp [hnm]
                  clear hnm
                  go_wp2
                  go_roundw
                  case rel => exact ⟨SQ.out, 1, by omega, by go_num⟩
                  case measure => simp [RowKit.intOf]; try omega
                · have hk' : (kk : Int) < (l9 : Int) := by omega
                  have e1 : (n != m) = true := by simp [hnm]
                  obtain ⟨g9, rfl, y9⟩ := SQ.out.n9.at_ hk
                  have e2 : ((Y + (kk : Int)) == (X)) = false := by have := HXM.out hnm 0 kk (by omega) (by omega); rw [beq_eq_false_iff_ne]; omega
                  have y8 : wr.cell? ⟨g8, 0, none⟩ = some (.int .i64 (X)) := (SQ.out.f8.cell 0).trans (by simp [four])
                  clear hnm
                  go_wp2
                  go_quiet (fail)
                  go_wp2
                  go_roundw
                  case rel => exact ⟨SQ.out.drewN _, kk + 1, by omega, by go_num⟩
                  case measure => simp [RowKit.intOf]; try omega
              · obtain rfl : kk = l9 := by omega
                go_wp2
                go_roundw
                case rel => exact ⟨SQ.out, 1, by omega, by go_num⟩
                case measure => simp [RowKit.intOf]; try omega
          | 1, _ =>
            have y0 : wr.cell? ⟨g8, 1, none⟩ = some (.int .i64 (X + 1)) := (SR.out.f8.cell 1).trans (by simp [four])
            have y1 : wr.cell? ⟨g8, 0, none⟩ = some (.int .i64 (X)) := (SR.out.f8.cell 0).trans (by simp [four])
            have d1 : decide (X + 1 < p) = false := by simp; omega
            have d2 : decide (p + 4 * q ≤ X + 1) = false := by simp; omega
            have d3 : ((X + 1) != (X + 1)) = false := by simp; try omega
            go_wp2
            go_quiet (fail)
            clear d1 d2 d3 y1
            go_wp2
            go_loopw [11] (fun k wr' => St w b g8 p q X Y A9 l9 wr' ∧ ∃ kk : Nat, kk ≤ l9 ∧ k = .int .i64 (kk : Int)) (fun k _ => l9 - (RowKit.intOf k).toNat)
            case atStart => exact ⟨SR.out.drewN _, 0, by omega, rfl⟩
            case round =>
              obtain ⟨st, kk, hkk, rfl⟩ := hrel
              have SQ := Lib.hid st
              clear st
              by_cases hk : kk < l9
              · by_cases hnm : n = m
                · have hk' : (kk : Int) < (l9 : Int) := by omega
                  have e1 : (n != m) = false := by simp [hnm]
                  clear hnm
                  go_wp2
                  go_roundw
                  case rel => exact ⟨SQ.out, 2, by omega, by go_num⟩
                  case measure => simp [RowKit.intOf]; try omega
                · have hk' : (kk : Int) < (l9 : Int) := by omega
                  have e1 : (n != m) = true := by simp [hnm]
                  obtain ⟨g9, rfl, y9⟩ := SQ.out.n9.at_ hk
                  have e2 : ((Y + (kk : Int)) == (X + 1)) = false := by have := HXM.out hnm 1 kk (by omega) (by omega); rw [beq_eq_false_iff_ne]; omega
                  have y8 : wr.cell? ⟨g8, 1, none⟩ = some (.int .i64 (X + 1)) := (SQ.out.f8.cell 1).trans (by simp [four])
                  clear hnm
                  go_wp2
                  go_quiet (fail)
                  go_wp2
                  go_roundw
                  case rel => exact ⟨SQ.out.drewN _, kk + 1, by omega, by go_num⟩
                  case measure => simp [RowKit.intOf]; try omega
              · obtain rfl : kk = l9 := by omega
                go_wp2
                go_roundw
                case rel => exact ⟨SQ.out, 2, by omega, by go_num⟩
                case measure => simp [RowKit.intOf]; try omega
          | 2, _ =>
            have y0 : wr.cell? ⟨g8, 2, none⟩ = some (.int .i64 (X + 2)) := (SR.out.f8.cell 2).trans (by simp [four])
            have y1 : wr.cell? ⟨g8, 1, none⟩ = some (.int .i64 (X + 1)) := (SR.out.f8.cell 1).trans (by simp [four])
            have d1 : decide (X + 2 < p) = false := by simp; omega
            have d2 : decide (p + 4 * q ≤ X + 2) = false := by simp; omega
            have d3 : ((X + 2) != (X + 1 + 1)) = false := by simp; try omega
            go_wp2
            go_quiet (fail)
            clear d1 d2 d3 y1
            go_wp2
            go_loopw [11] (fun k wr' => St w b g8 p q X Y A9 l9 wr' ∧ ∃ kk : Nat, kk ≤ l9 ∧ k = .int .i64 (kk : Int)) (fun k _ => l9 - (RowKit.intOf k).toNat)
            case atStart => exact ⟨SR.out.drewN _, 0, by omega, rfl⟩
            case round =>
              obtain ⟨st, kk, hkk, rfl⟩ := hrel
              have SQ := Lib.hid st
              clear st
              by_cases hk : kk < l9
              · by_cases hnm : n = m
                · have hk' : (kk : Int) < (l9 : Int) := by omega
                  have e1 : (n != m) = false := by simp [hnm]
                  clear hnm
                  go_wp2
                  go_roundw
                  case rel => exact ⟨SQ.out, 3, by omega, by go_num⟩
                  case measure => simp [RowKit.intOf]; try omega
                · have hk' : (kk : Int) < (l9 : Int) := by omega
                  have e1 : (n != m) = true := by simp [hnm]
                  obtain ⟨g9, rfl, y9⟩ := SQ.out.n9.at_ hk
                  have e2 : ((Y + (kk : Int)) == (X + 2)) = false := by have := HXM.out hnm 2 kk (by omega) (by omega); rw [beq_eq_false_iff_ne]; omega
                  have y8 : wr.cell? ⟨g8, 2, none⟩ = some (.int .i64 (X + 2)) := (SQ.out.f8.cell 2).trans (by simp [four])
                  clear hnm
                  go_wp2
                  go_quiet (fail)
                  go_wp2
                  go_roundw
                  case rel => exact ⟨SQ.out.drewN _, kk + 1, by omega, by go_num⟩
                  case measure => simp [RowKit.intOf]; try omega
              · obtain rfl : kk = l9 := by omega
                go_wp2
                go_roundw
                case rel => exact ⟨SQ.out, 3, by omega, by go_num⟩
                case measure => simp [RowKit.intOf]; try omega
          | 3, _ =>
            have y0 : wr.cell? ⟨g8, 3, none⟩ = some (.int .i64 (X + 3)) := (SR.out.f8.cell 3).trans (by simp [four])
            have y1 : wr.cell? ⟨g8, 2, none⟩ = some (.int .i64 (X + 2)) := (SR.out.f8.cell 2).trans (by simp [four])
            have d1 : decide (X + 3 < p) = false := by simp; omega
            have d2 : decide (p + 4 * q ≤ X + 3) = false := by simp; omega
            have d3 : ((X + 3) != (X + 2 + 1)) = false := by simp; try omega
            go_wp2
            go_quiet (fail)
            clear d1 d2 d3 y1
            go_wp2
            go_loopw [11] (fun k wr' => St w b g8 p q X Y A9 l9 wr' ∧ ∃ kk : Nat, kk ≤ l9 ∧ k = .int .i64 (kk : Int)) (fun k _ => l9 - (RowKit.intOf k).toNat)
            case atStart => exact ⟨SR.out.drewN _, 0, by omega, rfl⟩
            case round =>
              obtain ⟨st, kk, hkk, rfl⟩ := hrel
              have SQ := Lib.hid st
              clear st
              by_cases hk : kk < l9
              · by_cases hnm : n = m
                · have hk' : (kk : Int) < (l9 : Int) := by omega
                  have e1 : (n != m) = false := by simp [hnm]
                  clear hnm
                  go_wp2
                  go_roundw
                  case rel => exact ⟨SQ.out, 4, by omega, by go_num⟩
                  case measure => simp [RowKit.intOf]; try omega
                · have hk' : (kk : Int) < (l9 : Int) := by omega
                  have e1 : (n != m) = true := by simp [hnm]
                  obtain ⟨g9, rfl, y9⟩ := SQ.out.n9.at_ hk
                  have e2 : ((Y + (kk : Int)) == (X + 3)) = false := by have := HXM.out hnm 3 kk (by omega) (by omega); rw [beq_eq_false_iff_ne]; omega
                  have y8 : wr.cell? ⟨g8, 3, none⟩ = some (.int .i64 (X + 3)) := (SQ.out.f8.cell 3).trans (by simp [four])
                  clear hnm
                  go_wp2
                  go_quiet (fail)
                  go_wp2
                  go_roundw
                  case rel => exact ⟨SQ.out.drewN _, kk + 1, by omega, by go_num⟩
                  case measure => simp [RowKit.intOf]; try omega
              · obtain rfl : kk = l9 := by omega
                go_wp2
                go_roundw
                case rel => exact ⟨SQ.out, 4, by omega, by go_num⟩
                case measure => simp [RowKit.intOf]; try omega
        · obtain rfl : j = 4 := by omega
          go_wp2_with (go_at_call 24; refine (awake4_any _).mono ?_; rintro e w10 ⟨rfl, b10⟩; have B10 := Lib.hid (SR.out.bel.trans (b10.mono SR.out.bel.size)); clear b10)
          go_ret
          exact ⟨rfl, B10.out⟩
    · obtain ⟨rfl, rfl⟩ : l8 = 0 ∧ A8 = none := by
        rcases M8.out with h | ⟨h, _⟩
        · exact h
        · exact absurd (D8.out.1 h) hn
      by_cases hn0 : 0 ≤ n
      · have hn1 : decide (n < q) = false := by simp; omega
        clear hn
        go_wp2
        go_loopw [10, 11] (fun i _ wr => Below w.heap.size w wr ∧ i = .int .i64 0) (fun _ _ _ => 0)
        case atStart => exact ⟨B9.out, rfl⟩
        case round =>
          obtain ⟨bel, rfl⟩ := hrel
          have BE := Lib.hid bel
          clear bel
          go_wp2_with (go_at_call 24; refine (awake4_any _).mono ?_; rintro e w10 ⟨rfl, b10⟩; have B10 := Lib.hid (BE.out.trans (b10.mono BE.out.size)); clear b10)
          go_ret
          exact ⟨rfl, B10.out⟩
      · have hn1 : decide (0 ≤ n) = false := by simp; omega
        clear hn hn0
        go_wp2
        go_loopw [10, 11] (fun i _ wr => Below w.heap.size w wr ∧ i = .int .i64 0) (fun _ _ _ => 0)
        case atStart => exact ⟨B9.out, rfl⟩
        case round =>
          obtain ⟨bel, rfl⟩ := hrel
          have BE := Lib.hid bel
          clear bel
          go_wp2_with (go_at_call 24; refine (awake4_any _).mono ?_; rintro e w10 ⟨rfl, b10⟩; have B10 := Lib.hid (BE.out.trans (b10.mono BE.out.size)); clear b10)
          go_ret
          exact ⟨rfl, B10.out⟩
end Go.Proofs.Ytgnoodafaofkiaa.blocksApart
