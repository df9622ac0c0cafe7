/- The package blocks: Write. -/
import Derived.Test.YtidnpokjaklfpaaBlB
import Derived.Test.YtidnpokjaklfpaaCrC
import Derived.Test.YtidnpokjaklfpaaScU
namespace Go.Proofs.Ytidnpokjaklfpaa
open Go.RowKit
set_option linter.unusedVariables false
/-- A sector's part of a block. -/
def part (b : List UInt8) (k : Nat) : List UInt8 := (b.drop (k * 256)).take 256
theorem part_len {b : List UInt8} {k : Nat} (hb : b.length = 1024) (hk : k < 4) : (part b k).length = 256 := by
  unfold part
  rw [List.length_take, List.length_drop, hb]
  omega
/-- The first k sectors of a block are written, up to the first error. -/
def Dk.bw (s : Dk) (x : Int) (b : List UInt8) : Nat → Dk × Nat
  | 0 => (s, 0)
  | k + 1 => if (s.bw x b k).2 = 0 then ((s.bw x b k).1.write (x + k) (part b k), (s.bw x b k).1.writeErr (x + k) (part b k)) else s.bw x b k
theorem Dk.bw_stop {s : Dk} {x : Int} {b : List UInt8} {k : Nat} (h : (s.bw x b k).2 ≠ 0) : ∀ j, k ≤ j → s.bw x b j = s.bw x b k := by
  intro j hj
  induction j with
  | zero => obtain rfl : k = 0 := by omega
            rfl
  | succ j ih =>
    by_cases e : k = j + 1
    · subst e; rfl
    · have ih := ih (by omega)
      show (if (s.bw x b j).2 = 0 then _ else s.bw x b j) = _
      rw [ih, if_neg h]
def Dk.bwrite (s : Dk) (a : Ar) (n : Int) (l : List UInt8) : Dk × Nat :=
  if a.fault s.rows.length n ≠ 0 then (s, a.fault s.rows.length n) else if 1016 < l.length then (s, 5) else s.bw (a.first + 4 * n) (sealL l 1024) 4
theorem Dk.call_calls (s : Dk) (upd : Dk → Dk) (h : ∀ t : Dk, (upd t).calls = t.calls) : (s.call upd).calls ≤ s.calls + 1 := by
  unfold Dk.call
  repeat (first | split | simp [h])
theorem Dk.write_calls (s : Dk) (n : Int) (l : List UInt8) : (s.write n l).calls ≤ s.calls + 1 := by
  unfold Dk.write
  split
  · omega
  · exact Dk.call_calls _ _ fun t => rfl
theorem Dk.bw_calls (s : Dk) (x : Int) (b : List UInt8) : ∀ k, (s.bw x b k).1.calls ≤ s.calls + k
  | 0 => Nat.le_refl _
  | k + 1 => by
    have ih := Dk.bw_calls s x b k
    unfold Dk.bw
    split
    · have := Dk.write_calls (s.bw x b k).1 (x + k) (part b k)
      show ((s.bw x b k).1.write _ _).calls ≤ _
      omega
    · omega
/-- Between two sectors that are written. -/
def BwRel (base : Nat) (F : Ft) (s : Dk) (w : World) (g g2 : Nat) (x : Int) (B : List UInt8) (i : Value) (wr : World) : Prop :=
  ∃ k : Nat, k ≤ 4 ∧ i = .int .i64 (k : Int) ∧ (s.bw x B k).2 = 0 ∧ DkAt base F wr (s.bw x B k).1 ∧ Four wr g2 x 4 ∧ RB wr (some ⟨g, 0, none⟩) B ∧ Frm F.has w wr
theorem part_rb {w : World} {g : Nat} {B : List UInt8} (h : RB w (some ⟨g, 0, none⟩) B) (k : Nat) : RB w (some ⟨g, k * 256, none⟩) (part B k) := by
  have := (h.drop (k * 256)).take 256
  have e : (⟨g, 0, none⟩ : Addr).add (k * 256) = ⟨g, k * 256, none⟩ := by cases k <;> simp [Addr.add]
  rw [e] at this
  exact this
set_option maxHeartbeats 2000000 in
set_option maxRecDepth 100000 in
theorem bwrite_any {base : Nat} {F : Ft} {w : World} {s : Dk} (h : DkAt base F w s) (hcalls : s.calls < 4611686018427387900) (a : Ar) (n : Int) (A : Option Addr) (m c : Nat) (l : List UInt8) (hl : l.length = m) (hm : m ≤ 1099511627776) (hr : RB w A l) :
    Calls Try.prog 35 #[.pointer (some ⟨F.b, 0, none⟩), a.v, .int .i64 n, .slice A m c] w fun e w' => e = .returned (.int .i64 ((s.bwrite a n l).2 : Int)) ∧ DkAt base F w' (s.bwrite a n l).1 ∧ Frm F.has w w' := by
  have K1 := Lib.hid (fun W (hb : Below w.heap.size w W) => bfault_any (h.below hb) a n)
  have HZ := Lib.hid (show ∀ f, f = a.fault s.rows.length n → f ≠ 0 → s.bwrite a n l = (s, f) from fun f hf h0 => by subst hf; exact if_pos h0)
  have HB := Lib.hid (show a.fault s.rows.length n = 0 → 1016 < l.length → s.bwrite a n l = (s, 5) from fun h0 h1 => (if_neg (by simp [h0])).trans (if_pos h1))
  have HS := Lib.hid (show a.fault s.rows.length n = 0 → ¬ 1016 < l.length → s.bwrite a n l = s.bw (a.first + 4 * n) (sealL l 1024) 4 from fun h0 h1 => (if_neg (by simp [h0])).trans (if_neg h1))
  have KN := Lib.hid (fun W (h1 : a.may = true) (h2 : a.has n = true) => sectors_some a n W h1 h2)
  have HF := Lib.hid (show a.fault s.rows.length n = 0 → a.may = true ∧ a.has n = true from fun h0 => by
    unfold Ar.fault at h0
    split at h0
    · rename_i h1
      unfold Ar.check at h1
      split at h1
      · rename_i h2
        split at h0
        · rename_i h3
          exact ⟨h2.1, h3⟩
        · cases h0
      · cases h1
    · cases h0)
  have D0 := Lib.hid h
  have R0 := Lib.hid hr
  have L0 := Lib.hid hl
  have inn := Lib.hid h.inside
  obtain ⟨p, q⟩ := a
  have K1 : Hid (∀ W, Below w.heap.size w W → Calls Try.prog 56 #[.pointer (some ⟨F.b, 0, none⟩), .agg #[.int .i64 p, .int .i64 q], .int .i64 n] W fun e w' => e = .returned (.int .i64 (Ar.fault ⟨p, q⟩ s.rows.length n : Int)) ∧ Below W.heap.size W w') := K1
  show Calls Try.prog 35 #[.pointer (some ⟨F.b, 0, none⟩), .agg #[.int .i64 p, .int .i64 q], .int .i64 n, .slice A m c] w _
  have KN : Hid (∀ W, Ar.may ⟨p, q⟩ = true → Ar.has ⟨p, q⟩ n = true → Calls Try.prog 31 #[.agg #[.int .i64 p, .int .i64 q], .int .i64 n] W fun e w' => ∃ g, e = .returned (.slice (some ⟨g, 0, none⟩) 4 4) ∧ W.heap.size < g ∧ Four w' g (p + 4 * n) 4 ∧ Below W.heap.size W w') := KN
  have HS : Hid (Ar.fault ⟨p, q⟩ s.rows.length n = 0 → ¬ 1016 < l.length → s.bwrite ⟨p, q⟩ n l = s.bw (p + 4 * n) (sealL l 1024) 4) := HS
  have B0 := Lib.hid ((Below.refl _ w).alloc (Nat.le_refl _) (.cells #[.int .i64 p, .int .i64 q] 53))
  have hz := heap_size_alloc w (.cells #[.int .i64 p, .int .i64 q] 53)
  generalize s.bwrite ⟨p, q⟩ n l = R at *
  generalize Ar.fault ⟨p, q⟩ s.rows.length n = f at *
  clear h hr hl
  by_cases hf : f = 0
  · subst hf
    have HM := Lib.hid (HF.out rfl)
    have HR2 := Lib.hid (show (1016 < m → R = (s, 5)) ∧ (¬ 1016 < m → R = s.bw (p + 4 * n) (sealL l 1024) 4) from ⟨fun h => HB.out rfl (by rw [L0.out]; exact h), fun h => HS.out rfl (by rw [L0.out]; exact h)⟩)
    clear HF HB HS HZ
    go_enter Try.func35, Try.ntmps35
    go_wp2_with fail
    refine (K1.out _ B0.out).mono ?_
    rintro e w1 ⟨rfl, b1⟩
    have B1 := Lib.hid (B0.out.trans (b1.mono (by omega)))
    have hh : w1.heap[w.heap.size]? = some (.cells #[.int .i64 p, .int .i64 q] 53 (0, 0)) := (b1.block _ (by omega)).trans (heap_alloc_last w _)
    have HH := Lib.hid hh
    have hs1 := (Array.getElem?_eq_some_iff.1 hh).1
    clear b1 hh K1
    by_cases hbig : 1016 < m
    · have KB := Lib.hid (seal_big A m c 1024 w1 (by omega) (by omega) (by omega))
      go_wp2_with fail
      refine KB.out.mono ?_
      rintro e w2 ⟨rfl, rfl⟩
      go_wp2
      go_ret
      rw [HR2.out.1 hbig]
      exact ⟨rfl, D0.out.below B1.out, Frm.of_below B1.out⟩
    · have KB := Lib.hid (seal_ok A m c 1024 l w1 L0.out (by omega) (by omega) (R0.out.below B1.out))
      go_wp2_with fail
      refine KB.out.mono ?_
      rintro e w2 ⟨v2, rfl, o2, b2⟩
      have HR := Lib.hid (HR2.out.2 hbig)
      have HL2 := Lib.hid (seal_len l 1024 (by rw [L0.out]; omega))
      generalize sealL l 1024 = B at *
      obtain ⟨g, c2, rfl, hg, hc2⟩ : ∃ g c2, v2 = .slice (some ⟨g, 0, none⟩) 1024 c2 ∧ w1.heap.size ≤ g ∧ 1024 ≤ c2 := by
        rcases o2.2 with ⟨e, h0⟩ | ⟨g, cap, cur, e, hb, hh, hc, _⟩
        · rw [HL2.out] at h0; cases h0
        · exact ⟨g, cap, by rw [e, HL2.out], hb, by rw [HL2.out] at hc; exact hc⟩
      have r2 := Lib.hid o2.reads
      have B2 := Lib.hid (B1.out.trans (b2.mono B1.out.size))
      have HH2 := Lib.hid ((b2.block _ hs1).trans HH.out)
      have x0 : w2.cell? ⟨w.heap.size, 0, none⟩ = some (.int .i64 p) := (cell_of_row w2 _ 0 _ _ _ HH2.out).trans rfl
      have x1 : w2.cell? ⟨w.heap.size, 1, none⟩ = some (.int .i64 q) := (cell_of_row w2 _ 1 _ _ _ HH2.out).trans rfl
      clear o2 b2 KB HR2
      go_wp2_with fail
      refine (KN.out _ HM.out.1 HM.out.2).mono ?_
      rintro e w3 ⟨g2, rfl, hg2, f3, b3⟩
      have B3 := Lib.hid (B2.out.trans (b3.mono B2.out.size))
      have r3 := r2.out.below b3
      have ST : Hid (BwRel base F s w g g2 (p + 4 * n) B (.int .i64 ((0 : Nat) : Int)) w3) := Lib.hid ⟨0, by omega, rfl, rfl, D0.out.below B3.out, f3, r3, Frm.of_below B3.out⟩
      have gg := Lib.hid (show ¬ F.has g ∧ ¬ F.has g2 from ⟨fun hx => by have := inn.out g hx; omega, fun hx => by have := inn.out g2 hx; have := B2.out.size; omega⟩)
      clear r3 f3 b3 x0 x1 KN HM HH HH2 hg2
      generalize p + 4 * n = x at *
      go_wp2
      go_loopw [12, 13, 14, 15, 35] (fun _ _ _ _ i wr => BwRel base F s w g g2 x B i wr) (fun _ _ _ _ i _ => 4 - (RowKit.intOf i).toNat)
      case atStart => exact ST.out
      case round =>
        obtain ⟨k, hk, rfl, he, hd, hf4, hrb, hfr⟩ := hrel
        have HE := Lib.hid he
        have HFR := Lib.hid hfr
        have HFF := Lib.hid hf4
        have HRB := Lib.hid hrb
        by_cases hlt : k < 4
        · have k0 : (k : Int) < 4 := by omega
          have y0 : wr.cell? ⟨g2, k, none⟩ = some (.int .i64 (x + k)) := by
            rw [hf4.cell k]
            match k, hlt with
            | 0, _ => simp [four]
            | 1, _ => simp [four]
            | 2, _ => simp [four]
            | 3, _ => simp [four]
          have KW := Lib.hid (write_any hd (by have := Dk.bw_calls s x B k; omega) (x + k) (some ⟨g, k * 256, none⟩) 256 (c2 - k * 256) (part B k) (part_len HL2.out hlt) (part_rb hrb k) (fun ad e => by injection e with e; subst e; exact gg.out.1))
          clear he hd hf4 hrb hfr
          go_wp2_with fail
          refine KW.out.mono ?_
          rintro e w4 ⟨rfl, d4, fr4⟩
          have HN := Lib.hid (show s.bw x B (k + 1) = ((s.bw x B k).1.write (x + k) (part B k), (s.bw x B k).1.writeErr (x + k) (part B k)) from if_pos HE.out)
          have FR4 := Lib.hid (HFR.out.trans fr4)
          have F4 := Lib.hid (show Four w4 g2 x 4 from (fr4.block g2 (Array.getElem?_eq_some_iff.1 HFF.out).1 gg.out.2).trans HFF.out)
          have R4 := Lib.hid (fr4.rb HRB.out gg.out.1)
          have D4 := Lib.hid d4
          clear d4 fr4 KW
          by_cases h0 : (s.bw x B k).1.writeErr (x + k) (part B k) = 0
          · have H0 := Lib.hid h0
            rw [h0]
            clear h0
            generalize (s.bw x B k).1.write (x + k) (part B k) = t at *
            go_wp2
            go_roundw
            case rel => exact ⟨k + 1, by omega, by go_num, by rw [HN.out]; exact H0.out, by rw [HN.out]; exact D4.out, F4.out, R4.out, FR4.out⟩
            case measure => simp [RowKit.intOf]; omega
          · have hst := Lib.hid (Dk.bw_stop (s := s) (x := x) (b := B) (k := k + 1) (by rw [HN.out]; exact h0) 4 (by omega))
            have hb : ((((s.bw x B k).1.writeErr (x + k) (part B k) : Nat) : Int) != 0) = true := by rw [bne_iff_ne]; omega
            generalize (s.bw x B k).1.writeErr (x + k) (part B k) = er at *
            generalize (s.bw x B k).1.write (x + k) (part B k) = t at *
            clear h0
            go_wp2
            go_ret
            rw [HR.out, hst.out, HN.out]
            exact ⟨rfl, D4.out, FR4.out⟩
        · obtain rfl : k = 4 := by omega
          have D4 := Lib.hid hd
          clear he hd hf4 hrb hfr
          go_wp2
          go_ret
          rw [HR.out, HE.out]
          exact ⟨rfl, D4.out, HFR.out⟩
  · have HR := Lib.hid (HZ.out f rfl hf)
    have hb : ((f : Int) != 0) = true := by rw [bne_iff_ne]; omega
    clear HB HS HZ HF KN hf
    go_enter Try.func35, Try.ntmps35
    go_wp2_with fail
    refine (K1.out _ B0.out).mono ?_
    rintro e w1 ⟨rfl, b1⟩
    have B1 := Lib.hid (B0.out.trans (b1.mono (by omega)))
    clear b1 K1
    go_wp2
    go_ret
    rw [HR.out]
    exact ⟨rfl, D0.out.below B1.out, Frm.of_below B1.out⟩
end Go.Proofs.Ytidnpokjaklfpaa
