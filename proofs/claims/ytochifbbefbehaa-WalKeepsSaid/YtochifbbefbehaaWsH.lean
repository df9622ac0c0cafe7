/- Records in sectors: a log is read. -/
import Derived.Test.YtochifbbefbehaaWsG
namespace Go.Proofs.Ytochifbbefbehaa
open Go.RowKit
set_option linter.unusedVariables false
set_option linter.unusedSimpArgs false
theorem rdP_len {b : List UInt8} {e a : Int} {L : List (List UInt8)} (h : rdP b e a = some L) : L.length ≤ 239 := Nat.le_trans (wsSize_len L) (rdP_is h).2.2.2.2.2.1
/-- A log is read up to the k-th sector: M, and what is still to come. -/
def ScanAt (e : Int) (L M : List (List UInt8)) (k : Nat) : Prop := (scanK e 0 L).1 = M ++ (scanK e k (L.drop k)).1 ∧ (scanK e 0 L).2 = k + (scanK e k (L.drop k)).2 ∧ M.length ≤ 239 * k
theorem ScanAt.start (e : Int) (L : List (List UInt8)) : ScanAt e L [] 0 := ⟨by simp, by simp, by simp⟩
theorem ScanAt.more {e : Int} {L M N : List (List UInt8)} {k : Nat} {b : List UInt8} (h : ScanAt e L M k) (hb : L[k]? = some b) (hr : rdP b e (k : Int) = some N) : ScanAt e L (M ++ N) (k + 1) := by
  obtain ⟨h1, h2, h3⟩ := h
  rw [drop_cons hb, scanK_some hr] at h1 h2
  refine ⟨by rw [h1]; simp, by rw [h2]; simp; omega, ?_⟩
  have := rdP_len hr
  simp
  omega
theorem ScanAt.stop {e : Int} {L M : List (List UInt8)} {k : Nat} {b : List UInt8} (h : ScanAt e L M k) (hb : L[k]? = some b) (hr : rdP b e (k : Int) = none) : (scanK e 0 L).1 = M ∧ (scanK e 0 L).2 = k := by
  obtain ⟨h1, h2, h3⟩ := h
  rw [drop_cons hb, scanK_none hr] at h1 h2
  exact ⟨by simpa using h1, by simpa using h2⟩
theorem ScanAt.end {e : Int} {L M : List (List UInt8)} {k : Nat} (h : ScanAt e L M k) (hk : k = L.length) : (scanK e 0 L).1 = M ∧ (scanK e 0 L).2 = k := by
  obtain ⟨h1, h2, h3⟩ := h
  rw [hk, List.drop_of_length_le (Nat.le_refl _)] at h1 h2
  exact ⟨by simpa [scanK] using h1, by rw [hk]; simpa [scanK] using h2⟩
/-- What Scan tells. -/
def ScanPost (w : World) (L : List (List UInt8)) (e : Int) (x : Ending) (w' : World) : Prop := ∃ v, x = .returned (.tuple #[v, .int .i64 ((scanK e 0 L).2 : Int)]) ∧ OS w.heap.size w' v (scanK e 0 L).1 ∧ Below w.heap.size w w'
set_option maxHeartbeats 2000000 in
set_option maxRecDepth 100000 in
theorem scan_any (A : Option Addr) (n c : Nat) (L : List (List UInt8)) (e : Int) (w : World) (hl : L.length = n) (hn : n ≤ 1000) (hr : RBS w A L) :
    Calls Try.prog 34 #[.slice A n c, .int .i64 e] w (ScanPost w L e) := by
  have HL := Lib.hid hl
  have HR := Lib.hid hr
  clear hl hr
  have ST : Hid (∃ (k : Nat) (M : List (List UInt8)), k ≤ n ∧ (Value.int .i64 0) = .int .i64 (k : Int) ∧ OS w.heap.size w (.slice none 0 0) M ∧ ScanAt e L M k ∧ Below w.heap.size w w) := Lib.hid ⟨0, [], Nat.zero_le _, rfl, OS.nil, ScanAt.start e L, Below.refl _ _⟩
  go_enter Try.func34, Try.ntmps34
  go_wp2
  go_loopw [6, 7, 8, 9, 10, 13] (fun v _ _ _ _ i wr => ∃ (k : Nat) (M : List (List UInt8)), k ≤ n ∧ i = .int .i64 (k : Int) ∧ OS w.heap.size wr v M ∧ ScanAt e L M k ∧ Below w.heap.size w wr) (fun _ _ _ _ _ i _ => n - (intOf i).toNat)
  case atStart => exact ST.out
  case round =>
    clear ST
    obtain ⟨k, M, hk, rfl, hO, hS, hB⟩ := hrel
    have HO := Lib.hid hO
    have HB := Lib.hid hB
    have HS := Lib.hid hS
    clear hO hB hS
    by_cases hlt : k < n
    · obtain ⟨b, hb⟩ : ∃ b, L[k]? = some b := ⟨L[k]'(by rw [HL.out]; exact hlt), List.getElem?_eq_getElem _⟩
      obtain ⟨ad, B, cb, rfl, hc, h1, h2, h3⟩ := HR.out.below HB.out k b hb
      have KR := Lib.hid (fun W (h : RB W B b) => wsRead_any B b.length cb b e (k : Int) W rfl h1 h2 h)
      have H3 := Lib.hid h3
      have Hb := Lib.hid hb
      have HM := Lib.hid (fun (N : List (List UInt8)) (h : rdP b e (k : Int) = some N) => HS.out.more hb h)
      have HE := Lib.hid (fun (h : rdP b e (k : Int) = none) => HS.out.stop hb h)
      have hMl := HS.out.2.2
      clear h3 hb h1 h2
      go_upto_region 6 with (first | (go_at_call 50; refine (KR.out _ H3.out).mono ?_; rintro x w1 ⟨v1, rfl, ho, hb1⟩))
      have HO1 := Lib.hid ho
      have HB1 := Lib.hid (HB.out.trans (hb1.mono HB.out.size))
      have HO2 := Lib.hid (HO.out.below hb1)
      clear ho hb1 HO HB
      cases hrd : rdP b e (k : Int) with
      | none =>
        have HE1 := Lib.hid (HE.out hrd)
        simp only [hrd, Option.isSome_none] at *
        go_wp2
        go_ret2
        obtain ⟨e1, e2⟩ := HE1.out
        exact ⟨_, by rw [e2]; rfl, by rw [e1]; exact HO2.out, HB1.out⟩
      | some N =>
        have HE1 := Lib.hid (HM.out N hrd)
        have hNl := rdP_len hrd
        simp only [hrd, Option.isSome_some, Option.getD_some] at *
        obtain ⟨A1, c1, rfl, hcc, hR1, _⟩ := HO1.out.form
        have HR1 := Lib.hid hR1
        clear hR1
        go_wp2_with (at_builtin; (refine wpList_append_S rfl (.tmp 29) (.tmp 30) rfl w.heap.size _ M rfl HO2.out A1 N.length c1 N rfl rfl HR1.out (by omega) HB1.out.size ?_; intro v3 w3 ho3 hb3 hg3))
        have HO3 := Lib.hid ho3
        have HB3 := Lib.hid (HB1.out.trans hb3)
        clear ho3 hb3 hg3
        go_roundw
        case rel => exact ⟨k + 1, M ++ N, by omega, by go_num, HO3.out, HE1.out, HB3.out⟩
        case measure => simp [intOf]; omega
    · obtain rfl : k = n := by omega
      have HE1 := Lib.hid (HS.out.end HL.out.symm)
      go_wp2
      go_ret2
      obtain ⟨e1, e2⟩ := HE1.out
      exact ⟨_, by rw [e2]; rfl, by rw [e1]; exact HO.out, HB.out⟩
end Go.Proofs.Ytochifbbefbehaa
