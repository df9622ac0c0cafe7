/- Joined: StH StI. -/
import Derived.Test.YtegjeijiekggdaaGreatDoorM33
import Derived.Test.YtegjeijiekggdaaGreatDoorM15
section
/- The package store: the store that a slot has. -/
namespace Go.Proofs.YtegjeijiekggdaaGreatDoor
open Go.RowKit
set_option linter.unusedVariables false
set_option linter.unusedSimpArgs false
theorem rd_suffix (l : List UInt8) (f : Nat) : (rdL l f).length ≤ l.length ∧ l.drop (l.length - (rdL l f).length) = rdL l f := by
  unfold rdL
  split
  · have := getSmall_use l
    refine ⟨by rw [List.length_drop]; omega, ?_⟩
    rw [List.length_drop, show l.length - (l.length - (getSmall l).2.1) = (getSmall l).2.1 by omega]
  · exact ⟨Nat.le_refl _, by rw [Nat.sub_self, List.drop_zero]⟩
theorem rd_suffix2 (b : List UInt8) : (rdL (rdL b 0) (rdF b 0)).length ≤ b.length ∧ b.drop (b.length - (rdL (rdL b 0) (rdF b 0)).length) = rdL (rdL b 0) (rdF b 0) := by
  obtain ⟨h1, h2⟩ := rd_suffix b 0
  obtain ⟨h3, h4⟩ := rd_suffix (rdL b 0) (rdF b 0)
  refine ⟨Nat.le_trans h3 h1, ?_⟩
  have e : b.drop (b.length - (rdL (rdL b 0) (rdF b 0)).length) = (b.drop (b.length - (rdL b 0).length)).drop ((rdL b 0).length - (rdL (rdL b 0) (rdF b 0)).length) := by
    rw [List.drop_drop]
    congr 1
    omega
  rw [e, h2, h4]
/-- What a slot has of a store, a step at a time. -/
theorem takeB_no1 {N place gen : Nat} {b : List UInt8} (h : areaP N (rdV b 0) = false) : takeB N place gen b = none := by
  unfold takeB; rw [if_neg (fun hh => by rw [h] at hh; exact absurd hh.1 (by simp))]
theorem takeB_no2 {N place gen : Nat} {b : List UInt8} (h : rdV (rdL b 0) (rdF b 0) ≠ cntP N (rdV b 0)) : takeB N place gen b = none := by
  unfold takeB; rw [if_neg (fun hh => h hh.2.1)]
theorem takeB_no3 {N place gen : Nat} {b : List UInt8} (h : (rdL (rdL b 0) (rdF b 0)).length < 8 * ((rdV (rdL b 0) (rdF b 0) + 63) / 64)) : takeB N place gen b = none := by
  unfold takeB; rw [if_neg (fun hh => by have := hh.2.2.1; omega)]
theorem takeB_no4 {N place gen : Nat} {b : List UInt8} (h : okB (rdV (rdL b 0) (rdF b 0) : Int) (unwords (rdL (rdL b 0) (rdF b 0)) ((rdV (rdL b 0) (rdF b 0) + 63) / 64)) = false) : takeB N place gen b = none := by
  unfold takeB; rw [if_neg (fun hh => by rw [h] at hh; exact absurd hh.2.2.2.1 (by simp))]
theorem takeB_no5 {N place gen : Nat} {b : List UInt8} (h : 700 < (rdL (rdL b 0) (rdF b 0)).length - 8 * ((rdV (rdL b 0) (rdF b 0) + 63) / 64)) : takeB N place gen b = none := by
  unfold takeB; rw [if_neg (fun hh => by have := hh.2.2.2.2; omega)]
theorem OB.cap_le {base : Nat} {w : World} {A : Option Addr} {n c : Nat} {l : List UInt8} (h : OB base w (.slice A n c) l) : c ≤ maxLen := by
  unfold OB at h
  rcases h.2 with ⟨e, h0⟩ | ⟨g, cap, cur, e, hb, hh, hc, hm, _⟩
  · injection e with e1 e2 e3
    subst e3
    simp [maxLen]
  · injection e with e1 e2 e3
    subst e3
    exact hm
/-- What get answers. -/
def GtPost (F : Ft) (w : World) (T : Option Sto) (e : Ending) (w' : World) : Prop :=
  (T = none → e = .returned (.pointer none)) ∧ (∀ t, T = some t → ∃ P, e = .returned (.pointer (some ⟨P.G, 0, none⟩)) ∧ StAt w.heap.size F w' P t) ∧ Below w.heap.size w w'
theorem GtPost.no {F : Ft} {w w' : World} (hb : Below w.heap.size w w') : GtPost F w none (.returned (.pointer none)) w' := ⟨fun _ => rfl, fun t e => (by cases e), hb⟩
set_option maxHeartbeats 2000000 in
set_option maxRecDepth 100000 in
theorem get_any' {base : Nat} {F : Ft} {w : World} {d : Dk} (h : DkAt base F w d) (place : Nat) (hp : place ≤ 1) (A : Option Addr) (c : Nat) (L : List (List UInt8)) (hl : L.length = 4) (hc4 : 4 ≤ c) (hc : c ≤ maxLen) (hr : RBS w A L) :
    Calls Tryz.prog 55 #[.pointer (some ⟨F.b, 0, none⟩), .int .i64 (place : Int), .slice A 4 c] w (GtPost F w (takeP d.rows.length place L)) := by
  have HD := Lib.hid h
  have HIN := Lib.hid (show ∀ k, F.has k → k < w.heap.size from h.inside)
  have KG := Lib.hid (slGet_any A 4 c L w hl hc4 hc hr)
  have HT : Hid (takeP d.rows.length place L = if slGetE L = 0 then takeB d.rows.length place (getG L) (getB L) else none) := rfl
  have HIV := Lib.hid (fun h0 => slGet_inv (L := L) h0)
  by_cases h0 : slGetE L = 0
  · obtain ⟨g1, g2, g3, g4⟩ := HIV.out h0
    unfold GetPost at KG
    rw [h0] at KG
    have HT2 := Lib.hid (show takeP d.rows.length place L = takeB d.rows.length place (getG L) (getB L) from HT.out.trans (if_pos h0))
    generalize getB L = b at *
    generalize getG L = gn at *
    clear HT h h0 hr g3 HIV
    go_enter Tryz.func55, Tryz.ntmps55
    go_wp2_with fail
    refine KG.out.mono ?_
    rintro e w1 ⟨v1, rfl, o1, b1⟩
    obtain ⟨A1, c1, rfl, hc1, r1⟩ := o1.form
    have o1cap := o1.cap_le
    have KO := Lib.hid (okNew_any A1 b.length c1 b w1 (by omega) rfl r1)
    have R1 := Lib.hid r1
    have HC1 := Lib.hid hc1
    have B1 := Lib.hid b1
    clear o1 b1 r1 hc1 KG
    go_wp2_with fail
    refine KO.out.mono ?_
    rintro e w2 ⟨q, rfl, rd2, hq, b2⟩
    have B2 := Lib.hid (B1.out.trans (b2.mono B1.out.size))
    have KS := Lib.hid (okSmall_any q 0 b w2 rd2 (by omega))
    have R2 := Lib.hid (R1.out.below b2)
    have hq2 := rd2.lt
    clear rd2 b2 KO
    go_wp2_with fail
    refine KS.out.mono ?_
    rintro e w3 ⟨rfl, rd3, ob3⟩
    have B3 := Lib.hid (B2.out.trans (ob3.below (by have := B1.out.size; omega)))
    have KS2 := Lib.hid (okSmall_any q (rdF b 0) (rdL b 0) w3 rd3 (by have := (rd_suffix b 0).1; omega))
    have R3 := Lib.hid (show RB w3 A1 b from by
      rcases R2.out with h | ⟨ad, e, hc⟩
      · exact .inl h
      · refine .inr ⟨ad, e, fun j x hx => ?_⟩
        have h1 := hc j x hx
        subst e
        have h2 : ad.block < w1.heap.size := by
          rcases R1.out with h | ⟨ad', e', hc'⟩
          · rw [h] at hx; simp at hx
          · injection e' with e'; subst e'; have := lt_of_cell (hc' j x hx); rwa [block_of_add] at this
        rw [World.cell?_of_block (ob3.block _ (by rw [block_of_add]; omega))]
        exact h1)
    clear rd3 KS
    go_wp2_with fail
    refine KS2.out.mono ?_
    rintro e w4 ⟨rfl, rd4, ob4⟩
    have B4 := Lib.hid (B3.out.trans (ob4.below (by have := B1.out.size; omega)))
    have R4 := Lib.hid (show RB w4 A1 b from by
      rcases R3.out with h | ⟨ad, e, hc⟩
      · exact .inl h
      · refine .inr ⟨ad, e, fun j x hx => ?_⟩
        have h1 := hc j x hx
        subst e
        have h2 : ad.block < w1.heap.size := by
          rcases R1.out with h | ⟨ad', e', hc'⟩
          · rw [h] at hx; simp at hx
          · injection e' with e'; subst e'; have := lt_of_cell (hc' j x hx); rwa [block_of_add] at this
        rw [World.cell?_of_block (ob4.block _ (by rw [block_of_add]; omega))]
        exact h1)
    have RD4 := Lib.hid rd4
    have hlog := rdV_le b 0
    have hcnt := rdV_le (rdL b 0) (rdF b 0)
    have hsuf := Lib.hid (rd_suffix2 b)
    have HN1 := Lib.hid (fun h => takeB_no1 (N := d.rows.length) (place := place) (gen := gn) (b := b) h)
    have HN2 := Lib.hid (fun h => takeB_no2 (N := d.rows.length) (place := place) (gen := gn) (b := b) h)
    have HN3 := Lib.hid (fun h => takeB_no3 (N := d.rows.length) (place := place) (gen := gn) (b := b) h)
    have HN4 := Lib.hid (fun h => takeB_no4 (N := d.rows.length) (place := place) (gen := gn) (b := b) h)
    have HN5 := Lib.hid (fun h => takeB_no5 (N := d.rows.length) (place := place) (gen := gn) (b := b) h)
    have HTB : Hid (takeB d.rows.length place gn b = if areaP d.rows.length (rdV b 0) = true ∧ rdV (rdL b 0) (rdF b 0) = cntP d.rows.length (rdV b 0) ∧
      8 * ((rdV (rdL b 0) (rdF b 0) + 63) / 64) ≤ (rdL (rdL b 0) (rdF b 0)).length ∧ okB (rdV (rdL b 0) (rdF b 0) : Int) (unwords (rdL (rdL b 0) (rdF b 0)) ((rdV (rdL b 0) (rdF b 0) + 63) / 64)) = true ∧
      (rdL (rdL b 0) (rdF b 0)).length - 8 * ((rdV (rdL b 0) (rdF b 0) + 63) / 64) ≤ 700
      then some ⟨rdV b 0, rdV (rdL b 0) (rdF b 0), place, gn, unwords (rdL (rdL b 0) (rdF b 0)) ((rdV (rdL b 0) (rdF b 0) + 63) / 64), (rdL (rdL b 0) (rdF b 0)).drop (8 * ((rdV (rdL b 0) (rdF b 0) + 63) / 64)), unwords (rdL (rdL b 0) (rdF b 0)) ((rdV (rdL b 0) (rdF b 0) + 63) / 64), false⟩ else none) := rfl
    have HD4 := Lib.hid (HD.out.below B4.out)
    generalize rdL (rdL b 0) (rdF b 0) = b2 at *
    generalize rdF (rdL b 0) (rdF b 0) = f2 at *
    generalize rdV (rdL b 0) (rdF b 0) = cnt at *
    generalize rdV b 0 = log at *
    clear rd4 KS2 ob3 ob4 hq2
    cases ha : areaP d.rows.length log with
    | false =>
      have KA := Lib.hid (areaOf_no HD4.out (log : Int) (.inr (by rw [Int.toNat_natCast]; exact ha)) (by omega) (by omega))
      have HFIN := Lib.hid (HN1.out ha)
      go_wp2_with fail
      refine KA.out.mono ?_
      rintro e w5 ⟨x, y, rfl, b5⟩
      have B5 := Lib.hid (B4.out.trans (b5.mono B4.out.size))
      clear b5 KA
      go_wp2
      go_ret
      rw [HT2.out, HFIN.out]
      exact GtPost.no (bAlloc' B5.out _)
    | true =>
      have KA := Lib.hid (areaOf_yes HD4.out log ha)
      obtain ⟨hq1, hq2, hq3, hq4⟩ := cntP_ge ha
      have HTA := Lib.hid ha
      generalize hcp : cntP d.rows.length log = cp at *
      go_wp2_with fail
      refine KA.out.mono ?_
      rintro e w5 ⟨rfl, b5⟩
      have B5 := Lib.hid (B4.out.trans (b5.mono B4.out.size))
      have R5 := Lib.hid (R4.out.below b5)
      have RD5 := Lib.hid (RD4.out.keep b5)
      have X5 := heap_alloc_last w5 (.cells #[.int .i64 (8 + (log : Int)), .int .i64 (cp : Int)] 105)
      have z5 := heap_size_alloc w5 (.cells #[.int .i64 (8 + (log : Int)), .int .i64 (cp : Int)] 105)
      have BA := Lib.hid ((Below.refl _ w5).alloc (Nat.le_refl _) (.cells #[.int .i64 (8 + (log : Int)), .int .i64 (cp : Int)] 105))
      have B6 := Lib.hid (bAlloc' B5.out (.cells #[.int .i64 (8 + (log : Int)), .int .i64 (cp : Int)] 105))
      have u0 : (w5.alloc (.cells #[.int .i64 (8 + (log : Int)), .int .i64 (cp : Int)] 105)).cell? ⟨w5.heap.size, 1, none⟩ = some (.int .i64 (cp : Int)) := (cell_of_row _ _ 1 _ _ _ X5).trans rfl
      have X5 := Lib.hid X5
      have R6 := Lib.hid (R5.out.below BA.out)
      have RD6 := Lib.hid (RD5.out.keep BA.out)
      clear b5 KA ha
      by_cases hcc : cnt = cp
      · subst hcc
        have hlo := hsuf.out.1
        obtain ⟨lo, hlo2⟩ : ∃ lo : Nat, lo = b.length - b2.length := ⟨_, rfl⟩
        have hlo3 : (b.length : Int) - (b2.length : Int) = (lo : Int) := by omega
        have hlo4 : lo ≤ b.length := by omega
        have HS2 := Lib.hid (show b.drop lo = b2 from by rw [hlo2]; exact hsuf.out.2)
        have HLL := Lib.hid (show b.length - lo = b2.length by omega)
        have KL := Lib.hid (left_any q f2 b2 _ RD6.out)
        have HPA := Lib.hid (fun (B' : Option Addr) W (h : Below w5.heap.size (w5.alloc (.cells #[.int .i64 (8 + (log : Int)), .int .i64 (cnt : Int)] 105)) W) hB => (R5.out.below (BA.out.trans h)).past rfl HC1.out (m := lo) hlo4 B' hB)
        clear hlo2
        have hcne : ((cnt : Int) != (cnt : Int)) = false := by simp
        have hc1n : b.length ≤ c1 := HC1.out
        obtain ⟨k, hk⟩ : ∃ k, k = (cnt + 63) / 64 := ⟨_, rfl⟩
        have KM := Lib.hid (fun B' c' (h1 : b2.length ≤ c') (h2 : c' ≤ maxLen) (h3 : RB (w5.alloc (.cells #[.int .i64 (8 + (log : Int)), .int .i64 (cnt : Int)] 105)) B' b2) => getMap_any cnt (by omega) B' b2.length c' b2 _ rfl (by omega) h1 h2 h3 k hk)
        have HC1m := Lib.hid (show c1 ≤ maxLen from o1cap)
        have HKK := Lib.hid hk
        have XA := Lib.hid (fun W (h : Below (w5.alloc (.cells #[.int .i64 (8 + (log : Int)), .int .i64 (cnt : Int)] 105)).heap.size (w5.alloc (.cells #[.int .i64 (8 + (log : Int)), .int .i64 (cnt : Int)] 105)) W) => (h.block w5.heap.size (by rw [z5]; omega)).trans X5.out)
        rw [← hk] at HN3 HN4 HN5 HTB
        clear hk
        by_cases hcl : c1 = lo
        · have hb20 : b2.length = 0 := by omega
          obtain rfl : b2 = [] := List.eq_nil_of_length_eq_zero hb20
          subst hcl
          simp only [List.length_nil] at KM HN3
          have hk1 := HKK.out
          have h0k : 0 < 8 * k := by omega
          have HFIN := Lib.hid (HN3.out h0k)
          go_wp2_with fail
          refine KL.out.mono ?_
          rintro e w6 ⟨rfl, rfl⟩
          go_wp2_with fail
          refine (KM.out A1 0 (Nat.le_refl _) (by simp [maxLen]) RB.nil).mono ?_
          rintro e w7 ⟨hno, _, b7⟩
          obtain rfl := hno h0k
          have B7 := Lib.hid (B6.out.trans (b7.mono B6.out.size))
          clear hno b7
          go_wp2
          go_ret
          rw [HT2.out, HFIN.out]
          exact GtPost.no (bAlloc' B7.out _)
        · have hpa := HPA.out _ _ (Below.refl _ _) (.inr rfl)
          rw [HS2.out] at hpa
          have HPA2 := Lib.hid hpa
          clear hpa
          go_wp2_with fail
          refine KL.out.mono ?_
          rintro e w6 ⟨rfl, rfl⟩
          go_wp2_with fail
          rw [HLL.out]
          refine (KM.out _ _ (by omega) (by have := HC1m.out; omega) HPA2.out).mono ?_
          rintro e w7 ⟨hno, hyes, b7⟩
          have B7 := Lib.hid (B6.out.trans (b7.mono B6.out.size))
          have XA7 := Lib.hid (XA.out w7 b7)
          by_cases hs : b2.length < 8 * k
          · obtain rfl := hno hs
            have HFIN := Lib.hid (HN3.out hs)
            clear hno hyes b7 hs
            go_wp2
            go_ret
            rw [HT2.out, HFIN.out]
            exact GtPost.no (bAlloc' B7.out _)
          · obtain ⟨v7, B7a, c7, rfl, o7, r7, hn7, hc7⟩ := hyes (by omega)
            obtain ⟨A7, cc7, rfl, hcc7, rq7⟩ := o7.form
            rw [unwords_len] at hcc7 ⊢
            have O7 := Lib.hid o7
            rw [unwords_len] at O7
            have R7 := Lib.hid r7
            cases hok : okB (cnt : Int) (unwords b2 k) with
            | false =>
              have HFIN := Lib.hid (HN4.out hok)
              clear hno hyes b7 o7 r7 rq7
              go_wp2
              go_ret
              rw [HT2.out, HFIN.out]
              exact GtPost.no (bAlloc' B7.out _)
            | true =>
              by_cases hbig : 700 < b2.length - 8 * k
              · have hd : decide ((700 : Int) < ((b2.length - 8 * k : Nat) : Int)) = true := decide_eq_true (by omega)
                have HFIN := Lib.hid (HN5.out hbig)
                clear hno hyes b7 o7 r7 rq7 hbig
                go_wp2
                go_ret
                rw [HT2.out, HFIN.out]
                exact GtPost.no (bAlloc' B7.out _)
              · have hd : decide ((700 : Int) < ((b2.length - 8 * k : Nat) : Int)) = false := decide_eq_false (by omega)
                have HFIN := Lib.hid (HTB.out.trans (if_pos ⟨HTA.out, by first | trivial | exact hcp.symm, by omega, hok, by omega⟩))
                have hkk : k ≤ 8 := by have := HKK.out; omega
                have hbl : (b2.drop (8 * k)).length = b2.length - 8 * k := by rw [List.length_drop]
                have HBL := Lib.hid hbl
                have X8 := heap_alloc_last w7 (.cells #[.int .i64 (cnt : Int), .slice A7 k cc7] 64)
                have z8 := heap_size_alloc w7 (.cells #[.int .i64 (cnt : Int), .slice A7 k cc7] 64)
                have hx5 := (Array.getElem?_eq_some_iff.1 XA7.out).1
                have B8 := Lib.hid ((Below.refl _ w7).alloc (Nat.le_refl _) (.cells #[.int .i64 (cnt : Int), .slice A7 k cc7] 64))
                have XA8 := Lib.hid ((B8.out.block _ hx5).trans XA7.out)
                have X8 := Lib.hid X8
                have CS := Lib.hid (fun (W : World) (h1 : W.heap[w5.heap.size]? = some (.cells #[.int .i64 (8 + (log : Int)), .int .i64 (cnt : Int)] 105 (0, 0))) (h2 : W.heap[w7.heap.size]? = some (.cells #[.int .i64 (cnt : Int), .slice A7 k cc7] 64 (0, 0))) => show W.cell? ⟨w5.heap.size, 0, none⟩ = some (.int .i64 (8 + (log : Int))) ∧ W.cell? ⟨w5.heap.size, 1, none⟩ = some (.int .i64 (cnt : Int)) ∧ W.cell? ⟨w7.heap.size, 0, none⟩ = some (.int .i64 (cnt : Int)) ∧ W.cell? ⟨w7.heap.size, 1, none⟩ = some (.slice A7 k cc7) from
                  ⟨(cell_of_row _ _ 0 _ _ _ h1).trans rfl, (cell_of_row _ _ 1 _ _ _ h1).trans rfl, (cell_of_row _ _ 0 _ _ _ h2).trans rfl, (cell_of_row _ _ 1 _ _ _ h2).trans rfl⟩)
                have KB := Lib.hid (fun W (hr : RB W B7a (b2.drop (8 * k))) => clone_any B7a (b2.length - 8 * k) c7 (b2.drop (8 * k)) W (by omega) HBL.out hr)
                have R8 := Lib.hid (R7.out.below B8.out)
                clear hno hyes b7 o7 r7 rq7 hbl
                go_wp2
                generalize w7.alloc (.cells #[.int .i64 (cnt : Int), .slice A7 k cc7] 64) = V at *
                have cc := CS.out V.drew XA8.out X8.out
                have R8D := Lib.hid (show RB V.drew B7a (b2.drop (8 * k)) from R8.out)
                go_region_held3 (fun W => W.cell? ⟨w5.heap.size, 0, none⟩ = some (.int .i64 (8 + (log : Int))) ∧ W.cell? ⟨w5.heap.size, 1, none⟩ = some (.int .i64 (cnt : Int)) ∧ W.cell? ⟨w7.heap.size, 0, none⟩ = some (.int .i64 (cnt : Int)) ∧ W.cell? ⟨w7.heap.size, 1, none⟩ = some (.slice A7 k cc7)) (first | with_reducible assumption | with_reducible exact cc | with_reducible exact cn | with_reducible exact CS.out _ ((Below.heap_alloc _ _ _ (Array.getElem?_eq_some_iff.1 XA9.out).1).trans XA9.out) ((Below.heap_alloc _ _ _ (Array.getElem?_eq_some_iff.1 X9.out).1).trans X9.out) | fail)
                  (first
                    | (go_at_call 68; refine (KB.out _ R8D.out).mono ?_; rintro e w9 ⟨v9, rfl, o9, b9⟩; obtain ⟨A9, c9, rfl, hc9, r9⟩ := o9.form; have B9 := Lib.hid (B8.out.trans (((Below.refl _ V).drew.trans b9).mono B8.out.size)); have XA9 := Lib.hid ((b9.block _ (Array.getElem?_eq_some_iff.1 XA8.out).1).trans XA8.out); have X9 := Lib.hid ((b9.block _ (Array.getElem?_eq_some_iff.1 X8.out).1).trans X8.out); have cn := CS.out w9 XA9.out X9.out; have O9 := Lib.hid o9; clear o9 b9 r9)
                    | fail)
                all_goals
                  have BB9 := Lib.hid (B7.out.trans (B9.out.mono B7.out.size))
                  have FIN : Hid (StAt w.heap.size F (w9.alloc (.cells #[.pointer (some ⟨F.b, 0, none⟩), .int .i64 (log : Int), .int .i64 (8 + (log : Int)), .int .i64 (cnt : Int), .int .i64 (place : Int), .int .i64 (gn : Int), .int .i64 (cnt : Int), .slice A7 k cc7, .slice A9 (b2.length - 8 * k) c9, .int .i64 (cnt : Int), .slice A7 k cc7, .bool false] 109)) ⟨w9.heap.size, A7, cc7, A9, c9, A7, cc7⟩ ⟨log, cnt, place, gn, unwords b2 k, b2.drop (8 * k), unwords b2 k, false⟩) := Lib.hid (by
                    have hq : RQ (w9.alloc (.cells #[.pointer (some ⟨F.b, 0, none⟩), .int .i64 (log : Int), .int .i64 (8 + (log : Int)), .int .i64 (cnt : Int), .int .i64 (place : Int), .int .i64 (gn : Int), .int .i64 (cnt : Int), .slice A7 k cc7, .slice A9 (b2.length - 8 * k) c9, .int .i64 (cnt : Int), .slice A7 k cc7, .bool false] 109)) A7 (unwords b2 k) := (O7.out.reads.below B9.out).alloc _
                    have hn : ∀ ad, A7 = some ad → unwords b2 k ≠ [] → ¬ Wr F w9.heap.size ad.block := fun ad e _ hx => by
                      have h1 := O7.out.at_base.1 ad e
                      have h2 := O7.out.lt' ad e
                      have h3 := B6.out.size
                      have h4 := B9.out.size
                      rcases hx with hx | hx
                      · have := HIN.out _ hx; omega
                      · omega
                    have h3 := B6.out.size
                    have h4 := B7.out.size
                    have h5 := B9.out.size
                    have h6 := B8.out.size
                    refine ⟨Nat.le_trans h4 h5, fun hx => absurd (HIN.out _ hx) (Nat.not_lt.2 (Nat.le_trans h4 h5)), ?_, hq, O9.out.reads.alloc _, hq, by rw [unwords_len]; exact hcc7, hc9, by rw [unwords_len]; exact hcc7, hn, fun ad e _ hx => ?_, hn⟩
                    · rw [heap_alloc_last]
                      show some (Obj.cells _ _ _) = some (Obj.cells (stCells F _ _) _ _)
                      unfold stCells
                      simp only [unwords_len, List.length_drop]
                    · have h7 := O9.out.at_base.1 ad e
                      subst e
                      have h8 := O9.out.blt
                      have h9 : w.heap.size ≤ V.drew.heap.size := Nat.le_trans h4 h6
                      rcases hx with hx | hx
                      · have := HIN.out _ hx; omega
                      · exact absurd hx (Nat.ne_of_lt h8))
                  clear cc cn
                  go_wp2
                  go_ret
                  rw [HT2.out, HFIN.out]
                  exact ⟨fun e => (by cases e), fun t e => by injection e with e; subst e; exact ⟨_, rfl, FIN.out⟩, bAlloc' BB9.out _⟩
      · have hne : ((cnt : Int) != (cp : Int)) = true := by rw [bne_iff_ne]; omega
        have HFIN := Lib.hid (HN2.out hcc)
        clear hcc
        go_wp2
        go_ret
        rw [HT2.out, HFIN.out]
        exact GtPost.no B6.out
  · have HFIN := Lib.hid (show takeP d.rows.length place L = none from HT.out.trans (if_neg h0))
    have hne : ((slGetE L : Int) != 0) = true := by rw [bne_iff_ne]; omega
    unfold GetPost at KG
    clear h h0 hr HT HIV
    go_enter Tryz.func55, Tryz.ntmps55
    go_wp2_with fail
    refine KG.out.mono ?_
    rintro e w1 ⟨v1, rfl, o1, b1⟩
    have B1 := Lib.hid b1
    clear o1 b1
    go_wp2
    go_ret
    rw [HFIN.out]
    exact GtPost.no B1.out
end Go.Proofs.YtegjeijiekggdaaGreatDoor
end
section
/- The package store: Open. -/
namespace Go.Proofs.YtegjeijiekggdaaGreatDoor
open Go.RowKit
set_option linter.unusedVariables false
set_option linter.unusedSimpArgs false
/-- What is found. -/
def FdRel (F : Ft) (w : World) (T : Option Sto) (v : Value) (wr : World) : Prop :=
  (T = none → v = .pointer none) ∧ (∀ t, T = some t → ∃ P, v = .pointer (some ⟨P.G, 0, none⟩) ∧ StAt w.heap.size F wr P t) ∧ Below w.heap.size w wr
theorem FdRel.below {F : Ft} {w wr W : World} {T : Option Sto} {v : Value} (h : FdRel F w T v wr) (hb : Below wr.heap.size wr W) : FdRel F w T v W :=
  ⟨h.1, fun t e => by obtain ⟨P, e1, h1⟩ := h.2.1 t e; exact ⟨P, e1, h1.below hb⟩, h.2.2.trans (hb.mono h.2.2.size)⟩
theorem StAt.lower {B B' : Nat} {F : Ft} {w : World} {P : Sf} {t : Sto} (h : StAt B F w P t) (hb : B' ≤ B) : StAt B' F w P t := ⟨Nat.le_trans hb h.gb, h.gf, h.cells, h.rc, h.rb, h.ru, h.kc, h.kb, h.ku, h.nc, h.nb, h.nu⟩
theorem StAt.drewN {base : Nat} {F : Ft} {w : World} {P : Sf} {t : Sto} (h : StAt base F w P t) (n : Nat) : StAt base F (w.drewN n) P t := h.below (bdrewN (Below.refl _ _) n)
theorem openP_none {d : Dk} (ho : d.off = false) (h : bestP (takeP d.rows.length 0 (d.secs 0)) (takeP d.rows.length 1 (d.secs 1)) = none) : openP d = (none, 4) := by
  unfold openP; rw [if_neg (by rw [ho]; simp), h]
theorem openP_some {d : Dk} {t : Sto} (ho : d.off = false) (h : bestP (takeP d.rows.length 0 (d.secs 0)) (takeP d.rows.length 1 (d.secs 1)) = some t) : openP d = (some t, 0) := by
  unfold openP; rw [if_neg (by rw [ho]; simp), h]
/-- What Open answers. -/
def OpPost (F : Ft) (w : World) (d : Dk) (e : Ending) (w' : World) : Prop :=
  ((openP d).1 = none → e = .returned (.tuple #[.pointer none, .int .i64 ((openP d).2 : Int)])) ∧ (∀ t, (openP d).1 = some t → ∃ P, e = .returned (.tuple #[.pointer (some ⟨P.G, 0, none⟩), .int .i64 0]) ∧ StAt w.heap.size F w' P t) ∧ Below w.heap.size w w'
set_option maxHeartbeats 2000000 in
set_option maxRecDepth 100000 in
theorem open_store {base : Nat} {F : Ft} {w : World} {d : Dk} (h : DkAt base F w d) : Calls Tryz.prog 14 #[.pointer (some ⟨F.b, 0, none⟩)] w (OpPost F w d) := by
  have KF := Lib.hid (faultOf_any h)
  cases ho : d.off with
  | true =>
    rw [ho] at KF
    have HF := Lib.hid (show openP d = (none, 8) from by unfold openP; rw [if_pos ho])
    clear h ho
    go_enter Tryz.func14, Tryz.ntmps14
    go_wp2_with (go_at_call 53; refine KF.out.mono ?_; rintro e w1 ⟨rfl, rfl⟩)
    go_ret2
    unfold OpPost
    rw [HF.out]
    exact ⟨fun _ => rfl, fun t e => (by cases e), Below.refl _ _⟩
  | false =>
    rw [ho] at KF
    have KS := Lib.hid (slotsOf_any h)
    have KG := Lib.hid (fun W (hb : Below w.heap.size w W) place hp A c L hl h4 hc hr => get_any' (h.below hb) place hp A c L hl h4 hc hr)
    have HN := Lib.hid (fun e => openP_none (d := d) ho e)
    have HS := Lib.hid (fun t e => openP_some (d := d) (t := t) ho e)
    have L0 := Lib.hid (d.secs_len 0)
    have L1 := Lib.hid (d.secs_len 1)
    have HT0 := Lib.hid (show ∀ T, T = takeP d.rows.length 0 (d.secs 0) → True from fun _ _ => trivial)
    clear h ho
    go_enter Tryz.func14, Tryz.ntmps14
    go_wp2_with (first | (go_at_call 53; refine KF.out.mono ?_; rintro e w1 ⟨rfl, rfl⟩) | (go_at_call 54; refine KS.out.mono ?_; rintro e w1 ⟨A0, c0, A1, c1, rfl, r0, r1, b1⟩; have R0 := Lib.hid r0; have R1 := Lib.hid r1; have B1 := Lib.hid b1; clear r0 r1 b1) | fail)
    generalize d.secs 0 = S0 at *
    generalize d.secs 1 = S1 at *
    go_loopw [5, 6, 7, 8, 16] (fun v _ _ _ i wr => ∃ T, FdRel F w T v wr ∧ Below w1.heap.size w1 wr ∧ ((i = .int .i64 0 ∧ T = none) ∨ (i = .int .i64 1 ∧ T = takeP d.rows.length 0 S0) ∨ (i = .int .i64 2 ∧ T = bestP (takeP d.rows.length 0 S0) (takeP d.rows.length 1 S1)))) (fun _ _ _ _ i _ => 2 - (intOf i).toNat)
    case atStart => exact ⟨none, ⟨fun _ => rfl, fun t e => (by cases e), B1.out⟩, Below.refl _ _, .inl ⟨rfl, rfl⟩⟩
    case round =>
      obtain ⟨T, hfd, hb, hcase⟩ := hrel
      have HB := Lib.hid hb
      rcases hcase with ⟨rfl, rfl⟩ | ⟨rfl, hT⟩ | ⟨rfl, hT⟩
      · obtain rfl := hfd.1 rfl
        have K0 := Lib.hid (KG.out wr hfd.2.2 0 (by omega) A0 c0 S0 L0.out R0.out.1 R0.out.2.1 (R0.out.2.2.below hb))
        have BW := Lib.hid hfd.2.2
        have ix := fun W => (run_index2 (.slice A0 4 c0) (.slice A1 4 c1) W).1
        clear hb hfd
        go_wp2_with fail
        refine K0.out.mono ?_
        rintro e w2 ⟨hno, hso, b2⟩
        have B2 := Lib.hid (HB.out.trans (b2.mono HB.out.size))
        have BW2 := Lib.hid (BW.out.trans (b2.mono BW.out.size))
        cases hT0 : takeP d.rows.length 0 S0 with
        | none =>
          obtain rfl := hno hT0
          clear hno hso b2
          have HT := Lib.hid hT0
          clear hT0
          go_wp2
          go_quiet (fail)
          go_wp2
          go_roundw
          case rel => exact ⟨none, ⟨fun _ => rfl, fun t e => (by cases e), bdrewN BW2.out _⟩, bdrewN B2.out _, .inr (.inl ⟨by go_num, HT.out.symm⟩)⟩
          case measure => simp [intOf]
        | some t =>
          obtain ⟨P, rfl, hst⟩ := hso t hT0
          have ST := Lib.hid (hst.lower BW.out.size)
          clear hno hso b2 hst
          have HT := Lib.hid hT0
          clear hT0
          go_wp2
          go_quiet (fail)
          go_wp2
          go_roundw
          case rel => exact ⟨some t, ⟨fun e => (by cases e), fun t' e => (by injection e with e; subst e; exact ⟨P, rfl, ST.out.drewN _⟩), bdrewN BW2.out _⟩, bdrewN B2.out _, .inr (.inl ⟨by go_num, HT.out.symm⟩)⟩
          case measure => simp [intOf]
      · have K1 := Lib.hid (KG.out wr hfd.2.2 1 (by omega) A1 c1 S1 L1.out R1.out.1 R1.out.2.1 (R1.out.2.2.below hb))
        have BW := Lib.hid hfd.2.2
        have ix := fun W => (run_index2 (.slice A0 4 c0) (.slice A1 4 c1) W).2
        cases hT0 : T with
        | none =>
          obtain rfl := hfd.1 hT0
          rw [hT0] at hT
          have HT0 := Lib.hid hT
          clear hb hfd hT hT0
          go_wp2_with fail
          refine K1.out.mono ?_
          rintro e w2 ⟨hno, hso, b2⟩
          have B2 := Lib.hid (HB.out.trans (b2.mono HB.out.size))
          have BW2 := Lib.hid (BW.out.trans (b2.mono BW.out.size))
          cases hT1 : takeP d.rows.length 1 S1 with
          | none =>
            obtain rfl := hno hT1
            have HT := Lib.hid (show none = bestP (takeP d.rows.length 0 S0) (takeP d.rows.length 1 S1) from by rw [← HT0.out, hT1]; rfl)
            clear hno hso b2 hT1
            go_wp2
            go_quiet (fail)
            go_wp2
            go_roundw
            case rel => exact ⟨none, ⟨fun _ => rfl, fun t e => (by cases e), bdrewN BW2.out _⟩, bdrewN B2.out _, .inr (.inr ⟨by go_num, HT.out⟩)⟩
            case measure => simp [intOf]
          | some t =>
            obtain ⟨P, rfl, hst⟩ := hso t hT1
            have ST := Lib.hid (hst.lower BW.out.size)
            have HT := Lib.hid (show some t = bestP (takeP d.rows.length 0 S0) (takeP d.rows.length 1 S1) from by rw [← HT0.out, hT1]; rfl)
            clear hno hso b2 hst hT1
            go_wp2
            go_quiet (fail)
            go_wp2
            go_roundw
            case rel => exact ⟨some t, ⟨fun e => (by cases e), fun t' e => (by injection e with e; subst e; exact ⟨P, rfl, ST.out.drewN _⟩), bdrewN BW2.out _⟩, bdrewN B2.out _, .inr (.inr ⟨by go_num, HT.out⟩)⟩
            case measure => simp [intOf]
        | some u =>
          obtain ⟨Q, rfl, hsu⟩ := hfd.2.1 u hT0
          rw [hT0] at hT
          have HT0 := Lib.hid hT
          have SU := Lib.hid hsu
          clear hb hfd hT hT0 hsu
          go_wp2_with fail
          refine K1.out.mono ?_
          rintro e w2 ⟨hno, hso, b2⟩
          have B2 := Lib.hid (HB.out.trans (b2.mono HB.out.size))
          have BW2 := Lib.hid (BW.out.trans (b2.mono BW.out.size))
          have SU2 := Lib.hid (SU.out.below b2)
          have y5 := SU2.out.d5
          cases hT1 : takeP d.rows.length 1 S1 with
          | none =>
            obtain rfl := hno hT1
            have HT := Lib.hid (show some u = bestP (takeP d.rows.length 0 S0) (takeP d.rows.length 1 S1) from by rw [← HT0.out, hT1]; rfl)
            clear hno hso b2 hT1
            go_wp2
            go_quiet (fail)
            go_wp2
            go_roundw
            case rel => exact ⟨some u, ⟨fun e => (by cases e), fun t' e => (by injection e with e; subst e; exact ⟨Q, rfl, SU2.out.drewN _⟩), bdrewN BW2.out _⟩, bdrewN B2.out _, .inr (.inr ⟨by go_num, HT.out⟩)⟩
            case measure => simp [intOf]
          | some t =>
            obtain ⟨P, rfl, hst⟩ := hso t hT1
            have ST := Lib.hid (hst.lower BW.out.size)
            have x5 := hst.d5
            have HTT := Lib.hid (show bestP (takeP d.rows.length 0 S0) (takeP d.rows.length 1 S1) = if u.gen < t.gen then some t else some u from by rw [← HT0.out, hT1]; rfl)
            by_cases hlt : u.gen < t.gen
            · have hd : decide ((u.gen : Int) < (t.gen : Int)) = true := decide_eq_true (by omega)
              have HT := Lib.hid (show some t = bestP (takeP d.rows.length 0 S0) (takeP d.rows.length 1 S1) from by rw [HTT.out, if_pos hlt])
              clear hno hso b2 hst hT1
              go_wp2
              go_quiet (fail)
              go_wp2
              go_roundw
              case rel => exact ⟨some t, ⟨fun e => (by cases e), fun t' e => (by injection e with e; subst e; exact ⟨P, rfl, ST.out.drewN _⟩), bdrewN BW2.out _⟩, bdrewN B2.out _, .inr (.inr ⟨by go_num, HT.out⟩)⟩
              case measure => simp [intOf]
            · have hd : decide ((u.gen : Int) < (t.gen : Int)) = false := decide_eq_false (by omega)
              have HT := Lib.hid (show some u = bestP (takeP d.rows.length 0 S0) (takeP d.rows.length 1 S1) from by rw [HTT.out, if_neg hlt])
              clear hno hso b2 hst hT1
              go_wp2
              go_quiet (fail)
              go_wp2
              go_roundw
              case rel => exact ⟨some u, ⟨fun e => (by cases e), fun t' e => (by injection e with e; subst e; exact ⟨Q, rfl, SU2.out.drewN _⟩), bdrewN BW2.out _⟩, bdrewN B2.out _, .inr (.inr ⟨by go_num, HT.out⟩)⟩
              case measure => simp [intOf]
      · cases hT0 : T with
        | none =>
          obtain rfl := hfd.1 hT0
          have HO := Lib.hid (HN.out (by rw [← hT, hT0]))
          have BW := Lib.hid hfd.2.2
          clear hb hfd hT hT0
          go_wp2
          go_ret2
          unfold OpPost
          rw [HO.out]
          exact ⟨fun _ => rfl, fun t e => (by cases e), BW.out⟩
        | some u =>
          obtain ⟨Q, rfl, hsu⟩ := hfd.2.1 u hT0
          have HO := Lib.hid (HS.out u (by rw [← hT, hT0]))
          have BW := Lib.hid hfd.2.2
          have SU := Lib.hid hsu
          clear hb hfd hT hT0 hsu
          go_wp2
          go_ret2
          unfold OpPost
          rw [HO.out]
          exact ⟨fun e => (by cases e), fun t e => by injection e with e; subst e; exact ⟨Q, rfl, SU.out⟩, BW.out⟩
theorem open_nil (w : World) : Calls Tryz.prog 14 #[.pointer none] w fun e w' => e = .returned (.tuple #[.pointer none, .int .i64 1]) ∧ w = w' := by
  go_enter Tryz.func14, Tryz.ntmps14
  go_wp2_with (go_at_call 53; refine (faultOf_nil _).mono ?_; rintro e w1 ⟨rfl, rfl⟩)
  go_ret2
  exact ⟨rfl, rfl⟩
end Go.Proofs.YtegjeijiekggdaaGreatDoor
end
