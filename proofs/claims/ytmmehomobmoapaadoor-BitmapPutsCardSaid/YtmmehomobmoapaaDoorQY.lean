/- The package bitmap: Get. -/
import Derived.Test.YtmmehomobmoapaaDoorQX
namespace Go.Proofs.YtmmehomobmoapaaDoor
open Go.RowKit
set_option linter.unusedVariables false
set_option linter.unusedSimpArgs false
/-- What is read run by run. -/
def getF (s : Nat) : Nat → List UInt8 → Nat → Nat → Bool → List UInt64 → Option (List UInt64 × List UInt8 × Nat)
  | 0, _, _, _, _, _ => none
  | k + 1, l, f, a, on, L => if a < s then (if s - a < rdV l f ∨ (rdV l f = 0 ∧ ¬(a = 0 ∧ on = false)) then none else getF s k (rdL l f) (rdF l f) (a + rdV l f) (!on) (if on = true then fillL L a (rdV l f) else L)) else some (L, l, f)
def getM (s a : Nat) (on : Bool) : Nat := (s - a) + (if a = 0 ∧ on = false then 1 else 0) + 1
def getE2 : Option (List UInt64 × List UInt8 × Nat) → Option (List UInt64)
  | some (L, l, f) => if rdD l f = 0 then some L else none
  | none => none
def getR (b : List UInt8) : Option (Nat × List UInt64) := if rdV b 0 ≤ 4096 then (getE2 (getF (rdV b 0) (rdV b 0 + 2) (rdL b 0) (rdF b 0) 0 false (newL (rdV b 0 : Nat)))).map fun L => (rdV b 0, L) else none
def getS (b : List UInt8) : Nat := ((getR b).map (·.1)).getD 0
def getL (b : List UInt8) : List UInt64 := ((getR b).map (·.2)).getD []
def getE (b : List UInt8) : Nat := if (getR b).isSome = true then 0 else 4
theorem getR_none {b : List UInt8} (h : getR b = none) : getS b = 0 ∧ getL b = [] ∧ getE b = 4 := by
  unfold getS getL getE
  rw [h]
  exact ⟨rfl, rfl, rfl⟩
theorem getR_some {b : List UInt8} {s : Nat} {L : List UInt64} (h : getR b = some (s, L)) : getS b = s ∧ getL b = L ∧ getE b = 0 := by
  unfold getS getL getE
  rw [h]
  exact ⟨rfl, rfl, rfl⟩
theorem rdV_le (l : List UInt8) (f : Nat) : rdV l f ≤ 1099511627776 := by
  unfold rdV
  split
  · rename_i h; exact h.2.2
  · omega
theorem rdL_len (l : List UInt8) (f : Nat) : (rdL l f).length ≤ l.length := by
  unfold rdL
  split
  · simp
  · exact Nat.le_refl _
theorem BxQ.only {base : Nat} {w W W' : World} {q g : Nat} {s : Int} {v : Value} {L : List UInt64} {t : TypeId} (h : BxQ base w W q s v L t) (ho : OnlyB g W W') (hb : base ≤ g) (hq : q ≠ g) (hv : v.ownBlock ≠ some g) : BxQ base w W' q s v L t := by
  refine ⟨(ho.block q hq).trans h.at_, h.ge, ?_, h.ne, h.bel.trans (ho.below hb)⟩
  have h1 := h.own
  unfold OQ at h1 ⊢
  refine ⟨h1.1, ?_⟩
  rcases h1.2 with h2 | ⟨gv, cap, cur, e, hb', hh, r⟩
  · exact .inl h2
  · refine .inr ⟨gv, cap, cur, e, hb', ?_, r⟩
    rw [ho.block gv (fun e2 => hv (by rw [e, e2]; rfl))]
    exact hh
theorem BxQ.filled {base : Nat} {w W W' : World} {q gv : Nat} {s : Int} {n c : Nat} {L L' : List UInt64} {t : TypeId} (h : BxQ base w W q s (.slice (some ⟨gv, 0, none⟩) n c) L t) (ho : OnlyB gv W W') (h2 : OQ base W' (.slice (some ⟨gv, 0, none⟩) n c) L') : BxQ base w W' q s (.slice (some ⟨gv, 0, none⟩) n c) L' t := by
  have hne : q ≠ gv := fun e => h.ne (by rw [e]; rfl)
  refine ⟨(ho.block q hne).trans h.at_, h.ge, h2, h.ne, h.bel.trans (ho.below ?_)⟩
  exact (World.ownsRow.lt h2 gv rfl).1
theorem resCells {b : Nat} {W0 V : World} {x0 x1 : Value} {t : TypeId} (hx : W0.heap[b]? = some (.cells #[x0, x1] t (0, 0))) (h : Below (b + 1) W0 V) : V.cell? ⟨b, 0, none⟩ = some x0 ∧ V.cell? ⟨b, 1, none⟩ = some x1 ∧ V.frozen? ⟨b, 0, none⟩ = false ∧ V.frozen? ⟨b, 1, none⟩ = false := by
  have hx2 := (h.block b (Nat.lt_succ_self _)).trans hx
  exact ⟨(cell_of_row V _ 0 _ _ _ hx2).trans rfl, (cell_of_row V _ 1 _ _ _ hx2).trans rfl, by simp [World.frozen?, hx2], by simp [World.frozen?, hx2]⟩
set_option maxHeartbeats 4000000 in
set_option maxRecDepth 100000 in
theorem get_any (A : Option Addr) (n c : Nat) (b : List UInt8) (w : World) (hn : n ≤ 1000000) (hl : b.length = n) (hr : RB w A b) : Calls Tryd.prog 33 #[.slice A n c] w fun e w' => ∃ v, e = .returned (.tuple #[.agg #[.int .i64 (getS b : Int), v], .int .i64 (getE b : Int)]) ∧ OQ w.heap.size w' v (getL b) ∧ Below w.heap.size w w' := by
  have HL := Lib.hid hl
  have HX := Lib.hid (heap_alloc_last w (.cells #[.int .i64 0, .slice none 0 0] 27))
  have HZ := Lib.hid (heap_size_alloc w (.cells #[.int .i64 0, .slice none 0 0] 27))
  have B0 := Lib.hid ((Below.refl _ w).alloc (Nat.le_refl _) (.cells #[.int .i64 0, .slice none 0 0] 27))
  have KN := Lib.hid (okNew_any A n c b (w.alloc (.cells #[.int .i64 0, .slice none 0 0] 27)) (by omega) hl (hr.alloc _))
  clear hl hr
  go_enter Tryd.func33, Tryd.ntmps33
  go_wp2_with fail
  generalize w.alloc (.cells #[.int .i64 0, .slice none 0 0] 27) = W0 at *
  refine KN.out.mono ?_
  rintro e w1 ⟨g, rfl, R1, hg, b1⟩
  rw [HZ.out] at hg b1
  have V1 := Lib.hid b1
  have KS := Lib.hid (okSmall_any g 0 b w1 R1 (by have := HL.out; omega))
  have hgl := R1.lt
  clear b1 KN R1
  go_wp2_with fail
  refine KS.out.mono ?_
  rintro e w2 ⟨rfl, R2, o2⟩
  have V2 := Lib.hid (V1.out.trans (o2.below hg))
  have hg2 : g < w2.heap.size := by rw [o2.size]; exact hgl
  have HR2 := Lib.hid R2
  obtain ⟨sz, hsz⟩ : ∃ sz, sz = rdV b 0 := ⟨_, rfl⟩
  have HSZ := Lib.hid hsz
  have KW := new_any (sz : Int) w2
  rw [← hsz]
  have hE : (newOk (sz : Int) = true ∧ newE (sz : Int) = 0) ∨ (newOk (sz : Int) = false ∧ newE (sz : Int) = 2) := by
    unfold newE
    cases newOk (sz : Int)
    · exact .inr ⟨rfl, rfl⟩
    · exact .inl ⟨rfl, rfl⟩
  clear KS V1 R2 o2 hgl hsz
  rcases hE with ⟨hok, hE⟩ | ⟨hok, hE⟩
  · rw [hE] at KW
    have hsl : sz ≤ 4096 := by unfold newOk at hok; simp at hok; omega
    have hS : newS (sz : Int) = (sz : Int) := if_pos hok
    rw [hS] at KW
    have HNL : Hid ((newL (sz : Int)).length = (sz + 63) / 64) := Lib.hid (by unfold newL; rw [if_pos hok, Int.toNat_natCast, List.length_replicate])
    have KW := Lib.hid KW
    clear hE hok hS
    go_wp2_with fail
    refine KW.out.mono ?_
    rintro e w3 ⟨v, rfl, o3, b3⟩
    have hgv : ∀ k, v.ownBlock = some k → g < k := fun k hk => Nat.lt_of_lt_of_le hg2 (o3.block hk).1
    have hle2 : w.heap.size + 1 ≤ w2.heap.size := by omega
    have V3 := Lib.hid (V2.out.trans (b3.mono hle2))
    have P3 := Lib.hid (BxQ.new (s := (sz : Int)) 27 V3.out (o3.lift hle2) (Nat.le_trans hle2 b3.size))
    have R3 := Lib.hid ((HR2.out.keep b3).keep ((Below.refl _ w3).alloc (Nat.le_refl _) (.cells #[.int .i64 (sz : Int), v] 27)))
    have hg3 : g < w3.heap.size := Nat.lt_of_lt_of_le hg2 b3.size
    obtain ⟨Av, cv, rfl, hcv, hrv⟩ := o3.form
    obtain ⟨Nv, hNv⟩ : ∃ Nv, Nv = (newL (sz : Int)).length := ⟨_, rfl⟩
    have HNv := Lib.hid (hNv.trans HNL.out)
    rw [← hNv] at P3 R3 hgv ⊢
    have HGV := Lib.hid hgv
    obtain ⟨G, hG⟩ : ∃ G, G = getF sz (sz + 2) (rdL b 0) (rdF b 0) 0 false (newL (sz : Int)) := ⟨_, rfl⟩
    have HG := Lib.hid hG
    have HGR : Hid (getR b = (getE2 G).map fun L => (sz, L)) := Lib.hid (by unfold getR; rw [← HSZ.out, if_pos hsl, ← hG])
    have HZL : Hid ((newL (sz : Int)).length = (sz + 63) / 64) := HNL
    have HLB : Hid ((rdL b 0).length ≤ 1000000) := Lib.hid (by have := rdL_len b 0; have := HL.out; omega)
    clear KW o3 b3 hcv hrv HNL hNv hG hgv HR2
    go_wp2
    have RS := Lib.hid (fun V (h : Below (w.heap.size + 1) W0 V) => resCells HX.out h)
    go_loopw [7, 8, 9, 10] (fun o t _ _ wr => ∃ (k a : Nat) (on : Bool) (l : List UInt8) (f : Nat) (L : List UInt64), o = .bool on ∧ t = .int .i64 (a : Int) ∧ a ≤ sz ∧ getM sz a on ≤ k ∧ G = getF sz k l f a on L ∧ L.length = (sz + 63) / 64 ∧ l.length ≤ 1000000 ∧ RDF wr g l f ∧ BxQ (w.heap.size + 1) W0 wr w3.heap.size (sz : Int) (.slice Av Nv cv) L 27) (fun o t _ _ _ => getM sz (RowKit.intOf t).toNat (boolOf o))
    case atStart => exact ⟨sz + 2, 0, false, _, _, _, rfl, rfl, Nat.zero_le _, by unfold getM; rw [if_pos ⟨rfl, rfl⟩]; omega, HG.out, HZL.out, HLB.out, R3.out, P3.out⟩
    case round =>
      obtain ⟨k, a, on, l, f, L, rfl, rfl, ha, hk, hGk, hLL, hlb, hR, hP⟩ := hrel
      have HLL := Lib.hid hLL
      have PB := Lib.hid hP
      have hk1 : 1 ≤ k := by unfold getM at hk; omega
      have HK := Lib.hid hk
      have HGK := Lib.hid hGk
      obtain ⟨x0, x1, _, _⟩ := hP.cells
      clear hP hk hGk hLL
      by_cases hlt : a < sz
      · have hlt' : (a : Int) < (sz : Int) := by omega
        obtain ⟨k', rfl⟩ : ∃ k', k = k' + 1 := ⟨k - 1, by omega⟩
        rw [getF, if_pos hlt] at HGK
        have KS := okSmall_any g f l wr hR (by omega)
        have hnb := rdV_le l f
        have HL5 : Hid ((rdL l f).length ≤ 1000000) := Lib.hid (by have := rdL_len l f; omega)
        generalize rdV l f = nn at *
        have KS := Lib.hid KS
        clear hR
        go_wp2_with fail
        refine KS.out.mono ?_
        rintro e w5 ⟨rfl, hR5, o5⟩
        have P5 := Lib.hid (PB.out.only o5 hg (by omega) (fun e => Nat.lt_irrefl _ (HGV.out g e)))
        have R5 := Lib.hid hR5
        obtain ⟨y0, y1, _, _⟩ := P5.out.cells
        clear hR5 o5 x0 x1 KS
        by_cases c1 : sz - a < nn
        · have d1 : (sz : Int) - (a : Int) < (nn : Int) := by omega
          by_cases c3 : a = 0
          · have d3 : ((a : Int) == 0) = true := by simp; omega
            cases on
            · skip
              have HGB : Hid (G = none) := Lib.hid (by rw [HGK.out, if_pos (.inl c1)])
              try clear c3
              try clear c2
              try clear c1
              obtain ⟨e1, e2, e3⟩ := getR_none (b := b) (by rw [HGR.out, HGB.out]; rfl)
              have E1 := Lib.hid e1
              have E2 := Lib.hid e2
              have E3 := Lib.hid e3
              clear e1 e2 e3
              obtain ⟨r0, r1, r2, r3⟩ := RS.out w5 P5.out.bel
              go_wp2
              rw [E1.out, E2.out, E3.out]
              refine bodyPost_ret (v := .tuple #[.agg #[.int .i64 0, .slice none 0 0], .int .i64 4]) (by simp [results, Tryd.results33, go_sem, r0, r1]) rfl ⟨_, rfl, OQ.nil, belowC (B0.out.trans (P5.out.bel.mono (Nat.le_succ _))) (Nat.le_refl _) _ _⟩
            · skip
              have HGB : Hid (G = none) := Lib.hid (by rw [HGK.out, if_pos (.inl c1)])
              try clear c3
              try clear c2
              try clear c1
              obtain ⟨e1, e2, e3⟩ := getR_none (b := b) (by rw [HGR.out, HGB.out]; rfl)
              have E1 := Lib.hid e1
              have E2 := Lib.hid e2
              have E3 := Lib.hid e3
              clear e1 e2 e3
              obtain ⟨r0, r1, r2, r3⟩ := RS.out w5 P5.out.bel
              go_wp2
              rw [E1.out, E2.out, E3.out]
              refine bodyPost_ret (v := .tuple #[.agg #[.int .i64 0, .slice none 0 0], .int .i64 4]) (by simp [results, Tryd.results33, go_sem, r0, r1]) rfl ⟨_, rfl, OQ.nil, belowC (B0.out.trans (P5.out.bel.mono (Nat.le_succ _))) (Nat.le_refl _) _ _⟩
          · have d3 : ((a : Int) == 0) = false := by simp; omega
            have HGB : Hid (G = none) := Lib.hid (by rw [HGK.out, if_pos (.inl c1)])
            try clear c3
            try clear c2
            try clear c1
            obtain ⟨e1, e2, e3⟩ := getR_none (b := b) (by rw [HGR.out, HGB.out]; rfl)
            have E1 := Lib.hid e1
            have E2 := Lib.hid e2
            have E3 := Lib.hid e3
            clear e1 e2 e3
            obtain ⟨r0, r1, r2, r3⟩ := RS.out w5 P5.out.bel
            go_wp2
            rw [E1.out, E2.out, E3.out]
            refine bodyPost_ret (v := .tuple #[.agg #[.int .i64 0, .slice none 0 0], .int .i64 4]) (by simp [results, Tryd.results33, go_sem, r0, r1]) rfl ⟨_, rfl, OQ.nil, belowC (B0.out.trans (P5.out.bel.mono (Nat.le_succ _))) (Nat.le_refl _) _ _⟩
        · have d1 : decide ((sz : Int) - (a : Int) < (nn : Int)) = false := by simp; omega
          have d1' : (nn : Int) ≤ (sz : Int) - (a : Int) := by omega
          by_cases c2 : nn = 0
          · have d2 : ((nn : Int) == 0) = true := by simp; omega
            by_cases c3 : a = 0
            · have d3 : ((a : Int) == 0) = true := by simp; omega
              cases on
              · have hnn : a = 0 ∨ 0 < nn := .inl c3
                have hnn2 : a + nn ≤ sz := by omega
                have HGO : Hid (G = getF sz k' (rdL l f) (rdF l f) (a + nn) true L) := Lib.hid (by rw [HGK.out, if_neg (fun h => h.elim (fun h => by omega) (fun h => h.2 ⟨by omega, rfl⟩))]; rfl)
                have HM : Hid (getM sz (a + nn) true + 1 ≤ getM sz a false) := Lib.hid (by
                  unfold getM
                  rw [if_neg (show ¬ (a + nn = 0 ∧ true = false) by simp)]
                  by_cases h0 : a = 0
                  · rw [if_pos ⟨h0, rfl⟩]; omega
                  · have := hnn; rw [if_neg (by simp [h0])]; omega)
                try clear hnn
                try clear c3
                try clear c2
                try clear c1
                go_wp2
                go_roundw
                case rel => exact ⟨k', a + nn, true, _, _, _, rfl, by go_num, by omega, by have := HM.out; have := HK.out; omega, HGO.out, HLL.out, HL5.out, R5.out, P5.out⟩
                case measure =>
                  rw [show (a : Int) + (nn : Int) = ((a + nn : Nat) : Int) by omega]
                  simp only [RowKit.intOf, Int.toNat_natCast, boolOf]
                  have := HM.out
                  omega
              · skip
                have HGB : Hid (G = none) := Lib.hid (by rw [HGK.out, if_pos (.inr ⟨c2, by simp⟩)])
                try clear c3
                try clear c2
                try clear c1
                obtain ⟨e1, e2, e3⟩ := getR_none (b := b) (by rw [HGR.out, HGB.out]; rfl)
                have E1 := Lib.hid e1
                have E2 := Lib.hid e2
                have E3 := Lib.hid e3
                clear e1 e2 e3
                obtain ⟨r0, r1, r2, r3⟩ := RS.out w5 P5.out.bel
                go_wp2
                rw [E1.out, E2.out, E3.out]
                refine bodyPost_ret (v := .tuple #[.agg #[.int .i64 0, .slice none 0 0], .int .i64 4]) (by simp [results, Tryd.results33, go_sem, r0, r1]) rfl ⟨_, rfl, OQ.nil, belowC (B0.out.trans (P5.out.bel.mono (Nat.le_succ _))) (Nat.le_refl _) _ _⟩
            · have d3 : ((a : Int) == 0) = false := by simp; omega
              have HGB : Hid (G = none) := Lib.hid (by rw [HGK.out, if_pos (.inr ⟨c2, by simp [c3]⟩)])
              try clear c3
              try clear c2
              try clear c1
              obtain ⟨e1, e2, e3⟩ := getR_none (b := b) (by rw [HGR.out, HGB.out]; rfl)
              have E1 := Lib.hid e1
              have E2 := Lib.hid e2
              have E3 := Lib.hid e3
              clear e1 e2 e3
              obtain ⟨r0, r1, r2, r3⟩ := RS.out w5 P5.out.bel
              go_wp2
              rw [E1.out, E2.out, E3.out]
              refine bodyPost_ret (v := .tuple #[.agg #[.int .i64 0, .slice none 0 0], .int .i64 4]) (by simp [results, Tryd.results33, go_sem, r0, r1]) rfl ⟨_, rfl, OQ.nil, belowC (B0.out.trans (P5.out.bel.mono (Nat.le_succ _))) (Nat.le_refl _) _ _⟩
          · have d2 : ((nn : Int) == 0) = false := by simp; omega
            have hnn : a = 0 ∨ 0 < nn := .inr (by omega)
            by_cases c3 : a = 0
            · have d3 : ((a : Int) == 0) = true := by simp; omega
              cases on
              · skip
                have hnn2 : a + nn ≤ sz := by omega
                have HGO : Hid (G = getF sz k' (rdL l f) (rdF l f) (a + nn) true L) := Lib.hid (by rw [HGK.out, if_neg (fun h => h.elim (fun h => by omega) (fun h => h.2 ⟨by omega, rfl⟩))]; rfl)
                have HM : Hid (getM sz (a + nn) true + 1 ≤ getM sz a false) := Lib.hid (by
                  unfold getM
                  rw [if_neg (show ¬ (a + nn = 0 ∧ true = false) by simp)]
                  by_cases h0 : a = 0
                  · rw [if_pos ⟨h0, rfl⟩]; omega
                  · have := hnn; rw [if_neg (by simp [h0])]; omega)
                try clear hnn
                try clear c3
                try clear c2
                try clear c1
                go_wp2
                go_roundw
                case rel => exact ⟨k', a + nn, true, _, _, _, rfl, by go_num, by omega, by have := HM.out; have := HK.out; omega, HGO.out, HLL.out, HL5.out, R5.out, P5.out⟩
                case measure =>
                  rw [show (a : Int) + (nn : Int) = ((a + nn : Nat) : Int) by omega]
                  simp only [RowKit.intOf, Int.toNat_natCast, boolOf]
                  have := HM.out
                  omega
              · skip
                have hnn2 : a + nn ≤ sz := by omega
                have HGO : Hid (G = getF sz k' (rdL l f) (rdF l f) (a + nn) false (fillL L a nn)) := Lib.hid (by rw [HGK.out, if_neg (by omega)]; rfl)
                have HM : Hid (getM sz (a + nn) false + 1 ≤ getM sz a true) := Lib.hid (by
                  unfold getM
                  rw [if_neg (show ¬ (a = 0 ∧ true = false) by simp), if_neg (by omega)]
                  omega)
                try clear hnn
                try clear c3
                try clear c2
                try clear c1
                obtain ⟨gv, rfl, hgvb, _, _, _⟩ := P5.out.set (k := 0) (x := L[0]'(by have := HLL.out; omega)) (List.getElem?_eq_getElem _)
                have KF := Lib.hid (fill_any (w.heap.size + 1) gv Nv cv L a nn w5 (by have := HLL.out; omega) (by have := HLL.out; omega) P5.out.own)
                have ggv := HGV.out gv rfl
                have HLL2 : Hid ((fillL L a nn).length = (sz + 63) / 64) := Lib.hid (by rw [fillL_len]; exact HLL.out)
                have u1 := P5.out.cells.2.1
                go_wp2_with fail
                refine KF.out.mono ?_
                rintro e w6 ⟨⟨v6, rfl⟩, oq6, on6⟩
                have P6 := Lib.hid (P5.out.filled on6 oq6)
                have R6 := Lib.hid (R5.out.stay ggv (on6.below (Nat.le_refl _)))
                clear oq6 on6 KF
                go_wp2
                go_roundw
                case rel => exact ⟨k', a + nn, false, _, _, _, rfl, by go_num, by omega, by have := HM.out; have := HK.out; omega, HGO.out, HLL2.out, HL5.out, R6.out, P6.out⟩
                case measure =>
                  rw [show (a : Int) + (nn : Int) = ((a + nn : Nat) : Int) by omega]
                  simp only [RowKit.intOf, Int.toNat_natCast, boolOf]
                  have := HM.out
                  omega
            · have d3 : ((a : Int) == 0) = false := by simp; omega
              cases on
              · skip
                have hnn2 : a + nn ≤ sz := by omega
                have HGO : Hid (G = getF sz k' (rdL l f) (rdF l f) (a + nn) true L) := Lib.hid (by rw [HGK.out, if_neg (fun h => h.elim (fun h => by omega) (fun h => h.2 ⟨by omega, rfl⟩))]; rfl)
                have HM : Hid (getM sz (a + nn) true + 1 ≤ getM sz a false) := Lib.hid (by
                  unfold getM
                  rw [if_neg (show ¬ (a + nn = 0 ∧ true = false) by simp)]
                  by_cases h0 : a = 0
                  · rw [if_pos ⟨h0, rfl⟩]; omega
                  · have := hnn; rw [if_neg (by simp [h0])]; omega)
                try clear hnn
                try clear c3
                try clear c2
                try clear c1
                go_wp2
                go_roundw
                case rel => exact ⟨k', a + nn, true, _, _, _, rfl, by go_num, by omega, by have := HM.out; have := HK.out; omega, HGO.out, HLL.out, HL5.out, R5.out, P5.out⟩
                case measure =>
                  rw [show (a : Int) + (nn : Int) = ((a + nn : Nat) : Int) by omega]
                  simp only [RowKit.intOf, Int.toNat_natCast, boolOf]
                  have := HM.out
                  omega
              · skip
                have hnn2 : a + nn ≤ sz := by omega
                have HGO : Hid (G = getF sz k' (rdL l f) (rdF l f) (a + nn) false (fillL L a nn)) := Lib.hid (by rw [HGK.out, if_neg (by omega)]; rfl)
                have HM : Hid (getM sz (a + nn) false + 1 ≤ getM sz a true) := Lib.hid (by
                  unfold getM
                  rw [if_neg (show ¬ (a = 0 ∧ true = false) by simp), if_neg (by omega)]
                  omega)
                try clear hnn
                try clear c3
                try clear c2
                try clear c1
                obtain ⟨gv, rfl, hgvb, _, _, _⟩ := P5.out.set (k := 0) (x := L[0]'(by have := HLL.out; omega)) (List.getElem?_eq_getElem _)
                have KF := Lib.hid (fill_any (w.heap.size + 1) gv Nv cv L a nn w5 (by have := HLL.out; omega) (by have := HLL.out; omega) P5.out.own)
                have ggv := HGV.out gv rfl
                have HLL2 : Hid ((fillL L a nn).length = (sz + 63) / 64) := Lib.hid (by rw [fillL_len]; exact HLL.out)
                have u1 := P5.out.cells.2.1
                go_wp2_with fail
                refine KF.out.mono ?_
                rintro e w6 ⟨⟨v6, rfl⟩, oq6, on6⟩
                have P6 := Lib.hid (P5.out.filled on6 oq6)
                have R6 := Lib.hid (R5.out.stay ggv (on6.below (Nat.le_refl _)))
                clear oq6 on6 KF
                go_wp2
                go_roundw
                case rel => exact ⟨k', a + nn, false, _, _, _, rfl, by go_num, by omega, by have := HM.out; have := HK.out; omega, HGO.out, HLL2.out, HL5.out, R6.out, P6.out⟩
                case measure =>
                  rw [show (a : Int) + (nn : Int) = ((a + nn : Nat) : Int) by omega]
                  simp only [RowKit.intOf, Int.toNat_natCast, boolOf]
                  have := HM.out
                  omega
      · have hle : sz ≤ a := by omega
        have hd : decide ((a : Int) < (sz : Int)) = false := by simp; omega
        obtain ⟨k', rfl⟩ : ∃ k', k = k' + 1 := ⟨k - 1, by omega⟩
        rw [getF, if_neg hlt] at HGK
        have KD := okDone_any g f l wr hR
        obtain ⟨r0, r1, r2, r3⟩ := RS.out wr PB.out.bel
        by_cases h0 : rdD l f = 0
        · rw [h0] at KD
          have KD := Lib.hid KD
          obtain ⟨e1, e2, e3⟩ := getR_some (b := b) (s := sz) (L := L) (by rw [HGR.out, HGK.out]; show Option.map _ (if rdD l f = 0 then some L else none) = _; rw [if_pos h0]; rfl)
          have E1 := Lib.hid e1
          have E2 := Lib.hid e2
          have E3 := Lib.hid e3
          clear e1 e2 e3 h0 hR
          go_wp2_with fail
          refine KD.out.mono ?_
          rintro e w7 ⟨rfl, rfl⟩
          go_wp2
          rw [E1.out, E2.out, E3.out]
          refine bodyPost_ret (v := .tuple #[.agg #[.int .i64 (sz : Int), .slice Av Nv cv], .int .i64 0]) (by simp [results, Tryd.results33, go_sem, r0, r1]) rfl ⟨_, rfl, (PB.out.own.setB (Nat.lt_succ_self _) _ _).lift (Nat.le_succ _), belowC (B0.out.trans (PB.out.bel.mono (Nat.le_succ _))) (Nat.le_refl _) _ _⟩
        · have d0 : ((rdD l f : Int) != 0) = true := by simp; omega
          have KD := Lib.hid KD
          obtain ⟨e1, e2, e3⟩ := getR_none (b := b) (by rw [HGR.out, HGK.out]; show Option.map _ (if rdD l f = 0 then some L else none) = _; rw [if_neg h0]; rfl)
          have E1 := Lib.hid e1
          have E2 := Lib.hid e2
          have E3 := Lib.hid e3
          clear e1 e2 e3 h0 hR
          generalize rdD l f = dd at *
          go_wp2_with fail
          refine KD.out.mono ?_
          rintro e w7 ⟨rfl, rfl⟩
          go_wp2
          rw [E1.out, E2.out, E3.out]
          refine bodyPost_ret (v := .tuple #[.agg #[.int .i64 0, .slice none 0 0], .int .i64 4]) (by simp [results, Tryd.results33, go_sem, r0, r1]) rfl ⟨_, rfl, OQ.nil, belowC (B0.out.trans (PB.out.bel.mono (Nat.le_succ _))) (Nat.le_refl _) _ _⟩
  · rw [hE] at KW
    have hsl : 4096 < sz := by unfold newOk at hok; simp at hok; omega
    have HGR := getR_none (b := b) (by unfold getR; rw [← HSZ.out, if_neg (by omega)])
    have HGR := Lib.hid HGR
    have KW := Lib.hid KW
    clear hE hok
    go_wp2_with fail
    refine KW.out.mono ?_
    rintro e w3 ⟨v, rfl, o3, b3⟩
    have hle2 : w.heap.size + 1 ≤ w2.heap.size := by omega
    have V3 := Lib.hid ((V2.out.trans (b3.mono hle2)).alloc (Nat.le_trans hle2 b3.size) (.cells #[.int .i64 (newS (sz : Int)), v] 27))
    obtain ⟨Av, cv, rfl, hcv, hrv⟩ := o3.form
    have hx := (V3.out.block w.heap.size (Nat.lt_succ_self _)).trans HX.out
    generalize (newL (sz : Int)).length = Nv at *
    generalize newS (sz : Int) = Sv at *
    clear KW b3 o3 hcv hrv
    have u0 : (w3.alloc (.cells #[.int .i64 Sv, .slice Av Nv cv] 27)).cell? ⟨w.heap.size, 0, none⟩ = some (.int .i64 0) := (cell_of_row _ _ 0 _ _ _ hx).trans rfl
    have u1 : (w3.alloc (.cells #[.int .i64 Sv, .slice Av Nv cv] 27)).cell? ⟨w.heap.size, 1, none⟩ = some (.slice none 0 0) := (cell_of_row _ _ 1 _ _ _ hx).trans rfl
    have f0 : (w3.alloc (.cells #[.int .i64 Sv, .slice Av Nv cv] 27)).frozen? ⟨w.heap.size, 0, none⟩ = false := by simp [World.frozen?, hx]
    have f1 : (w3.alloc (.cells #[.int .i64 Sv, .slice Av Nv cv] 27)).frozen? ⟨w.heap.size, 1, none⟩ = false := by simp [World.frozen?, hx]
    clear hx
    go_wp2
    rw [HGR.out.1, HGR.out.2.1, HGR.out.2.2]
    refine bodyPost_ret (v := .tuple #[.agg #[.int .i64 0, .slice none 0 0], .int .i64 4]) (by simp [results, Tryd.results33, go_sem, u0, u1]) rfl ⟨_, rfl, OQ.nil, belowC (B0.out.trans (V3.out.mono (Nat.le_succ _))) (Nat.le_refl _) _ _⟩
end Go.Proofs.YtmmehomobmoapaaDoor
