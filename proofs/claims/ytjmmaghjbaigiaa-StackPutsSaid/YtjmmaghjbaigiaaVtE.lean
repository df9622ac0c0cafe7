/- The document's stacks: Check. -/
import Derived.Test.YtjmmaghjbaigiaaVsN
import Derived.Test.YtjmmaghjbaigiaaVtB
import Derived.Deep.CutRange
namespace Go.Proofs.Ytjmmaghjbaigiaa
open Go.RowKit
set_option linter.unusedVariables false
set_option linter.unusedSimpArgs false
theorem refIn_any (n : Int) (w : World) : Calls Try.prog 79 #[.int .i64 n] w fun e w' => e = .returned (.bool (vsIn n)) ∧ w = w' := by
  unfold vsIn
  by_cases h : 0 ≤ n
  · have HD := Lib.hid (decide_eq_true h)
    go_enter Try.func79, Try.ntmps79
    go_wp2
    go_ret
    rw [HD.out]
    exact ⟨rfl, rfl⟩
  · have HD := Lib.hid (decide_eq_false h)
    go_enter Try.func79, Try.ntmps79
    go_wp2
    go_ret
    rw [HD.out]
    exact ⟨rfl, rfl⟩
theorem fault5 {x : Vn} (h : 24 < x.val.size) : vsFault x = 5 := by unfold vsFault; rw [if_pos h]
theorem fault4 {x : Vn} (h : ¬ 24 < x.val.size) (g : x.gone = true) (e : x.val ≠ ⟨#[]⟩) : vsFault x = 4 := by unfold vsFault; rw [if_neg h, if_pos ⟨g, e⟩]
theorem faultR {x : Vn} (h : ¬ 24 < x.val.size) (g : ¬ (x.gone = true ∧ x.val ≠ ⟨#[]⟩)) : vsFault x = if !vsIn x.txn || !vsIn x.ts then 9 else 0 := by unfold vsFault; rw [if_neg h, if_neg g]
/-- What the two tests of two versions say. -/
theorem fol_cases (a b : Vn) : (vsFol b a = false ∧ (((a.ts == 0) = true ∧ (b.ts != 0) = true) ∨ ((a.ts == 0) = true ∧ (b.ts != 0) = false ∧ (a.txn == b.txn) = true) ∨ ((a.ts == 0) = false ∧ (b.ts != 0) = true ∧ decide (b.ts < a.ts) = true))) ∨
    (vsFol b a = true ∧ (((a.ts == 0) = true ∧ (b.ts != 0) = false ∧ (a.txn == b.txn) = false) ∨ ((a.ts == 0) = false ∧ (b.ts != 0) = false) ∨ ((a.ts == 0) = false ∧ (b.ts != 0) = true ∧ decide (b.ts < a.ts) = false))) := by
  unfold vsFol
  by_cases h1 : a.ts = 0
  · rw [if_pos h1]
    by_cases h2 : b.ts = 0
    · by_cases h3 : a.txn = b.txn
      · exact .inl ⟨by simp [h3], .inr (.inl ⟨by simp [h1], by simp [h2], by simp [h3]⟩)⟩
      · exact .inr ⟨by simp [h2, Ne.symm h3], .inl ⟨by simp [h1], by simp [h2], by simp [h3]⟩⟩
    · exact .inl ⟨by simp [h2], .inl ⟨by simp [h1], by simp [h2]⟩⟩
  · rw [if_neg h1]
    by_cases h2 : b.ts = 0
    · exact .inr ⟨by simp [h2], .inr (.inl ⟨by simp [h1], by simp [h2]⟩)⟩
    · by_cases h3 : b.ts < a.ts
      · exact .inl ⟨by simp [h2]; omega, .inr (.inr ⟨by simp [h1], by simp [h2], by simp [h3]⟩)⟩
      · exact .inr ⟨by simp [h2]; omega, .inr (.inr ⟨by simp [h1], by simp [h2], by simp; omega⟩)⟩
set_option maxHeartbeats 2000000 in
set_option maxRecDepth 100000 in
theorem refCheck_any (key : ByteArray) (A : Option Addr) (n c : Nat) (l : List Vn) (w : World) (hl : l.length = n) (hn : n ≤ 1000) (hr : RG KV w A l) :
    Calls Try.prog 40 #[.agg #[.string key, .slice A n c]] w fun e w' => e = .returned (.int .i64 (vsCheck key l : Int)) ∧ Below w.heap.size w w' := by
  have HB := Lib.hid (below1 w (.cells #[.string key, .slice A n c] 24))
  have SX := Lib.hid (StBox.new w key A n c 24)
  unfold vsCheck
  by_cases h1 : 16 < key.size
  · rw [if_pos h1]
    have h1' : decide ((16 : Int) < (key.size : Int)) = true := by simp; omega
    go_enter Try.func40, Try.ntmps40
    go_wp2
    go_ret
    exact ⟨rfl, HB.out⟩
  · rw [if_neg h1]
    have h1' : decide ((16 : Int) < (key.size : Int)) = false := by simp; omega
    clear h1
    rw [hl]
    by_cases h8 : 8 < n
    · rw [if_pos h8]
      go_enter Try.func40, Try.ntmps40
      go_wp2
      go_ret
      exact ⟨rfl, HB.out⟩
    · rw [if_neg h8]
      have HL := Lib.hid hl
      have HR := Lib.hid (fun W (h : Below w.heap.size w W) => hr.below h)
      have HF := Lib.hid (fun (k : Nat) (x : Vn) => vsFaults_first (l := l) (k := k) (x := x))
      have HN := Lib.hid (vsFaults_none (l := l))
      obtain ⟨R, hR⟩ : ∃ R, R = if vsFaults l = 0 then (if vsOrd l then 0 else 12) else vsFaults l := ⟨_, rfl⟩
      rw [← hR]
      have HV := Lib.hid hR
      clear hl hr hR
      go_enter Try.func40, Try.ntmps40
      go_upto_region 1 with fail
      generalize w.alloc (.cells #[.string key, .slice A n c] 24) = W0 at *
      have s0 := SX.out.c0
      have s1 := SX.out.c1
      go_wp2
      go_loopw [3, 4] (fun i _ wr => ∃ k : Nat, k ≤ n ∧ i = .int .i64 (k : Int) ∧ (∀ (j : Nat) (a : Vn), j < k → l[j]? = some a → vsFault a = 0) ∧ Below w.heap.size w wr ∧ StBox wr w.heap.size key A n c) (fun i _ _ => n - (intOf i).toNat)
      case atStart => exact ⟨0, Nat.zero_le _, rfl, fun j a hj => by omega, HB.out, SX.out⟩
      case round =>
        clear s0 s1
        obtain ⟨k, hk, rfl, hf, hb, hs⟩ := hrel
        have HG := Lib.hid hf
        have s1 := hs.c1
        by_cases hlt : k < n
        · obtain ⟨x, hx⟩ : ∃ x, l[k]? = some x := ⟨l[k]'(by rw [HL.out]; exact hlt), List.getElem?_eq_getElem _⟩
          obtain ⟨ad, rfl, hv⟩ := (HR.out _ hb).vn hx
          have c0 := hv.d0; have c1 := hv.d1; have c2 := hv.d2; have c3 := hv.d3
          have HX := Lib.hid hx
          have HBr := Lib.hid (hb.alloc hb.size (.cells #[.int .i64 x.txn, .int .i64 x.ts, .bool x.gone, .string x.val] 66))
          have HSr := Lib.hid (hs.alloc (.cells #[.int .i64 x.txn, .int .i64 x.ts, .bool x.gone, .string x.val] 66))
          have HE : Hid (∀ z, vsFault x = z → z ≠ 0 → R = z) := Lib.hid fun z e hz => by
            have h := HF.out k x hf hx (by rw [e]; exact hz)
            rw [HV.out, if_neg (by rw [h, e]; exact hz), h, e]
          have HZ : Hid (vsFault x = 0 → ∀ (j : Nat) (a : Vn), j < k + 1 → l[j]? = some a → vsFault a = 0) := Lib.hid fun h j a hj ha => by
            by_cases ej : j = k
            · subst ej
              rw [hx] at ha
              injection ha with ha
              rw [← ha]; exact h
            · exact hf j a (by omega) ha
          have K1 := Lib.hid (fun (W : World) => refIn_any x.txn W)
          have K2 := Lib.hid (fun (W : World) => refIn_any x.ts W)
          have he := ba_isEmpty x.val
          clear hv hx hf hb hs
          by_cases h24 : 24 < x.val.size
          · have e1 := HE.out 5 (fault5 h24) (by omega)
            have h24' : decide ((24 : Int) < (x.val.size : Int)) = true := by simp; omega
            clear h24
            go_wp2
            go_ret
            exact ⟨by rw [e1]; rfl, HBr.out⟩
          · have h24' : decide ((24 : Int) < (x.val.size : Int)) = false := by simp; omega
            have H24 := Lib.hid h24
            clear h24
            by_cases hge : x.gone = true ∧ x.val ≠ ⟨#[]⟩
            · have e1 := Lib.hid (HE.out 4 (fault4 H24.out hge.1 hge.2) (by omega))
              have hg := hge.1
              rw [decide_eq_false hge.2] at he
              clear hge
              go_wp2
              go_ret
              exact ⟨by rw [e1.out]; rfl, by have h := HBr.out; rw [hg] at h; exact h⟩
            · have HFR := Lib.hid (faultR H24.out hge)
              have hgc : x.gone = false ∨ (x.gone = true ∧ x.val.toList.isEmpty = true) := by
                cases hxg : x.gone with
                | false => exact .inl rfl
                | true => exact .inr ⟨rfl, by rw [he]; exact decide_eq_true (Classical.byContradiction fun h => hge ⟨hxg, h⟩)⟩
              clear hge he
              generalize vsIn x.txn = d1 at *
              generalize vsIn x.ts = d2 at *
              have hdd : d1 = false ∨ (d1 = true ∧ d2 = false) ∨ (d1 = true ∧ d2 = true) := by cases d1 <;> cases d2 <;> simp
              rcases hgc with hg | ⟨hg, he2⟩
              all_goals
                rcases hdd with rfl | ⟨rfl, rfl⟩ | ⟨rfl, rfl⟩
                · have e1 := Lib.hid (HE.out 9 (by rw [HFR.out]; rfl) (by omega))
                  clear HFR HE HZ
                  go_wp2_with (first | (go_at_call 79; (with_reducible refine Calls.mono (K1.out _) ?_); rintro e w1 ⟨rfl, rfl⟩) | fail)
                  go_ret
                  exact ⟨by rw [e1.out]; rfl, by have h := HBr.out; rw [hg] at h; exact h⟩
                · have e1 := Lib.hid (HE.out 9 (by rw [HFR.out]; rfl) (by omega))
                  clear HFR HE HZ
                  go_wp2_with (first | (go_at_call 79; (with_reducible refine Calls.mono (K1.out _) ?_); rintro e w1 ⟨rfl, rfl⟩) | (go_at_call 79; (with_reducible refine Calls.mono (K2.out _) ?_); rintro e w1 ⟨rfl, rfl⟩) | fail)
                  go_ret
                  exact ⟨by rw [e1.out]; rfl, by have h := HBr.out; rw [hg] at h; exact h⟩
                · have H0 := Lib.hid (HZ.out (by rw [HFR.out]; rfl))
                  clear HFR HE HZ
                  go_wp2_with (first | (go_at_call 79; (with_reducible refine Calls.mono (K1.out _) ?_); rintro e w1 ⟨rfl, rfl⟩) | (go_at_call 79; (with_reducible refine Calls.mono (K2.out _) ?_); rintro e w1 ⟨rfl, rfl⟩) | fail)
                  go_round
                  case rel => exact ⟨k + 1, by omega, by go_num, H0.out, by have h := HBr.out; rw [hg] at h; exact h, by have h := HSr.out; rw [hg] at h; exact h⟩
                  case measure => simp [intOf]; omega
        · obtain rfl : k = n := by omega
          have e0 := Lib.hid (HN.out (by rw [HL.out]; exact hf))
          have HBr := Lib.hid hb
          have HSr := Lib.hid hs
          clear hf hb hs
          have HT := Lib.hid (fun (h : vsOrdTo l l.length) => show R = 0 from by rw [HV.out, if_pos e0.out, if_pos h.all])
          have HF2 := Lib.hid (fun (i j : Nat) (a b : Vn) (hij : i < j) (ha : l[i]? = some a) (hb : l[j]? = some b) (h : vsFol b a = false) => show R = 12 from by
            rw [HV.out, if_pos e0.out, if_neg (fun g => by
              have := g i j a b hij ha hb
              rw [h] at this
              cases this)])
          clear HV HF HN
          go_wp2_with fail
          clear s1
          go_loopw [5, 6, 7, 8] (fun i _ _ _ wq => ∃ j : Nat, j ≤ k ∧ i = .int .i64 (j : Int) ∧ vsOrdTo l j ∧ Below w.heap.size w wq ∧ StBox wq w.heap.size key A k c) (fun i _ _ _ _ => k - (intOf i).toNat)
          case atStart => exact ⟨0, Nat.zero_le _, rfl, fun i j a b _ hj => by omega, HBr.out, HSr.out⟩
          case round =>
            clear HBr HSr
            obtain ⟨j, hj, rfl, ho, hb, hs⟩ := hrel
            have HO := Lib.hid ho
            have s1 := hs.c1
            by_cases hlt2 : j < k
            · obtain ⟨b, hbx⟩ : ∃ b, l[j]? = some b := ⟨l[j]'(by rw [HL.out]; exact hlt2), List.getElem?_eq_getElem _⟩
              have HX := Lib.hid hbx
              have HBr := Lib.hid hb
              have HSr := Lib.hid hs
              clear hbx hb hs ho
              go_wp2_with fail
              go_loopw [6, 7, 8] (fun i _ _ wz => ∃ m : Nat, m ≤ j ∧ i = .int .i64 (m : Int) ∧ (∀ (i : Nat) (a : Vn), i < m → l[i]? = some a → vsFol b a = true) ∧ Below w.heap.size w wz ∧ StBox wz w.heap.size key A k c) (fun i _ _ _ => j - (intOf i).toNat)
              case atStart => exact ⟨0, Nat.zero_le _, rfl, fun i a hi => by omega, HBr.out, HSr.out⟩
              case round =>
                clear HBr HSr s1
                obtain ⟨m, hm, rfl, hf, hbw, hs⟩ := hrel
                have HG := Lib.hid hf
                by_cases hlt3 : m < j
                · obtain ⟨a, ha⟩ : ∃ a, l[m]? = some a := ⟨l[m]'(by rw [HL.out]; omega), List.getElem?_eq_getElem _⟩
                  obtain ⟨ad, rfl, _⟩ := (HR.out _ hbw).vn ha
                  have F : Hid (∀ V, Below wr.heap.size wr V → V.cell? ⟨w.heap.size, 1, none⟩ = some (.slice (some ad) k c) ∧ VnAt V (ad.add (m * 4)) a ∧ VnAt V (ad.add (j * 4)) b) := Lib.hid fun V h => by
                    have h1 := HR.out V (hbw.trans (h.mono hbw.size))
                    obtain ⟨ad1, e1, g1⟩ := h1.vn ha
                    obtain ⟨ad2, e2, g2⟩ := h1.vn HX.out
                    injection e1 with e1
                    injection e2 with e2
                    subst e1
                    subst e2
                    exact ⟨(hs.on h).c1, g1, g2⟩
                  have HA := Lib.hid ha
                  have HBw := Lib.hid hbw
                  have HSw := Lib.hid hs
                  have s1 := hs.c1
                  clear ha hf hbw hs
                  go_upto_region 21 with fail
                  go_cut [7, 8] from 67 to 76 (fun p q wx => ∃ a8 b8, p = .pointer (some ⟨a8, 0, none⟩) ∧ q = .pointer (some ⟨b8, 0, none⟩) ∧ VnBox wx a8 a ∧ VnBox wx b8 b ∧ Below wr.heap.size wr wx)
                  case first =>
                    have b0 := Lib.hid (Below.refl wr.heap.size wr).drew
                    have b1 := Lib.hid (fun o => (below1 wr o).drew)
                    have b2 := Lib.hid (fun o1 o2 => (below2 wr o1 o2).drew)
                    have G : Hid (∀ W, Below wr.heap.size wr W → W.cell? ⟨w.heap.size, 1, none⟩ = some (.slice (some ad) k c) ∧ W.cell? (ad.add (m * 4)) = some (.int .i64 a.txn) ∧ W.cell? ⟨(ad.add (m * 4)).block, (ad.add (m * 4)).off + 1, none⟩ = some (.int .i64 a.ts) ∧ W.cell? ⟨(ad.add (m * 4)).block, (ad.add (m * 4)).off + 2, none⟩ = some (.bool a.gone) ∧ W.cell? ⟨(ad.add (m * 4)).block, (ad.add (m * 4)).off + 3, none⟩ = some (.string a.val) ∧ W.cell? (ad.add (j * 4)) = some (.int .i64 b.txn) ∧ W.cell? ⟨(ad.add (j * 4)).block, (ad.add (j * 4)).off + 1, none⟩ = some (.int .i64 b.ts) ∧ W.cell? ⟨(ad.add (j * 4)).block, (ad.add (j * 4)).off + 2, none⟩ = some (.bool b.gone) ∧ W.cell? ⟨(ad.add (j * 4)).block, (ad.add (j * 4)).off + 3, none⟩ = some (.string b.val)) := Lib.hid fun W h => by
                      obtain ⟨g0, g1, g2⟩ := F.out W h
                      exact ⟨g0, g1.d0, g1.d1, g1.d2, g1.d3, g2.d0, g2.d1, g2.d2, g2.d3⟩
                    have PB : Hid (∀ x y : Vn, VnBox ((wr.alloc (.cells #[.int .i64 x.txn, .int .i64 x.ts, .bool x.gone, .string x.val] 66)).alloc (.cells #[.int .i64 y.txn, .int .i64 y.ts, .bool y.gone, .string y.val] 66)).drew wr.heap.size x ∧ VnBox ((wr.alloc (.cells #[.int .i64 x.txn, .int .i64 x.ts, .bool x.gone, .string x.val] 66)).alloc (.cells #[.int .i64 y.txn, .int .i64 y.ts, .bool y.gone, .string y.val] 66)).drew (wr.heap.size + 1) y) := Lib.hid fun x y => ⟨((VnBox.new wr x _).alloc _).drew, by
                      have h := VnBox.new (wr.alloc (.cells #[.int .i64 x.txn, .int .i64 x.ts, .bool x.gone, .string x.val] 66)) y 66
                      rw [show (wr.alloc (.cells #[.int .i64 x.txn, .int .i64 x.ts, .bool x.gone, .string x.val] 66)).heap.size = wr.heap.size + 1 from by simp] at h
                      exact h.drew⟩
                    have hmk : m < k := by omega
                    obtain ⟨e0, e1, e2, e3, e4, e5, e6, e7, e8⟩ := G.out _ b0.out
                    go_region_held3 (fun W => W.cell? ⟨w.heap.size, 1, none⟩ = some (.slice (some ad) k c) ∧ W.cell? (ad.add (m * 4)) = some (.int .i64 a.txn) ∧ W.cell? ⟨(ad.add (m * 4)).block, (ad.add (m * 4)).off + 1, none⟩ = some (.int .i64 a.ts) ∧ W.cell? ⟨(ad.add (m * 4)).block, (ad.add (m * 4)).off + 2, none⟩ = some (.bool a.gone) ∧ W.cell? ⟨(ad.add (m * 4)).block, (ad.add (m * 4)).off + 3, none⟩ = some (.string a.val) ∧ W.cell? (ad.add (j * 4)) = some (.int .i64 b.txn) ∧ W.cell? ⟨(ad.add (j * 4)).block, (ad.add (j * 4)).off + 1, none⟩ = some (.int .i64 b.ts) ∧ W.cell? ⟨(ad.add (j * 4)).block, (ad.add (j * 4)).off + 2, none⟩ = some (.bool b.gone) ∧ W.cell? ⟨(ad.add (j * 4)).block, (ad.add (j * 4)).off + 3, none⟩ = some (.string b.val)) (first | with_reducible exact ⟨e0, e1, e2, e3, e4, e5, e6, e7, e8⟩ | with_reducible exact G.out _ (b1.out _) | with_reducible exact G.out _ (b2.out _ _) | fail) (fail)
                    all_goals
                      go_wp2_with fail
                      go_meet
                      first | exact ⟨_, _, rfl, rfl, (PB.out a b).1, (PB.out a b).2, b2.out _ _⟩ | exact ⟨_, _, rfl, rfl, (PB.out b a).2, (PB.out b a).1, b2.out _ _⟩
                  case rest =>
                    obtain ⟨a8, b8, rfl, rfl, va, vb, hbx⟩ := hcut
                    obtain ⟨x0, x1, x2, x3, _, _, _, _⟩ := va
                    obtain ⟨y0, y1, y2, y3, _, _, _, _⟩ := vb
                    have HBx := Lib.hid (HBw.out.trans (hbx.mono HBw.out.size))
                    have HSx := Lib.hid (HSw.out.on hbx)
                    clear hbx s1
                    rcases fol_cases a b with ⟨hv, hc⟩ | ⟨hv, hc⟩
                    · have e1 := Lib.hid (HF2.out m j a b hlt3 HA.out HX.out hv)
                      clear hv
                      rcases hc with ⟨d1, d2⟩ | ⟨d1, d2, d3⟩ | ⟨d1, d2, d3⟩
                      all_goals
                        go_wp2
                        go_ret
                        exact ⟨by rw [e1.out]; rfl, HBx.out⟩
                    · have HV2 := Lib.hid hv
                      clear hv
                      rcases hc with ⟨d1, d2, d3⟩ | ⟨d1, d2⟩ | ⟨d1, d2, d3⟩
                      all_goals
                        go_wp2
                        go_round
                        case rel => exact ⟨m + 1, by omega, by go_num, fun i x hi hx => by
                          by_cases ej : i = m
                          · subst ej
                            rw [HA.out] at hx
                            injection hx with hx
                            rw [← hx]; exact HV2.out
                          · exact HG.out i x (by omega) hx, HBx.out, HSx.out⟩
                        case measure => simp [intOf]; omega
                · obtain rfl : m = j := by omega
                  have HBw := Lib.hid hbw
                  have HSw := Lib.hid hs
                  clear hbw hf hs
                  go_wp2
                  go_round
                  case rel => exact ⟨m + 1, by omega, by go_num, fun i i2 a b2 hij hj ha hb => by
                    by_cases ej : i2 = m
                    · subst ej
                      rw [HX.out] at hb
                      injection hb with hb
                      rw [← hb]
                      exact HG.out i a hij ha
                    · exact HO.out i i2 a b2 hij (by omega) ha hb, HBw.out, HSw.out⟩
                  case measure => simp [intOf]; omega
            · obtain rfl : j = k := by omega
              have e2 := Lib.hid (HT.out (by rw [HL.out]; exact HO.out))
              have HBr := Lib.hid hb
              clear hb ho hs
              go_wp2
              go_ret
              exact ⟨by rw [e2.out]; rfl, HBr.out⟩
end Go.Proofs.Ytjmmaghjbaigiaa
