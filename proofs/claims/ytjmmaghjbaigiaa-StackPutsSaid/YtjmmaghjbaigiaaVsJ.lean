/- Versions: slices.Insert, walked. -/
import Derived.Test.YtjmmaghjbaigiaaVsI
import Derived.Deep.DeepMust
namespace Go.Proofs.Ytjmmaghjbaigiaa
open Go.RowKit
set_option linter.unusedVariables false
set_option linter.unusedSimpArgs false
set_option maxHeartbeats 2000000 in
set_option maxRecDepth 100000 in
theorem vsInsert_end (base : Nat) (v : Value) (n : Nat) (A : Option Addr) (c m vb vc : Nat) (l vs : List Vn) (w : World) (hv : v = .slice A n c) (ho : OG KV 66 base w v l) (hl : l.length = n) (hn : n ≤ 1000) (hm : vs.length = m) (h0 : 0 < m) (hm1 : m ≤ 1000) (hr : RG KV w (some ⟨vb, 0, none⟩) vs) (hbase : base ≤ w.heap.size) (hcn : n ≤ c) (hcm : c ≤ maxLen) :
    Calls Try.prog 74 #[v, .int .i64 (n : Int), .slice (some ⟨vb, 0, none⟩) m vc] w fun e w' => ∃ v', e = .returned v' ∧ OG KV 66 base w' v' (l ++ vs) ∧ Below base w w' := by
  subst hv
  have HO := Lib.hid ho
  have HR := Lib.hid hr
  have HL := Lib.hid hl
  have HM := Lib.hid hm
  have hz1 : ¬ ((m : Int) = 0) := by omega
  have hci : n ≤ c := hcn
  unfold maxLen at hcm
  clear ho hr hl hm
  go_enter Try.func74, Try.ntmps74
  go_wp2_with (at_builtin; (refine wpList_append_G tgV rfl _ _ rfl base _ l rfl HO.out (some ⟨vb, 0, none⟩) m vc vs rfl HM.out HR.out (Apart.flat vn_flat) (by rw [HL.out]; omega) hbase ?_; intro v1 w1 o1 b1 _ _))
  all_goals (go_ret; exact ⟨_, rfl, o1, b1⟩)
theorem RG.keepV {w w' : World} {ad : Addr} {l : List Vn} (h : RG KV w (some ad) l) (hb : w'.heap[ad.block]? = w.heap[ad.block]?) : RG KV w' (some ad) l := (h.keepF fun b ⟨j, x, ad', cs, h1, h2, h3, h4, h5⟩ => by
  injection h2 with h2
  subst h2
  rcases h5 with h5 | h5
  · rw [← h5]; exact hb
  · exact h5.elim).1
theorem flatV_shift {xs : List Value} {l vs : List Vn} {i m n : Nat} (hi : i ≤ n) (hl : l.length = n) (hm : vs.length = m) (hx : xs.length = (n + m) * 4) (h : xs.take (i * 4) = flatV (l.take i)) :
    (xs.take ((i + m) * 4) ++ flatV (l.drop i) ++ xs.drop ((i + m + (n - i)) * 4)).take (i * 4) ++ flatV vs ++ (xs.take ((i + m) * 4) ++ flatV (l.drop i) ++ xs.drop ((i + m + (n - i)) * 4)).drop ((i + m) * 4) = flatV (l.take i ++ vs ++ l.drop i) := by
  have e1 : (xs.take ((i + m) * 4)).length = (i + m) * 4 := by rw [List.length_take]; omega
  rw [List.append_assoc (xs.take _), List.take_append_of_le_length (by omega), List.take_take, Nat.min_eq_left (by omega), h, List.drop_append_of_le_length (by omega), List.drop_of_length_le (by omega), List.nil_append, List.drop_of_length_le (l := xs) (by omega), List.append_nil, flatV_app, flatV_app]
theorem flatV_grow {xs : List Value} {l vs : List Vn} {i m n : Nat} (hi : i ≤ n) (hl : l.length = n) (hm : vs.length = m) (hx : xs.length = (n + m) * 4) (h : xs.take (i * 4) = flatV (l.take i)) :
    (xs.take (i * 4) ++ flatV vs ++ xs.drop ((i + m) * 4)).take ((i + m) * 4) ++ flatV (l.drop i) ++ (xs.take (i * 4) ++ flatV vs ++ xs.drop ((i + m) * 4)).drop ((i + m + (n - i)) * 4) = flatV (l.take i ++ vs ++ l.drop i) := by
  have e0 : (flatV vs).length = m * 4 := by rw [flatV_len, hm]
  have e1 : (xs.take (i * 4)).length = i * 4 := by rw [List.length_take]; omega
  have e2 : (xs.take (i * 4) ++ flatV vs).length = (i + m) * 4 := by rw [List.length_append, e0, e1]; omega
  rw [List.take_append_of_le_length (by omega), List.take_of_length_le (by omega), List.drop_of_length_le (l := xs.take (i * 4) ++ flatV vs ++ xs.drop ((i + m) * 4)) (by rw [List.length_append, e2, List.length_drop]; omega), List.append_nil, h, flatV_app, flatV_app]
theorem frozen_plain {w : World} {b j : Nat} {cs : Array Value} {t : TypeId} (h : w.heap[b]? = some (.cells cs t (0, 0))) : w.frozen? ⟨b, j, none⟩ = false := by simp [World.frozen?, h]
theorem shape_plain {w : World} {b : Nat} {cs : Array Value} {t : TypeId} (h : w.heap[b]? = some (.cells cs t (0, 0))) : w.shape? b = some (t, cs.size) := by simp [World.shape?, h]
set_option maxHeartbeats 4000000 in
set_option maxRecDepth 100000 in
theorem vsInsert_shift (base g n c i m vb vc : Nat) (vcs : Array Value) (l vs : List Vn) (w : World) (ho : OG KV 66 base w (.slice (some ⟨g, 0, none⟩) n c) l) (hl : l.length = n) (hn : n ≤ 1000) (hi : i < n) (hm : vs.length = m) (h0 : 0 < m) (hm1 : m ≤ 1000) (hroom : n + m ≤ c) (hr : RG KV w (some ⟨vb, 0, none⟩) vs) (hvb : w.heap[vb]? = some (.cells vcs 66 (0, 0))) (hne : vb ≠ g) (hcm : c ≤ maxLen) :
    Calls Try.prog 74 #[.slice (some ⟨g, 0, none⟩) n c, .int .i64 (i : Int), .slice (some ⟨vb, 0, none⟩) m vc] w fun e w' => ∃ v', e = .returned v' ∧ OG KV 66 base w' v' (l.take i ++ vs ++ l.drop i) ∧ Below base w w' := by
  have hz1 : ¬ ((m : Int) = 0) := by omega
  have hz2 : ¬ ((i : Int) = (n : Int)) := by omega
  have hw1 : IntKind.i64.wrap ((i : Int) + (m : Int)) = (i : Int) + (m : Int) := by rw [IntKind.wrap_i64]; omega
  have hb1 : (0 : Int) ≤ (i : Int) + (m : Int) := by omega
  have hin : i ≤ n := by omega
  have htn : ((i : Int) + (m : Int)).toNat = i + m := by omega
  have hb2 : ¬ (c = i + m) := by omega
  have hb3 : (i : Int) ≤ (n : Int) + (m : Int) := by omega
  have hb4 : ¬ (c = i) := by omega
  have hdl : (l.drop i).length = n - i := by rw [List.length_drop, hl]
  have hown := ho.flatV
  rw [hl] at hown
  rcases hown.2 with ⟨e, _⟩ | ⟨g', cap', cur, e, hbg, hg, hnc, hcm', hcs, ht⟩
  · cases e
  · injection e with e1 e2 e3
    injection e1 with e1
    injection e1 with e1
    subst e1 e3
    have hbig : w.ownsRow base 66 4 (.slice (some ⟨g, 0, none⟩) (n + m) c) (n + m) (cur.toList.take ((n + m) * 4)) := ⟨by rw [List.length_take, Array.length_toList, hcs, Nat.min_eq_left (by omega)], .inr ⟨g, c, cur, rfl, hbg, hg, hroom, hcm, hcs, rfl⟩⟩
    have hov : ∀ lb cb, (callFunc 103 #[.slice (some ⟨vb, 0, none⟩) m vc, .slice (some ⟨g, (i + m) * 4, none⟩) lb cb]).run Try.prog w = .ok (.value (.bool false)) w := fun lb cb => overlaps_not hne (shape_plain hvb) (shape_plain hg) (by rw [hcs]; omega) (frozen_plain hvb) (frozen_plain hvb)
    have HD : RG KV w (some ⟨g, i * 4, none⟩) (l.drop i) := by
      obtain ⟨A, c', e, _, _, hrg, _⟩ := ho.rg
      injection e with e1 e2 e3
      subst e1
      have := hrg.drop i
      rwa [Addr.add_lit, Nat.zero_add] at this
    have HDR := Lib.hid HD.drew
    have HRR := Lib.hid hr
    have HL := Lib.hid hl
    have HM := Lib.hid hm
    have HDL := Lib.hid hdl
    have HB := Lib.hid (show w.drew.ownsRow base 66 4 (.slice (some ⟨g, 0, none⟩) (n + m) c) (n + m) (cur.toList.take ((n + m) * 4)) from hbig)
    have HNE := Lib.hid hne
    have HT := Lib.hid ht
    have HBG := Lib.hid hbg
    have hmin1 := Lib.hid (show Nat.min (n + m - i) (n + m - (i + m)) = n - i from by show min _ _ = _; omega)
    have hmin2 := Lib.hid (show Nat.min m (n + m - i) = m from Nat.min_eq_left (by omega))
    unfold maxLen at hcm
    have HCS := Lib.hid hcs
    clear HD hr hl hm hdl hbig ho hown hg hcs ht hvb hne hnc hcm' hbg
    go_enter Try.func74, Try.ntmps74
    go_wp2_with (simp only [hov])
    go_region_held3 (fun _ => True) (exact trivial) (first | (refine step_copy_V rfl (.tmp 73) (.tmp 76) rfl HB.out (i + m) ((i + m) * 4) (n + m - (i + m)) (c - (i + m)) (n - i) (n + m - i) (c - i) ⟨g, i * 4, none⟩ (l.drop i) (by simp [Act.eval, Act.put]) (by simp [Act.eval, Act.put]) rfl HDR.out HDL.out hmin1.out (by omega) ?_; intro w1 o1 f1 b1; have R1 := Lib.hid (HRR.out.keepV (w' := w1) (f1 vb HNE.out)); have O1 := Lib.hid o1; have B1 := Lib.hid (show Below base w w1 from (Below.refl base w).drew.trans b1); clear o1 f1 b1) | fail)
    go_wp2_with (first | (refine wpList_copy_V rfl (.tmp 80) (.tmp 81) rfl O1.out i (i * 4) (n + m - i) (c - i) m m vc ⟨vb, 0, none⟩ vs rfl rfl rfl R1.out HM.out hmin2.out (by omega) ?_; intro w2 o2 f2 b2; have O2 := Lib.hid o2; have B2 := Lib.hid b2; clear o2 f2 b2) | fail)
    go_ret
    have hfin := O2.out
    rw [flatV_shift (n := n) (by omega) HL.out HM.out (by rw [List.length_take, Array.length_toList, HCS.out]; omega) (by rw [List.take_take, Nat.min_eq_left (by omega), ← flatV_take, ← HT.out, List.take_take, Nat.min_eq_left (by omega)])] at hfin
    exact ⟨_, rfl, OG.ofFlat (n := n + m) hfin (by simp only [List.length_append, List.length_take, List.length_drop, HL.out, HM.out]; omega), B1.out.trans B2.out⟩
set_option maxHeartbeats 4000000 in
set_option maxRecDepth 100000 in
theorem vsInsert_grow (ad : Addr) (n c i m vb vc : Nat) (l vs : List Vn) (w : World) (ho : RG KV w (some ad) l) (hl : l.length = n) (hn : n ≤ 1000) (hi : i < n) (hm : vs.length = m) (h0 : 0 < m) (hm1 : m ≤ 1000) (hroom : c < n + m) (hnc : n ≤ c) (hr : RG KV w (some ⟨vb, 0, none⟩) vs) :
    Calls Try.prog 74 #[.slice (some ad) n c, .int .i64 (i : Int), .slice (some ⟨vb, 0, none⟩) m vc] w fun e w' => ∃ v', e = .returned v' ∧ OG KV 66 w.heap.size w' v' (l.take i ++ vs ++ l.drop i) ∧ Below w.heap.size w w' := by
  have hz1 : ¬ ((m : Int) = 0) := by omega
  have hz2 : ¬ ((i : Int) = (n : Int)) := by omega
  have hz3 : (c : Int) < (n : Int) + (m : Int) := by omega
  have hw1 : IntKind.i64.wrap ((i : Int) + (m : Int)) = (i : Int) + (m : Int) := by rw [IntKind.wrap_i64]; omega
  have hb1 : (0 : Int) ≤ (i : Int) + (m : Int) := by omega
  have hin : i ≤ n := by omega
  have htn : ((i : Int) + (m : Int)).toNat = i + m := by omega
  have hb3 : (i : Int) ≤ (n : Int) + (m : Int) := by omega
  have hb4 : ¬ (c = i) := by omega
  have hkk : (n : Int) + (m : Int) - (i : Int) = ((n + m - i : Nat) : Int) := by omega
  have hik : i + (n + m - i) = n + m := by omega
  obtain ⟨i0, hi0, hz0, hzs, hzb⟩ := info_parts infoV
  have hold : (Builtin.firstCells i0.size i (.slice (some ad) i c)).run Try.prog w.drew = .ok (flatV (l.take i)).toArray w.drew := by
    rw [hzs]
    exact run_firstCells_some w.drew 4 i ad i c (flatV (l.take i)) (by rw [flatV_len, List.length_take]; omega) (fun j v hj => (ho.drew.take i).flatV j v hj)
  have hrz : ∀ ty, (Builtin.append_ #[22, 3] ty #[.slice (some ad) i c, .int .i64 ((n : Int) + (m : Int) - (i : Int))]).run Try.prog w =
      .ok (.slice (some ⟨w.heap.size, 0, none⟩) (n + m) (grownCap w (n + m) c 66)) (w.drew.alloc (.cells ((flatV (l.take i)).toArray ++ Builtin.zeroCells (Value.agg #[.int .i64 0, .int .i64 0, .bool false, .string ⟨#[]⟩]).cells (n + m - i) ++ Builtin.zeroCells (Value.agg #[.int .i64 0, .int .i64 0, .bool false, .string ⟨#[]⟩]).cells (grownCap w (n + m) c 66 - (n + m))) 66)) := fun ty => by
    have h := Lib.run_append_grow_zeros w 22 3 ty 66 i0 _ .i64 .i64 Try.underlying22 Try.underlying3 hi0 hz0 (some ad) i c (flatV (l.take i)) hold (n + m - i) (by omega) (by omega) (by omega) (by omega) (by rw [hzb]; omega) (by rw [hzb, hik]; exact growslice_fits hroom (by omega))
    rw [hik] at h
    rw [hkk]
    exact h
  have hGn := grownCap_ge w (n + m) c 66
  have hGm := grownCap_le_maxLen w (n + m) c 66 (by unfold maxLen; omega)
  generalize grownCap w (n + m) c 66 = G at hrz hGn hGm
  obtain ⟨ROW, hROW⟩ : ∃ ROW : Array Value, ROW = (flatV (l.take i)).toArray ++ Builtin.zeroCells (Value.agg #[.int .i64 0, .int .i64 0, .bool false, .string ⟨#[]⟩]).cells (n + m - i) ++ Builtin.zeroCells (Value.agg #[.int .i64 0, .int .i64 0, .bool false, .string ⟨#[]⟩]).cells (G - (n + m)) := ⟨_, rfl⟩
  rw [← hROW] at hrz
  have hli : (flatV (l.take i)).length = i * 4 := by rw [flatV_len, List.length_take]; omega
  have hRs : ROW.size = G * 4 := by
    rw [hROW, Array.size_append, Array.size_append, size_zeroCells, size_zeroCells]
    simp only [List.size_toArray, hli]
    show i * 4 + (n + m - i) * 4 + (G - (n + m)) * 4 = G * 4
    omega
  have hRt : ROW.toList.take (i * 4) = flatV (l.take i) := by
    rw [hROW]
    simp only [Array.toList_append]
    rw [List.append_assoc, List.take_append_of_le_length (by omega), List.take_of_length_le (by omega)]
  have hRun : ∀ ty, ∃ v' w', (Builtin.append_ #[22, 3] ty #[.slice (some ad) i c, .int .i64 ((n : Int) + (m : Int) - (i : Int))]).run Try.prog w = .ok v' w' ∧ (v' = .slice (some ⟨w.heap.size, 0, none⟩) (n + m) G ∧ w'.ownsRow w.heap.size 66 4 (.slice (some ⟨w.heap.size, 0, none⟩) (n + m) G) (n + m) (ROW.toList.take ((n + m) * 4)) ∧ Below w.heap.size w w') := fun ty =>
    ⟨_, _, hrz ty, rfl, ⟨by rw [List.length_take, Array.length_toList, hRs]; omega, .inr ⟨w.heap.size, G, ROW, rfl, Nat.le_refl _, heap_alloc_last w.drew _, hGn, hGm, hRs, rfl⟩⟩, ((Below.refl _ w).drew).alloc (Nat.le_refl _) _⟩
  have hG63 : G ≤ 9223372036854775807 := by unfold maxLen at hGm; omega
  have hGi : ¬ (G = i) := by omega
  have hGim : ¬ (G = i + m) := by omega
  have HRun := Lib.hid hRun
  have HRR := Lib.hid (fun W (h : Below w.heap.size w W) => hr.below h)
  have HSR := Lib.hid (fun W (h : Below w.heap.size w W) => (ho.below h).drop i)
  have HRT := Lib.hid hRt
  have HRS := Lib.hid hRs
  have HL := Lib.hid hl
  have HM := Lib.hid hm
  have HDL := Lib.hid (show (l.drop i).length = n - i from by rw [List.length_drop, hl])
  have hmin1 := Lib.hid (show Nat.min m (n + m - i) = m from Nat.min_eq_left (by omega))
  have hmin2 := Lib.hid (show Nat.min (n - i) (n + m - (i + m)) = n - i from by show min _ _ = _; omega)
  have hwl : w.heap.size = w.heap.size := rfl
  clear hRun hrz hold hROW hRt hRs hr ho hl hm hkk hik hli hGm hi0 hz0 hzs hzb
  go_enter Try.func74, Try.ntmps74
  go_wp2_with (first
    | (at_builtin; (refine wpList_append_of rfl (.tmp 34) (.tmp 39) rfl _ _ rfl rfl (HRun.out _) ?_); rintro v1 w1 ⟨rfl, o1, b1⟩; have O1 := Lib.hid o1; have B1 := Lib.hid b1; have R1 := Lib.hid (HRR.out w1 b1); clear o1 b1)
    | (refine wpList_copy_V rfl (.tmp 43) (.tmp 44) rfl O1.out i (i * 4) (n + m - i) (G - i) m m vc ⟨vb, 0, none⟩ vs rfl rfl rfl R1.out HM.out hmin1.out (by omega) ?_; intro w2 o2 f2 b2; have O2 := Lib.hid (show w2.drew.ownsRow _ _ _ _ _ _ from o2); have B2 := Lib.hid (B1.out.trans b2); have S2 := Lib.hid (HSR.out w2 B2.out).drew; clear o2 f2 b2)
    | fail)
  go_region_held3 (fun _ => True) (exact trivial) (first | (refine step_copy_V rfl (.tmp 50) (.tmp 53) rfl O2.out (i + m) ((i + m) * 4) (n + m - (i + m)) (G - (i + m)) (n - i) (n - i) (c - i) (ad.add (i * 4)) (l.drop i) (by simp [Act.eval, Act.put]) (by simp [Act.eval, Act.put]) rfl S2.out HDL.out hmin2.out (by omega) ?_; intro w3 o3 f3 b3; have O3 := Lib.hid o3; have B3 := Lib.hid (show Below w.heap.size w w3 from B2.out.drew.trans b3); clear o3 f3 b3) | fail)
  go_wp2
  go_ret
  have hfin := O3.out
  rw [flatV_grow (n := n) (by omega) HL.out HM.out (by rw [List.length_take, Array.length_toList, HRS.out]; omega) (by rw [List.take_take, Nat.min_eq_left (by omega), HRT.out])] at hfin
  exact ⟨_, rfl, OG.ofFlat (n := n + m) hfin (by simp only [List.length_append, List.length_take, List.length_drop, HL.out, HM.out]; omega), B3.out⟩
/-- slices.Insert of one version into a row of one's own. -/
theorem vsInsert_any (base : Nat) (v : Value) (i vb vc : Nat) (vcs : Array Value) (l : List Vn) (x : Vn) (w : World) (ho : OG KV 66 base w v l) (hn : l.length ≤ 1000) (hi : i ≤ l.length) (hr : RG KV w (some ⟨vb, 0, none⟩) [x]) (hvb : w.heap[vb]? = some (.cells vcs 66 (0, 0))) (hne : v.ownBlock ≠ some vb) (hbase : base ≤ w.heap.size) :
    Calls Try.prog 74 #[v, .int .i64 (i : Int), .slice (some ⟨vb, 0, none⟩) 1 vc] w fun e w' => ∃ v', e = .returned v' ∧ OG KV 66 base w' v' (vsPut l i x) ∧ Below base w w' := by
  obtain ⟨A, c, rfl, h1, h2, h3, h4⟩ := ho.rg
  by_cases he : i = l.length
  · subst he
    refine (vsInsert_end base _ l.length A c 1 vb vc l [x] w rfl ho rfl hn rfl (by omega) (by omega) hr hbase h1 h2).mono ?_
    rintro e w' ⟨v', rfl, o, b⟩
    refine ⟨v', rfl, ?_, b⟩
    unfold vsPut
    rw [List.take_of_length_le (Nat.le_refl _), List.drop_of_length_le (Nat.le_refl _)]
    exact o
  · obtain ⟨ad, rfl⟩ := h3.some_of (by omega)
    have h5 := h4 ad rfl
    by_cases hroom : l.length + 1 ≤ c
    · have had : ad = ⟨ad.block, 0, none⟩ := by
        obtain ⟨css, o, _⟩ := ho
        rcases o.2 with ⟨e, _⟩ | ⟨g, cap, cur, e, _⟩
        · cases e
        · injection e with e _ _
          injection e with e
          rw [e]
      rw [had] at ho hne ⊢
      generalize ad.block = g at *
      refine (vsInsert_shift base g l.length c i 1 vb vc vcs l [x] w ho rfl hn (by omega) rfl (by omega) (by omega) hroom hr hvb (fun e => hne (by rw [e]; rfl)) h2).mono ?_
      rintro e w' ⟨v', rfl, o, b⟩
      refine ⟨v', rfl, ?_, b⟩
      unfold vsPut
      rw [List.append_assoc] at o
      exact o
    · refine (vsInsert_grow ad l.length c i 1 vb vc l [x] w h3 rfl hn (by omega) rfl (by omega) (by omega) (by omega) h1 hr).mono ?_
      rintro e w' ⟨v', rfl, o, b⟩
      refine ⟨v', rfl, ?_, b.mono hbase⟩
      unfold vsPut
      rw [List.append_assoc] at o
      exact o.lift hbase
end Go.Proofs.Ytjmmaghjbaigiaa
