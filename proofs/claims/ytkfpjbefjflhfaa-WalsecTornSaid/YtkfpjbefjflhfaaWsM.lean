/- Records in sectors: the document's Parts and Pack. -/
import Derived.Test.YtkfpjbefjflhfaaWsL
namespace Go.Proofs.Ytkfpjbefjflhfaa
open Go.RowKit
set_option linter.unusedVariables false
set_option linter.unusedSimpArgs false
theorem wsParts_any (A : Option Addr) (n c : Nat) (L : List (List UInt8)) (w : World) (hl : L.length = n) (hn : n ≤ 1000) (hs : ∀ t ∈ L, t.length ≤ 1000) (hr : RS w A L) :
    Calls Try.prog 13 #[.slice A n c] w fun x w' => x = .returned (.int .i64 ((grp L).length : Int)) ∧ Below w.heap.size w w' := by
  have KG := Lib.hid (groups_any A n c L w hl hn hs hr)
  clear hl hr hs
  go_enter Try.func13, Try.ntmps13
  go_wp2_with (go_at_call 25; refine KG.out.mono ?_; rintro x w1 ⟨v, rfl, o, b⟩; obtain ⟨A1, c1, rfl, _, _, _, _⟩ := o.rg; (have B1 := Lib.hid b); clear o b)
  go_ret
  exact ⟨rfl, B1.out⟩
set_option maxHeartbeats 4000000 in
set_option maxRecDepth 100000 in
theorem wsPack_any (A : Option Addr) (n c : Nat) (L : List (List UInt8)) (e f : Int) (w : World) (hl : L.length = n) (hn : n ≤ 1000) (hs : ∀ t ∈ L, t.length ≤ 1000) (hr : RS w A L) :
    Calls Try.prog 10 #[.int .i64 e, .int .i64 f, .slice A n c] w (PackPost w e f L) := by
  have KP := Lib.hid (wsParts_any A n c L w hl hn hs hr)
  have hg := grp_len L
  by_cases h1 : e < 1
  · have HP := Lib.hid (PackPost.no (w := w) (w' := w) (packE_range (e := e) (f := f) (L := L) (fun h => by omega)) (by omega) (Below.refl _ _))
    clear hl hs hr KP
    go_enter Try.func10, Try.ntmps10
    go_wp2
    go_ret2
    exact HP.out
  by_cases h2 : 1099511627776 < e
  · have HP := Lib.hid (PackPost.no (w := w) (w' := w) (packE_range (e := e) (f := f) (L := L) (fun h => by omega)) (by omega) (Below.refl _ _))
    clear hl hs hr KP
    go_enter Try.func10, Try.ntmps10
    go_wp2
    go_ret2
    exact HP.out
  by_cases h3 : f < 0
  · have HP := Lib.hid (PackPost.no (w := w) (w' := w) (packE_range (e := e) (f := f) (L := L) (fun h => by omega)) (by omega) (Below.refl _ _))
    clear hl hs hr KP
    go_enter Try.func10, Try.ntmps10
    go_wp2
    go_ret2
    exact HP.out
  generalize hN : (grp L).length = N at *
  have hN1000 : N ≤ 1000 := by omega
  by_cases h4 : 256 - (N : Int) < f
  · have HP := Lib.hid (fun W (h : Below w.heap.size w W) => PackPost.no (w := w) (w' := W) (packE_range (e := e) (f := f) (L := L) (fun h => by rw [hN] at h; omega)) (by omega) h)
    clear hl hs hr
    go_enter Try.func10, Try.ntmps10
    go_wp2_with (go_at_call 13; refine KP.out.mono ?_; rintro x w1 ⟨rfl, b⟩; (have B1 := Lib.hid b); clear b)
    go_ret2
    exact HP.out _ B1.out
  have KG := Lib.hid (fun W (h : Below w.heap.size w W) => groups_any A n c L W hl hn hs (hr.below h))
  have HR := Lib.hid hr
  have HL := Lib.hid hl
  obtain ⟨en, rfl⟩ : ∃ en : Nat, e = (en : Int) := ⟨e.toNat, by omega⟩
  obtain ⟨fn, rfl⟩ : ∃ fn : Nat, f = (fn : Int) := ⟨f.toNat, by omega⟩
  have HZ : Hid (∀ (v : Value) (W : World), packE (en : Int) (fn : Int) L = 0 → OG KB 34 w.heap.size W v (wsSecs en fn (grp L)) → Below w.heap.size w W → PackPost w en fn L (.returned (.tuple #[v, .int .i64 0])) W) := Lib.hid (fun v W hz g1 g2 => ⟨v, by rw [hz], by rw [packR, if_pos hz]; simpa using g1, g2⟩)
  have HK := Lib.hid (show (1 ≤ (en : Int) ∧ (en : Int) ≤ 1099511627776) ∧ 0 ≤ (fn : Int) ∧ (fn : Int) ≤ 256 - ((grp L).length : Int) from ⟨by omega, by omega, by rw [hN]; omega⟩)
  have HN := Lib.hid (show en ≤ 1099511627776 ∧ fn + N ≤ 256 by omega)
  have HNL := Lib.hid hN
  have HSS := Lib.hid hs
  have hfn : fn ≤ 256 := by omega
  have hN256 : N ≤ 256 := by omega
  clear hl hs hr hN hg
  go_enter Try.func10, Try.ntmps10
  go_wp2_with (first
    | (go_at_call 13; refine KP.out.mono ?_; rintro x w1 ⟨rfl, b⟩; (have B1 := Lib.hid b); clear b)
    | (go_at_call 25; refine (KG.out _ B1.out).mono ?_; rintro x w2 ⟨v, rfl, o, b⟩; obtain ⟨A1, c1, rfl, _, _, hrg, _⟩ := o.rg; (have RG2 := Lib.hid hrg); (have B2 := Lib.hid (B1.out.trans (b.mono B1.out.size))); clear o b hrg))
  rw [HNL.out]
  go_loop [10] (fun i => ∃ k : Nat, k ≤ n ∧ i = .int .i64 (k : Int) ∧ ∀ (j : Nat) (t : List UInt8), j < k → L[j]? = some t → t.length ≤ 238) (fun i => n - (intOf i).toNat)
  case atStart => exact ⟨0, Nat.zero_le _, rfl, fun j t hj => by omega⟩
  case round =>
    obtain ⟨k, hk, rfl, hf⟩ := hrel
    have HF := Lib.hid hf
    clear hf
    by_cases hlt : k < n
    · obtain ⟨t, ht⟩ : ∃ t, L[k]? = some t := ⟨L[k]'(by rw [HL.out]; exact hlt), List.getElem?_eq_getElem _⟩
      obtain ⟨ad, rfl, hc⟩ := (HR.out.below B2.out).at_ ht
      have hsz := str_size t
      have htm := HSS.out t (List.mem_of_getElem? ht)
      have HT := Lib.hid ht
      clear ht
      by_cases hb : 238 < t.length
      · have HP := Lib.hid (PackPost.no (w := w) (w' := w2) (packE_big HK.out (List.any_eq_true.2 ⟨t, List.mem_of_getElem? HT.out, by simpa using hb⟩)) (by omega) B2.out)
        have hb' : (238 : Int) < (t.length : Int) := by omega
        go_wp2
        go_ret2
        exact HP.out
      · have hb' : ¬ (238 : Int) < (t.length : Int) := by omega
        go_wp2
        go_round
        case rel => exact ⟨k + 1, by omega, by go_num, fun j u hj hu => by
          by_cases hjk : j = k
          · subst hjk
            have e := HT.out.symm.trans hu
            injection e with e
            subst e
            omega
          · exact HF.out j u (by omega) hu⟩
        case measure => simp [intOf]; omega
    · obtain rfl : k = n := by omega
      have hall : ∀ t ∈ L, t.length ≤ 238 := fun t ht => by
        obtain ⟨j, hj, e⟩ := List.getElem_of_mem ht
        exact HF.out j t (by rw [← HL.out]; exact hj) (by rw [← e]; exact List.getElem?_eq_getElem _)
      have hz := packE_ok HK.out (List.any_eq_false.2 fun t ht => by have := hall t ht; simp; omega)
      have HGS := Lib.hid (grp_size hall)
      have HZ2 := Lib.hid (fun v W => HZ.out v W hz)
      have ST : Hid (∃ j : Nat, j ≤ N ∧ (.int .i64 0 : Value) = .int .i64 (j : Int) ∧ OG KB 34 w2.heap.size w2 (.slice none 0 0) ((wsSecs en fn (grp L)).take j) ∧ Below w2.heap.size w2 w2) := Lib.hid ⟨0, Nat.zero_le _, rfl, OG.nil, Below.refl _ _⟩
      clear hz HZ hall HF
      go_wp2
      go_loopw [9, 11] (fun v i wr => ∃ j : Nat, j ≤ N ∧ i = .int .i64 (j : Int) ∧ OG KB 34 w2.heap.size wr v ((wsSecs en fn (grp L)).take j) ∧ Below w2.heap.size w2 wr) (fun _ i _ => N - (intOf i).toNat)
      case atStart => exact ST.out
      case round =>
        clear ST
        obtain ⟨j, hj, rfl, hO, hB⟩ := hrel
        by_cases hjl : j < N
        · obtain ⟨gr, hgr⟩ : ∃ gr, (grp L)[j]? = some gr := ⟨(grp L)[j]'(by rw [HNL.out]; exact hjl), List.getElem?_eq_getElem _⟩
          obtain ⟨ad, A3, c3, rfl, hcell, h5, h6, hrr⟩ := (RG2.out.below hB).listAt hgr
          have hgz := HGS.out gr (List.mem_of_getElem? hgr)
          have KL := Lib.hid (wsLay_any en (fn + j) A3 gr.length c3 gr wr HN.out.1 (by have := HN.out; omega) rfl hgz hrr.rs)
          have h9 : ((fn : Int) + (j : Int)) = ((fn + j : Nat) : Int) := by omega
          rw [← h9] at KL
          have HX := Lib.hid (wsSec_len en (fn + j) gr hgz)
          have HSK := Lib.hid (show (wsSecs en fn (grp L))[j]? = some (wsSec en (fn + j) gr) by rw [wsSecs_at, hgr]; rfl)
          have HTL := Lib.hid (show ((wsSecs en fn (grp L)).take j).length ≤ 256 by rw [List.length_take]; omega)
          have HO := Lib.hid hO
          have HB := Lib.hid hB
          have hBs := hB.size
          have hjl' : (j : Int) < (N : Int) := by omega
          clear hgr hrr hgz hO hB h9
          generalize wsSec en (fn + j) gr = X at *
          go_wp2_with (first
            | (go_at_call 26; refine KL.out.mono ?_; rintro x w3 ⟨v3, rfl, o3, b3⟩; obtain ⟨ad4, c4, rfl, hc4, hm4, hr4, _, _⟩ := o3.row (by rw [HX.out]; omega); (have LT := Lib.hid (KB.lit HO.out o3 hc4 hm4)); (have B3 := Lib.hid b3); clear o3 b3 hr4)
            | (at_builtin; (refine wpList_append_G tgBB rfl (.tmp 49) (.tmp 59) rfl w2.heap.size _ _ rfl ((HO.out.below B3.out).alloc _) (some ⟨w3.heap.size, 0, none⟩) 1 1 [X] rfl rfl LT.out.1 LT.out.2 ?_ ?_ ?_; (have := HTL.out; omega); (rw [heap_size_alloc]; exact Nat.le_succ_of_le (Nat.le_trans hBs B3.out.size)); intro v5 w5 o5 b5 g5 h5; (have O5 := Lib.hid o5); (have B5 := Lib.hid (((HB.out.trans (B3.out.mono hBs)).alloc (Nat.le_trans hBs B3.out.size) _).trans b5)); clear o5 b5 g5 h5)))
          go_roundw
          case rel => exact ⟨j + 1, by omega, by go_num, by rw [take_snocG HSK.out]; exact O5.out, B5.out⟩
          case measure => simp [intOf]; omega
        · obtain rfl : j = N := by omega
          have hO2 : OG KB 34 w.heap.size wr u9 (wsSecs en fn (grp L)) := by
            rw [List.take_of_length_le (by rw [wsSecs_len, HNL.out]; exact Nat.le_refl _)] at hO
            exact hO.lift B2.out.size
          have HR3 := Lib.hid (HZ2.out _ wr hO2 (B2.out.trans (hB.mono B2.out.size)))
          clear hO hO2 hB
          go_wp2
          go_ret2
          exact HR3.out
end Go.Proofs.Ytkfpjbefjflhfaa
