/- Records in sectors: the texts of a sector. -/
import Derived.Test.YtochifbbefbehaaWsD
namespace Go.Proofs.Ytochifbbefbehaa
open Go.RowKit
set_option linter.unusedVariables false
set_option linter.unusedSimpArgs false
/-- Texts that fit, and that are a sector's, if it has any. -/
def TextsOf (l : List UInt8) (L : List (List UInt8)) : Prop := wsSize L ≤ 239 ∧ ∀ M, wsSize M ≤ 239 → l[8]? = some (UInt8.ofNat (wsSize M)) → (l.drop 9).take (wsSize M) = wsPut M → M = L
theorem size_of_byte {M : List (List UInt8)} {x : UInt8} (hM : wsSize M ≤ 239) (h : some x = some (UInt8.ofNat (wsSize M))) : wsSize M = x.toNat := by
  have h4 := congrArg UInt8.toNat (Option.some.inj h)
  simp at h4
  omega
theorem short_of {M : List (List UInt8)} (hM : wsSize M ≤ 239) : ∀ t ∈ M, t.length < 256 := fun t ht => by have := wsSize_mem ht; omega
theorem TextsOf.big {l : List UInt8} {x : UInt8} (h8 : l[8]? = some x) (hx : 239 < x.toNat) : TextsOf l [] := ⟨by simp [wsSize], fun M h1 h2 _ => by
  rw [h8] at h2
  have := size_of_byte h1 h2
  omega⟩
theorem TextsOf.done {l : List UInt8} {L : List (List UInt8)} {x : UInt8} (h8 : l[8]? = some x) (hx : x.toNat ≤ 239) (hz : wsSize L = x.toNat) (hp : (l.drop 9).take (wsSize L) = wsPut L) : TextsOf l L := ⟨by omega, fun M h1 h2 h3 => by
  rw [h8] at h2
  have e := size_of_byte h1 h2
  rw [e, ← hz, hp] at h3
  exact wsPut_inj (short_of (by omega)) (short_of h1) h3.symm⟩
theorem TextsOf.cut {l : List UInt8} {L : List (List UInt8)} {x y : UInt8} (hl : l.length = 256) (h8 : l[8]? = some x) (hx : x.toNat ≤ 239) (hz : wsSize L < x.toNat) (hp : (l.drop 9).take (wsSize L) = wsPut L) (hy : l[9 + wsSize L]? = some y) (hc : x.toNat - wsSize L < 1 + y.toNat) : TextsOf l [] := ⟨by simp [wsSize], fun M h1 h2 h3 => by
  rw [h8] at h2
  have e := size_of_byte h1 h2
  rw [e] at h3
  have h4 : wsPut M = wsPut L ++ ((l.drop 9).drop (wsSize L)).take (x.toNat - wsSize L) := by
    rw [← h3, ← hp, ← List.take_add]
    congr 1
    omega
  obtain ⟨N, h5, h6⟩ := wsPut_cancel (short_of (by omega)) (short_of h1) h4
  have h7 : (((l.drop 9).drop (wsSize L)).take (x.toNat - wsSize L))[0]? = some y := by
    rw [List.getElem?_take, if_pos (by omega), List.getElem?_drop, List.getElem?_drop]
    rw [← hy]
    congr 1
  have h9 : (((l.drop 9).drop (wsSize L)).take (x.toNat - wsSize L)).length ≤ x.toNat - wsSize L := by rw [List.length_take]; exact Nat.min_le_left _ _
  rw [← h6] at h7 h9
  have hN : ∀ t ∈ N, t.length < 256 := fun t ht => short_of h1 t (by rw [h5]; simp [ht])
  cases N with
  | nil => simp [wsPut] at h7
  | cons t r =>
    simp only [wsPut, List.getElem?_cons_zero, Option.some.injEq] at h7
    have h10 := congrArg UInt8.toNat h7
    have h11 := hN t (by simp)
    simp at h10
    rw [wsPut_len] at h9
    simp only [wsSize] at h9
    omega⟩
theorem drop_consB {l : List UInt8} {k : Nat} {x : UInt8} (h : l[k]? = some x) : l.drop k = x :: l.drop (k + 1) := by
  obtain ⟨h1, h2⟩ := List.getElem?_eq_some_iff.1 h
  rw [List.drop_eq_getElem_cons h1, h2]
theorem parts_step {l : List UInt8} {L : List (List UInt8)} {y : UInt8} (hl : l.length = 256) (hp : (l.drop 9).take (wsSize L) = wsPut L) (hy : l[9 + wsSize L]? = some y) (hc : 9 + wsSize L + 1 + y.toNat ≤ 256) :
    ((l.drop (9 + wsSize L + 1)).take y.toNat).length = y.toNat ∧ wsSize (L ++ [(l.drop (9 + wsSize L + 1)).take y.toNat]) = wsSize L + (y.toNat + 1) ∧ (l.drop 9).take (wsSize L + (y.toNat + 1)) = wsPut (L ++ [(l.drop (9 + wsSize L + 1)).take y.toNat]) := by
  have h1 : ((l.drop (9 + wsSize L + 1)).take y.toNat).length = y.toNat := by simp; omega
  refine ⟨h1, by rw [wsSize_snoc, h1], ?_⟩
  rw [wsPut_snoc, h1, ← hp, List.take_add, List.drop_drop]
  congr 1
  rw [drop_consB hy, List.take_succ_cons]
  congr 1
  exact (ofNat_eq y y.toNat (Nat.mod_eq_of_lt y.toNat_lt)).symm
set_option maxHeartbeats 2000000 in
set_option maxRecDepth 100000 in
theorem texts_any (l : List UInt8) (w : World) (hl : l.length = 256) :
    Calls Try.prog 60 #[wsSecV l] w fun e w' => ∃ v L, e = .returned v ∧ OS w.heap.size w' v L ∧ TextsOf l L ∧ Below w.heap.size w w' := by
  have A1 : Hid (slArr (w.alloc (.cells (cellsB l).toArray 77)) w.heap.size 77 l) := Lib.hid (heap_alloc_last w _)
  have B1 := Lib.hid ((Below.refl _ w).alloc (Nat.le_refl _) (.cells (cellsB l).toArray 77))
  have HZ := Lib.hid (heap_size_alloc w (.cells (cellsB l).toArray 77))
  obtain ⟨x, hx8⟩ : ∃ x, l[8]? = some x := ⟨l[8]'(by omega), List.getElem?_eq_getElem _⟩
  have HL := Lib.hid hl
  have H8 := Lib.hid hx8
  obtain ⟨C, hC⟩ : ∃ C, C = (cellsB l).toArray := ⟨_, rfl⟩
  unfold wsSecV
  rw [← hC] at A1 B1 HZ ⊢
  clear hl hC
  go_enter Try.func60, Try.ntmps60
  go_upto_region 1 with (fail)
  generalize w.alloc (.cells C 77) = W at *
  obtain ⟨c8, _, _⟩ := A1.out.at hx8
  clear hx8
  have hx256 := x.toNat_lt
  by_cases hbig : 239 < x.toNat
  · have HT := Lib.hid (TextsOf.big H8.out hbig)
    generalize x.toNat = u at *
    have hb' : (239 : Int) < (u : Int) := by omega
    go_wp2
    go_ret
    exact ⟨_, [], rfl, OS.nil, HT.out, B1.out⟩
  · have HT := Lib.hid (fun L => TextsOf.done (L := L) H8.out (by omega))
    have HC := Lib.hid (fun L y => TextsOf.cut (L := L) (y := y) HL.out H8.out (by omega))
    have hbig' : x.toNat ≤ 239 := by omega
    clear hbig H8
    generalize x.toNat = u at *
    have hb' : (u : Int) ≤ (239 : Int) := by omega
    have hsl := sliceC_fromto W w.heap.size 9 (9 + u) 9 (9 + (u : Int)) rfl (by omega) (by omega) (by omega) (by omega)
    have hu9 : 9 + u - 9 = u := by omega
    rw [hu9] at hsl
    go_upto_region 6 with (fail)
    clear hsl hu9 c8 hb'
    have ST : Hid (∃ (z : Nat) (L : List (List UInt8)), OS W.heap.size W (.slice none 0 0) L ∧ wsSize L = z ∧ z ≤ u ∧ (l.drop 9).take z = wsPut L ∧ Value.slice (some ⟨w.heap.size, 9, none⟩) u 247 = .slice (some ⟨w.heap.size, 9 + z, none⟩) (u - z) (247 - z) ∧ Below W.heap.size W W) := Lib.hid ⟨0, [], OS.nil, rfl, Nat.zero_le _, rfl, rfl, Below.refl _ _⟩
    go_wp2
    go_loopw [4, 5, 6] (fun lv bv _ wr => ∃ (z : Nat) (L : List (List UInt8)), OS W.heap.size wr lv L ∧ wsSize L = z ∧ z ≤ u ∧ (l.drop 9).take z = wsPut L ∧ bv = .slice (some ⟨w.heap.size, 9 + z, none⟩) (u - z) (247 - z) ∧ Below W.heap.size W wr) (fun _ bv _ _ => match bv with | .slice _ n _ => n | _ => 0)
    case atStart => exact ST.out
    case round =>
      clear ST
      obtain ⟨z, L, hO, rfl, hzu, hp, rfl, hB⟩ := hrel
      have HB := Lib.hid hB
      have HO := Lib.hid hO
      have HP := Lib.hid hp
      have HWW := Lib.hid (show w.heap.size < W.heap.size from by have := HZ.out; omega)
      clear hB hO hp
      by_cases hlt : wsSize L < u
      · obtain ⟨y, hy⟩ : ∃ y, l[9 + wsSize L]? = some y := ⟨l[9 + wsSize L]'(by rw [HL.out]; omega), List.getElem?_eq_getElem _⟩
        obtain ⟨cy, _, _⟩ := (A1.out.below HB.out HWW.out).at hy
        have hy256 := y.toNat_lt
        have hlt' : (0 : Int) < ((u - wsSize L : Nat) : Int) := by omega
        by_cases hcut : u - wsSize L < 1 + y.toNat
        · have HT2 := Lib.hid (HC.out L y hlt HP.out hy hcut)
          have hcut' : ((u - wsSize L : Nat) : Int) < 1 + (y.toNat : Int) := by omega
          have HBW := Lib.hid (B1.out.trans (HB.out.mono (Nat.le_of_lt HWW.out)))
          clear HC HT hy hcut hlt
          generalize u - wsSize L = m at *
          generalize y.toNat = q at *
          go_wp2
          go_ret
          exact ⟨_, [], rfl, OS.nil, HT2.out, HBW.out⟩
        · obtain ⟨h1, h2, h3⟩ := parts_step HL.out HP.out hy (by omega)
          have R1 := ((A1.out.below HB.out HWW.out).reads.drop (9 + wsSize L + 1)).take y.toNat
          rw [show (⟨w.heap.size, 0, none⟩ : Addr).add (9 + wsSize L + 1) = ⟨w.heap.size, 9 + wsSize L + 1, none⟩ from add_at _ _] at R1
          have hstr := run_str wr (some ⟨w.heap.size, 9 + wsSize L + 1, none⟩) y.toNat (247 - wsSize L - 1) _ h1 R1
          generalize ht : (l.drop (9 + wsSize L + 1)).take y.toNat = t at *
          have hcut' : 1 + (y.toNat : Int) ≤ ((u - wsSize L : Nat) : Int) := by omega
          have HN1 := Lib.hid h1
          have HN2 := Lib.hid h2
          have HN3 := Lib.hid h3
          have hLL := wsSize_len L
          have HSZ := Lib.hid (show 9 + (wsSize L + (y.toNat + 1)) = 9 + wsSize L + (1 + y.toNat) ∧ u - (wsSize L + (y.toNat + 1)) = u - wsSize L - (1 + y.toNat) ∧ 247 - (wsSize L + (y.toNat + 1)) = 247 - wsSize L - (1 + y.toNat) ∧ wsSize L + (y.toNat + 1) ≤ u ∧ L.length ≤ 239 ∧ y.toNat + 1 ≤ u - wsSize L from by omega)
          clear HC HT hy hcut h1 h2 h3 R1 ht hLL
          go_upto_region 10 with (fail)
          clear cy hlt' hcut'
          go_upto_region 11 with (at_builtin; (refine wpList_append_S rfl (.tmp 27) (.tmp 32) rfl W.heap.size _ L rfl (HO.out.alloc _) (some ⟨wr.heap.size, 0, none⟩) 1 1 [t] rfl rfl (RS.one wr t) (by have := HSZ.out; omega) (Nat.le_trans HB.out.size (by rw [heap_size_alloc]; omega)) ?_; intro v3 w3 ho3 hb3 hg3))
          have HO3 := Lib.hid ho3
          have HB3 := Lib.hid (((HB.out.alloc HB.out.size (.cells #[.string (str t)] 9))).trans hb3)
          clear ho3 hb3 hg3 HB HO hstr
          go_wp2
          go_roundw
          case rel =>
            obtain ⟨e1, e2, e3, e4, _, _⟩ := HSZ.out
            exact ⟨wsSize L + (y.toNat + 1), L ++ [t], HO3.out, HN2.out, e4, HN3.out, by rw [e1, e2, e3], HB3.out⟩
          case measure =>
            obtain ⟨e1, e2, e3, e4, _, _⟩ := HSZ.out
            show u - wsSize L - (1 + y.toNat) < u - wsSize L
            omega
      · have hzu' : wsSize L = u := by omega
        have HTD := Lib.hid (HT.out L hzu' HP.out)
        have HBW := Lib.hid (B1.out.trans (HB.out.mono (Nat.le_of_lt HWW.out)))
        have HO2 := Lib.hid (HO.out.lift (Nat.le_of_lt HWW.out))
        have hm : u - wsSize L = 0 := by omega
        clear HC HT HO HB
        rw [hm]
        go_wp2
        go_ret
        exact ⟨_, L, rfl, HO2.out, HTD.out, HBW.out⟩
end Go.Proofs.Ytochifbbefbehaa
