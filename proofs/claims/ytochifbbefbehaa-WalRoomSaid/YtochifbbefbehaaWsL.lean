/- Records in sectors: the document's groups, and how many there are. -/
import Derived.Test.YtochifbbefbehaaWsK
import Derived.Test.YtochifbbefbehaaGnS
import Derived.Deep.CutRange
import Derived.Deep.AppendLies
import Derived.Deep.RegionLaw
namespace Go.Proofs.Ytochifbbefbehaa
open Go.RowKit
set_option linter.unusedVariables false
set_option linter.unusedSimpArgs false
/-- Ahead of the k-th text: the groups F, the last one cur. -/
def GpAt (w : World) (L : List (List UInt8)) (k : Nat) (v z : Value) (wr : World) : Prop :=
  Below w.heap.size w wr ∧ ∃ q : Nat, z = .int .i64 (q : Int) ∧ q ≤ 239 ∧ ((k = 0 ∧ v = .slice none 0 0 ∧ q = 239) ∨ (0 < k ∧ ∃ (F : List (List (List UInt8))) (cur : List (List UInt8)) (u : Value), OO CR.str 9 31 w.heap.size wr v u F cur ∧ F.length ≤ k ∧ cur.length ≤ k ∧ F.length + 1 ≤ k ∧ grp L = F ++ gFrom cur q (L.drop k)))
/-- The k-th text is still to be put into the last group. -/
def GpMid (w : World) (L : List (List UInt8)) (k m : Nat) (t : List UInt8) (v z : Value) (wr : World) : Prop :=
  Below w.heap.size w wr ∧ ∃ (F : List (List (List UInt8))) (cur : List (List UInt8)) (u : Value) (q : Nat), OO CR.str 9 31 w.heap.size wr v u F cur ∧ z = .int .i64 (q : Int) ∧ q + (1 + m) ≤ 239 ∧ F.length ≤ k ∧ cur.length ≤ k ∧ grp L = F ++ gFrom (cur ++ [t]) (q + (1 + m)) (L.drop (k + 1))
theorem gFrom_new {cur r : List (List UInt8)} {q m : Nat} {t : List UInt8} (hm : m = min t.length 238) (h : 239 < q + (1 + m)) : gFrom cur q (t :: r) = cur :: gFrom ([] ++ [t]) (0 + (1 + m)) r := by
  subst hm
  rw [gFrom, if_pos h, List.nil_append, Nat.zero_add]
theorem gFrom_in {cur r : List (List UInt8)} {q m : Nat} {t : List UInt8} (hm : m = min t.length 238) (h : ¬ 239 < q + (1 + m)) : gFrom cur q (t :: r) = gFrom (cur ++ [t]) (q + (1 + m)) r := by
  subst hm
  rw [gFrom, if_neg h]
theorem grp_first {L : List (List UInt8)} {m : Nat} {t : List UInt8} (hm : m = min t.length 238) (h : L[0]? = some t) : grp L = [] ++ gFrom ([] ++ [t]) (0 + (1 + m)) (L.drop 1) := by
  subst hm
  cases L with
  | nil => simp at h
  | cons a r =>
    simp at h
    subst h
    rw [List.nil_append, List.nil_append, Nat.zero_add, gFrom_grp]
    rfl
set_option maxHeartbeats 4000000 in
set_option maxRecDepth 100000 in
theorem groups_any (A : Option Addr) (n c : Nat) (L : List (List UInt8)) (w : World) (hl : L.length = n) (hn : n ≤ 1000) (hs : ∀ t ∈ L, t.length ≤ 1000) (hr : RS w A L) :
    Calls Try.prog 36 #[.slice A n c] w fun x w' => ∃ v, x = .returned v ∧ OG (CR.list CR.str) 31 w.heap.size w' v (grp L) ∧ Below w.heap.size w w' := by
  have HL := Lib.hid hl
  have HR := Lib.hid hr
  have HS := Lib.hid hs
  clear hl hr hs
  have ST : Hid (∃ k : Nat, k ≤ n ∧ (.int .i64 0 : Value) = .int .i64 (k : Int) ∧ GpAt w L k (.slice none 0 0) (.int .i64 239) w) := Lib.hid ⟨0, Nat.zero_le _, rfl, Below.refl _ _, 239, rfl, by omega, .inl ⟨rfl, rfl, rfl⟩⟩
  go_enter Try.func36, Try.ntmps36
  go_wp2
  go_loopw [3, 4, 5, 6, 7] (fun v z i _ _ wr => ∃ k : Nat, k ≤ n ∧ i = .int .i64 (k : Int) ∧ GpAt w L k v z wr) (fun _ _ i _ _ _ => n - (intOf i).toNat)
  case atStart => exact ST.out
  case round =>
    clear ST
    obtain ⟨k, hk, rfl, hB, q, rfl, hq, hG⟩ := hrel
    have HB := Lib.hid hB
    have HG := Lib.hid hG
    clear hG
    by_cases hlt : k < n
    · obtain ⟨t, ht⟩ : ∃ t, L[k]? = some t := ⟨L[k]'(by rw [HL.out]; exact hlt), List.getElem?_eq_getElem _⟩
      have htl := HS.out t (List.mem_of_getElem? ht)
      have HT := Lib.hid (fun V (h : Below w.heap.size w V) => (HR.out.below h).at_ ht)
      obtain ⟨ad, rfl, hc⟩ := HT.out wr hB
      have HT := Lib.hid (fun V (h : Below w.heap.size w V) => show V.cell? (ad.add k) = some (.string (str t)) from by
        obtain ⟨ad', e, h⟩ := HT.out V h
        injection e with e
        rw [e]
        exact h)
      have hsz := str_size t
      obtain ⟨m, hm⟩ : ∃ m, m = min t.length 238 := ⟨_, rfl⟩
      have hml : m ≤ 238 := by omega
      have hmin : (if (238 : Int) < (t.length : Int) then (238 : Int) else (t.length : Int)) = (m : Int) := by split <;> omega
      have HTK := Lib.hid ht
      have HDK := Lib.hid (drop_cons ht)
      have HMM := Lib.hid hm
      have hlt' : (k : Int) < (n : Int) := by omega
      clear ht hm hB
      go_upto_if 24 with (fail)
      clear hc hmin hsz
      go_cut [3, 4] from 21 to 46 (fun v3 v4 wx => GpMid w L k m t v3 v4 wx)
      case first =>
        rcases HG.out with ⟨rfl, rfl, rfl⟩ | ⟨hk0, F, cur, u, hO, hF, hcu, hF1, hgr⟩
        · have hgt : (239 : Int) < 239 + (1 + (m : Int)) := by omega
          have HGF := Lib.hid (grp_first HMM.out HTK.out)
          clear HG
          go_wp2_with (at_builtin; (refine wpList_append_of rfl (.tmp 25) (.tmp 26) rfl _ _ rfl rfl (OO.first (K := CR.str) (T := 9) tgSS (base := w.heap.size) _ (g := wr.heap.size) (by simp) (by rw [heap_size_alloc]; exact Nat.le_succ_of_le HB.out.size)) ?_; rintro v2 w2 ⟨o2, b2⟩; (have O2 := Lib.hid o2); (have B2 := Lib.hid ((HB.out.alloc HB.out.size _).trans b2)); clear o2 b2))
          go_meet
          case rel => exact ⟨B2.out, [], [], _, 0, O2.out, rfl, by omega, by simp, by simp, HGF.out⟩
        · by_cases hgt : 239 < q + (1 + m)
          · have HGF := Lib.hid (show grp L = (F ++ [cur]) ++ gFrom ([] ++ [t]) (0 + (1 + m)) (L.drop (k + 1)) by rw [hgr, HDK.out, gFrom_new HMM.out hgt]; simp)
            have HO := Lib.hid hO
            have hgt' : (239 : Int) < (q : Int) + (1 + (m : Int)) := by omega
            clear HG hO hgr
            go_wp2_with (at_builtin; (refine wpList_append_of rfl (.tmp 25) (.tmp 26) rfl _ _ rfl rfl (OO.next str_flat tgSS _ (HO.out.below ((Below.refl _ wr).alloc (Nat.le_refl _) _)) (g := wr.heap.size) (by simp) (by omega) (by rw [heap_size_alloc]; exact Nat.le_succ_of_le HB.out.size)) ?_; rintro v2 w2 ⟨o2, b2⟩; (have O2 := Lib.hid o2); (have B2 := Lib.hid ((HB.out.alloc HB.out.size _).trans b2)); clear o2 b2))
            go_meet
            case rel => exact ⟨B2.out, F ++ [cur], [], _, 0, O2.out, rfl, by omega, by simpa using hF1, by simp, HGF.out⟩
          · have HGF := Lib.hid (show grp L = F ++ gFrom (cur ++ [t]) (q + (1 + m)) (L.drop (k + 1)) by rw [hgr, HDK.out, gFrom_in HMM.out hgt])
            have HO := Lib.hid hO
            have hgt' : ¬ (239 : Int) < (q : Int) + (1 + (m : Int)) := by omega
            clear HG hO hgr
            go_wp2
            go_meet
            case rel => exact ⟨HB.out, F, cur, u, q, HO.out, rfl, by omega, hF, hcu, HGF.out⟩
      case rest =>
        obtain ⟨hB, F, cur, u, q', hO, rfl, hq', hF, hcu, hgr⟩ := hcut
        obtain ⟨g, gc, rfl, hgc, hgm, hcell, hfz, hbg⟩ := hO.cell
        have HOU := Lib.hid (show OG CR.str 9 w.heap.size wc u cur from hO.choose_spec.2.2.1)
        have HO := Lib.hid hO
        have HBs := Lib.hid hB.size
        have HB := Lib.hid hB
        have HGR := Lib.hid hgr
        have hFn : F.length ≤ 1000 := by omega
        have e1 : ((F.length : Int) + 1) - 1 = (F.length : Int) := by omega
        clear hO hB hgr HG
        go_upto_region 11 with (fail)
        have hc0 := HT.out _ HB.out
        have S0 := HT.out _ HB.out.drew
        have C0 : wc.drew.cell? ⟨g, F.length, none⟩ = some u := hcell
        have DA : Hid (Below wc.heap.size wc (wc.alloc (.cells #[.string (str t)] 9)).drew) := Lib.hid ((Below.refl _ wc).alloc (Nat.le_refl _) _).drew
        have SA := HT.out _ (HB.out.trans (DA.out.mono HBs.out))
        have OA := Lib.hid (HO.out.below DA.out)
        have CA := OA.out.cellAt
        have OU := Lib.hid (HOU.out.below DA.out)
        have RA : Hid (RG CR.str (wc.alloc (.cells #[.string (str t)] 9)).drew (some ⟨wc.heap.size, 0, none⟩) [t]) := Lib.hid (RS.one wc t).drew.rg
        have BA := Lib.hid (Nat.le_trans HBs.out DA.out.size)
        have hFi : (F.length : Int) < (F.length : Int) + 1 := by omega
        have hlt' : (k : Int) < (n : Int) := by omega
        clear hcell hc0
        go_region_law
          (first
            | (refine step_append_G tgS rfl (.tmp 36) (.tmp 41) rfl w.heap.size u cur rfl OU.out (some ⟨wc.heap.size, 0, none⟩) 1 1 [t] rfl rfl RA.out (Apart.flat str_flat) ?_ BA.out ?_; (omega); intro v1 w1 o1 b1 g1 h1; obtain ⟨A1, c1, rfl, _, _, _, _⟩ := o1.rg; (have D1 := Lib.hid (HB.out.trans ((DA.out.mono HBs.out).trans b1))); (have S1 := HT.out _ D1.out); obtain ⟨f1, C1, ST⟩ := OA.out.store g1 o1 str_flat (by rcases h1 with h1 | h1; exact .inl h1; exact .inr ⟨_, h1, Nat.le_refl _⟩); (have ST := Lib.hid ST); clear o1 b1 g1 h1)
            | fail)
        all_goals
          go_wp2
          refine ⟨⟨k + 1, by omega, by go_num, D1.out.setCell hbg _, q' + (1 + m), by go_num, by omega, .inr ⟨by omega, F, cur ++ [t], _, (by have h := ST.out; rw [show (cur ++ [t]).length = cur.length + 1 by simp] at h; exact h), by omega, by simp; omega, by omega, HGR.out⟩⟩, by simp [intOf]; omega⟩
    · obtain rfl : k = n := by omega
      obtain ⟨hk0, hv, _⟩ | ⟨hk0, F, cur, u, hO, hF, hcu, hF1, hgr⟩ := HG.out
      · subst hk0
        have hnil : L = [] := List.eq_nil_of_length_eq_zero HL.out
        have HR := Lib.hid (show OG (CR.list CR.str) 31 w.heap.size wr u3 (grp L) by rw [hnil, grp_nil, hv]; exact OG.nil)
        clear HG hv
        go_wp2
        go_ret
        exact ⟨_, rfl, HR.out, HB.out⟩
      · have HR := Lib.hid (show OG (CR.list CR.str) 31 w.heap.size wr u3 (grp L) by
          rw [hgr, List.drop_of_length_le (by rw [HL.out]; exact Nat.le_refl _), gFrom]
          exact hO.og str_flat)
        clear HG hO hgr
        go_wp2
        go_ret
        exact ⟨_, rfl, HR.out, HB.out⟩
end Go.Proofs.Ytochifbbefbehaa
