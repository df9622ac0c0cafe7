/- The walk of the law WalsecTorn. -/
import Derived.Test.YtkfpjbefjflhfaaKWalsecBack
import Derived.Test.YtkfpjbefjflhfaaGnP
import Derived.Deep.CutRange
import Derived.Deep.DeepMust
namespace Go.Proofs.Ytkfpjbefjflhfaa
open Go.RowKit
set_option linter.unusedVariables false
set_option linter.unusedSimpArgs false
/-- A sector that was torn, and is not the newer one, is none. -/
theorem torn_none {i k m : Nat} {g : List (List UInt8)} {X : List UInt8} (hg : g ≠ []) (hz : wsSize g ≤ 239) (hX : X.length = 256) (hm : X.drop 248 = st m) (hm2 : m < 18446744073709551616) (hne : m ≠ 256 * 8 + i) (hi : i < 256) (hk : k ≤ 256) (h : (wsSec 8 i g).take k ++ X.drop k ≠ wsSec 8 i g) : rdP ((wsSec 8 i g).take k ++ X.drop k) 8 i = none := rdP_none fun L hL => by
  have hYl := wsSec_len 8 i g hz
  have h1 := hL.tail8
  have e8 : (256 * (8 : Int).toNat + (i : Int).toNat) = 256 * 8 + i := by simp
  rw [e8] at h1
  have hl : ((wsSec 8 i g).take k).length = k := by rw [List.length_take, hYl]; omega
  by_cases hk8 : k ≤ 248
  · rw [List.drop_append, hl, List.drop_of_length_le (by rw [hl]; omega), List.nil_append, List.drop_drop, show k + (248 - k) = 248 by omega, hm] at h1
    exact hne (st_inj hm2 (by omega) h1)
  · refine h ?_
    have hY8 : (wsSec 8 i g).drop 248 = st (256 * 8 + i) := by
      have := (show IsSec (wsSec 8 i g) (8 : Int) (i : Int) g from ⟨by omega, by omega, by omega, by omega, hg, hz, by simp⟩).tail8
      rwa [e8] at this
    rw [← List.take_append_drop 248 ((wsSec 8 i g).take k ++ X.drop k), h1]
    conv => rhs; rw [← List.take_append_drop 248 (wsSec 8 i g), hY8]
    congr 1
    rw [List.take_append_of_le_length (by omega), List.take_take, Nat.min_eq_left (by omega)]
/-- How much of a sector was kept. -/
def kOf (F : List (UInt8 × UInt8)) (i : Nat) : Nat := match F[i]? with
  | none => 256
  | some (kd, cu) => if kd.toNat % 3 = 0 then 0 else if kd.toNat % 3 = 2 then cu.toNat else 256
theorem kOf_le (F : List (UInt8 × UInt8)) (i : Nat) : kOf F i ≤ 256 := by
  unfold kOf
  split
  · omega
  · rename_i kd cu _
    have := cu.toNat_lt
    split
    · omega
    · split <;> omega
def z256L : List UInt8 := List.replicate 256 0
/-- The elder log's sectors, and noughts behind. -/
def elder (L : List (List UInt8)) (j : Nat) : List (List UInt8) := wsSecs 7 0 (grp L) ++ List.replicate j z256L
theorem elder_at {L : List (List UInt8)} {j i : Nat} {x : List UInt8} (hL : ∀ t ∈ L, t.length ≤ 238) (hx : (elder L j)[i]? = some x) (hi : i < 256) : x.length = 256 ∧ ∃ m, x.drop 248 = st m ∧ m < 18446744073709551616 ∧ m ≠ 256 * 8 + i ∧ (i < (grp L).length → x.take 8 = st (256 * 7 + i)) := by
  unfold elder at hx
  by_cases h : i < (grp L).length
  · rw [List.getElem?_append_left (by rw [wsSecs_len]; exact h), wsSecs_at, List.getElem?_eq_getElem h] at hx
    simp only [Option.map_some, Option.some.injEq, Nat.zero_add] at hx
    subst hx
    have hz := grp_size hL _ (List.getElem_mem h)
    have hn := grp_some _ (List.getElem_mem h)
    have hs : IsSec (wsSec 7 i (grp L)[i]) (7 : Int) (i : Int) (grp L)[i] := ⟨by omega, by omega, by omega, by omega, hn, hz, by simp⟩
    refine ⟨wsSec_len _ _ _ hz, 256 * 7 + i, ?_, by omega, by omega, fun _ => wsSec_st _ _ _⟩
    have := hs.tail8
    simpa using this
  · rw [List.getElem?_append_right (by rw [wsSecs_len]; omega), List.getElem?_replicate] at hx
    split at hx
    · injection hx with hx
      subst hx
      exact ⟨by unfold z256L; rw [List.length_replicate], 0, by decide, by omega, by omega, fun h' => (h h').elim⟩
    · cases hx
/-- Ahead of the i-th sector: what the sectors are, and the first one that is not whole. -/
def TornAt (L M : List (List UInt8)) (F : List (UInt8 × UInt8)) (j i wh : Nat) (xs : List (List UInt8)) : Prop :=
  xs.length = (elder L j).length ∧ (∀ q, i ≤ q → xs[q]? = (elder L j)[q]?) ∧
  (∀ (q : Nat) (x : List UInt8) (g : List (List UInt8)), q < i → (elder L j)[q]? = some x → (grp M)[q]? = some g → xs[q]? = some ((wsSec 8 q g).take (kOf F q) ++ x.drop (kOf F q))) ∧
  ((wh = (grp M).length ∧ ∀ q, q < i → xs[q]? = (wsSecs 8 0 (grp M))[q]?) ∨ (wh < i ∧ wh < (grp M).length ∧ (∀ q, q < wh → xs[q]? = (wsSecs 8 0 (grp M))[q]?) ∧ xs[wh]? ≠ (wsSecs 8 0 (grp M))[wh]?))
theorem TornAt.start (L M : List (List UInt8)) (F : List (UInt8 × UInt8)) (j : Nat) : TornAt L M F j 0 (grp M).length (elder L j) := ⟨rfl, fun _ _ => rfl, fun q _ _ hq => by omega, .inl ⟨rfl, fun q hq => by omega⟩⟩
theorem TornAt.step {L M : List (List UInt8)} {F : List (UInt8 × UInt8)} {j i wh : Nat} {xs : List (List UInt8)} {x : List UInt8} {g : List (List UInt8)} (h : TornAt L M F j i wh xs) (hx : (elder L j)[i]? = some x) (hg : (grp M)[i]? = some g) :
    TornAt L M F j (i + 1) (if (wsSec 8 i g).take (kOf F i) ++ x.drop (kOf F i) = wsSec 8 i g then wh else min wh i) (xs.set i ((wsSec 8 i g).take (kOf F i) ++ x.drop (kOf F i))) := by
  obtain ⟨h1, h2, h3, h4⟩ := h
  have hil : i < xs.length := by rw [h1]; exact (List.getElem?_eq_some_iff.1 hx).1
  have hig := (List.getElem?_eq_some_iff.1 hg).1
  have hY : (wsSecs 8 0 (grp M))[i]? = some (wsSec 8 i g) := by rw [wsSecs_at, hg]; simp
  have hS : (xs.set i ((wsSec 8 i g).take (kOf F i) ++ x.drop (kOf F i)))[i]? = some ((wsSec 8 i g).take (kOf F i) ++ x.drop (kOf F i)) := by rw [List.getElem?_set, if_pos rfl, if_pos hil]
  have hO : ∀ q, q ≠ i → (xs.set i ((wsSec 8 i g).take (kOf F i) ++ x.drop (kOf F i)))[q]? = xs[q]? := fun q hq => by rw [List.getElem?_set, if_neg (fun e => hq e.symm)]
  refine ⟨by rw [List.length_set]; exact h1, fun q hq => by rw [hO q (by omega)]; exact h2 q (by omega), fun q y g' hq hy hg' => ?_, ?_⟩
  · by_cases e : q = i
    · subst e
      rw [hx] at hy
      rw [hg] at hg'
      injection hy with hy
      injection hg' with hg'
      subst hy hg'
      exact hS
    · rw [hO q e]
      exact h3 q y g' (by omega) hy hg'
  · by_cases hb : (wsSec 8 i g).take (kOf F i) ++ x.drop (kOf F i) = wsSec 8 i g
    · rw [if_pos hb]
      rcases h4 with ⟨h5, h6⟩ | ⟨h5, h6, h7, h8⟩
      · refine .inl ⟨h5, fun q hq => ?_⟩
        by_cases e : q = i
        · subst e; rw [hS, hY, hb]
        · rw [hO q e]; exact h6 q (by omega)
      · exact .inr ⟨by omega, h6, fun q hq => by rw [hO q (by omega)]; exact h7 q hq, by rw [hO wh (by omega)]; exact h8⟩
    · rw [if_neg hb]
      rcases h4 with ⟨h5, h6⟩ | ⟨h5, h6, h7, h8⟩
      · rw [h5, Nat.min_eq_right (by omega)]
        exact .inr ⟨by omega, hig, fun q hq => by rw [hO q (by omega)]; exact h6 q hq, by rw [hS, hY]; exact fun e => hb (Option.some.inj e)⟩
      · rw [Nat.min_eq_left (by omega)]
        exact .inr ⟨by omega, h6, fun q hq => by rw [hO q (by omega)]; exact h7 q hq, by rw [hO wh (by omega)]; exact h8⟩
theorem wsSecs_take (e : Nat) : ∀ (G : List (List (List UInt8))) (a n : Nat), (wsSecs e a G).take n = wsSecs e a (G.take n)
  | [], a, n => by simp [wsSecs]
  | g :: r, a, 0 => by simp [wsSecs]
  | g :: r, a, n + 1 => by simp [wsSecs, wsSecs_take e r (a + 1) n]
theorem TornAt.done {L M : List (List UInt8)} {F : List (UInt8 × UInt8)} {j wh : Nat} {xs : List (List UInt8)} (h : TornAt L M F j (grp M).length wh xs) (hL : ∀ t ∈ L, t.length ≤ 238) (hM : ∀ t ∈ M, t.length ≤ 238) (hl : (grp M).length ≤ 100) (hj : (grp M).length ≤ (grp L).length + j ∧ (0 < j → (grp L).length + j = (grp M).length)) :
    wh ≤ (grp M).length ∧ scanK 8 0 xs = (((grp M).take wh).flatten, wh) ∧ scanK 8 0 ((wsSecs 8 0 (grp M)).take wh) = (((grp M).take wh).flatten, wh) := by
  obtain ⟨h1, h2, h3, h4⟩ := h
  have hel : (elder L j).length = (grp L).length + j := by simp [elder, wsSecs_len]
  have hwh : wh ≤ (grp M).length := by rcases h4 with ⟨h5, _⟩ | ⟨_, h6, _⟩ <;> omega
  have hq : ∀ q, q < wh → xs[q]? = (wsSecs 8 0 (grp M))[q]? := by
    rcases h4 with ⟨h5, h6⟩ | ⟨_, _, h7, _⟩
    · intro q hq; exact h6 q (by omega)
    · exact h7
  have ht : xs.take wh = wsSecs 8 0 ((grp M).take wh) := by
    rw [← wsSecs_take]
    refine List.ext_getElem? fun q => ?_
    rw [List.getElem?_take, List.getElem?_take]
    split
    · rename_i hlt; exact hq q hlt
    · rfl
  have hsc := fun more => scanK_secs (e := 8) (by omega) (by omega) ((grp M).take wh) (fun g hg => grp_some g (List.mem_of_mem_take hg)) (fun g hg => grp_size hM g (List.mem_of_mem_take hg)) 0 (by rw [List.length_take]; omega) more
  have hlt : ((grp M).take wh).length = wh := by rw [List.length_take]; omega
  simp only [hlt, Nat.zero_add] at hsc
  have hrest : scanK 8 wh (xs.drop wh) = ([], 0) := by
    by_cases hw : wh < xs.length
    · obtain ⟨b, hb⟩ : ∃ b, xs[wh]? = some b := ⟨xs[wh], List.getElem?_eq_getElem hw⟩
      rw [drop_cons hb]
      refine scanK_none ?_
      obtain ⟨x, hx⟩ : ∃ x, (elder L j)[wh]? = some x := ⟨(elder L j)[wh]'(by omega), List.getElem?_eq_getElem _⟩
      rcases h4 with ⟨h5, h6⟩ | ⟨h5, h6, h7, h8⟩
      · rw [h2 wh (by omega), hx] at hb
        injection hb with hb
        subst hb
        have hle : wh < (grp L).length := by
          rcases Nat.eq_zero_or_pos j with h | h
          · omega
          · have := hj.2 h; omega
        have hlg := grp_len L
        obtain ⟨_, m, _, _, _, h9⟩ := elder_at hL hx (by omega)
        exact rd_other (h9 hle) (by omega) (fun _ _ => by omega)
      · obtain ⟨g, hg⟩ : ∃ g, (grp M)[wh]? = some g := ⟨(grp M)[wh], List.getElem?_eq_getElem h6⟩
        have hY : (wsSecs 8 0 (grp M))[wh]? = some (wsSec 8 wh g) := by rw [wsSecs_at, hg]; simp
        have h9 := h3 wh x g (by omega) hx hg
        rw [hb] at h9
        injection h9 with h9
        rw [hY, hb] at h8
        obtain ⟨hxl, m, hm1, hm2, hm3, _⟩ := elder_at hL hx (by omega)
        rw [h9]
        exact torn_none (grp_some g (List.mem_of_getElem? hg)) (grp_size hM g (List.mem_of_getElem? hg)) hxl hm1 hm2 hm3 (by omega) (kOf_le F wh) (fun e => h8 (by rw [h9, e]))
    · rw [List.drop_of_length_le (by omega)]
      rfl
  refine ⟨hwh, ?_, ?_⟩
  · have := hsc (xs.drop wh)
    rw [show ((8 : Nat) : Int) = 8 from rfl] at this
    rw [hrest, ← ht, List.take_append_drop] at this
    simpa using this
  · have := hsc []
    rw [show ((8 : Nat) : Int) = 8 from rfl] at this
    rw [List.append_nil, ← wsSecs_take] at this
    simpa [scanK] using this
end Go.Proofs.Ytkfpjbefjflhfaa
