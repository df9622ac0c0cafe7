/- Plain facts on slots: of two writings, torn in any way, one is got, whole, or none. -/
import Derived.Test.YtlpobinmkedgeaaSlJ
import Derived.Test.YtlpobinmkedgeaaSlM
namespace Go.Proofs.Ytlpobinmkedgeaa
set_option linter.unusedVariables false
theorem shared_all {L : List (List UInt8)} (h : sharedP L ≠ 0) : L.length = 4 ∧ ∀ b ∈ L, stampP b = sharedP L := by
  unfold sharedP at h ⊢
  split at h
  · rename_i h1
    rw [if_pos h1]
    exact ⟨h1.1, h1.2⟩
  · exact absurd rfl h
theorem ends_stamp {x : List UInt8} {a : Nat} (hx : x.length = 256) (ha : a ≤ maxNum) (x1 : x.take 8 = st a) (x2 : x.drop 248 = st a) : stampP x = a := by
  unfold stampP
  rw [x1, x2, if_pos ⟨hx, rfl⟩, genOf_st ha]
/-- Sectors whose ends tell one number. -/
def Ends (X : List (List UInt8)) (a : Nat) : Prop := X.length = 4 ∧ ∀ b ∈ X, b.length = 256 ∧ b.take 8 = st a ∧ b.drop 248 = st a
theorem ends_putL {g : Nat} {b : List UInt8} (hb : b.length ≤ 954) : Ends (putL g b) g := by
  refine ⟨putL_len g b, fun c hc => ?_⟩
  obtain ⟨i, hi, rfl⟩ := mem_putL hc hb
  have h := partOf_len (allOf_len hb) hi
  exact ⟨sec_len h, sec_take, sec_drop h⟩
theorem ends_zeros : Ends (List.replicate 4 (List.replicate 256 0)) 0 := by
  refine ⟨rfl, fun c hc => ?_⟩
  obtain rfl := List.eq_of_mem_replicate hc
  refine ⟨List.length_replicate, ?_, ?_⟩
  · rw [List.take_replicate]; rfl
  · rw [List.drop_replicate]; rfl
theorem mix_whole {X Y : List (List UInt8)} {a b : Nat} {fs : List UInt8} (hX : Ends X a) (hY : Ends Y b) (ha : a ≤ maxNum) (hb : b ≤ maxNum) (hab : a ≠ b) (hf : fs.length = 8) (h : sharedP (mixP X Y fs) ≠ 0) :
    (mixP X Y fs = X ∧ a ≠ 0) ∨ (mixP X Y fs = Y ∧ b ≠ 0) := by
  obtain ⟨hl, hs⟩ := shared_all h
  unfold maxNum at ha hb
  have key : ∀ i, i < 4 → ((mixP X Y fs)[i]? = X[i]? ∧ sharedP (mixP X Y fs) = a) ∨ ((mixP X Y fs)[i]? = Y[i]? ∧ sharedP (mixP X Y fs) = b) := by
    intro i hi
    have h1 : X[i]? = some (X[i]'(by rw [hX.1]; exact hi)) := List.getElem?_eq_getElem _
    have h2 : Y[i]? = some (Y[i]'(by rw [hY.1]; exact hi)) := List.getElem?_eq_getElem _
    have h3 : fs[i * 2]? = some (fs[i * 2]'(by omega)) := List.getElem?_eq_getElem _
    have h4 : fs[i * 2 + 1]? = some (fs[i * 2 + 1]'(by omega)) := List.getElem?_eq_getElem _
    have hm := mixP_at hi h1 h2 h3 h4
    obtain ⟨x1, x2, x3⟩ := hX.2 _ (List.mem_of_getElem? h1)
    obtain ⟨y1, y2, y3⟩ := hY.2 _ (List.mem_of_getElem? h2)
    generalize X[i]'(by rw [hX.1]; exact hi) = x at *
    generalize Y[i]'(by rw [hY.1]; exact hi) = y at *
    generalize fs[i * 2]'(by omega) = kd at *
    generalize fs[i * 2 + 1]'(by omega) = cu at *
    have hst := hs _ (List.mem_of_getElem? hm)
    have hcu := cu.toNat_lt
    rcases fated_whole (kd := kd.toNat) (k := cu.toNat) x1 y1 (by omega) (by omega) (by omega) hab x2 x3 y2 y3 (by rw [hst]; exact h) with e | e
    · left
      rw [e] at hm hst
      exact ⟨by rw [hm, h1], by rw [← hst]; exact ends_stamp x1 ha x2 x3⟩
    · right
      rw [e] at hm hst
      exact ⟨by rw [hm, h2], by rw [← hst]; exact ends_stamp y1 hb y2 y3⟩
  by_cases hsa : sharedP (mixP X Y fs) = a
  · left
    refine ⟨four_ext hl hX.1 fun i hi => ?_, by rw [← hsa]; exact h⟩
    rcases key i hi with h1 | h1
    · exact h1.1
    · exact absurd (hsa.symm.trans h1.2) hab
  · right
    have hsb : sharedP (mixP X Y fs) = b := by
      rcases key 0 (by omega) with h1 | h1
      · exact absurd h1.2 hsa
      · exact h1.2
    refine ⟨four_ext hl hY.1 fun i hi => ?_, by rw [← hsb]; exact h⟩
    rcases key i hi with h1 | h1
    · exact absurd h1.2 hsa
    · exact h1.1
theorem torn_plain {a b : Nat} {x y fs : List UInt8} (ha1 : 1 ≤ a) (ha : a ≤ maxNum) (hb1 : 1 ≤ b) (hb : b ≤ maxNum) (hab : a ≠ b) (hx : x.length ≤ 954) (hy : y.length ≤ 954) (hf : fs.length = 8) :
    getE (mixP (putL a x) (putL b y) fs) = 3 ∨ (getE (mixP (putL a x) (putL b y) fs) = 0 ∧ ((getG (mixP (putL a x) (putL b y) fs) = a ∧ getB (mixP (putL a x) (putL b y) fs) = x) ∨ (getG (mixP (putL a x) (putL b y) fs) = b ∧ getB (mixP (putL a x) (putL b y) fs) = y))) := by
  by_cases h : sharedP (mixP (putL a x) (putL b y) fs) = 0
  · exact .inl (getE_3 h).1
  · right
    rcases mix_whole (ends_putL hx) (ends_putL hy) ha hb hab hf h with ⟨e, _⟩ | ⟨e, _⟩
    · rw [e]
      obtain ⟨h1, h2, h3⟩ := get_putL hx ha1 ha
      exact ⟨h1, .inl ⟨h2, h3⟩⟩
    · rw [e]
      obtain ⟨h1, h2, h3⟩ := get_putL hy hb1 hb
      exact ⟨h1, .inr ⟨h2, h3⟩⟩
theorem zeros_plain {b : Nat} {y fs : List UInt8} (hb1 : 1 ≤ b) (hb : b ≤ maxNum) (hy : y.length ≤ 954) (hf : fs.length = 8) :
    getE (mixP (List.replicate 4 (List.replicate 256 0)) (putL b y) fs) = 3 ∨ getE (mixP (List.replicate 4 (List.replicate 256 0)) (putL b y) fs) = 0 := by
  by_cases h : sharedP (mixP (List.replicate 4 (List.replicate 256 0)) (putL b y) fs) = 0
  · exact .inl (getE_3 h).1
  · right
    rcases mix_whole ends_zeros (ends_putL hy) (by unfold maxNum; omega) hb (by omega) hf h with ⟨_, e⟩ | ⟨e, _⟩
    · exact absurd rfl e
    · rw [e]
      exact (get_putL hy hb1 hb).1
/-- How many of the first k are not the newer one. -/
def lostP (fs : List UInt8) (k : Nat) : Nat := ((List.range k).filter fun i => decide ((fs.getD (2 * i) 0).toNat % 3 ≠ 1)).length
theorem lostP_le (fs : List UInt8) (k : Nat) : lostP fs k ≤ k := by
  unfold lostP
  have h := List.length_filter_le (fun i => decide ((fs.getD (2 * i) 0).toNat % 3 ≠ 1)) (List.range k)
  simpa using h
theorem lostP_succ {fs : List UInt8} {k : Nat} {kd : UInt8} (h : fs[k * 2]? = some kd) : lostP fs (k + 1) = lostP fs k + if kd.toNat % 3 = 1 then 0 else 1 := by
  unfold lostP
  have e : fs.getD (2 * k) 0 = kd := by rw [List.getD_eq_getElem?_getD, Nat.mul_comm, h]; rfl
  rw [List.range_succ, List.filter_append, List.length_append]
  congr 1
  simp only [List.filter_cons, List.filter_nil, e]
  by_cases hk : kd.toNat % 3 = 1
  · simp [hk]
  · simp [hk]
theorem none_lost {fs : List UInt8} (h : lostP fs 4 = 0) (hf : fs.length = 8) {X Y : List (List UInt8)} (hX : X.length = 4) (hY : Y.length = 4) : mixP X Y fs = Y := by
  refine four_ext (mixP_len X Y fs) hY fun i hi => ?_
  have h1 : X[i]? = some (X[i]'(by omega)) := List.getElem?_eq_getElem _
  have h2 : Y[i]? = some (Y[i]'(by omega)) := List.getElem?_eq_getElem _
  have h3 : fs[i * 2]? = some (fs[i * 2]'(by omega)) := List.getElem?_eq_getElem _
  have h4 : fs[i * 2 + 1]? = some (fs[i * 2 + 1]'(by omega)) := List.getElem?_eq_getElem _
  rw [mixP_at hi h1 h2 h3 h4, h2]
  have hk : (fs[i * 2]'(by omega)).toNat % 3 = 1 := by
    unfold lostP at h
    have h5 := List.eq_nil_of_length_eq_zero h
    rw [List.filter_eq_nil_iff] at h5
    have h6 := h5 i (List.mem_range.2 hi)
    have e : fs.getD (2 * i) 0 = fs[i * 2]'(by omega) := by rw [List.getD_eq_getElem?_getD, Nat.mul_comm, h3]; rfl
    rw [e] at h6
    simpa using h6
  unfold fated
  rw [hk]
  rfl
end Go.Proofs.Ytlpobinmkedgeaa
