/- Plain facts on what is opened: what Seal lays, told by its parts. Nothing of the program is proved here. -/
import Derived.Test.YtidnpokjaklfpaaCrB
namespace Go.Proofs.Ytidnpokjaklfpaa
open Go.RowKit

/-- What Open tells of bytes that are as many as the size: the body, and the error's number. -/
def opn (raw : List UInt8) (size : Nat) : List UInt8 × Nat :=
  if be (raw.take 4) ≠ (crc (raw.drop 4)).toNat then ([], 10)
  else if size - 8 < be ((raw.drop 4).take 2) then ([], 4)
  else if sealL ((raw.drop 8).take (be ((raw.drop 4).take 2))) size = raw then ((raw.drop 8).take (be ((raw.drop 4).take 2)), 0) else ([], 4)

theorem be4 (a b c d : UInt8) : be [a, b, c, d] = ((a.toNat * 256 + b.toNat) * 256 + c.toNat) * 256 + d.toNat := by simp [be]
theorem be2 (a b : UInt8) : be [a, b] = a.toNat * 256 + b.toNat := by simp [be]
theorem byte_eq {n : Nat} {x : UInt8} (h : n % 256 = x.toNat) : UInt8.ofNat n = x := by
  apply UInt8.toNat_inj.1
  rw [ofNat_toNat]
  exact h
theorem hi4_be {a b c d : UInt8} {s : BitVec 32} : be [a, b, c, d] = s.toNat ↔ hi4 s = [a, b, c, d] := by
  have ha := a.toNat_lt
  have hb := b.toNat_lt
  have hc := c.toNat_lt
  have hd := d.toNat_lt
  have hs : s.toNat < 4294967296 := s.isLt
  constructor
  · intro h
    rw [be4] at h
    unfold hi4
    rw [byte_eq (x := a) (by omega), byte_eq (x := b) (by omega), byte_eq (x := c) (by omega), byte_eq (x := d) (by omega)]
  · intro h
    unfold hi4 at h
    injection h with h1 h
    injection h with h2 h
    injection h with h3 h
    injection h with h4 h
    have e1 := congrArg UInt8.toNat h1
    have e2 := congrArg UInt8.toNat h2
    have e3 := congrArg UInt8.toNat h3
    have e4 := congrArg UInt8.toNat h4
    rw [ofNat_toNat] at e1 e2 e3 e4
    rw [be4]
    omega
theorem eight {l : List UInt8} (h : 8 ≤ l.length) : ∃ a b c d e f g i r, l = a :: b :: c :: d :: e :: f :: g :: i :: r := by
  match l, h with
  | a :: b :: c :: d :: e :: f :: g :: i :: r, _ => exact ⟨a, b, c, d, e, f, g, i, r, rfl⟩
theorem allZ_replicate {l : List UInt8} : allZ l = true ↔ l = List.replicate l.length 0 := by
  unfold allZ
  rw [List.all_eq_true, List.eq_replicate_iff]
  simp
theorem seal_iff {raw : List UInt8} {size : Nat} (hl : raw.length = size) (h8 : 8 ≤ size) (hs : be (raw.take 4) = (crc (raw.drop 4)).toNat) (hn : ¬ size - 8 < be ((raw.drop 4).take 2)) :
    sealL ((raw.drop 8).take (be ((raw.drop 4).take 2))) size = raw ↔ allZ ((raw.drop 6).take 2) = true ∧ allZ (raw.drop (8 + be ((raw.drop 4).take 2))) = true := by
  subst hl
  obtain ⟨a, b, c, d, e, f, g, i, r, rfl⟩ := eight h8
  simp only [List.take_succ_cons, List.take_zero, List.drop_succ_cons, List.drop_zero, List.length_cons] at hs hn ⊢
  generalize hm : be [e, f] = m at *
  have hm' := hm
  rw [be2] at hm
  have he := e.toNat_lt
  have hf := f.toNat_lt
  have hmr : m ≤ r.length := by omega
  have hd : List.drop (8 + m) (a :: b :: c :: d :: e :: f :: g :: i :: r) = r.drop m := by
    rw [Nat.add_comm]; rfl
  rw [hd]
  rw [hi4_be] at hs
  have hlen : (r.take m).length = m := by simp; omega
  have hbody : body (r.take m) (r.length + 1 + 1 + 1 + 1 + 1 + 1 + 1 + 1) = e :: f :: 0 :: 0 :: (r.take m ++ List.replicate (r.length - m) 0) := by
    unfold body
    rw [hlen, byte_eq (x := e) (by omega), byte_eq (x := f) (by omega)]
    simp
  unfold sealL
  rw [hbody]
  have hsplit : r = r.take m ++ r.drop m := (List.take_append_drop m r).symm
  constructor
  · intro h
    have h4 := congrArg (List.drop 4) h
    rw [show List.drop 4 (hi4 (crc (e :: f :: 0 :: 0 :: (r.take m ++ List.replicate (r.length - m) 0))) ++ (e :: f :: 0 :: 0 :: (r.take m ++ List.replicate (r.length - m) 0))) = e :: f :: 0 :: 0 :: (r.take m ++ List.replicate (r.length - m) 0) from rfl] at h4
    simp only [List.drop_succ_cons, List.drop_zero] at h4
    injection h4 with _ h4
    injection h4 with _ h4
    injection h4 with h5 h4
    injection h4 with h6 h4
    subst h5 h6
    refine ⟨rfl, ?_⟩
    have h7 : List.replicate (r.length - m) 0 = r.drop m := by
      have := congrArg (List.drop m) h4
      rw [List.drop_append, hlen, Nat.sub_self, List.drop_zero, List.drop_of_length_le (by rw [hlen]; omega)] at this
      simpa using this
    rw [allZ_replicate, List.length_drop, h7]
  · rintro ⟨h1, h2⟩
    have h1' : g = 0 ∧ i = 0 := by simpa [allZ] using h1
    obtain ⟨rfl, rfl⟩ := h1'
    rw [allZ_replicate, List.length_drop] at h2
    rw [← h2, List.take_append_drop, hs]
    rfl
theorem opn_sum {raw : List UInt8} {size : Nat} (h : be (raw.take 4) ≠ (crc (raw.drop 4)).toNat) : opn raw size = ([], 10) := by
  unfold opn
  rw [if_pos h]
theorem opn_big {raw : List UInt8} {size : Nat} (hs : be (raw.take 4) = (crc (raw.drop 4)).toNat) (h : size - 8 < be ((raw.drop 4).take 2)) : opn raw size = ([], 4) := by
  unfold opn
  rw [if_neg (by simpa using hs), if_pos h]
theorem opn_form {raw : List UInt8} {size : Nat} (hs : be (raw.take 4) = (crc (raw.drop 4)).toNat) (hn : ¬ size - 8 < be ((raw.drop 4).take 2)) (h : ¬ sealL ((raw.drop 8).take (be ((raw.drop 4).take 2))) size = raw) : opn raw size = ([], 4) := by
  unfold opn
  rw [if_neg (by simpa using hs), if_neg hn, if_neg h]
theorem opn_ok {raw : List UInt8} {size : Nat} (hs : be (raw.take 4) = (crc (raw.drop 4)).toNat) (hn : ¬ size - 8 < be ((raw.drop 4).take 2)) (h : sealL ((raw.drop 8).take (be ((raw.drop 4).take 2))) size = raw) : opn raw size = ((raw.drop 8).take (be ((raw.drop 4).take 2)), 0) := by
  unfold opn
  rw [if_neg (by simpa using hs), if_neg hn, if_pos h]
theorem opn_no {raw : List UInt8} {size : Nat} (hl : raw.length = size) (h8 : 8 ≤ size) (hs : be (raw.take 4) = (crc (raw.drop 4)).toNat)
    (h : ¬ (allZ ((raw.drop 6).take 2) = true ∧ allZ (raw.drop (8 + be ((raw.drop 4).take 2))) = true)) : opn raw size = ([], 4) := by
  by_cases hn : size - 8 < be ((raw.drop 4).take 2)
  · exact opn_big hs hn
  · exact opn_form hs hn (fun e => h ((seal_iff hl h8 hs hn).1 e))
theorem opn_yes {raw : List UInt8} {size : Nat} (hl : raw.length = size) (h8 : 8 ≤ size) (hs : be (raw.take 4) = (crc (raw.drop 4)).toNat) (hn : ¬ size - 8 < be ((raw.drop 4).take 2))
    (h1 : allZ ((raw.drop 6).take 2) = true) (h2 : allZ (raw.drop (8 + be ((raw.drop 4).take 2))) = true) : opn raw size = ((raw.drop 8).take (be ((raw.drop 4).take 2)), 0) :=
  opn_ok hs hn ((seal_iff hl h8 hs hn).2 ⟨h1, h2⟩)
/-- What is sealed is opened. -/
theorem opn_seal {b : List UInt8} {size : Nat} (h1 : b.length + 8 ≤ size) (h2 : size ≤ 65536) : opn (sealL b size) size = (b, 0) := by
  have hbody : (sealL b size).drop 4 = body b size := rfl
  have htake : (sealL b size).take 4 = hi4 (crc (body b size)) := rfl
  have hs : be ((sealL b size).take 4) = (crc ((sealL b size).drop 4)).toNat := by
    rw [hbody, htake]
    exact hi4_be.2 rfl
  have hn : be (((sealL b size).drop 4).take 2) = b.length := by
    rw [hbody]
    show be [UInt8.ofNat (b.length / 256), UInt8.ofNat b.length] = _
    rw [be2, ofNat_toNat, ofNat_toNat]
    omega
  have hx : ((sealL b size).drop 8).take b.length = b := by
    rw [show (sealL b size).drop 8 = b ++ List.replicate (size - 8 - b.length) 0 from rfl, List.take_left]
  rw [opn_ok hs (by rw [hn]; omega) (by rw [hn, hx]), hn, hx]
/-- With one byte changed, whichever, the sum is not that of the others. -/
theorem opn_turned {b : List UInt8} {size i : Nat} {x y : UInt8} (h1 : b.length + 8 ≤ size) (hx : (sealL b size)[i]? = some x) (hy : x ≠ y) : opn ((sealL b size).set i y) size = ([], 10) := by
  apply opn_sum
  have hbody : (sealL b size).drop 4 = body b size := rfl
  have htake : (sealL b size).take 4 = hi4 (crc (body b size)) := rfl
  by_cases hi : i < 4
  · rw [List.drop_set_of_lt (by omega), List.take_set, hbody, htake]
    intro h
    have hx' : (hi4 (crc (body b size)))[i]? = some x := by rw [← htake, List.getElem?_take, if_pos hi]; exact hx
    generalize hi4 (crc (body b size)) = s4 at *
    have hl4 : (s4.set i y).length = 4 := by rw [← htake, List.length_set, List.length_take, seal_len b size h1]; omega
    match hq : s4.set i y, hl4 with
    | [p, q, r, t], _ =>
      rw [hq] at h
      have h5 := hi4_be.1 h
      have h6 : s4 = s4.set i y := by
        rw [hq, ← h5, ← htake]
        rfl
      have h7 : (s4.set i y)[i]? = some y := by
        rw [List.getElem?_set_self]
        exact (List.getElem?_eq_some_iff.1 hx').1
      rw [← h6, hx'] at h7
      injection h7 with h7
      exact hy h7
  · rw [List.take_set_of_le (by omega), List.drop_set, if_neg (by omega), hbody, htake]
    intro h
    have h5 : (crc ((body b size).set (i - 4) y)).toNat = (crc (body b size)).toNat := by
      rw [← h]
      exact hi4_be.2 rfl
    have h6 := BitVec.eq_of_toNat_eq h5
    refine crc_set (x := x) ?_ hy h6
    rw [← hbody, List.getElem?_drop, show 4 + (i - 4) = i by omega]
    exact hx
end Go.Proofs.Ytidnpokjaklfpaa
