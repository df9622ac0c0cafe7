/- Joined: SlP SlA SlB SlD SlE. -/
import Derived.Test.YtegjeijiekggdaaGreatDoorM01
import Derived.Deep.Cut
import Derived.Deep.MidRow
import Derived.Deep.WholeRow
import Derived.Deep.DeepMust
import Derived.Laws.BitsAllLaws
import Derived.StillTailTactics
section
/- Plain facts on slots: the eight bytes of a number, sectors, what is put, got, and seen; nothing of the program is proved here. -/
namespace Go.Proofs.YtegjeijiekggdaaGreatDoor
set_option linter.unusedVariables false

/-- The eight bytes of a number, the highest first. -/
def st (g : Nat) : List UInt8 := (List.range 8).map fun i => UInt8.ofNat (g / 256 ^ (7 - i))
theorem st_len (g : Nat) : (st g).length = 8 := by simp [st]
theorem st_eq (g : Nat) : st g = [UInt8.ofNat (g / 256 ^ 7), UInt8.ofNat (g / 256 ^ 6), UInt8.ofNat (g / 256 ^ 5), UInt8.ofNat (g / 256 ^ 4), UInt8.ofNat (g / 256 ^ 3), UInt8.ofNat (g / 256 ^ 2), UInt8.ofNat (g / 256 ^ 1), UInt8.ofNat (g / 256 ^ 0)] := rfl
theorem be8 (a b c d e f g h : UInt8) : be [a, b, c, d, e, f, g, h] = ((((((a.toNat * 256 + b.toNat) * 256 + c.toNat) * 256 + d.toNat) * 256 + e.toNat) * 256 + f.toNat) * 256 + g.toNat) * 256 + h.toNat := by
  simp [be]
theorem toNat_of (n : Nat) : (UInt8.ofNat n).toNat = n % 256 := by simp
theorem be_st (g : Nat) (h : g < 18446744073709551616) : be (st g) = g := by
  rw [st_eq, be8]
  simp only [toNat_of]
  omega
theorem slList8 {α : Type} (l : List α) (h : l.length = 8) : ∃ a b c d e f g k, l = [a, b, c, d, e, f, g, k] := by
  match l, h with
  | [a, b, c, d, e, f, g, k], _ => exact ⟨a, b, c, d, e, f, g, k, rfl⟩
theorem ofNat_eq (x : UInt8) (n : Nat) (h : n % 256 = x.toNat) : UInt8.ofNat n = x := by
  apply UInt8.toNat_inj.1
  rw [toNat_of, h]
theorem st_be (l : List UInt8) (h : l.length = 8) : st (be l) = l := by
  obtain ⟨a, b, c, d, e, f, g, k, rfl⟩ := slList8 l h
  rw [be8, st_eq]
  have := a.toNat_lt; have := b.toNat_lt; have := c.toNat_lt; have := d.toNat_lt; have := e.toNat_lt; have := f.toNat_lt; have := g.toNat_lt; have := k.toNat_lt
  rw [ofNat_eq a _ (by omega), ofNat_eq b _ (by omega), ofNat_eq c _ (by omega), ofNat_eq d _ (by omega), ofNat_eq e _ (by omega), ofNat_eq f _ (by omega), ofNat_eq g _ (by omega), ofNat_eq k _ (by omega)]
theorem st_inj {a b : Nat} (ha : a < 18446744073709551616) (hb : b < 18446744073709551616) (h : st a = st b) : a = b := by
  rw [← be_st a ha, ← be_st b hb, h]

def maxNum : Nat := 1099511627776
/-- A stamp's number; 0: none. -/
def genOf (l : List UInt8) : Nat := if be l ≤ maxNum then be l else 0
theorem genOf_le (l : List UInt8) : genOf l ≤ 1099511627776 := by unfold genOf maxNum; split <;> omega
theorem genOf_st {g : Nat} (h : g ≤ maxNum) : genOf (st g) = g := by
  unfold maxNum at h
  unfold genOf maxNum
  rw [be_st g (by omega), if_pos h]

/-- What the four have together. -/
def allOf (b : List UInt8) : List UInt8 := [UInt8.ofNat (b.length / 256), UInt8.ofNat b.length] ++ b ++ List.replicate (954 - b.length) 0
theorem allOf_len {b : List UInt8} (h : b.length ≤ 954) : (allOf b).length = 956 := by simp [allOf]; omega
/-- A sector. -/
def sec (g i : Nat) (p : List UInt8) : List UInt8 := st g ++ [UInt8.ofNat i] ++ p ++ st g
theorem sec_len {g i : Nat} {p : List UInt8} (h : p.length = 239) : (sec g i p).length = 256 := by simp [sec, st_len, h]
def partOf (l : List UInt8) (i : Nat) : List UInt8 := (l.drop (i * 239)).take 239
theorem partOf_len {l : List UInt8} {i : Nat} (h : l.length = 956) (hi : i < 4) : (partOf l i).length = 239 := by simp [partOf]; omega
def putL (g : Nat) (b : List UInt8) : List (List UInt8) := (List.range 4).map fun i => sec g i (partOf (allOf b) i)
theorem putL_len (g : Nat) (b : List UInt8) : (putL g b).length = 4 := by simp [putL]
theorem putL_at (g : Nat) (b : List UInt8) {i : Nat} (h : i < 4) : (putL g b)[i]? = some (sec g i (partOf (allOf b) i)) := by simp [putL, h]

/-- What a sector's stamp tells; 0: nothing. -/
def stampP (b : List UInt8) : Nat := if b.length = 256 ∧ b.take 8 = b.drop 248 then genOf (b.take 8) else 0
theorem stampP_le (b : List UInt8) : stampP b ≤ 1099511627776 := by
  unfold stampP; split
  · exact genOf_le _
  · omega
theorem sec_take {g i : Nat} {p : List UInt8} : (sec g i p).take 8 = st g := by
  unfold sec
  rw [List.append_assoc, List.append_assoc, List.take_left' (st_len g)]
theorem sec_drop {g i : Nat} {p : List UInt8} (h : p.length = 239) : (sec g i p).drop 248 = st g := by
  unfold sec
  rw [List.drop_left' (by simp [st_len, h])]
theorem sec_part {g i : Nat} {p : List UInt8} (h : p.length = 239) : ((sec g i p).drop 9).take 239 = p := by
  unfold sec
  rw [List.append_assoc, List.drop_left' (by simp [st_len]), List.take_left' h]
theorem stampP_sec {g i : Nat} {p : List UInt8} (h : p.length = 239) (hg : g ≤ maxNum) : stampP (sec g i p) = g := by
  unfold stampP
  rw [sec_take, sec_drop h, if_pos ⟨sec_len h, rfl⟩, genOf_st hg]

/-- The number that all four tell; 0: none. -/
def sharedP (L : List (List UInt8)) : Nat := if L.length = 4 ∧ ∀ b ∈ L, stampP b = stampP (L.getD 0 []) then stampP (L.getD 0 []) else 0
def allP (L : List (List UInt8)) : List UInt8 := L.flatMap fun b => (b.drop 9).take 239
def lenP (l : List UInt8) : Nat := (l.getD 0 0).toNat * 256 + (l.getD 1 0).toNat
def bodyP (l : List UInt8) : List UInt8 := (l.drop 2).take (lenP l)
/-- What is got: the number, the body, the error. -/
def slGetE (L : List (List UInt8)) : Nat := if sharedP L = 0 then 3 else if 954 < lenP (allP L) then 4 else if putL (sharedP L) (bodyP (allP L)) = L then 0 else 4
def getG (L : List (List UInt8)) : Nat := if slGetE L = 0 then sharedP L else 0
def getB (L : List (List UInt8)) : List UInt8 := if slGetE L = 0 then bodyP (allP L) else []
def seen1 (n : Nat) (b : List UInt8) : Nat := if b.length = 256 then max (max n (genOf (b.take 8))) (genOf (b.drop 248)) else n
def seenP (L : List (List UInt8)) : Nat := L.foldl seen1 0

theorem foldl_seen_ge (L : List (List UInt8)) : ∀ n, n ≤ L.foldl seen1 n := by
  induction L with
  | nil => intro n; exact Nat.le_refl _
  | cons b L ih =>
    intro n
    refine Nat.le_trans ?_ (ih _)
    unfold seen1
    split
    · omega
    · exact Nat.le_refl _
theorem seen_mem {L : List (List UInt8)} {b : List UInt8} (h : b ∈ L) : ∀ n, stampP b ≤ L.foldl seen1 n := by
  induction L with
  | nil => cases h
  | cons c L ih =>
    intro n
    simp only [List.foldl_cons]
    rcases List.mem_cons.1 h with rfl | h
    · refine Nat.le_trans ?_ (foldl_seen_ge _ _)
      unfold stampP seen1
      split
      · rename_i h1
        rw [if_pos h1.1]
        omega
      · omega
    · exact ih h _
theorem seen1_le (n : Nat) (b : List UInt8) (h : n ≤ 1099511627776) : seen1 n b ≤ 1099511627776 := by
  unfold seen1
  have h1 := genOf_le (b.take 8)
  have h2 := genOf_le (b.drop 248)
  split <;> omega

theorem getD0 {α : Type} (l : List α) (d : α) (h : 0 < l.length) : l.getD 0 d ∈ l := by
  cases l with
  | nil => simp at h
  | cons a l => simp
theorem four_ext {α : Type} {L M : List α} (hl : L.length = 4) (hm : M.length = 4) (h : ∀ i, i < 4 → L[i]? = M[i]?) : L = M := by
  apply List.ext_getElem?
  intro i
  by_cases hi : i < 4
  · exact h i hi
  · rw [List.getElem?_eq_none (by omega), List.getElem?_eq_none (by omega)]

theorem range4 : List.range 4 = [0, 1, 2, 3] := rfl
theorem parts_all {l : List UInt8} (h : l.length = 956) : (List.range 4).flatMap (fun i => partOf l i) = l := by
  rw [range4]
  simp only [List.flatMap_cons, List.flatMap_nil, List.append_nil, partOf]
  have e : ∀ i, (l.drop i).take 239 ++ l.drop (i + 239) = l.drop i := fun i => by
    rw [← List.drop_drop, List.take_append_drop]
  have h3 : (l.drop (3 * 239)).take 239 = l.drop 717 := List.take_of_length_le (by simp; omega)
  rw [h3, show (2 * 239) = 478 from rfl, show (1 * 239) = 239 from rfl, show (0 * 239) = 0 from rfl, e 478, e 239, e 0]
  rfl
theorem mem_putL {g : Nat} {b c : List UInt8} (h : c ∈ putL g b) (hb : b.length ≤ 954) : ∃ i, i < 4 ∧ c = sec g i (partOf (allOf b) i) := by
  simp only [putL, List.mem_map, List.mem_range] at h
  obtain ⟨i, hi, rfl⟩ := h
  exact ⟨i, hi, rfl⟩
theorem shared_putL {g : Nat} {b : List UInt8} (hb : b.length ≤ 954) (hg : g ≤ maxNum) : sharedP (putL g b) = g := by
  have key : ∀ c ∈ putL g b, stampP c = g := by
    intro c hc
    obtain ⟨i, hi, rfl⟩ := mem_putL hc hb
    exact stampP_sec (partOf_len (allOf_len hb) hi) hg
  have h0 := key _ (getD0 (putL g b) [] (by rw [putL_len]; omega))
  unfold sharedP
  rw [if_pos ⟨putL_len g b, fun c hc => by rw [key c hc, h0]⟩, h0]
theorem all_putL {g : Nat} {b : List UInt8} (hb : b.length ≤ 954) : allP (putL g b) = allOf b := by
  unfold allP putL
  rw [List.flatMap_map]
  rw [← parts_all (allOf_len hb)]
  have : ∀ i ∈ List.range 4, ((sec g i (partOf (allOf b) i)).drop 9).take 239 = partOf (allOf b) i := fun i hi => sec_part (partOf_len (allOf_len hb) (List.mem_range.1 hi))
  rw [parts_all (allOf_len hb)]
  conv => rhs; rw [← parts_all (allOf_len hb)]
  simp only [List.flatMap_def]
  exact congrArg List.flatten (List.map_congr_left this)
theorem len_allOf {b : List UInt8} (hb : b.length ≤ 954) : lenP (allOf b) = b.length := by
  unfold lenP allOf
  simp only [List.cons_append, List.getD_cons_zero, List.getD_cons_succ, toNat_of]
  omega
theorem body_allOf {b : List UInt8} (hb : b.length ≤ 954) : bodyP (allOf b) = b := by
  unfold bodyP
  rw [len_allOf hb]
  simp [allOf]
theorem get_putL {g : Nat} {b : List UInt8} (hb : b.length ≤ 954) (h1 : 1 ≤ g) (hg : g ≤ maxNum) : slGetE (putL g b) = 0 ∧ getG (putL g b) = g ∧ getB (putL g b) = b := by
  have he : slGetE (putL g b) = 0 := by
    unfold slGetE
    rw [shared_putL hb hg, all_putL hb, len_allOf hb, body_allOf hb, if_neg (by omega), if_neg (by omega), if_pos rfl]
  refine ⟨he, ?_, ?_⟩
  · unfold getG
    rw [if_pos he, shared_putL hb hg]
  · unfold getB
    rw [if_pos he, all_putL hb, body_allOf hb]

/-- A torn sector. -/
def torn (k : Nat) (x y : List UInt8) : List UInt8 := y.take k ++ x.drop k
theorem torn_len {k : Nat} {x y : List UInt8} (hx : x.length = 256) (hy : y.length = 256) (hk : k ≤ 256) : (torn k x y).length = 256 := by simp [torn]; omega
/-- A sector with the same bytes at both its ends, of two that part there, is one of both. -/
theorem torn_whole {k a b : Nat} {x y : List UInt8} (hx : x.length = 256) (hy : y.length = 256) (hk : k ≤ 255) (ha : a < 18446744073709551616) (hb : b < 18446744073709551616) (hab : a ≠ b)
    (x1 : x.take 8 = st a) (x2 : x.drop 248 = st a) (y1 : y.take 8 = st b) (y2 : y.drop 248 = st b) (h : (torn k x y).take 8 = (torn k x y).drop 248) : torn k x y = x ∨ torn k x y = y := by
  have hne : st a ≠ st b := fun e => hab (st_inj ha hb e)
  have hkl : (y.take k).length = k := by rw [List.length_take]; omega
  by_cases h8 : k < 8
  · left
    have d : (torn k x y).drop 248 = st a := by
      unfold torn
      rw [List.drop_append, hkl, List.drop_of_length_le (by omega), List.nil_append, List.drop_drop, show k + (248 - k) = 248 by omega, x2]
    rw [d, ← x1] at h
    have h' : y.take k = x.take k := by
      have h2 := congrArg (List.take k) h
      unfold torn at h2
      rw [List.take_take, List.take_take, Nat.min_eq_left (by omega), List.take_left' hkl] at h2
      exact h2
    unfold torn
    rw [h', List.take_append_drop]
  · by_cases h248 : k ≤ 248
    · exfalso
      have d : (torn k x y).drop 248 = st a := by
        unfold torn
        rw [List.drop_append, hkl, List.drop_of_length_le (by omega), List.nil_append, List.drop_drop, show k + (248 - k) = 248 by omega, x2]
      have t : (torn k x y).take 8 = st b := by
        unfold torn
        rw [List.take_append_of_le_length (by omega), List.take_take, Nat.min_eq_left (by omega), y1]
      exact hne (by rw [← d, ← t, h])
    · right
      have t : (torn k x y).take 8 = st b := by
        unfold torn
        rw [List.take_append_of_le_length (by omega), List.take_take, Nat.min_eq_left (by omega), y1]
      rw [t, ← y2] at h
      have h2 := congrArg (List.drop (k - 248)) h
      rw [List.drop_drop, List.drop_drop, show 248 + (k - 248) = k by omega] at h2
      unfold torn at h2 ⊢
      rw [List.drop_left' hkl] at h2
      rw [← h2, List.take_append_drop]

/-- What becomes of a sector. -/
def fated (kd k : Nat) (x y : List UInt8) : List UInt8 := if kd % 3 = 0 then x else if kd % 3 = 1 then y else torn k x y
theorem fated_whole {kd k a b : Nat} {x y : List UInt8} (hx : x.length = 256) (hy : y.length = 256) (hk : k ≤ 255) (ha : a < 18446744073709551616) (hb : b < 18446744073709551616) (hab : a ≠ b)
    (x1 : x.take 8 = st a) (x2 : x.drop 248 = st a) (y1 : y.take 8 = st b) (y2 : y.drop 248 = st b) (h : stampP (fated kd k x y) ≠ 0) : fated kd k x y = x ∨ fated kd k x y = y := by
  unfold fated at h ⊢
  split
  · exact .inl rfl
  · split
    · exact .inr rfl
    · rename_i h1 h2
      rw [if_neg h1, if_neg h2] at h
      refine torn_whole hx hy hk ha hb hab x1 x2 y1 y2 ?_
      unfold stampP at h
      split at h
      · rename_i h3; exact h3.2
      · exact absurd rfl h

end Go.Proofs.YtegjeijiekggdaaGreatDoor
end
section
/- Slots: an array of bytes in a box; the stamp of a number, and the number of a stamp. -/
namespace Go.Proofs.YtegjeijiekggdaaGreatDoor
open Go.RowKit
set_option linter.unusedVariables false
set_option linter.unusedSimpArgs false

theorem slLength_cellsB (l : List UInt8) : (cellsB l).length = l.length := by simp [cellsB]
theorem slOneCells_B (l : List UInt8) : ∀ v ∈ cellsB l, v.oneCell' = true := by
  intro u hu
  simp only [cellsB, List.mem_map] at hu
  obtain ⟨x, _, rfl⟩ := hu
  rfl
/-- The block g is an array of the bytes l. -/
def slArr (w : World) (g : Nat) (t : TypeId) (l : List UInt8) : Prop := w.heap[g]? = some (.cells (cellsB l).toArray t (0, 0))
theorem slArr.lt {w : World} {g : Nat} {t : TypeId} {l : List UInt8} (h : slArr w g t l) : g < w.heap.size := (Array.getElem?_eq_some_iff.1 h).1
theorem slArr.below {w w' : World} {g B : Nat} {t : TypeId} {l : List UInt8} (h : slArr w g t l) (hb : Below B w w') (hB : g < B) : slArr w' g t l := (hb.block g hB).trans h
theorem slArr.same {w w' : World} {g : Nat} {t : TypeId} {l : List UInt8} (h : slArr w g t l) (hb : Below w.heap.size w w') : slArr w' g t l := (hb.block g h.lt).trans h
theorem slArr.at {w : World} {g : Nat} {t : TypeId} {l : List UInt8} (h : slArr w g t l) {k : Nat} {x : UInt8} (hk : l[k]? = some x) :
    w.cell? ⟨g, k, none⟩ = some (.int .u8 (x.toNat : Int)) ∧ w.frozen? ⟨g, k, none⟩ = false ∧ ∀ (y : UInt8) (z : Int), z = (y.toNat : Int) → slArr (w.setCell ⟨g, k, none⟩ (.int .u8 z)) g t (l.set k y) := by
  refine ⟨?_, ?_, fun y z hz => ?_⟩
  · rw [cell_of_row w g k _ t _ h]
    simp [cellsB, hk, cellB]
  · have h' : w.heap[g]? = some (.cells (cellsB l).toArray t (0, 0)) := h
    simp [World.frozen?, h']
  · subst hz
    have h1 := heap_setCell_same w g k _ t (.int .u8 (y.toNat : Int)) h
    unfold slArr
    rw [h1]
    simp [cellsB, cellB, List.map_set]
theorem slArr.frozen {w : World} {g : Nat} {t : TypeId} {l : List UInt8} (h : slArr w g t l) (j : Nat) : w.frozen? ⟨g, j, none⟩ = false := by
  have h' : w.heap[g]? = some (.cells (cellsB l).toArray t (0, 0)) := h
  simp [World.frozen?, h']
theorem slArr.reads {w : World} {g : Nat} {t : TypeId} {l : List UInt8} (h : slArr w g t l) : RB w (some ⟨g, 0, none⟩) l := by
  refine .inr ⟨_, rfl, fun j x hx => ?_⟩
  have e : (⟨g, 0, none⟩ : Addr).add j = ⟨g, j, none⟩ := by cases j <;> simp [Addr.add]
  rw [e]
  exact (h.at hx).1
theorem slArr.range {w : World} {g : Nat} {t : TypeId} {l : List UInt8} (h : slArr w g t l) : w.rangeAt g 0 (cellsB l) := fun j v hv => by
  rw [cell_of_row w g (0 + j) _ t _ h]
  simpa using hv
theorem cells8 {l : List UInt8} (h : l.length = 8) : ∃ a b c d e f g k : UInt8, l = [a, b, c, d, e, f, g, k] := slList8 l h
/-- Of what lies in w only the block g may read otherwise. -/
structure slOnlyB (g : Nat) (w w' : World) : Prop where
  os : w'.os = w.os
  tape : w'.tape = w.tape
  output : w'.output = w.output
  size : w'.heap.size = w.heap.size
  block : ∀ b, b ≠ g → w'.heap[b]? = w.heap[b]?
theorem slOnlyB.refl (g : Nat) (w : World) : slOnlyB g w w := ⟨rfl, rfl, rfl, rfl, fun _ _ => rfl⟩
theorem slOnlyB.set (g i : Nat) (w : World) (v : Value) : slOnlyB g w (w.setCell ⟨g, i, none⟩ v) := by
  have h := (Below.refl 0 w).setCell (p := ⟨g, i, none⟩) (Nat.zero_le _) v
  refine ⟨h.os, h.tape, h.output, ?_, fun b hb => ?_⟩
  · simp [World.setCell]
  · unfold World.setCell
    simp [Array.getElem?_modify, Ne.symm hb]
theorem slOnlyB.below {g base : Nat} {w w' : World} (h : slOnlyB g w w') (hb : base ≤ g) : Below base w w' := ⟨h.os, h.tape, h.output, Nat.le_of_eq h.size.symm, fun b hlt => h.block b (by omega)⟩
theorem slOnlyB.trans {g : Nat} {X Y Z : World} (h1 : slOnlyB g X Y) (h2 : slOnlyB g Y Z) : slOnlyB g X Z := ⟨h2.os.trans h1.os, h2.tape.trans h1.tape, h2.output.trans h1.output, h2.size.trans h1.size, fun b hb => (h2.block b hb).trans (h1.block b hb)⟩
theorem slOnlyB.drew {g : Nat} {X Y : World} (h : slOnlyB g X Y) : slOnlyB g X Y.drew := ⟨h.os, h.tape, h.output, h.size, h.block⟩
theorem slArr.only {w w' : World} {g q : Nat} {t : TypeId} {l : List UInt8} (h : slArr w q t l) (ho : slOnlyB g w w') (hne : q ≠ g) : slArr w' q t l := (ho.block q hne).trans h
theorem slOnlyB.row (g : Nat) (w : World) (cs : Array Value) (t : TypeId) (cur : Array Value) (h : w.heap[g]? = some (.cells cur t (0, 0))) : slOnlyB g w (w.setRow g cs) :=
  ⟨rfl, rfl, rfl, by simp [World.setRow], fun k hk => setRow_other w g k _ hk⟩
/-- A stamp's value. -/
def stV (l : List UInt8) : Value := .agg (cellsB l).toArray


theorem st_at (g k : Nat) (h : k < 8) : (st g)[k]? = some (UInt8.ofNat (g / 256 ^ (7 - k))) := by simp [st, h]
theorem set_rep {l : List UInt8} {k : Nat} {y : UInt8} (h : k < 8) (hl : l.length = 8) (hy : l[k]? = some y) : (l.take k ++ List.replicate (8 - k) 0).set k y = l.take (k + 1) ++ List.replicate (8 - (k + 1)) 0 := by
  rw [take_snoc hy, show 8 - k = (8 - (k + 1)) + 1 by omega, List.replicate_succ, List.set_append_right _ _ (by simp; omega)]
  simp [Nat.min_eq_left (by omega : k ≤ l.length), hl, Nat.min_eq_left (by omega : k ≤ 8)]

/-- Eight noughts. -/
def z8 : Array Value := #[.int .u8 0, .int .u8 0, .int .u8 0, .int .u8 0, .int .u8 0, .int .u8 0, .int .u8 0, .int .u8 0]
theorem z8_eq : z8 = (cellsB (List.replicate 8 0)).toArray := by kernel_rfl
theorem arr_z8 (w : World) (t : TypeId) : slArr (w.alloc (.cells z8 t)) w.heap.size t (List.replicate 8 0) := by
  unfold slArr
  rw [heap_alloc_last, z8_eq]
theorem shr_byte (n k : Nat) : ((n : Int) / 2 ^ (8 * (7 - k)) % 256) = ((UInt8.ofNat (n / 256 ^ (7 - k))).toNat : Int) := by
  have e : (2 : Int) ^ (8 * (7 - k)) = ((256 ^ (7 - k) : Nat) : Int) := by
    have h : (2 : Nat) ^ (8 * (7 - k)) = 256 ^ (7 - k) := Nat.pow_mul 2 8 (7 - k)
    rw [← h]
    simp
  rw [toNat_of, e]
  omega
theorem slArr.set_ne {w : World} {g : Nat} {t : TypeId} {l : List UInt8} (h : slArr w g t l) {p : Addr} (hp : g ≠ p.block) (v : Value) : slArr (w.setCell p v) g t l := (Below.heap_setCell w p v g hp).trans h
theorem results_arr8 {w : World} {g : Nat} {t : TypeId} {l : List UInt8} (h : slArr w g t l) (hl : l.length = 8) : ∃ a b c d e f g' k : UInt8, l = [a, b, c, d, e, f, g', k] ∧
    w.cell? ⟨g, 0, none⟩ = some (.int .u8 (a.toNat : Int)) ∧ w.cell? ⟨g, 1, none⟩ = some (.int .u8 (b.toNat : Int)) ∧ w.cell? ⟨g, 2, none⟩ = some (.int .u8 (c.toNat : Int)) ∧ w.cell? ⟨g, 3, none⟩ = some (.int .u8 (d.toNat : Int)) ∧
    w.cell? ⟨g, 4, none⟩ = some (.int .u8 (e.toNat : Int)) ∧ w.cell? ⟨g, 5, none⟩ = some (.int .u8 (f.toNat : Int)) ∧ w.cell? ⟨g, 6, none⟩ = some (.int .u8 (g'.toNat : Int)) ∧ w.cell? ⟨g, 7, none⟩ = some (.int .u8 (k.toNat : Int)) := by
  obtain ⟨a, b, c, d, e, f, g', k, rfl⟩ := slList8 l hl
  exact ⟨a, b, c, d, e, f, g', k, rfl, (h.at rfl).1, (h.at rfl).1, (h.at rfl).1, (h.at rfl).1, (h.at rfl).1, (h.at rfl).1, (h.at rfl).1, (h.at rfl).1⟩

set_option maxHeartbeats 1000000 in
set_option maxRecDepth 100000 in
theorem stampOf_any (n : Nat) (w : World) (hn : n ≤ 1099511627776) :
    Calls Tryz.prog 152 #[.int .i64 (n : Int)] w fun e w' => e = .returned (stV (st n)) ∧ Below w.heap.size w w' := by
  have HN := Lib.hid hn
  have B1 := Lib.hid (show Below w.heap.size w ((w.alloc (.cells z8 209)).alloc (.cells z8 209)) from ((Below.refl _ w).alloc (Nat.le_refl _) _).alloc (by simp) _)
  have A1 := Lib.hid (arr_z8 (w.alloc (.cells z8 209)) 209)
  have R1 := Lib.hid ((arr_z8 w 209).same ((Below.refl _ _).alloc (Nat.le_refl _) (.cells z8 209)))
  have HZ := heap_size_alloc w (.cells z8 209)
  have A1 := A1.out
  rw [HZ] at A1
  have A1 := Lib.hid A1
  clear hn HZ
  go_enter Tryz.func152, Tryz.ntmps152
  go_wp2
  obtain ⟨W, hW⟩ : ∃ W, W = (w.alloc (.cells z8 209)).alloc (.cells z8 209) := ⟨_, rfl⟩
  rw [← hW] at A1 B1 R1
  have hW' := hW
  unfold z8 at hW'
  rw [← hW']
  clear hW hW'
  have HS := Lib.hid (show w.heap.size + 1 < W.heap.size from A1.out.lt)
  go_loopw [4, 5] (fun _ i wr => ∃ k : Nat, k ≤ 8 ∧ i = .int .i64 k ∧ slArr wr (w.heap.size + 1) 209 ((st n).take k ++ List.replicate (8 - k) 0) ∧ slArr wr w.heap.size 209 (List.replicate 8 0) ∧ Below w.heap.size w wr) (fun _ i _ => 8 - (intOf i).toNat)
  case atStart => exact ⟨0, Nat.zero_le _, rfl, by simpa using A1.out, R1.out, B1.out⟩
  case round =>
    obtain ⟨k, hk, rfl, hA, hR, hB⟩ := hrel
    by_cases hlt : k < 8
    · obtain ⟨hc, hf, hset⟩ := hA.at (k := k) (x := 0) (by rw [List.getElem?_append_right (by simp [st_len]; omega), List.getElem?_replicate, List.length_take, st_len, if_pos (by omega)])
      have HSET := Lib.hid hset
      have HY := Lib.hid (set_rep hlt (st_len n) (st_at n k hlt))
      clear hset hA
      go_wp2
      go_roundw
      case rel => exact ⟨k + 1, by omega, by go_num, by rw [← HY.out]; exact HSET.out _ _ (shr_byte n k), hR.set_ne (by simp) _, hB.setCell (by simp) _⟩
      case measure => simp [intOf]; omega
    · obtain rfl : k = 8 := by omega
      have hl := st_len n
      simp only [Nat.sub_self, List.replicate_zero, List.append_nil] at hA
      rw [List.take_of_length_le (by omega)] at hA
      obtain ⟨a, b, c, d, e, f, g, q, hl8, a0, a1, a2, a3, a4, a5, a6, a7⟩ := results_arr8 hA hl
      obtain ⟨_, _, _, _, _, _, _, _, hz8, r0, r1, r2, r3, r4, r5, r6, r7⟩ := results_arr8 hR rfl
      have HL8 := Lib.hid hl8
      have fz : ∀ j : Nat, wr.frozen? ⟨w.heap.size, j, none⟩ = false := fun j => by
        have h' : wr.heap[w.heap.size]? = some (.cells (cellsB (List.replicate 8 0)).toArray 209 (0, 0)) := hR
        simp [World.frozen?, h']
      have f0 := fz 0; have f1 := fz 1; have f2 := fz 2; have f3 := fz 3; have f4 := fz 4; have f5 := fz 5; have f6 := fz 6; have f7 := fz 7
      have hB' := Lib.hid hB
      clear hl hl8 hA hR hz8 fz hB
      go_wp2
      refine bodyPost_ret (v := .agg #[.int .u8 (a.toNat : Int), .int .u8 (b.toNat : Int), .int .u8 (c.toNat : Int), .int .u8 (d.toNat : Int), .int .u8 (e.toNat : Int), .int .u8 (f.toNat : Int), .int .u8 (g.toNat : Int), .int .u8 (q.toNat : Int)]) (by simp [results, Tryz.results152, go_sem, r0, r1, r2, r3, r4, r5, r6, r7]) rfl ⟨?_, ?_⟩
      · rw [HL8.out]; rfl
      · exact (((((((hB'.out.setCell (Nat.le_refl _) _).setCell (Nat.le_refl _) _).setCell (Nat.le_refl _) _).setCell (Nat.le_refl _) _).setCell (Nat.le_refl _) _).setCell (Nat.le_refl _) _).setCell (Nat.le_refl _) _).setCell (Nat.le_refl _) _
end Go.Proofs.YtegjeijiekggdaaGreatDoor
end
section
/- Slots: the number of a stamp, and what a sector has at its ends. -/
namespace Go.Proofs.YtegjeijiekggdaaGreatDoor
open Go.RowKit
set_option linter.unusedVariables false
set_option linter.unusedSimpArgs false
theorem or_eq (a x : Nat) (hx : x < 256) : a * 256 ||| x = a * 256 + x := by
  have := Nat.shiftLeft_add_eq_or_of_lt (i := 8) (b := x) (by omega) a
  rw [Nat.shiftLeft_eq, show (2 : Nat) ^ 8 = 256 from rfl] at this
  omega
theorem slOr_join (a x : Nat) (ha : a < 72057594037927936) (hx : x < 256) : bits .or .u64 ((a : Int) * 256) (x : Int) = ((a * 256 + x : Nat) : Int) := by
  have h := u64_or_nat (a * 256) x (by omega) (by omega)
  rw [← or_eq a x hx, ← h]
  congr 1
theorem infoSt_of {l : List UInt8} (h : l.length = 8) : (Tryz.prog.info? 209).map (·.size) = some (cellsB l).length := by
  rw [slLength_cellsB, h]
  kernel_rfl
theorem run_index_st (w : World) (C : Array Value) (k : Nat) (x : Int) (hC : C[k]? = some (.int .u8 x)) (hk : k < 8) : (Instr.index 209 (.agg C) (.int .i64 (k : Int))).run Tryz.prog w = .ok (.int .u8 x) w := by
  have hu : Tryz.prog.underlying 209 = some (.array (Tryz.prog.arrayLen 209) (Tryz.prog.elem 209)) := by kernel_rfl
  have hl : Tryz.prog.arrayLen 209 = 8 := by kernel_rfl
  have he : Tryz.prog.elem 209 = 5 := by kernel_rfl
  rw [hl, he] at hu
  have hs : (sizeOf 5).run Tryz.prog w = .ok 1 w := by simp [go_sem]
  simp [Instr.index, run_underlying hu, asIntOf, hs, part, hC, go_sem, hk]
set_option maxHeartbeats 1000000 in
set_option maxRecDepth 100000 in
theorem gen_any (l : List UInt8) (w : World) (hl : l.length = 8) :
    Calls Tryz.prog 150 #[stV l] w fun e w' => e = .returned (.int .i64 (genOf l : Int)) ∧ Below w.heap.size w w' := by
  have HL := Lib.hid hl
  have A1 : Hid (slArr (w.alloc (.cells (cellsB l).toArray 209)) w.heap.size 209 l) := Lib.hid (heap_alloc_last w _)
  have B1 := Lib.hid ((Below.refl _ w).alloc (Nat.le_refl _) (.cells (cellsB l).toArray 209))
  obtain ⟨C, hC⟩ : ∃ C, C = (cellsB l).toArray := ⟨_, rfl⟩
  unfold stV
  rw [← hC] at A1 B1 ⊢
  have HC := Lib.hid hC
  clear hl hC
  go_enter Tryz.func150, Tryz.ntmps150
  go_wp2_with (refine wpList_load_mid rfl 209 (.tmp 1) rfl w.heap.size 0 rfl (cellsB l) _ A1.out.range Tryz.underlying209 rfl (infoSt_of HL.out) ?_; rw [← HC.out])
  go_loop [3, 5, 7] (fun n _ i => ∃ k : Nat, k ≤ 8 ∧ i = .int .i64 k ∧ n = .int .u64 (be (l.take k) : Int)) (fun _ _ i => 8 - (intOf i).toNat)
  case atStart => exact ⟨0, Nat.zero_le _, rfl, rfl⟩
  case round =>
    obtain ⟨k, hk, rfl, rfl⟩ := hrel
    by_cases hlt : k < 8
    · obtain ⟨x, hx⟩ : ∃ x, l[k]? = some x := ⟨l[k]'(by rw [HL.out]; exact hlt), List.getElem?_eq_getElem _⟩
      have hCk : C[k]? = some (.int .u8 (x.toNat : Int)) := by
        rw [HC.out]
        simp [cellsB, hx, cellB]
      have hCs : C.size = 8 := by rw [HC.out]; simp [slLength_cellsB, HL.out]
      have hT := Lib.hid (take_snoc hx)
      have hb7 := be_le7 (l.take k) (by rw [List.length_take]; omega)
      have hx8 : x.toNat < 256 := x.toNat_lt
      have hI := run_index_st (w.alloc (.cells C 209)) C k _ hCk hlt
      clear hCk
      have KE := slOr_join (be (l.take k)) x.toNat hb7 hx8
      go_wp2
      go_round
      case rel => exact ⟨k + 1, by omega, by go_num, by rw [hT.out, be_snoc]; go_num⟩
      case measure => simp [intOf]; omega
    · obtain rfl : k = 8 := by omega
      have hg : genOf l = if be l ≤ 1099511627776 then be l else 0 := rfl
      rw [List.take_of_length_le (by rw [HL.out]; omega)]
      have HG := Lib.hid hg
      have hb8 := be_le8 l (by rw [HL.out]; omega)
      clear hg
      generalize be l = n at *
      by_cases hm : n ≤ 1099511627776
      · have HG := Lib.hid (HG.out.trans (if_pos hm))
        go_wp2
        go_ret
        exact ⟨by rw [HG.out]; rfl, B1.out⟩
      · have HG := Lib.hid (HG.out.trans (if_neg hm))
        go_wp2
        go_ret
        exact ⟨by rw [HG.out]; rfl, B1.out⟩
/-- An array of eight bytes, sliced whole. -/
theorem slice8 (W : World) (g : Nat) : (Instr.sliceAt 209 (.pointer (some ⟨g, 0, none⟩)) none none none).run Tryz.prog W = .ok (.slice (some ⟨g, 0, none⟩) 8 8) W := by
  have hu : Tryz.prog.underlying 209 = some (.array (Tryz.prog.arrayLen 209) (Tryz.prog.elem 209)) := by kernel_rfl
  have hl : Tryz.prog.arrayLen 209 = 8 := by kernel_rfl
  have he : Tryz.prog.elem 209 = 5 := by kernel_rfl
  rw [run_sliceAt_array_all W 209 ⟨g, 0, none⟩ hu, hl, he]
  have hs : (sizeOf 5).run Tryz.prog W = .ok 1 W := by simp [go_sem]
  rw [hs]
  rfl
theorem slWpList_copy_arr {w : World} {ops : Array Oper} {rest : List Oper} {o : Oper} {a : Act} {Q : Exit → Act → World → Prop} (hgd : o.guard = none) (d s : Operand)
    (ho : o.op = .call { callee := .builtin .copy, args := #[d, s], argTypes := #[29, 29] })
    (dp A : Option Addr) (dn dc m sc : Nat) (hd : a.eval d = .slice dp dn dc) (hs : a.eval s = .slice A m sc) (g off : Nat) (t : TypeId) (cur news l : List UInt8) (hg : slArr w g t cur) (hn : news.length = Nat.min m dn) (hr : RB w A l) (hl : news = l.take news.length)
    (hdp : 0 < news.length → dp = some ⟨g, off, none⟩) (hfit : off + news.length ≤ cur.length)
    (h : ∀ w', Hid (slArr w' g t (splice cur off news)) → slOnlyB g w w' → wpList Tryz.prog ops Q rest (a.put o.dst (goInt news.length)) w') : wpList Tryz.prog ops Q (o :: rest) a w := by
  by_cases h0 : news.length = 0
  · obtain rfl : news = [] := List.eq_nil_of_length_eq_zero h0
    refine wpList_copy_nothing hgd d s 29 29 ho 5 Tryz.underlying29 (by kernel_rfl) dp A dn dc m sc hd hs (by simpa using hn.symm) ?_
    exact h w (Lib.hid (by simpa [splice] using hg)) (slOnlyB.refl g w)
  · obtain rfl := hdp (by omega)
    rcases hr with e | ⟨ad, rfl, hc⟩
    · rw [hl, e] at h0; simp at h0
    · refine wpList_copy_own hgd d s 29 29 ho 5 Tryz.underlying29 (by kernel_rfl) g off dn dc ad m sc hd hs (cellsB cur).toArray t hg (cellsB news) (by rw [slLength_cellsB]; exact hn) (fun j v hv => ?_) (by simpa [slLength_cellsB] using hfit) (slOneCells_B news) ?_
      · simp only [cellsB, List.getElem?_map, Option.map_eq_some_iff] at hv
        obtain ⟨x, hx, rfl⟩ := hv
        refine hc j x ?_
        rw [hl, List.getElem?_take] at hx
        split at hx
        · exact hx
        · cases hx
      · rw [slLength_cellsB]
        refine h _ (Lib.hid ?_) (slOnlyB.row g w _ t _ hg)
        unfold slArr
        refine (setRow_heap w g _ _ t (0, 0) hg).trans ?_
        congr 3
        simp [cellsB, splice]
theorem RB.some_of {w : World} {A : Option Addr} {l : List UInt8} (h : RB w A l) (hl : 0 < l.length) : ∃ ad, A = some ad := by
  rcases h with rfl | ⟨ad, e, _⟩
  · simp at hl
  · exact ⟨ad, e⟩
set_option maxHeartbeats 1000000 in
set_option maxRecDepth 100000 in
/-- What a sector has at its ends. -/
theorem ends_any (A : Option Addr) (c : Nat) (l : List UInt8) (w : World) (hl : l.length = 256) (hc : 256 ≤ c) (hr : RB w A l) :
    Calls Tryz.prog 149 #[.slice A 256 c] w fun e w' => e = .returned (.tuple #[stV (l.take 8), stV (l.drop 248)]) ∧ Below w.heap.size w w' := by
  obtain ⟨ad, rfl⟩ := hr.some_of (by omega)
  have HL := Lib.hid hl
  have B1 := Lib.hid (show Below w.heap.size w ((w.alloc (.cells z8 209)).alloc (.cells z8 209)) from ((Below.refl _ w).alloc (Nat.le_refl _) _).alloc (by simp) _)
  have A2 := arr_z8 (w.alloc (.cells z8 209)) 209
  have A1 := Lib.hid ((arr_z8 w 209).same ((Below.refl _ _).alloc (Nat.le_refl _) (.cells z8 209)))
  rw [heap_size_alloc] at A2
  have A2 := Lib.hid A2
  have R1 := Lib.hid ((hr.alloc (.cells z8 209)).alloc (.cells z8 209))
  have hc8 : ¬ c = 248 := by omega
  have HR := Lib.hid hr
  clear hl hr
  go_enter Tryz.func149, Tryz.ntmps149
  go_wp2_with (refine slWpList_copy_arr rfl (.tmp 4) (.tmp 5) rfl _ _ 8 8 256 c rfl rfl w.heap.size 0 209 (List.replicate 8 0) (l.take 8) l A1.out (by rw [List.length_take, HL.out]; rfl) R1.out (by rw [List.length_take, HL.out]; rfl) (fun _ => rfl) (by rw [List.length_take, HL.out, List.length_replicate]; omega) ?_; intro w1 hw1 ho1)
  have E1 : splice (List.replicate 8 (0 : UInt8)) 0 (l.take 8) = l.take 8 := by simp [splice, HL.out]
  have hw1 := hw1.out
  rw [E1] at hw1
  have W1 := Lib.hid hw1
  have W2 := Lib.hid (A2.out.only ho1 (by omega))
  have B2 := Lib.hid (B1.out.trans (ho1.below (Nat.le_refl _)))
  have R2 := (HR.out.below B2.out).drop 248
  have E2 : splice (List.replicate 8 (0 : UInt8)) 0 (l.drop 248) = l.drop 248 := by simp [splice, HL.out]
  have e248 : ad.add 248 = ⟨ad.block, ad.off + 248, none⟩ := by unfold Addr.add; rw [if_neg (by omega)]
  rw [e248] at R2
  have R2 := Lib.hid R2
  clear hw1 ho1 A2 A1 R1 e248
  go_still_tail 3, (by kernel_rfl)
  refine slWpList_copy_arr rfl (.tmp 7) (.tmp 9) rfl _ _ 8 8 8 _ rfl rfl (w.heap.size + 1) 0 209 (List.replicate 8 0) (l.drop 248) (l.drop 248) (show slArr w1.drew _ _ _ from W2.out) (by rw [List.length_drop, HL.out]; rfl) (show RB w1.drew _ _ from R2.out) (by rw [List.length_drop, HL.out, List.take_of_length_le (by rw [List.length_drop, HL.out]; omega)]) (fun _ => rfl) (by rw [List.length_drop, HL.out, List.length_replicate]; omega) ?_
  intro w2 hw2 ho2
  have hw2 := hw2.out
  rw [E2] at hw2
  have hp2 : slArr w2 w.heap.size 209 (l.take 8) := (show slArr w1.drew _ _ _ from W1.out).only ho2 (by omega)
  have B3 := Lib.hid ((show Below w.heap.size w w1.drew from B2.out.drew).trans (ho2.below (Nat.le_succ _)))
  have ha : (l.take 8).length = 8 := by rw [List.length_take, HL.out]; rfl
  have hb : (l.drop 248).length = 8 := by rw [List.length_drop, HL.out]
  have fp : ∀ j, w2.frozen? ⟨w.heap.size, j, none⟩ = false := fun j => hp2.frozen j
  have fq : ∀ j, w2.frozen? ⟨w.heap.size + 1, j, none⟩ = false := fun j => hw2.frozen j
  clear ho2 W1 W2 B1 B2 E1 E2 R2 hw1 HR HL hc hc8 A2
  obtain ⟨a0, a1, a2, a3, a4, a5, a6, a7, hP, p0, p1, p2, p3, p4, p5, p6, p7⟩ := results_arr8 hp2 ha
  obtain ⟨b0, b1, b2, b3, b4, b5, b6, b7, hR, q0, q1, q2, q3, q4, q5, q6, q7⟩ := results_arr8 hw2 hb
  have HP := Lib.hid hP
  have HR := Lib.hid hR
  have x0 := fp 0; have x1 := fp 1; have x2 := fp 2; have x3 := fp 3; have x4 := fp 4; have x5 := fp 5; have x6 := fp 6; have x7 := fp 7
  have y0 := fq 0; have y1 := fq 1; have y2 := fq 2; have y3 := fq 3; have y4 := fq 4; have y5 := fq 5; have y6 := fq 6; have y7 := fq 7
  clear hP hR hp2 hw2 ha hb fp fq
  go_wp2
  refine bodyPost_ret (v := .tuple #[.agg #[.int .u8 (a0.toNat : Int), .int .u8 (a1.toNat : Int), .int .u8 (a2.toNat : Int), .int .u8 (a3.toNat : Int), .int .u8 (a4.toNat : Int), .int .u8 (a5.toNat : Int), .int .u8 (a6.toNat : Int), .int .u8 (a7.toNat : Int)], .agg #[.int .u8 (b0.toNat : Int), .int .u8 (b1.toNat : Int), .int .u8 (b2.toNat : Int), .int .u8 (b3.toNat : Int), .int .u8 (b4.toNat : Int), .int .u8 (b5.toNat : Int), .int .u8 (b6.toNat : Int), .int .u8 (b7.toNat : Int)]]) (by simp [results, Tryz.results149, go_sem, p0, p1, p2, p3, p4, p5, p6, p7, q0, q1, q2, q3, q4, q5, q6, q7]) rfl ⟨?_, ?_⟩
  · rw [HP.out, HR.out]; rfl
  · exact ((((((((((((((((B3.out.setCell (Nat.le_refl _) _).setCell (Nat.le_refl _) _).setCell (Nat.le_refl _) _).setCell (Nat.le_refl _) _).setCell (Nat.le_refl _) _).setCell (Nat.le_refl _) _).setCell (Nat.le_refl _) _).setCell (Nat.le_refl _) _).setCell (Nat.le_succ _) _).setCell (Nat.le_succ _) _).setCell (Nat.le_succ _) _).setCell (Nat.le_succ _) _).setCell (Nat.le_succ _) _).setCell (Nat.le_succ _) _).setCell (Nat.le_succ _) _).setCell (Nat.le_succ _) _)
end Go.Proofs.YtegjeijiekggdaaGreatDoor
end
section
/- Slots: a sector is laid. -/
namespace Go.Proofs.YtegjeijiekggdaaGreatDoor
open Go.RowKit
set_option linter.unusedVariables false
set_option linter.unusedSimpArgs false
theorem wpList_make_room_B {w : World} {ops : Array Oper} {rest : List Oper} {o : Oper} {a : Act} {Q : Exit → Act → World → Prop} (hgd : o.guard = none) (s x : Operand)
    (ho : o.op = Op.makeSlice 29 s x) (base n : Nat) (C : Int) (hs : a.eval s = .int .i64 0) (hx : a.eval x = .int .i64 C) (hC : C = (n : Int)) (hn : n ≤ 70368744177664) (hbase : base ≤ w.heap.size)
    (h : ∀ w', OB base w' (.slice (some ⟨w.heap.size, 0, none⟩) 0 n) [] → Below base w w' → wpList Tryz.prog ops Q rest (a.put o.dst (.slice (some ⟨w.heap.size, 0, none⟩) 0 n)) w') : wpList Tryz.prog ops Q (o :: rest) a w := by
  obtain ⟨i0, hi, hz0, hz1, hz2⟩ := info_parts Tryz.info5
  refine wpList_make_own w hgd s x 29 ho base 5 i0 _ 1 Tryz.underlying29 hi hz0 hz1 .i64 .i64 C n hs hx hC (by rw [hz2]; omega) (by simp only [maxLen]; omega) hbase ?_
  intro w' h1 h2
  refine h w' h1 ?_
  exact (Below.refl base w).grown h2 hbase fun k hk => by cases hk

set_option maxHeartbeats 1000000 in
set_option maxRecDepth 100000 in
theorem lay_any (s : List UInt8) (i : Nat) (A : Option Addr) (n c : Nat) (p : List UInt8) (w : World) (hs : s.length = 8) (hi : i < 256) (hp : p.length = n) (hn : n ≤ 1000000) (hr : RB w A p) :
    Calls Tryz.prog 151 #[stV s, .int .i64 (i : Int), .slice A n c] w fun e w' => ∃ v, e = .returned v ∧ OB w.heap.size w' v (s ++ [UInt8.ofNat i] ++ p ++ s) ∧ Below w.heap.size w w' := by
  have HS := Lib.hid hs
  have HP := Lib.hid hp
  have A1 : Hid (slArr (w.alloc (.cells (cellsB s).toArray 209)) w.heap.size 209 s) := Lib.hid (heap_alloc_last w _)
  have B1 := Lib.hid ((Below.refl _ w).alloc (Nat.le_refl _) (.cells (cellsB s).toArray 209))
  have HZ := Lib.hid (heap_size_alloc w (.cells (cellsB s).toArray 209))
  have R1 := Lib.hid (hr.alloc (.cells (cellsB s).toArray 209))
  have hmod : (i : Int) % 256 = (i : Int) := by omega
  have HI := Lib.hid (show (i : Int) = ((UInt8.ofNat i).toNat : Int) from by rw [toNat_of]; omega)
  unfold stV
  clear hs hp hr
  go_enter Tryz.func151, Tryz.ntmps151
  go_upto_region 1 with (fail)
  generalize w.alloc (.cells (cellsB s).toArray 209) = W at *
  go_upto_region 2 with (at_make; refine wpList_make_room_B rfl _ _ rfl W.heap.size 256 _ rfl rfl rfl (by omega) (Nat.le_refl _) ?_; intro w1 ho1 hb1)
  have g0 : w.heap.size < W.heap.size := by have := HZ.out; omega
  have HA := Lib.hid (fun w' (h : Below W.heap.size W w') => (A1.out.below h g0))
  have HR := Lib.hid (fun w' (h : Below W.heap.size W w') => (R1.out.below h))
  have HV := Lib.hid (fun w' (h : Below W.heap.size W w') => (B1.out.trans (h.mono (Nat.le_of_lt g0))))
  have G1 := hb1.size
  clear A1 R1 B1
  go_upto_region 3 with (at_builtin; refine wpList_append_B rfl (.tmp 9) (.tmp 10) rfl W.heap.size _ [] rfl ho1 (some ⟨w.heap.size, 0, none⟩) 8 8 s rfl HS.out (HA.out _ hb1).reads (by simp) G1 ?_; intro v3 w3 ho3 hb3)
  have D3 := Lib.hid (hb1.trans hb3)
  have G3 := D3.out.size
  clear hb1 hb3 ho1 G1
  have O3 : OB W.heap.size w3 v3 s := ho3
  clear ho3
  go_upto_region 4 with (at_builtin; refine wpList_append_B rfl (.tmp 12) (.tmp 15) rfl W.heap.size _ s rfl (O3.alloc _) _ 1 1 [UInt8.ofNat i] rfl rfl (RB.one _ _ _ HI.out) (by rw [HS.out]; omega) (by simp; omega) ?_; intro v4 w4 ho4 hb4; have D4 := Lib.hid ((D3.out.alloc G3 _).trans hb4); clear hb4)
  have G4 := D4.out.size
  have O4 := Lib.hid ho4
  have L4 := Lib.hid (show (s ++ [UInt8.ofNat i]).length = 9 from by simp [HS.out])
  clear ho4 O3 G3 D3
  go_upto_region 5 with (at_builtin; refine wpList_append_B rfl (.tmp 17) (.tmp 18) rfl W.heap.size _ _ rfl O4.out A n c p rfl HP.out (HR.out _ D4.out) (by rw [L4.out]; omega) G4 ?_; intro v5 w5 ho5 hb5; have D5 := Lib.hid (D4.out.trans hb5); clear hb5)
  have G5 := D5.out.size
  have O5 := Lib.hid ho5
  have L5 := Lib.hid (show (s ++ [UInt8.ofNat i] ++ p).length = 9 + n from by rw [List.length_append, L4.out, HP.out])
  clear ho5 O4 G4 D4
  go_wp2_with (at_builtin; refine wpList_append_B rfl (.tmp 20) (.tmp 21) rfl W.heap.size _ _ rfl O5.out (some ⟨w.heap.size, 0, none⟩) 8 8 s rfl HS.out (HA.out _ D5.out).reads (by rw [L5.out]; omega) G5 ?_; intro v6 w6 ho6 hb6; have D6 := Lib.hid (D5.out.trans hb6); clear hb6)
  go_ret
  exact ⟨_, rfl, ho6.lift (Nat.le_of_lt g0), HV.out _ D6.out⟩
end Go.Proofs.YtegjeijiekggdaaGreatDoor
end
section
/- Slots: lists of sectors in memory; the bytes of a body are put. -/
namespace Go.Proofs.YtegjeijiekggdaaGreatDoor
open Go.RowKit
set_option linter.unusedVariables false
set_option linter.unusedSimpArgs false
/-- The slice of slices at A reads as the rows L. -/
def RBS (w : World) (A : Option Addr) (L : List (List UInt8)) : Prop :=
  ∀ (j : Nat) (l : List UInt8), L[j]? = some l → ∃ (ad : Addr) (B : Option Addr) (c : Nat), A = some ad ∧ w.cell? (ad.add j) = some (.slice B l.length c) ∧ l.length ≤ c ∧ c ≤ maxLen ∧ RB w B l
theorem RBS.keep {w w' : World} {A : Option Addr} {L : List (List UInt8)} (h : RBS w A L) (hk : ∀ p : Addr, p.block < w.heap.size → w'.cell? p = w.cell? p) : RBS w' A L := fun j l hj => by
  obtain ⟨ad, B, c, e, h1, h2, h3, h4⟩ := h j l hj
  exact ⟨ad, B, c, e, (hk _ (lt_of_cell h1)).trans h1, h2, h3, h4.keep hk⟩
theorem RBS.below {w w' : World} {A : Option Addr} {L : List (List UInt8)} (h : RBS w A L) (hb : Below w.heap.size w w') : RBS w' A L := h.keep fun _ hp => hb.cell hp
theorem RBS.alloc {w : World} {A : Option Addr} {L : List (List UInt8)} (h : RBS w A L) (o : Obj) : RBS (w.alloc o) A L := h.keep fun p hp => World.cell?_alloc_lt w o p hp
theorem RBS.drew {w : World} {A : Option Addr} {L : List (List UInt8)} (h : RBS w A L) : RBS w.drew A L := h
theorem RBS.nil {w : World} {A : Option Addr} : RBS w A [] := fun j l hj => by simp at hj

/-- Values that are slices that read as the rows L, in blocks from lo on. -/
def Rws (w : World) (lo : Nat) (vs : List Value) (L : List (List UInt8)) : Prop :=
  vs.length = L.length ∧ ∀ (j : Nat) (l : List UInt8), L[j]? = some l → ∃ (ad : Addr) (c : Nat), vs[j]? = some (.slice (some ad) l.length c) ∧ l.length ≤ c ∧ c ≤ maxLen ∧ RB w (some ad) l ∧ lo ≤ ad.block ∧ ad.block < w.heap.size
theorem Rws.nil {w : World} {lo : Nat} : Rws w lo [] [] := ⟨rfl, fun j l hj => by simp at hj⟩
theorem Rws.below {w w' : World} {lo : Nat} {vs : List Value} {L : List (List UInt8)} (h : Rws w lo vs L) (hb : Below w.heap.size w w') : Rws w' lo vs L := ⟨h.1, fun j l hj => by
  obtain ⟨ad, c, h1, h2, h3, h4, h5, h6⟩ := h.2 j l hj
  exact ⟨ad, c, h1, h2, h3, h4.below hb, h5, Nat.lt_of_lt_of_le h6 hb.size⟩⟩
theorem Rws.snoc {w : World} {lo : Nat} {vs : List Value} {L : List (List UInt8)} (h : Rws w lo vs L) {ad : Addr} {c : Nat} {l : List UInt8} (h2 : l.length ≤ c) (h3 : c ≤ maxLen) (h4 : RB w (some ad) l) (h5 : lo ≤ ad.block) (h6 : ad.block < w.heap.size) :
    Rws w lo (vs ++ [.slice (some ad) l.length c]) (L ++ [l]) := by
  refine ⟨by simp [h.1], fun j x hj => ?_⟩
  by_cases hl : j < L.length
  · rw [List.getElem?_append_left hl] at hj
    obtain ⟨ad', c', g1, g2⟩ := h.2 j x hj
    exact ⟨ad', c', by rw [List.getElem?_append_left (by rw [h.1]; exact hl)]; exact g1, g2⟩
  · have : j = L.length := by
      have h7 := (List.getElem?_eq_some_iff.1 hj).1
      simp at h7
      omega
    subst this
    simp only [List.getElem?_concat_length, Option.some.injEq] at hj
    subst hj
    exact ⟨ad, c, by rw [← h.1]; simp, h2, h3, h4, h5, h6⟩
theorem Rws.only {w w' : World} {lo g : Nat} {vs : List Value} {L : List (List UInt8)} (h : Rws w lo vs L) (ho : slOnlyB g w w') (hg : g < lo) : Rws w' lo vs L := ⟨h.1, fun j l hj => by
  obtain ⟨ad, c, h1, h2, h3, h4, h5, h6⟩ := h.2 j l hj
  refine ⟨ad, c, h1, h2, h3, ?_, h5, by rw [ho.size]; exact h6⟩
  rcases h4 with rfl | ⟨ad', e, hc⟩
  · exact .inl rfl
  · injection e with e
    subst e
    refine .inr ⟨_, rfl, fun i x hx => ?_⟩
    have h7 := hc i x hx
    rw [← h7]
    exact World.cell?_of_block (ho.block _ (by rw [block_of_add]; omega))⟩
theorem Rws.rbs {w : World} {lo g : Nat} {vs : List Value} {L : List (List UInt8)} {t : TypeId} {fr : Nat × Nat} {more : List Value} (h : Rws w lo vs L) (hg : w.heap[g]? = some (.cells (vs ++ more).toArray t fr)) : RBS w (some ⟨g, 0, none⟩) L := fun j l hj => by
  obtain ⟨ad, c, h1, h2, h3, h4, _⟩ := h.2 j l hj
  refine ⟨_, some ad, c, rfl, ?_, h2, h3, h4⟩
  have e : (⟨g, 0, none⟩ : Addr).add j = ⟨g, j, none⟩ := by cases j <;> simp [Addr.add]
  rw [e, cell_of_row w g j _ t fr hg]
  have hj' : j < vs.length := by rw [h.1]; exact (List.getElem?_eq_some_iff.1 hj).1
  simp only [List.getElem?_toArray]
  rw [List.getElem?_append_left hj']
  exact h1
theorem OB.row {base : Nat} {w : World} {v : Value} {l : List UInt8} (h : OB base w v l) (hl : 0 < l.length) : ∃ ad c, v = .slice (some ad) l.length c ∧ l.length ≤ c ∧ c ≤ maxLen ∧ RB w (some ad) l ∧ base ≤ ad.block ∧ ad.block < w.heap.size := by
  have hf := h.form
  unfold OB at h
  rcases h.2 with ⟨e, hn⟩ | ⟨g, cap, cur, e, hb, hh, hc, hm, hsz, ht⟩
  · omega
  · obtain ⟨A, c, e2, h2, h3⟩ := hf
    rw [e] at e2
    injection e2 with e3 e4 e5
    subst e3 e5
    exact ⟨_, _, e, hc, hm, h3, hb, (Array.getElem?_eq_some_iff.1 hh).1⟩
theorem put_no (gen : Int) (A : Option Addr) (n c : Nat) (w : World) (h : gen < 1 ∨ 1099511627776 < gen) :
    Calls Tryz.prog 114 #[.int .i64 gen, .slice A n c] w fun e w' => e = .returned (.tuple #[.slice none 0 0, .int .i64 9]) ∧ w = w' := by
  have h1 : (decide (gen < 1) || decide (1099511627776 < gen)) = true := by rcases h with h | h <;> simp [h]
  by_cases h2 : gen < 1
  · go_enter Tryz.func114, Tryz.ntmps114
    go_wp2
    go_ret2
    exact ⟨rfl, rfl⟩
  · have h3 : 1099511627776 < gen := by omega
    go_enter Tryz.func114, Tryz.ntmps114
    go_wp2
    go_ret2
    exact ⟨rfl, rfl⟩
theorem put_big (gen : Int) (A : Option Addr) (n c : Nat) (w : World) (h1 : 1 ≤ gen) (h2 : gen ≤ 1099511627776) (h3 : 954 < n) :
    Calls Tryz.prog 114 #[.int .i64 gen, .slice A n c] w fun e w' => e = .returned (.tuple #[.slice none 0 0, .int .i64 5]) ∧ w = w' := by
  have h4 : decide (954 < (n : Int)) = true := by simp; omega
  go_enter Tryz.func114, Tryz.ntmps114
  go_wp2
  go_ret2
  exact ⟨rfl, rfl⟩
end Go.Proofs.YtegjeijiekggdaaGreatDoor
end
