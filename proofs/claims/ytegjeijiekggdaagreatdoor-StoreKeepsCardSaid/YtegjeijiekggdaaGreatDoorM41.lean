/- Joined: StV StW. -/
import Derived.Test.YtegjeijiekggdaaGreatDoorM36
import Derived.Test.YtegjeijiekggdaaGreatDoorM15
section
/- The package store, plain: two writings of a slot whose numbers are small, torn in any way: the elder, the newer, or none. -/
namespace Go.Proofs.YtegjeijiekggdaaGreatDoor
open Go.RowKit
set_option linter.unusedVariables false
theorem st_small {a : Nat} (h : a < 256) : st a = List.replicate 7 0 ++ [UInt8.ofNat a] := by
  rw [st_eq]
  have e : ∀ k, 1 ≤ k → a / 256 ^ k = 0 := fun k hk => Nat.div_eq_of_lt (Nat.lt_of_lt_of_le h (by
    have := Nat.pow_le_pow_right (n := 256) (by omega) hk
    omega))
  rw [e 7 (by omega), e 6 (by omega), e 5 (by omega), e 4 (by omega), e 3 (by omega), e 2 (by omega), e 1 (by omega), Nat.pow_zero, Nat.div_one]
  rfl
theorem st_cut {a b m : Nat} (ha : a < 256) (hb : b < 256) (hm : m ≤ 7) : (st a).take m = (st b).take m := by
  rw [st_small ha, st_small hb, List.take_append_of_le_length (by simp; omega), List.take_append_of_le_length (by simp; omega)]
/-- A sector whose ends tell small numbers. -/
structure Sm (b : List UInt8) (x y : Nat) : Prop where
  len : b.length = 256
  hd : b.take 8 = st x
  tl : b.drop 248 = st y
theorem sm_zeros : Sm zeros 0 0 := ⟨zeros_len, by kernel_rfl, by kernel_rfl⟩
set_option maxRecDepth 100000 in
theorem torn_small {x y : List UInt8} {a b g k : Nat} (hx : Sm x a b) (hy : Sm y g g) (ha : a < 256) (hb : b < 256) (hg : g < 256) (hk : k ≤ 256) :
    torn k x y = y ∨ torn k x y = x ∨ Sm (torn k x y) g b := by
  unfold torn
  by_cases h256 : k = 256
  · left
    subst h256
    rw [List.take_of_length_le (by rw [hy.len]; omega), List.drop_of_length_le (by rw [hx.len]; omega), List.append_nil]
  · right
    by_cases h8 : k < 8
    · left
      have e : y.take k = x.take k := by
        have h1 : y.take k = (y.take 8).take k := by rw [List.take_take]; congr 1; omega
        have h2 : x.take k = (x.take 8).take k := by rw [List.take_take]; congr 1; omega
        rw [h1, h2, hy.hd, hx.hd, st_cut hg ha (by omega)]
      rw [e, List.take_append_drop]
    · right
      have hyl := hy.len
      have hxl := hx.len
      have hl : (y.take k).length = k := by rw [List.length_take]; omega
      refine ⟨by rw [List.length_append, hl, List.length_drop]; omega, ?_, ?_⟩
      · rw [List.take_append_of_le_length (by omega), List.take_take, ← hy.hd]
        congr 1
        omega
      · by_cases h248 : k ≤ 248
        · rw [List.drop_append, hl, List.drop_eq_nil_of_le (by omega), List.nil_append, List.drop_drop, ← hx.tl]
          congr 1
          omega
        · rw [List.drop_append_of_le_length (by omega), List.drop_take]
          have e1 : (y.drop 248).take (k - 248) = (st b).take (k - 248) := by rw [hy.tl]; exact st_cut hg hb (by omega)
          have e2 : x.drop k = (st b).drop (k - 248) := by rw [← hx.tl, List.drop_drop]; congr 1; omega
          rw [e1, e2, List.take_append_drop]
theorem stamp_apart {z : List UInt8} {g b : Nat} (h : Sm z g b) (hg : g < 256) (hb : b < 256) (hne : g ≠ b) : stampP z = 0 := by
  unfold stampP
  rw [h.hd, h.tl, if_neg]
  exact fun e => hne (st_inj (by omega) (by omega) e.2)
theorem stamp_le {z : List UInt8} {a b : Nat} (h : Sm z a b) (ha : a < 256) : stampP z ≤ a := by
  unfold stampP
  split
  · rw [h.hd, genOf_st (by unfold maxNum; omega)]
    omega
  · omega
theorem stamp_is {z : List UInt8} {a : Nat} (h : Sm z a a) (ha : a < 256) : stampP z = a := ends_stamp h.len (by unfold maxNum; omega) h.hd h.tl
set_option maxRecDepth 100000 in
/-- A slot, torn: the newer, the elder, or none. -/
theorem slot_torn {X Y Z : List (List UInt8)} {g : Nat} (hX : X.length = 4) (hY : Y.length = 4) (hZ : Z.length = 4) (hg : g < 256)
    (h : ∀ i, i < 4 → ∃ a b k, a < g ∧ b < g ∧ k ≤ 256 ∧ Sm (X.getD i []) a b ∧ Sm (Y.getD i []) g g ∧ Z.getD i [] = torn k (X.getD i []) (Y.getD i [])) :
    Z = Y ∨ Z = X ∨ slGetE Z = 3 := by
  have ext : ∀ {W : List (List UInt8)}, W.length = 4 → (∀ i, i < 4 → Z.getD i [] = W.getD i []) → Z = W := fun {W} hW e => four_ext hZ hW fun i hi => by
    have := e i hi
    rw [List.getD_eq_getElem?_getD, List.getD_eq_getElem?_getD, List.getElem?_eq_getElem (by omega), List.getElem?_eq_getElem (by omega)] at this
    rw [List.getElem?_eq_getElem (by omega), List.getElem?_eq_getElem (by omega)]
    exact congrArg some this
  have key : ∀ i, i < 4 → Z.getD i [] = Y.getD i [] ∨ Z.getD i [] = X.getD i [] ∨ stampP (Z.getD i []) = 0 := fun i hi => by
    obtain ⟨a, b, k, ha, hb, hk, hx, hy, e⟩ := h i hi
    rw [e]
    rcases torn_small hx hy (by omega) (by omega) hg hk with h1 | h1 | h1
    · exact .inl h1
    · exact .inr (.inl h1)
    · exact .inr (.inr (stamp_apart h1 hg (by omega) (by omega)))
  by_cases hs : sharedP Z = 0
  · right; right
    unfold slGetE
    rw [if_pos hs]
  · obtain ⟨_, hall⟩ := shared_all hs
    have hmem : ∀ i, i < 4 → stampP (Z.getD i []) = sharedP Z := fun i hi => by
      rw [List.getD_eq_getElem?_getD, List.getElem?_eq_getElem (by omega)]
      exact hall _ (List.getElem_mem (by omega))
    by_cases hgg : sharedP Z = g
    · left
      refine ext hY fun i hi => ?_
      rcases key i hi with h1 | h1 | h1
      · exact h1
      · obtain ⟨a, b, k, ha, hb, hk, hx, hy, e⟩ := h i hi
        have h2 := stamp_le hx (by omega)
        rw [← h1, hmem i hi] at h2
        omega
      · rw [hmem i hi] at h1
        omega
    · right; left
      refine ext hX fun i hi => ?_
      rcases key i hi with h1 | h1 | h1
      · obtain ⟨a, b, k, ha, hb, hk, hx, hy, e⟩ := h i hi
        have h2 := stamp_is hy hg
        rw [← h1, hmem i hi] at h2
        exact absurd h2 hgg
      · exact h1
      · rw [hmem i hi] at h1
        omega
theorem sm_putL {g i : Nat} {b : List UInt8} (hb : b.length ≤ 954) (hi : i < 4) : Sm ((putL g b).getD i []) g g := by
  rw [List.getD_eq_getElem?_getD, putL_at g b hi]
  have h := partOf_len (allOf_len hb) hi
  exact ⟨sec_len h, sec_take, sec_drop h⟩
theorem sm_seen {b : List UInt8} {x y j n : Nat} (h : Sm b x y) (hx : x ≤ j) (hy : y ≤ j) (hj : j < 256) : seen1 n b ≤ max n j := by
  unfold seen1
  rw [h.hd, h.tl, genOf_st (by unfold maxNum; omega), genOf_st (by unfold maxNum; omega)]
  split <;> omega
end Go.Proofs.YtegjeijiekggdaaGreatDoor
end
section
/- The package store, plain: what a disk keeps wherever the power fails. -/
namespace Go.Proofs.YtegjeijiekggdaaGreatDoor
open Go.RowKit
set_option linter.unusedVariables false
def Sto.back (t : Sto) : Sto := { t with used := t.cts, bad := false }
def blkB (n : Nat) (r : List UInt8 × Nat) : List UInt8 := [UInt8.ofNat (n / 256), UInt8.ofNat (n % 256), UInt8.ofNat r.2, UInt8.ofNat (r.1.length / 256), UInt8.ofNat (r.1.length % 256)] ++ r.1
/-- The used blocks, and what they have. -/
def restP (d : Dk) (log size : Nat) (U : List UInt64) : List UInt8 := (List.range size).flatMap fun n => if bitL U n = true then blkB n (opn (d.rd (8 + log + 4 * n) 4) 1024) else []
def imgP (d : Dk) (t : Sto) (U : List UInt64) : List UInt8 := t.body ++ (124 :: restP d t.log t.size U)
theorem rd_congr {d d' : Dk} {x : Nat} (h : ∀ i, i < 4 → d'.at_ (x + i) = d.at_ (x + i)) : d'.rd x 4 = d.rd x 4 := by
  show (((([] : List UInt8) ++ d'.at_ (x + 0)) ++ d'.at_ (x + 1)) ++ d'.at_ (x + 2)) ++ d'.at_ (x + 3) = (((([] : List UInt8) ++ d.at_ (x + 0)) ++ d.at_ (x + 1)) ++ d.at_ (x + 2)) ++ d.at_ (x + 3)
  rw [h 0 (by omega), h 1 (by omega), h 2 (by omega), h 3 (by omega)]
theorem flatMap_congr' {α β : Type} {f g : α → List β} : ∀ (l : List α), (∀ a ∈ l, f a = g a) → l.flatMap f = l.flatMap g
  | [], _ => rfl
  | a :: l, h => by
    rw [List.flatMap_cons, List.flatMap_cons, h a (.head _), flatMap_congr' l fun b hb => h b (.tail _ hb)]
theorem restP_congr {d d' : Dk} {log size : Nat} {U : List UInt64} (h : ∀ n, n < size → bitL U n = true → ∀ i, i < 4 → d'.at_ (8 + log + 4 * n + i) = d.at_ (8 + log + 4 * n + i)) : restP d' log size U = restP d log size U := by
  unfold restP
  refine flatMap_congr' _ fun n hn => ?_
  have hn := List.mem_range.1 hn
  split
  · rename_i hb
    rw [rd_congr (h n hn hb)]
  · rfl
def Dk.rows4 (d : Dk) (k : Nat) : List (List UInt8) := (List.range 4).map fun i => d.rows.getD (4 * k + i) []
theorem Dk.rows4_len (d : Dk) (k : Nat) : (d.rows4 k).length = 4 := by simp [Dk.rows4]
theorem Dk.rows4_at (d : Dk) (k : Nat) {i : Nat} (h : i < 4) : (d.rows4 k).getD i [] = d.rows.getD (4 * k + i) [] := by
  rw [List.getD_eq_getElem?_getD]
  simp [Dk.rows4, h]
theorem rows4_is {d : Dk} {k : Nat} {L : List (List UInt8)} (hL : L.length = 4) (h : ∀ i, i < 4 → d.rows.getD (4 * k + i) [] = L.getD i []) : d.rows4 k = L := by
  refine four_ext (Dk.rows4_len _ _) hL fun i hi => ?_
  have h1 := (Dk.rows4_at d k hi).trans (h i hi)
  have hl := Dk.rows4_len d k
  rw [List.getD_eq_getElem?_getD, List.getD_eq_getElem?_getD, List.getElem?_eq_getElem (by omega), List.getElem?_eq_getElem (by omega)] at h1
  rw [List.getElem?_eq_getElem (by omega), List.getElem?_eq_getElem (by omega)]
  exact congrArg some h1
theorem at_none {d : Dk} {i : Nat} (h : d.wt i = none) : d.at_ i = d.rows.getD i [] := by
  unfold Dk.at_
  rw [h]
  rfl
theorem Dk.power_none {d : Dk} (h : d.Ok) (f : List UInt8) {i : Nat} (hi : i < d.rows.length) (hw : d.wt i = none) : (d.power f).rows.getD i [] = d.rows.getD i [] := by
  obtain ⟨k, _, e⟩ := d.power_at h f hi
  rw [at_none hw, List.take_append_drop] at e
  exact e
theorem power_len (d : Dk) (f : List UInt8) : (d.power f).rows.length = d.rows.length := by
  show (powerGo d.wt d.waits (d.rows, f)).1.length = _
  rw [powerGo_length]
theorem secs_rows {d : Dk} {k : Nat} (ho : d.off = false) (hl : 4 * k + 4 ≤ d.rows.length) (hw : ∀ i, i < 4 → d.wt (4 * k + i) = none) : d.secs k = d.rows4 k := by
  symm
  refine rows4_is (Dk.secs_len _ _) fun i hi => ?_
  have e : (d.secs k).getD i [] = d.reads ((4 * k + i : Nat) : Int) := by
    rw [List.getD_eq_getElem?_getD, Dk.secs_at _ _ hi]
    rfl
  have hf : d.faultAt ((4 * k + i : Nat) : Int) = 0 := by
    unfold Dk.faultAt
    rw [ho, if_neg (by simp), if_neg (by omega)]
  rw [e]
  unfold Dk.reads
  rw [if_pos hf, Int.toNat_natCast, at_none (hw i hi)]
/-- What a disk keeps of a store. -/
structure Kp (d : Dk) (t : Sto) (j : Nat) : Prop where
  len : d.rows.length = 60
  tok : t.Ok 60
  gen : t.gen ≤ j
  wt : ∀ i, i < 8 → d.wt i = none
  cs : ∀ i, i < 4 → d.rows.getD (4 * t.place + i) [] = (putL t.gen t.lay).getD i []
  sm : ∀ i, i < 8 → ∃ x y, x ≤ j ∧ y ≤ j ∧ Sm (d.rows.getD i []) x y
  ot : ∀ t', takeP 60 (1 - t.place) (d.rows4 (1 - t.place)) = some t' → t'.gen < t.gen
  bl : ∀ n, n < t.size → bitL t.cts n = true → ∀ i, i < 4 → d.wt (8 + t.log + 4 * n + i) = none
theorem Sto.Ok.lens {t : Sto} (h : t.Ok 60) : t.size ≤ 512 ∧ 8 + t.log + 4 * t.size ≤ 60 ∧ t.lay.length ≤ 954 := by
  have h1 := cntP_ge h.area
  have h2 : t.size ≤ 512 := by rw [h.size]; omega
  refine ⟨h2, by rw [h.size]; omega, layP_len (by omega) h2 (words_few h.cts h2) h.body⟩
theorem Sto.Ok.ofUsed {t : Sto} {N : Nat} (h : t.Ok N) {L : List UInt64} (b : Bool) (hL : okB (t.size : Int) L = true) : Sto.Ok { t with used := L, bad := b } N := ⟨h.area, h.size, h.place, h.gen1, h.gen2, h.cts, hL, h.body⟩
theorem take_back {t : Sto} (h : t.Ok 60) : takeP 60 t.place (putL t.gen t.lay) = some t.back := by
  obtain ⟨log, size, place, gen, cts, body, used, bad⟩ := t
  obtain ⟨h1, h2, h3, h4, h5, h6, h7, h8⟩ := h
  have h2 : size = cntP 60 log := h2
  subst h2
  exact takeP_put h4 h5 h1 h6 h8
theorem best_open {d : Dk} {a : Sto} {p : Nat} (ho : d.off = false) (hl : d.rows.length = 60) (hp : p ≤ 1) (hA : takeP 60 p (d.secs p) = some a) (hB : ∀ b, takeP 60 (1 - p) (d.secs (1 - p)) = some b → b.gen < a.gen) : openP d = (some a, 0) := by
  refine openP_some ho ?_
  rw [hl]
  rcases (show p = 0 ∨ p = 1 by omega) with rfl | rfl
  · rw [hA]
    have hB : ∀ b, takeP 60 1 (d.secs 1) = some b → b.gen < a.gen := hB
    cases hb : takeP 60 1 (d.secs 1) with
    | none => rfl
    | some b =>
      have := hB b hb
      show (if a.gen < b.gen then some b else some a) = _
      rw [if_neg (by omega)]
  · rw [hA]
    have hB : ∀ b, takeP 60 0 (d.secs 0) = some b → b.gen < a.gen := hB
    cases hb : takeP 60 0 (d.secs 0) with
    | none => rfl
    | some b =>
      have := hB b hb
      show (if b.gen < a.gen then some a else some b) = _
      rw [if_pos (by omega)]
theorem Kp.other {d : Dk} {t : Sto} {j : Nat} (h : Kp d t j) : d.rows4 t.place = putL t.gen t.lay := rows4_is (putL_len _ _) h.cs
theorem Kp.used {d : Dk} {t : Sto} {j : Nat} (h : Kp d t j) {L : List UInt64} (b : Bool) (hL : okB (t.size : Int) L = true) : Kp d { t with used := L, bad := b } j :=
  ⟨h.len, h.tok.ofUsed b hL, h.gen, h.wt, h.cs, h.sm, h.ot, h.bl⟩
theorem Kp.more {d : Dk} {t : Sto} {j k : Nat} (h : Kp d t j) (hk : j ≤ k) : Kp d t k :=
  ⟨h.len, h.tok, Nat.le_trans h.gen hk, h.wt, h.cs, fun i hi => by obtain ⟨x, y, hx, hy, s⟩ := h.sm i hi; exact ⟨x, y, by omega, by omega, s⟩, h.ot, h.bl⟩
/-- The power is lost, and comes back. -/
theorem Kp.power {d : Dk} {t : Sto} {j : Nat} (h : Kp d t j) (hok : d.Ok) (f : List UInt8) : openP (d.power f) = (some t.back, 0) ∧ Kp (d.power f) t.back j ∧ imgP (d.power f) t.back t.cts = imgP d t t.cts := by
  have hp := h.tok.place
  have hl := h.tok.lens
  have hlen := h.len
  have hrow : ∀ i, i < 8 → (d.power f).rows.getD i [] = d.rows.getD i [] := fun i hi => Dk.power_none hok f (by omega) (h.wt i hi)
  have h4 : ∀ k, k ≤ 1 → (d.power f).rows4 k = d.rows4 k := fun k hk => rows4_is (Dk.rows4_len _ _) fun i hi => by rw [Dk.rows4_at _ _ hi, hrow _ (by omega)]
  have hs : ∀ k, k ≤ 1 → (d.power f).secs k = d.rows4 k := fun k hk => by
    rw [← h4 k hk]
    exact secs_rows rfl (by rw [power_len]; omega) (fun _ _ => rfl)
  refine ⟨best_open (p := t.place) rfl (by rw [power_len, h.len]) hp ?_ (fun b hb => ?_), ⟨by rw [power_len, h.len], h.tok.ofUsed false h.tok.cts, h.gen, fun _ _ => rfl, fun i hi => ?_, fun i hi => ?_, fun t' ht' => ?_, fun _ _ _ _ _ => rfl⟩, ?_⟩
  · rw [hs _ hp, h.other]
    exact take_back h.tok
  · rw [hs _ (by omega)] at hb
    exact h.ot b hb
  · show (d.power f).rows.getD (4 * t.place + i) [] = _
    rw [hrow _ (by omega)]
    exact h.cs i hi
  · rw [hrow i hi]
    exact h.sm i hi
  · have ht' : takeP 60 (1 - t.place) ((d.power f).rows4 (1 - t.place)) = some t' := ht'
    rw [h4 _ (by omega)] at ht'
    exact h.ot t' ht'
  · show t.body ++ (124 :: restP (d.power f) t.log t.size t.cts) = t.body ++ (124 :: restP d t.log t.size t.cts)
    rw [restP_congr fun n hn hb i hi => ?_]
    have hw := h.bl n hn hb i hi
    rw [at_none hw]
    exact Dk.power_none hok f (by omega) hw
/-- A commit that did not end: the slot of t' may be torn over X. -/
structure Tp (d : Dk) (t t' : Sto) (X : List (List UInt8)) (j : Nat) : Prop where
  len : d.rows.length = 60
  tok : t.Ok 60
  tok' : t'.Ok 60
  pl : t'.place = 1 - t.place
  gen : t.gen < t'.gen
  gen' : t'.gen ≤ j
  small : j < 256
  log : t'.log = t.log
  size : t'.size = t.size
  cw : ∀ i, i < 4 → d.wt (4 * t.place + i) = none
  cs : ∀ i, i < 4 → d.rows.getD (4 * t.place + i) [] = (putL t.gen t.lay).getD i []
  xl : X.length = 4
  xs : ∀ i, i < 4 → ∃ a b, a < t'.gen ∧ b < t'.gen ∧ Sm (X.getD i []) a b
  os : ∀ i, i < 4 → (d.wt (4 * t'.place + i) = none ∧ (d.rows.getD (4 * t'.place + i) [] = X.getD i [] ∨ d.rows.getD (4 * t'.place + i) [] = (putL t'.gen t'.lay).getD i [])) ∨
    (d.wt (4 * t'.place + i) = some ((putL t'.gen t'.lay).getD i []) ∧ d.rows.getD (4 * t'.place + i) [] = X.getD i [])
  ot : ∀ b, takeP 60 t'.place X = some b → b.gen < t.gen
  bl : ∀ n, n < t.size → bitL t.cts n = true → ∀ i, i < 4 → d.wt (8 + t.log + 4 * n + i) = none
  bl' : ∀ n, n < t.size → bitL t'.cts n = true → ∀ i, i < 4 → d.wt (8 + t.log + 4 * n + i) = none
set_option maxHeartbeats 1000000 in
theorem Tp.power {d : Dk} {t t' : Sto} {X : List (List UInt8)} {j : Nat} (h : Tp d t t' X j) (hok : d.Ok) (f : List UInt8) :
    (openP (d.power f) = (some t.back, 0) ∧ Kp (d.power f) t.back j ∧ imgP (d.power f) t.back t.cts = imgP d t t.cts) ∨
    (openP (d.power f) = (some t'.back, 0) ∧ Kp (d.power f) t'.back j ∧ imgP (d.power f) t'.back t'.cts = imgP d t' t'.cts) := by
  have hp := h.tok.place
  have hpl := h.pl
  have hl := h.tok.lens
  have hl' := h.tok'.lens
  have hlen := h.len
  have hgen := h.gen
  have hgen' := h.gen'
  have hsm := h.small
  have hY := putL_len t'.gen t'.lay
  have hc : ∀ i, i < 4 → (d.power f).rows.getD (4 * t.place + i) [] = (putL t.gen t.lay).getD i [] := fun i hi => by
    rw [Dk.power_none hok f (by omega) (h.cw i hi)]
    exact h.cs i hi
  have hz : ∀ i, i < 4 → ∃ k, k ≤ 256 ∧ (d.power f).rows.getD (4 * t'.place + i) [] = torn k (X.getD i []) ((putL t'.gen t'.lay).getD i []) := fun i hi => by
    obtain ⟨a, b, _, _, sx⟩ := h.xs i hi
    have sy := sm_putL (g := t'.gen) (b := t'.lay) hl'.2.2 hi
    rcases h.os i hi with ⟨hw, hr⟩ | ⟨hw, hr⟩
    · rw [Dk.power_none hok f (by omega) hw]
      rcases hr with hr | hr
      · refine ⟨0, by omega, ?_⟩
        rw [hr]
        simp [torn]
      · refine ⟨256, by omega, ?_⟩
        rw [hr]
        unfold torn
        rw [List.take_of_length_le (by rw [sy.len]; omega), List.drop_of_length_le (by rw [sx.len]; omega), List.append_nil]
    · obtain ⟨k, hk, e⟩ := d.power_at hok f (i := 4 * t'.place + i) (by omega)
      refine ⟨k, hk, ?_⟩
      have e : (d.power f).rows.getD (4 * t'.place + i) [] = _ := e
      rw [e, hr]
      unfold torn Dk.at_
      rw [hw]
      rfl
  have hs : ∀ k, k ≤ 1 → (d.power f).secs k = (d.power f).rows4 k := fun k hk => secs_rows rfl (by rw [power_len]; omega) (fun _ _ => rfl)
  have hcs : (d.power f).rows4 t.place = putL t.gen t.lay := rows4_is (putL_len _ _) hc
  have hsmall : ∀ i, i < 8 → ∃ x y, x ≤ j ∧ y ≤ j ∧ Sm ((d.power f).rows.getD i []) x y := fun i hi => by
    by_cases hi4 : 4 * t.place ≤ i ∧ i < 4 * t.place + 4
    · obtain ⟨q, rfl⟩ : ∃ q, i = 4 * t.place + q := ⟨i - 4 * t.place, by omega⟩
      rw [hc q (by omega)]
      exact ⟨t.gen, t.gen, by omega, by omega, sm_putL hl.2.2 (by omega)⟩
    · obtain ⟨q, rfl⟩ : ∃ q, i = 4 * t'.place + q := ⟨i - 4 * t'.place, by omega⟩
      obtain ⟨k, hk, e⟩ := hz q (by omega)
      obtain ⟨a, b, ha, hb, sx⟩ := h.xs q (by omega)
      have sy := sm_putL (g := t'.gen) (b := t'.lay) hl'.2.2 (show q < 4 by omega)
      rw [e]
      rcases torn_small sx sy (by omega) (by omega) (by omega) hk with e1 | e1 | e1
      · rw [e1]; exact ⟨_, _, by omega, by omega, sy⟩
      · rw [e1]; exact ⟨_, _, by omega, by omega, sx⟩
      · exact ⟨_, _, by omega, by omega, e1⟩
  have hrest : ∀ U : List UInt64, (∀ n, n < t.size → bitL U n = true → ∀ i, i < 4 → d.wt (8 + t.log + 4 * n + i) = none) → restP (d.power f) t.log t.size U = restP d t.log t.size U := fun U hU => restP_congr fun n hn hb i hi => by
    have hw := hU n hn hb i hi
    rw [at_none hw]
    exact Dk.power_none hok f (by omega) hw
  have hcase := slot_torn (X := X) (Y := putL t'.gen t'.lay) (Z := (d.power f).rows4 t'.place) (g := t'.gen) h.xl hY (Dk.rows4_len _ _) (by omega) (fun i hi => by
    obtain ⟨k, hk, e⟩ := hz i hi
    obtain ⟨a, b, ha, hb, sx⟩ := h.xs i hi
    exact ⟨a, b, k, ha, hb, hk, sx, sm_putL hl'.2.2 hi, by rw [Dk.rows4_at _ _ hi]; exact e⟩)
  rcases hcase with hnew | hold
  · right
    refine ⟨best_open (p := t'.place) rfl (by rw [power_len, h.len]) (by omega) ?_ (fun b hb => ?_), ⟨by rw [power_len, h.len], h.tok'.ofUsed false h.tok'.cts, hgen', fun _ _ => rfl, fun i hi => ?_, hsmall, fun b hb => ?_, fun _ _ _ _ _ => rfl⟩, ?_⟩
    · rw [hs _ (by omega), hnew]
      exact take_back h.tok'
    · rw [hs _ (by omega), show 1 - t'.place = t.place by omega, hcs, take_back h.tok] at hb
      cases hb
      exact hgen
    · show (d.power f).rows.getD (4 * t'.place + i) [] = (putL t'.gen t'.lay).getD i []
      rw [← Dk.rows4_at _ _ hi, hnew]
    · have hb : takeP 60 (1 - t'.place) ((d.power f).rows4 (1 - t'.place)) = some b := hb
      rw [show 1 - t'.place = t.place by omega, hcs, take_back h.tok] at hb
      cases hb
      exact hgen
    · show t'.body ++ (124 :: restP (d.power f) t'.log t'.size t'.cts) = t'.body ++ (124 :: restP d t'.log t'.size t'.cts)
      rw [h.log, h.size, hrest _ h.bl']
  · left
    have hB : ∀ b, takeP 60 (1 - t.place) ((d.power f).rows4 (1 - t.place)) = some b → b.gen < t.gen := fun b hb => by
      rw [← hpl] at hb
      rcases hold with e | e
      · rw [e] at hb
        exact h.ot b hb
      · unfold takeP at hb
        rw [e, if_neg (by omega)] at hb
        cases hb
    refine ⟨best_open (p := t.place) rfl (by rw [power_len, h.len]) hp ?_ (fun b hb => ?_), ⟨by rw [power_len, h.len], h.tok.ofUsed false h.tok.cts, by show t.gen ≤ j; omega, fun _ _ => rfl, hc, hsmall, hB, fun _ _ _ _ _ => rfl⟩, ?_⟩
    · rw [hs _ hp, hcs]
      exact take_back h.tok
    · rw [hs _ (by omega)] at hb
      exact hB b hb
    · show t.body ++ (124 :: restP (d.power f) t.log t.size t.cts) = t.body ++ (124 :: restP d t.log t.size t.cts)
      rw [hrest _ h.bl]
end Go.Proofs.YtegjeijiekggdaaGreatDoor
end
