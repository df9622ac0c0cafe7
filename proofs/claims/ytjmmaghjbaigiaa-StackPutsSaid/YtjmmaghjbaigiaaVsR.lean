/- Stacks as bytes, plain: how they are laid, and what is read from what is laid. -/
import Derived.Test.YtjmmaghjbaigiaaVsQ
namespace Go.Proofs.Ytjmmaghjbaigiaa
set_option linter.unusedVariables false
set_option linter.unusedSimpArgs false
def vsMark (b : Bool) : UInt8 := if b then 1 else 0
def layV (v : Vn) : List UInt8 := putSmall v.txn.toNat ++ putSmall v.ts.toNat ++ vsMark v.gone :: putText v.val.data.toList
def layVs (l : List Vn) : List UInt8 := (l.map layV).flatten
def putS (key : ByteArray) (l : List Vn) : List UInt8 := putText key.data.toList ++ putSmall l.length ++ layVs l
theorem layVs_cons (v : Vn) (l : List Vn) : layVs (v :: l) = layV v ++ layVs l := by simp [layVs]
theorem layVs_snoc (l : List Vn) (v : Vn) : layVs (l ++ [v]) = layVs l ++ layV v := by simp [layVs]
theorem vs_small (n : Nat) (h : n < 18446744073709551616) : (putSmall n).length ≤ 9 := by
  have := wid_le8 n h
  simp [putSmall, hi_len]
  omega
theorem vs_text (l : List UInt8) : (putText l).length ≤ 2 * l.length + 2 := by
  have := encT_len l
  simp [putText]
  omega
theorem vs_ba (s : ByteArray) (k : Nat) (h : s.size ≤ k) : (putText s.data.toList).length ≤ 2 * k + 2 := by
  have h1 := vs_text s.data.toList
  have h2 : s.size = s.data.toList.length := rfl
  omega
theorem layV_len {v : Vn} (h : vsFault v = 0) : (layV v).length ≤ 69 := by
  obtain ⟨h1, h2, ⟨h3, h4⟩, h5, h6⟩ := vsFault_zero.1 h
  have a := vs_small v.txn.toNat (by omega)
  have b := vs_small v.ts.toNat (by omega)
  have c := vs_ba v.val 24 h1
  unfold layV
  simp only [List.length_append, List.length_cons]
  omega
theorem layVs_len {l : List Vn} (h : ∀ v ∈ l, vsFault v = 0) : (layVs l).length ≤ 69 * l.length := by
  induction l with
  | nil => simp [layVs]
  | cons x r ih =>
    rw [layVs_cons, List.length_append, List.length_cons]
    have := layV_len (h x (by simp))
    have := ih fun v hv => h v (by simp [hv])
    omega
theorem layVs_take {l : List Vn} {k : Nat} {x : Vn} (hx : l[k]? = some x) : layVs (l.take (k + 1)) = layVs (l.take k) ++ layV x := by
  rw [List.take_add_one, hx, Option.toList_some, layVs_snoc]
theorem putS_len {key : ByteArray} {l : List Vn} (h : vsCheck key l = 0) : (putS key l).length ≤ 600 := by
  obtain ⟨h1, h2, h3, _⟩ := vsCheck_zero.1 h
  have a := vs_ba key 16 h1
  have b := vs_small l.length (by omega)
  have c := layVs_len h3
  unfold putS
  simp only [List.length_append]
  omega
/-- What the program reads, from bytes and a fault on: a version, and what is left. -/
def gStep (s : List UInt8 × Nat) : Vn × (List UInt8 × Nat) :=
  (⟨(rdV s.1 s.2 : Nat), (rdV (rdL s.1 s.2) (rdF s.1 s.2) : Nat), (rdL (rdL s.1 s.2) (rdF s.1 s.2)).headD 0 == 1, str (rtV (rdL (rdL s.1 s.2) (rdF s.1 s.2)).tail 0 24)⟩,
   (rtL (rdL (rdL s.1 s.2) (rdF s.1 s.2)).tail 0 24, rtF (rdL (rdL s.1 s.2) (rdF s.1 s.2)).tail 0 24))
def gSt : Nat → List UInt8 × Nat → List UInt8 × Nat
  | 0, s => s
  | k + 1, s => (gStep (gSt k s)).2
def gVs : Nat → List UInt8 × Nat → List Vn
  | 0, _ => []
  | k + 1, s => gVs k s ++ [(gStep (gSt k s)).1]
def gKey (b : List UInt8) : ByteArray := str (rtV b 0 16)
def gS0 (b : List UInt8) : List UInt8 × Nat := (rtL b 0 16, rtF b 0 16)
def gN (b : List UInt8) : Nat := min (rdV (gS0 b).1 (gS0 b).2) 8
def gS1 (b : List UInt8) : List UInt8 × Nat := (rdL (gS0 b).1 (gS0 b).2, rdF (gS0 b).1 (gS0 b).2)
def gList (b : List UInt8) : List Vn := gVs (gN b) (gS1 b)
theorem str_data' (s : ByteArray) : str s.data.toList = s := rfl
theorem mark_eq (g : Bool) : (vsMark g == 1) = g := by cases g <;> rfl
theorem gStep_lay {v : Vn} (h : vsFault v = 0) (r : List UInt8) : gStep (layV v ++ r, 0) = (v, (r, 0)) := by
  obtain ⟨h1, h2, ⟨h3, h4⟩, h5, h6⟩ := vsFault_zero.1 h
  obtain ⟨txn, ts, gone, val⟩ := v
  dsimp only at *
  obtain ⟨n, rfl⟩ := Int.eq_ofNat_of_zero_le h3
  obtain ⟨m, rfl⟩ := Int.eq_ofNat_of_zero_le h5
  unfold layV gStep
  dsimp only
  simp only [Int.toNat_natCast, List.append_assoc, List.cons_append]
  obtain ⟨a1, a2, a3⟩ := rd_put n (putSmall m ++ (vsMark gone :: (putText val.data.toList ++ r))) (by omega)
  obtain ⟨b1, b2, b3⟩ := rd_put m (vsMark gone :: (putText val.data.toList ++ r)) (by omega)
  rw [a1, a2, a3, b1, b2]
  simp only [List.headD_cons, List.tail_cons]
  obtain ⟨c1, c2, c3⟩ := rt_put val.data.toList r 24 (show val.data.toList.length ≤ 24 from h1)
  rw [c1, c2, c3, mark_eq, str_data']
theorem gSt_lay {l : List Vn} (h : ∀ v ∈ l, vsFault v = 0) (r : List UInt8) : ∀ k, k ≤ l.length → gSt k (layVs l ++ r, 0) = (layVs (l.drop k) ++ r, 0)
  | 0, _ => rfl
  | k + 1, hk => by
    rw [gSt, gSt_lay h r k (by omega)]
    have e : l.drop k = l[k]'(by omega) :: l.drop (k + 1) := List.drop_eq_getElem_cons (by omega)
    rw [e, layVs_cons, List.append_assoc, gStep_lay (h _ (List.getElem_mem _))]
theorem gVs_lay {l : List Vn} (h : ∀ v ∈ l, vsFault v = 0) (r : List UInt8) : ∀ k, k ≤ l.length → gVs k (layVs l ++ r, 0) = l.take k
  | 0, _ => rfl
  | k + 1, hk => by
    rw [gVs, gVs_lay h r k (by omega), gSt_lay h r k (by omega)]
    have e : l.drop k = l[k]'(by omega) :: l.drop (k + 1) := List.drop_eq_getElem_cons (by omega)
    rw [e, layVs_cons, List.append_assoc, gStep_lay (h _ (List.getElem_mem _)), List.take_add_one, List.getElem?_eq_getElem (by omega)]
    rfl
theorem gS0_put {key : ByteArray} {l : List Vn} (h : vsCheck key l = 0) (r : List UInt8) : gKey (putS key l ++ r) = key ∧ gS0 (putS key l ++ r) = (putSmall l.length ++ (layVs l ++ r), 0) := by
  obtain ⟨h1, h2, h3, _⟩ := vsCheck_zero.1 h
  obtain ⟨a1, a2, a3⟩ := rt_put key.data.toList (putSmall l.length ++ (layVs l ++ r)) 16 (show key.data.toList.length ≤ 16 from h1)
  unfold gKey gS0 putS
  rw [List.append_assoc, List.append_assoc, a1, a2, a3, str_data']
  exact ⟨rfl, rfl⟩
theorem guess_putS {key : ByteArray} {l : List Vn} (h : vsCheck key l = 0) (r : List UInt8) : gKey (putS key l ++ r) = key ∧ gList (putS key l ++ r) = l := by
  obtain ⟨h1, h2, h3, _⟩ := vsCheck_zero.1 h
  obtain ⟨a1, a2⟩ := gS0_put h r
  obtain ⟨b1, b2, b3⟩ := rd_put l.length (layVs l ++ r) (by omega)
  refine ⟨a1, ?_⟩
  unfold gList gN gS1
  rw [a2]
  dsimp only
  rw [b1, b2, b3, Nat.min_eq_left h2, gVs_lay h3 r _ (Nat.le_refl _), List.take_of_length_le (Nat.le_refl _)]
/-- What Get tells of bytes. -/
def GetOfS (b : List UInt8) (key : ByteArray) (l : List Vn) (e : Nat) : Prop :=
  (vsCheck key l = 0 ∧ putS key l = b ∧ e = 0) ∨ ((∀ k m, vsCheck k m = 0 → putS k m ≠ b) ∧ key = ⟨#[]⟩ ∧ l = [] ∧ e = 4)
theorem putS_inj {k1 k2 : ByteArray} {l m : List Vn} (h1 : vsCheck k1 l = 0) (h2 : vsCheck k2 m = 0) (h : putS k1 l = putS k2 m) : k1 = k2 ∧ l = m := by
  have a := guess_putS h1 []
  have b := guess_putS h2 []
  rw [h] at a
  exact ⟨a.1.symm.trans b.1, a.2.symm.trans b.2⟩
theorem GetOfS.one {b : List UInt8} {k1 k2 : ByteArray} {l m : List Vn} {e f : Nat} (h : GetOfS b k1 l e) (g : GetOfS b k2 m f) : k1 = k2 ∧ l = m ∧ e = f := by
  rcases h with ⟨h1, h2, h3⟩ | ⟨h1, h2, h3, h4⟩ <;> rcases g with ⟨g1, g2, g3⟩ | ⟨g1, g2, g3, g4⟩
  · obtain ⟨a, b⟩ := putS_inj h1 g1 (h2.trans g2.symm)
    exact ⟨a, b, h3.trans g3.symm⟩
  · exact (g1 _ _ h1 h2).elim
  · exact (h1 _ _ g1 g2).elim
  · exact ⟨h2.trans g2.symm, h3.trans g3.symm, h4.trans g4.symm⟩
theorem GetOfS.put {key : ByteArray} {l : List Vn} (h : vsCheck key l = 0) {k : ByteArray} {m : List Vn} {e : Nat} (g : GetOfS (putS key l) k m e) : k = key ∧ m = l ∧ e = 0 := g.one (.inl ⟨h, rfl, rfl⟩)
theorem GetOfS.more {key : ByteArray} {l : List Vn} (h : vsCheck key l = 0) (x : UInt8) {k : ByteArray} {m : List Vn} {e : Nat} (g : GetOfS (putS key l ++ [x]) k m e) : e = 4 := by
  rcases g with ⟨g1, g2, g3⟩ | ⟨_, _, _, g4⟩
  · have a := guess_putS h [x]
    rw [← g2] at a
    have b := guess_putS g1 []
    rw [List.append_nil] at b
    have e1 := b.1.symm.trans a.1
    have e2 := b.2.symm.trans a.2
    subst e1 e2
    have := congrArg List.length g2
    simp at this
  · exact g4
/-- What is guessed, laid anew, tells all. -/
theorem GetOfS.guess (b : List UInt8) (key : ByteArray) (l : List Vn) (hk : ∀ k m, vsCheck k m = 0 → putS k m = b → key = k ∧ l = m) : GetOfS b (if vsCheck key l = 0 ∧ putS key l = b then key else ⟨#[]⟩) (if vsCheck key l = 0 ∧ putS key l = b then l else []) (if vsCheck key l = 0 ∧ putS key l = b then 0 else 4) := by
  by_cases h : vsCheck key l = 0 ∧ putS key l = b
  · rw [if_pos h, if_pos h, if_pos h]
    exact .inl ⟨h.1, h.2, rfl⟩
  · rw [if_neg h, if_neg h, if_neg h]
    refine .inr ⟨fun k m h1 h2 => ?_, rfl, rfl, rfl⟩
    obtain ⟨rfl, rfl⟩ := hk k m h1 h2
    exact h ⟨h1, h2⟩
theorem guess_uniq (b : List UInt8) : ∀ k m, vsCheck k m = 0 → putS k m = b → gKey b = k ∧ gList b = m := fun k m h1 h2 => by
  have := guess_putS h1 []
  rw [List.append_nil, h2] at this
  exact this
end Go.Proofs.Ytjmmaghjbaigiaa
