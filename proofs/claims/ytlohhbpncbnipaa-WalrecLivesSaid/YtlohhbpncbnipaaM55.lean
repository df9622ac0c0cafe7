/- Joined: WrO. -/
import Derived.Test.YtlohhbpncbnipaaM54
import Derived.ProofKit
import Derived.OpenShut
import Derived.Deep.Slices
import Derived.Deep.Fields
import Derived.ChangeSame
section
/- How what comes in to the laws of layer 8 reads: a record, records, bytes. -/
namespace Go.Proofs.Ytlohhbpncbnipaa
open Go.ChangeShapes Go.WideShapes Go.ChangeAt Go.RowKit
set_option linter.unusedVariables false
theorem wrTake1 {l : List Value} {i : Nat} (h : i < l.length) : (l.drop i).take 1 = [l[i]] := by
  rw [List.drop_eq_getElem_cons h]
  rfl
section
variable {H : Type} {enc : TypeId × Value → H} {W : World} {base : Nat} {held : Bool}
theorem trodStr {P : Program} {t : TypeId} {k : Nat} {c : Value} {x : DataW H × List MemPlace} (ht : P.underlying t = some .string) (h : DataW.trod enc P W base (fun _ => true) held k t [c] = some x) : ∃ s, c = .string s := by
  cases k with
  | zero => simp [DataW.trod] at h
  | succ m =>
    unfold DataW.trod at h
    rw [ht] at h
    simp only at h
    split at h <;> simp_all
theorem open_rec {k : Nat} {cs : List Value} {x : DataW H × List MemPlace} (hf : DataW.trod enc Try.prog W base (fun _ => true) held k 23 cs = some x) : ∃ r : Rec, r.fits ∧ cs = r.cells := by
  obtain ⟨xs, n, _, _, hl0, hxl, hg⟩ := DataW.trod_struct Try.underlying23 hf
  have hl : cs.length = 6 := by rw [hl0]; kernel_rfl
  have c1 : Try.prog.cellsOf 5 = 1 := by kernel_rfl
  have c2 : Try.prog.cellsOf 3 = 1 := by kernel_rfl
  have c3 : Try.prog.cellsOf 9 = 1 := by kernel_rfl
  have c4 : Try.prog.cellsOf 4 = 1 := by kernel_rfl
  have g0 : DataW.trod enc Try.prog W base (fun _ => true) held n 5 ((cs.drop 0).take (Try.prog.cellsOf 5)) = xs[0]? := hg 0 _ rfl
  have g1 : DataW.trod enc Try.prog W base (fun _ => true) held n 3 ((cs.drop 1).take (Try.prog.cellsOf 3)) = xs[1]? := hg 1 _ rfl
  have g2 : DataW.trod enc Try.prog W base (fun _ => true) held n 3 ((cs.drop 2).take (Try.prog.cellsOf 3)) = xs[2]? := hg 2 _ rfl
  have g3 : DataW.trod enc Try.prog W base (fun _ => true) held n 9 ((cs.drop 3).take (Try.prog.cellsOf 9)) = xs[3]? := hg 3 _ rfl
  have g4 : DataW.trod enc Try.prog W base (fun _ => true) held n 4 ((cs.drop 4).take (Try.prog.cellsOf 4)) = xs[4]? := hg 4 _ rfl
  have g5 : DataW.trod enc Try.prog W base (fun _ => true) held n 9 ((cs.drop 5).take (Try.prog.cellsOf 9)) = xs[5]? := hg 5 _ rfl
  have hxs : xs.length = 6 := hxl
  rw [c1, wrTake1 (by omega)] at g0
  rw [c2, wrTake1 (by omega)] at g1 g2
  rw [c3, wrTake1 (by omega)] at g3 g5
  rw [c4, wrTake1 (by omega)] at g4
  rw [List.getElem?_eq_getElem (by omega)] at g0 g1 g2 g3 g4 g5
  obtain ⟨z0, e0, _, w0⟩ := DataW.trod_int Try.underlying5 g0
  obtain ⟨z1, e1, _, w1⟩ := DataW.trod_int Try.underlying3 g1
  obtain ⟨z2, e2, _, w2⟩ := DataW.trod_int Try.underlying3 g2
  obtain ⟨z3, e3⟩ := trodStr Try.underlying9 g3
  obtain ⟨z4, e4, _⟩ := DataW.trod_bool Try.underlying4 g4
  obtain ⟨z5, e5⟩ := trodStr Try.underlying9 g5
  have b0 := bounds_u8 w0
  have b1 := bounds_i64 w1
  have b2 := bounds_i64 w2
  obtain ⟨y0, rfl⟩ := Int.eq_ofNat_of_zero_le b0.1
  simp only [List.cons.injEq, and_true] at e0 e1 e2 e4
  refine ⟨⟨y0, z1, z2, z3, z4, z5⟩, ⟨?_, ?_, ?_⟩, ?_⟩
  · show y0 < 256; omega
  · dsimp only; omega
  · dsimp only; omega
  · apply List.ext_getElem
    · rw [hl]; rfl
    · intro i h1 h2
      have : i = 0 ∨ i = 1 ∨ i = 2 ∨ i = 3 ∨ i = 4 ∨ i = 5 := by omega
      rcases this with rfl | rfl | rfl | rfl | rfl | rfl <;> simp [Rec.cells, e0, e1, e2, e3, e4, e5]
theorem open_recv {v : Value} {d : DataW H} {p : List MemPlace} (hv : ∃ cs, v = .agg cs) (h : DataW.Trod enc Try.prog W base (fun _ => true) held 23 v d p) : ∃ r : Rec, r.fits ∧ v = r.v := by
  obtain ⟨cs, rfl⟩ := hv
  obtain ⟨fuel, hf⟩ := h
  obtain ⟨r, hr, e⟩ := open_rec hf
  refine ⟨r, hr, ?_⟩
  have e' : cs.toList = r.cells := e
  rw [← Array.toArray_toList (xs := cs), e']
  rfl
theorem wrList_of {α : Type} {Pr : Nat → α → Prop} : ∀ (n : Nat), (∀ i, i < n → ∃ a, Pr i a) → ∃ l : List α, l.length = n ∧ ∀ i a, l[i]? = some a → Pr i a
  | 0, _ => ⟨[], rfl, fun i a h => by simp at h⟩
  | n + 1, h => by
    obtain ⟨l, hl, hp⟩ := wrList_of n (fun i hi => h i (by omega))
    obtain ⟨a, ha⟩ := h n (by omega)
    refine ⟨l ++ [a], by simp [hl], fun i b hb => ?_⟩
    rcases Nat.lt_or_ge i l.length with hlt | hge
    · rw [List.getElem?_append_left hlt] at hb
      exact hp i b hb
    · have hi := (List.getElem?_eq_some_iff.1 hb).1
      simp at hi
      have : i = l.length := by omega
      subst this
      simp at hb
      subst hb
      rw [hl]
      exact ha
theorem open_recs {a : Option Addr} {len cap : Nat} {d : DataW H} {p : List MemPlace} (h : DataW.Trod enc Try.prog W base (fun _ => true) held 25 (.slice a len cap) d p) :
    ∃ l : List Rec, l.length = len ∧ len ≤ cap ∧ cap ≤ maxLen ∧ RcsAt W a l := by
  have cc : Try.prog.cellsOf 23 = 6 := by kernel_rfl
  obtain ⟨fuel, hf⟩ := h
  rcases Go.Deep.open_slice Try.underlying25 hf with ⟨hcs, _⟩ | ⟨x, l, c, m, n, D, Pl, hcs, _, hl, hm, hmm, _, hi⟩
  · simp [Value.cells] at hcs
    obtain ⟨rfl, rfl, rfl⟩ := hcs
    exact ⟨[], rfl, Nat.le_refl _, Nat.zero_le _, .inl rfl⟩
  · simp [Value.cells] at hcs
    obtain ⟨rfl, rfl, rfl⟩ := hcs
    simp only [if_true] at hmm
    subst hmm
    obtain ⟨L, hL, hp⟩ := wrList_of (Pr := fun i a => RcAt W (x.add (i * 6)) a) len (fun i hlt => by
      obtain ⟨cs', hc, ht⟩ := hi i (by omega)
      rw [cc] at hc
      obtain ⟨_, hcl, hat⟩ := World.cells?_some hc
      obtain ⟨r, hr, e⟩ := open_rec ht
      have e' : ∀ j, j < 6 → W.cell? ((x.add (i * 6)).add j) = r.cells[j]? := fun j hj => by rw [hat j (by omega), e]
      exact ⟨r, e' 0 (by omega), e' 1 (by omega), e' 2 (by omega), e' 3 (by omega), e' 4 (by omega), e' 5 (by omega), hr⟩)
    exact ⟨L, hL, hl, hm, .inr ⟨x, rfl, hp⟩⟩
theorem open_bytesW {v : Value} {d : DataW H} {p : List MemPlace} (hv : ∃ A n c, v = .slice A n c) (h : DataW.Trod enc Try.prog W base (fun _ => true) held 27 v d p) :
    ∃ (A : Option Addr) (cc : Nat) (a : List UInt8), v = .slice A a.length cc ∧ a.length ≤ cc ∧ cc ≤ maxLen ∧ RB W A a := by
  obtain ⟨A0, n0, c0, rfl⟩ := hv
  obtain ⟨fuel, hf⟩ := h
  have hh : DataW.trod enc Try.prog W base (fun _ => true) held fuel 27 [.slice A0 n0 c0] = some _ := hf
  rcases open_ints Try.underlying27 Try.underlying5 (by kernel_rfl) hh with ⟨hcs, _⟩ | ⟨y, l, cc, zs, hcs, _, hl', hm, hz, _, hcell, hwz⟩
  · simp at hcs
    obtain ⟨rfl, rfl, rfl⟩ := hcs
    exact ⟨none, 0, [], rfl, Nat.le_refl _, Nat.zero_le _, .inl rfl⟩
  · simp at hcs
    obtain ⟨rfl, rfl, rfl⟩ := hcs
    obtain ⟨a, h1, h2, h3, h4⟩ := rb_of_row (w := W) (a := some y) (len := n0) (cap := c0) (zs := zs) (.inr ⟨y, rfl, hl', hm, hz, hcell, hwz⟩)
    subst h1
    exact ⟨some y, c0, a, rfl, h2, h3, h4⟩
end
end Go.Proofs.Ytlohhbpncbnipaa
end
