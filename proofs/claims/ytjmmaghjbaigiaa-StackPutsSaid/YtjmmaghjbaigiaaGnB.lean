/- Rows of bytes and of rows of bytes, in the general words. -/
import Derived.Test.YtjmmaghjbaigiaaGn
import Derived.Test.YtjmmaghjbaigiaaRwA
namespace Go.Proofs.Ytjmmaghjbaigiaa
open Go.RowKit
set_option linter.unusedVariables false
set_option linter.unusedSimpArgs false
theorem RB.atc {w : World} {ad : Addr} {l : List UInt8} {k : Nat} {x : UInt8} (h : RB w (some ad) l) (hk : l[k]? = some x) : w.cell? (ad.add k) = some (.int .u8 (x.toNat : Int)) := by
  rcases h with rfl | ⟨ad', e, h⟩
  · simp at hk
  · injection e with e
    rw [e]
    exact h k x hk
def KB : CR (List UInt8) := CR.list CR.u8
theorem RG.rb {w : World} {A : Option Addr} {l : List UInt8} (h : RG CR.u8 w A l) : RB w A l := by
  cases l with
  | nil => exact .inl rfl
  | cons a r =>
    obtain ⟨ad, e⟩ := h.some_of (by simp)
    refine .inr ⟨ad, e, fun j x hx => ?_⟩
    obtain ⟨ad', cs, e', h1, h2⟩ := h j x hx
    obtain rfl : ad = ad' := Option.some.inj (e.symm.trans e')
    obtain rfl : cs = [.int .u8 (x.toNat : Int)] := h2
    have := h1 0 _ rfl
    rwa [Addr.add_nought, show j * CR.u8.k = j from Nat.mul_one j] at this
theorem RB.rg {w : World} {A : Option Addr} {l : List UInt8} (h : RB w A l) : RG CR.u8 w A l := fun j x hx => by
  rcases h with rfl | ⟨ad, e, h⟩
  · simp at hx
  · refine ⟨ad, _, e, fun i u hu => ?_, rfl⟩
    cases i with
    | zero =>
      simp at hu
      subst hu
      rw [Addr.add_nought, show j * CR.u8.k = j from Nat.mul_one j]
      exact h j x hx
    | succ i => simp at hu
theorem RBS.rg {w : World} {A : Option Addr} {L : List (List UInt8)} (h : RBS w A L) : RG KB w A L := fun j l hl => by
  obtain ⟨ad, B, c, e, h1, h2, h3, h4⟩ := h j l hl
  refine ⟨ad, _, e, fun i u hu => ?_, B, c, rfl, h2, h3, h4.rg⟩
  cases i with
  | zero =>
    simp at hu
    subst hu
    rw [Addr.add_nought, show j * KB.k = j from Nat.mul_one j]
    exact h1
  | succ i => simp at hu
theorem RG.rbs {w : World} {A : Option Addr} {L : List (List UInt8)} (h : RG KB w A L) : RBS w A L := fun j l hl => by
  obtain ⟨ad, cs, e, h1, B, c, rfl, h2, h3, h4⟩ := h j l hl
  refine ⟨ad, B, c, e, ?_, h2, h3, h4.rb⟩
  have := h1 0 _ rfl
  rwa [Addr.add_nought, show j * KB.k = j from Nat.mul_one j] at this
theorem tgB : TG CR.u8 Try.prog 25 5 := ⟨Try.underlying25, _, 1, Try.info5, by omega, rfl⟩
theorem u8_flat (w : World) (cs : List Value) (x : UInt8) (b : Nat) : ¬ CR.u8.foot w cs x b := fun h => h
/-- A row of bytes as one cell, and what it hangs on. -/
theorem KB.mk {w : World} {A : Option Addr} {c : Nat} {l : List UInt8} (h1 : l.length ≤ c) (h2 : c ≤ maxLen) (h : RB w A l) : KB.E w [.slice A l.length c] l := ⟨A, c, rfl, h1, h2, h.rg⟩
theorem KB.foot_at {w : World} {ad : Addr} {n c : Nat} {l : List UInt8} {b : Nat} (h : KB.foot w [.slice (some ad) n c] l b) : b = ad.block := by
  obtain ⟨A, c', e, j, x, ad', cs, _, e', _, _, h⟩ := h
  injection e with e _
  injection e with e1 e2 e3
  rw [e'] at e1
  injection e1 with e1
  rcases h with h | h
  · rw [e1]; exact h.symm
  · exact h.elim
/-- A fresh row of bytes, laid as the one element of a literal, may be appended to an elder row of rows. -/
theorem KB.lit {w0 w1 : World} {base : Nat} {v : Value} {R : List (List UInt8)} {A : Option Addr} {n c : Nat} {l : List UInt8} (hv : OG KB 25 base w0 v R) (h : OB w0.heap.size w1 (.slice A n c) l) (hc : n ≤ c) (hm : c ≤ maxLen) :
    RG KB (w1.alloc (.cells #[.slice A n c] 25)) (some ⟨w1.heap.size, 0, none⟩) [l] ∧ Apart KB (w1.alloc (.cells #[.slice A n c] 25)) (some ⟨w1.heap.size, 0, none⟩) [l] v := by
  have hn : n = l.length := h.len
  subst hn
  have hr := RG.lit (K := KB) (w := w1) (l := [l]) [[.slice A l.length c]] (cs := #[.slice A l.length c]) (T := 25) (fr := (0, 0)) (by simp) rfl (fun j x hj => by
    cases j with
    | zero =>
      simp at hj
      subst hj
      exact ⟨_, rfl, KB.mk hc hm h.reads⟩
    | succ j => simp at hj)
  refine ⟨hr, fun j x ad cs hx hA hcs hE b hb e => ?_⟩
  obtain ⟨css, o1, _⟩ := hv
  have h1 := (World.ownsRow.lt o1 b e).2
  injection hA with hA
  subst hA
  cases j with
  | succ j => simp at hx
  | zero =>
    simp at hx
    subst hx
    have hg : (w1.alloc (.cells #[.slice A l.length c] 25)).heap[w1.heap.size]? = some (.cells #[.slice A l.length c] 25) := heap_alloc_last w1 _
    have h2 : cs = [.slice A l.length c] := by
      refine hcs.uniq (fun i u hu => ?_) (by rw [KB.len hE]; rfl)
      cases i with
      | zero =>
        simp at hu
        subst hu
        rw [Nat.zero_mul, Addr.add_nought, Addr.add_nought, cell_of_row _ _ _ _ _ _ hg]
        rfl
      | succ i => simp at hu
    subst h2
    rcases h.2 with ⟨e1, _⟩ | ⟨g, cap, cur, e1, hb2, _⟩
    · injection e1 with e1
      subst e1
      obtain ⟨A', c', e', j, x, ad, cs, _, e2, _⟩ := hb
      injection e' with e' _
      injection e' with e' _
      rw [← e'] at e2
      cases e2
    · injection e1 with e1
      subst e1
      have := KB.foot_at hb
      simp at this
      omega
end Go.Proofs.Ytjmmaghjbaigiaa
