/- Rows of texts, in the general words. -/
import Derived.Test.YtjmmaghjbaigiaaGnO
import Derived.Test.YtjmmaghjbaigiaaTsA
namespace Go.Proofs.Ytjmmaghjbaigiaa
open Go.RowKit
set_option linter.unusedVariables false
set_option linter.unusedSimpArgs false
theorem RS.rg {w : World} {A : Option Addr} {L : List (List UInt8)} (h : RS w A L) : RG CR.str w A L := fun j t hj => by
  obtain ⟨ad, e, hc⟩ := h j t hj
  refine ⟨ad, _, e, fun i u hu => ?_, rfl⟩
  cases i with
  | zero =>
    simp at hu
    subst hu
    rw [Addr.add_nought, show j * CR.str.k = j from Nat.mul_one j]
    exact hc
  | succ i => simp at hu
theorem RG.rs {w : World} {A : Option Addr} {L : List (List UInt8)} (h : RG CR.str w A L) : RS w A L := fun j t hj => by
  obtain ⟨ad, cs, e, h1, h2⟩ := h j t hj
  obtain rfl : cs = [.string (str t)] := h2
  have := h1 0 _ rfl
  rw [Addr.add_nought, show j * CR.str.k = j from Nat.mul_one j] at this
  exact ⟨ad, e, this⟩
theorem tgS : TG CR.str Try.prog 85 9 := ⟨Try.underlying85, _, 16, infoS, by omega, rfl⟩
theorem str_flat : CR.str.Flat := fun _ _ _ _ h => h
theorem infoSs : (Try.prog.info? 85).map (fun i => (i.zero, i.size, i.bytes)) = some (some (.slice none 0 0), 1, 24) := by kernel_rfl
theorem OG.os {base : Nat} {w : World} {v : Value} {L : List (List UInt8)} (h : OG CR.str 9 base w v L) : OS base w v L := by
  obtain ⟨css, h1, h2, h3⟩ := h
  have : css.flatten = L.map cellS := by
    have key : css = L.map fun t => [cellS t] := by
      refine List.ext_getElem? fun j => ?_
      by_cases hj : j < L.length
      · obtain ⟨cs, e1, e2, _⟩ := h3 j _ (List.getElem?_eq_getElem hj)
        obtain rfl : cs = [.string (str L[j])] := e2
        rw [e1, List.getElem?_map, List.getElem?_eq_getElem hj]
        rfl
      · rw [List.getElem?_eq_none (by omega), List.getElem?_eq_none (by simp; omega)]
    rw [key]
    clear h1 h2 h3 key
    induction L with
    | nil => rfl
    | cons a r ih => simpa using ih
  unfold OS
  rw [← this]
  exact h1
theorem OS.og {base : Nat} {w : World} {v : Value} {L : List (List UInt8)} (h : OS base w v L) : OG CR.str 9 base w v L := by
  refine ⟨L.map fun t => [cellS t], ?_, by simp, fun j t hj => ⟨[cellS t], by rw [List.getElem?_map, hj]; rfl, rfl, fun b hb => hb.elim⟩⟩
  have : (L.map fun t => [cellS t]).flatten = L.map cellS := by
    clear h
    induction L with
    | nil => rfl
    | cons a r ih => simpa using ih
  rw [this]
  exact h
end Go.Proofs.Ytjmmaghjbaigiaa
