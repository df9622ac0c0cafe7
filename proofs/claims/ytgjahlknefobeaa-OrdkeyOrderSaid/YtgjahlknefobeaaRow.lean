/- A slice of bytes that came in, as its opening tells it, reads as some bytes. -/
import Derived.Test.YtgjahlknefobeaaW8
import Derived.OpenShut
namespace Go.Proofs.Ytgjahlknefobeaa
open Go.RowKit

theorem rb_of_row {w : World} {a : Option Addr} {len cap : Nat} {zs : List Int}
    (h : (a = none ∧ len = 0 ∧ cap = 0 ∧ zs = []) ∨ ∃ x, a = some x ∧ len ≤ cap ∧ cap ≤ maxLen ∧ zs.length = cap ∧ (∀ i, i < zs.length → w.cell? (x.add i) = some (.int .u8 (zs.getD i 0))) ∧ ∀ n ∈ zs, (Lit.int .u8 n).wf = true) :
    ∃ l : List UInt8, l.length = len ∧ len ≤ cap ∧ cap ≤ maxLen ∧ RB w a l := by
  rcases h with ⟨rfl, rfl, rfl, rfl⟩ | ⟨x, rfl, hl, hm, hz, hc, hw⟩
  · exact ⟨[], rfl, Nat.le_refl _, Nat.zero_le _, .inl rfl⟩
  · refine ⟨(zs.take len).map (fun z => UInt8.ofNat z.toNat), by simp; omega, hl, hm, .inr ⟨x, rfl, fun j y hy => ?_⟩⟩
    simp only [List.getElem?_map, Option.map_eq_some_iff, List.getElem?_take] at hy
    obtain ⟨z, hzj, rfl⟩ := hy
    split at hzj
    · rename_i hj
      obtain ⟨hjl, rfl⟩ := List.getElem?_eq_some_iff.1 hzj
      have h1 := hc j hjl
      rw [h1]
      have h2 := hw zs[j] (List.getElem_mem hjl)
      have h3 : 0 ≤ zs[j] ∧ zs[j] ≤ 255 := bounds_u8 h2
      rw [ofNat_toNat]
      simp [List.getElem?_eq_getElem hjl]
      omega
    · cases hzj
end Go.Proofs.Ytgjahlknefobeaa
