/- Records in sectors: the document's stamp, and a sector laid. -/
import Derived.Test.YtochifbbefbehaaWsJ
import Derived.Test.YtochifbbefbehaaApS
namespace Go.Proofs.Ytochifbbefbehaa
open Go.RowKit
set_option linter.unusedVariables false
set_option linter.unusedSimpArgs false
theorem st_drop (g k : Nat) (h : k < 8) : (st g).drop (8 - (k + 1)) = UInt8.ofNat (g / 256 ^ k) :: (st g).drop (8 - k) := by
  have h1 := st_at g (7 - k) (by omega)
  have hl := st_len g
  rw [show 7 - (7 - k) = k by omega] at h1
  have h2 : 8 - (k + 1) < (st g).length := by omega
  rw [List.drop_eq_getElem_cons h2, show 8 - (k + 1) + 1 = 8 - k by omega]
  congr 1
  rw [List.getElem?_eq_getElem (by omega)] at h1
  injection h1 with h1
  rw [← h1]
  congr 1
  omega
theorem wrap_u8_small {n : Nat} (h : n ≤ 238) : IntKind.u8.wrap (n : Int) = (n : Int) := by
  simp [IntKind.wrap, IntKind.bits, IntKind.signed]
  omega
/-- A sector, piece by piece. -/
theorem wsSec_join (e a : Nat) (L : List (List UInt8)) : wsSec e a L = (((st (256 * e + a) ++ [UInt8.ofNat (wsSize L)]) ++ wsPut L) ++ List.replicate (239 - wsSize L) 0) ++ st (256 * e + a) := by
  unfold wsSec
  simp
end Go.Proofs.Ytochifbbefbehaa
