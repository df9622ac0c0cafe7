/- What every right program has behind a torn sector. -/
import Derived.Test.YtochifbbefbehaaScQ
namespace Go.Proofs.Ytochifbbefbehaa
open Go.RowKit
set_option linter.unusedVariables false
def aw0 : Dk := Dk.new 5
def aw1 : Dk := aw0.write 1 (oneB 9)
def aw2 : Dk := aw1.sync
def aw3 : Dk := aw2.write 3 (oneB 7)
def aw4 : Dk := aw3.power [3, 5]
theorem aw_e1 : aw0.writeErr 1 (oneB 9) = 0 := by kernel_rfl
theorem aw_e2 : aw1.syncErr = 0 := by kernel_rfl
theorem aw_e3 : aw2.writeErr 3 (oneB 7) = 0 := by kernel_rfl
theorem aw_w : aw3.waits = [3] := by kernel_rfl
theorem aw_f3 : aw4.faultAt 3 = 0 := by kernel_rfl
theorem aw_f1 : aw4.faultAt 1 = 0 := by kernel_rfl
theorem aw_l3 : (aw4.reads 3).length = 256 := by kernel_rfl
theorem aw_l1 : (aw4.reads 1).length = 256 := by kernel_rfl
theorem aw_34 : (aw4.reads 3)[4]? = some 7 := by kernel_rfl
theorem aw_35 : (aw4.reads 3)[5]? = some 0 := by kernel_rfl
theorem aw_1 : (aw4.reads 1)[255]? = some 9 := by kernel_rfl
theorem aw_c0 : aw0.calls = 0 := by kernel_rfl
theorem aw_c1 : aw1.calls = 1 := by kernel_rfl
theorem aw_c2 : aw2.calls = 2 := by kernel_rfl
theorem aw_c4 : aw4.calls = 3 := by kernel_rfl
theorem aw_n : aw4.rows.length = 5 := by kernel_rfl
theorem aw_o : aw4.off = false := by kernel_rfl
theorem not_has {base : Nat} {F : Ft} {w : World} {t : Dk} (h : DkAt base F w t) {i : Nat} (hi : w.heap.size ≤ i) : ¬ F.has i := fun hx => by have := h.inside i hx; omega
end Go.Proofs.Ytochifbbefbehaa
