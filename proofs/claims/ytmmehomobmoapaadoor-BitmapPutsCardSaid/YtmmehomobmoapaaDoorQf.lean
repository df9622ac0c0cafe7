/- What the statements of layer 5 begin with: the table that is laid, the map that comes in. -/
import Derived.Test.YtmmehomobmoapaaDoorQa
import Derived.Test.YtmmehomobmoapaaDoorRows
import Derived.ProofKit
import Derived.LaidMore
import Derived.OpenShut
import Derived.Stop.Joined
import Derived.ChangeOld
import Derived.Below
import Derived.Lib.SmallJoins
namespace Go.Proofs.YtmmehomobmoapaaDoor
open Go.ChangeShapes Go.WideShapes Go.ChangeAt Go.RowKit
set_option linter.unusedVariables false
theorem f_own : ownKnob Tryd.prog.godebug = none := by kernel_rfl
theorem f_laidOut : laidOutB Tryd.prog = true := by kernel_rfl
theorem gTab : Tryd.prog.globalNamed "math/bits.deBruijn64tab" = some 0 := by kernel_rfl
theorem tTab : (Tryd.prog.globals[0]?).map (·.type) = some 99 := by kernel_rfl
def laidT : List (String × DataW Unit) := [("math/bits.deBruijn64tab", Rows.laid_math_bits_deBruijn64tab)]
theorem c_tab : Tryd.prog.cellsOf 99 = 64 := by kernel_rfl
theorem c_u8 : Tryd.prog.cellsOf 5 = 1 := by kernel_rfl
theorem c_u64 : Tryd.prog.cellsOf 36 = 1 := by kernel_rfl
theorem c_map : Tryd.prog.cellsOf 24 = 2 := by kernel_rfl
theorem laid_tab : (Rows.laid_math_bits_deBruijn64tab : DataW Unit) = .agg (Lib.deBruijn64tab.map fun n => .lit (.int .u8 (n : Nat))) := rfl
set_option maxRecDepth 100000 in
theorem door_met (os : Os) (args : Array Value) : laidMetH Tryd.prog laidT ((World.doorLaid Tryd.prog 400 os).forCall (fun _ _ => 0) ⟨#[], args, []⟩).memory :=
  laidMetH_of_parts3 (fuel := 8) (laidMet_of_run' 8 (by kernel_rfl) (by kernel_rfl)) (by kernel_rfl) (by kernel_rfl)
theorem tab_of_laid {W : World} (h : laidMetH Tryd.prog laidT W) : TabAt 0 Lib.deBruijn64tab W := by
  rw [MakeChecks.laidMetH_plain _ _ _ (by kernel_rfl)] at h
  obtain ⟨ps, ⟨g0, t0, cs0, f0, p0, q0, hg0, ht0, hv0, hd0, _, _⟩, _⟩ := h
  obtain rfl := Option.some.inj (gTab.symm.trans hg0)
  obtain rfl := Option.some.inj (tTab.symm.trans ht0)
  obtain ⟨xs, m1, rfl, hx1, hlen, hn, hel⟩ := DataW.trod_array Tryd.underlying99 hd0
  simp only [Prod.mk.injEq] at hx1
  have hx := hx1.1
  rw [laid_tab, DataW.agg.injEq] at hx
  intro j hj
  have hj64 : j < 64 := hj
  have h0 := hel j hj64
  rw [c_u8] at h0
  obtain ⟨x, hxj⟩ : ∃ x, xs[j]? = some x := ⟨_, List.getElem?_eq_getElem (by rw [hn]; exact hj64)⟩
  rw [hxj] at h0
  obtain ⟨k, e1, e2, _⟩ := DataW.trod_int Tryd.underlying5 h0
  have h1 : (Lib.deBruijn64tab.map fun n => (DataW.lit (.int .u8 (n : Nat)) : DataW Unit))[j]? = (xs.map (·.1))[j]? := by rw [hx]
  rw [List.getElem?_map, List.getElem?_map, hxj, e2, List.getElem?_eq_getElem hj] at h1
  simp at h1
  have h2 := World.var?_cell hg0 hv0 j
  rw [h2]
  have h3 : cs0.toList[j]? = some (.int .u8 k) := by
    have := congrArg (fun l : List Value => l[0]?) e1
    simp only [Nat.mul_one, List.getElem?_take, List.getElem?_drop] at this
    simpa using this
  rw [← Array.getElem?_toList, h3, ← h1, List.getD_eq_getElem?_getD, List.getElem?_eq_getElem hj]
  rfl
/-- A row of words that came in. -/
theorem rq_of_row {w : World} {a : Addr} {len cap : Nat} {zs : List Int} (hl : len ≤ zs.length) (hc : ∀ i, i < zs.length → w.cell? (a.add i) = some (.int .u64 (zs.getD i 0))) (hw : ∀ n ∈ zs, (Lit.int .u64 n).wf = true) : ∃ l : List UInt64, l.length = len ∧ RQ w (some a) l := by
  refine ⟨(zs.take len).map (fun z => UInt64.ofNat z.toNat), by simp; omega, .inr ⟨a, rfl, fun j y hy => ?_⟩⟩
  simp only [List.getElem?_map, Option.map_eq_some_iff, List.getElem?_take] at hy
  obtain ⟨z, hzj, rfl⟩ := hy
  split at hzj
  · obtain ⟨hjl, rfl⟩ := List.getElem?_eq_some_iff.1 hzj
    have h1 := hc j hjl
    rw [h1]
    have h2 := hw zs[j] (List.getElem_mem hjl)
    have h3 : 0 ≤ zs[j] ∧ zs[j] ≤ 18446744073709551615 := bounds_u64 h2
    rw [List.getD_eq_getElem?_getD, List.getElem?_eq_getElem hjl, Option.getD_some, UInt64.toNat_ofNat']
    congr 2
    omega
  · cases hzj
theorem open_refMap {H : Type} {enc : TypeId × Value → H} {W : World} {b0 base : Nat} {spare : Nat → Bool} {held : Bool} {v : Value} {d : DataW H} {p : List MemPlace}
    (hsp : ∀ b, spare b = true) (hv : Value.okWide Tryd.prog W .any b0 24 v) (h : DataW.Trod enc Tryd.prog W base spare held 24 v d p) :
    ∃ (s : Int) (A : Option Addr) (c : Nat) (L : List UInt64), v = .agg #[.int .i64 s, .slice A L.length c] ∧ RQ W A L ∧ L.length ≤ c ∧ c ≤ maxLen ∧ -9223372036854775808 ≤ s ∧ s ≤ 9223372036854775807 := by
  obtain ⟨v0, v1, y0, y1, n, rfl, _, _, h0, h1⟩ := Joins.open_agg2 Tryd.underlying24 (by kernel_rfl) c_map hv h
  obtain ⟨s, e0, _, ws⟩ := DataW.trod_int Tryd.underlying3 h0
  have bs := bounds_i64 ws
  simp only [List.cons.injEq, and_true] at e0
  subst e0
  rcases open_ints Tryd.underlying22 Tryd.underlying36 c_u64 h1 with ⟨e, _⟩ | ⟨a, len, cap, zs, e, _, hl, hm, hz, _, hc, hw⟩
  · simp only [List.cons.injEq, and_true] at e
    subst e
    exact ⟨s, none, 0, [], rfl, .inl rfl, Nat.le_refl _, Nat.zero_le _, by omega, by omega⟩
  · simp only [List.cons.injEq, and_true] at e
    subst e
    rw [hsp, if_pos rfl] at hz
    obtain ⟨l, rfl, hr⟩ := rq_of_row (len := len) (cap := cap) (by omega) hc hw
    exact ⟨s, some a, cap, l, rfl, hr, hl, hm, by omega, by omega⟩
end Go.Proofs.YtmmehomobmoapaaDoor
