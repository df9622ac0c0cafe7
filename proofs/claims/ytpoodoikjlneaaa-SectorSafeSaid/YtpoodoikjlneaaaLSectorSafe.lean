/- It is proved that the law SectorSafe answers true for every list of calls, every nine marks and every fates, and leaves them as they were. No condition. -/
import Derived.Test.YtpoodoikjlneaaaKSectorSafe
import Derived.WalkKit
import Derived.ProofKit
import Derived.OpenShut
import Derived.ShutString
import Derived.ChangeOld
import Derived.Below
namespace Go.Proofs.Ytpoodoikjlneaaa.sectorSafe
open Go.ChangeShapes Go.WideShapes Go.ChangeAt Go.RowKit
set_option linter.unusedVariables false

theorem own : ownKnob Try.prog.godebug = none := by kernel_rfl
theorem laidOut : laidOutB Try.prog = true := by kernel_rfl

theorem Try.cells9 : Try.prog.cellsOf 49 = 9 := by kernel_rfl
theorem open_arr9 {H : Type} {enc : TypeId × Value → H} {W : World} {base : Nat} {spare : Nat → Bool} {held : Bool} {v : Value} {d : DataW H} {p : List MemPlace}
    (hv : ∃ cs, v = .agg cs) (h : DataW.Trod enc Try.prog W base spare held 49 v d p) : ∃ M : List UInt8, M.length = 9 ∧ v = .agg (cellsB M).toArray := by
  obtain ⟨cs, rfl⟩ := hv
  obtain ⟨fuel, hf⟩ := h
  obtain ⟨xs, k, _, _, hl, hxl, hx⟩ := DataW.trod_array Try.underlying49 hf
  rw [Try.cells9] at hl
  have hl' : cs.toList.length = 9 := hl
  obtain ⟨M, hM, hp⟩ := list_of (Pr := fun i (x : UInt8) => cs.toList[i]? = some (cellB x)) 9 (fun i hi => by
    have h0 := hx i (by omega)
    rw [Try.cellsU8, Nat.mul_one] at h0
    have h1 : (cs.toList.drop i).take 1 = [cs.toList[i]'(by omega)] := take1 (by omega)
    have h2 : DataW.trod enc Try.prog W base spare held k 5 ((cs.toList.drop i).take 1) = xs[i]? := h0
    rw [h1, List.getElem?_eq_getElem (by omega)] at h2
    obtain ⟨z, e, _, wz⟩ := DataW.trod_int Try.underlying5 h2
    obtain ⟨x, rfl⟩ := byte_of wz
    simp only [List.cons.injEq, and_true] at e
    exact ⟨x, by rw [List.getElem?_eq_getElem (by omega), e]; rfl⟩)
  refine ⟨M, hM, ?_⟩
  have : cs.toList = cellsB M := by
    apply List.ext_getElem?
    intro i
    rcases Nat.lt_or_ge i 9 with hi | hi
    · rw [hp i _ (List.getElem?_eq_getElem (by omega))]
      simp [cellsB, List.getElem?_eq_getElem (show i < M.length by omega)]
    · rw [List.getElem?_eq_none (by omega), List.getElem?_eq_none (by rw [length_cellsB]; omega)]
  rw [← this]
set_option maxRecDepth 100000 in
theorem lifted (os : Os) (started : os.Started) (H : Type) (enc : TypeId × Value → H) :
    ReturnsInHanded {} Try.checked os 5 .any (Rows.sectorSafeSpec.pre6 enc Try.prog Try.f5 Rows.sectorSafeRow.domain false) (Rows.sectorSafeSpec.post enc Try.prog Try.f5 false true false false) := by
  refine returnsInHanded_of_change (C := Try.checked) own started (by kernel_rfl) Try.func5
    (ChangeSpec.witness6 (enc := enc) (C := Try.checked) false ⟨#[], #[.slice none 0 0, .agg #[.int .u8 0, .int .u8 0, .int .u8 0, .int .u8 0, .int .u8 0, .int .u8 0, .int .u8 0, .int .u8 0, .int .u8 0], .slice none 0 0], []⟩ 8 (by kernel_rfl) (by kernel_rfl) (by kernel_rfl) (by kernel_rfl)) ?_
  intro W base args ds gs before hval0 hW hcnd _
  have hval : ∀ (j : Nat) t v, Try.f5.params[j]? = some t → args[j]? = some v → Value.okWide Try.prog W .any base t v := hval0
  have hW' := hW
  obtain ⟨p, q, hA0, hV, rfl, hfz, hnd⟩ := hW
  have hA : DataW.TrodAll enc Try.prog W 0 (fun _ => true) true Try.f5.params.toList args.toList ds p := hA0
  rw [Try.params5] at hA hval
  obtain ⟨v0, vs0, d0, ds0, p0, q0, hargs, rfl, rfl, h0, r0⟩ := trodAll_cons hA
  obtain ⟨v1, vs1, d1, ds1, p1, q1, rfl, rfl, rfl, h1, r1⟩ := trodAll_cons r0
  obtain ⟨v2, vs2, d2, ds2, p2, q2, rfl, rfl, rfl, h2, r2⟩ := trodAll_cons r1
  obtain ⟨rfl, rfl, rfl⟩ := trodAll_nil r2
  obtain rfl : args = #[v0, v1, v2] := by cases args; simp_all
  obtain ⟨rfl, rfl⟩ := trodVars_none hV
  obtain ⟨a0, len0, cap0, rfl⟩ := okWide_slice Try.underlying22 (hval 0 22 v0 rfl rfl)
  have k0 := h0
  have lt0 : ∀ x ∈ p0, x.block < W.heap.size := by obtain ⟨m, hm⟩ := k0; exact DataW.trod_lt m _ _ _ hm
  obtain ⟨l0, hl0, hc0, _, ha0⟩ := open_acts h0
  have hv1 : ∃ cs, v1 = .agg cs := by
    have := hval 1 49 v1 rfl rfl
    simp only [Value.okWide, Try.underlying49] at this
    obtain ⟨cs, e, _⟩ := this
    exact ⟨cs, e⟩
  have k1 := h1
  have lt1 : ∀ x ∈ p1, x.block < W.heap.size := by obtain ⟨m, hm⟩ := k1; exact DataW.trod_lt m _ _ _ hm
  obtain ⟨M, hM, rfl⟩ := open_arr9 hv1 h1
  obtain ⟨a2, len2, cap2, rfl⟩ := okWide_slice Try.underlying32 (hval 2 32 v2 rfl rfl)
  have k2 := h2
  have lt2 : ∀ x ∈ p2, x.block < W.heap.size := by obtain ⟨m, hm⟩ := k2; exact DataW.trod_lt m _ _ _ hm
  obtain ⟨l2, hl2, hc2, hm2, hr2⟩ : ∃ l : List UInt8, l.length = len2 ∧ len2 ≤ cap2 ∧ cap2 ≤ maxLen ∧ RB W a2 l := by
    obtain ⟨fuel, hf⟩ := h2
    obtain ⟨A, cc, l, e, r1, r2, r3⟩ := open_bytes (c := .slice a2 len2 cap2) hf
    injection e with e1 e2 e3
    subst e1 e2 e3
    exact ⟨l, rfl, r1, r2, r3⟩
  clear hA0 hval0
  have hcore := core a0 len0 cap0 l0 M a2 len2 cap2 l2 W hl0 hc0 ha0 hM hl2 hc2 (Nat.le_trans hc2 hm2) hr2
  refine hcore.mono fun e W' ⟨he, bel⟩ => ?_
  subst he
  exact ⟨_, rfl, _, _, _, [], _, [], hW', trodAll_mk1 (shut_bool Try.underlying4 _), (trodAll_cons_mk (Below.trod laidOut (by kernel_rfl) (of_decide_eq_true (by kernel_rfl)) k0 bel lt0) (trodAll_cons_mk (Below.trod laidOut (by kernel_rfl) (of_decide_eq_true (by kernel_rfl)) k1 bel lt1) (trodAll_cons_mk (Below.trod laidOut (by kernel_rfl) (of_decide_eq_true (by kernel_rfl)) k2 bel lt2) trodAll_mk0))), rfl, bel.frame _, fun h => by cases h⟩

theorem over : Rows.sectorSafeRow.holds Try.pinned (OpenSpec.ofChange Rows.sectorSafeSpec) :=
  OpenClaim.holds_of_wide 5 Try.f5 rfl rfl rfl rfl rfl rfl rfl ⟨rfl, rfl, rfl, rfl, rfl⟩ rfl rfl rfl rfl rfl (by kernel_rfl) Try.func5 (by kernel_rfl)
    (of_decide_eq_true (by kernel_rfl)) (by unfold Func.isWrapper; first | (rw [if_pos (by decide +kernel)]; kernel_rfl) | (rw [if_neg (by decide +kernel)]; exact ⟨rfl, rfl⟩))
    (fun os started H enc _ => lifted os started H enc)

theorem proved : Rows.SectorSafeSaid := over
#print axioms proved
end Go.Proofs.Ytpoodoikjlneaaa.sectorSafe
