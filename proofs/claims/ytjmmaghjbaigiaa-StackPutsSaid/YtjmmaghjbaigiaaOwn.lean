/- Laws on a row of bytes of the call's own: made, copied into, zeros appended. -/
import Derived.Test.YtjmmaghjbaigiaaWords
import Derived.Laws.CopyOwn
import Derived.Lib.AppendZeros
namespace Go.Proofs.Ytjmmaghjbaigiaa
open Go.RowKit
set_option linter.unusedVariables false

theorem zeroCells_B (m : Nat) : (Builtin.zeroCells (Value.int .u8 0).cells m).toList = cellsB (List.replicate m 0) := by
  have h : (Builtin.zeroCells (Value.int .u8 0).cells m).size = m := by simp [Builtin.zeroCells, Value.cells]
  apply List.ext_getElem
  · simp [cellsB, h]
  · intro i h1 h2
    simp [Builtin.zeroCells, cellsB, cellB, Value.cells, Nat.mod_one]
theorem madeCells_B (m : Nat) : (madeCells (Value.int .u8 0).cells (m * 1)).toList = cellsB (List.replicate m 0) := by
  apply List.ext_getElem
  · simp [cellsB, madeCells]
  · intro i h1 h2
    simp [madeCells, cellsB, cellB, Value.cells, Nat.mod_one]

theorem wpList_make_B {w : World} {ops : Array Oper} {rest : List Oper} {o : Oper} {a : Act} {Q : Exit → Act → World → Prop} (hgd : o.guard = none) (s x : Operand)
    (ho : o.op = Op.makeSlice 25 s x) (base n : Nat) (L C : Int) (hs : a.eval s = .int .i64 L) (hx : a.eval x = .int .i64 C) (hL : L = (n : Int)) (hC : C = (n : Int)) (hn : n ≤ 70368744177664) (hbase : base ≤ w.heap.size)
    (h : ∀ w', OB base w' (.slice (some ⟨w.heap.size, 0, none⟩) n n) (List.replicate n 0) → Below base w w' → wpList Try.prog ops Q rest (a.put o.dst (.slice (some ⟨w.heap.size, 0, none⟩) n n)) w') : wpList Try.prog ops Q (o :: rest) a w := by
  obtain ⟨i0, hi, hz0, hz1, hz2⟩ := info_parts Try.info5
  refine wpList_make_full w hgd s x 25 ho base 5 i0 _ 1 Try.underlying25 hi hz0 hz1 .i64 .i64 L C n hs hx hL hC (by rw [hz2]; omega) (by simp only [maxLen]; omega) hbase ?_
  intro w' h1 h2
  refine h w' ?_ ?_
  · unfold OB
    rw [madeCells_B] at h1
    simpa using h1
  · exact (Below.refl base w).grown h2 hbase fun k hk => by cases hk

theorem run_append_zeros_B {base : Nat} {w : World} {v : Value} {l : List UInt8} (ty : TypeId) (hown : OB base w v l) (hl : 0 < l.length) (m : Nat) (hbound : l.length + m ≤ 70368744177664) (hbase : base ≤ w.heap.size) :
    ∃ v' w', (Builtin.append_ #[25, 3] ty #[v, .int .i64 m]).run Try.prog w = .ok v' w' ∧ OB base w' v' (l ++ List.replicate m 0) ∧ Below base w w' ∧ w.grownBy w' v.ownBlock := by
  obtain ⟨i0, hi, hz0, hz1, hz2⟩ := info_parts Try.info5
  have hown' := hown
  unfold OB at hown
  have hlen : (cellsB l ++ cellsB (List.replicate m 0)).length = l.length + m := by simp [cellsB]
  have hcat : cellsB (l ++ List.replicate m 0) = cellsB l ++ cellsB (List.replicate m 0) := by simp [cellsB]
  have h1c : ∀ u ∈ cellsB (List.replicate m 0), u.oneCell' = true := by
    intro u hu
    simp only [cellsB, List.mem_map] at hu
    obtain ⟨x, _, rfl⟩ := hu
    rfl
  have hw : IntKind.i64.wrap (m : Int) = m := by rw [IntKind.wrap_i64]; omega
  have hneg : ¬ ((m : Int) < 0) := by omega
  have h48i : ¬ (281474976710656 < (m : Int)) := by omega
  have hzz := zeroCells_B m
  rcases hown.2 with ⟨rfl, h0⟩ | ⟨g, cap, cur, rfl, hbg, hg, hnc, hcm, hcs, htake⟩
  · omega
  · by_cases hroom : l.length + m ≤ cap
    · have hst := run_storeCells_at Try.prog g l.length 5 (cellsB (List.replicate m 0)) 0 cur w hg (by simp only [cellsB, List.length_map, List.length_replicate]; omega) h1c
      simp only [Nat.add_zero] at hst
      have hrun : (Builtin.append_ #[25, 3] ty #[.slice (some ⟨g, 0, none⟩) l.length cap, .int .i64 m]).run Try.prog w = .ok (.slice (some ⟨g, 0, none⟩) (l.length + m) cap) (w.setRow g (cur.toList.take l.length ++ cellsB (List.replicate m 0) ++ cur.toList.drop (l.length + (cellsB (List.replicate m 0)).length)).toArray) := by
        by_cases hm : m = 0
        · subst hm
          have e : w.setRow g (cur.toList.take l.length ++ cellsB (List.replicate 0 0) ++ cur.toList.drop (l.length + (cellsB (List.replicate 0 0)).length)).toArray = w := by
            simp only [List.replicate_zero, cellsB, List.map_nil, List.append_nil, List.length_nil, Nat.add_zero, List.take_append_drop, Array.toArray_toList]
            exact setRow_self w g cur _ (0, 0) hg
          rw [e]
          have hw0 : IntKind.i64.wrap 0 = 0 := by rw [IntKind.wrap_i64]; rfl
          simp [hw0, Builtin.append_, run_underlying Try.underlying25, run_underlying Try.underlying3, sizeOf, typeInfo, zeroValue, hi, hz0, hz2, asInt, asIntOf, hnc, storeCells]
        · have hms : ¬ (m * i0.size = 0) := by rw [hz1]; omega
          simp [Builtin.append_, run_underlying Try.underlying25, run_underlying Try.underlying3, sizeOf, typeInfo, zeroValue, hi, hz0, hz1, hz2, asInt, asIntOf, hw, hneg, h48i, hroom, hm, hzz, Addr.add_lit, hst]
      refine ⟨_, _, hrun, ?_, ?_, ?_⟩
      · unfold OB
        rw [hcat]
        refine ⟨by simp [cellsB], .inr ⟨g, cap, _, by simp, hbg, setRow_heap w g cur _ _ _ hg, by simp; omega, hcm, ?_, ?_⟩⟩
        · simp only [List.size_toArray, List.length_append, List.length_take, List.length_drop, Array.length_toList, cellsB, List.length_map, List.length_replicate]
          omega
        · simp only [List.length_append, List.length_replicate, Nat.mul_one]
          rw [← hlen]
          rw [show cur.toList.take l.length = cellsB l by simpa using htake]
          exact List.take_left
      · exact (Below.refl base w).grown (row := some g) ⟨rfl, rfl, rfl, by simp, fun k _ hk => setRow_other w g k _ (fun e => hk (by rw [e]))⟩ hbase fun k hk => by cases hk; exact hbg
      · exact ⟨rfl, rfl, rfl, by simp, fun k _ hk => setRow_other w g k _ (fun e => hk (by simp [Value.ownBlock, e]))⟩
    · have hn : ¬ (l.length + m ≤ cap) := hroom
      have h63' : ¬ (9223372036854775807 < ((l.length : Int) + (m : Int))) := by omega
      have hgs := growslice_fits (need := l.length + m) (old := cap) (bytes := 1) (by omega) (by omega)
      have h48' : ¬ (281474976710656 < Builtin.nextslicecap (l.length + m) cap) := by omega
      have hm0 : m ≠ 0 := by omega
      have holds : ∀ j u, (cellsB l)[j]? = some u → w.drew.cell? ((⟨g, 0, none⟩ : Addr).add j) = some u := World.ownsRow.cells hown (g := g) rfl
      have hfo := run_firstCells_some (P := Try.prog) w.drew 1 l.length ⟨g, 0, none⟩ l.length cap (cellsB l) (by simp [cellsB]) holds
      have hrun : (Builtin.append_ #[25, 3] ty #[.slice (some ⟨g, 0, none⟩) l.length cap, .int .i64 m]).run Try.prog w = .ok (.slice (some ⟨w.heap.size, 0, none⟩) (l.length + m) (grownCap w (l.length + m) cap 5))
          (w.drew.alloc (.cells ((cellsB l).toArray ++ Builtin.zeroCells (Value.int .u8 0).cells m ++ Builtin.zeroCells (Value.int .u8 0).cells (grownCap w (l.length + m) cap 5 - (l.length + m))) 5)) := by
        simp [Builtin.append_, run_underlying Try.underlying25, run_underlying Try.underlying3, sizeOf, typeInfo, zeroValue, hi, hz0, hz1, hz2, asInt, asIntOf, hw, hneg, h48i, hn, hm0, h63', h48', Question.forced, hfo, newRow, grownCap]
      have hge := grownCap_ge w (l.length + m) cap 5
      have hgm : grownCap w (l.length + m) cap 5 ≤ maxLen := grownCap_le_maxLen w (l.length + m) cap 5 (by simp only [maxLen]; omega)
      refine ⟨_, _, hrun, ?_, ?_, ?_⟩
      · unfold OB
        rw [hcat]
        refine ⟨by simp [cellsB], .inr ⟨w.heap.size, _, _, by simp, hbase, heap_alloc_new w.drew _, by simpa using hge, hgm, ?_, ?_⟩⟩
        · simp only [Array.size_append, List.size_toArray, cellsB, List.length_map, size_zeroCells]
          simp [Value.cells]
          omega
        · simp only [List.length_append, List.length_replicate, Nat.mul_one]
          rw [← hlen]
          simp only [Array.toList_append, hzz]
          exact List.take_left
      · exact (Below.refl base w).grown (row := none) ⟨rfl, rfl, rfl, by simp, fun k hk _ => heap_alloc_old w.drew _ hk⟩ hbase fun k hk => by cases hk
      · exact ⟨rfl, rfl, rfl, by simp, fun k hk _ => heap_alloc_old w.drew _ hk⟩

theorem wpList_append_zeros_B {w : World} {ops : Array Oper} {rest : List Oper} {o : Oper} {a : Act} {Q : Exit → Act → World → Prop} (hgd : o.guard = none) (s x : Operand)
    (ho : o.op = .call { callee := .builtin .append, args := #[s, x], argTypes := #[25, 3] })
    (base : Nat) (v : Value) (l : List UInt8) (hs : a.eval s = v) (hown : OB base w v l) (hl : 0 < l.length) (m : Nat) (z : Int) (hx : a.eval x = .int .i64 z) (hz : z = (m : Int))
    (hbound : l.length + m ≤ 70368744177664) (hbase : base ≤ w.heap.size)
    (h : ∀ v' w', OB base w' v' (l ++ List.replicate m 0) → Below base w w' → wpList Try.prog ops Q rest (a.put o.dst v') w') : wpList Try.prog ops Q (o :: rest) a w :=
  wpList_plain hgd fun K hK => by
    subst hz
    obtain ⟨v', w', hrun, h2, h3, _⟩ := run_append_zeros_B o.type hown hl m hbound hbase
    unfold Oper.wp execOp
    simp only [ho, resolve, invoke, builtin, Sem.run_bind, Sem.run_pure, Result.andThen_ok, List.map_toArray, List.map_cons, List.map_nil, hs, hx, hrun]
    exact hK _ _ (h v' w' h2 h3)

theorem wpList_copy_B {w : World} {ops : Array Oper} {rest : List Oper} {o : Oper} {a : Act} {Q : Exit → Act → World → Prop} (hgd : o.guard = none) (d s : Operand)
    (ho : o.op = .call { callee := .builtin .copy, args := #[d, s], argTypes := #[25, 25] })
    (base g n c : Nat) (l : List UInt8) (hown : OB base w (.slice (some ⟨g, 0, none⟩) n c) l) (off : Nat) (dp A : Option Addr) (dn dc m sc : Nat) (news : List UInt8)
    (hd : a.eval d = .slice dp dn dc) (hs : a.eval s = .slice A m sc) (hm : news.length = m) (hr : RB w A news) (hfit : off + m ≤ n) (hdn : m ≤ dn) (hdp : 0 < m → dp = some ⟨g, off, none⟩)
    (h : ∀ w', OB base w' (.slice (some ⟨g, 0, none⟩) n c) (splice l off news) → Below base w w' → wpList Try.prog ops Q rest (a.put o.dst (.int .i64 m)) w') : wpList Try.prog ops Q (o :: rest) a w := by
  have hn : n = l.length := hown.len
  subst hn
  unfold OB at hown
  rcases hown.2 with ⟨e, h0⟩ | ⟨g', cap, cur, e, hbg, hg, hnc, hcm, hcs, htake⟩
  · cases e
  · injection e with e1 e2 e3
    injection e1 with e1
    injection e1 with e1
    subst e1
    subst e3
    refine wpList_copy_splice hgd d s 25 25 ho 5 Try.underlying25 (by kernel_rfl) dp A dn dc m sc hd hs g off cur.toList 5 (by simpa using hg) (cellsB news) (by simp only [cellsB, List.length_map, hm]; exact (Nat.min_eq_left hdn).symm) ?_ ?_ ?_ base w (Below.refl _ _) hbg ?_
    · intro hp
      have hp' : 0 < m := by simpa [cellsB, hm] using hp
      refine ⟨hdp hp', ?_⟩
      rcases hr with rfl | ⟨ad, rfl, hc⟩
      · simp at hm; omega
      · refine ⟨ad, rfl, fun j v hv => ?_⟩
        simp only [cellsB, List.getElem?_map, Option.map_eq_some_iff] at hv
        obtain ⟨x, hx, rfl⟩ := hv
        exact hc j x hx
    · simp [cellsB, hm]; omega
    · intro u hu
      simp only [cellsB, List.mem_map] at hu
      obtain ⟨x, _, rfl⟩ := hu
      rfl
    · intro w' hg' hb'
      have e2 : (goInt (cellsB news).length) = .int .i64 (m : Int) := by simp [cellsB, hm, goInt]
      rw [e2]
      refine h w' ?_ hb'
      unfold OB
      have hsl : (splice l off news).length = l.length := length_splice _ _ _ (by omega)
      have hcl : (cellsB (splice l off news)) = splice (cellsB l) off (cellsB news) := by simp [cellsB, splice]
      have hlen : l.length ≤ cur.toList.length := by simp; omega
      rw [hsl, hcl]
      refine ⟨?_, .inr ⟨g, c, _, rfl, hbg, hg'.out, hnc, hcm, ?_, ?_⟩⟩
      · rw [length_splice _ _ _ (by simp [cellsB]; omega)]
        simp [cellsB]
      · simp only [List.size_toArray]
        rw [length_splice _ _ _ (by simp [cellsB]; omega)]
        simpa using hcs
      · have ht : cur.toList.take l.length = cellsB l := by simpa using htake
        rw [← ht]
        simp only [splice, Nat.mul_one, cellsB, List.length_map]
        rw [List.take_append, List.take_append, List.length_take, List.length_map]
        rw [List.take_take, List.take_take, List.drop_take, Nat.min_eq_left (by omega : off ≤ cur.toList.length), Nat.min_eq_right (by omega), Nat.min_eq_left (by omega : off ≤ l.length)]
        rw [List.take_of_length_le (by simp; omega : (List.map cellB news).length ≤ l.length - off)]
        rw [show l.length - off - news.length = l.length - (off + news.length) by omega]

theorem OB.atg {base g : Nat} {w : World} {n c k : Nat} {l : List UInt8} (x : UInt8) (h : OB base w (.slice (some ⟨g, 0, none⟩) n c) l) (hk : l[k]? = some x) :
    base ≤ g ∧ g < w.heap.size ∧ w.cell? ⟨g, k, none⟩ = some (.int .u8 (x.toNat : Int)) ∧ w.frozen? ⟨g, k, none⟩ = false ∧
      ∀ (y : UInt8) (z : Int), z = (y.toNat : Int) → OB base (w.setCell ⟨g, k, none⟩ (.int .u8 z)) (.slice (some ⟨g, 0, none⟩) n c) (l.set k y) := by
  obtain ⟨g', e, h1, h2, h3, h4, h5⟩ := h.at_ hk
  injection e with e
  injection e with e
  subst e
  exact ⟨h1, h2, h3, h4, h5⟩
theorem RB.dropw {w : World} {ad : Addr} {l : List UInt8} (h : RB w (some ad) l) (k : Nat) (hk : 0 < k) : RB w (some ⟨ad.block, ad.off + k, none⟩) (l.drop k) := by
  have h1 := h.drop k
  have e : ad.add k = ⟨ad.block, ad.off + k, none⟩ := by
    unfold Addr.add
    rw [if_neg (by omega)]
  rw [e] at h1
  exact h1
end Go.Proofs.Ytjmmaghjbaigiaa
