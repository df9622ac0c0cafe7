/- Contracts of bytes.Clone and Behind (the program's and the document's), and the law of a conversion of bytes to a text. -/
import Derived.Test.YtgjahlknefobeaaW4
import Derived.Laws.BytesString
import Derived.Laws.Cells
import Derived.Lib.SliceRun
import Derived.Lib.SmallJoins
import Derived.Deep.RegionHeld3
namespace Go.Proofs.Ytgjahlknefobeaa
open Go.RowKit
set_option linter.unusedVariables false

/-- The text of some bytes. -/
def str (l : List UInt8) : ByteArray := ⟨l.toArray⟩
theorem str_size (l : List UInt8) : (str l).size = l.length := by simp [str, ByteArray.size]

theorem fold_push (l : List UInt8) (s : ByteArray) : (l.map fun x : UInt8 => (x.toNat : Int)).foldl (fun r n => r.push (UInt8.ofNat n.toNat)) s = ⟨s.data ++ l.toArray⟩ := by
  induction l generalizing s with
  | nil => simp
  | cons x l ih =>
    simp only [List.map_cons, List.foldl_cons]
    rw [ih]
    simp [ByteArray.push]

theorem run_str (w : World) (A : Option Addr) (n c : Nat) (l : List UInt8) (hl : l.length = n) (hr : RB w A l) : (convert 22 9 (.slice A n c)).run Try.prog w = .ok (.string (str l)) w := by
  rw [run_convert_bytes_string w 22 9 5 A n c Try.underlying22 Try.underlying5 Try.underlying9]
  subst hl
  rcases A with _ | ad
  · obtain rfl : l = [] := by
      rcases hr with h | ⟨ad, h, _⟩
      · exact h
      · cases h
    rfl
  · have h := run_loadCells_list (P := Try.prog) w ad ((l.map fun x : UInt8 => (x.toNat : Int)).map (Value.int .u8)) (by
      intro j v hv
      rcases hr with rfl | ⟨ad', h, hc⟩
      · simp at hv
      · injection h with h
        subst h
        simp only [List.getElem?_map, Option.map_eq_some_iff] at hv
        obtain ⟨z, ⟨x, hx, rfl⟩, rfl⟩ := hv
        exact hc j x hx)
    rw [show ((l.map fun x : UInt8 => (x.toNat : Int)).map (Value.int .u8)).length = l.length by simp] at h
    rw [run_bytesToString w ad l.length c _ h, fold_push]
    simp [str]

set_option maxHeartbeats 400000 in
theorem clone_any (A : Option Addr) (n c : Nat) (l : List UInt8) (w : World) (hn : n ≤ 70368744177664) (hl : l.length = n) (hr : RB w A l) :
    Calls Try.prog 38 #[.slice A n c] w fun e w' => ∃ v', e = .returned v' ∧ OB w.heap.size w' v' l ∧ Below w.heap.size w w' := by
  have q22 : ∀ (w : World) (a : Option Addr) (n c n' c' : Nat), (binOp .eql 22 (.slice a n c) (.slice none n' c')).run Try.prog w = .ok (.bool a.isNone) w := fun w a n c n' c' => Lib.run_eql_slice_nil w _ _ a n c n' c' Try.underlying22
  have HL := Lib.hid hl
  clear hl
  rcases A with _ | ad
  · obtain rfl : l = [] := by
      rcases hr with h | ⟨ad, h, _⟩
      · exact h
      · cases h
    go_enter Try.func38, Try.ntmps38
    go_wp2
    go_ret
    exact ⟨_, rfl, OB.nil, Below.refl _ _⟩
  · go_enter Try.func38, Try.ntmps38
    go_wp2_with (at_builtin; refine wpList_append_B rfl (.tmp 5) (.tmp 6) rfl w.heap.size _ [] rfl (OB.lit w w.heap.size [] _ (by simp [cellsB]) (Nat.le_refl _) (by simp [maxLen])) _ _ _ l rfl HL.out (hr.alloc _) (by simp; omega) (by simp) ?_; intro v1 w1 hown1 hb1)
    go_ret
    exact ⟨_, rfl, hown1, ((Below.refl _ _).alloc (Nat.le_refl _) _).trans hb1⟩

theorem OB.at_ {base : Nat} {w : World} {A : Option Addr} {n c k : Nat} {l : List UInt8} {x : UInt8} (h : OB base w (.slice A n c) l) (hk : l[k]? = some x) :
    ∃ g, A = some ⟨g, 0, none⟩ ∧ base ≤ g ∧ g < w.heap.size ∧ w.cell? ⟨g, k, none⟩ = some (.int .u8 (x.toNat : Int)) ∧ w.frozen? ⟨g, k, none⟩ = false ∧
      ∀ (y : UInt8) (z : Int), z = (y.toNat : Int) → OB base (w.setCell ⟨g, k, none⟩ (.int .u8 z)) (.slice A n c) (l.set k y) := by
  have hlen := h.len
  subst hlen
  have hl : k < l.length := (List.getElem?_eq_some_iff.1 hk).1
  unfold OB at h
  rcases h.2 with ⟨_, h0⟩ | ⟨g, cap, cur, e, hb, hh, r⟩
  · omega
  · have hg : g < w.heap.size := by
      rcases Nat.lt_or_ge g w.heap.size with hlt | hge
      · exact hlt
      · rw [Array.getElem?_eq_none hge] at hh; cases hh
    injection e with e1 e2 e3
    subst e1 e3
    refine ⟨g, rfl, hb, hg, ?_, World.ownsRow.frozenAt h k, ?_⟩
    · rw [World.ownsRow.cellAt h k (by omega)]
      simp [cellsB, hk, cellB]
    · intro y z hz
      have hs := World.ownsRow.stored h k (.int .u8 z)
      unfold OB
      simpa [cellsB, cellB, hz, List.map_set] using hs.1

theorem set_last {a : List UInt8} {k : Nat} (h : a.length = k) (x y : UInt8) : (a ++ [x]).set k y = a ++ [y] := by
  subst h
  simp

set_option maxHeartbeats 800000 in
theorem behind_any (A : Option Addr) (n c : Nat) (l : List UInt8) (w : World) (hn : n ≤ 70368744177664) (hl : l.length = n) (hc : n ≤ c) (hr : RB w A l) :
    Calls Try.prog 24 #[.slice A n c] w fun e w' => ∃ v', e = .returned (.tuple #[v', .bool (behB l).isSome]) ∧ OB w.heap.size w' v' ((behB l).getD []) ∧ Below w.heap.size w w' := by
  have HL := Lib.hid hl
  have HB := Lib.hid (show behB l = behR n l from by rw [← hl]; rfl)
  clear hl
  go_enter Try.func24, Try.ntmps24
  go_wp2
  go_loop [9] (fun i => ∃ j : Nat, j ≤ n ∧ i = .int .i64 j ∧ behB l = behR (n - j) l) (fun i => n - (intOf i).toNat)
  case atStart => exact ⟨0, Nat.zero_le _, rfl, HB.out⟩
  case round =>
    obtain ⟨j, hj, rfl, hbeh⟩ := hrel
    have HC := Lib.hid hbeh
    clear hbeh HB
    by_cases hlt : j < n
    · obtain ⟨k, hk⟩ : ∃ k, n = k + j + 1 := ⟨n - j - 1, by omega⟩
      obtain ⟨ad, x, rfl, hx, hcx⟩ := hr.at_ (k := k) (by rw [HL.out]; omega)
      have hx8 : x.toNat < 256 := x.toNat_lt
      subst hk
      by_cases hff : x.toNat = 255
      · have HG := Lib.hid (show behB l = behR (k + j + 1 - (j + 1)) l from by rw [HC.out, show k + j + 1 - j = k + 1 by omega, behR_ff hx hff, show k + j + 1 - (j + 1) = k by omega])
        go_wp2
        go_round
        case rel => exact ⟨j + 1, by omega, by go_num, HG.out⟩
        case measure => simp [intOf]; omega
      · have HG := Lib.hid (show behB l = some (l.take k ++ [UInt8.ofNat (x.toNat + 1)]) from by rw [HC.out, show k + j + 1 - j = k + 1 by omega, behR_hit hx hff])
        have HT := Lib.hid (show (l.take (k + 1)).length = k + 1 from by rw [List.length_take, HL.out]; omega)
        have HX := Lib.hid (show (l.take (k + 1))[k]? = some x from by rw [List.getElem?_take, if_pos (by omega), hx])
        have HY := Lib.hid (show (l.take (k + 1)).set k (UInt8.ofNat (x.toNat + 1)) = l.take k ++ [UInt8.ofNat (x.toNat + 1)] from by
          rw [take_snoc hx]
          exact set_last (by rw [List.length_take, HL.out]; omega) _ _)
        have HZ := Lib.hid (show ((x.toNat : Int) + 1) = ((UInt8.ofNat (x.toNat + 1)).toNat : Int) from by rw [ofNat_toNat]; omega)
        clear hx
        go_wp2_with fail
        refine (clone_any _ (k + 1) _ (l.take (k + 1)) _ (by omega) HT.out (hr.take _)).mono ?_
        rintro e w1 ⟨v1, rfl, ho, hb1⟩
        obtain ⟨A1, c1, rfl, hc1, hr1⟩ := ho.form
        obtain ⟨g, rfl, hg1, hg2, hcell, hfr, hset⟩ := ho.at_ HX.out
        have hset' := hset _ _ HZ.out
        clear hset
        rw [HT.out] at *
        rw [HY.out] at hset'
        go_wp2
        go_ret2
        rw [HG.out]
        exact ⟨_, rfl, hset', hb1.setCell hg1 _⟩
    · have HG := Lib.hid (show behB l = none from by rw [HC.out, show n - j = 0 by omega]; rfl)
      go_wp2
      go_ret2
      rw [HG.out]
      exact ⟨_, rfl, OB.nil, Below.refl _ _⟩

theorem step_append_B {w : World} {ops : Array Oper} {o : Oper} {a : Act} {K : Act → World → Prop} {Q : Exit → Act → World → Prop} {E : Prop} (hgd : o.guard = none) (s x : Operand)
    (ho : o.op = .call { callee := .builtin .append, args := #[s, x], argTypes := #[22, 22] })
    (base : Nat) (v : Value) (l : List UInt8) (hs : a.eval s = v) (hown : OB base w v l) (A : Option Addr) (m c : Nat) (news : List UInt8) (hx : a.eval x = .slice A m c) (hm : news.length = m) (hr : RB w A news)
    (hbound : l.length + m ≤ 70368744177664) (hbase : base ≤ w.heap.size)
    (h : ∀ v' w', OB base w' v' (l ++ news) → Below base w w' → w.grownBy w' v.ownBlock → K (a.put o.dst v') w') :
    if Region.wanted o (yielded ops a.tmps) = true then Oper.wp Try.prog o a w K Q else E := by
  have hw : Region.wanted o (yielded ops a.tmps) = true := by simp [Region.wanted, hgd]
  rw [if_pos hw]
  obtain ⟨v', w', hrun, h2, h3, h4⟩ := run_append_B o.type hown c hm hr hbound hbase
  unfold Oper.wp execOp
  simp only [ho, resolve, invoke, builtin, Sem.run_bind, Sem.run_pure, Result.andThen_ok, List.map_toArray, List.map_cons, List.map_nil, hs, hx, hrun]
  exact h v' w' h2 h3 h4

theorem heap_size_alloc (w : World) (o : Obj) : (w.alloc o).heap.size = w.heap.size + 1 := by simp

set_option maxHeartbeats 800000 in
theorem refBehind_any (A : Option Addr) (n c : Nat) (l : List UInt8) (w : World) (hn : n ≤ 70368744177663) (hl : l.length = n) (hc : n ≤ c) (hr : RB w A l) :
    Calls Try.prog 25 #[.slice A n c] w fun e w' => ∃ v', e = .returned (.tuple #[v', .bool (behB l).isSome]) ∧ OB w.heap.size w' v' ((behB l).getD []) ∧ Below w.heap.size w w' := by
  have HL := Lib.hid hl
  have HB := Lib.hid (show behB l = behR n l from by rw [← hl]; rfl)
  clear hl
  go_enter Try.func25, Try.ntmps25
  go_wp2
  go_loop [4] (fun i => ∃ j : Nat, j ≤ n ∧ i = .int .i64 ((j : Int) - 1) ∧ behB l = behR j l) (fun i => (intOf i + 1).toNat)
  case atStart => exact ⟨n, Nat.le_refl _, rfl, HB.out⟩
  case round =>
    obtain ⟨j, hj, rfl, hbeh⟩ := hrel
    have HC := Lib.hid hbeh
    clear hbeh HB
    by_cases hlt : 0 < j
    · obtain ⟨k, rfl⟩ : ∃ k, j = k + 1 := ⟨j - 1, by omega⟩
      obtain ⟨ad, x, rfl, hx, hcx⟩ := hr.at_ (k := k) (by rw [HL.out]; omega)
      have hx8 : x.toNat < 256 := x.toNat_lt
      rw [show ((k + 1 : Nat) : Int) - 1 = (k : Int) by omega]
      by_cases hff : x.toNat = 255
      · have HG := Lib.hid (show behB l = behR k l from by rw [HC.out, behR_ff hx hff])
        go_wp2
        go_round
        case rel => exact ⟨k, by omega, by go_num, HG.out⟩
        case measure => simp [intOf]
      · have HG := Lib.hid (show behB l = some (l.take k ++ [UInt8.ofNat (x.toNat + 1)]) from by rw [HC.out, behR_hit hx hff])
        have HT := Lib.hid (show (l.take k).length = k from by rw [List.length_take, HL.out]; omega)
        have HZ := Lib.hid (show ((x.toNat : Int) + 1) = ((UInt8.ofNat (x.toNat + 1)).toNat : Int) from by rw [ofNat_toNat]; omega)
        have HW := Lib.hid (show IntKind.u8.wrap ((x.toNat : Int) + 1) = ((UInt8.ofNat (x.toNat + 1)).toNat : Int) from by rw [ofNat_toNat, IntKind.wrap_u8]; omega)
        have hlt1 := lt_of_cell hcx
        rw [block_of_add] at hlt1
        have HK := Lib.hid (show ∀ w', Below w.heap.size w w' → w'.cell? (ad.add k) = some (.int .u8 (x.toNat : Int)) from fun w' hb => (hb.cell (by rw [block_of_add]; exact hlt1)).trans hcx)
        clear hx
        go_wp2
        have hk0 : (0 : Int) ≤ (k : Int) := Int.natCast_nonneg _
        have hk1 : (k : Int) < (n : Int) := by omega
        have hk2 : (k : Int) ≤ (c : Int) := by omega
        have h17a := OB.lit w w.heap.size [] #[] (by simp [cellsB]) (Nat.le_refl _) (by simp [maxLen])
        have h17b := h17a.alloc (.cells #[.int .u8 (IntKind.u8.wrap ((x.toNat : Int) + 1))] 5)
        have h17c := OB.lit (w.alloc (.cells #[.int .u8 (IntKind.u8.wrap ((x.toNat : Int) + 1))] 5)) w.heap.size [] #[] (by simp [cellsB]) (by simp) (by simp [maxLen])
        have h27b := RB.one (w.alloc (.cells #[] 5)) _ _ HW.out
        have h27c := (RB.one w _ _ HW.out).alloc (.cells #[] 5)
        simp only [List.length_nil, heap_size_alloc] at h17a h17b h17c h27b
        have hBa : Below w.heap.size w (w.alloc (.cells #[] 5)) := (Below.refl _ w).alloc (Nat.le_refl _) _
        have hBb : Below w.heap.size w ((w.alloc (.cells #[] 5)).alloc (.cells #[.int .u8 (IntKind.u8.wrap ((x.toNat : Int) + 1))] 5)) := hBa.alloc hBa.size _
        have hBc : Below w.heap.size w ((w.alloc (.cells #[.int .u8 (IntKind.u8.wrap ((x.toNat : Int) + 1))] 5)).alloc (.cells #[] 5)) := ((Below.refl _ w).alloc (Nat.le_refl _) _).alloc (by simp) _
        go_region_held3 (fun w' => w'.cell? (ad.add k) = some (.int .u8 (x.toNat : Int)))
          (first | go_keep | exact HK.out _ hB1 | exact HK.out _ hB2)
          (first
            | (refine step_append_B (by rfl) (.tmp 17) (.tmp 20) (by rfl) w.heap.size _ [] (by rfl) (by first | exact h17a | exact h17b | exact h17c) _ k _ (l.take k) (by rfl) HT.out (by first | exact (hr.take k).alloc _ | exact ((hr.take k).alloc _).alloc _) (by simp; omega) (by simp; try omega) ?_
               intro v1 w1 hown1 hb1 hg1
               have hB1 : Below w.heap.size w w1 := (by first | exact hBa.drew.trans hb1 | exact hBb.drew.trans hb1 | exact hBc.drew.trans hb1))
            | (refine step_append_B (by rfl) (.tmp 21) (.tmp 27) (by rfl) w.heap.size v1 ([] ++ l.take k) (by rfl) (by first | exact hown1 | exact hown1.alloc _) _ 1 1 [UInt8.ofNat (x.toNat + 1)] (by rfl) rfl (by first | exact RB.one _ _ _ HW.out | exact h27b.grown (w := ((w.alloc _).alloc _).drew) hg1 (by simp [Value.ownBlock, Act.eval]) | exact h27c.grown (w := ((w.alloc _).alloc _).drew) hg1 (by simp [Value.ownBlock, Act.eval])) (by rw [List.nil_append, HT.out]; omega) (by have := hB1.size; simp; omega) ?_
               intro v2 w2 hown2 hb2 hg2
               have hB2 : Below w.heap.size w w2 := (by first | exact hB1.trans hb2 | exact (hB1.alloc hB1.size _).trans hb2 | exact (hB1.alloc hB1.size _).drew.trans hb2)))
        all_goals
          go_wp2
          go_ret2
          rw [HG.out]
          exact ⟨_, rfl, hown2, hB2⟩
    · have HG := Lib.hid (show behB l = none from by rw [HC.out, show j = 0 by omega]; rfl)
      obtain rfl : j = 0 := by omega
      go_wp2
      go_ret2
      rw [HG.out]
      exact ⟨_, rfl, OB.nil, Below.refl _ _⟩

end Go.Proofs.Ytgjahlknefobeaa
