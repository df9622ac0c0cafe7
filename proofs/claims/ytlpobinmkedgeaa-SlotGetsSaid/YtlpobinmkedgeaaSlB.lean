/- Slots: the number of a stamp, and what a sector has at its ends. -/
import Derived.Test.YtlpobinmkedgeaaSlA
import Derived.Laws.BitsAllLaws
import Derived.StillTailTactics
namespace Go.Proofs.Ytlpobinmkedgeaa
open Go.RowKit
set_option linter.unusedVariables false
set_option linter.unusedSimpArgs false
theorem or_eq (a x : Nat) (hx : x < 256) : a * 256 ||| x = a * 256 + x := by
  have := Nat.shiftLeft_add_eq_or_of_lt (i := 8) (b := x) (by omega) a
  rw [Nat.shiftLeft_eq, show (2 : Nat) ^ 8 = 256 from rfl] at this
  omega
theorem or_join (a x : Nat) (ha : a < 72057594037927936) (hx : x < 256) : bits .or .u64 ((a : Int) * 256) (x : Int) = ((a * 256 + x : Nat) : Int) := by
  have h := u64_or_nat (a * 256) x (by omega) (by omega)
  rw [← or_eq a x hx, ← h]
  congr 1
theorem infoSt_of {l : List UInt8} (h : l.length = 8) : (Try.prog.info? 54).map (·.size) = some (cellsB l).length := by
  rw [length_cellsB, h]
  kernel_rfl
theorem run_index_st (w : World) (C : Array Value) (k : Nat) (x : Int) (hC : C[k]? = some (.int .u8 x)) (hk : k < 8) : (Instr.index 54 (.agg C) (.int .i64 (k : Int))).run Try.prog w = .ok (.int .u8 x) w := by
  have hu : Try.prog.underlying 54 = some (.array (Try.prog.arrayLen 54) (Try.prog.elem 54)) := by kernel_rfl
  have hl : Try.prog.arrayLen 54 = 8 := by kernel_rfl
  have he : Try.prog.elem 54 = 5 := by kernel_rfl
  rw [hl, he] at hu
  have hs : (sizeOf 5).run Try.prog w = .ok 1 w := by simp [go_sem]
  simp [Instr.index, run_underlying hu, asIntOf, hs, part, hC, go_sem, hk]
set_option maxHeartbeats 1000000 in
set_option maxRecDepth 100000 in
theorem gen_any (l : List UInt8) (w : World) (hl : l.length = 8) :
    Calls Try.prog 27 #[stV l] w fun e w' => e = .returned (.int .i64 (genOf l : Int)) ∧ Below w.heap.size w w' := by
  have HL := Lib.hid hl
  have A1 : Hid (Arr (w.alloc (.cells (cellsB l).toArray 54)) w.heap.size 54 l) := Lib.hid (heap_alloc_last w _)
  have B1 := Lib.hid ((Below.refl _ w).alloc (Nat.le_refl _) (.cells (cellsB l).toArray 54))
  obtain ⟨C, hC⟩ : ∃ C, C = (cellsB l).toArray := ⟨_, rfl⟩
  unfold stV
  rw [← hC] at A1 B1 ⊢
  have HC := Lib.hid hC
  clear hl hC
  go_enter Try.func27, Try.ntmps27
  go_wp2_with (refine wpList_load_mid rfl 54 (.tmp 1) rfl w.heap.size 0 rfl (cellsB l) _ A1.out.range Try.underlying54 rfl (infoSt_of HL.out) ?_; rw [← HC.out])
  go_loop [3, 5, 7] (fun n _ i => ∃ k : Nat, k ≤ 8 ∧ i = .int .i64 k ∧ n = .int .u64 (be (l.take k) : Int)) (fun _ _ i => 8 - (intOf i).toNat)
  case atStart => exact ⟨0, Nat.zero_le _, rfl, rfl⟩
  case round =>
    obtain ⟨k, hk, rfl, rfl⟩ := hrel
    by_cases hlt : k < 8
    · obtain ⟨x, hx⟩ : ∃ x, l[k]? = some x := ⟨l[k]'(by rw [HL.out]; exact hlt), List.getElem?_eq_getElem _⟩
      have hCk : C[k]? = some (.int .u8 (x.toNat : Int)) := by
        rw [HC.out]
        simp [cellsB, hx, cellB]
      have hCs : C.size = 8 := by rw [HC.out]; simp [length_cellsB, HL.out]
      have hT := Lib.hid (take_snoc hx)
      have hb7 := be_le7 (l.take k) (by rw [List.length_take]; omega)
      have hx8 : x.toNat < 256 := x.toNat_lt
      have hI := run_index_st (w.alloc (.cells C 54)) C k _ hCk hlt
      clear hCk
      have KE := or_join (be (l.take k)) x.toNat hb7 hx8
      go_wp2
      go_round
      case rel => exact ⟨k + 1, by omega, by go_num, by rw [hT.out, be_snoc]; go_num⟩
      case measure => simp [intOf]; omega
    · obtain rfl : k = 8 := by omega
      have hg : genOf l = if be l ≤ 1099511627776 then be l else 0 := rfl
      rw [List.take_of_length_le (by rw [HL.out]; omega)]
      have HG := Lib.hid hg
      have hb8 := be_le8 l (by rw [HL.out]; omega)
      clear hg
      generalize be l = n at *
      by_cases hm : n ≤ 1099511627776
      · have HG := Lib.hid (HG.out.trans (if_pos hm))
        go_wp2
        go_ret
        exact ⟨by rw [HG.out]; rfl, B1.out⟩
      · have HG := Lib.hid (HG.out.trans (if_neg hm))
        go_wp2
        go_ret
        exact ⟨by rw [HG.out]; rfl, B1.out⟩
/-- An array of eight bytes, sliced whole. -/
theorem slice8 (W : World) (g : Nat) : (Instr.sliceAt 54 (.pointer (some ⟨g, 0, none⟩)) none none none).run Try.prog W = .ok (.slice (some ⟨g, 0, none⟩) 8 8) W := by
  have hu : Try.prog.underlying 54 = some (.array (Try.prog.arrayLen 54) (Try.prog.elem 54)) := by kernel_rfl
  have hl : Try.prog.arrayLen 54 = 8 := by kernel_rfl
  have he : Try.prog.elem 54 = 5 := by kernel_rfl
  rw [run_sliceAt_array_all W 54 ⟨g, 0, none⟩ hu, hl, he]
  have hs : (sizeOf 5).run Try.prog W = .ok 1 W := by simp [go_sem]
  rw [hs]
  rfl
theorem wpList_copy_arr {w : World} {ops : Array Oper} {rest : List Oper} {o : Oper} {a : Act} {Q : Exit → Act → World → Prop} (hgd : o.guard = none) (d s : Operand)
    (ho : o.op = .call { callee := .builtin .copy, args := #[d, s], argTypes := #[22, 22] })
    (dp A : Option Addr) (dn dc m sc : Nat) (hd : a.eval d = .slice dp dn dc) (hs : a.eval s = .slice A m sc) (g off : Nat) (t : TypeId) (cur news l : List UInt8) (hg : Arr w g t cur) (hn : news.length = Nat.min m dn) (hr : RB w A l) (hl : news = l.take news.length)
    (hdp : 0 < news.length → dp = some ⟨g, off, none⟩) (hfit : off + news.length ≤ cur.length)
    (h : ∀ w', Hid (Arr w' g t (splice cur off news)) → OnlyB g w w' → wpList Try.prog ops Q rest (a.put o.dst (goInt news.length)) w') : wpList Try.prog ops Q (o :: rest) a w := by
  by_cases h0 : news.length = 0
  · obtain rfl : news = [] := List.eq_nil_of_length_eq_zero h0
    refine wpList_copy_nothing hgd d s 22 22 ho 5 Try.underlying22 (by kernel_rfl) dp A dn dc m sc hd hs (by simpa using hn.symm) ?_
    exact h w (Lib.hid (by simpa [splice] using hg)) (OnlyB.refl g w)
  · obtain rfl := hdp (by omega)
    rcases hr with e | ⟨ad, rfl, hc⟩
    · rw [hl, e] at h0; simp at h0
    · refine wpList_copy_own hgd d s 22 22 ho 5 Try.underlying22 (by kernel_rfl) g off dn dc ad m sc hd hs (cellsB cur).toArray t hg (cellsB news) (by rw [length_cellsB]; exact hn) (fun j v hv => ?_) (by simpa [length_cellsB] using hfit) (oneCells_B news) ?_
      · simp only [cellsB, List.getElem?_map, Option.map_eq_some_iff] at hv
        obtain ⟨x, hx, rfl⟩ := hv
        refine hc j x ?_
        rw [hl, List.getElem?_take] at hx
        split at hx
        · exact hx
        · cases hx
      · rw [length_cellsB]
        refine h _ (Lib.hid ?_) (OnlyB.row g w _ t _ hg)
        unfold Arr
        refine (setRow_heap w g _ _ t (0, 0) hg).trans ?_
        congr 3
        simp [cellsB, splice]
theorem RB.some_of {w : World} {A : Option Addr} {l : List UInt8} (h : RB w A l) (hl : 0 < l.length) : ∃ ad, A = some ad := by
  rcases h with rfl | ⟨ad, e, _⟩
  · simp at hl
  · exact ⟨ad, e⟩
set_option maxHeartbeats 1000000 in
set_option maxRecDepth 100000 in
/-- What a sector has at its ends. -/
theorem ends_any (A : Option Addr) (c : Nat) (l : List UInt8) (w : World) (hl : l.length = 256) (hc : 256 ≤ c) (hr : RB w A l) :
    Calls Try.prog 26 #[.slice A 256 c] w fun e w' => e = .returned (.tuple #[stV (l.take 8), stV (l.drop 248)]) ∧ Below w.heap.size w w' := by
  obtain ⟨ad, rfl⟩ := hr.some_of (by omega)
  have HL := Lib.hid hl
  have B1 := Lib.hid (show Below w.heap.size w ((w.alloc (.cells z8 54)).alloc (.cells z8 54)) from ((Below.refl _ w).alloc (Nat.le_refl _) _).alloc (by simp) _)
  have A2 := arr_z8 (w.alloc (.cells z8 54)) 54
  have A1 := Lib.hid ((arr_z8 w 54).same ((Below.refl _ _).alloc (Nat.le_refl _) (.cells z8 54)))
  rw [heap_size_alloc] at A2
  have A2 := Lib.hid A2
  have R1 := Lib.hid ((hr.alloc (.cells z8 54)).alloc (.cells z8 54))
  have hc8 : ¬ c = 248 := by omega
  have HR := Lib.hid hr
  clear hl hr
  go_enter Try.func26, Try.ntmps26
  go_wp2_with (refine wpList_copy_arr rfl (.tmp 4) (.tmp 5) rfl _ _ 8 8 256 c rfl rfl w.heap.size 0 54 (List.replicate 8 0) (l.take 8) l A1.out (by rw [List.length_take, HL.out]; rfl) R1.out (by rw [List.length_take, HL.out]; rfl) (fun _ => rfl) (by rw [List.length_take, HL.out, List.length_replicate]; omega) ?_; intro w1 hw1 ho1)
  have E1 : splice (List.replicate 8 (0 : UInt8)) 0 (l.take 8) = l.take 8 := by simp [splice, HL.out]
  have hw1 := hw1.out
  rw [E1] at hw1
  have W1 := Lib.hid hw1
  have W2 := Lib.hid (A2.out.only ho1 (by omega))
  have B2 := Lib.hid (B1.out.trans (ho1.below (Nat.le_refl _)))
  have R2 := (HR.out.below B2.out).drop 248
  have E2 : splice (List.replicate 8 (0 : UInt8)) 0 (l.drop 248) = l.drop 248 := by simp [splice, HL.out]
  have e248 : ad.add 248 = ⟨ad.block, ad.off + 248, none⟩ := by unfold Addr.add; rw [if_neg (by omega)]
  rw [e248] at R2
  have R2 := Lib.hid R2
  clear hw1 ho1 A2 A1 R1 e248
  go_still_tail 3, (by kernel_rfl)
  refine wpList_copy_arr rfl (.tmp 7) (.tmp 9) rfl _ _ 8 8 8 _ rfl rfl (w.heap.size + 1) 0 54 (List.replicate 8 0) (l.drop 248) (l.drop 248) (show Arr w1.drew _ _ _ from W2.out) (by rw [List.length_drop, HL.out]; rfl) (show RB w1.drew _ _ from R2.out) (by rw [List.length_drop, HL.out, List.take_of_length_le (by rw [List.length_drop, HL.out]; omega)]) (fun _ => rfl) (by rw [List.length_drop, HL.out, List.length_replicate]; omega) ?_
  intro w2 hw2 ho2
  have hw2 := hw2.out
  rw [E2] at hw2
  have hp2 : Arr w2 w.heap.size 54 (l.take 8) := (show Arr w1.drew _ _ _ from W1.out).only ho2 (by omega)
  have B3 := Lib.hid ((show Below w.heap.size w w1.drew from B2.out.drew).trans (ho2.below (Nat.le_succ _)))
  have ha : (l.take 8).length = 8 := by rw [List.length_take, HL.out]; rfl
  have hb : (l.drop 248).length = 8 := by rw [List.length_drop, HL.out]
  have fp : ∀ j, w2.frozen? ⟨w.heap.size, j, none⟩ = false := fun j => hp2.frozen j
  have fq : ∀ j, w2.frozen? ⟨w.heap.size + 1, j, none⟩ = false := fun j => hw2.frozen j
  clear ho2 W1 W2 B1 B2 E1 E2 R2 hw1 HR HL hc hc8 A2
  obtain ⟨a0, a1, a2, a3, a4, a5, a6, a7, hP, p0, p1, p2, p3, p4, p5, p6, p7⟩ := results_arr8 hp2 ha
  obtain ⟨b0, b1, b2, b3, b4, b5, b6, b7, hR, q0, q1, q2, q3, q4, q5, q6, q7⟩ := results_arr8 hw2 hb
  have HP := Lib.hid hP
  have HR := Lib.hid hR
  have x0 := fp 0; have x1 := fp 1; have x2 := fp 2; have x3 := fp 3; have x4 := fp 4; have x5 := fp 5; have x6 := fp 6; have x7 := fp 7
  have y0 := fq 0; have y1 := fq 1; have y2 := fq 2; have y3 := fq 3; have y4 := fq 4; have y5 := fq 5; have y6 := fq 6; have y7 := fq 7
  clear hP hR hp2 hw2 ha hb fp fq
  go_wp2
  refine bodyPost_ret (v := .tuple #[.agg #[.int .u8 (a0.toNat : Int), .int .u8 (a1.toNat : Int), .int .u8 (a2.toNat : Int), .int .u8 (a3.toNat : Int), .int .u8 (a4.toNat : Int), .int .u8 (a5.toNat : Int), .int .u8 (a6.toNat : Int), .int .u8 (a7.toNat : Int)], .agg #[.int .u8 (b0.toNat : Int), .int .u8 (b1.toNat : Int), .int .u8 (b2.toNat : Int), .int .u8 (b3.toNat : Int), .int .u8 (b4.toNat : Int), .int .u8 (b5.toNat : Int), .int .u8 (b6.toNat : Int), .int .u8 (b7.toNat : Int)]]) (by simp [results, Try.results26, go_sem, p0, p1, p2, p3, p4, p5, p6, p7, q0, q1, q2, q3, q4, q5, q6, q7]) rfl ⟨?_, ?_⟩
  · rw [HP.out, HR.out]; rfl
  · exact ((((((((((((((((B3.out.setCell (Nat.le_refl _) _).setCell (Nat.le_refl _) _).setCell (Nat.le_refl _) _).setCell (Nat.le_refl _) _).setCell (Nat.le_refl _) _).setCell (Nat.le_refl _) _).setCell (Nat.le_refl _) _).setCell (Nat.le_refl _) _).setCell (Nat.le_succ _) _).setCell (Nat.le_succ _) _).setCell (Nat.le_succ _) _).setCell (Nat.le_succ _) _).setCell (Nat.le_succ _) _).setCell (Nat.le_succ _) _).setCell (Nat.le_succ _) _).setCell (Nat.le_succ _) _)
end Go.Proofs.Ytlpobinmkedgeaa
