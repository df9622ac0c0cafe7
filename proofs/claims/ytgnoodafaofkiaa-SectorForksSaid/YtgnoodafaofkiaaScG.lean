/- The package sector: the change of Sync. -/
import Derived.Test.YtgnoodafaofkiaaScF
import Derived.Deep.LoopGhost
import Derived.Deep.DeepMust
namespace Go.Proofs.Ytgnoodafaofkiaa
open Go.RowKit
set_option linter.unusedVariables false
/-- What a sector has. -/
def Dk.at_ (s : Dk) (i : Nat) : List UInt8 := (s.wt i).getD (s.rows.getD i [])
/-- The rows, of which those are old still for which p says so. -/
def Dk.mix (s : Dk) (p : Nat → Bool) : List (List UInt8) := (List.range s.rows.length).map fun i => if p i then s.rows.getD i [] else s.at_ i
def Dk.synced (s : Dk) : Dk := { s with rows := (List.range s.rows.length).map s.at_, wt := fun _ => none }
theorem Dk.mix_length (s : Dk) (p : Nat → Bool) : (s.mix p).length = s.rows.length := by simp [Dk.mix]
theorem Dk.mix_start (s : Dk) (p : Nat → Bool) (h : ∀ i, p i = (s.wt i).isSome) : s.mix p = s.rows := by
  unfold Dk.mix
  apply List.ext_getElem
  · simp
  · intro i h1 h2
    simp only [List.getElem_map, List.getElem_range, h, Dk.at_]
    cases s.wt i <;> simp [List.getElem?_eq_getElem h2]
theorem Dk.mix_end (s : Dk) (p : Nat → Bool) (h : ∀ i, p i = false) : s.mix p = (List.range s.rows.length).map s.at_ := by
  unfold Dk.mix
  simp [h]
theorem Dk.mix_step (s : Dk) (p q : Nat → Bool) (x : Nat) (l : List UInt8) (hx : s.wt x = some l) (hq : ∀ i, q i = (p i && !(i == x))) : (s.mix p).set x l = s.mix q := by
  unfold Dk.mix
  apply List.ext_getElem
  · simp
  · intro i h1 h2
    rw [List.getElem_set]
    by_cases e : x = i
    · subst e
      simp [hq, Dk.at_, hx]
    · rw [if_neg e]
      have : ¬ i = x := fun e' => e e'.symm
      simp [hq, this]
theorem wpList_store_new {P : Program} {ops : Array Oper} {rest : List Oper} {o : Oper} {a : Act} {w : World} {Q : Exit → Act → World → Prop} (hgd : o.guard = none) (t : TypeId) (x y : Operand) (ho : o.op = .store t x y) (c c' : Array Value)
    (hx : a.eval x = .pointer (some ⟨w.heap.size, 0, none⟩)) (hy : a.eval y = .agg c') (hi : (P.info? t).map (·.size) = some c'.size) (hs : c.size = c'.size) (h1 : c'.all (·.oneCell') = true)
    (h : wpList P ops Q rest (a.put o.dst undef) (w.alloc (.cells c' t))) : wpList P ops Q (o :: rest) a (w.alloc (.cells c t)) :=
  wpList_plain hgd fun K hK => by
    unfold Oper.wp execOp
    simp only [ho, hx, hy, Sem.run_bind, Result.andThen_ok, run_storeAt_new w t c c' hi hs h1]
    exact hK _ _ h
theorem wpList_clear {ops : Array Oper} {rest : List Oper} {o : Oper} {a : Act} {w : World} {Q : Exit → Act → World → Prop} (hgd : o.guard = none) (x : Operand) (ho : o.op = .call { callee := .builtin .clear, args := #[x], argTypes := #[76] })
    (m : Nat) (f : Nat → Option (List UInt8)) (hx : a.eval x = .map (some m)) (hm : MapIs w m f)
    (h : ∀ w', MapIs w' m (fun _ => none) → w.grownBy w' (some m) → wpList Try.prog ops Q rest (a.put o.dst (.tuple #[])) w') : wpList Try.prog ops Q (o :: rest) a w :=
  wpList_plain hgd fun K hK => by
    obtain ⟨w', hrun, h1, h2⟩ := hm.cleared o.type
    unfold Oper.wp execOp
    simp only [ho, resolve, invoke, builtin, Sem.run_bind, Sem.run_pure, Result.andThen_ok, List.map_toArray, List.map_cons, List.map_nil, hx, hrun]
    exact hK _ _ (h w' h1 h2)
theorem secCells_all (l : List UInt8) : ((cellsB l).toArray).all (·.oneCell') = true := all_oneCell_toArray (oneCells_B l)
theorem DkAt.cleared {base : Nat} {F : Ft} {w w' : World} {s : Dk} (h : DkAt base F w s) (hm : MapIs w' F.m (fun _ => none)) (hf : Frm (fun k => k = F.m) w w') : DkAt base F w' { s with wt := fun _ => none } := by
  refine ⟨⟨h.ok.many, h.ok.each, fun k r hr => (by cases hr), fun k r hr => (by cases hr), h.ok.left⟩, h.bb, h.bm, (hf.block _ h.blt (fun e => h.bm_ne e.symm)).trans h.cells, ownsRow_of_block h.row fun g e => hf.block g ?_ (h.mg_ne e), hm⟩
  exact h.inside g (.inr (.inr ⟨_, e, rfl⟩))
theorem zeroSec_size {l : List UInt8} (h : l.length = 256) : Try.zeroCells91.size = (cellsB l).toArray.size := by
  have h1 : Try.zeroCells91.size = 256 := by rw [← Array.length_toList]; exact zeroSec_len
  have h2 : (cellsB l).toArray.size = 256 := by simp [length_cellsB, h]
  rw [h1, h2]
theorem infoSec_of {l : List UInt8} (h : l.length = 256) : (Try.prog.info? 91).map (·.size) = some (cellsB l).toArray.size := by
  have h2 : (cellsB l).toArray.size = 256 := by simp [length_cellsB, h]
  rw [h2]
  exact infoSec
theorem infoSec_list {l : List UInt8} (h : l.length = 256) : (Try.prog.info? 91).map (·.size) = some (cellsB l).length := by
  rw [length_cellsB, h]
  exact infoSec
theorem ranges_drew {P : Program} {t : TypeId} {R : Value → Option (DataW Unit × List MemPlace)} {w : World} {b r n : Nat} {D : DataW Unit} {left : Lit → Bool} {cnt : Nat} (h : w.ranges P t R b r n D left cnt) : w.drew.ranges P t R b r n D left cnt := h
/-- Between two rounds of Sync's loop. -/
def SyncRel (base : Nat) (F : Ft) (s : Dk) (w : World) (nn : Nat) (D : DataW Unit) (wr : World) : Prop :=
  ∃ left cnt, wr.ranges (H := Unit) Try.prog 3 secR F.m w.heap.size nn D left cnt ∧ DkAt base F wr { s with rows := s.mix fun i => left (.int .i64 (i : Int)) } ∧ Frm F.has w wr
theorem sec_key {f : Nat → Option (List UInt8)} {w : World} {m N n : Nat} {D : DataW Unit} (h : MapOpen w m f N n D) {x : Int} {c : List UInt8} {y : DataW Unit × List MemPlace} (hc : secR (secV c) = some y) (hat : ∀ zd, D.atKey (.int .i64 x) zd = y.1) : ∃ k : Nat, x = (k : Int) ∧ f k = some c := by
  have hh := Maps.has_true_of_atKey hat
  by_cases h0 : x < 0
  · rw [h.neg x h0] at hh; cases hh
  · obtain ⟨k, rfl⟩ := Int.eq_ofNat_of_zero_le (show 0 ≤ x by omega)
    refine ⟨k, rfl, ?_⟩
    rw [h.has k] at hh
    obtain ⟨l, hl⟩ := Option.isSome_iff_exists.1 hh
    have e1 := h.at_ k l hl (.lit (.string []))
    rw [hat] at e1
    obtain ⟨l', h1, h2, rfl⟩ := secR_inv hc
    have e2 : c = l' := by
      unfold secV at h2
      injection h2 with h2
      exact cellsB_inj (by simpa using h2)
    subst e2
    injection e1 with e1
    injection e1 with e1
    rw [hl, e1]
set_option maxHeartbeats 2000000 in
set_option maxRecDepth 100000 in
theorem sync1_any {base : Nat} {F : Ft} {w : World} {s : Dk} (h : DkAt base F w s) (B0 : Nat) (b0 : w.cell? ⟨B0, 0, none⟩ = some (.pointer (some ⟨F.b, 0, none⟩))) (hB0 : ¬ F.has B0) :
    Calls Try.prog 50 #[.pointer (some ⟨B0, 0, none⟩)] w fun e w' => e = .returned (.tuple #[]) ∧ DkAt base F w' s.synced ∧ Frm F.has w w' := by
  have c1 := h.c1
  obtain ⟨nn, D, hM⟩ := h.map.open_ h.ok.wlt
  have hown := hM.owns
  have g0 := World.block_lt_of_cell? w _ b0
  have g0' : B0 < w.heap.size := g0
  have H := Lib.hid h
  have HM := Lib.hid hM
  clear h hM g0
  go_enter Try.func50, Try.ntmps50
  go_wp2_with (at_range; refine wpList_range_own _ rfl (.tmp 6) 76 rfl 3 91 (Maps.int_keyed Try.underlying3) Try.underlying76 secR F.m nn D rfl hown ?_; intro w0 hrg0 hg0 hs0)
  have HS0 := Lib.hid hs0
  clear hs0 c1
  go_frame
  go_loopw [1] (fun _ wr => SyncRel base F s w nn D wr) (fun _ wr => wr.rangeLeft F.m w.heap.size)
  case atStart =>
    refine ⟨_, _, hrg0, ?_, Frm.grown hg0 (fun k e => by cases e)⟩
    have e : s.mix (fun i => Maps.has D (.int .i64 (i : Int))) = s.rows := s.mix_start _ fun i => HM.out.has i
    rw [e]
    exact H.out.kept fun k hk => hg0.block k (H.out.inside k hk) (by simp)
  case round =>
    obtain ⟨left, cnt, hrg, hd, hf⟩ := hrel
    have d1 := hd.c1
    have d0 := hd.c0
    have e0 : wr.cell? ⟨B0, 0, none⟩ = some (.pointer (some ⟨F.b, 0, none⟩)) := (hf.cell (p := ⟨B0, 0, none⟩) g0' hB0).trans b0
    have HD := Lib.hid hd
    have HRG := Lib.hid hrg
    have HF := Lib.hid hf
    clear hd hrg hf
    go_wp2_with (at_next; refine wpList_next_ranges _ rfl (.tmp 7) rfl 3 (Maps.int_keyed Try.underlying3) secR (Value.int .i64) secV (fun key kl hk => by obtain ⟨x, hx, _⟩ := Maps.keyOf_i64 Try.underlying3 hk; exact ⟨x, hx⟩) (fun v y hv => by obtain ⟨l, _, hl, _⟩ := secR_inv hv; exact ⟨l, hl⟩) F.m w.heap.size nn D left cnt rfl HRG.out ?_ ?_)
    · intro hc0 hl0
      have HL0 := Lib.hid hl0
      clear hl0 hc0
      go_wp2_with (with_reducible refine wpList_clear rfl (.tmp 23) rfl F.m s.wt rfl HD.out.map ?_; intro w2 hm2 hg2)
      have f2 : Frm (fun k => k = F.m) wr w2 := Frm.grown hg2 (fun k e => by injection e with e; exact e.symm)
      go_end0
      refine ⟨rfl, ?_, HF.out.trans (f2.mono fun i hi => .inr (.inl hi))⟩
      have := HD.out.cleared hm2 f2
      rw [s.mix_end _ (fun i => HL0.out _)] at this
      exact this
    · intro x c kl yd yp w1 cnt1 hkey hlk hv hat hrg1 hlt hg1 hs1 hen
      obtain ⟨x', ex, rfl, _⟩ := Maps.keyOf_i64 Try.underlying3 hkey
      obtain rfl : x = x' := encZ_inj ex
      obtain ⟨k, rfl, hwk⟩ := sec_key HM.out hv hat
      have hk := H.out.ok.wlt k c hwk
      have hcl := H.out.ok.wlen k c hwk
      have hk' : k < (s.mix fun i => left (.int .i64 (i : Int))).length := by rw [s.mix_length]; exact hk
      have HC := Lib.hid hcl
      have HW := Lib.hid hwk
      have HRG1 := Lib.hid hrg1
      have HLT := Lib.hid hlt
      have hne : ∀ i, F.has i → some i ≠ some w.heap.size := fun i hi e => by injection e with e; have := H.out.inside i hi; omega
      have h1 : DkAt base F w1 { s with rows := s.mix fun i => left (.int .i64 (i : Int)) } := HD.out.kept fun i hi => hg1.block i (HD.out.inside i hi) (hne i hi)
      have f1 : Frm F.has w w1 := HF.out.step (Frm.grown (X := fun i => i = w.heap.size) hg1 (fun k e => by injection e with e; exact e.symm)) (fun i hi hlt => by omega)
      have H1 := Lib.hid h1
      have F1 := Lib.hid f1
      clear hcl hwk hrg1 hlt hkey hlk hv hat ex h1 f1 hs1 hne
      go_wp2_with (refine wpList_store_new rfl 91 (.tmp 2) (.tmp 12) rfl Try.zeroCells91 (cellsB c).toArray rfl rfl (infoSec_of HC.out) (zeroSec_size HC.out) (secCells_all c) ?_)
      have hz2 := heap_size_alloc w1 (.cells (cellsB c).toArray 91)
      have kn := Lib.hid (heap_alloc_last w1 (.cells (cellsB c).toArray 91))
      have h2 := H1.out.alloc (.cells (cellsB c).toArray 91)
      have f2 := Lib.hid (F1.out.trans (Frm.alloc F.has w1 (.cells (cellsB c).toArray 91)))
      have rg2 := Lib.hid (HRG1.out.alloc (.cells (cellsB c).toArray 91))
      generalize w1.alloc (.cells (cellsB c).toArray 91) = w2 at *
      have m0 : w2.cell? ⟨B0, 0, none⟩ = some (.pointer (some ⟨F.b, 0, none⟩)) := (f2.out.cell (p := ⟨B0, 0, none⟩) g0' hB0).trans b0
      have m1 := h2.c0
      obtain ⟨g, hA, hth, hra, h3, hg3⟩ := h2.drew.setRow hk' HC.out
      have h1g : g < w.heap.size := H.out.inside g (.inr (.inr ⟨_, hA, rfl⟩))
      have H2 := Lib.hid h2
      have H3 := Lib.hid h3
      have HT := Lib.hid hth
      have HG := Lib.hid hg3
      rw [hA] at m1
      have Am := Lib.hid hA
      have kk : (k : Int) < ((s.mix fun i => left (.int .i64 (i : Int))).length : Int) := by omega
      have k0 : 0 ≤ (k : Int) := by omega
      have kl := Lib.hid (show (s.mix fun i => left (.int .i64 (i : Int))).length = s.rows.length from s.mix_length _)
      generalize w1.heap.size = q at *
      generalize hNN : (s.mix fun i => left (.int .i64 (i : Int))).length = NN at m1 kk
      clear hA h2 h3 hth hra hg3 hz2 hen d0 d1 e0 hNN
      refine wp_region_still_tail 7 (by kernel_rfl) (by kernel_rfl) ?_
      simp only [List.take_succ_cons, List.take_zero, List.drop_succ_cons, List.drop_zero]
      iterate 5 still_step
      refine wpStill_load_mid rfl 91 (.tmp 2) rfl q 0 rfl (cellsB c) _ (range_of_heap kn.out) Try.underlying91 rfl (infoSec_list HC.out) ?_
      still_step
      refine wpStill_nil ?_
      refine wpList_store_mid rfl 91 (.tmp 19) (.tmp 18) rfl g (k * 256) (cellsB c).toArray rfl rfl (by rw [List.size_toArray, length_cellsB, HC.out]; exact HT.out) (infoSec_of HC.out) (secCells_all c) ?_
      have e3 : (cellsB c).toArray.toList = cellsB c := rfl
      rw [e3]
      clear e3 m0 m1 kk k0
      generalize hw3 : World.setCells { w2 with drawn := w2.drawn + 1 } g (k * 256) (cellsB c) = w3
      have hw3' : w2.drew.setCells g (k * 256) (cellsB c) = w3 := hw3
      have HW3 := Lib.hid hw3'
      clear hw3 hw3'
      go_wp2
      have f3 : w2.drew.grownBy w3 (some g) := by rw [← HW3.out]; exact HG.out
      have hm : g ≠ F.m := H.out.mg_ne Am.out
      have rg3 := (ranges_drew rg2.out).kept f3 (fun e => hm (by injection e with e; exact e.symm)) (fun e => by injection e with e; omega)
      go_roundw
      case rel =>
        refine ⟨_, _, rg3, ?_, ((f2.out.trans (Frm.drew _ _)).trans (Frm.grown f3 fun i e => by injection e with e; exact .inr (.inr ⟨_, Am.out, e⟩)))⟩
        have e4 := s.mix_step (fun i => left (.int .i64 (i : Int))) (fun i => left (.int .i64 (i : Int)) && !(Lit.int .i64 (i : Int)).sameKey (.int .i64 (k : Int))) k c HW.out (fun i => by
          have : (Lit.int .i64 (i : Int)).sameKey (.int .i64 (k : Int)) = (i == k) := by
            by_cases e : i = k
            · subst e; simp [Lit.sameKey]
            · have h1 : (i == k) = false := by simp [e]
              rw [h1]
              simp [Lit.sameKey]
              omega
          rw [this])
        have h3 := H3.out
        rw [HW3.out] at h3
        rw [← e4]
        exact h3
      case measure => rw [rg3.left_eq, HRG.out.left_eq]; exact HLT.out
end Go.Proofs.Ytgnoodafaofkiaa
