/- The package bitmap: Put. -/
import Derived.Test.YtmmehomobmoapaaDoorQV
namespace Go.Proofs.YtmmehomobmoapaaDoor
open Go.RowKit Go.Shelf
set_option linter.unusedVariables false
set_option linter.unusedSimpArgs false
attribute [local go_sem] Oper.semAt_some
def layR (l : List (Fin 4097)) : List UInt8 := l.flatMap fun n => putSmall n.val
theorem layR_snoc (l : List (Fin 4097)) (x : Fin 4097) : layR (l ++ [x]) = layR l ++ putSmall x.val := by simp [layR]
theorem putSmall_len (n : Nat) (h : n < 18446744073709551616) : (putSmall n).length ≤ 9 := by
  have := wid_le8 n h
  simp [putSmall, hi_len]
  omega
theorem layR_len : ∀ l : List (Fin 4097), (layR l).length ≤ 9 * l.length
  | [] => Nat.le_refl _
  | x :: l => by
    have h1 := layR_len l
    have h2 := putSmall_len x.val (by omega)
    show (putSmall x.val ++ layR l).length ≤ _
    rw [List.length_append, List.length_cons]
    omega
def putB (s : Int) (L : List UInt64) : List UInt8 := if okB s L = true then putSmall s.toNat ++ layR (runs s.toNat L) else []
set_option maxHeartbeats 1000000 in
theorem runs_in (n : Nat) (s : Int) (A : Option Addr) (N c : Nat) (w : World) : CallsIn Fence.wide n Tryd.prog 52 #[.agg #[.int .i64 s, .slice A N c]] w fun e w' => e = .returned (.func (.func 63) #[] #[.pointer (some ⟨w.heap.size, 0, none⟩)]) ∧ w' = w.alloc (.cells #[.int .i64 s, .slice A N c] 27) := by
  refine callsIn_of_wp Tryd.func52 rfl trivial ?_ rfl
  simp only [Tryd.ntmps52, List.size_toArray, List.length_cons, List.length_nil, Nat.reduceAdd, Nat.reduceSub, Array.replicate_succ, Array.replicate_zero, List.push_toArray, List.append_toArray, List.nil_append, List.cons_append]
  gi_wp2
  go_ret
  exact ⟨rfl, rfl⟩
/-- What the loop's body keeps: all that lay below b, and the map's box. -/
def KpR (b q : Nat) (V V' : World) : Prop := Below b V V' ∧ V'.heap[q]? = V.heap[q]?
theorem KpR.trans {b q : Nat} {X Y Z : World} (h1 : KpR b q X Y) (h2 : KpR b q Y Z) : KpR b q X Z := ⟨h1.1.trans h2.1, h2.2.trans h1.2⟩
theorem KpR.refl (b q : Nat) (W : World) : KpR b q W W := ⟨Below.refl _ _, rfl⟩
theorem runs_stops (n : Nat) (hn : 1 ≤ n) (b Bn s : Nat) (A : Option Addr) (c : Nat) (L : List UInt64) (hs : s ≤ 4096) (hl : L.length = (s + 63) / 64) (hcl : ∀ n, n < 64 * L.length → s ≤ n → bitL L n = false) (w : World) (hb : b ≤ Bn) (hBn : w.heap[Bn]? = some (.cells #[.int .i64 (s : Int), .slice A L.length c] 27 (0, 0))) (hr : ∀ V, Below b w V → RQ V A L) (hT : ∀ V, Below b w V → TabAt 0 Lib.deBruijn64tab V) :
    SeqStopsK Fence.wide n Tryd.prog 63 #[.pointer (some ⟨Bn, 0, none⟩)] (fun x : Fin 4097 => #[Value.int .i64 (x.val : Int)]) (KpR b Bn) (fun ys => ys = runs s L) (fun pre => pre <+: runs s L) (runs s L).length w := fun l J Jx W hW hJ _ hY h0 => by
  have hlt : Bn < w.heap.size := (Array.getElem?_eq_some_iff.1 hBn).1
  have hBW : W.heap[Bn]? = some (.cells #[.int .i64 (s : Int), .slice A L.length c] 27 (0, 0)) := (hW.block Bn hlt).trans hBn
  have hWs := hW.size
  have hbw : Below b w W := hW.mono (by omega)
  refine runs1_in n hn l Bn s A c L hs hl hcl J Jx (KpR b Bn) hY W KpR.trans (fun V V' hk hV => ⟨hV.mono (by have := hk.1.size; omega), hV.block Bn (by have := hk.1.size; omega)⟩) (KpR.refl _ _ _) (fun V hk => ?_) (fun V hk => hr V (hbw.trans hk.1)) (fun V hk => hT V (hbw.trans hk.1)) hJ h0
  have h := hk.2.trans hBW
  exact ⟨(cell_of_row V _ 0 _ _ _ h).trans rfl, (cell_of_row V _ 1 _ _ _ h).trans rfl⟩
theorem stepIn_append_B {F : Fence} {n : Nat} {w : World} {ops : Array Oper} {o : Oper} {a : Act} {K : Act → World → Prop} {Q : Exit → Act → World → Prop} {E : Prop} (hgd : o.guard = none) (s x : Operand)
    (ho : o.op = .call { callee := .builtin .append, args := #[s, x], argTypes := #[52, 52] })
    (base : Nat) (v : Value) (l : List UInt8) (hs : a.eval s = v) (hown : OB base w v l) (A : Option Addr) (m c : Nat) (news : List UInt8) (hx : a.eval x = .slice A m c) (hm : news.length = m) (hr : RB w A news)
    (hbound : l.length + m ≤ 70368744177664) (hbase : base ≤ w.heap.size)
    (h : ∀ v' w', OB base w' v' (l ++ news) → Below base w w' → w.grownBy w' v.ownBlock → K (a.put o.dst v') w') :
    if Region.wanted o (yielded ops a.tmps) = true then Oper.wpIn F n Tryd.prog o a w K Q else E := by
  have hw : Region.wanted o (yielded ops a.tmps) = true := by simp [Region.wanted, hgd]
  rw [if_pos hw]
  obtain ⟨v', w', hrun, h2, h3, h4⟩ := run_append_B o.type hown c hm hr hbound hbase
  unfold Oper.wpIn
  refine ⟨?_, ?_⟩
  · simp [Oper.about, ho, resolve, Target.leads, Sem.run_pure]
  · rw [Oper.semAt_plain F _ _ (by rw [ho]; intro c hc'; cases hc')]
    simp [execOp, ho, resolve, invoke, builtin, hs, hx, hrun, Result.andThen]
    exact h v' w' h2 h3 h4
theorem heap_putObj_ne {W : World} {l q : Nat} {o : Obj} (h : l ≠ q) : (W.putObj l o).heap[q]? = W.heap[q]? := by
  show (W.heap.setIfInBounds l o)[q]? = _
  rw [Array.getElem?_setIfInBounds_ne h]
theorem OB.shape {base : Nat} {w : World} {v : Value} {l : List UInt8} (h : OB base w v l) : ∃ A n c, v = .slice A n c := by
  obtain ⟨A, c, e, _⟩ := h.form
  exact ⟨A, _, c, e⟩
theorem boxB_appended {W w1 : World} {n₀ B : Nat} {v v' : Value} {l l' : List UInt8} (hv : Boxed W B 52 v) (hrow : OB n₀ W v l) (hn₀ : n₀ ≤ W.heap.size) (hB : n₀ ≤ B) (hown' : OB n₀ w1 v' l') (hgrow : W.grownBy w1 v.ownBlock) :
    Boxed w1 B 52 v ∧ Boxed (w1.setCell ⟨B, 0, none⟩ v') B 52 v' ∧ OB n₀ (w1.setCell ⟨B, 0, none⟩ v') v' l' ∧ KeepsOthers W (w1.setCell ⟨B, 0, none⟩ v') ∧ Below n₀ W (w1.setCell ⟨B, 0, none⟩ v') := by
  unfold OB at *
  have hv1 : Boxed w1 B 52 v := hv.kept hgrow (hv.not_row (by decide) hrow)
  refine ⟨hv1, hv1.set v', hown'.kept (grownBy_setCell' w1 B v') (.inr (hv1.not_row (by decide) hown').symm), ?_, ?_⟩
  · refine (KeepsOthers.of_grownBy hgrow fun j o ej hj => ?_).trans (KeepsOthers.setCell _ _ _)
    rcases hrow.2 with ⟨rfl, _⟩ | ⟨g, cap, cur, rfl, _, hgb, _⟩
    · simp [Value.ownBlock] at ej
    · obtain rfl : g = j := by simpa [Value.ownBlock] using ej
      rw [hgb] at hj; cases hj; rfl
  · refine ((Below.refl n₀ W).grown hgrow hn₀ fun j ej => ?_).setCell (p := ⟨B, 0, none⟩) hB v'
    rcases hrow.2 with ⟨rfl, _⟩ | ⟨g, cap, cur, rfl, hb, _, _⟩
    · simp [Value.ownBlock] at ej
    · obtain rfl : g = j := by simpa [Value.ownBlock] using ej
      exact hb
theorem putFin {B b g : Nat} {w W w5 w6 : World} {v v6 : Value} {l l6 : List UInt8} {X : Array Value} (hbw : b ≤ W.heap.size) (hB : Below b w W) (hM : W.heap[g + 1]? = some (.cells X 27 (0, 0))) (b5 : Below W.heap.size W w5) (R5 : OB b w5 v l) (g6 : w5.grownBy w6 v.ownBlock)
    (p2 : Boxed (w6.setCell ⟨g, 0, none⟩ v6) g 52 v6) (p3 : OB b (w6.setCell ⟨g, 0, none⟩ v6) v6 l6) (p4 : KeepsOthers w5 (w6.setCell ⟨g, 0, none⟩ v6)) (p5 : Below b w5 (w6.setCell ⟨g, 0, none⟩ v6)) :
    KeepsFrom B W (w6.setCell ⟨g, 0, none⟩ v6) ∧ KpR b (g + 1) W (w6.setCell ⟨g, 0, none⟩ v6) ∧ ((∃ v, Boxed (w6.setCell ⟨g, 0, none⟩ v6) g 52 v ∧ (w6.setCell ⟨g, 0, none⟩ v6).ownsRow b 5 1 v l6.length (cellsB l6) ∧ True) ∧ Below b w (w6.setCell ⟨g, 0, none⟩ v6)) ∧ (w6.setCell ⟨g, 0, none⟩ v6).heap[g + 1]? = some (.cells X 27 (0, 0)) := by
  have hlt : g + 1 < W.heap.size := (Array.getElem?_eq_some_iff.1 hM).1
  have h5 : w5.heap[g + 1]? = some (.cells X 27 (0, 0)) := (b5.block _ hlt).trans hM
  have hne : some (g + 1) ≠ v.ownBlock := by
    unfold OB at R5
    rcases R5.2 with ⟨rfl, _⟩ | ⟨q, cap, cur, rfl, _, hq, _⟩
    · simp [Value.ownBlock]
    · intro e
      obtain rfl : g + 1 = q := by simpa [Value.ownBlock] using e
      rw [hq] at h5
      simp at h5
  have h6 : w6.heap[g + 1]? = some (.cells X 27 (0, 0)) := (g6.block (g + 1) (by have := b5.size; omega) hne).trans h5
  have h7 : (w6.setCell ⟨g, 0, none⟩ v6).heap[g + 1]? = some (.cells X 27 (0, 0)) := by rw [heap_setCell_ne (by simp)]; exact h6
  have hb : Below b W (w6.setCell ⟨g, 0, none⟩ v6) := (b5.mono hbw).trans p5
  exact ⟨((KeepsOthers.of_grownBy (grown_below b5) (fun j o e => by cases e)).trans p4).from _, ⟨hb, h7.trans hM.symm⟩, ⟨⟨v6, p2, p3, trivial⟩, hB.trans hb⟩, h7⟩
set_option maxHeartbeats 2000000 in
set_option maxRecDepth 100000 in
theorem put_any (s : Int) (A : Option Addr) (c : Nat) (L : List UInt64) (w : World) (hr : RQ w A L) (hT : TabAt 0 Lib.deBruijn64tab w) : Calls Tryd.prog 31 #[.agg #[.int .i64 s, .slice A L.length c]] w fun e w' => ∃ v, e = .returned (.tuple #[v, .int .i64 (chk s L : Int)]) ∧ OB w.heap.size w' v (putB s L) ∧ Below w.heap.size w w' := by
  have HR := Lib.hid (fun W (hb : Below w.heap.size w W) => hr.below hb)
  have HT := Lib.hid (fun W (hb : Below w.heap.size w W) => TabAt.below hT hb (TabAt.pos hT))
  have KC := fun W (hb : Below w.heap.size w W) => check_any s A c L W (HR.out W hb)
  have BX := Lib.hid (fun W h => bx2 w (.int .i64 s) (.slice A L.length c) 27 (W := W) h)
  have B0 := Lib.hid ((Below.refl _ w).alloc (Nat.le_refl _) (.cells #[.int .i64 s, .slice A L.length c] 27))
  have HZ := Lib.hid (heap_size_alloc w (.cells #[.int .i64 s, .slice A L.length c] 27))
  obtain ⟨x0, x1⟩ := BX.out _ (Below.refl _ _)
  obtain ⟨N, hN⟩ : ∃ N, N = L.length := ⟨_, rfl⟩
  have HN := Lib.hid hN
  rw [← hN] at x0 x1 B0 BX KC HZ ⊢
  clear hr hT hN
  refine (callsIn_wide (n := 9)).1 ?_
  refine callsIn_of_wp_marks Tryd.func31 rfl trivial ?_ rfl
  simp only [Tryd.ntmps31, List.size_toArray, List.length_cons, List.length_nil, Nat.reduceAdd, Nat.reduceSub, Array.replicate_succ, Array.replicate_zero, List.push_toArray, List.append_toArray, List.nil_append, List.cons_append]
  rcases chk_cases s L with ⟨h0, h1⟩ | ⟨h0, h1⟩
  · rw [h1] at KC ⊢
    have KC := Lib.hid KC
    have HP : Hid (putB s L = putSmall s.toNat ++ layR (runs s.toNat L)) := Lib.hid (by unfold putB; rw [if_pos h0])
    obtain ⟨m, rfl, hm, hl, hcl⟩ := okB_nat h0
    have HCL := Lib.hid hcl
    have HLL := Lib.hid hl
    have hcv : IntKind.u64.wrap (m : Int) = (m : Int) := by rw [IntKind.wrap_u64]; omega
    have KP := Lib.hid (fun W => putSmall_any m W (by omega))
    rw [Int.toNat_natCast] at HP
    clear h0 h1 hcl hl
    generalize putB (m : Int) L = R at *
    gi_wp2_with (first
      | (refine ⟨trivial, ?_⟩; gi_at_call 16; refine (callsIn_wide.2 (KC.out _ B0.out)).mono ?_; rintro e w1 ⟨rfl, b1⟩; have B1 := Lib.hid (B0.out.trans (b1.mono B0.out.size)); have V1 := Lib.hid b1; obtain ⟨y0, y1⟩ := BX.out w1 b1; clear x0 x1 b1)
      | (refine ⟨trivial, ?_⟩; gi_at_call 51; refine (callsIn_wide.2 (KP.out _)).mono ?_; rintro e w2 ⟨v2, rfl, o2, b2⟩; have B2 := Lib.hid (B1.out.trans (b2.mono B1.out.size)); obtain ⟨z0, z1⟩ := BX.out w2 (V1.out.trans (b2.mono V1.out.size)); have V2 := Lib.hid (V1.out.trans (b2.mono V1.out.size)); obtain ⟨A2, c2, rfl, hc2, hr2⟩ := o2.form; have O2 := Lib.hid (o2.lift B1.out.size); have t0 := (World.cell?_alloc_lt w2 (.cells #[.slice A2 (putSmall m).length c2] 52) ⟨w.heap.size, 0, none⟩ (lt_of_cell z0)).trans z0; have t1 := (World.cell?_alloc_lt w2 (.cells #[.slice A2 (putSmall m).length c2] 52) ⟨w.heap.size, 1, none⟩ (lt_of_cell z1)).trans z1; clear y0 y1 b2 o2 hr2 hc2)
      | (refine ⟨trivial, ?_⟩; gi_at_call 52; refine (runs_in _ _ _ _ _ _).mono ?_; rintro e w3 ⟨rfl, rfl⟩)
      | fail)
    have HG : Hid (((w2.alloc (.cells #[.slice A2 (putSmall m).length c2] 52)).alloc (.cells #[.int .i64 (m : Int), .slice A N c] 27)).heap.size = w2.heap.size + 2) := Lib.hid (by rw [heap_size_alloc, heap_size_alloc])
    have bO := Boxed.new w2 52 (.slice A2 (putSmall m).length c2)
    have B3 := Lib.hid ((B2.out.alloc B2.out.size (.cells #[.slice A2 (putSmall m).length c2] 52)).alloc (by rw [heap_size_alloc]; have := B2.out.size; omega) (.cells #[.int .i64 (m : Int), .slice A N c] 27))
    have q1 := heap_alloc_last (w2.alloc (.cells #[.slice A2 (putSmall m).length c2] 52)) (.cells #[.int .i64 (m : Int), .slice A N c] 27)
    rw [heap_size_alloc] at q1
    have OW := Lib.hid ((O2.out.alloc (.cells #[.slice A2 (putSmall m).length c2] 52)).alloc (.cells #[.int .i64 (m : Int), .slice A N c] 27))
    have bO := Lib.hid (bO.alloc (.cells #[.int .i64 (m : Int), .slice A N c] 27))
    have Q1 := Lib.hid q1
    have hz2 : w.heap.size + 1 ≤ w2.heap.size := by rw [← HZ.out]; exact V2.out.size
    clear q1 t0 t1 z0 z1
    generalize (w2.alloc (.cells #[.slice A2 (putSmall m).length c2] 52)).alloc (.cells #[.int .i64 (m : Int), .slice A N c] 27) = W4 at *
    obtain ⟨g, hg⟩ : ∃ g, g = w2.heap.size := ⟨_, rfl⟩
    rw [← hg] at bO Q1 HG hz2 ⊢
    clear hg
    refine wpIn_rangeFunc_ownG rfl (by omega) (gf := 63) (lb := #[.pointer (some ⟨g + 1, 0, none⟩)]) rfl trivial (enters_of Tryd.func63 (by kernel_rfl) rfl)
      (runs_stops 8 (by omega) w.heap.size (g + 1) m A c L hm HLL.out HCL.out W4 (by omega) (by rw [← HN.out]; exact Q1.out) (fun V hb => HR.out V (B3.out.trans hb)) (fun V hb => HT.out V (B3.out.trans hb))) KpR.trans (fun W l o o' hl ho h1 h2 => ⟨belowK_b (w := W4) (by have := B3.out.size; omega) W l o o' hl ho h1 h2, heap_putObj_ne (by have := HG.out; omega)⟩) (Below.refl _ _) (fun _ => rfl)
      (fun pre W => ((∃ v, Boxed W g 52 v ∧ W.ownsRow w.heap.size 5 1 v (putSmall m ++ layR pre).length (cellsB (putSmall m ++ layR pre)) ∧ True) ∧ Below w.heap.size w W) ∧ W.heap[g + 1]? = some (.cells #[.int .i64 (m : Int), .slice A N c] 27 (0, 0)))
      (fun _ _ _ => False)
      (OwnFrom.and (OwnFrom.and (Own.from (holdsRow_own w.heap.size g 52 5 1 (fun pre => (putSmall m ++ layR pre).length) (fun pre => cellsB (putSmall m ++ layR pre)) (fun _ _ => True)) _) (ownFrom_below (Nat.le_refl _) (by have := B3.out.size; omega))) (fun s X Y row hs hg hr => (hg.block (g + 1) (Array.getElem?_eq_some_iff.1 hs).1 (fun e => by have := (hr _ e.symm).1; have := HG.out; omega)).trans hs))
      (fun _ _ _ _ _ hs _ _ => hs)
      ⟨⟨⟨_, bO.out, by have := OW.out; unfold OB at this; simpa [layR] using this, trivial⟩, B3.out⟩, Q1.out⟩
      (fun x => { tmps := #[.agg #[.int .i64 (m : Int), .slice A N c], .pointer (some ⟨w.heap.size, 0, none⟩), .slice none 0 0, .int .i64 0, .int .i64 0, .pointer (some ⟨g, 0, none⟩), .int .i64 (x.val : Int), .agg #[.int .i64 (m : Int), .slice A N c], .int .i64 0, .int .i64 0, .bool false, undef, .pointer (some ⟨w.heap.size, 0, none⟩), .int .i64 (m : Int), .int .u64 (m : Int), .slice A2 (putSmall m).length c2, .agg #[.int .i64 (m : Int), .slice A N c], .func (.func 63) #[] #[.pointer (some ⟨g + 1, 0, none⟩)], .int .i64 (x.val : Int), undef, undef, undef, undef, undef, undef], defers := [] }) ?assign ?body ?done ?stop
    case assign =>
      intro l x W K hK
      gi_wp2
      exact hK
    case body =>
      rintro l pre x W ⟨⟨⟨v, hv, hrow, _⟩, hB⟩, hM⟩ hlt
      have hv' : Boxed W.drew g 52 v := hv
      have hrow' : OB w.heap.size W.drew v (putSmall m ++ layR pre) := hrow
      have hc := hv.cell
      have hmx : Tryd.prog.follows .mixedOrders = true := by kernel_rfl
      have hcx : IntKind.u64.wrap (x.val : Int) = (x.val : Int) := by rw [IntKind.wrap_u64]; have := x.isLt; omega
      have KX := Lib.hid (putSmall_any x.val W.drew (by have := x.isLt; omega))
      have HBD : Hid ((putSmall m ++ layR pre).length + (putSmall x.val).length ≤ 70368744177664) := Lib.hid (by
        have h1 := putSmall_len m (by omega)
        have h2 := layR_len pre
        have h3 := putSmall_len x.val (by have := x.isLt; omega)
        have h4 : (runs m L).length ≤ 2 * m + 1 := runsF_len m L _ _ _
        rw [List.length_append]
        omega)
      gi_wp2
      refine wpIn_region_any (by assumption) ?_
      change wpAnyIn _ _ _ _ _ _ _ _ _ (World.drew _)
      refine wpAnyIn_ready (rs := [0, 1]) (by kernel_rfl) (by simp) ?_
      refine AllReadyIn.cons rfl (fun K hK => ?_) ?_
      · go_simp
        refine hK _ _ ?_
        clear hK K
        refine wpAnyIn_ready (rs := [1]) (by kernel_rfl) (by simp) ?_
        refine AllReadyIn.cons rfl (fun K hK => ?_) AllReadyIn.nil
        go_simp
        refine hK _ _ ?_
        clear hK K
        refine wpAnyIn_ready (rs := [2]) (by kernel_rfl) (by simp) ?_
        refine AllReadyIn.cons rfl (fun K hK => ?_) AllReadyIn.nil
        go_simp
        refine hK _ _ ?_
        clear hK K
        refine wpAnyIn_ready (rs := [3]) (by kernel_rfl) (by simp) ?_
        refine AllReadyIn.cons rfl (fun K hK => ?_) AllReadyIn.nil
        go_simp
        refine ⟨trivial, ?_⟩
        refine (CallsIn.inRound l (callsIn_wide.2 KX.out)).mono ?_
        rintro e w5 ⟨v5, rfl, o5, b5⟩
        obtain ⟨A5, cc5, rfl, hc5, hr5⟩ := o5.form
        have V5 := Boxed.kept hv' (grown_below b5) (by simp)
        have R5 := Lib.hid (hrow'.keep b5 (Nat.le_refl _))
        have B5 := Lib.hid (hB.drew.trans (b5.mono hB.size))
        have HR5 := Lib.hid hr5
        have HB5 := Lib.hid ((Below.refl W.heap.size W).drew.trans b5)
        have c5 := V5.cell
        clear o5 hc5 hr5 b5
        refine hK _ _ ?_
        clear hK K
        refine wpAnyIn_ready (rs := [4]) (by kernel_rfl) (by simp) ?_
        refine AllReadyIn.cons rfl (fun K hK => ?_) AllReadyIn.nil
        refine stepIn_append_B rfl (.tmp 19) (.tmp 22) rfl w.heap.size v _ rfl R5.out A5 _ cc5 (putSmall x.val) rfl rfl HR5.out HBD.out B5.out.size ?_
        intro v6 w6 o6 b6 g6
        obtain ⟨p1, p2, p3, p4, p5⟩ := boxB_appended V5 R5.out B5.out.size (by omega) o6 g6
        obtain ⟨A6, n6, cc6, rfl⟩ := o6.shape
        have c6 := p1.cell
        have f6 := p1.frozen
        refine hK _ _ ?_
        clear hK K
        refine wpAnyIn_ready (rs := [5]) (by kernel_rfl) (by simp) ?_
        refine AllReadyIn.cons rfl (fun K hK => ?_) AllReadyIn.nil
        go_simp
        refine hK _ _ ?_
        clear hK K
        refine wpAnyIn_done (by kernel_rfl) ?_ _
        gi_wp2
        have FIN := putFin (B := W4.heap.size) hB.size hB hM HB5.out R5.out g6 p2 p3 p4 p5
        refine ⟨FIN.1, FIN.2.1, ⟨?_, FIN.2.2.1.2⟩, FIN.2.2.2⟩
        rw [layR_snoc, ← List.append_assoc]
        exact FIN.2.2.1.1
      · refine AllReadyIn.cons rfl (fun K hK => ?_) AllReadyIn.nil
        go_simp
        refine hK _ _ ?_
        clear hK K
        refine wpAnyIn_ready (rs := [0, 2]) (by kernel_rfl) (by simp) ?_
        refine AllReadyIn.cons rfl (fun K hK => ?_) ?_
        · go_simp
          refine hK _ _ ?_
          clear hK K
          refine wpAnyIn_ready (rs := [2]) (by kernel_rfl) (by simp) ?_
          refine AllReadyIn.cons rfl (fun K hK => ?_) AllReadyIn.nil
          go_simp
          refine hK _ _ ?_
          clear hK K
          refine wpAnyIn_ready (rs := [3]) (by kernel_rfl) (by simp) ?_
          refine AllReadyIn.cons rfl (fun K hK => ?_) AllReadyIn.nil
          go_simp
          refine ⟨trivial, ?_⟩
          refine (CallsIn.inRound l (callsIn_wide.2 KX.out)).mono ?_
          rintro e w5 ⟨v5, rfl, o5, b5⟩
          obtain ⟨A5, cc5, rfl, hc5, hr5⟩ := o5.form
          have V5 := Boxed.kept hv' (grown_below b5) (by simp)
          have R5 := Lib.hid (hrow'.keep b5 (Nat.le_refl _))
          have B5 := Lib.hid (hB.drew.trans (b5.mono hB.size))
          have HR5 := Lib.hid hr5
          have HB5 := Lib.hid ((Below.refl W.heap.size W).drew.trans b5)
          have c5 := V5.cell
          clear o5 hc5 hr5 b5
          refine hK _ _ ?_
          clear hK K
          refine wpAnyIn_ready (rs := [4]) (by kernel_rfl) (by simp) ?_
          refine AllReadyIn.cons rfl (fun K hK => ?_) AllReadyIn.nil
          refine stepIn_append_B rfl (.tmp 19) (.tmp 22) rfl w.heap.size v _ rfl R5.out A5 _ cc5 (putSmall x.val) rfl rfl HR5.out HBD.out B5.out.size ?_
          intro v6 w6 o6 b6 g6
          obtain ⟨p1, p2, p3, p4, p5⟩ := boxB_appended V5 R5.out B5.out.size (by omega) o6 g6
          obtain ⟨A6, n6, cc6, rfl⟩ := o6.shape
          have c6 := p1.cell
          have f6 := p1.frozen
          refine hK _ _ ?_
          clear hK K
          refine wpAnyIn_ready (rs := [5]) (by kernel_rfl) (by simp) ?_
          refine AllReadyIn.cons rfl (fun K hK => ?_) AllReadyIn.nil
          go_simp
          refine hK _ _ ?_
          clear hK K
          refine wpAnyIn_done (by kernel_rfl) ?_ _
          gi_wp2
          have FIN := putFin (B := W4.heap.size) hB.size hB hM HB5.out R5.out g6 p2 p3 p4 p5
          refine ⟨FIN.1, FIN.2.1, ⟨?_, FIN.2.2.1.2⟩, FIN.2.2.2⟩
          rw [layR_snoc, ← List.append_assoc]
          exact FIN.2.2.1.1
        · refine AllReadyIn.cons rfl (fun K hK => ?_) AllReadyIn.nil
          go_simp
          refine hK _ _ ?_
          clear hK K
          refine wpAnyIn_ready (rs := [0, 3]) (by kernel_rfl) (by simp) ?_
          refine AllReadyIn.cons rfl (fun K hK => ?_) ?_
          · go_simp
            refine hK _ _ ?_
            clear hK K
            refine wpAnyIn_ready (rs := [3]) (by kernel_rfl) (by simp) ?_
            refine AllReadyIn.cons rfl (fun K hK => ?_) AllReadyIn.nil
            go_simp
            refine ⟨trivial, ?_⟩
            refine (CallsIn.inRound l (callsIn_wide.2 KX.out)).mono ?_
            rintro e w5 ⟨v5, rfl, o5, b5⟩
            obtain ⟨A5, cc5, rfl, hc5, hr5⟩ := o5.form
            have V5 := Boxed.kept hv' (grown_below b5) (by simp)
            have R5 := Lib.hid (hrow'.keep b5 (Nat.le_refl _))
            have B5 := Lib.hid (hB.drew.trans (b5.mono hB.size))
            have HR5 := Lib.hid hr5
            have HB5 := Lib.hid ((Below.refl W.heap.size W).drew.trans b5)
            have c5 := V5.cell
            clear o5 hc5 hr5 b5
            refine hK _ _ ?_
            clear hK K
            refine wpAnyIn_ready (rs := [4]) (by kernel_rfl) (by simp) ?_
            refine AllReadyIn.cons rfl (fun K hK => ?_) AllReadyIn.nil
            refine stepIn_append_B rfl (.tmp 19) (.tmp 22) rfl w.heap.size v _ rfl R5.out A5 _ cc5 (putSmall x.val) rfl rfl HR5.out HBD.out B5.out.size ?_
            intro v6 w6 o6 b6 g6
            obtain ⟨p1, p2, p3, p4, p5⟩ := boxB_appended V5 R5.out B5.out.size (by omega) o6 g6
            obtain ⟨A6, n6, cc6, rfl⟩ := o6.shape
            have c6 := p1.cell
            have f6 := p1.frozen
            refine hK _ _ ?_
            clear hK K
            refine wpAnyIn_ready (rs := [5]) (by kernel_rfl) (by simp) ?_
            refine AllReadyIn.cons rfl (fun K hK => ?_) AllReadyIn.nil
            go_simp
            refine hK _ _ ?_
            clear hK K
            refine wpAnyIn_done (by kernel_rfl) ?_ _
            gi_wp2
            have FIN := putFin (B := W4.heap.size) hB.size hB hM HB5.out R5.out g6 p2 p3 p4 p5
            refine ⟨FIN.1, FIN.2.1, ⟨?_, FIN.2.2.1.2⟩, FIN.2.2.2⟩
            rw [layR_snoc, ← List.append_assoc]
            exact FIN.2.2.1.1
          · refine AllReadyIn.cons rfl (fun K hK => ?_) AllReadyIn.nil
            go_simp
            refine ⟨trivial, ?_⟩
            refine (CallsIn.inRound l (callsIn_wide.2 KX.out)).mono ?_
            rintro e w5 ⟨v5, rfl, o5, b5⟩
            obtain ⟨A5, cc5, rfl, hc5, hr5⟩ := o5.form
            have V5 := Boxed.kept hv' (grown_below b5) (by simp)
            have R5 := Lib.hid (hrow'.keep b5 (Nat.le_refl _))
            have B5 := Lib.hid (hB.drew.trans (b5.mono hB.size))
            have HR5 := Lib.hid hr5
            have HB5 := Lib.hid ((Below.refl W.heap.size W).drew.trans b5)
            have c5 := V5.cell
            clear o5 hc5 hr5 b5
            refine hK _ _ ?_
            clear hK K
            refine wpAnyIn_ready (rs := [0]) (by kernel_rfl) (by simp) ?_
            refine AllReadyIn.cons rfl (fun K hK => ?_) AllReadyIn.nil
            go_simp
            refine hK _ _ ?_
            clear hK K
            refine wpAnyIn_ready (rs := [4]) (by kernel_rfl) (by simp) ?_
            refine AllReadyIn.cons rfl (fun K hK => ?_) AllReadyIn.nil
            refine stepIn_append_B rfl (.tmp 19) (.tmp 22) rfl w.heap.size v _ rfl R5.out A5 _ cc5 (putSmall x.val) rfl rfl HR5.out HBD.out B5.out.size ?_
            intro v6 w6 o6 b6 g6
            obtain ⟨p1, p2, p3, p4, p5⟩ := boxB_appended V5 R5.out B5.out.size (by omega) o6 g6
            obtain ⟨A6, n6, cc6, rfl⟩ := o6.shape
            have c6 := p1.cell
            have f6 := p1.frozen
            refine hK _ _ ?_
            clear hK K
            refine wpAnyIn_ready (rs := [5]) (by kernel_rfl) (by simp) ?_
            refine AllReadyIn.cons rfl (fun K hK => ?_) AllReadyIn.nil
            go_simp
            refine hK _ _ ?_
            clear hK K
            refine wpAnyIn_done (by kernel_rfl) ?_ _
            gi_wp2
            have FIN := putFin (B := W4.heap.size) hB.size hB hM HB5.out R5.out g6 p2 p3 p4 p5
            refine ⟨FIN.1, FIN.2.1, ⟨?_, FIN.2.2.1.2⟩, FIN.2.2.2⟩
            rw [layR_snoc, ← List.append_assoc]
            exact FIN.2.2.1.1
    case done =>
      rintro D ys W hD rfl ⟨⟨⟨v, hv, hrow, _⟩, hB⟩, hM⟩ hK
      have hc := hv.cell
      gi_wp2
      refine ⟨by simp, .inl ⟨_, _, rfl, run_takeDeferred hK, ?_⟩⟩
      exact ⟨_, results_tmp2 rfl _ _ _, v, rfl, by rw [HP.out]; exact ownsRow_putObj hrow _ hK rfl, hB.trans (belowK_b (w := w) (Nat.le_refl _) W D _ _ (by have := B3.out.size; omega) hK rfl rfl)⟩
    case stop =>
      rintro D c pre W _ _ h _
      exact h.elim
  · rw [h1] at KC ⊢
    have KC := Lib.hid KC
    have HP : Hid (putB s L = []) := Lib.hid (by unfold putB; rw [if_neg (by rw [h0]; simp)])
    generalize putB s L = R at *
    clear h0 h1
    gi_wp2_with (first
      | (refine ⟨trivial, ?_⟩; gi_at_call 16; refine (callsIn_wide.2 (KC.out _ B0.out)).mono ?_; rintro e w1 ⟨rfl, b1⟩; have B1 := Lib.hid (B0.out.trans (b1.mono B0.out.size)); clear x0 x1 b1)
      | fail)
    exact ⟨_, results_tmp2 rfl _ _ _, _, rfl, by rw [HP.out]; exact OB.nil, B1.out⟩
end Go.Proofs.YtmmehomobmoapaaDoor
