/- Stacks as bytes: what the program guesses, walked. -/
import Derived.Test.YtjmmaghjbaigiaaVsV
namespace Go.Proofs.Ytjmmaghjbaigiaa
open Go.RowKit
set_option linter.unusedVariables false
set_option linter.unusedSimpArgs false
/-- What the loop has: the result's box, the reader, the stack that grows. -/
structure GuW (w : World) (W : World) (g : Nat) (s : List UInt8 × Nat) (q : Nat) (key : ByteArray) (A : Option Addr) (m c : Nat) (L : List Vn) : Prop where
  b : Below w.heap.size w W
  r : StBox W w.heap.size ⟨#[]⟩ none 0 0
  rd : ∃ bb, RDO bb W g s.1 s.2 ∧ w.heap.size < bb ∧ bb ≤ g ∧ (q < bb ∨ g < q) ∧ ∀ k, (Value.slice A m c).ownBlock = some k → k < bb ∨ g < k
  st : StBox W q key A m c
  o : OG KV 66 (w.heap.size + 1) W (.slice A m c) L
  ne : (Value.slice A m c).ownBlock ≠ some q
  hq : w.heap.size < q
  hg : w.heap.size < g
  ml : L.length = m
  mc : m ≤ c
theorem rdL_le (l : List UInt8) (f : Nat) : (rdL l f).length ≤ l.length := by
  obtain ⟨k, hk, e⟩ := rd_suffix l f
  rw [e]; simp
theorem rtL_le (l : List UInt8) (f m : Nat) : (rtL l f m).length ≤ l.length := by
  obtain ⟨k, hk, e⟩ := rt_suffix l f m
  rw [e]; simp
/-- An end of b. -/
def EndOf (x b : List UInt8) : Prop := ∃ j, j ≤ b.length ∧ x = b.drop j
theorem EndOf.refl (b : List UInt8) : EndOf b b := ⟨0, Nat.zero_le _, by simp⟩
theorem EndOf.drop {x b : List UInt8} (h : EndOf x b) (k : Nat) : EndOf (x.drop k) b := by
  obtain ⟨j, hj, e⟩ := h
  by_cases hk : j + k ≤ b.length
  · exact ⟨j + k, hk, by rw [e, List.drop_drop]⟩
  · refine ⟨b.length, Nat.le_refl _, ?_⟩
    rw [e, List.drop_drop, List.drop_of_length_le (by omega), List.drop_of_length_le (Nat.le_refl _)]
theorem EndOf.tail {x b : List UInt8} (h : EndOf x b) : EndOf x.tail b := by rw [← List.drop_one]; exact h.drop 1
theorem EndOf.rd {x b : List UInt8} (h : EndOf x b) (f : Nat) : EndOf (rdL x f) b := by
  obtain ⟨k, _, e⟩ := rd_suffix x f
  rw [e]; exact h.drop k
theorem EndOf.rt {x b : List UInt8} (h : EndOf x b) (f m : Nat) : EndOf (rtL x f m) b := by
  obtain ⟨k, _, e⟩ := rt_suffix x f m
  rw [e]; exact h.drop k
theorem EndOf.eq {x b : List UInt8} (h : EndOf x b) : x.length ≤ b.length ∧ b.drop (b.length - x.length) = x := by
  obtain ⟨j, hj, e⟩ := h
  have : x.length = b.length - j := by rw [e, List.length_drop]
  exact ⟨by omega, by rw [this, show b.length - (b.length - j) = j by omega, ← e]⟩
theorem gSt_end {s : List UInt8 × Nat} {b : List UInt8} (h : EndOf s.1 b) : ∀ k, EndOf (gSt k s).1 b
  | 0 => h
  | k + 1 => (((gSt_end h k).rd _).rd _).tail.rt _ _
theorem gVs_len (s : List UInt8 × Nat) : ∀ k, (gVs k s).length = k
  | 0 => rfl
  | k + 1 => by rw [gVs, List.length_append, gVs_len s k]; rfl
theorem run_min2I (w : World) (ats : Array TypeId) (ty : TypeId) (a b m : Int) (h : min a b = m) : (Builtin.min_ ats ty #[.int .i64 a, .int .i64 b]).run Try.prog w = .ok (.int .i64 m) w := by
  subst h
  have h2 : ∀ (x y : Int), (Builtin.min2 (.int .i64 x) (.int .i64 y)).run Try.prog w = .ok (.int .i64 (min x y)) w := fun x y => by
    simp only [Builtin.min2, Sem.run_pure]
    by_cases h : y < x
    · rw [if_pos h, Int.min_eq_right (by omega)]
    · rw [if_neg h, Int.min_eq_left (by omega)]
  simp [Builtin.min_, h2]
theorem run_from (A : Option Addr) (n c k : Nat) (z : Int) (hz : z = (k : Int)) (hk : k ≤ n) (hc : n ≤ c) (l : List UInt8) (hl : l.length = n) :
    ∃ B, (∀ V, (Instr.sliceAt 25 (.slice A n c) (some (.int .i64 z)) none none).run Try.prog V = .ok (.slice B (n - k) (c - k)) V) ∧ (∀ V, (Instr.slice 25 (.slice A n c) (some (.int .i64 z)) none none).run Try.prog V = .ok (.slice B (n - k) (c - k)) V) ∧ ∀ V, (RB V A l → RB V B (l.drop k)) := by
  subst hz
  have ht : Try.prog.underlying 25 = some (.slice (Try.prog.elem 25)) := by kernel_rfl
  have e1 : ∀ V, (Instr.slice 25 (.slice A n c) (some (.int .i64 (k : Int))) none none).run Try.prog V = .ok (.slice (if c = k then A else A.map (·.add k)) (n - k) (c - k)) V := fun V => by
    rw [run_slice_l (P := Try.prog) V 25 A n c ht .i64 (k : Int) (by omega) (by omega)]
    rw [show Try.prog.elem 25 = 5 from by kernel_rfl, Try.sizeOf5 V]
    simp [Result.andThen, sliced]
  refine ⟨_, fun V => by rw [run_sliceAt_slice (P := Try.prog) V 25 _ _ _ _ ht]; exact e1 V, e1, fun V h => ?_⟩
  split
  · rename_i e
    rw [List.drop_of_length_le (by omega)]
    exact .inl rfl
  · cases A with
    | none =>
      rcases h with rfl | ⟨ad, e, _⟩
      · exact .inl (by simp)
      · cases e
    | some ad => exact h.drop k
/-- What one version's reading has to do. -/
structure GuV (w : World) (W : World) (g q : Nat) (key : ByteArray) (A : Option Addr) (m c : Nat) (L : List Vn) (p : Nat) (y : Vn) : Prop where
  b : Below w.heap.size w W
  r : StBox W w.heap.size ⟨#[]⟩ none 0 0
  st : StBox W q key A m c
  o : OG KV 66 (w.heap.size + 1) W (.slice A m c) L
  v : VnBox W p y
theorem GuV.only {w W W' : World} {g q : Nat} {key : ByteArray} {A : Option Addr} {m c : Nat} {L : List Vn} {p : Nat} {y : Vn} (h : GuV w W g q key A m c L p y) (hb : OnlyB g W W') (hw : w.heap.size < g) (hq : q ≠ g) (ho : (Value.slice A m c).ownBlock ≠ some g) (hp : p ≠ g) : GuV w W' g q key A m c L p y :=
  ⟨h.b.trans (hb.below (Nat.le_of_lt hw)), h.r.same (hb.block _ (by omega)), h.st.same (hb.block _ hq), h.o.sameV fun b e => hb.block b fun e2 => ho (by rw [e, e2]), h.v.same (hb.block _ hp)⟩
theorem GuV.below {w W W' : World} {g g' q : Nat} {key : ByteArray} {A : Option Addr} {m c : Nat} {L : List Vn} {p : Nat} {y : Vn} (h : GuV w W g q key A m c L p y) {B : Nat} (hb : Below B W W') (hw : w.heap.size < B) (hq : q < B) (ho : ∀ k, (Value.slice A m c).ownBlock = some k → k < B) (hp : p < B) : GuV w W' g' q key A m c L p y :=
  ⟨h.b.trans (hb.mono (Nat.le_of_lt hw)), h.r.below hb hw, h.st.below hb hq, h.o.sameV fun b e => hb.block b (ho b e), h.v.below hb hp⟩
/-- A store into the version's box. -/
theorem GuV.cell {w W : World} {g q : Nat} {key : ByteArray} {A : Option Addr} {m c : Nat} {L : List Vn} {p : Nat} {y y' : Vn} (h : GuV w W g q key A m c L p y) (i : Nat) (u : Value) (hw : w.heap.size < p) (hq : q ≠ p) (ho : (Value.slice A m c).ownBlock ≠ some p) (hv : VnBox (W.setCell ⟨p, i, none⟩ u) p y') : GuV w (W.setCell ⟨p, i, none⟩ u) g q key A m c L p y' :=
  ⟨h.b.setCell (p := ⟨p, i, none⟩) (Nat.le_of_lt hw) _, h.r.off (by omega) _ _, h.st.off (by omega) _ _, h.o.sameV fun b e => setCell_else W p i u b fun e2 => ho (by rw [e, e2]), hv⟩
theorem RDO.off {b : Nat} {w : World} {g f : Nat} {l : List UInt8} (h : RDO b w g l f) {p : Nat} (hp : p ≠ g) (hb : p < b ∨ g < p) (i : Nat) (u : Value) : RDO b (w.setCell ⟨p, i, none⟩ u) g l f := h.same (setCell_else w p i u g (Ne.symm hp)) fun k h1 h2 => setCell_else w p i u k (by omega)
theorem GuV.start {w W w5 : World} {g : Nat} {s : List UInt8 × Nat} {q : Nat} {key : ByteArray} {A : Option Addr} {m c : Nat} {L : List Vn} (h : GuW w W g s q key A m c L) (hb : OnlyB g W w5) (hq : q ≠ g) (ho : (Value.slice A m c).ownBlock ≠ some g) (y : Vn) (t : TypeId) : GuV w (w5.alloc (.cells #[.int .i64 y.txn, .int .i64 y.ts, .bool y.gone, .string y.val] t)) g q key A m c L w5.heap.size y := by
  have hw := h.hg
  have b5 := h.b.trans (hb.below (Nat.le_of_lt hw))
  exact ⟨b5.alloc b5.size _, (h.r.same (hb.block _ (by omega))).alloc _, (h.st.same (hb.block _ hq)).alloc _, (h.o.sameV fun b e => hb.block b fun e2 => ho (by rw [e, e2])).alloc _, VnBox.new w5 y t⟩
theorem StBox.put1 {W : World} {q : Nat} {key : ByteArray} {A : Option Addr} {n c : Nat} (h : StBox W q key A n c) (A' : Option Addr) (n' c' : Nat) : StBox (W.setCell ⟨q, 1, none⟩ (.slice A' n' c')) q key A' n' c' := by
  obtain ⟨a0, a1, f0, f1⟩ := h
  constructor <;> simp [World.cell?_setCell_other, World.cell?_setCell_same', a0, a1, f0, f1]
theorem StBox.grown {W W' : World} {q : Nat} {key : ByteArray} {A : Option Addr} {n c : Nat} (h : StBox W q key A n c) {row : Option Nat} (hg : W.grownBy W' row) (hne : row ≠ some q) : StBox W' q key A n c := h.same (hg.block q h.lt fun e => hne e.symm)
/-- A version appended to the stack that grows. -/
theorem GuW.next {w W W' : World} {g g' bb q : Nat} {s : List UInt8 × Nat} {key : ByteArray} {A A' : Option Addr} {m c m' c' : Nat} {L : List Vn} {p : Nat} {y : Vn} {o : Obj} (h : GuV w W g q key A m c L p y) (rd : RDO bb W g' s.1 s.2) (hpb : p < bb) (hbg : bb ≤ g') (hw : w.heap.size < p) (hq : q < p) (hwq : w.heap.size < q) (ho : ∀ k, (Value.slice A m c).ownBlock = some k → k < p ∧ k ≠ q)
    (o9 : OG KV 66 (w.heap.size + 1) W' (.slice A' m' c') (L ++ [y])) (b9 : Below (w.heap.size + 1) (W.alloc o) W') (g9 : (W.alloc o).grownBy W' (Value.slice A m c).ownBlock) (h9 : (Value.slice A' m' c').ownBlock = (Value.slice A m c).ownBlock ∨ (Value.slice A' m' c').ownBlock = some (W.alloc o).heap.size) (hm : (L ++ [y]).length = m') (hc : m' ≤ c') :
    GuW w (W'.setCell ⟨q, 1, none⟩ (.slice A' m' c')) g' s q key A' m' c' (L ++ [y]) := by
  have hgl := rd.lt
  have ha := heap_size_alloc W o
  have hge : ∀ k, (Value.slice A m c).ownBlock = some k → w.heap.size + 1 ≤ k := fun k e => by
    obtain ⟨css, o1, _⟩ := h.o
    exact (World.ownsRow.lt o1 k e).1
  have hne : (Value.slice A' m' c').ownBlock ≠ some q := fun e => by
    rcases h9 with h9 | h9
    · rw [h9] at e; exact (ho q e).2 rfl
    · rw [h9] at e; injection e with e; omega
  have r1 := rd.keep (below1 W o)
  refine ⟨((h.b.alloc h.b.size o).trans (b9.mono (by omega))).setCell (p := ⟨q, 1, none⟩) (Nat.le_of_lt hwq) _, ((h.r.alloc o).grown g9 (fun e => by have := hge _ e; omega)).off (by omega) _ _, ⟨bb, ?_, by omega, hbg, .inl (by omega), ?_⟩, ((h.st.alloc o).grown g9 (fun e => (ho q e).2 rfl)).put1 A' m' c', o9.sameV fun b e => setCell_else W' q 1 _ b fun e2 => hne (by rw [e, e2]), hne, hwq, by omega, hm, hc⟩
  · refine RDO.off (RDO.same r1 (g9.block g' r1.lt fun e => by have := (ho g' e.symm).1; omega) fun k h1 h2 => g9.block k (by have := r1.lt; omega) fun e => by have := (ho k e.symm).1; omega) (by omega) (.inl (by omega)) 1 _
  · intro k e
    rcases h9 with h9 | h9
    · rw [h9] at e; have := (ho k e).1; omega
    · rw [h9] at e; injection e with e; omega
theorem VnBox.set2 {W : World} {q : Nat} {v : Vn} (h : VnBox W q v) (s : Bool) : VnBox (W.setCell ⟨q, 2, none⟩ (.bool s)) q { v with gone := s } := by
  obtain ⟨a0, a1, a2, a3, f0, f1, f2, f3⟩ := h
  constructor <;> simp [World.cell?_setCell_other, World.cell?_setCell_same', a0, a1, a2, a3, f0, f1, f2, f3]
theorem VnBox.set3 {W : World} {q : Nat} {v : Vn} (h : VnBox W q v) (s : ByteArray) : VnBox (W.setCell ⟨q, 3, none⟩ (.string s)) q { v with val := s } := by
  obtain ⟨a0, a1, a2, a3, f0, f1, f2, f3⟩ := h
  constructor <;> simp [World.cell?_setCell_other, World.cell?_setCell_same', a0, a1, a2, a3, f0, f1, f2, f3]
theorem VnBox.setT {W : World} {q : Nat} {v : Vn} (h : VnBox W q v) (s : Int) : VnBox (W.setCell ⟨q, 1, none⟩ (.int .i64 s)) q { v with ts := s } := by
  obtain ⟨a0, a1, a2, a3, f0, f1, f2, f3⟩ := h
  constructor <;> simp [World.cell?_setCell_other, World.cell?_setCell_same', a0, a1, a2, a3, f0, f1, f2, f3]
set_option maxHeartbeats 4000000 in
set_option maxRecDepth 100000 in
theorem vsGuess_any (A : Option Addr) (n c : Nat) (l : List UInt8) (w : World) (hN : n ≤ 1000000) (hl : l.length = n) (hc : n ≤ c) (hr : RB w A l) :
    Calls Try.prog 43 #[.slice A n c] w fun e w' => ∃ v', e = .returned (.agg #[.string (gKey l), v']) ∧ OG KV 66 w.heap.size w' v' (gList l) ∧ Below w.heap.size w w' := by
  have HR := Lib.hid (fun W (h : Below w.heap.size w W) => hr.below h)
  have HL := Lib.hid hl
  have HN := Lib.hid hN
  have KNew := Lib.hid (fun W (h : Below w.heap.size w W) => okNewO_any A n c l W (by omega) hl (hr.below h))
  have KT0 := Lib.hid (fun (W : World) (g bb : Nat) (h : RDO bb W g l 0) => okTextO_any bb g 0 16 l W h (by omega) (by omega))
  have KS0 := Lib.hid (fun (W : World) (g bb : Nat) (h : RDO bb W g (gS0 l).1 (gS0 l).2) => okSmallO_any bb g (gS0 l).2 (gS0 l).1 W h (by have := rtL_le l 0 16; show (rtL l 0 16).length ≤ _; omega))
  have B0 := Lib.hid (below1 w (.cells #[.string ⟨#[]⟩, .slice none 0 0] 24))
  have R0 := Lib.hid (StBox.new w ⟨#[]⟩ none 0 0 24)
  have Z0 := Lib.hid (heap_size_alloc w (.cells #[.string ⟨#[]⟩, .slice none 0 0] 24))
  have HE0 := Lib.hid (show EndOf (gS1 l).1 l from ((EndOf.refl l).rt 0 16).rd _)
  have HKey : Hid (str (rtV l 0 16) = gKey l) := Lib.hid rfl
  have HS0 : Hid ((rtL l 0 16, rtF l 0 16) = gS0 l) := Lib.hid rfl
  have HS1 : Hid ((rdL (gS0 l).1 (gS0 l).2, rdF (gS0 l).1 (gS0 l).2) = gS1 l) := Lib.hid rfl
  have HNN : Hid (gN l = min (rdV (gS0 l).1 (gS0 l).2) 8) := Lib.hid rfl
  clear hr hl hN
  go_enter Try.func43, Try.ntmps43
  go_upto_region 1 with fail
  generalize w.alloc (.cells #[.string ⟨#[]⟩, .slice none 0 0] 24) = W0 at *
  go_upto_region 3 with (first
    | (go_at_call 81; refine (KNew.out _ B0.out).mono ?_; rintro e w1 ⟨g, rfl, h1, h2, h3⟩; have RD1 := Lib.hid h1; have G1 := Lib.hid h2; have B1 := Lib.hid (B0.out.trans (h3.mono B0.out.size)); have R1 := Lib.hid (R0.out.on h3); clear h1 h2 h3)
    | (go_at_call 82; refine (KT0.out _ g _ RD1.out).mono ?_; rintro e w2 ⟨rfl, h1, h2⟩; have RD2 := Lib.hid h1; have B2 := Lib.hid (B1.out.trans (h2.mono (by have := Z0.out; have := G1.out; omega))); have R2 := Lib.hid (R1.out.below h2 (by have := Z0.out; have := G1.out; omega)); rw [HKey.out]; clear h1 h2)
    | fail)
  have RD3 := Lib.hid (show RDO (W0.heap.size) (w2.alloc (.cells #[.string (gKey l), .slice none 0 0] 24)) g (gS0 l).1 (gS0 l).2 from RD2.out.keep (below1 w2 _))
  have Q3 := Lib.hid (StBox.new w2 (gKey l) none 0 0 24)
  have B3 := Lib.hid (B2.out.alloc B2.out.size (.cells #[.string (gKey l), .slice none 0 0] 24))
  have R3 := Lib.hid (R2.out.alloc (.cells #[.string (gKey l), .slice none 0 0] 24))
  have hgq := Lib.hid (show g < w2.heap.size from RD2.out.lt)
  have hwg := Lib.hid (show w.heap.size < g from by have := Z0.out; have := G1.out; omega)
  have hbb := Lib.hid (show w.heap.size < W0.heap.size from by have := Z0.out; omega)
  generalize w2.alloc (.cells #[.string (gKey l), .slice none 0 0] 24) = W3 at *
  generalize hq0 : w2.heap.size = q at *
  obtain ⟨N, hNe⟩ : ∃ N, N = gN l := ⟨_, rfl⟩
  have hN8 := Lib.hid (show N ≤ 8 from by rw [hNe, HNN.out]; omega)
  have HList : Hid (gList l = gVs N (gS1 l)) := Lib.hid (by rw [hNe]; rfl)
  have hmin := fun (W : World) ats ty => run_min2I W ats ty (rdV (gS0 l).1 (gS0 l).2 : Nat) 8 (N : Nat) (by rw [hNe, HNN.out]; omega)
  clear hNe
  go_upto_region 4 with (go_at_call 83; refine (KS0.out _ g _ RD3.out).mono ?_; rintro e w4 ⟨rfl, h1, h2⟩; have RD4 := Lib.hid h1; have O4 := Lib.hid h2; clear h1 h2)
  have G4 : Hid (GuW w w4 g (gS1 l) q (gKey l) none 0 0 []) := Lib.hid ⟨B3.out.trans (O4.out.below (Nat.le_of_lt hwg.out)), R3.out.same (O4.out.block _ (by have := hwg.out; omega)), ⟨W0.heap.size, by rw [← HS1.out]; exact RD4.out, hbb.out, G1.out, .inr hgq.out, fun k e => (by cases e)⟩, Q3.out.same (O4.out.block _ (by have := hgq.out; omega)), OG.nil, fun e => (by cases e), by have := hgq.out; have := hwg.out; omega, hwg.out, rfl, Nat.le_refl _⟩
  clear RD1 G1 B1 R1 RD2 B2 R2 RD3 Q3 B3 R3 hgq hwg hbb hmin O4 RD4 HS1 HS0 HKey hq0 KNew KT0 KS0 B0 R0 Z0
  go_loopw [3, 5, 14] (fun p _ i wr => ∃ (k g : Nat) (A : Option Addr) (m c : Nat), p = .pointer (some ⟨g, 0, none⟩) ∧ k ≤ N ∧ i = .int .i64 (k : Int) ∧ GuW w wr g (gSt k (gS1 l)) q (gKey l) A m c (gVs k (gS1 l))) (fun _ _ i _ => N - (intOf i).toNat)
  case atStart => exact ⟨0, g, none, 0, 0, rfl, Nat.zero_le _, rfl, G4.out⟩
  case round =>
    clear G4
    obtain ⟨k, g', A1, m1, c1, rfl, hk, rfl, hG⟩ := hrel
    by_cases hlt : k < N
    · have HLT := Lib.hid hlt
      have HE := Lib.hid (gSt_end HE0.out k)
      have HNext : Hid (gSt (k + 1) (gS1 l) = (gStep (gSt k (gS1 l))).2 ∧ gVs (k + 1) (gS1 l) = gVs k (gS1 l) ++ [(gStep (gSt k (gS1 l))).1]) := Lib.hid ⟨rfl, rfl⟩
      have hLk := gVs_len (gS1 l) k
      generalize gSt k (gS1 l) = s at *
      generalize gVs k (gS1 l) = L1 at *
      obtain ⟨x, f⟩ := s
      unfold gStep at HNext
      dsimp only at HNext HE hG
      have hm := hG.ml
      obtain ⟨bb, hR, hb1, hb2, hb3, hb4⟩ := hG.rd
      have ho : ∀ k, (Value.slice A1 m1 c1).ownBlock = some k → k < wr.heap.size := fun k e => by
        obtain ⟨css, o1, _⟩ := hG.o
        exact (World.ownsRow.lt o1 k e).2
      have hqg : q ≠ g' := by omega
      have hog : (Value.slice A1 m1 c1).ownBlock ≠ some g' := fun e => by have := hb4 g' e; omega
      have hg2 := hR.lt
      have hq2 := hG.st.lt
      have K1 := Lib.hid (fun (W : World) (b g : Nat) (h : RDO b W g x f) => okSmallO_any b g f x W h (by have := HE.out.eq.1; have := HL.out; have := HN.out; omega))
      have HE1 := Lib.hid (HE.out.rd f)
      have HE2 := Lib.hid (HE1.out.rd (rdF x f))
      obtain ⟨v1, hv1⟩ : ∃ z, z = rdV x f := ⟨_, rfl⟩
      rw [← hv1] at HNext K1
      generalize rdL x f = x1 at *
      generalize rdF x f = f1 at *
      have K2 := Lib.hid (fun (W : World) (b g : Nat) (h : RDO b W g x1 f1) => okSmallO_any b g f1 x1 W h (by have := HE1.out.eq.1; have := HL.out; have := HN.out; omega))
      obtain ⟨v2, hv2⟩ : ∃ z, z = rdV x1 f1 := ⟨_, rfl⟩
      rw [← hv2] at HNext K2
      generalize rdL x1 f1 = x2 at *
      generalize rdF x1 f1 = f2 at *
      clear hv1 hv2
      have K3 := Lib.hid (fun (W : World) (b g : Nat) (h : RDO b W g x2 f2) => okLeftO_any b g f2 x2 W h)
      obtain ⟨he1, he2⟩ := HE2.out.eq
      rw [HL.out] at he1 he2
      have K4 := Lib.hid (fun (W : World) (B : Option Addr) (d : Nat) (h1 : x2.length ≤ d) (h : RB W B x2) => vsAhead_any B x2.length d x2 W (by have := HN.out; omega) rfl h1 h)
      have K5 := Lib.hid (fun (W : World) (b g : Nat) (h : RDO b W g x2.tail 0) => okTextO_any b g 0 24 x2.tail W h (by rw [List.length_tail]; have := HN.out; omega) (by omega))
      obtain ⟨B, hs1, hs2, hs3⟩ := run_from A n c (n - x2.length) ((n : Int) - (x2.length : Int)) (by omega) (by omega) hc l HL.out
      rw [he2] at hs3
      rw [show n - (n - x2.length) = x2.length by omega] at hs1 hs2
      have hcd := Lib.hid (show x2.length ≤ c - (n - x2.length) from by omega)
      have HS3 := Lib.hid hs3
      have hwr : IntKind.i64.wrap ((n : Int) - (x2.length : Int)) = (n : Int) - (x2.length : Int) := by have := HN.out; rw [IntKind.wrap_i64]; omega
      generalize c - (n - x2.length) = d at *
      generalize x2.length = j at *
      obtain ⟨gn, hgn⟩ : ∃ z, z = (x2.headD 0 == 1) := ⟨_, rfl⟩
      rw [← hgn] at HNext K4
      generalize x2.tail = x3 at *
      obtain ⟨vv, hvv⟩ : ∃ z, z = str (rtV x3 0 24) := ⟨_, rfl⟩
      rw [← hvv] at HNext K5
      generalize rtL x3 0 24 = x4 at *
      generalize rtF x3 0 24 = f4 at *
      have HVV := Lib.hid hvv
      clear hgn hvv he1 he2 hs3
      have RD := Lib.hid hR
      have GG := Lib.hid hG
      have HB1 := Lib.hid hb1
      have HB2 := Lib.hid hb2
      have HB3 := Lib.hid hb3
      have HB4 := Lib.hid hb4
      have HO := Lib.hid ho
      have HOG := Lib.hid hog
      have HQG := Lib.hid hqg
      have HWG := Lib.hid hG.hg
      have HWQ := Lib.hid hG.hq
      clear hR hG hb1 hb2 hb3 hb4 ho hog hqg
      go_upto_region 6 with (go_at_call 83; refine (K1.out _ bb g' RD.out).mono ?_; rintro e w5 ⟨rfl, h1, h2⟩; have RD5 := Lib.hid h1; have O5 := Lib.hid h2; clear h1 h2)
      have RD := Lib.hid (RD5.out.keep (below1 w5 (.cells #[.int .i64 (v1 : Int), .int .i64 0, .bool false, .string ⟨#[]⟩] 66)))
      have GV := Lib.hid (GuV.start GG.out O5.out HQG.out HOG.out ⟨(v1 : Int), 0, false, ⟨#[]⟩⟩ 66)
      have HGP := Lib.hid (show g' < w5.heap.size from by rw [O5.out.size]; exact hg2)
      have HQP := Lib.hid (show q < w5.heap.size from by rw [O5.out.size]; exact hq2)
      have HOP := Lib.hid (show ∀ k, (Value.slice A1 m1 c1).ownBlock = some k → k < w5.heap.size ∧ k ≠ q from fun k e => ⟨by rw [O5.out.size]; exact HO.out k e, fun e2 => GG.out.ne (by rw [e, e2])⟩)
      dsimp only at GV
      generalize w5.alloc (.cells #[.int .i64 (v1 : Int), .int .i64 0, .bool false, .string ⟨#[]⟩] 66) = W5 at *
      generalize w5.heap.size = p at *
      have HWP := Lib.hid (show w.heap.size < p from Nat.lt_trans HWG.out HGP.out)
      clear RD5 GG O5 hg2 hq2
      go_upto_region 7 with (go_at_call 83; refine (K2.out _ bb g' RD.out).mono ?_; rintro e w6 ⟨rfl, h1, h2⟩; have RD := Lib.hid h1; have GV := Lib.hid (GV.out.only h2 HWG.out HQG.out HOG.out (by have := HGP.out; omega)); have y1 := GV.out.v.c1; have y2 := GV.out.v.f1; clear h1 h2)
      clear y1 y2
      have RD := Lib.hid (RD.out.off (p := p) (by have := HGP.out; omega) (.inr HGP.out) 1 (.int .i64 (v2 : Int)))
      have GV := Lib.hid (GV.out.cell 1 (.int .i64 (v2 : Int)) HWP.out (by have := HQP.out; omega) (fun e => by have := (HOP.out p e).1; omega) (GV.out.v.setT (v2 : Int)))
      dsimp only at GV
      generalize w6.setCell ⟨p, 1, none⟩ (.int .i64 (v2 : Int)) = W6 at *
      go_upto_region 8 with (first
        | (go_at_call 85; refine (K3.out _ bb g' RD.out).mono ?_; rintro e w7 ⟨rfl, rfl⟩)
        | (go_at_call 84; refine (K4.out _ B d hcd.out (HS3.out _ (HR.out _ GV.out.b))).mono ?_; rintro e w7 ⟨g7, rfl, h1, h2, h3⟩; have HP6 := Lib.hid GV.out.v.lt; have RD7 := Lib.hid h1; have HG7 := Lib.hid h2; have GV7 : Hid (GuV w w7 g7 q (gKey l) A1 m1 c1 L1 p _) := Lib.hid (GV.out.below (g' := g7) h3 (Nat.lt_trans HWP.out HP6.out) (Nat.lt_trans HQP.out HP6.out) (fun k e => Nat.lt_trans (HOP.out k e).1 HP6.out) HP6.out); have y1 := GV7.out.v.c2; have y2 := GV7.out.v.f2; clear h1 h2 h3)
        | fail)
      clear y1 y2
      have RD8 := Lib.hid (RD7.out.off (p := p) (by have := HP6.out; have := HG7.out; omega) (.inl HP6.out) 2 (.bool gn))
      have GV8 := Lib.hid (GV7.out.cell 2 (.bool gn) HWP.out (by have := HQP.out; omega) (fun e => by have := (HOP.out p e).1; omega) (GV7.out.v.set2 gn))
      dsimp only at GV8
      generalize w7.setCell ⟨p, 2, none⟩ (.bool gn) = W7 at *
      clear GV RD GV7 RD7
      go_upto_region 9 with (go_at_call 82; refine (K5.out _ _ g7 RD8.out).mono ?_; rintro e w8 ⟨rfl, h1, h2⟩; have RD9 := Lib.hid h1; have GV9 : Hid (GuV w w8 g7 q (gKey l) A1 m1 c1 L1 p _) := Lib.hid (GV8.out.below (g' := g7) h2 (by have := HWP.out; have := HP6.out; have := HG7.out; omega) (by have := HQP.out; have := HP6.out; have := HG7.out; omega) (fun k e => by have := (HOP.out k e).1; have := HP6.out; have := HG7.out; omega) (by have := HP6.out; have := HG7.out; omega)); have y1 := GV9.out.v.c3; have y2 := GV9.out.v.f3; clear h1 h2)
      clear y1 y2
      have RDA := Lib.hid (RD9.out.off (p := p) (by have := HP6.out; have := HG7.out; omega) (.inl HP6.out) 3 (.string vv))
      have GVA := Lib.hid (GV9.out.cell 3 (.string vv) HWP.out (by have := HQP.out; omega) (fun e => by have := (HOP.out p e).1; omega) (GV9.out.v.set3 vv))
      dsimp only at GVA
      generalize w8.setCell ⟨p, 3, none⟩ (.string vv) = W8 at *
      clear RD8 GV8 RD9 GV9
      have s1 := GVA.out.st.c1
      obtain ⟨y0, y1, y2, y3, _, _, _, _⟩ := GVA.out.v
      dsimp only at y0 y1 y2 y3
      have ZA := Lib.hid (show w.heap.size + 1 ≤ W8.heap.size from by have := GVA.out.v.lt; have := HWP.out; omega)
      obtain ⟨yv, hyv⟩ : ∃ yv : Vn, yv = ⟨(v1 : Int), (v2 : Int), gn, vv⟩ := ⟨_, rfl⟩
      have HYV := Lib.hid hyv
      rw [← hyv] at HNext GVA
      clear hyv
      have hk8 : k < 8 := by have := hN8.out; have := HLT.out; omega
      have hwk : IntKind.i64.wrap ((k : Int) + 1) = (k : Int) + 1 := by rw [IntKind.wrap_i64]; omega
      have HL9 := Lib.hid (show (L1 ++ [yv]).length = k + 1 from by simp [hLk])
      go_wp2_with (first
        | (at_builtin; (refine wpList_append_G tgV rfl (.tmp 38) (.tmp 40) rfl (w.heap.size + 1) _ L1 rfl (GVA.out.o.alloc _) (some ⟨W8.heap.size, 0, none⟩) 1 1 [yv] rfl rfl (by rw [HYV.out]; exact rgV_lit _ _ _) (Apart.flat vn_flat) (by have := hN8.out; simp; omega) (by have := ZA.out; simp; omega) ?_; intro v9 w9 o9 b9 g9 h9; obtain ⟨A9, c9, e9, h91, h92, h93, h94⟩ := o9.rg; rw [HL9.out] at e9 h91; subst e9; have NX := Lib.hid (GuW.next (s := (x4, f4)) GVA.out RDA.out HP6.out HG7.out HWP.out HQP.out HWQ.out HOP.out o9 b9 g9 h9 HL9.out h91); have SP := Lib.hid ((GVA.out.st.alloc (.cells #[.int .i64 (v1 : Int), .int .i64 (v2 : Int), .bool gn, .string vv] 66)).grown g9 (fun e => (HOP.out q e).2 rfl)); have t1 := SP.out.c1; have t2 := SP.out.f1; clear o9 b9 g9 h9 h91 h92 h93 h94))
        | fail)
      go_round
      case rel => exact ⟨k + 1, g7, A9, k + 1, c9, rfl, HLT.out, by have := HLT.out; have := hN8.out; go_num, by rw [HNext.out.1, HNext.out.2]; exact NX.out⟩
      case measure => have := HLT.out; have := hN8.out; simp [intOf]; omega
    · obtain rfl : k = N := by omega
      have HG := Lib.hid hG
      have s0 := hG.st.c0
      have s1 := hG.st.c1
      have r0 := hG.r.c0
      have r1 := hG.r.c1
      have g0 := hG.r.f0
      have g1 := hG.r.f1
      have P := Lib.hid (hG.r.put (gKey l) A1 m1 c1)
      clear hG
      go_wp2
      have z0 := P.out.c0; have z1 := P.out.c1
      have o4 := HG.out.o.setSt (q := w.heap.size) (by omega) (gKey l) (.slice A1 m1 c1)
      have b4 := belowSetSt (q := w.heap.size) HG.out.b (by omega) (gKey l) (.slice A1 m1 c1)
      unfold setSt at z0 z1 o4 b4
      refine bodyPost_ret (v := .agg #[.string (gKey l), .slice A1 m1 c1]) (by simp [results, Try.results43, go_sem, z0, z1]) rfl ⟨_, rfl, by rw [HList.out]; exact OG.lift (b := w.heap.size + 1) o4 (by omega), b4⟩
end Go.Proofs.Ytjmmaghjbaigiaa
