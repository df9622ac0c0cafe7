/- Slots: the bytes of a body are put. -/
import Derived.Test.YtlpobinmkedgeaaSlE
import Derived.Deep.OwnRows
import Derived.IntWalk
namespace Go.Proofs.Ytlpobinmkedgeaa
open Go.RowKit
set_option linter.unusedVariables false
set_option linter.unusedSimpArgs false
/-- 956 noughts. -/
def z956 : Array Value := (cellsB (List.replicate 956 0)).toArray
set_option maxRecDepth 100000 in
theorem infoW : (Try.prog.info? 50).map (fun i => (i.zero, i.size)) = some (some (.agg z956), 956) := by kernel_rfl
theorem run_zeroW (W : World) : (zeroValue 50).run Try.prog W = .ok (.agg z956) W := by
  have h := infoW
  cases hi : Try.prog.info? 50 with
  | none => rw [hi] at h; cases h
  | some i =>
    rw [hi] at h
    simp only [Option.map_some, Option.some.injEq, Prod.mk.injEq] at h
    simp [zeroValue, typeInfo, hi, h.1]
theorem typeW : Try.prog.underlying 50 = some (.array (Try.prog.arrayLen 50) (Try.prog.elem 50)) := by kernel_rfl
theorem lenW : Try.prog.arrayLen 50 = 956 := by kernel_rfl
theorem elemW : Try.prog.elem 50 = 5 := by kernel_rfl
theorem add_at (q l : Nat) : (⟨q, 0, none⟩ : Addr).add l = ⟨q, l, none⟩ := by cases l <;> simp [Addr.add]
/-- The array of 956 bytes, sliced from a place on, and up to one. -/
theorem slice_from (W : World) (q l : Nat) (z : Int) (hz : z = (l : Int)) (hl : l < 956) : (Instr.sliceAt 50 (.pointer (some ⟨q, 0, none⟩)) (some (.int .i64 z)) none none).run Try.prog W = .ok (.slice (some ⟨q, l, none⟩) (956 - l) (956 - l)) W := by
  subst hz
  rw [run_sliceAt_array_l W 50 ⟨q, 0, none⟩ typeW .i64 _ (by omega) (by rw [lenW]; omega), lenW, elemW]
  have hs : (sizeOf 5).run Try.prog W = .ok 1 W := by simp [go_sem]
  rw [hs]
  simp only [Result.andThen_ok, slicedAt, Int.toNat_natCast, Nat.mul_one]
  rw [if_neg (by omega), add_at]
theorem slice_fromto (W : World) (q l h : Nat) (z y : Int) (hz : z = (l : Int)) (hy : y = (h : Int)) (hl : l < 956) (hlh : l ≤ h) (hh : h ≤ 956) : (Instr.sliceAt 50 (.pointer (some ⟨q, 0, none⟩)) (some (.int .i64 z)) (some (.int .i64 y)) none).run Try.prog W = .ok (.slice (some ⟨q, l, none⟩) (h - l) (956 - l)) W := by
  subst hz hy
  rw [run_sliceAt_array_lh W 50 ⟨q, 0, none⟩ typeW .i64 .i64 _ _ (by omega) (by omega) (by rw [lenW]; omega), lenW, elemW]
  have hs : (sizeOf 5).run Try.prog W = .ok 1 W := by simp [go_sem]
  rw [hs]
  simp only [Result.andThen_ok, slicedAt, Int.toNat_natCast, Nat.mul_one]
  rw [if_neg (by omega), add_at]
theorem arr_z956 (w : World) : Arr (w.alloc (.cells z956 50)) w.heap.size 50 (List.replicate 956 0) := heap_alloc_last w _
/-- What the whole is behind a body's length and the body. -/
theorem all_splice (b : List UInt8) (h : b.length ≤ 954) : splice (((List.replicate 956 (0 : UInt8)).set 0 (UInt8.ofNat (b.length / 256))).set 1 (UInt8.ofNat b.length)) 2 b = allOf b := by
  have e : List.replicate 956 (0 : UInt8) = [0, 0] ++ (List.replicate b.length 0 ++ List.replicate (954 - b.length) 0) := by
    rw [List.replicate_append_replicate, show b.length + (954 - b.length) = 954 by omega]
    rfl
  rw [e]
  unfold splice allOf
  simp only [List.cons_append, List.nil_append, List.set_cons_zero, List.set_cons_succ, List.take_succ_cons, List.take_zero]
  rw [show 2 + b.length = b.length + 2 by omega]
  simp only [List.drop_succ_cons]
  rw [List.drop_left' (by simp)]
theorem infoRow : (Try.prog.info? 22).map (fun i => (i.zero, i.size, i.bytes)) = some (some (.slice none 0 0), 1, 24) := by kernel_rfl
/-- A block is a row of slices. -/
def Row (w : World) (g : Nat) (vs : List Value) : Prop := w.heap[g]? = some (.cells vs.toArray 22 (0, 0))
theorem made4 : madeCells #[Value.slice none 0 0] 4 = (List.replicate 4 (Value.slice none 0 0)).toArray := by kernel_rfl
theorem wpList_make_rows {w : World} {ops : Array Oper} {rest : List Oper} {o : Oper} {a : Act} {Q : Exit → Act → World → Prop} (hgd : o.guard = none) (s x : Operand)
    (ho : o.op = Op.makeSlice 24 s x) (hs : a.eval s = .int .i64 4) (hx : a.eval x = .int .i64 4)
    (h : ∀ w', Hid (Row w' w.heap.size (List.replicate 4 (.slice none 0 0))) → Below w.heap.size w w' → w'.heap.size = w.heap.size + 1 → (∀ k, k < w.heap.size → w'.heap[k]? = w.heap[k]?) → wpList Try.prog ops Q rest (a.put o.dst (.slice (some ⟨w.heap.size, 0, none⟩) 4 4)) w') : wpList Try.prog ops Q (o :: rest) a w := by
  obtain ⟨i0, hi, hz0, hz1, hz2⟩ := info_parts infoRow
  refine wpList_make_row w hgd s x 24 ho 22 i0 _ Try.underlying24 hi hz0 hz1 rfl .i64 .i64 4 hs hx (by rw [hz2]; decide) (by decide) ?_
  refine h _ (Lib.hid ?_) ((Below.refl _ w).alloc (Nat.le_refl _) _) (heap_size_alloc _ _) (fun k hk => Below.heap_alloc _ _ _ hk)
  unfold Row
  rw [heap_alloc_last, made4]
theorem wrap64 (x : Int) (h1 : -9223372036854775808 ≤ x) (h2 : x ≤ 9223372036854775807) : IntKind.i64.wrap x = x := by rw [IntKind.wrap_i64]; omega
theorem Row.at {w : World} {g : Nat} {vs : List Value} (h : Row w g vs) {k : Nat} {x : Value} (hk : vs[k]? = some x) :
    w.cell? ⟨g, k, none⟩ = some x ∧ w.frozen? ⟨g, k, none⟩ = false ∧ ∀ y, Row (w.setCell ⟨g, k, none⟩ y) g (vs.set k y) := by
  have h' : w.heap[g]? = some (.cells vs.toArray 22 (0, 0)) := h
  refine ⟨?_, by simp [World.frozen?, h'], fun y => ?_⟩
  · rw [cell_of_row w g k _ _ _ h]
    simp [hk]
  · unfold Row
    rw [heap_setCell_same w g k _ _ y h]
    simp
theorem Row.below {w w' : World} {g B : Nat} {vs : List Value} (h : Row w g vs) (hb : Below B w w') (hB : g < B) : Row w' g vs := (hb.block g hB).trans h
theorem Row.lt {w : World} {g : Nat} {vs : List Value} (h : Row w g vs) : g < w.heap.size := (Array.getElem?_eq_some_iff.1 h).1
theorem Row.only {w w' : World} {g q : Nat} {vs : List Value} (h : Row w q vs) (ho : OnlyB g w w') (hne : q ≠ g) : Row w' q vs := (ho.block q hne).trans h
theorem take_snocG {α : Type} {l : List α} {k : Nat} {x : α} (h : l[k]? = some x) : l.take (k + 1) = l.take k ++ [x] := by
  rw [List.take_add_one, h]; rfl
theorem set_rows {vs : List Value} {k : Nat} {y : Value} (hv : vs.length = k) (h : k < 4) : (vs ++ List.replicate (4 - k) (Value.slice none 0 0)).set k y = (vs ++ [y]) ++ List.replicate (4 - (k + 1)) (Value.slice none 0 0) := by
  subst hv
  rw [show 4 - vs.length = (4 - (vs.length + 1)) + 1 by omega, List.replicate_succ, List.set_append_right _ _ (Nat.le_refl _)]
  simp
/-- Between two sectors that are put. -/
def PutRel (w : World) (q : Nat) (X : List UInt8) (L : List (List UInt8)) (i : Value) (wr : World) : Prop :=
  ∃ (k : Nat) (vs : List Value), k ≤ 4 ∧ i = .int .i64 (k : Int) ∧ Arr wr w.heap.size 50 X ∧ Row wr q (vs ++ List.replicate (4 - k) (.slice none 0 0)) ∧ Rws wr (q + 1) vs (L.take k) ∧ Below w.heap.size w wr
theorem put_step {w wr w6 : World} {q k : Nat} {X S : List UInt8} {L : List (List UInt8)} {vs : List Value} {ad : Addr} {c : Nat} (hlt : k < 4) (hA : Arr wr w.heap.size 50 X) (hQ : Row wr q (vs ++ List.replicate (4 - k) (.slice none 0 0))) (hV : Rws wr (q + 1) vs (L.take k)) (hB : Below w.heap.size w wr)
    (hvl : vs.length = k) (hT : L.take (k + 1) = L.take k ++ [S]) (hc : S.length ≤ c) (hm : c ≤ maxLen) (hr : RB w6 (some ad) S) (b : Below wr.heap.size wr w6) (hl : wr.heap.size ≤ ad.block) (hg : ad.block < w6.heap.size) (hw : w.heap.size < q) :
    w6.cell? ⟨q, k, none⟩ = some (.slice none 0 0) ∧ w6.frozen? ⟨q, k, none⟩ = false ∧ PutRel w q X L (.int .i64 ((k + 1 : Nat) : Int)) (w6.setCell ⟨q, k, none⟩ (.slice (some ad) S.length c)) := by
  obtain ⟨h1, h2, h3⟩ := (hQ.below b hQ.lt).at (k := k) (x := .slice none 0 0) (by rw [List.getElem?_append_right (by omega), List.getElem?_replicate, if_pos (by omega)])
  refine ⟨h1, h2, k + 1, vs ++ [.slice (some ad) S.length c], by omega, rfl, ?_, ?_, ?_, ?_⟩
  · exact ((hA.below b hA.lt)).only (OnlyB.set q k w6 _) (by omega)
  · rw [← set_rows hvl hlt]
    exact h3 _
  · rw [hT]
    have hql := hQ.lt
    exact ((hV.below b).snoc hc hm hr (by omega) hg).only (OnlyB.set q k w6 _) (by omega)
  · exact (hB.trans (b.mono hB.size)).setCell (by show _ ≤ q; omega) _
set_option maxHeartbeats 2000000 in
set_option maxRecDepth 100000 in
theorem put_ok (g : Nat) (A : Option Addr) (n c : Nat) (b : List UInt8) (w : World) (h1 : 1 ≤ g) (h2 : g ≤ 1099511627776) (hb : b.length = n) (h3 : n ≤ 954) (hc : n ≤ c) (hr : RB w A b) :
    Calls Try.prog 8 #[.int .i64 (g : Int), .slice A n c] w fun e w' => ∃ ad, e = .returned (.tuple #[.slice (some ad) 4 4, .int .i64 0]) ∧ RBS w' (some ad) (putL g b) ∧ w.heap.size ≤ ad.block ∧ Below w.heap.size w w' := by
  have HL := Lib.hid hb
  have HR := Lib.hid hr
  clear hb hr
  go_enter Try.func8, Try.ntmps8
  have hz := run_zeroW w
  have A0 := Lib.hid (arr_z956 w)
  have HZ := Lib.hid (heap_size_alloc w (.cells z956 50))
  have B0 := Lib.hid ((Below.refl _ w).alloc (Nat.le_refl _) (.cells z956 50))
  go_upto_region 6 with (fail)
  clear hz
  generalize w.alloc (.cells z956 50) = W at *
  obtain ⟨c0, f0, s0⟩ := A0.out.at (k := 0) (x := 0) (by rw [List.getElem?_replicate]; rfl)
  obtain ⟨c1, f1, _⟩ := A0.out.at (k := 1) (x := 0) (by rw [List.getElem?_replicate]; rfl)
  have S0 := Lib.hid s0
  clear s0
  go_upto_region 7 with (fail)
  obtain ⟨W2, hW2⟩ : ∃ W2, W2 = ((W.setCell ⟨w.heap.size, 0, none⟩ (.int .u8 ((n : Int) / 256))).setCell ⟨w.heap.size, 1, none⟩ (.int .u8 ((n : Int) % 256))) := ⟨_, rfl⟩
  rw [← hW2]
  have A2 : Hid (Arr W2 w.heap.size 50 (((List.replicate 956 (0 : UInt8)).set 0 (UInt8.ofNat (b.length / 256))).set 1 (UInt8.ofNat b.length))) := Lib.hid (by
    rw [hW2, HL.out]
    exact ((S0.out (UInt8.ofNat (n / 256)) _ (by rw [toNat_of]; omega)).at (k := 1) (x := 0) (by rw [List.getElem?_set_ne (by omega), List.getElem?_replicate]; rfl)).2.2 _ _ (by rw [toNat_of]; omega))
  have B2 : Hid (Below w.heap.size w W2) := Lib.hid (by
    rw [hW2]
    exact (B0.out.setCell (Nat.le_refl _) _).setCell (Nat.le_refl _) _)
  have R2 := Lib.hid (HR.out.below B2.out)
  have HS := Lib.hid (all_splice b (by rw [HL.out]; omega))
  have X0 : Hid ((((List.replicate 956 (0 : UInt8)).set 0 (UInt8.ofNat (b.length / 256))).set 1 (UInt8.ofNat b.length)).length = 956) := Lib.hid (by simp)
  generalize (((List.replicate 956 (0 : UInt8)).set 0 (UInt8.ofNat (b.length / 256))).set 1 (UInt8.ofNat b.length)) = X at *
  clear hW2 c0 f0 c1 f1 S0 A0 HZ B0
  have h2 := slice_from W2 w.heap.size 2 2 rfl (by omega)
  go_upto_region 8 with (refine wpList_copy_arr rfl (.tmp 29) (.tmp 30) rfl (some ⟨w.heap.size, 2, none⟩) A 954 954 n c rfl rfl w.heap.size 2 50 X b b A2.out (by rw [HL.out]; exact (Nat.min_eq_left (by omega)).symm) R2.out (by simp) (fun _ => rfl) (by rw [HL.out, X0.out]; omega) ?_; intro w3 hw3 ho3)
  have A3 := hw3.out
  rw [HS.out] at A3
  have A3 := Lib.hid A3
  have B3 := Lib.hid (B2.out.trans (ho3.below (Nat.le_refl _)))
  have LA := Lib.hid (allOf_len (b := b) (by rw [HL.out]; omega))
  have HPL := Lib.hid (fun i (hi : i < 4) => putL_at g b hi)
  generalize allOf b = X2 at *
  clear hw3 ho3 h2 HS X0 A2 B2 R2 HR
  go_upto_region 10 with (at_make; refine wpList_make_rows rfl _ _ rfl rfl rfl ?_; intro w4 hr4 hb4 hs4 _)
  have A4 := Lib.hid (A3.out.same hb4)
  have B4 := Lib.hid (B3.out.trans (hb4.mono B3.out.size))
  have ST : Hid (PutRel w w3.heap.size X2 (putL g b) (.int .i64 ((0 : Nat) : Int)) w4) := Lib.hid ⟨0, [], by omega, rfl, A4.out, hr4.out, Rws.nil, B4.out⟩
  have hq : Hid (w.heap.size < w3.heap.size) := Lib.hid A3.out.lt
  have KS := Lib.hid (fun W => stampOf_any g W h2)
  clear A4 B4 A3 B3 hr4 hb4 hs4
  generalize w3.heap.size = q at *
  go_wp2
  go_loopw [8, 35] (fun _ i wr => PutRel w q X2 (putL g b) i wr) (fun _ i _ => 4 - (intOf i).toNat)
  case atStart => exact ST.out
  case round =>
    obtain ⟨k, vs, hk, rfl, hA, hQ, hV, hB⟩ := hrel
    by_cases hlt : k < 4
    · have hX : (putL g b)[k]? = some (sec g k (partOf X2 k)) := HPL.out k hlt
      have HPR := Lib.hid (hA.reads.drop (k * 239))
      have hA' := Lib.hid hA
      have hQ' := Lib.hid hQ
      have hV' := Lib.hid hV
      have hB' := Lib.hid hB
      have hvl : vs.length = k := by rw [hV.1, List.length_take, putL_len]; omega
      have HVL := Lib.hid hvl
      have HT := Lib.hid (take_snocG hX)
      have HPN := Lib.hid (partOf_len (l := X2) LA.out hlt)
      have HRP : Hid (∀ W, Below wr.heap.size wr W → RB W (some ⟨w.heap.size, k * 239, none⟩) (partOf X2 k)) := Lib.hid (fun W hW => by
        have h5 := ((hA.reads.drop (k * 239)).take 239).below hW
        rw [add_at] at h5
        exact h5)
      have HSE : Hid (st g ++ [UInt8.ofNat k] ++ partOf X2 k ++ st g = sec g k (partOf X2 k)) := rfl
      have HSL := Lib.hid (sec_len (g := g) (i := k) HPN.out)
      have KL := Lib.hid (fun W (hW : Below wr.heap.size wr W) => lay_any (st g) k (some ⟨w.heap.size, k * 239, none⟩) 239 (956 - k * 239) (partOf X2 k) W (st_len g) (by omega) HPN.out (by omega) (HRP.out W hW))
      rw [HSE.out] at KL
      generalize sec g k (partOf X2 k) = S at *
      generalize partOf X2 k = Pt at *
      have KF : ∀ W, (Instr.sliceAt 50 (.pointer (some ⟨w.heap.size, 0, none⟩)) (some (.int .i64 ((k : Int) * 239))) (some (.int .i64 (((k : Int) + 1) * 239))) none).run Try.prog W = .ok (.slice (some ⟨w.heap.size, k * 239, none⟩) 239 (956 - k * 239)) W := fun W => by
        have h5 := slice_fromto W w.heap.size (k * 239) ((k + 1) * 239) ((k : Int) * 239) (((k : Int) + 1) * 239) (by omega) (by omega) (by omega) (by omega) (by omega)
        rw [show (k + 1) * 239 - k * 239 = 239 by omega] at h5
        exact h5
      have q1 : IntKind.i64.wrap ((k : Int) * 239) = (k : Int) * 239 := wrap64 _ (by omega) (by omega)
      have q2 : IntKind.i64.wrap ((k : Int) + 1) = (k : Int) + 1 := wrap64 _ (by omega) (by omega)
      have q3 : IntKind.i64.wrap (((k : Int) + 1) * 239) = ((k : Int) + 1) * 239 := wrap64 _ (by omega) (by omega)
      clear hX HPR hA hQ hV hB hvl HSE LA HPL
      go_upto_region 12 with (fail)
      have HNX := Lib.hid (fun w5 w6 (b5 : Below wr.heap.size wr w5) ad6 c6 (hc6 : S.length ≤ c6) (hm6 : c6 ≤ maxLen) (r6 : RB w6 (some ad6) S) (hl6 : w5.heap.size ≤ ad6.block) (hg6 : ad6.block < w6.heap.size) (b6 : Below w5.heap.size w5 w6) =>
        put_step hlt hA'.out hQ'.out hV'.out hB'.out HVL.out HT.out hc6 hm6 r6 (b5.trans (b6.mono b5.size)) (Nat.le_trans b5.size hl6) hg6 hq.out)
      have S0 : Hid (0 < S.length) := Lib.hid (by rw [HSL.out]; omega)
      go_region_with (first
        | (go_at_call 20; refine (KS.out _).mono ?_; rintro e w5 ⟨rfl, b5⟩)
        | (go_at_call 19; refine (KL.out _ ((Below.refl _ wr).drew.trans b5)).mono ?_; rintro e w6 ⟨v6, rfl, o6, b6⟩; obtain ⟨ad6, c6, rfl, hc6, hm6, r6, hl6, hg6⟩ := o6.row S0.out; obtain ⟨cq, fq, nx⟩ := HNX.out w5 w6 ((Below.refl _ wr).drew.trans b5) ad6 c6 hc6 hm6 r6 hl6 hg6 b6; have NX := Lib.hid nx; clear nx o6 b6 hc6 hm6 r6 hl6 hg6)
        | fail)
      all_goals
        go_wp2
        go_roundw
        case rel => exact NX.out
        case measure => simp [intOf]; omega
    · obtain rfl : k = 4 := by omega
      have hV' := Lib.hid hV
      have hQ' := Lib.hid hQ
      have hB' := Lib.hid hB
      clear hA hQ hV hB
      go_wp2
      go_ret2
      refine ⟨⟨q, 0, none⟩, rfl, ?_, Nat.le_of_lt hq.out, hB'.out⟩
      have h5 := hV'.out.rbs hQ'.out
      rw [List.take_of_length_le (by rw [putL_len]; exact Nat.le_refl _)] at h5
      exact h5
end Go.Proofs.Ytlpobinmkedgeaa
