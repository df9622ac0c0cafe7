/- Joined: SlF SlC SlG SlH. -/
import Derived.Test.YtegjeijiekggdaaGreatDoorM13
import Derived.Deep.OwnRows
import Derived.IntWalk
import Derived.OrdersHeld
section
/- Slots: the bytes of a body are put. -/
namespace Go.Proofs.YtegjeijiekggdaaGreatDoor
open Go.RowKit
set_option linter.unusedVariables false
set_option linter.unusedSimpArgs false
/-- 956 noughts. -/
def z956 : Array Value := (cellsB (List.replicate 956 0)).toArray
set_option maxRecDepth 100000 in
theorem infoW : (Tryz.prog.info? 200).map (fun i => (i.zero, i.size)) = some (some (.agg z956), 956) := by kernel_rfl
theorem run_zeroW (W : World) : (zeroValue 200).run Tryz.prog W = .ok (.agg z956) W := by
  have h := infoW
  cases hi : Tryz.prog.info? 200 with
  | none => rw [hi] at h; cases h
  | some i =>
    rw [hi] at h
    simp only [Option.map_some, Option.some.injEq, Prod.mk.injEq] at h
    simp [zeroValue, typeInfo, hi, h.1]
theorem typeW : Tryz.prog.underlying 200 = some (.array (Tryz.prog.arrayLen 200) (Tryz.prog.elem 200)) := by kernel_rfl
theorem lenW : Tryz.prog.arrayLen 200 = 956 := by kernel_rfl
theorem elemW : Tryz.prog.elem 200 = 5 := by kernel_rfl
theorem add_at (q l : Nat) : (⟨q, 0, none⟩ : Addr).add l = ⟨q, l, none⟩ := by cases l <;> simp [Addr.add]
/-- The array of 956 bytes, sliced from a place on, and up to one. -/
theorem slice_from (W : World) (q l : Nat) (z : Int) (hz : z = (l : Int)) (hl : l < 956) : (Instr.sliceAt 200 (.pointer (some ⟨q, 0, none⟩)) (some (.int .i64 z)) none none).run Tryz.prog W = .ok (.slice (some ⟨q, l, none⟩) (956 - l) (956 - l)) W := by
  subst hz
  rw [run_sliceAt_array_l W 200 ⟨q, 0, none⟩ typeW .i64 _ (by omega) (by rw [lenW]; omega), lenW, elemW]
  have hs : (sizeOf 5).run Tryz.prog W = .ok 1 W := by simp [go_sem]
  rw [hs]
  simp only [Result.andThen_ok, slicedAt, Int.toNat_natCast, Nat.mul_one]
  rw [if_neg (by omega), add_at]
theorem slice_fromto (W : World) (q l h : Nat) (z y : Int) (hz : z = (l : Int)) (hy : y = (h : Int)) (hl : l < 956) (hlh : l ≤ h) (hh : h ≤ 956) : (Instr.sliceAt 200 (.pointer (some ⟨q, 0, none⟩)) (some (.int .i64 z)) (some (.int .i64 y)) none).run Tryz.prog W = .ok (.slice (some ⟨q, l, none⟩) (h - l) (956 - l)) W := by
  subst hz hy
  rw [run_sliceAt_array_lh W 200 ⟨q, 0, none⟩ typeW .i64 .i64 _ _ (by omega) (by omega) (by rw [lenW]; omega), lenW, elemW]
  have hs : (sizeOf 5).run Tryz.prog W = .ok 1 W := by simp [go_sem]
  rw [hs]
  simp only [Result.andThen_ok, slicedAt, Int.toNat_natCast, Nat.mul_one]
  rw [if_neg (by omega), add_at]
theorem arr_z956 (w : World) : slArr (w.alloc (.cells z956 200)) w.heap.size 200 (List.replicate 956 0) := heap_alloc_last w _
/-- What the whole is behind a body's length and the body. -/
theorem all_splice (b : List UInt8) (h : b.length ≤ 954) : splice (((List.replicate 956 (0 : UInt8)).set 0 (UInt8.ofNat (b.length / 256))).set 1 (UInt8.ofNat b.length)) 2 b = allOf b := by
  have e : List.replicate 956 (0 : UInt8) = [0, 0] ++ (List.replicate b.length 0 ++ List.replicate (954 - b.length) 0) := by
    rw [List.replicate_append_replicate, show b.length + (954 - b.length) = 954 by omega]
    rfl
  rw [e]
  unfold splice allOf
  simp only [List.cons_append, List.nil_append, List.set_cons_zero, List.set_cons_succ, List.take_succ_cons, List.take_zero]
  rw [show 2 + b.length = b.length + 2 by omega]
  simp only [List.drop_succ_cons]
  rw [List.drop_left' (by simp)]
theorem infoRow : (Tryz.prog.info? 29).map (fun i => (i.zero, i.size, i.bytes)) = some (some (.slice none 0 0), 1, 24) := by kernel_rfl
/-- A block is a row of slices. -/
def Row (w : World) (g : Nat) (vs : List Value) : Prop := w.heap[g]? = some (.cells vs.toArray 29 (0, 0))
theorem made4 : madeCells #[Value.slice none 0 0] 4 = (List.replicate 4 (Value.slice none 0 0)).toArray := by kernel_rfl
theorem wpList_make_rows {w : World} {ops : Array Oper} {rest : List Oper} {o : Oper} {a : Act} {Q : Exit → Act → World → Prop} (hgd : o.guard = none) (s x : Operand)
    (ho : o.op = Op.makeSlice 111 s x) (hs : a.eval s = .int .i64 4) (hx : a.eval x = .int .i64 4)
    (h : ∀ w', Hid (Row w' w.heap.size (List.replicate 4 (.slice none 0 0))) → Below w.heap.size w w' → w'.heap.size = w.heap.size + 1 → (∀ k, k < w.heap.size → w'.heap[k]? = w.heap[k]?) → wpList Tryz.prog ops Q rest (a.put o.dst (.slice (some ⟨w.heap.size, 0, none⟩) 4 4)) w') : wpList Tryz.prog ops Q (o :: rest) a w := by
  obtain ⟨i0, hi, hz0, hz1, hz2⟩ := info_parts infoRow
  refine wpList_make_row w hgd s x 111 ho 29 i0 _ Tryz.underlying111 hi hz0 hz1 rfl .i64 .i64 4 hs hx (by rw [hz2]; decide) (by decide) ?_
  refine h _ (Lib.hid ?_) ((Below.refl _ w).alloc (Nat.le_refl _) _) (heap_size_alloc _ _) (fun k hk => Below.heap_alloc _ _ _ hk)
  unfold Row
  rw [heap_alloc_last, made4]
theorem slWrap64 (x : Int) (h1 : -9223372036854775808 ≤ x) (h2 : x ≤ 9223372036854775807) : IntKind.i64.wrap x = x := by rw [IntKind.wrap_i64]; omega
theorem Row.at {w : World} {g : Nat} {vs : List Value} (h : Row w g vs) {k : Nat} {x : Value} (hk : vs[k]? = some x) :
    w.cell? ⟨g, k, none⟩ = some x ∧ w.frozen? ⟨g, k, none⟩ = false ∧ ∀ y, Row (w.setCell ⟨g, k, none⟩ y) g (vs.set k y) := by
  have h' : w.heap[g]? = some (.cells vs.toArray 29 (0, 0)) := h
  refine ⟨?_, by simp [World.frozen?, h'], fun y => ?_⟩
  · rw [cell_of_row w g k _ _ _ h]
    simp [hk]
  · unfold Row
    rw [heap_setCell_same w g k _ _ y h]
    simp
theorem Row.below {w w' : World} {g B : Nat} {vs : List Value} (h : Row w g vs) (hb : Below B w w') (hB : g < B) : Row w' g vs := (hb.block g hB).trans h
theorem Row.lt {w : World} {g : Nat} {vs : List Value} (h : Row w g vs) : g < w.heap.size := (Array.getElem?_eq_some_iff.1 h).1
theorem Row.only {w w' : World} {g q : Nat} {vs : List Value} (h : Row w q vs) (ho : slOnlyB g w w') (hne : q ≠ g) : Row w' q vs := (ho.block q hne).trans h
theorem take_snocG {α : Type} {l : List α} {k : Nat} {x : α} (h : l[k]? = some x) : l.take (k + 1) = l.take k ++ [x] := by
  rw [List.take_add_one, h]; rfl
theorem set_rows {vs : List Value} {k : Nat} {y : Value} (hv : vs.length = k) (h : k < 4) : (vs ++ List.replicate (4 - k) (Value.slice none 0 0)).set k y = (vs ++ [y]) ++ List.replicate (4 - (k + 1)) (Value.slice none 0 0) := by
  subst hv
  rw [show 4 - vs.length = (4 - (vs.length + 1)) + 1 by omega, List.replicate_succ, List.set_append_right _ _ (Nat.le_refl _)]
  simp
/-- Between two sectors that are put. -/
def PutRel (w : World) (q : Nat) (X : List UInt8) (L : List (List UInt8)) (i : Value) (wr : World) : Prop :=
  ∃ (k : Nat) (vs : List Value), k ≤ 4 ∧ i = .int .i64 (k : Int) ∧ slArr wr w.heap.size 200 X ∧ Row wr q (vs ++ List.replicate (4 - k) (.slice none 0 0)) ∧ Rws wr (q + 1) vs (L.take k) ∧ Below w.heap.size w wr
theorem put_step {w wr w6 : World} {q k : Nat} {X S : List UInt8} {L : List (List UInt8)} {vs : List Value} {ad : Addr} {c : Nat} (hlt : k < 4) (hA : slArr wr w.heap.size 200 X) (hQ : Row wr q (vs ++ List.replicate (4 - k) (.slice none 0 0))) (hV : Rws wr (q + 1) vs (L.take k)) (hB : Below w.heap.size w wr)
    (hvl : vs.length = k) (hT : L.take (k + 1) = L.take k ++ [S]) (hc : S.length ≤ c) (hm : c ≤ maxLen) (hr : RB w6 (some ad) S) (b : Below wr.heap.size wr w6) (hl : wr.heap.size ≤ ad.block) (hg : ad.block < w6.heap.size) (hw : w.heap.size < q) :
    w6.cell? ⟨q, k, none⟩ = some (.slice none 0 0) ∧ w6.frozen? ⟨q, k, none⟩ = false ∧ PutRel w q X L (.int .i64 ((k + 1 : Nat) : Int)) (w6.setCell ⟨q, k, none⟩ (.slice (some ad) S.length c)) := by
  obtain ⟨h1, h2, h3⟩ := (hQ.below b hQ.lt).at (k := k) (x := .slice none 0 0) (by rw [List.getElem?_append_right (by omega), List.getElem?_replicate, if_pos (by omega)])
  refine ⟨h1, h2, k + 1, vs ++ [.slice (some ad) S.length c], by omega, rfl, ?_, ?_, ?_, ?_⟩
  · exact ((hA.below b hA.lt)).only (slOnlyB.set q k w6 _) (by omega)
  · rw [← set_rows hvl hlt]
    exact h3 _
  · rw [hT]
    have hql := hQ.lt
    exact ((hV.below b).snoc hc hm hr (by omega) hg).only (slOnlyB.set q k w6 _) (by omega)
  · exact (hB.trans (b.mono hB.size)).setCell (by show _ ≤ q; omega) _
set_option maxHeartbeats 2000000 in
set_option maxRecDepth 100000 in
theorem put_ok (g : Nat) (A : Option Addr) (n c : Nat) (b : List UInt8) (w : World) (h1 : 1 ≤ g) (h2 : g ≤ 1099511627776) (hb : b.length = n) (h3 : n ≤ 954) (hc : n ≤ c) (hr : RB w A b) :
    Calls Tryz.prog 114 #[.int .i64 (g : Int), .slice A n c] w fun e w' => ∃ ad, e = .returned (.tuple #[.slice (some ad) 4 4, .int .i64 0]) ∧ RBS w' (some ad) (putL g b) ∧ w.heap.size ≤ ad.block ∧ Below w.heap.size w w' := by
  have HL := Lib.hid hb
  have HR := Lib.hid hr
  clear hb hr
  go_enter Tryz.func114, Tryz.ntmps114
  have hz := run_zeroW w
  have A0 := Lib.hid (arr_z956 w)
  have HZ := Lib.hid (heap_size_alloc w (.cells z956 200))
  have B0 := Lib.hid ((Below.refl _ w).alloc (Nat.le_refl _) (.cells z956 200))
  go_upto_region 6 with (fail)
  clear hz
  generalize w.alloc (.cells z956 200) = W at *
  obtain ⟨c0, f0, s0⟩ := A0.out.at (k := 0) (x := 0) (by rw [List.getElem?_replicate]; rfl)
  obtain ⟨c1, f1, _⟩ := A0.out.at (k := 1) (x := 0) (by rw [List.getElem?_replicate]; rfl)
  have S0 := Lib.hid s0
  clear s0
  go_upto_region 7 with (fail)
  obtain ⟨W2, hW2⟩ : ∃ W2, W2 = ((W.setCell ⟨w.heap.size, 0, none⟩ (.int .u8 ((n : Int) / 256))).setCell ⟨w.heap.size, 1, none⟩ (.int .u8 ((n : Int) % 256))) := ⟨_, rfl⟩
  rw [← hW2]
  have A2 : Hid (slArr W2 w.heap.size 200 (((List.replicate 956 (0 : UInt8)).set 0 (UInt8.ofNat (b.length / 256))).set 1 (UInt8.ofNat b.length))) := Lib.hid (by
    rw [hW2, HL.out]
    exact ((S0.out (UInt8.ofNat (n / 256)) _ (by rw [toNat_of]; omega)).at (k := 1) (x := 0) (by rw [List.getElem?_set_ne (by omega), List.getElem?_replicate]; rfl)).2.2 _ _ (by rw [toNat_of]; omega))
  have B2 : Hid (Below w.heap.size w W2) := Lib.hid (by
    rw [hW2]
    exact (B0.out.setCell (Nat.le_refl _) _).setCell (Nat.le_refl _) _)
  have R2 := Lib.hid (HR.out.below B2.out)
  have HS := Lib.hid (all_splice b (by rw [HL.out]; omega))
  have X0 : Hid ((((List.replicate 956 (0 : UInt8)).set 0 (UInt8.ofNat (b.length / 256))).set 1 (UInt8.ofNat b.length)).length = 956) := Lib.hid (by simp)
  generalize (((List.replicate 956 (0 : UInt8)).set 0 (UInt8.ofNat (b.length / 256))).set 1 (UInt8.ofNat b.length)) = X at *
  clear hW2 c0 f0 c1 f1 S0 A0 HZ B0
  have h2 := slice_from W2 w.heap.size 2 2 rfl (by omega)
  go_upto_region 8 with (refine slWpList_copy_arr rfl (.tmp 29) (.tmp 30) rfl (some ⟨w.heap.size, 2, none⟩) A 954 954 n c rfl rfl w.heap.size 2 200 X b b A2.out (by rw [HL.out]; exact (Nat.min_eq_left (by omega)).symm) R2.out (by simp) (fun _ => rfl) (by rw [HL.out, X0.out]; omega) ?_; intro w3 hw3 ho3)
  have A3 := hw3.out
  rw [HS.out] at A3
  have A3 := Lib.hid A3
  have B3 := Lib.hid (B2.out.trans (ho3.below (Nat.le_refl _)))
  have LA := Lib.hid (allOf_len (b := b) (by rw [HL.out]; omega))
  have HPL := Lib.hid (fun i (hi : i < 4) => putL_at g b hi)
  generalize allOf b = X2 at *
  clear hw3 ho3 h2 HS X0 A2 B2 R2 HR
  go_upto_region 10 with (at_make; refine wpList_make_rows rfl _ _ rfl rfl rfl ?_; intro w4 hr4 hb4 hs4 _)
  have A4 := Lib.hid (A3.out.same hb4)
  have B4 := Lib.hid (B3.out.trans (hb4.mono B3.out.size))
  have ST : Hid (PutRel w w3.heap.size X2 (putL g b) (.int .i64 ((0 : Nat) : Int)) w4) := Lib.hid ⟨0, [], by omega, rfl, A4.out, hr4.out, Rws.nil, B4.out⟩
  have hq : Hid (w.heap.size < w3.heap.size) := Lib.hid A3.out.lt
  have KS := Lib.hid (fun W => stampOf_any g W h2)
  clear A4 B4 A3 B3 hr4 hb4 hs4
  generalize w3.heap.size = q at *
  go_wp2
  go_loopw [8, 35] (fun _ i wr => PutRel w q X2 (putL g b) i wr) (fun _ i _ => 4 - (intOf i).toNat)
  case atStart => exact ST.out
  case round =>
    obtain ⟨k, vs, hk, rfl, hA, hQ, hV, hB⟩ := hrel
    by_cases hlt : k < 4
    · have hX : (putL g b)[k]? = some (sec g k (partOf X2 k)) := HPL.out k hlt
      have HPR := Lib.hid (hA.reads.drop (k * 239))
      have hA' := Lib.hid hA
      have hQ' := Lib.hid hQ
      have hV' := Lib.hid hV
      have hB' := Lib.hid hB
      have hvl : vs.length = k := by rw [hV.1, List.length_take, putL_len]; omega
      have HVL := Lib.hid hvl
      have HT := Lib.hid (take_snocG hX)
      have HPN := Lib.hid (partOf_len (l := X2) LA.out hlt)
      have HRP : Hid (∀ W, Below wr.heap.size wr W → RB W (some ⟨w.heap.size, k * 239, none⟩) (partOf X2 k)) := Lib.hid (fun W hW => by
        have h5 := ((hA.reads.drop (k * 239)).take 239).below hW
        rw [add_at] at h5
        exact h5)
      have HSE : Hid (st g ++ [UInt8.ofNat k] ++ partOf X2 k ++ st g = sec g k (partOf X2 k)) := rfl
      have HSL := Lib.hid (sec_len (g := g) (i := k) HPN.out)
      have KL := Lib.hid (fun W (hW : Below wr.heap.size wr W) => lay_any (st g) k (some ⟨w.heap.size, k * 239, none⟩) 239 (956 - k * 239) (partOf X2 k) W (st_len g) (by omega) HPN.out (by omega) (HRP.out W hW))
      rw [HSE.out] at KL
      generalize sec g k (partOf X2 k) = S at *
      generalize partOf X2 k = Pt at *
      have KF : ∀ W, (Instr.sliceAt 200 (.pointer (some ⟨w.heap.size, 0, none⟩)) (some (.int .i64 ((k : Int) * 239))) (some (.int .i64 (((k : Int) + 1) * 239))) none).run Tryz.prog W = .ok (.slice (some ⟨w.heap.size, k * 239, none⟩) 239 (956 - k * 239)) W := fun W => by
        have h5 := slice_fromto W w.heap.size (k * 239) ((k + 1) * 239) ((k : Int) * 239) (((k : Int) + 1) * 239) (by omega) (by omega) (by omega) (by omega) (by omega)
        rw [show (k + 1) * 239 - k * 239 = 239 by omega] at h5
        exact h5
      have q1 : IntKind.i64.wrap ((k : Int) * 239) = (k : Int) * 239 := slWrap64 _ (by omega) (by omega)
      have q2 : IntKind.i64.wrap ((k : Int) + 1) = (k : Int) + 1 := slWrap64 _ (by omega) (by omega)
      have q3 : IntKind.i64.wrap (((k : Int) + 1) * 239) = ((k : Int) + 1) * 239 := slWrap64 _ (by omega) (by omega)
      clear hX HPR hA hQ hV hB hvl HSE LA HPL
      go_upto_region 12 with (fail)
      have HNX := Lib.hid (fun w5 w6 (b5 : Below wr.heap.size wr w5) ad6 c6 (hc6 : S.length ≤ c6) (hm6 : c6 ≤ maxLen) (r6 : RB w6 (some ad6) S) (hl6 : w5.heap.size ≤ ad6.block) (hg6 : ad6.block < w6.heap.size) (b6 : Below w5.heap.size w5 w6) =>
        put_step hlt hA'.out hQ'.out hV'.out hB'.out HVL.out HT.out hc6 hm6 r6 (b5.trans (b6.mono b5.size)) (Nat.le_trans b5.size hl6) hg6 hq.out)
      have S0 : Hid (0 < S.length) := Lib.hid (by rw [HSL.out]; omega)
      go_region_with (first
        | (go_at_call 152; refine (KS.out _).mono ?_; rintro e w5 ⟨rfl, b5⟩)
        | (go_at_call 151; refine (KL.out _ ((Below.refl _ wr).drew.trans b5)).mono ?_; rintro e w6 ⟨v6, rfl, o6, b6⟩; obtain ⟨ad6, c6, rfl, hc6, hm6, r6, hl6, hg6⟩ := o6.row S0.out; obtain ⟨cq, fq, nx⟩ := HNX.out w5 w6 ((Below.refl _ wr).drew.trans b5) ad6 c6 hc6 hm6 r6 hl6 hg6 b6; have NX := Lib.hid nx; clear nx o6 b6 hc6 hm6 r6 hl6 hg6)
        | fail)
      all_goals
        go_wp2
        go_roundw
        case rel => exact NX.out
        case measure => simp [intOf]; omega
    · obtain rfl : k = 4 := by omega
      have hV' := Lib.hid hV
      have hQ' := Lib.hid hQ
      have hB' := Lib.hid hB
      clear hA hQ hV hB
      go_wp2
      go_ret2
      refine ⟨⟨q, 0, none⟩, rfl, ?_, Nat.le_of_lt hq.out, hB'.out⟩
      have h5 := hV'.out.rbs hQ'.out
      rw [List.take_of_length_le (by rw [putL_len]; exact Nat.le_refl _)] at h5
      exact h5
end Go.Proofs.YtegjeijiekggdaaGreatDoor
end
section
/- Slots: what a sector's stamp tells. -/
namespace Go.Proofs.YtegjeijiekggdaaGreatDoor
open Go.RowKit
set_option linter.unusedVariables false
set_option linter.unusedSimpArgs false
theorem equalIn_u8 (d : Nat) (w : World) (a b : Int) : (Op.equalIn (d + 1) 5 (.int .u8 a) (.int .u8 b)).run Tryz.prog w = .ok (a == b) w := by
  simp [Op.equalIn, run_underlying Tryz.underlying5, go_sem]
def eqI : List Int → List Int → Bool
  | [], _ => true
  | _ :: _, [] => true
  | a :: x, b :: y => (a == b) && eqI x y
theorem equalIn_st (d : Nat) (w : World) (a0 a1 a2 a3 a4 a5 a6 a7 b0 b1 b2 b3 b4 b5 b6 b7 : Int) :
    (Op.equalIn (d + 2) 209 (.agg #[.int .u8 a0, .int .u8 a1, .int .u8 a2, .int .u8 a3, .int .u8 a4, .int .u8 a5, .int .u8 a6, .int .u8 a7]) (.agg #[.int .u8 b0, .int .u8 b1, .int .u8 b2, .int .u8 b3, .int .u8 b4, .int .u8 b5, .int .u8 b6, .int .u8 b7])).run Tryz.prog w
      = .ok (eqI [a0, a1, a2, a3, a4, a5, a6, a7] [b0, b1, b2, b3, b4, b5, b6, b7]) w := by
  have hu : Tryz.prog.underlying 209 = some (.array (Tryz.prog.arrayLen 209) (Tryz.prog.elem 209)) := by kernel_rfl
  have hl : Tryz.prog.arrayLen 209 = 8 := by kernel_rfl
  have he : Tryz.prog.elem 209 = 5 := by kernel_rfl
  rw [hl, he] at hu
  have hs : ∀ w, (sizeOf 5).run Tryz.prog w = .ok 1 w := fun w => by simp [go_sem]
  have hag : ∀ w, (isAgg 5).run Tryz.prog w = .ok false w := fun w => by simp [go_sem]
  rw [Op.equalIn]
  simp only [Sem.run_bind, run_underlying hu, Result.andThen_ok, hs]
  rw [Std.Legacy.Range.forIn_eq_forIn_range']
  simp [Std.Legacy.Range.size, List.range', part, hag, hs, equalIn_u8, eqI, go_sem]
  (repeat' split) <;> simp_all
theorem eqI_eq (a b : List UInt8) (h : a.length = b.length) : eqI (a.map fun x => (x.toNat : Int)) (b.map fun x => (x.toNat : Int)) = decide (a = b) := by
  induction a generalizing b with
  | nil =>
    obtain rfl : b = [] := List.eq_nil_of_length_eq_zero h.symm
    rfl
  | cons x a ih =>
    cases b with
    | nil => simp at h
    | cons y b =>
      simp only [List.map_cons, eqI]
      rw [ih b (by simpa using h), Bool.eq_iff_iff]
      simp only [Bool.and_eq_true, beq_iff_eq, decide_eq_true_eq, List.cons.injEq]
      constructor
      · rintro ⟨h1, h2⟩
        exact ⟨UInt8.toNat_inj.1 (by omega), h2⟩
      · rintro ⟨h1, h2⟩
        exact ⟨by rw [h1], h2⟩
theorem run_equal_st (w : World) (a b : List UInt8) (ha : a.length = 8) (hb : b.length = 8) : (Op.equalIn 10000 209 (.agg (cellsB a).toArray) (.agg (cellsB b).toArray)).run Tryz.prog w = .ok (decide (a = b)) w := by
  have h := eqI_eq a b (by omega)
  obtain ⟨a0, a1, a2, a3, a4, a5, a6, a7, rfl⟩ := slList8 a ha
  obtain ⟨b0, b1, b2, b3, b4, b5, b6, b7, rfl⟩ := slList8 b hb
  have h1 := equalIn_st 9998 w a0.toNat a1.toNat a2.toNat a3.toNat a4.toNat a5.toNat a6.toNat a7.toNat b0.toNat b1.toNat b2.toNat b3.toNat b4.toNat b5.toNat b6.toNat b7.toNat
  rw [show ([(a0.toNat : Int), a1.toNat, a2.toNat, a3.toNat, a4.toNat, a5.toNat, a6.toNat, a7.toNat]) = [a0, a1, a2, a3, a4, a5, a6, a7].map (fun x => (x.toNat : Int)) from rfl, show ([(b0.toNat : Int), b1.toNat, b2.toNat, b3.toNat, b4.toNat, b5.toNat, b6.toNat, b7.toNat]) = [b0, b1, b2, b3, b4, b5, b6, b7].map (fun x => (x.toNat : Int)) from rfl, h] at h1
  exact h1
theorem slSetCells_row {w : World} {g o : Nat} {cur : Array Value} {t : TypeId} {vs : List Value} (hg : w.heap[g]? = some (.cells cur t (0, 0))) (hfit : o + vs.length ≤ cur.size) (h1 : ∀ v ∈ vs, v.oneCell' = true) :
    (w.setCells g o vs).heap[g]? = some (.cells (cur.toList.take o ++ vs ++ cur.toList.drop (o + vs.length)).toArray t (0, 0)) ∧ w.grownBy (w.setCells g o vs) (some g) := by
  have a := run_storeCells_at Tryz.prog g o t vs 0 cur w hg (by omega) h1
  have b := run_storeCells_cells (P := Tryz.prog) g o vs 0 w (fun j hj => by simp [World.cell?, hg]; omega) (fun j hj => by simp [World.frozen?, hg]) h1
  rw [a] at b
  simp only [Nat.add_zero] at b
  injection b with _ b
  rw [← b]
  exact ⟨setRow_heap w g cur _ _ _ hg, ⟨rfl, rfl, rfl, by simp, fun k _ hk => setRow_other w g k _ (fun e => hk (by rw [e]))⟩⟩
theorem slSetCells_eq {w : World} {g o : Nat} {cur : Array Value} {t : TypeId} {vs : List Value} (hg : w.heap[g]? = some (.cells cur t (0, 0))) (hfit : o + vs.length ≤ cur.size) (h1 : ∀ v ∈ vs, v.oneCell' = true) :
    w.setCells g o vs = w.setRow g (cur.toList.take o ++ vs ++ cur.toList.drop (o + vs.length)).toArray := by
  have a := run_storeCells_at Tryz.prog g o t vs 0 cur w hg (by omega) h1
  have b := run_storeCells_cells (P := Tryz.prog) g o vs 0 w (fun j hj => by simp [World.cell?, hg]; omega) (fun j hj => by simp [World.frozen?, hg]) h1
  rw [a] at b
  simp only [Nat.add_zero] at b
  injection b with _ b
  exact b.symm
theorem slThere_of_heap {w : World} {g o n : Nat} {cur : Array Value} {t : TypeId} (hg : w.heap[g]? = some (.cells cur t (0, 0))) (hfit : o + n ≤ cur.size) : w.there g o n := fun j hj => by
  refine ⟨?_, by simp [World.frozen?, hg]⟩
  simp [World.cell?, hg]
  omega

theorem wpList_load_midg {ops : Array Oper} {rest : List Oper} {op : Oper} {a : Act} {w : World} {Q : Exit → Act → World → Prop} (hw : Region.wanted op (yielded ops a.tmps) = true) (ty : TypeId) (x : Operand) (ho : op.op = .load ty x)
    (b o : Nat) (hx : a.eval x = .pointer (some ⟨b, o, none⟩)) (cs : List Value) (d : TypeDesc) (hc : w.rangeAt b o cs)
    (hu : Tryz.prog.underlying ty = some d) (hd : d.isRow = true) (hi : (Tryz.prog.info? ty).map (·.size) = some cs.length)
    (h : wpList Tryz.prog ops Q rest (a.put op.dst (.agg cs.toArray)) w) : wpList Tryz.prog ops Q (op :: rest) a w :=
  wpList_step fun K hK => by
    rw [if_pos hw]
    exact wp_load_mid ty x ho b o hx cs d hc hu hd hi (hK _ _ h)
set_option maxRecDepth 100000 in
/-- A store of a whole array. -/
theorem wpList_store_arr {w : World} {ops : Array Oper} {rest : List Oper} {o : Oper} {a : Act} {Q : Exit → Act → World → Prop} (hgd : o.guard = none) (ty : TypeId) (x y : Operand) (ho : o.op = .store ty x y)
    (g : Nat) (t : TypeId) (cur l : List UInt8) (hx : a.eval x = .pointer (some ⟨g, 0, none⟩)) (hy : a.eval y = .agg (cellsB l).toArray) (hg : slArr w g t cur) (hl : cur.length = l.length) (hi : (Tryz.prog.info? ty).map (·.size) = some (cellsB l).length)
    (h : ∀ w', Hid (slArr w' g t l) → slOnlyB g w w' → wpList Tryz.prog ops Q rest (a.put o.dst undef) w') : wpList Tryz.prog ops Q (o :: rest) a w := by
  have hz : (cellsB cur).toArray.size = (cellsB l).length := by rw [List.size_toArray, slLength_cellsB, slLength_cellsB, hl]
  have hr := slSetCells_row (w := w) (g := g) (o := 0) (cur := (cellsB cur).toArray) (t := t) (vs := cellsB l) hg (by rw [hz]; omega) (slOneCells_B l)
  have he := slSetCells_eq (w := w) (g := g) (o := 0) (cur := (cellsB cur).toArray) (t := t) (vs := cellsB l) hg (by rw [hz]; omega) (slOneCells_B l)
  refine wpList_store_mid hgd ty x y ho g 0 (cellsB l).toArray hx hy (slThere_of_heap hg (by simp [slLength_cellsB, hl])) (by simpa using hi) (all_oneCell_toArray (slOneCells_B l)) ?_
  refine h _ (Lib.hid ?_) ?_
  · unfold slArr
    refine hr.1.trans ?_
    congr 3
    rw [List.take_zero, List.nil_append, Nat.zero_add, List.drop_of_length_le (by simp [slLength_cellsB, hl]), List.append_nil]
  · rw [show (cellsB l).toArray.toList = cellsB l from rfl, he]
    exact slOnlyB.row g w _ t _ hg
/-- Whether a sector tells a number. -/
def okP (l : List UInt8) : Bool := decide (stampP l ≠ 0)
set_option maxHeartbeats 1000000 in
set_option maxRecDepth 100000 in
theorem stamp_any (A : Option Addr) (n c : Nat) (l : List UInt8) (w : World) (hl : l.length = n) (hn : n ≤ c) (hc : c ≤ maxLen) (hr : RB w A l) :
    Calls Tryz.prog 175 #[.slice A n c] w fun e w' => e = .returned (.tuple #[.int .i64 (stampP l : Int), .bool (okP l)]) ∧ Below w.heap.size w w' := by
  unfold maxLen at hc
  by_cases h256 : n = 256
  · subst h256
    have KE := Lib.hid (ends_any A c l w hl (by omega) hr)
    have hS : stampP l = if l.take 8 = l.drop 248 then genOf (l.take 8) else 0 := by
      unfold stampP
      simp [hl]
    have ha : (l.take 8).length = 8 := by rw [List.length_take, hl]; rfl
    have hb : (l.drop 248).length = 8 := by rw [List.length_drop, hl]
    have hO : okP l = decide (stampP l ≠ 0) := rfl
    generalize okP l = ok at *
    generalize stampP l = sp at *
    generalize l.take 8 = P at *
    generalize l.drop 248 = R at *
    have HA := Lib.hid ha
    have HB := Lib.hid hb
    have HS := Lib.hid hS
    have HO := Lib.hid hO
    clear ha hb hS hO hl hr
    go_enter Tryz.func175, Tryz.ntmps175
    go_wp2_with fail
    refine KE.out.mono ?_
    rintro e w1 ⟨rfl, b1⟩
    have B1 := Lib.hid (show Below w.heap.size w ((w1.alloc (.cells z8 209)).alloc (.cells z8 209)) from (b1.alloc b1.size _).alloc (by simp; exact Nat.le_succ_of_le b1.size) _)
    have A2 := arr_z8 (w1.alloc (.cells z8 209)) 209
    have A1 := Lib.hid ((arr_z8 w1 209).same ((Below.refl _ _).alloc (Nat.le_refl _) (.cells z8 209)))
    rw [heap_size_alloc] at A2
    have A3 := Lib.hid A2
    have HW := Lib.hid b1.size
    clear KE b1 A2
    go_upto_region 4 with (first
      | (refine wpList_store_arr rfl 209 (.tmp 4) (.tmp 12) rfl w1.heap.size 209 (List.replicate 8 0) P rfl rfl A1.out HA.out.symm (infoSt_of HA.out) ?_; intro w2 hw2 ho2; have A4 := Lib.hid (A3.out.only ho2 (by omega)); have B2 := Lib.hid (B1.out.trans (ho2.below HW.out)); clear ho2)
      | (refine wpList_store_arr rfl 209 (.tmp 5) (.tmp 13) rfl (w1.heap.size + 1) 209 (List.replicate 8 0) R rfl rfl A4.out HB.out.symm (infoSt_of HB.out) ?_; intro w3 hw3 ho3; have A5 := Lib.hid (hw2.out.only ho3 (by omega)); have B3 := Lib.hid (B2.out.trans (ho3.below (Nat.le_succ_of_le HW.out))); clear ho3))
    have KN := run_equal_st w3 P R HA.out HB.out
    have B4 := Lib.hid (show Below w.heap.size w w3 from B3.out)
    have hlt : Hid (w1.heap.size < w3.heap.size) := Lib.hid A5.out.lt
    have KG : Hid (Calls Tryz.prog 150 #[.agg (cellsB P).toArray] w3 fun e w' => e = .returned (.int .i64 (genOf P : Int)) ∧ Below w3.heap.size w3 w') := Lib.hid (gen_any P w3 HA.out)
    have hge : Hid (w.heap.size ≤ w3.heap.size) := Lib.hid B3.out.size
    clear A1 A3 A4 B1 B2 hw2 B3
    by_cases hPR : P = R
    · rw [decide_eq_true hPR] at KN
      have HS2 := Lib.hid (HS.out.trans (if_pos hPR))
      clear hPR HS
      go_wp2_with (first
        | (refine wpList_load_mid rfl 209 (.tmp 4) rfl w1.heap.size 0 rfl (cellsB P) _ A5.out.range Tryz.underlying209 rfl (infoSt_of HA.out) ?_)
        | (refine wpList_load_mid rfl 209 (.tmp 5) rfl (w1.heap.size + 1) 0 rfl (cellsB R) _ hw3.out.range Tryz.underlying209 rfl (infoSt_of HB.out) ?_)
        | (refine wpList_load_midg (by rfl) 209 (.tmp 4) rfl w1.heap.size 0 rfl (cellsB P) _ A5.out.range Tryz.underlying209 rfl (infoSt_of HA.out) ?_))
      refine KG.out.mono ?_
      rintro e w4 ⟨rfl, b4⟩
      have A6 := Lib.hid (A5.out.same b4)
      have B5 := Lib.hid (B4.out.trans (b4.mono hge.out))
      have KG2 : Hid (Calls Tryz.prog 150 #[.agg (cellsB P).toArray] w4 fun e w' => e = .returned (.int .i64 (genOf P : Int)) ∧ Below w4.heap.size w4 w') := Lib.hid (gen_any P w4 HA.out)
      have hge2 : Hid (w.heap.size ≤ w4.heap.size) := Lib.hid B5.out.size
      generalize genOf P = gp at *
      clear b4 A5 hw3 hlt KG B4 KN
      by_cases h0 : gp = 0
      · subst h0
        go_wp2
        go_ret2
        exact ⟨by rw [HO.out, HS2.out]; rfl, B5.out⟩
      · have hb : ((gp : Int) == 0) = false := by simpa using h0
        have H0 := Lib.hid h0
        clear h0
        go_wp2_with (first
          | (refine wpList_load_mid rfl 209 (.tmp 4) rfl w1.heap.size 0 rfl (cellsB P) _ A6.out.range Tryz.underlying209 rfl (infoSt_of HA.out) ?_)
          | (go_at_call 150; refine KG2.out.mono ?_; rintro e w5 ⟨rfl, b5⟩))
        go_ret2
        exact ⟨by rw [HO.out, HS2.out, decide_eq_true H0.out]; rfl, B5.out.trans (b5.mono hge2.out)⟩
    · rw [decide_eq_false hPR] at KN
      have HS2 := Lib.hid (HS.out.trans (if_neg hPR))
      clear hPR HS
      go_wp2_with (first
        | (refine wpList_load_mid rfl 209 (.tmp 4) rfl w1.heap.size 0 rfl (cellsB P) _ A5.out.range Tryz.underlying209 rfl (infoSt_of HA.out) ?_)
        | (refine wpList_load_mid rfl 209 (.tmp 5) rfl (w1.heap.size + 1) 0 rfl (cellsB R) _ hw3.out.range Tryz.underlying209 rfl (infoSt_of HB.out) ?_))
      go_ret2
      exact ⟨by rw [HO.out, HS2.out]; rfl, B4.out⟩
  · have HS := Lib.hid (show stampP l = 0 from by unfold stampP; rw [if_neg]; rintro ⟨h1, _⟩; omega)
    have HO := Lib.hid (show okP l = decide (stampP l ≠ 0) from rfl)
    generalize okP l = ok at *
    generalize stampP l = sp at *
    have hb : ((n : Int) != 256) = true := by rw [bne_iff_ne]; omega
    clear h256
    go_enter Tryz.func175, Tryz.ntmps175
    go_wp2
    go_ret2
    exact ⟨by rw [HO.out, HS.out]; rfl, Below.refl _ _⟩
end Go.Proofs.YtegjeijiekggdaaGreatDoor
end
section
/- Slots: the number that all sectors tell. -/
namespace Go.Proofs.YtegjeijiekggdaaGreatDoor
open Go.RowKit
set_option linter.unusedVariables false
set_option linter.unusedSimpArgs false
theorem shared_eq {L : List (List UInt8)} {l0 : List UInt8} (h4 : L.length = 4) (h0 : L[0]? = some l0) (h : ∀ b ∈ L, stampP b = stampP l0) : sharedP L = stampP l0 := by
  have e : L.getD 0 [] = l0 := by rw [List.getD_eq_getElem?_getD, h0]; rfl
  unfold sharedP
  rw [e, if_pos ⟨h4, h⟩]
theorem shared_zero {L : List (List UInt8)} {l0 b : List UInt8} (h0 : L[0]? = some l0) (hb : b ∈ L) (h : stampP b = 0 ∨ stampP b ≠ stampP l0) : sharedP L = 0 := by
  have e : L.getD 0 [] = l0 := by rw [List.getD_eq_getElem?_getD, h0]; rfl
  unfold sharedP
  rw [e]
  split
  · rename_i h1
    rcases h with h | h
    · rw [← h1.2 b hb, h]
    · exact absurd (h1.2 b hb) h
  · rfl
theorem shared_len {L : List (List UInt8)} (h : L.length ≠ 4) : sharedP L = 0 := by
  unfold sharedP
  rw [if_neg (fun h1 => h h1.1)]
theorem RBS.at {w : World} {ad : Addr} {L : List (List UInt8)} (h : RBS w (some ad) L) {k : Nat} {l : List UInt8} (hk : L[k]? = some l) : ∃ (B : Option Addr) (c : Nat), w.cell? (ad.add k) = some (.slice B l.length c) ∧ l.length ≤ c ∧ c ≤ maxLen ∧ RB w B l := by
  obtain ⟨ad', B, c, e, h1, h2⟩ := h k l hk
  injection e with e
  subst e
  exact ⟨B, c, h1, h2⟩
theorem RBS.some_of {w : World} {A : Option Addr} {L : List (List UInt8)} (h : RBS w A L) (hl : 0 < L.length) : ∃ ad, A = some ad := by
  obtain ⟨ad, _, _, e, _⟩ := h 0 L[0] (List.getElem?_eq_getElem hl)
  exact ⟨ad, e⟩
set_option maxHeartbeats 1000000 in
set_option maxRecDepth 100000 in
theorem shared_any (A : Option Addr) (n c : Nat) (L : List (List UInt8)) (w : World) (hl : L.length = n) (hn : n ≤ c) (hc : c ≤ maxLen) (hr : RBS w A L) :
    Calls Tryz.prog 144 #[.slice A n c] w fun e w' => e = .returned (.int .i64 (sharedP L : Int)) ∧ Below w.heap.size w w' := by
  unfold maxLen at hc
  by_cases h4 : n = 4
  · subst h4
    obtain ⟨ad, rfl⟩ := hr.some_of (by omega)
    obtain ⟨l0, h0⟩ : ∃ l0, L[0]? = some l0 := ⟨L[0]'(by omega), List.getElem?_eq_getElem _⟩
    obtain ⟨B0, c0, x0, x1, x2, x3⟩ := hr.at h0
    rw [Addr.add_nought] at x0
    have HE := Lib.hid (fun h => shared_eq hl h0 h)
    have HO := Lib.hid (fun b hb h => shared_zero (b := b) h0 hb h)
    have HR := Lib.hid hr
    have HL := Lib.hid hl
    have K0 := Lib.hid (stamp_any B0 l0.length c0 l0 w rfl x1 x2 x3)
    obtain ⟨gen, hgen⟩ : ∃ gen, gen = stampP l0 := ⟨_, rfl⟩
    rw [← hgen] at K0 HE HO
    clear hr x1 x2 x3 hgen hl h0
    generalize okP l0 = ok0 at *
    generalize l0.length = n0 at *
    generalize sharedP L = sh at *
    go_enter Tryz.func144, Tryz.ntmps144
    go_wp2_with fail
    refine K0.out.mono ?_
    rintro e w1 ⟨rfl, b1⟩
    have B1 := Lib.hid b1
    clear b1 K0 x0
    go_wp2
    go_loopw [6, 7, 8, 21] (fun _ _ _ i wr => ∃ k : Nat, k ≤ 4 ∧ i = .int .i64 k ∧ Below w.heap.size w wr ∧ ∀ b ∈ L.take k, stampP b = gen) (fun _ _ _ i _ => 4 - (intOf i).toNat)
    case atStart => exact ⟨0, Nat.zero_le _, rfl, B1.out, fun b hb => by simp at hb⟩
    case round =>
      obtain ⟨k, hk, rfl, hB, hP⟩ := hrel
      by_cases hlt : k < 4
      · obtain ⟨b, hb⟩ : ∃ b, L[k]? = some b := ⟨L[k]'(by rw [HL.out]; omega), List.getElem?_eq_getElem _⟩
        obtain ⟨B, cb, y0, y1, y2, y3⟩ := (HR.out.below hB).at hb
        have KB := Lib.hid (stamp_any B b.length cb b wr rfl y1 y2 y3)
        have HT := Lib.hid (show ∀ x ∈ L.take (k + 1), x ∈ L.take k ∨ x = b from fun x hx => by
          rw [List.take_add_one, hb] at hx
          simpa using hx)
        have HM := Lib.hid (List.mem_of_getElem? hb)
        have HOK : Hid (okP b = decide (stampP b ≠ 0)) := Lib.hid rfl
        obtain ⟨sp, hsp⟩ : ∃ sp, sp = stampP b := ⟨_, rfl⟩
        have HSP := Lib.hid hsp
        have hB' := Lib.hid hB
        have hP' := Lib.hid hP
        have hge := Lib.hid hB.size
        rw [← hsp] at KB HOK
        clear hb y1 y2 y3 hsp hP hB
        generalize okP b = ok at *
        generalize b.length = nb at *
        go_wp2_with fail
        refine KB.out.mono ?_
        rintro e w2 ⟨rfl, b2⟩
        have B2 := Lib.hid (hB'.out.trans (b2.mono hge.out))
        clear b2 KB y0
        by_cases hz : sp = 0
        · have hok : ok = false := by rw [HOK.out]; simp [hz]
          have H0 := Lib.hid (HO.out b HM.out (.inl (by rw [← HSP.out, hz])))
          subst hok
          clear hz HOK
          go_wp2
          go_ret
          exact ⟨by rw [H0.out]; rfl, B2.out⟩
        · have hok : ok = true := by rw [HOK.out]; simp [hz]
          subst hok
          clear hz HOK
          by_cases hg : sp = gen
          · have hbb : ((sp : Int) != (gen : Int)) = false := by rw [hg]; simp
            have HG := Lib.hid hg
            clear hg
            go_wp2
            go_roundw
            case rel => exact ⟨k + 1, by omega, by go_num, B2.out, fun x hx => by rcases HT.out x hx with h | rfl; exact hP'.out x h; rw [← HSP.out, HG.out]⟩
            case measure => simp [intOf]; omega
          · have hbb : ((sp : Int) != (gen : Int)) = true := by rw [bne_iff_ne]; omega
            have H0 := Lib.hid (HO.out b HM.out (.inr (by rw [← HSP.out]; exact hg)))
            clear hg
            go_wp2
            go_ret
            exact ⟨by rw [H0.out]; rfl, B2.out⟩
      · obtain rfl : k = 4 := by omega
        have H0 := Lib.hid (HE.out (fun b hb => hP b (by rw [List.take_of_length_le (by rw [HL.out]; exact Nat.le_refl _)]; exact hb)))
        have hB' := Lib.hid hB
        clear hP hB
        go_wp2
        go_ret
        exact ⟨by rw [H0.out]; rfl, hB'.out⟩
  · have H0 := Lib.hid (shared_len (L := L) (by omega))
    have hb : ((n : Int) != 4) = true := by rw [bne_iff_ne]; omega
    clear h4 hr
    go_enter Tryz.func144, Tryz.ntmps144
    go_wp2
    go_ret
    exact ⟨by rw [H0.out]; rfl, Below.refl _ _⟩
end Go.Proofs.YtegjeijiekggdaaGreatDoor
end
section
/- Slots: the greatest number that was seen. -/
namespace Go.Proofs.YtegjeijiekggdaaGreatDoor
open Go.RowKit
set_option linter.unusedVariables false
set_option linter.unusedSimpArgs false
theorem seen_le (L : List (List UInt8)) : ∀ n, n ≤ 1099511627776 → L.foldl seen1 n ≤ 1099511627776 := by
  induction L with
  | nil => intro n h; exact h
  | cons b L ih => intro n h; exact ih _ (seen1_le n b h)
theorem seen_snoc {L : List (List UInt8)} {k : Nat} {b : List UInt8} (h : L[k]? = some b) : (L.take (k + 1)).foldl seen1 0 = seen1 ((L.take k).foldl seen1 0) b := by
  rw [List.take_add_one, h, List.foldl_append]
  rfl
theorem gen_at (l : List UInt8) (w : World) (hl : l.length = 8) :
    Calls Tryz.prog 150 #[.agg (cellsB l).toArray] w fun e w' => e = .returned (.int .i64 (genOf l : Int)) ∧ Below w.heap.size w w' := gen_any l w hl
theorem run_max3 (w : World) (ats : Array TypeId) (ty : TypeId) (a b c : Nat) : (Builtin.max_ ats ty #[.int .i64 (a : Int), .int .i64 (b : Int), .int .i64 (c : Int)]).run Tryz.prog w = .ok (.int .i64 ((max (max a b) c : Nat) : Int)) w := by
  have h2 : ∀ (x y : Nat), (Builtin.max2 (.int .i64 (x : Int)) (.int .i64 (y : Int))).run Tryz.prog w = .ok (.int .i64 ((max x y : Nat) : Int)) w := fun x y => by
    simp only [Builtin.max2, Sem.run_pure]
    by_cases h : (y : Int) > (x : Int)
    · rw [if_pos h, Nat.max_eq_right (by omega)]
    · rw [if_neg h, Nat.max_eq_left (by omega)]
  simp only [Builtin.max_, List.foldlM_cons, List.foldlM_nil, Sem.run_bind, h2, Result.andThen_ok, Sem.run_pure]
theorem exec_load_arr {eval : Operand → Value} {o : Oper} {x : Operand} (ho : o.op = .load 209 x) {w : World} {g : Nat} {t : TypeId} {l : List UInt8} (hx : eval x = .pointer (some ⟨g, 0, none⟩)) (h : slArr w g t l) (hl : l.length = 8) :
    (execOp eval o).run Tryz.prog w = .ok (.value (.agg (cellsB l).toArray)) w := by
  unfold execOp
  simp only [ho, hx, Instr.loadAt, Instr.sureAddr, Sem.run_bind, Sem.run_pure, Result.andThen_ok, run_loadVar_mid w g 0 209 (cellsB l) _ h.range Tryz.underlying209 rfl (infoSt_of hl)]
set_option maxHeartbeats 2000000 in
set_option maxRecDepth 100000 in
theorem seen_any (A : Option Addr) (n c : Nat) (L : List (List UInt8)) (w : World) (hl : L.length = n) (hn : n ≤ c) (hc : c ≤ maxLen) (hr : RBS w A L) :
    Calls Tryz.prog 111 #[.slice A n c] w fun e w' => e = .returned (.int .i64 (seenP L : Int)) ∧ Below w.heap.size w w' := by
  unfold maxLen at hc
  have HR := Lib.hid hr
  have HL := Lib.hid hl
  have HQ : Hid (seenP L = L.foldl seen1 0) := Lib.hid rfl
  clear hr hl
  go_enter Tryz.func111, Tryz.ntmps111
  go_wp2
  go_loopw [3, 5, 6, 7, 10] (fun t _ _ _ i wr => ∃ k : Nat, k ≤ n ∧ i = .int .i64 k ∧ t = .int .i64 ((L.take k).foldl seen1 0 : Nat) ∧ Below w.heap.size w wr) (fun _ _ _ _ i _ => n - (intOf i).toNat)
  case atStart => exact ⟨0, Nat.zero_le _, rfl, rfl, Below.refl _ _⟩
  case round =>
    obtain ⟨k, hk, rfl, rfl, hB⟩ := hrel
    by_cases hlt : k < n
    · obtain ⟨b, hb⟩ : ∃ b, L[k]? = some b := ⟨L[k]'(by rw [HL.out]; omega), List.getElem?_eq_getElem _⟩
      obtain ⟨ad, hA⟩ := HR.out.some_of (by rw [HL.out]; omega)
      have hR2 := HR.out.below hB
      subst hA
      obtain ⟨B, cb, y0, y1, y2, y3⟩ := hR2.at hb
      have HS := Lib.hid (seen_snoc hb)
      have hs := seen_le (L.take k) 0 (by omega)
      have hB' := Lib.hid hB
      generalize (L.take k).foldl seen1 0 = s at *
      clear hR2 hB hb
      by_cases h256 : b.length = 256
      · have KE := Lib.hid (ends_any B cb b wr h256 (by omega) y3)
        have HS2 := Lib.hid (HS.out.trans (show seen1 s b = max (max s (genOf (b.take 8))) (genOf (b.drop 248)) from by unfold seen1; rw [if_pos h256]))
        have ha : (b.take 8).length = 8 := by rw [List.length_take, h256]; rfl
        have hbb : (b.drop 248).length = 8 := by rw [List.length_drop, h256]
        have HA := Lib.hid ha
        have HB := Lib.hid hbb
        generalize b.take 8 = P at *
        generalize b.drop 248 = R at *
        rw [h256] at y0
        clear HS ha hbb y1 y2 y3 h256
        go_wp2_with fail
        refine KE.out.mono ?_
        rintro e w1 ⟨rfl, b1⟩
        have B1 := Lib.hid (show Below w.heap.size w ((w1.alloc (.cells z8 209)).alloc (.cells z8 209)) from ((hB'.out.trans (b1.mono hB'.out.size)).alloc (Nat.le_trans hB'.out.size b1.size) _).alloc (by simp; exact Nat.le_succ_of_le (Nat.le_trans hB'.out.size b1.size)) _)
        have A2 := arr_z8 (w1.alloc (.cells z8 209)) 209
        have A1 := Lib.hid ((arr_z8 w1 209).same ((Below.refl _ _).alloc (Nat.le_refl _) (.cells z8 209)))
        rw [heap_size_alloc] at A2
        have A3 := Lib.hid A2
        have HW := Lib.hid (Nat.le_trans hB'.out.size b1.size)
        clear KE b1 A2 y0
        go_upto_region 7 with (first
          | (refine wpList_store_arr rfl 209 (.tmp 6) (.tmp 20) rfl w1.heap.size 209 (List.replicate 8 0) P rfl rfl A1.out HA.out.symm (infoSt_of HA.out) ?_; intro w2 hw2 ho2; have A4 := Lib.hid (A3.out.only ho2 (by omega)); have B2 := Lib.hid (B1.out.trans (ho2.below HW.out)); clear ho2)
          | (refine wpList_store_arr rfl 209 (.tmp 7) (.tmp 21) rfl (w1.heap.size + 1) 209 (List.replicate 8 0) R rfl rfl A4.out HB.out.symm (infoSt_of HB.out) ?_; intro w3 hw3 ho3; have A5 := Lib.hid (hw2.out.only ho3 (by omega)); have B3 := Lib.hid (B2.out.trans (ho3.below (Nat.le_succ_of_le HW.out))); clear ho3))
        have HS0 : slArr w3 w1.heap.size 209 P ∧ slArr w3 (w1.heap.size + 1) 209 R ∧ Below w.heap.size w w3 := ⟨A5.out, hw3.out, B3.out⟩
        have HST := Lib.hid (show ∀ W W', (slArr W w1.heap.size 209 P ∧ slArr W (w1.heap.size + 1) 209 R ∧ Below w.heap.size w W) → Below W.heap.size W W' → (slArr W' w1.heap.size 209 P ∧ slArr W' (w1.heap.size + 1) 209 R ∧ Below w.heap.size w W') from
          fun W W' h b => ⟨h.1.same b, h.2.1.same b, h.2.2.trans (b.mono h.2.2.size)⟩)
        clear A1 A3 A4 A5 B1 B2 B3 hw2 hw3
        refine wp_region_held (S := fun W => slArr W w1.heap.size 209 P ∧ slArr W (w1.heap.size + 1) 209 R ∧ Below w.heap.size w W) (by kernel_rfl) ?_
        have HS1 : slArr w3.drew w1.heap.size 209 P ∧ slArr w3.drew (w1.heap.size + 1) 209 R ∧ Below w.heap.size w w3.drew := HST.out w3 _ HS0 (Below.refl _ _).drew
        change wpAnyH _ _ _ _ _ _ _ _ (World.drew w3)
        refine takeH 0 22 (v := ?_) rfl rfl (by kernel_rfl) (by kernel_rfl) (by kernel_rfl) (fun _ _ _ h => h) HS1 (by rfl) ?_ ?_
        rotate_left
        · intro w' hSw
          go_simp
          try (with_reducible rfl)
        try simp only [Act.put, List.setIfInBounds_toArray, List.set_cons_zero, List.set_cons_succ]
        refine takeH 1 23 (v := .agg (cellsB P).toArray) rfl rfl (by kernel_rfl) (by kernel_rfl) (by kernel_rfl) (fun _ _ _ h => h) HS1 (by rfl) ?_ ?_
        · intro w' hSw
          exact exec_load_arr rfl rfl hSw.1 HA.out
        try simp only [Act.put, List.setIfInBounds_toArray, List.set_cons_zero, List.set_cons_succ]
        refine takeH 3 25 (v := .agg (cellsB R).toArray) rfl rfl (by kernel_rfl) (by kernel_rfl) (by kernel_rfl) (fun _ _ _ h => h) HS1 (by rfl) ?_ ?_
        · intro w' hSw
          exact exec_load_arr rfl rfl hSw.2.1 HB.out
        try simp only [Act.put, List.setIfInBounds_toArray, List.set_cons_zero, List.set_cons_succ]
        refine wpAnyH_ready (rs := [2]) (by kernel_rfl) (by simp) ?_
        refine AllReadyH.cons rfl (fun K hK => ?_) AllReadyH.nil
        go_simp
        refine (gen_at P _ HA.out).mono ?_
        rintro e w4 ⟨rfl, b4⟩
        have HS2' := HST.out _ w4 HS1 b4
        refine hK _ _ HS2' (fun _ => ?_)
        clear hK K
        try simp only [Act.put, List.setIfInBounds_toArray, List.set_cons_zero, List.set_cons_succ]
        refine wpAnyH_ready (rs := [4]) (by kernel_rfl) (by simp) ?_
        refine AllReadyH.cons rfl (fun K hK => ?_) AllReadyH.nil
        go_simp
        refine (gen_at R _ HB.out).mono ?_
        rintro e w5 ⟨rfl, b5⟩
        have HS3 := HST.out _ w5 HS2' b5
        refine hK _ _ HS3 (fun _ => ?_)
        clear hK K b4 b5 HS1 HS2' HS0
        have gp := genOf_le P
        have gr := genOf_le R
        have hmx : (max (max s (genOf P)) (genOf R) : Nat) ≤ 1099511627776 := by omega
        obtain ⟨m, hm⟩ : ∃ m, m = max (max s (genOf P)) (genOf R) := ⟨_, rfl⟩
        have HM := Lib.hid hm
        clear hm
        try simp only [Act.put, List.setIfInBounds_toArray, List.set_cons_zero, List.set_cons_succ]
        refine takeH 5 27 (v := .int .i64 (m : Int)) rfl rfl (by kernel_rfl) (by kernel_rfl) (by kernel_rfl) (fun _ _ _ h => h) HS3 (by rfl) ?_ ?_
        · intro w' hSw
          go_simp
          rw [run_max3, HM.out]
          rfl
        try simp only [Act.put, List.setIfInBounds_toArray, List.set_cons_zero, List.set_cons_succ]
        refine takeH 6 3 (v := .int .i64 (m : Int)) rfl rfl (by kernel_rfl) (by kernel_rfl) (by kernel_rfl) (fun _ _ _ h => h) HS3 (by rfl) ?_ ?_
        · intro w' hSw
          go_simp
          try (with_reducible rfl)
        refine wpAnyH_done (by kernel_rfl) ?_ _
        go_wp2
        go_roundw
        case rel => exact ⟨k + 1, by omega, by go_num, by rw [HS2.out, HM.out], HS3.2.2⟩
        case measure => simp [intOf]; omega
      · have HS2 := Lib.hid (HS.out.trans (show seen1 s b = s from by unfold seen1; rw [if_neg h256]))
        have hbb : ((b.length : Int) == 256) = false := by simpa using (by omega : ¬ (b.length : Int) = 256)
        generalize b.length = nb at *
        clear HS y1 y2 h256
        go_wp2
        go_roundw
        case rel => exact ⟨k + 1, by omega, by go_num, by rw [HS2.out], hB'.out⟩
        case measure => simp [intOf]; omega
    · obtain rfl : k = n := by omega
      rw [List.take_of_length_le (by rw [HL.out]; exact Nat.le_refl _)]
      rw [← HQ.out]
      have hB' := Lib.hid hB
      clear hB
      obtain ⟨s, hs⟩ : ∃ s, s = seenP L := ⟨_, rfl⟩
      rw [← hs]
      have HSS := Lib.hid hs
      clear hs
      go_wp2
      go_ret
      exact ⟨by rw [← HSS.out]; rfl, hB'.out⟩
end Go.Proofs.YtegjeijiekggdaaGreatDoor
end
