/- Stacks as bytes: the program's Put. -/
import Derived.Test.YtjmmaghjbaigiaaVsN
import Derived.Test.YtjmmaghjbaigiaaVsR
namespace Go.Proofs.Ytjmmaghjbaigiaa
open Go.RowKit
set_option linter.unusedVariables false
set_option linter.unusedSimpArgs false
theorem OB.og {base : Nat} {w : World} {v : Value} {l : List UInt8} (h : OB base w v l) : OG CR.u8 5 base w v l := by
  have e : (l.map fun x => [Value.int .u8 (x.toNat : Int)]).flatten = cellsB l := by
    induction l with
    | nil => rfl
    | cons x r ih =>
      have hx : OB base w v (x :: r) → True := fun _ => trivial
      simp only [List.map_cons, List.flatten_cons, cellsB]
      have : (r.map fun x => [Value.int .u8 (x.toNat : Int)]).flatten = r.map cellB := by
        clear ih h hx
        induction r with
        | nil => rfl
        | cons y s ih => simp only [List.map_cons, List.flatten_cons, ih]; rfl
      rw [this]
      rfl
  refine ⟨l.map fun x => [.int .u8 (x.toNat : Int)], by rw [e]; exact h, by simp, fun j x hj => ⟨[.int .u8 (x.toNat : Int)], by rw [List.getElem?_map, hj]; rfl, rfl, fun b hb => hb.elim⟩⟩
theorem OG.ob {base : Nat} {w : World} {v : Value} {l : List UInt8} (h : OG CR.u8 5 base w v l) : OB base w v l := by
  obtain ⟨css, h1, h2, h3⟩ := h
  have e : css.flatten = cellsB l := by
    clear h1
    induction css generalizing l with
    | nil => cases l with
      | nil => rfl
      | cons x r => simp at h2
    | cons a r ih =>
      cases l with
      | nil => simp at h2
      | cons x t =>
        obtain ⟨cs, e1, e2, _⟩ := h3 0 x rfl
        simp at e1
        subst e1
        have e2' : a = [.int .u8 (x.toNat : Int)] := e2
        rw [List.flatten_cons, ih (l := t) (by simpa using h2) (fun j y hj => by
          obtain ⟨cs, f1, f2⟩ := h3 (j + 1) y (by simpa using hj)
          exact ⟨cs, by simpa using f1, f2⟩), e2']
        rfl
  rw [e] at h1
  exact h1
/-- Bytes that grow beside a box that holds a version. -/
structure PtW (base q : Nat) (y : Vn) (W : World) (v : Value) (l : List UInt8) : Prop where
  o : OG CR.u8 5 base W v l
  ne : v.ownBlock ≠ some q
  x : VnBox W q y
theorem OG.own_lt'' {α : Type} {K : CR α} {T : TypeId} {base : Nat} {w : World} {v : Value} {l : List α} (h : OG K T base w v l) {b : Nat} (hb : v.ownBlock = some b) : b < w.heap.size := by
  obtain ⟨css, h1, _⟩ := h
  exact (World.ownsRow.lt h1 b hb).2
theorem PtW.on {base q : Nat} {y : Vn} {W W' : World} {v : Value} {l : List UInt8} (h : PtW base q y W v l) (hb : Below W.heap.size W W') : PtW base q y W' v l := ⟨h.o.below hb, h.ne, h.x.on hb⟩
theorem PtW.alloc {base q : Nat} {y : Vn} {W : World} {v : Value} {l : List UInt8} (h : PtW base q y W v l) (o : Obj) : PtW base q y (W.alloc o) v l := h.on (below1 W o)
theorem VnBox.grown {W W' : World} {q : Nat} {y : Vn} (h : VnBox W q y) {row : Option Nat} (hg : W.grownBy W' row) (hne : row ≠ some q) : VnBox W' q y := by
  have hb := hg.block q h.lt (fun e => hne e.symm)
  obtain ⟨a0, a1, a2, a3, f0, f1, f2, f3⟩ := h
  have hc : ∀ i, W'.cell? ⟨q, i, none⟩ = W.cell? ⟨q, i, none⟩ := fun i => cell_same (p := ⟨q, i, none⟩) hb
  have hf : ∀ i, W'.frozen? ⟨q, i, none⟩ = W.frozen? ⟨q, i, none⟩ := fun i => by unfold World.frozen?; rw [hb]
  exact ⟨(hc 0).trans a0, (hc 1).trans a1, (hc 2).trans a2, (hc 3).trans a3, (hf 0).trans f0, (hf 1).trans f1, (hf 2).trans f2, (hf 3).trans f3⟩
theorem PtW.app {base q : Nat} {y : Vn} {W W' : World} {v v' : Value} {l l' : List UInt8} (h : PtW base q y W v l) (o : OG CR.u8 5 base W' v' l') (g : W.grownBy W' v.ownBlock) (e : v'.ownBlock = v.ownBlock ∨ v'.ownBlock = some W.heap.size) : PtW base q y W' v' l' := by
  refine ⟨o, ?_, h.x.grown g h.ne⟩
  rcases e with e | e
  · rw [e]; exact h.ne
  · rw [e]
    intro e
    injection e with e
    have := h.x.lt
    omega
theorem vsMark_any (b : Bool) (w : World) : Calls Try.prog 39 #[.bool b] w fun e w' => e = .returned (.int .u8 ((vsMark b).toNat : Int)) ∧ w = w' := by
  cases b
  all_goals
    go_enter Try.func39, Try.ntmps39
    go_wp2
    go_ret
    exact ⟨rfl, rfl⟩
set_option maxHeartbeats 4000000 in
set_option maxRecDepth 100000 in
theorem vsPut_any (key : ByteArray) (A : Option Addr) (n c : Nat) (l : List Vn) (w : World) (hl : l.length = n) (hn : n ≤ 1000) (hnc : n ≤ c) (hr : RG KV w A l) :
    Calls Try.prog 10 #[.agg #[.string key, .slice A n c]] w fun e w' => ∃ v', e = .returned (.tuple #[v', .int .i64 (vsCheck key l : Int)]) ∧ OB w.heap.size w' v' (if vsCheck key l = 0 then putS key l else []) ∧ Below w.heap.size w w' := by
  have KC := Lib.hid (fun (W : World) (h : Below w.heap.size w W) => vsCheck_any key A n c l W hl hn hnc (hr.below h))
  have HB := Lib.hid (below1 w (.cells #[.string key, .slice A n c] 24))
  have SX := Lib.hid (StBox.new w key A n c 24)
  have HL := Lib.hid hl
  have HR := Lib.hid (fun W (h : Below w.heap.size w W) => hr.below h)
  by_cases h0 : vsCheck key l = 0
  · rw [if_pos h0]
    obtain ⟨h1, h2, h3, _⟩ := vsCheck_zero.1 h0
    have KT := Lib.hid (fun W => putText_any key W (by omega))
    have KN := Lib.hid (fun W => putSmall_any n W (by omega))
    have l1 := Lib.hid (vs_ba key 16 h1)
    have l2 := Lib.hid (vs_small n (by omega))
    have l3 := Lib.hid (fun k => layVs_len (l := l.take k) (fun v hv => h3 v (List.mem_of_mem_take hv)))
    have HF := Lib.hid h3
    have wn : IntKind.u64.wrap (n : Int) = (n : Int) := by rw [IntKind.wrap_u64]; omega
    rw [h0] at KC ⊢
    rw [hl] at h2
    have HP : Hid (putS key l = putText key.data.toList ++ putSmall n ++ layVs l) := Lib.hid (by unfold putS; rw [hl])
    clear h0 h1 h3 hl hr
    have FB : Hid (∀ W, Below (w.heap.size + 1) (w.alloc (.cells #[.string key, .slice A n c] 24)) W → Below w.heap.size w W) := Lib.hid fun W h => HB.out.trans (h.mono (by omega))
    have FS : Hid (∀ W, Below (w.heap.size + 1) (w.alloc (.cells #[.string key, .slice A n c] 24)) W → StBox W w.heap.size key A n c) := Lib.hid fun W h => SX.out.below h (by omega)
    have X : Hid (Below (w.heap.size + 1) (w.alloc (.cells #[.string key, .slice A n c] 24)) (w.alloc (.cells #[.string key, .slice A n c] 24))) := Lib.hid (Below.refl _ _)
    have Z : Hid (w.heap.size + 1 ≤ (w.alloc (.cells #[.string key, .slice A n c] 24)).heap.size) := Lib.hid (by simp)
    go_enter Try.func10, Try.ntmps10
    go_upto_region 1 with fail
    generalize w.alloc (.cells #[.string key, .slice A n c] 24) = W0 at *
    have s0 := SX.out.c0
    have s1 := SX.out.c1
    clear HB SX
    go_upto_region 7 with (first
      | (go_at_call 27; refine (KC.out _ (FB.out _ X.out)).mono ?_; rintro e w1 ⟨rfl, b1⟩; have X := Lib.hid (X.out.trans (b1.mono Z.out)); have Z := Lib.hid (Nat.le_trans Z.out b1.size); have s0 := (FS.out _ X.out).c0; have s1 := (FS.out _ X.out).c1; clear b1)
      | (go_at_call 37; (with_reducible refine Calls.mono (KT.out _) ?_); rintro e w2 ⟨v2, rfl, o2, b2⟩; have O := Lib.hid (o2.lift Z.out); have X := Lib.hid (X.out.trans (b2.mono Z.out)); have Z := Lib.hid (Nat.le_trans Z.out b2.size); have s0 := (FS.out _ X.out).c0; have s1 := (FS.out _ X.out).c1; clear o2 b2)
      | (go_at_call 38; (with_reducible refine Calls.mono (KN.out _) ?_); rintro e w3 ⟨v3, rfl, o3, b3⟩; obtain ⟨A3, c3, rfl, hc3, r3⟩ := o3.form; have O := Lib.hid (O.out.keep b3 (Nat.le_refl _)); have X := Lib.hid (X.out.trans (b3.mono Z.out)); have Z := Lib.hid (Nat.le_trans Z.out b3.size); have R3 := Lib.hid r3; clear o3 b3 r3 hc3)
      | (at_builtin; refine wpList_append_B rfl (.tmp 16) (.tmp 21) rfl (w.heap.size + 1) _ _ rfl O.out _ _ _ (putSmall n) rfl rfl R3.out (by have := l1.out; have := l2.out; omega) Z.out ?_; intro v4 w4 o4 b4; have O := Lib.hid o4; have X := Lib.hid (X.out.trans b4); have Z := Lib.hid (Nat.le_trans Z.out b4.size); have s1 := (FS.out _ X.out).c1; clear o4 b4)
      | fail)
    clear s0 s1
    go_loopw [5, 7, 26] (fun v _ i wr => ∃ k : Nat, k ≤ n ∧ i = .int .i64 (k : Int) ∧ OB (w.heap.size + 1) wr v (putText key.data.toList ++ putSmall n ++ layVs (l.take k)) ∧ Below (w.heap.size + 1) W0 wr ∧ w.heap.size + 1 ≤ wr.heap.size) (fun _ _ i _ => n - (intOf i).toNat)
    case atStart => exact ⟨0, Nat.zero_le _, rfl, by have := O.out; simpa [layVs] using this, X.out, Z.out⟩
    case round =>
      clear O X Z R3
      obtain ⟨k, hk, rfl, ho, hx, hz⟩ := hrel
      have X := Lib.hid hx
      by_cases hlt : k < n
      · obtain ⟨x, hxl⟩ : ∃ x, l[k]? = some x := ⟨l[k]'(by rw [HL.out]; exact hlt), List.getElem?_eq_getElem _⟩
        obtain ⟨ad, rfl, hv⟩ := (HR.out _ (FB.out _ hx)).vn hxl
        obtain ⟨f1, f2, ⟨f3, f4⟩, f5, f6⟩ := vsFault_zero.1 (HF.out x (List.mem_of_getElem? hxl))
        have HS := Lib.hid (layVs_take hxl)
        have HLn := Lib.hid (show (layVs (l.take k)).length ≤ 552 from by have := l3.out k; rw [List.length_take] at this; omega)
        unfold layV at HS
        obtain ⟨txn, ts, gone, val⟩ := x
        dsimp only at *
        obtain ⟨a, rfl⟩ := Int.eq_ofNat_of_zero_le f3
        obtain ⟨b, rfl⟩ := Int.eq_ofNat_of_zero_le f5
        simp only [Int.toNat_natCast] at HS
        have wa : IntKind.u64.wrap (a : Int) = (a : Int) := by rw [IntKind.wrap_u64]; omega
        have wb : IntKind.u64.wrap (b : Int) = (b : Int) := by rw [IntKind.wrap_u64]; omega
        have c0 := hv.d0; have c1 := hv.d1; have c2 := hv.d2; have c3 := hv.d3
        have K1 := Lib.hid (fun W => putSmall_any a W (by omega))
        have K2 := Lib.hid (fun W => putSmall_any b W (by omega))
        have K3 := Lib.hid (fun W => vsMark_any gone W)
        have K4 := Lib.hid (fun W => putText_any val W (by omega))
        have m1 := Lib.hid (vs_small a (by omega))
        have m2 := Lib.hid (vs_small b (by omega))
        have m4 := Lib.hid (vs_ba val 24 f1)
        have HM := Lib.hid (fun W => RB.one W ((vsMark gone).toNat : Int) (vsMark gone) rfl)
        generalize ((vsMark gone).toNat : Int) = z at K3 HM
        have VX := Lib.hid (VnBox.new wr ⟨a, b, gone, val⟩ 66)
        have O := Lib.hid (ho.alloc (.cells #[.int .i64 (a : Int), .int .i64 (b : Int), .bool gone, .string val] 66))
        have X := Lib.hid (hx.alloc hz (.cells #[.int .i64 (a : Int), .int .i64 (b : Int), .bool gone, .string val] 66))
        have Z := Lib.hid (show w.heap.size + 1 ≤ (wr.alloc (.cells #[.int .i64 (a : Int), .int .i64 (b : Int), .bool gone, .string val] 66)).heap.size from by rw [heap_size_alloc]; omega)
        clear hv hxl hx f1 f2 f3 f4 f5 f6
        have P := Lib.hid (PtW.mk (OB.og O.out) (fun e => by have := (OB.og ho).own_lt'' e; omega) VX.out)
        clear O VX ho
        go_upto_region 9 with fail
        generalize wr.alloc (.cells #[.int .i64 (a : Int), .int .i64 (b : Int), .bool gone, .string val] 66) = W1 at *
        generalize wr.heap.size = q at *
        obtain ⟨y0, y1, y2, y3, _, _, _, _⟩ := P.out.x
        go_wp2_with (first
          | (go_at_call 38; (with_reducible refine Calls.mono (K1.out _) ?_); rintro e w3 ⟨v3, rfl, o3, b3⟩; obtain ⟨A3, c3, rfl, hc3, r3⟩ := o3.form; have P := Lib.hid (P.out.on b3); have X := Lib.hid (X.out.trans (b3.mono Z.out)); have Z := Lib.hid (Nat.le_trans Z.out b3.size); have R3 := Lib.hid r3.rg; clear o3 b3 r3 hc3)
          | (go_at_call 38; (with_reducible refine Calls.mono (K2.out _) ?_); rintro e w3 ⟨v3, rfl, o3, b3⟩; obtain ⟨A3, c3, rfl, hc3, r3⟩ := o3.form; have P := Lib.hid (P.out.on b3); have X := Lib.hid (X.out.trans (b3.mono Z.out)); have Z := Lib.hid (Nat.le_trans Z.out b3.size); have R3 := Lib.hid r3.rg; clear o3 b3 r3 hc3)
          | (go_at_call 39; (with_reducible refine Calls.mono (K3.out _) ?_); rintro e w3 ⟨rfl, rfl⟩)
          | (go_at_call 37; (with_reducible refine Calls.mono (K4.out _) ?_); rintro e w3 ⟨v3, rfl, o3, b3⟩; obtain ⟨A3, c3, rfl, hc3, r3⟩ := o3.form; have P := Lib.hid (P.out.on b3); have X := Lib.hid (X.out.trans (b3.mono Z.out)); have Z := Lib.hid (Nat.le_trans Z.out b3.size); have R3 := Lib.hid r3.rg; clear o3 b3 r3 hc3)
          | (at_builtin; refine wpList_append_G tgB rfl (.tmp 30) (.tmp 34) rfl (w.heap.size + 1) _ _ rfl P.out.o _ _ _ (putSmall a) rfl rfl R3.out (Apart.flat u8_flat) (by have := l1.out; have := l2.out; have := HLn.out; have := m1.out; simp only [List.length_append]; omega) Z.out ?_; intro v4 w4 o4 b4 g4 h4; have P := Lib.hid (P.out.app o4 g4 h4); have X := Lib.hid (X.out.trans b4); have Z := Lib.hid (Nat.le_trans Z.out b4.size); obtain ⟨y0, y1, y2, y3, _, _, _, _⟩ := P.out.x; clear o4 b4 g4 h4)
          | (at_builtin; refine wpList_append_G tgB rfl (.tmp 36) (.tmp 40) rfl (w.heap.size + 1) _ _ rfl P.out.o _ _ _ (putSmall b) rfl rfl R3.out (Apart.flat u8_flat) (by have := l1.out; have := l2.out; have := HLn.out; have := m1.out; have := m2.out; simp only [List.length_append]; omega) Z.out ?_; intro v4 w4 o4 b4 g4 h4; have P := Lib.hid (P.out.app o4 g4 h4); have X := Lib.hid (X.out.trans b4); have Z := Lib.hid (Nat.le_trans Z.out b4.size); obtain ⟨y0, y1, y2, y3, _, _, _, _⟩ := P.out.x; clear o4 b4 g4 h4)
          | (at_builtin; refine wpList_append_G tgB rfl (.tmp 42) (.tmp 46) rfl (w.heap.size + 1) _ _ rfl (P.out.alloc _).o _ _ _ [vsMark gone] rfl rfl (HM.out _).rg (Apart.flat u8_flat) (by have := l1.out; have := l2.out; have := HLn.out; have := m1.out; have := m2.out; simp only [List.length_append, List.length_singleton]; omega) (by have := Z.out; rw [heap_size_alloc]; omega) ?_; intro v4 w4 o4 b4 g4 h4; have X := Lib.hid ((X.out.alloc Z.out _).trans b4); have Z := Lib.hid (show w.heap.size + 1 ≤ w4.heap.size from by have := b4.size; rw [heap_size_alloc] at this; have := Z.out; omega); have P := Lib.hid ((P.out.alloc _).app o4 g4 h4); obtain ⟨y0, y1, y2, y3, _, _, _, _⟩ := P.out.x; clear o4 b4 g4 h4)
          | (at_builtin; refine wpList_append_G tgB rfl (.tmp 48) (.tmp 51) rfl (w.heap.size + 1) _ _ rfl P.out.o _ _ _ (putText val.data.toList) rfl rfl R3.out (Apart.flat u8_flat) (by have := l1.out; have := l2.out; have := HLn.out; have := m1.out; have := m2.out; have := m4.out; simp only [List.length_append, List.length_singleton]; omega) Z.out ?_; intro v4 w4 o4 b4 g4 h4; have P := Lib.hid (P.out.app o4 g4 h4); have X := Lib.hid (X.out.trans b4); have Z := Lib.hid (Nat.le_trans Z.out b4.size); clear o4 b4 g4 h4)
          | fail)
        go_round
        case rel => exact ⟨k + 1, by omega, by go_num, by have := OG.ob P.out.o; rw [HS.out]; simpa using this, X.out, Z.out⟩
        case measure => simp [intOf]; omega
      · obtain rfl : k = n := by omega
        rw [List.take_of_length_le (by rw [HL.out]; exact Nat.le_refl _)] at ho
        have O := Lib.hid ho
        clear ho hx
        go_wp2
        go_ret2
        exact ⟨_, rfl, by rw [HP.out]; exact O.out.lift (by omega), FB.out _ X.out⟩
  · rw [if_neg h0]
    generalize vsCheck key l = z at *
    have hd : ((z : Int) != 0) = true := by simp; omega
    clear h0 hl hr
    go_enter Try.func10, Try.ntmps10
    go_upto_region 1 with fail
    generalize w.alloc (.cells #[.string key, .slice A n c] 24) = W0 at *
    have s0 := SX.out.c0
    have s1 := SX.out.c1
    go_wp2_with (go_at_call 27; refine (KC.out _ HB.out).mono ?_; rintro e w1 ⟨rfl, b1⟩; have HB := Lib.hid (HB.out.trans (b1.mono HB.out.size)); clear b1)
    go_ret2
    exact ⟨_, rfl, OB.nil, HB.out⟩
end Go.Proofs.Ytjmmaghjbaigiaa
