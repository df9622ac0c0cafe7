/- Joined: WrF WrFa WrFb. -/
import Derived.Test.YtlohhbpncbnipaaM47
section
/- A record of its bytes: the program's guess, and its Get. -/
namespace Go.Proofs.Ytlohhbpncbnipaa
open Go.RowKit
set_option linter.unusedVariables false
set_option linter.unusedSimpArgs false
/-- A box that holds a record. -/
structure RecBox (W : World) (q : Nat) (k t s : Int) (key : ByteArray) (g : Bool) (v : ByteArray) : Prop where
  c0 : W.cell? ⟨q, 0, none⟩ = some (.int .u8 k)
  c1 : W.cell? ⟨q, 1, none⟩ = some (.int .i64 t)
  c2 : W.cell? ⟨q, 2, none⟩ = some (.int .i64 s)
  c3 : W.cell? ⟨q, 3, none⟩ = some (.string key)
  c4 : W.cell? ⟨q, 4, none⟩ = some (.bool g)
  c5 : W.cell? ⟨q, 5, none⟩ = some (.string v)
  f0 : W.frozen? ⟨q, 0, none⟩ = false
  f1 : W.frozen? ⟨q, 1, none⟩ = false
  f2 : W.frozen? ⟨q, 2, none⟩ = false
  f3 : W.frozen? ⟨q, 3, none⟩ = false
  f4 : W.frozen? ⟨q, 4, none⟩ = false
  f5 : W.frozen? ⟨q, 5, none⟩ = false
theorem RecBox.new (w : World) (k t s : Int) (key : ByteArray) (g : Bool) (v : ByteArray) : RecBox (w.alloc (.cells #[.int .u8 k, .int .i64 t, .int .i64 s, .string key, .bool g, .string v] 23)) w.heap.size k t s key g v := by
  constructor <;> simp
theorem RecBox.below {W W' : World} {q : Nat} {k t s : Int} {key : ByteArray} {g : Bool} {v : ByteArray} (h : RecBox W q k t s key g v) {B : Nat} (hb : Below B W W') (hq : q < B) : RecBox W' q k t s key g v := by
  have C : ∀ i x, W.cell? ⟨q, i, none⟩ = some x → W'.cell? ⟨q, i, none⟩ = some x := fun i x hx => (hb.cell (p := ⟨q, i, none⟩) hq).trans hx
  have F : ∀ i, W.frozen? ⟨q, i, none⟩ = false → W'.frozen? ⟨q, i, none⟩ = false := fun i hx => (hb.frozen (p := ⟨q, i, none⟩) hq).trans hx
  exact ⟨C _ _ h.c0, C _ _ h.c1, C _ _ h.c2, C _ _ h.c3, C _ _ h.c4, C _ _ h.c5, F _ h.f0, F _ h.f1, F _ h.f2, F _ h.f3, F _ h.f4, F _ h.f5⟩
theorem RecBox.lt {W : World} {q : Nat} {k t s : Int} {key : ByteArray} {g : Bool} {v : ByteArray} (h : RecBox W q k t s key g v) : q < W.heap.size := lt_of_cell h.c0
theorem RecBox.other {W : World} {q : Nat} {k t s : Int} {key : ByteArray} {g : Bool} {v : ByteArray} (h : RecBox W q k t s key g v) {p : Addr} (hp : p.block ≠ q) (x : Value) : RecBox (W.setCell p x) q k t s key g v := by
  have C : ∀ i y, W.cell? ⟨q, i, none⟩ = some y → (W.setCell p x).cell? ⟨q, i, none⟩ = some y := fun i y hy => by
    rw [World.cell?_setCell_other W p _ x (fun e => hp (by rw [e]))]; exact hy
  refine ⟨C _ _ h.c0, C _ _ h.c1, C _ _ h.c2, C _ _ h.c3, C _ _ h.c4, C _ _ h.c5, ?_, ?_, ?_, ?_, ?_, ?_⟩ <;> simp [h.f0, h.f1, h.f2, h.f3, h.f4, h.f5]
theorem RecBox.set1 {W : World} {q : Nat} {k t s : Int} {key : ByteArray} {g : Bool} {v : ByteArray} (h : RecBox W q k t s key g v) (x : Int) : RecBox (W.setCell ⟨q, 1, none⟩ (.int .i64 x)) q k x s key g v := by
  constructor <;> simp [World.cell?_setCell_other, World.cell?_setCell_same', h.c0, h.c1, h.c2, h.c3, h.c4, h.c5, h.f0, h.f1, h.f2, h.f3, h.f4, h.f5]
theorem RecBox.set2 {W : World} {q : Nat} {k t s : Int} {key : ByteArray} {g : Bool} {v : ByteArray} (h : RecBox W q k t s key g v) (x : Int) : RecBox (W.setCell ⟨q, 2, none⟩ (.int .i64 x)) q k t x key g v := by
  constructor <;> simp [World.cell?_setCell_other, World.cell?_setCell_same', h.c0, h.c1, h.c2, h.c3, h.c4, h.c5, h.f0, h.f1, h.f2, h.f3, h.f4, h.f5]
theorem RecBox.set3 {W : World} {q : Nat} {k t s : Int} {key : ByteArray} {g : Bool} {v : ByteArray} (h : RecBox W q k t s key g v) (x : ByteArray) : RecBox (W.setCell ⟨q, 3, none⟩ (.string x)) q k t s x g v := by
  constructor <;> simp [World.cell?_setCell_other, World.cell?_setCell_same', h.c0, h.c1, h.c2, h.c3, h.c4, h.c5, h.f0, h.f1, h.f2, h.f3, h.f4, h.f5]
theorem below6 {w W : World} {B : Nat} (h : Below B w W) {q : Nat} (hq : B ≤ q) (a0 a1 a2 a3 a4 a5 : Value) : Below B w ((((((W.setCell ⟨q, 0, none⟩ a0).setCell ⟨q, 1, none⟩ a1).setCell ⟨q, 2, none⟩ a2).setCell ⟨q, 3, none⟩ a3).setCell ⟨q, 4, none⟩ a4).setCell ⟨q, 5, none⟩ a5) :=
  (((((h.setCell (p := ⟨q, 0, none⟩) hq _).setCell (p := ⟨q, 1, none⟩) hq _).setCell (p := ⟨q, 2, none⟩) hq _).setCell (p := ⟨q, 3, none⟩) hq _).setCell (p := ⟨q, 4, none⟩) hq _).setCell (p := ⟨q, 5, none⟩) hq _
theorem wr_kinds (k : Nat) : (wrHasTxn k = true ∧ wrHasTS k = true ∧ wrHasPair k = false) ∨ (wrHasTxn k = true ∧ wrHasTS k = false ∧ wrHasPair k = true) ∨ (wrHasTxn k = true ∧ wrHasTS k = false ∧ wrHasPair k = false) ∨ (wrHasTxn k = false ∧ wrHasTS k = true ∧ wrHasPair k = false) := by
  unfold wrHasTxn wrHasTS wrHasPair
  by_cases h0 : k = 0
  · subst h0; simp
  · by_cases h1 : k = 1
    · subst h1; simp
    · by_cases h2 : k = 2
      · subst h2; simp
      · by_cases h4 : k = 4
        · subst h4; simp
        · right; right; left; simp [h0, h1, h2, h4]
theorem rdL_len (l : List UInt8) (f : Nat) : (rdL l f).length ≤ l.length := by
  obtain ⟨k, hk, e⟩ := rd_suffix l f
  rw [e]; simp
theorem suffix_drop {l r : List UInt8} {k j : Nat} (hr : r = l.drop 1) (h1 : 1 ≤ l.length) {L M : List UInt8} (hL : L = r.drop k) (hM : M = L.drop j) : l.drop (l.length - M.length) = M := by
  subst hr hL hM
  rw [List.drop_drop, List.drop_drop]
  rcases Nat.lt_or_ge (1 + (k + j)) l.length with h | h
  · rw [List.length_drop]; congr 1; omega
  · rw [List.drop_eq_nil_of_le h]; simp
end Go.Proofs.Ytlohhbpncbnipaa
end
section
/- The program's guess of a record of its bytes, by what its kind has. -/
namespace Go.Proofs.Ytlohhbpncbnipaa
open Go.RowKit
set_option linter.unusedVariables false
set_option linter.unusedSimpArgs false
set_option maxHeartbeats 4000000 in
set_option maxRecDepth 100000 in
theorem guess_ttf (A : Option Addr) (n c : Nat) (k : UInt8) (r : List UInt8) (w : World) (hN : n ≤ 17592186044416) (hl : (k :: r).length = n) (hc : n ≤ c) (hr : RB w A (k :: r)) (ea : wrHasTxn k.toNat = true) (eb : wrHasTS k.toNat = true) (ec : wrHasPair k.toNat = false) :
    Calls Try.prog 32 #[.slice A n c] w fun e w' => e = .returned (guessR (k :: r)).v ∧ Below w.heap.size w w' := by
  rw [show guessR (k :: r) = (⟨k.toNat, (rdV r 0 : Nat), (rdV (rdL r 0) (rdF r 0) : Nat), ⟨#[]⟩, false, ⟨#[]⟩⟩ : Rec) from by show guessL k.toNat (wrHasTxn k.toNat) (wrHasTS k.toNat) (wrHasPair k.toNat) r = _; rw [ea, eb, ec]; rfl]
  have KA := Lib.hid (fun W => hasTxn_any k.toNat W)
  have KB := Lib.hid (fun W => hasTS_any k.toNat W)
  have KC := Lib.hid (fun W => hasPair_any k.toNat W)
  rw [ea] at KA
  rw [eb] at KB
  rw [ec] at KC
  clear ea eb ec
  obtain ⟨ad, y, rfl, hy, hcy⟩ := hr.at_ (k := 0) (by simp)
  obtain rfl : y = k := by simpa using hy.symm
  have hr' := hr.pastK (m := 1) hl hc (by simp at hl; omega)
  rw [List.drop_one, List.tail_cons] at hr'
  rw [Addr.add_nought] at hcy
  have hlt := lt_of_cell hcy
  have hn : r.length = n - 1 := by simp at hl; omega
  have h1n : 1 ≤ n := by simp at hl; omega
  have KN := Lib.hid (fun B c' W (hB : RB W B r) => okNewO_any B (n - 1) c' r W (by omega) hn hB)
  have KS1 := Lib.hid (fun b g W (h : RDO b W g r 0) => okSmallO_any b g 0 r W h (by omega))
  have KS2 := Lib.hid (fun b g W (h : RDO b W g (rdL r 0) (rdF r 0)) => okSmallO_any b g (rdF r 0) (rdL r 0) W h (by have := rdL_len r 0; omega))
  generalize rdV (rdL r 0) (rdF r 0) = V2 at *
  generalize rdV r 0 = V1 at *
  generalize rdL r 0 = L1 at *
  generalize rdF r 0 = F1 at *
  have hw0 := heap_size_alloc w (.cells #[.int .u8 0, .int .i64 0, .int .i64 0, .string ⟨#[]⟩, .bool false, .string ⟨#[]⟩] 23)
  have hw1 := heap_size_alloc (w.alloc (.cells #[.int .u8 0, .int .i64 0, .int .i64 0, .string ⟨#[]⟩, .bool false, .string ⟨#[]⟩] 23)) (.cells #[.int .u8 (y.toNat : Int), .int .i64 0, .int .i64 0, .string ⟨#[]⟩, .bool false, .string ⟨#[]⟩] 23)
  have BX0 := RecBox.new (w.alloc (.cells #[.int .u8 0, .int .i64 0, .int .i64 0, .string ⟨#[]⟩, .bool false, .string ⟨#[]⟩] 23)) (y.toNat : Int) 0 0 ⟨#[]⟩ false ⟨#[]⟩
  rw [hw0] at BX0
  have BX := Lib.hid BX0
  have PX := Lib.hid ((RecBox.new w 0 0 0 ⟨#[]⟩ false ⟨#[]⟩).below ((Below.refl (w.heap.size + 1) (w.alloc (.cells #[.int .u8 0, .int .i64 0, .int .i64 0, .string ⟨#[]⟩, .bool false, .string ⟨#[]⟩] 23))).alloc (by rw [hw0]; exact Nat.le_refl _) (.cells #[.int .u8 (y.toNat : Int), .int .i64 0, .int .i64 0, .string ⟨#[]⟩, .bool false, .string ⟨#[]⟩] 23)) (Nat.lt_succ_self _))
  have BB := Lib.hid (((Below.refl w.heap.size w).alloc (Nat.le_refl _) (.cells #[.int .u8 0, .int .i64 0, .int .i64 0, .string ⟨#[]⟩, .bool false, .string ⟨#[]⟩] 23)).alloc (by simp) (.cells #[.int .u8 (y.toNat : Int), .int .i64 0, .int .i64 0, .string ⟨#[]⟩, .bool false, .string ⟨#[]⟩] 23))
  have hq1 : Hid (w.heap.size < ((w.alloc (.cells #[.int .u8 0, .int .i64 0, .int .i64 0, .string ⟨#[]⟩, .bool false, .string ⟨#[]⟩] 23)).alloc (.cells #[.int .u8 (y.toNat : Int), .int .i64 0, .int .i64 0, .string ⟨#[]⟩, .bool false, .string ⟨#[]⟩] 23)).heap.size) := Lib.hid (by omega)
  have hq2 : Hid (w.heap.size + 1 < ((w.alloc (.cells #[.int .u8 0, .int .i64 0, .int .i64 0, .string ⟨#[]⟩, .bool false, .string ⟨#[]⟩] 23)).alloc (.cells #[.int .u8 (y.toNat : Int), .int .i64 0, .int .i64 0, .string ⟨#[]⟩, .bool false, .string ⟨#[]⟩] 23)).heap.size) := Lib.hid (by omega)
  clear hw0 hw1 BX0
  have l0 : 0 < n := by omega
  have l1 : (1 : Int) ≤ (n : Int) := by omega
  have l2 : (n : Int) ≤ (c : Int) := by omega
  by_cases hc1 : c = 1
  · subst hc1
    obtain rfl : n = 1 := by omega
    have HB := Lib.hid (fun W (hW : Below w.heap.size w W) => (hr' (some ad) (.inl ⟨rfl, rfl⟩)).below hW)
    clear hl hr hr' hy hn h1n hN
    go_enter Try.func32, Try.ntmps32
    go_wp2_with fail
    generalize ((w.alloc (.cells #[.int .u8 0, .int .i64 0, .int .i64 0, .string ⟨#[]⟩, .bool false, .string ⟨#[]⟩] 23)).alloc (.cells #[.int .u8 (y.toNat : Int), .int .i64 0, .int .i64 0, .string ⟨#[]⟩, .bool false, .string ⟨#[]⟩] 23)) = W0 at *
    refine (KN.out _ _ _ (HB.out _ BB.out)).mono ?_
    rintro e w1 ⟨g, rfl, r1, hg', b1⟩
    have hg := Lib.hid hg'
    have R := Lib.hid r1
    have BX := Lib.hid (BX.out.below b1 hq2.out)
    have PX := Lib.hid (PX.out.below b1 hq1.out)
    have BB := Lib.hid (BB.out.trans (b1.mono (Nat.le_of_lt hq1.out)))
    clear r1 b1 hg'
    obtain ⟨x0, x1, x2, x3, x4, x5, xf0, xf1, xf2, xf3, xf4, xf5⟩ := BX.out
    obtain ⟨p0, p1, p2, p3, p4, p5, pf0, pf1, pf2, pf3, pf4, pf5⟩ := PX.out
    go_wp2_with (first
      | (go_at_call 21; refine (KA.out _).mono ?_; rintro e w' ⟨rfl, rfl⟩)
      | (go_at_call 23; refine (KB.out _).mono ?_; rintro e w' ⟨rfl, rfl⟩)
      | (go_at_call 24; refine (KC.out _).mono ?_; rintro e w' ⟨rfl, rfl⟩)
      | fail)
    refine (KS1.out _ _ _ R.out).mono ?_
    rintro e w2 ⟨rfl, r2, o2⟩
    have b2 := o2.below (Nat.le_refl _)
    clear x0 x1 x2 x3 x4 x5 xf0 xf1 xf2 xf3 xf4 xf5 p0 p1 p2 p3 p4 p5 pf0 pf1 pf2 pf3 pf4 pf5
    clear o2 R
    have BX := Lib.hid (BX.out.below b2 (Nat.lt_of_lt_of_le hq2.out hg.out))
    have PX := Lib.hid (PX.out.below b2 (Nat.lt_of_lt_of_le hq1.out hg.out))
    have BB := Lib.hid (BB.out.trans (b2.mono (Nat.le_trans (Nat.le_of_lt hq1.out) hg.out)))
    have R := Lib.hid (r2.box (p := ⟨w.heap.size + 1, 1, none⟩) hq2.out (Nat.lt_of_lt_of_le hq2.out hg.out) (Value.int .i64 (V1 : Int)))
    obtain ⟨x0, x1, x2, x3, x4, x5, xf0, xf1, xf2, xf3, xf4, xf5⟩ := BX.out
    obtain ⟨p0, p1, p2, p3, p4, p5, pf0, pf1, pf2, pf3, pf4, pf5⟩ := PX.out
    have BX' := Lib.hid (BX.out.set1 (V1 : Int))
    have PX' := Lib.hid (PX.out.other (p := ⟨w.heap.size + 1, 1, none⟩) (Nat.succ_ne_self _) (Value.int .i64 (V1 : Int)))
    have BB' := Lib.hid (BB.out.setCell (p := ⟨w.heap.size + 1, 1, none⟩) (Nat.le_succ _) (Value.int .i64 (V1 : Int)))
    clear BX PX BB r2 b2
    go_wp2_with (first
      | (go_at_call 21; refine (KA.out _).mono ?_; rintro e w' ⟨rfl, rfl⟩)
      | (go_at_call 23; refine (KB.out _).mono ?_; rintro e w' ⟨rfl, rfl⟩)
      | (go_at_call 24; refine (KC.out _).mono ?_; rintro e w' ⟨rfl, rfl⟩)
      | fail)
    generalize w2.setCell ⟨w.heap.size + 1, 1, none⟩ (Value.int .i64 (V1 : Int)) = w4 at *
    have BX := BX'
    have PX := PX'
    have BB := BB'
    clear BX' PX' BB'
    clear x0 x1 x2 x3 x4 x5 xf0 xf1 xf2 xf3 xf4 xf5 p0 p1 p2 p3 p4 p5 pf0 pf1 pf2 pf3 pf4 pf5
    obtain ⟨x0, x1, x2, x3, x4, x5, xf0, xf1, xf2, xf3, xf4, xf5⟩ := BX.out
    obtain ⟨p0, p1, p2, p3, p4, p5, pf0, pf1, pf2, pf3, pf4, pf5⟩ := PX.out
    go_wp2_with (first
      | (go_at_call 21; refine (KA.out _).mono ?_; rintro e w' ⟨rfl, rfl⟩)
      | (go_at_call 23; refine (KB.out _).mono ?_; rintro e w' ⟨rfl, rfl⟩)
      | (go_at_call 24; refine (KC.out _).mono ?_; rintro e w' ⟨rfl, rfl⟩)
      | fail)
    refine (KS2.out _ _ _ R.out).mono ?_
    rintro e w2 ⟨rfl, r2, o2⟩
    have b2 := o2.below (Nat.le_refl _)
    clear x0 x1 x2 x3 x4 x5 xf0 xf1 xf2 xf3 xf4 xf5 p0 p1 p2 p3 p4 p5 pf0 pf1 pf2 pf3 pf4 pf5
    clear o2 R
    have BX := Lib.hid (BX.out.below b2 (Nat.lt_of_lt_of_le hq2.out hg.out))
    have PX := Lib.hid (PX.out.below b2 (Nat.lt_of_lt_of_le hq1.out hg.out))
    have BB := Lib.hid (BB.out.trans (b2.mono (Nat.le_trans (Nat.le_of_lt hq1.out) hg.out)))
    have R := Lib.hid (r2.box (p := ⟨w.heap.size + 1, 2, none⟩) hq2.out (Nat.lt_of_lt_of_le hq2.out hg.out) (Value.int .i64 (V2 : Int)))
    obtain ⟨x0, x1, x2, x3, x4, x5, xf0, xf1, xf2, xf3, xf4, xf5⟩ := BX.out
    obtain ⟨p0, p1, p2, p3, p4, p5, pf0, pf1, pf2, pf3, pf4, pf5⟩ := PX.out
    have BX' := Lib.hid (BX.out.set2 (V2 : Int))
    have PX' := Lib.hid (PX.out.other (p := ⟨w.heap.size + 1, 2, none⟩) (Nat.succ_ne_self _) (Value.int .i64 (V2 : Int)))
    have BB' := Lib.hid (BB.out.setCell (p := ⟨w.heap.size + 1, 2, none⟩) (Nat.le_succ _) (Value.int .i64 (V2 : Int)))
    clear BX PX BB r2 b2
    go_wp2_with (first
      | (go_at_call 21; refine (KA.out _).mono ?_; rintro e w' ⟨rfl, rfl⟩)
      | (go_at_call 23; refine (KB.out _).mono ?_; rintro e w' ⟨rfl, rfl⟩)
      | (go_at_call 24; refine (KC.out _).mono ?_; rintro e w' ⟨rfl, rfl⟩)
      | fail)
    generalize w2.setCell ⟨w.heap.size + 1, 2, none⟩ (Value.int .i64 (V2 : Int)) = w4 at *
    have BX := BX'
    have PX := PX'
    have BB := BB'
    clear BX' PX' BB'
    clear x0 x1 x2 x3 x4 x5 xf0 xf1 xf2 xf3 xf4 xf5 p0 p1 p2 p3 p4 p5 pf0 pf1 pf2 pf3 pf4 pf5
    obtain ⟨x0, x1, x2, x3, x4, x5, xf0, xf1, xf2, xf3, xf4, xf5⟩ := BX.out
    obtain ⟨p0, p1, p2, p3, p4, p5, pf0, pf1, pf2, pf3, pf4, pf5⟩ := PX.out
    have BBF := BB
    go_wp2_with (first
      | (go_at_call 21; refine (KA.out _).mono ?_; rintro e w' ⟨rfl, rfl⟩)
      | (go_at_call 23; refine (KB.out _).mono ?_; rintro e w' ⟨rfl, rfl⟩)
      | (go_at_call 24; refine (KC.out _).mono ?_; rintro e w' ⟨rfl, rfl⟩)
      | fail)
    refine bodyPost_ret (v := .agg #[.int .u8 (y.toNat : Int), .int .i64 (V1 : Int), .int .i64 (V2 : Int), .string ⟨#[]⟩, .bool false, .string ⟨#[]⟩]) (by simp [results, Try.results32, go_sem, p0, p1, p2, p3, p4, p5]) rfl ⟨rfl, below6 BBF.out (Nat.le_refl _) _ _ _ _ _ _⟩
  · have HB := Lib.hid (fun W (hW : Below w.heap.size w W) => (hr' (some (ad.add 1)) (.inr rfl)).below hW)
    clear hl hr hr' hy hn h1n hN
    go_enter Try.func32, Try.ntmps32
    go_wp2_with fail
    generalize ((w.alloc (.cells #[.int .u8 0, .int .i64 0, .int .i64 0, .string ⟨#[]⟩, .bool false, .string ⟨#[]⟩] 23)).alloc (.cells #[.int .u8 (y.toNat : Int), .int .i64 0, .int .i64 0, .string ⟨#[]⟩, .bool false, .string ⟨#[]⟩] 23)) = W0 at *
    refine (KN.out _ _ _ (HB.out _ BB.out)).mono ?_
    rintro e w1 ⟨g, rfl, r1, hg', b1⟩
    have hg := Lib.hid hg'
    have R := Lib.hid r1
    have BX := Lib.hid (BX.out.below b1 hq2.out)
    have PX := Lib.hid (PX.out.below b1 hq1.out)
    have BB := Lib.hid (BB.out.trans (b1.mono (Nat.le_of_lt hq1.out)))
    clear r1 b1 hg'
    obtain ⟨x0, x1, x2, x3, x4, x5, xf0, xf1, xf2, xf3, xf4, xf5⟩ := BX.out
    obtain ⟨p0, p1, p2, p3, p4, p5, pf0, pf1, pf2, pf3, pf4, pf5⟩ := PX.out
    go_wp2_with (first
      | (go_at_call 21; refine (KA.out _).mono ?_; rintro e w' ⟨rfl, rfl⟩)
      | (go_at_call 23; refine (KB.out _).mono ?_; rintro e w' ⟨rfl, rfl⟩)
      | (go_at_call 24; refine (KC.out _).mono ?_; rintro e w' ⟨rfl, rfl⟩)
      | fail)
    refine (KS1.out _ _ _ R.out).mono ?_
    rintro e w2 ⟨rfl, r2, o2⟩
    have b2 := o2.below (Nat.le_refl _)
    clear x0 x1 x2 x3 x4 x5 xf0 xf1 xf2 xf3 xf4 xf5 p0 p1 p2 p3 p4 p5 pf0 pf1 pf2 pf3 pf4 pf5
    clear o2 R
    have BX := Lib.hid (BX.out.below b2 (Nat.lt_of_lt_of_le hq2.out hg.out))
    have PX := Lib.hid (PX.out.below b2 (Nat.lt_of_lt_of_le hq1.out hg.out))
    have BB := Lib.hid (BB.out.trans (b2.mono (Nat.le_trans (Nat.le_of_lt hq1.out) hg.out)))
    have R := Lib.hid (r2.box (p := ⟨w.heap.size + 1, 1, none⟩) hq2.out (Nat.lt_of_lt_of_le hq2.out hg.out) (Value.int .i64 (V1 : Int)))
    obtain ⟨x0, x1, x2, x3, x4, x5, xf0, xf1, xf2, xf3, xf4, xf5⟩ := BX.out
    obtain ⟨p0, p1, p2, p3, p4, p5, pf0, pf1, pf2, pf3, pf4, pf5⟩ := PX.out
    have BX' := Lib.hid (BX.out.set1 (V1 : Int))
    have PX' := Lib.hid (PX.out.other (p := ⟨w.heap.size + 1, 1, none⟩) (Nat.succ_ne_self _) (Value.int .i64 (V1 : Int)))
    have BB' := Lib.hid (BB.out.setCell (p := ⟨w.heap.size + 1, 1, none⟩) (Nat.le_succ _) (Value.int .i64 (V1 : Int)))
    clear BX PX BB r2 b2
    go_wp2_with (first
      | (go_at_call 21; refine (KA.out _).mono ?_; rintro e w' ⟨rfl, rfl⟩)
      | (go_at_call 23; refine (KB.out _).mono ?_; rintro e w' ⟨rfl, rfl⟩)
      | (go_at_call 24; refine (KC.out _).mono ?_; rintro e w' ⟨rfl, rfl⟩)
      | fail)
    generalize w2.setCell ⟨w.heap.size + 1, 1, none⟩ (Value.int .i64 (V1 : Int)) = w4 at *
    have BX := BX'
    have PX := PX'
    have BB := BB'
    clear BX' PX' BB'
    clear x0 x1 x2 x3 x4 x5 xf0 xf1 xf2 xf3 xf4 xf5 p0 p1 p2 p3 p4 p5 pf0 pf1 pf2 pf3 pf4 pf5
    obtain ⟨x0, x1, x2, x3, x4, x5, xf0, xf1, xf2, xf3, xf4, xf5⟩ := BX.out
    obtain ⟨p0, p1, p2, p3, p4, p5, pf0, pf1, pf2, pf3, pf4, pf5⟩ := PX.out
    go_wp2_with (first
      | (go_at_call 21; refine (KA.out _).mono ?_; rintro e w' ⟨rfl, rfl⟩)
      | (go_at_call 23; refine (KB.out _).mono ?_; rintro e w' ⟨rfl, rfl⟩)
      | (go_at_call 24; refine (KC.out _).mono ?_; rintro e w' ⟨rfl, rfl⟩)
      | fail)
    refine (KS2.out _ _ _ R.out).mono ?_
    rintro e w2 ⟨rfl, r2, o2⟩
    have b2 := o2.below (Nat.le_refl _)
    clear x0 x1 x2 x3 x4 x5 xf0 xf1 xf2 xf3 xf4 xf5 p0 p1 p2 p3 p4 p5 pf0 pf1 pf2 pf3 pf4 pf5
    clear o2 R
    have BX := Lib.hid (BX.out.below b2 (Nat.lt_of_lt_of_le hq2.out hg.out))
    have PX := Lib.hid (PX.out.below b2 (Nat.lt_of_lt_of_le hq1.out hg.out))
    have BB := Lib.hid (BB.out.trans (b2.mono (Nat.le_trans (Nat.le_of_lt hq1.out) hg.out)))
    have R := Lib.hid (r2.box (p := ⟨w.heap.size + 1, 2, none⟩) hq2.out (Nat.lt_of_lt_of_le hq2.out hg.out) (Value.int .i64 (V2 : Int)))
    obtain ⟨x0, x1, x2, x3, x4, x5, xf0, xf1, xf2, xf3, xf4, xf5⟩ := BX.out
    obtain ⟨p0, p1, p2, p3, p4, p5, pf0, pf1, pf2, pf3, pf4, pf5⟩ := PX.out
    have BX' := Lib.hid (BX.out.set2 (V2 : Int))
    have PX' := Lib.hid (PX.out.other (p := ⟨w.heap.size + 1, 2, none⟩) (Nat.succ_ne_self _) (Value.int .i64 (V2 : Int)))
    have BB' := Lib.hid (BB.out.setCell (p := ⟨w.heap.size + 1, 2, none⟩) (Nat.le_succ _) (Value.int .i64 (V2 : Int)))
    clear BX PX BB r2 b2
    go_wp2_with (first
      | (go_at_call 21; refine (KA.out _).mono ?_; rintro e w' ⟨rfl, rfl⟩)
      | (go_at_call 23; refine (KB.out _).mono ?_; rintro e w' ⟨rfl, rfl⟩)
      | (go_at_call 24; refine (KC.out _).mono ?_; rintro e w' ⟨rfl, rfl⟩)
      | fail)
    generalize w2.setCell ⟨w.heap.size + 1, 2, none⟩ (Value.int .i64 (V2 : Int)) = w4 at *
    have BX := BX'
    have PX := PX'
    have BB := BB'
    clear BX' PX' BB'
    clear x0 x1 x2 x3 x4 x5 xf0 xf1 xf2 xf3 xf4 xf5 p0 p1 p2 p3 p4 p5 pf0 pf1 pf2 pf3 pf4 pf5
    obtain ⟨x0, x1, x2, x3, x4, x5, xf0, xf1, xf2, xf3, xf4, xf5⟩ := BX.out
    obtain ⟨p0, p1, p2, p3, p4, p5, pf0, pf1, pf2, pf3, pf4, pf5⟩ := PX.out
    have BBF := BB
    go_wp2_with (first
      | (go_at_call 21; refine (KA.out _).mono ?_; rintro e w' ⟨rfl, rfl⟩)
      | (go_at_call 23; refine (KB.out _).mono ?_; rintro e w' ⟨rfl, rfl⟩)
      | (go_at_call 24; refine (KC.out _).mono ?_; rintro e w' ⟨rfl, rfl⟩)
      | fail)
    refine bodyPost_ret (v := .agg #[.int .u8 (y.toNat : Int), .int .i64 (V1 : Int), .int .i64 (V2 : Int), .string ⟨#[]⟩, .bool false, .string ⟨#[]⟩]) (by simp [results, Try.results32, go_sem, p0, p1, p2, p3, p4, p5]) rfl ⟨rfl, below6 BBF.out (Nat.le_refl _) _ _ _ _ _ _⟩
end Go.Proofs.Ytlohhbpncbnipaa
end
section
/- The program's guess of a record of its bytes, by what its kind has. -/
namespace Go.Proofs.Ytlohhbpncbnipaa
open Go.RowKit
set_option linter.unusedVariables false
set_option linter.unusedSimpArgs false
set_option maxHeartbeats 4000000 in
set_option maxRecDepth 100000 in
theorem guess_tff (A : Option Addr) (n c : Nat) (k : UInt8) (r : List UInt8) (w : World) (hN : n ≤ 17592186044416) (hl : (k :: r).length = n) (hc : n ≤ c) (hr : RB w A (k :: r)) (ea : wrHasTxn k.toNat = true) (eb : wrHasTS k.toNat = false) (ec : wrHasPair k.toNat = false) :
    Calls Try.prog 32 #[.slice A n c] w fun e w' => e = .returned (guessR (k :: r)).v ∧ Below w.heap.size w w' := by
  rw [show guessR (k :: r) = (⟨k.toNat, (rdV r 0 : Nat), 0, ⟨#[]⟩, false, ⟨#[]⟩⟩ : Rec) from by show guessL k.toNat (wrHasTxn k.toNat) (wrHasTS k.toNat) (wrHasPair k.toNat) r = _; rw [ea, eb, ec]; rfl]
  have KA := Lib.hid (fun W => hasTxn_any k.toNat W)
  have KB := Lib.hid (fun W => hasTS_any k.toNat W)
  have KC := Lib.hid (fun W => hasPair_any k.toNat W)
  rw [ea] at KA
  rw [eb] at KB
  rw [ec] at KC
  clear ea eb ec
  obtain ⟨ad, y, rfl, hy, hcy⟩ := hr.at_ (k := 0) (by simp)
  obtain rfl : y = k := by simpa using hy.symm
  have hr' := hr.pastK (m := 1) hl hc (by simp at hl; omega)
  rw [List.drop_one, List.tail_cons] at hr'
  rw [Addr.add_nought] at hcy
  have hlt := lt_of_cell hcy
  have hn : r.length = n - 1 := by simp at hl; omega
  have h1n : 1 ≤ n := by simp at hl; omega
  have KN := Lib.hid (fun B c' W (hB : RB W B r) => okNewO_any B (n - 1) c' r W (by omega) hn hB)
  have KS1 := Lib.hid (fun b g W (h : RDO b W g r 0) => okSmallO_any b g 0 r W h (by omega))
  generalize rdV r 0 = V1 at *
  generalize rdL r 0 = L1 at *
  generalize rdF r 0 = F1 at *
  have hw0 := heap_size_alloc w (.cells #[.int .u8 0, .int .i64 0, .int .i64 0, .string ⟨#[]⟩, .bool false, .string ⟨#[]⟩] 23)
  have hw1 := heap_size_alloc (w.alloc (.cells #[.int .u8 0, .int .i64 0, .int .i64 0, .string ⟨#[]⟩, .bool false, .string ⟨#[]⟩] 23)) (.cells #[.int .u8 (y.toNat : Int), .int .i64 0, .int .i64 0, .string ⟨#[]⟩, .bool false, .string ⟨#[]⟩] 23)
  have BX0 := RecBox.new (w.alloc (.cells #[.int .u8 0, .int .i64 0, .int .i64 0, .string ⟨#[]⟩, .bool false, .string ⟨#[]⟩] 23)) (y.toNat : Int) 0 0 ⟨#[]⟩ false ⟨#[]⟩
  rw [hw0] at BX0
  have BX := Lib.hid BX0
  have PX := Lib.hid ((RecBox.new w 0 0 0 ⟨#[]⟩ false ⟨#[]⟩).below ((Below.refl (w.heap.size + 1) (w.alloc (.cells #[.int .u8 0, .int .i64 0, .int .i64 0, .string ⟨#[]⟩, .bool false, .string ⟨#[]⟩] 23))).alloc (by rw [hw0]; exact Nat.le_refl _) (.cells #[.int .u8 (y.toNat : Int), .int .i64 0, .int .i64 0, .string ⟨#[]⟩, .bool false, .string ⟨#[]⟩] 23)) (Nat.lt_succ_self _))
  have BB := Lib.hid (((Below.refl w.heap.size w).alloc (Nat.le_refl _) (.cells #[.int .u8 0, .int .i64 0, .int .i64 0, .string ⟨#[]⟩, .bool false, .string ⟨#[]⟩] 23)).alloc (by simp) (.cells #[.int .u8 (y.toNat : Int), .int .i64 0, .int .i64 0, .string ⟨#[]⟩, .bool false, .string ⟨#[]⟩] 23))
  have hq1 : Hid (w.heap.size < ((w.alloc (.cells #[.int .u8 0, .int .i64 0, .int .i64 0, .string ⟨#[]⟩, .bool false, .string ⟨#[]⟩] 23)).alloc (.cells #[.int .u8 (y.toNat : Int), .int .i64 0, .int .i64 0, .string ⟨#[]⟩, .bool false, .string ⟨#[]⟩] 23)).heap.size) := Lib.hid (by omega)
  have hq2 : Hid (w.heap.size + 1 < ((w.alloc (.cells #[.int .u8 0, .int .i64 0, .int .i64 0, .string ⟨#[]⟩, .bool false, .string ⟨#[]⟩] 23)).alloc (.cells #[.int .u8 (y.toNat : Int), .int .i64 0, .int .i64 0, .string ⟨#[]⟩, .bool false, .string ⟨#[]⟩] 23)).heap.size) := Lib.hid (by omega)
  clear hw0 hw1 BX0
  have l0 : 0 < n := by omega
  have l1 : (1 : Int) ≤ (n : Int) := by omega
  have l2 : (n : Int) ≤ (c : Int) := by omega
  by_cases hc1 : c = 1
  · subst hc1
    obtain rfl : n = 1 := by omega
    have HB := Lib.hid (fun W (hW : Below w.heap.size w W) => (hr' (some ad) (.inl ⟨rfl, rfl⟩)).below hW)
    clear hl hr hr' hy hn h1n hN
    go_enter Try.func32, Try.ntmps32
    go_wp2_with fail
    generalize ((w.alloc (.cells #[.int .u8 0, .int .i64 0, .int .i64 0, .string ⟨#[]⟩, .bool false, .string ⟨#[]⟩] 23)).alloc (.cells #[.int .u8 (y.toNat : Int), .int .i64 0, .int .i64 0, .string ⟨#[]⟩, .bool false, .string ⟨#[]⟩] 23)) = W0 at *
    refine (KN.out _ _ _ (HB.out _ BB.out)).mono ?_
    rintro e w1 ⟨g, rfl, r1, hg', b1⟩
    have hg := Lib.hid hg'
    have R := Lib.hid r1
    have BX := Lib.hid (BX.out.below b1 hq2.out)
    have PX := Lib.hid (PX.out.below b1 hq1.out)
    have BB := Lib.hid (BB.out.trans (b1.mono (Nat.le_of_lt hq1.out)))
    clear r1 b1 hg'
    obtain ⟨x0, x1, x2, x3, x4, x5, xf0, xf1, xf2, xf3, xf4, xf5⟩ := BX.out
    obtain ⟨p0, p1, p2, p3, p4, p5, pf0, pf1, pf2, pf3, pf4, pf5⟩ := PX.out
    go_wp2_with (first
      | (go_at_call 21; refine (KA.out _).mono ?_; rintro e w' ⟨rfl, rfl⟩)
      | (go_at_call 23; refine (KB.out _).mono ?_; rintro e w' ⟨rfl, rfl⟩)
      | (go_at_call 24; refine (KC.out _).mono ?_; rintro e w' ⟨rfl, rfl⟩)
      | fail)
    refine (KS1.out _ _ _ R.out).mono ?_
    rintro e w2 ⟨rfl, r2, o2⟩
    have b2 := o2.below (Nat.le_refl _)
    clear x0 x1 x2 x3 x4 x5 xf0 xf1 xf2 xf3 xf4 xf5 p0 p1 p2 p3 p4 p5 pf0 pf1 pf2 pf3 pf4 pf5
    clear o2 R
    have BX := Lib.hid (BX.out.below b2 (Nat.lt_of_lt_of_le hq2.out hg.out))
    have PX := Lib.hid (PX.out.below b2 (Nat.lt_of_lt_of_le hq1.out hg.out))
    have BB := Lib.hid (BB.out.trans (b2.mono (Nat.le_trans (Nat.le_of_lt hq1.out) hg.out)))
    have R := Lib.hid (r2.box (p := ⟨w.heap.size + 1, 1, none⟩) hq2.out (Nat.lt_of_lt_of_le hq2.out hg.out) (Value.int .i64 (V1 : Int)))
    obtain ⟨x0, x1, x2, x3, x4, x5, xf0, xf1, xf2, xf3, xf4, xf5⟩ := BX.out
    obtain ⟨p0, p1, p2, p3, p4, p5, pf0, pf1, pf2, pf3, pf4, pf5⟩ := PX.out
    have BX' := Lib.hid (BX.out.set1 (V1 : Int))
    have PX' := Lib.hid (PX.out.other (p := ⟨w.heap.size + 1, 1, none⟩) (Nat.succ_ne_self _) (Value.int .i64 (V1 : Int)))
    have BB' := Lib.hid (BB.out.setCell (p := ⟨w.heap.size + 1, 1, none⟩) (Nat.le_succ _) (Value.int .i64 (V1 : Int)))
    clear BX PX BB r2 b2
    go_wp2_with (first
      | (go_at_call 21; refine (KA.out _).mono ?_; rintro e w' ⟨rfl, rfl⟩)
      | (go_at_call 23; refine (KB.out _).mono ?_; rintro e w' ⟨rfl, rfl⟩)
      | (go_at_call 24; refine (KC.out _).mono ?_; rintro e w' ⟨rfl, rfl⟩)
      | fail)
    generalize w2.setCell ⟨w.heap.size + 1, 1, none⟩ (Value.int .i64 (V1 : Int)) = w4 at *
    have BX := BX'
    have PX := PX'
    have BB := BB'
    clear BX' PX' BB'
    clear x0 x1 x2 x3 x4 x5 xf0 xf1 xf2 xf3 xf4 xf5 p0 p1 p2 p3 p4 p5 pf0 pf1 pf2 pf3 pf4 pf5
    obtain ⟨x0, x1, x2, x3, x4, x5, xf0, xf1, xf2, xf3, xf4, xf5⟩ := BX.out
    obtain ⟨p0, p1, p2, p3, p4, p5, pf0, pf1, pf2, pf3, pf4, pf5⟩ := PX.out
    have BBF := BB
    go_wp2_with (first
      | (go_at_call 21; refine (KA.out _).mono ?_; rintro e w' ⟨rfl, rfl⟩)
      | (go_at_call 23; refine (KB.out _).mono ?_; rintro e w' ⟨rfl, rfl⟩)
      | (go_at_call 24; refine (KC.out _).mono ?_; rintro e w' ⟨rfl, rfl⟩)
      | fail)
    refine bodyPost_ret (v := .agg #[.int .u8 (y.toNat : Int), .int .i64 (V1 : Int), .int .i64 0, .string ⟨#[]⟩, .bool false, .string ⟨#[]⟩]) (by simp [results, Try.results32, go_sem, p0, p1, p2, p3, p4, p5]) rfl ⟨rfl, below6 BBF.out (Nat.le_refl _) _ _ _ _ _ _⟩
  · have HB := Lib.hid (fun W (hW : Below w.heap.size w W) => (hr' (some (ad.add 1)) (.inr rfl)).below hW)
    clear hl hr hr' hy hn h1n hN
    go_enter Try.func32, Try.ntmps32
    go_wp2_with fail
    generalize ((w.alloc (.cells #[.int .u8 0, .int .i64 0, .int .i64 0, .string ⟨#[]⟩, .bool false, .string ⟨#[]⟩] 23)).alloc (.cells #[.int .u8 (y.toNat : Int), .int .i64 0, .int .i64 0, .string ⟨#[]⟩, .bool false, .string ⟨#[]⟩] 23)) = W0 at *
    refine (KN.out _ _ _ (HB.out _ BB.out)).mono ?_
    rintro e w1 ⟨g, rfl, r1, hg', b1⟩
    have hg := Lib.hid hg'
    have R := Lib.hid r1
    have BX := Lib.hid (BX.out.below b1 hq2.out)
    have PX := Lib.hid (PX.out.below b1 hq1.out)
    have BB := Lib.hid (BB.out.trans (b1.mono (Nat.le_of_lt hq1.out)))
    clear r1 b1 hg'
    obtain ⟨x0, x1, x2, x3, x4, x5, xf0, xf1, xf2, xf3, xf4, xf5⟩ := BX.out
    obtain ⟨p0, p1, p2, p3, p4, p5, pf0, pf1, pf2, pf3, pf4, pf5⟩ := PX.out
    go_wp2_with (first
      | (go_at_call 21; refine (KA.out _).mono ?_; rintro e w' ⟨rfl, rfl⟩)
      | (go_at_call 23; refine (KB.out _).mono ?_; rintro e w' ⟨rfl, rfl⟩)
      | (go_at_call 24; refine (KC.out _).mono ?_; rintro e w' ⟨rfl, rfl⟩)
      | fail)
    refine (KS1.out _ _ _ R.out).mono ?_
    rintro e w2 ⟨rfl, r2, o2⟩
    have b2 := o2.below (Nat.le_refl _)
    clear x0 x1 x2 x3 x4 x5 xf0 xf1 xf2 xf3 xf4 xf5 p0 p1 p2 p3 p4 p5 pf0 pf1 pf2 pf3 pf4 pf5
    clear o2 R
    have BX := Lib.hid (BX.out.below b2 (Nat.lt_of_lt_of_le hq2.out hg.out))
    have PX := Lib.hid (PX.out.below b2 (Nat.lt_of_lt_of_le hq1.out hg.out))
    have BB := Lib.hid (BB.out.trans (b2.mono (Nat.le_trans (Nat.le_of_lt hq1.out) hg.out)))
    have R := Lib.hid (r2.box (p := ⟨w.heap.size + 1, 1, none⟩) hq2.out (Nat.lt_of_lt_of_le hq2.out hg.out) (Value.int .i64 (V1 : Int)))
    obtain ⟨x0, x1, x2, x3, x4, x5, xf0, xf1, xf2, xf3, xf4, xf5⟩ := BX.out
    obtain ⟨p0, p1, p2, p3, p4, p5, pf0, pf1, pf2, pf3, pf4, pf5⟩ := PX.out
    have BX' := Lib.hid (BX.out.set1 (V1 : Int))
    have PX' := Lib.hid (PX.out.other (p := ⟨w.heap.size + 1, 1, none⟩) (Nat.succ_ne_self _) (Value.int .i64 (V1 : Int)))
    have BB' := Lib.hid (BB.out.setCell (p := ⟨w.heap.size + 1, 1, none⟩) (Nat.le_succ _) (Value.int .i64 (V1 : Int)))
    clear BX PX BB r2 b2
    go_wp2_with (first
      | (go_at_call 21; refine (KA.out _).mono ?_; rintro e w' ⟨rfl, rfl⟩)
      | (go_at_call 23; refine (KB.out _).mono ?_; rintro e w' ⟨rfl, rfl⟩)
      | (go_at_call 24; refine (KC.out _).mono ?_; rintro e w' ⟨rfl, rfl⟩)
      | fail)
    generalize w2.setCell ⟨w.heap.size + 1, 1, none⟩ (Value.int .i64 (V1 : Int)) = w4 at *
    have BX := BX'
    have PX := PX'
    have BB := BB'
    clear BX' PX' BB'
    clear x0 x1 x2 x3 x4 x5 xf0 xf1 xf2 xf3 xf4 xf5 p0 p1 p2 p3 p4 p5 pf0 pf1 pf2 pf3 pf4 pf5
    obtain ⟨x0, x1, x2, x3, x4, x5, xf0, xf1, xf2, xf3, xf4, xf5⟩ := BX.out
    obtain ⟨p0, p1, p2, p3, p4, p5, pf0, pf1, pf2, pf3, pf4, pf5⟩ := PX.out
    have BBF := BB
    go_wp2_with (first
      | (go_at_call 21; refine (KA.out _).mono ?_; rintro e w' ⟨rfl, rfl⟩)
      | (go_at_call 23; refine (KB.out _).mono ?_; rintro e w' ⟨rfl, rfl⟩)
      | (go_at_call 24; refine (KC.out _).mono ?_; rintro e w' ⟨rfl, rfl⟩)
      | fail)
    refine bodyPost_ret (v := .agg #[.int .u8 (y.toNat : Int), .int .i64 (V1 : Int), .int .i64 0, .string ⟨#[]⟩, .bool false, .string ⟨#[]⟩]) (by simp [results, Try.results32, go_sem, p0, p1, p2, p3, p4, p5]) rfl ⟨rfl, below6 BBF.out (Nat.le_refl _) _ _ _ _ _ _⟩
end Go.Proofs.Ytlohhbpncbnipaa
end
