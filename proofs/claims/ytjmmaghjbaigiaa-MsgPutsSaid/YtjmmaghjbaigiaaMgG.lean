/- The package msg: what is guessed of bytes. The package msg: Get. -/
import Derived.Test.YtjmmaghjbaigiaaMgA
import Derived.Test.YtjmmaghjbaigiaaVsX
import Derived.Test.YtjmmaghjbaigiaaVsY
namespace Go.Proofs.Ytjmmaghjbaigiaa
open Go.RowKit
set_option linter.unusedVariables false
set_option linter.unusedSimpArgs false
set_option maxHeartbeats 1000000 in
set_option maxRecDepth 100000 in
theorem mgWritten_any (A : Option Addr) (n c : Nat) (l : List UInt8) (w : World) (hN : n ≤ 17592186044416) (hl : l.length = n) (hc : n ≤ c) (hr : RB w A l) :
    Calls Try.prog 95 #[.slice A n c] w fun e w' => e = .returned (.tuple #[.bool (mgWrit l).1, .string (str (mgWrit l).2)]) ∧ Below w.heap.size w w' := by
  cases l with
  | nil =>
    obtain rfl : n = 0 := hl.symm
    go_enter Try.func95, Try.ntmps95
    go_wp2
    go_ret2
    exact ⟨rfl, Below.refl _ _⟩
  | cons x r =>
    obtain ⟨ad, y, rfl, hy, hcy⟩ := hr.at_ (k := 0) (by simp)
    obtain rfl : y = x := by simpa using hy.symm
    have hr' := hr.pastK (m := 1) hl hc (by simp at hl; omega)
    rw [List.drop_one, List.tail_cons] at hr'
    rw [Addr.add_nought] at hcy
    simp only [mgWrit]
    have hb1 : ((y.toNat : Int) == 1) = (y == 1) := by rw [Bool.eq_iff_iff]; simp [← UInt8.toNat_inj]; omega
    have hn : r.length = n - 1 := by simp at hl; omega
    have h1n : 1 ≤ n := by simp at hl; omega
    have KN := Lib.hid (fun B c' W (hB : RB W B r) => okNewO_any B (n - 1) c' r W (by omega) hn hB)
    have KT := Lib.hid (fun b g W (h : RDO b W g r 0) => okTextO_any b g 0 24 r W h (by omega) (by omega))
    have KA := Lib.hid (fun W (hW : Below w.heap.size w W) => (hW.cell (lt_of_cell hcy)).trans hcy)
    generalize (y == 1) = b1 at *
    generalize rtV r 0 24 = V at *
    by_cases hc1 : c = 1
    · subst hc1
      obtain rfl : n = 1 := by omega
      have HB := Lib.hid (fun W (hW : Below w.heap.size w W) => (hr' (some ad) (.inl ⟨rfl, rfl⟩)).below hW)
      clear hl hr hr' hy hcy
      go_enter Try.func95, Try.ntmps95
      go_wp2
      have c0 : w.drew.cell? ad = some (.int .u8 (y.toNat : Int)) := KA.out _ ((Below.refl _ _).drew)
      have B0 := Lib.hid (Below.refl w.heap.size w).drew
      go_region_held3 (fun W => W.cell? ad = some (.int .u8 (y.toNat : Int))) (first | with_reducible exact c0 | with_reducible exact c1 | with_reducible exact c2 | fail)
        (first
          | (go_at_call 81; refine (KN.out _ _ _ (HB.out _ B0.out)).mono ?_; rintro e w1 ⟨g, rfl, r1, hg, b1⟩; have B1 := Lib.hid (B0.out.trans b1); have R1 := Lib.hid r1; have hg := Lib.hid hg; have c1 := KA.out _ B1.out; clear r1 b1)
          | (go_at_call 82; refine (KT.out _ _ _ R1.out).mono ?_; rintro e w2 ⟨rfl, r2, b2⟩; have B2 := Lib.hid (B1.out.trans (b2.mono hg.out)); have c2 := KA.out _ B2.out; clear r2 b2)
          | fail)
      all_goals
        go_wp2
        go_ret2
        exact ⟨rfl, B2.out⟩
    · have HB := Lib.hid (fun W (hW : Below w.heap.size w W) => (hr' (some (ad.add 1)) (.inr rfl)).below hW)
      clear hl hr hr' hy hcy
      have l1 : (1 : Int) ≤ (n : Int) := by omega
      have l0 : 0 < n := by omega
      have l2 : (n : Int) ≤ (c : Int) := by omega
      go_enter Try.func95, Try.ntmps95
      go_wp2
      have c0 : w.drew.cell? ad = some (.int .u8 (y.toNat : Int)) := KA.out _ ((Below.refl _ _).drew)
      have B0 := Lib.hid (Below.refl w.heap.size w).drew
      go_region_held3 (fun W => W.cell? ad = some (.int .u8 (y.toNat : Int))) (first | with_reducible exact c0 | with_reducible exact c1 | with_reducible exact c2 | fail)
        (first
          | (go_at_call 81; refine (KN.out _ _ _ (HB.out _ B0.out)).mono ?_; rintro e w1 ⟨g, rfl, r1, hg, b1⟩; have B1 := Lib.hid (B0.out.trans b1); have R1 := Lib.hid r1; have hg := Lib.hid hg; have c1 := KA.out _ B1.out; clear r1 b1)
          | (go_at_call 82; refine (KT.out _ _ _ R1.out).mono ?_; rintro e w2 ⟨rfl, r2, b2⟩; have B2 := Lib.hid (B1.out.trans (b2.mono hg.out)); have c2 := KA.out _ B2.out; clear r2 b2)
          | fail)
      all_goals
        go_wp2
        go_ret2
        exact ⟨rfl, B2.out⟩
/-- The memory of guess: the result, the message that grows, the reader. -/
structure GmW (w : World) (g : Nat) (l : List UInt8) (f : Nat) (m : Ms) (W : World) : Prop where
  b : Below w.heap.size w W
  p : MsBox W w.heap.size ms0
  x : MsBox W (w.heap.size + 1) m
  rd : RDO (w.heap.size + 2) W g l f
  hg : w.heap.size + 2 ≤ g
theorem MsBox.same {W W' : World} {q : Nat} {v : Ms} (h : MsBox W q v) (hb : W'.heap[q]? = W.heap[q]?) : MsBox W' q v := by
  have hc : ∀ i, W'.cell? ⟨q, i, none⟩ = W.cell? ⟨q, i, none⟩ := fun i => cell_same (p := ⟨q, i, none⟩) hb
  have hf : ∀ i, W'.frozen? ⟨q, i, none⟩ = W.frozen? ⟨q, i, none⟩ := fun i => by unfold World.frozen?; rw [hb]
  exact ⟨(hc 0).trans h.c0, (hc 1).trans h.c1, (hc 2).trans h.c2, (hc 3).trans h.c3, (hc 4).trans h.c4, (hc 5).trans h.c5, (hf 0).trans h.f0, (hf 1).trans h.f1, (hf 2).trans h.f2, (hf 3).trans h.f3, (hf 4).trans h.f4, (hf 5).trans h.f5⟩
theorem GmW.small {w W W' : World} {g f f' : Nat} {l l' : List UInt8} {m : Ms} (h : GmW w g l f m W) (rd : RDO (w.heap.size + 2) W' g l' f') (hb : OnlyB g W W') : GmW w g l' f' m W' :=
  ⟨h.b.trans (hb.below (by have := h.hg; omega)), h.p.same (hb.block _ (by have := h.hg; omega)), h.x.same (hb.block _ (by have := h.hg; omega)), rd, h.hg⟩
theorem GmW.text {w W W' : World} {g f f' : Nat} {l l' : List UInt8} {m : Ms} (h : GmW w g l f m W) (rd : RDO (w.heap.size + 2) W' g l' f') (hb : Below (w.heap.size + 2) W W') : GmW w g l' f' m W' :=
  ⟨h.b.trans (hb.mono (by omega)), h.p.below hb (by omega), h.x.below hb (by omega), rd, h.hg⟩
theorem GmW.cell {w W : World} {g f : Nat} {l : List UInt8} {m m' : Ms} (h : GmW w g l f m W) (i : Nat) (u : Value) (hx : MsBox (W.setCell ⟨w.heap.size + 1, i, none⟩ u) (w.heap.size + 1) m') : GmW w g l f m' (W.setCell ⟨w.heap.size + 1, i, none⟩ u) :=
  ⟨h.b.setCell (p := ⟨w.heap.size + 1, i, none⟩) (by show w.heap.size ≤ w.heap.size + 1; omega) u, h.p.other (by show w.heap.size + 1 ≠ w.heap.size; omega) u, hx, h.rd.off (by have := h.hg; omega) (.inl (by omega)) i u, h.hg⟩
theorem GmW.on {w W W' : World} {g f : Nat} {l : List UInt8} {m : Ms} (h : GmW w g l f m W) (hb : Below W.heap.size W W') : GmW w g l f m W' :=
  ⟨h.b.trans (hb.mono h.b.size), h.p.on hb, h.x.on hb, h.rd.keep hb, h.hg⟩
theorem GmW.boxes (w : World) (k : UInt8) : Below w.heap.size w ((w.alloc (.cells #[.int .u8 0, .string ⟨#[]⟩, .int .i64 0, .int .i64 0, .bool false, .string ⟨#[]⟩] 40)).alloc (.cells #[.int .u8 (k.toNat : Int), .string ⟨#[]⟩, .int .i64 0, .int .i64 0, .bool false, .string ⟨#[]⟩] 40)) ∧ MsBox ((w.alloc (.cells #[.int .u8 0, .string ⟨#[]⟩, .int .i64 0, .int .i64 0, .bool false, .string ⟨#[]⟩] 40)).alloc (.cells #[.int .u8 (k.toNat : Int), .string ⟨#[]⟩, .int .i64 0, .int .i64 0, .bool false, .string ⟨#[]⟩] 40)) w.heap.size ms0 ∧ MsBox ((w.alloc (.cells #[.int .u8 0, .string ⟨#[]⟩, .int .i64 0, .int .i64 0, .bool false, .string ⟨#[]⟩] 40)).alloc (.cells #[.int .u8 (k.toNat : Int), .string ⟨#[]⟩, .int .i64 0, .int .i64 0, .bool false, .string ⟨#[]⟩] 40)) (w.heap.size + 1) ⟨k, ⟨#[]⟩, 0, 0, false, ⟨#[]⟩⟩ ∧ ((w.alloc (.cells #[.int .u8 0, .string ⟨#[]⟩, .int .i64 0, .int .i64 0, .bool false, .string ⟨#[]⟩] 40)).alloc (.cells #[.int .u8 (k.toNat : Int), .string ⟨#[]⟩, .int .i64 0, .int .i64 0, .bool false, .string ⟨#[]⟩] 40)).heap.size = w.heap.size + 2 := by
  have h1 := heap_size_alloc w (.cells #[.int .u8 0, .string ⟨#[]⟩, .int .i64 0, .int .i64 0, .bool false, .string ⟨#[]⟩] 40)
  have h2 := heap_size_alloc (w.alloc (.cells #[.int .u8 0, .string ⟨#[]⟩, .int .i64 0, .int .i64 0, .bool false, .string ⟨#[]⟩] 40)) (.cells #[.int .u8 (k.toNat : Int), .string ⟨#[]⟩, .int .i64 0, .int .i64 0, .bool false, .string ⟨#[]⟩] 40)
  refine ⟨below2 w _ _, (MsBox.new w ms0 40).alloc _, ?_, by omega⟩
  have := MsBox.new (w.alloc (.cells #[.int .u8 0, .string ⟨#[]⟩, .int .i64 0, .int .i64 0, .bool false, .string ⟨#[]⟩] 40)) ⟨k, ⟨#[]⟩, 0, 0, false, ⟨#[]⟩⟩ 40
  rw [h1] at this
  exact this
set_option maxHeartbeats 2000000 in
set_option maxRecDepth 100000 in
theorem mgGuess_ttf (A : Option Addr) (n c : Nat) (k : UInt8) (r : List UInt8) (w : World) (hN : n ≤ 1000000) (hl : (k :: r).length = n) (hc : n ≤ c) (hr : RB w A (k :: r)) (ea : mgPair k.toNat = true) (eb : mgTxn k.toNat = true) (ec : mgTS k.toNat = false) :
    Calls Try.prog 57 #[.slice A n c] w fun e w' => e = .returned (mgGuess (k :: r)).v ∧ Below w.heap.size w w' := by
  rw [show mgGuess (k :: r) = (⟨k, str (rtV r 0 16), (rdV (rtL r 0 16) (rtF r 0 16) : Nat), 0, (mgWrit (rdL (rtL r 0 16) (rtF r 0 16))).1, str (mgWrit (rdL (rtL r 0 16) (rtF r 0 16))).2⟩ : Ms) from by show mgGuessL k (mgPair k.toNat) (mgTxn k.toNat) (mgTS k.toNat) r = _; rw [ea, eb, ec]; rfl]
  have KA := Lib.hid (fun W => mgPair_any k.toNat W)
  have KB := Lib.hid (fun W => mgTxn_any k.toNat W)
  have KC := Lib.hid (fun W => mgTS_any k.toNat W)
  rw [ea] at KA
  rw [eb] at KB
  rw [ec] at KC
  clear ea eb ec
  obtain ⟨ad, y, rfl, hy, hcy⟩ := hr.at_ (k := 0) (by simp)
  obtain rfl : y = k := by simpa using hy.symm
  rw [Addr.add_nought] at hcy
  have hn : r.length = n - 1 := by simp at hl; omega
  have h1n : 1 ≤ n := by simp at hl; omega
  obtain ⟨B1, hs1, hs2, hs3⟩ := run_from (some ad) n c 1 1 rfl h1n hc (y :: r) hl
  have HB1 := Lib.hid (fun W (h : Below w.heap.size w W) => show RB W B1 r from by have h2 := hs3 _ (hr.below h); rw [List.drop_one, List.tail_cons] at h2; exact h2)
  clear hs3
  have KN := Lib.hid (fun W (h : RB W B1 r) => okNewO_any B1 (n - 1) (c - 1) r W (by omega) hn h)
  have HRN := Lib.hid (show r.length ≤ 1000000 from by omega)
  have KT := Lib.hid (fun (W : World) (b g : Nat) (h : RDO b W g r 0) => okTextO_any b g 0 16 r W h (by omega) (by omega))
  have E1 := Lib.hid (EndOf.rt (EndOf.refl r) 0 16)
  obtain ⟨kv, hkv⟩ : ∃ z, z = str (rtV r 0 16) := ⟨_, rfl⟩
  rw [← hkv] at KT ⊢
  generalize rtL r 0 16 = x1 at *
  generalize rtF r 0 16 = f1 at *
  clear hkv
  have KS1 := Lib.hid (fun (W : World) (b g : Nat) (h : RDO b W g x1 f1) => okSmallO_any b g f1 x1 W h (by have := E1.out.eq.1; have := HRN.out; omega))
  have E2 := Lib.hid (E1.out.rd f1)
  obtain ⟨tv, htv⟩ : ∃ z, z = rdV x1 f1 := ⟨_, rfl⟩
  rw [← htv] at KS1 ⊢
  generalize rdL x1 f1 = x2 at *
  generalize rdF x1 f1 = f2 at *
  clear htv
  have KL := Lib.hid (fun (W : World) (b g : Nat) (h : RDO b W g x2 f2) => okLeftO_any b g f2 x2 W h)
  obtain ⟨he1, he2⟩ := E2.out.eq
  obtain ⟨B2, hq1, hq2, hq3⟩ := run_from (some ad) n c (n - x2.length) ((n : Int) - (x2.length : Int)) (by omega) (by omega) hc (y :: r) hl
  have HB2 := Lib.hid (fun W (h : Below w.heap.size w W) => show RB W B2 x2 from by
    have h2 := hq3 _ (hr.below h)
    rw [show n - x2.length = (r.length - x2.length) + 1 by omega, List.drop_succ_cons, he2] at h2
    exact h2)
  rw [show n - (n - x2.length) = x2.length by omega] at hq1 hq2
  have KW := Lib.hid (fun (W : World) (h : RB W B2 x2) => mgWritten_any B2 x2.length (c - (n - x2.length)) x2 W (by omega) rfl (by omega) h)
  have hwr : IntKind.i64.wrap ((n : Int) - (x2.length : Int)) = (n : Int) - (x2.length : Int) := by rw [IntKind.wrap_i64]; omega
  generalize c - (n - x2.length) = cd at *
  obtain ⟨gv, hgv⟩ : ∃ z, z = (mgWrit x2).1 := ⟨_, rfl⟩
  obtain ⟨vv, hvv⟩ : ∃ z, z = str (mgWrit x2).2 := ⟨_, rfl⟩
  rw [← hgv, ← hvv] at KW ⊢
  generalize x2.length = jl at *
  clear he1 he2 hq3 hgv hvv
  have HN0 := Lib.hid (GmW.boxes w y)
  have hcy0 : (w.alloc (.cells #[.int .u8 0, .string ⟨#[]⟩, .int .i64 0, .int .i64 0, .bool false, .string ⟨#[]⟩] 40)).cell? ad = some (.int .u8 (y.toNat : Int)) := ((below1 w (.cells #[.int .u8 0, .string ⟨#[]⟩, .int .i64 0, .int .i64 0, .bool false, .string ⟨#[]⟩] 40)).cell (lt_of_cell hcy)).trans hcy
  have hl0 : 0 < n := by omega
  clear hl hr hy hcy hn
  go_enter Try.func57, Try.ntmps57
  go_upto_region 4 with fail
  have B0 := Lib.hid HN0.out.1; have P0 := Lib.hid HN0.out.2.1; have X0 := Lib.hid HN0.out.2.2.1; have Z0 := Lib.hid HN0.out.2.2.2
  generalize (w.alloc (.cells #[.int .u8 0, .string ⟨#[]⟩, .int .i64 0, .int .i64 0, .bool false, .string ⟨#[]⟩] 40)).alloc (.cells #[.int .u8 (y.toNat : Int), .string ⟨#[]⟩, .int .i64 0, .int .i64 0, .bool false, .string ⟨#[]⟩] 40) = W0 at *
  clear hcy0 HN0
  go_upto_region 5 with (go_at_call 81; refine (KN.out _ (HB1.out _ B0.out)).mono ?_; rintro e w1 ⟨g, rfl, h1, h2, h3⟩; have G : Hid (GmW w g r 0 _ w1) := Lib.hid ⟨B0.out.trans (h3.mono B0.out.size), P0.out.on h3, X0.out.on h3, by rw [← Z0.out]; exact h1, by rw [← Z0.out]; exact h2⟩; clear h1 h2 h3)
  clear B0 P0 X0 Z0
  obtain ⟨x0, x1c, x2c, x3c, x4c, x5c, xf0, xf1, xf2, xf3, xf4, xf5⟩ := G.out.x
  dsimp only at x0 x1c x2c x3c x4c x5c
  go_upto_region 7 with (first | (go_at_call 52; refine (KA.out _).mono ?_; rintro e w' ⟨rfl, rfl⟩) | (go_at_call 53; refine (KB.out _).mono ?_; rintro e w' ⟨rfl, rfl⟩) | (go_at_call 54; refine (KC.out _).mono ?_; rintro e w' ⟨rfl, rfl⟩) | (go_at_call 82; refine (KT.out _ _ _ G.out.rd).mono ?_; rintro e w2 ⟨rfl, h1, h2⟩; have gg := G.out.text h1 (h2.mono G.out.hg); clear h1 h2; (clear x0 x1c x2c x3c x4c x5c xf0 xf1 xf2 xf3 xf4 xf5); have G := Lib.hid gg; (obtain ⟨x0, x1c, x2c, x3c, x4c, x5c, xf0, xf1, xf2, xf3, xf4, xf5⟩ := G.out.x)) | fail)
  clear x0 x1c x2c x3c x4c x5c xf0 xf1 xf2 xf3 xf4 xf5
  have G := Lib.hid (G.out.cell 1 (.string kv) (G.out.x.set1 kv))
  generalize w2.setCell ⟨w.heap.size + 1, 1, none⟩ (.string kv) = W2 at *
  obtain ⟨x0, x1c, x2c, x3c, x4c, x5c, xf0, xf1, xf2, xf3, xf4, xf5⟩ := G.out.x
  dsimp only at x0 x1c x2c x3c x4c x5c
  go_upto_region 9 with (first | (go_at_call 52; refine (KA.out _).mono ?_; rintro e w' ⟨rfl, rfl⟩) | (go_at_call 53; refine (KB.out _).mono ?_; rintro e w' ⟨rfl, rfl⟩) | (go_at_call 54; refine (KC.out _).mono ?_; rintro e w' ⟨rfl, rfl⟩) | (go_at_call 83; refine (KS1.out _ _ _ G.out.rd).mono ?_; rintro e w3 ⟨rfl, h1, h2⟩; have gg := G.out.small h1 h2; clear h1 h2; (clear x0 x1c x2c x3c x4c x5c xf0 xf1 xf2 xf3 xf4 xf5); have G := Lib.hid gg; (obtain ⟨x0, x1c, x2c, x3c, x4c, x5c, xf0, xf1, xf2, xf3, xf4, xf5⟩ := G.out.x)) | fail)
  clear x0 x1c x2c x3c x4c x5c xf0 xf1 xf2 xf3 xf4 xf5
  have G := Lib.hid (G.out.cell 2 (.int .i64 (tv : Int)) (G.out.x.set2 (tv : Int)))
  generalize w3.setCell ⟨w.heap.size + 1, 2, none⟩ (.int .i64 (tv : Int)) = W3 at *
  obtain ⟨x0, x1c, x2c, x3c, x4c, x5c, xf0, xf1, xf2, xf3, xf4, xf5⟩ := G.out.x
  dsimp only at x0 x1c x2c x3c x4c x5c
  go_upto_region 13 with (first | (go_at_call 52; refine (KA.out _).mono ?_; rintro e w' ⟨rfl, rfl⟩) | (go_at_call 53; refine (KB.out _).mono ?_; rintro e w' ⟨rfl, rfl⟩) | (go_at_call 54; refine (KC.out _).mono ?_; rintro e w' ⟨rfl, rfl⟩) | (go_at_call 85; refine (KL.out _ _ _ G.out.rd).mono ?_; rintro e w5 ⟨rfl, rfl⟩) | (go_at_call 95; refine (KW.out _ (HB2.out _ G.out.b)).mono ?_; rintro e w6 ⟨rfl, h1⟩; (clear x0 x1c x2c x3c x4c x5c xf0 xf1 xf2 xf3 xf4 xf5); have G := Lib.hid (G.out.on h1); (obtain ⟨x0, x1c, x2c, x3c, x4c, x5c, xf0, xf1, xf2, xf3, xf4, xf5⟩ := G.out.x); clear h1) | fail)
  clear x0 x1c x2c x3c x4c x5c xf0 xf1 xf2 xf3 xf4 xf5
  have G := Lib.hid (G.out.cell 4 (.bool gv) (G.out.x.set4 gv))
  have G := Lib.hid (G.out.cell 5 (.string vv) (G.out.x.set5 vv))
  generalize (w6.setCell ⟨w.heap.size + 1, 4, none⟩ (.bool gv)).setCell ⟨w.heap.size + 1, 5, none⟩ (.string vv) = W6 at *
  obtain ⟨x0, x1c, x2c, x3c, x4c, x5c, xf0, xf1, xf2, xf3, xf4, xf5⟩ := G.out.x
  dsimp only at x0 x1c x2c x3c x4c x5c
  obtain ⟨p0, p1, p2, p3, p4, p5, pf0, pf1, pf2, pf3, pf4, pf5⟩ := G.out.p
  go_wp2_with (first | (go_at_call 52; refine (KA.out _).mono ?_; rintro e w' ⟨rfl, rfl⟩) | (go_at_call 53; refine (KB.out _).mono ?_; rintro e w' ⟨rfl, rfl⟩) | (go_at_call 54; refine (KC.out _).mono ?_; rintro e w' ⟨rfl, rfl⟩) | fail)
  have P := G.out.p.put ⟨y, kv, (tv : Int), 0, gv, vv⟩
  have BF := belowSetMs G.out.b (Nat.le_refl _) ⟨y, kv, (tv : Int), 0, gv, vv⟩
  obtain ⟨z0, z1, z2, z3, z4, z5, _, _, _, _, _, _⟩ := P
  unfold setMs at z0 z1 z2 z3 z4 z5 BF
  dsimp only at z0 z1 z2 z3 z4 z5 BF
  refine bodyPost_ret (v := .agg #[.int .u8 (y.toNat : Int), .string kv, .int .i64 (tv : Int), .int .i64 0, .bool gv, .string vv]) (by simp [results, Try.results57, go_sem, z0, z1, z2, z3, z4, z5]) rfl ⟨rfl, BF⟩
set_option maxHeartbeats 2000000 in
set_option maxRecDepth 100000 in
theorem mgGuess_ftt (A : Option Addr) (n c : Nat) (k : UInt8) (r : List UInt8) (w : World) (hN : n ≤ 1000000) (hl : (k :: r).length = n) (hc : n ≤ c) (hr : RB w A (k :: r)) (ea : mgPair k.toNat = false) (eb : mgTxn k.toNat = true) (ec : mgTS k.toNat = true) :
    Calls Try.prog 57 #[.slice A n c] w fun e w' => e = .returned (mgGuess (k :: r)).v ∧ Below w.heap.size w w' := by
  rw [show mgGuess (k :: r) = (⟨k, ⟨#[]⟩, (rdV r 0 : Nat), (rdV (rdL r 0) (rdF r 0) : Nat), false, ⟨#[]⟩⟩ : Ms) from by show mgGuessL k (mgPair k.toNat) (mgTxn k.toNat) (mgTS k.toNat) r = _; rw [ea, eb, ec]; rfl]
  have KA := Lib.hid (fun W => mgPair_any k.toNat W)
  have KB := Lib.hid (fun W => mgTxn_any k.toNat W)
  have KC := Lib.hid (fun W => mgTS_any k.toNat W)
  rw [ea] at KA
  rw [eb] at KB
  rw [ec] at KC
  clear ea eb ec
  obtain ⟨ad, y, rfl, hy, hcy⟩ := hr.at_ (k := 0) (by simp)
  obtain rfl : y = k := by simpa using hy.symm
  rw [Addr.add_nought] at hcy
  have hn : r.length = n - 1 := by simp at hl; omega
  have h1n : 1 ≤ n := by simp at hl; omega
  obtain ⟨B1, hs1, hs2, hs3⟩ := run_from (some ad) n c 1 1 rfl h1n hc (y :: r) hl
  have HB1 := Lib.hid (fun W (h : Below w.heap.size w W) => show RB W B1 r from by have h2 := hs3 _ (hr.below h); rw [List.drop_one, List.tail_cons] at h2; exact h2)
  clear hs3
  have KN := Lib.hid (fun W (h : RB W B1 r) => okNewO_any B1 (n - 1) (c - 1) r W (by omega) hn h)
  have HRN := Lib.hid (show r.length ≤ 1000000 from by omega)
  have E1 := Lib.hid (EndOf.refl r)
  have KS1 := Lib.hid (fun (W : World) (b g : Nat) (h : RDO b W g r 0) => okSmallO_any b g 0 r W h (by have := E1.out.eq.1; have := HRN.out; omega))
  have E2 := Lib.hid (E1.out.rd 0)
  obtain ⟨tv, htv⟩ : ∃ z, z = rdV r 0 := ⟨_, rfl⟩
  rw [← htv] at KS1 ⊢
  generalize rdL r 0 = x2 at *
  generalize rdF r 0 = f2 at *
  clear htv
  have KS2 := Lib.hid (fun (W : World) (b g : Nat) (h : RDO b W g x2 f2) => okSmallO_any b g f2 x2 W h (by have := E2.out.eq.1; have := HRN.out; omega))
  have E3 := Lib.hid (E2.out.rd f2)
  obtain ⟨sv, hsv⟩ : ∃ z, z = rdV x2 f2 := ⟨_, rfl⟩
  rw [← hsv] at KS2 ⊢
  generalize rdL x2 f2 = x3 at *
  generalize rdF x2 f2 = f3 at *
  clear hsv
  have HN0 := Lib.hid (GmW.boxes w y)
  have hcy0 : (w.alloc (.cells #[.int .u8 0, .string ⟨#[]⟩, .int .i64 0, .int .i64 0, .bool false, .string ⟨#[]⟩] 40)).cell? ad = some (.int .u8 (y.toNat : Int)) := ((below1 w (.cells #[.int .u8 0, .string ⟨#[]⟩, .int .i64 0, .int .i64 0, .bool false, .string ⟨#[]⟩] 40)).cell (lt_of_cell hcy)).trans hcy
  have hl0 : 0 < n := by omega
  clear hl hr hy hcy hn
  go_enter Try.func57, Try.ntmps57
  go_upto_region 4 with fail
  have B0 := Lib.hid HN0.out.1; have P0 := Lib.hid HN0.out.2.1; have X0 := Lib.hid HN0.out.2.2.1; have Z0 := Lib.hid HN0.out.2.2.2
  generalize (w.alloc (.cells #[.int .u8 0, .string ⟨#[]⟩, .int .i64 0, .int .i64 0, .bool false, .string ⟨#[]⟩] 40)).alloc (.cells #[.int .u8 (y.toNat : Int), .string ⟨#[]⟩, .int .i64 0, .int .i64 0, .bool false, .string ⟨#[]⟩] 40) = W0 at *
  clear hcy0 HN0
  go_upto_region 5 with (go_at_call 81; refine (KN.out _ (HB1.out _ B0.out)).mono ?_; rintro e w1 ⟨g, rfl, h1, h2, h3⟩; have G : Hid (GmW w g r 0 _ w1) := Lib.hid ⟨B0.out.trans (h3.mono B0.out.size), P0.out.on h3, X0.out.on h3, by rw [← Z0.out]; exact h1, by rw [← Z0.out]; exact h2⟩; clear h1 h2 h3)
  clear B0 P0 X0 Z0
  obtain ⟨x0, x1c, x2c, x3c, x4c, x5c, xf0, xf1, xf2, xf3, xf4, xf5⟩ := G.out.x
  dsimp only at x0 x1c x2c x3c x4c x5c
  go_upto_region 9 with (first | (go_at_call 52; refine (KA.out _).mono ?_; rintro e w' ⟨rfl, rfl⟩) | (go_at_call 53; refine (KB.out _).mono ?_; rintro e w' ⟨rfl, rfl⟩) | (go_at_call 54; refine (KC.out _).mono ?_; rintro e w' ⟨rfl, rfl⟩) | (go_at_call 83; refine (KS1.out _ _ _ G.out.rd).mono ?_; rintro e w3 ⟨rfl, h1, h2⟩; have gg := G.out.small h1 h2; clear h1 h2; (clear x0 x1c x2c x3c x4c x5c xf0 xf1 xf2 xf3 xf4 xf5); have G := Lib.hid gg; (obtain ⟨x0, x1c, x2c, x3c, x4c, x5c, xf0, xf1, xf2, xf3, xf4, xf5⟩ := G.out.x)) | fail)
  clear x0 x1c x2c x3c x4c x5c xf0 xf1 xf2 xf3 xf4 xf5
  have G := Lib.hid (G.out.cell 2 (.int .i64 (tv : Int)) (G.out.x.set2 (tv : Int)))
  generalize w3.setCell ⟨w.heap.size + 1, 2, none⟩ (.int .i64 (tv : Int)) = W3 at *
  obtain ⟨x0, x1c, x2c, x3c, x4c, x5c, xf0, xf1, xf2, xf3, xf4, xf5⟩ := G.out.x
  dsimp only at x0 x1c x2c x3c x4c x5c
  go_upto_region 11 with (first | (go_at_call 52; refine (KA.out _).mono ?_; rintro e w' ⟨rfl, rfl⟩) | (go_at_call 53; refine (KB.out _).mono ?_; rintro e w' ⟨rfl, rfl⟩) | (go_at_call 54; refine (KC.out _).mono ?_; rintro e w' ⟨rfl, rfl⟩) | (go_at_call 83; refine (KS2.out _ _ _ G.out.rd).mono ?_; rintro e w4 ⟨rfl, h1, h2⟩; have gg := G.out.small h1 h2; clear h1 h2; (clear x0 x1c x2c x3c x4c x5c xf0 xf1 xf2 xf3 xf4 xf5); have G := Lib.hid gg; (obtain ⟨x0, x1c, x2c, x3c, x4c, x5c, xf0, xf1, xf2, xf3, xf4, xf5⟩ := G.out.x)) | fail)
  clear x0 x1c x2c x3c x4c x5c xf0 xf1 xf2 xf3 xf4 xf5
  have G := Lib.hid (G.out.cell 3 (.int .i64 (sv : Int)) (G.out.x.set3 (sv : Int)))
  generalize w4.setCell ⟨w.heap.size + 1, 3, none⟩ (.int .i64 (sv : Int)) = W4 at *
  obtain ⟨x0, x1c, x2c, x3c, x4c, x5c, xf0, xf1, xf2, xf3, xf4, xf5⟩ := G.out.x
  dsimp only at x0 x1c x2c x3c x4c x5c
  obtain ⟨p0, p1, p2, p3, p4, p5, pf0, pf1, pf2, pf3, pf4, pf5⟩ := G.out.p
  go_wp2_with (first | (go_at_call 52; refine (KA.out _).mono ?_; rintro e w' ⟨rfl, rfl⟩) | (go_at_call 53; refine (KB.out _).mono ?_; rintro e w' ⟨rfl, rfl⟩) | (go_at_call 54; refine (KC.out _).mono ?_; rintro e w' ⟨rfl, rfl⟩) | fail)
  have P := G.out.p.put ⟨y, ⟨#[]⟩, (tv : Int), (sv : Int), false, ⟨#[]⟩⟩
  have BF := belowSetMs G.out.b (Nat.le_refl _) ⟨y, ⟨#[]⟩, (tv : Int), (sv : Int), false, ⟨#[]⟩⟩
  obtain ⟨z0, z1, z2, z3, z4, z5, _, _, _, _, _, _⟩ := P
  unfold setMs at z0 z1 z2 z3 z4 z5 BF
  dsimp only at z0 z1 z2 z3 z4 z5 BF
  refine bodyPost_ret (v := .agg #[.int .u8 (y.toNat : Int), .string ⟨#[]⟩, .int .i64 (tv : Int), .int .i64 (sv : Int), .bool false, .string ⟨#[]⟩]) (by simp [results, Try.results57, go_sem, z0, z1, z2, z3, z4, z5]) rfl ⟨rfl, BF⟩
set_option maxHeartbeats 2000000 in
set_option maxRecDepth 100000 in
theorem mgGuess_ftf (A : Option Addr) (n c : Nat) (k : UInt8) (r : List UInt8) (w : World) (hN : n ≤ 1000000) (hl : (k :: r).length = n) (hc : n ≤ c) (hr : RB w A (k :: r)) (ea : mgPair k.toNat = false) (eb : mgTxn k.toNat = true) (ec : mgTS k.toNat = false) :
    Calls Try.prog 57 #[.slice A n c] w fun e w' => e = .returned (mgGuess (k :: r)).v ∧ Below w.heap.size w w' := by
  rw [show mgGuess (k :: r) = (⟨k, ⟨#[]⟩, (rdV r 0 : Nat), 0, false, ⟨#[]⟩⟩ : Ms) from by show mgGuessL k (mgPair k.toNat) (mgTxn k.toNat) (mgTS k.toNat) r = _; rw [ea, eb, ec]; rfl]
  have KA := Lib.hid (fun W => mgPair_any k.toNat W)
  have KB := Lib.hid (fun W => mgTxn_any k.toNat W)
  have KC := Lib.hid (fun W => mgTS_any k.toNat W)
  rw [ea] at KA
  rw [eb] at KB
  rw [ec] at KC
  clear ea eb ec
  obtain ⟨ad, y, rfl, hy, hcy⟩ := hr.at_ (k := 0) (by simp)
  obtain rfl : y = k := by simpa using hy.symm
  rw [Addr.add_nought] at hcy
  have hn : r.length = n - 1 := by simp at hl; omega
  have h1n : 1 ≤ n := by simp at hl; omega
  obtain ⟨B1, hs1, hs2, hs3⟩ := run_from (some ad) n c 1 1 rfl h1n hc (y :: r) hl
  have HB1 := Lib.hid (fun W (h : Below w.heap.size w W) => show RB W B1 r from by have h2 := hs3 _ (hr.below h); rw [List.drop_one, List.tail_cons] at h2; exact h2)
  clear hs3
  have KN := Lib.hid (fun W (h : RB W B1 r) => okNewO_any B1 (n - 1) (c - 1) r W (by omega) hn h)
  have HRN := Lib.hid (show r.length ≤ 1000000 from by omega)
  have E1 := Lib.hid (EndOf.refl r)
  have KS1 := Lib.hid (fun (W : World) (b g : Nat) (h : RDO b W g r 0) => okSmallO_any b g 0 r W h (by have := E1.out.eq.1; have := HRN.out; omega))
  have E2 := Lib.hid (E1.out.rd 0)
  obtain ⟨tv, htv⟩ : ∃ z, z = rdV r 0 := ⟨_, rfl⟩
  rw [← htv] at KS1 ⊢
  generalize rdL r 0 = x2 at *
  generalize rdF r 0 = f2 at *
  clear htv
  have HN0 := Lib.hid (GmW.boxes w y)
  have hcy0 : (w.alloc (.cells #[.int .u8 0, .string ⟨#[]⟩, .int .i64 0, .int .i64 0, .bool false, .string ⟨#[]⟩] 40)).cell? ad = some (.int .u8 (y.toNat : Int)) := ((below1 w (.cells #[.int .u8 0, .string ⟨#[]⟩, .int .i64 0, .int .i64 0, .bool false, .string ⟨#[]⟩] 40)).cell (lt_of_cell hcy)).trans hcy
  have hl0 : 0 < n := by omega
  clear hl hr hy hcy hn
  go_enter Try.func57, Try.ntmps57
  go_upto_region 4 with fail
  have B0 := Lib.hid HN0.out.1; have P0 := Lib.hid HN0.out.2.1; have X0 := Lib.hid HN0.out.2.2.1; have Z0 := Lib.hid HN0.out.2.2.2
  generalize (w.alloc (.cells #[.int .u8 0, .string ⟨#[]⟩, .int .i64 0, .int .i64 0, .bool false, .string ⟨#[]⟩] 40)).alloc (.cells #[.int .u8 (y.toNat : Int), .string ⟨#[]⟩, .int .i64 0, .int .i64 0, .bool false, .string ⟨#[]⟩] 40) = W0 at *
  clear hcy0 HN0
  go_upto_region 5 with (go_at_call 81; refine (KN.out _ (HB1.out _ B0.out)).mono ?_; rintro e w1 ⟨g, rfl, h1, h2, h3⟩; have G : Hid (GmW w g r 0 _ w1) := Lib.hid ⟨B0.out.trans (h3.mono B0.out.size), P0.out.on h3, X0.out.on h3, by rw [← Z0.out]; exact h1, by rw [← Z0.out]; exact h2⟩; clear h1 h2 h3)
  clear B0 P0 X0 Z0
  obtain ⟨x0, x1c, x2c, x3c, x4c, x5c, xf0, xf1, xf2, xf3, xf4, xf5⟩ := G.out.x
  dsimp only at x0 x1c x2c x3c x4c x5c
  go_upto_region 9 with (first | (go_at_call 52; refine (KA.out _).mono ?_; rintro e w' ⟨rfl, rfl⟩) | (go_at_call 53; refine (KB.out _).mono ?_; rintro e w' ⟨rfl, rfl⟩) | (go_at_call 54; refine (KC.out _).mono ?_; rintro e w' ⟨rfl, rfl⟩) | (go_at_call 83; refine (KS1.out _ _ _ G.out.rd).mono ?_; rintro e w3 ⟨rfl, h1, h2⟩; have gg := G.out.small h1 h2; clear h1 h2; (clear x0 x1c x2c x3c x4c x5c xf0 xf1 xf2 xf3 xf4 xf5); have G := Lib.hid gg; (obtain ⟨x0, x1c, x2c, x3c, x4c, x5c, xf0, xf1, xf2, xf3, xf4, xf5⟩ := G.out.x)) | fail)
  clear x0 x1c x2c x3c x4c x5c xf0 xf1 xf2 xf3 xf4 xf5
  have G := Lib.hid (G.out.cell 2 (.int .i64 (tv : Int)) (G.out.x.set2 (tv : Int)))
  generalize w3.setCell ⟨w.heap.size + 1, 2, none⟩ (.int .i64 (tv : Int)) = W3 at *
  obtain ⟨x0, x1c, x2c, x3c, x4c, x5c, xf0, xf1, xf2, xf3, xf4, xf5⟩ := G.out.x
  dsimp only at x0 x1c x2c x3c x4c x5c
  obtain ⟨p0, p1, p2, p3, p4, p5, pf0, pf1, pf2, pf3, pf4, pf5⟩ := G.out.p
  go_wp2_with (first | (go_at_call 52; refine (KA.out _).mono ?_; rintro e w' ⟨rfl, rfl⟩) | (go_at_call 53; refine (KB.out _).mono ?_; rintro e w' ⟨rfl, rfl⟩) | (go_at_call 54; refine (KC.out _).mono ?_; rintro e w' ⟨rfl, rfl⟩) | fail)
  have P := G.out.p.put ⟨y, ⟨#[]⟩, (tv : Int), 0, false, ⟨#[]⟩⟩
  have BF := belowSetMs G.out.b (Nat.le_refl _) ⟨y, ⟨#[]⟩, (tv : Int), 0, false, ⟨#[]⟩⟩
  obtain ⟨z0, z1, z2, z3, z4, z5, _, _, _, _, _, _⟩ := P
  unfold setMs at z0 z1 z2 z3 z4 z5 BF
  dsimp only at z0 z1 z2 z3 z4 z5 BF
  refine bodyPost_ret (v := .agg #[.int .u8 (y.toNat : Int), .string ⟨#[]⟩, .int .i64 (tv : Int), .int .i64 0, .bool false, .string ⟨#[]⟩]) (by simp [results, Try.results57, go_sem, z0, z1, z2, z3, z4, z5]) rfl ⟨rfl, BF⟩
set_option maxHeartbeats 2000000 in
set_option maxRecDepth 100000 in
theorem mgGuess_fft (A : Option Addr) (n c : Nat) (k : UInt8) (r : List UInt8) (w : World) (hN : n ≤ 1000000) (hl : (k :: r).length = n) (hc : n ≤ c) (hr : RB w A (k :: r)) (ea : mgPair k.toNat = false) (eb : mgTxn k.toNat = false) (ec : mgTS k.toNat = true) :
    Calls Try.prog 57 #[.slice A n c] w fun e w' => e = .returned (mgGuess (k :: r)).v ∧ Below w.heap.size w w' := by
  rw [show mgGuess (k :: r) = (⟨k, ⟨#[]⟩, 0, (rdV r 0 : Nat), false, ⟨#[]⟩⟩ : Ms) from by show mgGuessL k (mgPair k.toNat) (mgTxn k.toNat) (mgTS k.toNat) r = _; rw [ea, eb, ec]; rfl]
  have KA := Lib.hid (fun W => mgPair_any k.toNat W)
  have KB := Lib.hid (fun W => mgTxn_any k.toNat W)
  have KC := Lib.hid (fun W => mgTS_any k.toNat W)
  rw [ea] at KA
  rw [eb] at KB
  rw [ec] at KC
  clear ea eb ec
  obtain ⟨ad, y, rfl, hy, hcy⟩ := hr.at_ (k := 0) (by simp)
  obtain rfl : y = k := by simpa using hy.symm
  rw [Addr.add_nought] at hcy
  have hn : r.length = n - 1 := by simp at hl; omega
  have h1n : 1 ≤ n := by simp at hl; omega
  obtain ⟨B1, hs1, hs2, hs3⟩ := run_from (some ad) n c 1 1 rfl h1n hc (y :: r) hl
  have HB1 := Lib.hid (fun W (h : Below w.heap.size w W) => show RB W B1 r from by have h2 := hs3 _ (hr.below h); rw [List.drop_one, List.tail_cons] at h2; exact h2)
  clear hs3
  have KN := Lib.hid (fun W (h : RB W B1 r) => okNewO_any B1 (n - 1) (c - 1) r W (by omega) hn h)
  have HRN := Lib.hid (show r.length ≤ 1000000 from by omega)
  have E1 := Lib.hid (EndOf.refl r)
  have KS2 := Lib.hid (fun (W : World) (b g : Nat) (h : RDO b W g r 0) => okSmallO_any b g 0 r W h (by have := E1.out.eq.1; have := HRN.out; omega))
  have E3 := Lib.hid (E1.out.rd 0)
  obtain ⟨sv, hsv⟩ : ∃ z, z = rdV r 0 := ⟨_, rfl⟩
  rw [← hsv] at KS2 ⊢
  generalize rdL r 0 = x3 at *
  generalize rdF r 0 = f3 at *
  clear hsv
  have HN0 := Lib.hid (GmW.boxes w y)
  have hcy0 : (w.alloc (.cells #[.int .u8 0, .string ⟨#[]⟩, .int .i64 0, .int .i64 0, .bool false, .string ⟨#[]⟩] 40)).cell? ad = some (.int .u8 (y.toNat : Int)) := ((below1 w (.cells #[.int .u8 0, .string ⟨#[]⟩, .int .i64 0, .int .i64 0, .bool false, .string ⟨#[]⟩] 40)).cell (lt_of_cell hcy)).trans hcy
  have hl0 : 0 < n := by omega
  clear hl hr hy hcy hn
  go_enter Try.func57, Try.ntmps57
  go_upto_region 4 with fail
  have B0 := Lib.hid HN0.out.1; have P0 := Lib.hid HN0.out.2.1; have X0 := Lib.hid HN0.out.2.2.1; have Z0 := Lib.hid HN0.out.2.2.2
  generalize (w.alloc (.cells #[.int .u8 0, .string ⟨#[]⟩, .int .i64 0, .int .i64 0, .bool false, .string ⟨#[]⟩] 40)).alloc (.cells #[.int .u8 (y.toNat : Int), .string ⟨#[]⟩, .int .i64 0, .int .i64 0, .bool false, .string ⟨#[]⟩] 40) = W0 at *
  clear hcy0 HN0
  go_upto_region 5 with (go_at_call 81; refine (KN.out _ (HB1.out _ B0.out)).mono ?_; rintro e w1 ⟨g, rfl, h1, h2, h3⟩; have G : Hid (GmW w g r 0 _ w1) := Lib.hid ⟨B0.out.trans (h3.mono B0.out.size), P0.out.on h3, X0.out.on h3, by rw [← Z0.out]; exact h1, by rw [← Z0.out]; exact h2⟩; clear h1 h2 h3)
  clear B0 P0 X0 Z0
  obtain ⟨x0, x1c, x2c, x3c, x4c, x5c, xf0, xf1, xf2, xf3, xf4, xf5⟩ := G.out.x
  dsimp only at x0 x1c x2c x3c x4c x5c
  go_upto_region 11 with (first | (go_at_call 52; refine (KA.out _).mono ?_; rintro e w' ⟨rfl, rfl⟩) | (go_at_call 53; refine (KB.out _).mono ?_; rintro e w' ⟨rfl, rfl⟩) | (go_at_call 54; refine (KC.out _).mono ?_; rintro e w' ⟨rfl, rfl⟩) | (go_at_call 83; refine (KS2.out _ _ _ G.out.rd).mono ?_; rintro e w4 ⟨rfl, h1, h2⟩; have gg := G.out.small h1 h2; clear h1 h2; (clear x0 x1c x2c x3c x4c x5c xf0 xf1 xf2 xf3 xf4 xf5); have G := Lib.hid gg; (obtain ⟨x0, x1c, x2c, x3c, x4c, x5c, xf0, xf1, xf2, xf3, xf4, xf5⟩ := G.out.x)) | fail)
  clear x0 x1c x2c x3c x4c x5c xf0 xf1 xf2 xf3 xf4 xf5
  have G := Lib.hid (G.out.cell 3 (.int .i64 (sv : Int)) (G.out.x.set3 (sv : Int)))
  generalize w4.setCell ⟨w.heap.size + 1, 3, none⟩ (.int .i64 (sv : Int)) = W4 at *
  obtain ⟨x0, x1c, x2c, x3c, x4c, x5c, xf0, xf1, xf2, xf3, xf4, xf5⟩ := G.out.x
  dsimp only at x0 x1c x2c x3c x4c x5c
  obtain ⟨p0, p1, p2, p3, p4, p5, pf0, pf1, pf2, pf3, pf4, pf5⟩ := G.out.p
  go_wp2_with (first | (go_at_call 52; refine (KA.out _).mono ?_; rintro e w' ⟨rfl, rfl⟩) | (go_at_call 53; refine (KB.out _).mono ?_; rintro e w' ⟨rfl, rfl⟩) | (go_at_call 54; refine (KC.out _).mono ?_; rintro e w' ⟨rfl, rfl⟩) | fail)
  have P := G.out.p.put ⟨y, ⟨#[]⟩, 0, (sv : Int), false, ⟨#[]⟩⟩
  have BF := belowSetMs G.out.b (Nat.le_refl _) ⟨y, ⟨#[]⟩, 0, (sv : Int), false, ⟨#[]⟩⟩
  obtain ⟨z0, z1, z2, z3, z4, z5, _, _, _, _, _, _⟩ := P
  unfold setMs at z0 z1 z2 z3 z4 z5 BF
  dsimp only at z0 z1 z2 z3 z4 z5 BF
  refine bodyPost_ret (v := .agg #[.int .u8 (y.toNat : Int), .string ⟨#[]⟩, .int .i64 0, .int .i64 (sv : Int), .bool false, .string ⟨#[]⟩]) (by simp [results, Try.results57, go_sem, z0, z1, z2, z3, z4, z5]) rfl ⟨rfl, BF⟩
set_option maxHeartbeats 2000000 in
set_option maxRecDepth 100000 in
theorem mgGuess_fff (A : Option Addr) (n c : Nat) (k : UInt8) (r : List UInt8) (w : World) (hN : n ≤ 1000000) (hl : (k :: r).length = n) (hc : n ≤ c) (hr : RB w A (k :: r)) (ea : mgPair k.toNat = false) (eb : mgTxn k.toNat = false) (ec : mgTS k.toNat = false) :
    Calls Try.prog 57 #[.slice A n c] w fun e w' => e = .returned (mgGuess (k :: r)).v ∧ Below w.heap.size w w' := by
  rw [show mgGuess (k :: r) = (⟨k, ⟨#[]⟩, 0, 0, false, ⟨#[]⟩⟩ : Ms) from by show mgGuessL k (mgPair k.toNat) (mgTxn k.toNat) (mgTS k.toNat) r = _; rw [ea, eb, ec]; rfl]
  have KA := Lib.hid (fun W => mgPair_any k.toNat W)
  have KB := Lib.hid (fun W => mgTxn_any k.toNat W)
  have KC := Lib.hid (fun W => mgTS_any k.toNat W)
  rw [ea] at KA
  rw [eb] at KB
  rw [ec] at KC
  clear ea eb ec
  obtain ⟨ad, y, rfl, hy, hcy⟩ := hr.at_ (k := 0) (by simp)
  obtain rfl : y = k := by simpa using hy.symm
  rw [Addr.add_nought] at hcy
  have hn : r.length = n - 1 := by simp at hl; omega
  have h1n : 1 ≤ n := by simp at hl; omega
  obtain ⟨B1, hs1, hs2, hs3⟩ := run_from (some ad) n c 1 1 rfl h1n hc (y :: r) hl
  have HB1 := Lib.hid (fun W (h : Below w.heap.size w W) => show RB W B1 r from by have h2 := hs3 _ (hr.below h); rw [List.drop_one, List.tail_cons] at h2; exact h2)
  clear hs3
  have KN := Lib.hid (fun W (h : RB W B1 r) => okNewO_any B1 (n - 1) (c - 1) r W (by omega) hn h)
  have HRN := Lib.hid (show r.length ≤ 1000000 from by omega)
  have E1 := Lib.hid (EndOf.refl r)
  have HN0 := Lib.hid (GmW.boxes w y)
  have hcy0 : (w.alloc (.cells #[.int .u8 0, .string ⟨#[]⟩, .int .i64 0, .int .i64 0, .bool false, .string ⟨#[]⟩] 40)).cell? ad = some (.int .u8 (y.toNat : Int)) := ((below1 w (.cells #[.int .u8 0, .string ⟨#[]⟩, .int .i64 0, .int .i64 0, .bool false, .string ⟨#[]⟩] 40)).cell (lt_of_cell hcy)).trans hcy
  have hl0 : 0 < n := by omega
  clear hl hr hy hcy hn
  go_enter Try.func57, Try.ntmps57
  go_upto_region 4 with fail
  have B0 := Lib.hid HN0.out.1; have P0 := Lib.hid HN0.out.2.1; have X0 := Lib.hid HN0.out.2.2.1; have Z0 := Lib.hid HN0.out.2.2.2
  generalize (w.alloc (.cells #[.int .u8 0, .string ⟨#[]⟩, .int .i64 0, .int .i64 0, .bool false, .string ⟨#[]⟩] 40)).alloc (.cells #[.int .u8 (y.toNat : Int), .string ⟨#[]⟩, .int .i64 0, .int .i64 0, .bool false, .string ⟨#[]⟩] 40) = W0 at *
  clear hcy0 HN0
  go_upto_region 5 with (go_at_call 81; refine (KN.out _ (HB1.out _ B0.out)).mono ?_; rintro e w1 ⟨g, rfl, h1, h2, h3⟩; have G : Hid (GmW w g r 0 _ w1) := Lib.hid ⟨B0.out.trans (h3.mono B0.out.size), P0.out.on h3, X0.out.on h3, by rw [← Z0.out]; exact h1, by rw [← Z0.out]; exact h2⟩; clear h1 h2 h3)
  clear B0 P0 X0 Z0
  obtain ⟨x0, x1c, x2c, x3c, x4c, x5c, xf0, xf1, xf2, xf3, xf4, xf5⟩ := G.out.x
  dsimp only at x0 x1c x2c x3c x4c x5c
  obtain ⟨p0, p1, p2, p3, p4, p5, pf0, pf1, pf2, pf3, pf4, pf5⟩ := G.out.p
  go_wp2_with (first | (go_at_call 52; refine (KA.out _).mono ?_; rintro e w' ⟨rfl, rfl⟩) | (go_at_call 53; refine (KB.out _).mono ?_; rintro e w' ⟨rfl, rfl⟩) | (go_at_call 54; refine (KC.out _).mono ?_; rintro e w' ⟨rfl, rfl⟩) | fail)
  have P := G.out.p.put ⟨y, ⟨#[]⟩, 0, 0, false, ⟨#[]⟩⟩
  have BF := belowSetMs G.out.b (Nat.le_refl _) ⟨y, ⟨#[]⟩, 0, 0, false, ⟨#[]⟩⟩
  obtain ⟨z0, z1, z2, z3, z4, z5, _, _, _, _, _, _⟩ := P
  unfold setMs at z0 z1 z2 z3 z4 z5 BF
  dsimp only at z0 z1 z2 z3 z4 z5 BF
  refine bodyPost_ret (v := .agg #[.int .u8 (y.toNat : Int), .string ⟨#[]⟩, .int .i64 0, .int .i64 0, .bool false, .string ⟨#[]⟩]) (by simp [results, Try.results57, go_sem, z0, z1, z2, z3, z4, z5]) rfl ⟨rfl, BF⟩
theorem mgGuess_any (A : Option Addr) (n c : Nat) (l : List UInt8) (w : World) (hN : n ≤ 1000000) (hl : l.length = n) (hc : n ≤ c) (hr : RB w A l) :
    Calls Try.prog 57 #[.slice A n c] w fun e w' => e = .returned (mgGuess l).v ∧ Below w.heap.size w w' := by
  cases l with
  | cons k r =>
    rcases mg_kinds k.toNat with ⟨a, b, d⟩ | ⟨a, b, d⟩ | ⟨a, b, d⟩ | ⟨a, b, d⟩ | ⟨a, b, d⟩
    · exact mgGuess_ttf A n c k r w hN hl hc hr a b d
    · exact mgGuess_ftt A n c k r w hN hl hc hr a b d
    · exact mgGuess_ftf A n c k r w hN hl hc hr a b d
    · exact mgGuess_fft A n c k r w hN hl hc hr a b d
    · exact mgGuess_fff A n c k r w hN hl hc hr a b d
  | nil =>
    obtain rfl : n = 0 := hl.symm
    clear hr hl
    have hb := Lib.hid (fun o => below1 w o)
    show Calls _ _ _ _ fun e w' => e = .returned ms0.v ∧ Below w.heap.size w w'
    unfold ms0
    go_enter Try.func57, Try.ntmps57
    go_wp2
    refine bodyPost_ret (v := .agg #[.int .u8 0, .string ⟨#[]⟩, .int .i64 0, .int .i64 0, .bool false, .string ⟨#[]⟩]) (by simp [results, Try.results57, go_sem]) rfl ⟨rfl, ?_⟩
    exact hb.out _
theorem mgPrefix_any (A B : Option Addr) (n m c d : Nat) (a b : List UInt8) (w : World) (ha : a.length = n) (hb : b.length = m) (hc : n ≤ c) (hr : RB w A a) (hs : RB w B b) :
    Calls Try.prog 58 #[.slice A n c, .slice B m d] w fun e w' => e = .returned (.bool (decide (a.take m = b))) ∧ w = w' := by
  by_cases hm : m ≤ n
  · have KE := Lib.hid (fun W (h : w = W) => vsBytes_any A B m m c d (a.take m) b W (by rw [List.length_take]; omega) hb (h ▸ hr.take m) (h ▸ hs))
    have h1 : decide (m ≤ n) = true := decide_eq_true hm
    have h2 : m ≤ c := by omega
    generalize decide (a.take m = b) = r at *
    clear ha hb hr hs hm
    go_enter Try.func58, Try.ntmps58
    go_wp2_with (go_at_call 44; refine (KE.out _ rfl).mono ?_; rintro e w1 ⟨rfl, rfl⟩)
    go_ret
    exact ⟨rfl, rfl⟩
  · have h1 : decide (m ≤ n) = false := decide_eq_false hm
    have HD := Lib.hid (show decide (a.take m = b) = false from decide_eq_false fun e => by
      have := congrArg List.length e
      rw [List.length_take] at this
      omega)
    clear ha hb hr hs hm
    go_enter Try.func58, Try.ntmps58
    go_wp2
    go_ret
    rw [HD.out]
    exact ⟨rfl, rfl⟩
set_option maxHeartbeats 2000000 in
set_option maxRecDepth 100000 in
theorem mgGet_any (A : Option Addr) (n c : Nat) (l : List UInt8) (w : World) (hN : n ≤ 1000000) (hl : l.length = n) (hc : n ≤ c) (hr : RB w A l) :
    Calls Try.prog 20 #[.slice A n c] w fun e w' => ∃ m k z, e = .returned (.tuple #[Ms.v m, .int .i64 (k : Nat), .int .i64 (z : Nat)]) ∧ GetOfM l m k z ∧ Below w.heap.size w w' := by
  obtain ⟨j, hj⟩ : ∃ j, j = min n 95 := ⟨_, rfl⟩
  have hjn : j ≤ n := by omega
  have hmin := fun (W : World) ats ty => run_min2I W ats ty (n : Int) 95 (j : Nat) (by omega)
  have KG := Lib.hid (fun W (h : Below w.heap.size w W) => mgGuess_any A j c (l.take 95) W (by omega) (by rw [List.length_take]; omega) (by omega) ((hr.take 95).below h))
  have HG := Lib.hid (mgGuess_of l)
  obtain ⟨g, hg⟩ : ∃ g, g = mgGuess (l.take 95) := ⟨_, rfl⟩
  rw [← hg] at KG HG
  have KP := Lib.hid (fun W => mgPut_any g W)
  have HP := Lib.hid (fun (B : Option Addr) (d : Nat) (b : List UInt8) W (hb : Below w.heap.size w W) (hB : RB W B b) => mgPrefix_any A B n b.length c d l b W hl rfl hc (hr.below hb) hB)
  have hjc : j ≤ c := by omega
  have B0 := Lib.hid (below1 w (.cells #[.int .u8 0, .string ⟨#[]⟩, .int .i64 0, .int .i64 0, .bool false, .string ⟨#[]⟩] 40))
  have P0 := Lib.hid (show MsBox (w.alloc (.cells #[.int .u8 0, .string ⟨#[]⟩, .int .i64 0, .int .i64 0, .bool false, .string ⟨#[]⟩] 40)) w.heap.size ms0 from MsBox.new w ms0 40)
  have HNo := Lib.hid (GetOfM.no l g HG.out)
  obtain ⟨z, hz⟩ : ∃ z, z = checkM g := ⟨_, rfl⟩
  obtain ⟨P, hP⟩ : ∃ P, P = (if checkM g = 0 then putM g else []) := ⟨_, rfl⟩
  rw [← hP, ← hz] at KP
  have HZ := Lib.hid hz
  have HPP := Lib.hid hP
  have HLL := Lib.hid hl
  clear hz hP hg hj hN hr hl
  unfold Ms.v at *
  by_cases hok : z = 0 ∧ l.take P.length = P
  · obtain ⟨rfl, hpl⟩ := hok
    have HO : Hid (GetOfM l g P.length 0) := Lib.hid (by
      have h0 : checkM g = 0 := HZ.out.symm
      have h1 : P = putM g := by rw [HPP.out, if_pos h0]
      refine .inl ⟨h0, ⟨l.drop P.length, ?_⟩, by rw [h1], rfl⟩
      have h3 := (List.take_append_drop P.length l).symm
      rw [hpl] at h3
      rw [← h1]
      exact h3)
    have HP := Lib.hid (fun (B : Option Addr) (d : Nat) W (hb : Below w.heap.size w W) (hB : RB W B P) => show Calls Try.prog 58 #[.slice A n c, .slice B P.length d] W fun e w' => e = .returned (.bool true) ∧ W = w' from by have h := HP.out B d P W hb hB; rw [decide_eq_true hpl] at h; exact h)
    clear HNo HZ HPP hpl HG
    go_enter Try.func20, Try.ntmps20
    go_upto_region 1 with fail
    generalize w.alloc (.cells #[.int .u8 0, .string ⟨#[]⟩, .int .i64 0, .int .i64 0, .bool false, .string ⟨#[]⟩] 40) = W0 at *
    go_upto_region 2 with (go_at_call 57; refine (KG.out _ B0.out).mono ?_; rintro e w1 ⟨rfl, b1⟩; have P0 := Lib.hid (P0.out.on b1); have B0 := Lib.hid (B0.out.trans (b1.mono B0.out.size)); clear b1)
    have P0 := Lib.hid (P0.out.alloc (.cells #[.int .u8 (g.kind.toNat : Int), .string g.key, .int .i64 g.txn, .int .i64 g.ts, .bool g.gone, .string g.val] 40))
    have X0 := Lib.hid (MsBox.new w1 g 40)
    have B0 := Lib.hid (B0.out.alloc B0.out.size (.cells #[.int .u8 (g.kind.toNat : Int), .string g.key, .int .i64 g.txn, .int .i64 g.ts, .bool g.gone, .string g.val] 40))
    generalize w1.alloc (.cells #[.int .u8 (g.kind.toNat : Int), .string g.key, .int .i64 g.txn, .int .i64 g.ts, .bool g.gone, .string g.val] 40) = W1 at *
    generalize w1.heap.size = q at *
    obtain ⟨x0, x1, x2, x3, x4, x5, _, _, _, _, _, _⟩ := X0.out
    go_upto_region 3 with (go_at_call 18; refine (KP.out _).mono ?_; rintro e w2 ⟨v2, rfl, o2, b2⟩; obtain ⟨A2, c2, rfl, hc2, r2⟩ := o2.form; have P0 := Lib.hid (P0.out.on b2); have X0 := Lib.hid (X0.out.on b2); have B0 := Lib.hid (B0.out.trans (b2.mono B0.out.size)); have R2 := Lib.hid r2; clear o2 b2 r2 hc2)
    clear x0 x1 x2 x3 x4 x5
    obtain ⟨x0, x1, x2, x3, x4, x5, _, _, _, _, _, _⟩ := X0.out
    obtain ⟨p0, p1, p2, p3, p4, p5, pf0, pf1, pf2, pf3, pf4, pf5⟩ := P0.out
    go_wp2_with (first | (go_at_call 58; refine (HP.out _ _ _ B0.out R2.out).mono ?_; rintro e w3 ⟨rfl, rfl⟩) | fail)
    have PX := P0.out.put g
    have BF := belowSetMs B0.out (Nat.le_refl _) g
    obtain ⟨z0, z1, z2, z3, z4, z5, _, _, _, _, _, _⟩ := PX
    unfold setMs at z0 z1 z2 z3 z4 z5 BF
    refine bodyPost_ret (v := .tuple #[.agg #[.int .u8 (g.kind.toNat : Int), .string g.key, .int .i64 g.txn, .int .i64 g.ts, .bool g.gone, .string g.val], .int .i64 (P.length : Nat), .int .i64 0]) (by simp [results, Try.results20, go_sem, z0, z1, z2, z3, z4, z5]) rfl ⟨g, P.length, 0, rfl, HO.out, BF⟩
  · have HO : Hid (GetOfM l ms0 0 4) := Lib.hid (HNo.out fun h => by
      obtain ⟨h0, R, h1⟩ := h
      have hh : P = putM g := by rw [HPP.out, if_pos h0]
      exact hok ⟨HZ.out.trans h0, by rw [hh, h1, List.take_left]⟩)
    by_cases hz0 : z = 0
    · have hpl : ¬ l.take P.length = P := fun e => hok ⟨hz0, e⟩
      subst hz0
      have HP := Lib.hid (fun (B : Option Addr) (d : Nat) W (hb : Below w.heap.size w W) (hB : RB W B P) => show Calls Try.prog 58 #[.slice A n c, .slice B P.length d] W fun e w' => e = .returned (.bool false) ∧ W = w' from by have h := HP.out B d P W hb hB; rw [decide_eq_false hpl] at h; exact h)
      clear HNo HZ HPP hpl HG hok
      go_enter Try.func20, Try.ntmps20
      go_upto_region 1 with fail
      generalize w.alloc (.cells #[.int .u8 0, .string ⟨#[]⟩, .int .i64 0, .int .i64 0, .bool false, .string ⟨#[]⟩] 40) = W0 at *
      go_upto_region 2 with (go_at_call 57; refine (KG.out _ B0.out).mono ?_; rintro e w1 ⟨rfl, b1⟩; have P0 := Lib.hid (P0.out.on b1); have B0 := Lib.hid (B0.out.trans (b1.mono B0.out.size)); clear b1)
      have P0 := Lib.hid (P0.out.alloc (.cells #[.int .u8 (g.kind.toNat : Int), .string g.key, .int .i64 g.txn, .int .i64 g.ts, .bool g.gone, .string g.val] 40))
      have X0 := Lib.hid (MsBox.new w1 g 40)
      have B0 := Lib.hid (B0.out.alloc B0.out.size (.cells #[.int .u8 (g.kind.toNat : Int), .string g.key, .int .i64 g.txn, .int .i64 g.ts, .bool g.gone, .string g.val] 40))
      generalize w1.alloc (.cells #[.int .u8 (g.kind.toNat : Int), .string g.key, .int .i64 g.txn, .int .i64 g.ts, .bool g.gone, .string g.val] 40) = W1 at *
      generalize w1.heap.size = q at *
      obtain ⟨x0, x1, x2, x3, x4, x5, _, _, _, _, _, _⟩ := X0.out
      go_upto_region 3 with (go_at_call 18; refine (KP.out _).mono ?_; rintro e w2 ⟨v2, rfl, o2, b2⟩; obtain ⟨A2, c2, rfl, hc2, r2⟩ := o2.form; have P0 := Lib.hid (P0.out.on b2); have X0 := Lib.hid (X0.out.on b2); have B0 := Lib.hid (B0.out.trans (b2.mono B0.out.size)); have R2 := Lib.hid r2; clear o2 b2 r2 hc2)
      clear x0 x1 x2 x3 x4 x5
      obtain ⟨x0, x1, x2, x3, x4, x5, _, _, _, _, _, _⟩ := X0.out
      obtain ⟨p0, p1, p2, p3, p4, p5, pf0, pf1, pf2, pf3, pf4, pf5⟩ := P0.out
      go_wp2_with (first | (go_at_call 58; refine (HP.out _ _ _ B0.out R2.out).mono ?_; rintro e w3 ⟨rfl, rfl⟩) | fail)
      have PX := P0.out.put ms0
      have BF := belowSetMs B0.out (Nat.le_refl _) ms0
      obtain ⟨z0, z1, z2, z3, z4, z5, _, _, _, _, _, _⟩ := PX
      unfold setMs ms0 at z0 z1 z2 z3 z4 z5 BF
      dsimp only at z0 z1 z2 z3 z4 z5 BF
      simp only [show ((0 : UInt8).toNat : Int) = 0 from rfl] at z0 z1 z2 z3 z4 z5 BF
      refine bodyPost_ret (v := .tuple #[.agg #[.int .u8 0, .string ⟨#[]⟩, .int .i64 0, .int .i64 0, .bool false, .string ⟨#[]⟩], .int .i64 0, .int .i64 4]) (by simp [results, Try.results20, go_sem, z0, z1, z2, z3, z4, z5]) rfl ⟨ms0, 0, 4, rfl, HO.out, BF⟩
    · have hd : ((z : Int) != 0) = true := by simp; omega
      clear HNo HZ HPP HG hok HP hz0
      go_enter Try.func20, Try.ntmps20
      go_upto_region 1 with fail
      generalize w.alloc (.cells #[.int .u8 0, .string ⟨#[]⟩, .int .i64 0, .int .i64 0, .bool false, .string ⟨#[]⟩] 40) = W0 at *
      go_upto_region 2 with (go_at_call 57; refine (KG.out _ B0.out).mono ?_; rintro e w1 ⟨rfl, b1⟩; have P0 := Lib.hid (P0.out.on b1); have B0 := Lib.hid (B0.out.trans (b1.mono B0.out.size)); clear b1)
      have P0 := Lib.hid (P0.out.alloc (.cells #[.int .u8 (g.kind.toNat : Int), .string g.key, .int .i64 g.txn, .int .i64 g.ts, .bool g.gone, .string g.val] 40))
      have X0 := Lib.hid (MsBox.new w1 g 40)
      have B0 := Lib.hid (B0.out.alloc B0.out.size (.cells #[.int .u8 (g.kind.toNat : Int), .string g.key, .int .i64 g.txn, .int .i64 g.ts, .bool g.gone, .string g.val] 40))
      generalize w1.alloc (.cells #[.int .u8 (g.kind.toNat : Int), .string g.key, .int .i64 g.txn, .int .i64 g.ts, .bool g.gone, .string g.val] 40) = W1 at *
      generalize w1.heap.size = q at *
      obtain ⟨x0, x1, x2, x3, x4, x5, _, _, _, _, _, _⟩ := X0.out
      go_upto_region 3 with (go_at_call 18; refine (KP.out _).mono ?_; rintro e w2 ⟨v2, rfl, o2, b2⟩; obtain ⟨A2, c2, rfl, hc2, r2⟩ := o2.form; have P0 := Lib.hid (P0.out.on b2); have X0 := Lib.hid (X0.out.on b2); have B0 := Lib.hid (B0.out.trans (b2.mono B0.out.size)); have R2 := Lib.hid r2; clear o2 b2 r2 hc2)
      clear x0 x1 x2 x3 x4 x5
      obtain ⟨x0, x1, x2, x3, x4, x5, _, _, _, _, _, _⟩ := X0.out
      obtain ⟨p0, p1, p2, p3, p4, p5, pf0, pf1, pf2, pf3, pf4, pf5⟩ := P0.out
      go_wp2_with fail
      have PX := P0.out.put ms0
      have BF := belowSetMs B0.out (Nat.le_refl _) ms0
      obtain ⟨z0, z1, z2, z3, z4, z5, _, _, _, _, _, _⟩ := PX
      unfold setMs ms0 at z0 z1 z2 z3 z4 z5 BF
      dsimp only at z0 z1 z2 z3 z4 z5 BF
      simp only [show ((0 : UInt8).toNat : Int) = 0 from rfl] at z0 z1 z2 z3 z4 z5 BF
      refine bodyPost_ret (v := .tuple #[.agg #[.int .u8 0, .string ⟨#[]⟩, .int .i64 0, .int .i64 0, .bool false, .string ⟨#[]⟩], .int .i64 0, .int .i64 4]) (by simp [results, Try.results20, go_sem, z0, z1, z2, z3, z4, z5]) rfl ⟨ms0, 0, 4, rfl, HO.out, BF⟩
end Go.Proofs.Ytjmmaghjbaigiaa
