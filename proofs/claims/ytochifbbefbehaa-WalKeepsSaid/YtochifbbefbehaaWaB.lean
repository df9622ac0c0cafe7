/- The package wal: what a log in memory is; the looks; slices.Clone, Grow and Concat of texts. -/
import Derived.Test.YtochifbbefbehaaWaA
import Derived.Test.YtochifbbefbehaaScI
import Derived.Lib.AppendZeros
import Derived.Deep.QuietTactic
import Derived.BigQuiet
namespace Go.Proofs.Ytochifbbefbehaa
open Go.RowKit
set_option linter.unusedVariables false
set_option linter.unusedSimpArgs false
def lgCells (F : Ft) (g : Lg) (v5 v6 : Value) : Array Value := #[.pointer (some ⟨F.b, 0, none⟩), .int .i64 (g.first : Int), .int .i64 (g.count : Int), .int .i64 (g.epoch : Int), .int .i64 (g.written : Int), v5, v6, .bool g.closed, .bool g.bad]
/-- A log in memory: its block, its records' row, its waiting rows and the blocks Y that they hang on. -/
structure LgAt (base : Nat) (F : Ft) (G : Nat) (v5 v6 : Value) (Y : Nat → Prop) (W : World) (g : Lg) : Prop where
  gb : base ≤ G
  nf : ¬ F.has G
  ny : ¬ Y G
  cells : W.heap[G]? = some (.cells (lgCells F g v5 v6) 58 (0, 0))
  recs : OG CR.str 9 base W v5 g.recs
  rg : ∀ b, v5.ownBlock = some b → b ≠ G ∧ ¬ F.has b ∧ ¬ Y b
  wait : PW base Y W v6 (grp g.wt)
  yb : ∀ b, Y b → base ≤ b ∧ b < W.heap.size ∧ ¬ F.has b
def Ow (F : Ft) (G : Nat) (v5 : Value) (Y : Nat → Prop) (b : Nat) : Prop := F.has b ∨ b = G ∨ v5.ownBlock = some b ∨ Y b
/-- A disk and a log upon it, that hang on no block of Z. -/
def LW (base : Nat) (F : Ft) (G : Nat) (Z : Nat → Prop) (W : World) (d : Dk) (g : Lg) : Prop :=
  DkAt base F W d ∧ g.Ok ∧ ∃ v5 v6 Y, LgAt base F G v5 v6 Y W g ∧ ∀ b, Ow F G v5 Y b → ¬ Z b
theorem LgAt.lt {base : Nat} {F : Ft} {G : Nat} {v5 v6 : Value} {Y : Nat → Prop} {W : World} {g : Lg} (h : LgAt base F G v5 v6 Y W g) : G < W.heap.size := (Array.getElem?_eq_some_iff.1 h.cells).1
theorem ow_lt {base : Nat} {F : Ft} {G : Nat} {v5 v6 : Value} {Y : Nat → Prop} {W : World} {d : Dk} {g : Lg} (k : DkAt base F W d) (h : LgAt base F G v5 v6 Y W g) {b : Nat} (hb : Ow F G v5 Y b) : base ≤ b ∧ b < W.heap.size := by
  rcases hb with hb | rfl | hb | hb
  · exact ⟨k.based b hb, k.inside b hb⟩
  · exact ⟨h.gb, h.lt⟩
  · exact h.recs.own_lt hb
  · exact ⟨(h.yb b hb).1, (h.yb b hb).2.1⟩
theorem LgAt.keep {base : Nat} {F : Ft} {G : Nat} {v5 v6 : Value} {Y : Nat → Prop} {W V : World} {g : Lg} (h : LgAt base F G v5 v6 Y W g) (hs : W.heap.size ≤ V.heap.size) (hk : ∀ b, b = G ∨ v5.ownBlock = some b ∨ Y b → V.heap[b]? = W.heap[b]?) : LgAt base F G v5 v6 Y V g :=
  ⟨h.gb, h.nf, h.ny, (hk G (.inl rfl)).trans h.cells, h.recs.keepOwn str_flat fun b hb => hk b (.inr (.inl hb)), h.rg, h.wait.keep fun b hb => hk b (.inr (.inr hb)), fun b hb => ⟨(h.yb b hb).1, Nat.lt_of_lt_of_le (h.yb b hb).2.1 hs, (h.yb b hb).2.2⟩⟩
theorem LW.below {base : Nat} {F : Ft} {G : Nat} {Z : Nat → Prop} {W V : World} {d : Dk} {g : Lg} (h : LW base F G Z W d g) (hb : Below W.heap.size W V) : LW base F G Z V d g := by
  obtain ⟨k, ok, v5, v6, Y, l, z⟩ := h
  exact ⟨k.below hb, ok, v5, v6, Y, l.keep hb.size fun b hb' => hb.block b (ow_lt k l (.inr hb')).2, z⟩
theorem LW.frm {base : Nat} {F : Ft} {G : Nat} {Z X : Nat → Prop} {W V : World} {d : Dk} {g : Lg} (h : LW base F G Z W d g) (hf : Frm X W V) (hx : ∀ b, X b → Z b) : LW base F G Z V d g := by
  obtain ⟨k, ok, v5, v6, Y, l, z⟩ := h
  exact ⟨k.frm hf fun b hb hX => z b (.inl hb) (hx b hX), ok, v5, v6, Y, l.keep hf.size fun b hb' => hf.block b (ow_lt k l (.inr hb')).2 fun hX => z b (.inr hb') (hx b hX), z⟩
/-- More is kept away from. -/
theorem LW.away {base : Nat} {F : Ft} {G : Nat} {Z Z' : Nat → Prop} {W : World} {d : Dk} {g : Lg} (h : LW base F G Z W d g) (hz : ∀ b, b < W.heap.size → Z' b → Z b) : LW base F G Z' W d g := by
  obtain ⟨k, ok, v5, v6, Y, l, z⟩ := h
  exact ⟨k, ok, v5, v6, Y, l, fun b hb hz' => z b hb (hz b (ow_lt k l hb).2 hz')⟩
theorem LgAt.at_ {base : Nat} {F : Ft} {G : Nat} {v5 v6 : Value} {Y : Nat → Prop} {W : World} {g : Lg} (h : LgAt base F G v5 v6 Y W g) (i : Nat) : W.cell? ⟨G, i, none⟩ = (lgCells F g v5 v6)[i]? := cell_of_row W G i _ _ _ h.cells
theorem LgAt.fz {base : Nat} {F : Ft} {G : Nat} {v5 v6 : Value} {Y : Nat → Prop} {W : World} {g : Lg} (h : LgAt base F G v5 v6 Y W g) (i : Nat) : W.frozen? ⟨G, i, none⟩ = false := by simp [World.frozen?, h.cells]
section
variable {base : Nat} {F : Ft} {G : Nat} {v5 v6 : Value} {Y : Nat → Prop} {W : World} {g : Lg}
theorem LgAt.c0 (h : LgAt base F G v5 v6 Y W g) : W.cell? ⟨G, 0, none⟩ = some (.pointer (some ⟨F.b, 0, none⟩)) := h.at_ 0
theorem LgAt.c1 (h : LgAt base F G v5 v6 Y W g) : W.cell? ⟨G, 1, none⟩ = some (.int .i64 (g.first : Int)) := h.at_ 1
theorem LgAt.c2 (h : LgAt base F G v5 v6 Y W g) : W.cell? ⟨G, 2, none⟩ = some (.int .i64 (g.count : Int)) := h.at_ 2
theorem LgAt.c3 (h : LgAt base F G v5 v6 Y W g) : W.cell? ⟨G, 3, none⟩ = some (.int .i64 (g.epoch : Int)) := h.at_ 3
theorem LgAt.c4 (h : LgAt base F G v5 v6 Y W g) : W.cell? ⟨G, 4, none⟩ = some (.int .i64 (g.written : Int)) := h.at_ 4
theorem LgAt.c5 (h : LgAt base F G v5 v6 Y W g) : W.cell? ⟨G, 5, none⟩ = some v5 := h.at_ 5
theorem LgAt.c6 (h : LgAt base F G v5 v6 Y W g) : W.cell? ⟨G, 6, none⟩ = some v6 := h.at_ 6
theorem LgAt.c7 (h : LgAt base F G v5 v6 Y W g) : W.cell? ⟨G, 7, none⟩ = some (.bool g.closed) := h.at_ 7
theorem LgAt.c8 (h : LgAt base F G v5 v6 Y W g) : W.cell? ⟨G, 8, none⟩ = some (.bool g.bad) := h.at_ 8
set_option maxHeartbeats 400000 in
theorem waNone_any (h : LgAt base F G v5 v6 Y W g) : Calls Try.prog 28 #[.pointer (some ⟨G, 0, none⟩)] W fun e w' => e = .returned (.bool false) ∧ W = w' := by
  have c0 := h.c0
  clear h
  go_enter Try.func28, Try.ntmps28
  go_wp2
  go_ret
  exact ⟨rfl, rfl⟩
set_option maxHeartbeats 400000 in
theorem waFault_any (h : LgAt base F G v5 v6 Y W g) : Calls Try.prog 25 #[.pointer (some ⟨G, 0, none⟩)] W fun e w' => e = .returned (.int .i64 (g.fault : Int)) ∧ W = w' := by
  have c7 := h.c7; have c8 := h.c8
  have KN := Lib.hid (waNone_any h)
  clear h
  cases hb : g.bad with
  | true =>
    have HF := Lib.hid (show g.fault = 11 from by unfold Lg.fault; rw [if_pos (.inl hb)])
    rw [hb] at c8
    clear hb c7
    go_enter Try.func25, Try.ntmps25
    go_wp2_with (first | (go_at_call 28; refine KN.out.mono ?_; rintro e w' ⟨rfl, rfl⟩) | fail)
    go_ret
    exact ⟨by rw [HF.out]; rfl, rfl⟩
  | false =>
    rw [hb] at c8
    cases hc : g.closed with
    | true =>
      have HF := Lib.hid (show g.fault = 11 from by unfold Lg.fault; rw [if_pos (.inr hc)])
      rw [hc] at c7
      clear hb hc
      go_enter Try.func25, Try.ntmps25
      go_wp2_with (first | (go_at_call 28; refine KN.out.mono ?_; rintro e w' ⟨rfl, rfl⟩) | fail)
      go_ret
      exact ⟨by rw [HF.out]; rfl, rfl⟩
    | false =>
      have HF := Lib.hid (show g.fault = 0 from by unfold Lg.fault; rw [if_neg (by rw [hb, hc]; simp)])
      rw [hc] at c7
      clear hb hc
      go_enter Try.func25, Try.ntmps25
      go_wp2_with (first | (go_at_call 28; refine KN.out.mono ?_; rintro e w' ⟨rfl, rfl⟩) | fail)
      go_ret
      exact ⟨by rw [HF.out]; rfl, rfl⟩
set_option maxHeartbeats 400000 in
theorem waEpoch_any (h : LgAt base F G v5 v6 Y W g) : Calls Try.prog 11 #[.pointer (some ⟨G, 0, none⟩)] W fun e w' => e = .returned (.int .i64 (g.epoch : Int)) ∧ W = w' := by
  have c3 := h.c3
  have KN := Lib.hid (waNone_any h)
  clear h
  go_enter Try.func11, Try.ntmps11
  go_wp2_with (first | (go_at_call 28; refine KN.out.mono ?_; rintro e w' ⟨rfl, rfl⟩) | fail)
  go_ret
  exact ⟨rfl, rfl⟩
set_option maxHeartbeats 400000 in
theorem waClosed_any (h : LgAt base F G v5 v6 Y W g) : Calls Try.prog 23 #[.pointer (some ⟨G, 0, none⟩)] W fun e w' => e = .returned (.bool g.closed) ∧ W = w' := by
  have c7 := h.c7
  have KN := Lib.hid (waNone_any h)
  clear h
  go_enter Try.func23, Try.ntmps23
  go_wp2_with (first | (go_at_call 28; refine KN.out.mono ?_; rintro e w' ⟨rfl, rfl⟩) | fail)
  go_ret
  exact ⟨rfl, rfl⟩
set_option maxHeartbeats 400000 in
theorem waLeft_any (h : LgAt base F G v5 v6 Y W g) (ok : g.Ok) : Calls Try.prog 21 #[.pointer (some ⟨G, 0, none⟩)] W fun e w' => e = .returned (.int .i64 (g.left : Int)) ∧ (∃ n, w' = W.drewN n) := by
  have c7 := h.c7; have c2 := h.c2; have c4 := h.c4
  have KN := Lib.hid (waNone_any h)
  have h1 := ok.cnt
  have h2 := ok.wr
  clear h ok
  cases hc : g.closed with
  | true =>
    have HF := Lib.hid (show g.left = 0 from by unfold Lg.left; rw [if_pos hc])
    rw [hc] at c7
    clear hc
    go_enter Try.func21, Try.ntmps21
    go_wp2_with (first | (go_at_call 28; refine KN.out.mono ?_; rintro e w' ⟨rfl, rfl⟩) | fail)
    go_ret
    exact ⟨by rw [HF.out]; rfl, 0, rfl⟩
  | false =>
    have HF := Lib.hid (show (g.left : Int) = (g.count : Int) - (g.written : Int) from by unfold Lg.left; rw [if_neg (by rw [hc]; simp)]; omega)
    rw [hc] at c7
    clear hc
    generalize g.left = L at *
    go_enter Try.func21, Try.ntmps21
    go_upto_region 3 with (first | (go_at_call 28; refine KN.out.mono ?_; rintro e w' ⟨rfl, rfl⟩) | fail)
    go_quiet (fail)
    go_wp2
    go_ret
    exact ⟨by rw [HF.out]; rfl, _, rfl⟩
end
set_option maxRecDepth 100000 in
set_option maxHeartbeats 400000 in
theorem cloneS_any {base : Nat} {v : Value} {L : List (List UInt8)} {W : World} (h : OG CR.str 9 base W v L) (hn : L.length ≤ 1000000) :
    Calls Try.prog 35 #[v] W fun e w' => ∃ v', e = .returned v' ∧ OG CR.str 9 W.heap.size w' v' L ∧ Below W.heap.size W w' := by
  obtain ⟨A, c, rfl, h1, h2, h3, h4⟩ := h.rg
  have q22 : ∀ (w : World) (a : Option Addr) (n c n' c' : Nat), (binOp .eql 31 (.slice a n c) (.slice none n' c')).run Try.prog w = .ok (.bool a.isNone) w := fun w a n c n' c' => Lib.run_eql_slice_nil w _ _ a n c n' c' Try.underlying31
  rcases A with _ | ad
  · have hL : L = [] := by
      cases L with
      | nil => rfl
      | cons x r => obtain ⟨ad, _, e, _⟩ := h3 0 x rfl; cases e
    subst hL
    have hc : c = 0 := by
      obtain ⟨css, o, _⟩ := h
      rcases o.2 with ⟨e, _⟩ | ⟨g, cap, cur, e, _⟩
      · injection e
      · cases e
    subst hc
    clear h h1 h2 h3 h4
    go_enter Try.func35, Try.ntmps35
    go_wp2
    go_ret
    exact ⟨_, rfl, OG.nil, Below.refl _ _⟩
  · have H3 := Lib.hid (h3.alloc (.cells #[] 9))
    have O0 := Lib.hid (OG.lit0 (K := CR.str) (T := 9) (base := W.heap.size) W (Nat.le_refl _))
    have B0 := Lib.hid ((Below.refl W.heap.size W).alloc (Nat.le_refl _) (.cells #[] 9))
    clear h h3 h4
    go_enter Try.func35, Try.ntmps35
    go_wp2_with (at_builtin; (refine wpList_append_G tgS rfl _ _ rfl W.heap.size _ ([] : List (List UInt8)) rfl O0.out (some ad) L.length c L rfl rfl H3.out (Apart.flat str_flat) (by simpa using hn) B0.out.size ?_; intro v1 w1 o1 b1 _ _))
    go_ret
    exact ⟨_, rfl, by simpa using o1, B0.out.trans b1⟩
theorem infoStr : (Try.prog.info? 9).map (fun i => (i.zero, i.size, i.bytes)) = some (some (.string ⟨#[]⟩), 1, 16) := by kernel_rfl
set_option maxRecDepth 100000 in
set_option maxHeartbeats 1000000 in
theorem growS_any (n : Nat) (hn : n ≤ 1000000) (W : World) : Calls Try.prog 51 #[.slice none 0 0, .int .i64 (n : Int)] W fun e w' => ∃ v', e = .returned v' ∧ OG CR.str 9 W.heap.size w' v' ([] : List (List UInt8)) ∧ Below W.heap.size W w' := by
  by_cases h0 : n = 0
  · subst h0
    go_enter Try.func51, Try.ntmps51
    go_wp2
    go_ret
    exact ⟨_, rfl, OG.nil, Below.refl _ _⟩
  · obtain ⟨i0, hi, hz0, hz1, hz2⟩ := info_parts infoStr
    have hrun : ∀ ty, _ := fun ty => Go.Lib.run_append_nil_zeros (P := Try.prog) W 31 3 ty 9 i0 _ .i64 .i64 Try.underlying31 Try.underlying3 hi hz0 n (by omega) (by rw [hz1]; omega) (by omega) (by rw [hz2]; omega)
    have hge := grownCap_ge W n 0 9
    have hle := grownCap_le_maxLen W n 0 9 (by simp only [maxLen]; omega)
    generalize grownCap W n 0 9 = cap at *
    have hpos : (0 : Int) < (n : Int) := by omega
    have HR := Lib.hid hrun
    have hcap : (cap : Int) ≤ 9223372036854775807 := by simp only [maxLen] at hle; omega
    clear hrun
    obtain ⟨cur, hcur⟩ : ∃ cur, cur = Builtin.zeroCells (Value.string ⟨#[]⟩).cells n ++ Builtin.zeroCells (Value.string ⟨#[]⟩).cells (cap - n) := ⟨_, rfl⟩
    rw [← hcur] at HR
    have hsz : cur.size = cap * 1 := by
      rw [hcur, Array.size_append, size_zeroCells, size_zeroCells]
      have : (Value.string ⟨#[]⟩).cells.size = 1 := rfl
      rw [this]
      omega
    have HO : Hid (OG CR.str 9 W.heap.size (W.drew.alloc (.cells cur 9)) (.slice (some ⟨W.heap.size, 0, none⟩) 0 cap) ([] : List (List UInt8))) := Lib.hid ⟨[], ⟨by simp, .inr ⟨W.heap.size, cap, cur, rfl, Nat.le_refl _, heap_alloc_last W.drew _, Nat.zero_le _, hle, hsz, by simp⟩⟩, rfl, fun j x hj => by simp at hj⟩
    have HB : Hid (Below W.heap.size W (W.drew.alloc (.cells cur 9))) := Lib.hid (((Below.refl W.heap.size W).drew).alloc (Nat.le_refl _) _)
    clear hcur hsz hz0 hz1 hz2 hi
    go_enter Try.func51, Try.ntmps51
    go_wp2_with (at_builtin; (refine Go.Lib.wpList_append_run _ rfl _ _ _ _ rfl _ _ rfl rfl _ _ (HR.out _) ?_))
    go_ret
    exact ⟨_, rfl, HO.out, HB.out⟩
end Go.Proofs.Ytochifbbefbehaa
