/- The package wal: Add. -/
import Derived.Test.YtochifbbefbehaaWaD
namespace Go.Proofs.Ytochifbbefbehaa
open Go.RowKit
set_option linter.unusedVariables false
set_option linter.unusedSimpArgs false
theorem addErr_bad {g : Lg} {s : List UInt8} (h : g.fault ≠ 0) : g.addErr s = 11 ∧ g.fault = 11 ∧ g.add s = g := by
  have hb : g.bad = true ∨ g.closed = true := by
    unfold Lg.fault at h
    split at h
    · assumption
    · exact absurd rfl h
  have e : g.addErr s = 11 := by unfold Lg.addErr; rw [if_pos hb]
  exact ⟨e, by unfold Lg.fault; rw [if_pos hb], by unfold Lg.add; rw [if_neg (by rw [e]; decide)]⟩
theorem addErr_long {g : Lg} {s : List UInt8} (h : g.fault = 0) (hs : 238 < s.length) : g.addErr s = 5 ∧ g.add s = g := by
  have hb : ¬ (g.bad = true ∨ g.closed = true) := by
    unfold Lg.fault at h
    split at h
    · cases h
    · assumption
  have e : g.addErr s = 5 := by unfold Lg.addErr; rw [if_neg hb, if_pos hs]
  exact ⟨e, by unfold Lg.add; rw [if_neg (by rw [e]; decide)]⟩
theorem addErr_full {g : Lg} {s : List UInt8} (h : g.fault = 0) (hs : ¬ 238 < s.length) (hf : g.left < (grp (g.wt ++ [s])).length) : g.addErr s = 7 ∧ g.add s = g := by
  have hb : ¬ (g.bad = true ∨ g.closed = true) := by
    unfold Lg.fault at h
    split at h
    · cases h
    · assumption
  have hl : g.left = g.count - g.written := by unfold Lg.left; rw [if_neg (fun e => hb (.inr e))]
  have e : g.addErr s = 7 := by unfold Lg.addErr; rw [if_neg hb, if_neg hs, if_neg (by omega)]
  exact ⟨e, by unfold Lg.add; rw [if_neg (by rw [e]; decide)]⟩
theorem addErr_ok {g : Lg} {s : List UInt8} (h : g.fault = 0) (hs : ¬ 238 < s.length) (hf : (grp (g.wt ++ [s])).length ≤ g.left) : g.addErr s = 0 ∧ g.add s = { g with wt := g.wt ++ [s] } := by
  have hb : ¬ (g.bad = true ∨ g.closed = true) := by
    unfold Lg.fault at h
    split at h
    · cases h
    · assumption
  have hl : g.left = g.count - g.written := by unfold Lg.left; rw [if_neg (fun e => hb (.inr e))]
  have e : g.addErr s = 0 := by unfold Lg.addErr; rw [if_neg hb, if_neg hs, if_pos (by omega)]
  exact ⟨e, by unfold Lg.add; rw [if_pos e]⟩
/-- What a call leaves: the log, hanging on nothing of Z, and Z itself. -/
def Left (base : Nat) (F : Ft) (G : Nat) (Z : Nat → Prop) (W : World) (d : Dk) (g : Lg) (w' : World) : Prop := LW base F G Z w' d g ∧ Frm (fun b => ¬ Z b) W w'
/-- A log that hangs on what it did, and on what is new. -/
theorem LgAt.left {base : Nat} {F : Ft} {G : Nat} {v5 v6 v6' : Value} {Y Y' Z : Nat → Prop} {W w' : World} {d : Dk} {g g' : Lg} (dk : DkAt base F W d) (ok : g'.Ok) (h : LgAt base F G v5 v6 Y W g) (hz : ∀ b, Ow F G v5 Y b → ¬ Z b) (hZ : ∀ b, Z b → b < W.heap.size)
    (h' : LgAt base F G v5 v6' Y' w' g') (hy : ∀ b, Y' b → Y b ∨ W.heap.size ≤ b) (hf : Frm (fun b => b = G ∨ Y b) W w') : Left base F G Z W d g' w' := by
  refine ⟨⟨dk.frm hf fun k hk e => ?_, ok, v5, v6', Y', h', fun b hb hzb => ?_⟩, hf.mono fun b hb hzb => ?_⟩
  · rcases e with rfl | e
    · exact h.nf hk
    · exact (h.yb k e).2.2 hk
  · rcases hb with hb | hb | hb | hb
    · exact hz b (.inl hb) hzb
    · exact hz b (.inr (.inl hb)) hzb
    · exact hz b (.inr (.inr (.inl hb))) hzb
    · rcases hy b hb with hb | hb
      · exact hz b (.inr (.inr (.inr hb))) hzb
      · have := hZ b hzb
        omega
  · rcases hb with hb | hb
    · exact hz b (.inr (.inl hb)) hzb
    · exact hz b (.inr (.inr (.inr hb))) hzb
theorem lgAt_set {base : Nat} {F : Ft} {G : Nat} {v5 v6 v5' v6' : Value} {Y : Nat → Prop} {W : World} {g g' : Lg} (gb : base ≤ G) (nf : ¬ F.has G) (ny : ¬ Y G) (hcells : W.heap[G]? = some (.cells (lgCells F g v5 v6) 58 (0, 0))) (i : Nat) (u : Value) (hc : (lgCells F g v5 v6).setIfInBounds i u = lgCells F g' v5' v6')
    (hr : OG CR.str 9 base W v5' g'.recs) (hg : ∀ b, v5'.ownBlock = some b → b ≠ G ∧ ¬ F.has b ∧ ¬ Y b) (hw : PW base Y W v6' (grp g'.wt)) (yb : ∀ b, Y b → base ≤ b ∧ b < W.heap.size ∧ ¬ F.has b) : LgAt base F G v5' v6' Y (W.setCell ⟨G, i, none⟩ u) g' := by
  have ho : ∀ b, b ≠ G → (W.setCell ⟨G, i, none⟩ u).heap[b]? = W.heap[b]? := setCell_else W G i u
  refine ⟨gb, nf, ny, ?_, hr.keepOwn str_flat fun b hb => ho b (hg b hb).1, hg, hw.keep fun b hb => ho b fun e => ny (by rw [← e]; exact hb), fun b hb => ⟨(yb b hb).1, ?_, (yb b hb).2.2⟩⟩
  · rw [heap_setCell_block u hcells, hc]
  · rw [show (W.setCell ⟨G, i, none⟩ u).heap.size = W.heap.size from by simp [World.setCell]]
    exact (yb b hb).2.1
theorem LgAt.push {base : Nat} {F : Ft} {G : Nat} {v5 v6 : Value} {Y : Nat → Prop} {V : World} {d : Dk} {g : Lg} (dk : DkAt base F V d) (h : LgAt base F G v5 v6 Y V g) (hbase : base ≤ V.heap.size) (s : List UInt8) (ty : TypeId) (hn : (grp g.wt).length ≤ 100000) (hs : grp (g.wt ++ [s]) = grp g.wt ++ [[s]]) :
    ∃ v' w', (Builtin.append_ #[56, 56] ty #[v6, .slice (some ⟨V.heap.size + 1, 0, none⟩) 1 1]).run Try.prog ((V.alloc (.cells #[.string (str s)] 9)).alloc (.cells #[.slice (some ⟨V.heap.size, 0, none⟩) 1 1] 31)) = .ok v' w' ∧
      w'.cell? ⟨G, 6, none⟩ = some v6 ∧ w'.frozen? ⟨G, 6, none⟩ = false ∧ (∃ A n c, v' = .slice A n c) ∧ (∃ Y' : Nat → Prop, LgAt base F G v5 v' Y' (w'.setCell ⟨G, 6, none⟩ v') { g with wt := g.wt ++ [s] } ∧ ∀ b, Y' b → Y b ∨ V.heap.size ≤ b) ∧ Frm (fun b => b = G ∨ Y b) V (w'.setCell ⟨G, 6, none⟩ v') := by
  have b1 := (Below.refl V.heap.size V).alloc (Nat.le_refl _) (.cells #[.string (str s)] 9)
  have b2 : Below V.heap.size V ((V.alloc (.cells #[.string (str s)] 9)).alloc (.cells #[.slice (some ⟨V.heap.size, 0, none⟩) 1 1] 31)) := b1.alloc b1.size _
  have hs2 : ((V.alloc (.cells #[.string (str s)] 9)).alloc (.cells #[.slice (some ⟨V.heap.size, 0, none⟩) 1 1] 31)).heap.size = V.heap.size + 2 := by rw [heap_size_alloc, heap_size_alloc]
  have hs1 : (V.alloc (.cells #[.string (str s)] 9)).heap.size = V.heap.size + 1 := by rw [heap_size_alloc]
  have h0 : (V.alloc (.cells #[.string (str s)] 9)).heap[V.heap.size]? = some (.cells #[.string (str s)] 9 (0, 0)) := heap_alloc_last V _
  have o1 : OG CR.str 9 base (V.alloc (.cells #[.string (str s)] 9)) (.slice (some ⟨V.heap.size, 0, none⟩) 1 1) [s] :=
    ⟨[[.string (str s)]], ⟨by simp [CR.str, CR.one1, CR.flat], .inr ⟨V.heap.size, 1, _, rfl, hbase, h0, Nat.le_refl _, by simp [maxLen], rfl, rfl⟩⟩, rfl, fun j x hj => by
      cases j with
      | zero =>
        simp at hj
        subst hj
        exact ⟨_, rfl, rfl, fun b hb => hb.elim⟩
      | succ j => simp at hj⟩
  have hq : ((V.alloc (.cells #[.string (str s)] 9)).alloc (.cells #[.slice (some ⟨V.heap.size, 0, none⟩) 1 1] 31)).cell? ⟨V.heap.size + 1, 0, none⟩ = some (.slice (some ⟨V.heap.size, 0, none⟩) 1 1) := by
    have := heap_alloc_last (V.alloc (.cells #[.string (str s)] 9)) (.cells #[.slice (some ⟨V.heap.size, 0, none⟩) 1 1] 31)
    rw [hs1] at this
    exact cell_of_row _ _ 0 _ _ _ this
  have l2 := h.keep b2.size fun b hb' => b2.block b (ow_lt dk h (.inr hb')).2
  obtain ⟨v', w', a1, a2, a3, a4⟩ := l2.wait.push ty (fun b hb => (l2.yb b hb).2.1) (q := V.heap.size + 1) (b2 := V.heap.size) hq (o1.alloc _) rfl (fun hy => by have := (h.yb _ hy).2.1; omega) hn (by omega)
  have hgl := h.lt
  have gne : ∀ b, v5.ownBlock = some b → ¬ Y b := fun b hb => (h.rg b hb).2.2
  have hcg : w'.heap[G]? = some (.cells (lgCells F g v5 v6) 58 (0, 0)) := (a4.block G (by omega) l2.ny).trans l2.cells
  have hpw : PW base (fun b => Y b ∨ b = V.heap.size ∨ ((V.alloc (.cells #[.string (str s)] 9)).alloc (.cells #[.slice (some ⟨V.heap.size, 0, none⟩) 1 1] 31)).heap.size ≤ b ∧ b < w'.heap.size) w' v' (grp (g.wt ++ [s])) := by rw [hs]; exact a2
  have hsz := a4.size
  obtain ⟨A, c, e, _⟩ := hpw.rg
  refine ⟨v', w', a1, cell_of_row _ _ 6 _ _ _ hcg, by simp [World.frozen?, hcg], ⟨_, _, _, e⟩, ⟨_, lgAt_set (g' := { g with wt := g.wt ++ [s] }) h.gb h.nf ?_ hcg 6 v' rfl (l2.recs.keepOwn str_flat fun b hb => a4.block b (l2.recs.own_lt hb).2 (gne b hb)) ?_ hpw ?_, ?_⟩, ?_⟩
  · rintro (hy | hy | hy)
    · exact h.ny hy
    · omega
    · omega
  · intro b hb
    refine ⟨(h.rg b hb).1, (h.rg b hb).2.1, ?_⟩
    have := (h.recs.own_lt hb).2
    rintro (hy | hy | hy)
    · exact gne b hb hy
    · omega
    · omega
  · rintro b (hy | hy | hy)
    · exact ⟨(h.yb b hy).1, by have := (h.yb b hy).2.1; omega, (h.yb b hy).2.2⟩
    · exact ⟨by omega, by omega, fun hf => by have := dk.inside b hf; omega⟩
    · exact ⟨by omega, hy.2, fun hf => by have := dk.inside b hf; omega⟩
  · rintro b (hy | hy | hy)
    · exact .inl hy
    · exact .inr (by omega)
    · exact .inr (by omega)
  · exact ((Frm.of_below b2).trans (a4.mono fun b hb => Or.inr hb)).trans (Frm.setCell w' ⟨G, 6, none⟩ v' (.inl rfl))
theorem LgAt.grow {base : Nat} {F : Ft} {G : Nat} {v5 v6 : Value} {Y : Nat → Prop} {V : World} {d : Dk} {g : Lg} (dk : DkAt base F V d) (h : LgAt base F G v5 v6 Y V g) (hbase : base ≤ V.heap.size) (s : List UInt8) {P : List (List (List UInt8))} {c : List (List UInt8)} (hc : grp g.wt = P ++ [c]) (hn : c.length ≤ 100000) :
    ∃ q k u, v6 = .slice (some ⟨q, 0, none⟩) (P.length + 1) k ∧ P.length + 1 ≤ k ∧ k ≤ maxLen ∧ V.cell? ⟨q, P.length, none⟩ = some u ∧ ∀ ty, ∃ u' w', (Builtin.append_ #[31, 31] ty #[u, .slice (some ⟨V.heap.size, 0, none⟩) 1 1]).run Try.prog (V.alloc (.cells #[.string (str s)] 9)) = .ok u' w' ∧
      OG CR.str 9 base w' u' (c ++ [s]) ∧ LgAt base F G v5 v6 Y w' g ∧ Frm Y V w' ∧ w'.frozen? ⟨q, P.length, none⟩ = false ∧ w'.cell? ⟨q, P.length, none⟩ = some u ∧
      (grp (g.wt ++ [s]) = P ++ [c ++ [s]] → ∃ Y' : Nat → Prop, LgAt base F G v5 v6 Y' (w'.setCell ⟨q, P.length, none⟩ u') { g with wt := g.wt ++ [s] } ∧ (∀ b, Y' b → Y b ∨ V.heap.size ≤ b) ∧ Frm (fun b => b = G ∨ Y b) V (w'.setCell ⟨q, P.length, none⟩ u')) := by
  have b1 := (Below.refl V.heap.size V).alloc (Nat.le_refl _) (.cells #[.string (str s)] 9)
  have hs1 : (V.alloc (.cells #[.string (str s)] 9)).heap.size = V.heap.size + 1 := by rw [heap_size_alloc]
  have hq : (V.alloc (.cells #[.string (str s)] 9)).cell? ⟨V.heap.size, 0, none⟩ = some (.string (str s)) := cell_of_row _ _ 0 _ _ _ (heap_alloc_last V (.cells #[.string (str s)] 9))
  have l1 := h.keep b1.size fun b hb' => b1.block b (ow_lt dk h (.inr hb')).2
  have hw := l1.wait
  rw [hc] at hw
  obtain ⟨q, k, u, e0, e1, e2, e3, ha⟩ := hw.grow (fun b hb => (l1.yb b hb).2.1) hq hn (by omega)
  have hkm : k ≤ maxLen := by
    obtain ⟨A, c', e, _, e', _⟩ := l1.wait.rg
    rw [e0] at e
    injection e with _ _ e
    omega
  refine ⟨q, k, u, e0, e1, hkm, (World.cell?_alloc_lt V _ ⟨q, P.length, none⟩ (h.yb q e2).2.1).symm.trans e3, fun ty => ?_⟩
  obtain ⟨u', w', a1, a2, a3, a4, a5, a6, a7, a8⟩ := ha ty
  have hsz := a4.size
  have hgl := h.lt
  have gne : ∀ b, v5.ownBlock = some b → ¬ Y b := fun b hb => (h.rg b hb).2.2
  have fr : Frm Y V w' := (Frm.of_below b1).trans a4
  refine ⟨u', w', a1, a2, ⟨h.gb, h.nf, h.ny, (a4.block G (by omega) l1.ny).trans l1.cells, l1.recs.keepOwn str_flat fun b hb => a4.block b (l1.recs.own_lt hb).2 (gne b hb), h.rg, by rw [hc]; exact a3, fun b hb => ⟨(h.yb b hb).1, by have := (h.yb b hb).2.1; omega, (h.yb b hb).2.2⟩⟩, fr, a6, a7, fun hs => ⟨_, ⟨h.gb, h.nf, ?_, ?_, ?_, ?_, by rw [hs]; exact a8, ?_⟩, ?_, ?_⟩⟩
  · rintro (hy | hy)
    · exact h.ny hy
    · omega
  · have hne : G ≠ q := fun e => h.ny (by rw [e]; exact e2)
    exact (setCell_else w' q P.length u' G hne).trans ((a4.block G (by omega) l1.ny).trans l1.cells)
  · refine l1.recs.keepOwn str_flat fun b hb => ?_
    exact (setCell_else w' q P.length u' b (fun e => gne b hb (by rw [e]; exact e2))).trans (a4.block b (l1.recs.own_lt hb).2 (gne b hb))
  · intro b hb
    refine ⟨(h.rg b hb).1, (h.rg b hb).2.1, ?_⟩
    have := (h.recs.own_lt hb).2
    rintro (hy | hy)
    · exact gne b hb hy
    · omega
  · have hss : (w'.setCell ⟨q, P.length, none⟩ u').heap.size = w'.heap.size := by simp [World.setCell]
    rintro b (hy | hy)
    · exact ⟨(h.yb b hy).1, by have := (h.yb b hy).2.1; omega, (h.yb b hy).2.2⟩
    · exact ⟨by omega, by omega, fun hf => by have := dk.inside b hf; omega⟩
  · rintro b (hy | hy)
    · exact .inl hy
    · exact .inr (by omega)
  · exact (fr.mono fun b hb => Or.inr hb).trans (Frm.setCell w' ⟨q, P.length, none⟩ u' (.inr e2))
theorem Frm.drewDN (X : Nat → Prop) (W : World) (n : Nat) : Frm X W (W.drew.drewN n) := ⟨rfl, rfl, rfl, Nat.le_refl _, fun _ _ _ => rfl⟩
theorem Frm.of_drewN {base : Nat} {F : Ft} {G : Nat} {Z : Nat → Prop} {W : World} {d : Dk} {g : Lg} (h : LW base F G Z W d g) (n : Nat) : Left base F G Z W d g (W.drewN n) :=
  ⟨h.frm (X := fun _ => False) (Frm.drewN _ W n) fun _ hb => hb.elim, Frm.drewN _ W n⟩
set_option maxRecDepth 100000 in
set_option maxHeartbeats 1000000 in
theorem waAdd_any {base : Nat} {F : Ft} {G : Nat} {Z : Nat → Prop} {W : World} {d : Dk} {g : Lg} (h : LW base F G Z W d g) (hbase : base ≤ W.heap.size) (hZ : ∀ b, Z b → b < W.heap.size) (s : List UInt8) (hs : s.length ≤ 1000) (hn : g.wt.length ≤ 500) :
    Calls Try.prog 14 #[.pointer (some ⟨G, 0, none⟩), .string (str s)] W fun e w' => e = .returned (.int .i64 (g.addErr s : Int)) ∧ Left base F G Z W d (g.add s) w' := by
  have hsz := str_size s
  have L0 := Lib.hid (Frm.of_drewN h 0)
  obtain ⟨dk, ok, v5, v6, Y, lg, hz⟩ := h
  have KF := Lib.hid (waFault_any lg)
  by_cases h0 : g.fault ≠ 0
  · obtain ⟨e1, e2, e3⟩ := addErr_bad (s := s) h0
    rw [e2] at KF
    clear h0 e2 lg dk ok hz
    go_enter Try.func14, Try.ntmps14
    go_wp2_with (first | (go_at_call 25; refine KF.out.mono ?_; rintro e w' ⟨rfl, rfl⟩) | fail)
    go_ret
    rw [e1, e3]
    exact ⟨rfl, L0.out⟩
  have h0 : g.fault = 0 := by omega
  rw [h0] at KF
  by_cases hl : 238 < s.length
  · obtain ⟨e1, e3⟩ := addErr_long h0 hl
    clear h0 lg dk ok hz
    go_enter Try.func14, Try.ntmps14
    go_wp2_with (first | (go_at_call 25; refine KF.out.mono ?_; rintro e w' ⟨rfl, rfl⟩) | fail)
    go_ret
    rw [e1, e3]
    exact ⟨rfl, L0.out⟩
  have TAIL : Hid (∀ V, LgAt base F G v5 v6 Y V g → DkAt base F V d → base ≤ V.heap.size → Frm Y W V → grp (g.wt ++ [s]) = grp g.wt ++ [[s]] → g.addErr s = 0 → ∀ ty, ∃ v' w', (Builtin.append_ #[56, 56] ty #[v6, .slice (some ⟨V.heap.size + 1, 0, none⟩) 1 1]).run Try.prog ((V.alloc (.cells #[.string (str s)] 9)).alloc (.cells #[.slice (some ⟨V.heap.size, 0, none⟩) 1 1] 31)) = .ok v' w' ∧
      w'.cell? ⟨G, 6, none⟩ = some v6 ∧ w'.frozen? ⟨G, 6, none⟩ = false ∧ (∃ A n c, v' = .slice A n c) ∧ Left base F G Z W d (g.add s) (w'.setCell ⟨G, 6, none⟩ v')) := by
    refine Lib.hid fun V l k hb fr hg he ty => ?_
    obtain ⟨v', w', a1, a2, a3, a4, ⟨Y', a5, a6⟩, a7⟩ := l.push k hb s ty (by have := grp_len g.wt; omega) hg
    have hadd : g.add s = { g with wt := g.wt ++ [s] } := by unfold Lg.add; rw [if_pos he]
    refine ⟨v', w', a1, a2, a3, a4, ?_⟩
    have ok' := ok.add s
    rw [hadd] at ok' ⊢
    exact lg.left dk ok' hz hZ a5 (fun b hb => (a6 b hb).imp id fun h => Nat.le_trans fr.size h) ((fr.mono fun b hb => Or.inr hb).trans a7)
  have LFT : Hid (∀ V, LgAt base F G v5 v6 Y V g → Calls Try.prog 21 #[.pointer (some ⟨G, 0, none⟩)] V fun e w' => e = .returned (.int .i64 (g.left : Int)) ∧ (∃ n, w' = V.drewN n)) := Lib.hid fun V l => waLeft_any l ok
  have hgl := grp_len g.wt
  by_cases hw : g.wt = []
  · have hg0 : grp g.wt = [] := by rw [hw, grp_nil]
    have hg1 : grp (g.wt ++ [s]) = grp g.wt ++ [[s]] := by rw [hg0, hw]; exact grp_single s
    have hv6 : v6 = .slice none 0 0 := by
      have := lg.wait
      rw [hg0] at this
      rcases this with ⟨_, e⟩ | ⟨_, _, _, _, _, e, _⟩
      · exact e
      · simp at e
    subst hv6
    have c6 := lg.c6
    have cc : W.drew.cell? ⟨G, 6, none⟩ = some (.slice none 0 0) := c6
    have LGN := Lib.hid (show ∀ n, LgAt base F G v5 (.slice none 0 0) Y (W.drewN n) g from fun n => lg.keep (Nat.le_refl _) fun _ _ => rfl)
    have LGD := Lib.hid (show LgAt base F G v5 (.slice none 0 0) Y W.drew g from lg.keep (Nat.le_refl _) fun _ _ => rfl)
    have DKN := Lib.hid (show ∀ n, DkAt base F (W.drewN n) d from fun n => dk.frm (X := fun _ => False) (Frm.drewN _ W n) fun _ _ => id)
    have FRN := Lib.hid (show ∀ n, Frm Y W (W.drewN n) from fun n => Frm.drewN Y W n)
    have FULL := Lib.hid (show ∀ n, Left base F G Z W d g (W.drewN n) from fun n => ⟨LW.frm ⟨dk, ok, _, _, _, lg, hz⟩ (X := fun _ => False) (Frm.drewN _ W n) fun _ hb => hb.elim, Frm.drewN _ W n⟩)
    have BASE := Lib.hid hbase
    have hl0 : (grp g.wt).length = 0 := by rw [hg0]; rfl
    have FITS := Lib.hid (show (grp g.wt).length + 1 ≤ g.left ∨ g.left = 0 from by omega)
    have HK := Lib.hid hg1
    clear lg dk ok hz hbase hw L0
    by_cases hq : g.left = 0
    · obtain ⟨e1, e3⟩ := addErr_full h0 hl (by rw [HK.out, List.length_append, List.length_singleton]; omega)
      rw [hq] at LFT
      clear hq FITS hl0
      go_enter Try.func14, Try.ntmps14
      go_wp2_with (first | (go_at_call 25; refine KF.out.mono ?_; rintro e w1 ⟨rfl, rfl⟩) | fail)
      go_region_held3 (fun V => V.cell? ⟨G, 6, none⟩ = some (.slice none 0 0)) (first | with_reducible assumption | with_reducible exact cc | with_reducible exact cn | fail)
        (first
          | (go_at_call 21; refine (LFT.out _ LGD.out).mono ?_; rintro e w3 ⟨rfl, n3, rfl⟩; have cn := (LGN.out (1 + n3)).c6)
          | fail)
      all_goals
        clear cc cn
        go_wp2
        go_ret
        rw [e1, e3]
        exact ⟨rfl, FULL.out (1 + n3)⟩
    · obtain ⟨e1, e3⟩ := addErr_ok h0 hl (by rw [HK.out, List.length_append, List.length_singleton]; have := FITS.out; omega)
      have hqI : ¬ (0 : Int) = (g.left : Int) := by omega
      go_enter Try.func14, Try.ntmps14
      go_wp2_with (first | (go_at_call 25; refine KF.out.mono ?_; rintro e w1 ⟨rfl, rfl⟩) | fail)
      go_region_held3 (fun V => V.cell? ⟨G, 6, none⟩ = some (.slice none 0 0)) (first | with_reducible assumption | with_reducible exact cc | with_reducible exact cn | fail)
        (first
          | (go_at_call 21; refine (LFT.out _ LGD.out).mono ?_; rintro e w3 ⟨rfl, n3, rfl⟩; have cn := (LGN.out (1 + n3)).c6; have TL := Lib.hid (TAIL.out _ (LGN.out (1 + n3)) (DKN.out (1 + n3)) BASE.out (FRN.out (1 + n3)) HK.out e1))
          | fail)
      all_goals
        clear cc
        go_wp2_with (at_builtin; (refine wpList_append_of rfl _ _ rfl _ _ rfl rfl (TL.out _) ?_; rintro v4 w4 ⟨c64, f64, ⟨A4, m4, k4, rfl⟩, lf⟩; have LF := Lib.hid lf; clear lf cn))
        go_ret
        rw [e1]
        exact ⟨rfl, LF.out⟩
  · obtain ⟨P, c, q1, q2, q3, q4⟩ := grp_snoc s g.wt hw
    have hfl := grp_flat g.wt
    rw [q1] at hfl
    have hcl : c.length ≤ g.wt.length := by rw [← hfl]; simp
    have hPl : P.length + 1 ≤ 500 := by rw [q1] at hgl; simp at hgl; omega
    have hct : ∀ t ∈ c ++ [s], t.length ≤ 1000 := fun t ht => by
      rcases List.mem_append.1 ht with ht | ht
      · have := ok.small t (by rw [← hfl]; simp [ht])
        omega
      · simp at ht
        rw [ht]
        exact hs
    have hlen : (c ++ [s]).length = c.length + 1 := by simp
    obtain ⟨q, k, u, rfl, hk, hkm, cu, gr⟩ := lg.grow dk hbase s q1 (by omega)
    have GR := Lib.hid gr
    have hkI : ((P.length : Int) + 1) ≤ 9223372036854775807 := by omega
    have hone := lgGrp_one s q2 q3
    have KP0 := Lib.hid (show ∀ u' w', OG CR.str 9 base w' u' (c ++ [s]) → ∀ A n k, u' = .slice A n k → Calls Try.prog 32 #[.slice A n k] w' fun x w'' => x = .returned (.int .i64 ((grp (c ++ [s])).length : Int)) ∧ w' = w'' from fun u' w' ho A n k e => by
      obtain ⟨A', k', e', h1, h2, h3, _⟩ := ho.rg
      rw [e'] at e
      injection e with e1 e2 e3
      subst e1 e2 e3
      exact parts_any A' _ k' (c ++ [s]) w' rfl (by omega) h1 h2 hct h3.rs)
    rw [hone] at KP0
    have hcell := lg.c6
    by_cases h9 : 239 < wsSize c + (s.length + 1)
    · rw [if_pos h9] at KP0 q4
      have LGM := Lib.hid (show ∀ (u' : Value) (w' : World), LgAt base F G v5 (.slice (some ⟨q, 0, none⟩) (P.length + 1) k) Y w' g → Frm Y W w' → ∀ n, LgAt base F G v5 (.slice (some ⟨q, 0, none⟩) (P.length + 1) k) Y (w'.drewN n) g ∧ DkAt base F (w'.drewN n) d ∧ Frm Y W (w'.drewN n) ∧ Left base F G Z W d g (w'.drewN n) ∧ base ≤ (w'.drewN n).heap.size from fun u' w' l1 fr n => by
        have fr2 : Frm Y W (w'.drewN n) := fr.trans (Frm.drewN Y w' n)
        have l2 : LgAt base F G v5 (.slice (some ⟨q, 0, none⟩) (P.length + 1) k) Y (w'.drewN n) g := l1.keep (Nat.le_refl _) fun _ _ => rfl
        exact ⟨l2, dk.frm fr2 fun b hb hy => (lg.yb b hy).2.2 hb, fr2, lg.left dk ok hz hZ l2 (fun b hb => .inl hb) (fr2.mono fun b hb => Or.inr hb), Nat.le_trans hbase fr2.size⟩)
      by_cases hq : g.left = P.length + 1
      · obtain ⟨e1, e3⟩ := addErr_full (s := s) h0 hl (by rw [q4]; simp; omega)
        rw [hq] at LFT
        have HE1 := Lib.hid e1
        have HE3 := Lib.hid e3
        clear lg dk ok hz hbase hw L0 TAIL gr hct q1 q2 q3 q4 hfl h9 hone hcl hlen e1 e3 hgl hn hs hkm hq hk hkI
        generalize P.length = p at *
        go_enter Try.func14, Try.ntmps14
        go_upto_region 8 with (first | (go_at_call 25; refine KF.out.mono ?_; rintro e w0 ⟨rfl, rfl⟩) | fail)
        go_upto_region 9 with (at_builtin; (refine wpList_append_of rfl _ _ rfl _ _ rfl rfl (GR.out _) ?_; rintro u1 w1 ⟨ou, l1, fr1, fz1, cu1, hst⟩; have KP := Lib.hid (KP0.out u1 w1 ou); have LGN := Lib.hid (LGM.out u1 w1 l1 fr1); obtain ⟨A1, k1, rfl, _⟩ := ou.rg; clear ou l1 hst fr1 fz1 cu1))
        go_wp2_with (first | (go_at_call 32; refine (KP.out _ _ _ (by simp)).mono ?_; rintro e w2 ⟨rfl, rfl⟩) | fail)
        have cc : w1.drew.cell? ⟨G, 6, none⟩ = some (.slice (some ⟨q, 0, none⟩) (p + 1) k) := (LGN.out 1).1.c6
        go_region_held3 (fun V => V.cell? ⟨G, 6, none⟩ = some (.slice (some ⟨q, 0, none⟩) (p + 1) k)) (first | with_reducible assumption | with_reducible exact cc | with_reducible exact cn | fail)
          (first
            | (go_at_call 21; refine (LFT.out _ (LGN.out 1).1).mono ?_; rintro e w3 ⟨rfl, n3, rfl⟩; have cn := (LGN.out (1 + n3)).1.c6)
            | fail)
        all_goals
          clear cc cn
          go_wp2
          go_ret
          rw [HE1.out, HE3.out]
          exact ⟨rfl, (LGN.out (1 + n3)).2.2.2.1⟩
      · obtain ⟨e1, e3⟩ := addErr_ok (s := s) h0 hl (by
          have hcf : g.closed = false := by
            unfold Lg.fault at h0
            split at h0
            · cases h0
            · rename_i hb
              cases e : g.closed with
              | false => rfl
              | true => exact absurd (.inr e) hb
          have := ok.fits hcf
          have e : g.left = g.count - g.written := by unfold Lg.left; rw [if_neg (by rw [hcf]; simp)]
          rw [q4]
          rw [q1] at this
          simp at this ⊢
          omega)
        have HE1 := Lib.hid e1
        have hg1 : grp (g.wt ++ [s]) = grp g.wt ++ [[s]] := by rw [q4, q1]
        have TL0 := Lib.hid (fun V l k' hb fr => TAIL.out V l k' hb fr hg1 e1)
        have hqI : ¬ ((P.length : Int) + 1 = (g.left : Int)) := by omega
        clear lg dk ok hz hbase hw L0 TAIL gr hct q1 q2 q3 q4 hfl h9 hone hcl hlen e1 e3 hgl hn hs hkm hq hk hkI hg1
        generalize P.length = p at *
        generalize g.left = lf at *
        go_enter Try.func14, Try.ntmps14
        go_upto_region 8 with (first | (go_at_call 25; refine KF.out.mono ?_; rintro e w0 ⟨rfl, rfl⟩) | fail)
        go_upto_region 9 with (at_builtin; (refine wpList_append_of rfl _ _ rfl _ _ rfl rfl (GR.out _) ?_; rintro u1 w1 ⟨ou, l1, fr1, fz1, cu1, hst⟩; have KP := Lib.hid (KP0.out u1 w1 ou); have LGN := Lib.hid (LGM.out u1 w1 l1 fr1); obtain ⟨A1, k1, rfl, _⟩ := ou.rg; clear ou l1 hst fr1 fz1 cu1))
        go_wp2_with (first | (go_at_call 32; refine (KP.out _ _ _ (by simp)).mono ?_; rintro e w2 ⟨rfl, rfl⟩) | fail)
        have cc : w1.drew.cell? ⟨G, 6, none⟩ = some (.slice (some ⟨q, 0, none⟩) (p + 1) k) := (LGN.out 1).1.c6
        go_region_held3 (fun V => V.cell? ⟨G, 6, none⟩ = some (.slice (some ⟨q, 0, none⟩) (p + 1) k)) (first | with_reducible assumption | with_reducible exact cc | with_reducible exact cn | fail)
          (first
            | (go_at_call 21; refine (LFT.out _ (LGN.out 1).1).mono ?_; rintro e w3 ⟨rfl, n3, rfl⟩; have cn := (LGN.out (1 + n3)).1.c6; have TL := Lib.hid (TL0.out _ (LGN.out (1 + n3)).1 (LGN.out (1 + n3)).2.1 (LGN.out (1 + n3)).2.2.2.2 (LGN.out (1 + n3)).2.2.1))
            | fail)
        all_goals
          clear cc
          go_wp2_with (at_builtin; (refine wpList_append_of rfl _ _ rfl _ _ rfl rfl (TL.out _) ?_; rintro v4 w4 ⟨c64, f64, ⟨A4, m4, k4, rfl⟩, lf⟩; have LF := Lib.hid lf; clear lf cn))
          go_ret
          rw [HE1.out]
          exact ⟨rfl, LF.out⟩
    · rw [if_neg h9] at KP0 q4
      have hcf : g.closed = false := by
        unfold Lg.fault at h0
        split at h0
        · cases h0
        · rename_i hb
          cases e : g.closed with
          | false => rfl
          | true => exact absurd (.inr e) hb
      obtain ⟨e1, e3⟩ := addErr_ok (s := s) h0 hl (by
        have := ok.fits hcf
        have e : g.left = g.count - g.written := by unfold Lg.left; rw [if_neg (by rw [hcf]; simp)]
        rw [q4]
        rw [q1] at this
        simp at this ⊢
        omega)
      have FIN0 := Lib.hid (show ∀ (u' : Value) (w' : World), Frm Y W w' → (grp (g.wt ++ [s]) = P ++ [c ++ [s]] → ∃ Y' : Nat → Prop, LgAt base F G v5 (.slice (some ⟨q, 0, none⟩) (P.length + 1) k) Y' (w'.setCell ⟨q, P.length, none⟩ u') { g with wt := g.wt ++ [s] } ∧ (∀ b, Y' b → Y b ∨ W.heap.size ≤ b) ∧ Frm (fun b => b = G ∨ Y b) W (w'.setCell ⟨q, P.length, none⟩ u')) → Left base F G Z W d (g.add s) (w'.setCell ⟨q, P.length, none⟩ u') from fun u' w' _ hst => by
        obtain ⟨Y', a5, a6, a7⟩ := hst q4
        have ok' := ok.add s
        rw [e3] at ok' ⊢
        exact lg.left dk ok' hz hZ a5 a6 a7)
      clear lg dk ok hz hbase hw L0 LFT TAIL gr hct q1 q2 q3 q4 hfl h9 hone hcl hlen e3 hgl hn hs hkm
      generalize P.length = p at *
      have HE1 := Lib.hid e1
      clear e1 hcf hk hkI
      go_enter Try.func14, Try.ntmps14
      go_upto_region 8 with (first | (go_at_call 25; refine KF.out.mono ?_; rintro e w0 ⟨rfl, rfl⟩) | fail)
      go_upto_region 9 with (at_builtin; (refine wpList_append_of rfl _ _ rfl _ _ rfl rfl (GR.out _) ?_; rintro u1 w1 ⟨ou, l1, fr1, fz1, cu1, hst⟩; have FIN := Lib.hid (FIN0.out u1 w1 fr1 hst); have KP := Lib.hid (KP0.out u1 w1 ou); obtain ⟨A1, k1, rfl, _⟩ := ou.rg; have c61 := l1.c6; have LG1 := Lib.hid l1; have FR1 := Lib.hid fr1; clear ou l1 hst))
      go_wp2_with (first | (go_at_call 32; refine (KP.out _ _ _ (by simp)).mono ?_; rintro e w2 ⟨rfl, rfl⟩) | fail)
      go_ret
      rw [HE1.out]
      have F2 := FIN.out
      rw [List.length_append, List.length_singleton] at F2
      exact ⟨rfl, F2⟩
end Go.Proofs.Ytochifbbefbehaa
