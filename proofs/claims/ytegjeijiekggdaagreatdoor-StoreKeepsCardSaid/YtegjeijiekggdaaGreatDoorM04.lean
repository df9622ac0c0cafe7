/- Joined: ScC ScM ScD. -/
import Derived.Test.YtegjeijiekggdaaGreatDoorM02
import Derived.StillTailTactics
section
/- The package sector: a change that is counted, and done unless the power fails ahead of it. -/
namespace Go.Proofs.YtegjeijiekggdaaGreatDoor
open Go.RowKit
set_option linter.unusedVariables false

/-- What a call leaves, of which upd is the change. -/
def Dk.call (s : Dk) (upd : Dk → Dk) : Dk :=
  if s.fset = true ∧ s.left = 0 then { (if s.done = true then upd { s with calls := s.calls + 1 } else { s with calls := s.calls + 1 }) with off := true }
  else upd { s with calls := s.calls + 1, left := if s.fset = true then s.left - 1 else s.left }
def Dk.callErr (s : Dk) : Nat := if s.fset = true ∧ s.left = 0 then 8 else 0

set_option maxHeartbeats 1000000 in
theorem call_any {base : Nat} {F : Ft} {w : World} {s : Dk} (h : DkAt base F w s) (hcalls : s.calls < 4611686018427387904) (f : Nat) (cap : Array Value) (eg : ∀ args w, (callFunc f args).run Tryz.prog w = .ok (.enter f args) w)
    (X : Nat → Prop) (hX : X F.b) (upd : Dk → Dk)
    (hch : ∀ W t, Frm X w W → DkAt base F W t → t.rows = s.rows → t.wt = s.wt → t.calls = s.calls + 1 → Calls Tryz.prog f cap W fun e W' => e = .returned (.tuple #[]) ∧ DkAt base F W' (upd t) ∧ Frm X W W') :
    Calls Tryz.prog 139 #[.pointer (some ⟨F.b, 0, none⟩), .func (.func f) #[] cap] w fun e w' => e = .returned (.int .i64 (s.callErr : Int)) ∧ DkAt base F w' (s.call upd) ∧ Frm X w w' := by
  have c2 := h.c2; have c4 := h.c4; have c5 := h.c5; have c6 := h.c6
  have f2 := h.frozenAt 2; have f3 := h.frozenAt 3; have f5 := h.frozenAt 5
  have h1 : DkAt base F (w.setCell ⟨F.b, 2, none⟩ (.int .i64 ((s.calls : Int) + 1))) { s with calls := s.calls + 1 } := h.field 2 _ rfl rfl (by simp [dkCells]) h.ok.left
  have F1 : Frm X w (w.setCell ⟨F.b, 2, none⟩ (.int .i64 ((s.calls : Int) + 1))) := Frm.setCell _ _ _ hX
  have hc0 : 0 ≤ (s.calls : Int) := by omega
  have hc1 : (s.calls : Int) ≤ 4611686018427387904 := by omega
  have hl0 : 0 ≤ (s.left : Int) := by omega
  have hl1 : (s.left : Int) ≤ 9223372036854775807 := by have := h.ok.left; omega
  by_cases hb : s.fset = true
  · by_cases hz : s.left = 0
    · by_cases hd : s.done = true
      · have HC := Lib.hid (show s.call upd = { upd { s with calls := s.calls + 1 } with off := true } from by unfold Dk.call; rw [if_pos ⟨hb, hz⟩, if_pos hd])
        have HE := Lib.hid (show s.callErr = 8 from by unfold Dk.callErr; rw [if_pos ⟨hb, hz⟩])
        have Hch := Lib.hid (hch _ _ F1 h1 rfl rfl rfl)
        rw [hb] at c4; rw [hz] at c5; rw [hd] at c6
        have H := Lib.hid h
        have H1 := Lib.hid h1
        clear h h1 hch hb hz hd hl0 hl1
        go_enter Tryz.func139, Tryz.ntmps139
        go_wp2_with fail
        refine Hch.out.mono ?_
        rintro e w2 ⟨rfl, h2, F2⟩
        have c3' := h2.c3
        have f3' := h2.frozenAt 3
        go_wp2
        go_ret
        refine ⟨by rw [HE.out]; rfl, ?_, F1.trans (F2.trans (Frm.setCell _ _ _ hX))⟩
        rw [HC.out]
        exact h2.field 3 _ rfl rfl (by simp [dkCells]) h2.ok.left
      · have HC := Lib.hid (show s.call upd = { s with calls := s.calls + 1, off := true } from by unfold Dk.call; rw [if_pos ⟨hb, hz⟩, if_neg hd])
        have HE := Lib.hid (show s.callErr = 8 from by unfold Dk.callErr; rw [if_pos ⟨hb, hz⟩])
        rw [hb] at c4; rw [hz] at c5; rw [Bool.eq_false_iff.2 hd] at c6
        have c3 := h.c3
        have H1 := Lib.hid h1
        clear h h1 hch hb hz hd hl0 hl1
        go_enter Tryz.func139, Tryz.ntmps139
        go_wp2
        go_ret
        refine ⟨by rw [HE.out]; rfl, ?_, F1.trans (Frm.setCell _ _ _ hX)⟩
        rw [HC.out]
        exact H1.out.field 3 _ rfl rfl (by simp [dkCells]) H1.out.ok.left
    · have HC := Lib.hid (show s.call upd = upd { s with calls := s.calls + 1, left := s.left - 1 } from by unfold Dk.call; rw [if_neg (fun x => hz x.2), if_pos hb])
      have HE := Lib.hid (show s.callErr = 0 from by unfold Dk.callErr; rw [if_neg (fun x => hz x.2)])
      have h2 : DkAt base F ((w.setCell ⟨F.b, 2, none⟩ (.int .i64 ((s.calls : Int) + 1))).setCell ⟨F.b, 5, none⟩ (.int .i64 ((s.left : Int) - 1))) { s with calls := s.calls + 1, left := s.left - 1 } :=
        h1.field 5 _ rfl rfl (by simp [dkCells]; omega) (by have := h.ok.left; show s.left - 1 ≤ _; omega)
      have Hch := Lib.hid (hch _ _ (F1.trans (Frm.setCell _ _ _ hX)) h2 rfl rfl rfl)
      have hz' : ((s.left : Int) == 0) = false := by simp; omega
      have hz'' : 1 ≤ (s.left : Int) := by omega
      rw [hb] at c4
      clear h h1 h2 hch hb hz
      go_enter Tryz.func139, Tryz.ntmps139
      go_wp2_with fail
      refine Hch.out.mono ?_
      rintro e w2 ⟨rfl, h2, F2⟩
      go_wp2
      go_ret
      refine ⟨by rw [HE.out]; rfl, ?_, (F1.trans (Frm.setCell _ _ _ hX)).trans F2⟩
      rw [HC.out]
      exact h2
  · have HC := Lib.hid (show s.call upd = upd { s with calls := s.calls + 1 } from by unfold Dk.call; rw [if_neg (fun x => hb x.1), if_neg hb])
    have HE := Lib.hid (show s.callErr = 0 from by unfold Dk.callErr; rw [if_neg (fun x => hb x.1)])
    have Hch := Lib.hid (hch _ _ F1 h1 rfl rfl rfl)
    rw [Bool.eq_false_iff.2 hb] at c4
    clear h h1 hch hb
    go_enter Tryz.func139, Tryz.ntmps139
    go_wp2_with fail
    refine Hch.out.mono ?_
    rintro e w2 ⟨rfl, h2, F2⟩
    go_wp2
    go_ret
    refine ⟨by rw [HE.out]; rfl, ?_, F1.trans F2⟩
    rw [HC.out]
    exact h2
end Go.Proofs.YtegjeijiekggdaaGreatDoor
end
section
/- The package sector: the map of what waits, in plain words. -/
namespace Go.Proofs.YtegjeijiekggdaaGreatDoor
open Go.RowKit Go.Maps
set_option linter.unusedVariables false

/-- The numbers below N at which f has something, rising. -/
def keysOf (f : Nat → Option (List UInt8)) (N : Nat) : List Nat := (List.range N).filter fun k => (f k).isSome
theorem mem_keysOf {f : Nat → Option (List UInt8)} {N k : Nat} : k ∈ keysOf f N ↔ k < N ∧ (f k).isSome = true := by simp [keysOf]
theorem keysOf_length (f : Nat → Option (List UInt8)) (N : Nat) : (keysOf f N).length ≤ N := by
  have := List.length_filter_le (fun k => (f k).isSome) (List.range N)
  simpa [keysOf] using this
theorem keysOf_sorted (f : Nat → Option (List UInt8)) (N : Nat) : (keysOf f N).Pairwise (· < ·) := List.Pairwise.filter _ List.pairwise_lt_range
theorem nodup_map_cast {l : List Nat} (h : l.Nodup) : (l.map fun k : Nat => (k : Int)).Nodup := by
  refine List.pairwise_map.2 (h.imp fun {a b} hne e => hne ?_)
  exact_mod_cast e
theorem sorted_cast {l : List Nat} (h : l.Pairwise (· < ·)) : (l.map fun k : Nat => (k : Int)).mergeSort leI = l.map fun k : Nat => (k : Int) := by
  have tr : ∀ a b c : Int, leI a b = true → leI b c = true → leI a c = true := fun a b c h1 h2 => by simp only [leI, decide_eq_true_eq] at *; exact Int.le_trans h1 h2
  have to : ∀ a b : Int, (leI a b || leI b a) = true := fun a b => by simp only [leI, Bool.or_eq_true, decide_eq_true_eq]; exact Int.le_total a b
  refine List.Perm.eq_of_pairwise (le := fun a b => leI a b = true) (fun a b _ _ h1 h2 => ?_) (List.pairwise_mergeSort tr to _) ?_ (List.mergeSort_perm _ leI)
  · simp only [leI, decide_eq_true_eq] at h1 h2
    exact Int.le_antisymm h1 h2
  · refine List.pairwise_map.2 (h.imp fun {a b} hlt => ?_)
    simp only [leI, decide_eq_true_eq]
    omega

/-- A map, opened: as few entries as there are numbers below N, its keys, what they have. -/
structure MapOpen (w : World) (m : Nat) (f : Nat → Option (List UInt8)) (N : Nat) (n : Nat) (D : DataW Unit) : Prop where
  owns : w.ownsMap (H := Unit) Tryz.prog 3 secR m n D
  few : n ≤ N
  size : Maps.size D ≤ N
  has : ∀ k : Nat, Maps.has D (.int .i64 (k : Int)) = (f k).isSome
  neg : ∀ k : Int, k < 0 → Maps.has D (.int .i64 k) = false
  at_ : ∀ k l, f k = some l → ∀ zd, D.atKey (.int .i64 (k : Int)) zd = .lit (.string l)
  perm : ((keysOf f N).map fun k : Nat => (k : Int)).Perm (intKeys D)
theorem MapIs.open_ {w : World} {m : Nat} {f : Nat → Option (List UInt8)} (h : MapIs w m f) {N : Nat} (hN : ∀ k l, f k = some l → k < N) : ∃ n D, MapOpen w m f N n D := by
  obtain ⟨n, D, ho, hh, hneg, hat⟩ := h
  have K := int_keyed (P := Tryz.prog) (k := 3) Tryz.underlying3
  obtain ⟨es, rfl, hp, hk⟩ := ho.entries K
  have hkey : ∀ p ∈ es, ∃ x, p.1 = .int .i64 x := by
    obtain ⟨es', e, hk'⟩ := ho.keysOf
    injection e with e
    subst e
    intro p hp
    obtain ⟨v, hv⟩ := hk' p hp
    obtain ⟨x, _, e, _⟩ := Maps.keyOf_i64 Tryz.underlying3 hv
    exact ⟨x, e⟩
  have hperm : ((keysOf f N).map fun k : Nat => (k : Int)).Perm (intKeys (.map es)) := by
    refine perm_intKeys hp hkey (nodup_map_cast ((keysOf_sorted f N).imp fun {a b} hlt => Nat.ne_of_lt hlt)) fun x => ?_
    constructor
    · intro hx
      obtain ⟨k, hk, rfl⟩ := List.mem_map.1 hx
      rw [hh k]
      exact (mem_keysOf.1 hk).2
    · intro hx
      by_cases h0 : x < 0
      · rw [hneg x h0] at hx; cases hx
      · obtain ⟨k, rfl⟩ := Int.eq_ofNat_of_zero_le (show 0 ≤ x by omega)
        rw [hh k] at hx
        obtain ⟨l, hl⟩ := Option.isSome_iff_exists.1 hx
        exact List.mem_map.2 ⟨k, mem_keysOf.2 ⟨hN k l hl, hx⟩, rfl⟩
  have hlen : es.length ≤ N := by
    have h1 := hperm.length_eq
    have h2 : (intKeys (.map es : DataW Unit)).length = es.length := by simp [intKeys]
    have h3 := keysOf_length f N
    simp only [List.length_map] at h1
    omega
  obtain ⟨es0, clock, hb, Ft, hs, hD⟩ := ho
  refine ⟨es0.size, .map es, ⟨es0, clock, hb, Ft, Nat.le_refl _, hD⟩, ?_, hlen, hh, hneg, hat, hperm⟩
  injection hD with hD
  have : es.length = es0.size := by rw [hD, length_sorted]; simp
  omega
theorem keyLit (k : Int) : WideAt.IsKeyLit (.int .i64 k) := trivial
theorem MapOpen.put {w w' : World} {m : Nat} {f : Nat → Option (List UInt8)} {N n n' : Nat} {D : DataW Unit} (h : MapOpen w m f N n D) (k : Nat) (l : List UInt8) (ho : w'.ownsMap (H := Unit) Tryz.prog 3 secR m n' (D.put (.int .i64 (k : Int)) (.lit (.string l)))) :
    MapIs w' m (fun i => if i = k then some l else f i) := by
  have hm : IsMap D := h.owns.isMap
  refine ⟨n', _, ho, fun i => ?_, fun i hi => ?_, fun i r hr zd => ?_⟩
  · show _ = (if i = k then some l else f i).isSome
    by_cases e : i = k
    · subst e; rw [if_pos rfl, has_put_same hm (keyLit _)]; rfl
    · rw [if_neg e, has_put_other (by simp; omega), h.has i]
  · rw [has_put_other (by simp; omega), h.neg i hi]
  · have hr : (if i = k then some l else f i) = some r := hr
    by_cases e : i = k
    · subst e
      rw [if_pos rfl] at hr
      injection hr with hr
      subst hr
      exact atKey_put_same hm (keyLit _) _ _
    · rw [if_neg e] at hr
      rw [atKey_put_other (by simp; omega)]
      exact h.at_ i r hr zd
theorem MapIs.cleared {w : World} {m : Nat} {f : Nat → Option (List UInt8)} (h : MapIs w m f) (ty : TypeId) :
    ∃ w', (Builtin.clear_ #[95] ty #[.map (some m)]).run Tryz.prog w = .ok (.tuple #[]) w' ∧ MapIs w' m (fun _ => none) ∧ w.grownBy w' (some m) := by
  obtain ⟨n, D, ⟨es, clock, hb, Ft, hs, hD⟩, _⟩ := h
  refine ⟨ChangeMaps.setBlock w m (.map #[] clock), ?_, ⟨0, .map [], ⟨#[], clock, ChangeMaps.heap_setBlock_same hb _, ⟨by simp, MapKept.stamped_empty clock, by simp⟩, Nat.le_refl _, rfl⟩, fun k => rfl, fun k _ => rfl, fun k l h => by cases h⟩,
    ⟨rfl, rfl, rfl, by simp [ChangeMaps.setBlock], fun i _ hi => ChangeMaps.heap_setBlock_other hb _ (fun e => hi (by rw [e]))⟩⟩
  simp [Builtin.clear_, run_underlying Tryz.underlying95, MapKept.run_getObj_map hb, MapKept.run_setObj_map _ hb, Result.andThen, ChangeMaps.setBlock]
end Go.Proofs.YtegjeijiekggdaaGreatDoor
end
section
/- The package sector: the change of Write. -/
namespace Go.Proofs.YtegjeijiekggdaaGreatDoor
open Go.RowKit
set_option linter.unusedVariables false
def Dk.put (s : Dk) (n : Nat) (l : List UInt8) : Dk := { s with wt := fun k => if k = n then some l else s.wt k }
theorem wpStill_load_mid {P : Program} {ops : Array Oper} {w : World} {Q : Act → Prop} {a : Act} {o : Oper} {rest : List Oper} (hgd : o.guard = none) (ty : TypeId) (x : Operand) (ho : o.op = .load ty x)
    (b off : Nat) (hx : a.eval x = .pointer (some ⟨b, off, none⟩)) (cs : List Value) (d : TypeDesc) (hc : w.rangeAt b off cs) (hu : P.underlying ty = some d) (hd : d.isRow = true) (hi : (P.info? ty).map (·.size) = some cs.length)
    (h : wpStill P ops w Q rest (a.put o.dst (.agg cs.toArray))) : wpStill P ops w Q (o :: rest) a := by
  refine wpStill_step fun K hK => ?_
  have hw : Region.wanted o (yielded ops a.tmps) = true := by simp [Region.wanted, hgd]
  rw [if_pos hw]
  unfold Oper.still execOp
  simp only [ho, hx, Instr.loadAt, Instr.sureAddr, Sem.run_bind, Sem.run_pure, Result.andThen_ok, run_loadVar_mid w b off ty cs d hc hu hd hi]
  exact ⟨rfl, hK _ h⟩
theorem range_of_heap {w : World} {g : Nat} {cs : List Value} {t : TypeId} {fr : Nat × Nat} (h : w.heap[g]? = some (.cells cs.toArray t fr)) : w.rangeAt g 0 cs := fun j v hv => by
  rw [cell_of_row w g (0 + j) cs.toArray t fr h]
  simpa using hv
theorem splice_all {a b : List Value} (h : a.length = b.length) : splice a 0 b = b := by
  simp [splice, ← h]
theorem zeroSec_len : Tryz.zeroCells102.toList.length = 256 := by kernel_rfl
theorem infoSec : (Tryz.prog.info? 102).map (·.size) = some 256 := by kernel_rfl
theorem DkAt.put {base : Nat} {F : Ft} {w w' : World} {s : Dk} (h : DkAt base F w s) {n : Nat} {l : List UInt8} (hn : n < s.rows.length) (hl : l.length = 256) (hm : MapIs w' F.m (fun i => if i = n then some l else s.wt i)) (hf : Frm (fun k => k = F.m) w w') : DkAt base F w' (s.put n l) := by
  refine ⟨⟨h.ok.many, h.ok.each, fun k r hr => ?_, fun k r hr => ?_, h.ok.left⟩, h.bb, h.bm, (hf.block _ h.blt (fun e => h.bm_ne e.symm)).trans h.cells, ownsRow_of_block h.row fun g e => hf.block g ?_ (h.mg_ne e), hm⟩
  · have hr : (if k = n then some l else s.wt k) = some r := hr
    split at hr
    · rename_i e; subst e; exact hn
    · exact h.ok.wlt k r hr
  · have hr : (if k = n then some l else s.wt k) = some r := hr
    split at hr
    · injection hr with hr; subst hr; exact hl
    · exact h.ok.wlen k r hr
  · exact h.inside g (.inr (.inr ⟨_, e, rfl⟩))
set_option maxHeartbeats 1000000 in
set_option maxRecDepth 100000 in
theorem write1_any {base : Nat} {F : Ft} {w : World} {s : Dk} (h : DkAt base F w s) (B0 B1 B2 : Nat) (A : Option Addr) (c : Nat) (l : List UInt8) (n : Nat) (hl : l.length = 256) (hn : n < s.rows.length)
    (b0 : w.cell? ⟨B0, 0, none⟩ = some (.slice A 256 c)) (b1 : w.cell? ⟨B1, 0, none⟩ = some (.pointer (some ⟨F.b, 0, none⟩))) (b2 : w.cell? ⟨B2, 0, none⟩ = some (.int .i64 (n : Int))) (hr : RB w A l) :
    Calls Tryz.prog 142 #[.pointer (some ⟨B0, 0, none⟩), .pointer (some ⟨B1, 0, none⟩), .pointer (some ⟨B2, 0, none⟩)] w fun e w' => e = .returned (.tuple #[]) ∧ DkAt base F w' (s.put n l) ∧ Frm (fun k => k = F.m) w w' := by
  have c1 := h.c1
  have g0 := World.block_lt_of_cell? w _ b0
  have g1 := World.block_lt_of_cell? w _ b1
  have g2 := World.block_lt_of_cell? w _ b2
  have g3 := World.block_lt_of_cell? w _ c1
  have H := Lib.hid h
  have HL := Lib.hid hl
  clear h hl
  go_enter Tryz.func142, Tryz.ntmps142
  go_wp2
  have hs0 := heap_size_alloc w (.cells Tryz.zeroCells102 102)
  have k0 : (w.alloc (.cells Tryz.zeroCells102 102)).cell? ⟨B0, 0, none⟩ = some (.slice A 256 c) := (World.cell?_alloc_lt w _ _ g0).trans b0
  have k1 : (w.alloc (.cells Tryz.zeroCells102 102)).cell? ⟨B1, 0, none⟩ = some (.pointer (some ⟨F.b, 0, none⟩)) := (World.cell?_alloc_lt w _ _ g1).trans b1
  have k2 : (w.alloc (.cells Tryz.zeroCells102 102)).cell? ⟨B2, 0, none⟩ = some (.int .i64 (n : Int)) := (World.cell?_alloc_lt w _ _ g2).trans b2
  have kr : RB (w.alloc (.cells Tryz.zeroCells102 102)) A l := hr.alloc _
  have kh : Hid (DkAt base F (w.alloc (.cells Tryz.zeroCells102 102)) s) := H.out.alloc _
  have kb : Below w.heap.size w (w.alloc (.cells Tryz.zeroCells102 102)) := (Below.refl _ w).alloc (Nat.le_refl _) _
  have kf : Frm (fun k => k = F.m) w (w.alloc (.cells Tryz.zeroCells102 102)) := Frm.alloc _ _ _
  have kn : Hid ((w.alloc (.cells Tryz.zeroCells102 102)).heap[w.heap.size]? = some (.cells Tryz.zeroCells102.toList.toArray 102 (0, 0))) := (heap_alloc_last w _).trans (by simp)
  generalize w.alloc (.cells Tryz.zeroCells102 102) = W at *
  have hgs : Hid (w.heap.size < W.heap.size) := Lib.hid (by omega)
  clear hs0
  generalize hg : w.heap.size = g at *
  have d0 : ({ W with drawn := W.drawn + 1 } : World).cell? ⟨B0, 0, none⟩ = some (.slice A 256 c) := k0
  go_still_tail 2, (by kernel_rfl)
  refine wpList_copy_splice rfl (.tmp 4) (.tmp 5) 29 29 rfl 5 Tryz.underlying29 (by kernel_rfl) (some ⟨g, 0, none⟩) A 256 256 256 c rfl rfl g 0 Tryz.zeroCells102.toList 102 kn.out (cellsB l) (by rw [length_cellsB, HL.out]; rfl) ?_ (by rw [length_cellsB, HL.out, zeroSec_len]; omega) (oneCells_B l) g { W with drawn := W.drawn + 1 } (Below.refl _ _) (Nat.le_refl _) ?_
  · intro _
    refine ⟨rfl, ?_⟩
    rcases kr with rfl | ⟨ad, rfl, hc⟩
    · have := HL.out; simp at this
    · refine ⟨ad, rfl, fun j v hv => ?_⟩
      simp only [cellsB, List.getElem?_map, Option.map_eq_some_iff] at hv
      obtain ⟨x, hx, rfl⟩ := hv
      exact hc j x hx
  intro w2 hw2 hb2
  have hB : Below g w w2 := kb.trans (Below.trans (b := { W with drawn := W.drawn + 1 }) ⟨rfl, rfl, rfl, Nat.le_refl _, fun _ _ => rfl⟩ hb2)
  have hw3 : Hid (w2.heap[g]? = some (.cells (cellsB l).toArray 102 (0, 0))) := by
    have := hw2.out
    rw [splice_all (by rw [zeroSec_len, length_cellsB, HL.out])] at this
    exact this
  have h2 : Hid (DkAt base F w2 s) := H.out.below (by rw [hg]; exact hB)
  have m1 : w2.cell? ⟨B1, 0, none⟩ = some (.pointer (some ⟨F.b, 0, none⟩)) := (hB.cell (p := ⟨B1, 0, none⟩) g1).trans b1
  have m2 : w2.cell? ⟨B2, 0, none⟩ = some (.int .i64 (n : Int)) := (hB.cell (p := ⟨B2, 0, none⟩) g2).trans b2
  have m3 : w2.cell? ⟨F.b, 1, none⟩ = some (.map (some F.m)) := (hB.cell (p := ⟨F.b, 1, none⟩) g3).trans c1
  obtain ⟨nn, D, hM⟩ := h2.out.map.open_ h2.out.ok.wlt
  have hM := Lib.hid hM
  have hmany := h2.out.ok.many
  clear hw2 hb2 kb kf kh kn kr k0 k1 k2 d0 hgs hr b0 b1 b2 g0 g1 g2 g3 c1 H
  go_wp2
  refine wp_region_still_tail 6 (by kernel_rfl) (by kernel_rfl) ?_
  simp only [List.take_succ_cons, List.take_zero, List.drop_succ_cons, List.drop_zero]
  iterate 5 still_step
  refine wpStill_load_mid rfl 102 (.tmp 3) rfl g 0 rfl (cellsB l) _ (range_of_heap hw3.out) Tryz.underlying102 rfl (by rw [length_cellsB, HL.out]; exact infoSec) ?_
  refine wpStill_nil ?_
  refine wpList_mapUpdate_own _ rfl (.tmp 10) (.tmp 11) (.tmp 12) 95 rfl 3 102 (Maps.int_keyed Tryz.underlying3) Tryz.underlying95 secR F.m nn D rfl (show World.ownsMap _ _ _ _ _ _ _ from hM.out.owns.drew) (by have := hM.out.few; simp only [maxLen]; omega) (.int .i64 (n : Int)) (secV l) (.int .i64 (n : Int)) rfl rfl (Maps.keyOf_int_mk Tryz.underlying3 (WalkArith.wf_i64 ⟨by omega, by omega⟩)) (.lit (.string l)) [] (secR_mk HL.out) ?_
  intro w3 ho hg3
  go_wp2
  have f3 : Frm (fun k => k = F.m) w2 w3 := Frm.grown (w := w2) ⟨hg3.os, hg3.tape, hg3.output, hg3.size, hg3.block⟩ (fun k e => by injection e with e; exact e.symm)
  go_end0
  refine ⟨rfl, h2.out.put hn HL.out (hM.out.put n l ho) f3, ?_⟩
  exact Frm.trans (Frm.of_below (by rw [hg]; exact hB)) f3
end Go.Proofs.YtegjeijiekggdaaGreatDoor
end
