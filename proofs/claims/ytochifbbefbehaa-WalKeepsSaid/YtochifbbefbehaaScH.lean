/- The package sector: Write. The package sector: rows of sectors, one of them changed. The package sector: the change of Sync. The package sector: Sync, Break, Read, New; a sector of one byte. -/
import Derived.Test.YtochifbbefbehaaScD
import Derived.Shelf.Abstract
import Derived.Deep.LoopGhost
import Derived.Deep.DeepMust
namespace Go.Proofs.Ytochifbbefbehaa
open Go.RowKit
set_option linter.unusedVariables false
def Dk.writeErr (s : Dk) (n : Int) (l : List UInt8) : Nat := if s.faultAt n ≠ 0 then s.faultAt n else if l.length ≠ 256 then 2 else s.callErr
def Dk.write (s : Dk) (n : Int) (l : List UInt8) : Dk := if s.faultAt n ≠ 0 ∨ l.length ≠ 256 then s else s.call fun t => t.put n.toNat l
theorem Dk.faultAt_ok {s : Dk} {n : Int} (h : s.faultAt n = 0) : 0 ≤ n ∧ n < (s.rows.length : Int) := by
  unfold Dk.faultAt at h
  split at h
  · cases h
  · split at h
    · cases h
    · omega
theorem enters_write1 : ∀ args w, (callFunc 55 args).run Try.prog w = .ok (.enter 55 args) w := Go.Proofs.enters_of Try.func55 (by kernel_rfl) rfl
theorem box_new (w : World) (v : Value) (t : TypeId) : (w.alloc (.cells #[v] t)).cell? ⟨w.heap.size, 0, none⟩ = some v := by
  unfold World.cell?
  rw [heap_alloc_last w (.cells #[v] t)]
  rfl
theorem box_old (w : World) (o : Obj) (p : Addr) (h : p.block < w.heap.size) : (w.alloc o).cell? p = w.cell? p := World.cell?_alloc_lt w o p h
theorem box3_0 (w : World) (v : Value) (t : TypeId) (o2 o3 : Obj) : (((w.alloc (.cells #[v] t)).alloc o2).alloc o3).cell? ⟨w.heap.size, 0, none⟩ = some v :=
  (box_old _ o3 _ (by simp; omega)).trans ((box_old _ o2 _ (by simp)).trans (box_new w v t))
theorem box3_1 (w : World) (v : Value) (t : TypeId) (o1 o3 : Obj) : (((w.alloc o1).alloc (.cells #[v] t)).alloc o3).cell? ⟨w.heap.size + 1, 0, none⟩ = some v := by
  have h := box_new (w.alloc o1) v t
  rw [heap_size_alloc] at h
  exact (box_old _ o3 _ (by simp)).trans h
theorem box3_2 (w : World) (v : Value) (t : TypeId) (o1 o2 : Obj) : (((w.alloc o1).alloc o2).alloc (.cells #[v] t)).cell? ⟨w.heap.size + 1 + 1, 0, none⟩ = some v := by
  have h := box_new ((w.alloc o1).alloc o2) v t
  rw [heap_size_alloc, heap_size_alloc] at h
  exact h
theorem Frm.box3 (X : Nat → Prop) (w : World) (o1 o2 o3 : Obj) : Frm X w (((w.alloc o1).alloc o2).alloc o3) := (Frm.alloc X w o1).trans ((Frm.alloc X _ o2).trans (Frm.alloc X _ o3))
set_option maxHeartbeats 1000000 in
set_option maxRecDepth 100000 in
theorem write_any {base : Nat} {F : Ft} {w : World} {s : Dk} (h : DkAt base F w s) (hcalls : s.calls < 4611686018427387904) (n : Int) (A : Option Addr) (m c : Nat) (l : List UInt8) (hl : l.length = m) (hr : RB w A l) (hne : ∀ ad, A = some ad → ¬ F.has ad.block) :
    Calls Try.prog 45 #[.pointer (some ⟨F.b, 0, none⟩), .int .i64 n, .slice A m c] w fun e w' => e = .returned (.int .i64 (s.writeErr n l : Int)) ∧ DkAt base F w' (s.write n l) ∧ Frm F.has w w' := by
  have FX := Frm.box3 F.has w (.cells #[.pointer (some ⟨F.b, 0, none⟩)] 25) (.cells #[.int .i64 n] 3) (.cells #[.slice A m c] 32)
  have h1 := ((h.alloc (.cells #[.pointer (some ⟨F.b, 0, none⟩)] 25)).alloc (.cells #[.int .i64 n] 3)).alloc (.cells #[.slice A m c] 32)
  have r1 := ((hr.alloc (.cells #[.pointer (some ⟨F.b, 0, none⟩)] 25)).alloc (.cells #[.int .i64 n] 3)).alloc (.cells #[.slice A m c] 32)
  have q0 : (((w.alloc (.cells #[.pointer (some ⟨F.b, 0, none⟩)] 25)).alloc (.cells #[.int .i64 n] 3)).alloc (.cells #[.slice A m c] 32)).cell? ⟨w.heap.size, 0, none⟩ = some (.pointer (some ⟨F.b, 0, none⟩)) := box3_0 _ _ _ _ _
  have q1 : (((w.alloc (.cells #[.pointer (some ⟨F.b, 0, none⟩)] 25)).alloc (.cells #[.int .i64 n] 3)).alloc (.cells #[.slice A m c] 32)).cell? ⟨w.heap.size + 1, 0, none⟩ = some (.int .i64 n) := box3_1 _ _ _ _ _
  have q2 : (((w.alloc (.cells #[.pointer (some ⟨F.b, 0, none⟩)] 25)).alloc (.cells #[.int .i64 n] 3)).alloc (.cells #[.slice A m c] 32)).cell? ⟨w.heap.size + 1 + 1, 0, none⟩ = some (.slice A m c) := box3_2 _ _ _ _ _
  have qs : (((w.alloc (.cells #[.pointer (some ⟨F.b, 0, none⟩)] 25)).alloc (.cells #[.int .i64 n] 3)).alloc (.cells #[.slice A m c] 32)).heap.size = w.heap.size + 3 := by simp
  have hin := Lib.hid h.inside
  have HL := Lib.hid hl
  have HN := Lib.hid hne
  clear hl h hr hne
  go_enter Try.func45, Try.ntmps45
  go_wp2_with fail
  generalize ((w.alloc (.cells #[.pointer (some ⟨F.b, 0, none⟩)] 25)).alloc (.cells #[.int .i64 n] 3)).alloc (.cells #[.slice A m c] 32) = W at *
  refine (faultAt_any h1 n).mono ?_
  rintro e w' ⟨rfl, rfl⟩
  by_cases h0 : s.faultAt n = 0
  · obtain ⟨hn0, hn1⟩ := Dk.faultAt_ok h0
    rw [h0]
    by_cases hlen : l.length = 256
    · have HE := Lib.hid (show s.writeErr n l = s.callErr from by unfold Dk.writeErr; rw [if_neg (by omega), if_neg (by omega)])
      have HW := Lib.hid (show s.write n l = s.call fun t => t.put n.toNat l from by unfold Dk.write; rw [if_neg (by omega)])
      obtain rfl : 256 = m := by rw [← HL.out, hlen]
      obtain ⟨k, rfl⟩ := Int.eq_ofNat_of_zero_le hn0
      have HC := Lib.hid (call_any h1 hcalls 55 #[.pointer (some ⟨w.heap.size + 1 + 1, 0, none⟩), .pointer (some ⟨w.heap.size, 0, none⟩), .pointer (some ⟨w.heap.size + 1, 0, none⟩)] enters_write1 F.has (.inl rfl) (fun t => t.put k l)
        (fun W' t hf ht hrows _ _ => by
          have nb : ∀ i, w.heap.size ≤ i → ¬ F.has i := fun i hi hx => by have := hin.out i hx; omega
          refine (write1_any ht (w.heap.size + 1 + 1) w.heap.size (w.heap.size + 1) A c l k hlen (by rw [hrows]; omega) ((hf.cell (by rw [qs]; show w.heap.size + 1 + 1 < _; omega) (nb _ (by show w.heap.size ≤ w.heap.size + 1 + 1; omega))).trans q2)
            ((hf.cell (by rw [qs]; show w.heap.size < _; omega) (nb _ (Nat.le_refl _))).trans q0) ((hf.cell (by rw [qs]; show w.heap.size + 1 < _; omega) (nb _ (by show w.heap.size ≤ w.heap.size + 1; omega))).trans q1) ?_).mono ?_
          · rcases A with _ | ad
            · rcases r1 with rfl | ⟨ad, e, _⟩
              · exact .inl rfl
              · cases e
            · exact hf.rb r1 (HN.out ad rfl)
          · rintro e w2 ⟨rfl, h2, f2⟩
            exact ⟨rfl, h2, f2.mono fun i hi => .inr (.inl hi)⟩))
      clear HL qs hn1 h0 hlen hin HN r1 h1
      go_wp2_with fail
      refine HC.out.mono ?_
      rintro e w2 ⟨rfl, h2, f2⟩
      go_wp2
      go_ret
      refine ⟨by rw [HE.out]; rfl, ?_, FX.trans f2⟩
      rw [HW.out]
      exact h2
    · have HE := Lib.hid (show s.writeErr n l = 2 from by unfold Dk.writeErr; rw [if_neg (by omega), if_pos hlen])
      have HW := Lib.hid (show s.write n l = s from by unfold Dk.write; rw [if_pos (.inr hlen)])
      have hb : ((m : Int) != 256) = true := by rw [bne_iff_ne]; have := HL.out; omega
      have H1 := Lib.hid h1
      clear HL qs hn0 hn1 h0 hlen hin HN r1 h1
      go_wp2
      go_ret
      exact ⟨by rw [HE.out]; rfl, by rw [HW.out]; exact H1.out, FX⟩
  · have HE := Lib.hid (show s.writeErr n l = s.faultAt n from by unfold Dk.writeErr; rw [if_pos h0])
    have HW := Lib.hid (show s.write n l = s from by unfold Dk.write; rw [if_pos (.inl h0)])
    have hb : (((s.faultAt n : Nat) : Int) != 0) = true := by rw [bne_iff_ne]; omega
    have H1 := Lib.hid h1
    clear HL qs hin HN r1 h1
    generalize s.faultAt n = q at *
    clear h0
    go_wp2
    go_ret
    exact ⟨by rw [HE.out]; rfl, by rw [HW.out]; exact H1.out, FX⟩
end Go.Proofs.Ytochifbbefbehaa
namespace Go.Proofs.Ytochifbbefbehaa
open Go.RowKit
set_option linter.unusedVariables false
theorem flatten_length : ∀ (rows : List (List UInt8)), (∀ r ∈ rows, r.length = 256) → rows.flatten.length = rows.length * 256
  | [], _ => rfl
  | r :: rows, h => by
    rw [List.flatten_cons, List.length_append, flatten_length rows (fun x hx => h x (.tail _ hx)), h r (.head _), List.length_cons]
    omega
theorem flatten_row : ∀ (rows : List (List UInt8)) (x : Nat) (r : List UInt8), (∀ r ∈ rows, r.length = 256) → rows[x]? = some r → ((rows.flatten).drop (x * 256)).take 256 = r
  | [], x, r, _, h => by simp at h
  | q :: rows, 0, r, h, hx => by
    simp only [List.getElem?_cons_zero, Option.some.injEq] at hx
    subst hx
    have := h q (.head _)
    rw [Nat.zero_mul, List.drop_zero, List.flatten_cons, ← this, List.take_left]
  | q :: rows, x + 1, r, h, hx => by
    have hq := h q (.head _)
    simp only [List.getElem?_cons_succ] at hx
    have ih := flatten_row rows x r (fun y hy => h y (.tail _ hy)) hx
    rw [List.flatten_cons, show (x + 1) * 256 = q.length + x * 256 by omega, ← List.drop_drop, List.drop_left]
    exact ih
theorem flatten_set : ∀ (rows : List (List UInt8)) (x : Nat) (l : List UInt8), (∀ r ∈ rows, r.length = 256) → l.length = 256 → x < rows.length → (rows.set x l).flatten = rows.flatten.take (x * 256) ++ l ++ rows.flatten.drop (x * 256 + 256)
  | [], x, l, _, _, h => by simp at h
  | q :: rows, 0, l, h, hl, _ => by
    have hq := h q (.head _)
    rw [List.set_cons_zero, List.flatten_cons, List.flatten_cons, Nat.zero_mul, List.take_zero, List.nil_append, Nat.zero_add, ← hq, List.drop_left]
  | q :: rows, x + 1, l, h, hl, hx => by
    have hq := h q (.head _)
    have ih := flatten_set rows x l (fun y hy => h y (.tail _ hy)) hl (by simpa using hx)
    have e1 : (q ++ rows.flatten).drop ((x + 1) * 256 + 256) = rows.flatten.drop (x * 256 + 256) := by
      rw [show (x + 1) * 256 + 256 = q.length + (x * 256 + 256) by omega, ← List.drop_drop, List.drop_left]
    have e2 : (q ++ rows.flatten).take ((x + 1) * 256) = q ++ rows.flatten.take (x * 256) := by
      rw [show (x + 1) * 256 = q.length + x * 256 by omega, List.take_length_add_append]
    rw [List.set_cons_succ, List.flatten_cons, List.flatten_cons, ih, e1, e2]
    simp only [List.append_assoc]
theorem take_spliced (N X k : Nat) (cur fl cl : List Value) (hfl : cur.take N = fl) (hX : X + k ≤ N) (hN : N ≤ cur.length) (hcl : cl.length = k) : (cur.take X ++ cl ++ cur.drop (X + k)).take N = fl.take X ++ cl ++ fl.drop (X + k) := by
  subst hfl
  have hl : (cur.take X ++ cl).length = X + k := by rw [List.length_append, List.length_take, hcl]; omega
  have e : N = (cur.take X ++ cl).length + (N - (X + k)) := by omega
  have e1 : (cur.take X ++ cl ++ cur.drop (X + k)).take N = cur.take X ++ cl ++ (cur.drop (X + k)).take (N - (X + k)) := by
    rw [e, List.take_length_add_append, hl]
    congr 2
    omega
  rw [e1, List.take_take, Nat.min_eq_left (by omega), List.drop_take]
theorem setCells_row {w : World} {g o : Nat} {cur : Array Value} {t : TypeId} {vs : List Value} (hg : w.heap[g]? = some (.cells cur t (0, 0))) (hfit : o + vs.length ≤ cur.size) (h1 : ∀ v ∈ vs, v.oneCell' = true) :
    (w.setCells g o vs).heap[g]? = some (.cells (cur.toList.take o ++ vs ++ cur.toList.drop (o + vs.length)).toArray t (0, 0)) ∧ w.grownBy (w.setCells g o vs) (some g) := by
  have a := run_storeCells_at Try.prog g o t vs 0 cur w hg (by omega) h1
  have b := run_storeCells_cells (P := Try.prog) g o vs 0 w (fun j hj => by simp [World.cell?, hg]; omega) (fun j hj => by simp [World.frozen?, hg]) h1
  rw [a] at b
  simp only [Nat.add_zero] at b
  injection b with _ b
  rw [← b]
  exact ⟨setRow_heap w g cur _ _ _ hg, ⟨rfl, rfl, rfl, by simp, fun k _ hk => setRow_other w g k _ (fun e => hk (by rw [e]))⟩⟩
theorem setCells_eq {w : World} {g o : Nat} {cur : Array Value} {t : TypeId} {vs : List Value} (hg : w.heap[g]? = some (.cells cur t (0, 0))) (hfit : o + vs.length ≤ cur.size) (h1 : ∀ v ∈ vs, v.oneCell' = true) :
    w.setCells g o vs = w.setRow g (cur.toList.take o ++ vs ++ cur.toList.drop (o + vs.length)).toArray := by
  have a := run_storeCells_at Try.prog g o t vs 0 cur w hg (by omega) h1
  have b := run_storeCells_cells (P := Try.prog) g o vs 0 w (fun j hj => by simp [World.cell?, hg]; omega) (fun j hj => by simp [World.frozen?, hg]) h1
  rw [a] at b
  simp only [Nat.add_zero] at b
  injection b with _ b
  exact b.symm
theorem there_of_heap {w : World} {g o n : Nat} {cur : Array Value} {t : TypeId} (hg : w.heap[g]? = some (.cells cur t (0, 0))) (hfit : o + n ≤ cur.size) : w.there g o n := fun j hj => by
  refine ⟨?_, by simp [World.frozen?, hg]⟩
  simp [World.cell?, hg]
  omega
set_option maxRecDepth 100000 in
/-- One of a disk's rows is written. -/
theorem DkAt.setRow {base : Nat} {F : Ft} {w : World} {s : Dk} (h : DkAt base F w s) {x : Nat} {l : List UInt8} (hx : x < s.rows.length) (hl : l.length = 256) :
    ∃ g, F.A = some ⟨g, 0, none⟩ ∧ w.there g (x * 256) 256 ∧ w.rangeAt g (x * 256) (cellsB (s.rows.getD x [])) ∧ DkAt base F (w.setCells g (x * 256) (cellsB l)) { s with rows := s.rows.set x l } ∧ w.grownBy (w.setCells g (x * 256) (cellsB l)) (some g) := by
  rcases h.rowat with ⟨_, e⟩ | ⟨g, cur, hA, hb, hg, hlt, hc, hsz, ht⟩
  · rw [e] at hx; simp at hx
  have hxs : x * 256 + 256 ≤ s.rows.length * 256 := by omega
  have hcs : s.rows.length * 256 ≤ cur.size := by rw [hsz]; exact Nat.mul_le_mul_right _ hc
  have hlen : (cellsB l).length = 256 := by rw [length_cellsB, hl]
  obtain ⟨r1, r2⟩ := setCells_row (o := x * 256) (vs := cellsB l) hg (by omega) (oneCells_B l)
  have hfl := flatten_length s.rows h.ok.each
  refine ⟨g, hA, there_of_heap hg (by omega), ?_, ⟨⟨?_, ?_, ?_, h.ok.wlen, h.ok.left⟩, h.bb, h.bm, ?_, ?_, h.map.kept (r2.block _ h.map.lt (fun e => h.mg_ne hA (by injection e with e; exact e.symm)))⟩, r2⟩
  · intro j v hv
    have hrow : s.rows[x]? = some (s.rows.getD x []) := by rw [List.getD_eq_getElem?_getD, List.getElem?_eq_getElem hx]; rfl
    have hfr := flatten_row s.rows x _ h.ok.each hrow
    rw [cell_of_row w g _ cur _ _ hg]
    have hj : j < 256 := by
      have := (List.getElem?_eq_some_iff.1 hv).1
      rw [length_cellsB, h.ok.each _ (List.mem_of_getElem? hrow)] at this
      exact this
    have e1 : cur[x * 256 + j]? = (cur.toList.take (s.rows.length * 256))[x * 256 + j]? := by
      rw [List.getElem?_take, if_pos (by omega), Array.getElem?_toList]
    rw [e1, ht, ← hv, ← hfr]
    simp [cellsB, hj]
  · show (s.rows.set x l).length ≤ 4096
    rw [List.length_set]; exact h.ok.many
  · intro r hr
    rcases List.mem_or_eq_of_mem_set hr with hr | rfl
    · exact h.ok.each r hr
    · exact hl
  · intro k r hr
    show k < (s.rows.set x l).length
    rw [List.length_set]; exact h.ok.wlt k r hr
  · refine (r2.block _ h.blt (fun e => h.bg_ne hA (by injection e with e; exact e.symm))).trans ?_
    rw [h.cells]
    simp [dkCells]
  · have hr := h.row
    refine ⟨?_, .inr ⟨g, F.cap, _, ?_, hb, r1, ?_, ?_, ?_, ?_⟩⟩
    · rw [length_cellsB, flatten_length _ (fun r hr => by
        rcases List.mem_or_eq_of_mem_set hr with hr | rfl
        · exact h.ok.each r hr
        · exact hl)]
    · rw [hA]
    · simp only [List.length_set]; exact hc
    · rcases hr.2 with ⟨e, _⟩ | ⟨_, _, _, e, _, _, _, hm, _⟩
      · rw [hA] at e; cases e
      · injection e with _ _ e; rw [e]; exact hm
    · simp only [List.size_toArray, List.length_append, List.length_take, List.length_drop, Array.length_toList, hlen]
      omega
    · simp only [List.length_set]
      have e2 : cellsB (s.rows.flatten.take (x * 256) ++ l ++ s.rows.flatten.drop (x * 256 + 256)) = (cellsB s.rows.flatten).take (x * 256) ++ cellsB l ++ (cellsB s.rows.flatten).drop (x * 256 + 256) := by simp [cellsB, List.map_take, List.map_drop]
      rw [flatten_set _ _ _ h.ok.each hl hx, e2]
      rw [hlen]
      exact take_spliced (s.rows.length * 256) (x * 256) 256 cur.toList _ _ ht hxs (by simpa using hcs) hlen
end Go.Proofs.Ytochifbbefbehaa
namespace Go.Proofs.Ytochifbbefbehaa
open Go.RowKit
set_option linter.unusedVariables false
/-- What a sector has. -/
def Dk.at_ (s : Dk) (i : Nat) : List UInt8 := (s.wt i).getD (s.rows.getD i [])
/-- The rows, of which those are old still for which p says so. -/
def Dk.mix (s : Dk) (p : Nat → Bool) : List (List UInt8) := (List.range s.rows.length).map fun i => if p i then s.rows.getD i [] else s.at_ i
def Dk.synced (s : Dk) : Dk := { s with rows := (List.range s.rows.length).map s.at_, wt := fun _ => none }
theorem Dk.mix_length (s : Dk) (p : Nat → Bool) : (s.mix p).length = s.rows.length := by simp [Dk.mix]
theorem Dk.mix_start (s : Dk) (p : Nat → Bool) (h : ∀ i, p i = (s.wt i).isSome) : s.mix p = s.rows := by
  unfold Dk.mix
  apply List.ext_getElem
  · simp
  · intro i h1 h2
    simp only [List.getElem_map, List.getElem_range, h, Dk.at_]
    cases s.wt i <;> simp [List.getElem?_eq_getElem h2]
theorem Dk.mix_end (s : Dk) (p : Nat → Bool) (h : ∀ i, p i = false) : s.mix p = (List.range s.rows.length).map s.at_ := by
  unfold Dk.mix
  simp [h]
theorem Dk.mix_step (s : Dk) (p q : Nat → Bool) (x : Nat) (l : List UInt8) (hx : s.wt x = some l) (hq : ∀ i, q i = (p i && !(i == x))) : (s.mix p).set x l = s.mix q := by
  unfold Dk.mix
  apply List.ext_getElem
  · simp
  · intro i h1 h2
    rw [List.getElem_set]
    by_cases e : x = i
    · subst e
      simp [hq, Dk.at_, hx]
    · rw [if_neg e]
      have : ¬ i = x := fun e' => e e'.symm
      simp [hq, this]
theorem wpList_store_new {P : Program} {ops : Array Oper} {rest : List Oper} {o : Oper} {a : Act} {w : World} {Q : Exit → Act → World → Prop} (hgd : o.guard = none) (t : TypeId) (x y : Operand) (ho : o.op = .store t x y) (c c' : Array Value)
    (hx : a.eval x = .pointer (some ⟨w.heap.size, 0, none⟩)) (hy : a.eval y = .agg c') (hi : (P.info? t).map (·.size) = some c'.size) (hs : c.size = c'.size) (h1 : c'.all (·.oneCell') = true)
    (h : wpList P ops Q rest (a.put o.dst undef) (w.alloc (.cells c' t))) : wpList P ops Q (o :: rest) a (w.alloc (.cells c t)) :=
  wpList_plain hgd fun K hK => by
    unfold Oper.wp execOp
    simp only [ho, hx, hy, Sem.run_bind, Result.andThen_ok, run_storeAt_new w t c c' hi hs h1]
    exact hK _ _ h
theorem wpList_clear {ops : Array Oper} {rest : List Oper} {o : Oper} {a : Act} {w : World} {Q : Exit → Act → World → Prop} (hgd : o.guard = none) (x : Operand) (ho : o.op = .call { callee := .builtin .clear, args := #[x], argTypes := #[50] })
    (m : Nat) (f : Nat → Option (List UInt8)) (hx : a.eval x = .map (some m)) (hm : MapIs w m f)
    (h : ∀ w', MapIs w' m (fun _ => none) → w.grownBy w' (some m) → wpList Try.prog ops Q rest (a.put o.dst (.tuple #[])) w') : wpList Try.prog ops Q (o :: rest) a w :=
  wpList_plain hgd fun K hK => by
    obtain ⟨w', hrun, h1, h2⟩ := hm.cleared o.type
    unfold Oper.wp execOp
    simp only [ho, resolve, invoke, builtin, Sem.run_bind, Sem.run_pure, Result.andThen_ok, List.map_toArray, List.map_cons, List.map_nil, hx, hrun]
    exact hK _ _ (h w' h1 h2)
theorem secCells_all (l : List UInt8) : ((cellsB l).toArray).all (·.oneCell') = true := all_oneCell_toArray (oneCells_B l)
theorem DkAt.cleared {base : Nat} {F : Ft} {w w' : World} {s : Dk} (h : DkAt base F w s) (hm : MapIs w' F.m (fun _ => none)) (hf : Frm (fun k => k = F.m) w w') : DkAt base F w' { s with wt := fun _ => none } := by
  refine ⟨⟨h.ok.many, h.ok.each, fun k r hr => (by cases hr), fun k r hr => (by cases hr), h.ok.left⟩, h.bb, h.bm, (hf.block _ h.blt (fun e => h.bm_ne e.symm)).trans h.cells, ownsRow_of_block h.row fun g e => hf.block g ?_ (h.mg_ne e), hm⟩
  exact h.inside g (.inr (.inr ⟨_, e, rfl⟩))
theorem zeroSec_size {l : List UInt8} (h : l.length = 256) : Try.zeroCells67.size = (cellsB l).toArray.size := by
  have h1 : Try.zeroCells67.size = 256 := by rw [← Array.length_toList]; exact zeroSec_len
  have h2 : (cellsB l).toArray.size = 256 := by simp [length_cellsB, h]
  rw [h1, h2]
theorem infoSec_of {l : List UInt8} (h : l.length = 256) : (Try.prog.info? 67).map (·.size) = some (cellsB l).toArray.size := by
  have h2 : (cellsB l).toArray.size = 256 := by simp [length_cellsB, h]
  rw [h2]
  exact infoSec
theorem infoSec_list {l : List UInt8} (h : l.length = 256) : (Try.prog.info? 67).map (·.size) = some (cellsB l).length := by
  rw [length_cellsB, h]
  exact infoSec
theorem ranges_drew {P : Program} {t : TypeId} {R : Value → Option (DataW Unit × List MemPlace)} {w : World} {b r n : Nat} {D : DataW Unit} {left : Lit → Bool} {cnt : Nat} (h : w.ranges P t R b r n D left cnt) : w.drew.ranges P t R b r n D left cnt := h
/-- Between two rounds of Sync's loop. -/
def SyncRel (base : Nat) (F : Ft) (s : Dk) (w : World) (nn : Nat) (D : DataW Unit) (wr : World) : Prop :=
  ∃ left cnt, wr.ranges (H := Unit) Try.prog 3 secR F.m w.heap.size nn D left cnt ∧ DkAt base F wr { s with rows := s.mix fun i => left (.int .i64 (i : Int)) } ∧ Frm F.has w wr
theorem sec_key {f : Nat → Option (List UInt8)} {w : World} {m N n : Nat} {D : DataW Unit} (h : MapOpen w m f N n D) {x : Int} {c : List UInt8} {y : DataW Unit × List MemPlace} (hc : secR (secV c) = some y) (hat : ∀ zd, D.atKey (.int .i64 x) zd = y.1) : ∃ k : Nat, x = (k : Int) ∧ f k = some c := by
  have hh := Maps.has_true_of_atKey hat
  by_cases h0 : x < 0
  · rw [h.neg x h0] at hh; cases hh
  · obtain ⟨k, rfl⟩ := Int.eq_ofNat_of_zero_le (show 0 ≤ x by omega)
    refine ⟨k, rfl, ?_⟩
    rw [h.has k] at hh
    obtain ⟨l, hl⟩ := Option.isSome_iff_exists.1 hh
    have e1 := h.at_ k l hl (.lit (.string []))
    rw [hat] at e1
    obtain ⟨l', h1, h2, rfl⟩ := secR_inv hc
    have e2 : c = l' := by
      unfold secV at h2
      injection h2 with h2
      exact cellsB_inj (by simpa using h2)
    subst e2
    injection e1 with e1
    injection e1 with e1
    rw [hl, e1]
set_option maxHeartbeats 2000000 in
set_option maxRecDepth 100000 in
theorem sync1_any {base : Nat} {F : Ft} {w : World} {s : Dk} (h : DkAt base F w s) (B0 : Nat) (b0 : w.cell? ⟨B0, 0, none⟩ = some (.pointer (some ⟨F.b, 0, none⟩))) (hB0 : ¬ F.has B0) :
    Calls Try.prog 56 #[.pointer (some ⟨B0, 0, none⟩)] w fun e w' => e = .returned (.tuple #[]) ∧ DkAt base F w' s.synced ∧ Frm F.has w w' := by
  have c1 := h.c1
  obtain ⟨nn, D, hM⟩ := h.map.open_ h.ok.wlt
  have hown := hM.owns
  have g0 := World.block_lt_of_cell? w _ b0
  have g0' : B0 < w.heap.size := g0
  have H := Lib.hid h
  have HM := Lib.hid hM
  clear h hM g0
  go_enter Try.func56, Try.ntmps56
  go_wp2_with (at_range; refine wpList_range_own _ rfl (.tmp 6) 50 rfl 3 67 (Maps.int_keyed Try.underlying3) Try.underlying50 secR F.m nn D rfl hown ?_; intro w0 hrg0 hg0 hs0)
  have HS0 := Lib.hid hs0
  clear hs0 c1
  go_frame
  go_loopw [1] (fun _ wr => SyncRel base F s w nn D wr) (fun _ wr => wr.rangeLeft F.m w.heap.size)
  case atStart =>
    refine ⟨_, _, hrg0, ?_, Frm.grown hg0 (fun k e => by cases e)⟩
    have e : s.mix (fun i => Maps.has D (.int .i64 (i : Int))) = s.rows := s.mix_start _ fun i => HM.out.has i
    rw [e]
    exact H.out.kept fun k hk => hg0.block k (H.out.inside k hk) (by simp)
  case round =>
    obtain ⟨left, cnt, hrg, hd, hf⟩ := hrel
    have d1 := hd.c1
    have d0 := hd.c0
    have e0 : wr.cell? ⟨B0, 0, none⟩ = some (.pointer (some ⟨F.b, 0, none⟩)) := (hf.cell (p := ⟨B0, 0, none⟩) g0' hB0).trans b0
    have HD := Lib.hid hd
    have HRG := Lib.hid hrg
    have HF := Lib.hid hf
    clear hd hrg hf
    go_wp2_with (at_next; refine wpList_next_ranges _ rfl (.tmp 7) rfl 3 (Maps.int_keyed Try.underlying3) secR (Value.int .i64) secV (fun key kl hk => by obtain ⟨x, hx, _⟩ := Maps.keyOf_i64 Try.underlying3 hk; exact ⟨x, hx⟩) (fun v y hv => by obtain ⟨l, _, hl, _⟩ := secR_inv hv; exact ⟨l, hl⟩) F.m w.heap.size nn D left cnt rfl HRG.out ?_ ?_)
    · intro hc0 hl0
      have HL0 := Lib.hid hl0
      clear hl0 hc0
      go_wp2_with (with_reducible refine wpList_clear rfl (.tmp 23) rfl F.m s.wt rfl HD.out.map ?_; intro w2 hm2 hg2)
      have f2 : Frm (fun k => k = F.m) wr w2 := Frm.grown hg2 (fun k e => by injection e with e; exact e.symm)
      go_end0
      refine ⟨rfl, ?_, HF.out.trans (f2.mono fun i hi => .inr (.inl hi))⟩
      have := HD.out.cleared hm2 f2
      rw [s.mix_end _ (fun i => HL0.out _)] at this
      exact this
    · intro x c kl yd yp w1 cnt1 hkey hlk hv hat hrg1 hlt hg1 hs1 hen
      obtain ⟨x', ex, rfl, _⟩ := Maps.keyOf_i64 Try.underlying3 hkey
      obtain rfl : x = x' := encZ_inj ex
      obtain ⟨k, rfl, hwk⟩ := sec_key HM.out hv hat
      have hk := H.out.ok.wlt k c hwk
      have hcl := H.out.ok.wlen k c hwk
      have hk' : k < (s.mix fun i => left (.int .i64 (i : Int))).length := by rw [s.mix_length]; exact hk
      have HC := Lib.hid hcl
      have HW := Lib.hid hwk
      have HRG1 := Lib.hid hrg1
      have HLT := Lib.hid hlt
      have hne : ∀ i, F.has i → some i ≠ some w.heap.size := fun i hi e => by injection e with e; have := H.out.inside i hi; omega
      have h1 : DkAt base F w1 { s with rows := s.mix fun i => left (.int .i64 (i : Int)) } := HD.out.kept fun i hi => hg1.block i (HD.out.inside i hi) (hne i hi)
      have f1 : Frm F.has w w1 := HF.out.step (Frm.grown (X := fun i => i = w.heap.size) hg1 (fun k e => by injection e with e; exact e.symm)) (fun i hi hlt => by omega)
      have H1 := Lib.hid h1
      have F1 := Lib.hid f1
      clear hcl hwk hrg1 hlt hkey hlk hv hat ex h1 f1 hs1 hne
      go_wp2_with (refine wpList_store_new rfl 67 (.tmp 2) (.tmp 12) rfl Try.zeroCells67 (cellsB c).toArray rfl rfl (infoSec_of HC.out) (zeroSec_size HC.out) (secCells_all c) ?_)
      have hz2 := heap_size_alloc w1 (.cells (cellsB c).toArray 67)
      have kn := Lib.hid (heap_alloc_last w1 (.cells (cellsB c).toArray 67))
      have h2 := H1.out.alloc (.cells (cellsB c).toArray 67)
      have f2 := Lib.hid (F1.out.trans (Frm.alloc F.has w1 (.cells (cellsB c).toArray 67)))
      have rg2 := Lib.hid (HRG1.out.alloc (.cells (cellsB c).toArray 67))
      generalize w1.alloc (.cells (cellsB c).toArray 67) = w2 at *
      have m0 : w2.cell? ⟨B0, 0, none⟩ = some (.pointer (some ⟨F.b, 0, none⟩)) := (f2.out.cell (p := ⟨B0, 0, none⟩) g0' hB0).trans b0
      have m1 := h2.c0
      obtain ⟨g, hA, hth, hra, h3, hg3⟩ := h2.drew.setRow hk' HC.out
      have h1g : g < w.heap.size := H.out.inside g (.inr (.inr ⟨_, hA, rfl⟩))
      have H2 := Lib.hid h2
      have H3 := Lib.hid h3
      have HT := Lib.hid hth
      have HG := Lib.hid hg3
      rw [hA] at m1
      have Am := Lib.hid hA
      have kk : (k : Int) < ((s.mix fun i => left (.int .i64 (i : Int))).length : Int) := by omega
      have k0 : 0 ≤ (k : Int) := by omega
      have kl := Lib.hid (show (s.mix fun i => left (.int .i64 (i : Int))).length = s.rows.length from s.mix_length _)
      generalize w1.heap.size = q at *
      generalize hNN : (s.mix fun i => left (.int .i64 (i : Int))).length = NN at m1 kk
      clear hA h2 h3 hth hra hg3 hz2 hen d0 d1 e0 hNN
      refine wp_region_still_tail 7 (by kernel_rfl) (by kernel_rfl) ?_
      simp only [List.take_succ_cons, List.take_zero, List.drop_succ_cons, List.drop_zero]
      iterate 5 still_step
      refine wpStill_load_mid rfl 67 (.tmp 2) rfl q 0 rfl (cellsB c) _ (range_of_heap kn.out) Try.underlying67 rfl (infoSec_list HC.out) ?_
      still_step
      refine wpStill_nil ?_
      refine wpList_store_mid rfl 67 (.tmp 19) (.tmp 18) rfl g (k * 256) (cellsB c).toArray rfl rfl (by rw [List.size_toArray, length_cellsB, HC.out]; exact HT.out) (infoSec_of HC.out) (secCells_all c) ?_
      have e3 : (cellsB c).toArray.toList = cellsB c := rfl
      rw [e3]
      clear e3 m0 m1 kk k0
      generalize hw3 : World.setCells { w2 with drawn := w2.drawn + 1 } g (k * 256) (cellsB c) = w3
      have hw3' : w2.drew.setCells g (k * 256) (cellsB c) = w3 := hw3
      have HW3 := Lib.hid hw3'
      clear hw3 hw3'
      go_wp2
      have f3 : w2.drew.grownBy w3 (some g) := by rw [← HW3.out]; exact HG.out
      have hm : g ≠ F.m := H.out.mg_ne Am.out
      have rg3 := (ranges_drew rg2.out).kept f3 (fun e => hm (by injection e with e; exact e.symm)) (fun e => by injection e with e; omega)
      go_roundw
      case rel =>
        refine ⟨_, _, rg3, ?_, ((f2.out.trans (Frm.drew _ _)).trans (Frm.grown f3 fun i e => by injection e with e; exact .inr (.inr ⟨_, Am.out, e⟩)))⟩
        have e4 := s.mix_step (fun i => left (.int .i64 (i : Int))) (fun i => left (.int .i64 (i : Int)) && !(Lit.int .i64 (i : Int)).sameKey (.int .i64 (k : Int))) k c HW.out (fun i => by
          have : (Lit.int .i64 (i : Int)).sameKey (.int .i64 (k : Int)) = (i == k) := by
            by_cases e : i = k
            · subst e; simp [Lit.sameKey]
            · have h1 : (i == k) = false := by simp [e]
              rw [h1]
              simp [Lit.sameKey]
              omega
          rw [this])
        have h3 := H3.out
        rw [HW3.out] at h3
        rw [← e4]
        exact h3
      case measure => rw [rg3.left_eq, HRG.out.left_eq]; exact HLT.out
end Go.Proofs.Ytochifbbefbehaa
namespace Go.Proofs.Ytochifbbefbehaa
open Go.RowKit
set_option linter.unusedVariables false
def Dk.syncErr (s : Dk) : Nat := if s.off = true then 8 else s.callErr
def Dk.sync (s : Dk) : Dk := if s.off = true then s else s.call Dk.synced
theorem enters_sync1 : ∀ args w, (callFunc 56 args).run Try.prog w = .ok (.enter 56 args) w := Go.Proofs.enters_of Try.func56 (by kernel_rfl) rfl
set_option maxHeartbeats 1000000 in
theorem sync_any {base : Nat} {F : Ft} {w : World} {s : Dk} (h : DkAt base F w s) (hcalls : s.calls < 4611686018427387904) :
    Calls Try.prog 46 #[.pointer (some ⟨F.b, 0, none⟩)] w fun e w' => e = .returned (.int .i64 (s.syncErr : Int)) ∧ DkAt base F w' s.sync ∧ Frm F.has w w' := by
  have FX := Frm.alloc F.has w (.cells #[.pointer (some ⟨F.b, 0, none⟩)] 25)
  have h1 := h.alloc (.cells #[.pointer (some ⟨F.b, 0, none⟩)] 25)
  have q0 := box_new w (.pointer (some ⟨F.b, 0, none⟩)) 25
  have qs := Lib.hid (heap_size_alloc w (.cells #[.pointer (some ⟨F.b, 0, none⟩)] 25))
  have hin := Lib.hid h.inside
  clear h
  go_enter Try.func46, Try.ntmps46
  go_wp2_with fail
  generalize w.alloc (.cells #[.pointer (some ⟨F.b, 0, none⟩)] 25) = W at *
  refine (fault_any h1).mono ?_
  rintro e w' ⟨rfl, rfl⟩
  by_cases ho : s.off = true
  · have HE := Lib.hid (show s.syncErr = 8 from by unfold Dk.syncErr; rw [if_pos ho])
    have HS := Lib.hid (show s.sync = s from by unfold Dk.sync; rw [if_pos ho])
    rw [show s.fault = 8 from by unfold Dk.fault; rw [if_pos ho]]
    have H1 := Lib.hid h1
    clear ho h1
    go_wp2
    go_ret
    exact ⟨by rw [HE.out]; rfl, by rw [HS.out]; exact H1.out, FX⟩
  · have HE := Lib.hid (show s.syncErr = s.callErr from by unfold Dk.syncErr; rw [if_neg ho])
    have HS := Lib.hid (show s.sync = s.call Dk.synced from by unfold Dk.sync; rw [if_neg ho])
    rw [show s.fault = 0 from by unfold Dk.fault; rw [if_neg ho]]
    have nb : ∀ i, w.heap.size ≤ i → ¬ F.has i := fun i hi hx => by have := hin.out i hx; omega
    have HC := Lib.hid (call_any h1 hcalls 56 #[.pointer (some ⟨w.heap.size, 0, none⟩)] enters_sync1 F.has (.inl rfl) Dk.synced
      (fun W' t hf ht _ _ _ => sync1_any ht w.heap.size ((hf.cell (p := ⟨w.heap.size, 0, none⟩) (by show w.heap.size < _; rw [qs.out]; omega) (nb _ (Nat.le_refl _))).trans q0) (nb _ (Nat.le_refl _))))
    clear ho h1 nb
    go_wp2_with fail
    refine HC.out.mono ?_
    rintro e w2 ⟨rfl, h2, f2⟩
    go_wp2
    go_ret
    refine ⟨by rw [HE.out]; rfl, ?_, FX.trans f2⟩
    rw [HS.out]
    exact h2
def Dk.breakErr (s : Dk) (after : Int) : Nat := if s.off = true then 8 else if after < 0 then 2 else 0
def Dk.brk (s : Dk) (after : Int) (d : Bool) : Dk := if s.off = true ∨ after < 0 then s else { s with fset := true, left := after.toNat, done := d }
theorem DkAt.fail {base : Nat} {F : Ft} {w : World} {s : Dk} (h : DkAt base F w s) (p : Bool) (n : Nat) (d : Bool) (hn : n ≤ 9223372036854775807) :
    DkAt base F (((w.setCell ⟨F.b, 4, none⟩ (.bool p)).setCell ⟨F.b, 5, none⟩ (.int .i64 (n : Int))).setCell ⟨F.b, 6, none⟩ (.bool d)) { s with fset := p, left := n, done := d } :=
  ((h.field (s' := { s with fset := p }) 4 (.bool p) rfl rfl (by simp [dkCells]) h.ok.left).field (s' := { s with fset := p, left := n }) 5 (.int .i64 (n : Int)) rfl rfl (by simp [dkCells]) hn).field (s' := { s with fset := p, left := n, done := d }) 6 (.bool d) rfl rfl (by simp [dkCells]) hn
set_option maxHeartbeats 1000000 in
theorem break_any {base : Nat} {F : Ft} {w : World} {s : Dk} (h : DkAt base F w s) (n : Int) (d : Bool) (hn : n ≤ 9223372036854775807) :
    Calls Try.prog 12 #[.pointer (some ⟨F.b, 0, none⟩), .int .i64 n, .bool d] w fun e w' => e = .returned (.int .i64 (s.breakErr n : Int)) ∧ DkAt base F w' (s.brk n d) ∧ Frm F.has w w' := by
  have Hf := Lib.hid (fault_any h)
  have c4 := h.c4; have c5 := h.c5; have c6 := h.c6
  have f4 := h.frozenAt 4; have f5 := h.frozenAt 5; have f6 := h.frozenAt 6
  have H := Lib.hid h
  clear h
  by_cases ho : s.off = true
  · have HE := Lib.hid (show s.breakErr n = 8 from by unfold Dk.breakErr; rw [if_pos ho])
    have HS := Lib.hid (show s.brk n d = s from by unfold Dk.brk; rw [if_pos (.inl ho)])
    rw [show s.fault = 8 from by unfold Dk.fault; rw [if_pos ho]] at Hf
    clear ho
    go_enter Try.func12, Try.ntmps12
    go_wp2_with (go_at_call 29; refine Hf.out.mono ?_; rintro e w' ⟨rfl, rfl⟩)
    go_ret
    exact ⟨by rw [HE.out]; rfl, by rw [HS.out]; exact H.out, Frm.refl _ _⟩
  · rw [show s.fault = 0 from by unfold Dk.fault; rw [if_neg ho]] at Hf
    by_cases h0 : n < 0
    · have HE := Lib.hid (show s.breakErr n = 2 from by unfold Dk.breakErr; rw [if_neg ho, if_pos h0])
      have HS := Lib.hid (show s.brk n d = s from by unfold Dk.brk; rw [if_pos (.inr h0)])
      clear ho
      go_enter Try.func12, Try.ntmps12
      go_wp2_with (go_at_call 29; refine Hf.out.mono ?_; rintro e w' ⟨rfl, rfl⟩)
      go_ret
      exact ⟨by rw [HE.out]; rfl, by rw [HS.out]; exact H.out, Frm.refl _ _⟩
    · have HE := Lib.hid (show s.breakErr n = 0 from by unfold Dk.breakErr; rw [if_neg ho, if_neg h0])
      have HS := Lib.hid (show s.brk n d = { s with fset := true, left := n.toNat, done := d } from by unfold Dk.brk; rw [if_neg (fun x => x.elim ho h0)])
      obtain ⟨k, rfl⟩ := Int.eq_ofNat_of_zero_le (show 0 ≤ n by omega)
      have h0' : 0 ≤ (k : Int) := by omega
      clear ho h0
      go_enter Try.func12, Try.ntmps12
      go_wp2_with (go_at_call 29; refine Hf.out.mono ?_; rintro e w' ⟨rfl, rfl⟩)
      go_ret
      refine ⟨by rw [HE.out]; rfl, ?_, (Frm.setCell _ _ _ (.inl rfl)).trans ((Frm.setCell _ _ _ (.inl rfl)).trans (Frm.setCell _ _ _ (.inl rfl)))⟩
      rw [HS.out]
      exact H.out.fail true k d (by omega)
end Go.Proofs.Ytochifbbefbehaa
