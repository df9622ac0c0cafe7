/- Joined: ScO ScP. -/
import Derived.Test.YtegjeijiekggdaaGreatDoorM06
import Derived.Test.YtegjeijiekggdaaGreatDoorM40
import Derived.Deep.RegionHeld3
import Derived.Deep.RegionLaw
section
/- The package sector: Waits. The package sector: the next byte of fates. The package sector: what a loss of power leaves (plain). -/
namespace Go.Proofs.YtegjeijiekggdaaGreatDoor
open Go.RowKit Go.Maps Go.Sort Go.Shelf
set_option linter.unusedVariables false
/-- The slice at the address A reads as the numbers l in w. -/
def RN (w : World) (A : Option Addr) (l : List Nat) : Prop :=
  l = [] ∨ ∃ ad, A = some ad ∧ ∀ (j k : Nat), l[j]? = some k → w.cell? (ad.add j) = some (.int .i64 (k : Int))
theorem RN.keep {w w' : World} {A : Option Addr} {l : List Nat} (h : RN w A l) (hk : ∀ p : Addr, p.block < w.heap.size → (∀ ad, A = some ad → p.block = ad.block) → w'.cell? p = w.cell? p) : RN w' A l := by
  rcases h with rfl | ⟨ad, rfl, hc⟩
  · exact .inl rfl
  · exact .inr ⟨ad, rfl, fun j x hx => (hk _ (lt_of_cell (hc j x hx)) (fun ad' e => by injection e with e; subst e; exact block_of_add _ _)).trans (hc j x hx)⟩
def Dk.waits (s : Dk) : List Nat := keysOf s.wt s.rows.length
theorem sortsA (m : Nat) : AnyZI.SortsIn Tryz.prog Tryz.sortedA_ren Fence.wide m :=
  ⟨fun blk off cap ss W hH hblk hsz => callsIn_wide.2 (AnyM.slices_Sort_int Tryz.sortA blk off cap ss W hH hblk hsz),
   fun p cap W => callsIn_wide.2 (AnyM.slices_Sort_int_none Tryz.sortA p cap W)⟩
theorem keys_any (mb : Option Nat) (w : World) : Calls Tryz.prog 123 #[.map mb] w fun e w' => e = .returned (.func (.func 166) #[] #[.pointer (some ⟨w.heap.size, 0, none⟩)]) ∧ w' = w.alloc (.cells #[.map mb] 95) :=
  (callsIn_wide (n := 5)).1 (AnyZI.keys_in Tryz.keysA Fence.wide 5 trivial rfl mb w)
set_option maxHeartbeats 1000000 in
theorem sorted_any {b nn : Nat} {D0 : DataW Unit} {w : World} (hown : w.ownsMap Tryz.prog 3 secR b nn D0) (hmax : Maps.size D0 ≤ 4096) :
    Calls Tryz.prog 122 #[.func (.func 166) #[] #[.pointer (some ⟨w.heap.size, 0, none⟩)]] (w.alloc (.cells #[.map (some b)] 95)) fun e w' => ∃ (v : Value) (ss : List Int), e = .returned v ∧ ss.Perm (intKeys D0) ∧
      w'.ownsRow (w.heap.size + 1) 3 1 v ss.length ((ss.mergeSort (fun x y => decide (x ≤ y))).map encZ) ∧ Below (w.heap.size + 1) (w.alloc (.cells #[.map (some b)] 95)) w' := by
  have hbl := hown.lt
  have hseq : SeqGives Fence.wide 2 Tryz.prog 166 #[.pointer (some ⟨w.heap.size, 0, none⟩)] encZ (fun ss => ss.Perm (intKeys D0)) (Maps.size D0) (w.alloc (.cells #[.map (some b)] 95)) :=
    AnyZI.keys_gives (ρ := Tryz.keysA_ren) { Tryz.keysA with } Fence.wide _ trivial rfl (by omega) w.heap.size b nn D0 _ (by simp) (by simp) (by
      obtain ⟨es, clock, hb, Ft, hs, hD⟩ := hown
      exact ⟨es, clock, (Below.heap_alloc _ _ b hbl).trans hb, Ft, hs, hD⟩)
  have cS := AnyZI.sorted_in Tryz.sortedA Fence.wide 5 trivial trivial trivial trivial rfl (by omega) (sortsA _) (enters_of Tryz.func165 (by kernel_rfl) rfl) 166 #[.pointer (some ⟨w.heap.size, 0, none⟩)] trivial (enters_of Tryz.func166 (by kernel_rfl) rfl) _ _ (by simp only [maxLen]; omega) (by omega) _ hseq
  change CallsIn _ _ Tryz.prog 122 _ _ _ at cS
  refine (callsIn_wide.1 cS).mono ?_
  rintro e w' ⟨v, ss, rfl, hS, hrow, hnil, hb⟩
  rw [heap_size_alloc] at hrow hb
  exact ⟨v, ss, rfl, hS, hrow, hb⟩
set_option maxHeartbeats 1000000 in
theorem waits_any {base : Nat} {F : Ft} {w : World} {s : Dk} (h : DkAt base F w s) : Calls Tryz.prog 73 #[.pointer (some ⟨F.b, 0, none⟩)] w fun e w' => ∃ A c, e = .returned (.slice A s.waits.length c) ∧ RN w' A s.waits ∧ (∀ ad, A = some ad → w.heap.size ≤ ad.block) ∧ Below w.heap.size w w' := by
  have c1 := h.c1
  obtain ⟨nn, D, hM⟩ := h.map.open_ h.ok.wlt
  have hmany := h.ok.many
  have hsz := hM.size
  have HS := Lib.hid (sorted_any hM.owns (by omega))
  have HP := Lib.hid hM.perm
  clear h hM
  go_enter Tryz.func73, Tryz.ntmps73
  go_wp2_with (first
    | (go_at_call 123; refine (keys_any _ _).mono ?_; rintro e w' ⟨rfl, rfl⟩)
    | (go_at_call 122; refine HS.out.mono ?_; rintro e w' ⟨v, ss, rfl, hS, hrow, hb⟩))
  go_ret
  have hp := (HP.out.trans hS.symm)
  have hlen : ss.length = s.waits.length := by rw [← hp.length_eq, List.length_map]; rfl
  have hms : ss.mergeSort (fun x y => decide (x ≤ y)) = s.waits.map fun k : Nat => (k : Int) := by
    rw [← mergeSort_of_perm_i hp]
    exact sorted_cast (keysOf_sorted _ _)
  rw [hms, hlen] at hrow
  have hB : Below w.heap.size w w' := ((Below.refl _ w).alloc (Nat.le_refl _) _).trans (hb.mono (by omega))
  rcases hrow.2 with ⟨rfl, h0⟩ | ⟨g, cap, cur, rfl, hbase, hg, r1, r2, r3, r4⟩
  · have e0 : s.waits = [] := List.eq_nil_of_length_eq_zero h0
    exact ⟨none, 0, by rw [e0]; rfl, .inl e0, (fun ad e => by cases e), hB⟩
  · refine ⟨some ⟨g, 0, none⟩, cap, rfl, .inr ⟨_, rfl, fun j k hj => ?_⟩, (fun ad e => by injection e with e; subst e; show w.heap.size ≤ g; omega), hB⟩
    exact World.ownsRow.cells hrow (g := g) rfl j _ (by simp [hj, encZ])
end Go.Proofs.YtegjeijiekggdaaGreatDoor
namespace Go.Proofs.YtegjeijiekggdaaGreatDoor
open Go.RowKit
set_option linter.unusedVariables false
/-- The next byte of fates, and what is left. -/
def tk : List UInt8 → UInt8 × List UInt8
  | [] => (0, [])
  | f :: r => (f, r)
/-- The slice at A reads as l, and none of its bytes lie in X or in block B. -/
def RBX (X : Nat → Prop) (B : Nat) (w : World) (A : Option Addr) (l : List UInt8) : Prop :=
  l = [] ∨ ∃ ad, A = some ad ∧ ¬ X ad.block ∧ ad.block ≠ B ∧ ∀ (j : Nat) (x : UInt8), l[j]? = some x → w.cell? (ad.add j) = some (.int .u8 (x.toNat : Int))
/-- The variable in block B has a slice that reads as l, none of whose bytes lie in X. -/
def BoxF (X : Nat → Prop) (w : World) (B : Nat) (l : List UInt8) : Prop :=
  ∃ A c, w.heap[B]? = some (.cells #[.slice A l.length c] 29 (0, 0)) ∧ l.length ≤ c ∧ RBX X B w A l
theorem BoxF.keep {X Y : Nat → Prop} {w w' : World} {B : Nat} {l : List UInt8} (h : BoxF X w B l) (hf : Frm Y w w') (hB : ¬ Y B) (hY : ∀ i, Y i → X i ∨ w.heap.size ≤ i) : BoxF X w' B l := by
  obtain ⟨A, c, hh, hc, hr⟩ := h
  have hlt := (Array.getElem?_eq_some_iff.1 hh).1
  refine ⟨A, c, (hf.block _ hlt hB).trans hh, hc, ?_⟩
  rcases hr with rfl | ⟨ad, rfl, hx1, hx2, hcell⟩
  · exact .inl rfl
  · refine .inr ⟨ad, rfl, hx1, hx2, fun j x hj => ?_⟩
    have h1 := hcell j x hj
    have h2 := lt_of_cell h1
    rw [hf.cell h2 (fun hy => by
      rw [block_of_add] at hy h2
      rcases hY _ hy with h | h
      · exact hx1 h
      · omega)]
    exact h1
theorem RBX.setCell {X : Nat → Prop} {B : Nat} {w : World} {A : Option Addr} {l : List UInt8} (h : RBX X B w A l) (v : Value) : RBX X B (w.setCell ⟨B, 0, none⟩ v) A l := by
  rcases h with rfl | ⟨ad, rfl, hx1, hx2, hc⟩
  · exact .inl rfl
  · refine .inr ⟨ad, rfl, hx1, hx2, fun j x hj => ?_⟩
    have h1 := hc j x hj
    have : (w.setCell ⟨B, 0, none⟩ v).heap[(ad.add j).block]? = w.heap[(ad.add j).block]? := Below.heap_setCell _ _ _ _ (by rw [block_of_add]; exact hx2)
    rw [World.cell?_of_block (w := w) this]
    exact h1
set_option maxHeartbeats 1000000 in
theorem next_any {X : Nat → Prop} {w : World} {B : Nat} {l : List UInt8} (h : BoxF X w B l) (hm : l.length ≤ maxLen) :
    Calls Tryz.prog 72 #[.pointer (some ⟨B, 0, none⟩)] w fun e w' => e = .returned (.int .u8 ((tk l).1.toNat : Int)) ∧ BoxF X w' B (tk l).2 ∧ Frm (fun k => k = B) w w' := by
  obtain ⟨A, c, hh, hc, hr⟩ := h
  have hcell : w.cell? ⟨B, 0, none⟩ = some (.slice A l.length c) := by
    rw [cell_of_row w B 0 _ _ _ hh]; rfl
  have hfro : w.frozen? ⟨B, 0, none⟩ = false := by simp [World.frozen?, hh]
  have HH := Lib.hid hh
  clear hh
  unfold maxLen at hm
  cases l with
  | nil =>
    go_enter Tryz.func72, Tryz.ntmps72
    go_wp2
    go_ret
    exact ⟨rfl, ⟨A, c, HH.out, hc, .inl rfl⟩, Frm.refl _ _⟩
  | cons f r =>
    rcases hr with hr | ⟨ad, rfl, hx1, hx2, hcl⟩
    · cases hr
    have h0 := hcl 0 f rfl
    rw [Addr.add_nought] at h0
    have HC := Lib.hid hcl
    generalize hn : (f :: r).length = n at *
    have hn0 : r.length + 1 = n := by simpa using hn
    have hpos : 0 < n := by omega
    have hnb : ((n : Int) == 0) = false := by simp; omega
    have HN := Lib.hid hn0
    have n0 : (1 : Int) ≤ (n : Int) := by omega
    have n1 : (n : Int) ≤ (c : Int) := by omega
    clear hcl hn hn0
    have Hend : ∀ (A' : Option Addr) (c' : Nat), r.length ≤ c' → RBX X B w A' r → BoxF X (w.setCell ⟨B, 0, none⟩ (.slice A' r.length c')) B r := fun A' c' h1 h2 => by
      refine ⟨A', c', ?_, h1, h2.setCell _⟩
      rw [heap_setCell_block _ HH.out]
      rfl
    have HEnd := Lib.hid Hend
    clear Hend
    have hrb : RBX X B w (some (ad.add 1)) r := .inr ⟨_, rfl, by rw [block_of_add]; exact hx1, by rw [block_of_add]; exact hx2, fun j x hj => by
      rw [add_of_add, Nat.add_comm]
      exact HC.out (j + 1) x (by simpa using hj)⟩
    have HRB := Lib.hid hrb
    clear hrb
    by_cases hck : c = 1
    · subst hck
      obtain rfl : r = [] := List.eq_nil_of_length_eq_zero (by have := HN.out; omega)
      obtain rfl : 1 = n := HN.out
      go_enter Tryz.func72, Tryz.ntmps72
      go_wp2
      go_ret
      refine ⟨rfl, ?_, Frm.setCell _ _ _ rfl⟩
      exact HEnd.out (some ad) 0 (Nat.le_refl _) (.inl rfl)
    · go_enter Tryz.func72, Tryz.ntmps72
      go_wp2
      go_ret
      refine ⟨rfl, ?_, Frm.setCell _ _ _ rfl⟩
      have e := HEnd.out (some (ad.add 1)) (c - 1) (by have := HN.out; omega) HRB.out
      rw [Addr.add_one_, show r.length = n - 1 by have := HN.out; omega] at e
      exact e
end Go.Proofs.YtegjeijiekggdaaGreatDoor
namespace Go.Proofs.YtegjeijiekggdaaGreatDoor
open Go.RowKit
set_option linter.unusedVariables false
/-- What a sector that waits has behind a loss of power: old was safe, new it has; and the fates that are left. -/
def fate1 (old new : List UInt8) (fs : List UInt8) : List UInt8 × List UInt8 :=
  if (tk fs).1.toNat % 4 = 2 then (new, (tk fs).2)
  else if (tk fs).1.toNat % 4 = 3 then (new.take (tk (tk fs).2).1.toNat ++ old.drop (tk (tk fs).2).1.toNat, (tk (tk fs).2).2)
  else (old, (tk fs).2)
/-- One sector after the other. -/
def powerGo (wt : Nat → Option (List UInt8)) : List Nat → List (List UInt8) × List UInt8 → List (List UInt8) × List UInt8
  | [], p => p
  | n :: ns, p => powerGo wt ns (p.1.set n (fate1 (p.1.getD n []) ((wt n).getD []) p.2).1, (fate1 (p.1.getD n []) ((wt n).getD []) p.2).2)
theorem powerGo_snoc (wt : Nat → Option (List UInt8)) : ∀ (ns : List Nat) (n : Nat) (p : List (List UInt8) × List UInt8), powerGo wt (ns ++ [n]) p =
    ((powerGo wt ns p).1.set n (fate1 ((powerGo wt ns p).1.getD n []) ((wt n).getD []) (powerGo wt ns p).2).1, (fate1 ((powerGo wt ns p).1.getD n []) ((wt n).getD []) (powerGo wt ns p).2).2)
  | [], n, p => rfl
  | m :: ns, n, p => by
    show powerGo wt (ns ++ [n]) _ = _
    rw [powerGo_snoc wt ns n]
    rfl
theorem powerGo_length (wt : Nat → Option (List UInt8)) : ∀ (ns : List Nat) (p : List (List UInt8) × List UInt8), (powerGo wt ns p).1.length = p.1.length
  | [], p => rfl
  | n :: ns, p => by
    show (powerGo wt ns _).1.length = _
    rw [powerGo_length wt ns, List.length_set]
theorem tk_len (l : List UInt8) : (tk l).2.length ≤ l.length := by cases l <;> simp [tk]
theorem fate1_left (o n l : List UInt8) : (fate1 o n l).2.length ≤ l.length := by
  have h1 := tk_len l
  have h2 := tk_len (tk l).2
  unfold fate1
  split
  · exact h1
  · split
    · show (tk (tk l).2).2.length ≤ _; omega
    · exact h1
theorem powerGo_left (wt : Nat → Option (List UInt8)) : ∀ (ns : List Nat) (p : List (List UInt8) × List UInt8), (powerGo wt ns p).2.length ≤ p.2.length
  | [], p => Nat.le_refl _
  | n :: ns, p => Nat.le_trans (powerGo_left wt ns _) (fate1_left _ _ _)
def Dk.power (s : Dk) (fates : List UInt8) : Dk :=
  { s with rows := (powerGo s.wt s.waits (s.rows, fates)).1, wt := fun _ => none, off := false, fset := false, left := 0, done := false }
theorem set_getD_self {rows : List (List UInt8)} {n : Nat} : rows.set n (rows.getD n []) = rows := by
  apply List.ext_getElem
  · simp
  · intro i h1 h2
    rw [List.getElem_set]
    split
    · rename_i e; subst e; simp [List.getElem?_eq_getElem h2]
    · rfl
theorem split_part (X k n : Nat) (cur row : List Value) (hrow : (cur.drop X).take n = row) (hk : k ≤ n) (hX : X + n ≤ cur.length) : cur.drop (X + k) = row.drop k ++ cur.drop (X + n) := by
  subst hrow
  have e : cur.drop (X + n) = (cur.drop X).drop n := by rw [List.drop_drop]
  rw [e, ← List.drop_drop]
  generalize cur.drop X = c
  conv => lhs; rw [← List.take_append_drop n c]
  rw [List.drop_append]
  by_cases h : k ≤ (c.take n).length
  · rw [Nat.sub_eq_zero_of_le h, List.drop_zero]
  · have h1 : c.length < k := by rw [List.length_take] at h; omega
    rw [List.drop_of_length_le (l := c) (i := n) (by omega), List.drop_nil]
set_option maxRecDepth 100000 in
theorem step_copy_sec {ops : Array Oper} {o : Oper} {a : Act} {K : Act → World → Prop} {Q : Exit → Act → World → Prop} {E : Prop} {base : Nat} {F : Ft} {w : World} {t : Dk} (hgd : o.guard = none) (d x : Operand)
    (ho : o.op = .call { callee := .builtin .copy, args := #[d, x], argTypes := #[29, 29] }) (h : DkAt base F w t) (n g q k dc sc : Nat) (ln : List UInt8) (hn : n < t.rows.length) (hA : F.A = some ⟨g, 0, none⟩) (hk : k ≤ 256) (hl : ln.length = 256)
    (hq : w.heap[q]? = some (.cells (cellsB ln).toArray 102 (0, 0))) (hd : a.eval d = .slice (some ⟨g, n * 256, none⟩) k dc) (hx : a.eval x = .slice (some ⟨q, 0, none⟩) 256 sc)
    (hK : ∀ w', DkAt base F w' { t with rows := t.rows.set n (ln.take k ++ (t.rows.getD n []).drop k) } → w.grownBy w' (some g) → K (a.put o.dst (.int .i64 (k : Int))) w') :
    if Region.wanted o (yielded ops a.tmps) = true then Oper.wp Tryz.prog o a w K Q else E := by
  have hw : Region.wanted o (yielded ops a.tmps) = true := by simp [Region.wanted, hgd]
  rw [if_pos hw]
  have hrow : (t.rows.getD n []).length = 256 := by
    refine h.ok.each _ ?_
    rw [List.getD_eq_getElem?_getD, List.getElem?_eq_getElem hn]
    exact List.getElem_mem hn
  have hnew : (ln.take k ++ (t.rows.getD n []).drop k).length = 256 := by rw [List.length_append, List.length_take, List.length_drop, hl, hrow]; omega
  obtain ⟨g', hA', hth, hra, h2, hg2⟩ := h.setRow hn hnew
  obtain rfl : g = g' := by rw [hA] at hA'; injection hA' with e; injection e
  rcases h.rowat with ⟨e, _⟩ | ⟨g', cur, e, _, hg, _, hcap, hsz, htake⟩
  · rw [e] at hA; cases hA
  obtain rfl : g = g' := by rw [hA] at e; injection e with e; injection e
  have hxs : n * 256 + 256 ≤ t.rows.length * 256 := by omega
  have hcs : t.rows.length * 256 ≤ cur.size := by rw [hsz]; exact Nat.mul_le_mul_right _ hcap
  have hcl : (cellsB (ln.take k)).length = k := by rw [length_cellsB, List.length_take, hl]; omega
  have hrun := run_copy_row (P := Tryz.prog) w 29 29 o.type 5 g (n * 256) k dc ⟨q, 0, none⟩ 256 sc cur _ (cellsB (ln.take k)) Tryz.underlying29 (by kernel_rfl) hg (by rw [hcl]; exact (Nat.min_eq_right hk).symm) (fun j v hv => by
      rw [Addr.add_mid, Nat.zero_add, cell_of_row w q j _ _ _ hq]
      simp only [cellsB, List.getElem?_map, Option.map_eq_some_iff, List.getElem?_take] at hv
      obtain ⟨y, hy, rfl⟩ := hv
      split at hy
      · simp [cellsB, hy]
      · cases hy) (by rw [hcl]; omega) (oneCells_B _)
  have hold : (cur.toList.drop (n * 256)).take 256 = cellsB (t.rows.getD n []) := by
    have hrow' : t.rows[n]? = some (t.rows.getD n []) := by rw [List.getD_eq_getElem?_getD, List.getElem?_eq_getElem hn]; rfl
    have e1 := flatten_row t.rows n _ h.ok.each hrow'
    have e2 : (cur.toList.drop (n * 256)).take 256 = ((cur.toList.take (t.rows.length * 256)).drop (n * 256)).take 256 := by
      rw [List.drop_take, List.take_take, Nat.min_eq_left (by omega)]
    rw [e2, htake, ← e1]
    simp [cellsB, List.map_take, List.map_drop]
  have hpart := split_part (n * 256) k 256 cur.toList _ hold hk (by simp only [Array.length_toList]; omega)
  have hnewcells : cellsB (ln.take k ++ (t.rows.getD n []).drop k) = cellsB (ln.take k) ++ (cellsB (t.rows.getD n [])).drop k := by simp [cellsB, List.map_drop]
  have hworld : w.setRow g (cur.toList.take (n * 256) ++ cellsB (ln.take k) ++ cur.toList.drop (n * 256 + (cellsB (ln.take k)).length)).toArray = w.setCells g (n * 256) (cellsB (ln.take k ++ (t.rows.getD n []).drop k)) := by
    rw [setCells_eq hg (by rw [length_cellsB, hnew]; omega) (oneCells_B _), length_cellsB, length_cellsB, hnew, hnewcells, List.length_take, hl, Nat.min_eq_left hk, hpart]
    simp only [List.append_assoc]
  unfold Oper.wp execOp
  simp only [ho, resolve, invoke, builtin, Sem.run_bind, Sem.run_pure, Result.andThen_ok, List.map_toArray, List.map_cons, List.map_nil, hd, hx, hrun, hworld]
  have e3 : goInt (cellsB (ln.take k)).length = .int .i64 (k : Int) := by rw [hcl]; rfl
  rw [e3]
  exact hK _ h2 hg2
/-- Between two rounds of Power's loop. -/
def PowRel (base : Nat) (F : Ft) (s : Dk) (l : List UInt8) (w : World) (A : Option Addr) (i : Value) (wr : World) : Prop :=
  ∃ (k : Nat) (rows : List (List UInt8)) (fs : List UInt8), k ≤ s.waits.length ∧ i = .int .i64 (k : Int) ∧ powerGo s.wt (s.waits.take k) (s.rows, l) = (rows, fs) ∧ DkAt base F wr { s with rows := rows } ∧ BoxF F.has wr w.heap.size fs ∧ RN wr A s.waits ∧ Frm F.has w wr
end Go.Proofs.YtegjeijiekggdaaGreatDoor
end
section
/- The package sector: Power. -/
namespace Go.Proofs.YtegjeijiekggdaaGreatDoor
open Go.RowKit
set_option linter.unusedVariables false
theorem wpList_lookup_sec {ops : Array Oper} {rest : List Oper} {o : Oper} {a : Act} {w : World} {Q : Exit → Act → World → Prop} (hgd : o.guard = none) (m x : Operand) (ho : o.op = .lookup 95 m x false)
    (mb k N n : Nat) (f : Nat → Option (List UInt8)) (D : DataW Unit) (l : List UInt8) (hm : a.eval m = .map (some mb)) (hx : a.eval x = .int .i64 (k : Int)) (hk : k ≤ 4096) (hM : MapOpen w mb f N n D) (hf : f k = some l)
    (h : wpList Tryz.prog ops Q rest (a.put o.dst (secV l)) w) : wpList Tryz.prog ops Q (o :: rest) a w :=
  wpList_plain hgd fun K hK => by
    obtain ⟨v, ps, hrun, hv⟩ := hM.owns.lookup (t := 95) (e := 102) (Maps.int_keyed Tryz.underlying3) Tryz.underlying95 (Tryz.zeroValue102 w) zeroSec_read (Maps.keyOf_int_mk Tryz.underlying3 (WalkArith.wf_i64 (n := (k : Int)) ⟨by omega, by omega⟩))
    rw [hM.at_ k l hf] at hv
    obtain ⟨l', _, rfl, e⟩ := secR_inv hv
    obtain rfl : l = l' := by simpa using congrArg Prod.fst e
    unfold Oper.wp execOp
    simp only [ho, hm, hx, hrun, Sem.run_bind, Result.andThen_ok]
    exact hK _ _ h
set_option maxHeartbeats 2000000 in
set_option maxRecDepth 100000 in
theorem power_any {base : Nat} {F : Ft} {w : World} {s : Dk} (h : DkAt base F w s) (A : Option Addr) (m c : Nat) (l : List UInt8) (hl : l.length = m) (hc : m ≤ c) (hm : m ≤ maxLen) (hr : RB w A l) (hne : l ≠ [] → ∀ ad, A = some ad → ¬ F.has ad.block) :
    Calls Tryz.prog 31 #[.pointer (some ⟨F.b, 0, none⟩), .slice A m c] w fun e w' => e = .returned (.tuple #[]) ∧ DkAt base F w' (s.power l) ∧ Frm F.has w w' := by
  have FX := Frm.alloc F.has w (.cells #[.slice A m c] 29)
  have h1 := h.alloc (.cells #[.slice A m c] 29)
  have hbx : BoxF F.has (w.alloc (.cells #[.slice A m c] 29)) w.heap.size l := by
    refine ⟨A, c, (heap_alloc_last w _).trans (by rw [hl]), by omega, ?_⟩
    rcases hr with rfl | ⟨ad, rfl, hcl⟩
    · exact .inl rfl
    · by_cases hn : l = []
      · exact .inl hn
      · refine .inr ⟨ad, rfl, hne hn ad rfl, ?_, fun j x hj => (World.cell?_alloc_lt w _ _ (lt_of_cell (hcl j x hj))).trans (hcl j x hj)⟩
        have hp : 0 < l.length := by cases l with
          | nil => exact absurd rfl hn
          | cons => simp
        have := lt_of_cell (hcl 0 _ (List.getElem?_eq_getElem hp))
        rw [Addr.add_nought] at this
        omega
  have hq : Hid (l.length ≤ maxLen) := Lib.hid (by rw [hl]; exact hm)
  have hin := Lib.hid h.inside
  have BX := Lib.hid hbx
  have qs := Lib.hid (heap_size_alloc w (.cells #[.slice A m c] 29))
  have HO := Lib.hid h.ok
  clear h hr hne hl hbx hm hc
  go_enter Tryz.func31, Tryz.ntmps31
  go_wp2_with fail
  generalize w.alloc (.cells #[.slice A m c] 29) = W at *
  refine (waits_any h1).mono ?_
  rintro e w2 ⟨A2, c2, rfl, hrn, hA2, hb2⟩
  have h2 := Lib.hid (h1.below hb2)
  have f2 : Frm F.has w w2 := FX.trans (Frm.of_below hb2)
  have bx2 := Lib.hid (BX.out.keep (Y := fun _ => False) (Frm.of_below hb2) (fun h => h) (fun _ h => h.elim))
  have hwl : s.waits.length ≤ 4096 := Nat.le_trans (keysOf_length _ _) HO.out.many
  have RN2 := Lib.hid hrn
  have FX2 := Lib.hid f2
  clear h1 hrn f2 hb2 BX FX
  go_wp2
  go_loopw [14] (fun i wr => PowRel base F s l w A2 i wr) (fun i _ => s.waits.length - (RowKit.intOf i).toNat)
  case atStart =>
    exact ⟨0, s.rows, l, Nat.zero_le _, rfl, rfl, h2.out, bx2.out, RN2.out, FX2.out⟩
  case round =>
    obtain ⟨k, rows, fs, hk, rfl, hgo, hd, hbx, hrn, hf⟩ := hrel
    have hrl : rows.length = s.rows.length := by have := powerGo_length s.wt (s.waits.take k) (s.rows, l); rw [hgo] at this; exact this
    have hfl : fs.length ≤ maxLen := by have := powerGo_left s.wt (s.waits.take k) (s.rows, l); rw [hgo] at this; exact Nat.le_trans this hq.out
    by_cases hlt : k < s.waits.length
    · obtain ⟨n, hn⟩ : ∃ n, s.waits[k]? = some n := ⟨_, List.getElem?_eq_getElem hlt⟩
      obtain ⟨hnN, hnw⟩ := mem_keysOf.1 (List.mem_of_getElem? hn)
      obtain ⟨ln, hln⟩ := Option.isSome_iff_exists.1 hnw
      have hll := HO.out.wlen n ln hln
      rcases hrn with e | ⟨ad, rfl, hcl⟩
      · rw [e] at hlt; simp at hlt
      have hcell := hcl k n hn
      obtain ⟨nn, D, hM⟩ := hd.map.open_ hd.ok.wlt
      have d0 := hd.c0; have d1 := hd.c1
      have hgo2 := Lib.hid (show powerGo s.wt (s.waits.take (k + 1)) (s.rows, l) = (rows.set n (fate1 (rows.getD n []) ln fs).1, (fate1 (rows.getD n []) ln fs).2) from by
        rw [List.take_add_one, hn]
        show powerGo s.wt (s.waits.take k ++ [n]) _ = _
        rw [powerGo_snoc, hgo, hln]
        rfl)
      have HD := Lib.hid hd
      have HB := Lib.hid hbx
      have HC := Lib.hid hcl
      have HF := Lib.hid hf
      have HM := Lib.hid hM
      have HLN := Lib.hid hln
      have HLL := Lib.hid hll
      have HRL := Lib.hid hrl
      have HFL := Lib.hid hfl
      have kk : (k : Int) < (s.waits.length : Int) := by omega
      have k0 : 0 ≤ (k : Int) := by omega
      have hmany := HO.out.many
      clear hd hbx hcl hf hM hln hll hrl hgo hn hnw hfl
      go_wp2_with (first
        | (at_lookup; refine wpList_lookup_sec rfl (.tmp 21) (.tmp 22) rfl F.m n _ nn s.wt D ln rfl rfl (by omega) HM.out HLN.out ?_)
        | (refine wpList_store_new rfl 102 (.tmp 7) (.tmp 23) rfl Tryz.zeroCells102 (cellsB ln).toArray rfl rfl (infoSec_of HLL.out) (zeroSec_size HLL.out) (secCells_all ln) ?_)
        | fail)
      have kn := heap_alloc_last wr (.cells (cellsB ln).toArray 102)
      have h3 := HD.out.alloc (.cells (cellsB ln).toArray 102)
      have bx3 := HB.out.keep (Frm.alloc (fun _ => False) wr (.cells (cellsB ln).toArray 102)) (fun h => h) (fun _ h => h.elim)
      have f3 := HF.out.trans (Frm.alloc F.has wr (.cells (cellsB ln).toArray 102))
      have z3 := heap_size_alloc wr (.cells (cellsB ln).toArray 102)
      have cl3 : ∀ (j y : Nat), s.waits[j]? = some y → (wr.alloc (.cells (cellsB ln).toArray 102)).cell? (ad.add j) = some (.int .i64 (y : Int)) := fun j y hy => (World.cell?_alloc_lt wr _ _ (lt_of_cell (HC.out j y hy))).trans (HC.out j y hy)
      generalize wr.alloc (.cells (cellsB ln).toArray 102) = w3 at *
      refine (next_any bx3 HFL.out).mono ?_
      rintro e w4 ⟨rfl, bx4, g4⟩
      have hsw : w.heap.size < wr.heap.size := Nat.lt_of_lt_of_le (Array.getElem?_eq_some_iff.1 HB.out.choose_spec.choose_spec.1).1 (Nat.le_refl _)
      have hadb : ad.block ≠ w.heap.size := by have := hA2 ad rfl; have := qs.out; omega
      have nbf : ∀ i, F.has i → ¬ i = w.heap.size := fun i hi e => by have := hin.out i hi; omega
      have h4 := Lib.hid (h3.frm g4 nbf)
      have kn4 := Lib.hid ((g4.block _ (Array.getElem?_eq_some_iff.1 kn).1 (by omega)).trans kn)
      have f4 := Lib.hid (f3.step g4 (fun i hi hlt => by omega))
      have bx4 := Lib.hid bx4
      have cl4 : Hid (∀ (j y : Nat), s.waits[j]? = some y → w4.cell? (ad.add j) = some (.int .i64 (y : Int))) := Lib.hid fun j y hy => (g4.cell (lt_of_cell (cl3 j y hy)) (by rw [block_of_add]; exact hadb)).trans (cl3 j y hy)
      have d0 := h4.out.c0
      have hqb : Hid (w.heap.size < wr.heap.size) := Lib.hid hsw
      have hqi : Hid (∀ i, F.has i → i < wr.heap.size) := Lib.hid fun i hi => HD.out.inside i hi
      have hw34 : wr.heap.size < w4.heap.size := Nat.lt_of_lt_of_le (by omega) g4.size
      generalize wr.heap.size = q at *
      have hz0 : 0 ≤ ((tk fs).1.toNat : Int) := by omega
      have hz1 : ((tk fs).1.toNat : Int) < 256 := by have := (tk fs).1.toNat_lt; omega
      have hold : Hid (rows.set n (rows.getD n []) = rows) := Lib.hid set_getD_self
      clear kn h3 bx3 f3 z3 cl3 g4 nbf hadb hsw hcell d1 HD HB HC HF HM HLN bx2 h2 RN2 FX2
      by_cases e2 : (tk fs).1.toNat % 4 = 2
      · have E1 := Lib.hid (show fate1 (rows.getD n []) ln fs = (ln, (tk fs).2) from by unfold fate1; rw [if_pos e2])
        have t2 : ((((tk fs).1.toNat : Int) % 4) == 2) = true := by simp; omega
        rw [E1.out] at hgo2
        generalize ((tk fs).1.toNat : Int) = z at *
        generalize (tk fs).2 = fs2 at *
        obtain ⟨g, hA, hth, hra, h5, hg5⟩ := h4.out.drew.setRow (x := n) (l := ln) (show n < rows.length by have := HRL.out; omega) HLL.out
        rw [hA] at d0
        have nk : (n : Int) < (rows.length : Int) := by have := HRL.out; omega
        have n0 : 0 ≤ (n : Int) := by omega
        have H5 := Lib.hid h5
        have HT := Lib.hid hth
        have HG := Lib.hid hg5
        have Am := Lib.hid hA
        have hgi := hqi.out g (.inr (.inr ⟨_, hA, rfl⟩))
        have hgw := hin.out g (.inr (.inr ⟨_, hA, rfl⟩))
        generalize rows.length = NN at d0 nk
        clear e2 E1 h5 hth hra hg5 hA
        go_wp2
        refine wp_region_still_tail 7 (by kernel_rfl) (by kernel_rfl) ?_
        simp only [List.take_succ_cons, List.take_zero, List.drop_succ_cons, List.drop_zero]
        iterate 5 still_step
        refine wpStill_load_mid rfl 102 (.tmp 7) rfl q 0 rfl (cellsB ln) _ (range_of_heap kn4.out) Tryz.underlying102 rfl (infoSec_list HLL.out) ?_
        still_step
        refine wpStill_nil ?_
        refine wpList_store_mid rfl 102 (.tmp 35) (.tmp 34) rfl g (n * 256) (cellsB ln).toArray rfl rfl (by rw [List.size_toArray, length_cellsB, HLL.out]; exact HT.out) (infoSec_of HLL.out) (secCells_all ln) ?_
        have e5 : (cellsB ln).toArray.toList = cellsB ln := rfl
        rw [e5]
        clear e5 d0 nk n0
        generalize hw5 : World.setCells { w4 with drawn := w4.drawn + 1 } g (n * 256) (cellsB ln) = w5
        have hw5' : w4.drew.setCells g (n * 256) (cellsB ln) = w5 := hw5
        have HW5 := Lib.hid hw5'
        clear hw5 hw5'
        go_wp2
        have g5 : w4.drew.grownBy w5 (some g) := by rw [← HW5.out]; exact HG.out
        have f5 : Frm (fun i => i = g) w4 w5 := (Frm.drew _ _).trans (Frm.grown g5 fun i e => by injection e with e; exact e.symm)
        go_roundw
        case rel =>
          refine ⟨k + 1, rows.set n ln, fs2, by omega, by go_num, hgo2.out, ?_, bx4.out.keep f5 (by omega) (fun i hi => .inl (by subst hi; exact .inr (.inr ⟨_, Am.out, rfl⟩))), .inr ⟨ad, rfl, fun j y hy => (f5.cell (lt_of_cell (cl4.out j y hy)) ?_).trans (cl4.out j y hy)⟩, f4.out.trans (f5.mono fun i hi => by subst hi; exact .inr (.inr ⟨_, Am.out, rfl⟩))⟩
          · have h5 := H5.out
            rw [HW5.out] at h5
            exact h5
          · rw [block_of_add]
            have := hA2 ad rfl; have := qs.out; omega
        case measure => simp [RowKit.intOf]; omega
      · by_cases e3 : (tk fs).1.toNat % 4 = 3
        · have E1 := Lib.hid (show fate1 (rows.getD n []) ln fs = (ln.take (tk (tk fs).2).1.toNat ++ (rows.getD n []).drop (tk (tk fs).2).1.toNat, (tk (tk fs).2).2) from by unfold fate1; rw [if_neg e2, if_pos e3])
          have t2 : ((((tk fs).1.toNat : Int) % 4) == 2) = false := by simp; omega
          have t3 : ((((tk fs).1.toNat : Int) % 4) == 3) = true := by simp; omega
          rw [E1.out] at hgo2
          have tl : (tk fs).2.length ≤ maxLen := Nat.le_trans (tk_len fs) HFL.out
          generalize ((tk fs).1.toNat : Int) = z at *
          generalize (tk fs).2 = fs2 at *
          have y1 : (tk fs2).1.toNat ≤ 256 := by have := (tk fs2).1.toNat_lt; omega
          have HN := Lib.hid (show ∀ W, BoxF F.has W w.heap.size fs2 → Calls Tryz.prog 72 #[.pointer (some ⟨w.heap.size, 0, none⟩)] W fun e w' => e = .returned (.int .u8 ((tk fs2).1.toNat : Int)) ∧ BoxF F.has w' w.heap.size (tk fs2).2 ∧ Frm (fun i => i = w.heap.size) W w' from fun W hW => next_any hW tl)
          obtain ⟨g, hA, _, _, _, _⟩ := h4.out.drew.setRow (x := n) (l := ln) (show n < rows.length by have := HRL.out; omega) HLL.out
          rw [hA] at d0
          have nk : (n : Int) < (rows.length : Int) := by have := HRL.out; omega
          have n0 : 0 ≤ (n : Int) := by omega
          have nk' := Lib.hid (show n < rows.length by have := HRL.out; omega)
          have Am := Lib.hid hA
          have hgi := hqi.out g (.inr (.inr ⟨_, hA, rfl⟩))
          have hgw := hin.out g (.inr (.inr ⟨_, hA, rfl⟩))
          have y0 : 0 ≤ ((tk fs2).1.toNat : Int) := by omega
          have y2 : ((tk fs2).1.toNat : Int) ≤ 256 := by omega
          generalize (tk fs2).1.toNat = y at *
          generalize (tk fs2).2 = fs3 at *
          generalize hNN : rows.length = NN at d0 nk
          have nbf := Lib.hid (show ∀ i, F.has i → ¬ i = w.heap.size from fun i hi e => by have := hin.out i hi; omega)
          have bnb := Lib.hid (show F.b ≠ w.heap.size from fun e => nbf.out _ (.inl rfl) e)
          have HNN := Lib.hid hNN
          have hd4 := Lib.hid h4.out.drew
          have HAft := Lib.hid (show ∀ w5, Frm (fun i => i = w.heap.size) w4.drew w5 → Hid (DkAt base F w5 { s with rows := rows }) ∧ w5.cell? ⟨F.b, 0, none⟩ = some (.slice (some ⟨g, 0, none⟩) NN F.cap) ∧ Hid (w5.heap[q]? = some (.cells (cellsB ln).toArray 102 (0, 0))) from fun w5 g5 => by
            have h5 := hd4.out.frm g5 nbf.out
            have e5 := h5.c0
            rw [Am.out] at e5
            exact ⟨h5, by rw [← HNN.out]; exact e5, (g5.block q hw34 (by have := hqb.out; omega)).trans kn4.out⟩)
          have bx4d := Lib.hid (show BoxF F.has w4.drew w.heap.size fs2 from bx4.out)
          have HC6 := Lib.hid (show ∀ w6 r, DkAt base F w6 { s with rows := rows.set n r } → w6.cell? ⟨F.b, 0, none⟩ = some (.slice (some ⟨g, 0, none⟩) NN F.cap) from fun w6 r h6 => by
            have e6 := h6.c0
            rw [Am.out] at e6
            simp only [List.length_set] at e6
            rw [← HNN.out]
            exact e6)
          clear e2 e3 E1 tl hNN hA
          go_wp2
          go_region_held3 (fun W => W.cell? ⟨F.b, 0, none⟩ = some (.slice (some ⟨g, 0, none⟩) NN F.cap)) (first | exact d0 | assumption)
            (first
              | (go_at_call 72; refine (HN.out _ bx4d.out).mono ?_; rintro e w5 ⟨rfl, bx5, g5⟩; obtain ⟨H5, c5, kn5⟩ := HAft.out w5 g5)
              | (refine step_copy_sec rfl (.tmp 46) (.tmp 47) rfl H5.out n g q y _ _ ln nk'.out Am.out y1 HLL.out kn5.out rfl rfl ?_; intro w6 h6 g6; have c6 := HC6.out w6 _ h6)
              | fail)
          all_goals
            have f6 : Frm (fun i => i = g) w5 w6 := Frm.grown g6 fun i e => by injection e with e; exact e.symm
            have H6 := Lib.hid h6
            have hcl6 : ∀ (j y : Nat), s.waits[j]? = some y → w6.cell? (ad.add j) = some (.int .i64 (y : Int)) := fun j y hy => by
              have hb1 : (ad.add j).block ≠ w.heap.size := by rw [block_of_add]; have := hA2 ad rfl; have := qs.out; omega
              have hb2 : (ad.add j).block ≠ g := by rw [block_of_add]; have := hA2 ad rfl; have := qs.out; omega
              have c4 := cl4.out j y hy
              have c5' : w5.cell? (ad.add j) = some (.int .i64 (y : Int)) := (g5.cell (show (ad.add j).block < _ from lt_of_cell c4) hb1).trans c4
              exact (f6.cell (lt_of_cell c5') hb2).trans c5'
            have HCL6 := Lib.hid hcl6
            clear h6 hcl6 c5 c6
            go_wp2
            go_roundw
            case rel =>
              exact ⟨k + 1, _, fs3, by omega, by go_num, hgo2.out, H6.out, bx5.keep f6 (by omega) (fun i hi => .inl (by subst hi; exact .inr (.inr ⟨_, Am.out, rfl⟩))), .inr ⟨ad, rfl, HCL6.out⟩,
                ((f4.out.trans (Frm.drew _ _)).step g5 (fun i hi hlt => by omega)).trans (f6.mono fun i hi => by subst hi; exact .inr (.inr ⟨_, Am.out, rfl⟩))⟩
            case measure => simp [RowKit.intOf]; omega
        · have E1 := Lib.hid (show fate1 (rows.getD n []) ln fs = (rows.getD n [], (tk fs).2) from by unfold fate1; rw [if_neg e2, if_neg e3])
          have t2 : ((((tk fs).1.toNat : Int) % 4) == 2) = false := by simp; omega
          have t3 : ((((tk fs).1.toNat : Int) % 4) == 3) = false := by simp; omega
          rw [E1.out] at hgo2
          have hgo2 := hgo2.out
          rw [hold.out] at hgo2
          have hgo2 := Lib.hid hgo2
          generalize ((tk fs).1.toNat : Int) = z at *
          generalize (tk fs).2 = fs2 at *
          clear e2 e3 E1
          go_wp2
          go_roundw
          case rel => exact ⟨k + 1, rows, fs2, by omega, by go_num, hgo2.out, h4.out, bx4.out, .inr ⟨ad, rfl, cl4.out⟩, f4.out⟩
          case measure => simp [RowKit.intOf]; omega
    · obtain rfl : k = s.waits.length := by omega
      have hp := Lib.hid (show s.power l = { s with rows := rows, wt := fun _ => none, off := false, fset := false, left := 0, done := false } from by
        unfold Dk.power
        rw [List.take_length] at hgo
        rw [hgo])
      have d1 := hd.c1
      have HD := Lib.hid hd
      have HF := Lib.hid hf
      clear hd hbx hrn hf hgo hrl hfl
      go_wp2_with (with_reducible refine wpList_clear rfl (.tmp 53) rfl F.m s.wt rfl HD.out.map ?_; intro w5 hm5 hg5; have f5 : Frm (fun i => i = F.m) wr w5 := Frm.grown hg5 (fun i e => by injection e with e; exact e.symm); have h5 := HD.out.cleared hm5 f5; have j3 := h5.c3; have j4 := h5.c4; have j5 := h5.c5; have j6 := h5.c6; have i3 := h5.frozenAt 3; have i4 := h5.frozenAt 4; have i5 := h5.frozenAt 5; have i6 := h5.frozenAt 6; have H5 := Lib.hid h5; have F5 := Lib.hid f5; clear h5 f5 hm5 hg5)
      go_end0
      refine ⟨rfl, ?_, HF.out.trans ((F5.out.mono fun i hi => .inr (.inl hi)).trans ((Frm.setCell _ _ _ (.inl rfl)).trans ((Frm.setCell _ _ _ (.inl rfl)).trans ((Frm.setCell _ _ _ (.inl rfl)).trans (Frm.setCell _ _ _ (.inl rfl))))))⟩
      rw [hp.out]
      exact (H5.out.field (s' := { s with rows := rows, wt := fun _ => none, off := false }) 3 (.bool false) rfl rfl (by simp [dkCells]) H5.out.ok.left).fail false 0 false (by omega)
end Go.Proofs.YtegjeijiekggdaaGreatDoor
end
