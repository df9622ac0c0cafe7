/- The package sector: Waits. The package sector: the next byte of fates. The package sector: what a loss of power leaves (plain). -/
import Derived.Test.YtochifbbefbehaaScK
import Derived.Test.YtochifbbefbehaaShelf
namespace Go.Proofs.Ytochifbbefbehaa
open Go.RowKit Go.Maps Go.Sort Go.Shelf
set_option linter.unusedVariables false
/-- The slice at the address A reads as the numbers l in w. -/
def RN (w : World) (A : Option Addr) (l : List Nat) : Prop :=
  l = [] ∨ ∃ ad, A = some ad ∧ ∀ (j k : Nat), l[j]? = some k → w.cell? (ad.add j) = some (.int .i64 (k : Int))
theorem RN.keep {w w' : World} {A : Option Addr} {l : List Nat} (h : RN w A l) (hk : ∀ p : Addr, p.block < w.heap.size → (∀ ad, A = some ad → p.block = ad.block) → w'.cell? p = w.cell? p) : RN w' A l := by
  rcases h with rfl | ⟨ad, rfl, hc⟩
  · exact .inl rfl
  · exact .inr ⟨ad, rfl, fun j x hx => (hk _ (lt_of_cell (hc j x hx)) (fun ad' e => by injection e with e; subst e; exact block_of_add _ _)).trans (hc j x hx)⟩
def Dk.waits (s : Dk) : List Nat := keysOf s.wt s.rows.length
theorem sortsA (m : Nat) : AnyZI.SortsIn Try.prog Try.sortedA_ren Fence.wide m :=
  ⟨fun blk off cap ss W hH hblk hsz => callsIn_wide.2 (AnyM.slices_Sort_int Try.sortA blk off cap ss W hH hblk hsz),
   fun p cap W => callsIn_wide.2 (AnyM.slices_Sort_int_none Try.sortA p cap W)⟩
theorem keys_any (mb : Option Nat) (w : World) : Calls Try.prog 48 #[.map mb] w fun e w' => e = .returned (.func (.func 59) #[] #[.pointer (some ⟨w.heap.size, 0, none⟩)]) ∧ w' = w.alloc (.cells #[.map mb] 50) :=
  (callsIn_wide (n := 5)).1 (AnyZI.keys_in Try.keysA Fence.wide 5 trivial rfl mb w)
set_option maxHeartbeats 1000000 in
theorem sorted_any {b nn : Nat} {D0 : DataW Unit} {w : World} (hown : w.ownsMap Try.prog 3 secR b nn D0) (hmax : Maps.size D0 ≤ 4096) :
    Calls Try.prog 47 #[.func (.func 59) #[] #[.pointer (some ⟨w.heap.size, 0, none⟩)]] (w.alloc (.cells #[.map (some b)] 50)) fun e w' => ∃ (v : Value) (ss : List Int), e = .returned v ∧ ss.Perm (intKeys D0) ∧
      w'.ownsRow (w.heap.size + 1) 3 1 v ss.length ((ss.mergeSort (fun x y => decide (x ≤ y))).map encZ) ∧ Below (w.heap.size + 1) (w.alloc (.cells #[.map (some b)] 50)) w' := by
  have hbl := hown.lt
  have hseq : SeqGives Fence.wide 2 Try.prog 59 #[.pointer (some ⟨w.heap.size, 0, none⟩)] encZ (fun ss => ss.Perm (intKeys D0)) (Maps.size D0) (w.alloc (.cells #[.map (some b)] 50)) :=
    AnyZI.keys_gives (ρ := Try.keysA_ren) { Try.keysA with } Fence.wide _ trivial rfl (by omega) w.heap.size b nn D0 _ (by simp) (by simp) (by
      obtain ⟨es, clock, hb, Ft, hs, hD⟩ := hown
      exact ⟨es, clock, (Below.heap_alloc _ _ b hbl).trans hb, Ft, hs, hD⟩)
  have cS := AnyZI.sorted_in Try.sortedA Fence.wide 5 trivial trivial trivial trivial rfl (by omega) (sortsA _) (enters_of Try.func58 (by kernel_rfl) rfl) 59 #[.pointer (some ⟨w.heap.size, 0, none⟩)] trivial (enters_of Try.func59 (by kernel_rfl) rfl) _ _ (by simp only [maxLen]; omega) (by omega) _ hseq
  change CallsIn _ _ Try.prog 47 _ _ _ at cS
  refine (callsIn_wide.1 cS).mono ?_
  rintro e w' ⟨v, ss, rfl, hS, hrow, hnil, hb⟩
  rw [heap_size_alloc] at hrow hb
  exact ⟨v, ss, rfl, hS, hrow, hb⟩
set_option maxHeartbeats 1000000 in
theorem waits_any {base : Nat} {F : Ft} {w : World} {s : Dk} (h : DkAt base F w s) : Calls Try.prog 31 #[.pointer (some ⟨F.b, 0, none⟩)] w fun e w' => ∃ A c, e = .returned (.slice A s.waits.length c) ∧ RN w' A s.waits ∧ (∀ ad, A = some ad → w.heap.size ≤ ad.block) ∧ Below w.heap.size w w' := by
  have c1 := h.c1
  obtain ⟨nn, D, hM⟩ := h.map.open_ h.ok.wlt
  have hmany := h.ok.many
  have hsz := hM.size
  have HS := Lib.hid (sorted_any hM.owns (by omega))
  have HP := Lib.hid hM.perm
  clear h hM
  go_enter Try.func31, Try.ntmps31
  go_wp2_with (first
    | (go_at_call 48; refine (keys_any _ _).mono ?_; rintro e w' ⟨rfl, rfl⟩)
    | (go_at_call 47; refine HS.out.mono ?_; rintro e w' ⟨v, ss, rfl, hS, hrow, hb⟩))
  go_ret
  have hp := (HP.out.trans hS.symm)
  have hlen : ss.length = s.waits.length := by rw [← hp.length_eq, List.length_map]; rfl
  have hms : ss.mergeSort (fun x y => decide (x ≤ y)) = s.waits.map fun k : Nat => (k : Int) := by
    rw [← mergeSort_of_perm_i hp]
    exact sorted_cast (keysOf_sorted _ _)
  rw [hms, hlen] at hrow
  have hB : Below w.heap.size w w' := ((Below.refl _ w).alloc (Nat.le_refl _) _).trans (hb.mono (by omega))
  rcases hrow.2 with ⟨rfl, h0⟩ | ⟨g, cap, cur, rfl, hbase, hg, r1, r2, r3, r4⟩
  · have e0 : s.waits = [] := List.eq_nil_of_length_eq_zero h0
    exact ⟨none, 0, by rw [e0]; rfl, .inl e0, (fun ad e => by cases e), hB⟩
  · refine ⟨some ⟨g, 0, none⟩, cap, rfl, .inr ⟨_, rfl, fun j k hj => ?_⟩, (fun ad e => by injection e with e; subst e; show w.heap.size ≤ g; omega), hB⟩
    exact World.ownsRow.cells hrow (g := g) rfl j _ (by simp [hj, encZ])
end Go.Proofs.Ytochifbbefbehaa
namespace Go.Proofs.Ytochifbbefbehaa
open Go.RowKit
set_option linter.unusedVariables false
/-- The next byte of fates, and what is left. -/
def tk : List UInt8 → UInt8 × List UInt8
  | [] => (0, [])
  | f :: r => (f, r)
/-- The slice at A reads as l, and none of its bytes lie in X or in block B. -/
def RBX (X : Nat → Prop) (B : Nat) (w : World) (A : Option Addr) (l : List UInt8) : Prop :=
  l = [] ∨ ∃ ad, A = some ad ∧ ¬ X ad.block ∧ ad.block ≠ B ∧ ∀ (j : Nat) (x : UInt8), l[j]? = some x → w.cell? (ad.add j) = some (.int .u8 (x.toNat : Int))
/-- The variable in block B has a slice that reads as l, none of whose bytes lie in X. -/
def BoxF (X : Nat → Prop) (w : World) (B : Nat) (l : List UInt8) : Prop :=
  ∃ A c, w.heap[B]? = some (.cells #[.slice A l.length c] 32 (0, 0)) ∧ l.length ≤ c ∧ RBX X B w A l
theorem BoxF.keep {X Y : Nat → Prop} {w w' : World} {B : Nat} {l : List UInt8} (h : BoxF X w B l) (hf : Frm Y w w') (hB : ¬ Y B) (hY : ∀ i, Y i → X i ∨ w.heap.size ≤ i) : BoxF X w' B l := by
  obtain ⟨A, c, hh, hc, hr⟩ := h
  have hlt := (Array.getElem?_eq_some_iff.1 hh).1
  refine ⟨A, c, (hf.block _ hlt hB).trans hh, hc, ?_⟩
  rcases hr with rfl | ⟨ad, rfl, hx1, hx2, hcell⟩
  · exact .inl rfl
  · refine .inr ⟨ad, rfl, hx1, hx2, fun j x hj => ?_⟩
    have h1 := hcell j x hj
    have h2 := lt_of_cell h1
    rw [hf.cell h2 (fun hy => by
      rw [block_of_add] at hy h2
      rcases hY _ hy with h | h
      · exact hx1 h
      · omega)]
    exact h1
theorem RBX.setCell {X : Nat → Prop} {B : Nat} {w : World} {A : Option Addr} {l : List UInt8} (h : RBX X B w A l) (v : Value) : RBX X B (w.setCell ⟨B, 0, none⟩ v) A l := by
  rcases h with rfl | ⟨ad, rfl, hx1, hx2, hc⟩
  · exact .inl rfl
  · refine .inr ⟨ad, rfl, hx1, hx2, fun j x hj => ?_⟩
    have h1 := hc j x hj
    have : (w.setCell ⟨B, 0, none⟩ v).heap[(ad.add j).block]? = w.heap[(ad.add j).block]? := Below.heap_setCell _ _ _ _ (by rw [block_of_add]; exact hx2)
    rw [World.cell?_of_block (w := w) this]
    exact h1
set_option maxHeartbeats 1000000 in
theorem next_any {X : Nat → Prop} {w : World} {B : Nat} {l : List UInt8} (h : BoxF X w B l) (hm : l.length ≤ maxLen) :
    Calls Try.prog 30 #[.pointer (some ⟨B, 0, none⟩)] w fun e w' => e = .returned (.int .u8 ((tk l).1.toNat : Int)) ∧ BoxF X w' B (tk l).2 ∧ Frm (fun k => k = B) w w' := by
  obtain ⟨A, c, hh, hc, hr⟩ := h
  have hcell : w.cell? ⟨B, 0, none⟩ = some (.slice A l.length c) := by
    rw [cell_of_row w B 0 _ _ _ hh]; rfl
  have hfro : w.frozen? ⟨B, 0, none⟩ = false := by simp [World.frozen?, hh]
  have HH := Lib.hid hh
  clear hh
  unfold maxLen at hm
  cases l with
  | nil =>
    go_enter Try.func30, Try.ntmps30
    go_wp2
    go_ret
    exact ⟨rfl, ⟨A, c, HH.out, hc, .inl rfl⟩, Frm.refl _ _⟩
  | cons f r =>
    rcases hr with hr | ⟨ad, rfl, hx1, hx2, hcl⟩
    · cases hr
    have h0 := hcl 0 f rfl
    rw [Addr.add_nought] at h0
    have HC := Lib.hid hcl
    generalize hn : (f :: r).length = n at *
    have hn0 : r.length + 1 = n := by simpa using hn
    have hpos : 0 < n := by omega
    have hnb : ((n : Int) == 0) = false := by simp; omega
    have HN := Lib.hid hn0
    have n0 : (1 : Int) ≤ (n : Int) := by omega
    have n1 : (n : Int) ≤ (c : Int) := by omega
    clear hcl hn hn0
    have Hend : ∀ (A' : Option Addr) (c' : Nat), r.length ≤ c' → RBX X B w A' r → BoxF X (w.setCell ⟨B, 0, none⟩ (.slice A' r.length c')) B r := fun A' c' h1 h2 => by
      refine ⟨A', c', ?_, h1, h2.setCell _⟩
      rw [heap_setCell_block _ HH.out]
      rfl
    have HEnd := Lib.hid Hend
    clear Hend
    have hrb : RBX X B w (some (ad.add 1)) r := .inr ⟨_, rfl, by rw [block_of_add]; exact hx1, by rw [block_of_add]; exact hx2, fun j x hj => by
      rw [add_of_add, Nat.add_comm]
      exact HC.out (j + 1) x (by simpa using hj)⟩
    have HRB := Lib.hid hrb
    clear hrb
    by_cases hck : c = 1
    · subst hck
      obtain rfl : r = [] := List.eq_nil_of_length_eq_zero (by have := HN.out; omega)
      obtain rfl : 1 = n := HN.out
      go_enter Try.func30, Try.ntmps30
      go_wp2
      go_ret
      refine ⟨rfl, ?_, Frm.setCell _ _ _ rfl⟩
      exact HEnd.out (some ad) 0 (Nat.le_refl _) (.inl rfl)
    · go_enter Try.func30, Try.ntmps30
      go_wp2
      go_ret
      refine ⟨rfl, ?_, Frm.setCell _ _ _ rfl⟩
      have e := HEnd.out (some (ad.add 1)) (c - 1) (by have := HN.out; omega) HRB.out
      rw [Addr.add_one_, show r.length = n - 1 by have := HN.out; omega] at e
      exact e
end Go.Proofs.Ytochifbbefbehaa
namespace Go.Proofs.Ytochifbbefbehaa
open Go.RowKit
set_option linter.unusedVariables false
/-- What a sector that waits has behind a loss of power: old was safe, new it has; and the fates that are left. -/
def fate1 (old new : List UInt8) (fs : List UInt8) : List UInt8 × List UInt8 :=
  if (tk fs).1.toNat % 4 = 2 then (new, (tk fs).2)
  else if (tk fs).1.toNat % 4 = 3 then (new.take (tk (tk fs).2).1.toNat ++ old.drop (tk (tk fs).2).1.toNat, (tk (tk fs).2).2)
  else (old, (tk fs).2)
/-- One sector after the other. -/
def powerGo (wt : Nat → Option (List UInt8)) : List Nat → List (List UInt8) × List UInt8 → List (List UInt8) × List UInt8
  | [], p => p
  | n :: ns, p => powerGo wt ns (p.1.set n (fate1 (p.1.getD n []) ((wt n).getD []) p.2).1, (fate1 (p.1.getD n []) ((wt n).getD []) p.2).2)
theorem powerGo_snoc (wt : Nat → Option (List UInt8)) : ∀ (ns : List Nat) (n : Nat) (p : List (List UInt8) × List UInt8), powerGo wt (ns ++ [n]) p =
    ((powerGo wt ns p).1.set n (fate1 ((powerGo wt ns p).1.getD n []) ((wt n).getD []) (powerGo wt ns p).2).1, (fate1 ((powerGo wt ns p).1.getD n []) ((wt n).getD []) (powerGo wt ns p).2).2)
  | [], n, p => rfl
  | m :: ns, n, p => by
    show powerGo wt (ns ++ [n]) _ = _
    rw [powerGo_snoc wt ns n]
    rfl
theorem powerGo_length (wt : Nat → Option (List UInt8)) : ∀ (ns : List Nat) (p : List (List UInt8) × List UInt8), (powerGo wt ns p).1.length = p.1.length
  | [], p => rfl
  | n :: ns, p => by
    show (powerGo wt ns _).1.length = _
    rw [powerGo_length wt ns, List.length_set]
theorem tk_len (l : List UInt8) : (tk l).2.length ≤ l.length := by cases l <;> simp [tk]
theorem fate1_left (o n l : List UInt8) : (fate1 o n l).2.length ≤ l.length := by
  have h1 := tk_len l
  have h2 := tk_len (tk l).2
  unfold fate1
  split
  · exact h1
  · split
    · show (tk (tk l).2).2.length ≤ _; omega
    · exact h1
theorem powerGo_left (wt : Nat → Option (List UInt8)) : ∀ (ns : List Nat) (p : List (List UInt8) × List UInt8), (powerGo wt ns p).2.length ≤ p.2.length
  | [], p => Nat.le_refl _
  | n :: ns, p => Nat.le_trans (powerGo_left wt ns _) (fate1_left _ _ _)
def Dk.power (s : Dk) (fates : List UInt8) : Dk :=
  { s with rows := (powerGo s.wt s.waits (s.rows, fates)).1, wt := fun _ => none, off := false, fset := false, left := 0, done := false }
theorem set_getD_self {rows : List (List UInt8)} {n : Nat} : rows.set n (rows.getD n []) = rows := by
  apply List.ext_getElem
  · simp
  · intro i h1 h2
    rw [List.getElem_set]
    split
    · rename_i e; subst e; simp [List.getElem?_eq_getElem h2]
    · rfl
theorem split_part (X k n : Nat) (cur row : List Value) (hrow : (cur.drop X).take n = row) (hk : k ≤ n) (hX : X + n ≤ cur.length) : cur.drop (X + k) = row.drop k ++ cur.drop (X + n) := by
  subst hrow
  have e : cur.drop (X + n) = (cur.drop X).drop n := by rw [List.drop_drop]
  rw [e, ← List.drop_drop]
  generalize cur.drop X = c
  conv => lhs; rw [← List.take_append_drop n c]
  rw [List.drop_append]
  by_cases h : k ≤ (c.take n).length
  · rw [Nat.sub_eq_zero_of_le h, List.drop_zero]
  · have h1 : c.length < k := by rw [List.length_take] at h; omega
    rw [List.drop_of_length_le (l := c) (i := n) (by omega), List.drop_nil]
set_option maxRecDepth 100000 in
theorem step_copy_sec {ops : Array Oper} {o : Oper} {a : Act} {K : Act → World → Prop} {Q : Exit → Act → World → Prop} {E : Prop} {base : Nat} {F : Ft} {w : World} {t : Dk} (hgd : o.guard = none) (d x : Operand)
    (ho : o.op = .call { callee := .builtin .copy, args := #[d, x], argTypes := #[32, 32] }) (h : DkAt base F w t) (n g q k dc sc : Nat) (ln : List UInt8) (hn : n < t.rows.length) (hA : F.A = some ⟨g, 0, none⟩) (hk : k ≤ 256) (hl : ln.length = 256)
    (hq : w.heap[q]? = some (.cells (cellsB ln).toArray 67 (0, 0))) (hd : a.eval d = .slice (some ⟨g, n * 256, none⟩) k dc) (hx : a.eval x = .slice (some ⟨q, 0, none⟩) 256 sc)
    (hK : ∀ w', DkAt base F w' { t with rows := t.rows.set n (ln.take k ++ (t.rows.getD n []).drop k) } → w.grownBy w' (some g) → K (a.put o.dst (.int .i64 (k : Int))) w') :
    if Region.wanted o (yielded ops a.tmps) = true then Oper.wp Try.prog o a w K Q else E := by
  have hw : Region.wanted o (yielded ops a.tmps) = true := by simp [Region.wanted, hgd]
  rw [if_pos hw]
  have hrow : (t.rows.getD n []).length = 256 := by
    refine h.ok.each _ ?_
    rw [List.getD_eq_getElem?_getD, List.getElem?_eq_getElem hn]
    exact List.getElem_mem hn
  have hnew : (ln.take k ++ (t.rows.getD n []).drop k).length = 256 := by rw [List.length_append, List.length_take, List.length_drop, hl, hrow]; omega
  obtain ⟨g', hA', hth, hra, h2, hg2⟩ := h.setRow hn hnew
  obtain rfl : g = g' := by rw [hA] at hA'; injection hA' with e; injection e
  rcases h.rowat with ⟨e, _⟩ | ⟨g', cur, e, _, hg, _, hcap, hsz, htake⟩
  · rw [e] at hA; cases hA
  obtain rfl : g = g' := by rw [hA] at e; injection e with e; injection e
  have hxs : n * 256 + 256 ≤ t.rows.length * 256 := by omega
  have hcs : t.rows.length * 256 ≤ cur.size := by rw [hsz]; exact Nat.mul_le_mul_right _ hcap
  have hcl : (cellsB (ln.take k)).length = k := by rw [length_cellsB, List.length_take, hl]; omega
  have hrun := run_copy_row (P := Try.prog) w 32 32 o.type 5 g (n * 256) k dc ⟨q, 0, none⟩ 256 sc cur _ (cellsB (ln.take k)) Try.underlying32 (by kernel_rfl) hg (by rw [hcl]; exact (Nat.min_eq_right hk).symm) (fun j v hv => by
      rw [Addr.add_mid, Nat.zero_add, cell_of_row w q j _ _ _ hq]
      simp only [cellsB, List.getElem?_map, Option.map_eq_some_iff, List.getElem?_take] at hv
      obtain ⟨y, hy, rfl⟩ := hv
      split at hy
      · simp [cellsB, hy]
      · cases hy) (by rw [hcl]; omega) (oneCells_B _)
  have hold : (cur.toList.drop (n * 256)).take 256 = cellsB (t.rows.getD n []) := by
    have hrow' : t.rows[n]? = some (t.rows.getD n []) := by rw [List.getD_eq_getElem?_getD, List.getElem?_eq_getElem hn]; rfl
    have e1 := flatten_row t.rows n _ h.ok.each hrow'
    have e2 : (cur.toList.drop (n * 256)).take 256 = ((cur.toList.take (t.rows.length * 256)).drop (n * 256)).take 256 := by
      rw [List.drop_take, List.take_take, Nat.min_eq_left (by omega)]
    rw [e2, htake, ← e1]
    simp [cellsB, List.map_take, List.map_drop]
  have hpart := split_part (n * 256) k 256 cur.toList _ hold hk (by simp only [Array.length_toList]; omega)
  have hnewcells : cellsB (ln.take k ++ (t.rows.getD n []).drop k) = cellsB (ln.take k) ++ (cellsB (t.rows.getD n [])).drop k := by simp [cellsB, List.map_drop]
  have hworld : w.setRow g (cur.toList.take (n * 256) ++ cellsB (ln.take k) ++ cur.toList.drop (n * 256 + (cellsB (ln.take k)).length)).toArray = w.setCells g (n * 256) (cellsB (ln.take k ++ (t.rows.getD n []).drop k)) := by
    rw [setCells_eq hg (by rw [length_cellsB, hnew]; omega) (oneCells_B _), length_cellsB, length_cellsB, hnew, hnewcells, List.length_take, hl, Nat.min_eq_left hk, hpart]
    simp only [List.append_assoc]
  unfold Oper.wp execOp
  simp only [ho, resolve, invoke, builtin, Sem.run_bind, Sem.run_pure, Result.andThen_ok, List.map_toArray, List.map_cons, List.map_nil, hd, hx, hrun, hworld]
  have e3 : goInt (cellsB (ln.take k)).length = .int .i64 (k : Int) := by rw [hcl]; rfl
  rw [e3]
  exact hK _ h2 hg2
/-- Between two rounds of Power's loop. -/
def PowRel (base : Nat) (F : Ft) (s : Dk) (l : List UInt8) (w : World) (A : Option Addr) (i : Value) (wr : World) : Prop :=
  ∃ (k : Nat) (rows : List (List UInt8)) (fs : List UInt8), k ≤ s.waits.length ∧ i = .int .i64 (k : Int) ∧ powerGo s.wt (s.waits.take k) (s.rows, l) = (rows, fs) ∧ DkAt base F wr { s with rows := rows } ∧ BoxF F.has wr w.heap.size fs ∧ RN wr A s.waits ∧ Frm F.has w wr
end Go.Proofs.Ytochifbbefbehaa
