/- Joined: StF StG. -/
import Derived.Test.YtegjeijiekggdaaGreatDoorM32
import Derived.Test.YtegjeijiekggdaaGreatDoorM15
import Derived.Test.YtegjeijiekggdaaGreatDoorM14
import Derived.Test.YtegjeijiekggdaaGreatDoorM34
section
/- The package store: the sectors of both slots are read; the greatest generation that was seen. -/
namespace Go.Proofs.YtegjeijiekggdaaGreatDoor
open Go.RowKit
set_option linter.unusedVariables false
set_option linter.unusedSimpArgs false
/-- While a list of sectors grows: the first k of M are in it, in blocks of their own, apart from the box gx. -/
def RowL (base gx : Nat) (M : List (List UInt8)) (k : Nat) (v : Value) (wr : World) : Prop :=
  ∃ vs : List Value, wr.ownsRow base 29 1 v k vs ∧
    (∀ (j : Nat) (l : List UInt8), (M.take k)[j]? = some l → ∃ (B : Option Addr) (c : Nat), vs[j]? = some (.slice B l.length c) ∧ l.length ≤ c ∧ c ≤ maxLen ∧ RB wr B l ∧ (∀ bd, B = some bd → l ≠ [] → bd.block < wr.heap.size ∧ v.ownBlock ≠ some bd.block ∧ bd.block ≠ gx)) ∧
    base ≤ wr.heap.size
theorem RowL.start {base gx : Nat} {wr : World} {M : List (List UInt8)} (hb : base ≤ wr.heap.size) : RowL base gx M 0 (.slice none 0 0) wr :=
  ⟨[], World.ownsRow_nil wr base 29 1, fun j l hj => by simp at hj, hb⟩
theorem RowL.below {base gx : Nat} {wr W : World} {M : List (List UInt8)} {k : Nat} {v : Value} (h : RowL base gx M k v wr) (hb : Below wr.heap.size wr W) : RowL base gx M k v W := by
  obtain ⟨vs, h1, h2, h3⟩ := h
  refine ⟨vs, ownsRow_below h1 hb, fun j l hj => ?_, Nat.le_trans h3 hb.size⟩
  obtain ⟨B, c, g1, g2, g3, g4, g5⟩ := h2 j l hj
  exact ⟨B, c, g1, g2, g3, g4.below hb, fun bd e hl => ⟨Nat.lt_of_lt_of_le (g5 bd e hl).1 hb.size, (g5 bd e hl).2⟩⟩
theorem RowL.box {base gx : Nat} {wr : World} {M : List (List UInt8)} {k i : Nat} {v : Value} (h : RowL base gx M k v wr) (hg : gx < base) (x : Value) : RowL base gx M k v (wr.setCell ⟨gx, i, none⟩ x) := by
  obtain ⟨vs, h1, h2, h3⟩ := h
  have hz : (wr.setCell ⟨gx, i, none⟩ x).heap.size = wr.heap.size := by simp [World.setCell]
  refine ⟨vs, ?_, fun j l hj => ?_, by rw [hz]; exact h3⟩
  · refine ⟨h1.1, ?_⟩
    rcases h1.2 with h | ⟨g, cap, cur, e, hb', hh, r⟩
    · exact .inl h
    · exact .inr ⟨g, cap, cur, e, hb', (Below.heap_setCell _ _ _ _ (show g ≠ gx by omega)).trans hh, r⟩
  · obtain ⟨B, c, g1, g2, g3, g4, g5⟩ := h2 j l hj
    refine ⟨B, c, g1, g2, g3, ?_, fun bd e hl => by rw [hz]; exact g5 bd e hl⟩
    rcases g4 with rfl | ⟨bd, rfl, hc⟩
    · exact .inl rfl
    · refine .inr ⟨bd, rfl, fun q y hq => ?_⟩
      have h6 := (g5 bd rfl (fun e => by subst e; simp at hq)).2.2
      have h7 := hc q y hq
      rw [← h7]
      exact World.cell?_of_block (Below.heap_setCell _ _ _ _ (by rw [block_of_add]; exact h6))
theorem RowL.append {base gx : Nat} {W : World} {M : List (List UInt8)} {k : Nat} {v : Value} (ty : TypeId) (h : RowL base gx M k v W) (hk : k ≤ 1000) {l : List UInt8} (hM : M[k]? = some l) {B : Option Addr} {c g : Nat} (h2 : l.length ≤ c) (h3 : c ≤ maxLen) (h4 : RB W B l) (h5 : ∀ bd, B = some bd → l ≠ [] → bd.block < W.heap.size ∧ v.ownBlock ≠ some bd.block ∧ bd.block ≠ gx)
    (hg : Row W g [.slice B l.length c]) :
    ∃ v' w', (Builtin.append_ #[111, 111] ty #[v, .slice (some ⟨g, 0, none⟩) 1 1]).run Tryz.prog W = .ok v' w' ∧ RowL base gx M (k + 1) v' w' ∧ Below base W w' := by
  obtain ⟨vs, a1, a2, a3⟩ := h
  obtain ⟨v', w', hrun, b1, b2, b3⟩ := run_append_row ty a1 hg rfl (by omega) (by omega)
  refine ⟨v', w', hrun, ⟨vs ++ [.slice B l.length c], b1, fun j x hj => ?_, Nat.le_trans a3 b2.size⟩, (Below.refl base W).grown b2 a3 (fun q hq => (World.ownsRow.lt a1 q hq).1)⟩
  have hvl : vs.length = k := by have := a1.1; omega
  have hkl : k < M.length := (List.getElem?_eq_some_iff.1 hM).1
  have nb : ∀ (a : Addr), a.block < W.heap.size → v.ownBlock ≠ some a.block → v'.ownBlock ≠ some a.block := fun a e1 e2 e3 => by
    rcases b3 with b3 | b3
    · exact e2 (by rw [← b3]; exact e3)
    · rw [b3] at e3
      injection e3 with e3
      omega
  have rbg : ∀ {B : Option Addr} {l : List UInt8}, RB W B l → (∀ bd, B = some bd → l ≠ [] → bd.block < W.heap.size ∧ v.ownBlock ≠ some bd.block ∧ bd.block ≠ gx) → RB w' B l := fun {B l} r1 r2 => by
    rcases r1 with rfl | ⟨bd, rfl, hc⟩
    · exact .inl rfl
    · by_cases hl : l = []
      · exact .inl hl
      · exact RB.grown (.inr ⟨bd, rfl, hc⟩) b2 (fun e => (r2 bd rfl hl).2.1 e.symm)
  have nbg : ∀ {B : Option Addr} {l : List UInt8}, (∀ bd, B = some bd → l ≠ [] → bd.block < W.heap.size ∧ v.ownBlock ≠ some bd.block ∧ bd.block ≠ gx) → (∀ bd, B = some bd → l ≠ [] → bd.block < w'.heap.size ∧ v'.ownBlock ≠ some bd.block ∧ bd.block ≠ gx) := fun {B l} r2 bd e hl =>
    ⟨Nat.lt_of_lt_of_le (r2 bd e hl).1 b2.size, nb bd (r2 bd e hl).1 (r2 bd e hl).2.1, (r2 bd e hl).2.2⟩
  rw [take_snocG hM] at hj
  by_cases hlt : j < k
  · rw [List.getElem?_append_left (by rw [List.length_take]; omega)] at hj
    obtain ⟨B', c', g1, g2, g3, g4, g5⟩ := a2 j x hj
    exact ⟨B', c', by rw [List.getElem?_append_left (by omega)]; exact g1, g2, g3, rbg g4 g5, nbg g5⟩
  · have hjk : j = k := by
      have h7 := (List.getElem?_eq_some_iff.1 hj).1
      simp at h7
      omega
    subst hjk
    rw [List.getElem?_append_right (by rw [List.length_take]; omega), List.length_take, show j - min j M.length = 0 by omega] at hj
    simp only [List.getElem?_cons_zero, Option.some.injEq] at hj
    subst hj
    exact ⟨B, c, by rw [List.getElem?_append_right (by omega), hvl, Nat.sub_self]; rfl, h2, h3, rbg h4 h5, nbg h5⟩
theorem wpList_append_rowl {base gx : Nat} {W : World} {M : List (List UInt8)} {k : Nat} {v : Value} {ops : Array Oper} {rest : List Oper} {o : Oper} {a : Act} {Q : Exit → Act → World → Prop} (hgd : o.guard = none) (s x : Operand)
    (ho : o.op = .call { callee := .builtin .append, args := #[s, x], argTypes := #[111, 111] })
    (h : RowL base gx M k v W) (hk : k ≤ 1000) {l : List UInt8} (hM : M[k]? = some l) {B : Option Addr} {c g : Nat} (h2 : l.length ≤ c) (h3 : c ≤ maxLen) (h4 : RB W B l) (h5 : ∀ bd, B = some bd → l ≠ [] → bd.block < W.heap.size ∧ v.ownBlock ≠ some bd.block ∧ bd.block ≠ gx)
    (hg : Row W g [.slice B l.length c]) (hs : a.eval s = v) (hx : a.eval x = .slice (some ⟨g, 0, none⟩) 1 1)
    (hh : ∀ v' w', Hid (RowL base gx M (k + 1) v' w') → Hid (Below base W w') → wpList Tryz.prog ops Q rest (a.put o.dst v') w') : wpList Tryz.prog ops Q (o :: rest) a W :=
  wpList_plain hgd fun K hK => by
    obtain ⟨v', w', hrun, h7, h8⟩ := RowL.append o.type h hk hM h2 h3 h4 h5 hg
    unfold Oper.wp execOp
    simp only [ho, resolve, invoke, builtin, Sem.run_bind, Sem.run_pure, Result.andThen_ok, List.map_toArray, List.map_cons, List.map_nil, hs, hx, hrun]
    exact hK _ _ (hh v' w' (Lib.hid h7) (Lib.hid h8))
theorem RowL.form {base gx : Nat} {W : World} {M : List (List UInt8)} {k : Nat} {v : Value} (h : RowL base gx M k v W) : ∃ A c, v = .slice A k c := by
  obtain ⟨vs, a1, a2, a3⟩ := h
  rcases a1.2 with ⟨e, h0⟩ | ⟨g, cap, cur, e, _⟩
  · exact ⟨none, 0, by rw [e, h0]⟩
  · exact ⟨_, cap, e⟩
theorem RowL.rbs {base gx : Nat} {W : World} {M : List (List UInt8)} {v : Value} (h : RowL base gx M 4 v W) (hM : M.length = 4) : ∃ A c, v = .slice A 4 c ∧ 4 ≤ c ∧ c ≤ maxLen ∧ RBS W A M ∧ ∀ ad, A = some ad → base ≤ ad.block := by
  obtain ⟨vs, a1, a2, a3⟩ := h
  rcases a1.2 with ⟨_, h0⟩ | ⟨g, cap, cur, e, hb, hh, hc, hm, _⟩
  · omega
  · refine ⟨_, cap, e, hc, hm, fun j l hj => ?_, fun ad e => by injection e with e; subst e; exact hb⟩
    obtain ⟨B, c, g1, g2, g3, g4, _⟩ := a2 j l (by rw [List.take_of_length_le (by omega)]; exact hj)
    subst e
    exact ⟨_, B, c, rfl, World.ownsRow.cells a1 (g := g) rfl j _ g1, g2, g3, g4⟩
theorem Frm.thenBelow {X : Nat → Prop} {a b c : World} (h : Frm X a b) (hb : Below a.heap.size b c) : Frm X a c :=
  ⟨hb.os.trans h.os, hb.tape.trans h.tape, hb.output.trans h.output, Nat.le_trans h.size hb.size, fun k hk hx => (hb.block k hk).trans (h.block k hk hx)⟩
theorem reads_le {d : Dk} (h : d.Ok) (n : Int) : (d.reads n).length ≤ 256 := by
  unfold Dk.reads
  split
  · rename_i h0
    unfold Dk.faultAt at h0
    split at h0
    · omega
    · split at h0
      · omega
      · rw [Dk.at_len h (by omega)]
        exact Nat.le_refl _
  · simp
theorem RB.ne_box {W : World} {bd : Addr} {l : List UInt8} (h : RB W (some bd) l) (hl : l ≠ []) {g : Nat} {A0 A1 : Option Addr} {n0 c0 n1 c1 : Nat} {t : TypeId} (hg : W.heap[g]? = some (.cells #[.slice A0 n0 c0, .slice A1 n1 c1] t (0, 0))) : bd.block ≠ g := by
  intro e
  rcases h with rfl | ⟨bd', e', hc⟩
  · exact hl rfl
  · injection e' with e'
    subst e'
    cases l with
    | nil => exact hl rfl
    | cons x l =>
      have h1 := hc 0 x rfl
      rw [Addr.add_nought] at h1
      unfold World.cell? at h1
      rw [e, hg] at h1
      simp only at h1
      match hh : bd.off, h1 with
      | 0, h1 => simp at h1
      | 1, h1 => simp at h1
      | k + 2, h1 => simp at h1
theorem RBS.box {W W' : World} {A : Option Addr} {L : List (List UInt8)} (h : RBS W A L) {g : Nat} {A0 A1 : Option Addr} {n0 c0 n1 c1 : Nat} {t : TypeId} (hg : W.heap[g]? = some (.cells #[.slice A0 n0 c0, .slice A1 n1 c1] t (0, 0))) (hf : Frm (fun k => k = g) W W') (hA : ∀ ad, A = some ad → ad.block ≠ g) : RBS W' A L := fun j l hj => by
  obtain ⟨ad, B, c, h1, h2, h3, h4, h5⟩ := h j l hj
  refine ⟨ad, B, c, h1, (hf.cell (lt_of_cell h2) (by rw [block_of_add]; exact hA ad h1)).trans h2, h3, h4, ?_⟩
  by_cases hl : l = []
  · exact .inl hl
  · refine h5.frmOut' hf fun bd e => ?_
    subst e
    exact h5.ne_box hl hg
/-- Between two sectors that are read. -/
def RdRel (W1 : World) (g : Nat) (cs : Value → Array Value) (M : List (List UInt8)) (i : Value) (wr : World) : Prop :=
  ∃ (j : Nat) (v : Value), j ≤ 4 ∧ i = .int .i64 (j : Int) ∧ wr.heap[g]? = some (.cells (cs v) 112 (0, 0)) ∧ RowL W1.heap.size g M j v wr ∧ Frm (fun k => k = g) W1 wr
/-- Between two slots that are read. -/
def SlRel (w : World) (d : Dk) (k : Nat) (wr : World) : Prop :=
  ∃ v0 v1, wr.heap[w.heap.size + 1]? = some (.cells #[v0, v1] 112 (0, 0)) ∧ wr.heap[w.heap.size]? = some (.cells #[.slice none 0 0, .slice none 0 0] 112 (0, 0)) ∧ Below w.heap.size w wr ∧
    (k = 0 → v0 = .slice none 0 0) ∧ (k ≤ 1 → v1 = .slice none 0 0) ∧
    (1 ≤ k → ∃ A c, v0 = .slice A 4 c ∧ 4 ≤ c ∧ c ≤ maxLen ∧ RBS wr A (d.secs 0) ∧ ∀ ad, A = some ad → w.heap.size + 1 < ad.block) ∧ (2 ≤ k → ∃ A c, v1 = .slice A 4 c ∧ 4 ≤ c ∧ c ≤ maxLen ∧ RBS wr A (d.secs 1) ∧ ∀ ad, A = some ad → w.heap.size + 1 < ad.block)
set_option maxHeartbeats 2000000 in
set_option maxRecDepth 100000 in
theorem slotsOf_any {base : Nat} {F : Ft} {w : World} {d : Dk} (h : DkAt base F w d) : Calls Tryz.prog 54 #[.pointer (some ⟨F.b, 0, none⟩)] w fun e w' =>
    ∃ A0 c0 A1 c1, e = .returned (.agg #[.slice A0 4 c0, .slice A1 4 c1]) ∧ (4 ≤ c0 ∧ c0 ≤ maxLen ∧ RBS w' A0 (d.secs 0)) ∧ (4 ≤ c1 ∧ c1 ≤ maxLen ∧ RBS w' A1 (d.secs 1)) ∧ Below w.heap.size w w' := by
  have H := Lib.hid h
  have KR := Lib.hid (fun W (hb : Below w.heap.size w W) n => readX_any (h.below hb) n)
  have HZ : Hid (∀ W0, W0 = (w.alloc (.cells #[.slice none 0 0, .slice none 0 0] 112)).alloc (.cells #[.slice none 0 0, .slice none 0 0] 112) → SlRel w d 0 W0) := Lib.hid (fun W0 e => by
    subst e
    have z1 := heap_size_alloc w (.cells #[.slice none 0 0, .slice none 0 0] 112)
    have h1 := heap_alloc_last w (.cells #[.slice none 0 0, .slice none 0 0] 112)
    have h2 := heap_alloc_last (w.alloc (.cells #[.slice none 0 0, .slice none 0 0] 112)) (.cells #[.slice none 0 0, .slice none 0 0] 112)
    rw [z1] at h2
    exact ⟨_, _, h2, (Below.heap_alloc _ _ _ (by omega)).trans h1, ((Below.refl _ w).alloc (Nat.le_refl _) _).alloc (by rw [z1]; omega) _, fun _ => rfl, fun _ => rfl, fun e => by omega, fun e => by omega⟩)
  have hz := heap_size_alloc w (.cells #[.slice none 0 0, .slice none 0 0] 112)
  clear h
  go_enter Tryz.func54, Tryz.ntmps54
  go_wp2
  have ST := HZ.out _ rfl
  generalize (w.alloc (.cells #[.slice none 0 0, .slice none 0 0] 112)).alloc (.cells #[.slice none 0 0, .slice none 0 0] 112) = W0 at *
  have ST := Lib.hid ST
  go_loopw [4, 5, 6, 7, 8, 11] (fun _ _ _ _ i _ wr => ∃ k : Nat, ((k = 0 ∧ i = .int .i64 0) ∨ (k = 1 ∧ i = .int .i64 1) ∨ (k = 2 ∧ i = .int .i64 2)) ∧ SlRel w d k wr) (fun _ _ _ _ i _ _ => 2 - (intOf i).toNat)
  case atStart => exact ⟨0, .inl ⟨rfl, rfl⟩, ST.out⟩
  case round =>
    obtain ⟨k, hk, v0, v1, hh, hh2, hbl, hv0, hv1, hd0, hd1⟩ := hrel
    rcases hk with ⟨rfl, rfl⟩ | ⟨rfl, rfl⟩ | ⟨rfl, rfl⟩
    · obtain rfl : v1 = .slice none 0 0 := hv1 (by omega)
      · obtain rfl : v0 = .slice none 0 0 := hv0 rfl
        have BL := Lib.hid hbl
        have HH2 := Lib.hid hh2
        have hsz := (Array.getElem?_eq_some_iff.1 hh).1
        have ST1 : Hid (RdRel wr (w.heap.size + 1) (fun v => #[v, .slice none 0 0]) (d.secs 0) (.int .i64 ((0 : Nat) : Int)) wr) := Lib.hid ⟨0, _, by omega, rfl, hh, RowL.start (Nat.le_refl _), Frm.refl _ _⟩
        clear hh hh2 hbl hv0 hv1 hd0 hd1
        generalize wr = W1 at *
        go_wp2
        go_loopw [5, 6, 7, 11] (fun _ _ _ i V => RdRel W1 (w.heap.size + 1) (fun v => #[v, .slice none 0 0]) (d.secs 0) i V) (fun _ _ _ i _ => 4 - (intOf i).toNat)
        case atStart => exact ST1.out
        case round =>
          obtain ⟨j, v, hj, rfl, hbx, hrow, hfr⟩ := hrel
          have x0 : wr.cell? ⟨w.heap.size + 1, 0, none⟩ = some v := (cell_of_row _ _ 0 _ _ _ hbx).trans rfl
          by_cases hlt2 : j < 4
          · have hj4 : (j : Int) < 4 := by omega
            have BV := Lib.hid (show Below w.heap.size w wr from BL.out.trans (hfr.below (fun k e => by subst e; omega) BL.out.size))
            have KRj := KR.out wr BV.out (j : Int)
            have HM : (d.secs 0)[j]? = some (d.reads (j : Int)) := by rw [d.secs_at 0 hlt2, Nat.mul_zero, Nat.zero_add]
            have HRL := Lib.hid (show (d.reads (j : Int)).length ≤ 256 from reads_le H.out.ok _)
            generalize d.reads (j : Int) = rd at *
            have HM := Lib.hid HM
            have KRj := Lib.hid KRj
            have HFR := Lib.hid hfr
            have HBX := Lib.hid hbx
            have HROW := Lib.hid hrow
            clear hbx hrow hfr
            go_wp2_with fail
            refine KRj.out.mono ?_
            rintro e w2 ⟨A2, rfl, r2, n2, b2⟩
            have hbl : v.ownBlock ≠ none ∨ v.ownBlock = none := by cases v.ownBlock <;> simp
            have ROW2 := Lib.hid (HROW.out.below b2)
            have BX2 := Lib.hid ((b2.block _ (Array.getElem?_eq_some_iff.1 HBX.out).1).trans HBX.out)
            have FR2 := Lib.hid (HFR.out.trans (Frm.of_below b2))
            have B2 := Lib.hid (BV.out.trans (b2.mono BV.out.size))
            have NB := Lib.hid (show ∀ bd, A2 = some bd → rd ≠ [] → bd.block < w2.heap.size ∧ v.ownBlock ≠ some bd.block ∧ bd.block ≠ w.heap.size + 1 from fun bd e hl => by
              subst e
              have h1 := n2 bd rfl
              have h2 : bd.block < w2.heap.size := by
                rcases r2 with r2 | ⟨bd', e, hc⟩
                · exact absurd r2 hl
                · injection e with e
                  subst e
                  cases rd with
                  | nil => exact absurd rfl hl
                  | cons y ys => have := lt_of_cell (hc 0 y rfl); rwa [block_of_add] at this
              refine ⟨h2, fun e => ?_, ?_⟩
              · obtain ⟨vs, q1, _, _⟩ := HROW.out
                have := (World.ownsRow.lt q1 _ e).2
                omega
              · have := (Array.getElem?_eq_some_iff.1 HBX.out).1
                omega)
            have R2 := Lib.hid r2
            have y0 : w2.cell? ⟨w.heap.size + 1, 0, none⟩ = some v := (cell_of_row _ _ 0 _ _ _ BX2.out).trans rfl
            clear b2 r2 n2 x0 hbl
            have HS1 := Lib.hid hsz
            have hal := heap_alloc_last w2 (.cells #[.slice A2 rd.length rd.length] 29)
            have hzz := heap_size_alloc w2 (.cells #[.slice A2 rd.length rd.length] 29)
            have HAL := Lib.hid hal
            have HZZ := Lib.hid hzz
            have ha2 := Lib.hid ((Below.refl _ w2).alloc (Nat.le_refl _) (.cells #[.slice A2 rd.length rd.length] 29))
            clear hal hzz hsz
            go_wp2_with (at_builtin; refine wpList_append_rowl (base := W1.heap.size) (gx := w.heap.size + 1) (M := d.secs 0) (k := j) (v := v) rfl (.tmp 26) (.tmp 28) rfl (ROW2.out.below ha2.out) (by omega) HM.out (B := A2) (c := rd.length) (g := w2.heap.size) (Nat.le_refl _) (by have := HRL.out; simp only [maxLen]; omega) (R2.out.alloc _) (fun bd e hl => ⟨by rw [HZZ.out]; have := (NB.out bd e hl).1; omega, (NB.out bd e hl).2⟩) HAL.out rfl rfl ?_; intro v3 w3 h3 b3; obtain ⟨A3, c3, rfl⟩ := h3.out.form; have BX3 := Lib.hid ((b3.out.block _ HS1.out).trans ((Below.heap_alloc w2 _ _ (Nat.lt_of_lt_of_le HS1.out FR2.out.size)).trans BX2.out)); have z0 : w3.cell? ⟨w.heap.size + 1, 0, none⟩ = some v := (cell_of_row _ _ 0 _ _ _ BX3.out).trans rfl; have z1 := frozen_of' BX3.out 0)
            go_roundw
            case rel => exact ⟨j + 1, _, by omega, by go_num, (heap_setCell_block _ BX3.out).trans rfl, h3.out.box HS1.out _, ((FR2.out.thenBelow (ha2.out.mono FR2.out.size)).thenBelow b3.out).trans (Frm.setCell (X := fun k => k = w.heap.size + 1) _ _ _ rfl)⟩
            case measure => simp [intOf]; omega
          · obtain rfl : j = 4 := by omega
            have FIN : Hid (SlRel w d 1 wr) := Lib.hid (by
              obtain ⟨A, c, e, q1, q2, q3, q4⟩ := hrow.rbs (d.secs_len 0)
              have e2 := hfr.block w.heap.size (by omega) (by omega)
              exact ⟨_, _, hbx, e2.trans HH2.out, BL.out.trans (hfr.below (fun k e => by subst e; omega) BL.out.size), fun e => by omega, fun _ => rfl, fun _ => ⟨A, c, e, q1, q2, q3, fun ad e => by have := q4 ad e; omega⟩, fun e => by omega⟩)
            clear hbx hrow hfr x0
            go_wp2
            go_roundw
            case rel => exact ⟨1, .inr (.inl ⟨rfl, by go_num⟩), FIN.out⟩
            case measure => simp [intOf]
    · obtain rfl : v1 = .slice none 0 0 := hv1 (by omega)
      obtain ⟨A0, k0, rfl, D0⟩ := hd0 (by omega)
      have D0 := Lib.hid D0
      have HHB := Lib.hid hh
      have BL := Lib.hid hbl
      have HH2 := Lib.hid hh2
      have hsz := (Array.getElem?_eq_some_iff.1 hh).1
      have ST1 : Hid (RdRel wr (w.heap.size + 1) (fun v => #[.slice A0 4 k0, v]) (d.secs 1) (.int .i64 ((0 : Nat) : Int)) wr) := Lib.hid ⟨0, _, by omega, rfl, hh, RowL.start (Nat.le_refl _), Frm.refl _ _⟩
      clear hh hh2 hbl hv0 hv1 hd0 hd1
      generalize wr = W1 at *
      go_wp2
      go_loopw [5, 6, 7, 11] (fun _ _ _ i V => RdRel W1 (w.heap.size + 1) (fun v => #[.slice A0 4 k0, v]) (d.secs 1) i V) (fun _ _ _ i _ => 4 - (intOf i).toNat)
      case atStart => exact ST1.out
      case round =>
        obtain ⟨j, v, hj, rfl, hbx, hrow, hfr⟩ := hrel
        have x0 : wr.cell? ⟨w.heap.size + 1, 1, none⟩ = some v := (cell_of_row _ _ 1 _ _ _ hbx).trans rfl
        by_cases hlt2 : j < 4
        · have hj4 : (j : Int) < 4 := by omega
          have BV := Lib.hid (show Below w.heap.size w wr from BL.out.trans (hfr.below (fun k e => by subst e; omega) BL.out.size))
          have KRj := KR.out wr BV.out (4 + (j : Int))
          have HM : (d.secs 1)[j]? = some (d.reads (4 + (j : Int))) := d.secs_at 1 hlt2
          have HRL := Lib.hid (show (d.reads (4 + (j : Int))).length ≤ 256 from reads_le H.out.ok _)
          generalize d.reads (4 + (j : Int)) = rd at *
          have HM := Lib.hid HM
          have KRj := Lib.hid KRj
          have HFR := Lib.hid hfr
          have HBX := Lib.hid hbx
          have HROW := Lib.hid hrow
          clear hbx hrow hfr
          go_wp2_with fail
          refine KRj.out.mono ?_
          rintro e w2 ⟨A2, rfl, r2, n2, b2⟩
          have hbl : v.ownBlock ≠ none ∨ v.ownBlock = none := by cases v.ownBlock <;> simp
          have ROW2 := Lib.hid (HROW.out.below b2)
          have BX2 := Lib.hid ((b2.block _ (Array.getElem?_eq_some_iff.1 HBX.out).1).trans HBX.out)
          have FR2 := Lib.hid (HFR.out.trans (Frm.of_below b2))
          have B2 := Lib.hid (BV.out.trans (b2.mono BV.out.size))
          have NB := Lib.hid (show ∀ bd, A2 = some bd → rd ≠ [] → bd.block < w2.heap.size ∧ v.ownBlock ≠ some bd.block ∧ bd.block ≠ w.heap.size + 1 from fun bd e hl => by
            subst e
            have h1 := n2 bd rfl
            have h2 : bd.block < w2.heap.size := by
              rcases r2 with r2 | ⟨bd', e, hc⟩
              · exact absurd r2 hl
              · injection e with e
                subst e
                cases rd with
                | nil => exact absurd rfl hl
                | cons y ys => have := lt_of_cell (hc 0 y rfl); rwa [block_of_add] at this
            refine ⟨h2, fun e => ?_, ?_⟩
            · obtain ⟨vs, q1, _, _⟩ := HROW.out
              have := (World.ownsRow.lt q1 _ e).2
              omega
            · have := (Array.getElem?_eq_some_iff.1 HBX.out).1
              omega)
          have R2 := Lib.hid r2
          have y0 : w2.cell? ⟨w.heap.size + 1, 1, none⟩ = some v := (cell_of_row _ _ 1 _ _ _ BX2.out).trans rfl
          clear b2 r2 n2 x0 hbl
          have HS1 := Lib.hid hsz
          have hal := heap_alloc_last w2 (.cells #[.slice A2 rd.length rd.length] 29)
          have hzz := heap_size_alloc w2 (.cells #[.slice A2 rd.length rd.length] 29)
          have HAL := Lib.hid hal
          have HZZ := Lib.hid hzz
          have ha2 := Lib.hid ((Below.refl _ w2).alloc (Nat.le_refl _) (.cells #[.slice A2 rd.length rd.length] 29))
          clear hal hzz hsz
          go_wp2_with (at_builtin; refine wpList_append_rowl (base := W1.heap.size) (gx := w.heap.size + 1) (M := d.secs 1) (k := j) (v := v) rfl (.tmp 26) (.tmp 28) rfl (ROW2.out.below ha2.out) (by omega) HM.out (B := A2) (c := rd.length) (g := w2.heap.size) (Nat.le_refl _) (by have := HRL.out; simp only [maxLen]; omega) (R2.out.alloc _) (fun bd e hl => ⟨by rw [HZZ.out]; have := (NB.out bd e hl).1; omega, (NB.out bd e hl).2⟩) HAL.out rfl rfl ?_; intro v3 w3 h3 b3; obtain ⟨A3, c3, rfl⟩ := h3.out.form; have BX3 := Lib.hid ((b3.out.block _ HS1.out).trans ((Below.heap_alloc w2 _ _ (Nat.lt_of_lt_of_le HS1.out FR2.out.size)).trans BX2.out)); have z0 : w3.cell? ⟨w.heap.size + 1, 1, none⟩ = some v := (cell_of_row _ _ 1 _ _ _ BX3.out).trans rfl; have z1 := frozen_of' BX3.out 1)
          go_roundw
          case rel => exact ⟨j + 1, _, by omega, by go_num, (heap_setCell_block _ BX3.out).trans rfl, h3.out.box HS1.out _, ((FR2.out.thenBelow (ha2.out.mono FR2.out.size)).thenBelow b3.out).trans (Frm.setCell (X := fun k => k = w.heap.size + 1) _ _ _ rfl)⟩
          case measure => simp [intOf]; omega
        · obtain rfl : j = 4 := by omega
          have FIN : Hid (SlRel w d 2 wr) := Lib.hid (by
            obtain ⟨A, c, e, q1, q2, q3, q4⟩ := hrow.rbs (d.secs_len 1)
            subst e
            have e2 := hfr.block w.heap.size (by omega) (by omega)
            exact ⟨_, _, hbx, e2.trans HH2.out, BL.out.trans (hfr.below (fun k e => by subst e; omega) BL.out.size), fun e => by omega, fun e => by omega, fun _ => ⟨A0, k0, rfl, D0.out.1, D0.out.2.1, D0.out.2.2.1.box HHB.out hfr (fun ad e => by have := D0.out.2.2.2 ad e; omega), D0.out.2.2.2⟩, fun _ => ⟨A, c, rfl, q1, q2, q3, fun ad e => by have := q4 ad e; omega⟩⟩)
          clear hbx hrow hfr x0
          go_wp2
          go_roundw
          case rel => exact ⟨2, .inr (.inr ⟨rfl, by go_num⟩), FIN.out⟩
          case measure => simp [intOf]
    · obtain ⟨A0, k0, rfl, D01, D02, D03, D04⟩ := hd0 (by omega)
      obtain ⟨A1, k1, rfl, D11, D12, D13, D14⟩ := hd1 (by omega)
      have x0 : wr.cell? ⟨w.heap.size + 1, 0, none⟩ = some (.slice A0 4 k0) := (cell_of_row _ _ 0 _ _ _ hh).trans rfl
      have x1 : wr.cell? ⟨w.heap.size + 1, 1, none⟩ = some (.slice A1 4 k1) := (cell_of_row _ _ 1 _ _ _ hh).trans rfl
      have y0 : wr.cell? ⟨w.heap.size, 0, none⟩ = some (.slice none 0 0) := (cell_of_row _ _ 0 _ _ _ hh2).trans rfl
      have y1 : wr.cell? ⟨w.heap.size, 1, none⟩ = some (.slice none 0 0) := (cell_of_row _ _ 1 _ _ _ hh2).trans rfl
      have f0 := frozen_of' hh2 0
      have f1 := frozen_of' hh2 1
      have BL := Lib.hid hbl
      have FF := Lib.hid (fun a0 a1 => show Frm (fun k => k = w.heap.size) wr ((wr.setCell ⟨w.heap.size, 0, none⟩ a0).setCell ⟨w.heap.size, 1, none⟩ a1) from (Frm.setCell (X := fun k => k = w.heap.size) wr ⟨w.heap.size, 0, none⟩ a0 rfl).trans (Frm.setCell (X := fun k => k = w.heap.size) _ ⟨w.heap.size, 1, none⟩ a1 rfl))
      have R0 := Lib.hid (fun a0 a1 => D03.box hh2 (FF.out a0 a1) (fun ad e => by have := D04 ad e; omega))
      have R1 := Lib.hid (fun a0 a1 => D13.box hh2 (FF.out a0 a1) (fun ad e => by have := D14 ad e; omega))
      have hm2 : w.heap.size < wr.heap.size := (Array.getElem?_eq_some_iff.1 hh2).1
      clear hv0 hv1 hd0 hd1 D03 D13
      go_wp2
      refine bodyPost_ret (v := .agg #[.slice A0 4 k0, .slice A1 4 k1]) (by simp [results, Tryz.results54, go_sem, y0, y1]) rfl ⟨_, _, _, _, rfl, ⟨D01, D02, R0.out _ _⟩, ⟨D11, D12, R1.out _ _⟩, belowC BL.out (Nat.le_refl _) _ _⟩
end Go.Proofs.YtegjeijiekggdaaGreatDoor
end
section
/- The package store: the greatest generation that was seen; a map's words are read. -/
namespace Go.Proofs.YtegjeijiekggdaaGreatDoor
open Go.RowKit
set_option linter.unusedVariables false
set_option linter.unusedSimpArgs false
theorem run_index2 (v0 v1 : Value) (W : World) : (Instr.index 112 (.agg #[v0, v1]) (.int .i64 0)).run Tryz.prog W = .ok v0 W ∧ (Instr.index 112 (.agg #[v0, v1]) (.int .i64 1)).run Tryz.prog W = .ok v1 W := by
  have hu : Tryz.prog.underlying 112 = some (.array 2 111) := by kernel_rfl
  have hs : (sizeOf 111).run Tryz.prog W = .ok 1 W := by simp [go_sem]
  constructor
  · simp [Instr.index, run_underlying hu, asIntOf, go_sem, hs]
  · simp [Instr.index, run_underlying hu, asIntOf, go_sem, hs]
set_option maxHeartbeats 2000000 in
set_option maxRecDepth 100000 in
theorem stSeen_any {base : Nat} {F : Ft} {w : World} {d : Dk} (h : DkAt base F w d) : Calls Tryz.prog 57 #[.pointer (some ⟨F.b, 0, none⟩)] w fun e w' => e = .returned (.int .i64 (d.seen2 : Int)) ∧ Below w.heap.size w w' := by
  have K := Lib.hid (slotsOf_any h)
  have HD : Hid (d.seen2 = max (seenP (d.secs 0)) (seenP (d.secs 1))) := rfl
  have L0 := Lib.hid (d.secs_len 0)
  have L1 := Lib.hid (d.secs_len 1)
  generalize d.secs 0 = S0 at *
  generalize d.secs 1 = S1 at *
  clear h
  go_enter Tryz.func57, Tryz.ntmps57
  go_wp2_with (go_at_call 54; refine K.out.mono ?_; rintro e w1 ⟨A0, c0, A1, c1, rfl, r0, r1, b1⟩; have R0 := Lib.hid r0; have R1 := Lib.hid r1; have B1 := Lib.hid b1; clear r0 r1 b1)
  go_loopw [3, 5, 8] (fun g _ i wr => Below w1.heap.size w1 wr ∧ ((i = .int .i64 0 ∧ g = .int .i64 0) ∨ (i = .int .i64 1 ∧ g = .int .i64 (seenP S0 : Int)) ∨ (i = .int .i64 2 ∧ g = .int .i64 ((max (seenP S0) (seenP S1) : Nat) : Int)))) (fun _ _ i _ => 2 - (intOf i).toNat)
  case atStart => exact ⟨Below.refl _ _, .inl ⟨rfl, rfl⟩⟩
  case round =>
    obtain ⟨hb, h⟩ := hrel
    have HB := Lib.hid hb
    rcases h with ⟨rfl, rfl⟩ | ⟨rfl, rfl⟩ | ⟨rfl, rfl⟩
    · have K0 := Lib.hid (seen_any A0 4 c0 S0 wr L0.out R0.out.1 R0.out.2.1 (R0.out.2.2.below hb))
      clear hb
      have ix := fun W => (run_index2 (.slice A0 4 c0) (.slice A1 4 c1) W).1
      have hm : max (0 : Int) (seenP S0 : Int) = (seenP S0 : Int) := by omega
      go_wp2_with (go_at_call 111; refine K0.out.mono ?_; rintro e w2 ⟨rfl, b2⟩; have B2 := Lib.hid (HB.out.trans (b2.mono HB.out.size)); clear b2)
      go_roundw
      case rel => exact ⟨B2.out, .inr (.inl ⟨by go_num, rfl⟩)⟩
      case measure => simp [intOf]
    · have K1 := Lib.hid (seen_any A1 4 c1 S1 wr L1.out R1.out.1 R1.out.2.1 (R1.out.2.2.below hb))
      clear hb
      have ix := fun W => (run_index2 (.slice A0 4 c0) (.slice A1 4 c1) W).2
      have hm : max (seenP S0 : Int) (seenP S1 : Int) = ((max (seenP S0) (seenP S1) : Nat) : Int) := by omega
      go_wp2_with (go_at_call 111; refine K1.out.mono ?_; rintro e w2 ⟨rfl, b2⟩; have B2 := Lib.hid (HB.out.trans (b2.mono HB.out.size)); clear b2)
      go_roundw
      case rel => exact ⟨B2.out, .inr (.inr ⟨by go_num, rfl⟩)⟩
      case measure => simp [intOf]
    · clear hb
      go_wp2
      go_ret
      rw [HD.out]
      exact ⟨rfl, B1.out.trans (HB.out.mono B1.out.size)⟩
/-- Between two words that are read. -/
def GmRel (w W0 : World) (b : List UInt8) (A1 : Option Addr) (k c1 count n q m : Nat) (bv : Value) (wr : World) : Prop :=
  ∃ (B : Option Addr) (c : Nat), bv = .slice B (n - 8 * m) c ∧ n - 8 * m ≤ c ∧ c ≤ maxLen ∧ (∀ W, Below w.heap.size w W → RB W B (b.drop (8 * m))) ∧ OQ W0.heap.size wr (.slice A1 k c1) (unwords b m ++ List.replicate (k - m) 0) ∧
    wr.heap[q]? = some (.cells #[.int .i64 (count : Int), .slice A1 k c1] 64 (0, 0)) ∧ Below W0.heap.size W0 wr
theorem OQ.lt' {base : Nat} {w : World} {A : Option Addr} {n c : Nat} {l : List UInt64} (h : OQ base w (.slice A n c) l) : ∀ ad, A = some ad → ad.block < w.heap.size := by
  unfold OQ at h
  rcases h.2 with ⟨e, h0⟩ | ⟨g, cap, cur, e, hb, hh, hc, _⟩
  · injection e with e1 e2 e3
    subst e1
    exact fun ad e => by cases e
  · injection e with e1 e2 e3
    subst e1
    exact fun ad e => by injection e with e; subst e; exact (Array.getElem?_eq_some_iff.1 hh).1
theorem chk_bool (s : Int) (L : List UInt64) : (((chk s L : Nat) : Int) == 0) = okB s L := by
  rcases chk_cases s L with ⟨h0, h1⟩ | ⟨h0, h1⟩ <;> rw [h0, h1] <;> rfl
set_option maxHeartbeats 2000000 in
set_option maxRecDepth 100000 in
theorem getMap_any (count : Nat) (hc4 : count ≤ 4096) (B : Option Addr) (n c : Nat) (b : List UInt8) (w : World) (hl : b.length = n) (hn : n ≤ 954) (hnc : n ≤ c) (hcm : c ≤ maxLen) (hB : RB w B b) (k : Nat) (hk : k = (count + 63) / 64) :
    Calls Tryz.prog 109 #[.int .i64 (count : Int), .slice B n c] w fun e w' => (n < 8 * k → e = .returned (.tuple #[.agg #[.int .i64 0, .slice none 0 0], .slice none 0 0, .bool false])) ∧
      (8 * k ≤ n → ∃ v B' c', e = .returned (.tuple #[.agg #[.int .i64 (count : Int), v], .slice B' (n - 8 * k) c', .bool (okB (count : Int) (unwords b k))]) ∧ OQ w.heap.size w' v (unwords b k) ∧ RB w' B' (b.drop (8 * k)) ∧ n - 8 * k ≤ c' ∧ c' ≤ maxLen) ∧ Below w.heap.size w w' := by
  have hok : newOk (count : Int) = true := decide_eq_true (by omega)
  have e1 : newS (count : Int) = (count : Int) := if_pos hok
  have e2 : newL (count : Int) = List.replicate k 0 := by unfold newL; rw [if_pos hok, Int.toNat_natCast, hk]
  have e3 : newE (count : Int) = 0 := if_pos hok
  have KN := fun W => qNew_any (count : Int) W
  rw [e1, e2, e3] at KN
  have KN := Lib.hid KN
  have hk64 : k ≤ 64 := by omega
  have hX0 := heap_alloc_last w (.cells #[.int .i64 0, .slice none 0 0] 64)
  have hz0 := heap_size_alloc w (.cells #[.int .i64 0, .slice none 0 0] 64)
  have B0 := Lib.hid ((Below.refl _ w).alloc (Nat.le_refl _) (.cells #[.int .i64 0, .slice none 0 0] 64))
  have BX := Lib.hid (fun W h => bx2 w (.int .i64 0) (.slice none 0 0) 64 (W := W) h)
  have HX0 := Lib.hid hX0
  have HB := Lib.hid hB
  have HL := Lib.hid hl
  clear hok e1 e2 e3 hB hX0 hl hk
  go_enter Tryz.func109, Tryz.ntmps109
  go_wp2_with fail
  generalize w.alloc (.cells #[.int .i64 0, .slice none 0 0] 64) = W0 at *
  refine (KN.out _).mono ?_
  rintro e w1 ⟨v1, rfl, o1, b1⟩
  have B1 := Lib.hid (B0.out.trans (b1.mono B0.out.size))
  have D1 := Lib.hid b1
  obtain ⟨A1, c1, rfl, hc1, r1⟩ := o1.form
  have hlen : (List.replicate k (0 : UInt64)).length = k := List.length_replicate
  rw [hlen] at hc1 ⊢
  have O1 := Lib.hid o1
  rw [hlen] at O1
  have X1 := heap_alloc_last w1 (.cells #[.int .i64 (count : Int), .slice A1 k c1] 64)
  have z1 := heap_size_alloc w1 (.cells #[.int .i64 (count : Int), .slice A1 k c1] 64)
  have u1 : (w1.alloc (.cells #[.int .i64 (count : Int), .slice A1 k c1] 64)).cell? ⟨w1.heap.size, 1, none⟩ = some (.slice A1 k c1) := (cell_of_row _ _ 1 _ _ _ X1).trans rfl
  have u0 : (w1.alloc (.cells #[.int .i64 (count : Int), .slice A1 k c1] 64)).cell? ⟨w1.heap.size, 0, none⟩ = some (.int .i64 (count : Int)) := (cell_of_row _ _ 0 _ _ _ X1).trans rfl
  have q8 : IntKind.i64.wrap (8 * (k : Int)) = 8 * (k : Int) := slWrap64 _ (by omega) (by omega)
  clear o1 r1 b1 hlen
  by_cases hs : n < 8 * k
  · have hd : decide ((n : Int) < 8 * (k : Int)) = true := decide_eq_true (by omega)
    have hw0 : w.heap.size < W0.heap.size := by omega
    have BQ := Lib.hid (D1.out.trans ((Below.refl _ w1).alloc (Nat.le_refl _) (.cells #[.int .i64 (count : Int), .slice A1 k c1] 64) |>.mono D1.out.size))
    obtain ⟨y0, y1⟩ := BX.out _ BQ.out
    have hh := (BQ.out.block _ hw0).trans HX0.out
    have f0 := frozen_of' hh 0
    have f1 := frozen_of' hh 1
    have BB := Lib.hid (bAlloc' B1.out (.cells #[.int .i64 (count : Int), .slice A1 k c1] 64))
    clear hh
    go_wp2
    refine bodyPost_ret (v := .tuple #[.agg #[.int .i64 0, .slice none 0 0], .slice none 0 0, .bool false]) (by simp [results, Tryz.results109, go_sem, y0, y1]) rfl ⟨fun _ => rfl, fun h => absurd hs (by omega), belowC BB.out (Nat.le_refl _) _ _⟩
  · have hd : decide ((n : Int) < 8 * (k : Int)) = false := decide_eq_false (by omega)
    have XQ := Lib.hid X1
    have BQ := Lib.hid ((Below.refl _ w1).alloc (Nat.le_refl _) (.cells #[.int .i64 (count : Int), .slice A1 k c1] 64))
    have hq := O1.out.lt'
    have ST : Hid (GmRel w W0 b A1 k c1 count n w1.heap.size 0 (.slice B n c) (w1.alloc (.cells #[.int .i64 (count : Int), .slice A1 k c1] 64))) := Lib.hid ⟨B, c, by simp, hnc, hcm, fun W hW => by simpa using HB.out.below hW, by simpa [unwords] using O1.out.keep (B := w1.heap.size) BQ.out (Nat.le_refl _), XQ.out, D1.out.trans (BQ.out.mono D1.out.size)⟩
    clear X1 z1 u0
    have hqs : Hid (w.heap.size < w1.heap.size ∧ W0.heap.size ≤ w1.heap.size) := Lib.hid ⟨by have := D1.out.size; omega, D1.out.size⟩
    go_wp2
    clear XQ u1
    generalize w1.alloc (.cells #[.int .i64 (count : Int), .slice A1 k c1] 64) = V1 at *
    go_loopw [1, 9, 11, 32, 38] (fun bv _ _ i _ wr => ∃ m : Nat, m ≤ k ∧ i = .int .i64 (m : Int) ∧ GmRel w W0 b A1 k c1 count n w1.heap.size m bv wr) (fun _ _ _ i _ _ => k - (intOf i).toNat)
    case atStart => exact ⟨0, Nat.zero_le _, rfl, ST.out⟩
    case round =>
      obtain ⟨m, hm, rfl, B2, c2, rfl, hn2, hc2, hcl, hO, hX, hBl⟩ := hrel
      by_cases hlt : m < k
      · have hlt' : (m : Int) < (k : Int) := by omega
        have HBW := Lib.hid (show Below w.heap.size w wr from B0.out.trans (hBl.mono B0.out.size))
        have hrb := hcl wr HBW.out
        have hbl : (b.drop (8 * m)).length = n - 8 * m := by rw [List.length_drop, HL.out]
        have HCL := Lib.hid hcl
        have HU := Lib.hid (show unwords b (m + 1) = unwords b m ++ [UInt64.ofNat (be ((b.drop (8 * m)).take 8))] from rfl)
        have HD8 := Lib.hid (show b.drop (8 * (m + 1)) = (b.drop (8 * m)).drop 8 by rw [List.drop_drop]; congr 1)
        have HLL : Hid ((unwords b m ++ List.replicate (k - m) (0 : UInt64)).length = k) := Lib.hid (by rw [List.length_append, unwords_len, List.length_replicate]; omega)
        have HLM : Hid ((unwords b m ++ List.replicate (k - m) (0 : UInt64))[m]? = some 0) := Lib.hid (by rw [List.getElem?_append_right (by rw [unwords_len]; exact Nat.le_refl _), unwords_len, Nat.sub_self, List.getElem?_replicate, if_pos (by omega)])
        have HSET := Lib.hid (show ∀ x, (unwords b m ++ List.replicate (k - m) (0 : UInt64)).set m x = unwords b m ++ [x] ++ List.replicate (k - (m + 1)) 0 from fun x => by
          rw [List.set_append_right _ _ (by rw [unwords_len]; exact Nat.le_refl _), unwords_len, Nat.sub_self, show k - m = (k - (m + 1)) + 1 by omega, List.replicate_succ, List.set_cons_zero, List.append_assoc]
          rfl)
        generalize b.drop (8 * m) = bb at *
        generalize unwords b m ++ List.replicate (k - m) (0 : UInt64) = L at *
        have hbb8 : 8 ≤ bb.length := by omega
        obtain ⟨bd, rfl⟩ : ∃ bd, B2 = some bd := by
          rcases hrb with h | ⟨bd, e, _⟩
          · rw [h] at hbb8; simp at hbb8
          · exact ⟨bd, e⟩
        have HBB := Lib.hid hbl
        have STI : Hid (∃ j : Nat, j ≤ 8 ∧ (Value.int .i64 0) = .int .i64 (j : Int) ∧ OQ W0.heap.size wr (.slice A1 k c1) (L.set m (UInt64.ofNat (be (bb.take j)))) ∧ wr.heap[w1.heap.size]? = some (.cells #[.int .i64 (count : Int), .slice A1 k c1] 64 (0, 0)) ∧ Below W0.heap.size W0 wr) := Lib.hid ⟨0, by omega, rfl, by
          have e : L.set m (UInt64.ofNat (be (bb.take 0))) = L := by
            rw [List.take_zero]
            apply List.ext_getElem?
            intro i
            rw [List.getElem?_set]
            split
            · rename_i e; subst e; rw [if_pos (by rw [HLL.out]; exact hlt), HLM.out]; rfl
            · rfl
          rw [e]; exact hO, hX, hBl⟩
        have h8c : (8 : Int) ≤ (c2 : Int) := by omega
        clear hcl hO hX hBl hrb hbl
        go_wp2
        go_loopw [11, 38] (fun _ i V => ∃ j : Nat, j ≤ 8 ∧ i = .int .i64 (j : Int) ∧ OQ W0.heap.size V (.slice A1 k c1) (L.set m (UInt64.ofNat (be (bb.take j)))) ∧ V.heap[w1.heap.size]? = some (.cells #[.int .i64 (count : Int), .slice A1 k c1] 64 (0, 0)) ∧ Below W0.heap.size W0 V) (fun _ i _ => 8 - (intOf i).toNat)
        case atStart => exact STI.out
        case round =>
          obtain ⟨j, hj, rfl, hO, hX, hBl⟩ := hrel
          have HO := Lib.hid hO
          have HXX := Lib.hid hX
          have HBL := Lib.hid hBl
          by_cases hlt2 : j < 8
          · have hj8 : (j : Int) < 8 := by omega
            obtain ⟨y, hy⟩ : ∃ y, bb[j]? = some y := ⟨bb[j]'(by omega), List.getElem?_eq_getElem _⟩
            have hry := HCL.out wr (B0.out.trans (hBl.mono B0.out.size))
            have yc : wr.cell? (bd.add j) = some (.int .u8 (y.toNat : Int)) := by
              rcases hry with h | ⟨bd', e, hc⟩
              · rw [h] at hy; simp at hy
              · injection e with e; subst e; exact hc j y hy
            have HTK := Lib.hid (show be (bb.take (j + 1)) = be (bb.take j) * 256 + y.toNat by rw [take_snoc hy, be_snoc])
            have hbe : be (bb.take j) < 72057594037927936 := be_le7 _ (by rw [List.length_take]; omega)
            have hyy := y.toNat_lt
            obtain ⟨g, e, hg1, hg2, w0, w9, hset⟩ := hO.at_ (k := m) (x := UInt64.ofNat (be (bb.take j))) (by rw [List.getElem?_set_self (by rw [HLL.out]; exact hlt)])
            subst e
            have hto : (UInt64.ofNat (be (bb.take j))).toNat = be (bb.take j) := by rw [UInt64.toNat_ofNat']; exact Nat.mod_eq_of_lt (by omega)
            rw [hto] at w0
            have HSE := Lib.hid hset
            have KO := or_join (be (bb.take j)) y.toNat hbe hyy
            have qs : IntKind.u64.wrap ((be (bb.take j) : Int) * 256) = (be (bb.take j) : Int) * 256 := by rw [IntKind.wrap_u64]; omega
            have x1 : wr.cell? ⟨w1.heap.size, 1, none⟩ = some (.slice (some ⟨g, 0, none⟩) k c1) := (cell_of_row _ _ 1 _ _ _ hX).trans rfl
            generalize be (bb.take j) = a at *
            clear hO hX hBl hry hto hset
            go_wp2
            go_region
            all_goals
              have hlt3 : a * 256 + y.toNat < 18446744073709551616 := by omega
              have FO := Lib.hid (HSE.out (UInt64.ofNat (a * 256 + y.toNat)) ((a : Int) * 256 + (y.toNat : Int)) (by rw [UInt64.toNat_ofNat', Nat.mod_eq_of_lt hlt3]; omega))
              have hgw := O1.out.lt' _ rfl
              rw [List.set_set] at FO
              have FX := Lib.hid ((Below.heap_setCell (w := wr) ⟨g, m, none⟩ (.int .u64 ((a : Int) * 256 + (y.toNat : Int))) w1.heap.size (show w1.heap.size ≠ g from fun e => by rw [e] at hgw; exact absurd hgw (Nat.lt_irrefl _))).trans HXX.out)
              have FB := Lib.hid (HBL.out.setCell (p := ⟨g, m, none⟩) hg1 (.int .u64 ((a : Int) * 256 + (y.toNat : Int))))
              clear w0 w9 x1 hgw hlt3 hg1 hg2
              go_wp2
              go_roundw
              case rel => exact ⟨j + 1, by omega, by go_num, by rw [HTK.out]; exact FO.out, FX.out, FB.out.drew⟩
              case measure => simp [intOf]; omega
          · obtain rfl : j = 8 := by omega
            have FL : Hid (OQ W0.heap.size wr (.slice A1 k c1) (unwords b (m + 1) ++ List.replicate (k - (m + 1)) 0)) := Lib.hid (by rw [HU.out, ← HSET.out]; exact hO)
            have FC := Lib.hid (fun (B' : Option Addr) (hB' : B' = some bd ∧ c2 = 8 ∨ B' = (some bd).map (fun x => x.add 8)) W (hW : Below w.heap.size w W) => (HCL.out W hW).past (n := n - 8 * m) HBB.out hn2 (m := 8) (by omega) B' hB')
            have hn8 : (n - 8 * m : Nat) - 8 = n - 8 * (m + 1) := by omega
            have h8n : (8 : Int) ≤ ((n - 8 * m : Nat) : Int) := by omega
            clear hO hX hBl
            by_cases hc8 : c2 = 8
            · subst hc8
              go_wp2
              refine ⟨⟨m + 1, by omega, by go_num, _, _, rfl, by omega, by simp [maxLen], fun W hW => by rw [HD8.out]; exact FC.out (some bd) (.inl ⟨rfl, rfl⟩) W hW, FL.out, HXX.out, HBL.out⟩, ?_⟩
              simp [intOf]
              omega
            · go_wp2
              refine ⟨⟨m + 1, by omega, by go_num, _, _, rfl, by omega, by omega, fun W hW => by rw [HD8.out]; exact FC.out _ (.inr rfl) W hW, FL.out, HXX.out, HBL.out⟩, ?_⟩
              simp [intOf]
              omega
      · obtain rfl : m = k := by omega
        have HBW := Lib.hid (show Below w.heap.size w wr from B0.out.trans (hBl.mono B0.out.size))
        have OF := hO
        rw [Nat.sub_self, List.replicate_zero, List.append_nil] at OF
        have OF := Lib.hid OF
        have KC := Lib.hid (fun W (hb : Below wr.heap.size wr W) => qCheck_any (count : Int) A1 c1 (unwords b m) W (OF.out.reads.below hb))
        rw [unwords_len] at KC
        have HCL := Lib.hid hcl
        have hb0 : w.heap.size < W0.heap.size := by omega
        have YB := BX.out wr hBl
        have hh := (hBl.block _ hb0).trans HX0.out
        have f0 := frozen_of' hh 0
        have f1 := frozen_of' hh 1
        obtain ⟨y0, y1⟩ := YB
        have CX := Lib.hid (fun (W : World) (h : W.heap[w1.heap.size]? = some (.cells #[.int .i64 (count : Int), .slice A1 m c1] 64 (0, 0))) => show W.cell? ⟨w1.heap.size, 0, none⟩ = some (.int .i64 (count : Int)) ∧ W.cell? ⟨w1.heap.size, 1, none⟩ = some (.slice A1 m c1) from ⟨(cell_of_row _ _ 0 _ _ _ h).trans rfl, (cell_of_row _ _ 1 _ _ _ h).trans rfl⟩)
        have cc := CX.out wr.drew hX
        have HXD := Lib.hid (show wr.drew.heap[w1.heap.size]? = some (.cells #[.int .i64 (count : Int), .slice A1 m c1] 64 (0, 0)) from hX)
        have hne := Lib.hid (show w1.heap.size ≠ w.heap.size by have := D1.out.size; omega)
        have HBX := Lib.hid (fun W (h : Below wr.heap.size wr W) => And.intro (BX.out W (hBl.trans (h.mono hBl.size))) (And.intro (frozen_of' ((h.block _ (Nat.lt_of_lt_of_le hb0 hBl.size)).trans hh) 0) (frozen_of' ((h.block _ (Nat.lt_of_lt_of_le hb0 hBl.size)).trans hh) 1)))
        have hge := Lib.hid hBl.size
        clear hcl hO hX hBl hh f0 f1 y0 y1
        go_wp2
        go_region_held3 (fun W => W.cell? ⟨w1.heap.size, 0, none⟩ = some (.int .i64 (count : Int)) ∧ W.cell? ⟨w1.heap.size, 1, none⟩ = some (.slice A1 m c1)) (first | with_reducible assumption | with_reducible exact cc | with_reducible exact cn | with_reducible exact CX.out _ ((Below.heap_setCell _ _ _ _ hne.out).trans ((Below.heap_setCell _ _ _ _ hne.out).trans HX3.out)) | fail)
          (first
            | (go_at_call 74; refine (KC.out _ ((Below.refl _ wr).drew)).mono ?_; rintro e w3 ⟨rfl, b3⟩; have HX3 := Lib.hid ((b3.block _ (Array.getElem?_eq_some_iff.1 HXD.out).1).trans HXD.out); have cn := CX.out w3 HX3.out; have B3 := Lib.hid ((Below.refl _ wr).drew.trans b3); obtain ⟨⟨y0, y1⟩, f0, f1⟩ := HBX.out w3 B3.out; clear b3)
            | fail)
        all_goals
          have BF := Lib.hid (belowC (HBW.out.trans (B3.out.mono HBW.out.size)) (Nat.le_refl _) (.int .i64 (count : Int)) (.slice A1 m c1))
          have OFF := Lib.hid ((OF.out.keep B3.out (Nat.le_refl _)).setB hb0 (.int .i64 (count : Int)) (.slice A1 m c1))
          have RF := Lib.hid (HCL.out _ BF.out)
          have hcb := chk_bool (count : Int) (unwords b m)
          rw [hcb]
          clear cc cn
          go_wp2
          refine bodyPost_ret (v := .tuple #[.agg #[.int .i64 (count : Int), .slice A1 m c1], .slice B2 (n - 8 * m) c2, .bool (okB (count : Int) (unwords b m))]) (by simp [results, Tryz.results109, go_sem, y0, y1]) rfl ⟨fun h => absurd h hs, fun _ => ⟨_, _, _, rfl, OFF.out.lift (Nat.le_of_lt hb0), RF.out, hn2, hc2⟩, BF.out⟩
end Go.Proofs.YtegjeijiekggdaaGreatDoor
end
