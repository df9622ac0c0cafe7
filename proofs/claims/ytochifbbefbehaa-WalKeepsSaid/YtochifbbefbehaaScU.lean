/- Calls that came in, and how they read. The package sector: what calls leave, while no failure is to come (plain). The package sector: what each sector has behind a loss of power (plain). -/
import Derived.Test.YtochifbbefbehaaScR
import Derived.ProofKit
import Derived.OpenShut
import Derived.Deep.Slices
import Derived.Deep.Fields
import Derived.ChangeSame
namespace Go.Proofs.Ytochifbbefbehaa
open Go.ChangeShapes Go.WideShapes Go.ChangeAt Go.RowKit
set_option linter.unusedVariables false
/-- A call that came in. -/
structure Ac where
  kind : UInt8
  n : Int
  c : UInt8
  cut : UInt8
  done : Bool
  fates : List UInt8
  fA : Option Addr
  fc : Nat
/-- The call a lies at p. -/
structure AcAt (w : World) (p : Addr) (a : Ac) : Prop where
  c0 : w.cell? (p.add 0) = some (.int .u8 (a.kind.toNat : Int))
  c1 : w.cell? (p.add 1) = some (.int .i64 a.n)
  c2 : w.cell? (p.add 2) = some (.int .u8 (a.c.toNat : Int))
  c3 : w.cell? (p.add 3) = some (.int .u8 (a.cut.toNat : Int))
  c4 : w.cell? (p.add 4) = some (.bool a.done)
  c5 : w.cell? (p.add 5) = some (.slice a.fA a.fates.length a.fc)
  rb : RB w a.fA a.fates
  lo : -9223372036854775808 ≤ a.n
  hi : a.n ≤ 9223372036854775807
  room : a.fates.length ≤ a.fc
  most : a.fc ≤ maxLen
theorem add_pos (p : Addr) (i : Nat) (h : i ≠ 0) : p.add i = ⟨p.block, p.off + i, none⟩ := by simp [Addr.add, h]
theorem AcAt.d0 {w : World} {p : Addr} {a : Ac} (h : AcAt w p a) : w.cell? p = some (.int .u8 (a.kind.toNat : Int)) := by have := h.c0; rwa [Addr.add_nought] at this
theorem AcAt.d1 {w : World} {p : Addr} {a : Ac} (h : AcAt w p a) : w.cell? ⟨p.block, p.off + 1, none⟩ = some (.int .i64 a.n) := by rw [← add_pos p 1 (by omega)]; exact h.c1
theorem AcAt.d2 {w : World} {p : Addr} {a : Ac} (h : AcAt w p a) : w.cell? ⟨p.block, p.off + 2, none⟩ = some (.int .u8 (a.c.toNat : Int)) := by rw [← add_pos p 2 (by omega)]; exact h.c2
theorem AcAt.d3 {w : World} {p : Addr} {a : Ac} (h : AcAt w p a) : w.cell? ⟨p.block, p.off + 3, none⟩ = some (.int .u8 (a.cut.toNat : Int)) := by rw [← add_pos p 3 (by omega)]; exact h.c3
theorem AcAt.d4 {w : World} {p : Addr} {a : Ac} (h : AcAt w p a) : w.cell? ⟨p.block, p.off + 4, none⟩ = some (.bool a.done) := by rw [← add_pos p 4 (by omega)]; exact h.c4
theorem AcAt.d5 {w : World} {p : Addr} {a : Ac} (h : AcAt w p a) : w.cell? ⟨p.block, p.off + 5, none⟩ = some (.slice a.fA a.fates.length a.fc) := by rw [← add_pos p 5 (by omega)]; exact h.c5
/-- Where the call's own cells lie. -/
theorem AcAt.lt {w : World} {p : Addr} {a : Ac} (h : AcAt w p a) : p.block < w.heap.size := lt_of_cell h.d0
theorem AcAt.flt {w : World} {p : Addr} {a : Ac} (h : AcAt w p a) (hf : a.fates ≠ []) : ∀ ad, a.fA = some ad → ad.block < w.heap.size := by
  intro ad e
  rcases h.rb with e' | ⟨ad', e', hc⟩
  · exact absurd e' hf
  · rw [e] at e'
    injection e' with e'
    subst e'
    have hp : 0 < a.fates.length := by
      cases hh : a.fates with
      | nil => exact absurd hh hf
      | cons => simp
    have := lt_of_cell (hc 0 _ (List.getElem?_eq_getElem hp))
    rwa [Addr.add_nought] at this
def ActsAt (w : World) (A : Option Addr) (l : List Ac) : Prop := l = [] ∨ ∃ ad, A = some ad ∧ ∀ (i : Nat) (a : Ac), l[i]? = some a → AcAt w (ad.add (i * 6)) a
theorem AcAt.below {w w' : World} {p : Addr} {a : Ac} (h : AcAt w p a) (hb : Below w.heap.size w w') : AcAt w' p a :=
  ⟨(hb.cell (lt_of_cell h.c0)).trans h.c0, (hb.cell (lt_of_cell h.c1)).trans h.c1, (hb.cell (lt_of_cell h.c2)).trans h.c2, (hb.cell (lt_of_cell h.c3)).trans h.c3, (hb.cell (lt_of_cell h.c4)).trans h.c4, (hb.cell (lt_of_cell h.c5)).trans h.c5, h.rb.below hb, h.lo, h.hi, h.room, h.most⟩
theorem ActsAt.below {w w' : World} {A : Option Addr} {l : List Ac} (h : ActsAt w A l) (hb : Below w.heap.size w w') : ActsAt w' A l := by
  rcases h with rfl | ⟨ad, rfl, hc⟩
  · exact .inl rfl
  · exact .inr ⟨ad, rfl, fun i a hi => (hc i a hi).below hb⟩
theorem ActsAt.at_ {w : World} {A : Option Addr} {l : List Ac} (h : ActsAt w A l) {i : Nat} (hi : i < l.length) : ∃ ad a, A = some ad ∧ l[i]? = some a ∧ AcAt w (ad.add (i * 6)) a := by
  rcases h with rfl | ⟨ad, rfl, hc⟩
  · simp at hi
  · exact ⟨ad, l[i], rfl, List.getElem?_eq_getElem hi, hc i _ (List.getElem?_eq_getElem hi)⟩
theorem list_of {α : Type} {Pr : Nat → α → Prop} : ∀ (n : Nat), (∀ i, i < n → ∃ a, Pr i a) → ∃ l : List α, l.length = n ∧ ∀ i a, l[i]? = some a → Pr i a
  | 0, _ => ⟨[], rfl, fun i a h => by simp at h⟩
  | n + 1, h => by
    obtain ⟨l, hl, hp⟩ := list_of n (fun i hi => h i (by omega))
    obtain ⟨a, ha⟩ := h n (by omega)
    refine ⟨l ++ [a], by simp [hl], fun i b hb => ?_⟩
    rcases Nat.lt_or_ge i l.length with hlt | hge
    · rw [List.getElem?_append_left hlt] at hb
      exact hp i b hb
    · rw [List.getElem?_append_right hge] at hb
      have : i - l.length = 0 := by
        rcases Nat.eq_zero_or_pos (i - l.length) with e | e
        · exact e
        · rw [List.getElem?_eq_none (by simp; omega)] at hb; cases hb
      rw [this] at hb
      simp at hb
      subst hb
      have : i = n := by omega
      subst this
      exact ha
theorem Try.cellsAct : Try.prog.cellsOf 34 = 6 := by kernel_rfl
theorem Try.cellsU8 : Try.prog.cellsOf 5 = 1 := by kernel_rfl
theorem Try.cellsInt : Try.prog.cellsOf 3 = 1 := by kernel_rfl
theorem Try.cellsBool : Try.prog.cellsOf 4 = 1 := by kernel_rfl
theorem Try.cellsBytes : Try.prog.cellsOf 32 = 1 := by kernel_rfl
theorem take1 {l : List Value} {i : Nat} (h : i < l.length) : (l.drop i).take 1 = [l[i]] := by
  rw [List.drop_eq_getElem_cons h]
  rfl
theorem byte_of {n : Int} (h : (Lit.int .u8 n).wf = true) : ∃ x : UInt8, n = (x.toNat : Int) := by
  have hb := bounds_u8 h
  refine ⟨UInt8.ofNat n.toNat, ?_⟩
  rw [ofNat_toNat]
  omega
section
variable {H : Type} {enc : TypeId × Value → H} {W : World} {base : Nat} {held : Bool}
theorem open_bytes {k : Nat} {c : Value} {x : DataW H × List MemPlace} (hh : DataW.trod enc Try.prog W base (fun _ => true) held k 32 [c] = some x) :
    ∃ (A : Option Addr) (cc : Nat) (a : List UInt8), c = .slice A a.length cc ∧ a.length ≤ cc ∧ cc ≤ maxLen ∧ RB W A a := by
  rcases open_ints Try.underlying32 Try.underlying5 (by kernel_rfl) hh with ⟨hcs, _⟩ | ⟨y, l, cc, zs, hcs, _, hl', hm, hz, _, hcell, hwz⟩
  · simp at hcs
    exact ⟨none, 0, [], hcs, Nat.le_refl _, Nat.zero_le _, .inl rfl⟩
  · simp at hcs
    obtain ⟨a, h1, h2, h3, h4⟩ := rb_of_row (w := W) (a := some y) (len := l) (cap := cc) (zs := zs) (.inr ⟨y, rfl, hl', hm, by simpa using hz, hcell, hwz⟩)
    subst h1
    exact ⟨some y, cc, a, hcs, h2, h3, h4⟩
theorem open_act {k : Nat} {cs : List Value} {x : DataW H × List MemPlace} {p : Addr} (hf : DataW.trod enc Try.prog W base (fun _ => true) held k 34 cs = some x) (hl : cs.length = 6) (hc : ∀ j, j < 6 → W.cell? (p.add j) = cs[j]?) : ∃ a : Ac, AcAt W p a := by
  obtain ⟨xs, n, _, _, _, hxl, hg⟩ := DataW.trod_struct Try.underlying34 hf
  have g0 : DataW.trod enc Try.prog W base (fun _ => true) held n 5 ((cs.drop 0).take (Try.prog.cellsOf 5)) = xs[0]? := hg 0 _ rfl
  have g1 : DataW.trod enc Try.prog W base (fun _ => true) held n 3 ((cs.drop 1).take (Try.prog.cellsOf 3)) = xs[1]? := hg 1 _ rfl
  have g2 : DataW.trod enc Try.prog W base (fun _ => true) held n 5 ((cs.drop 2).take (Try.prog.cellsOf 5)) = xs[2]? := hg 2 _ rfl
  have g3 : DataW.trod enc Try.prog W base (fun _ => true) held n 5 ((cs.drop 3).take (Try.prog.cellsOf 5)) = xs[3]? := hg 3 _ rfl
  have g4 : DataW.trod enc Try.prog W base (fun _ => true) held n 4 ((cs.drop 4).take (Try.prog.cellsOf 4)) = xs[4]? := hg 4 _ rfl
  have g5 : DataW.trod enc Try.prog W base (fun _ => true) held n 32 ((cs.drop 5).take (Try.prog.cellsOf 32)) = xs[5]? := hg 5 _ rfl
  rw [Try.cellsU8, take1 (by omega)] at g0 g2 g3
  rw [Try.cellsInt, take1 (by omega)] at g1
  rw [Try.cellsBool, take1 (by omega)] at g4
  rw [Try.cellsBytes, take1 (by omega)] at g5
  have hxs : xs.length = 6 := hxl
  rw [List.getElem?_eq_getElem (by omega)] at g0 g1 g2 g3 g4 g5
  obtain ⟨z0, e0, _, w0⟩ := DataW.trod_int Try.underlying5 g0
  obtain ⟨z1, e1, _, w1⟩ := DataW.trod_int Try.underlying3 g1
  obtain ⟨z2, e2, _, w2⟩ := DataW.trod_int Try.underlying5 g2
  obtain ⟨z3, e3, _, w3⟩ := DataW.trod_int Try.underlying5 g3
  obtain ⟨z4, e4, _⟩ := DataW.trod_bool Try.underlying4 g4
  obtain ⟨A, cc, fs, e5, r1, r2, r3⟩ := open_bytes g5
  obtain ⟨x0, rfl⟩ := byte_of w0
  obtain ⟨x2, rfl⟩ := byte_of w2
  obtain ⟨x3, rfl⟩ := byte_of w3
  have b1 := bounds_i64 w1
  simp only [List.cons.injEq, and_true] at e0 e1 e2 e3 e4
  refine ⟨⟨x0, z1, x2, x3, z4, fs, A, cc⟩, ⟨?_, ?_, ?_, ?_, ?_, ?_, r3, b1.1, b1.2, r1, r2⟩⟩
  · rw [hc 0 (by omega), List.getElem?_eq_getElem (by omega), e0]
  · rw [hc 1 (by omega), List.getElem?_eq_getElem (by omega), e1]
  · rw [hc 2 (by omega), List.getElem?_eq_getElem (by omega), e2]
  · rw [hc 3 (by omega), List.getElem?_eq_getElem (by omega), e3]
  · rw [hc 4 (by omega), List.getElem?_eq_getElem (by omega), e4]
  · rw [hc 5 (by omega), List.getElem?_eq_getElem (by omega), e5]
end
end Go.Proofs.Ytochifbbefbehaa
namespace Go.Proofs.Ytochifbbefbehaa
open Go.RowKit
set_option linter.unusedVariables false
/-- A disk of N sectors whose power is on, with no failure to come. -/
structure Good (s : Dk) (N : Nat) : Prop where
  len : s.rows.length = N
  off : s.off = false
  fset : s.fset = false
theorem good_new (N : Nat) (h : N ≤ 4096) : Good (Dk.new N) N := ⟨by
  show (List.replicate (min (max (N : Int) 0) 4096).toNat zeros).length = N
  rw [List.length_replicate]
  omega, rfl, rfl⟩
theorem Good.fault0 {s : Dk} {N : Nat} (h : Good s N) {n : Nat} (hn : n < N) : s.faultAt (n : Int) = 0 := by
  unfold Dk.faultAt
  rw [h.off, h.len, if_neg (by simp), if_neg (by omega)]
theorem Good.fault9 {s : Dk} {N : Nat} (h : Good s N) {n : Int} (hn : n < 0 ∨ (N : Int) ≤ n) : s.faultAt n = 9 := by
  unfold Dk.faultAt
  rw [h.off, h.len, if_neg (by simp), if_pos hn]
theorem Good.call {s : Dk} {N : Nat} (h : Good s N) (upd : Dk → Dk) : s.call upd = upd { s with calls := s.calls + 1 } := by
  unfold Dk.call
  rw [h.fset, if_neg (by simp), if_neg (by simp)]
theorem Good.callErr {s : Dk} {N : Nat} (h : Good s N) : s.callErr = 0 := by
  unfold Dk.callErr
  rw [h.fset, if_neg (by simp)]
theorem Good.write {s : Dk} {N : Nat} (h : Good s N) {n : Nat} (hn : n < N) {l : List UInt8} (hl : l.length = 256) : s.write (n : Int) l = ({ s with calls := s.calls + 1 } : Dk).put n l ∧ s.writeErr (n : Int) l = 0 := by
  have h0 := h.fault0 hn
  unfold Dk.write Dk.writeErr
  rw [h0, if_neg (by omega), if_neg (by omega), if_neg (by omega), h.call, h.callErr]
  exact ⟨rfl, rfl⟩
theorem Good.writeNo {s : Dk} {N : Nat} (h : Good s N) {n : Int} (hn : n < 0 ∨ (N : Int) ≤ n) (l : List UInt8) : s.write n l = s := by
  unfold Dk.write
  rw [h.fault9 hn, if_pos (.inl (by omega))]
theorem Good.ofWrite {s : Dk} {N : Nat} (h : Good s N) (n : Int) {l : List UInt8} (hl : l.length = 256) : Good (s.write n l) N ∧ (s.write n l).calls ≤ s.calls + 1 := by
  by_cases hn : n < 0 ∨ (N : Int) ≤ n
  · rw [h.writeNo hn]; exact ⟨h, by omega⟩
  · obtain ⟨k, rfl⟩ := Int.eq_ofNat_of_zero_le (show 0 ≤ n by omega)
    rw [(h.write (n := k) (by omega) hl).1]
    exact ⟨⟨h.len, h.off, h.fset⟩, Nat.le_refl _⟩
theorem Good.sync {s : Dk} {N : Nat} (h : Good s N) : s.sync = ({ s with calls := s.calls + 1 } : Dk).synced ∧ s.syncErr = 0 := by
  have h0 : ¬ s.off = true := by rw [h.off]; simp
  unfold Dk.sync Dk.syncErr
  rw [if_neg h0, if_neg h0, h.call, h.callErr]
  exact ⟨rfl, rfl⟩
theorem Good.ofSync {s : Dk} {N : Nat} (h : Good s N) : Good s.sync N := by
  rw [h.sync.1]
  refine ⟨?_, h.off, h.fset⟩
  show ((List.range s.rows.length).map _).length = N
  rw [List.length_map, List.length_range, h.len]
theorem Good.ofPower {s : Dk} {N : Nat} (h : Good s N) (f : List UInt8) : Good (s.power f) N := by
  refine ⟨?_, rfl, rfl⟩
  show (powerGo s.wt s.waits (s.rows, f)).1.length = N
  rw [powerGo_length]
  exact h.len
theorem put_at (s : Dk) (n : Nat) (l : List UInt8) (i : Nat) : (s.put n l).at_ i = if i = n then l else s.at_ i := by
  unfold Dk.at_ Dk.put
  show (if i = n then some l else s.wt i).getD _ = _
  split <;> rfl
theorem synced_at (s : Dk) (i : Nat) (h : i < s.rows.length) : s.synced.at_ i = s.at_ i := by
  unfold Dk.synced
  show Option.getD none (((List.range s.rows.length).map s.at_).getD i []) = _
  simp [h]
theorem keysOf_none (N : Nat) : keysOf (fun _ => none) N = [] := by simp [keysOf]
theorem power_synced_at (s : Dk) (f : List UInt8) (i : Nat) : (s.synced.power f).at_ i = s.synced.at_ i := by
  have hw : s.synced.waits = [] := keysOf_none _
  unfold Dk.power
  rw [hw]
  rfl
/-- Behind a Write, a Sync and a loss of power. -/
theorem Good.three {s : Dk} {N : Nat} (h : Good s N) {n : Nat} (hn : n < N) {l : List UInt8} (hl : l.length = 256) (f : List UInt8) :
    (∀ i, i < N → ((s.write (n : Int) l).sync.power f).at_ i = if i = n then l else s.at_ i) ∧ ((s.write (n : Int) l).sync.power f).calls = s.calls + 2 ∧ Good ((s.write (n : Int) l).sync.power f) N := by
  have h1 := (h.ofWrite (n : Int) hl).1
  refine ⟨fun i hi => ?_, ?_, (h1.ofSync).ofPower f⟩
  · rw [h1.sync.1, power_synced_at, synced_at _ _ (by show i < (s.write (n : Int) l).rows.length; rw [h1.len]; exact hi)]
    rw [(h.write hn hl).1]
    have : ({ ({ s with calls := s.calls + 1 } : Dk).put n l with calls := (({ s with calls := s.calls + 1 } : Dk).put n l).calls + 1 } : Dk).at_ i = (s.put n l).at_ i := rfl
    rw [this, put_at]
  · rw [h1.sync.1, (h.write hn hl).1]
    rfl
theorem Good.reads {s : Dk} {N : Nat} (h : Good s N) {n : Nat} (hn : n < N) : s.reads (n : Int) = s.at_ n := by
  unfold Dk.reads
  rw [if_pos (h.fault0 hn)]
  rfl
end Go.Proofs.Ytochifbbefbehaa
namespace Go.Proofs.Ytochifbbefbehaa
open Go.RowKit
set_option linter.unusedVariables false
theorem powerGo_out (wt : Nat → Option (List UInt8)) : ∀ (ns : List Nat) (p : List (List UInt8) × List UInt8) (i : Nat), i ∉ ns → (powerGo wt ns p).1.getD i [] = p.1.getD i []
  | [], p, i, _ => rfl
  | n :: ns, p, i, h => by
    show (powerGo wt ns _).1.getD i [] = _
    have hn : n ≠ i := fun e => h (by rw [e]; exact .head _)
    rw [powerGo_out wt ns _ i (fun hm => h (.tail _ hm))]
    show (p.1.set n _).getD i [] = _
    rw [List.getD_eq_getElem?_getD, List.getElem?_set_ne hn, ← List.getD_eq_getElem?_getD]
theorem powerGo_in (wt : Nat → Option (List UInt8)) : ∀ (ns : List Nat) (p : List (List UInt8) × List UInt8) (i : Nat), ns.Nodup → i ∈ ns → i < p.1.length → ∃ fs, (powerGo wt ns p).1.getD i [] = (fate1 (p.1.getD i []) ((wt i).getD []) fs).1
  | [], p, i, _, h, _ => by cases h
  | n :: ns, p, i, hnd, h, hi => by
    obtain ⟨hn, hnd'⟩ := List.nodup_cons.1 hnd
    by_cases e : i = n
    · subst e
      refine ⟨p.2, ?_⟩
      show (powerGo wt ns _).1.getD i [] = _
      rw [powerGo_out wt ns _ i hn]
      show (p.1.set i _).getD i [] = _
      rw [List.getD_eq_getElem?_getD, List.getElem?_set_self hi]
      rfl
    · have hm : i ∈ ns := by
        rcases List.mem_cons.1 h with h | h
        · exact absurd h e
        · exact h
      obtain ⟨fs, hfs⟩ := powerGo_in wt ns (p.1.set n (fate1 (p.1.getD n []) ((wt n).getD []) p.2).1, (fate1 (p.1.getD n []) ((wt n).getD []) p.2).2) i hnd' hm (by simpa using hi)
      refine ⟨fs, hfs.trans ?_⟩
      have : (p.1.set n (fate1 (p.1.getD n []) ((wt n).getD []) p.2).1).getD i [] = p.1.getD i [] := by
        rw [List.getD_eq_getElem?_getD, List.getElem?_set_ne (fun e' => e e'.symm), ← List.getD_eq_getElem?_getD]
      show (fate1 ((p.1.set n _).getD i []) _ fs).1 = _
      rw [this]
/-- What a sector may have: the new one's beginning, and the old one's end. -/
theorem fate1_part (old new fs : List UInt8) (ho : old.length = 256) (hn : new.length = 256) : ∃ t, t ≤ 256 ∧ (fate1 old new fs).1 = new.take t ++ old.drop t := by
  unfold fate1
  split
  · exact ⟨256, Nat.le_refl _, by rw [List.take_of_length_le (by omega), List.drop_of_length_le (by omega), List.append_nil]⟩
  · split
    · exact ⟨_, by have := (tk (tk fs).2).1.toNat_lt; omega, rfl⟩
    · exact ⟨0, by omega, by simp⟩
theorem keysOf_nodup (f : Nat → Option (List UInt8)) (N : Nat) : (keysOf f N).Nodup := (keysOf_sorted f N).imp fun {a b} h => Nat.ne_of_lt h
/-- A sector behind a loss of power. -/
theorem Dk.power_at {s : Dk} (h : s.Ok) (f : List UInt8) {i : Nat} (hi : i < s.rows.length) : ∃ t, t ≤ 256 ∧ (s.power f).at_ i = (s.at_ i).take t ++ (s.rows.getD i []).drop t := by
  have hat : (s.power f).at_ i = (powerGo s.wt s.waits (s.rows, f)).1.getD i [] := rfl
  have hrow : (s.rows.getD i []).length = 256 := by
    refine h.each _ ?_
    rw [List.getD_eq_getElem?_getD, List.getElem?_eq_getElem hi]
    exact List.getElem_mem hi
  rw [hat]
  cases hw : s.wt i with
  | none =>
    have hni : i ∉ s.waits := fun hm => by
      have := (mem_keysOf.1 hm).2
      rw [hw] at this
      cases this
    refine ⟨0, by omega, ?_⟩
    rw [powerGo_out _ _ _ _ hni]
    simp
  | some l =>
    have hin : i ∈ s.waits := mem_keysOf.2 ⟨hi, by rw [hw]; rfl⟩
    obtain ⟨fs, hfs⟩ := powerGo_in s.wt s.waits (s.rows, f) i (keysOf_nodup _ _) hin hi
    rw [hfs, hw]
    have hl := h.wlen i l hw
    obtain ⟨t, ht, e⟩ := fate1_part (s.rows.getD i []) l fs hrow hl
    refine ⟨t, ht, ?_⟩
    have : s.at_ i = l := by unfold Dk.at_; rw [hw]; rfl
    rw [this]
    exact e
/-- Bytes of which the first t are x and the others m. -/
theorem part_at {x m : UInt8} {t k : Nat} (ht : t ≤ 256) {y : List UInt8} (hy : y = (oneB x).take t ++ (oneB m).drop t) : (k < t → y[k]? = some x) ∧ (t ≤ k → k < 256 → y[k]? = some m) := by
  subst hy
  have hl : ((oneB x).take t).length = t := by rw [List.length_take, oneB_len]; omega
  constructor
  · intro hk
    rw [List.getElem?_append_left (by omega), List.getElem?_take, if_pos hk]
    unfold oneB
    rw [List.getElem?_replicate, if_pos (by omega)]
  · intro h1 h2
    rw [List.getElem?_append_right (by omega), hl, List.getElem?_drop]
    unfold oneB
    rw [List.getElem?_replicate, if_pos (by omega)]
end Go.Proofs.Ytochifbbefbehaa
