/- Joined: BlP. -/
import Derived.Test.YtegjeijiekggdaaGreatDoorM09
import Derived.Test.YtegjeijiekggdaaGreatDoorM11
section
/- The package blocks: Sound. The package blocks: what blocks that are written leave, while no failure is to come (plain). -/
namespace Go.Proofs.YtegjeijiekggdaaGreatDoor
open Go.RowKit
set_option linter.unusedVariables false
/-- The blocks below k that can be read. -/
def Dk.soundTo (s : Dk) (a : Ar) : Nat → List Nat
  | 0 => []
  | k + 1 => if (s.bread a (k : Int)).2 = 0 then s.soundTo a k ++ [k] else s.soundTo a k
theorem Dk.soundTo_length (s : Dk) (a : Ar) : ∀ k, (s.soundTo a k).length ≤ k
  | 0 => Nat.le_refl _
  | k + 1 => by
    have := Dk.soundTo_length s a k
    unfold Dk.soundTo
    split
    · simp; omega
    · omega
def Dk.sound (s : Dk) (a : Ar) : List Nat := if a.check s.rows.length = 0 then s.soundTo a a.count.toNat else []
/-- While a row of numbers grows behind one box. -/
structure GrowI (w : World) (o : Obj) (L : List Nat) (v : Value) (wr : World) : Prop where
  own : wr.ownsRow (w.heap.size + 1) 3 1 v L.length (rowN L)
  b0 : wr.heap[w.heap.size]? = some o
  below : Below w.heap.size w wr
theorem GrowI.lt {w : World} {o : Obj} {L : List Nat} {v : Value} {wr : World} (h : GrowI w o L v wr) : w.heap.size < wr.heap.size := (Array.getElem?_eq_some_iff.1 h.b0).1
theorem GrowI.form {w : World} {o : Obj} {L : List Nat} {v : Value} {wr : World} (h : GrowI w o L v wr) : ∃ A c, v = .slice A L.length c := by
  rcases h.own.2 with ⟨e, h0⟩ | ⟨g, cap, cur, e, _⟩
  · exact ⟨none, 0, by rw [e, h0]⟩
  · exact ⟨some ⟨g, 0, none⟩, cap, e⟩
theorem GrowI.later {w : World} {o : Obj} {L : List Nat} {A : Option Addr} {n c : Nat} {wr w1 : World} (h : GrowI w o L (.slice A n c) wr) (hb : Below wr.heap.size wr w1) : GrowI w o L (.slice A n c) w1 := by
  refine ⟨?_, (hb.block _ h.lt).trans h.b0, h.below.trans (hb.mono h.below.size)⟩
  refine ⟨h.own.1, ?_⟩
  rcases h.own.2 with h | ⟨g, cap, cur, e, hb', hh, r⟩
  · exact .inl h
  · exact .inr ⟨g, cap, cur, e, hb', (hb.block g (Array.getElem?_eq_some_iff.1 hh).1).trans hh, r⟩
theorem GrowI.step {w : World} {o : Obj} {L : List Nat} {v v' : Value} {wr w1 : World} (h : GrowI w o L v wr) (o' : Obj) (x : Nat) (hown : w1.ownsRow (w.heap.size + 1) 3 1 v' (L.length + 1) (rowN L ++ [.int .i64 (x : Int)])) (hg : (wr.alloc o').grownBy w1 v.ownBlock) : GrowI w o (L ++ [x]) v' w1 := by
  have hsz := h.lt
  have hvb : ∀ i, v.ownBlock = some i → w.heap.size + 1 ≤ i := fun i e => (World.ownsRow.lt h.own i e).1
  have keep : ∀ i, i < w.heap.size + 1 → w1.heap[i]? = wr.heap[i]? := fun i hi =>
    (hg.block i (by simp; omega) (fun e => by have := hvb i e.symm; omega)).trans ((Below.heap_alloc _ _ _ (by omega)))
  refine ⟨?_, (keep _ (by omega)).trans h.b0, ?_⟩
  · rw [List.length_append]
    unfold rowN at *
    rw [List.map_append]
    exact hown
  · exact ⟨hg.os.trans h.below.os, hg.tape.trans h.below.tape, hg.output.trans h.below.output, Nat.le_trans h.below.size (Nat.le_trans (by simp) hg.size), fun i hi => (keep i (by omega)).trans (h.below.block i hi)⟩
def SoundRel (w : World) (o : Obj) (s : Dk) (a : Ar) (q : Nat) (v i : Value) (wr : World) : Prop :=
  ∃ k : Nat, k ≤ q ∧ i = .int .i64 (k : Int) ∧ GrowI w o (s.soundTo a k) v wr
end Go.Proofs.YtegjeijiekggdaaGreatDoor
namespace Go.Proofs.YtegjeijiekggdaaGreatDoor
open Go.RowKit
set_option linter.unusedVariables false
/-- What k sectors from x on that are written leave. -/
theorem Good.bw {s : Dk} {N : Nat} (h : Good s N) {x : Nat} {b : List UInt8} (hb : b.length = 1024) (hx : x + 4 ≤ N) : ∀ k, k ≤ 4 →
    (s.bw (x : Int) b k).2 = 0 ∧ Good (s.bw (x : Int) b k).1 N ∧ (s.bw (x : Int) b k).1.calls = s.calls + k ∧ (s.bw (x : Int) b k).1.rows = s.rows ∧
    (∀ i, (s.bw (x : Int) b k).1.wt i = if x ≤ i ∧ i < x + k then some (part b (i - x)) else s.wt i)
  | 0, _ => ⟨rfl, h, rfl, rfl, fun i => by rw [if_neg (by omega)]; rfl⟩
  | k + 1, hk => by
    obtain ⟨h1, h2, h3, h4, h5⟩ := Good.bw h hb hx k (by omega)
    have e : s.bw (x : Int) b (k + 1) = ((s.bw (x : Int) b k).1.write ((x : Int) + k) (part b k), (s.bw (x : Int) b k).1.writeErr ((x : Int) + k) (part b k)) := if_pos h1
    have ek : ((x : Int) + (k : Int)) = ((x + k : Nat) : Int) := by omega
    rw [ek] at e
    obtain ⟨w1, w2⟩ := h2.write (n := x + k) (by omega) (part_len hb (show k < 4 by omega))
    rw [e, w1, w2]
    refine ⟨rfl, ⟨?_, h2.off, h2.fset⟩, ?_, h4, fun i => ?_⟩
    · exact h2.len
    · show (s.bw (x : Int) b k).1.calls + 1 = _
      omega
    · show (if i = x + k then some (part b k) else (s.bw (x : Int) b k).1.wt i) = _
      rw [h5 i]
      by_cases hi : i = x + k
      · rw [if_pos hi, if_pos (by omega), show i - x = k by omega]
      · rw [if_neg hi]
        by_cases hj : x ≤ i ∧ i < x + k
        · rw [if_pos hj, if_pos (by omega)]
        · rw [if_neg hj, if_neg (by omega)]
theorem part_all {b : List UInt8} (hb : b.length = 1024) : part b 0 ++ part b 1 ++ part b 2 ++ part b 3 = b := by
  unfold part
  have e3 : (b.drop (3 * 256)).take 256 = b.drop (3 * 256) := List.take_of_length_le (by rw [List.length_drop, hb]; omega)
  have go : ∀ k, (b.drop (k * 256)).take 256 ++ b.drop ((k + 1) * 256) = b.drop (k * 256) := fun k => by
    rw [show (k + 1) * 256 = k * 256 + 256 by omega, ← List.drop_drop, List.take_append_drop]
  rw [e3, List.append_assoc, List.append_assoc, go 2, go 1, go 0]
  simp
theorem Dk.rd_four {s : Dk} {x : Nat} {b : List UInt8} (hb : b.length = 1024) (h : ∀ k, k < 4 → s.at_ (x + k) = part b k) : s.rd x 4 = b := by
  show (((([] : List UInt8) ++ s.at_ (x + 0)) ++ s.at_ (x + 1)) ++ s.at_ (x + 2)) ++ s.at_ (x + 3) = b
  rw [h 0 (by omega), h 1 (by omega), h 2 (by omega), h 3 (by omega), List.nil_append]
  exact part_all hb
theorem Ar.may_of {p q : Int} (h : 0 ≤ p ∧ p ≤ 4096 ∧ 0 ≤ q ∧ q ≤ 512) : Ar.may ⟨p, q⟩ = true := decide_eq_true h
theorem Ar.fault_zero {p q : Int} {size : Nat} {n : Int} (h : 0 ≤ p ∧ p ≤ 4096 ∧ 0 ≤ q ∧ q ≤ 512) (hc : p + 4 * q ≤ (size : Int)) (hn : 0 ≤ n ∧ n < q) : Ar.fault ⟨p, q⟩ size n = 0 := by
  unfold Ar.fault Ar.check
  rw [if_pos (by rw [if_pos ⟨Ar.may_of h, hc⟩]), if_pos (show Ar.has ⟨p, q⟩ n = true from decide_eq_true hn)]
theorem Ar.fault_nine {p q : Int} {size : Nat} {n : Int} (h : 0 ≤ p ∧ p ≤ 4096 ∧ 0 ≤ q ∧ q ≤ 512) (hc : p + 4 * q ≤ (size : Int)) (hn : ¬ (0 ≤ n ∧ n < q)) : Ar.fault ⟨p, q⟩ size n = 9 := by
  unfold Ar.fault Ar.check
  rw [if_pos (by rw [if_pos ⟨Ar.may_of h, hc⟩]), if_neg (by rw [show Ar.has ⟨p, q⟩ n = false from decide_eq_false hn]; simp)]
/-- A block of which each sector is there is opened. -/
theorem Dk.bread_seal {s : Dk} {N : Nat} (h : Good s N) {p q n : Int} (hp : 0 ≤ p ∧ p ≤ 4096 ∧ 0 ≤ q ∧ q ≤ 512) (hc : p + 4 * q ≤ (N : Int)) (hn : 0 ≤ n ∧ n < q) {l : List UInt8} (hl : l.length + 8 ≤ 1024)
    (ha : ∀ k, k < 4 → s.at_ ((p + 4 * n).toNat + k) = part (sealL l 1024) k) : s.bread ⟨p, q⟩ n = (l, 0) := by
  unfold Dk.bread
  rw [h.len, Ar.fault_zero hp hc hn, if_neg (by simp), h.off, if_neg (by simp)]
  show opn (s.rd (p + 4 * n).toNat 4) 1024 = _
  rw [Dk.rd_four (seal_len l 1024 hl) ha]
  exact opn_seal hl (by omega)
theorem Good.sync_power {s : Dk} {N : Nat} (h : Good s N) (f : List UInt8) {i : Nat} (hi : i < N) : (s.sync.power f).at_ i = s.at_ i := by
  rw [h.sync.1, power_synced_at, synced_at _ _ (by show i < s.rows.length; rw [h.len]; exact hi)]
  rfl
end Go.Proofs.YtegjeijiekggdaaGreatDoor
end
