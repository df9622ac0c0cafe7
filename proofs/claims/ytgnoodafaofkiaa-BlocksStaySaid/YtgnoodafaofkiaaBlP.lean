/- The package blocks: what blocks that are written leave, while no failure is to come (plain). -/
import Derived.Test.YtgnoodafaofkiaaBlE
namespace Go.Proofs.Ytgnoodafaofkiaa
open Go.RowKit
set_option linter.unusedVariables false
/-- What k sectors from x on that are written leave. -/
theorem Good.bw {s : Dk} {N : Nat} (h : Good s N) {x : Nat} {b : List UInt8} (hb : b.length = 1024) (hx : x + 4 ≤ N) : ∀ k, k ≤ 4 →
    (s.bw (x : Int) b k).2 = 0 ∧ Good (s.bw (x : Int) b k).1 N ∧ (s.bw (x : Int) b k).1.calls = s.calls + k ∧ (s.bw (x : Int) b k).1.rows = s.rows ∧
    (∀ i, (s.bw (x : Int) b k).1.wt i = if x ≤ i ∧ i < x + k then some (part b (i - x)) else s.wt i)
  | 0, _ => ⟨rfl, h, rfl, rfl, fun i => by rw [if_neg (by omega)]; rfl⟩
  | k + 1, hk => by
    obtain ⟨h1, h2, h3, h4, h5⟩ := Good.bw h hb hx k (by omega)
    have e : s.bw (x : Int) b (k + 1) = ((s.bw (x : Int) b k).1.write ((x : Int) + k) (part b k), (s.bw (x : Int) b k).1.writeErr ((x : Int) + k) (part b k)) := if_pos h1
    have ek : ((x : Int) + (k : Int)) = ((x + k : Nat) : Int) := by omega
    rw [ek] at e
    obtain ⟨w1, w2⟩ := h2.write (n := x + k) (by omega) (part_len hb (show k < 4 by omega))
    rw [e, w1, w2]
    refine ⟨rfl, ⟨?_, h2.off, h2.fset⟩, ?_, h4, fun i => ?_⟩
    · exact h2.len
    · show (s.bw (x : Int) b k).1.calls + 1 = _
      omega
    · show (if i = x + k then some (part b k) else (s.bw (x : Int) b k).1.wt i) = _
      rw [h5 i]
      by_cases hi : i = x + k
      · rw [if_pos hi, if_pos (by omega), show i - x = k by omega]
      · rw [if_neg hi]
        by_cases hj : x ≤ i ∧ i < x + k
        · rw [if_pos hj, if_pos (by omega)]
        · rw [if_neg hj, if_neg (by omega)]
theorem part_all {b : List UInt8} (hb : b.length = 1024) : part b 0 ++ part b 1 ++ part b 2 ++ part b 3 = b := by
  unfold part
  have e3 : (b.drop (3 * 256)).take 256 = b.drop (3 * 256) := List.take_of_length_le (by rw [List.length_drop, hb]; omega)
  have go : ∀ k, (b.drop (k * 256)).take 256 ++ b.drop ((k + 1) * 256) = b.drop (k * 256) := fun k => by
    rw [show (k + 1) * 256 = k * 256 + 256 by omega, ← List.drop_drop, List.take_append_drop]
  rw [e3, List.append_assoc, List.append_assoc, go 2, go 1, go 0]
  simp
theorem Dk.rd_four {s : Dk} {x : Nat} {b : List UInt8} (hb : b.length = 1024) (h : ∀ k, k < 4 → s.at_ (x + k) = part b k) : s.rd x 4 = b := by
  show (((([] : List UInt8) ++ s.at_ (x + 0)) ++ s.at_ (x + 1)) ++ s.at_ (x + 2)) ++ s.at_ (x + 3) = b
  rw [h 0 (by omega), h 1 (by omega), h 2 (by omega), h 3 (by omega), List.nil_append]
  exact part_all hb
theorem Ar.may_of {p q : Int} (h : 0 ≤ p ∧ p ≤ 4096 ∧ 0 ≤ q ∧ q ≤ 512) : Ar.may ⟨p, q⟩ = true := decide_eq_true h
theorem Ar.fault_zero {p q : Int} {size : Nat} {n : Int} (h : 0 ≤ p ∧ p ≤ 4096 ∧ 0 ≤ q ∧ q ≤ 512) (hc : p + 4 * q ≤ (size : Int)) (hn : 0 ≤ n ∧ n < q) : Ar.fault ⟨p, q⟩ size n = 0 := by
  unfold Ar.fault Ar.check
  rw [if_pos (by rw [if_pos ⟨Ar.may_of h, hc⟩]), if_pos (show Ar.has ⟨p, q⟩ n = true from decide_eq_true hn)]
theorem Ar.fault_nine {p q : Int} {size : Nat} {n : Int} (h : 0 ≤ p ∧ p ≤ 4096 ∧ 0 ≤ q ∧ q ≤ 512) (hc : p + 4 * q ≤ (size : Int)) (hn : ¬ (0 ≤ n ∧ n < q)) : Ar.fault ⟨p, q⟩ size n = 9 := by
  unfold Ar.fault Ar.check
  rw [if_pos (by rw [if_pos ⟨Ar.may_of h, hc⟩]), if_neg (by rw [show Ar.has ⟨p, q⟩ n = false from decide_eq_false hn]; simp)]
/-- A block of which each sector is there is opened. -/
theorem Dk.bread_seal {s : Dk} {N : Nat} (h : Good s N) {p q n : Int} (hp : 0 ≤ p ∧ p ≤ 4096 ∧ 0 ≤ q ∧ q ≤ 512) (hc : p + 4 * q ≤ (N : Int)) (hn : 0 ≤ n ∧ n < q) {l : List UInt8} (hl : l.length + 8 ≤ 1024)
    (ha : ∀ k, k < 4 → s.at_ ((p + 4 * n).toNat + k) = part (sealL l 1024) k) : s.bread ⟨p, q⟩ n = (l, 0) := by
  unfold Dk.bread
  rw [h.len, Ar.fault_zero hp hc hn, if_neg (by simp), h.off, if_neg (by simp)]
  show opn (s.rd (p + 4 * n).toNat 4) 1024 = _
  rw [Dk.rd_four (seal_len l 1024 hl) ha]
  exact opn_seal hl (by omega)
theorem Good.sync_power {s : Dk} {N : Nat} (h : Good s N) (f : List UInt8) {i : Nat} (hi : i < N) : (s.sync.power f).at_ i = s.at_ i := by
  rw [h.sync.1, power_synced_at, synced_at _ _ (by show i < s.rows.length; rw [h.len]; exact hi)]
  rfl
end Go.Proofs.Ytgnoodafaofkiaa
