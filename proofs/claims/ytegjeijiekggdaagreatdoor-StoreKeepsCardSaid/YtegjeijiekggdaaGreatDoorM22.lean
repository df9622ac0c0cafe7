/- Joined: QV QW QX. -/
import Derived.Test.YtegjeijiekggdaaGreatDoorM20
import Derived.Test.YtegjeijiekggdaaGreatDoorM21
import Derived.RangeFuncBox
import Derived.RangeFuncNested
import Derived.RangeFuncBound
import Derived.RangeFuncCalls
import Derived.RangeFuncLeaves
import Derived.Shelf.Abstract
import Derived.Shelf.RegionOpen
import Derived.WalkKit
import Derived.OwnWalkIn
import Derived.TacticsInMore
import Derived.LoopNIn
import Derived.LoopIn
import Derived.Maps.AppendAt
import Derived.StillTailTactics
section
/- The package bitmap: the runs (plain, and the iterator). -/
namespace Go.Proofs.YtegjeijiekggdaaGreatDoor
open Go.RowKit Go.Shelf
set_option linter.unusedVariables false
set_option linter.unusedSimpArgs false
attribute [local go_sem] Oper.semAt_some
theorem seekN_ge (p : Nat → Bool) : ∀ a k, a ≤ seekN p a k
  | a, 0 => Nat.le_refl _
  | a, k + 1 => by
    unfold seekN
    split
    · exact Nat.le_refl _
    · have := seekN_ge p (a + 1) k; omega
theorem seekN_miss (p : Nat → Bool) : ∀ a k i, a ≤ i → i < seekN p a k → p i = false
  | a, 0, i, h1, h2 => by unfold seekN at h2; omega
  | a, k + 1, i, h1, h2 => by
    unfold seekN at h2
    by_cases hp : p a = true
    · rw [if_pos hp] at h2; omega
    · rw [if_neg hp] at h2
      by_cases e : i = a
      · subst e; simpa using hp
      · exact seekN_miss p (a + 1) k i (by omega) h2
theorem seekN_hit (p : Nat → Bool) : ∀ a k, seekN p a k < a + k → p (seekN p a k) = true
  | a, 0, h => by unfold seekN at h; omega
  | a, k + 1, h => by
    unfold seekN at h ⊢
    by_cases hp : p a = true
    · rw [if_pos hp]; exact hp
    · rw [if_neg hp] at h ⊢
      exact seekN_hit p (a + 1) k (by omega)
theorem seekR_le {s a : Nat} (L : List UInt64) (on : Bool) : seekR s L a on ≤ s := by
  unfold seekR
  split
  · have := seekN_le (isOn L on) a (s - a); omega
  · exact Nat.le_refl _
theorem seekR_ge {s a : Nat} (L : List UInt64) (on : Bool) (h : a ≤ s) : a ≤ seekR s L a on := by
  unfold seekR
  split
  · exact seekN_ge _ _ _
  · exact h
theorem seekR_miss {s a i : Nat} {L : List UInt64} {on : Bool} (h0 : a ≤ s) (h1 : a ≤ i) (h2 : i < seekR s L a on) : isOn L on i = false := by
  unfold seekR at h2
  split at h2
  · exact seekN_miss _ _ _ _ h1 h2
  · omega
theorem seekR_hit {s a : Nat} {L : List UInt64} {on : Bool} (h : seekR s L a on < s) : isOn L on (seekR s L a on) = true := by
  unfold seekR at h ⊢
  split
  · rename_i h1
    rw [if_pos h1] at h
    exact seekN_hit _ _ _ (by omega)
  · rename_i h1
    rw [if_neg h1] at h; omega
theorem isOn_not (L : List UInt64) (on : Bool) (i : Nat) : isOn L (!on) i = !isOn L on i := by
  unfold isOn
  cases bitL L i <;> cases on <;> rfl
/-- How many runs may come yet. -/
def runM (s : Nat) (L : List UInt64) (a : Nat) (on : Bool) : Nat := 2 * (s - a) + (if isOn L on a = true then 0 else 1)
theorem runM_step {s a : Nat} {L : List UInt64} {on : Bool} (h : a < s) : runM s L (seekR s L a (!on)) (!on) < runM s L a on := by
  unfold runM
  have h1 := seekR_le (s := s) (a := a) L (!on)
  have h2 := seekR_ge (s := s) L (!on) (Nat.le_of_lt h)
  by_cases e : isOn L on a = true
  · rw [if_pos e]
    have h3 : seekR s L a (!on) ≠ a := by
      intro e2
      have := seekR_hit (s := s) (a := a) (L := L) (on := !on) (by omega)
      rw [e2, isOn_not, e] at this
      cases this
    split <;> omega
  · rw [if_neg e]
    by_cases h3 : seekR s L a (!on) = a
    · rw [h3, isOn_not]
      have : isOn L on a = false := by simpa using e
      rw [this, if_pos (show (!false) = true from rfl)]
      omega
    · split <;> omega
theorem capN (n : Nat) : min n 4096 < 4097 := by omega
/-- The lengths of the runs from a on. -/
def runsF (s : Nat) (L : List UInt64) : Nat → Nat → Bool → List (Fin 4097)
  | 0, _, _ => []
  | f + 1, a, on => if a < s then ⟨min (seekR s L a (!on) - a) 4096, capN _⟩ :: runsF s L f (seekR s L a (!on)) (!on) else []
theorem runsF_len (s : Nat) (L : List UInt64) : ∀ f a on, (runsF s L f a on).length ≤ f
  | 0, _, _ => Nat.le_refl _
  | f + 1, a, on => by
    unfold runsF
    split
    · have := runsF_len s L f (seekR s L a (!on)) (!on); simp; omega
    · exact Nat.zero_le _
def runs (s : Nat) (L : List UInt64) : List (Fin 4097) := runsF s L (2 * s + 1) 0 false
theorem runM_start (s : Nat) (L : List UInt64) : runM s L 0 false ≤ 2 * s + 1 := by unfold runM; split <;> omega
theorem grown_below {w w' : World} (h : Below w.heap.size w w') : w.grownBy w' none := ⟨h.os, h.tape, h.output, h.size, fun k hk _ => h.block k hk⟩
def boolOf : Value → Bool
  | .bool b => b
  | _ => false
end Go.Proofs.YtegjeijiekggdaaGreatDoor
end
section
/- The package bitmap: Put. -/
namespace Go.Proofs.YtegjeijiekggdaaGreatDoor
open Go.RowKit Go.Shelf
set_option linter.unusedVariables false
set_option linter.unusedSimpArgs false
attribute [local go_sem] Oper.semAt_some
def layR (l : List (Fin 4097)) : List UInt8 := l.flatMap fun n => putSmall n.val
theorem layR_snoc (l : List (Fin 4097)) (x : Fin 4097) : layR (l ++ [x]) = layR l ++ putSmall x.val := by simp [layR]
theorem putSmall_len (n : Nat) (h : n < 18446744073709551616) : (putSmall n).length ≤ 9 := by
  have := wid_le8 n h
  simp [putSmall, hi_len]
  omega
theorem layR_len : ∀ l : List (Fin 4097), (layR l).length ≤ 9 * l.length
  | [] => Nat.le_refl _
  | x :: l => by
    have h1 := layR_len l
    have h2 := putSmall_len x.val (by omega)
    show (putSmall x.val ++ layR l).length ≤ _
    rw [List.length_append, List.length_cons]
    omega
def putB (s : Int) (L : List UInt64) : List UInt8 := if okB s L = true then putSmall s.toNat ++ layR (runs s.toNat L) else []
/-- What the loop's body keeps: all that lay below b, and the map's box. -/
def KpR (b q : Nat) (V V' : World) : Prop := Below b V V' ∧ V'.heap[q]? = V.heap[q]?
theorem KpR.trans {b q : Nat} {X Y Z : World} (h1 : KpR b q X Y) (h2 : KpR b q Y Z) : KpR b q X Z := ⟨h1.1.trans h2.1, h2.2.trans h1.2⟩
theorem KpR.refl (b q : Nat) (W : World) : KpR b q W W := ⟨Below.refl _ _, rfl⟩
theorem stepIn_append_B {F : Fence} {n : Nat} {w : World} {ops : Array Oper} {o : Oper} {a : Act} {K : Act → World → Prop} {Q : Exit → Act → World → Prop} {E : Prop} (hgd : o.guard = none) (s x : Operand)
    (ho : o.op = .call { callee := .builtin .append, args := #[s, x], argTypes := #[29, 29] })
    (base : Nat) (v : Value) (l : List UInt8) (hs : a.eval s = v) (hown : OB base w v l) (A : Option Addr) (m c : Nat) (news : List UInt8) (hx : a.eval x = .slice A m c) (hm : news.length = m) (hr : RB w A news)
    (hbound : l.length + m ≤ 70368744177664) (hbase : base ≤ w.heap.size)
    (h : ∀ v' w', OB base w' v' (l ++ news) → Below base w w' → w.grownBy w' v.ownBlock → K (a.put o.dst v') w') :
    if Region.wanted o (yielded ops a.tmps) = true then Oper.wpIn F n Tryz.prog o a w K Q else E := by
  have hw : Region.wanted o (yielded ops a.tmps) = true := by simp [Region.wanted, hgd]
  rw [if_pos hw]
  obtain ⟨v', w', hrun, h2, h3, h4⟩ := run_append_B o.type hown c hm hr hbound hbase
  unfold Oper.wpIn
  refine ⟨?_, ?_⟩
  · simp [Oper.about, ho, resolve, Target.leads, Sem.run_pure]
  · rw [Oper.semAt_plain F _ _ (by rw [ho]; intro c hc'; cases hc')]
    simp [execOp, ho, resolve, invoke, builtin, hs, hx, hrun, Result.andThen]
    exact h v' w' h2 h3 h4
theorem heap_putObj_ne {W : World} {l q : Nat} {o : Obj} (h : l ≠ q) : (W.putObj l o).heap[q]? = W.heap[q]? := by
  show (W.heap.setIfInBounds l o)[q]? = _
  rw [Array.getElem?_setIfInBounds_ne h]
theorem OB.shape {base : Nat} {w : World} {v : Value} {l : List UInt8} (h : OB base w v l) : ∃ A n c, v = .slice A n c := by
  obtain ⟨A, c, e, _⟩ := h.form
  exact ⟨A, _, c, e⟩
theorem boxB_appended {W w1 : World} {n₀ B : Nat} {v v' : Value} {l l' : List UInt8} (hv : Boxed W B 29 v) (hrow : OB n₀ W v l) (hn₀ : n₀ ≤ W.heap.size) (hB : n₀ ≤ B) (hown' : OB n₀ w1 v' l') (hgrow : W.grownBy w1 v.ownBlock) :
    Boxed w1 B 29 v ∧ Boxed (w1.setCell ⟨B, 0, none⟩ v') B 29 v' ∧ OB n₀ (w1.setCell ⟨B, 0, none⟩ v') v' l' ∧ KeepsOthers W (w1.setCell ⟨B, 0, none⟩ v') ∧ Below n₀ W (w1.setCell ⟨B, 0, none⟩ v') := by
  unfold OB at *
  have hv1 : Boxed w1 B 29 v := hv.kept hgrow (hv.not_row (by decide) hrow)
  refine ⟨hv1, hv1.set v', hown'.kept (grownBy_setCell' w1 B v') (.inr (hv1.not_row (by decide) hown').symm), ?_, ?_⟩
  · refine (KeepsOthers.of_grownBy hgrow fun j o ej hj => ?_).trans (KeepsOthers.setCell _ _ _)
    rcases hrow.2 with ⟨rfl, _⟩ | ⟨g, cap, cur, rfl, _, hgb, _⟩
    · simp [Value.ownBlock] at ej
    · obtain rfl : g = j := by simpa [Value.ownBlock] using ej
      rw [hgb] at hj; cases hj; rfl
  · refine ((Below.refl n₀ W).grown hgrow hn₀ fun j ej => ?_).setCell (p := ⟨B, 0, none⟩) hB v'
    rcases hrow.2 with ⟨rfl, _⟩ | ⟨g, cap, cur, rfl, hb, _, _⟩
    · simp [Value.ownBlock] at ej
    · obtain rfl : g = j := by simpa [Value.ownBlock] using ej
      exact hb
theorem putFin {B b g : Nat} {w W w5 w6 : World} {v v6 : Value} {l l6 : List UInt8} {X : Array Value} (hbw : b ≤ W.heap.size) (hB : Below b w W) (hM : W.heap[g + 1]? = some (.cells X 64 (0, 0))) (b5 : Below W.heap.size W w5) (R5 : OB b w5 v l) (g6 : w5.grownBy w6 v.ownBlock)
    (p2 : Boxed (w6.setCell ⟨g, 0, none⟩ v6) g 29 v6) (p3 : OB b (w6.setCell ⟨g, 0, none⟩ v6) v6 l6) (p4 : KeepsOthers w5 (w6.setCell ⟨g, 0, none⟩ v6)) (p5 : Below b w5 (w6.setCell ⟨g, 0, none⟩ v6)) :
    KeepsFrom B W (w6.setCell ⟨g, 0, none⟩ v6) ∧ KpR b (g + 1) W (w6.setCell ⟨g, 0, none⟩ v6) ∧ ((∃ v, Boxed (w6.setCell ⟨g, 0, none⟩ v6) g 29 v ∧ (w6.setCell ⟨g, 0, none⟩ v6).ownsRow b 5 1 v l6.length (cellsB l6) ∧ True) ∧ Below b w (w6.setCell ⟨g, 0, none⟩ v6)) ∧ (w6.setCell ⟨g, 0, none⟩ v6).heap[g + 1]? = some (.cells X 64 (0, 0)) := by
  have hlt : g + 1 < W.heap.size := (Array.getElem?_eq_some_iff.1 hM).1
  have h5 : w5.heap[g + 1]? = some (.cells X 64 (0, 0)) := (b5.block _ hlt).trans hM
  have hne : some (g + 1) ≠ v.ownBlock := by
    unfold OB at R5
    rcases R5.2 with ⟨rfl, _⟩ | ⟨q, cap, cur, rfl, _, hq, _⟩
    · simp [Value.ownBlock]
    · intro e
      obtain rfl : g + 1 = q := by simpa [Value.ownBlock] using e
      rw [hq] at h5
      simp at h5
  have h6 : w6.heap[g + 1]? = some (.cells X 64 (0, 0)) := (g6.block (g + 1) (by have := b5.size; omega) hne).trans h5
  have h7 : (w6.setCell ⟨g, 0, none⟩ v6).heap[g + 1]? = some (.cells X 64 (0, 0)) := by rw [heap_setCell_ne (by simp)]; exact h6
  have hb : Below b W (w6.setCell ⟨g, 0, none⟩ v6) := (b5.mono hbw).trans p5
  exact ⟨((KeepsOthers.of_grownBy (grown_below b5) (fun j o e => by cases e)).trans p4).from _, ⟨hb, h7.trans hM.symm⟩, ⟨⟨v6, p2, p3, trivial⟩, hB.trans hb⟩, h7⟩
end Go.Proofs.YtegjeijiekggdaaGreatDoor
end
section
/- The package bitmap: fill. -/
namespace Go.Proofs.YtegjeijiekggdaaGreatDoor
open Go.RowKit
set_option linter.unusedVariables false
set_option linter.unusedSimpArgs false
def putBit (L : List UInt64) (i : Nat) : List UInt64 := L.set (i / 64) (setU (L.getD (i / 64) 0) (i % 64) true)
def fillL (L : List UInt64) (a : Nat) : Nat → List UInt64
  | 0 => L
  | k + 1 => putBit (fillL L a k) (a + k)
theorem putBit_len (L : List UInt64) (i : Nat) : (putBit L i).length = L.length := by simp [putBit]
theorem fillL_len (L : List UInt64) (a : Nat) : ∀ k, (fillL L a k).length = L.length
  | 0 => rfl
  | k + 1 => by rw [fillL, putBit_len, fillL_len]
theorem putBit_bit {L : List UInt64} {m : Nat} (hm : m / 64 < L.length) (i : Nat) : bitL (putBit L m) i = if i = m then true else bitL L i := by
  unfold putBit bitL
  rw [List.getD_eq_getElem?_getD, List.getElem?_set]
  by_cases e : m / 64 = i / 64
  · rw [if_pos e, if_pos (by omega)]
    show (setU _ _ true).toNat.testBit _ = _
    rw [setU_nat _ _ (by omega), setW_bit]
    by_cases e2 : i = m
    · subst e2; rw [if_pos rfl, if_pos rfl]
    · rw [if_neg (by omega), if_neg e2, e]
  · rw [if_neg e, if_neg (by omega), List.getD_eq_getElem?_getD]
theorem fillL_bit (L : List UInt64) (a i : Nat) : ∀ k, a + k ≤ 64 * L.length → bitL (fillL L a k) i = (bitL L i || decide (a ≤ i ∧ i < a + k))
  | 0, _ => by rw [decide_eq_false (by omega), Bool.or_false]; rfl
  | k + 1, h => by
    rw [fillL, putBit_bit (by rw [fillL_len]; omega), fillL_bit L a i k (by omega)]
    by_cases e : i = a + k
    · rw [if_pos e, decide_eq_true (by omega), Bool.or_true]
    · rw [if_neg e]
      congr 1
      rw [decide_eq_decide]
      omega
theorem OQ.own1 {base : Nat} {w : World} {gv n c : Nat} {L : List UInt64} {k : Nat} {x : UInt64} (h : OQ base w (.slice (some ⟨gv, 0, none⟩) n c) L) (hk : L[k]? = some x) (y : UInt64) (z : Int) (hz : z = (y.toNat : Int)) : OQ base (w.setCell ⟨gv, k, none⟩ (.int .u64 z)) (.slice (some ⟨gv, 0, none⟩) n c) (L.set k y) := (h.atg x hk).2.2.2.2 y z hz
theorem OnlyB.trans {g : Nat} {X Y Z : World} (h1 : OnlyB g X Y) (h2 : OnlyB g Y Z) : OnlyB g X Z := ⟨h2.os.trans h1.os, h2.tape.trans h1.tape, h2.output.trans h1.output, h2.size.trans h1.size, fun b hb => (h2.block b hb).trans (h1.block b hb)⟩
theorem OnlyB.drew {g : Nat} {X Y : World} (h : OnlyB g X Y) : OnlyB g X Y.drew := ⟨h.os, h.tape, h.output, h.size, h.block⟩
end Go.Proofs.YtegjeijiekggdaaGreatDoor
end
