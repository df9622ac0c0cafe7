/- The package bitmap: the runs (plain, and the iterator). -/
import Derived.Test.YtmmehomobmoapaaDoorQU
import Derived.Test.YtmmehomobmoapaaDoorOkC
import Derived.RangeFuncBox
import Derived.RangeFuncNested
import Derived.RangeFuncBound
import Derived.RangeFuncCalls
import Derived.RangeFuncLeaves
import Derived.Shelf.Abstract
import Derived.Shelf.RegionOpen
import Derived.WalkKit
import Derived.OwnWalkIn
import Derived.TacticsInMore
import Derived.LoopNIn
import Derived.LoopIn
import Derived.Maps.AppendAt
namespace Go.Proofs.YtmmehomobmoapaaDoor
open Go.RowKit Go.Shelf
set_option linter.unusedVariables false
set_option linter.unusedSimpArgs false
attribute [local go_sem] Oper.semAt_some
theorem seekN_ge (p : Nat → Bool) : ∀ a k, a ≤ seekN p a k
  | a, 0 => Nat.le_refl _
  | a, k + 1 => by
    unfold seekN
    split
    · exact Nat.le_refl _
    · have := seekN_ge p (a + 1) k; omega
theorem seekN_miss (p : Nat → Bool) : ∀ a k i, a ≤ i → i < seekN p a k → p i = false
  | a, 0, i, h1, h2 => by unfold seekN at h2; omega
  | a, k + 1, i, h1, h2 => by
    unfold seekN at h2
    by_cases hp : p a = true
    · rw [if_pos hp] at h2; omega
    · rw [if_neg hp] at h2
      by_cases e : i = a
      · subst e; simpa using hp
      · exact seekN_miss p (a + 1) k i (by omega) h2
theorem seekN_hit (p : Nat → Bool) : ∀ a k, seekN p a k < a + k → p (seekN p a k) = true
  | a, 0, h => by unfold seekN at h; omega
  | a, k + 1, h => by
    unfold seekN at h ⊢
    by_cases hp : p a = true
    · rw [if_pos hp]; exact hp
    · rw [if_neg hp] at h ⊢
      exact seekN_hit p (a + 1) k (by omega)
theorem seekR_le {s a : Nat} (L : List UInt64) (on : Bool) : seekR s L a on ≤ s := by
  unfold seekR
  split
  · have := seekN_le (isOn L on) a (s - a); omega
  · exact Nat.le_refl _
theorem seekR_ge {s a : Nat} (L : List UInt64) (on : Bool) (h : a ≤ s) : a ≤ seekR s L a on := by
  unfold seekR
  split
  · exact seekN_ge _ _ _
  · exact h
theorem seekR_miss {s a i : Nat} {L : List UInt64} {on : Bool} (h0 : a ≤ s) (h1 : a ≤ i) (h2 : i < seekR s L a on) : isOn L on i = false := by
  unfold seekR at h2
  split at h2
  · exact seekN_miss _ _ _ _ h1 h2
  · omega
theorem seekR_hit {s a : Nat} {L : List UInt64} {on : Bool} (h : seekR s L a on < s) : isOn L on (seekR s L a on) = true := by
  unfold seekR at h ⊢
  split
  · rename_i h1
    rw [if_pos h1] at h
    exact seekN_hit _ _ _ (by omega)
  · rename_i h1
    rw [if_neg h1] at h; omega
theorem isOn_not (L : List UInt64) (on : Bool) (i : Nat) : isOn L (!on) i = !isOn L on i := by
  unfold isOn
  cases bitL L i <;> cases on <;> rfl
/-- How many runs may come yet. -/
def runM (s : Nat) (L : List UInt64) (a : Nat) (on : Bool) : Nat := 2 * (s - a) + (if isOn L on a = true then 0 else 1)
theorem runM_step {s a : Nat} {L : List UInt64} {on : Bool} (h : a < s) : runM s L (seekR s L a (!on)) (!on) < runM s L a on := by
  unfold runM
  have h1 := seekR_le (s := s) (a := a) L (!on)
  have h2 := seekR_ge (s := s) L (!on) (Nat.le_of_lt h)
  by_cases e : isOn L on a = true
  · rw [if_pos e]
    have h3 : seekR s L a (!on) ≠ a := by
      intro e2
      have := seekR_hit (s := s) (a := a) (L := L) (on := !on) (by omega)
      rw [e2, isOn_not, e] at this
      cases this
    split <;> omega
  · rw [if_neg e]
    by_cases h3 : seekR s L a (!on) = a
    · rw [h3, isOn_not]
      have : isOn L on a = false := by simpa using e
      rw [this, if_pos (show (!false) = true from rfl)]
      omega
    · split <;> omega
theorem capN (n : Nat) : min n 4096 < 4097 := by omega
/-- The lengths of the runs from a on. -/
def runsF (s : Nat) (L : List UInt64) : Nat → Nat → Bool → List (Fin 4097)
  | 0, _, _ => []
  | f + 1, a, on => if a < s then ⟨min (seekR s L a (!on) - a) 4096, capN _⟩ :: runsF s L f (seekR s L a (!on)) (!on) else []
theorem runsF_len (s : Nat) (L : List UInt64) : ∀ f a on, (runsF s L f a on).length ≤ f
  | 0, _, _ => Nat.le_refl _
  | f + 1, a, on => by
    unfold runsF
    split
    · have := runsF_len s L f (seekR s L a (!on)) (!on); simp; omega
    · exact Nat.zero_le _
def runs (s : Nat) (L : List UInt64) : List (Fin 4097) := runsF s L (2 * s + 1) 0 false
theorem runM_start (s : Nat) (L : List UInt64) : runM s L 0 false ≤ 2 * s + 1 := by unfold runM; split <;> omega
theorem grown_below {w w' : World} (h : Below w.heap.size w w') : w.grownBy w' none := ⟨h.os, h.tape, h.output, h.size, fun k hk _ => h.block k hk⟩
def boolOf : Value → Bool
  | .bool b => b
  | _ => false
set_option maxRecDepth 100000 in
set_option maxHeartbeats 1000000 in
theorem runs1_in (n : Nat) (hn : 1 ≤ n) (l Bn s : Nat) (A : Option Addr) (c : Nat) (L : List UInt64) (hs : s ≤ 4096) (hl : L.length = (s + 63) / 64) (hcl : ∀ n, n < 64 * L.length → s ≤ n → bitL L n = false) (J Jx : List (Fin 4097) → World → Prop) (Kp : World → World → Prop)
    (hY : ∀ pre x W, J pre W → pre.length < (runs s L).length → YieldAt Fence.wide (n - 1) Tryd.prog l #[.int .i64 (x.val : Int)] W fun e W' =>
      (e = .returned (.bool true) ∧ J (pre ++ [x]) W' ∧ Kp W W') ∨ (e = .returned (.bool false) ∧ Jx (pre ++ [x]) W'))
    (W : World) (hKt : ∀ {A B C : World}, Kp A B → Kp B C → Kp A C) (hKr : ∀ V V', Kp W V → Below V.heap.size V V' → Kp V V') (hKW : Kp W W) (hc : ∀ V, Kp W V → V.cell? ⟨Bn, 0, none⟩ = some (.int .i64 (s : Int)) ∧ V.cell? ⟨Bn, 1, none⟩ = some (.slice A L.length c)) (hr : ∀ V, Kp W V → RQ V A L) (hT : ∀ V, Kp W V → TabAt 0 Lib.deBruijn64tab V) (hJa : AbidesFrom W.heap.size J) (h0 : J [] W) :
    CallsIn Fence.wide n Tryd.prog 63 #[.func (.yield l) #[] #[], .pointer (some ⟨Bn, 0, none⟩)] W fun e W' => (∃ v, e = .returned v) ∧
      ((∃ ys, ys = runs s L ∧ J ys W') ∨ (∃ pre, pre <+: runs s L ∧ Jx pre W')) := by
  have KS := Lib.hid (fun a on V hb => seek_any s A c L a on V hs hl hcl (hr V hb) (hT V hb))
  have HL := Lib.hid hl
  have HC := Lib.hid hc
  have HY := Lib.hid hY
  generalize L.length = N at *
  clear hr hT hcl hc hl hY
  refine callsIn_of_wp Tryd.func63 rfl trivial ?_ rfl
  simp only [Tryd.ntmps63, List.size_toArray, List.length_cons, List.length_nil, Nat.reduceAdd, Nat.reduceSub, Array.replicate_succ, Array.replicate_zero, List.push_toArray, List.append_toArray, List.nil_append, List.cons_append]
  gi_wp2
  gi_loopw [3, 4, 5] (fun o t _ wr => ∃ (pre : List (Fin 4097)) (f a : Nat) (on : Bool), o = .bool on ∧ t = .int .i64 (a : Int) ∧ a ≤ s ∧ runs s L = pre ++ runsF s L f a on ∧ runM s L a on ≤ f ∧ J pre wr ∧ Kp W wr)
    (fun o t _ wr => runM s L (RowKit.intOf t).toNat (boolOf o))
  case atStart => exact ⟨[], 2 * s + 1, 0, false, rfl, rfl, Nat.zero_le _, rfl, runM_start s L, h0, hKW⟩
  case round =>
    obtain ⟨pre, f, a, on, rfl, rfl, ha, hx, hf, hJ, hb⟩ := hrel
    have HX := Lib.hid hx
    have HF := Lib.hid hf
    have HB := Lib.hid hb
    obtain ⟨x0, x1⟩ := HC.out wr hb
    clear hx hf hb
    by_cases hlt : a < s
    · have hlt' : (a : Int) < (s : Int) := by omega
      have K1 := Lib.hid (KS.out a (!on) wr HB.out)
      have e1 := seekR_le (s := s) (a := a) L (!on)
      have e2 := seekR_ge (s := s) L (!on) ha
      have HM := Lib.hid (runM_step (L := L) (on := on) hlt)
      obtain ⟨f', rfl⟩ : ∃ f', f = f' + 1 := ⟨f - 1, by have := HF.out; have := HM.out; omega⟩
      have HR : Hid (runsF s L (f' + 1) a on = ⟨min (seekR s L a (!on) - a) 4096, capN _⟩ :: runsF s L f' (seekR s L a (!on)) (!on)) := Lib.hid (by rw [runsF, if_pos hlt])
      obtain ⟨d, hd⟩ : ∃ d : Fin 4097, d = ⟨min (seekR s L a (!on) - a) 4096, capN _⟩ := ⟨_, rfl⟩
      have hdv : d.val = seekR s L a (!on) - a := by rw [hd]; show min _ _ = _; omega
      rw [← hd] at HR
      have hsub : (seekR s L a (!on) : Int) - (a : Int) = (d.val : Int) := by omega
      have HXR := Lib.hid (HX.out.trans (by rw [HR.out]))
      have HLN : Hid (pre.length < (runs s L).length) := Lib.hid (by rw [HXR.out]; simp)
      have HFM : Hid (runM s L (seekR s L a (!on)) (!on) ≤ f') := Lib.hid (by have := HF.out; have := HM.out; omega)
      have HE2 := Lib.hid e2
      clear hd hdv HR HX HF e2
      generalize seekR s L a (!on) = E at *
      gi_wp2_with (refine ⟨trivial, ?_⟩; gi_at_call 43; refine (callsIn_wide.2 K1.out).mono ?_; rintro e w2 ⟨rfl, b2⟩; have J2 := hJa pre wr w2 none hJ (grown_below b2) (fun r e => by cases e); have B2 := Lib.hid (hKt HB.out (hKr wr w2 HB.out b2)); clear b2; obtain ⟨fn, tmps, assign, body, hy, hR⟩ := HY.out pre d w2 J2 HLN.out)
      refine hR.mono ?_
      rintro e W3 (⟨rfl, hJ3, hk3⟩ | ⟨rfl, hJx3⟩)
      · gi_wp2
        go_roundw
        case rel => exact ⟨pre ++ [d], f', E, !on, rfl, rfl, e1, by rw [HXR.out]; simp, HFM.out, hJ3, hKt B2.out hk3⟩
        case measure => simpa [RowKit.intOf, boolOf] using HM.out
      · gi_wp2
        refine bodyPost_ret (results_none rfl _ _ _) rfl ?_
        exact ⟨⟨_, rfl⟩, .inr ⟨pre ++ [d], ⟨runsF s L f' E (!on), by rw [HXR.out]; simp⟩, hJx3⟩⟩
    · have hle : s ≤ a := by omega
      have hd : decide ((a : Int) < (s : Int)) = false := by simp; omega
      have HE : Hid (runs s L = pre) := Lib.hid (by
        rw [HX.out]
        cases f with
        | zero => simp [runsF]
        | succ f => rw [runsF, if_neg hlt, List.append_nil])
      gi_wp2
      go_end0
      exact ⟨⟨_, rfl⟩, .inl ⟨pre, HE.out.symm, hJ⟩⟩
end Go.Proofs.YtmmehomobmoapaaDoor
