/- The law WalKeeps: calls that come in; few. -/
import Derived.Test.YtochifbbefbehaaGnQ
import Derived.Test.YtochifbbefbehaaWsJ
import Derived.Test.YtochifbbefbehaaScU
namespace Go.Proofs.Ytochifbbefbehaa
open Go.ChangeShapes Go.WideShapes Go.ChangeAt Go.RowKit
set_option linter.unusedVariables false
set_option linter.unusedSimpArgs false
/-- A call of the disk, and a call, as they came in. -/
abbrev Dt := UInt8 × Int × UInt8 × UInt8 × Bool × List UInt8
abbrev At := UInt8 × List UInt8 × Int × Dt
def KD : CR Dt := CR.u8.prod ((CR.int .i64).prod (CR.u8.prod (CR.u8.prod (CR.bool.prod KB))))
def KA : CR At := CR.u8.prod (CR.str.prod ((CR.int .i64).prod KD))
abbrev QD : Dt → Prop := fun x => True ∧ InK .i64 x.2.1 ∧ True ∧ True ∧ True ∧ ∀ y ∈ x.2.2.2.2.2, True
abbrev QA' : At → Prop := fun x => True ∧ x.2.1.length ≤ maxLen ∧ InK .i64 x.2.2.1 ∧ QD x.2.2.2
theorem opensD : Opens Try.prog KD QD 34 := by
  refine opens_struct (K := KD) (Q := QD) Try.underlying34 (by kernel_rfl) ?_
  refine @opensF_cons Try.prog UInt8 (Int × UInt8 × UInt8 × Bool × List UInt8) CR.u8 ((CR.int .i64).prod (CR.u8.prod (CR.u8.prod (CR.bool.prod KB)))) (fun _ => True) (fun x => InK .i64 x.1 ∧ True ∧ True ∧ True ∧ ∀ y ∈ x.2.2.2.2, True) _ _ 0 (opens_u8 (by kernel_rfl)) rfl (by kernel_rfl) ?_
  refine @opensF_cons Try.prog Int (UInt8 × UInt8 × Bool × List UInt8) (CR.int .i64) (CR.u8.prod (CR.u8.prod (CR.bool.prod KB))) (fun x => InK .i64 x) (fun x => True ∧ True ∧ True ∧ ∀ y ∈ x.2.2.2, True) _ _ 1 (opens_int (by kernel_rfl)) rfl (by kernel_rfl) ?_
  refine @opensF_cons Try.prog UInt8 (UInt8 × Bool × List UInt8) CR.u8 (CR.u8.prod (CR.bool.prod KB)) (fun _ => True) (fun x => True ∧ True ∧ ∀ y ∈ x.2.2, True) _ _ 2 (opens_u8 (by kernel_rfl)) rfl (by kernel_rfl) ?_
  refine @opensF_cons Try.prog UInt8 (Bool × List UInt8) CR.u8 (CR.bool.prod KB) (fun _ => True) (fun x => True ∧ ∀ y ∈ x.2, True) _ _ 3 (opens_u8 (by kernel_rfl)) rfl (by kernel_rfl) ?_
  refine @opensF_cons Try.prog Bool (List UInt8) CR.bool KB (fun _ => True) (fun x => ∀ y ∈ x, True) _ _ 4 (opens_bool (by kernel_rfl)) rfl (by kernel_rfl) ?_
  exact @opensF_last Try.prog (List UInt8) KB (fun x => ∀ y ∈ x, True) _ 5 opensB rfl (by kernel_rfl)
theorem opensA : Opens Try.prog (CR.list KA) (fun l => ∀ x ∈ l, QA' x) 22 := by
  refine opens_list (K := KA) (Q := QA') Try.underlying22 (by kernel_rfl) ?_
  refine opens_struct (K := KA) (Q := QA') Try.underlying36 (by kernel_rfl) ?_
  refine @opensF_cons Try.prog UInt8 (List UInt8 × Int × Dt) CR.u8 (CR.str.prod ((CR.int .i64).prod KD)) (fun _ => True) (fun x => x.1.length ≤ maxLen ∧ InK .i64 x.2.1 ∧ QD x.2.2) _ _ 0 (opens_u8 (by kernel_rfl)) rfl (by kernel_rfl) ?_
  refine @opensF_cons Try.prog (List UInt8) (Int × Dt) CR.str ((CR.int .i64).prod KD) (fun x => x.length ≤ maxLen) (fun x => InK .i64 x.1 ∧ QD x.2) _ _ 1 (opens_str (by kernel_rfl)) rfl (by kernel_rfl) ?_
  refine @opensF_cons Try.prog Int Dt (CR.int .i64) KD (fun x => InK .i64 x) QD _ _ 2 (opens_int (by kernel_rfl)) rfl (by kernel_rfl) ?_
  exact @opensF_last Try.prog Dt KD QD _ 3 opensD rfl (by kernel_rfl)
/-- The call's cells. -/
def KBa (a : At) (fA : Option Addr) (fc : Nat) : List Value := [.int .u8 (a.1.toNat : Int), .string (str a.2.1), .int .i64 a.2.2.1, .int .u8 (a.2.2.2.1.toNat : Int), .int .i64 a.2.2.2.2.1, .int .u8 (a.2.2.2.2.2.1.toNat : Int), .int .u8 (a.2.2.2.2.2.2.1.toNat : Int), .bool a.2.2.2.2.2.2.2.1, .slice fA a.2.2.2.2.2.2.2.2.length fc]
theorem ka_cells {w : World} {cs : List Value} {a : At} (h : KA.E w cs a) : ∃ fA fc, cs = KBa a fA fc ∧ a.2.2.2.2.2.2.2.2.length ≤ fc ∧ fc ≤ maxLen ∧ RB w fA a.2.2.2.2.2.2.2.2 := by
  obtain ⟨p0, q0, rfl, h0, p1, q1, rfl, h1, p2, q2, rfl, h2, p3, q3, rfl, h3, p4, q4, rfl, h4, p5, q5, rfl, h5, p6, q6, rfl, h6, p7, q7, rfl, h7, h8⟩ := h
  obtain ⟨fA, fc, rfl, e1, e2, e3⟩ := h8
  have h0 : p0 = _ := h0
  have h1 : p1 = _ := h1
  have h2 : p2 = _ := h2
  have h3 : p3 = _ := h3
  have h4 : p4 = _ := h4
  have h5 : p5 = _ := h5
  have h6 : p6 = _ := h6
  have h7 : p7 = _ := h7
  subst h0 h1 h2 h3 h4 h5 h6 h7
  exact ⟨fA, fc, rfl, e1, e2, e3.rb⟩
theorem ka_at {w : World} {A : Option Addr} {l : List At} (h : RG KA w A l) {k : Nat} {a : At} (hk : l[k]? = some a) : ∃ ad fA fc, A = some ad ∧ CellsAt w (ad.add (k * 9)) (KBa a fA fc) ∧ a.2.2.2.2.2.2.2.2.length ≤ fc ∧ fc ≤ maxLen ∧ RB w fA a.2.2.2.2.2.2.2.2 := by
  obtain ⟨ad, cs, e, h1, h2⟩ := h k a hk
  obtain ⟨fA, fc, rfl, h3, h4, h5⟩ := ka_cells h2
  exact ⟨ad, fA, fc, e, h1, h3, h4, h5⟩
/-- Few calls, with short texts. -/
def fewP (l : List At) (most : Nat) : Bool := decide (l.length ≤ most) && l.all fun a => decide (a.2.1.length ≤ 300)
theorem fewP_at {l : List At} {most : Nat} (h : fewP l most = true) : l.length ≤ most ∧ ∀ (i : Nat) (a : At), l[i]? = some a → a.2.1.length ≤ 300 := by
  unfold fewP at h
  simp only [Bool.and_eq_true, decide_eq_true_eq, List.all_eq_true] at h
  exact ⟨h.1, fun i a hi => h.2 a (List.mem_of_getElem? hi)⟩
set_option maxHeartbeats 1000000 in
set_option maxRecDepth 100000 in
theorem waFew_any (A : Option Addr) (n c : Nat) (l : List At) (most : Nat) (w : World) (hl : l.length = n) (hn : n ≤ 9223372036854775807) (ha : RG KA w A l) (hq : ∀ a ∈ l, a.2.1.length ≤ maxLen) :
    Calls Try.prog 5 #[.slice A n c, .int .i64 (most : Int)] w fun e w' => e = .returned (.bool (fewP l most)) ∧ w = w' := by
  have HL := Lib.hid hl
  have HQ := Lib.hid hq
  clear hq
  by_cases h0 : most < n
  · have HF := Lib.hid (show fewP l most = false from by unfold fewP; rw [hl, decide_eq_false (by omega)]; rfl)
    have h1 : (most : Int) < (n : Int) := by omega
    clear h0 hl
    generalize fewP l most = R at *
    go_enter Try.func5, Try.ntmps5
    go_wp2
    go_ret
    rw [HF.out]
    exact ⟨rfl, rfl⟩
  · have HF := Lib.hid (show fewP l most = l.all fun a => decide (a.2.1.length ≤ 300) from by unfold fewP; rw [hl, decide_eq_true (by omega)]; rfl)
    have h1 : (n : Int) ≤ (most : Int) := by omega
    clear h0 hl
    generalize fewP l most = R at *
    go_enter Try.func5, Try.ntmps5
    go_wp2
    go_loop [5] (fun i => ∃ k : Nat, k ≤ n ∧ i = .int .i64 (k : Int) ∧ ∀ (j : Nat) (a : At), j < k → l[j]? = some a → a.2.1.length ≤ 300) (fun i => n - (RowKit.intOf i).toNat)
    case atStart => exact ⟨0, Nat.zero_le _, rfl, fun j a hj => by omega⟩
    case round =>
      obtain ⟨k, hk, rfl, hall⟩ := hrel
      have HA := Lib.hid hall
      clear hall
      by_cases hlt : k < n
      · have hk' : (k : Int) < (n : Int) := by omega
        obtain ⟨a, hka⟩ : ∃ a, l[k]? = some a := ⟨l[k]'(by rw [HL.out]; exact hlt), List.getElem?_eq_getElem _⟩
        obtain ⟨ad, fA, fc, rfl, hca, _⟩ := ka_at ha hka
        have HK := Lib.hid hka
        have x1 : w.cell? ⟨(ad.add (k * 9)).block, (ad.add (k * 9)).off + 1, none⟩ = some (.string (str a.2.1)) := by
          rw [← add_pos (ad.add (k * 9)) 1 (by omega)]
          exact hca 1 _ rfl
        have hsz := str_size a.2.1
        have hmx : (a.2.1.length : Int) ≤ 9223372036854775807 := by have := HQ.out a (List.mem_of_getElem? hka); unfold maxLen at this; omega
        clear hka hca
        by_cases hb : 300 < a.2.1.length
        · have hb' : (300 : Int) < (a.2.1.length : Int) := by omega
          have HF2 := Lib.hid (show (l.all fun a => decide (a.2.1.length ≤ 300)) = false from by
            rw [List.all_eq_false]
            exact ⟨a, List.mem_of_getElem? HK.out, by simp; omega⟩)
          clear hb
          go_wp2
          go_ret
          rw [HF.out, HF2.out]
          exact ⟨rfl, rfl⟩
        · have hb' : ¬ (300 : Int) < (a.2.1.length : Int) := by omega
          have HA2 := Lib.hid (show ∀ (j : Nat) (b : At), j < k + 1 → l[j]? = some b → b.2.1.length ≤ 300 from fun j b hj hb2 => by
            by_cases e : j = k
            · rw [e, HK.out] at hb2
              rw [← Option.some.inj hb2]
              omega
            · exact HA.out j b (by omega) hb2)
          clear hb
          go_wp2
          go_round
          case rel => exact ⟨k + 1, by omega, by go_num, HA2.out⟩
          case measure => simp [RowKit.intOf]; omega
      · obtain rfl : k = n := by omega
        have HF2 := Lib.hid (show (l.all fun a => decide (a.2.1.length ≤ 300)) = true from by
          rw [List.all_eq_true]
          intro a ha
          obtain ⟨i, hi, e⟩ := List.getElem_of_mem ha
          have := HA.out i a (by rw [← HL.out]; exact hi) (by rw [List.getElem?_eq_getElem hi, e])
          simpa using this)
        go_wp2
        go_ret
        rw [HF.out, HF2.out]
        exact ⟨rfl, rfl⟩
end Go.Proofs.Ytochifbbefbehaa
