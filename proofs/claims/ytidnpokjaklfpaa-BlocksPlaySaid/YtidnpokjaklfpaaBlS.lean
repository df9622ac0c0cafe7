/- Calls of blocks that came in, and how they read; few. -/
import Derived.Test.YtidnpokjaklfpaaBlF
namespace Go.Proofs.Ytidnpokjaklfpaa
open Go.ChangeShapes Go.WideShapes Go.ChangeAt Go.RowKit
set_option linter.unusedVariables false
/-- A call that came in. -/
structure Bc where
  kind : UInt8
  n : Int
  body : List UInt8
  bA : Option Addr
  bc : Nat
  d : Ac
structure BcAt (w : World) (p : Addr) (a : Bc) : Prop where
  c0 : w.cell? (p.add 0) = some (.int .u8 (a.kind.toNat : Int))
  c1 : w.cell? (p.add 1) = some (.int .i64 a.n)
  c2 : w.cell? (p.add 2) = some (.slice a.bA a.body.length a.bc)
  rb : RB w a.bA a.body
  lo : -9223372036854775808 ≤ a.n
  hi : a.n ≤ 9223372036854775807
  room : a.body.length ≤ a.bc
  most : a.bc ≤ maxLen
  dd : AcAt w (p.add 3) a.d
theorem BcAt.d0 {w : World} {p : Addr} {a : Bc} (h : BcAt w p a) : w.cell? p = some (.int .u8 (a.kind.toNat : Int)) := by have := h.c0; rwa [Addr.add_nought] at this
theorem BcAt.d1 {w : World} {p : Addr} {a : Bc} (h : BcAt w p a) : w.cell? ⟨p.block, p.off + 1, none⟩ = some (.int .i64 a.n) := by rw [← add_pos p 1 (by omega)]; exact h.c1
theorem BcAt.d2 {w : World} {p : Addr} {a : Bc} (h : BcAt w p a) : w.cell? ⟨p.block, p.off + 2, none⟩ = some (.slice a.bA a.body.length a.bc) := by rw [← add_pos p 2 (by omega)]; exact h.c2
theorem BcAt.lt {w : World} {p : Addr} {a : Bc} (h : BcAt w p a) : p.block < w.heap.size := lt_of_cell h.d0
theorem BcAt.below {w w' : World} {p : Addr} {a : Bc} (h : BcAt w p a) (hb : Below w.heap.size w w') : BcAt w' p a :=
  ⟨(hb.cell (lt_of_cell h.c0)).trans h.c0, (hb.cell (lt_of_cell h.c1)).trans h.c1, (hb.cell (lt_of_cell h.c2)).trans h.c2, h.rb.below hb, h.lo, h.hi, h.room, h.most, h.dd.below hb⟩
def BActsAt (w : World) (A : Option Addr) (l : List Bc) : Prop := l = [] ∨ ∃ ad, A = some ad ∧ ∀ (i : Nat) (a : Bc), l[i]? = some a → BcAt w (ad.add (i * 9)) a
theorem BActsAt.below {w w' : World} {A : Option Addr} {l : List Bc} (h : BActsAt w A l) (hb : Below w.heap.size w w') : BActsAt w' A l := by
  rcases h with rfl | ⟨ad, rfl, hc⟩
  · exact .inl rfl
  · exact .inr ⟨ad, rfl, fun i a hi => (hc i a hi).below hb⟩
theorem BActsAt.at_ {w : World} {A : Option Addr} {l : List Bc} (h : BActsAt w A l) {i : Nat} (hi : i < l.length) : ∃ ad a, A = some ad ∧ l[i]? = some a ∧ BcAt w (ad.add (i * 9)) a := by
  rcases h with rfl | ⟨ad, rfl, hc⟩
  · simp at hi
  · exact ⟨ad, l[i], rfl, List.getElem?_eq_getElem hi, hc i _ (List.getElem?_eq_getElem hi)⟩
theorem Try.cellsBAct : Try.prog.cellsOf 59 = 9 := by kernel_rfl
section
variable {H : Type} {enc : TypeId × Value → H} {W : World} {base : Nat} {held : Bool}
theorem open_bact {k : Nat} {cs : List Value} {x : DataW H × List MemPlace} {p : Addr} (hf : DataW.trod enc Try.prog W base (fun _ => true) held k 59 cs = some x) (hl : cs.length = 9) (hc : ∀ j, j < 9 → W.cell? (p.add j) = cs[j]?) : ∃ a : Bc, BcAt W p a := by
  obtain ⟨xs, n, _, _, _, hxl, hg⟩ := DataW.trod_struct Try.underlying59 hf
  have g0 : DataW.trod enc Try.prog W base (fun _ => true) held n 5 ((cs.drop 0).take (Try.prog.cellsOf 5)) = xs[0]? := hg 0 _ rfl
  have g1 : DataW.trod enc Try.prog W base (fun _ => true) held n 3 ((cs.drop 1).take (Try.prog.cellsOf 3)) = xs[1]? := hg 1 _ rfl
  have g2 : DataW.trod enc Try.prog W base (fun _ => true) held n 32 ((cs.drop 2).take (Try.prog.cellsOf 32)) = xs[2]? := hg 2 _ rfl
  have g3 : DataW.trod enc Try.prog W base (fun _ => true) held n 34 ((cs.drop 3).take (Try.prog.cellsOf 34)) = xs[3]? := hg 3 _ rfl
  rw [Try.cellsU8, take1 (by omega)] at g0
  rw [Try.cellsInt, take1 (by omega)] at g1
  rw [Try.cellsBytes, take1 (by omega)] at g2
  rw [Try.cellsAct] at g3
  have hxs : xs.length = 4 := hxl
  rw [List.getElem?_eq_getElem (by omega)] at g0 g1 g2 g3
  obtain ⟨z0, e0, _, w0⟩ := DataW.trod_int Try.underlying5 g0
  obtain ⟨z1, e1, _, w1⟩ := DataW.trod_int Try.underlying3 g1
  obtain ⟨A, cc, fs, e2, r1, r2, r3⟩ := open_bytes g2
  obtain ⟨d, hd⟩ := open_act (p := p.add 3) g3 (by simp; omega) (fun j hj => by
    rw [add_of_add, hc (3 + j) (by omega), List.getElem?_take, if_pos hj, List.getElem?_drop])
  obtain ⟨x0, rfl⟩ := byte_of w0
  have b1 := bounds_i64 w1
  simp only [List.cons.injEq, and_true] at e0 e1
  refine ⟨⟨x0, z1, fs, A, cc, d⟩, ⟨?_, ?_, ?_, r3, b1.1, b1.2, r1, r2, hd⟩⟩
  · rw [hc 0 (by omega), List.getElem?_eq_getElem (by omega), e0]
  · rw [hc 1 (by omega), List.getElem?_eq_getElem (by omega), e1]
  · rw [hc 2 (by omega), List.getElem?_eq_getElem (by omega), e2]
theorem open_bacts {a : Option Addr} {len cap : Nat} {d : DataW H} {p : List MemPlace} (h : DataW.Trod enc Try.prog W base (fun _ => true) held 51 (.slice a len cap) d p) :
    ∃ l : List Bc, l.length = len ∧ len ≤ cap ∧ cap ≤ maxLen ∧ BActsAt W a l := by
  obtain ⟨fuel, hf⟩ := h
  rcases Go.Deep.open_slice Try.underlying51 hf with ⟨hcs, _⟩ | ⟨x, l, c, m, n, D, Pl, hcs, _, hl, hm, hmm, _, hi⟩
  · simp [Value.cells] at hcs
    obtain ⟨rfl, rfl, rfl⟩ := hcs
    exact ⟨[], rfl, Nat.le_refl _, Nat.zero_le _, .inl rfl⟩
  · simp [Value.cells] at hcs
    obtain ⟨rfl, rfl, rfl⟩ := hcs
    simp only [if_true] at hmm
    subst hmm
    obtain ⟨L, hL, hp⟩ := list_of (Pr := fun i a => BcAt W (x.add (i * 9)) a) len (fun i hlt => by
      obtain ⟨cs', hc, ht⟩ := hi i (by omega)
      rw [Try.cellsBAct] at hc
      obtain ⟨_, hcl, hat⟩ := World.cells?_some hc
      exact open_bact ht hcl hat)
    exact ⟨L, hL, hl, hm, .inr ⟨x, rfl, hp⟩⟩
end
def fewL (l : List Bc) (most : Nat) : Bool := decide (l.length ≤ most) && l.all fun a => decide (a.body.length ≤ 1100)
theorem fewL_at {l : List Bc} {most : Nat} (h : fewL l most = true) : l.length ≤ most ∧ ∀ (i : Nat) (a : Bc), l[i]? = some a → a.body.length ≤ 1100 := by
  unfold fewL at h
  simp only [Bool.and_eq_true, decide_eq_true_eq, List.all_eq_true] at h
  exact ⟨h.1, fun i a hi => h.2 a (List.mem_of_getElem? hi)⟩
set_option maxHeartbeats 1000000 in
set_option maxRecDepth 100000 in
theorem few_any (A : Option Addr) (n c : Nat) (l : List Bc) (most : Nat) (w : World) (hl : l.length = n) (hn : n ≤ maxLen) (ha : BActsAt w A l) :
    Calls Try.prog 23 #[.slice A n c, .int .i64 (most : Int)] w fun e w' => e = .returned (.bool (fewL l most)) ∧ w = w' := by
  have HL := Lib.hid hl
  have HN : n ≤ 9223372036854775807 := by simp only [maxLen] at hn; omega
  clear hn
  by_cases h0 : most < n
  · have HF := Lib.hid (show fewL l most = false from by unfold fewL; rw [hl, decide_eq_false (by omega)]; rfl)
    have h1 : (most : Int) < (n : Int) := by omega
    clear h0 hl
    generalize fewL l most = R at *
    go_enter Try.func23, Try.ntmps23
    go_wp2
    go_ret
    rw [HF.out]
    exact ⟨rfl, rfl⟩
  · have HF := Lib.hid (show fewL l most = l.all fun a => decide (a.body.length ≤ 1100) from by unfold fewL; rw [hl, decide_eq_true (by omega)]; rfl)
    have h1 : (n : Int) ≤ (most : Int) := by omega
    clear h0 hl
    generalize fewL l most = R at *
    go_enter Try.func23, Try.ntmps23
    go_wp2
    go_loop [5] (fun i => ∃ k : Nat, k ≤ n ∧ i = .int .i64 (k : Int) ∧ ∀ (j : Nat) (a : Bc), j < k → l[j]? = some a → a.body.length ≤ 1100) (fun i => n - (RowKit.intOf i).toNat)
    case atStart => exact ⟨0, Nat.zero_le _, rfl, fun j a hj => by omega⟩
    case round =>
      obtain ⟨k, hk, rfl, hall⟩ := hrel
      have HA := Lib.hid hall
      clear hall
      by_cases hlt : k < n
      · have hk' : (k : Int) < (n : Int) := by omega
        obtain ⟨ad, a, rfl, hka, hat⟩ := ha.at_ (i := k) (by rw [HL.out]; exact hlt)
        have HK := Lib.hid hka
        have x2 := hat.d2
        clear hka hat
        by_cases hb : 1100 < a.body.length
        · have hb' : (1100 : Int) < (a.body.length : Int) := by omega
          have HF2 := Lib.hid (show (l.all fun a => decide (a.body.length ≤ 1100)) = false from by
            rw [List.all_eq_false]
            exact ⟨a, List.mem_of_getElem? HK.out, by simp; omega⟩)
          go_wp2
          go_ret
          rw [HF.out, HF2.out]
          exact ⟨rfl, rfl⟩
        · have hb' : decide ((1100 : Int) < (a.body.length : Int)) = false := by simp; omega
          have HB := Lib.hid (show a.body.length ≤ 1100 from by omega)
          clear hb
          go_wp2
          go_round
          case rel =>
            refine ⟨k + 1, by omega, by go_num, fun j x hj hx => ?_⟩
            by_cases e : j = k
            · subst e
              rw [HK.out] at hx
              injection hx with hx
              subst hx
              exact HB.out
            · exact HA.out j x (by omega) hx
          case measure => simp [RowKit.intOf]; omega
      · obtain rfl : k = n := by omega
        have HF2 := Lib.hid (show (l.all fun a => decide (a.body.length ≤ 1100)) = true from by
          rw [List.all_eq_true]
          intro a ha
          obtain ⟨i, hi, rfl⟩ := List.getElem_of_mem ha
          exact decide_eq_true (HA.out i _ (by rw [← HL.out]; exact hi) (List.getElem?_eq_getElem hi)))
        go_wp2
        go_ret
        rw [HF.out, HF2.out]
        exact ⟨rfl, rfl⟩
end Go.Proofs.Ytidnpokjaklfpaa
