/- The statements' function awake of layer 5: it answers true. -/
import Derived.Test.YtmmehomobmoapaaDoorQY
namespace Go.Proofs.YtmmehomobmoapaaDoor
open Go.RowKit
set_option linter.unusedVariables false
set_option linter.unusedSimpArgs false
theorem wid_one {n : Nat} (h0 : 0 < n) (h : n < 256) : wid n = 1 := by rw [wid_pos h0, show n / 256 = 0 by omega, wid_zero]
theorem putSmall_one {n : Nat} (h0 : 0 < n) (h : n < 256) : putSmall n = [1, UInt8.ofNat n] := by
  unfold putSmall
  rw [wid_one h0 h]
  simp [hi]
theorem z_new : newS 5 = 5 ∧ newL 5 = [0] ∧ newE 5 = 0 := by decide +kernel
theorem z_set1 : setL 5 [0] 2 true = [4] := by decide +kernel
theorem z_set2 : setL 5 [4] 3 true = [12] := by decide +kernel
theorem z_chk : chk 5 [12] = 0 := by decide +kernel
theorem z_runs : runs 5 [12] = [2, 2, 1] := by decide +kernel
theorem z_ok : okB 5 [12] = true := by decide +kernel
theorem z_put : putB 5 [12] = [1, 5, 1, 2, 1, 2, 1, 1] := by
  unfold putB
  rw [if_pos z_ok, show (5 : Int).toNat = 5 from rfl, z_runs, putSmall_one (by omega) (by omega)]
  show [1, UInt8.ofNat 5] ++ (putSmall 2 ++ (putSmall 2 ++ (putSmall 1 ++ []))) = _
  rw [putSmall_one (by omega) (by omega), putSmall_one (n := 1) (by omega) (by omega)]
  rfl
theorem z_get : getR [1, 5, 1, 2, 1, 2, 1, 1] = some (5, [12]) := by decide +kernel
theorem z_sel : selN 5 [12] 1 = 3 ∧ selB 5 [12] 1 = true := by decide +kernel
theorem z_next : nextN 5 [12] 2 false = 4 ∧ nextB 5 [12] 2 false = true := by decide +kernel
theorem z_same : sameB 5 5 [12] [12] = true ∧ sameB 5 5 [0] [12] = false := by decide +kernel
theorem z_rank : rankB 5 [12] 4 = 2 := by decide +kernel
theorem z_has : hasB 5 [12] 2 = true ∧ hasB 5 [12] 1 = false := by decide +kernel
theorem z_both : mixS 5 5 [0] [12] = 5 ∧ mixL true 5 5 [0] [12] = [0] ∧ mixL false 5 5 [0] [12] = [12] := by decide +kernel
theorem z_rank2 : rankB 5 [0] 5 = 0 ∧ rankB 5 [12] 5 = 2 := by decide +kernel
theorem OQ.as {base : Nat} {w : World} {v : Value} {l : List UInt64} (h : OQ base w v l) {n : Nat} (hn : l.length = n) : ∃ A c, v = .slice A n c ∧ n ≤ c ∧ RQ w A l := by
  subst hn
  exact h.form
theorem OB.as {base : Nat} {w : World} {v : Value} {l : List UInt8} (h : OB base w v l) {n : Nat} (hn : l.length = n) : ∃ A c, v = .slice A n c ∧ n ≤ c ∧ RB w A l := by
  subst hn
  exact h.form
theorem zNew (W : World) : Calls Tryd.prog 18 #[.int .i64 5] W fun e w' => ∃ A c, e = .returned (.tuple #[.agg #[.int .i64 5, .slice A 1 c], .int .i64 0]) ∧ 1 ≤ c ∧ RQ w' A [0] ∧ Below W.heap.size W w' :=
  (new_any 5 W).mono fun e w' ⟨v, he, ho, hb⟩ => by
    rw [z_new.1, z_new.2.2] at he
    rw [z_new.2.1] at ho
    obtain ⟨A, c, rfl, hc, hr⟩ := ho.as (n := 1) rfl
    exact ⟨A, c, he, hc, hr, hb⟩
theorem zSet (A : Option Addr) (c : Nat) (L M : List UInt64) (n : Int) (W : World) (hL : L.length = 1) (hM : M.length = 1) (hs : setL 5 L n true = M) (hr : RQ W A L) : Calls Tryd.prog 11 #[.agg #[.int .i64 5, .slice A 1 c], .int .i64 n, .bool true] W fun e w' => ∃ A c, e = .returned (.agg #[.int .i64 5, .slice A 1 c]) ∧ 1 ≤ c ∧ RQ w' A M ∧ Below W.heap.size W w' := by
  have h := set_any 5 A c L n true W (by omega) hr
  rw [hL] at h
  refine h.mono ?_
  rintro e w' ⟨v, he, ho, hb⟩
  rw [hs] at ho
  obtain ⟨A, c, rfl, hc, hr⟩ := ho.as hM
  exact ⟨A, c, he, hc, hr, hb⟩
theorem zPut (A : Option Addr) (c : Nat) (W : World) (hr : RQ W A [12]) (hT : TabAt 0 Lib.deBruijn64tab W) : Calls Tryd.prog 31 #[.agg #[.int .i64 5, .slice A 1 c]] W fun e w' => ∃ A c, e = .returned (.tuple #[.slice A 8 c, .int .i64 0]) ∧ RB w' A [1, 5, 1, 2, 1, 2, 1, 1] ∧ Below W.heap.size W w' := by
  refine (put_any 5 A c [12] W hr hT).mono ?_
  rintro e w' ⟨v, he, ho, hb⟩
  rw [z_chk] at he
  rw [z_put] at ho
  obtain ⟨A, c, rfl, hc, hr⟩ := ho.as (n := 8) rfl
  exact ⟨A, c, he, hr, hb⟩
theorem zGet (A : Option Addr) (c : Nat) (W : World) (hr : RB W A [1, 5, 1, 2, 1, 2, 1, 1]) : Calls Tryd.prog 33 #[.slice A 8 c] W fun e w' => ∃ A c, e = .returned (.tuple #[.agg #[.int .i64 5, .slice A 1 c], .int .i64 0]) ∧ RQ w' A [12] ∧ Below W.heap.size W w' := by
  refine (get_any A 8 c [1, 5, 1, 2, 1, 2, 1, 1] W (by omega) rfl hr).mono ?_
  rintro e w' ⟨v, he, ho, hb⟩
  obtain ⟨e1, e2, e3⟩ := getR_some z_get
  rw [e1, e3] at he
  rw [e2] at ho
  obtain ⟨A, c, rfl, hc, hr⟩ := ho.as (n := 1) rfl
  exact ⟨A, c, he, hr, hb⟩
theorem zMix (all : Bool) (f : FuncId) (A B : Option Addr) (c d : Nat) (L : List UInt64) (W : World) (hL : L.length = 1) (hm : mixL all 5 5 [0] [12] = L) (h : Calls Tryd.prog f #[.agg #[.int .i64 5, .slice A ([0] : List UInt64).length c], .agg #[.int .i64 5, .slice B ([12] : List UInt64).length d]] W fun e w' => ∃ v, e = .returned (.agg #[.int .i64 (mixS 5 5 [0] [12]), v]) ∧ OQ W.heap.size w' v (mixL all 5 5 [0] [12]) ∧ Below W.heap.size W w') :
    Calls Tryd.prog f #[.agg #[.int .i64 5, .slice A 1 c], .agg #[.int .i64 5, .slice B 1 d]] W fun e w' => ∃ A c, e = .returned (.agg #[.int .i64 5, .slice A 1 c]) ∧ 1 ≤ c ∧ RQ w' A L ∧ Below W.heap.size W w' := by
  refine h.mono ?_
  rintro e w' ⟨v, he, ho, hb⟩
  rw [z_both.1] at he
  rw [hm] at ho
  obtain ⟨A, c, rfl, hc, hr⟩ := ho.as hL
  exact ⟨A, c, he, hc, hr, hb⟩
/-- What awake has at hand: the map m at block p, x at block q, y at block r, and the table. -/
structure AwS (w W : World) (p q r : Nat) (Am Ax Ay : Option Addr) (cm cx cy : Nat) : Prop where
  bel : Below w.heap.size w W
  p0 : W.cell? ⟨p, 0, none⟩ = some (.int .i64 5)
  p1 : W.cell? ⟨p, 1, none⟩ = some (.slice Am 1 cm)
  q0 : W.cell? ⟨q, 0, none⟩ = some (.int .i64 5)
  q1 : W.cell? ⟨q, 1, none⟩ = some (.slice Ax 1 cx)
  r0 : W.cell? ⟨r, 0, none⟩ = some (.int .i64 5)
  r1 : W.cell? ⟨r, 1, none⟩ = some (.slice Ay 1 cy)
  rm : RQ W Am [0]
  rx : RQ W Ax [12]
  ry : RQ W Ay [12]
  tab : TabAt 0 Lib.deBruijn64tab W
theorem AwS.later {w W V : World} {p q r : Nat} {Am Ax Ay : Option Addr} {cm cx cy : Nat} (h : AwS w W p q r Am Ax Ay cm cx cy) (hb : Below W.heap.size W V) : AwS w V p q r Am Ax Ay cm cx cy := by
  have k : ∀ {a : Addr} {v : Value}, W.cell? a = some v → V.cell? a = some v := fun hc => (hb.cell (lt_of_cell hc)).trans hc
  exact ⟨h.bel.trans (hb.mono h.bel.size), k h.p0, k h.p1, k h.q0, k h.q1, k h.r0, k h.r1, h.rm.below hb, h.rx.below hb, h.ry.below hb, TabAt.below h.tab hb (TabAt.pos h.tab)⟩
end Go.Proofs.YtmmehomobmoapaaDoor
