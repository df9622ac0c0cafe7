/- Contracts of Open, the program's. -/
import Derived.Test.YtidnpokjaklfpaaCrC
import Derived.Test.YtidnpokjaklfpaaCrPlainO
import Derived.Deep.QuietTactic
import Derived.BigQuiet
namespace Go.Proofs.Ytidnpokjaklfpaa
open Go.RowKit
set_option linter.unusedVariables false

theorem flip_same {P : Program} {f : FuncId} {args : Array Value} {w : World} {r : Ending} (h : Calls P f args w fun e w' => e = r ∧ w = w') : Calls P f args w fun e w' => e = r ∧ w' = w :=
  h.mono fun _ _ h => ⟨h.1, h.2.symm⟩

theorem open_arg (A : Option Addr) (n c : Nat) (size : Int) (w : World) (h : size < 8 ∨ 65536 < size) :
    Calls Try.prog 57 #[.slice A n c, .int .i64 size] w fun e w' => e = .returned (.tuple #[.slice none 0 0, .int .i64 2]) ∧ w = w' := by
  go_enter Try.func57, Try.ntmps57
  go_wp2_with fail
  refine (goodSize_no _ _ h).mono ?_
  rintro e w' ⟨rfl, rfl⟩
  go_wp2
  go_ret2
  exact ⟨rfl, rfl⟩
theorem open_cut (A : Option Addr) (n c size : Nat) (w : World) (h1 : 8 ≤ size) (h2 : size ≤ 65536) (h3 : ¬ n = size) :
    Calls Try.prog 57 #[.slice A n c, .int .i64 size] w fun e w' => e = .returned (.tuple #[.slice none 0 0, .int .i64 3]) ∧ w = w' := by
  have h4 : ((n : Int) != (size : Int)) = true := by simp; omega
  go_enter Try.func57, Try.ntmps57
  go_wp2_with fail
  refine (goodSize_yes _ _ (by omega) (by omega)).mono ?_
  rintro e w' ⟨rfl, rfl⟩
  go_wp2
  go_ret2
  exact ⟨rfl, rfl⟩

set_option maxRecDepth 100000 in
set_option maxHeartbeats 800000 in
theorem open_any (A : Option Addr) (n c : Nat) (l : List UInt8) (w : World) (hl : l.length = n) (hc : n ≤ c) (h1 : 8 ≤ n) (h2 : n ≤ 65536) (hr : RB w A l) :
    Calls Try.prog 57 #[.slice A n c, .int .i64 n] w fun e w' => ∃ v', e = .returned (.tuple #[v', .int .i64 ((opn l n).2 : Nat)]) ∧ OB w.heap.size w' v' (opn l n).1 ∧ Below w.heap.size w w' := by
  obtain ⟨ad, _, rfl, _, _⟩ := hr.at_ (k := 0) (by omega)
  have HL := Lib.hid hl
  clear hl
  have hc4 : ¬ c = 4 := by omega
  have hn4 : 4 ≤ n := by omega
  have R1 := (hr.take 4)
  have R2 := (hr.drop 4)
  have L1 := Lib.hid (show (l.take 4).length = 4 from by rw [List.length_take, HL.out]; omega)
  have L2 := Lib.hid (show (l.drop 4).length = n - 4 from by rw [List.length_drop, HL.out])
  have hg4 : (4 : Int) ≤ (c : Int) := by omega
  have hg4n : (4 : Int) ≤ (n : Int) := by omega
  have hnn : ((n : Int) != (n : Int)) = false := by simp
  go_enter Try.func57, Try.ntmps57
  go_wp2_with fail
  refine (goodSize_yes _ _ (by omega) (by omega)).mono ?_
  rintro e w' ⟨rfl, rfl⟩
  go_wp2
  go_quiet (first
    | (go_at_call 73; exact Calls.quiet_of_same (flip_same (crJoin_any _ 4 _ (l.take 4) _ L1.out (by omega) (R1.drewN _))))
    | (go_at_call 74; exact Calls.quiet_of_same (flip_same (of_any _ (n - 4) _ (l.drop 4) _ L2.out (by omega) (R2.drewN _)))))
  have hbW : Below w.heap.size w (w.drewN nq) := ⟨rfl, rfl, rfl, Nat.le_refl _, fun _ _ => rfl⟩
  have hrW := hr.drewN nq
  have hzW : (w.drewN nq).heap.size = w.heap.size := rfl
  have HZW := Lib.hid hzW
  clear hzW hr R1 R2 L1 L2
  generalize w.drewN nq = W at *
  by_cases hs : be (l.take 4) = (crc (l.drop 4)).toNat
  · have HFB := Lib.hid (opn_big (size := n) hs)
    have HFN := Lib.hid (opn_no HL.out h1 hs)
    have HFY := Lib.hid (opn_yes HL.out h1 hs)
    have hne : (((be (l.take 4) : Nat) : Int) != ((crc (l.drop 4)).toNat : Int)) = false := by simp [hs]
    clear hs
    generalize crc (l.drop 4) = sm at *
    generalize be (l.take 4) = S4 at *
    have h6 : ¬ c = 6 := by omega
    have hg6 : (6 : Int) ≤ (c : Int) := by omega
    have R3 := (hrW.dropw 4 (by omega)).take 2
    have L3 := Lib.hid (show ((l.drop 4).take 2).length = 2 from by rw [List.length_take, List.length_drop, HL.out]; omega)
    have hm := be_le3 ((l.drop 4).take 2) (by rw [L3.out]; omega)
    go_wp2_with fail
    with_reducible refine (crJoin_any _ 2 _ ((l.drop 4).take 2) _ L3.out (by omega) R3).mono ?_
    rintro e w' ⟨rfl, rfl⟩
    generalize be ((l.drop 4).take 2) = m at *
    clear R3 L3
    by_cases hbig : n - 8 < m
    · have hd : decide ((n : Int) - 8 < (m : Int)) = true := by simp; omega
      go_wp2
      go_ret2
      rw [HFB.out hbig]
      exact ⟨_, rfl, OB.nil, hbW⟩
    · have hd : decide ((n : Int) - 8 < (m : Int)) = false := by simp; omega
      have R4 := (hrW.dropw 6 (by omega)).take 2
      have L4 := Lib.hid (show ((l.drop 6).take 2).length = 2 from by rw [List.length_take, List.length_drop, HL.out]; omega)
      have hm1 : (m : Int) ≤ (n : Int) - 8 := by omega
      rcases hz1 : allZ ((l.drop 6).take 2) with _ | _
      · have HN := Lib.hid (HFN.out (by rw [hz1]; simp))
        have HZ1 := Lib.hid hz1
        clear hz1
        go_wp2_with fail
        with_reducible refine (zeros_any false _ 2 _ ((l.drop 6).take 2) _ L4.out (by omega) R4 HZ1.out).mono ?_
        rintro e w' ⟨rfl, rfl⟩
        go_wp2
        go_ret2
        rw [HN.out]
        exact ⟨_, rfl, OB.nil, hbW⟩
      · have L5 := Lib.hid (show (l.drop (8 + m)).length = n - (8 + m) from by rw [List.length_drop, HL.out])
        have R5 := hrW.drop (8 + m)
        have R6 : c = 8 + m → ∀ A, RB W A (l.drop (8 + m)) := fun h A => .inl (List.drop_of_length_le (by rw [HL.out]; omega))
        have HR6 := Lib.hid R6
        clear R6
        rcases hz2 : allZ (l.drop (8 + m)) with _ | _
        · have HN := Lib.hid (HFN.out (by rw [hz2]; simp))
          have HZ1 := Lib.hid hz1
          have HZ2 := Lib.hid hz2
          clear hz1 hz2
          go_wp2_with fail
          with_reducible refine (zeros_any true _ 2 _ ((l.drop 6).take 2) _ L4.out (by omega) R4 HZ1.out).mono ?_
          rintro e w' ⟨rfl, rfl⟩
          go_wp2_with fail
          all_goals
            with_reducible refine (zeros_any false _ (n - (8 + m)) _ (l.drop (8 + m)) _ L5.out (by omega) ?_ HZ2.out).mono ?_
            · first | exact R5 | exact HR6.out (by omega) _
            rintro e w' ⟨rfl, rfl⟩
            go_wp2
            go_ret2
            rw [HN.out]
            exact ⟨_, rfl, OB.nil, hbW⟩
        · have HY := Lib.hid (HFY.out hbig hz1 hz2)
          have HZ1 := Lib.hid hz1
          have HZ2 := Lib.hid hz2
          clear hz1 hz2
          have L7 := Lib.hid (show ((l.drop 8).take m).length = m from by rw [List.length_take, List.length_drop, HL.out]; omega)
          have R7 := (hrW.dropw 8 (by omega)).take m
          have R8 : c = 8 → ∀ A, RB W A ((l.drop 8).take m) := fun h A => .inl (by rw [List.drop_of_length_le (by rw [HL.out]; omega), List.take_nil])
          have HR8 := Lib.hid R8
          clear R8
          go_wp2_with fail
          with_reducible refine (zeros_any true _ 2 _ ((l.drop 6).take 2) _ L4.out (by omega) R4 HZ1.out).mono ?_
          rintro e w' ⟨rfl, rfl⟩
          go_wp2_with fail
          all_goals
            with_reducible refine (zeros_any true _ (n - (8 + m)) _ (l.drop (8 + m)) _ L5.out (by omega) ?_ HZ2.out).mono ?_
            · first | exact R5 | exact HR6.out (by omega) _
            rintro e w' ⟨rfl, rfl⟩
            go_wp2_with fail
            all_goals
              first
                | with_reducible refine (clone_any _ m _ ((l.drop 8).take m) _ (by omega) L7.out ?_).mono ?_
                | with_reducible refine (clone_any _ 0 _ ((l.drop 8).take m) _ (by omega) (by rw [L7.out]; omega) ?_).mono ?_
              · first | exact R7 | exact HR8.out (by omega) _
              rintro e w2 ⟨v2, rfl, ho2, hb2⟩
              go_wp2
              go_ret2
              rw [HY.out]
              rw [HZW.out] at ho2 hb2
              exact ⟨_, rfl, ho2, hbW.trans hb2⟩
  · have hne : (((be (l.take 4) : Nat) : Int) != ((crc (l.drop 4)).toNat : Int)) = true := by simp; omega
    have HS := Lib.hid hs
    clear hs
    go_wp2
    go_ret2
    rw [opn_sum HS.out]
    exact ⟨_, rfl, OB.nil, hbW⟩
end Go.Proofs.Ytidnpokjaklfpaa
