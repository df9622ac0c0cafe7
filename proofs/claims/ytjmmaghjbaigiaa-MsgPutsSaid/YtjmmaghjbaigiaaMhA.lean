/- The document's messages: whether one may be, is wide, is about a key. -/
import Derived.Test.YtjmmaghjbaigiaaMgA
namespace Go.Proofs.Ytjmmaghjbaigiaa
open Go.RowKit
set_option linter.unusedVariables false
set_option linter.unusedSimpArgs false
def onlyM (r : Ms) : Ms := if r.kind.toNat = 0 then ⟨r.kind, r.key, r.txn, 0, r.gone, if r.gone then ⟨#[]⟩ else r.val⟩ else if r.kind.toNat = 1 then ⟨r.kind, ⟨#[]⟩, r.txn, r.ts, false, ⟨#[]⟩⟩ else if r.kind.toNat = 2 then ⟨r.kind, ⟨#[]⟩, r.txn, 0, false, ⟨#[]⟩⟩ else if r.kind.toNat = 3 then ⟨r.kind, ⟨#[]⟩, 0, r.ts, false, ⟨#[]⟩⟩ else ⟨r.kind, ⟨#[]⟩, 0, 0, false, ⟨#[]⟩⟩
theorem mgIsN {k n : Nat} (h : ((k : Int) == (n : Int)) = true) : k = n := by simp only [beq_iff_eq] at h; omega
theorem mgNotN {k n : Nat} (h : ((k : Int) == (n : Int)) = false) : k ≠ n := by simp only [beq_eq_false_iff_ne] at h; omega
theorem mgOnly_0 {r : Ms} (h : ((r.kind.toNat : Int) == 0) = true) (g : (!r.gone) = false) : onlyM r = ⟨r.kind, r.key, r.txn, 0, r.gone, ⟨#[]⟩⟩ := by
  have g : r.gone = true := by simpa using g
  rw [onlyM, if_pos (mgIsN (n := 0) h), g]
  rfl
theorem mgOnly_0' {r : Ms} (h : ((r.kind.toNat : Int) == 0) = true) (g : (!r.gone) = true) : onlyM r = ⟨r.kind, r.key, r.txn, 0, r.gone, r.val⟩ := by
  have g : r.gone = false := by simpa using g
  rw [onlyM, if_pos (mgIsN (n := 0) h), g]
  rfl
theorem mgOnly_1 {r : Ms} (h : ((r.kind.toNat : Int) == 1) = true) : onlyM r = ⟨r.kind, ⟨#[]⟩, r.txn, r.ts, false, ⟨#[]⟩⟩ := by
  have h := mgIsN (n := 1) h
  rw [onlyM, if_neg (by omega), if_pos h]
theorem mgOnly_2 {r : Ms} (h : ((r.kind.toNat : Int) == 2) = true) : onlyM r = ⟨r.kind, ⟨#[]⟩, r.txn, 0, false, ⟨#[]⟩⟩ := by
  have h := mgIsN (n := 2) h
  rw [onlyM, if_neg (by omega), if_neg (by omega), if_pos h]
theorem mgOnly_3 {r : Ms} (h : ((r.kind.toNat : Int) == 3) = true) : onlyM r = ⟨r.kind, ⟨#[]⟩, 0, r.ts, false, ⟨#[]⟩⟩ := by
  have h := mgIsN (n := 3) h
  rw [onlyM, if_neg (by omega), if_neg (by omega), if_neg (by omega), if_pos h]
theorem mgOnly_4 {r : Ms} (a : ((r.kind.toNat : Int) == 0) = false) (b : ((r.kind.toNat : Int) == 1) = false) (c : ((r.kind.toNat : Int) == 2) = false) (d : ((r.kind.toNat : Int) == 3) = false) : onlyM r = ⟨r.kind, ⟨#[]⟩, 0, 0, false, ⟨#[]⟩⟩ := by
  have a := mgNotN (n := 0) a
  have b := mgNotN (n := 1) b
  have c := mgNotN (n := 2) c
  have d := mgNotN (n := 3) d
  rw [onlyM, if_neg (by omega), if_neg (by omega), if_neg (by omega), if_neg (by omega)]
theorem mgBelow3 (w : World) (a b c : Obj) : Below w.heap.size w (((w.alloc a).alloc b).alloc c) := (((Below.refl w.heap.size w).alloc (Nat.le_refl _) a).alloc (by simp) b).alloc (by simp; omega) c
set_option maxHeartbeats 1000000 in
set_option maxRecDepth 100000 in
theorem mgOnly_any (r : Ms) (w : World) : Calls Try.prog 94 #[r.v] w fun e w' => e = .returned (onlyM r).v ∧ Below w.heap.size w w' := by
  have H0 := Lib.hid (@mgOnly_0 r)
  have H0' := Lib.hid (@mgOnly_0' r)
  have H1 := Lib.hid (@mgOnly_1 r)
  have H2 := Lib.hid (@mgOnly_2 r)
  have H3 := Lib.hid (@mgOnly_3 r)
  have H4 := Lib.hid (@mgOnly_4 r)
  generalize onlyM r = E at *
  unfold Ms.v at *
  go_enter Try.func94, Try.ntmps94
  go_wp2_with (first | go_region | fail)
  all_goals (
    first
      | (have e := H0.out (by assumption) (by assumption); subst e)
      | (have e := H0'.out (by assumption) (by assumption); subst e)
      | (have e := H1.out (by assumption); subst e)
      | (have e := H2.out (by assumption); subst e)
      | (have e := H3.out (by assumption); subst e)
      | (have e := H4.out (by assumption) (by assumption) (by assumption) (by assumption); subst e)
      | fail
    clear H0 H0' H1 H2 H3 H4
    dsimp only
    refine bodyPost_ret (v := .agg #[_, _, _, _, _, _]) (by simp [results, Try.results94, go_sem]; try rfl) rfl ⟨rfl, ?_⟩
    first | exact mgBelow3 w _ _ _ | exact (mgBelow3 w _ _ _).drew | fail)
def mgEq (a b : Ms) : Bool := ((a.kind.toNat : Int) == (b.kind.toNat : Int)) && (a.key == b.key && (a.txn == b.txn && (a.ts == b.ts && (a.gone == b.gone && a.val == b.val))))
theorem mgEq_iff (a b : Ms) : mgEq a b = true ↔ a = b := by
  obtain ⟨a1, a2, a3, a4, a5, a6⟩ := a
  obtain ⟨b1, b2, b3, b4, b5, b6⟩ := b
  simp only [mgEq, Bool.and_eq_true, beq_iff_eq, Ms.mk.injEq, Int.natCast_inj, vs_beq, UInt8.toNat_inj]
theorem mgEq_self (a : Ms) : mgEq a a = true := (mgEq_iff a a).2 rfl
theorem mgEqU (d : Nat) (w : World) (a b : Int) : (Op.equalIn (d + 1) 5 (.int .u8 a) (.int .u8 b)).run Try.prog w = .ok (a == b) w := by
  simp [Op.equalIn, run_underlying Try.underlying5, go_sem]
theorem mgEqV (d : Nat) (w : World) (a b : Ms) : (Op.equalIn (d + 2) 40 a.v b.v).run Try.prog w = .ok (mgEq a b) w := by
  have hF := Try.underlying40
  have hst : Try.prog.stoodInHeld 40 = false := by kernel_rfl
  unfold Ms.v
  rw [Op.equalIn]
  simp only [Sem.run_bind, run_underlying hF, Result.andThen_ok]
  simp [hst, part, vsEqI, vsEqB, vsEqS, mgEqU, go_sem]
  simp only [mgEq]
  (repeat' split) <;> simp_all
theorem mgEmpty (a : ByteArray) : (a.toList.isEmpty = true) ↔ a = ⟨#[]⟩ := by
  rcases a with ⟨⟨l⟩⟩
  rw [ByteArray.toList_eq]
  simp
theorem mgOnly_same {r : Ms} (h : ¬ 3 < r.kind.toNat) : mgEq r (onlyM r) = !(mgStrays r || r.gone && !r.val.toList.isEmpty) := by
  rw [Bool.eq_iff_iff, mgEq_iff]
  obtain ⟨k, key, t, s, g, v⟩ := r
  simp only [Bool.not_eq_true', Bool.or_eq_false_iff, mgStrays, mgTxn, mgTS, mgPair, onlyM]
  have e1 := mgEmpty key
  have e2 := mgEmpty v
  dsimp only at h
  obtain ⟨n, hn⟩ : ∃ n, n = k.toNat := ⟨_, rfl⟩
  rw [← hn] at h ⊢
  have hk : n = 0 ∨ n = 1 ∨ n = 2 ∨ n = 3 := by omega
  clear hn h
  rcases hk with rfl | rfl | rfl | rfl <;> cases g <;> simp [e1, e2] <;> first | done | (constructor <;> intro h <;> simp_all)
theorem checkM_form' {r : Ms} (h : ¬ 3 < r.kind.toNat) (h1 : mgEq r (onlyM r) = false) : checkM r = 4 := checkM_form h (by rw [mgOnly_same h, Bool.not_eq_false'] at h1; exact h1)
theorem checkM_rest {r : Ms} (h : ¬ 3 < r.kind.toNat) (h1 : mgEq r (onlyM r) = true) : checkM r = if (((r.txn < 0 ∨ 1099511627776 < r.txn) ∨ r.ts < 0) ∨ 1099511627776 < r.ts) ∨ (r.kind.toNat = 1 ∧ r.ts = 0) then 9 else if 16 < r.key.size ∨ 24 < r.val.size then 5 else 0 := by
  have h2 : ¬ (mgStrays r || r.gone && !r.val.toList.isEmpty) = true := by rw [mgOnly_same h, Bool.not_eq_true'] at h1; rw [h1]; exact Bool.false_ne_true
  rw [checkM, if_neg h, if_neg h2]
  by_cases hc : (((r.txn < 0 ∨ 1099511627776 < r.txn) ∨ r.ts < 0) ∨ 1099511627776 < r.ts) ∨ (r.kind.toNat = 1 ∧ r.ts = 0)
  · rw [if_pos hc, if_pos (by simp only [mgIn, Bool.or_eq_true, Bool.not_eq_true', decide_eq_false_iff_not, Bool.and_eq_true, beq_iff_eq]; omega)]
  · rw [if_neg hc, if_neg (by simp only [mgIn, Bool.or_eq_true, Bool.not_eq_true', decide_eq_false_iff_not, Bool.and_eq_true, beq_iff_eq]; omega)]
set_option maxHeartbeats 2000000 in
set_option maxRecDepth 100000 in
theorem refCheckM_any (m : Ms) (w : World) : Calls Try.prog 56 #[m.v] w fun e w' => e = .returned (.int .i64 (checkM m : Int)) ∧ Below w.heap.size w w' := by
  have B := Lib.hid (below1 w (.cells #[.int .u8 (m.kind.toNat : Int), .string m.key, .int .i64 m.txn, .int .i64 m.ts, .bool m.gone, .string m.val] 40))
  have BX := Lib.hid (MsBox.new w m 40)
  have K1 := Lib.hid (fun W => mgOnly_any m W)
  by_cases h4 : 3 < m.kind.toNat
  · have d4 : (3 : Int) < (m.kind.toNat : Int) := by omega
    have HE := Lib.hid (checkM_kind h4)
    generalize checkM m = E at *
    unfold Ms.v at *
    clear h4
    go_enter Try.func56, Try.ntmps56
    go_wp2
    go_ret
    rw [HE.out]
    exact ⟨rfl, B.out⟩
  · have d4 : decide ((3 : Int) < (m.kind.toNat : Int)) = false := by simp; omega
    have hEq := fun W => mgEqV 9998 W m (onlyM m)
    have H2 := Lib.hid (@checkM_form' m h4)
    have H3 := Lib.hid (@checkM_rest m h4)
    clear h4
    generalize onlyM m = E at *
    generalize checkM m = C at *
    unfold Ms.v at *
    generalize mgEq m E = b at *
    have KN : ∀ W, (Op.equalIn 10000 40 (.agg #[.int .u8 (m.kind.toNat : Int), .string m.key, .int .i64 m.txn, .int .i64 m.ts, .bool m.gone, .string m.val]) (.agg #[.int .u8 (E.kind.toNat : Int), .string E.key, .int .i64 E.txn, .int .i64 E.ts, .bool E.gone, .string E.val])).run Try.prog W = .ok b W := hEq
    clear hEq
    go_enter Try.func56, Try.ntmps56
    go_upto_region 3 with fail
    generalize w.alloc (.cells #[.int .u8 (m.kind.toNat : Int), .string m.key, .int .i64 m.txn, .int .i64 m.ts, .bool m.gone, .string m.val] 40) = W0 at *
    have x := (⟨BX.out.drew.c0, BX.out.drew.c1, BX.out.drew.c2, BX.out.drew.c3, BX.out.drew.c4, BX.out.drew.c5⟩ : _ ∧ _ ∧ _ ∧ _ ∧ _ ∧ _)
    have B0 := Lib.hid (Below.refl W0.heap.size W0).drew
    go_region_held3 (fun W => W.cell? ⟨w.heap.size, 0, none⟩ = some (.int .u8 (m.kind.toNat : Int)) ∧ W.cell? ⟨w.heap.size, 1, none⟩ = some (.string m.key) ∧ W.cell? ⟨w.heap.size, 2, none⟩ = some (.int .i64 m.txn) ∧ W.cell? ⟨w.heap.size, 3, none⟩ = some (.int .i64 m.ts) ∧ W.cell? ⟨w.heap.size, 4, none⟩ = some (.bool m.gone) ∧ W.cell? ⟨w.heap.size, 5, none⟩ = some (.string m.val)) (first | with_reducible exact x | with_reducible exact y | fail)
      (first
        | (go_at_call 94; refine (K1.out _).mono ?_; rintro e w1 ⟨rfl, b1⟩; have F1 := Lib.hid (B0.out.trans b1); have X1 := BX.out.on F1.out; have y := (⟨X1.c0, X1.c1, X1.c2, X1.c3, X1.c4, X1.c5⟩ : _ ∧ _ ∧ _ ∧ _ ∧ _ ∧ _); clear b1 X1)
        | fail)
    obtain ⟨y0, y1, y2, y3, y4, y5⟩ := y
    have FB := Lib.hid (B.out.trans (F1.out.mono B.out.size))
    cases b
    · clear H3 K1
      go_wp2
      go_ret
      rw [H2.out (by first | rfl | trivial)]
      exact ⟨rfl, FB.out⟩
    · have H5 := Lib.hid (H3.out rfl)
      clear H2 K1 H3
      by_cases hk1 : m.kind.toNat = 1
      · have e1 : ((m.kind.toNat : Int) == 1) = true := by simp [hk1]
        have HK1 := Lib.hid hk1
        clear hk1
        by_cases ht : m.ts = 0
        · have e2 : (m.ts == 0) = true := by simp [ht]
          have HT := Lib.hid ht
          clear ht
          go_wp2
          all_goals go_ret
          all_goals (
            refine ⟨?_, FB.out⟩
            have a1 := HK1.out
            have a2 := HT.out
            clear KN y0 y1 y2 y3 y4 y5
            first
              | (rw [H5.out, if_pos (by omega)]; rfl)
              | (rw [H5.out, if_neg (by omega), if_pos (by omega)]; rfl)
              | (rw [H5.out, if_neg (by omega), if_neg (by omega)]; rfl)
              | trace_state)
        · have e2 : (m.ts == 0) = false := by simp [ht]
          have HT := Lib.hid ht
          clear ht
          go_wp2
          all_goals go_ret
          all_goals (
            refine ⟨?_, FB.out⟩
            have a1 := HK1.out
            have a2 := HT.out
            clear KN y0 y1 y2 y3 y4 y5
            first
              | (rw [H5.out, if_pos (by omega)]; rfl)
              | (rw [H5.out, if_neg (by omega), if_pos (by omega)]; rfl)
              | (rw [H5.out, if_neg (by omega), if_neg (by omega)]; rfl)
              | trace_state)
      · have e1 : ((m.kind.toNat : Int) == 1) = false := by simp; omega
        have HK1 := Lib.hid hk1
        clear hk1
        go_wp2
        all_goals go_ret
        all_goals (
          refine ⟨?_, FB.out⟩
          have a1 := HK1.out
          have a2 := trivial
          clear KN y0 y1 y2 y3 y4 y5
          first
            | (rw [H5.out, if_pos (by omega)]; rfl)
            | (rw [H5.out, if_neg (by omega), if_pos (by omega)]; rfl)
            | (rw [H5.out, if_neg (by omega), if_neg (by omega)]; rfl)
            | trace_state)
def refAboutB (key : ByteArray) (m : Ms) : Bool := mgWide m.kind.toNat || (decide (m.kind.toNat = 0) && decide (m.key = key))
theorem refAbout_ok {key : ByteArray} {m : Ms} (h : checkM m = 0) : refAboutB key m = mgAbout key m := by
  have hk := (checkM_zero h).1
  unfold refAboutB mgAbout mgWide
  have h4 : m.kind.toNat = 0 ∨ m.kind.toNat = 1 ∨ m.kind.toNat = 2 ∨ m.kind.toNat = 3 := by omega
  rcases h4 with e | e | e | e <;> simp [e]
end Go.Proofs.Ytjmmaghjbaigiaa
