/- Joined: WrB WrC WrD. -/
import Derived.Test.YtlohhbpncbnipaaM44
section
/- The document's records: a record with just the fields of its kind; whether a record may be. -/
namespace Go.Proofs.Ytlohhbpncbnipaa
open Go.RowKit
set_option linter.unusedVariables false
set_option linter.unusedSimpArgs false
def onlyR (r : Rec) : Rec := if r.kind = 0 ∨ r.kind = 2 then ⟨r.kind, r.txn, r.ts, ⟨#[]⟩, false, ⟨#[]⟩⟩ else if r.kind = 1 then ⟨r.kind, r.txn, 0, r.key, r.gone, if r.gone then ⟨#[]⟩ else r.val⟩ else if r.kind = 4 then ⟨r.kind, 0, r.ts, ⟨#[]⟩, false, ⟨#[]⟩⟩ else ⟨r.kind, r.txn, 0, ⟨#[]⟩, false, ⟨#[]⟩⟩
theorem isN {k n : Nat} (h : ((k : Int) == (n : Int)) = true) : k = n := by simp only [beq_iff_eq] at h; omega
theorem notN {k n : Nat} (h : ((k : Int) == (n : Int)) = false) : k ≠ n := by simp only [beq_eq_false_iff_ne] at h; omega
theorem only_0 {r : Rec} (h : ((r.kind : Int) == 0) = true) : onlyR r = ⟨r.kind, r.txn, r.ts, ⟨#[]⟩, false, ⟨#[]⟩⟩ := by
  rw [onlyR, if_pos (.inl (isN (n := 0) h))]
theorem only_2 {r : Rec} (h : ((r.kind : Int) == 2) = true) : onlyR r = ⟨r.kind, r.txn, r.ts, ⟨#[]⟩, false, ⟨#[]⟩⟩ := by
  rw [onlyR, if_pos (.inr (isN (n := 2) h))]
theorem only_1 {r : Rec} (h : ((r.kind : Int) == 1) = true) (g : (!r.gone) = false) : onlyR r = ⟨r.kind, r.txn, 0, r.key, r.gone, ⟨#[]⟩⟩ := by
  have h := isN (n := 1) h
  have g : r.gone = true := by simpa using g
  rw [onlyR, if_neg (by omega), if_pos h, g]
  rfl
theorem only_1' {r : Rec} (h : ((r.kind : Int) == 1) = true) (g : (!r.gone) = true) : onlyR r = ⟨r.kind, r.txn, 0, r.key, r.gone, r.val⟩ := by
  have h := isN (n := 1) h
  have g : r.gone = false := by simpa using g
  rw [onlyR, if_neg (by omega), if_pos h, g]
  rfl
theorem only_4 {r : Rec} (h : ((r.kind : Int) == 4) = true) : onlyR r = ⟨r.kind, 0, r.ts, ⟨#[]⟩, false, ⟨#[]⟩⟩ := by
  have h := isN (n := 4) h
  rw [onlyR, if_neg (by omega), if_neg (by omega), if_pos h]
theorem only_3 {r : Rec} (a : ((r.kind : Int) == 0) = false) (b : ((r.kind : Int) == 2) = false) (c : ((r.kind : Int) == 1) = false) (d : ((r.kind : Int) == 4) = false) : onlyR r = ⟨r.kind, r.txn, 0, ⟨#[]⟩, false, ⟨#[]⟩⟩ := by
  have a := notN (n := 0) a
  have b := notN (n := 2) b
  have c := notN (n := 1) c
  have d := notN (n := 4) d
  rw [onlyR, if_neg (by omega), if_neg (by omega), if_neg (by omega)]
theorem below3 (w : World) (a b c : Obj) : Below w.heap.size w (((w.alloc a).alloc b).alloc c) := (((Below.refl w.heap.size w).alloc (Nat.le_refl _) a).alloc (by simp) b).alloc (by simp; omega) c
set_option maxHeartbeats 1000000 in
set_option maxRecDepth 100000 in
theorem only_any (r : Rec) (w : World) : Calls Try.prog 31 #[r.v] w fun e w' => e = .returned (onlyR r).v ∧ Below w.heap.size w w' := by
  have H0 := Lib.hid (@only_0 r)
  have H2 := Lib.hid (@only_2 r)
  have H1 := Lib.hid (@only_1 r)
  have H1' := Lib.hid (@only_1' r)
  have H4 := Lib.hid (@only_4 r)
  have H3 := Lib.hid (@only_3 r)
  have B := fun o => (Below.refl w.heap.size w).alloc (Nat.le_refl _) o
  generalize onlyR r = E at *
  unfold Rec.v at *
  go_enter Try.func31, Try.ntmps31
  go_wp2_with (first | go_region | fail)
  all_goals (
    first
      | (have e := H0.out (by assumption); subst e)
      | (have e := H2.out (by assumption); subst e)
      | (have e := H1.out (by assumption) (by assumption); subst e)
      | (have e := H1'.out (by assumption) (by assumption); subst e)
      | (have e := H4.out (by assumption); subst e)
      | (have e := H3.out (by assumption) (by assumption) (by assumption) (by assumption); subst e)
      | fail
    clear H0 H1 H1' H2 H3 H4
    dsimp only
    refine bodyPost_ret (v := .agg #[_, _, _, _, _, _]) (by simp [results, Try.results31, go_sem]; try rfl) rfl ⟨rfl, ?_⟩
    first | exact below3 w _ _ _ | exact (below3 w _ _ _).drew | fail)
def recEq (a b : Rec) : Bool := (a.kind : Int) == b.kind && (a.txn == b.txn && (a.ts == b.ts && (a.key == b.key && (a.gone == b.gone && a.val == b.val))))
theorem ba_beq (a b : ByteArray) : (a == b) = true ↔ a = b := by
  rcases a with ⟨a⟩
  rcases b with ⟨b⟩
  rw [ByteArray.mk.injEq]
  exact beq_iff_eq (a := a)
theorem recEq_iff (a b : Rec) : recEq a b = true ↔ a = b := by
  obtain ⟨a1, a2, a3, a4, a5, a6⟩ := a
  obtain ⟨b1, b2, b3, b4, b5, b6⟩ := b
  simp only [recEq, Bool.and_eq_true, beq_iff_eq, Rec.mk.injEq, Int.natCast_inj, ba_beq]
theorem equalIn_8 (d : Nat) (w : World) (a b : Int) : (Op.equalIn (d + 1) 5 (.int .u8 a) (.int .u8 b)).run Try.prog w = .ok (a == b) w := by
  simp [Op.equalIn, run_underlying Try.underlying5, go_sem]
theorem equalIn_i (d : Nat) (w : World) (a b : Int) : (Op.equalIn (d + 1) 3 (.int .i64 a) (.int .i64 b)).run Try.prog w = .ok (a == b) w := by
  simp [Op.equalIn, run_underlying Try.underlying3, go_sem]
theorem equalIn_b (d : Nat) (w : World) (a b : Bool) : (Op.equalIn (d + 1) 4 (.bool a) (.bool b)).run Try.prog w = .ok (a == b) w := by
  simp [Op.equalIn, run_underlying Try.underlying4, go_sem]
theorem equalIn_s (d : Nat) (w : World) (a b : ByteArray) : (Op.equalIn (d + 1) 9 (.string a) (.string b)).run Try.prog w = .ok (a == b) w := by
  simp [Op.equalIn, run_underlying Try.underlying9, go_sem]
theorem equalIn_rec (d : Nat) (w : World) (a b : Rec) : (Op.equalIn (d + 2) 23 a.v b.v).run Try.prog w = .ok (recEq a b) w := by
  have hF := Try.underlying23
  have hst : Try.prog.stoodInHeld 23 = false := by kernel_rfl
  rw [Op.equalIn]
  simp only [Sem.run_bind, run_underlying hF, Result.andThen_ok]
  simp [hst, part, equalIn_8, equalIn_i, equalIn_b, equalIn_s, go_sem]
  simp only [recEq]
  (repeat' split) <;> simp_all
theorem ba_empty (a : ByteArray) : (a.toList.isEmpty = true) ↔ a = ⟨#[]⟩ := by
  rcases a with ⟨⟨l⟩⟩
  rw [ByteArray.toList_eq]
  simp
theorem only_same {r : Rec} (h : ¬ 4 < r.kind) : recEq r (onlyR r) = !(straysB r || r.gone && !r.val.toList.isEmpty) := by
  rw [Bool.eq_iff_iff, recEq_iff]
  obtain ⟨k, t, s, key, g, v⟩ := r
  simp only [Bool.not_eq_true', Bool.or_eq_false_iff, straysB, wrHasTxn, wrHasTS, wrHasPair, onlyR]
  have e1 := ba_empty key
  have e2 := ba_empty v
  have hk : k = 0 ∨ k = 1 ∨ k = 2 ∨ k = 3 ∨ k = 4 := by simp at h; omega
  rcases hk with rfl | rfl | rfl | rfl | rfl <;> cases g <;> simp [e1, e2] <;> simp_all
theorem checkR_form' {r : Rec} (h : ¬ 4 < r.kind) (h1 : recEq r (onlyR r) = false) : checkR r = 4 := checkR_form h (by rw [only_same h, Bool.not_eq_false'] at h1; exact h1)
theorem checkR_range' {r : Rec} (h : ¬ 4 < r.kind) (h1 : recEq r (onlyR r) = true) (h2 : ((r.txn < 0 ∨ 1099511627776 < r.txn) ∨ r.ts < 0) ∨ 1099511627776 < r.ts) : checkR r = 9 := checkR_range h (by rw [only_same h, Bool.not_eq_true'] at h1; rw [h1]; exact Bool.false_ne_true) (by simp only [wrIn, Bool.or_eq_true, Bool.not_eq_true', decide_eq_false_iff_not]; omega)
theorem checkR_last' {r : Rec} (h : ¬ 4 < r.kind) (h1 : recEq r (onlyR r) = true) (h2 : ¬ (((r.txn < 0 ∨ 1099511627776 < r.txn) ∨ r.ts < 0) ∨ 1099511627776 < r.ts)) : checkR r = if 16 < r.key.size ∨ 24 < r.val.size then 5 else 0 := by
  rw [checkR, if_neg h, if_neg (by rw [only_same h, Bool.not_eq_true'] at h1; rw [h1]; exact Bool.false_ne_true), if_neg (by simp only [wrIn, Bool.or_eq_true, Bool.not_eq_true', decide_eq_false_iff_not]; omega)]
set_option maxHeartbeats 1000000 in
set_option maxRecDepth 100000 in
theorem refCheck_any (r : Rec) (w : World) : Calls Try.prog 13 #[r.v] w fun e w' => e = .returned (.int .i64 (checkR r : Int)) ∧ Below w.heap.size w w' := by
  have B := Lib.hid (fun W h => belowBox (w := w) (W := W) (.cells #[.int .u8 (r.kind : Int), .int .i64 r.txn, .int .i64 r.ts, .string r.key, .bool r.gone, .string r.val] 23) h)
  have BX := Lib.hid (fun W h => bxRec w (.int .u8 (r.kind : Int)) (.int .i64 r.txn) (.int .i64 r.ts) (.string r.key) (.bool r.gone) (.string r.val) 23 (W := W) h)
  have K1 := Lib.hid (fun W => only_any r W)
  by_cases h4 : 4 < r.kind
  · have d4 : (4 : Int) < (r.kind : Int) := by omega
    have HE := Lib.hid (checkR_kind h4)
    generalize checkR r = E at *
    unfold Rec.v at *
    clear h4
    go_enter Try.func13, Try.ntmps13
    go_wp2
    go_ret
    rw [HE.out]
    exact ⟨rfl, B.out _ (Below.refl _ _)⟩
  · have d4 : decide ((4 : Int) < (r.kind : Int)) = false := by simp; omega
    have hEq := fun W => equalIn_rec 9998 W r (onlyR r)
    have H2 := Lib.hid (@checkR_form' r h4)
    have H3 := Lib.hid (@checkR_range' r h4)
    have H4 := Lib.hid (@checkR_last' r h4)
    clear h4
    generalize onlyR r = E at *
    generalize checkR r = C at *
    unfold Rec.v at *
    generalize recEq r E = b at *
    have KN : ∀ W, (Op.equalIn 10000 23 (.agg #[.int .u8 (r.kind : Int), .int .i64 r.txn, .int .i64 r.ts, .string r.key, .bool r.gone, .string r.val]) (.agg #[.int .u8 (E.kind : Int), .int .i64 E.txn, .int .i64 E.ts, .string E.key, .bool E.gone, .string E.val])).run Try.prog W = .ok b W := hEq
    clear hEq
    go_enter Try.func13, Try.ntmps13
    go_wp2
    have x := BX.out _ (Below.refl _ _)
    have B0 := Lib.hid (Below.refl (w.alloc (.cells #[.int .u8 (r.kind : Int), .int .i64 r.txn, .int .i64 r.ts, .string r.key, .bool r.gone, .string r.val] 23)).heap.size (w.alloc (.cells #[.int .u8 (r.kind : Int), .int .i64 r.txn, .int .i64 r.ts, .string r.key, .bool r.gone, .string r.val] 23)))
    go_region_held3 (fun W => W.cell? ⟨w.heap.size, 0, none⟩ = some (.int .u8 (r.kind : Int)) ∧ W.cell? ⟨w.heap.size, 1, none⟩ = some (.int .i64 r.txn) ∧ W.cell? ⟨w.heap.size, 2, none⟩ = some (.int .i64 r.ts) ∧ W.cell? ⟨w.heap.size, 3, none⟩ = some (.string r.key) ∧ W.cell? ⟨w.heap.size, 4, none⟩ = some (.bool r.gone) ∧ W.cell? ⟨w.heap.size, 5, none⟩ = some (.string r.val)) (first | with_reducible assumption | with_reducible exact y | go_keep | fail)
      (first
        | (go_at_call 31; refine (K1.out _).mono ?_; rintro e w1 ⟨rfl, b1⟩; have y := BX.out w1 (B0.out.drew.trans b1); have B1 := Lib.hid (B.out w1 (B0.out.drew.trans b1)); clear b1)
        | fail)
    obtain ⟨y0, y1, y2, y3, y4, y5⟩ := y
    cases b
    · clear H3 H4 BX K1 B
      go_wp2
      go_ret
      rw [H2.out (by first | rfl | trivial)]
      exact ⟨rfl, B1.out⟩
    · go_wp2
      all_goals go_ret
      all_goals (
        clear KN y0 y1 y2 y3 y4 y5 H2 B BX
        refine ⟨?_, B1.out⟩
        first
          | (rw [H3.out (by first | rfl | trivial) (by omega)]; rfl)
          | (rw [H4.out (by first | rfl | trivial) (by omega), if_pos (by omega)]; rfl)
          | (rw [H4.out (by first | rfl | trivial) (by omega), if_neg (by omega)]; rfl)
          | fail)
end Go.Proofs.Ytlohhbpncbnipaa
end
section
/- A record's bytes: the program's Put. -/
namespace Go.Proofs.Ytlohhbpncbnipaa
open Go.RowKit
set_option linter.unusedVariables false
set_option linter.unusedSimpArgs false
theorem putSmall_le (n : Nat) (h : n < 18446744073709551616) : (putSmall n).length ≤ 9 := by
  have := wid_le8 n h
  simp [putSmall, hi_len]
  omega
theorem putText_le (l : List UInt8) : (putText l).length ≤ 2 * l.length + 2 := by
  have := encT_len l
  simp [putText]
  omega
theorem putText_ba (s : ByteArray) (k : Nat) (h : s.size ≤ k) : (putText s.data.toList).length ≤ 2 * k + 2 := by
  have h1 := putText_le s.data.toList
  have h2 : s.size = s.data.toList.length := rfl
  omega
def wrMark (b : Bool) : UInt8 := if b then 1 else 0
/-- A record's bytes, by what its kind has. -/
def layR (k : UInt8) (a b c : Bool) (n m : Nat) (key : List UInt8) (g : Bool) (val : List UInt8) : List UInt8 := k :: (if a then putSmall n else []) ++ (if b then putSmall m else []) ++ (if c then putText key ++ wrMark g :: putText val else [])
def putR (r : Rec) : List UInt8 := layR (UInt8.ofNat r.kind) (wrHasTxn r.kind) (wrHasTS r.kind) (wrHasPair r.kind) r.txn.toNat r.ts.toNat r.key.data.toList r.gone r.val.data.toList
theorem checkR_zero {r : Rec} (h : checkR r = 0) : r.kind ≤ 4 ∧ straysB r = false ∧ (r.gone = true → r.val.toList = []) ∧ (0 ≤ r.txn ∧ r.txn ≤ 1099511627776) ∧ (0 ≤ r.ts ∧ r.ts ≤ 1099511627776) ∧ r.key.size ≤ 16 ∧ r.val.size ≤ 24 := by
  unfold checkR at h
  split at h
  · cases h
  · split at h
    · cases h
    · split at h
      · cases h
      · split at h
        · cases h
        · rename_i h1 h2 h3 h4
          simp only [wrIn, Bool.or_eq_true, Bool.not_eq_true', decide_eq_false_iff_not, not_or, Decidable.not_not, Bool.and_eq_true, not_and, Bool.not_eq_false, Bool.not_eq_true, List.isEmpty_iff] at h2 h3
          exact ⟨by omega, h2.1, h2.2, by omega, by omega, by omega, by omega⟩
theorem OB.byte (w : World) (base : Nat) (k : Nat) (h : k < 256) (hb : base ≤ w.heap.size) : OB base (w.alloc (.cells #[.int .u8 (k : Int)] 5)) (.slice (some ⟨w.heap.size, 0, none⟩) 1 1) [UInt8.ofNat k] := OB.one w base _ _ (by simp; omega) hb
set_option maxHeartbeats 4000000 in
set_option maxRecDepth 100000 in
theorem wrPut_any (r : Rec) (w : World) : Calls Try.prog 10 #[r.v] w fun e w' => ∃ v', e = .returned (.tuple #[v', .int .i64 (checkR r : Int)]) ∧ OB w.heap.size w' v' (if checkR r = 0 then putR r else []) ∧ Below w.heap.size w w' := by
  have BX := Lib.hid (fun W h => bxRec w (.int .u8 (r.kind : Int)) (.int .i64 r.txn) (.int .i64 r.ts) (.string r.key) (.bool r.gone) (.string r.val) 23 (W := W) h)
  have B := Lib.hid (fun W h => belowBox (w := w) (W := W) (.cells #[.int .u8 (r.kind : Int), .int .i64 r.txn, .int .i64 r.ts, .string r.key, .bool r.gone, .string r.val] 23) h)
  have K0 := Lib.hid (fun W => wrCheck_any r W)
  have hlo := heap_size_alloc w (.cells #[.int .u8 (r.kind : Int), .int .i64 r.txn, .int .i64 r.ts, .string r.key, .bool r.gone, .string r.val] 23)
  by_cases h0 : checkR r = 0
  · rw [if_pos h0]
    obtain ⟨c1, c2, c3, ⟨t1, t2⟩, ⟨s1, s2⟩, c4, c5⟩ := checkR_zero h0
    have K0 := Lib.hid (fun W => (show Calls Try.prog 12 #[r.v] W (fun e w' => e = .returned (.int .i64 0) ∧ Below W.heap.size W w') from by have h := K0.out W; rw [h0] at h; exact h))
    rw [h0]
    unfold putR Rec.v at *
    obtain ⟨kind, txn, ts, key, gone, val⟩ := r
    dsimp only at *
    obtain ⟨n, rfl⟩ := Int.eq_ofNat_of_zero_le t1
    obtain ⟨m, rfl⟩ := Int.eq_ofNat_of_zero_le s1
    have wn : IntKind.u64.wrap (n : Int) = (n : Int) := by rw [IntKind.wrap_u64]; omega
    have wm : IntKind.u64.wrap (m : Int) = (m : Int) := by rw [IntKind.wrap_u64]; omega
    have KA := Lib.hid (fun W => hasTxn_any kind W)
    have KB := Lib.hid (fun W => hasTS_any kind W)
    have KC := Lib.hid (fun W => hasPair_any kind W)
    have KG := Lib.hid (fun W => markOf_any gone W)
    have KS1 := Lib.hid (fun W => putSmall_any n W (by omega))
    have KS2 := Lib.hid (fun W => putSmall_any m W (by omega))
    have KT1 := Lib.hid (fun W => putText_any key W (by omega))
    have KT2 := Lib.hid (fun W => putText_any val W (by omega))
    have l1 := Lib.hid (putSmall_le n (by omega))
    have l2 := Lib.hid (putSmall_le m (by omega))
    have l3 := Lib.hid (putText_ba key 16 c4)
    have l4 := Lib.hid (putText_ba val 24 c5)
    have HM := Lib.hid (fun W => RB.one W (if gone then 1 else 0) (wrMark gone) (by cases gone <;> rfl))
    generalize (if gone then (1 : Int) else 0) = z at KG HM
    have H5 := Lib.hid (fun W base (hb : base ≤ W.heap.size) => OB.byte W base kind (by omega) hb)
    simp only [Int.toNat_natCast]
    generalize wrHasTxn kind = a at *
    generalize wrHasTS kind = b at *
    generalize wrHasPair kind = c at *
    clear h0 c1 c2 c3 c4 c5 t1 t2 s1 s2
    unfold layR
    cases a <;> cases b <;> cases c
    all_goals (
      go_enter Try.func10, Try.ntmps10
      go_wp2_with fail
      refine (K0.out _).mono ?_
      rintro e w1 ⟨rfl, b1⟩
      obtain ⟨x0, x1, x2, x3, x4, x5⟩ := BX.out w1 b1
      have hz := Lib.hid b1.size
      have hzl : w.heap.size < w1.heap.size := by have := b1.size; omega
      have O := Lib.hid (H5.out w1 w1.heap.size (Nat.le_refl _))
      have BS := Lib.hid (show w1.heap.size ≤ (w1.alloc (.cells #[.int .u8 (kind : Int)] 5)).heap.size from by simp)
      have BB := Lib.hid (b1.alloc hz.out (.cells #[.int .u8 (kind : Int)] 5))
      have hlo' := Lib.hid hlo
      clear b1 hlo
      obtain ⟨y0, y1, y2, y3, y4, y5⟩ := BX.out _ BB.out
      go_wp2_with (first
        | (go_at_call 21; refine (KA.out _).mono ?_; rintro e w' ⟨rfl, rfl⟩)
        | (go_at_call 23; refine (KB.out _).mono ?_; rintro e w' ⟨rfl, rfl⟩)
        | (go_at_call 24; refine (KC.out _).mono ?_; rintro e w' ⟨rfl, rfl⟩)
        | (go_at_call 26; refine (KG.out _).mono ?_; rintro e w' ⟨rfl, rfl⟩)
        | (go_at_call 22; with_reducible refine Calls.mono (KS1.out _) ?_; rintro e w2 ⟨v2, rfl, o2, b2⟩; obtain ⟨A2, c2, rfl, hc2, r2⟩ := o2.form; have O := Lib.hid (O.out.keep b2 (Nat.le_refl _)); have BB := Lib.hid (BB.out.trans (b2.mono (Nat.le_trans hz.out BS.out))); have BS := Lib.hid (Nat.le_trans BS.out b2.size); have S := Lib.hid r2; obtain ⟨x0, x1, x2, x3, x4, x5⟩ := BX.out w2 BB.out; clear o2 b2 r2)
        | (go_at_call 22; with_reducible refine Calls.mono (KS2.out _) ?_; rintro e w2 ⟨v2, rfl, o2, b2⟩; obtain ⟨A2, c2, rfl, hc2, r2⟩ := o2.form; have O := Lib.hid (O.out.keep b2 (Nat.le_refl _)); have BB := Lib.hid (BB.out.trans (b2.mono (Nat.le_trans hz.out BS.out))); have BS := Lib.hid (Nat.le_trans BS.out b2.size); have S := Lib.hid r2; obtain ⟨x0, x1, x2, x3, x4, x5⟩ := BX.out w2 BB.out; clear o2 b2 r2)
        | (go_at_call 25; with_reducible refine Calls.mono (KT1.out _) ?_; rintro e w2 ⟨v2, rfl, o2, b2⟩; obtain ⟨A2, c2, rfl, hc2, r2⟩ := o2.form; have O := Lib.hid (O.out.keep b2 (Nat.le_refl _)); have BB := Lib.hid (BB.out.trans (b2.mono (Nat.le_trans hz.out BS.out))); have BS := Lib.hid (Nat.le_trans BS.out b2.size); have S := Lib.hid r2; obtain ⟨x0, x1, x2, x3, x4, x5⟩ := BX.out w2 BB.out; clear o2 b2 r2)
        | (go_at_call 25; with_reducible refine Calls.mono (KT2.out _) ?_; rintro e w2 ⟨v2, rfl, o2, b2⟩; obtain ⟨A2, c2, rfl, hc2, r2⟩ := o2.form; have O := Lib.hid (O.out.keep b2 (Nat.le_refl _)); have BB := Lib.hid (BB.out.trans (b2.mono (Nat.le_trans hz.out BS.out))); have BS := Lib.hid (Nat.le_trans BS.out b2.size); have S := Lib.hid r2; obtain ⟨x0, x1, x2, x3, x4, x5⟩ := BX.out w2 BB.out; clear o2 b2 r2)
        | (at_builtin; refine wpList_append_B rfl (.tmp 17) (.tmp 21) rfl w1.heap.size _ _ rfl O.out _ _ _ (putSmall n) rfl rfl S.out (by have := l1.out; have := l2.out; have := l3.out; have := l4.out; simp only [List.length_append, List.length_cons, List.length_nil]; omega) BS.out ?_; intro v3 w3 o3 b3; have BB := Lib.hid (BB.out.trans (b3.mono hz.out)); have BS := Lib.hid (Nat.le_trans BS.out b3.size); have O := Lib.hid o3; obtain ⟨x0, x1, x2, x3, x4, x5⟩ := BX.out w3 BB.out; clear o3 b3)
        | (at_builtin; refine wpList_append_B rfl (.tmp 26) (.tmp 30) rfl w1.heap.size _ _ rfl O.out _ _ _ (putSmall m) rfl rfl S.out (by have := l1.out; have := l2.out; have := l3.out; have := l4.out; simp only [List.length_append, List.length_cons, List.length_nil]; omega) BS.out ?_; intro v3 w3 o3 b3; have BB := Lib.hid (BB.out.trans (b3.mono hz.out)); have BS := Lib.hid (Nat.le_trans BS.out b3.size); have O := Lib.hid o3; obtain ⟨x0, x1, x2, x3, x4, x5⟩ := BX.out w3 BB.out; clear o3 b3)
        | (at_builtin; refine wpList_append_B rfl (.tmp 35) (.tmp 38) rfl w1.heap.size _ _ rfl O.out _ _ _ (putText key.data.toList) rfl rfl S.out (by have := l1.out; have := l2.out; have := l3.out; have := l4.out; simp only [List.length_append, List.length_cons, List.length_nil]; omega) BS.out ?_; intro v3 w3 o3 b3; have BB := Lib.hid (BB.out.trans (b3.mono hz.out)); have BS := Lib.hid (Nat.le_trans BS.out b3.size); have O := Lib.hid o3; obtain ⟨x0, x1, x2, x3, x4, x5⟩ := BX.out w3 BB.out; clear o3 b3)
        | (at_builtin; refine wpList_append_B rfl (.tmp 40) (.tmp 44) rfl w1.heap.size _ _ rfl (O.out.alloc _) _ _ _ [wrMark gone] rfl rfl (HM.out _) (by have := l1.out; have := l2.out; have := l3.out; have := l4.out; simp only [List.length_append, List.length_cons, List.length_nil]; omega) (Nat.le_trans BS.out (Nat.le_of_lt (by simp))) ?_; intro v3 w3 o3 b3; have BB := Lib.hid ((BB.out.alloc (Nat.le_trans hz.out BS.out) _).trans (b3.mono hz.out)); have BS := Lib.hid (Nat.le_trans (Nat.le_trans BS.out (Nat.le_of_lt (by simp))) b3.size); have O := Lib.hid o3; obtain ⟨x0, x1, x2, x3, x4, x5⟩ := BX.out w3 BB.out; clear o3 b3)
        | (at_builtin; refine wpList_append_B rfl (.tmp 46) (.tmp 49) rfl w1.heap.size _ _ rfl O.out _ _ _ (putText val.data.toList) rfl rfl S.out (by have := l1.out; have := l2.out; have := l3.out; have := l4.out; simp only [List.length_append, List.length_cons, List.length_nil]; omega) BS.out ?_; intro v3 w3 o3 b3; have BB := Lib.hid (BB.out.trans (b3.mono hz.out)); have BS := Lib.hid (Nat.le_trans BS.out b3.size); have O := Lib.hid o3; obtain ⟨x0, x1, x2, x3, x4, x5⟩ := BX.out w3 BB.out; clear o3 b3)
        | fail)
      go_ret2
      refine ⟨_, rfl, ?_, B.out _ BB.out⟩
      have := O.out.lift (B := w.heap.size) (Nat.le_of_lt hzl)
      simpa using this)
  · rw [if_neg h0]
    have d0 : ((checkR r : Int) != 0) = true := by simp; omega
    generalize checkR r = E at *
    unfold Rec.v at *
    clear h0
    go_enter Try.func10, Try.ntmps10
    go_wp2_with fail
    refine (K0.out _).mono ?_
    rintro e w1 ⟨rfl, b1⟩
    go_wp2
    go_ret2
    exact ⟨_, rfl, OB.nil, B.out _ b1⟩
end Go.Proofs.Ytlohhbpncbnipaa
end
section
/- A record's bytes: the document's Put. -/
namespace Go.Proofs.Ytlohhbpncbnipaa
open Go.RowKit
set_option linter.unusedVariables false
set_option linter.unusedSimpArgs false
theorem wr_tests {kind : Nat} (h : kind ≤ 4) : (kind = 0 ∧ ((kind : Int) != 4) = true ∧ ((kind : Int) == 0) = true ∧ ((kind : Int) == 2) = false ∧ ((kind : Int) == 4) = false ∧ ((kind : Int) == 1) = false)
    ∨ (kind = 1 ∧ ((kind : Int) != 4) = true ∧ ((kind : Int) == 0) = false ∧ ((kind : Int) == 2) = false ∧ ((kind : Int) == 4) = false ∧ ((kind : Int) == 1) = true)
    ∨ (kind = 2 ∧ ((kind : Int) != 4) = true ∧ ((kind : Int) == 0) = false ∧ ((kind : Int) == 2) = true ∧ ((kind : Int) == 4) = false ∧ ((kind : Int) == 1) = false)
    ∨ (kind = 3 ∧ ((kind : Int) != 4) = true ∧ ((kind : Int) == 0) = false ∧ ((kind : Int) == 2) = false ∧ ((kind : Int) == 4) = false ∧ ((kind : Int) == 1) = false)
    ∨ (kind = 4 ∧ ((kind : Int) != 4) = false ∧ ((kind : Int) == 0) = false ∧ ((kind : Int) == 2) = false ∧ ((kind : Int) == 4) = true ∧ ((kind : Int) == 1) = false) := by
  have hk : kind = 0 ∨ kind = 1 ∨ kind = 2 ∨ kind = 3 ∨ kind = 4 := by omega
  rcases hk with rfl | rfl | rfl | rfl | rfl <;> simp
set_option maxHeartbeats 4000000 in
set_option maxRecDepth 100000 in
theorem refPut_any (r : Rec) (w : World) : Calls Try.prog 11 #[r.v] w fun e w' => ∃ v', e = .returned (.tuple #[v', .int .i64 (checkR r : Int)]) ∧ OB w.heap.size w' v' (if checkR r = 0 then putR r else []) ∧ Below w.heap.size w w' := by
  have BX := Lib.hid (fun W h => bxRec w (.int .u8 (r.kind : Int)) (.int .i64 r.txn) (.int .i64 r.ts) (.string r.key) (.bool r.gone) (.string r.val) 23 (W := W) h)
  have B := Lib.hid (fun W h => belowBox (w := w) (W := W) (.cells #[.int .u8 (r.kind : Int), .int .i64 r.txn, .int .i64 r.ts, .string r.key, .bool r.gone, .string r.val] 23) h)
  have K0 := Lib.hid (fun W => refCheck_any r W)
  have hlo := heap_size_alloc w (.cells #[.int .u8 (r.kind : Int), .int .i64 r.txn, .int .i64 r.ts, .string r.key, .bool r.gone, .string r.val] 23)
  by_cases h0 : checkR r = 0
  · rw [if_pos h0]
    obtain ⟨c1, c2, c3, ⟨t1, t2⟩, ⟨s1, s2⟩, c4, c5⟩ := checkR_zero h0
    have K0 := Lib.hid (fun W => (show Calls Try.prog 13 #[r.v] W (fun e w' => e = .returned (.int .i64 0) ∧ Below W.heap.size W w') from by have h := K0.out W; rw [h0] at h; exact h))
    rw [h0]
    unfold putR Rec.v at *
    obtain ⟨kind, txn, ts, key, gone, val⟩ := r
    dsimp only at *
    obtain ⟨n, rfl⟩ := Int.eq_ofNat_of_zero_le t1
    obtain ⟨m, rfl⟩ := Int.eq_ofNat_of_zero_le s1
    have wn : IntKind.u64.wrap (n : Int) = (n : Int) := by rw [IntKind.wrap_u64]; omega
    have wm : IntKind.u64.wrap (m : Int) = (m : Int) := by rw [IntKind.wrap_u64]; omega
    have KS1 := Lib.hid (fun W => refPutSmall_any n W (by omega))
    have KS2 := Lib.hid (fun W => refPutSmall_any m W (by omega))
    have KT1 := Lib.hid (fun W => refPutText_any key W (by omega))
    have KT2 := Lib.hid (fun W => refPutText_any val W (by omega))
    have l1 := Lib.hid (putSmall_le n (by omega))
    have l2 := Lib.hid (putSmall_le m (by omega))
    have l3 := Lib.hid (putText_ba key 16 c4)
    have l4 := Lib.hid (putText_ba val 24 c5)
    have HM1 := Lib.hid (fun W => RB.one W 1 1 rfl)
    have HM0 := Lib.hid (fun W => RB.one W 0 0 rfl)
    have H5 := Lib.hid (fun W base (hb : base ≤ W.heap.size) => OB.byte W base kind (by omega) hb)
    simp only [Int.toNat_natCast]
    have hk := wr_tests c1
    clear h0 c1 c2 c3 c4 c5 t1 t2 s1 s2
    rcases hk with ⟨hk, t4, t0, t2, t5, t1⟩ | ⟨hk, t4, t0, t2, t5, t1⟩ | ⟨hk, t4, t0, t2, t5, t1⟩ | ⟨hk, t4, t0, t2, t5, t1⟩ | ⟨hk, t4, t0, t2, t5, t1⟩ <;> cases gone
    all_goals (
      have HK := Lib.hid hk
      clear hk
      go_enter Try.func11, Try.ntmps11
      go_wp2_with fail
      refine (K0.out _).mono ?_
      rintro e w1 ⟨rfl, b1⟩
      obtain ⟨x0, x1, x2, x3, x4, x5⟩ := BX.out w1 b1
      have hz := Lib.hid b1.size
      have hzl : w.heap.size < w1.heap.size := by have := b1.size; omega
      have O := Lib.hid (H5.out w1 w1.heap.size (Nat.le_refl _))
      have BS := Lib.hid (show w1.heap.size ≤ (w1.alloc (.cells #[.int .u8 (kind : Int)] 5)).heap.size from by simp)
      have BB := Lib.hid (b1.alloc hz.out (.cells #[.int .u8 (kind : Int)] 5))
      have hlo' := Lib.hid hlo
      clear b1 hlo
      obtain ⟨y0, y1, y2, y3, y4, y5⟩ := BX.out _ BB.out
      go_wp2_with (first
        | (go_at_call 27; with_reducible refine Calls.mono (KS1.out _) ?_; rintro e w2 ⟨v2, rfl, o2, b2⟩; obtain ⟨A2, c2, rfl, hc2, r2⟩ := o2.form; have O := Lib.hid (O.out.keep b2 (Nat.le_refl _)); have BB := Lib.hid (BB.out.trans (b2.mono (Nat.le_trans hz.out BS.out))); have BS := Lib.hid (Nat.le_trans BS.out b2.size); have S := Lib.hid r2; obtain ⟨x0, x1, x2, x3, x4, x5⟩ := BX.out w2 BB.out; clear o2 b2 r2)
        | (go_at_call 27; with_reducible refine Calls.mono (KS2.out _) ?_; rintro e w2 ⟨v2, rfl, o2, b2⟩; obtain ⟨A2, c2, rfl, hc2, r2⟩ := o2.form; have O := Lib.hid (O.out.keep b2 (Nat.le_refl _)); have BB := Lib.hid (BB.out.trans (b2.mono (Nat.le_trans hz.out BS.out))); have BS := Lib.hid (Nat.le_trans BS.out b2.size); have S := Lib.hid r2; obtain ⟨x0, x1, x2, x3, x4, x5⟩ := BX.out w2 BB.out; clear o2 b2 r2)
        | (go_at_call 28; with_reducible refine Calls.mono (KT1.out _) ?_; rintro e w2 ⟨v2, rfl, o2, b2⟩; obtain ⟨A2, c2, rfl, hc2, r2⟩ := o2.form; have O := Lib.hid (O.out.keep b2 (Nat.le_refl _)); have BB := Lib.hid (BB.out.trans (b2.mono (Nat.le_trans hz.out BS.out))); have BS := Lib.hid (Nat.le_trans BS.out b2.size); have S := Lib.hid r2; obtain ⟨x0, x1, x2, x3, x4, x5⟩ := BX.out w2 BB.out; clear o2 b2 r2)
        | (go_at_call 28; with_reducible refine Calls.mono (KT2.out _) ?_; rintro e w2 ⟨v2, rfl, o2, b2⟩; obtain ⟨A2, c2, rfl, hc2, r2⟩ := o2.form; have O := Lib.hid (O.out.keep b2 (Nat.le_refl _)); have BB := Lib.hid (BB.out.trans (b2.mono (Nat.le_trans hz.out BS.out))); have BS := Lib.hid (Nat.le_trans BS.out b2.size); have S := Lib.hid r2; obtain ⟨x0, x1, x2, x3, x4, x5⟩ := BX.out w2 BB.out; clear o2 b2 r2)
        | (at_builtin; refine wpList_append_B rfl (.tmp 17) (.tmp 21) rfl w1.heap.size _ _ rfl O.out _ _ _ (putSmall n) rfl rfl S.out (by have := l1.out; have := l2.out; have := l3.out; have := l4.out; simp only [List.length_append, List.length_cons, List.length_nil]; omega) BS.out ?_; intro v3 w3 o3 b3; have BB := Lib.hid (BB.out.trans (b3.mono hz.out)); have BS := Lib.hid (Nat.le_trans BS.out b3.size); have O := Lib.hid o3; obtain ⟨x0, x1, x2, x3, x4, x5⟩ := BX.out w3 BB.out; clear o3 b3)
        | (at_builtin; refine wpList_append_B rfl (.tmp 29) (.tmp 33) rfl w1.heap.size _ _ rfl O.out _ _ _ (putSmall m) rfl rfl S.out (by have := l1.out; have := l2.out; have := l3.out; have := l4.out; simp only [List.length_append, List.length_cons, List.length_nil]; omega) BS.out ?_; intro v3 w3 o3 b3; have BB := Lib.hid (BB.out.trans (b3.mono hz.out)); have BS := Lib.hid (Nat.le_trans BS.out b3.size); have O := Lib.hid o3; obtain ⟨x0, x1, x2, x3, x4, x5⟩ := BX.out w3 BB.out; clear o3 b3)
        | (at_builtin; refine wpList_append_B rfl (.tmp 37) (.tmp 40) rfl w1.heap.size _ _ rfl O.out _ _ _ (putText key.data.toList) rfl rfl S.out (by have := l1.out; have := l2.out; have := l3.out; have := l4.out; simp only [List.length_append, List.length_cons, List.length_nil]; omega) BS.out ?_; intro v3 w3 o3 b3; have BB := Lib.hid (BB.out.trans (b3.mono hz.out)); have BS := Lib.hid (Nat.le_trans BS.out b3.size); have O := Lib.hid o3; obtain ⟨x0, x1, x2, x3, x4, x5⟩ := BX.out w3 BB.out; clear o3 b3)
        | (at_builtin; refine wpList_append_B rfl (.tmp 44) (.tmp 45) rfl w1.heap.size _ _ rfl (O.out.alloc _) _ _ _ [1] rfl rfl (HM1.out _) (by have := l1.out; have := l2.out; have := l3.out; have := l4.out; simp only [List.length_append, List.length_cons, List.length_nil]; omega) (Nat.le_trans BS.out (Nat.le_of_lt (by simp))) ?_; intro v3 w3 o3 b3; have BB := Lib.hid ((BB.out.alloc (Nat.le_trans hz.out BS.out) _).trans (b3.mono hz.out)); have BS := Lib.hid (Nat.le_trans (Nat.le_trans BS.out (Nat.le_of_lt (by simp))) b3.size); have O := Lib.hid o3; obtain ⟨x0, x1, x2, x3, x4, x5⟩ := BX.out w3 BB.out; clear o3 b3)
        | (at_builtin; refine wpList_append_B rfl (.tmp 47) (.tmp 48) rfl w1.heap.size _ _ rfl (O.out.alloc _) _ _ _ [0] rfl rfl (HM0.out _) (by have := l1.out; have := l2.out; have := l3.out; have := l4.out; simp only [List.length_append, List.length_cons, List.length_nil]; omega) (Nat.le_trans BS.out (Nat.le_of_lt (by simp))) ?_; intro v3 w3 o3 b3; have BB := Lib.hid ((BB.out.alloc (Nat.le_trans hz.out BS.out) _).trans (b3.mono hz.out)); have BS := Lib.hid (Nat.le_trans (Nat.le_trans BS.out (Nat.le_of_lt (by simp))) b3.size); have O := Lib.hid o3; obtain ⟨x0, x1, x2, x3, x4, x5⟩ := BX.out w3 BB.out; clear o3 b3)
        | (at_builtin; refine wpList_append_B rfl (.tmp 50) (.tmp 53) rfl w1.heap.size _ _ rfl O.out _ _ _ (putText val.data.toList) rfl rfl S.out (by have := l1.out; have := l2.out; have := l3.out; have := l4.out; simp only [List.length_append, List.length_cons, List.length_nil]; omega) BS.out ?_; intro v3 w3 o3 b3; have BB := Lib.hid (BB.out.trans (b3.mono hz.out)); have BS := Lib.hid (Nat.le_trans BS.out b3.size); have O := Lib.hid o3; obtain ⟨x0, x1, x2, x3, x4, x5⟩ := BX.out w3 BB.out; clear o3 b3)
        | fail)
      go_ret2
      refine ⟨_, rfl, ?_, B.out _ BB.out⟩
      have := O.out.lift (B := w.heap.size) (Nat.le_of_lt hzl)
      rw [HK.out]
      rw [HK.out] at this
      simpa [layR, wrHasTxn, wrHasTS, wrHasPair, wrMark] using this)
  · rw [if_neg h0]
    have d0 : ((checkR r : Int) != 0) = true := by simp; omega
    generalize checkR r = E at *
    unfold Rec.v at *
    clear h0
    go_enter Try.func11, Try.ntmps11
    go_wp2_with fail
    refine (K0.out _).mono ?_
    rintro e w1 ⟨rfl, b1⟩
    go_wp2
    go_ret2
    exact ⟨_, rfl, OB.nil, B.out _ b1⟩
end Go.Proofs.Ytlohhbpncbnipaa
end
