/- Joined: QY Qm QZ Qa Qf Qg. -/
import Derived.Test.YtegjeijiekggdaaGreatDoorM22
import Derived.Test.YtegjeijiekggdaaGreatDoorRows
import Derived.ProofKit
import Derived.LaidMore
import Derived.OpenShut
import Derived.Stop.Joined
import Derived.ChangeOld
import Derived.Below
import Derived.Lib.SmallJoins
import Derived.Deep.DeepMust
section
/- The package bitmap: Get. -/
namespace Go.Proofs.YtegjeijiekggdaaGreatDoor
open Go.RowKit
set_option linter.unusedVariables false
set_option linter.unusedSimpArgs false
/-- What is read run by run. -/
def getF (s : Nat) : Nat → List UInt8 → Nat → Nat → Bool → List UInt64 → Option (List UInt64 × List UInt8 × Nat)
  | 0, _, _, _, _, _ => none
  | k + 1, l, f, a, on, L => if a < s then (if s - a < rdV l f ∨ (rdV l f = 0 ∧ ¬(a = 0 ∧ on = false)) then none else getF s k (rdL l f) (rdF l f) (a + rdV l f) (!on) (if on = true then fillL L a (rdV l f) else L)) else some (L, l, f)
def getM (s a : Nat) (on : Bool) : Nat := (s - a) + (if a = 0 ∧ on = false then 1 else 0) + 1
def getE2 : Option (List UInt64 × List UInt8 × Nat) → Option (List UInt64)
  | some (L, l, f) => if rdD l f = 0 then some L else none
  | none => none
def getR (b : List UInt8) : Option (Nat × List UInt64) := if rdV b 0 ≤ 4096 then (getE2 (getF (rdV b 0) (rdV b 0 + 2) (rdL b 0) (rdF b 0) 0 false (newL (rdV b 0 : Nat)))).map fun L => (rdV b 0, L) else none
def getS (b : List UInt8) : Nat := ((getR b).map (·.1)).getD 0
def getL (b : List UInt8) : List UInt64 := ((getR b).map (·.2)).getD []
def getE (b : List UInt8) : Nat := if (getR b).isSome = true then 0 else 4
theorem getR_none {b : List UInt8} (h : getR b = none) : getS b = 0 ∧ getL b = [] ∧ getE b = 4 := by
  unfold getS getL getE
  rw [h]
  exact ⟨rfl, rfl, rfl⟩
theorem getR_some {b : List UInt8} {s : Nat} {L : List UInt64} (h : getR b = some (s, L)) : getS b = s ∧ getL b = L ∧ getE b = 0 := by
  unfold getS getL getE
  rw [h]
  exact ⟨rfl, rfl, rfl⟩
theorem rdV_le (l : List UInt8) (f : Nat) : rdV l f ≤ 1099511627776 := by
  unfold rdV
  split
  · rename_i h; exact h.2.2
  · omega
theorem rdL_len (l : List UInt8) (f : Nat) : (rdL l f).length ≤ l.length := by
  unfold rdL
  split
  · simp
  · exact Nat.le_refl _
theorem BxQ.only {base : Nat} {w W W' : World} {q g : Nat} {s : Int} {v : Value} {L : List UInt64} {t : TypeId} (h : BxQ base w W q s v L t) (ho : OnlyB g W W') (hb : base ≤ g) (hq : q ≠ g) (hv : v.ownBlock ≠ some g) : BxQ base w W' q s v L t := by
  refine ⟨(ho.block q hq).trans h.at_, h.ge, ?_, h.ne, h.bel.trans (ho.below hb)⟩
  have h1 := h.own
  unfold OQ at h1 ⊢
  refine ⟨h1.1, ?_⟩
  rcases h1.2 with h2 | ⟨gv, cap, cur, e, hb', hh, r⟩
  · exact .inl h2
  · refine .inr ⟨gv, cap, cur, e, hb', ?_, r⟩
    rw [ho.block gv (fun e2 => hv (by rw [e, e2]; rfl))]
    exact hh
theorem BxQ.filled {base : Nat} {w W W' : World} {q gv : Nat} {s : Int} {n c : Nat} {L L' : List UInt64} {t : TypeId} (h : BxQ base w W q s (.slice (some ⟨gv, 0, none⟩) n c) L t) (ho : OnlyB gv W W') (h2 : OQ base W' (.slice (some ⟨gv, 0, none⟩) n c) L') : BxQ base w W' q s (.slice (some ⟨gv, 0, none⟩) n c) L' t := by
  have hne : q ≠ gv := fun e => h.ne (by rw [e]; rfl)
  refine ⟨(ho.block q hne).trans h.at_, h.ge, h2, h.ne, h.bel.trans (ho.below ?_)⟩
  exact (World.ownsRow.lt h2 gv rfl).1
theorem resCells {b : Nat} {W0 V : World} {x0 x1 : Value} {t : TypeId} (hx : W0.heap[b]? = some (.cells #[x0, x1] t (0, 0))) (h : Below (b + 1) W0 V) : V.cell? ⟨b, 0, none⟩ = some x0 ∧ V.cell? ⟨b, 1, none⟩ = some x1 ∧ V.frozen? ⟨b, 0, none⟩ = false ∧ V.frozen? ⟨b, 1, none⟩ = false := by
  have hx2 := (h.block b (Nat.lt_succ_self _)).trans hx
  exact ⟨(cell_of_row V _ 0 _ _ _ hx2).trans rfl, (cell_of_row V _ 1 _ _ _ hx2).trans rfl, by simp [World.frozen?, hx2], by simp [World.frozen?, hx2]⟩
end Go.Proofs.YtegjeijiekggdaaGreatDoor
end
section
/- Numbers of few bytes, read back (plain). -/
namespace Go.Proofs.YtegjeijiekggdaaGreatDoor
set_option linter.unusedVariables false
theorem fold_be (l : List UInt8) (a : Nat) : l.foldl (fun a (x : UInt8) => a * 256 + x.toNat) a = a * 256 ^ l.length + be l := by
  induction l generalizing a with
  | nil => simp [be]
  | cons x l ih =>
    simp only [List.foldl_cons, List.length_cons, be]
    rw [ih, ih (0 * 256 + x.toNat), Nat.pow_succ, Nat.add_mul, Nat.zero_mul, Nat.zero_add, Nat.mul_assoc, Nat.mul_comm 256]
    omega
theorem be_cons (x : UInt8) (l : List UInt8) : be (x :: l) = x.toNat * 256 ^ l.length + be l := by
  have := fold_be l x.toNat
  simpa [be] using this
theorem be_hi (k n : Nat) : be (hi k n) = n % 256 ^ k := by
  induction k with
  | zero => simp [hi, be, Nat.mod_one]
  | succ k ih =>
    rw [hi, be_cons, hi_len, ih, ofNat_toNat, Nat.mod_pow_succ, Nat.mul_comm]
    omega
theorem wid_lt (n : Nat) : n < 256 ^ wid n := by
  induction n using Nat.strongRecOn with
  | _ n ih =>
    rcases Nat.eq_zero_or_pos n with rfl | h0
    · rw [wid_zero]; decide
    · rw [wid_pos h0, Nat.pow_succ]
      have := ih (n / 256) (by omega)
      omega
theorem wid_ge (n : Nat) (h : 0 < n) : 256 ^ (wid n - 1) ≤ n := by
  induction n using Nat.strongRecOn with
  | _ n ih =>
    rw [wid_pos h, Nat.add_sub_cancel]
    rcases Nat.eq_zero_or_pos (n / 256) with h0 | h0
    · rw [h0, wid_zero, Nat.pow_zero]; omega
    · have h1 := ih (n / 256) (by omega) h0
      have h2 : 0 < wid (n / 256) := by rw [wid_pos h0]; omega
      have h3 : 256 ^ wid (n / 256) = 256 ^ (wid (n / 256) - 1) * 256 := by rw [← Nat.pow_succ]; congr 1; omega
      omega
theorem putSmall_size (n : Nat) : (putSmall n).length = wid n + 1 := by simp [putSmall, hi_len]
theorem getSmall_put (n : Nat) (r : List UInt8) (hn : n < 18446744073709551616) : getSmall (putSmall n ++ r) = (n, (putSmall n).length, 0) := by
  have h8 := wid_le8 n hn
  rw [putSmall_size]
  unfold putSmall
  rw [List.cons_append, getSmall_cons, ofNat_toNat, Nat.mod_eq_of_lt (by omega), if_neg (by omega), if_neg (by simp [hi_len]), if_neg]
  · rw [List.take_append_of_le_length (by rw [hi_len]; omega), List.take_of_length_le (by rw [hi_len]; omega), be_hi, Nat.mod_eq_of_lt (wid_lt n)]
    simp
    omega
  · rintro ⟨h0, h⟩
    have hn0 : 0 < n := by
      rcases Nat.eq_zero_or_pos n with rfl | hn0
      · rw [wid_zero] at h0; omega
      · exact hn0
    obtain ⟨k, hk⟩ : ∃ k, wid n = k + 1 := ⟨wid n - 1, by omega⟩
    rw [hk, hi] at h
    simp only [List.cons_append, List.head?_cons, Option.some.injEq] at h
    have h1 := wid_ge n hn0
    have h2 := wid_lt n
    rw [hk, Nat.add_sub_cancel] at h1
    rw [hk, Nat.pow_succ] at h2
    have h3 : 1 ≤ n / 256 ^ k := by
      rw [Nat.le_div_iff_mul_le (Nat.pow_pos (by omega))]; omega
    have h4 : n / 256 ^ k < 256 := Nat.div_lt_of_lt_mul (by omega)
    have h5 := congrArg UInt8.toNat h
    rw [ofNat_toNat] at h5
    simp at h5
    omega
theorem getSmall_cut (n : Nat) (hn : n < 18446744073709551616) : (getSmall ((putSmall n).take ((putSmall n).length - 1))).2.2 = 3 := by
  have h8 := wid_le8 n hn
  rw [putSmall_size, Nat.add_sub_cancel]
  unfold putSmall
  rcases Nat.eq_zero_or_pos (wid n) with h0 | h0
  · rw [h0]; rfl
  · obtain ⟨k, hk⟩ : ∃ k, wid n = k + 1 := ⟨wid n - 1, by omega⟩
    rw [hk, List.take_succ_cons, getSmall_cons, ofNat_toNat, Nat.mod_eq_of_lt (by omega), if_neg (by omega), if_pos (by simp [hi_len])]
theorem be_inj : ∀ {a b : List UInt8}, a.length = b.length → be a = be b → a = b
  | [], [], _, _ => rfl
  | [], _ :: _, h, _ => by simp at h
  | _ :: _, [], h, _ => by simp at h
  | x :: a, y :: b, h, e => by
    have hl : a.length = b.length := by simpa using h
    rw [be_cons, be_cons, hl] at e
    have h1 := be_lt a
    have h2 := be_lt b
    rw [hl] at h1
    have hp : 0 < 256 ^ b.length := Nat.pow_pos (by omega)
    have hx : x.toNat = y.toNat := by
      have e1 := congrArg (fun z => z / 256 ^ b.length) e
      simp only [Nat.mul_comm _ (256 ^ b.length), Nat.mul_add_div hp, Nat.div_eq_of_lt h1, Nat.div_eq_of_lt h2, Nat.add_zero] at e1
      exact e1
    rw [hx] at e
    have hb : be a = be b := by omega
    rw [UInt8.toNat_inj.1 hx, be_inj hl hb]
theorem wid_is {v k : Nat} (h1 : v < 256 ^ k) (h2 : 0 < k → 256 ^ (k - 1) ≤ v) : wid v = k := by
  have h3 := wid_le k v h1
  by_cases hk : wid v = k
  · exact hk
  · have h4 := h2 (by omega)
    have h5 := wid_lt v
    have h6 : 256 ^ wid v ≤ 256 ^ (k - 1) := Nat.pow_le_pow_right (by omega) (by omega)
    omega
/-- Bytes that are read as a number begin with that number's bytes. -/
theorem getSmall_inv {l : List UInt8} (h : (getSmall l).2.2 = 0) : l = putSmall (getSmall l).1 ++ l.drop (getSmall l).2.1 := by
  cases l with
  | nil => simp [getSmall] at h
  | cons x r =>
    rw [getSmall_cons] at h ⊢
    by_cases h8 : 8 < x.toNat
    · rw [if_pos h8] at h; simp at h
    · rw [if_neg h8] at h ⊢
      by_cases hl : r.length < x.toNat
      · rw [if_pos hl] at h; simp at h
      · rw [if_neg hl] at h ⊢
        by_cases hz : 0 < x.toNat ∧ r.head? = some 0
        · rw [if_pos hz] at h; simp at h
        · rw [if_neg hz]
          have htl : (r.take x.toNat).length = x.toNat := by rw [List.length_take]; omega
          have hw : wid (be (r.take x.toNat)) = x.toNat := by
            refine wid_is (by have := be_lt (r.take x.toNat); rw [htl] at this; exact this) fun hx => ?_
            cases r with
            | nil => simp at htl; omega
            | cons y r =>
              have hy : y.toNat ≠ 0 := by
                intro e
                apply hz
                refine ⟨hx, ?_⟩
                rw [List.head?_cons, show y = 0 from UInt8.toNat_inj.1 e]
              obtain ⟨k, hk⟩ : ∃ k, x.toNat = k + 1 := ⟨x.toNat - 1, by omega⟩
              rw [hk] at htl ⊢
              rw [List.take_succ_cons, be_cons]
              have hlk : (r.take k).length = k := by simpa using htl
              rw [hlk, show k + 1 - 1 = k by omega]
              have : 1 * 256 ^ k ≤ y.toNat * 256 ^ k := Nat.mul_le_mul_right _ (by omega)
              omega
          show x :: r = putSmall (be (r.take x.toNat)) ++ (x :: r).drop (1 + x.toNat)
          unfold putSmall
          rw [hw]
          have hh : hi x.toNat (be (r.take x.toNat)) = r.take x.toNat := by
            apply be_inj (by rw [hi_len, htl])
            rw [be_hi]
            apply Nat.mod_eq_of_lt
            have := be_lt (r.take x.toNat)
            rw [htl] at this
            exact this
          rw [hh, Nat.add_comm 1, List.drop_succ_cons]
          simp
theorem rd_put {n : Nat} (h : n ≤ 1099511627776) (t : List UInt8) : rdV (putSmall n ++ t) 0 = n ∧ rdL (putSmall n ++ t) 0 = t ∧ rdF (putSmall n ++ t) 0 = 0 := by
  have e := getSmall_put n t (by omega)
  unfold rdV rdL rdF
  rw [e]
  rw [if_pos ⟨rfl, rfl, h⟩, if_pos ⟨rfl, rfl, h⟩, if_pos rfl, if_pos rfl, if_pos h]
  exact ⟨rfl, by simp, rfl⟩
theorem rd_inv {l : List UInt8} {f : Nat} (h : rdF l f = 0) : f = 0 ∧ l = putSmall (rdV l f) ++ rdL l f ∧ rdV l f ≤ 1099511627776 := by
  unfold rdF at h
  by_cases hf : f = 0
  · rw [if_pos hf] at h
    by_cases he : (getSmall l).2.2 = 0
    · rw [if_pos he] at h
      by_cases hv : (getSmall l).1 ≤ 1099511627776
      · unfold rdV rdL
        rw [if_pos ⟨hf, he, hv⟩, if_pos ⟨hf, he, hv⟩]
        exact ⟨hf, getSmall_inv he, hv⟩
      · rw [if_neg hv] at h; omega
    · rw [if_neg he] at h; exact absurd h he
  · rw [if_neg hf] at h; exact absurd h hf
end Go.Proofs.YtegjeijiekggdaaGreatDoor
end
section
/- The statements' function awake of layer 5: it answers true. -/
namespace Go.Proofs.YtegjeijiekggdaaGreatDoor
open Go.RowKit
set_option linter.unusedVariables false
set_option linter.unusedSimpArgs false
theorem wid_one {n : Nat} (h0 : 0 < n) (h : n < 256) : wid n = 1 := by rw [wid_pos h0, show n / 256 = 0 by omega, wid_zero]
theorem putSmall_one {n : Nat} (h0 : 0 < n) (h : n < 256) : putSmall n = [1, UInt8.ofNat n] := by
  unfold putSmall
  rw [wid_one h0 h]
  simp [hi]
theorem z_new : newS 5 = 5 ∧ newL 5 = [0] ∧ newE 5 = 0 := by decide +kernel
theorem z_set1 : setL 5 [0] 2 true = [4] := by decide +kernel
theorem z_set2 : setL 5 [4] 3 true = [12] := by decide +kernel
theorem z_chk : chk 5 [12] = 0 := by decide +kernel
theorem z_runs : runs 5 [12] = [2, 2, 1] := by decide +kernel
theorem z_ok : okB 5 [12] = true := by decide +kernel
theorem z_put : putB 5 [12] = [1, 5, 1, 2, 1, 2, 1, 1] := by
  unfold putB
  rw [if_pos z_ok, show (5 : Int).toNat = 5 from rfl, z_runs, putSmall_one (by omega) (by omega)]
  show [1, UInt8.ofNat 5] ++ (putSmall 2 ++ (putSmall 2 ++ (putSmall 1 ++ []))) = _
  rw [putSmall_one (by omega) (by omega), putSmall_one (n := 1) (by omega) (by omega)]
  rfl
theorem z_get : getR [1, 5, 1, 2, 1, 2, 1, 1] = some (5, [12]) := by decide +kernel
theorem z_sel : selN 5 [12] 1 = 3 ∧ selB 5 [12] 1 = true := by decide +kernel
theorem z_next : nextN 5 [12] 2 false = 4 ∧ nextB 5 [12] 2 false = true := by decide +kernel
theorem z_same : sameB 5 5 [12] [12] = true ∧ sameB 5 5 [0] [12] = false := by decide +kernel
theorem z_rank : rankB 5 [12] 4 = 2 := by decide +kernel
theorem z_has : hasB 5 [12] 2 = true ∧ hasB 5 [12] 1 = false := by decide +kernel
theorem z_both : mixS 5 5 [0] [12] = 5 ∧ mixL true 5 5 [0] [12] = [0] ∧ mixL false 5 5 [0] [12] = [12] := by decide +kernel
theorem z_rank2 : rankB 5 [0] 5 = 0 ∧ rankB 5 [12] 5 = 2 := by decide +kernel
theorem OQ.as {base : Nat} {w : World} {v : Value} {l : List UInt64} (h : OQ base w v l) {n : Nat} (hn : l.length = n) : ∃ A c, v = .slice A n c ∧ n ≤ c ∧ RQ w A l := by
  subst hn
  exact h.form
theorem OB.as {base : Nat} {w : World} {v : Value} {l : List UInt8} (h : OB base w v l) {n : Nat} (hn : l.length = n) : ∃ A c, v = .slice A n c ∧ n ≤ c ∧ RB w A l := by
  subst hn
  exact h.form
theorem zNew (W : World) : Calls Tryz.prog 58 #[.int .i64 5] W fun e w' => ∃ A c, e = .returned (.tuple #[.agg #[.int .i64 5, .slice A 1 c], .int .i64 0]) ∧ 1 ≤ c ∧ RQ w' A [0] ∧ Below W.heap.size W w' :=
  (qNew_any 5 W).mono fun e w' ⟨v, he, ho, hb⟩ => by
    rw [z_new.1, z_new.2.2] at he
    rw [z_new.2.1] at ho
    obtain ⟨A, c, rfl, hc, hr⟩ := ho.as (n := 1) rfl
    exact ⟨A, c, he, hc, hr, hb⟩
theorem zSet (A : Option Addr) (c : Nat) (L M : List UInt64) (n : Int) (W : World) (hL : L.length = 1) (hM : M.length = 1) (hs : setL 5 L n true = M) (hr : RQ W A L) : Calls Tryz.prog 63 #[.agg #[.int .i64 5, .slice A 1 c], .int .i64 n, .bool true] W fun e w' => ∃ A c, e = .returned (.agg #[.int .i64 5, .slice A 1 c]) ∧ 1 ≤ c ∧ RQ w' A M ∧ Below W.heap.size W w' := by
  have h := set_any 5 A c L n true W (by omega) hr
  rw [hL] at h
  refine h.mono ?_
  rintro e w' ⟨v, he, ho, hb⟩
  rw [hs] at ho
  obtain ⟨A, c, rfl, hc, hr⟩ := ho.as hM
  exact ⟨A, c, he, hc, hr, hb⟩
theorem zMix (all : Bool) (f : FuncId) (A B : Option Addr) (c d : Nat) (L : List UInt64) (W : World) (hL : L.length = 1) (hm : mixL all 5 5 [0] [12] = L) (h : Calls Tryz.prog f #[.agg #[.int .i64 5, .slice A ([0] : List UInt64).length c], .agg #[.int .i64 5, .slice B ([12] : List UInt64).length d]] W fun e w' => ∃ v, e = .returned (.agg #[.int .i64 (mixS 5 5 [0] [12]), v]) ∧ OQ W.heap.size w' v (mixL all 5 5 [0] [12]) ∧ Below W.heap.size W w') :
    Calls Tryz.prog f #[.agg #[.int .i64 5, .slice A 1 c], .agg #[.int .i64 5, .slice B 1 d]] W fun e w' => ∃ A c, e = .returned (.agg #[.int .i64 5, .slice A 1 c]) ∧ 1 ≤ c ∧ RQ w' A L ∧ Below W.heap.size W w' := by
  refine h.mono ?_
  rintro e w' ⟨v, he, ho, hb⟩
  rw [z_both.1] at he
  rw [hm] at ho
  obtain ⟨A, c, rfl, hc, hr⟩ := ho.as hL
  exact ⟨A, c, he, hc, hr, hb⟩
/-- What awake has at hand: the map m at block p, x at block q, y at block r, and the table. -/
structure AwS (w W : World) (p q r : Nat) (Am Ax Ay : Option Addr) (cm cx cy : Nat) : Prop where
  bel : Below w.heap.size w W
  p0 : W.cell? ⟨p, 0, none⟩ = some (.int .i64 5)
  p1 : W.cell? ⟨p, 1, none⟩ = some (.slice Am 1 cm)
  q0 : W.cell? ⟨q, 0, none⟩ = some (.int .i64 5)
  q1 : W.cell? ⟨q, 1, none⟩ = some (.slice Ax 1 cx)
  r0 : W.cell? ⟨r, 0, none⟩ = some (.int .i64 5)
  r1 : W.cell? ⟨r, 1, none⟩ = some (.slice Ay 1 cy)
  rm : RQ W Am [0]
  rx : RQ W Ax [12]
  ry : RQ W Ay [12]
  tab : TabAt 0 Lib.deBruijn64tab W
theorem AwS.later {w W V : World} {p q r : Nat} {Am Ax Ay : Option Addr} {cm cx cy : Nat} (h : AwS w W p q r Am Ax Ay cm cx cy) (hb : Below W.heap.size W V) : AwS w V p q r Am Ax Ay cm cx cy := by
  have k : ∀ {a : Addr} {v : Value}, W.cell? a = some v → V.cell? a = some v := fun hc => (hb.cell (lt_of_cell hc)).trans hc
  exact ⟨h.bel.trans (hb.mono h.bel.size), k h.p0, k h.p1, k h.q0, k h.q1, k h.r0, k h.r1, h.rm.below hb, h.rx.below hb, h.ry.below hb, TabAt.below h.tab hb (TabAt.pos h.tab)⟩
end Go.Proofs.YtegjeijiekggdaaGreatDoor
end
section
/- The statements' function awake of layer 5, the walk. -/
namespace Go.Proofs.YtegjeijiekggdaaGreatDoor
open Go.RowKit
set_option linter.unusedVariables false
set_option linter.unusedSimpArgs false
theorem s8 : str [1, 5, 1, 2, 1, 2, 1, 1] = ⟨#[1, 5, 1, 2, 1, 2, 1, 1]⟩ := rfl
end Go.Proofs.YtegjeijiekggdaaGreatDoor
end
section
/- What the statements of layer 5 begin with: the table that is laid, the map that comes in. -/
namespace Go.Proofs.YtegjeijiekggdaaGreatDoor
open Go.ChangeShapes Go.WideShapes Go.ChangeAt Go.RowKit
set_option linter.unusedVariables false
theorem f_own : ownKnob Tryz.prog.godebug = none := by kernel_rfl
theorem f_laidOut : laidOutB Tryz.prog = true := by kernel_rfl
theorem gTab : Tryz.prog.globalNamed "math/bits.deBruijn64tab" = some 0 := by kernel_rfl
theorem tTab : (Tryz.prog.globals[0]?).map (·.type) = some 235 := by kernel_rfl
def laidT : List (String × DataW Unit) := [("math/bits.deBruijn64tab", Rows.laid_math_bits_deBruijn64tab)]
theorem c_tab : Tryz.prog.cellsOf 235 = 64 := by kernel_rfl
theorem c_u8 : Tryz.prog.cellsOf 5 = 1 := by kernel_rfl
theorem c_u64 : Tryz.prog.cellsOf 129 = 1 := by kernel_rfl
theorem c_map : Tryz.prog.cellsOf 42 = 2 := by kernel_rfl
theorem laid_tab : (Rows.laid_math_bits_deBruijn64tab : DataW Unit) = .agg (Lib.deBruijn64tab.map fun n => .lit (.int .u8 (n : Nat))) := rfl
set_option maxRecDepth 100000 in
theorem door_met (os : Os) (args : Array Value) : laidMetH Tryz.prog laidT ((World.doorLaid Tryz.prog 400 os).forCall (fun _ _ => 0) ⟨#[], args, []⟩).memory :=
  laidMetH_of_parts3 (fuel := 8) (laidMet_of_run' 8 (by kernel_rfl) (by kernel_rfl)) (by kernel_rfl) (by kernel_rfl)
theorem tab_of_laid {W : World} (h : laidMetH Tryz.prog laidT W) : TabAt 0 Lib.deBruijn64tab W := by
  rw [MakeChecks.laidMetH_plain _ _ _ (by kernel_rfl)] at h
  obtain ⟨ps, ⟨g0, t0, cs0, f0, p0, q0, hg0, ht0, hv0, hd0, _, _⟩, _⟩ := h
  obtain rfl := Option.some.inj (gTab.symm.trans hg0)
  obtain rfl := Option.some.inj (tTab.symm.trans ht0)
  obtain ⟨xs, m1, rfl, hx1, hlen, hn, hel⟩ := DataW.trod_array Tryz.underlying235 hd0
  simp only [Prod.mk.injEq] at hx1
  have hx := hx1.1
  rw [laid_tab, DataW.agg.injEq] at hx
  intro j hj
  have hj64 : j < 64 := hj
  have h0 := hel j hj64
  rw [c_u8] at h0
  obtain ⟨x, hxj⟩ : ∃ x, xs[j]? = some x := ⟨_, List.getElem?_eq_getElem (by rw [hn]; exact hj64)⟩
  rw [hxj] at h0
  obtain ⟨k, e1, e2, _⟩ := DataW.trod_int Tryz.underlying5 h0
  have h1 : (Lib.deBruijn64tab.map fun n => (DataW.lit (.int .u8 (n : Nat)) : DataW Unit))[j]? = (xs.map (·.1))[j]? := by rw [hx]
  rw [List.getElem?_map, List.getElem?_map, hxj, e2, List.getElem?_eq_getElem hj] at h1
  simp at h1
  have h2 := World.var?_cell hg0 hv0 j
  rw [h2]
  have h3 : cs0.toList[j]? = some (.int .u8 k) := by
    have := congrArg (fun l : List Value => l[0]?) e1
    simp only [Nat.mul_one, List.getElem?_take, List.getElem?_drop] at this
    simpa using this
  rw [← Array.getElem?_toList, h3, ← h1, List.getD_eq_getElem?_getD, List.getElem?_eq_getElem hj]
  rfl
/-- A row of words that came in. -/
theorem rq_of_row {w : World} {a : Addr} {len cap : Nat} {zs : List Int} (hl : len ≤ zs.length) (hc : ∀ i, i < zs.length → w.cell? (a.add i) = some (.int .u64 (zs.getD i 0))) (hw : ∀ n ∈ zs, (Lit.int .u64 n).wf = true) : ∃ l : List UInt64, l.length = len ∧ RQ w (some a) l := by
  refine ⟨(zs.take len).map (fun z => UInt64.ofNat z.toNat), by simp; omega, .inr ⟨a, rfl, fun j y hy => ?_⟩⟩
  simp only [List.getElem?_map, Option.map_eq_some_iff, List.getElem?_take] at hy
  obtain ⟨z, hzj, rfl⟩ := hy
  split at hzj
  · obtain ⟨hjl, rfl⟩ := List.getElem?_eq_some_iff.1 hzj
    have h1 := hc j hjl
    rw [h1]
    have h2 := hw zs[j] (List.getElem_mem hjl)
    have h3 : 0 ≤ zs[j] ∧ zs[j] ≤ 18446744073709551615 := bounds_u64 h2
    rw [List.getD_eq_getElem?_getD, List.getElem?_eq_getElem hjl, Option.getD_some, UInt64.toNat_ofNat']
    congr 2
    omega
  · cases hzj
set_option maxRecDepth 100000 in
theorem open_refMap {H : Type} {enc : TypeId × Value → H} {W : World} {b0 base : Nat} {spare : Nat → Bool} {held : Bool} {v : Value} {d : DataW H} {p : List MemPlace}
    (hsp : ∀ b, spare b = true) (hv : Value.okWide Tryz.prog W .any b0 42 v) (h : DataW.Trod enc Tryz.prog W base spare held 42 v d p) :
    ∃ (s : Int) (A : Option Addr) (c : Nat) (L : List UInt64), v = .agg #[.int .i64 s, .slice A L.length c] ∧ RQ W A L ∧ L.length ≤ c ∧ c ≤ maxLen ∧ -9223372036854775808 ≤ s ∧ s ≤ 9223372036854775807 := by
  obtain ⟨v0, v1, y0, y1, n, rfl, _, _, h0, h1⟩ := Joins.open_agg2 Tryz.underlying42 (by kernel_rfl) c_map hv h
  obtain ⟨s, e0, _, ws⟩ := DataW.trod_int Tryz.underlying3 h0
  have bs := bounds_i64 ws
  simp only [List.cons.injEq, and_true] at e0
  subst e0
  rcases open_ints Tryz.underlying40 Tryz.underlying129 c_u64 h1 with ⟨e, _⟩ | ⟨a, len, cap, zs, e, _, hl, hm, hz, _, hc, hw⟩
  · simp only [List.cons.injEq, and_true] at e
    subst e
    exact ⟨s, none, 0, [], rfl, .inl rfl, Nat.le_refl _, Nat.zero_le _, by omega, by omega⟩
  · simp only [List.cons.injEq, and_true] at e
    subst e
    rw [hsp, if_pos rfl] at hz
    obtain ⟨l, rfl, hr⟩ := rq_of_row (len := len) (cap := cap) (by omega) hc hw
    exact ⟨s, some a, cap, l, rfl, hr, hl, hm, by omega, by omega⟩
end Go.Proofs.YtegjeijiekggdaaGreatDoor
end
section
/- The statements' function made of layer 5: a map of a size with numbers in it. -/
namespace Go.Proofs.YtegjeijiekggdaaGreatDoor
open Go.RowKit
set_option linter.unusedVariables false
set_option linter.unusedSimpArgs false
/-- The map of a size with the first k of the numbers in it. -/
def madeK (s : Nat) (l : List UInt8) : Nat → List UInt64
  | 0 => newL (s : Nat)
  | k + 1 => setL (s : Nat) (madeK s l k) ((l.getD k 0).toNat : Nat) true
def madeL (s : Nat) (l : List UInt8) : List UInt64 := madeK s l (min l.length 60)
theorem newL_ok {s : Nat} (h : s ≤ 4096) : okB (s : Nat) (newL (s : Nat)) = true := by
  have hok : newOk (s : Int) = true := decide_eq_true (by omega)
  unfold newL
  rw [if_pos hok, Int.toNat_natCast]
  unfold okB fitB cleanB
  rw [List.length_replicate, Bool.and_eq_true, decide_eq_true_eq, decide_eq_true_eq]
  refine ⟨by omega, fun n h1 h2 => ?_⟩
  unfold bitL
  rw [List.getD_eq_getElem?_getD, List.getElem?_replicate]
  split <;> simp
theorem madeK_ok {s : Nat} (h : s ≤ 4096) (l : List UInt8) : ∀ k, okB (s : Nat) (madeK s l k) = true
  | 0 => newL_ok h
  | k + 1 => setL_ok (madeK_ok h l k)
theorem madeL_ok {s : Nat} (h : s ≤ 4096) (l : List UInt8) : okB (s : Nat) (madeL s l) = true := madeK_ok h l _
theorem OQ.shape {base : Nat} {w : World} {v : Value} {l : List UInt64} (h : OQ base w v l) : ∃ A n c, v = .slice A n c := by
  obtain ⟨A, c, e, _⟩ := h.form
  exact ⟨A, _, c, e⟩
theorem madeFin {base q : Nat} {W0 wr w5 : World} {s : Int} {vo v5 : Value} {L0 L5 : List UInt64} {t : TypeId} (h : BxQ base W0 wr q s vo L0 t) (hb0 : Below wr.drew.heap.size wr.drew w5) (ho0 : OQ wr.drew.heap.size w5 v5 L5) :
    (w5.cell? ⟨q, 0, none⟩ = some (.int .i64 s) ∧ w5.cell? ⟨q, 1, none⟩ = some vo ∧ w5.frozen? ⟨q, 0, none⟩ = false ∧ w5.frozen? ⟨q, 1, none⟩ = false) ∧ BxQ base W0 ((w5.setCell ⟨q, 0, none⟩ (.int .i64 s)).setCell ⟨q, 1, none⟩ v5) q s v5 L5 t := by
  have hb : Below wr.heap.size wr w5 := (Below.refl wr.heap.size wr).drew.trans hb0
  have ho : OQ wr.heap.size w5 v5 L5 := ho0
  have hq := (Array.getElem?_eq_some_iff.1 h.at_).1
  have hz : base ≤ wr.heap.size := Nat.le_trans h.ge (Nat.le_of_lt hq)
  have h5 := (hb.block q hq).trans h.at_
  refine ⟨⟨(cell_of_row w5 _ 0 _ _ _ h5).trans rfl, (cell_of_row w5 _ 1 _ _ _ h5).trans rfl, by simp [World.frozen?, h5], by simp [World.frozen?, h5]⟩, cellsPut h5 h.ge (ho.lift hz) (fun e => ?_) (h.bel.trans (hb.mono hz))⟩
  have := (ho.block e).1
  omega
end Go.Proofs.YtegjeijiekggdaaGreatDoor
end
