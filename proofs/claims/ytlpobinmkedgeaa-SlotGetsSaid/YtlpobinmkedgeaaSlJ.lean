/- Slots: a body is got. -/
import Derived.Test.YtlpobinmkedgeaaSlF
import Derived.Test.YtlpobinmkedgeaaSlI
namespace Go.Proofs.Ytlpobinmkedgeaa
open Go.RowKit
set_option linter.unusedVariables false
set_option linter.unusedSimpArgs false
theorem shared_rows {L : List (List UInt8)} (h : sharedP L ≠ 0) : L.length = 4 ∧ ∀ b ∈ L, b.length = 256 := by
  unfold sharedP at h
  split at h
  · rename_i h1
    refine ⟨h1.1, fun b hb => ?_⟩
    have h2 := h1.2 b hb
    have h3 : stampP b ≠ 0 := by rw [h2]; exact h
    unfold stampP at h3
    split at h3
    · rename_i h4; exact h4.1
    · exact absurd rfl h3
  · exact absurd rfl h
theorem shared_le (L : List (List UInt8)) : sharedP L ≤ 1099511627776 := by
  unfold sharedP
  split
  · exact stampP_le _
  · omega
def midP (b : List UInt8) : List UInt8 := (b.drop 9).take 239
theorem midP_len {b : List UInt8} (h : b.length = 256) : (midP b).length = 239 := by simp [midP, h]
def gotP (L : List (List UInt8)) (k : Nat) : List UInt8 := (L.take k).flatMap midP
theorem gotP_succ {L : List (List UInt8)} {k : Nat} {b : List UInt8} (h : L[k]? = some b) : gotP L (k + 1) = gotP L k ++ midP b := by
  unfold gotP
  rw [take_snocG h, List.flatMap_append]
  simp
theorem gotP_len {L : List (List UInt8)} (h : ∀ b ∈ L, b.length = 256) : ∀ k, k ≤ L.length → (gotP L k).length = 239 * k
  | 0, _ => by simp [gotP]
  | k + 1, hk => by
    have hb : L[k]? = some (L[k]'(by omega)) := List.getElem?_eq_getElem _
    rw [gotP_succ hb, List.length_append, gotP_len h k (by omega), midP_len (h _ (List.getElem_mem _))]
    omega
theorem gotP_all {L : List (List UInt8)} (h : L.length = 4) : gotP L 4 = allP L := by
  unfold gotP allP
  rw [List.take_of_length_le (by omega)]
  rfl
theorem splice_got (a p : List UInt8) (k : Nat) (ha : a.length = 239 * k) (hp : p.length = 239) (hk : k < 4) : splice (a ++ List.replicate (956 - 239 * k) (0 : UInt8)) (k * 239) p = (a ++ p) ++ List.replicate (956 - 239 * (k + 1)) 0 := by
  unfold splice
  rw [List.take_left' (by omega), List.drop_append, List.drop_of_length_le (by omega), List.nil_append, List.drop_replicate, ha, hp, List.append_assoc, show 956 - 239 * k - (k * 239 + 239 - 239 * k) = 956 - 239 * (k + 1) by omega]
theorem getE_3 {L : List (List UInt8)} (h : sharedP L = 0) : getE L = 3 ∧ getG L = 0 ∧ getB L = [] := by
  have he : getE L = 3 := by unfold getE; rw [if_pos h]
  refine ⟨he, ?_, ?_⟩
  · unfold getG; rw [if_neg (by omega)]
  · unfold getB; rw [if_neg (by omega)]
theorem getE_4 {L : List (List UInt8)} (h : sharedP L ≠ 0) (h2 : 954 < lenP (allP L) ∨ putL (sharedP L) (bodyP (allP L)) ≠ L) : getE L = 4 ∧ getG L = 0 ∧ getB L = [] := by
  have he : getE L = 4 := by
    unfold getE
    rw [if_neg h]
    split
    · rfl
    · rcases h2 with h2 | h2
      · contradiction
      · rw [if_neg h2]
  refine ⟨he, ?_, ?_⟩
  · unfold getG; rw [if_neg (by omega)]
  · unfold getB; rw [if_neg (by omega)]
theorem getE_0 {L : List (List UInt8)} (h : sharedP L ≠ 0) (h1 : ¬ 954 < lenP (allP L)) (h2 : putL (sharedP L) (bodyP (allP L)) = L) : getE L = 0 ∧ getG L = sharedP L ∧ getB L = bodyP (allP L) := by
  have he : getE L = 0 := by unfold getE; rw [if_neg h, if_neg h1, if_pos h2]
  refine ⟨he, ?_, ?_⟩
  · unfold getG; rw [if_pos he]
  · unfold getB; rw [if_pos he]
theorem or_join64 (a x : Nat) (ha : a < 256) (hx : x < 256) : bits .or .i64 ((a : Int) * 256) (x : Int) = ((a * 256 + x : Nat) : Int) := by
  have h1 := ofInt_u64 (a * 256) (by omega)
  have h2 := ofInt_u64 x (by omega)
  have e : ((a : Int) * 256) = ((a * 256 : Nat) : Int) := by omega
  rw [e]
  show IntKind.i64.wrap ((BitVec.ofInt 64 ((a * 256 : Nat) : Int) ||| BitVec.ofInt 64 (x : Int)).toNat : Int) = _
  rw [BitVec.toNat_or, h1, h2, or_eq a x hx, IntKind.wrap_i64]
  omega
/-- What Get answers. -/
def GetPost (w : World) (L : List (List UInt8)) (e : Ending) (w' : World) : Prop :=
  ∃ v, e = .returned (.tuple #[.int .i64 (getG L : Int), v, .int .i64 (getE L : Int)]) ∧ OB w.heap.size w' v (getB L) ∧ Below w.heap.size w w'
set_option maxHeartbeats 2000000 in
set_option maxRecDepth 100000 in
theorem get_any (A : Option Addr) (n c : Nat) (L : List (List UInt8)) (w : World) (hl : L.length = n) (hn : n ≤ c) (hc : c ≤ maxLen) (hr : RBS w A L) :
    Calls Try.prog 12 #[.slice A n c] w (GetPost w L) := by
  have KS := Lib.hid (shared_any A n c L w hl hn hc hr)
  have HR := Lib.hid hr
  have HL := Lib.hid hl
  by_cases h0 : sharedP L = 0
  · obtain ⟨h1, h2, h3⟩ := getE_3 h0
    rw [h0] at KS
    have HF := Lib.hid (show ∀ w', Below w.heap.size w w' → GetPost w L (.returned (.tuple #[.int .i64 0, .slice none 0 0, .int .i64 3])) w' from fun w' b => ⟨_, by rw [h1, h2]; rfl, by rw [h3]; exact OB.nil, b⟩)
    clear h0 h1 h2 h3 hr
    go_enter Try.func12, Try.ntmps12
    go_wp2_with (go_at_call 22; refine KS.out.mono ?_; rintro e w1 ⟨rfl, b1⟩)
    go_ret3
    exact HF.out _ b1
  · obtain ⟨h4, h256⟩ := shared_rows h0
    have hle := shared_le L
    have hne : (((sharedP L : Nat) : Int) == 0) = false := by simpa using h0
    obtain rfl : n = 4 := by omega
    have H4 := Lib.hid (fun h => getE_4 (L := L) h0 h)
    have HO := Lib.hid (fun h => getE_0 (L := L) h0 h)
    have HGL := Lib.hid (gotP_len h256)
    have H256 := Lib.hid h256
    have HGA := Lib.hid (gotP_all h4)
    have h1 : 1 ≤ sharedP L := by omega
    generalize sharedP L = g at *
    clear h0 h4 h256 hr
    have hz : ∀ W, (zeroValue 50).run Try.prog W = .ok (.agg z956) W := run_zeroW
    go_enter Try.func12, Try.ntmps12
    go_wp2_with fail
    refine KS.out.mono ?_
    rintro e w1 ⟨rfl, b1⟩
    have A0 := Lib.hid (arr_z956 w1)
    have B0 := Lib.hid ((Below.refl w.heap.size w).trans (b1.alloc b1.size (.cells z956 50)))
    have hq : Hid (w.heap.size ≤ w1.heap.size) := Lib.hid b1.size
    clear b1 KS
    go_upto_region 5 with (fail)
    clear hz
    generalize w1.alloc (.cells z956 50) = W at *
    generalize w1.heap.size = q at *
    go_wp2
    go_loopw [7, 8, 19] (fun _ _ i wr => ∃ k : Nat, k ≤ 4 ∧ i = .int .i64 k ∧ Arr wr q 50 (gotP L k ++ List.replicate (956 - 239 * k) 0) ∧ Below w.heap.size w wr) (fun _ _ i _ => 4 - (intOf i).toNat)
    case atStart => exact ⟨0, Nat.zero_le _, rfl, A0.out, B0.out⟩
    case round =>
      obtain ⟨k, hk, rfl, hA, hB⟩ := hrel
      by_cases hlt : k < 4
      · obtain ⟨b, hb⟩ : ∃ b, L[k]? = some b := ⟨L[k]'(by rw [HL.out]; omega), List.getElem?_eq_getElem _⟩
        obtain ⟨ad, hAd⟩ := HR.out.some_of (by rw [HL.out]; omega)
        have hR2 := HR.out.below hB
        subst hAd
        obtain ⟨B, cb, y0, y1, y2, y3⟩ := hR2.at hb
        have hbl := H256.out b (List.mem_of_getElem? hb)
        obtain ⟨bd, rfl⟩ := y3.some_of (by omega)
        rw [hbl] at y0 y1
        have HY := Lib.hid (y3.drop 9)
        have HM := Lib.hid (midP_len hbl)
        have HS := Lib.hid (splice_got (gotP L k) (midP b) k (HGL.out k (by rw [HL.out]; omega)) HM.out hlt)
        have HG := Lib.hid (gotP_succ hb)
        have HXL : Hid ((gotP L k ++ List.replicate (956 - 239 * k) (0 : UInt8)).length = 956) := Lib.hid (by rw [List.length_append, HGL.out k (by rw [HL.out]; omega), List.length_replicate]; omega)
        have HTK : Hid (midP b = (b.drop 9).take (midP b).length) := Lib.hid (by rw [HM.out]; rfl)
        have e9 : bd.add 9 = ⟨bd.block, bd.off + 9, none⟩ := by unfold Addr.add; rw [if_neg (by omega)]
        have hc9 : ¬ cb = 9 := by omega
        have hc248 : (248 : Int) ≤ (cb : Int) := by omega
        have hB' := Lib.hid hB
        have hA' := Lib.hid hA
        have KF : ∀ W, (Instr.sliceAt 50 (.pointer (some ⟨q, 0, none⟩)) (some (.int .i64 ((k : Int) * 239))) none none).run Try.prog W = .ok (.slice (some ⟨q, k * 239, none⟩) (956 - k * 239) (956 - k * 239)) W := fun W => slice_from W q (k * 239) _ (by omega) (by omega)
        have q1 : IntKind.i64.wrap ((k : Int) * 239) = (k : Int) * 239 := wrap64 _ (by omega) (by omega)
        clear hR2 hb y2 y3 hB hA hbl
        go_upto_region 8 with (fail)
        clear y0
        go_still_tail 5, (by kernel_rfl)
        have HY2 := HY.out
        rw [e9] at HY2
        have HY3 := Lib.hid HY2
        clear HY2
        refine wpList_copy_arr rfl (.tmp 26) (.tmp 28) rfl (some ⟨q, k * 239, none⟩) (some ⟨bd.block, bd.off + 9, none⟩) (956 - k * 239) (956 - k * 239) 239 (cb - 9) rfl rfl q (k * 239) 50 (gotP L k ++ List.replicate (956 - 239 * k) 0) (midP b) (b.drop 9) (show Arr wr.drew _ _ _ from hA'.out) (by rw [HM.out]; exact (Nat.min_eq_left (by omega)).symm) (show RB wr.drew _ _ from HY3.out) HTK.out (fun _ => rfl) (by rw [HM.out, HXL.out]; omega) ?_
        intro w2 hw2 ho2
        have A2 := hw2.out
        rw [HS.out, ← HG.out] at A2
        have A3 := Lib.hid A2
        have B2 := Lib.hid ((show Below w.heap.size w wr.drew from hB'.out.drew).trans (ho2.below hq.out))
        clear A2 hw2 ho2
        go_wp2
        go_roundw
        case rel => exact ⟨k + 1, by omega, by go_num, A3.out, B2.out⟩
        case measure => simp [intOf]; omega
      · obtain rfl : k = 4 := by omega
        have hA2 : Arr wr q 50 (allP L) := by
          rw [← HGA.out]
          simpa using hA
        have hAl : (allP L).length = 956 := by rw [← HGA.out, HGL.out 4 (by rw [HL.out]; exact Nat.le_refl _)]
        have hA' := Lib.hid hA2
        have hB' := Lib.hid hB
        have HAL := Lib.hid hAl
        have HP : Hid (lenP (allP L) = ((allP L).getD 0 0).toNat * 256 + ((allP L).getD 1 0).toNat) := Lib.hid rfl
        have HBD : Hid (bodyP (allP L) = ((allP L).drop 2).take (lenP (allP L))) := Lib.hid rfl
        clear hA hB HGA HGL A0 B0
        generalize allP L = X at *
        obtain ⟨x0, h0⟩ : ∃ x, X[0]? = some x := ⟨X[0]'(by omega), List.getElem?_eq_getElem _⟩
        obtain ⟨x1, h1⟩ : ∃ x, X[1]? = some x := ⟨X[1]'(by omega), List.getElem?_eq_getElem _⟩
        obtain ⟨c0, _, _⟩ := hA2.at h0
        obtain ⟨c1, _, _⟩ := hA2.at h1
        have hx0 := x0.toNat_lt
        have hx1 := x1.toNat_lt
        have hp := HP.out
        rw [List.getD_eq_getElem?_getD, List.getD_eq_getElem?_getD, h0, h1] at hp
        simp only [Option.getD_some] at hp
        have HP2 := Lib.hid hp
        have KO := or_join64 x0.toNat x1.toNat hx0 hx1
        rw [← hp] at KO
        have hpl : lenP X ≤ 65535 := by omega
        clear hp HP h0 h1 hA2 hAl
        generalize lenP X = m at *
        go_upto_region 11 with (fail)
        clear KO c0 c1
        have hge : w.heap.size ≤ wr.heap.size := hB'.out.size
        by_cases hm : 954 < m
        · obtain ⟨e1, e2, e3⟩ := H4.out (.inl hm)
          have HF := Lib.hid (show GetPost w L (.returned (.tuple #[.int .i64 0, .slice none 0 0, .int .i64 4])) wr from ⟨_, by rw [e1, e2]; rfl, by rw [e3]; exact OB.nil, hB'.out⟩)
          have hd : decide (954 < (m : Int)) = true := by simp; omega
          clear e1 e2 e3 hm
          go_wp2
          go_ret3
          exact HF.out
        · have HO2 := Lib.hid (HO.out hm)
          have H42 := Lib.hid (fun h => H4.out (.inr h))
          have hml : (bodyP X).length = m := by rw [HBD.out, List.length_take, List.length_drop, HAL.out]; omega
          have HML := Lib.hid hml
          have hrb : RB wr (some ⟨q, 2, none⟩) (bodyP X) := by
            have h5 := (hA'.out.reads.drop 2).take m
            rw [add_at] at h5
            rw [HBD.out]
            exact h5
          have KF : ∀ W, (Instr.sliceAt 50 (.pointer (some ⟨q, 0, none⟩)) (some (.int .i64 2)) (some (.int .i64 (2 + (m : Int)))) none).run Try.prog W = .ok (.slice (some ⟨q, 2, none⟩) m 954) W := fun W => by
            have h5 := slice_fromto W q 2 (2 + m) 2 (2 + (m : Int)) rfl (by omega) (by omega) (by omega) (by omega)
            rw [show 2 + m - 2 = m by omega] at h5
            exact h5
          have KC := Lib.hid (clone_any (some ⟨q, 2, none⟩) m 954 (bodyP X) wr (by omega) hml hrb)
          have hd : decide (954 < (m : Int)) = false := by simp; omega
          have hm2 : m ≤ 954 := by omega
          clear hml hrb HBD HO H4 hm
          generalize bodyP X = Bd at *
          go_wp2_with fail
          refine KC.out.mono ?_
          rintro e w2 ⟨v2, rfl, o2, b2⟩
          obtain ⟨A2, c2, rfl, hc2, r2⟩ := o2.form
          rw [HML.out] at hc2 ⊢
          have O2 : Hid (OB wr.heap.size w2 (.slice A2 m c2) Bd) := Lib.hid (by have h5 := o2; rw [HML.out] at h5; exact h5)
          have B2 := Lib.hid (hB'.out.trans (b2.mono hge))
          have KP := Lib.hid (put_ok g A2 m c2 Bd w2 h1 hle HML.out hm2 hc2 r2)
          have hge2 : Hid (w.heap.size ≤ w2.heap.size) := Lib.hid B2.out.size
          have hge3 : Hid (wr.heap.size ≤ w2.heap.size) := Lib.hid b2.size
          clear o2 b2 KC r2 KF hc2
          go_wp2_with fail
          refine KP.out.mono ?_
          rintro e w3 ⟨ad3, rfl, r3, _, b3⟩
          have B3 := Lib.hid (B2.out.trans (b3.mono hge2.out))
          have O3 := Lib.hid ((O2.out.keep b3 (Nat.le_refl _)))
          have KQ := Lib.hid (equalFunc_any (some ad3) A 4 4 4 c (putL g Bd) L w3 (putL_len _ _) hl (Nat.le_refl _) (by decide) hn hc r3 (HR.out.below B3.out))
          clear KP r3 b3
          by_cases hpq : putL g Bd = L
          · rw [decide_eq_true hpq] at KQ
            obtain ⟨e1, e2, e3⟩ := HO2.out hpq
            have HF := Lib.hid (show GetPost w L (.returned (.tuple #[.int .i64 (g : Int), .slice A2 m c2, .int .i64 0])) w3 from ⟨_, by rw [e1, e2]; rfl, by rw [e3]; exact O3.out.lift hge, B3.out⟩)
            clear e1 e2 e3 hpq HO2 H42
            go_wp2_with (go_at_call 24; refine KQ.out.mono ?_; rintro e w' ⟨rfl, rfl⟩)
            go_ret3
            exact HF.out
          · rw [decide_eq_false hpq] at KQ
            obtain ⟨e1, e2, e3⟩ := H42.out hpq
            have HF := Lib.hid (show GetPost w L (.returned (.tuple #[.int .i64 0, .slice none 0 0, .int .i64 4])) w3 from ⟨_, by rw [e1, e2]; rfl, by rw [e3]; exact OB.nil, B3.out⟩)
            clear e1 e2 e3 hpq HO2 H42
            go_wp2_with (go_at_call 24; refine KQ.out.mono ?_; rintro e w' ⟨rfl, rfl⟩)
            go_ret3
            exact HF.out
end Go.Proofs.Ytlpobinmkedgeaa
