/- Joined: SlI SlJ SlM SlQ. -/
import Derived.Test.YtegjeijiekggdaaGreatDoorM14
import Derived.Deep.RegionHeld3
section
/- Slots: whether two lists of sectors are one. -/
namespace Go.Proofs.YtegjeijiekggdaaGreatDoor
open Go.RowKit
set_option linter.unusedVariables false
set_option linter.unusedSimpArgs false
theorem str_toList (l : List UInt8) : (str l).toList = l := by rw [ByteArray.toList_eq]; simp [str]
theorem str_beq (a b : List UInt8) : ((str a).toList == (str b).toList) = decide (a = b) := by
  rw [str_toList, str_toList, Bool.eq_iff_iff]
  simp
theorem equal_any (A B : Option Addr) (n m c d : Nat) (a b : List UInt8) (w : World) (ha : a.length = n) (hb : b.length = m) (hr : RB w A a) (hs : RB w B b) :
    Calls Tryz.prog 146 #[.slice A n c, .slice B m d] w fun e w' => e = .returned (.bool (decide (a = b))) ∧ w = w' := by
  have h1 := run_str w A n c a ha hr
  have h2 := run_str w B m d b hb hs
  have HE := Lib.hid (str_beq a b)
  clear ha hb hr hs
  go_enter Tryz.func146, Tryz.ntmps146
  go_wp2
  go_ret
  exact ⟨by rw [← HE.out]; rfl, rfl⟩
theorem take_eq_snoc {L M : List (List UInt8)} {k : Nat} {a b : List UInt8} (h : L.take k = M.take k) (ha : L[k]? = some a) (hb : M[k]? = some b) : L.take (k + 1) = M.take (k + 1) ↔ a = b := by
  rw [List.take_add_one, List.take_add_one, ha, hb, h]
  simp
theorem ne_of_at {L M : List (List UInt8)} {k : Nat} {a b : List UInt8} (ha : L[k]? = some a) (hb : M[k]? = some b) (h : a ≠ b) : L ≠ M := fun e => by
  subst e
  rw [ha] at hb
  injection hb with hb
  exact h hb
set_option maxHeartbeats 1000000 in
set_option maxRecDepth 100000 in
theorem equalFunc_any (A B : Option Addr) (n m c d : Nat) (L M : List (List UInt8)) (w : World) (hl : L.length = n) (hm : M.length = m) (hn : n ≤ c) (hc : c ≤ maxLen) (hmd : m ≤ d) (hd : d ≤ maxLen) (hr : RBS w A L) (hs : RBS w B M) :
    Calls Tryz.prog 145 #[.slice A n c, .slice B m d, .func (.func 146) #[] #[]] w fun e w' => e = .returned (.bool (decide (L = M))) ∧ w = w' := by
  unfold maxLen at hc hd
  by_cases hnm : n = m
  · subst hnm
    have HL := Lib.hid hl
    have HM := Lib.hid hm
    have HR := Lib.hid hr
    have HS := Lib.hid hs
    have hb0 : ((n : Int) != (n : Int)) = false := by simp
    clear hl hm hr hs
    go_enter Tryz.func145, Tryz.ntmps145
    go_wp2
    go_loop [7, 8, 9, 17] (fun _ _ _ i => ∃ k : Nat, k ≤ n ∧ i = .int .i64 k ∧ L.take k = M.take k) (fun _ _ _ i => n - (intOf i).toNat)
    case atStart => exact ⟨0, Nat.zero_le _, rfl, rfl⟩
    case round =>
      obtain ⟨k, hk, rfl, hP⟩ := hrel
      by_cases hlt : k < n
      · obtain ⟨a, ha⟩ : ∃ a, L[k]? = some a := ⟨L[k]'(by rw [HL.out]; omega), List.getElem?_eq_getElem _⟩
        obtain ⟨b, hb⟩ : ∃ b, M[k]? = some b := ⟨M[k]'(by rw [HM.out]; omega), List.getElem?_eq_getElem _⟩
        obtain ⟨ad, hA⟩ := HR.out.some_of (by rw [HL.out]; omega)
        obtain ⟨bd, hB⟩ := HS.out.some_of (by rw [HM.out]; omega)
        subst hA hB
        obtain ⟨X, cx, x0, x1, x2, x3⟩ := HR.out.at ha
        obtain ⟨Y, cy, y0, y1, y2, y3⟩ := HS.out.at hb
        have KE := Lib.hid (equal_any X Y a.length b.length cx cy a b w rfl rfl x3 y3)
        have HT := Lib.hid ((take_eq_snoc hP ha hb).2)
        have HN := Lib.hid (ne_of_at ha hb)
        clear x1 x2 x3 y1 y2 y3 ha hb hP
        generalize a.length = na at *
        generalize b.length = nb at *
        by_cases hab : a = b
        · rw [decide_eq_true hab] at KE
          have HT2 := Lib.hid (HT.out hab)
          clear hab HT HN
          go_wp2_with (go_at_call 146; refine KE.out.mono ?_; rintro e w' ⟨rfl, rfl⟩)
          go_round
          case rel => exact ⟨k + 1, by omega, by go_num, HT2.out⟩
          case measure => simp [intOf]; omega
        · rw [decide_eq_false hab] at KE
          have HN2 := Lib.hid (HN.out hab)
          clear hab HT HN
          go_wp2_with (go_at_call 146; refine KE.out.mono ?_; rintro e w' ⟨rfl, rfl⟩)
          go_ret
          exact ⟨by rw [decide_eq_false HN2.out]; rfl, rfl⟩
      · obtain rfl : k = n := by omega
        have HT2 : Hid (L = M) := Lib.hid (by
          rw [List.take_of_length_le (by rw [HL.out]; exact Nat.le_refl _), List.take_of_length_le (by rw [HM.out]; exact Nat.le_refl _)] at hP
          exact hP)
        clear hP
        go_wp2
        go_ret
        exact ⟨by rw [decide_eq_true HT2.out]; rfl, rfl⟩
  · have hne : L ≠ M := fun e => hnm (by rw [← hl, ← hm, e])
    have HN := Lib.hid hne
    have hb0 : ((n : Int) != (m : Int)) = true := by rw [bne_iff_ne]; omega
    clear hne hnm hl hm hr hs
    go_enter Tryz.func145, Tryz.ntmps145
    go_wp2
    go_ret
    exact ⟨by rw [decide_eq_false HN.out]; rfl, rfl⟩
end Go.Proofs.YtegjeijiekggdaaGreatDoor
end
section
/- Slots: a body is got. -/
namespace Go.Proofs.YtegjeijiekggdaaGreatDoor
open Go.RowKit
set_option linter.unusedVariables false
set_option linter.unusedSimpArgs false
theorem shared_rows {L : List (List UInt8)} (h : sharedP L ≠ 0) : L.length = 4 ∧ ∀ b ∈ L, b.length = 256 := by
  unfold sharedP at h
  split at h
  · rename_i h1
    refine ⟨h1.1, fun b hb => ?_⟩
    have h2 := h1.2 b hb
    have h3 : stampP b ≠ 0 := by rw [h2]; exact h
    unfold stampP at h3
    split at h3
    · rename_i h4; exact h4.1
    · exact absurd rfl h3
  · exact absurd rfl h
theorem shared_le (L : List (List UInt8)) : sharedP L ≤ 1099511627776 := by
  unfold sharedP
  split
  · exact stampP_le _
  · omega
def midP (b : List UInt8) : List UInt8 := (b.drop 9).take 239
theorem midP_len {b : List UInt8} (h : b.length = 256) : (midP b).length = 239 := by simp [midP, h]
def gotP (L : List (List UInt8)) (k : Nat) : List UInt8 := (L.take k).flatMap midP
theorem gotP_succ {L : List (List UInt8)} {k : Nat} {b : List UInt8} (h : L[k]? = some b) : gotP L (k + 1) = gotP L k ++ midP b := by
  unfold gotP
  rw [take_snocG h, List.flatMap_append]
  simp
theorem gotP_len {L : List (List UInt8)} (h : ∀ b ∈ L, b.length = 256) : ∀ k, k ≤ L.length → (gotP L k).length = 239 * k
  | 0, _ => by simp [gotP]
  | k + 1, hk => by
    have hb : L[k]? = some (L[k]'(by omega)) := List.getElem?_eq_getElem _
    rw [gotP_succ hb, List.length_append, gotP_len h k (by omega), midP_len (h _ (List.getElem_mem _))]
    omega
theorem gotP_all {L : List (List UInt8)} (h : L.length = 4) : gotP L 4 = allP L := by
  unfold gotP allP
  rw [List.take_of_length_le (by omega)]
  rfl
theorem splice_got (a p : List UInt8) (k : Nat) (ha : a.length = 239 * k) (hp : p.length = 239) (hk : k < 4) : splice (a ++ List.replicate (956 - 239 * k) (0 : UInt8)) (k * 239) p = (a ++ p) ++ List.replicate (956 - 239 * (k + 1)) 0 := by
  unfold splice
  rw [List.take_left' (by omega), List.drop_append, List.drop_of_length_le (by omega), List.nil_append, List.drop_replicate, ha, hp, List.append_assoc, show 956 - 239 * k - (k * 239 + 239 - 239 * k) = 956 - 239 * (k + 1) by omega]
theorem getE_3 {L : List (List UInt8)} (h : sharedP L = 0) : slGetE L = 3 ∧ getG L = 0 ∧ getB L = [] := by
  have he : slGetE L = 3 := by unfold slGetE; rw [if_pos h]
  refine ⟨he, ?_, ?_⟩
  · unfold getG; rw [if_neg (by omega)]
  · unfold getB; rw [if_neg (by omega)]
theorem getE_4 {L : List (List UInt8)} (h : sharedP L ≠ 0) (h2 : 954 < lenP (allP L) ∨ putL (sharedP L) (bodyP (allP L)) ≠ L) : slGetE L = 4 ∧ getG L = 0 ∧ getB L = [] := by
  have he : slGetE L = 4 := by
    unfold slGetE
    rw [if_neg h]
    split
    · rfl
    · rcases h2 with h2 | h2
      · contradiction
      · rw [if_neg h2]
  refine ⟨he, ?_, ?_⟩
  · unfold getG; rw [if_neg (by omega)]
  · unfold getB; rw [if_neg (by omega)]
theorem getE_0 {L : List (List UInt8)} (h : sharedP L ≠ 0) (h1 : ¬ 954 < lenP (allP L)) (h2 : putL (sharedP L) (bodyP (allP L)) = L) : slGetE L = 0 ∧ getG L = sharedP L ∧ getB L = bodyP (allP L) := by
  have he : slGetE L = 0 := by unfold slGetE; rw [if_neg h, if_neg h1, if_pos h2]
  refine ⟨he, ?_, ?_⟩
  · unfold getG; rw [if_pos he]
  · unfold getB; rw [if_pos he]
theorem or_join64 (a x : Nat) (ha : a < 256) (hx : x < 256) : bits .or .i64 ((a : Int) * 256) (x : Int) = ((a * 256 + x : Nat) : Int) := by
  have h1 := ofInt_u64 (a * 256) (by omega)
  have h2 := ofInt_u64 x (by omega)
  have e : ((a : Int) * 256) = ((a * 256 : Nat) : Int) := by omega
  rw [e]
  show IntKind.i64.wrap ((BitVec.ofInt 64 ((a * 256 : Nat) : Int) ||| BitVec.ofInt 64 (x : Int)).toNat : Int) = _
  rw [BitVec.toNat_or, h1, h2, or_eq a x hx, IntKind.wrap_i64]
  omega
/-- What Get answers. -/
def GetPost (w : World) (L : List (List UInt8)) (e : Ending) (w' : World) : Prop :=
  ∃ v, e = .returned (.tuple #[.int .i64 (getG L : Int), v, .int .i64 (slGetE L : Int)]) ∧ OB w.heap.size w' v (getB L) ∧ Below w.heap.size w w'
set_option maxHeartbeats 2000000 in
set_option maxRecDepth 100000 in
theorem slGet_any (A : Option Addr) (n c : Nat) (L : List (List UInt8)) (w : World) (hl : L.length = n) (hn : n ≤ c) (hc : c ≤ maxLen) (hr : RBS w A L) :
    Calls Tryz.prog 106 #[.slice A n c] w (GetPost w L) := by
  have KS := Lib.hid (shared_any A n c L w hl hn hc hr)
  have HR := Lib.hid hr
  have HL := Lib.hid hl
  by_cases h0 : sharedP L = 0
  · obtain ⟨h1, h2, h3⟩ := getE_3 h0
    rw [h0] at KS
    have HF := Lib.hid (show ∀ w', Below w.heap.size w w' → GetPost w L (.returned (.tuple #[.int .i64 0, .slice none 0 0, .int .i64 3])) w' from fun w' b => ⟨_, by rw [h1, h2]; rfl, by rw [h3]; exact OB.nil, b⟩)
    clear h0 h1 h2 h3 hr
    go_enter Tryz.func106, Tryz.ntmps106
    go_wp2_with (go_at_call 144; refine KS.out.mono ?_; rintro e w1 ⟨rfl, b1⟩)
    go_ret3
    exact HF.out _ b1
  · obtain ⟨h4, h256⟩ := shared_rows h0
    have hle := shared_le L
    have hne : (((sharedP L : Nat) : Int) == 0) = false := by simpa using h0
    obtain rfl : n = 4 := by omega
    have H4 := Lib.hid (fun h => getE_4 (L := L) h0 h)
    have HO := Lib.hid (fun h => getE_0 (L := L) h0 h)
    have HGL := Lib.hid (gotP_len h256)
    have H256 := Lib.hid h256
    have HGA := Lib.hid (gotP_all h4)
    have h1 : 1 ≤ sharedP L := by omega
    generalize sharedP L = g at *
    clear h0 h4 h256 hr
    have hz : ∀ W, (zeroValue 200).run Tryz.prog W = .ok (.agg z956) W := run_zeroW
    go_enter Tryz.func106, Tryz.ntmps106
    go_wp2_with fail
    refine KS.out.mono ?_
    rintro e w1 ⟨rfl, b1⟩
    have A0 := Lib.hid (arr_z956 w1)
    have B0 := Lib.hid ((Below.refl w.heap.size w).trans (b1.alloc b1.size (.cells z956 200)))
    have hq : Hid (w.heap.size ≤ w1.heap.size) := Lib.hid b1.size
    clear b1 KS
    go_upto_region 5 with (fail)
    clear hz
    generalize w1.alloc (.cells z956 200) = W at *
    generalize w1.heap.size = q at *
    go_wp2
    go_loopw [7, 8, 19] (fun _ _ i wr => ∃ k : Nat, k ≤ 4 ∧ i = .int .i64 k ∧ slArr wr q 200 (gotP L k ++ List.replicate (956 - 239 * k) 0) ∧ Below w.heap.size w wr) (fun _ _ i _ => 4 - (intOf i).toNat)
    case atStart => exact ⟨0, Nat.zero_le _, rfl, A0.out, B0.out⟩
    case round =>
      obtain ⟨k, hk, rfl, hA, hB⟩ := hrel
      by_cases hlt : k < 4
      · obtain ⟨b, hb⟩ : ∃ b, L[k]? = some b := ⟨L[k]'(by rw [HL.out]; omega), List.getElem?_eq_getElem _⟩
        obtain ⟨ad, hAd⟩ := HR.out.some_of (by rw [HL.out]; omega)
        have hR2 := HR.out.below hB
        subst hAd
        obtain ⟨B, cb, y0, y1, y2, y3⟩ := hR2.at hb
        have hbl := H256.out b (List.mem_of_getElem? hb)
        obtain ⟨bd, rfl⟩ := y3.some_of (by omega)
        rw [hbl] at y0 y1
        have HY := Lib.hid (y3.drop 9)
        have HM := Lib.hid (midP_len hbl)
        have HS := Lib.hid (splice_got (gotP L k) (midP b) k (HGL.out k (by rw [HL.out]; omega)) HM.out hlt)
        have HG := Lib.hid (gotP_succ hb)
        have HXL : Hid ((gotP L k ++ List.replicate (956 - 239 * k) (0 : UInt8)).length = 956) := Lib.hid (by rw [List.length_append, HGL.out k (by rw [HL.out]; omega), List.length_replicate]; omega)
        have HTK : Hid (midP b = (b.drop 9).take (midP b).length) := Lib.hid (by rw [HM.out]; rfl)
        have e9 : bd.add 9 = ⟨bd.block, bd.off + 9, none⟩ := by unfold Addr.add; rw [if_neg (by omega)]
        have hc9 : ¬ cb = 9 := by omega
        have hc248 : (248 : Int) ≤ (cb : Int) := by omega
        have hB' := Lib.hid hB
        have hA' := Lib.hid hA
        have KF : ∀ W, (Instr.sliceAt 200 (.pointer (some ⟨q, 0, none⟩)) (some (.int .i64 ((k : Int) * 239))) none none).run Tryz.prog W = .ok (.slice (some ⟨q, k * 239, none⟩) (956 - k * 239) (956 - k * 239)) W := fun W => slice_from W q (k * 239) _ (by omega) (by omega)
        have q1 : IntKind.i64.wrap ((k : Int) * 239) = (k : Int) * 239 := slWrap64 _ (by omega) (by omega)
        clear hR2 hb y2 y3 hB hA hbl
        go_upto_region 8 with (fail)
        clear y0
        go_still_tail 5, (by kernel_rfl)
        have HY2 := HY.out
        rw [e9] at HY2
        have HY3 := Lib.hid HY2
        clear HY2
        refine slWpList_copy_arr rfl (.tmp 26) (.tmp 28) rfl (some ⟨q, k * 239, none⟩) (some ⟨bd.block, bd.off + 9, none⟩) (956 - k * 239) (956 - k * 239) 239 (cb - 9) rfl rfl q (k * 239) 200 (gotP L k ++ List.replicate (956 - 239 * k) 0) (midP b) (b.drop 9) (show slArr wr.drew _ _ _ from hA'.out) (by rw [HM.out]; exact (Nat.min_eq_left (by omega)).symm) (show RB wr.drew _ _ from HY3.out) HTK.out (fun _ => rfl) (by rw [HM.out, HXL.out]; omega) ?_
        intro w2 hw2 ho2
        have A2 := hw2.out
        rw [HS.out, ← HG.out] at A2
        have A3 := Lib.hid A2
        have B2 := Lib.hid ((show Below w.heap.size w wr.drew from hB'.out.drew).trans (ho2.below hq.out))
        clear A2 hw2 ho2
        go_wp2
        go_roundw
        case rel => exact ⟨k + 1, by omega, by go_num, A3.out, B2.out⟩
        case measure => simp [intOf]; omega
      · obtain rfl : k = 4 := by omega
        have hA2 : slArr wr q 200 (allP L) := by
          rw [← HGA.out]
          simpa using hA
        have hAl : (allP L).length = 956 := by rw [← HGA.out, HGL.out 4 (by rw [HL.out]; exact Nat.le_refl _)]
        have hA' := Lib.hid hA2
        have hB' := Lib.hid hB
        have HAL := Lib.hid hAl
        have HP : Hid (lenP (allP L) = ((allP L).getD 0 0).toNat * 256 + ((allP L).getD 1 0).toNat) := Lib.hid rfl
        have HBD : Hid (bodyP (allP L) = ((allP L).drop 2).take (lenP (allP L))) := Lib.hid rfl
        clear hA hB HGA HGL A0 B0
        generalize allP L = X at *
        obtain ⟨x0, h0⟩ : ∃ x, X[0]? = some x := ⟨X[0]'(by omega), List.getElem?_eq_getElem _⟩
        obtain ⟨x1, h1⟩ : ∃ x, X[1]? = some x := ⟨X[1]'(by omega), List.getElem?_eq_getElem _⟩
        obtain ⟨c0, _, _⟩ := hA2.at h0
        obtain ⟨c1, _, _⟩ := hA2.at h1
        have hx0 := x0.toNat_lt
        have hx1 := x1.toNat_lt
        have hp := HP.out
        rw [List.getD_eq_getElem?_getD, List.getD_eq_getElem?_getD, h0, h1] at hp
        simp only [Option.getD_some] at hp
        have HP2 := Lib.hid hp
        have KO := or_join64 x0.toNat x1.toNat hx0 hx1
        rw [← hp] at KO
        have hpl : lenP X ≤ 65535 := by omega
        clear hp HP h0 h1 hA2 hAl
        generalize lenP X = m at *
        go_upto_region 11 with (fail)
        clear KO c0 c1
        have hge : w.heap.size ≤ wr.heap.size := hB'.out.size
        by_cases hm : 954 < m
        · obtain ⟨e1, e2, e3⟩ := H4.out (.inl hm)
          have HF := Lib.hid (show GetPost w L (.returned (.tuple #[.int .i64 0, .slice none 0 0, .int .i64 4])) wr from ⟨_, by rw [e1, e2]; rfl, by rw [e3]; exact OB.nil, hB'.out⟩)
          have hd : decide (954 < (m : Int)) = true := by simp; omega
          clear e1 e2 e3 hm
          go_wp2
          go_ret3
          exact HF.out
        · have HO2 := Lib.hid (HO.out hm)
          have H42 := Lib.hid (fun h => H4.out (.inr h))
          have hml : (bodyP X).length = m := by rw [HBD.out, List.length_take, List.length_drop, HAL.out]; omega
          have HML := Lib.hid hml
          have hrb : RB wr (some ⟨q, 2, none⟩) (bodyP X) := by
            have h5 := (hA'.out.reads.drop 2).take m
            rw [add_at] at h5
            rw [HBD.out]
            exact h5
          have KF : ∀ W, (Instr.sliceAt 200 (.pointer (some ⟨q, 0, none⟩)) (some (.int .i64 2)) (some (.int .i64 (2 + (m : Int)))) none).run Tryz.prog W = .ok (.slice (some ⟨q, 2, none⟩) m 954) W := fun W => by
            have h5 := slice_fromto W q 2 (2 + m) 2 (2 + (m : Int)) rfl (by omega) (by omega) (by omega) (by omega)
            rw [show 2 + m - 2 = m by omega] at h5
            exact h5
          have KC := Lib.hid (clone_any (some ⟨q, 2, none⟩) m 954 (bodyP X) wr (by omega) hml hrb)
          have hd : decide (954 < (m : Int)) = false := by simp; omega
          have hm2 : m ≤ 954 := by omega
          clear hml hrb HBD HO H4 hm
          generalize bodyP X = Bd at *
          go_wp2_with fail
          refine KC.out.mono ?_
          rintro e w2 ⟨v2, rfl, o2, b2⟩
          obtain ⟨A2, c2, rfl, hc2, r2⟩ := o2.form
          rw [HML.out] at hc2 ⊢
          have O2 : Hid (OB wr.heap.size w2 (.slice A2 m c2) Bd) := Lib.hid (by have h5 := o2; rw [HML.out] at h5; exact h5)
          have B2 := Lib.hid (hB'.out.trans (b2.mono hge))
          have KP := Lib.hid (put_ok g A2 m c2 Bd w2 h1 hle HML.out hm2 hc2 r2)
          have hge2 : Hid (w.heap.size ≤ w2.heap.size) := Lib.hid B2.out.size
          have hge3 : Hid (wr.heap.size ≤ w2.heap.size) := Lib.hid b2.size
          clear o2 b2 KC r2 KF hc2
          go_wp2_with fail
          refine KP.out.mono ?_
          rintro e w3 ⟨ad3, rfl, r3, _, b3⟩
          have B3 := Lib.hid (B2.out.trans (b3.mono hge2.out))
          have O3 := Lib.hid ((O2.out.keep b3 (Nat.le_refl _)))
          have KQ := Lib.hid (equalFunc_any (some ad3) A 4 4 4 c (putL g Bd) L w3 (putL_len _ _) hl (Nat.le_refl _) (by decide) hn hc r3 (HR.out.below B3.out))
          clear KP r3 b3
          by_cases hpq : putL g Bd = L
          · rw [decide_eq_true hpq] at KQ
            obtain ⟨e1, e2, e3⟩ := HO2.out hpq
            have HF := Lib.hid (show GetPost w L (.returned (.tuple #[.int .i64 (g : Int), .slice A2 m c2, .int .i64 0])) w3 from ⟨_, by rw [e1, e2]; rfl, by rw [e3]; exact O3.out.lift hge, B3.out⟩)
            clear e1 e2 e3 hpq HO2 H42
            go_wp2_with (go_at_call 145; refine KQ.out.mono ?_; rintro e w' ⟨rfl, rfl⟩)
            go_ret3
            exact HF.out
          · rw [decide_eq_false hpq] at KQ
            obtain ⟨e1, e2, e3⟩ := H42.out hpq
            have HF := Lib.hid (show GetPost w L (.returned (.tuple #[.int .i64 0, .slice none 0 0, .int .i64 4])) w3 from ⟨_, by rw [e1, e2]; rfl, by rw [e3]; exact OB.nil, B3.out⟩)
            clear e1 e2 e3 hpq HO2 H42
            go_wp2_with (go_at_call 145; refine KQ.out.mono ?_; rintro e w' ⟨rfl, rfl⟩)
            go_ret3
            exact HF.out
end Go.Proofs.YtegjeijiekggdaaGreatDoor
end
section
/- Slots: sectors of two writings are mixed. -/
namespace Go.Proofs.YtegjeijiekggdaaGreatDoor
open Go.RowKit
set_option linter.unusedVariables false
set_option linter.unusedSimpArgs false
theorem run_append_row {base : Nat} {w : World} {v : Value} {n : Nat} {vs : List Value} (ty : TypeId) (hown : w.ownsRow base 29 1 v n vs) {g : Nat} {u : Value} (hg : Row w g [u]) (h1 : u.oneCell' = true) (hn : n ≤ 1000000) (hbase : base ≤ w.heap.size) :
    ∃ v' w', (Builtin.append_ #[111, 111] ty #[v, .slice (some ⟨g, 0, none⟩) 1 1]).run Tryz.prog w = .ok v' w' ∧ w'.ownsRow base 29 1 v' (n + 1) (vs ++ [u]) ∧ w.grownBy w' v.ownBlock ∧ (v'.ownBlock = v.ownBlock ∨ v'.ownBlock = some w.heap.size) := by
  obtain ⟨i0, hi, hz0, hz1, hz2⟩ := info_parts infoRow
  obtain ⟨v', w', hrun, h2, h3, _, h5⟩ := run_append_own_at (P := Tryz.prog) w base 111 ty 29 i0 _ 1 24 Tryz.underlying111 hi hz0 hz1 hz2 rfl (by omega) v n vs hown ⟨g, 0, none⟩ 1 1 [u]
    rfl (fun j x hx => by
      rw [add_at, cell_of_row w g j _ _ _ hg]
      simpa using hx) (by simpa using h1) (by simp only [maxLen]; omega) (by omega) hbase
  exact ⟨v', w', hrun, h2, h3, h5⟩
/-- While a list of sectors grows: the first k of M are in it. -/
def OutRel (w : World) (M : List (List UInt8)) (k : Nat) (v : Value) (wr : World) : Prop :=
  ∃ vs : List Value, wr.ownsRow w.heap.size 29 1 v k vs ∧
    (∀ (j : Nat) (l : List UInt8), (M.take k)[j]? = some l → ∃ (ad : Addr) (c : Nat), vs[j]? = some (.slice (some ad) l.length c) ∧ l.length ≤ c ∧ c ≤ maxLen ∧ RB wr (some ad) l ∧ ad.block < wr.heap.size ∧ v.ownBlock ≠ some ad.block) ∧
    w.heap.size ≤ wr.heap.size ∧ Below w.heap.size w wr
theorem OutRel.start {w wr : World} {M : List (List UInt8)} (hb : Below w.heap.size w wr) : OutRel w M 0 (.slice none 0 0) wr :=
  ⟨[], World.ownsRow_nil wr w.heap.size 29 1, fun j l hj => by simp at hj, hb.size, hb⟩
theorem ownsRow_below {base : Nat} {w w' : World} {v : Value} {n : Nat} {vs : List Value} {e : TypeId} (h : w.ownsRow base e 1 v n vs) (hb : Below w.heap.size w w') : w'.ownsRow base e 1 v n vs := by
  refine ⟨h.1, ?_⟩
  rcases h.2 with h | ⟨g, cap, cur, e, hb', hh, r⟩
  · exact .inl h
  · exact .inr ⟨g, cap, cur, e, hb', (hb.block g (Array.getElem?_eq_some_iff.1 hh).1).trans hh, r⟩
theorem OutRel.below {w wr W : World} {M : List (List UInt8)} {k : Nat} {v : Value} (h : OutRel w M k v wr) (hb : Below wr.heap.size wr W) : OutRel w M k v W := by
  obtain ⟨vs, h1, h2, h3, h4⟩ := h
  refine ⟨vs, ownsRow_below h1 hb, fun j l hj => ?_, Nat.le_trans h3 hb.size, h4.trans (hb.mono h3)⟩
  obtain ⟨ad, c, g1, g2, g3, g4, g5, g6⟩ := h2 j l hj
  exact ⟨ad, c, g1, g2, g3, g4.below hb, Nat.lt_of_lt_of_le g5 hb.size, g6⟩
theorem OutRel.append {w W : World} {M : List (List UInt8)} {k : Nat} {v : Value} (ty : TypeId) (h : OutRel w M k v W) (hk : k ≤ 1000) {l : List UInt8} (hM : M[k]? = some l) {ad : Addr} {c g : Nat} (h2 : l.length ≤ c) (h3 : c ≤ maxLen) (h4 : RB W (some ad) l) (h5 : ad.block < W.heap.size) (h6 : v.ownBlock ≠ some ad.block)
    (hg : Row W g [.slice (some ad) l.length c]) :
    ∃ v' w', (Builtin.append_ #[111, 111] ty #[v, .slice (some ⟨g, 0, none⟩) 1 1]).run Tryz.prog W = .ok v' w' ∧ OutRel w M (k + 1) v' w' := by
  obtain ⟨vs, a1, a2, a3, a4⟩ := h
  obtain ⟨v', w', hrun, b1, b2, b3⟩ := run_append_row ty a1 hg rfl (by omega) (by omega)
  refine ⟨v', w', hrun, vs ++ [.slice (some ad) l.length c], b1, fun j x hj => ?_, Nat.le_trans a3 b2.size, a4.grown b2 a3 (fun q hq => (World.ownsRow.lt a1 q hq).1)⟩
  have hvl : vs.length = k := by have := a1.1; omega
  have hkl : k < M.length := (List.getElem?_eq_some_iff.1 hM).1
  have nb : ∀ (a : Addr), a.block < W.heap.size → v.ownBlock ≠ some a.block → v'.ownBlock ≠ some a.block := fun a e1 e2 e3 => by
    rcases b3 with b3 | b3
    · exact e2 (by rw [← b3]; exact e3)
    · rw [b3] at e3
      injection e3 with e3
      omega
  rw [take_snocG hM] at hj
  by_cases hlt : j < k
  · rw [List.getElem?_append_left (by rw [List.length_take]; omega)] at hj
    obtain ⟨ad', c', g1, g2, g3, g4, g5, g6⟩ := a2 j x hj
    exact ⟨ad', c', by rw [List.getElem?_append_left (by omega)]; exact g1, g2, g3, g4.grown b2 (fun e => g6 e.symm), Nat.lt_of_lt_of_le g5 b2.size, nb ad' g5 g6⟩
  · have hjk : j = k := by
      have h7 := (List.getElem?_eq_some_iff.1 hj).1
      simp at h7
      omega
    subst hjk
    rw [List.getElem?_append_right (by rw [List.length_take]; omega), List.length_take, show j - min j M.length = 0 by omega] at hj
    simp only [List.getElem?_cons_zero, Option.some.injEq] at hj
    subst hj
    exact ⟨ad, c, by rw [List.getElem?_append_right (by omega), hvl, Nat.sub_self]; rfl, h2, h3, h4.grown b2 (fun e => h6 e.symm), Nat.lt_of_lt_of_le h5 b2.size, nb ad h5 h6⟩
theorem wpList_append_out {w W : World} {M : List (List UInt8)} {k : Nat} {v : Value} {ops : Array Oper} {rest : List Oper} {o : Oper} {a : Act} {Q : Exit → Act → World → Prop} (hgd : o.guard = none) (s x : Operand)
    (ho : o.op = .call { callee := .builtin .append, args := #[s, x], argTypes := #[111, 111] })
    (h : OutRel w M k v W) (hk : k ≤ 1000) {l : List UInt8} (hM : M[k]? = some l) {ad : Addr} {c g : Nat} (h2 : l.length ≤ c) (h3 : c ≤ maxLen) (h4 : RB W (some ad) l) (h5 : ad.block < W.heap.size) (h6 : v.ownBlock ≠ some ad.block)
    (hg : Row W g [.slice (some ad) l.length c]) (hs : a.eval s = v) (hx : a.eval x = .slice (some ⟨g, 0, none⟩) 1 1)
    (hh : ∀ v' w', Hid (OutRel w M (k + 1) v' w') → wpList Tryz.prog ops Q rest (a.put o.dst v') w') : wpList Tryz.prog ops Q (o :: rest) a W :=
  wpList_plain hgd fun K hK => by
    obtain ⟨v', w', hrun, h7⟩ := OutRel.append o.type h hk hM h2 h3 h4 h5 h6 hg
    unfold Oper.wp execOp
    simp only [ho, resolve, invoke, builtin, Sem.run_bind, Sem.run_pure, Result.andThen_ok, List.map_toArray, List.map_cons, List.map_nil, hs, hx, hrun]
    exact hK _ _ (hh v' w' (Lib.hid h7))
theorem step_append_out {w W : World} {M : List (List UInt8)} {k : Nat} {v : Value} {ops : Array Oper} {o : Oper} {a : Act} {K : Act → World → Prop} {Q : Exit → Act → World → Prop} {E : Prop} (hgd : o.guard = none) (s x : Operand)
    (ho : o.op = .call { callee := .builtin .append, args := #[s, x], argTypes := #[111, 111] })
    (h : OutRel w M k v W) (hk : k ≤ 1000) {l : List UInt8} (hM : M[k]? = some l) {ad : Addr} {c g : Nat} (h2 : l.length ≤ c) (h3 : c ≤ maxLen) (h4 : RB W (some ad) l) (h5 : ad.block < W.heap.size) (h6 : v.ownBlock ≠ some ad.block)
    (hg : Row W g [.slice (some ad) l.length c]) (hs : a.eval s = v) (hx : a.eval x = .slice (some ⟨g, 0, none⟩) 1 1)
    (hh : ∀ v' w', Hid (OutRel w M (k + 1) v' w') → K (a.put o.dst v') w') :
    if Region.wanted o (yielded ops a.tmps) = true then Oper.wp Tryz.prog o a W K Q else E := by
  have hw : Region.wanted o (yielded ops a.tmps) = true := by simp [Region.wanted, hgd]
  rw [if_pos hw]
  obtain ⟨v', w', hrun, h7⟩ := OutRel.append o.type h hk hM h2 h3 h4 h5 h6 hg
  unfold Oper.wp execOp
  simp only [ho, resolve, invoke, builtin, Sem.run_bind, Sem.run_pure, Result.andThen_ok, List.map_toArray, List.map_cons, List.map_nil, hs, hx, hrun]
  exact hh v' w' (Lib.hid h7)
theorem OutRel.rbs {w W : World} {M : List (List UInt8)} {k : Nat} {v : Value} (h : OutRel w M k v W) (hk : 0 < k) (hM : M.length = k) : ∃ A c, v = .slice A k c ∧ k ≤ c ∧ c ≤ maxLen ∧ RBS W A M := by
  obtain ⟨vs, a1, a2, a3, a4⟩ := h
  rcases a1.2 with ⟨_, h0⟩ | ⟨g, cap, cur, e, hb, hh, hc, hm, _⟩
  · omega
  · refine ⟨_, cap, e, hc, hm, fun j l hj => ?_⟩
    obtain ⟨ad, c, g1, g2, g3, g4, _⟩ := a2 j l (by rw [List.take_of_length_le (by omega)]; exact hj)
    subst e
    exact ⟨_, some ad, c, rfl, World.ownsRow.cells a1 (g := g) rfl j _ g1, g2, g3, g4⟩

/-- What becomes of the sectors. -/
def mixP (X Y : List (List UInt8)) (fs : List UInt8) : List (List UInt8) := (List.range 4).map fun i => fated (fs.getD (2 * i) 0).toNat (fs.getD (2 * i + 1) 0).toNat (X.getD i []) (Y.getD i [])
theorem mixP_len (X Y : List (List UInt8)) (fs : List UInt8) : (mixP X Y fs).length = 4 := by simp [mixP]
theorem mixP_at {X Y : List (List UInt8)} {fs : List UInt8} {k : Nat} (h : k < 4) {x y : List UInt8} {kd cu : UInt8} (hx : X[k]? = some x) (hy : Y[k]? = some y) (h1 : fs[k * 2]? = some kd) (h2 : fs[k * 2 + 1]? = some cu) : (mixP X Y fs)[k]? = some (fated kd.toNat cu.toNat x y) := by
  simp [mixP, h, List.getD_eq_getElem?_getD, hx, hy, Nat.mul_comm 2 k, h1, h2]
end Go.Proofs.YtegjeijiekggdaaGreatDoor
end
section
/- Plain facts on slots: of two writings, torn in any way, one is got, whole, or none. -/
namespace Go.Proofs.YtegjeijiekggdaaGreatDoor
set_option linter.unusedVariables false
theorem shared_all {L : List (List UInt8)} (h : sharedP L ≠ 0) : L.length = 4 ∧ ∀ b ∈ L, stampP b = sharedP L := by
  unfold sharedP at h ⊢
  split at h
  · rename_i h1
    rw [if_pos h1]
    exact ⟨h1.1, h1.2⟩
  · exact absurd rfl h
theorem ends_stamp {x : List UInt8} {a : Nat} (hx : x.length = 256) (ha : a ≤ maxNum) (x1 : x.take 8 = st a) (x2 : x.drop 248 = st a) : stampP x = a := by
  unfold stampP
  rw [x1, x2, if_pos ⟨hx, rfl⟩, genOf_st ha]
/-- Sectors whose ends tell one number. -/
def Ends (X : List (List UInt8)) (a : Nat) : Prop := X.length = 4 ∧ ∀ b ∈ X, b.length = 256 ∧ b.take 8 = st a ∧ b.drop 248 = st a
theorem ends_putL {g : Nat} {b : List UInt8} (hb : b.length ≤ 954) : Ends (putL g b) g := by
  refine ⟨putL_len g b, fun c hc => ?_⟩
  obtain ⟨i, hi, rfl⟩ := mem_putL hc hb
  have h := partOf_len (allOf_len hb) hi
  exact ⟨sec_len h, sec_take, sec_drop h⟩
theorem ends_zeros : Ends (List.replicate 4 (List.replicate 256 0)) 0 := by
  refine ⟨rfl, fun c hc => ?_⟩
  obtain rfl := List.eq_of_mem_replicate hc
  refine ⟨List.length_replicate, ?_, ?_⟩
  · rw [List.take_replicate]; rfl
  · rw [List.drop_replicate]; rfl
theorem mix_whole {X Y : List (List UInt8)} {a b : Nat} {fs : List UInt8} (hX : Ends X a) (hY : Ends Y b) (ha : a ≤ maxNum) (hb : b ≤ maxNum) (hab : a ≠ b) (hf : fs.length = 8) (h : sharedP (mixP X Y fs) ≠ 0) :
    (mixP X Y fs = X ∧ a ≠ 0) ∨ (mixP X Y fs = Y ∧ b ≠ 0) := by
  obtain ⟨hl, hs⟩ := shared_all h
  unfold maxNum at ha hb
  have key : ∀ i, i < 4 → ((mixP X Y fs)[i]? = X[i]? ∧ sharedP (mixP X Y fs) = a) ∨ ((mixP X Y fs)[i]? = Y[i]? ∧ sharedP (mixP X Y fs) = b) := by
    intro i hi
    have h1 : X[i]? = some (X[i]'(by rw [hX.1]; exact hi)) := List.getElem?_eq_getElem _
    have h2 : Y[i]? = some (Y[i]'(by rw [hY.1]; exact hi)) := List.getElem?_eq_getElem _
    have h3 : fs[i * 2]? = some (fs[i * 2]'(by omega)) := List.getElem?_eq_getElem _
    have h4 : fs[i * 2 + 1]? = some (fs[i * 2 + 1]'(by omega)) := List.getElem?_eq_getElem _
    have hm := mixP_at hi h1 h2 h3 h4
    obtain ⟨x1, x2, x3⟩ := hX.2 _ (List.mem_of_getElem? h1)
    obtain ⟨y1, y2, y3⟩ := hY.2 _ (List.mem_of_getElem? h2)
    generalize X[i]'(by rw [hX.1]; exact hi) = x at *
    generalize Y[i]'(by rw [hY.1]; exact hi) = y at *
    generalize fs[i * 2]'(by omega) = kd at *
    generalize fs[i * 2 + 1]'(by omega) = cu at *
    have hst := hs _ (List.mem_of_getElem? hm)
    have hcu := cu.toNat_lt
    rcases fated_whole (kd := kd.toNat) (k := cu.toNat) x1 y1 (by omega) (by omega) (by omega) hab x2 x3 y2 y3 (by rw [hst]; exact h) with e | e
    · left
      rw [e] at hm hst
      exact ⟨by rw [hm, h1], by rw [← hst]; exact ends_stamp x1 ha x2 x3⟩
    · right
      rw [e] at hm hst
      exact ⟨by rw [hm, h2], by rw [← hst]; exact ends_stamp y1 hb y2 y3⟩
  by_cases hsa : sharedP (mixP X Y fs) = a
  · left
    refine ⟨four_ext hl hX.1 fun i hi => ?_, by rw [← hsa]; exact h⟩
    rcases key i hi with h1 | h1
    · exact h1.1
    · exact absurd (hsa.symm.trans h1.2) hab
  · right
    have hsb : sharedP (mixP X Y fs) = b := by
      rcases key 0 (by omega) with h1 | h1
      · exact absurd h1.2 hsa
      · exact h1.2
    refine ⟨four_ext hl hY.1 fun i hi => ?_, by rw [← hsb]; exact h⟩
    rcases key i hi with h1 | h1
    · exact absurd h1.2 hsa
    · exact h1.1
theorem torn_plain {a b : Nat} {x y fs : List UInt8} (ha1 : 1 ≤ a) (ha : a ≤ maxNum) (hb1 : 1 ≤ b) (hb : b ≤ maxNum) (hab : a ≠ b) (hx : x.length ≤ 954) (hy : y.length ≤ 954) (hf : fs.length = 8) :
    slGetE (mixP (putL a x) (putL b y) fs) = 3 ∨ (slGetE (mixP (putL a x) (putL b y) fs) = 0 ∧ ((getG (mixP (putL a x) (putL b y) fs) = a ∧ getB (mixP (putL a x) (putL b y) fs) = x) ∨ (getG (mixP (putL a x) (putL b y) fs) = b ∧ getB (mixP (putL a x) (putL b y) fs) = y))) := by
  by_cases h : sharedP (mixP (putL a x) (putL b y) fs) = 0
  · exact .inl (getE_3 h).1
  · right
    rcases mix_whole (ends_putL hx) (ends_putL hy) ha hb hab hf h with ⟨e, _⟩ | ⟨e, _⟩
    · rw [e]
      obtain ⟨h1, h2, h3⟩ := get_putL hx ha1 ha
      exact ⟨h1, .inl ⟨h2, h3⟩⟩
    · rw [e]
      obtain ⟨h1, h2, h3⟩ := get_putL hy hb1 hb
      exact ⟨h1, .inr ⟨h2, h3⟩⟩
theorem zeros_plain {b : Nat} {y fs : List UInt8} (hb1 : 1 ≤ b) (hb : b ≤ maxNum) (hy : y.length ≤ 954) (hf : fs.length = 8) :
    slGetE (mixP (List.replicate 4 (List.replicate 256 0)) (putL b y) fs) = 3 ∨ slGetE (mixP (List.replicate 4 (List.replicate 256 0)) (putL b y) fs) = 0 := by
  by_cases h : sharedP (mixP (List.replicate 4 (List.replicate 256 0)) (putL b y) fs) = 0
  · exact .inl (getE_3 h).1
  · right
    rcases mix_whole ends_zeros (ends_putL hy) (by unfold maxNum; omega) hb (by omega) hf h with ⟨_, e⟩ | ⟨e, _⟩
    · exact absurd rfl e
    · rw [e]
      exact (get_putL hy hb1 hb).1
/-- How many of the first k are not the newer one. -/
def lostP (fs : List UInt8) (k : Nat) : Nat := ((List.range k).filter fun i => decide ((fs.getD (2 * i) 0).toNat % 3 ≠ 1)).length
theorem lostP_le (fs : List UInt8) (k : Nat) : lostP fs k ≤ k := by
  unfold lostP
  have h := List.length_filter_le (fun i => decide ((fs.getD (2 * i) 0).toNat % 3 ≠ 1)) (List.range k)
  simpa using h
theorem lostP_succ {fs : List UInt8} {k : Nat} {kd : UInt8} (h : fs[k * 2]? = some kd) : lostP fs (k + 1) = lostP fs k + if kd.toNat % 3 = 1 then 0 else 1 := by
  unfold lostP
  have e : fs.getD (2 * k) 0 = kd := by rw [List.getD_eq_getElem?_getD, Nat.mul_comm, h]; rfl
  rw [List.range_succ, List.filter_append, List.length_append]
  congr 1
  simp only [List.filter_cons, List.filter_nil, e]
  by_cases hk : kd.toNat % 3 = 1
  · simp [hk]
  · simp [hk]
theorem none_lost {fs : List UInt8} (h : lostP fs 4 = 0) (hf : fs.length = 8) {X Y : List (List UInt8)} (hX : X.length = 4) (hY : Y.length = 4) : mixP X Y fs = Y := by
  refine four_ext (mixP_len X Y fs) hY fun i hi => ?_
  have h1 : X[i]? = some (X[i]'(by omega)) := List.getElem?_eq_getElem _
  have h2 : Y[i]? = some (Y[i]'(by omega)) := List.getElem?_eq_getElem _
  have h3 : fs[i * 2]? = some (fs[i * 2]'(by omega)) := List.getElem?_eq_getElem _
  have h4 : fs[i * 2 + 1]? = some (fs[i * 2 + 1]'(by omega)) := List.getElem?_eq_getElem _
  rw [mixP_at hi h1 h2 h3 h4, h2]
  have hk : (fs[i * 2]'(by omega)).toNat % 3 = 1 := by
    unfold lostP at h
    have h5 := List.eq_nil_of_length_eq_zero h
    rw [List.filter_eq_nil_iff] at h5
    have h6 := h5 i (List.mem_range.2 hi)
    have e : fs.getD (2 * i) 0 = fs[i * 2]'(by omega) := by rw [List.getD_eq_getElem?_getD, Nat.mul_comm, h3]; rfl
    rw [e] at h6
    simpa using h6
  unfold fated
  rw [hk]
  rfl
end Go.Proofs.YtegjeijiekggdaaGreatDoor
end
