/- The walk of the law SlotBack. -/
import Derived.Test.YtlpobinmkedgeaaSlK
import Derived.Test.YtlpobinmkedgeaaSlN
import Derived.Test.YtlpobinmkedgeaaSlQ
namespace Go.Proofs.Ytlpobinmkedgeaa
open Go.RowKit
set_option linter.unusedVariables false
set_option linter.unusedSimpArgs false
theorem infoF {l : List UInt8} (h : l.length = 8) : (Try.prog.info? 45).map (·.size) = some (cellsB l).length := by
  rw [length_cellsB, h]
  kernel_rfl
theorem rbs_four {W : World} {g c : Nat} {zd : Addr} {Z : List UInt8} {u : Value} (hu : u = .slice (some zd) Z.length c) (hg : W.heap[g]? = some (.cells #[u, u, u, u] 22 (0, 0))) (hz : RB W (some zd) Z) (h1 : Z.length ≤ c) (h2 : c ≤ maxLen) : RBS W (some ⟨g, 0, none⟩) (List.replicate 4 Z) := fun j l hj => by
  rw [List.getElem?_replicate] at hj
  split at hj
  · rename_i hj4
    injection hj with hj
    subst hj hu
    refine ⟨_, some zd, c, rfl, ?_, h1, h2, hz⟩
    rw [add_at, cell_of_row W g j _ _ _ hg]
    match j, hj4 with
    | 0, _ => rfl
    | 1, _ => rfl
    | 2, _ => rfl
    | 3, _ => rfl
  · cases hj
set_option maxHeartbeats 4000000 in
set_option maxRecDepth 100000 in
theorem slotBack_core (gen : Nat) (A : Option Addr) (n c : Nat) (b fs : List UInt8) (w : World) (hg : gen < 4294967296) (hl : b.length = n) (hn : n ≤ c) (hr : RB w A b) (hf : fs.length = 8) :
    Calls Try.prog 6 #[.int .u32 (gen : Int), .slice A n c, .agg (cellsB fs).toArray] w fun e w' => e = .returned (.bool true) ∧ Below w.heap.size w w' := by
  have A0 : Hid (Arr (w.alloc (.cells (cellsB fs).toArray 45)) w.heap.size 45 fs) := Lib.hid (heap_alloc_last w _)
  have B0 := Lib.hid ((Below.refl _ w).alloc (Nat.le_refl _) (.cells (cellsB fs).toArray 45))
  have HZ := Lib.hid (heap_size_alloc w (.cells (cellsB fs).toArray 45))
  have R0 := Lib.hid (hr.alloc (.cells (cellsB fs).toArray 45))
  have HL := Lib.hid hl
  have HF := Lib.hid hf
  clear hr hl hf
  by_cases h954 : 954 < n
  · have hd : decide (954 < (n : Int)) = true := by simp; omega
    have KA := Lib.hid (fun W => awake_any W)
    go_enter Try.func6, Try.ntmps6
    go_wp2_with (go_at_call 7; refine (KA.out _).mono ?_; rintro e w1 ⟨rfl, b1⟩)
    go_ret
    exact ⟨rfl, B0.out.trans (b1.mono B0.out.size)⟩
  · have hd : decide (954 < (n : Int)) = false := by simp; omega
    have hn4 : n ≤ 954 := by omega
    go_enter Try.func6, Try.ntmps6
    go_upto_region 3 with (fail)
    generalize w.alloc (.cells (cellsB fs).toArray 45) = W at *
    have hqW : w.heap.size < W.heap.size := by have := HZ.out; omega
    have KP := put_ok (1 + gen) A n c b W (by omega) (by omega) HL.out hn4 hn R0.out
    have hcast : ((1 + gen : Nat) : Int) = 1 + (gen : Int) := by omega
    rw [hcast] at KP
    have KP := Lib.hid KP
    have HP : Hid (getE (putL (1 + gen) b) = 0 ∧ getG (putL (1 + gen) b) = 1 + gen ∧ getB (putL (1 + gen) b) = b) := Lib.hid (get_putL (by rw [HL.out]; exact hn4) (by omega) (by unfold maxNum; omega))
    have HEN := Lib.hid (ends_putL (g := 1 + gen) (b := b) (by rw [HL.out]; exact hn4))
    have HZP := Lib.hid (zeros_plain (b := 1 + gen) (y := b) (fs := fs) (by omega) (by unfold maxNum; omega) (by rw [HL.out]; exact hn4) HF.out)
    have HNL := Lib.hid (fun (h : lostP fs 4 = 0) => none_lost h HF.out (X := List.replicate 4 (List.replicate 256 0)) (Y := putL (1 + gen) b) rfl (putL_len _ _))
    generalize putL (1 + gen) b = L at *
    go_wp2_with fail
    refine KP.out.mono ?_
    rintro e w1 ⟨ad, rfl, r1, _, b1⟩
    have D1 := Lib.hid b1
    have K2 := get_any (some ad) 4 4 L w1 HEN.out.1 (Nat.le_refl _) (by decide) r1
    unfold GetPost at K2
    rw [HP.out.1, HP.out.2.1, HP.out.2.2, hcast] at K2
    have K2 := Lib.hid K2
    have R1 := Lib.hid r1
    clear KP b1 r1 hcast
    go_wp2_with fail
    refine K2.out.mono ?_
    rintro e w2 ⟨v2, rfl, o2, b2⟩
    obtain ⟨A2, c2, rfl, _, r2⟩ := o2.form
    have D2 := Lib.hid (D1.out.trans (b2.mono D1.out.size))
    have hs1 := run_str w2 A2 b.length c2 b rfl r2
    have hs2 := run_str w2 A n c b HL.out (R0.out.below D2.out)
    have hss : ((str b).toList == (str b).toList) = true := by simp
    have R2 := Lib.hid (R1.out.below b2)
    rw [HL.out] at hs1 ⊢
    clear o2 b2 r2 K2 R1
    go_upto_region 10 with (at_make; refine wpList_make_B rfl _ _ rfl w2.heap.size 256 _ _ rfl rfl rfl rfl (by omega) (Nat.le_refl _) ?_; intro w3 o3 b3)
    have D3 := Lib.hid (D2.out.trans (b3.mono D2.out.size))
    have R3 := Lib.hid (R2.out.below b3)
    obtain ⟨zd, cz, hz, hz1, hz2, hz3, _, hz5⟩ := o3.row (by simp)
    rw [List.length_replicate] at hz hz1
    injection hz with hz6 _ hz7
    injection hz6 with hz6
    subst hz6 hz7
    have Z3 := Lib.hid hz3
    have A3 := Lib.hid (A0.out.below D3.out hqW)
    clear hs1 hs2 hss o3 b3 R2 hz3
    go_wp2
    go_loop [13, 14] (fun t i => ∃ k : Nat, k ≤ 4 ∧ i = .int .i64 k ∧ t = .int .i64 (lostP fs k : Nat)) (fun _ i => 4 - (intOf i).toNat)
    case atStart => exact ⟨0, Nat.zero_le _, rfl, rfl⟩
    case round =>
      obtain ⟨k, hk, rfl, rfl⟩ := hrel
      have hlo := lostP_le fs k
      by_cases hlt : k < 4
      · obtain ⟨l, hl⟩ : ∃ l, L[k]? = some l := ⟨L[k]'(by rw [HEN.out.1]; exact hlt), List.getElem?_eq_getElem _⟩
        obtain ⟨B, cb, y0, y1, y2, y3⟩ := R3.out.at hl
        rw [(HEN.out.2 l (List.mem_of_getElem? hl)).1] at y0
        obtain ⟨kd, h3⟩ : ∃ kd, fs[k * 2]? = some kd := ⟨fs[k * 2]'(by rw [HF.out]; omega), List.getElem?_eq_getElem _⟩
        obtain ⟨f0, _, _⟩ := A3.out.at h3
        have HS := Lib.hid (lostP_succ h3)
        clear hl y1 y2 y3 h3
        generalize lostP fs k = lo at *
        by_cases t1 : kd.toNat % 3 = 1
        · have hb1 : ((kd.toNat : Int) % 3 != 1) = false := by simp; omega
          have HS2 := Lib.hid (HS.out.trans (by rw [if_pos t1]; rfl : _ = lo))
          clear t1 HS
          go_wp2
          go_round
          case rel => exact ⟨k + 1, by omega, by go_num, by rw [HS2.out]⟩
          case measure => simp [intOf]; omega
        · have hb1 : ((kd.toNat : Int) % 3 != 1) = true := by rw [bne_iff_ne]; omega
          have HS2 := Lib.hid (HS.out.trans (by rw [if_neg t1] : _ = lo + 1))
          clear t1 HS
          go_wp2
          go_round
          case rel => exact ⟨k + 1, by omega, by go_num, by rw [HS2.out]; go_num⟩
          case measure => simp [intOf]; omega
      · obtain rfl : k = 4 := by omega
        have RZ := Lib.hid (rbs_four (W := w3.alloc (.cells #[.slice (some ⟨w2.heap.size, 0, none⟩) 256 256, .slice (some ⟨w2.heap.size, 0, none⟩) 256 256, .slice (some ⟨w2.heap.size, 0, none⟩) 256 256, .slice (some ⟨w2.heap.size, 0, none⟩) 256 256] 22)) (Z := List.replicate 256 0) (by rw [List.length_replicate]) (heap_alloc_last w3 _) (Z3.out.alloc _) (by rw [List.length_replicate]; exact Nat.le_refl _) (by decide))
        have RL := Lib.hid (R3.out.alloc (.cells #[.slice (some ⟨w2.heap.size, 0, none⟩) 256 256, .slice (some ⟨w2.heap.size, 0, none⟩) 256 256, .slice (some ⟨w2.heap.size, 0, none⟩) 256 256, .slice (some ⟨w2.heap.size, 0, none⟩) 256 256] 22))
        have D4 := Lib.hid (D3.out.alloc D3.out.size (.cells #[.slice (some ⟨w2.heap.size, 0, none⟩) 256 256, .slice (some ⟨w2.heap.size, 0, none⟩) 256 256, .slice (some ⟨w2.heap.size, 0, none⟩) 256 256, .slice (some ⟨w2.heap.size, 0, none⟩) 256 256] 22))
        have A4 := Lib.hid (A0.out.below D4.out hqW)
        have KM := Lib.hid (mixed_any ⟨w3.heap.size, 0, none⟩ ad 4 4 (List.replicate 4 (List.replicate 256 0)) L fs _ rfl HEN.out.1 HF.out (Nat.le_refl _) (Nat.le_refl _) RZ.out RL.out (fun b hb => by rw [List.eq_of_mem_replicate hb, List.length_replicate]) (fun b hb => (HEN.out.2 b hb).1))
        have hlo := lostP_le fs 4
        go_wp2_with (refine wpList_load_mid rfl 45 (.tmp 5) rfl w.heap.size 0 rfl (cellsB fs) _ A4.out.range Try.underlying45 rfl (infoF HF.out) ?_)
        refine KM.out.mono ?_
        rintro e w5 ⟨A5, c5, rfl, hc5, hm5, r5, b5⟩
        have D5 := Lib.hid (D4.out.trans (b5.mono D4.out.size))
        have K5 := get_any A5 4 c5 _ w5 (mixP_len _ _ _) hc5 hm5 r5
        unfold GetPost at K5
        have hcase : (lostP fs 4 = 0 ∧ getE (mixP (List.replicate 4 (List.replicate 256 0)) L fs) = 0) ∨ (0 < lostP fs 4 ∧ (getE (mixP (List.replicate 4 (List.replicate 256 0)) L fs) = 3 ∨ getE (mixP (List.replicate 4 (List.replicate 256 0)) L fs) = 0)) := by
          by_cases h0 : lostP fs 4 = 0
          · exact .inl ⟨h0, by rw [HNL.out h0]; exact HP.out.1⟩
          · exact .inr ⟨by omega, HZP.out⟩
        generalize mixP (List.replicate 4 (List.replicate 256 0)) L fs = M at *
        generalize lostP fs 4 = lo at *
        have KA := Lib.hid (fun W => awake_any W)
        clear KM r5 b5 HNL HZP RZ RL HP
        rcases hcase with ⟨h0, he⟩ | ⟨h0, he | he⟩
        all_goals
          rw [he] at K5
          have K5 := Lib.hid K5
          clear he
        · subst h0
          go_wp2_with (first
            | (go_at_call 12; refine K5.out.mono ?_; rintro e w6 ⟨v6, rfl, o6, b6⟩; have D6 := Lib.hid (D5.out.trans (b6.mono D5.out.size)); clear o6 b6)
            | (go_at_call 7; refine (KA.out _).mono ?_; rintro e w7 ⟨rfl, b7⟩; have D7 := Lib.hid (D6.out.trans (b7.mono D6.out.size)); clear b7)
            | fail)
          go_ret
          exact ⟨rfl, B0.out.trans (D7.out.mono (Nat.le_of_lt hqW))⟩
        · have hb0 : decide (0 < (lo : Int)) = true := by simp; omega
          have hb1 : ((lo : Int) == 0) = false := by simpa using (by omega : ¬ (lo : Int) = 0)
          go_wp2_with (first
            | (go_at_call 12; refine K5.out.mono ?_; rintro e w6 ⟨v6, rfl, o6, b6⟩; have D6 := Lib.hid (D5.out.trans (b6.mono D5.out.size)); clear o6 b6)
            | (go_at_call 7; refine (KA.out _).mono ?_; rintro e w7 ⟨rfl, b7⟩; have D7 := Lib.hid (D6.out.trans (b7.mono D6.out.size)); clear b7)
            | fail)
          go_ret
          exact ⟨rfl, B0.out.trans (D7.out.mono (Nat.le_of_lt hqW))⟩
        · have hb0 : decide (0 < (lo : Int)) = true := by simp; omega
          have hb1 : ((lo : Int) == 0) = false := by simpa using (by omega : ¬ (lo : Int) = 0)
          go_wp2_with (first
            | (go_at_call 12; refine K5.out.mono ?_; rintro e w6 ⟨v6, rfl, o6, b6⟩; have D6 := Lib.hid (D5.out.trans (b6.mono D5.out.size)); clear o6 b6)
            | (go_at_call 7; refine (KA.out _).mono ?_; rintro e w7 ⟨rfl, b7⟩; have D7 := Lib.hid (D6.out.trans (b7.mono D6.out.size)); clear b7)
            | fail)
          go_ret
          exact ⟨rfl, B0.out.trans (D7.out.mono (Nat.le_of_lt hqW))⟩
end Go.Proofs.Ytlpobinmkedgeaa
