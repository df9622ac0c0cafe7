/- The document's stacks: Prune. -/
import Derived.Test.YtchfpgdioclajaaVtB
namespace Go.Proofs.Ytchfpgdioclajaa
open Go.RowKit
set_option linter.unusedVariables false
set_option linter.unusedSimpArgs false
set_option maxHeartbeats 2000000 in
set_option maxRecDepth 100000 in
theorem refPrune_any (key : ByteArray) (A : Option Addr) (n c : Nat) (l : List Vn) (t : Int) (w : World) (hl : l.length = n) (hn : n ≤ 1000) (hr : RG KV w A l) :
    Calls Try.prog 46 #[.agg #[.string key, .slice A n c], .int .i64 t] w fun e w' => ∃ v', e = .returned (.agg #[.string key, v']) ∧ OG KV 26 w.heap.size w' v' (vsPrune l t) ∧ Below w.heap.size w w' := by
  have M := Lib.hid (FlW.new w key A n c)
  have HL := Lib.hid hl
  have HR := Lib.hid (fun W (h : Below w.heap.size w W) => hr.below h)
  have S2 := Lib.hid ((StBox.new w key A n c 24).alloc (.cells #[.string ⟨#[]⟩, .slice none 0 0] 24))
  have B2 := Lib.hid (below2 w (.cells #[.string key, .slice A n c] 24) (.cells #[.string ⟨#[]⟩, .slice none 0 0] 24))
  have HE : Hid (vsPrune l t = vsKeep (vsGoes t (vsLast (vsOld t) l)) 0 l) := Lib.hid rfl
  clear hl hr
  go_enter Try.func46, Try.ntmps46
  go_upto_region 1 with fail
  obtain ⟨W2, hW2⟩ : ∃ W2, W2 = (w.alloc (.cells #[.string key, .slice A n c] 24)).alloc (.cells #[.string ⟨#[]⟩, .slice none 0 0] 24) := ⟨_, rfl⟩
  have hsz : W2.heap.size = w.heap.size + 2 := by rw [hW2]; simp
  rw [← hW2] at S2 B2 M ⊢
  have HSZ := Lib.hid hsz
  clear hW2 hsz
  have s0 := S2.out.c0; have s1 := S2.out.c1
  go_wp2
  go_loop [5, 6] (fun z i => ∃ k : Nat, k ≤ n ∧ i = .int .i64 (k : Int) ∧ z = .int .i64 ((vsLast (vsOld t) (l.take k) : Nat) - 1)) (fun _ i => n - (intOf i).toNat)
  case atStart => exact ⟨0, Nat.zero_le _, rfl, rfl⟩
  case round =>
    obtain ⟨k, hk, rfl, rfl⟩ := hrel
    by_cases hlt : k < n
    · obtain ⟨y, hy⟩ : ∃ y, l[k]? = some y := ⟨l[k]'(by rw [HL.out]; exact hlt), List.getElem?_eq_getElem _⟩
      obtain ⟨ad, rfl, hv⟩ := (HR.out _ B2.out).vn hy
      have c1 := hv.d1
      have HS : Hid (vsLast (vsOld t) (l.take (k + 1)) = if vsOld t y then k + 1 else vsLast (vsOld t) (l.take k)) := Lib.hid (by
        rw [List.take_add_one, hy, Option.toList_some, vsLast_snoc, List.length_take, Nat.min_eq_left (by rw [HL.out]; omega)])
      clear hv hy
      by_cases h1 : 1 ≤ y.ts
      · by_cases h2 : y.ts ≤ t
        · have HS2 : Hid (vsLast (vsOld t) (l.take (k + 1)) = k + 1) := Lib.hid (by rw [HS.out, if_pos (by simp [vsOld, h1, h2])])
          go_wp2
          go_round
          case rel => exact ⟨k + 1, by omega, by go_num, by rw [HS2.out]; simp⟩
          case measure => simp [intOf]; omega
        · have HS2 : Hid (vsLast (vsOld t) (l.take (k + 1)) = vsLast (vsOld t) (l.take k)) := Lib.hid (by rw [HS.out, if_neg (by simp [vsOld, h2])])
          go_wp2
          go_round
          case rel => exact ⟨k + 1, by omega, by go_num, by rw [HS2.out]⟩
          case measure => simp [intOf]; omega
      · have HS2 : Hid (vsLast (vsOld t) (l.take (k + 1)) = vsLast (vsOld t) (l.take k)) := Lib.hid (by rw [HS.out, if_neg (by simp [vsOld, h1])])
        go_wp2
        go_round
        case rel => exact ⟨k + 1, by omega, by go_num, by rw [HS2.out]⟩
        case measure => simp [intOf]; omega
    · obtain rfl : k = n := by omega
      rw [List.take_of_length_le (by rw [HL.out]; exact Nat.le_refl _)]
      generalize vsLast (vsOld t) l = P at *
      go_upto_region 8 with fail
      clear s0 s1 S2 B2
      rw [HSZ.out]
      generalize W2.alloc (.cells #[.string key, .slice none 0 0] 24) = W0 at *
      go_wp2
      go_loopw [8, 9] (fun i _ wr => ∃ (j : Nat) (B : Option Addr) (m d : Nat), j ≤ k ∧ i = .int .i64 (j : Int) ∧ FlW w key A k c (w.heap.size + 2) wr B m d (vsKeep (vsGoes t P) 0 (l.take j))) (fun i _ _ => k - (intOf i).toNat)
      case atStart => exact ⟨0, none, 0, 0, Nat.zero_le _, rfl, M.out⟩
      case round =>
        clear M
        obtain ⟨j, B, m, d, hj, rfl, hM⟩ := hrel
        have M := Lib.hid hM
        have s0 := hM.s.c0; have s1 := hM.s.c1
        by_cases hlt2 : j < k
        · obtain ⟨y, hy⟩ : ∃ y, l[j]? = some y := ⟨l[j]'(by rw [HL.out]; exact hlt2), List.getElem?_eq_getElem _⟩
          obtain ⟨ad, rfl, hv⟩ := (HR.out _ hM.b).vn hy
          have HS : Hid (vsKeep (vsGoes t P) 0 (l.take (j + 1)) = if vsGoes t P j y then vsKeep (vsGoes t P) 0 (l.take j) else vsKeep (vsGoes t P) 0 (l.take j) ++ [y]) := Lib.hid (by
            rw [List.take_add_one, hy, Option.toList_some, vsKeep_snoc, List.length_take, Nat.min_eq_left (by rw [HL.out]; omega), Nat.zero_add])
          have hml : (vsKeep (vsGoes t P) 0 (l.take j)).length ≤ j := by
            have := (vsKeep_sub (vsGoes t P) 0 (l.take j)).length_le
            rw [List.length_take] at this
            omega
          have HV := Lib.hid hv
          have c0 := hv.d0; have c1 := hv.d1; have c2 := hv.d2; have c3 := hv.d3
          generalize vsKeep (vsGoes t P) 0 (l.take j) = L at *
          clear hM hy hv
          have hj9 : j < 1000 := by omega
          have hcase : (vsGoes t P j y = false ∧ ((decide (1 ≤ y.ts) = false) ∨ (decide (1 ≤ y.ts) = true ∧ decide (y.ts ≤ t) = false) ∨ (decide (1 ≤ y.ts) = true ∧ decide (y.ts ≤ t) = true ∧ ((j : Int) == ((P : Int) - 1)) = true ∧ y.gone = false))) ∨ (vsGoes t P j y = true ∧ decide (1 ≤ y.ts) = true ∧ decide (y.ts ≤ t) = true ∧ ((((j : Int) == ((P : Int) - 1)) = false) ∨ (((j : Int) == ((P : Int) - 1)) = true ∧ y.gone = true))) := by
            have hEq : ((j : Int) == ((P : Int) - 1)) = !decide (j + 1 ≠ P) := by rw [Bool.eq_iff_iff]; simp; omega
            unfold vsGoes vsOld
            rw [hEq]
            cases decide (1 ≤ y.ts) <;> cases decide (y.ts ≤ t) <;> cases decide (j + 1 ≠ P) <;> cases y.gone <;> simp
          rcases hcase with ⟨hg, hc⟩ | ⟨hg, d1, d2, hc⟩
          · have HS2 : Hid (vsKeep (vsGoes t P) 0 (l.take (j + 1)) = L ++ [y]) := Lib.hid (by rw [HS.out, hg]; rfl)
            clear hg
            rcases hc with d1 | ⟨d1, d2⟩ | ⟨d1, d2, d3, d4⟩
            all_goals
              have ZX := Lib.hid M.out.lt
              have gf := M.out.g.f1
              have HOx : Hid (OG KV 26 (w.heap.size + 2 + 1) (wr.alloc (.cells #[.int .i64 y.txn, .int .i64 y.ts, .bool y.gone, .string y.val] 26)).drew (.slice B m d) L) := Lib.hid ((M.out.o.alloc _).drew)
              have HBx : Hid (Below (w.heap.size + 2 + 1) wr (wr.alloc (.cells #[.int .i64 y.txn, .int .i64 y.ts, .bool y.gone, .string y.val] 26)).drew) := Lib.hid ((Below.refl _ wr).alloc ZX.out _).drew
              have HRL := Lib.hid (rgV_lit wr y 26).drew
              have gz := (M.out.g.alloc (.cells #[.int .i64 y.txn, .int .i64 y.ts, .bool y.gone, .string y.val] 26)).drew.c1
              go_upto_region 13 with fail
              (try clear d4)
              have g1 := M.out.g.drew.c1
              have s1 := M.out.s.drew.c1
              have hd0 := (HV.out.drewV).d0; have hd1 := (HV.out.drewV).d1; have hd2 := (HV.out.drewV).d2; have hd3 := (HV.out.drewV).d3
              go_region_law (refine step_append_G tgV rfl (.tmp 79) (.tmp 85) rfl (w.heap.size + 2 + 1) (.slice B m d) L rfl HOx.out (some ⟨wr.heap.size, 0, none⟩) 1 1 [y] rfl rfl HRL.out (Apart.flat vn_flat) ?_ ?_ ?_; (omega); (exact Nat.le_trans ZX.out HBx.out.size); intro v2 w2 o2 b2 _ _; obtain ⟨B2, e2, h2e, h21, h22, h23, h24⟩ := o2.rg; (rw [List.length_append, List.length_singleton] at h2e); subst h2e; have BB := HBx.out.trans b2; have GX := M.out.g.below BB (Nat.lt_succ_self _); have q1 := GX.c1; have q2 := GX.f1; have NX := Lib.hid (M.out.next (m' := L.length + 1) BB o2 (by simp)); clear o2 b2 BB GX h21 h22 h23 h24)
              all_goals go_wp2
              all_goals
                go_round
                case rel => exact ⟨j + 1, B2, _, e2, by omega, by go_num, by rw [HS2.out]; exact NX.out⟩
                case measure => simp [intOf]; omega
          · have HS2 : Hid (vsKeep (vsGoes t P) 0 (l.take (j + 1)) = L) := Lib.hid (by rw [HS.out, hg]; rfl)
            clear hg
            rcases hc with d3 | ⟨d3, d4⟩
            · go_wp2
              go_round
              case rel => exact ⟨j + 1, B, m, d, by omega, by go_num, by rw [HS2.out]; exact M.out⟩
              case measure => simp [intOf]; omega
            · rw [d4] at c2
              go_wp2
              go_round
              case rel => exact ⟨j + 1, B, m, d, by omega, by go_num, by rw [HS2.out]; exact M.out⟩
              case measure => simp [intOf]; omega
        · obtain rfl : j = k := by omega
          have HM := Lib.hid hM
          rw [List.take_of_length_le (by rw [HL.out]; exact Nat.le_refl _)] at HM
          obtain ⟨f1, f2, f3⟩ := HM.out.fin
          have g0 := HM.out.g.c0; have g1 := HM.out.g.c1; have r0 := HM.out.r.c0; have r1 := HM.out.r.c1; have h0 := HM.out.r.f0; have h1 := HM.out.r.f1
          have FF := Lib.hid f1
          have FO := Lib.hid f2
          have FB := Lib.hid f3
          clear hM f1 f2 f3
          go_wp2
          have z0 := FF.out.c0; have z1 := FF.out.c1
          have o4 := FO.out; have b4 := FB.out
          unfold setSt at z0 z1 o4 b4
          refine bodyPost_ret (v := .agg #[.string key, .slice B m d]) (by simp [results, Try.results46, go_sem, z0, z1]) rfl ⟨_, rfl, by rw [HE.out]; exact o4, b4⟩
end Go.Proofs.Ytchfpgdioclajaa
