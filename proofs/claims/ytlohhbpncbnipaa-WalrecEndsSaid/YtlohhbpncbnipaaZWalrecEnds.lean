/- Joined: KWalrecEnds LWalrecEnds. -/
import Derived.Test.YtlohhbpncbnipaaM57
import Derived.Deep.RegionHeld3
import Derived.Deep.CutBlock
import Derived.Test.YtlohhbpncbnipaaM55
import Derived.WalkKit
import Derived.ProofKit
import Derived.OpenShut
import Derived.ShutString
import Derived.ChangeOld
import Derived.Below
section
/- The law WalrecEnds: the walk. -/
namespace Go.Proofs.Ytlohhbpncbnipaa
open Go.RowKit
set_option linter.unusedVariables false
set_option linter.unusedSimpArgs false
theorem RcsAt.fits {w : World} {A : Option Addr} {l : List Rec} (h : RcsAt w A l) : ∀ r ∈ l, r.fits := by
  intro r hr
  obtain ⟨i, hi, rfl⟩ := List.getElem_of_mem hr
  obtain ⟨ad, a, _, e, hat⟩ := h.at_ hi
  rw [List.getElem?_eq_getElem hi] at e
  injection e with e
  rw [e]
  exact hat.fit
theorem ri_fits {l : List Rec} {L : List Int} (h : LiveOf l L) (hf : ∀ r ∈ l, r.fits) : ∀ t ∈ L, -9223372036854775808 ≤ t ∧ t < 9223372036854775808 := by
  have key : ∀ (l : List Rec) (t : Int), (∀ r ∈ l, r.fits) → ∀ S : Int → Bool, l.foldl liveStep S t = true → S t = true ∨ (-9223372036854775808 ≤ t ∧ t < 9223372036854775808) := by
    intro l
    induction l with
    | nil => intro t _ S h; exact .inl h
    | cons r l ih =>
      intro t hf S h
      rcases ih t (fun x hx => hf x (List.mem_cons_of_mem _ hx)) _ h with h1 | h1
      · unfold liveStep at h1
        split at h1
        · exact .inl h1
        · split at h1
          · rename_i e
            subst e
            exact .inr (hf r (List.mem_cons_self ..)).2.1
          · exact .inl h1
      · exact .inr h1
  intro t ht
  rcases key l t hf _ ((h.2 t).1 ht) with h1 | h1
  · cases h1
  · exact h1
theorem takeHsW {P : Program} {md : Region.Mode} {ops : Array Oper} {Q : Exit → Act → World → Prop} {S : World → Prop} {fuel : Nat} {listed : Array Bool} {a : Act} {w : World} (i : Nat) (d : Nat) {oi : Oper}
    (hi : ops[i]? = some oi) (hd : oi.dst = some d) (hs : Region.noSelect ops = true) (hf : Region.free md ops listed i = true) (hr : (Region.ready md ops listed).contains i = true)
    (hQ : ∀ c a w, Q (.panic c) (a.put (some d) undef) w → Q (.panic c) a w) (hS : S w) (hw : Region.wanted oi (yielded ops a.tmps) = false)
    (h : wpAnyH P md ops Q S fuel (listed.setIfInBounds i true) (a.put (some d) undef) w) : wpAnyH P md ops Q S (fuel + 1) listed a w :=
  wpAnyH_take hi hs hf hr (by rw [hd]; exact hQ) (.inr ⟨hw, rfl⟩) hS (by rw [hd]; exact h)
set_option maxHeartbeats 4000000 in
set_option maxRecDepth 100000 in
theorem walrecEnds_core (A : Option Addr) (n c : Nat) (l : List Rec) (w : World) (hl : l.length = n) (hc : n ≤ c) (hm : c ≤ maxLen) (ha : RcsAt w A l) :
    Calls Try.prog 7 #[.slice A n c] w fun e w' => e = .returned (.bool true) ∧ Below w.heap.size w w' := by
  have KA := Lib.hid (fun W => wrAwake_any W)
  have KL := Lib.hid (light_any A n c l 60 w hl (by omega) ha)
  by_cases hlb : lightR l 60 = true
  · rw [hlb] at KL
    have hn60 : n ≤ 60 := by rw [← hl]; exact (lightR_at hlb).1
    have KV := Lib.hid (live_any A n c l w hl (by omega) ha)
    have HF := Lib.hid ha.fits
    have HA := Lib.hid ha
    have HL := Lib.hid hl
    clear ha hl hlb hm hc
    go_enter Try.func7, Try.ntmps7
    go_wp2_with fail
    refine KL.out.mono ?_
    rintro e w1 ⟨rfl, rfl⟩
    go_wp2_with fail
    refine KV.out.mono ?_
    rintro e w1 ⟨B, cB, L, rfl, lv, ri, hLn, b1⟩
    have LV := Lib.hid lv
    have RI1 := Lib.hid ri
    have B1 := Lib.hid b1
    have HLF := Lib.hid (ri_fits lv HF.out)
    clear lv ri b1 KL KV
    go_wp2_with (first
      | (at_builtin; refine wpList_append_R rfl (.tmp 12) (.tmp 13) rfl w1.heap.size _ [] rfl (OR.empty w1 w1.heap.size (Nat.le_refl _)) _ _ _ l rfl HL.out (HA.out.below (B1.out.alloc B1.out.size _)) HF.out (by simp; omega) (by simp) ?_; intro v2 w2 o2 b2; have O2 := Lib.hid o2; have B2 := Lib.hid (((Below.refl w1.heap.size w1).alloc (Nat.le_refl _) _).trans b2); clear o2 b2)
      | fail)
    obtain ⟨N, hN⟩ : ∃ N, N = L.length := ⟨_, rfl⟩
    rw [← hN] at hLn
    have HN := Lib.hid hN
    clear hN
    go_loopw [4, 5] (fun m i wr => ∃ k : Nat, k ≤ N ∧ i = .int .i64 (k : Int) ∧ OR w1.heap.size wr m (l ++ (L.take k).map endR) ∧ Below w1.heap.size w1 wr) (fun _ i _ => N - (RowKit.intOf i).toNat)
    case atStart => exact ⟨0, Nat.zero_le _, rfl, by simpa using O2.out, B2.out⟩
    case round =>
      obtain ⟨k, hk, rfl, hO, hB⟩ := hrel
      obtain ⟨A4, c4, rfl, hc4, hr4⟩ := hO.form
      obtain ⟨n4, hn4⟩ : ∃ n4, n4 = (l ++ (L.take k).map endR).length := ⟨_, rfl⟩
      have hn4' : n4 ≤ 120 := by rw [hn4, List.length_append, List.length_map, List.length_take, HL.out]; omega
      obtain ⟨d, hd⟩ : ∃ d, d = N - k := ⟨_, rfl⟩
      have KV := Lib.hid (fun W (hW : Below wr.heap.size wr W) => (show Calls Try.prog 16 #[.slice A4 n4 c4] W (fun e w' => (∃ B' c', e = .returned (.slice B' d c')) ∧ Below W.heap.size W w') from by
        refine (live_any A4 n4 c4 _ W hn4.symm (by omega) (hr4.below hW)).mono ?_
        rintro e w' ⟨B', c', L', rfl, lv', _, _, b'⟩
        obtain rfl := lv'.one (LV.out.ends k)
        exact ⟨⟨B', c', by rw [List.length_drop, ← HN.out, ← hd]⟩, b'⟩))
      rw [← hn4] at hc4 ⊢
      have HO := Lib.hid hO
      have HB := Lib.hid hB
      have HM := Lib.hid hn4
      have HD := Lib.hid hd
      clear hO hr4 hn4 hd hc4 hB
      by_cases hlt : k < N
      · obtain ⟨t, ht⟩ : ∃ t, L[k]? = some t := ⟨_, List.getElem?_eq_getElem (by rw [← HN.out]; exact hlt)⟩
        obtain ⟨b, rfl, hct⟩ := RI1.out k t ht
        have HT := Lib.hid ht
        have HC := Lib.hid (fun W (hW : Below w1.heap.size w1 W) => (hW.cell (lt_of_cell hct)).trans hct)
        have hw : IntKind.i64.wrap ((N : Int) - (k : Int)) = (d : Int) := by rw [IntKind.wrap_i64, HD.out]; omega
        have hdd : ((d : Int) != (d : Int)) = false := by simp
        have hkN : (k : Int) < (N : Int) := by omega
        have hk0 : 0 ≤ (k : Int) := by omega
        rw [← HN.out]
        clear ht hct
        go_upto_region 8 with fail
        go_cut [44] from 21 to 43 (fun b wx => b = .bool false ∧ Below wr.heap.size wr wx)
        case first =>
          have ST := Lib.hid (Below.refl wr.heap.size wr).drew
          by_cases h0 : k = 0
          · subst h0
            refine wp_region_any (by kernel_rfl) ?_
            change wpAny _ _ _ _ _ _ _ (World.drew _)
            refine wpAny_of_held (S := fun _ => True) _ _ _ _ ?_
            refine takeH 0 21 (v := ?_) rfl rfl (by kernel_rfl) (by kernel_rfl) (by kernel_rfl) (fun _ _ _ h => h) trivial (by rfl) ?_ ?_
            rotate_left
            · intro w' hSw
              go_simp
              try (with_reducible rfl)
            simp only [Act.put, List.setIfInBounds_toArray, List.set_cons_zero, List.set_cons_succ]
            refine takeH 1 22 (v := ?_) rfl rfl (by kernel_rfl) (by kernel_rfl) (by kernel_rfl) (fun _ _ _ h => h) trivial (by rfl) ?_ ?_
            rotate_left
            · intro w' hSw
              go_simp
              try (with_reducible rfl)
            simp only [Act.put, List.setIfInBounds_toArray, List.set_cons_zero, List.set_cons_succ]
            refine takeH 2 23 (v := ?_) rfl rfl (by kernel_rfl) (by kernel_rfl) (by kernel_rfl) (fun _ _ _ h => h) trivial (by rfl) ?_ ?_
            rotate_left
            · intro w' hSw
              go_simp
              try (with_reducible rfl)
            simp only [Act.put, List.setIfInBounds_toArray, List.set_cons_zero, List.set_cons_succ]
            refine takeHsW 3 24 rfl rfl (by kernel_rfl) (by kernel_rfl) (by kernel_rfl) (fun _ _ _ h => h) trivial (by rfl) ?_
            simp only [Act.put, List.setIfInBounds_toArray, List.set_cons_zero, List.set_cons_succ]
            refine takeHsW 4 25 rfl rfl (by kernel_rfl) (by kernel_rfl) (by kernel_rfl) (fun _ _ _ h => h) trivial (by rfl) ?_
            simp only [Act.put, List.setIfInBounds_toArray, List.set_cons_zero, List.set_cons_succ]
            refine takeHsW 5 26 rfl rfl (by kernel_rfl) (by kernel_rfl) (by kernel_rfl) (fun _ _ _ h => h) trivial (by rfl) ?_
            simp only [Act.put, List.setIfInBounds_toArray, List.set_cons_zero, List.set_cons_succ]
            refine takeHsW 6 27 rfl rfl (by kernel_rfl) (by kernel_rfl) (by kernel_rfl) (fun _ _ _ h => h) trivial (by rfl) ?_
            simp only [Act.put, List.setIfInBounds_toArray, List.set_cons_zero, List.set_cons_succ]
            refine takeHsW 7 28 rfl rfl (by kernel_rfl) (by kernel_rfl) (by kernel_rfl) (fun _ _ _ h => h) trivial (by rfl) ?_
            simp only [Act.put, List.setIfInBounds_toArray, List.set_cons_zero, List.set_cons_succ]
            refine takeHsW 8 29 rfl rfl (by kernel_rfl) (by kernel_rfl) (by kernel_rfl) (fun _ _ _ h => h) trivial (by rfl) ?_
            simp only [Act.put, List.setIfInBounds_toArray, List.set_cons_zero, List.set_cons_succ]
            refine takeHsW 9 30 rfl rfl (by kernel_rfl) (by kernel_rfl) (by kernel_rfl) (fun _ _ _ h => h) trivial (by rfl) ?_
            simp only [Act.put, List.setIfInBounds_toArray, List.set_cons_zero, List.set_cons_succ]
            refine takeHsW 10 31 rfl rfl (by kernel_rfl) (by kernel_rfl) (by kernel_rfl) (fun _ _ _ h => h) trivial (by rfl) ?_
            simp only [Act.put, List.setIfInBounds_toArray, List.set_cons_zero, List.set_cons_succ]
            refine takeHsW 11 32 rfl rfl (by kernel_rfl) (by kernel_rfl) (by kernel_rfl) (fun _ _ _ h => h) trivial (by rfl) ?_
            simp only [Act.put, List.setIfInBounds_toArray, List.set_cons_zero, List.set_cons_succ]
            refine takeHsW 12 33 rfl rfl (by kernel_rfl) (by kernel_rfl) (by kernel_rfl) (fun _ _ _ h => h) trivial (by rfl) ?_
            simp only [Act.put, List.setIfInBounds_toArray, List.set_cons_zero, List.set_cons_succ]
            refine takeH 13 34 (v := ?_) rfl rfl (by kernel_rfl) (by kernel_rfl) (by kernel_rfl) (fun _ _ _ h => h) trivial (by rfl) ?_ ?_
            rotate_left
            · intro w' hSw
              go_simp
              try (with_reducible rfl)
            simp only [Act.put, List.setIfInBounds_toArray, List.set_cons_zero, List.set_cons_succ]
            refine takeH 14 35 (v := ?_) rfl rfl (by kernel_rfl) (by kernel_rfl) (by kernel_rfl) (fun _ _ _ h => h) trivial (by rfl) ?_ ?_
            rotate_left
            · intro w' hSw
              go_simp
              try (with_reducible rfl)
            simp only [Act.put, List.setIfInBounds_toArray, List.set_cons_zero, List.set_cons_succ]
            refine takeH 15 36 (v := ?_) rfl rfl (by kernel_rfl) (by kernel_rfl) (by kernel_rfl) (fun _ _ _ h => h) trivial (by rfl) ?_ ?_
            rotate_left
            · intro w' hSw
              go_simp
              try (with_reducible rfl)
            simp only [Act.put, List.setIfInBounds_toArray, List.set_cons_zero, List.set_cons_succ]
            refine takeH 18 39 (v := ?_) rfl rfl (by kernel_rfl) (by kernel_rfl) (by kernel_rfl) (fun _ _ _ h => h) trivial (by rfl) ?_ ?_
            rotate_left
            · intro w' hSw
              go_simp
              try (with_reducible rfl)
            simp only [Act.put, List.setIfInBounds_toArray, List.set_cons_zero, List.set_cons_succ]
            refine takeH 19 40 (v := ?_) rfl rfl (by kernel_rfl) (by kernel_rfl) (by kernel_rfl) (fun _ _ _ h => h) trivial (by rfl) ?_ ?_
            rotate_left
            · intro w' hSw
              go_simp
              try (with_reducible rfl)
            simp only [Act.put, List.setIfInBounds_toArray, List.set_cons_zero, List.set_cons_succ]
            refine takeH 20 41 (v := ?_) rfl rfl (by kernel_rfl) (by kernel_rfl) (by kernel_rfl) (fun _ _ _ h => h) trivial (by rfl) ?_ ?_
            rotate_left
            · intro w' hSw
              go_simp
              try (with_reducible rfl)
            simp only [Act.put, List.setIfInBounds_toArray, List.set_cons_zero, List.set_cons_succ]
            refine takeH 21 42 (v := ?_) rfl rfl (by kernel_rfl) (by kernel_rfl) (by kernel_rfl) (fun _ _ _ h => h) trivial (by rfl) ?_ ?_
            rotate_left
            · intro w' hSw
              go_simp
              try (with_reducible rfl)
            simp only [Act.put, List.setIfInBounds_toArray, List.set_cons_zero, List.set_cons_succ]
            refine wpAnyH_ready (rs := [16]) (by kernel_rfl) (by simp) ?_
            refine AllReadyH.cons rfl (fun K hK => ?_) AllReadyH.nil
            go_simp
            refine (KV.out _ ST.out).mono ?_
            rintro e w5 ⟨⟨B', c', rfl⟩, b5⟩
            have ST := Lib.hid (ST.out.trans (b5.mono ST.out.size))
            refine hK _ _ trivial (fun _ => ?_)
            clear hK K b5
            refine takeH 17 38 (v := ?_) rfl rfl (by kernel_rfl) (by kernel_rfl) (by kernel_rfl) (fun _ _ _ h => h) trivial (by rfl) ?_ ?_
            rotate_left
            · intro w' hSw
              go_simp
              try (with_reducible rfl)
            simp only [Act.put, List.setIfInBounds_toArray, List.set_cons_zero, List.set_cons_succ]
            refine takeH 22 43 (v := ?_) rfl rfl (by kernel_rfl) (by kernel_rfl) (by kernel_rfl) (fun _ _ _ h => h) trivial (by rfl) ?_ ?_
            rotate_left
            · intro w' hSw
              go_simp
              try (with_reducible rfl)
            simp only [Act.put, List.setIfInBounds_toArray, List.set_cons_zero, List.set_cons_succ]
            refine takeH 23 44 (v := ?_) rfl rfl (by kernel_rfl) (by kernel_rfl) (by kernel_rfl) (fun _ _ _ h => h) trivial (by rfl) ?_ ?_
            rotate_left
            · intro w' hSw
              go_simp
              try (with_reducible rfl)
            simp only [Act.put, List.setIfInBounds_toArray, List.set_cons_zero, List.set_cons_succ]
            refine wpAnyH_done (by kernel_rfl) ?_ _
            go_wp2_with fail
            go_meet
            exact ⟨by rw [show IntKind.i64.wrap (N : Int) = (d : Int) from by rw [IntKind.wrap_i64]; have := HD.out; omega]; simp, ST.out⟩
          · have hb0 : decide (0 < k) = true := by simp; omega
            obtain ⟨j, hj⟩ : ∃ j, j = k - 1 := ⟨_, rfl⟩
            have hw1 : IntKind.i64.wrap ((k : Int) - 1) = (j : Int) := by rw [IntKind.wrap_i64, hj]; omega
            have hjN : j < L.length := by rw [← HN.out]; omega
            have htj : L[j]? = some L[j] := List.getElem?_eq_getElem hjN
            obtain ⟨b', eb, hcj⟩ := RI1.out j _ htj
            obtain rfl : b = b' := Option.some.inj eb
            have hkl : k < L.length := by rw [← HN.out]; exact hlt
            have hlt2 : L[j] < t := by
              have e2 : L[k] = t := by have := HT.out; rw [List.getElem?_eq_getElem hkl] at this; exact Option.some.inj this
              rw [← e2]
              exact List.pairwise_iff_getElem.1 LV.out.1 j k hjN hkl (by omega)
            generalize L[j] = tj at *
            have hge : decide (t ≤ tj) = false := by simp; omega
            have hge2 : ¬ t ≤ tj := by omega
            have hjN2 : j < N := by omega
            have hj0 : (j : Int) < (N : Int) := by omega
            have CJ := Lib.hid (fun W (hW : Below wr.heap.size wr W) => And.intro (HC.out W (HB.out.trans (hW.mono HB.out.size))) ((((HB.out.trans (hW.mono HB.out.size))).cell (lt_of_cell hcj)).trans hcj))
            have cc := CJ.out _ ST.out
            clear htj eb hcj hj h0 hkl hjN hlt2
            go_region_held3 (fun W => W.cell? (b.add k) = some (.int .i64 t) ∧ W.cell? (b.add j) = some (.int .i64 tj)) (first | with_reducible assumption | with_reducible exact cc | go_keep | fail)
              (first
                | (go_at_call 16; refine (KV.out _ ST.out).mono ?_; rintro e w5 ⟨⟨B', c', rfl⟩, b5⟩; have ST := Lib.hid (ST.out.trans (b5.mono ST.out.size)); have cc := CJ.out _ ST.out; clear b5)
                | fail)
            all_goals
              go_wp2_with fail
              go_meet
              exact ⟨rfl, ST.out⟩
        case rest =>
          obtain ⟨rfl, hbw⟩ := hcut
          have BW := Lib.hid hbw
          have c0 := HC.out wc (HB.out.trans (hbw.mono HB.out.size))
          have B3 := Lib.hid (HB.out.trans (hbw.mono HB.out.size))
          have O3 := Lib.hid (show OR w1.heap.size wc (.slice A4 n4 c4) (l ++ (L.take k).map endR) from by rw [HM.out]; exact HO.out.below hbw)
          have hft := Lib.hid (show ∀ r ∈ [endR t], r.fits from by intro r hr; simp only [List.mem_cons, List.not_mem_nil, or_false] at hr; subst hr; have := HLF.out t (List.mem_of_getElem? HT.out); exact ⟨by simp [endR], by simp [endR]; omega, by simp [endR]⟩)
          clear hbw hw hdd KV
          go_wp2_with (first
            | (at_builtin; refine wpList_append_R rfl (.tmp 45) (.tmp 51) rfl w1.heap.size (.slice A4 n4 c4) (l ++ (L.take k).map endR) rfl (O3.out.alloc _) _ _ _ [endR t] rfl rfl (rcs_new wc [endR t] _ rfl hft.out _) hft.out (by rw [← HM.out]; omega) (by have := B3.out.size; simp; omega) ?_; intro v5 w5 o5 b5; have O5 := Lib.hid o5; have B5 := Lib.hid ((B3.out.alloc B3.out.size _).trans b5); clear o5 b5)
            | fail)
          go_round
          case rel => exact ⟨k + 1, by omega, by go_num, by rw [List.take_add_one, HT.out]; simpa using O5.out, B5.out⟩
          case measure => simp [RowKit.intOf]; omega
      · obtain rfl : k = N := by omega
        rw [← HN.out]
        have hd0 : d = 0 := by have := HD.out; omega
        subst hd0
        have HE := Lib.hid (B1.out.trans (HB.out.mono B1.out.size))
        clear HD
        go_wp2_with (first
          | (go_at_call 16; refine (KV.out _ (Below.refl _ _)).mono ?_; rintro e w5 ⟨⟨B', c', rfl⟩, b5⟩; have ST := Lib.hid (HE.out.trans (b5.mono HE.out.size)); clear b5)
          | (go_at_call 9; refine (KA.out _).mono ?_; rintro e w6 ⟨rfl, b6⟩; have ST := Lib.hid (ST.out.trans (b6.mono ST.out.size)); clear b6)
          | fail)
        exact bodyPost_ret (v := .bool true) (by simp [results, Try.results7, go_sem]) rfl ⟨rfl, ST.out⟩
  · have hlb' : lightR l 60 = false := by simpa using hlb
    rw [hlb'] at KL
    clear hlb hlb' ha hl hm
    go_enter Try.func7, Try.ntmps7
    go_wp2_with fail
    refine KL.out.mono ?_
    rintro e w1 ⟨rfl, rfl⟩
    go_wp2_with fail
    refine (KA.out _).mono ?_
    rintro e w3 ⟨rfl, b3⟩
    have BB := Lib.hid b3
    clear b3
    go_wp2_with fail
    go_ret
    exact ⟨rfl, BB.out⟩
end Go.Proofs.Ytlohhbpncbnipaa
end
section
/- It is proved that the law WalrecEnds answers true for every records, and leaves them as they were. No condition. -/
namespace Go.Proofs.Ytlohhbpncbnipaa.walrecEnds
open Go.ChangeShapes Go.WideShapes Go.ChangeAt Go.RowKit
set_option linter.unusedVariables false

theorem own : ownKnob Try.prog.godebug = none := by kernel_rfl
theorem laidOut : laidOutB Try.prog = true := by kernel_rfl

set_option maxRecDepth 100000 in
theorem lifted (os : Os) (started : os.Started) (H : Type) (enc : TypeId × Value → H) :
    ReturnsInHanded {} Try.checked os 7 .any (Rows.walrecEndsSpec.pre6 enc Try.prog Try.f7 Rows.walrecEndsRow.domain false) (Rows.walrecEndsSpec.post enc Try.prog Try.f7 false true false false) := by
  refine returnsInHanded_of_change (C := Try.checked) own started (by kernel_rfl) Try.func7
    (ChangeSpec.witness6 (enc := enc) (C := Try.checked) false ⟨#[], #[.slice none 0 0], []⟩ 8 (by kernel_rfl) (by kernel_rfl) (by kernel_rfl) (by kernel_rfl)) ?_
  intro W base args ds gs before hval0 hW hcnd _
  have hval : ∀ (j : Nat) t v, Try.f7.params[j]? = some t → args[j]? = some v → Value.okWide Try.prog W .any base t v := hval0
  have hW' := hW
  obtain ⟨p, q, hA0, hV, rfl, hfz, hnd⟩ := hW
  have hA : DataW.TrodAll enc Try.prog W 0 (fun _ => true) true Try.f7.params.toList args.toList ds p := hA0
  rw [Try.params7] at hA hval
  obtain ⟨v0, vs0, d0, ds0, p0, q0, hargs, rfl, rfl, h0, r0⟩ := trodAll_cons hA
  obtain ⟨rfl, rfl, rfl⟩ := trodAll_nil r0
  obtain rfl : args = #[v0] := by cases args; simp_all
  obtain ⟨rfl, rfl⟩ := trodVars_none hV
  have hv0 : ∃ A n c, v0 = .slice A n c := by
    obtain ⟨A, n, c, e⟩ := okWide_slice Try.underlying25 (hval 0 25 v0 rfl rfl)
    exact ⟨A, n, c, e⟩
  have k0 := h0
  have lt0 : ∀ x ∈ p0, x.block < W.heap.size := by obtain ⟨m, hm⟩ := k0; exact DataW.trod_lt m _ _ _ hm
  obtain ⟨A0, c0, l0, rfl, hc0, hm0, hr0⟩ : ∃ (A : Option Addr) (c : Nat) (l : List Rec), v0 = .slice A l.length c ∧ l.length ≤ c ∧ c ≤ maxLen ∧ RcsAt W A l := by
    obtain ⟨A, n, c, rfl⟩ := hv0
    obtain ⟨l, e, hc, hm, hr⟩ := open_recs h0
    subst e
    exact ⟨A, c, l, rfl, hc, hm, hr⟩
  clear hA0 hval0
  refine (walrecEnds_core A0 l0.length c0 l0 W rfl hc0 hm0 hr0).mono fun e W' ⟨he, bel⟩ => ?_
  subst he
  exact ⟨_, rfl, _, _, _, [], _, [], hW', trodAll_mk1 (shut_bool Try.underlying4 _), (trodAll_cons_mk (Below.trod laidOut (by kernel_rfl) (of_decide_eq_true (by kernel_rfl)) k0 bel lt0) trodAll_mk0), rfl, bel.frame _, fun h => by cases h⟩

theorem over : Rows.walrecEndsRow.holds Try.pinned (OpenSpec.ofChange Rows.walrecEndsSpec) :=
  OpenClaim.holds_of_wide 7 Try.f7 rfl rfl rfl rfl rfl rfl rfl ⟨rfl, rfl, rfl, rfl, rfl⟩ rfl rfl rfl rfl rfl (by kernel_rfl) Try.func7 (by kernel_rfl)
    (of_decide_eq_true (by kernel_rfl)) (by unfold Func.isWrapper; first | (rw [if_pos (by decide +kernel)]; kernel_rfl) | (rw [if_neg (by decide +kernel)]; exact ⟨rfl, rfl⟩))
    (fun os started H enc _ => lifted os started H enc)

theorem proved : Rows.WalrecEndsSaid := over
#print axioms proved
end Go.Proofs.Ytlohhbpncbnipaa.walrecEnds
end
