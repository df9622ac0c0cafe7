/- The walk of the law SectorApart out of the contracts. -/
import Derived.Test.YtpoodoikjlneaaaScT
import Derived.Deep.RegionHeld3
import Derived.OrdersHeld
import Derived.Deep.RegionWith
import Derived.Deep.QuietTactic
import Derived.BigQuiet
namespace Go.Proofs.Ytpoodoikjlneaaa.sectorApart
open Go.RowKit
set_option linter.unusedVariables false
theorem takeHn {P : Program} {md : Region.Mode} {ops : Array Oper} {Q : Exit → Act → World → Prop} {S : World → Prop} {fuel : Nat} {listed : Array Bool} {a : Act} {w : World} (i : Nat) (d : Nat) {oi : Oper}
    (hi : ops[i]? = some oi) (hd : oi.dst = some d) (hs : Region.noSelect ops = true) (hf : Region.free md ops listed i = true) (hr : (Region.ready md ops listed).contains i = true)
    (hQ : ∀ c a w, Q (.panic c) (a.put (some d) undef) w → Q (.panic c) a w) (hS : S w) (hw : Region.wanted oi (yielded ops a.tmps) = false)
    (h : wpAnyH P md ops Q S fuel (listed.setIfInBounds i true) (a.put (some d) undef) w) : wpAnyH P md ops Q S (fuel + 1) listed a w :=
  wpAnyH_take hi hs hf hr (by rw [hd]; exact hQ) (.inr ⟨hw, rfl⟩) hS (by rw [hd]; exact h)
/-- Between two calls. -/
def Rel (base : Nat) (F : Ft) (w : World) (i : Value) (wr : World) : Prop :=
  ∃ (k : Nat) (s : Dk), k ≤ 40 ∧ i = .int .i64 (k : Int) ∧ DkAt base F wr s ∧ Good s 9 ∧ s.calls ≤ k ∧ Below w.heap.size w wr
/-- Between two sectors that are looked at: d is a disk of state s', f one of s. -/
def Rel2 (base : Nat) (F F' : Ft) (B' : Nat) (s' s : Dk) (w : World) (i : Value) (wr : World) : Prop :=
  ∃ j : Nat, j ≤ 9 ∧ i = .int .i64 (j : Int) ∧ DkAt base F wr s' ∧ DkAt B' F' wr s ∧ Below w.heap.size w wr
set_option maxRecDepth 100000 in
set_option maxHeartbeats 4000000 in
theorem core (A : Option Addr) (n c : Nat) (l : List Ac) (at_ : UInt8) (B : Option Addr) (m e : Nat) (fs : List UInt8) (w : World) (hl : l.length = n) (hc : n ≤ c) (ha : ActsAt w A l) (hfl : fs.length = m) (hfe : m ≤ e) (hfm : m ≤ maxLen) (hfr : RB w B fs) :
    Calls Try.prog 6 #[.slice A n c, .int .u8 (at_.toNat : Int), .slice B m e] w fun e w' => e = .returned (.bool true) ∧ Below w.heap.size w w' := by
  have HL := Lib.hid hl
  have HFL := Lib.hid hfl
  have HFM := Lib.hid hfm
  clear hl hfl hfm
  by_cases h1 : 40 < n
  · go_enter Try.func6, Try.ntmps6
    go_wp2_with (first | (go_at_call 7; refine (awake_any _).mono ?_; rintro e w1 ⟨rfl, hb1⟩) | fail)
    go_ret
    exact ⟨rfl, hb1⟩
  have h40 : decide (40 < (n : Int)) = false := by simp; omega
  go_enter Try.func6, Try.ntmps6
  go_wp2_with fail
  refine (new_any 9 w).mono ?_
  rintro e0 w0 ⟨F, rfl, h0, b0⟩
  have g0 := good_new 9 (by omega)
  have h0 := Lib.hid h0
  have b0 := Lib.hid b0
  go_wp2
  go_loopw [8] (fun i wr => Rel w.heap.size F w i wr ∧ (RowKit.intOf i).toNat ≤ n) (fun i _ => n - (RowKit.intOf i).toNat)
  case atStart => exact ⟨⟨0, Dk.new 9, by omega, rfl, h0.out, g0, Nat.le_refl _, b0.out⟩, by simp [RowKit.intOf]⟩
  case round =>
    obtain ⟨⟨k, s, hk40, rfl, hd, hg, hcl, hb⟩, hkn⟩ := hrel
    have hkn : k ≤ n := by simpa [RowKit.intOf] using hkn
    have HD := Lib.hid hd
    have HG := Lib.hid hg
    have HB := Lib.hid hb
    have k0 : 0 ≤ (k : Int) := by omega
    clear hd hg hb
    by_cases hlt : k < n
    · obtain ⟨ad, a, rfl, hka, hat⟩ := (ha.below HB.out).at_ (i := k) (by rw [HL.out]; exact hlt)
      have kk : (k : Int) < (n : Int) := by omega
      have x0 := hat.d0
      have x1 := hat.d1
      have x2 := hat.d2
      have x5 := hat.d5
      have hrest := (ha.at_ (i := k) (by rw [HL.out]; exact hlt))
      obtain ⟨ad', a', e1, e2, hat0⟩ := hrest
      obtain rfl : ad = ad' := by injection e1
      obtain rfl : a = a' := by rw [hka] at e2; injection e2
      have HA0 := Lib.hid hat0
      clear hat0 e1 e2 hka
      have HA := Lib.hid hat
      have z0 : 0 ≤ (a.kind.toNat : Int) := by omega
      have z1 : (a.kind.toNat : Int) < 256 := by have := a.kind.toNat_lt; omega
      clear hat
      by_cases e7 : a.kind.toNat % 8 = 7
      · have t7 : ((a.kind.toNat : Int) % 8 == 7) = true := by simp; omega
        clear e7
        have KP := Lib.hid (power_any HD.out a.fA a.fates.length a.fc a.fates rfl HA.out.room (Nat.le_trans HA.out.room HA.out.most) HA.out.rb (fun hf ad e hx => by have := HA0.out.flt hf ad e; have := HD.out.based _ hx; omega))
        go_wp2_with fail
        refine KP.out.mono ?_
        rintro e w1 ⟨rfl, h1, f1⟩
        have H1 := Lib.hid h1
        have B1 := Lib.hid (HB.out.trans (f1.below h1.based HB.out.size))
        clear h1 f1 KP
        go_wp2
        go_roundw
        case rel => exact ⟨⟨k + 1, _, by omega, by go_num, H1.out, HG.out.ofPower _, Nat.le_trans hcl (by omega), B1.out⟩, by simp [RowKit.intOf]; omega⟩
        case measure => simp [RowKit.intOf]; omega
      · by_cases e5 : a.kind.toNat % 8 < 5
        · have t7 : ((a.kind.toNat : Int) % 8 == 7) = false := by simp; omega
          have t5 : decide ((a.kind.toNat : Int) % 8 < 5) = true := by simp; omega
          clear e7 e5
          have hlo := HA.out.lo
          have hhi := HA.out.hi
          have hp1 : (ad.add (k * 6)).block < w.heap.size := HA0.out.lt
          have S1 : ∀ W, Below wr.heap.size wr W → W.cell? ⟨(ad.add (k * 6)).block, (ad.add (k * 6)).off + 1, none⟩ = some (.int .i64 a.n) ∧ W.cell? ⟨(ad.add (k * 6)).block, (ad.add (k * 6)).off + 2, none⟩ = some (.int .u8 (a.c.toNat : Int)) := fun W hW => ⟨(hW.cell (lt_of_cell HA.out.d1)).trans HA.out.d1, (hW.cell (lt_of_cell HA.out.d2)).trans HA.out.d2⟩
          have SW := Lib.hid (show ∀ W, Below wr.heap.size wr W → ∀ w', Frm F.has W w' → W.cell? ⟨(ad.add (k * 6)).block, (ad.add (k * 6)).off + 1, none⟩ = w'.cell? ⟨(ad.add (k * 6)).block, (ad.add (k * 6)).off + 1, none⟩ ∧ W.cell? ⟨(ad.add (k * 6)).block, (ad.add (k * 6)).off + 2, none⟩ = w'.cell? ⟨(ad.add (k * 6)).block, (ad.add (k * 6)).off + 2, none⟩ from fun W hW w' hf => by
            have nb : ¬ F.has (ad.add (k * 6)).block := fun hx => by have := HD.out.based _ hx; omega
            have hs : (ad.add (k * 6)).block < W.heap.size := Nat.lt_of_lt_of_le HA.out.lt hW.size
            exact ⟨(hf.cell (p := ⟨(ad.add (k * 6)).block, (ad.add (k * 6)).off + 1, none⟩) hs nb).symm, (hf.cell (p := ⟨(ad.add (k * 6)).block, (ad.add (k * 6)).off + 2, none⟩) hs nb).symm⟩)
          have S1 := Lib.hid S1
          have x12 : wr.cell? ⟨(ad.add (k * 6)).block, (ad.add (k * 6)).off + 1, none⟩ = some (.int .i64 a.n) ∧ wr.cell? ⟨(ad.add (k * 6)).block, (ad.add (k * 6)).off + 2, none⟩ = some (.int .u8 (a.c.toNat : Int)) := ⟨x1, x2⟩
          have HFu := Lib.hid (full_drew a.c wr)
          have HWr := Lib.hid (show ∀ W g, Below wr.heap.size wr W → wr.heap.size ≤ g → OB wr.heap.size W (.slice (some ⟨g, 0, none⟩) 256 256) (oneB a.c) → Calls Try.prog 16 #[.pointer (some ⟨F.b, 0, none⟩), .int .i64 a.n, .slice (some ⟨g, 0, none⟩) 256 256] W fun e w' => e = .returned (.int .i64 (s.writeErr a.n (oneB a.c) : Int)) ∧ DkAt w.heap.size F w' (s.write a.n (oneB a.c)) ∧ Frm F.has W w' from fun W g hW hg ho =>
            write_any (HD.out.below hW) (by omega) a.n (some ⟨g, 0, none⟩) 256 256 (oneB a.c) (oneB_len _) ho.reads (fun ad e hx => by injection e with e; subst e; have := HD.out.inside g hx; omega))
          go_wp2
          go_region_held3 (fun W => W.cell? ⟨(ad.add (k * 6)).block, (ad.add (k * 6)).off + 1, none⟩ = some (.int .i64 a.n) ∧ W.cell? ⟨(ad.add (k * 6)).block, (ad.add (k * 6)).off + 2, none⟩ = some (.int .u8 (a.c.toNat : Int))) (first | exact x12 | assumption)
            (first
              | (go_at_call 22; refine HFu.out.mono ?_; rintro e w1 ⟨g, rfl, hg, ho, hb1⟩; have y12 := S1.out w1 hb1)
              | (go_at_call 16; refine (HWr.out w1 g hb1 hg ho).mono ?_; rintro e w2 ⟨rfl, h2, f2⟩; have z12 := SW.out w1 hb1 w2 f2; rw [z12.1, z12.2] at y12)
              | fail)
          all_goals
            have H2 := Lib.hid h2
            have B2 := Lib.hid ((HB.out.trans (hb1.mono HB.out.size)).trans (f2.below h2.based (Nat.le_trans HB.out.size hb1.size)))
            obtain ⟨gg, gc⟩ := HG.out.ofWrite a.n (oneB_len a.c)
            clear h2 f2 y12 z12
            go_wp2
            go_roundw
            case rel => exact ⟨⟨k + 1, _, by omega, by go_num, H2.out, gg, by omega, B2.out⟩, by simp [RowKit.intOf]; omega⟩
            case measure => simp [RowKit.intOf]; omega
        · have t7 : ((a.kind.toNat : Int) % 8 == 7) = false := by simp; omega
          have t5 : decide ((a.kind.toNat : Int) % 8 < 5) = false := by simp; omega
          clear e7 e5
          go_wp2
          go_roundw
          case rel => exact ⟨⟨k + 1, s, by omega, by go_num, HD.out, HG.out, by omega, HB.out⟩, by simp [RowKit.intOf]; omega⟩
          case measure => simp [RowKit.intOf]; omega
    · obtain rfl : k = n := by omega
      obtain ⟨q, hq⟩ : ∃ q, q = at_.toNat % 9 := ⟨_, rfl⟩
      have hq9 : q < 9 := by rw [hq]; exact Nat.mod_lt _ (by omega)
      have HQ := Lib.hid (show (at_.toNat : Int) % 9 = (q : Int) from by rw [hq]; simp)
      clear hq
      have z0 : 0 ≤ (at_.toNat : Int) := by omega
      have z1 : (at_.toNat : Int) < 256 := by have := at_.toNat_lt; omega
      have FK := Lib.hid (fork_any HD.out)
      go_wp2_with fail
      refine FK.out.mono ?_
      rintro e1 w1 ⟨F', rfl, hf1, b1⟩
      have hd1 := Lib.hid (HD.out.below b1)
      have B1 := Lib.hid (HB.out.trans (b1.mono HB.out.size))
      have hf1 := Lib.hid hf1
      have hsz1 := Lib.hid b1.size
      have hin := Lib.hid HD.out.inside
      have hbs := Lib.hid HD.out.based
      have hbf := Lib.hid hf1.out.based
      have hap := Lib.hid (show ∀ i, F'.has i → ¬ F.has i from fun i hi hx => by have := hin.out i hx; have := hbf.out i hi; omega)
      clear FK b1
      go_wp2_with fail
      refine (full_any at_ _ rfl w1).mono ?_
      rintro e2 w2 ⟨g2, rfl, hg2, o2, b2⟩
      have hd2 := hd1.out.below b2
      obtain ⟨wr1, wr2⟩ := HG.out.write hq9 (oneB_len at_)
      have gW := (HG.out.ofWrite (q : Int) (oneB_len at_)).1
      have cW := (HG.out.ofWrite (q : Int) (oneB_len at_)).2
      have KW := write_any hd2 (by omega) (q : Int) (some ⟨g2, 0, none⟩) 256 256 (oneB at_) (oneB_len at_) o2.reads (fun a e hx => by injection e with e; subst e; have := hd1.out.inside g2 hx; omega)
      rw [wr2] at KW
      have KW := Lib.hid KW
      have B2 := Lib.hid (B1.out.trans (b2.mono B1.out.size))
      have hf2 := Lib.hid (hf1.out.below b2)
      clear wr1 wr2 hd2 b2 o2
      go_wp2_with fail
      rw [HQ.out]
      refine KW.out.mono ?_
      rintro e3 w3 ⟨rfl, h3, f3⟩
      have hf3 := hf2.out.frm f3 hap.out
      have B3 := B2.out.trans (f3.below h3.based B2.out.size)
      have KS := sync_any h3 (by omega)
      rw [gW.sync.2] at KS
      have KS := Lib.hid KS
      have hf3 := Lib.hid hf3
      have B3 := Lib.hid B3
      have h3' := Lib.hid h3
      clear h3 f3 KW
      go_wp2_with fail
      refine KS.out.mono ?_
      rintro e4 w4 ⟨rfl, h4, f4⟩
      have hf4 := hf3.out.frm f4 hap.out
      have B4 := B3.out.trans (f4.below h4.based B3.out.size)
      have KP := power_any h4 B m e fs HFL.out hfe HFM.out ((show RB w B fs from hfr).below B4) (fun hne ad e hx => by
        rcases hfr with e' | ⟨ad', e', hc⟩
        · exact absurd e' hne
        · rw [e] at e'
          injection e' with e'
          subst e'
          have hp : 0 < fs.length := by cases hh : fs with
            | nil => exact absurd hh hne
            | cons => simp
          have := lt_of_cell (hc 0 _ (List.getElem?_eq_getElem hp))
          rw [Addr.add_nought] at this
          have := h4.based _ hx
          omega)
      have KP := Lib.hid KP
      have hf4 := Lib.hid hf4
      have B4 := Lib.hid B4
      obtain ⟨T1, T2, T3⟩ := HG.out.three hq9 (oneB_len at_) fs
      have T1 := Lib.hid T1
      have T2 := Lib.hid T2
      clear h4 f4 KS
      go_wp2_with fail
      refine KP.out.mono ?_
      rintro e5 w5 ⟨rfl, h5, f5⟩
      have hf5 := Lib.hid (hf4.out.frm f5 hap.out)
      have B5 := Lib.hid (B4.out.trans (f5.below h5.based B4.out.size))
      have h5 := Lib.hid h5
      generalize (s.write (q : Int) (oneB at_)).sync.power fs = s' at *
      clear f5 KP
      go_wp2
      obtain ⟨BB, hBB⟩ : ∃ b, b = wr.heap.size := ⟨_, rfl⟩
      rw [← hBB] at hf5
      clear hBB
      go_loopw [11] (fun i wr' => Rel2 w.heap.size F F' BB s' s w i wr') (fun i _ => 9 - (RowKit.intOf i).toNat)
      case atStart => exact ⟨0, by omega, rfl, h5.out, hf5.out, B5.out⟩
      case round =>
        obtain ⟨j, hj9, rfl, hd', hf', hb'⟩ := hrel
        have j0 : 0 ≤ (j : Int) := by omega
        have HD' := Lib.hid hd'
        have HF' := Lib.hid hf'
        have HB' := Lib.hid hb'
        clear hd' hf' hb'
        by_cases hlt' : j < 9
        · have jj : (j : Int) < 9 := by omega
          have K1 := read_any HD'.out (j : Int)
          have yl := Dk.at_len HF'.out.ok (n := j) (by rw [HG.out.len]; exact hlt')
          have K2 := Lib.hid (show ∀ W, DkAt BB F' W s → Calls Try.prog 15 #[.pointer (some ⟨F'.b, 0, none⟩), .int .i64 (j : Int)] W fun e w' => ∃ A, e = .returned (.tuple #[.slice A 256 256, .int .i64 0]) ∧ RB w' A (s.at_ j) ∧ Below W.heap.size W w' from fun W hW => by
            have := read_any hW (j : Int)
            rw [HG.out.reads hlt', HG.out.fault0 hlt', yl] at this
            exact this)
          have YL := Lib.hid yl
          rw [T3.reads hlt', T3.fault0 hlt', T1.out j hlt'] at K1
          by_cases hjq : j = q
          · subst hjq
            rw [if_pos rfl, oneB_len] at K1
            have K1 := Lib.hid K1
            have hq0 : ((j : Int) != (j : Int)) = false := by simp
            have hq1 : ((j : Int) == (j : Int)) = true := by simp
            clear yl
            go_wp2_with fail
            refine K1.out.mono ?_
            rintro e6 w6 ⟨A6, rfl, r6, b6⟩
            have K2' := Lib.hid (K2.out w6 (HF'.out.below b6))
            have r6 := Lib.hid r6
            have B6 := Lib.hid (HB'.out.trans (b6.mono HB'.out.size))
            have hd6 := Lib.hid (HD'.out.below b6)
            have hf6 := Lib.hid (HF'.out.below b6)
            clear b6 K2
            go_wp2_with fail
            refine K2'.out.mono ?_
            rintro e7 w7 ⟨A7, rfl, r7, b7⟩
            have B7 := Lib.hid (B6.out.trans (b7.mono B6.out.size))
            have hd7 := Lib.hid (hd6.out.below b7)
            have hf7 := Lib.hid (hf6.out.below b7)
            have r67 := Lib.hid (r6.out.below b7)
            have cv1 := run_str w7.drew A6 256 256 (oneB at_) (oneB_len _) r67.out.drew
            have HFu := Lib.hid (full_drew at_ w7)
            have ol := Lib.hid (oneB_len at_)
            have HCV := Lib.hid (show ∀ w8 g, Below w7.heap.size w7 w8 → OB w7.heap.size w8 (.slice (some ⟨g, 0, none⟩) 256 256) (oneB at_) → (convert 32 9 (.slice A6 256 256)).run Try.prog w8 = .ok (.string (str (oneB at_))) w8 ∧ (convert 32 9 (.slice (some ⟨g, 0, none⟩) 256 256)).run Try.prog w8 = .ok (.string (str (oneB at_))) w8 from fun w8 g hb ho =>
              ⟨run_str w8 A6 256 256 (oneB at_) (oneB_len _) (r67.out.below hb), run_str w8 (some ⟨g, 0, none⟩) 256 256 (oneB at_) (oneB_len _) ho.reads⟩)
            clear b7 r7 K2'
            generalize oneB at_ = L at *
            go_wp2
            refine wp_region_noPanic ?_
            refine wp_region_any (by kernel_rfl) ?_
            change wpAny _ _ _ _ _ _ _ (World.drew _)
            have HS := cv1
            refine wpAny_of_held (S := fun w' => (convert 32 9 (.slice A6 256 256)).run Try.prog w' = .ok (.string (str L)) w') _ _ _ _ ?_
            refine takeH 0 100 (v := ?_) rfl rfl (by kernel_rfl) (by kernel_rfl) (by kernel_rfl) (fun _ _ _ h => h) HS (by rfl) ?_ ?_
            rotate_left
            · intro w' hSw
              go_simp
              try (with_reducible rfl)
            simp only [Act.put, List.setIfInBounds_toArray, List.set_cons_zero, List.set_cons_succ]
            refine takeH 1 101 (v := ?_) rfl rfl (by kernel_rfl) (by kernel_rfl) (by kernel_rfl) (fun _ _ _ h => h) HS (by rfl) ?_ ?_
            rotate_left
            · intro w' hSw
              go_simp
              try (with_reducible rfl)
            simp only [Act.put, List.setIfInBounds_toArray, List.set_cons_zero, List.set_cons_succ]
            refine takeH 2 102 (v := ?_) rfl rfl (by kernel_rfl) (by kernel_rfl) (by kernel_rfl) (fun _ _ _ h => h) HS (by rfl) ?_ ?_
            rotate_left
            · intro w' hSw
              go_simp
              try (with_reducible rfl)
            simp only [Act.put, List.setIfInBounds_toArray, List.set_cons_zero, List.set_cons_succ]
            refine takeH 3 103 (v := ?_) rfl rfl (by kernel_rfl) (by kernel_rfl) (by kernel_rfl) (fun _ _ _ h => h) HS (by rfl) ?_ ?_
            rotate_left
            · intro w' hSw
              go_simp
              try (with_reducible rfl)
            simp only [Act.put, List.setIfInBounds_toArray, List.set_cons_zero, List.set_cons_succ]
            refine takeH 4 104 (v := ?_) rfl rfl (by kernel_rfl) (by kernel_rfl) (by kernel_rfl) (fun _ _ _ h => h) HS (by rfl) ?_ ?_
            rotate_left
            · intro w' hSw
              go_simp
              try (with_reducible rfl)
            simp only [Act.put, List.setIfInBounds_toArray, List.set_cons_zero, List.set_cons_succ]
            refine takeH 5 105 (v := ?_) rfl rfl (by kernel_rfl) (by kernel_rfl) (by kernel_rfl) (fun _ _ _ h => h) HS (by rfl) ?_ ?_
            rotate_left
            · intro w' hSw
              go_simp
              try (with_reducible rfl)
            simp only [Act.put, List.setIfInBounds_toArray, List.set_cons_zero, List.set_cons_succ]
            refine takeH 6 106 (v := ?_) rfl rfl (by kernel_rfl) (by kernel_rfl) (by kernel_rfl) (fun _ _ _ h => h) HS (by rfl) ?_ ?_
            rotate_left
            · intro w' hSw
              go_simp
              try (with_reducible rfl)
            simp only [Act.put, List.setIfInBounds_toArray, List.set_cons_zero, List.set_cons_succ]
            refine takeH 7 107 (v := ?_) rfl rfl (by kernel_rfl) (by kernel_rfl) (by kernel_rfl) (fun _ _ _ h => h) HS (by rfl) ?_ ?_
            rotate_left
            · intro w' hSw
              go_simp
              try (with_reducible rfl)
            simp only [Act.put, List.setIfInBounds_toArray, List.set_cons_zero, List.set_cons_succ]
            refine takeH 8 108 (v := ?_) rfl rfl (by kernel_rfl) (by kernel_rfl) (by kernel_rfl) (fun _ _ _ h => h) HS (by rfl) ?_ ?_
            rotate_left
            · intro w' hSw
              go_simp
              try (with_reducible rfl)
            simp only [Act.put, List.setIfInBounds_toArray, List.set_cons_zero, List.set_cons_succ]
            refine takeH 9 109 (v := ?_) rfl rfl (by kernel_rfl) (by kernel_rfl) (by kernel_rfl) (fun _ _ _ h => h) HS (by rfl) ?_ ?_
            rotate_left
            · intro w' hSw
              go_simp
              try (with_reducible rfl)
            simp only [Act.put, List.setIfInBounds_toArray, List.set_cons_zero, List.set_cons_succ]
            refine takeH 10 110 (v := ?_) rfl rfl (by kernel_rfl) (by kernel_rfl) (by kernel_rfl) (fun _ _ _ h => h) HS (by rfl) ?_ ?_
            rotate_left
            · intro w' hSw
              go_simp
              try (with_reducible rfl)
            simp only [Act.put, List.setIfInBounds_toArray, List.set_cons_zero, List.set_cons_succ]
            refine takeHn 11 111 rfl rfl (by kernel_rfl) (by kernel_rfl) (by kernel_rfl) (fun _ _ _ h => h) HS (by rfl) ?_
            simp only [Act.put, List.setIfInBounds_toArray, List.set_cons_zero, List.set_cons_succ]
            refine takeHn 12 112 rfl rfl (by kernel_rfl) (by kernel_rfl) (by kernel_rfl) (fun _ _ _ h => h) HS (by rfl) ?_
            simp only [Act.put, List.setIfInBounds_toArray, List.set_cons_zero, List.set_cons_succ]
            refine takeHn 13 113 rfl rfl (by kernel_rfl) (by kernel_rfl) (by kernel_rfl) (fun _ _ _ h => h) HS (by rfl) ?_
            simp only [Act.put, List.setIfInBounds_toArray, List.set_cons_zero, List.set_cons_succ]
            refine takeHn 14 114 rfl rfl (by kernel_rfl) (by kernel_rfl) (by kernel_rfl) (fun _ _ _ h => h) HS (by rfl) ?_
            simp only [Act.put, List.setIfInBounds_toArray, List.set_cons_zero, List.set_cons_succ]
            refine takeHn 15 115 rfl rfl (by kernel_rfl) (by kernel_rfl) (by kernel_rfl) (fun _ _ _ h => h) HS (by rfl) ?_
            simp only [Act.put, List.setIfInBounds_toArray, List.set_cons_zero, List.set_cons_succ]
            refine takeH 16 116 (v := ?_) rfl rfl (by kernel_rfl) (by kernel_rfl) (by kernel_rfl) (fun _ _ _ h => h) HS (by rfl) ?_ ?_
            rotate_left
            · intro w' hSw
              go_simp
              try (with_reducible rfl)
            simp only [Act.put, List.setIfInBounds_toArray, List.set_cons_zero, List.set_cons_succ]
            refine takeH 17 117 (v := ?_) rfl rfl (by kernel_rfl) (by kernel_rfl) (by kernel_rfl) (fun _ _ _ h => h) HS (by rfl) ?_ ?_
            rotate_left
            · intro w' hSw
              go_simp
              try (with_reducible rfl)
            simp only [Act.put, List.setIfInBounds_toArray, List.set_cons_zero, List.set_cons_succ]
            refine takeH 18 118 (v := ?_) rfl rfl (by kernel_rfl) (by kernel_rfl) (by kernel_rfl) (fun _ _ _ h => h) HS (by rfl) ?_ ?_
            rotate_left
            · intro w' hSw
              go_simp
              try (with_reducible rfl)
            simp only [Act.put, List.setIfInBounds_toArray, List.set_cons_zero, List.set_cons_succ]
            refine takeH 19 119 (v := ?_) rfl rfl (by kernel_rfl) (by kernel_rfl) (by kernel_rfl) (fun _ _ _ h => h) HS (by rfl) ?_ ?_
            rotate_left
            · intro w' hSw
              go_simp
              try (with_reducible rfl)
            simp only [Act.put, List.setIfInBounds_toArray, List.set_cons_zero, List.set_cons_succ]
            refine takeH 20 120 (v := ?_) rfl rfl (by kernel_rfl) (by kernel_rfl) (by kernel_rfl) (fun _ _ _ h => h) HS (by rfl) ?_ ?_
            rotate_left
            · intro w' hSw
              go_simp
              try (with_reducible rfl)
            simp only [Act.put, List.setIfInBounds_toArray, List.set_cons_zero, List.set_cons_succ]
            refine takeH 21 121 (v := ?_) rfl rfl (by kernel_rfl) (by kernel_rfl) (by kernel_rfl) (fun _ _ _ h => h) HS (by rfl) ?_ ?_
            rotate_left
            · intro w' hSw
              go_simp
              try (with_reducible rfl)
            simp only [Act.put, List.setIfInBounds_toArray, List.set_cons_zero, List.set_cons_succ]
            refine takeH 22 122 (v := ?_) rfl rfl (by kernel_rfl) (by kernel_rfl) (by kernel_rfl) (fun _ _ _ h => h) HS (by rfl) ?_ ?_
            rotate_left
            · intro w' hSw
              go_simp
              try (with_reducible rfl)
            simp only [Act.put, List.setIfInBounds_toArray, List.set_cons_zero, List.set_cons_succ]
            refine takeH 23 123 (v := ?_) rfl rfl (by kernel_rfl) (by kernel_rfl) (by kernel_rfl) (fun _ _ _ h => h) HS (by rfl) ?_ ?_
            rotate_left
            · intro w' hSw
              go_simp
              try (with_reducible rfl)
            simp only [Act.put, List.setIfInBounds_toArray, List.set_cons_zero, List.set_cons_succ]
            refine takeH 24 124 (v := ?_) rfl rfl (by kernel_rfl) (by kernel_rfl) (by kernel_rfl) (fun _ _ _ h => h) HS (by rfl) ?_ ?_
            rotate_left
            · intro w' hSw
              go_simp
              try (with_reducible rfl)
            simp only [Act.put, List.setIfInBounds_toArray, List.set_cons_zero, List.set_cons_succ]
            refine takeH 25 125 (v := ?_) rfl rfl (by kernel_rfl) (by kernel_rfl) (by kernel_rfl) (fun _ _ _ h => h) HS (by rfl) ?_ ?_
            rotate_left
            · intro w' hSw
              go_simp
              try (with_reducible rfl)
            simp only [Act.put, List.setIfInBounds_toArray, List.set_cons_zero, List.set_cons_succ]
            clear HS
            refine wpAnyH_ready (rs := [26]) (by kernel_rfl) (by simp) ?_
            refine AllReadyH.cons rfl (fun K hK => ?_) AllReadyH.nil
            go_simp
            refine HFu.out.mono ?_
            rintro e8 w8 ⟨g8, rfl, hg8, ho8, hb8⟩
            obtain ⟨HS, HT⟩ := HCV.out w8 g8 hb8 ho8
            refine hK _ _ HS (fun _ => ?_)
            clear hK K
            refine wpAnyH_ready (rs := [27]) (by kernel_rfl) (by simp) ?_
            refine AllReadyH.cons rfl (fun K hK => ?_) AllReadyH.nil
            go_simp
            refine hK _ _ HS (fun _ => ?_)
            clear hK K
            refine takeH 28 128 (v := ?_) rfl rfl (by kernel_rfl) (by kernel_rfl) (by kernel_rfl) (fun _ _ _ h => h) HS (by rfl) ?_ ?_
            rotate_left
            · intro w' hSw
              go_simp
              try (with_reducible rfl)
            simp only [Act.put, List.setIfInBounds_toArray, List.set_cons_zero, List.set_cons_succ]
            refine takeH 29 129 (v := ?_) rfl rfl (by kernel_rfl) (by kernel_rfl) (by kernel_rfl) (fun _ _ _ h => h) HS (by rfl) ?_ ?_
            rotate_left
            · intro w' hSw
              go_simp
              try (with_reducible rfl)
            simp only [Act.put, List.setIfInBounds_toArray, List.set_cons_zero, List.set_cons_succ]
            refine takeH 30 130 (v := ?_) rfl rfl (by kernel_rfl) (by kernel_rfl) (by kernel_rfl) (fun _ _ _ h => h) HS (by rfl) ?_ ?_
            rotate_left
            · intro w' hSw
              go_simp
              try (with_reducible rfl)
            simp only [Act.put, List.setIfInBounds_toArray, List.set_cons_zero, List.set_cons_succ]
            refine wpAnyH_done (by kernel_rfl) ?_ _
            refine NoPanic.normal ?_
            clear HS HT
            go_wp2
            go_roundw
            case rel => exact ⟨j + 1, by omega, by go_num, hd7.out.below hb8, hf7.out.below hb8, B7.out.trans (hb8.mono B7.out.size)⟩
            case measure => simp [RowKit.intOf]; omega
          · rw [if_neg hjq, YL.out] at K1
            have K1 := Lib.hid K1
            have hq0 : ((j : Int) != (q : Int)) = true := by rw [bne_iff_ne]; omega
            have hq1 : ((j : Int) == (q : Int)) = false := by simp; omega
            clear yl
            go_wp2_with fail
            refine K1.out.mono ?_
            rintro e6 w6 ⟨A6, rfl, r6, b6⟩
            have K2' := Lib.hid (K2.out w6 (HF'.out.below b6))
            have r6 := Lib.hid r6
            have B6 := Lib.hid (HB'.out.trans (b6.mono HB'.out.size))
            have hd6 := Lib.hid (HD'.out.below b6)
            have hf6 := Lib.hid (HF'.out.below b6)
            clear b6 K2
            go_wp2_with fail
            refine K2'.out.mono ?_
            rintro e7 w7 ⟨A7, rfl, r7, b7⟩
            have B7 := Lib.hid (B6.out.trans (b7.mono B6.out.size))
            have hd7 := Lib.hid (hd6.out.below b7)
            have hf7 := Lib.hid (hf6.out.below b7)
            have r67 := r6.out.below b7
            generalize s.at_ j = y at *
            have cv1 : ∀ nq, (convert 32 9 (.slice A6 256 256)).run Try.prog (w7.drewN nq) = .ok (.string (str y)) (w7.drewN nq) := fun nq => run_str _ A6 256 256 y YL.out (r67.drewN nq)
            have cv2 : ∀ nq, (convert 32 9 (.slice A7 256 256)).run Try.prog (w7.drewN nq) = .ok (.string (str y)) (w7.drewN nq) := fun nq => run_str _ A7 256 256 y YL.out (r7.drewN nq)
            clear b7 r7 K2' r67
            go_wp2
            go_quiet (fail)
            go_wp2
            go_roundw
            case rel => exact ⟨j + 1, by omega, by go_num, hd7.out.drewN _, hf7.out.drewN _, ⟨B7.out.os, B7.out.tape, B7.out.output, B7.out.size, B7.out.block⟩⟩
            case measure => simp [RowKit.intOf]; omega
        · obtain rfl : j = 9 := by omega
          have Q1 := Lib.hid (calls_any HD'.out)
          have Q2 := Lib.hid (calls_any HF'.out)
          rw [T2.out] at Q1
          have hcl0 : 0 ≤ (s.calls : Int) := by omega
          have hcl1 : (s.calls : Int) ≤ 40 := by omega
          have hcc : ((s.calls : Int) + 2 == ((s.calls + 2 : Nat) : Int)) = true := by simp
          go_wp2_with (first
            | (go_at_call_of 20 (Value.pointer (some ⟨F.b, 0, none⟩)); refine Q1.out.mono ?_; rintro e w' ⟨rfl, rfl⟩)
            | (go_at_call_of 20 (Value.pointer (some ⟨F'.b, 0, none⟩)); refine Q2.out.mono ?_; rintro e w' ⟨rfl, rfl⟩)
            | (go_at_call 7; refine (awake_any _).mono ?_; rintro e w6 ⟨rfl, hb6⟩)
            | fail)
          go_ret
          exact ⟨rfl, HB'.out.trans (hb6.mono HB'.out.size)⟩
end Go.Proofs.Ytpoodoikjlneaaa.sectorApart
