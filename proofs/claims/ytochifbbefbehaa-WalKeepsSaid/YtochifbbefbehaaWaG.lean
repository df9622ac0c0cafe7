/- The package wal: Sync, Restart. -/
import Derived.Test.YtochifbbefbehaaWaF
namespace Go.Proofs.Ytochifbbefbehaa
open Go.RowKit
set_option linter.unusedVariables false
set_option linter.unusedSimpArgs false
theorem LgAt.more {base : Nat} {F : Ft} {G : Nat} {v5 v6 : Value} {Y : Nat → Prop} {V : World} {d : Dk} {g : Lg} (dk : DkAt base F V d) (h : LgAt base F G v5 v6 Y V g) (hbase : base ≤ V.heap.size) {A : Option Addr} {m c : Nat} {M : List (List UInt8)} (hm : M.length = m) (hr : RG CR.str V A M) (hb : g.recs.length + m ≤ 1000000) :
    ∀ ty, ∃ v' w', (Builtin.append_ #[31, 31] ty #[v5, .slice A m c]).run Try.prog V = .ok v' w' ∧ w'.cell? ⟨G, 5, none⟩ = some v5 ∧ w'.frozen? ⟨G, 5, none⟩ = false ∧ (∃ A n c, v' = .slice A n c) ∧
      LgAt base F G v' v6 Y (w'.setCell ⟨G, 5, none⟩ v') { g with recs := g.recs ++ M } ∧ DkAt base F (w'.setCell ⟨G, 5, none⟩ v') d ∧ Frm (fun b => b = G ∨ v5.ownBlock = some b) V (w'.setCell ⟨G, 5, none⟩ v') ∧ ∀ b, v'.ownBlock = some b → v5.ownBlock = some b ∨ V.heap.size ≤ b := by
  intro ty
  obtain ⟨v', w', a1, a2, a3, a4, a5⟩ := run_append_G (P := Try.prog) tgS ty h.recs c hm hr (Apart.flat str_flat) hb hbase
  have hGl := h.lt
  have oth : ∀ b, b < V.heap.size → v5.ownBlock ≠ some b → w'.heap[b]? = V.heap[b]? := fun b h1 h2 => a4.block b h1 fun e => h2 e.symm
  have hcg : w'.heap[G]? = some (.cells (lgCells F g v5 v6) 58 (0, 0)) := (oth G hGl fun e => (h.rg G e).1 rfl).trans h.cells
  have hown : ∀ b, v'.ownBlock = some b → v5.ownBlock = some b ∨ V.heap.size ≤ b := fun b hb => by
    rcases a5 with a5 | a5
    · exact .inl (by rw [← a5]; exact hb)
    · rw [a5] at hb
      injection hb with hb
      exact .inr (by omega)
  have fr : Frm (fun b => b = G ∨ v5.ownBlock = some b) V w' := Frm.grown a4 fun k hk => .inr hk
  have hsz := a4.size
  have fs := fr.trans (Frm.setCell w' ⟨G, 5, none⟩ v' (X := fun b => b = G ∨ v5.ownBlock = some b) (.inl rfl))
  refine ⟨v', w', a1, cell_of_row _ _ 5 _ _ _ hcg, by simp [World.frozen?, hcg], ?_, lgAt_set (g' := { g with recs := g.recs ++ M }) h.gb h.nf h.ny hcg 5 v' rfl a2 (fun b hb => ?_) (h.wait.keep fun b hb => oth b (h.yb b hb).2.1 fun e => (h.rg b e).2.2 hb) (fun b hb => ⟨(h.yb b hb).1, by have := (h.yb b hb).2.1; omega, (h.yb b hb).2.2⟩), dk.frm fs (fun k hk e => ?_), fs, hown⟩
  · obtain ⟨A', c', e, _⟩ := a2.rg
    exact ⟨_, _, _, e⟩
  · rcases hown b hb with e | e
    · exact h.rg b e
    · exact ⟨by omega, fun hf => by have := dk.inside b hf; omega, fun hy => by have := (h.yb b hy).2.1; omega⟩
  · rcases e with rfl | e
    · exact h.nf hk
    · exact (h.rg k e).2.1 hk
theorem tooBig_no {L : List (List UInt8)} (h : ∀ t ∈ L, t.length ≤ 238) : tooBigP L = false := by
  unfold tooBigP
  rw [List.any_eq_false]
  intro t ht
  have := h t ht
  simp
  omega
theorem wsSecs_256 (e a : Nat) (G : List (List (List UInt8))) (h : ∀ g ∈ G, wsSize g ≤ 239) : ∀ x ∈ wsSecs e a G, x.length = 256 := by
  intro x hx
  obtain ⟨k, hk, e1⟩ := List.getElem_of_mem hx
  have h2 := wsSecs_at e a G k
  rw [List.getElem?_eq_getElem hk, e1] at h2
  have hkl : k < G.length := by rw [wsSecs_len] at hk; exact hk
  rw [List.getElem?_eq_getElem hkl] at h2
  simp only [Option.map_some, Option.some.injEq] at h2
  rw [h2]
  exact wsSec_len _ _ _ (h _ (List.getElem_mem hkl))
set_option maxRecDepth 100000 in
set_option maxHeartbeats 2000000 in
theorem waSync_any {base : Nat} {F : Ft} {G : Nat} {Z : Nat → Prop} {W : World} {d : Dk} {g : Lg} (h : LW base F G Z W d g) (hbase : base ≤ W.heap.size) (hZ : ∀ b, Z b → b < W.heap.size) (hcalls : d.calls ≤ 100000) (hn : g.wt.length ≤ 500) (hn2 : g.recs.length ≤ 500) :
    Calls Try.prog 9 #[.pointer (some ⟨G, 0, none⟩)] W fun e w' => e = .returned (.int .i64 (syncE d g : Int)) ∧ Left base F G Z W (syncD d g) (syncG d g) w' := by
  have L0 := Lib.hid (Frm.of_drewN h 0)
  have LB := Lib.hid (show ∀ V, Below W.heap.size W V → Left base F G Z W d g V from fun V hb => ⟨h.below hb, Frm.of_below hb⟩)
  obtain ⟨dk, ok, v5, v6, Y, lg, hz⟩ := h
  have KF := Lib.hid (waFault_any lg)
  by_cases h0 : g.fault ≠ 0
  · have e1 : syncE d g = g.fault := by unfold syncE; rw [if_pos h0]
    have e2 : syncD d g = d := by unfold syncD; rw [if_pos (.inl h0)]
    have e3 : syncG d g = g := by unfold syncG; rw [if_pos (.inl h0)]
    have h0I : ¬ ((g.fault : Int) = 0) := by omega
    rw [e1, e2, e3]
    clear lg dk ok hz e1 e2 e3 h0
    generalize g.fault = ff at *
    go_enter Try.func9, Try.ntmps9
    go_wp2_with (first | (go_at_call 25; refine KF.out.mono ?_; rintro e w' ⟨rfl, rfl⟩) | fail)
    go_ret
    exact ⟨rfl, L0.out⟩
  have h0 : g.fault = 0 := by omega
  rw [h0] at KF
  have KW := Lib.hid (waWaits_any lg (by omega))
  by_cases hw : g.wt = []
  · have e1 : syncE d g = 0 := by unfold syncE; rw [if_neg (by omega), if_pos hw]
    have e2 : syncD d g = d := by unfold syncD; rw [if_pos (.inr hw)]
    have e3 : syncG d g = g := by unfold syncG; rw [if_pos (.inr hw)]
    rw [e1, e2, e3]
    rw [hw] at KW
    clear lg dk ok hz e1 e2 e3 h0
    go_enter Try.func9, Try.ntmps9
    go_wp2_with (first
      | (go_at_call 25; refine KF.out.mono ?_; rintro e w0 ⟨rfl, rfl⟩)
      | (go_at_call 22; refine KW.out.mono ?_; rintro e w1 ⟨v1, rfl, o1, b1⟩; obtain ⟨A1, c1, rfl, _⟩ := o1.rg; have B1 := Lib.hid b1; clear o1 b1)
      | fail)
    go_ret
    exact ⟨rfl, LB.out _ B1.out⟩
  have hcf : g.bad = false ∧ g.closed = false := by
    unfold Lg.fault at h0
    split at h0
    · cases h0
    · rename_i hb
      constructor
      · cases e : g.bad with
        | false => rfl
        | true => exact absurd (.inl e) hb
      · cases e : g.closed with
        | false => rfl
        | true => exact absurd (.inr e) hb
  have hfit := ok.fits hcf.2
  have hwr := ok.wr
  have hct := ok.cnt
  have he1 := ok.ep1
  have he2 := ok.ep2
  have hpk : packE (g.epoch : Int) (g.written : Int) g.wt = 0 := packE_ok ⟨⟨by omega, by omega⟩, by omega, by omega⟩ (tooBig_no ok.small)
  have hpr : packR (g.epoch : Int) (g.written : Int) g.wt = g.secs := by
    unfold packR
    rw [if_pos hpk, Int.toNat_natCast, Int.toNat_natCast]
    rfl
  have hsl : g.secs.length = (grp g.wt).length := wsSecs_len _ _ _
  have hs256 : ∀ x ∈ g.secs, x.length = 256 := wsSecs_256 _ _ _ (grp_size ok.small)
  have hgl := grp_len g.wt
  have hwl : 0 < g.wt.length := List.length_pos_iff.2 hw
  have KP := Lib.hid (show ∀ V A c, RG CR.str V A g.wt → g.wt.length ≤ c → c ≤ maxLen → Calls Try.prog 26 #[.int .i64 (g.epoch : Int), .int .i64 (g.written : Int), .slice A g.wt.length c] V fun x w' => ∃ A', x = .returned (.tuple #[.slice A' g.secs.length g.secs.length, .int .i64 0]) ∧ RG KB w' A' g.secs ∧ NewR KB V.heap.size w' A' g.secs ∧ Below V.heap.size V w' from fun V A c hr h1 h2 => by
    have := pack_full A g.wt.length c g.wt (g.epoch : Int) (g.written : Int) V rfl (by omega) h1 h2 (fun t ht => by have := ok.small t ht; omega) hr.rs
    refine this.mono ?_
    rintro x w' ⟨A', rfl, o, nr, b⟩
    rw [hpk, hpr] at *
    obtain ⟨A2, c2, e2, _, _, r2, _⟩ := o.rg
    injection e2 with e2
    subst e2
    exact ⟨A', rfl, r2, nr, b⟩)
  have CC := Lib.hid (show ∀ V, Below W.heap.size W V → V.cell? ⟨G, 3, none⟩ = some (.int .i64 (g.epoch : Int)) ∧ V.cell? ⟨G, 4, none⟩ = some (.int .i64 (g.written : Int)) from fun V hb => by
    have := lg.keep hb.size fun b hb' => hb.block b (ow_lt dk lg (.inr hb')).2
    exact ⟨this.c3, this.c4⟩)
  have KWR := Lib.hid (show ∀ V A, Below W.heap.size W V → RG KB V A g.secs → NewR KB W.heap.size V A g.secs → Calls Try.prog 27 #[.pointer (some ⟨G, 0, none⟩), .slice A g.secs.length g.secs.length] V fun e w' => e = .returned (.int .i64 ((syncR d g).2 : Int)) ∧ DkAt base F w' (syncR d g).1 ∧ LgAt base F G v5 v6 Y w' { g with bad := decide ((syncR d g).2 ≠ 0) } ∧ Frm (fun b => F.has b ∨ b = G) V w' from fun V A hb hr hnr => by
    exact waWrite_any (dk.below hb) (lg.keep hb.size fun b hb' => hb.block b (ow_lt dk lg (.inr hb')).2) hcalls hcf.1 A _ _ g.secs rfl (by omega) hr (fun b hb' hf => by have := hnr b hb'; have := dk.inside b hf; omega) hs256 ok)
  have e1 : syncE d g = (syncR d g).2 := by unfold syncE; rw [if_neg (by omega), if_neg hw]
  have e2 : syncD d g = (syncR d g).1 := by unfold syncD; rw [if_neg (by rintro (h | h); omega; exact hw h)]
  have e3 : syncG d g = if (syncR d g).2 = 0 then { g with written := g.written + (grp g.wt).length, recs := g.recs ++ g.wt, wt := [] } else { g with bad := true } := by unfold syncG; rw [if_neg (by rintro (h | h); omega; exact hw h)]
  have ok' := syncG_ok (d := d) ok
  rw [e1, e2]
  by_cases hE : (syncR d g).2 = 0
  · rw [if_pos hE] at e3
    have hNI : ((g.written : Int) + (g.secs.length : Int)) = ((g.written + (grp g.wt).length : Nat) : Int) := by omega
    have FIN := Lib.hid (show ∀ V w3 A1 c1, Below W.heap.size W V → RG CR.str V A1 g.wt → (∀ ad, A1 = some ad → W.heap.size ≤ ad.block) → DkAt base F w3 (syncR d g).1 → LgAt base F G v5 v6 Y w3 { g with bad := decide ((syncR d g).2 ≠ 0) } → Frm (fun b => F.has b ∨ b = G) V w3 →
        (w3.cell? ⟨G, 4, none⟩ = some (.int .i64 (g.written : Int)) ∧ w3.frozen? ⟨G, 4, none⟩ = false ∧ (w3.setCell ⟨G, 4, none⟩ (.int .i64 ((g.written : Int) + (g.secs.length : Int)))).cell? ⟨G, 5, none⟩ = some v5 ∧
        ∀ ty, ∃ v' w', (Builtin.append_ #[31, 31] ty #[v5, .slice A1 g.wt.length c1]).run Try.prog (w3.setCell ⟨G, 4, none⟩ (.int .i64 ((g.written : Int) + (g.secs.length : Int)))) = .ok v' w' ∧ w'.cell? ⟨G, 5, none⟩ = some v5 ∧ w'.frozen? ⟨G, 5, none⟩ = false ∧ (∃ A n c, v' = .slice A n c) ∧
          (w'.setCell ⟨G, 5, none⟩ v').cell? ⟨G, 6, none⟩ = some v6 ∧ (w'.setCell ⟨G, 5, none⟩ v').frozen? ⟨G, 6, none⟩ = false ∧ Left base F G Z W (syncR d g).1 (syncG d g) ((w'.setCell ⟨G, 5, none⟩ v').setCell ⟨G, 6, none⟩ (.slice none 0 0))) from fun V w3 A1 c1 hb hr hA dk3 lg3 fr => by
      have hd : decide ((syncR d g).2 ≠ 0) = g.bad := by rw [hcf.1]; simp [hE]
      rw [hd] at lg3
      have l3 : LgAt base F G v5 v6 Y w3 g := lg3
      have hr3 : RG CR.str w3 A1 g.wt := (hr.keepF fun b hf => fr.block b (RG.lt hf) (by
        obtain ⟨j, x, ad, cs, _, e, _, _, hb'⟩ := hf
        have h1 := hA ad e
        rcases hb' with rfl | hb'
        · rintro (h | h)
          · have := dk.inside _ h; omega
          · have := lg.lt; omega
        · exact (str_flat _ _ _ _ hb').elim)).1
      have l4 : LgAt base F G v5 v6 Y (w3.setCell ⟨G, 4, none⟩ (.int .i64 ((g.written : Int) + (g.secs.length : Int)))) { g with written := g.written + (grp g.wt).length } := l3.set 4 _ (by rw [hNI]; rfl) l3.recs l3.rg l3.wait
      have f4 : Frm (fun b => F.has b ∨ b = G) V (w3.setCell ⟨G, 4, none⟩ (.int .i64 ((g.written : Int) + (g.secs.length : Int)))) := fr.trans (Frm.setCell w3 ⟨G, 4, none⟩ _ (.inr rfl))
      have dk4 : DkAt base F (w3.setCell ⟨G, 4, none⟩ (.int .i64 ((g.written : Int) + (g.secs.length : Int)))) (syncR d g).1 := dk3.frm (Frm.setCell w3 ⟨G, 4, none⟩ _ (X := fun b => b = G) rfl) fun k hk e => l3.nf (by rw [← e]; exact hk)
      have hr4 : RG CR.str (w3.setCell ⟨G, 4, none⟩ (.int .i64 ((g.written : Int) + (g.secs.length : Int)))) A1 g.wt := (hr3.keepF fun b hf => setCell_else w3 G 4 _ b (by
        obtain ⟨j, x, ad, cs, _, e, _, _, hb'⟩ := hf
        have h1 := hA ad e
        have := lg.lt
        rcases hb' with rfl | hb'
        · omega
        · exact (str_flat _ _ _ _ hb').elim)).1
      refine ⟨l3.c4, l3.fz 4, l4.c5, fun ty => ?_⟩
      obtain ⟨v', w', a1, a2, a3, a4, a5, a6, a7, a8⟩ := l4.more dk4 (by have := hb.size; have := f4.size; omega) (c := c1) rfl hr4 (by show g.recs.length + _ ≤ _; omega) ty
      refine ⟨v', w', a1, a2, a3, a4, a5.c6, a5.fz 6, ?_⟩
      have l6 := a5.set (g' := { g with written := g.written + (grp g.wt).length, recs := g.recs ++ g.wt, wt := [] }) (v6' := .slice none 0 0) 6 (.slice none 0 0) rfl a5.recs a5.rg (by show PW base Y _ _ (grp []); rw [grp_nil]; exact PW.nil)
      have dk6 := a6.frm (Frm.setCell _ ⟨G, 6, none⟩ (.slice none 0 0) (X := fun b => b = G) rfl) fun k hk e => l3.nf (by rw [← e]; exact hk)
      rw [e3] at ok' ⊢
      have gz : ¬ Z G := hz G (.inr (.inl rfl))
      refine ⟨⟨dk6, ok', v', _, Y, l6, fun b hb' => ?_⟩, ?_⟩
      · rcases hb' with hb' | hb' | hb' | hb'
        · exact hz b (.inl hb')
        · exact hz b (.inr (.inl hb'))
        · rcases a8 b hb' with h | h
          · exact hz b (.inr (.inr (.inl h)))
          · intro hzb
            have := hZ b hzb
            have := hb.size
            have := f4.size
            omega
        · exact hz b (.inr (.inr (.inr hb')))
      · have t1 : Frm (fun b => ¬ Z b) W V := Frm.of_below hb
        have t2 : Frm (fun b => ¬ Z b) V (w3.setCell ⟨G, 4, none⟩ (.int .i64 ((g.written : Int) + (g.secs.length : Int)))) := f4.mono fun b hb' hzb => by
          rcases hb' with hb' | hb'
          · exact hz b (.inl hb') hzb
          · exact hz b (.inr (.inl hb')) hzb
        have t3 := a7.mono (Y := fun b => ¬ Z b) fun b hb' hzb => by
          rcases hb' with hb' | hb'
          · exact hz b (.inr (.inl hb')) hzb
          · exact hz b (.inr (.inr (.inl hb'))) hzb
        exact ((t1.trans t2).trans t3).trans (Frm.setCell _ ⟨G, 6, none⟩ _ gz))
    have hEZ := hE
    generalize hR : syncR d g = R at *
    have hsI : ((g.written : Int) + (g.secs.length : Int)) ≤ 1000 := by omega
    have hwlI : ¬ ((g.wt.length : Int) = 0) := by omega
    have HEZ := Lib.hid hEZ
    have HNWR := Lib.hid (show IntKind.i64.wrap ((g.written : Int) + (g.secs.length : Int)) = (g.written : Int) + (g.secs.length : Int) from wrap_few _ (by omega) (by omega))
    rw [hEZ] at KWR
    clear hR e1 e2 e3 ok' h0 hw hE lg dk ok hz hcf hfit hwr hct he1 he2 hpk hpr hsl hs256 hgl L0 LB hNI hEZ
    go_enter Try.func9, Try.ntmps9
    go_wp2_with (first
      | (go_at_call 25; refine KF.out.mono ?_; rintro e w0 ⟨rfl, rfl⟩)
      | (go_at_call 22; refine KW.out.mono ?_; rintro e w1 ⟨v1, rfl, o1, b1⟩; obtain ⟨A1, c1, rfl, hc1, hc2, hr1, hA1⟩ := o1.rg; have HA1 := Lib.hid (fun ad e => (hA1 ad e).2.1); have B1 := Lib.hid b1; have BV := Lib.hid b1.drew; have R1 := Lib.hid (show RG CR.str w1.drew A1 g.wt from hr1.drew); clear o1 b1 hr1 hA1; have cc := CC.out _ BV.out)
      | fail)
    have KP1 := Lib.hid (KP.out _ A1 c1 R1.out hc1 hc2)
    clear hc2
    go_region_held3 (fun V => V.cell? ⟨G, 3, none⟩ = some (.int .i64 (g.epoch : Int)) ∧ V.cell? ⟨G, 4, none⟩ = some (.int .i64 (g.written : Int))) (first | with_reducible assumption | with_reducible exact cc | with_reducible exact cn | fail)
      (first
        | (go_at_call 26; refine KP1.out.mono ?_; rintro e w2 ⟨A2, rfl, r2, n2, b2⟩; have B2 := Lib.hid (BV.out.trans (b2.mono BV.out.size)); have cn := CC.out w2 B2.out; have KW2 := Lib.hid (KWR.out w2 A2 B2.out r2 (fun b hb => Nat.le_trans BV.out.size (n2 b hb))); have R2 := Lib.hid (R1.out.below b2); clear b2 r2 n2)
        | fail)
    all_goals
      clear cc cn
      go_upto_region 13 with (first
        | (go_at_call 27; refine KW2.out.mono ?_; rintro e w3 ⟨rfl, d3, l3, f3⟩; have FN := Lib.hid (FIN.out _ _ A1 c1 B2.out R2.out HA1.out d3 (by rw [HEZ.out]; exact l3) f3); clear d3 l3 f3)
        | fail)
      obtain ⟨c4, f4, c5, tl⟩ := FN.out
      have TL := Lib.hid tl
      clear tl FN
      go_wp2_with (at_builtin; (refine wpList_append_of rfl _ _ rfl _ _ rfl rfl (TL.out _) ?_; rintro v4 w4 ⟨c54, f54, ⟨A4, m4, k4, rfl⟩, c64, f64, lf⟩; have LF := Lib.hid lf; clear lf))
      go_ret
      rw [HEZ.out]
      exact ⟨rfl, LF.out⟩
  · rw [if_neg hE] at e3
    have FIN := Lib.hid (show ∀ V w', Below W.heap.size W V → DkAt base F w' (syncR d g).1 → LgAt base F G v5 v6 Y w' { g with bad := decide ((syncR d g).2 ≠ 0) } → Frm (fun b => F.has b ∨ b = G) V w' → Left base F G Z W (syncR d g).1 (syncG d g) w' from fun V w' hb dk' lg' fr => by
      have hd : decide ((syncR d g).2 ≠ 0) = true := by simp [hE]
      rw [hd] at lg'
      rw [e3] at ok' ⊢
      refine ⟨⟨dk', ok', v5, v6, Y, lg', hz⟩, (Frm.of_below hb).trans (fr.mono fun b hb hzb => ?_)⟩
      rcases hb with hb | hb
      · exact hz b (.inl hb) hzb
      · exact hz b (.inr (.inl hb)) hzb)
    generalize hR : syncR d g = R at *
    have hEI : ¬ ((R.2 : Int) = 0) := by omega
    have hwlI : ¬ ((g.wt.length : Int) = 0) := by omega
    clear hR e1 e2 e3 ok' h0 hw hE lg dk ok hz hcf hfit hwr hct he1 he2 hpk hpr hsl hs256 hgl L0 LB
    go_enter Try.func9, Try.ntmps9
    go_wp2_with (first
      | (go_at_call 25; refine KF.out.mono ?_; rintro e w0 ⟨rfl, rfl⟩)
      | (go_at_call 22; refine KW.out.mono ?_; rintro e w1 ⟨v1, rfl, o1, b1⟩; obtain ⟨A1, c1, rfl, hc1, hc2, hr1, _⟩ := o1.rg; have B1 := Lib.hid b1; have BV := Lib.hid b1.drew; have R1 := Lib.hid (show RG CR.str w1.drew A1 g.wt from hr1.drew); clear o1 b1 hr1; have cc := CC.out _ BV.out)
      | fail)
    have KP1 := Lib.hid (KP.out _ A1 c1 R1.out hc1 hc2)
    clear hc2
    go_region_held3 (fun V => V.cell? ⟨G, 3, none⟩ = some (.int .i64 (g.epoch : Int)) ∧ V.cell? ⟨G, 4, none⟩ = some (.int .i64 (g.written : Int))) (first | with_reducible assumption | with_reducible exact cc | with_reducible exact cn | fail)
      (first
        | (go_at_call 26; refine KP1.out.mono ?_; rintro e w2 ⟨A2, rfl, r2, n2, b2⟩; have B2 := Lib.hid (BV.out.trans (b2.mono BV.out.size)); have cn := CC.out w2 B2.out; have KW2 := Lib.hid (KWR.out w2 A2 B2.out r2 (fun b hb => Nat.le_trans BV.out.size (n2 b hb))); clear b2 r2 n2)
        | fail)
    all_goals
      clear cc cn
      go_wp2_with (first
        | (go_at_call 27; refine KW2.out.mono ?_; rintro e w3 ⟨rfl, d3, l3, f3⟩; have FN := Lib.hid (FIN.out _ _ B2.out d3 l3 f3); clear d3 l3 f3)
        | fail)
      go_ret
      exact ⟨rfl, FN.out⟩
theorem set9 {W : World} {G : Nat} {o0 o1 o2 o3 o4 o5 o6 o7 o8 : Value} {t : TypeId} (h : W.heap[G]? = some (.cells #[o0, o1, o2, o3, o4, o5, o6, o7, o8] t (0, 0))) (a0 a1 a2 a3 a4 a5 a6 a7 a8 : Value) :
    (((((((((W.setCell ⟨G, 0, none⟩ a0).setCell ⟨G, 1, none⟩ a1).setCell ⟨G, 2, none⟩ a2).setCell ⟨G, 3, none⟩ a3).setCell ⟨G, 4, none⟩ a4).setCell ⟨G, 5, none⟩ a5).setCell ⟨G, 6, none⟩ a6).setCell ⟨G, 7, none⟩ a7).setCell ⟨G, 8, none⟩ a8).heap[G]? = some (.cells #[a0, a1, a2, a3, a4, a5, a6, a7, a8] t (0, 0)) ∧ Frm (fun b => b = G) W (((((((((W.setCell ⟨G, 0, none⟩ a0).setCell ⟨G, 1, none⟩ a1).setCell ⟨G, 2, none⟩ a2).setCell ⟨G, 3, none⟩ a3).setCell ⟨G, 4, none⟩ a4).setCell ⟨G, 5, none⟩ a5).setCell ⟨G, 6, none⟩ a6).setCell ⟨G, 7, none⟩ a7).setCell ⟨G, 8, none⟩ a8) := by
  have h0 := heap_setCell_block (i := 0) a0 h
  have h1 := heap_setCell_block (i := 1) a1 h0
  have h2 := heap_setCell_block (i := 2) a2 h1
  have h3 := heap_setCell_block (i := 3) a3 h2
  have h4 := heap_setCell_block (i := 4) a4 h3
  have h5 := heap_setCell_block (i := 5) a5 h4
  have h6 := heap_setCell_block (i := 6) a6 h5
  have h7 := heap_setCell_block (i := 7) a7 h6
  have h8 := heap_setCell_block (i := 8) a8 h7
  refine ⟨h8.trans (by simp), ?_⟩
  have r := Frm.refl (fun b => b = G) W
  exact (((((((((r.trans (Frm.setCell _ ⟨G, 0, none⟩ a0 rfl)).trans (Frm.setCell _ ⟨G, 1, none⟩ a1 rfl)).trans (Frm.setCell _ ⟨G, 2, none⟩ a2 rfl)).trans (Frm.setCell _ ⟨G, 3, none⟩ a3 rfl)).trans (Frm.setCell _ ⟨G, 4, none⟩ a4 rfl)).trans (Frm.setCell _ ⟨G, 5, none⟩ a5 rfl)).trans (Frm.setCell _ ⟨G, 6, none⟩ a6 rfl)).trans (Frm.setCell _ ⟨G, 7, none⟩ a7 rfl)).trans (Frm.setCell _ ⟨G, 8, none⟩ a8 rfl))
set_option maxRecDepth 100000 in
set_option maxHeartbeats 2000000 in
theorem waRestart_any {base : Nat} {F : Ft} {G : Nat} {Z : Nat → Prop} {W : World} {d : Dk} {g : Lg} (h : LW base F G Z W d g) (e : Int) (he : g.restErr e = 0) :
    Calls Try.prog 10 #[.pointer (some ⟨G, 0, none⟩), .int .i64 e] W fun x w' => x = .returned (.int .i64 0) ∧ Left base F G Z W d (g.rest e) w' := by
  obtain ⟨dk, ok, v5, v6, Y, lg, hz⟩ := h
  have ok' := ok.rest e
  have hr : g.rest e = { first := g.first, count := g.count, epoch := e.toNat, written := 0, recs := [], wt := [], closed := false, bad := false } := by unfold Lg.rest; rw [if_pos he]
  have h1 : g.bad = false := by
    cases hb : g.bad with
    | false => rfl
    | true => unfold Lg.restErr at he; rw [if_pos hb] at he; cases he
  have h2 : ¬ e ≤ (g.epoch : Int) := fun h => by unfold Lg.restErr at he; rw [if_neg (by rw [h1]; simp), if_pos h] at he; cases he
  have h3 : ¬ (1099511627776 : Int) < e := fun h => by unfold Lg.restErr at he; rw [if_neg (by rw [h1]; simp), if_neg h2, if_pos h] at he; cases he
  have KN := Lib.hid (waNone_any lg)
  rw [hr]
  rw [hr] at ok'
  obtain ⟨en, rfl⟩ := Int.eq_ofNat_of_zero_le (show 0 ≤ e by omega)
  rw [Int.toNat_natCast] at *
  have hcell := lg.cells
  have hfz := lg.fz
  have c0 := lg.c0; have c1 := lg.c1; have c2 := lg.c2; have c3 := lg.c3; have c4 := lg.c4; have c5 := lg.c5; have c6 := lg.c6; have c7 := lg.c7; have c8 := lg.c8
  have f0 := hfz 0; have f1 := hfz 1; have f2 := hfz 2; have f3 := hfz 3; have f4 := hfz 4; have f5 := hfz 5; have f6 := hfz 6; have f7 := hfz 7; have f8 := hfz 8
  rw [h1] at c8
  have HC := Lib.hid hcell
  clear he hr h1 hfz hcell
  go_enter Try.func10, Try.ntmps10
  go_wp2_with (first
    | (go_at_call 28; refine KN.out.mono ?_; rintro x w1 ⟨rfl, rfl⟩)
    | fail)
  have FIN := Lib.hid (show ∀ V, V.heap[G]? = some (.cells #[.pointer (some ⟨F.b, 0, none⟩), .int .i64 (g.first : Int), .int .i64 (g.count : Int), .int .i64 (en : Int), .int .i64 0, .slice none 0 0, .slice none 0 0, .bool false, .bool false] 58 (0, 0)) → Frm (fun b => b = G) W V → Left base F G Z W d { first := g.first, count := g.count, epoch := en, written := 0, recs := [], wt := [], closed := false, bad := false } V.drew from fun V s1 s2 => by
    have s3 := s2.trans (Frm.drew _ V)
    have dk' := dk.frm s3 fun k hk e => lg.nf (by rw [← e]; exact hk)
    refine ⟨⟨dk', ok', .slice none 0 0, .slice none 0 0, fun _ => False, ⟨lg.gb, lg.nf, id, s1, OG.nil, fun b hb => (by cases hb), ?_, fun b hb => hb.elim⟩, fun b hb => ?_⟩, s3.mono fun b hb => by rw [hb]; exact hz G (.inr (.inl rfl))⟩
    · show PW base _ _ _ (grp [])
      rw [grp_nil]
      exact PW.nil
    · rcases hb with hb | hb | hb | hb
      · exact hz b (.inl hb)
      · exact hz b (.inr (.inl hb))
      · cases hb
      · exact hb.elim)
  have S9 := Lib.hid (set9 HC.out (.pointer (some ⟨F.b, 0, none⟩)) (.int .i64 (g.first : Int)) (.int .i64 (g.count : Int)) (.int .i64 (en : Int)) (.int .i64 0) (.slice none 0 0) (.slice none 0 0) (.bool false) (.bool false))
  clear dk lg hz ok ok'
  go_region
  go_wp2
  go_ret
  exact ⟨rfl, FIN.out _ S9.out.1 S9.out.2⟩
end Go.Proofs.Ytochifbbefbehaa
