/- The package wal: awake. -/
import Derived.Test.YtochifbbefbehaaWaG
import Derived.Test.YtochifbbefbehaaWaQ
import Derived.Test.YtochifbbefbehaaScP
namespace Go.Proofs.Ytochifbbefbehaa
open Go.RowKit
set_option linter.unusedVariables false
set_option linter.unusedSimpArgs false
theorem wrAll_fine : ∀ (S : List (List UInt8)) (d : Dk) (n : Nat), d.off = false → d.fset = false → (∀ x ∈ S, x.length = 256) → n + S.length ≤ d.rows.length → (wrAll d n S).2 = 0 ∧ (wrAll d n S).1.fset = false := by
  intro S
  induction S with
  | nil =>
    intro d n ho hf _ _
    rw [wrAll_nil]
    have hc : d.callErr = 0 := by unfold Dk.callErr; rw [if_neg (by rw [hf]; simp)]
    refine ⟨by show d.syncErr = 0; unfold Dk.syncErr; rw [if_neg (by rw [ho]; simp)]; exact hc, ?_⟩
    show d.sync.fset = false
    unfold Dk.sync
    rw [if_neg (by rw [ho]; simp), dkCall_ok _ hc]
    exact hf
  | cons b r ih =>
    intro d n ho hf hS hn
    have hc : d.callErr = 0 := by unfold Dk.callErr; rw [if_neg (by rw [hf]; simp)]
    have hb := hS b (by simp)
    simp only [List.length_cons] at hn
    have hfa : d.faultAt (n : Int) = 0 := by unfold Dk.faultAt; rw [ho, if_neg (by simp), if_neg (by omega)]
    have he : d.writeErr (n : Int) b = 0 := by unfold Dk.writeErr; rw [if_neg (by omega), if_neg (by omega)]; exact hc
    have hw : d.write (n : Int) b = ({ d with calls := d.calls + 1, left := if d.fset = true then d.left - 1 else d.left } : Dk).put n b := by
      unfold Dk.write
      rw [if_neg (by omega), dkCall_ok _ hc, Int.toNat_natCast]
    rw [wrAll_ok r he]
    exact ih _ _ (by rw [hw]; exact ho) (by rw [hw]; exact hf) (fun x hx => hS x (by simp [hx])) (by rw [hw]; show n + 1 + r.length ≤ d.rows.length; omega)
theorem sync_fine {d : Dk} {g : Lg} {N : Nat} (h : Jn d g N) (hf : d.fset = false) : syncE d g = 0 ∧ (syncD d g).fset = false := by
  have h0 : g.fault = 0 := by unfold Lg.fault; rw [if_neg (by rw [h.bd, h.cl]; simp)]
  by_cases hw : g.wt = []
  · exact ⟨by unfold syncE; rw [if_neg (by omega), if_pos hw], by unfold syncD; rw [if_pos (.inr hw)]; exact hf⟩
  · have hfit := h.ok.fits h.cl
    have hwr := h.ok.wr
    have hff := h.q.fit
    have hll := h.q.len
    have hsl : g.secs.length = (grp g.wt).length := wsSecs_len _ _ _
    have := wrAll_fine g.secs d (g.first + g.written) h.q.off hf (wsSecs_256 _ _ _ (grp_size h.ok.small)) (by omega)
    exact ⟨by unfold syncE; rw [if_neg (by omega), if_neg hw]; exact this.1, by unfold syncD; rw [if_neg (by rintro (h | h); omega; exact hw h)]; exact this.2⟩
/-- A new disk and a new log upon it. -/
theorem zeros_254 : b254 zeros = 0 := by decide
theorem jn_new (N first count e : Nat) (h1 : first + count ≤ N) (h2 : N ≤ 4096) (h3 : count ≤ 256) (h4 : 1 ≤ e) (h5 : e ≤ 200) : Jn (Dk.new (N : Int)) (newG first count e) N := by
  have hr : (Dk.new (N : Int)).rows = List.replicate N zeros := by
    unfold Dk.new
    show List.replicate _ zeros = _
    rw [show (min (max (N : Int) 0) 4096).toNat = N by omega]
  have hz : ∀ i, i < count → b254 ((Dk.new (N : Int)).rows.getD (first + i) []) = 0 := fun i hi => by
    rw [hr, List.getD_eq_getElem?_getD, List.getElem?_replicate, if_pos (by omega)]
    exact zeros_254
  refine ⟨⟨by rw [hr]; simp, rfl, fun _ => rfl, h1, h3, h2, fun i hi => by have := hz i hi; show b254 ((Dk.new (N : Int)).rows.getD (first + i) []) ≤ e; omega⟩, newG_ok h3 (by omega) h4 (by omega), h5, rfl, rfl, ⟨[], rfl, rfl, fun x hx => (by cases hx), fun i x hx => (by simp at hx)⟩, fun i _ hi => by have := hz i hi; show b254 ((Dk.new (N : Int)).rows.getD (first + i) []) < e; omega⟩
/-- Add, where all from B on is the log's. -/
theorem awAdd {B : Nat} {F : Ft} {G : Nat} {w0 W : World} {d : Dk} {g g' : Lg} {s : List UInt8} {e : Nat} {z : ByteArray} (hz : z = str s) (h : LW B F G (fun b => b < B) W d g) (hb : Below B w0 W) (hB : B ≤ w0.heap.size) (he : g.addErr s = e) (hg : g.add s = g') (hs : s.length ≤ 1000) (hn : g.wt.length ≤ 500) :
    Calls Try.prog 14 #[.pointer (some ⟨G, 0, none⟩), .string z] W fun x w' => x = .returned (.int .i64 (e : Int)) ∧ LW B F G (fun b => b < B) w' d g' ∧ Below B w0 w' := by
  subst hz
  have hBW := Nat.le_trans hB hb.size
  refine (waAdd_any h hBW (fun b hb' => Nat.lt_of_lt_of_le hb' hBW) s hs hn).mono ?_
  rintro x w' ⟨rfl, l, f⟩
  rw [he, hg] at *
  exact ⟨rfl, l, hb.trans (f.below (fun k hk => Nat.le_of_not_lt hk) hBW)⟩
theorem awSync {B : Nat} {F : Ft} {G : Nat} {w0 W : World} {d d' : Dk} {g g' : Lg} {e : Nat} (h : LW B F G (fun b => b < B) W d g) (hb : Below B w0 W) (hB : B ≤ w0.heap.size) (he : syncE d g = e) (hd : syncD d g = d') (hg : syncG d g = g') (hc : d.calls ≤ 100000) (hn : g.wt.length ≤ 500) (hn2 : g.recs.length ≤ 500) :
    Calls Try.prog 9 #[.pointer (some ⟨G, 0, none⟩)] W fun x w' => x = .returned (.int .i64 (e : Int)) ∧ LW B F G (fun b => b < B) w' d' g' ∧ Below B w0 w' := by
  have hBW := Nat.le_trans hB hb.size
  refine (waSync_any h hBW (fun b hb' => Nat.lt_of_lt_of_le hb' hBW) hc hn hn2).mono ?_
  rintro x w' ⟨rfl, l, f⟩
  rw [he, hd, hg] at *
  exact ⟨rfl, l, hb.trans (f.below (fun k hk => Nat.le_of_not_lt hk) hBW)⟩
theorem awRest {B : Nat} {F : Ft} {G : Nat} {w0 W : World} {d : Dk} {g g' : Lg} {e : Int} (h : LW B F G (fun b => b < B) W d g) (hb : Below B w0 W) (hB : B ≤ w0.heap.size) (he : g.restErr e = 0) (hg : g.rest e = g') :
    Calls Try.prog 10 #[.pointer (some ⟨G, 0, none⟩), .int .i64 e] W fun x w' => x = .returned (.int .i64 0) ∧ LW B F G (fun b => b < B) w' d g' ∧ Below B w0 w' := by
  have hBW := Nat.le_trans hB hb.size
  refine (waRestart_any h e he).mono ?_
  rintro x w' ⟨rfl, l, f⟩
  rw [hg] at *
  exact ⟨rfl, l, hb.trans (f.below (fun k hk => Nat.le_of_not_lt hk) hBW)⟩
/-- The same, where the log hangs on nothing of Z. -/
theorem awAddZ {B : Nat} {F : Ft} {G : Nat} {Z : Nat → Prop} {W : World} {d : Dk} {g g' : Lg} {s : List UInt8} {e : Nat} {z : ByteArray} (hz : z = str s) (h : LW B F G Z W d g) (hB : B ≤ W.heap.size) (hZ : ∀ b, Z b → b < W.heap.size) (he : g.addErr s = e) (hg : g.add s = g') (hs : s.length ≤ 1000) (hn : g.wt.length ≤ 500) :
    Calls Try.prog 14 #[.pointer (some ⟨G, 0, none⟩), .string z] W fun x w' => x = .returned (.int .i64 (e : Int)) ∧ LW B F G Z w' d g' ∧ Frm (fun b => ¬ Z b) W w' := by
  subst hz he hg
  exact waAdd_any h hB hZ s hs hn
theorem awSyncZ {B : Nat} {F : Ft} {G : Nat} {Z : Nat → Prop} {W : World} {d d' : Dk} {g g' : Lg} {e : Nat} (h : LW B F G Z W d g) (hB : B ≤ W.heap.size) (hZ : ∀ b, Z b → b < W.heap.size) (he : syncE d g = e) (hd : syncD d g = d') (hg : syncG d g = g') (hc : d.calls ≤ 100000) (hn : g.wt.length ≤ 500) (hn2 : g.recs.length ≤ 500) :
    Calls Try.prog 9 #[.pointer (some ⟨G, 0, none⟩)] W fun x w' => x = .returned (.int .i64 (e : Int)) ∧ LW B F G Z w' d' g' ∧ Frm (fun b => ¬ Z b) W w' := by
  subst he hd hg
  exact waSync_any h hB hZ hc hn hn2
theorem awRestZ {B : Nat} {F : Ft} {G : Nat} {Z : Nat → Prop} {W : World} {d : Dk} {g g' : Lg} {e : Int} (h : LW B F G Z W d g) (he : g.restErr e = 0) (hg : g.rest e = g') :
    Calls Try.prog 10 #[.pointer (some ⟨G, 0, none⟩), .int .i64 e] W fun x w' => x = .returned (.int .i64 0) ∧ LW B F G Z w' d g' ∧ Frm (fun b => ¬ Z b) W w' := by
  subst hg
  exact waRestart_any h e he
/-- What is in Z stays: frames of calls that leave Z alone. -/
theorem Frm.z_below {Z : Nat → Prop} {B : Nat} {w w' : World} (h : Frm (fun b => ¬ Z b) w w') (hz : ∀ b, b < B → Z b) (hB : B ≤ w.heap.size) : Below B w w' := h.below (fun k hk => Nat.le_of_not_lt fun h2 => hk (hz k h2)) hB
theorem RG.z_keep {Z : Nat → Prop} {w w' : World} {A : Option Addr} {L : List (List UInt8)} (hr : RG CR.str w A L) (h : Frm (fun b => ¬ Z b) w w') (hz : ∀ ad, A = some ad → Z ad.block) : RG CR.str w' A L :=
  (hr.keepF fun b hb => h.block b (RG.lt hb) fun hn => by
    obtain ⟨j, x, ad, cs, _, e, _, _, hb'⟩ := hb
    rcases hb' with rfl | hb'
    · exact hn (hz ad e)
    · exact str_flat _ _ _ _ hb').1
theorem awRecs {B : Nat} {F : Ft} {G : Nat} {Z : Nat → Prop} {W : World} {d : Dk} {g : Lg} (h : LW B F G Z W d g) {L : List (List UInt8)} (hl : g.recs = L) (hn : g.recs.length ≤ 1000) :
    Calls Try.prog 17 #[.pointer (some ⟨G, 0, none⟩)] W fun e w' => ∃ v, e = .returned v ∧ OG CR.str 9 W.heap.size w' v L ∧ Below W.heap.size W w' := by
  subst hl
  obtain ⟨dk, ok, v5, v6, Y, lg, hz⟩ := h
  exact waRecords_any lg hn
theorem awWaits {B : Nat} {F : Ft} {G : Nat} {Z : Nat → Prop} {W : World} {d : Dk} {g : Lg} (h : LW B F G Z W d g) {L : List (List UInt8)} (hl : g.wt = L) (hn : g.wt.length ≤ 1000) :
    Calls Try.prog 22 #[.pointer (some ⟨G, 0, none⟩)] W fun e w' => ∃ v, e = .returned v ∧ OG CR.str 9 W.heap.size w' v L ∧ Below W.heap.size W w' := by
  subst hl
  obtain ⟨dk, ok, v5, v6, Y, lg, hz⟩ := h
  exact waWaits_any lg hn
theorem awEpoch {B : Nat} {F : Ft} {G : Nat} {Z : Nat → Prop} {W : World} {d : Dk} {g : Lg} (h : LW B F G Z W d g) {n : Nat} (hn : g.epoch = n) : Calls Try.prog 11 #[.pointer (some ⟨G, 0, none⟩)] W fun e w' => e = .returned (.int .i64 (n : Int)) ∧ W = w' := by
  subst hn
  obtain ⟨dk, ok, v5, v6, Y, lg, hz⟩ := h
  exact waEpoch_any lg
theorem awClosed {B : Nat} {F : Ft} {G : Nat} {Z : Nat → Prop} {W : World} {d : Dk} {g : Lg} (h : LW B F G Z W d g) {b : Bool} (hn : g.closed = b) : Calls Try.prog 23 #[.pointer (some ⟨G, 0, none⟩)] W fun e w' => e = .returned (.bool b) ∧ W = w' := by
  subst hn
  obtain ⟨dk, ok, v5, v6, Y, lg, hz⟩ := h
  exact waClosed_any lg
theorem awLeft {B : Nat} {F : Ft} {G : Nat} {Z : Nat → Prop} {W : World} {d : Dk} {g : Lg} (h : LW B F G Z W d g) {n : Nat} (hn : g.left = n) : Calls Try.prog 21 #[.pointer (some ⟨G, 0, none⟩)] W fun e w' => e = .returned (.int .i64 (n : Int)) ∧ LW B F G Z w' d g ∧ Below W.heap.size W w' := by
  subst hn
  have h' := h
  obtain ⟨dk, ok, v5, v6, Y, lg, hz⟩ := h
  refine (waLeft_any lg ok).mono ?_
  rintro e w' ⟨rfl, n, rfl⟩
  exact ⟨rfl, h'.below ⟨rfl, rfl, rfl, Nat.le_refl _, fun _ _ => rfl⟩, ⟨rfl, rfl, rfl, Nat.le_refl _, fun _ _ => rfl⟩⟩
def wag1 : Lg := (newG 1 8 1).add [97]
theorem wag1_is : (newG 1 8 1).addErr [97] = 0 ∧ wag1 = { newG 1 8 1 with wt := [[97]] } := by
  have := addErr_ok (g := newG 1 8 1) (s := [97]) rfl (by decide) (by show (grp ([] ++ [[97]])).length ≤ 8; rw [List.nil_append, grp_single]; decide)
  exact this
noncomputable def wad1 : Dk := syncD (Dk.new 9) wag1
noncomputable def wag2 : Lg := syncG (Dk.new 9) wag1
theorem wag1_jn : Jn (Dk.new 9) wag1 9 := (jn_new 9 1 8 1 (by omega) (by omega) (by omega) (by omega) (by omega)).add [97]
theorem wag1_sync : syncE (Dk.new 9) wag1 = 0 ∧ wag2 = { newG 1 8 1 with written := 1, recs := [[97]] } := by
  have h1 := (sync_fine wag1_jn rfl).1
  refine ⟨h1, ?_⟩
  have hw : wag1 = { newG 1 8 1 with wt := [[97]] } := wag1_is.2
  have h0 : wag1.fault = 0 := by rw [hw]; rfl
  have hne : ¬ wag1.wt = [] := by rw [hw]; simp
  have h2 : (syncR (Dk.new 9) wag1).2 = 0 := by
    have := h1
    unfold syncE at this
    rwa [if_neg (by omega), if_neg hne] at this
  unfold wag2 syncG
  rw [if_neg (by rintro (h | h); omega; exact hne h), if_pos h2, hw]
  show ({ newG 1 8 1 with written := 0 + (grp [[97]]).length, recs := [] ++ [[97]], wt := [] } : Lg) = _
  rw [grp_single]
  rfl
theorem wag3_is : wag2.addErr [98] = 0 ∧ wag2.add [98] = { wag2 with wt := [[98]] } := by
  have h : wag2 = _ := wag1_sync.2
  have := addErr_ok (g := wag2) (s := [98]) (by rw [h]; rfl) (by decide) (by rw [h]; show (grp ([] ++ [[98]])).length ≤ 7; rw [List.nil_append, grp_single]; decide)
  rw [h] at this ⊢
  exact this
theorem wam_is (ok0 : (Dk.new 9).Ok) (ok1 : wad1.Ok) : (scanK 1 0 (ringP (wad1.power []) 1 8)).1 = [[97]] ∧ Dq (wad1.power []) 9 1 8 1 := by
  have h2 : wag2 = _ := wag1_sync.2
  rcases wag1_jn.sync ok0 ok1 with ⟨_, hj, _⟩ | ⟨h, _⟩
  · have hj : Jn wad1 wag2 9 := hj
    obtain ⟨hq, T, M, e1, e2⟩ := hj.pw0 ok1 []
    rw [h2] at hq e1 e2
    have hT : T = [] := by
      have : ([] : List (List UInt8)) = T ++ M := e1
      cases T with
      | nil => rfl
      | cons => simp at this
    rw [hT] at e2
    have e3 : (scanK ((1 : Nat) : Int) 0 (ringP (wad1.power []) 1 8)).1 = [[97]] ++ [] := e2
    exact ⟨e3.trans (List.append_nil _), hq⟩
  · exact absurd wag1_sync.1 h
set_option maxRecDepth 100000 in
set_option maxHeartbeats 4000000 in
theorem waAwake_any (w : World) : Calls Try.prog 6 #[] w fun x w' => x = .returned (.bool true) ∧ Below w.heap.size w w' := by
  go_enter Try.func6, Try.ntmps6
  go_wp2_with fail
  refine (new_any 9 w).mono ?_
  rintro e w1 ⟨F, rfl, k1, b1⟩
  have ok0 := Lib.hid k1.ok
  have KN := Lib.hid (waNew_any k1 b1.size rfl (first := 1) (count := 8) (epoch := 1) (by omega) (by show 9 ≤ (List.replicate _ _).length; rw [List.length_replicate]; decide) (by omega) (by omega))
  have K1 := Lib.hid k1
  have B1 := Lib.hid b1
  clear k1 b1
  go_upto_region 5 with (first
    | (go_at_call 8; refine KN.out.mono ?_; rintro e w2 ⟨G, rfl, g2, b2, l2⟩; have L2 := Lib.hid (l2 (fun b => b < w.heap.size) (fun b hb hz => by have := K1.out.based b hb; omega) (fun b hb => Nat.lt_of_lt_of_le hb B1.out.size)); have B2 := Lib.hid (B1.out.trans (b2.mono B1.out.size)); clear l2 b2 g2)
    | fail)
  have KA := Lib.hid (awAdd (z := ⟨#[97]⟩) (s := [97]) rfl L2.out B2.out (Nat.le_refl _) wag1_is.1 (show _ = wag1 from rfl) (by decide) (by decide))
  have hw1 : wag1.wt.length ≤ 500 ∧ wag1.recs.length ≤ 500 := by
    have : wag1 = { newG 1 8 1 with wt := [[97]] } := wag1_is.2
    rw [this]
    exact ⟨by decide, by decide⟩
  have KS := Lib.hid (fun W (h : LW w.heap.size F G (fun b => b < w.heap.size) W (Dk.new 9) wag1) hb => awSync h hb (Nat.le_refl _) wag1_sync.1 (show _ = wad1 from rfl) (show _ = wag2 from rfl) (by decide) hw1.1 hw1.2)
  have hw2 : wag2.wt.length ≤ 500 := by rw [wag1_sync.2]; decide
  have KB := Lib.hid (fun W (h : LW w.heap.size F G (fun b => b < w.heap.size) W wad1 wag2) hb => awAdd (z := ⟨#[98]⟩) (s := [98]) rfl h hb (Nat.le_refl _) wag3_is.1 wag3_is.2 (by decide) hw2)
  clear hw1 hw2
  go_upto_region 6 with (first
    | (go_at_call 14; (with_reducible refine Calls.mono KA.out ?_); (rintro e w3 ⟨rfl, l3, b3⟩; have L3 := Lib.hid l3; have B3 := Lib.hid b3; clear l3 b3))
    | (go_at_call 9; (with_reducible refine Calls.mono (KS.out _ L3.out B3.out) ?_); (rintro e w4 ⟨rfl, l4, b4⟩; have L4 := Lib.hid l4; have B4 := Lib.hid b4; clear l4 b4))
    | (go_at_call 14; (with_reducible refine Calls.mono (KB.out _ L4.out B4.out) ?_); (rintro e w5 ⟨rfl, l5, b5⟩; have L5 := Lib.hid l5; have B5 := Lib.hid b5; clear l5 b5))
    | fail)
  have KW := Lib.hid (awWaits L5.out (L := [[98]]) rfl (by decide))
  go_upto_region 7 with (first
    | (go_at_call 22; (refine KW.out.mono ?_); (rintro e w6 ⟨v6, rfl, o6, b6⟩; obtain ⟨A6, c6, rfl, _⟩ := o6.rg; have K6 := Lib.hid (L5.out.below b6).1; have B6 := Lib.hid (B5.out.trans (b6.mono B5.out.size)); clear o6 b6))
    | fail)
  have KP := Lib.hid (power_any K6.out none 0 0 [] rfl (Nat.le_refl _) (by simp [maxLen]) RB.nil (fun h => absurd rfl h))
  have ok1 := Lib.hid (wam_is ok0.out L4.out.1.ok)
  go_upto_region 8 with (first
    | (go_at_call 13; (refine KP.out.mono ?_); (rintro e w7 ⟨rfl, k7, f7⟩; have B7 := Lib.hid (B6.out.trans (f7.below (fun k hk => K6.out.based k hk) B6.out.size)); have K7 := Lib.hid k7; clear k7 f7))
    | fail)
  have KO := Lib.hid (waOpen_any K7.out B7.out.size rfl (first := 1) (count := 8) (epoch := 1) (by omega) (by have := ok1.out.2.len; omega) (by omega) (by omega))
  go_upto_region 11 with (first
    | (go_at_call 16; (refine KO.out.mono ?_); (rintro e w8 ⟨M, rfl, b8, l8⟩; have L8 := Lib.hid (l8 (fun b => b < w.heap.size) (fun b hb hz => by have := K7.out.based b hb; omega) (fun b hb => Nat.lt_of_lt_of_le hb B7.out.size)); have B8 := Lib.hid (B7.out.trans (b8.mono B7.out.size)); clear l8 b8))
    | fail)
  have hrec : (openG (wad1.power []) 1 8 1).recs = [[97]] := ok1.out.1
  have KR := Lib.hid (awRecs L8.out hrec (by rw [hrec]; decide))
  have hrst := ok1.out.2.rest (g := openG (wad1.power []) 1 8 1) L8.out.2.1 rfl (by decide)
  have HRST := Lib.hid hrst
  clear hrst hrec
  go_upto_region 12 with (first
    | (go_at_call 17; (refine KR.out.mono ?_); (rintro e w9 ⟨v9, rfl, o9, b9⟩; obtain ⟨A9, c9, rfl, hc9, hm9, r9, n9⟩ := o9.rg; have L9 := Lib.hid ((L8.out.away (Z' := fun b => b < w.heap.size ∨ w8.heap.size ≤ b ∧ b < w9.heap.size) (fun b h1 h2 => by rcases h2 with h2 | h2; exact h2; omega)).below b9); have B9 := Lib.hid (B8.out.trans (b9.mono B8.out.size)); have R9 := Lib.hid r9; have N9 := Lib.hid (show ∀ ad, A9 = some ad → (ad.block < w.heap.size ∨ w8.heap.size ≤ ad.block ∧ ad.block < w9.heap.size) from fun ad e => .inr (n9 ad e).2); clear o9 b9 r9 n9))
    | fail)
  have hZ9 : ∀ b, (b < w.heap.size ∨ w8.heap.size ≤ b ∧ b < w9.heap.size) → b < w9.heap.size := fun b hb => by
    have := B9.out.size
    omega
  have KX := Lib.hid (awAddZ (z := ⟨#[120]⟩) (s := [120]) rfl L9.out B9.out.size hZ9 (addErr_bad (by show (11 : Nat) ≠ 0; decide)).1 (addErr_bad (by show (11 : Nat) ≠ 0; decide)).2.2 (by decide) (by decide))
  have KT := Lib.hid (fun W (h : LW w.heap.size F M (fun b => b < w.heap.size ∨ w8.heap.size ≤ b ∧ b < w9.heap.size) W (wad1.power []) (openG (wad1.power []) 1 8 1)) => awRestZ h (e := 2) HRST.out.1 HRST.out.2.1)
  clear hZ9
  go_upto_region 13 with (first
    | (go_at_call 14; (with_reducible refine Calls.mono KX.out ?_); (rintro e w10 ⟨rfl, l10, f10⟩; have L10 := Lib.hid l10; have F10 := Lib.hid f10; clear l10 f10))
    | (go_at_call 10; (with_reducible refine Calls.mono (KT.out _ L10.out) ?_); (rintro e w11 ⟨rfl, l11, f11⟩; have L11 := Lib.hid l11; have F11 := Lib.hid (F10.out.trans f11); clear l11 f11))
    | fail)
  have B11 := Lib.hid (B9.out.trans (F11.out.z_below (B := w.heap.size) (fun b hb => .inl hb) B9.out.size))
  have R11 := (R9.out.z_keep F11.out N9.out)
  obtain ⟨ad9, rfl, hx9⟩ := R11.rs 0 [97] rfl
  rw [Addr.add_nought, show str [97] = ⟨#[97]⟩ from rfl] at hx9
  have KE := Lib.hid (awEpoch L11.out (n := 2) rfl)
  have KL := Lib.hid (awLeft L11.out (n := 8) rfl)
  have KC := Lib.hid (fun W (h : LW w.heap.size F M (fun b => b < w.heap.size ∨ w8.heap.size ≤ b ∧ b < w9.heap.size) W (wad1.power []) (newG (openG (wad1.power []) 1 8 1).first (openG (wad1.power []) 1 8 1).count ((openG (wad1.power []) 1 8 1).epoch + 1))) => awClosed h (b := false) rfl)
  clear R11
  go_wp2_with (first
    | (go_at_call 11; (with_reducible refine Calls.mono KE.out ?_); (rintro e w12 ⟨rfl, rfl⟩))
    | (go_at_call 21; (with_reducible refine Calls.mono KL.out ?_); (rintro e w13 ⟨rfl, l13, b13⟩; have L13 := Lib.hid l13; have B13 := Lib.hid (B11.out.trans (b13.mono B11.out.size)); clear l13 b13))
    | (go_at_call 23; (with_reducible refine Calls.mono (KC.out _ L13.out) ?_); (rintro e w14 ⟨rfl, rfl⟩))
    | fail)
  go_ret
  exact ⟨rfl, B13.out⟩
end Go.Proofs.Ytochifbbefbehaa
