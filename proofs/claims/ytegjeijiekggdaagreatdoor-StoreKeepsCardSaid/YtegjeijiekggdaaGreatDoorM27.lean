/- Joined: StC StD StS. -/
import Derived.Test.YtegjeijiekggdaaGreatDoorM26
import Derived.Test.YtegjeijiekggdaaGreatDoorM14
section
/- The package store: Body, which blocks are taken, Room, Used, Forget, Free, Alloc. -/
namespace Go.Proofs.YtegjeijiekggdaaGreatDoor
open Go.RowKit
set_option linter.unusedVariables false
set_option linter.unusedSimpArgs false
theorem body_any {base : Nat} {F : Ft} {w : World} {P : Sf} {t : Sto} (h : StAt base F w P t) (hl : t.body.length ≤ 700) : Calls Tryz.prog 23 #[.pointer (some ⟨P.G, 0, none⟩)] w fun e w' => ∃ v, e = .returned v ∧ OB w.heap.size w' v t.body ∧ Below w.heap.size w w' := by
  have K := Lib.hid (none_any h)
  have x0 := h.d8
  have KC := Lib.hid (clone_any P.Ab t.body.length P.cb t.body w (by omega) rfl h.rb)
  clear h
  go_enter Tryz.func23, Tryz.ntmps23
  go_wp2_with (first | (go_at_call 52; refine K.out.mono ?_; rintro e w1 ⟨rfl, rfl⟩) | (go_at_call 68; refine KC.out.mono ?_; rintro e w2 ⟨v, rfl, o2, b2⟩) | fail)
  go_ret
  exact ⟨_, rfl, o2, b2⟩
theorem body_nil (w : World) : Calls Tryz.prog 23 #[.pointer none] w fun e w' => e = .returned (.slice none 0 0) ∧ w = w' := by
  go_enter Tryz.func23, Tryz.ntmps23
  go_wp2_with (go_at_call 52; refine (none_nil _).mono ?_; rintro e w1 ⟨rfl, rfl⟩)
  go_ret
  exact ⟨rfl, rfl⟩
set_option maxHeartbeats 1000000 in
set_option maxRecDepth 100000 in
theorem taken_any {base : Nat} {F : Ft} {w : World} {P : Sf} {t : Sto} (h : StAt base F w P t) (hc : okB (t.size : Int) t.cts = true) (hu : okB (t.size : Int) t.used = true) : Calls Tryz.prog 62 #[.pointer (some ⟨P.G, 0, none⟩)] w fun e w' =>
    ∃ v, e = .returned (.agg #[.int .i64 (t.size : Int), v]) ∧ OQ w.heap.size w' v (mixL false (t.size : Int) (t.size : Int) t.used t.cts) ∧ Below w.heap.size w w' := by
  have H := Lib.hid h
  have hX0 := heap_alloc_last w (.cells #[.int .i64 0, .slice none 0 0] 64)
  have hz0 := heap_size_alloc w (.cells #[.int .i64 0, .slice none 0 0] 64)
  have B0 := Lib.hid ((Below.refl _ w).alloc (Nat.le_refl _) (.cells #[.int .i64 0, .slice none 0 0] 64))
  have KE := Lib.hid (fun W (hb : Below w.heap.size w W) => either_any (t.size : Int) (t.size : Int) P.Au P.Ac P.cu P.cc t.used t.cts W (h.below hb).ru (h.below hb).rc)
  have HS := (mixL_self_ok (all := false) hu hc).2
  rw [HS] at KE
  generalize mixL false (t.size : Int) (t.size : Int) t.used t.cts = R at *
  have h0 := h.alloc (.cells #[.int .i64 0, .slice none 0 0] 64)
  have x6 := h0.drew.d6
  have x7 := h0.drew.d7
  have x9 := h0.drew.d9
  have x10 := h0.drew.d10
  have BX := Lib.hid (fun W h => bx2 w (.int .i64 0) (.slice none 0 0) 64 (W := W) h)
  have CC := Lib.hid (fun W (hb : Below w.heap.size w W) => And.intro (h.below hb).d6 (And.intro (h.below hb).d7 (And.intro (h.below hb).d9 (h.below hb).d10)))
  generalize t.used.length = m at *
  generalize t.cts.length = n at *
  clear h h0 hc hu HS
  go_enter Tryz.func62, Tryz.ntmps62
  go_wp2_with fail
  generalize w.alloc (.cells #[.int .i64 0, .slice none 0 0] 64) = W0 at *
  have BV := Lib.hid B0.out.drew
  have c0 := And.intro x6 (And.intro x7 (And.intro x9 x10))
  clear x6 x7 x9 x10
  go_region_held3 (fun W => W.cell? ⟨P.G, 6, none⟩ = some (.int .i64 (t.size : Int)) ∧ W.cell? ⟨P.G, 7, none⟩ = some (.slice P.Ac n P.cc) ∧ W.cell? ⟨P.G, 9, none⟩ = some (.int .i64 (t.size : Int)) ∧ W.cell? ⟨P.G, 10, none⟩ = some (.slice P.Au m P.cu)) (first | with_reducible assumption | with_reducible exact c0 | with_reducible exact cn | with_reducible exact CC.out _ (belowC B1.out (Nat.le_refl _) _ _) | fail)
    (first
      | (go_at_call 117; refine (KE.out _ BV.out).mono ?_; rintro e w1 ⟨v, rfl, o1, b1⟩; obtain ⟨A1, c1, rfl, hc1, hr1⟩ := o1.form; obtain ⟨u0, u1⟩ := BX.out w1 ((Below.refl _ _).drew.trans b1); have hh := (b1.block w.heap.size (show w.heap.size < W0.drew.heap.size by show w.heap.size < W0.heap.size; omega)).trans hX0; have f0 := frozen_of' hh 0; have f1 := frozen_of' hh 1; have B1 := Lib.hid (BV.out.trans (b1.mono BV.out.size)); have cn := CC.out w1 B1.out)
      | fail)
  all_goals
    have HO := Lib.hid (o1.lift (show w.heap.size + 1 ≤ W0.drew.heap.size by show w.heap.size + 1 ≤ W0.heap.size; omega))
    clear cn o1 hr1 hc1 hh
    go_wp2
    refine bodyPost_ret (v := .agg #[.int .i64 (t.size : Int), .slice A1 R.length c1]) (by simp [results, Tryz.results62, go_sem, u0, u1]) rfl ⟨_, rfl, (HO.out.setB (by omega) _ _).lift (by omega), belowC B1.out (Nat.le_refl _) _ _⟩
/-- What is not taken, plain. -/
theorem roomP_le (t : Sto) : roomP t ≤ t.size := Nat.sub_le _ _
theorem rankB_le (s : Nat) (L : List UInt64) (n : Int) : rankB (s : Int) L n ≤ s := by
  unfold rankB
  split
  · have := cnt_le (bitL L) (min n.toNat (s : Int).toNat)
    rw [Int.toNat_natCast] at this ⊢
    omega
  · omega
set_option maxHeartbeats 1000000 in
set_option maxRecDepth 100000 in
theorem room_any {base : Nat} {F : Ft} {w : World} {P : Sf} {t : Sto} (h : StAt base F w P t) (hs : t.size ≤ 512) (hc : okB (t.size : Int) t.cts = true) (hu : okB (t.size : Int) t.used = true) : Calls Tryz.prog 25 #[.pointer (some ⟨P.G, 0, none⟩)] w fun e w' => e = .returned (.int .i64 (roomP t : Int)) ∧ Below w.heap.size w w' := by
  have K := Lib.hid (none_any h)
  have KT := Lib.hid (taken_any h hc hu)
  unfold roomP
  have hle := rankB_le t.size (mixL false (t.size : Int) (t.size : Int) t.used t.cts) (t.size : Int)
  have KR := Lib.hid (fun A c W (hcap : (mixL false (t.size : Int) (t.size : Int) t.used t.cts).length ≤ c) (hr : RQ W A (mixL false (t.size : Int) (t.size : Int) t.used t.cts)) => rank_any (t.size : Int) A c (mixL false (t.size : Int) (t.size : Int) t.used t.cts) (t.size : Int) W hcap hr)
  generalize mixL false (t.size : Int) (t.size : Int) t.used t.cts = R at *
  generalize rankB (t.size : Int) R (t.size : Int) = k at *
  have qw : IntKind.i64.wrap ((t.size : Int) - (k : Int)) = ((t.size - k : Nat) : Int) := by rw [slWrap64 _ (by omega) (by omega)]; omega
  clear h hc hu
  go_enter Tryz.func25, Tryz.ntmps25
  go_wp2_with (first | (go_at_call 52; refine K.out.mono ?_; rintro e w1 ⟨rfl, rfl⟩) | (go_at_call 62; refine KT.out.mono ?_; rintro e w2 ⟨v, rfl, o2, b2⟩; obtain ⟨A2, c2, rfl, hc2, hr2⟩ := o2.form; have HC2 := Lib.hid hc2; have HR2 := Lib.hid hr2; clear o2 hc2 hr2) | fail)
  have X2 := heap_alloc_last w2 (.cells #[.int .i64 (t.size : Int), .slice A2 R.length c2] 64)
  have x0 : (w2.alloc (.cells #[.int .i64 (t.size : Int), .slice A2 R.length c2] 64)).drew.cell? ⟨w2.heap.size, 0, none⟩ = some (.int .i64 (t.size : Int)) := (cell_of_row _ _ 0 _ _ _ X2).trans rfl
  have x1 : (w2.alloc (.cells #[.int .i64 (t.size : Int), .slice A2 R.length c2] 64)).drew.cell? ⟨w2.heap.size, 1, none⟩ = some (.slice A2 R.length c2) := (cell_of_row _ _ 1 _ _ _ X2).trans rfl
  have hb2 : Below w.heap.size w (w2.alloc (.cells #[.int .i64 (t.size : Int), .slice A2 R.length c2] 64)).drew := (b2.alloc b2.size _).drew
  have B2 := Lib.hid hb2
  have hz2 := heap_size_alloc w2 (.cells #[.int .i64 (t.size : Int), .slice A2 R.length c2] 64)
  have HR3 := Lib.hid (show RQ (w2.alloc (.cells #[.int .i64 (t.size : Int), .slice A2 R.length c2] 64)).drew A2 R from HR2.out.alloc _)
  have CC := Lib.hid (fun W (hb : Below (w2.alloc (.cells #[.int .i64 (t.size : Int), .slice A2 R.length c2] 64)).drew.heap.size (w2.alloc (.cells #[.int .i64 (t.size : Int), .slice A2 R.length c2] 64)).drew W) => And.intro ((hb.cell (lt_of_cell x0)).trans x0) ((hb.cell (lt_of_cell x1)).trans x1))
  have cc := And.intro x0 x1
  generalize (w2.alloc (.cells #[.int .i64 (t.size : Int), .slice A2 R.length c2] 64)) = V at *
  clear x0 x1 b2 X2 hb2 HR2
  go_region_held3 (fun W => W.cell? ⟨w2.heap.size, 0, none⟩ = some (.int .i64 (t.size : Int)) ∧ W.cell? ⟨w2.heap.size, 1, none⟩ = some (.slice A2 R.length c2)) (first | with_reducible assumption | with_reducible exact cc | with_reducible exact cn | fail)
    (first
      | (go_at_call 33; refine (KR.out _ _ _ HC2.out HR3.out).mono ?_; rintro e w3 ⟨rfl, b3⟩; have cn := CC.out w3 b3; have B3 := Lib.hid (B2.out.trans (b3.mono B2.out.size)); clear b3)
      | fail)
  all_goals
    go_wp2
    go_ret
    exact ⟨rfl, B3.out⟩
theorem room_nil (w : World) : Calls Tryz.prog 25 #[.pointer none] w fun e w' => e = .returned (.int .i64 0) ∧ w = w' := by
  go_enter Tryz.func25, Tryz.ntmps25
  go_wp2_with (go_at_call 52; refine (none_nil _).mono ?_; rintro e w1 ⟨rfl, rfl⟩)
  go_ret
  exact ⟨rfl, rfl⟩
set_option maxHeartbeats 1000000 in
set_option maxRecDepth 100000 in
theorem used_any {base : Nat} {F : Ft} {w : World} {P : Sf} {t : Sto} (h : StAt base F w P t) (hl : t.used.length ≤ 1000) : Calls Tryz.prog 24 #[.pointer (some ⟨P.G, 0, none⟩)] w fun e w' =>
    ∃ v, e = .returned (.agg #[.int .i64 (t.size : Int), v]) ∧ OQ w.heap.size w' v t.used ∧ Below w.heap.size w w' := by
  have hX0 := heap_alloc_last w (.cells #[.int .i64 0, .slice none 0 0] 64)
  have hz0 := heap_size_alloc w (.cells #[.int .i64 0, .slice none 0 0] 64)
  have B0 := Lib.hid ((Below.refl _ w).alloc (Nat.le_refl _) (.cells #[.int .i64 0, .slice none 0 0] 64))
  have K := Lib.hid (fun W (hb : Below w.heap.size w W) => none_any (h.below hb))
  have KC := Lib.hid (fun W (hb : Below w.heap.size w W) => cloneQ_any P.Au t.used.length P.cu t.used W rfl hl (h.below hb).ru)
  have CC := Lib.hid (fun W (hb : Below w.heap.size w W) => And.intro (h.below hb).d9 (h.below hb).d10)
  have BX := Lib.hid (fun W h => bx2 w (.int .i64 0) (.slice none 0 0) 64 (W := W) h)
  have c0 := CC.out _ B0.out.drew
  generalize t.used = R at *
  clear h
  go_enter Tryz.func24, Tryz.ntmps24
  go_wp2_with fail
  generalize w.alloc (.cells #[.int .i64 0, .slice none 0 0] 64) = W0 at *
  refine (K.out _ B0.out).mono ?_
  rintro e w1 ⟨rfl, rfl⟩
  have BV := Lib.hid B0.out.drew
  go_wp2
  go_region_held3 (fun W => W.cell? ⟨P.G, 9, none⟩ = some (.int .i64 (t.size : Int)) ∧ W.cell? ⟨P.G, 10, none⟩ = some (.slice P.Au R.length P.cu)) (first | with_reducible assumption | with_reducible exact c0 | with_reducible exact cn | with_reducible exact CC.out _ (belowC B1.out (Nat.le_refl _) _ _) | fail)
    (first
      | (go_at_call 70; refine (KC.out _ BV.out).mono ?_; rintro e w1 ⟨v, rfl, o1, b1⟩; obtain ⟨A1, c1, rfl, hc1, hr1⟩ := o1.form; obtain ⟨u0, u1⟩ := BX.out w1 ((Below.refl _ _).drew.trans b1); have hh := (b1.block w.heap.size (show w.heap.size < W0.drew.heap.size by show w.heap.size < W0.heap.size; omega)).trans hX0; have f0 := frozen_of' hh 0; have f1 := frozen_of' hh 1; have B1 := Lib.hid (BV.out.trans (b1.mono BV.out.size)); have cn := CC.out w1 B1.out)
      | fail)
  all_goals
    have HO := Lib.hid (o1.lift (show w.heap.size + 1 ≤ W0.drew.heap.size by show w.heap.size + 1 ≤ W0.heap.size; omega))
    clear cn o1 hr1 hc1 hh
    go_wp2
    refine bodyPost_ret (v := .agg #[.int .i64 (t.size : Int), .slice A1 R.length c1]) (by simp [results, Tryz.results24, go_sem, u0, u1]) rfl ⟨_, rfl, (HO.out.setB (by omega) _ _).lift (by omega), belowC B1.out (Nat.le_refl _) _ _⟩
set_option maxHeartbeats 1000000 in
set_option maxRecDepth 100000 in
theorem used_nil (w : World) : Calls Tryz.prog 24 #[.pointer none] w fun e w' => e = .returned (.agg #[.int .i64 0, .slice none 0 0]) ∧ Below w.heap.size w w' := by
  have hX0 := heap_alloc_last w (.cells #[.int .i64 0, .slice none 0 0] 64)
  have B0 := Lib.hid ((Below.refl _ w).alloc (Nat.le_refl _) (.cells #[.int .i64 0, .slice none 0 0] 64))
  have u0 : (w.alloc (.cells #[.int .i64 0, .slice none 0 0] 64)).cell? ⟨w.heap.size, 0, none⟩ = some (.int .i64 0) := (cell_of_row _ _ 0 _ _ _ hX0).trans rfl
  have u1 : (w.alloc (.cells #[.int .i64 0, .slice none 0 0] 64)).cell? ⟨w.heap.size, 1, none⟩ = some (.slice none 0 0) := (cell_of_row _ _ 1 _ _ _ hX0).trans rfl
  have f0 := frozen_of' hX0 0
  have f1 := frozen_of' hX0 1
  go_enter Tryz.func24, Tryz.ntmps24
  go_wp2_with (go_at_call 52; refine (none_nil _).mono ?_; rintro e w1 ⟨rfl, rfl⟩)
  refine bodyPost_ret (v := .agg #[.int .i64 0, .slice none 0 0]) (by simp [results, Tryz.results24, go_sem, u0, u1]) rfl ⟨rfl, ?_⟩
  first | exact B0.out | exact belowC B0.out (Nat.le_refl _) _ _
/-- A call that changes a store's map. -/
def Mv (base : Nat) (F : Ft) (w : World) (P : Sf) (t' : Sto) (w' : World) : Prop := ∃ P', P'.G = P.G ∧ StAt base F w' P' t' ∧ Frm (fun k => k = P.G) w w'
set_option maxHeartbeats 1000000 in
set_option maxRecDepth 100000 in
theorem forget_any {base : Nat} {F : Ft} {w : World} {P : Sf} {t : Sto} (h : StAt base F w P t) : Calls Tryz.prog 22 #[.pointer (some ⟨P.G, 0, none⟩)] w fun e w' => e = .returned (.int .i64 ((forgetP t).2 : Int)) ∧ Mv base F w P (forgetP t).1 w' := by
  have H := Lib.hid h
  have K := Lib.hid (stFault_any h)
  have x6 := h.d6
  have x7 := h.d7
  have f9 := h.fz 9
  have f10 := h.fz 10
  have x9 := h.d9
  have x10 := h.d10
  unfold forgetP
  cases hb : t.bad <;> rw [hb] at K
  · have HU := Lib.hid (h.setUsed h.rc h.kc h.nc)
    rw [hb] at HU
    generalize t.cts.length = n at *
    clear h
    go_enter Tryz.func22, Tryz.ntmps22
    go_wp2_with (go_at_call 60; refine K.out.mono ?_; rintro e w1 ⟨rfl, rfl⟩)
    go_ret
    exact ⟨rfl, _, by rfl, HU.out.1, HU.out.2⟩
  · clear h
    go_enter Tryz.func22, Tryz.ntmps22
    go_wp2_with (go_at_call 60; refine K.out.mono ?_; rintro e w1 ⟨rfl, rfl⟩)
    go_ret
    exact ⟨rfl, P, rfl, H.out, Frm.refl _ _⟩
theorem forget_nil (w : World) : Calls Tryz.prog 22 #[.pointer none] w fun e w' => e = .returned (.int .i64 1) ∧ w = w' := by
  go_enter Tryz.func22, Tryz.ntmps22
  go_wp2_with (go_at_call 60; refine (stFault_nil _).mono ?_; rintro e w1 ⟨rfl, rfl⟩)
  go_ret
  exact ⟨rfl, rfl⟩
theorem StAt.setUsed' {base : Nat} {F : Ft} {w W : World} {P : Sf} {t : Sto} (h : StAt base F w P t) (hF : ∀ k, F.has k → k < w.heap.size) (hf : Frm (fun k => k = P.G) w W) (hW : StAt base F W P t) {A : Option Addr} {c N : Nat} {L : List UInt64} (hN : L.length = N) (ho : OQ w.heap.size W (.slice A L.length c) L) :
    Mv base F w P { t with used := L } ((W.setCell ⟨P.G, 9, none⟩ (.int .i64 (t.size : Int))).setCell ⟨P.G, 10, none⟩ (.slice A N c)) := by
  subst hN
  have h1 := hW.setUsed ho.reads ho.at_base.2 (fun ad e _ => made_out hF h.lt ho.at_base.1 ad e)
  exact ⟨_, by rfl, h1.1, hf.trans h1.2⟩
set_option maxHeartbeats 1000000 in
set_option maxRecDepth 100000 in
theorem free_any {base : Nat} {F : Ft} {w : World} {P : Sf} {t : Sto} (h : StAt base F w P t) (hF : ∀ k, F.has k → k < w.heap.size) (hl : t.used.length ≤ 1000) (n : Int) : Calls Tryz.prog 20 #[.pointer (some ⟨P.G, 0, none⟩), .int .i64 n] w fun e w' => e = .returned (.int .i64 ((freeP t n).2 : Int)) ∧ Mv base F w P (freeP t n).1 w' := by
  have H := Lib.hid h
  have HF := Lib.hid hF
  have K := Lib.hid (stFaultAt_any h n)
  unfold freeP
  by_cases hb : faultP t n = 0
  · rw [hb] at K
    rw [if_neg (by rw [hb]; simp)]
    have CC := Lib.hid (fun W (hb : Below w.heap.size w W) => And.intro (h.below hb).d9 (And.intro (h.below hb).d10 (And.intro ((h.below hb).fz 9) ((h.below hb).fz 10))))
    have KS := Lib.hid (fun W (hb : Below w.heap.size w W) => set_any (t.size : Int) P.Au P.cu t.used n false W hl (h.below hb).ru)
    have HL := Lib.hid (setL_len (t.size : Int) t.used n false)
    generalize t.used.length = m at *
    generalize setL (t.size : Int) t.used n false = R at *
    clear h hb hF
    go_enter Tryz.func20, Tryz.ntmps20
    go_wp2_with (go_at_call 64; refine K.out.mono ?_; rintro e w1 ⟨rfl, b1⟩; have B1 := Lib.hid b1; obtain ⟨x0, x1, x2, x3⟩ := CC.out _ b1; clear b1)
    refine (KS.out _ B1.out).mono ?_
    rintro e w2 ⟨v, rfl, o2, b2⟩
    have B2 := Lib.hid (B1.out.trans (b2.mono B1.out.size))
    obtain ⟨y0, y1, y2, y3⟩ := CC.out _ B2.out
    obtain ⟨A2, c2, rfl, hc2, hr2⟩ := o2.form
    have MV := Lib.hid (H.out.setUsed' HF.out (Frm.of_below B2.out) (H.out.below B2.out) rfl (o2.lift B1.out.size))
    clear x0 x1 x2 x3 b2 o2 hc2 hr2
    go_wp2
    go_ret
    exact ⟨rfl, MV.out⟩
  · rw [if_pos hb]
    have hne : ((faultP t n : Int) != 0) = true := by rw [bne_iff_ne]; omega
    generalize faultP t n = f at *
    clear h hb hF
    go_enter Tryz.func20, Tryz.ntmps20
    go_wp2_with (go_at_call 64; refine K.out.mono ?_; rintro e w1 ⟨rfl, b1⟩; have B1 := Lib.hid b1; clear b1)
    go_ret
    exact ⟨rfl, P, rfl, H.out.below B1.out, Frm.of_below B1.out⟩
theorem free_nil (n : Int) (w : World) : Calls Tryz.prog 20 #[.pointer none, .int .i64 n] w fun e w' => e = .returned (.int .i64 1) ∧ w = w' := by
  go_enter Tryz.func20, Tryz.ntmps20
  go_wp2_with (go_at_call 64; refine (stFaultAt_nil _ _).mono ?_; rintro e w1 ⟨rfl, rfl⟩)
  go_ret
  exact ⟨rfl, rfl⟩
set_option maxHeartbeats 1000000 in
set_option maxRecDepth 100000 in
theorem alloc_any {base : Nat} {F : Ft} {w : World} {P : Sf} {t : Sto} (h : StAt base F w P t) (hF : ∀ k, F.has k → k < w.heap.size) (hl : t.used.length ≤ 1000) (hT : TabAt 0 Lib.deBruijn64tab w) (hc : okB (t.size : Int) t.cts = true) (hu : okB (t.size : Int) t.used = true) :
    Calls Tryz.prog 16 #[.pointer (some ⟨P.G, 0, none⟩)] w fun e w' => e = .returned (.tuple #[.int .i64 ((allocP t).2.1 : Int), .int .i64 ((allocP t).2.2 : Int)]) ∧ Mv base F w P (allocP t).1 w' := by
  have H := Lib.hid h
  have HF := Lib.hid hF
  have HT := Lib.hid hT
  have K := Lib.hid (stFault_any h)
  unfold allocP
  cases hb : t.bad <;> rw [hb] at K
  · have KT := Lib.hid (taken_any h hc hu)
    have KN := Lib.hid (fun A c W (hr : RQ W A (mixL false (t.size : Int) (t.size : Int) t.used t.cts)) (hT : TabAt 0 Lib.deBruijn64tab W) => qNext_any (t.size : Int) A c (mixL false (t.size : Int) (t.size : Int) t.used t.cts) 0 false W hr hT)
    generalize mixL false (t.size : Int) (t.size : Int) t.used t.cts = M at *
    have KS := Lib.hid (fun n W (hb : Below w.heap.size w W) => set_any (t.size : Int) P.Au P.cu t.used n true W hl (h.below hb).ru)
    have CC := Lib.hid (fun W (hb : Below w.heap.size w W) => And.intro (h.below hb).d9 (And.intro (h.below hb).d10 (And.intro ((h.below hb).fz 9) ((h.below hb).fz 10))))
    generalize t.used.length = m at *
    cases hn : nextB (t.size : Int) M 0 false <;> rw [hn] at KN
    · clear h hn KS
      go_enter Tryz.func16, Tryz.ntmps16
      go_wp2_with (first | (go_at_call 60; refine K.out.mono ?_; rintro e w1 ⟨rfl, rfl⟩) | (go_at_call 62; refine KT.out.mono ?_; rintro e w2 ⟨v, rfl, o2, b2⟩; obtain ⟨A2, c2, rfl, hc2, hr2⟩ := o2.form; have B2 := Lib.hid b2; have R2 := Lib.hid hr2; clear o2 hc2 hr2) | (go_at_call 61; refine (KN.out _ _ _ R2.out (TabAt.below HT.out B2.out (TabAt.pos HT.out))).mono ?_; rintro e w3 ⟨rfl, b3⟩; have B3 := Lib.hid (B2.out.trans (b3.mono B2.out.size)); clear b3) | fail)
      go_ret2
      exact ⟨rfl, P, rfl, H.out.below B3.out, Frm.of_below B3.out⟩
    · have HL := Lib.hid (fun n => setL_len (t.size : Int) t.used n true)
      generalize nextN (t.size : Int) M 0 false = nx at *
      clear h hn
      go_enter Tryz.func16, Tryz.ntmps16
      go_wp2_with (first | (go_at_call 60; refine K.out.mono ?_; rintro e w1 ⟨rfl, rfl⟩) | (go_at_call 62; refine KT.out.mono ?_; rintro e w2 ⟨v, rfl, o2, b2⟩; obtain ⟨A2, c2, rfl, hc2, hr2⟩ := o2.form; have B2 := Lib.hid b2; have R2 := Lib.hid hr2; clear o2 hc2 hr2) | (go_at_call 61; refine (KN.out _ _ _ R2.out (TabAt.below HT.out B2.out (TabAt.pos HT.out))).mono ?_; rintro e w3 ⟨rfl, b3⟩; have B3 := Lib.hid (B2.out.trans (b3.mono B2.out.size)); clear b3; obtain ⟨x0, x1, x2, x3⟩ := CC.out _ B3.out) | fail)
      refine (KS.out _ _ B3.out).mono ?_
      rintro e w4 ⟨v, rfl, o4, b4⟩
      have B4 := Lib.hid (B3.out.trans (b4.mono B3.out.size))
      obtain ⟨y0, y1, y2, y3⟩ := CC.out _ B4.out
      obtain ⟨A4, c4, rfl, hc4, hr4⟩ := o4.form
      have MV := Lib.hid (H.out.setUsed' HF.out (Frm.of_below B4.out) (H.out.below B4.out) rfl (o4.lift B3.out.size))
      rw [hb] at MV
      clear x0 x1 x2 x3 b4 o4 hc4 hr4
      go_wp2
      go_ret2
      exact ⟨rfl, MV.out⟩
  · clear h
    go_enter Tryz.func16, Tryz.ntmps16
    go_wp2_with (go_at_call 60; refine K.out.mono ?_; rintro e w1 ⟨rfl, rfl⟩)
    go_ret2
    exact ⟨rfl, P, rfl, H.out, Frm.refl _ _⟩
end Go.Proofs.YtegjeijiekggdaaGreatDoor
end
section
/- The package store: a slot's body is laid. -/
namespace Go.Proofs.YtegjeijiekggdaaGreatDoor
open Go.RowKit
set_option linter.unusedVariables false
set_option linter.unusedSimpArgs false
theorem left_any (g f : Nat) (l : List UInt8) (w : World) (hR : RDF w g l f) : Calls Tryz.prog 110 #[.pointer (some ⟨g, 0, none⟩)] w fun e w' => e = .returned (.int .i64 (l.length : Int)) ∧ w = w' := by
  obtain ⟨A, c, h1, h2, h3, h4, h5, h6, h7⟩ := hR
  clear h2 h3 h5 h6 h7
  go_enter Tryz.func110, Tryz.ntmps110
  go_wp2
  go_ret
  exact ⟨rfl, rfl⟩
theorem st_byte (x i : Nat) : (x : Int) / 2 ^ (8 * (7 - i)) % 256 = ((UInt8.ofNat (x / 256 ^ (7 - i))).toNat : Int) := by
  rw [ofNat_toNat, show (256 : Nat) = 2 ^ 8 from rfl, ← Nat.pow_mul]
  simp
set_option maxHeartbeats 2000000 in
set_option maxRecDepth 100000 in
theorem stLay_any {base : Nat} {F : Ft} {w : World} {P : Sf} {t : Sto} (h : StAt base F w P t) (hlog : t.log ≤ 256) (hsize : t.size ≤ 512) (pl gn sz : Int) (A : Option Addr) (c : Nat) (L : List UInt64) (B : Option Addr) (m d : Nat) (body : List UInt8) (hA : RQ w A L) (hL : L.length ≤ 8) (hb : body.length = m) (hm : m ≤ 700) (hB : RB w B body) :
    Calls Tryz.prog 115 #[.pointer (some ⟨P.G, 0, none⟩), .agg #[.int .i64 pl, .int .i64 gn, .int .i64 sz, .slice A L.length c, .slice B m d]] w fun e w' => ∃ v, e = .returned v ∧ OB w.heap.size w' v (layP t.log t.size L body) ∧ Below w.heap.size w w' := by
  have hX0 := heap_alloc_last w (.cells #[.int .i64 pl, .int .i64 gn, .int .i64 sz, .slice A L.length c, .slice B m d] 107)
  have B0 := Lib.hid ((Below.refl _ w).alloc (Nat.le_refl _) (.cells #[.int .i64 pl, .int .i64 gn, .int .i64 sz, .slice A L.length c, .slice B m d] 107))
  have hz0 := heap_size_alloc w (.cells #[.int .i64 pl, .int .i64 gn, .int .i64 sz, .slice A L.length c, .slice B m d] 107)
  have CB := Lib.hid (fun W (hb : Below (w.heap.size + 1) (w.alloc (.cells #[.int .i64 pl, .int .i64 gn, .int .i64 sz, .slice A L.length c, .slice B m d] 107)) W) => And.intro ((hb.cell (p := ⟨w.heap.size, 3, none⟩) (by show w.heap.size < w.heap.size + 1; omega)).trans ((cell_of_row _ _ 3 _ _ _ hX0).trans rfl)) ((hb.cell (p := ⟨w.heap.size, 4, none⟩) (by show w.heap.size < w.heap.size + 1; omega)).trans ((cell_of_row _ _ 4 _ _ _ hX0).trans rfl)))
  have CC := Lib.hid (fun W (hb : Below w.heap.size w W) => And.intro (h.below hb).d1 (h.below hb).d3)
  have HA := Lib.hid hA
  have HB := Lib.hid hB
  have HBL := Lib.hid hb
  have KP1 := Lib.hid (fun W => putSmall_any t.log W (by omega))
  have KP2 := Lib.hid (fun W => putSmall_any t.size W (by omega))
  have HP1 := Lib.hid (putSmall_short (n := t.log) (by omega))
  have HP2 := Lib.hid (putSmall_short (n := t.size) (by omega))
  unfold layP
  generalize putSmall t.log = p1 at *
  generalize putSmall t.size = p2 at *
  obtain ⟨x0, x1⟩ := CC.out _ B0.out
  have q1 : IntKind.u64.wrap (t.log : Int) = (t.log : Int) := by rw [IntKind.wrap_u64]; omega
  have q2 : IntKind.u64.wrap (t.size : Int) = (t.size : Int) := by rw [IntKind.wrap_u64]; omega
  clear h hA hB hb hX0
  go_enter Tryz.func115, Tryz.ntmps115
  go_wp2_with fail
  generalize w.alloc (.cells #[.int .i64 pl, .int .i64 gn, .int .i64 sz, .slice A L.length c, .slice B m d] 107) = W0 at *
  refine (KP1.out _).mono ?_
  rintro e w1 ⟨v1, rfl, o1, b1⟩
  rw [hz0] at o1 b1
  have B1 := Lib.hid (B0.out.trans (b1.mono (by omega)))
  have D1 := Lib.hid b1
  have O1 := Lib.hid o1
  obtain ⟨y0, y1⟩ := CC.out _ B1.out
  clear x0 x1 o1 b1
  go_wp2_with fail
  refine (KP2.out _).mono ?_
  rintro e w2 ⟨v2, rfl, o2, b2⟩
  obtain ⟨A2, c2, rfl, hc2, r2⟩ := o2.form
  have HR2 := Lib.hid r2
  have D2 := Lib.hid (D1.out.trans (b2.mono (by have := D1.out.size; omega)))
  have O12 := Lib.hid (O1.out.keep b2 (Nat.le_refl _))
  have hg2 := D2.out.size
  clear o2 hc2 r2 b2 y0 y1 O1 D1 B1
  have e1 := HP1.out
  have e2 := HP2.out
  go_wp2_with (at_builtin; refine wpList_append_B rfl (.tmp 15) (.tmp 22) rfl (w.heap.size + 1) _ p1 rfl O12.out A2 p2.length c2 p2 rfl rfl HR2.out (by omega) (by omega) ?_; intro v3 w3 o3 b3; have O3 := Lib.hid o3; have D3 := Lib.hid (D2.out.trans b3); obtain ⟨z3, z4⟩ := CB.out _ D3.out; clear o3 b3)
  have hp := Lib.hid (show (p1 ++ p2).length ≤ 6 by rw [List.length_append]; omega)
  obtain ⟨p, hpp⟩ : ∃ p, p = p1 ++ p2 := ⟨_, rfl⟩
  rw [← hpp] at hp O3
  have HPP := Lib.hid hpp
  clear hpp
  clear O12 HR2 D2 hg2
  go_loopw [5, 7, 8, 28, 32] (fun v _ _ i _ wr => ∃ k : Nat, k ≤ L.length ∧ i = .int .i64 (k : Int) ∧ OB (w.heap.size + 1) wr v (p ++ words8 (L.take k)) ∧ Below (w.heap.size + 1) W0 wr) (fun _ _ _ i _ _ => L.length - (intOf i).toNat)
  case atStart => exact ⟨0, Nat.zero_le _, rfl, by simpa [words8_nil] using O3.out, D3.out⟩
  case round =>
    obtain ⟨k, hk, rfl, hO, hB2⟩ := hrel
    have OK := Lib.hid hO
    have BK := Lib.hid hB2
    clear hO hB2
    by_cases hlt : k < L.length
    · obtain ⟨ad, x, hAd, hx, hcell⟩ := (HA.out.below (B0.out.trans (BK.out.mono (by omega)))).at_ hlt
      subst hAd
      have HX := Lib.hid hx
      have HS := Lib.hid (show words8 (L.take (k + 1)) = words8 (L.take k) ++ st x.toNat by rw [take_snocQ hx, words8_app, words8_one])
      have HQ := Lib.hid (show (p ++ words8 (L.take k)).length ≤ 70 by rw [List.length_append, words8_len, List.length_take]; have := hp.out; omega)
      have hxx := x.toNat_lt
      rw [show p ++ words8 (L.take k) = p ++ words8 (L.take k) ++ (st x.toNat).take 0 by simp] at OK
      generalize x.toNat = y at *
      generalize hqq : p ++ words8 (L.take k) = q at *
      have HQQ := Lib.hid hqq
      clear hx hqq
      go_wp2
      go_loopw [5, 8, 32] (fun v _ i wr => ∃ j : Nat, j ≤ 8 ∧ i = .int .i64 (j : Int) ∧ OB (w.heap.size + 1) wr v (q ++ (st y).take j) ∧ Below (w.heap.size + 1) W0 wr) (fun _ _ i _ => 8 - (intOf i).toNat)
      case atStart => exact ⟨0, Nat.zero_le _, rfl, OK.out, BK.out⟩
      case round =>
        obtain ⟨j, hj, rfl, hO, hB2⟩ := hrel
        have OJ := Lib.hid hO
        have BJ := Lib.hid hB2
        have hg := hB2.size
        clear hO hB2
        by_cases hlt2 : j < 8
        · have hlt2' : (j : Int) < 8 := by omega
          have HT := Lib.hid (take_snoc (st_at y j hlt2))
          have HL := Lib.hid (show (q ++ (st y).take j).length ≤ 78 by rw [List.length_append, List.length_take, st_len]; have := HQ.out; omega)
          have e1 := HL.out
          go_wp2_with (at_builtin; refine wpList_append_B rfl (.tmp 35) (.tmp 42) rfl (w.heap.size + 1) _ (q ++ (st y).take j) rfl (OJ.out.alloc _) _ 1 _ [UInt8.ofNat (y / 256 ^ (7 - j))] rfl rfl (RB.one _ _ _ (st_byte y j)) (by omega) (by simp; omega) ?_; intro v4 w4 o4 b4; have O4 := Lib.hid o4; have B4 := Lib.hid ((BJ.out.alloc (by omega) _).trans b4); clear o4 b4)
          go_roundw
          case rel => exact ⟨j + 1, by omega, by go_num, by rw [HT.out, ← List.append_assoc]; exact O4.out, B4.out⟩
          case measure => simp [intOf]; omega
        · obtain rfl : j = 8 := by omega
          go_wp2
          go_roundw
          case rel => exact ⟨k + 1, by omega, by go_num, by rw [HS.out, ← List.append_assoc, HQQ.out]; have := OJ.out; rw [List.take_of_length_le (by rw [st_len]; omega)] at this; exact this, BJ.out⟩
          case measure => simp [intOf]; omega
    · obtain rfl : k = L.length := by omega
      rw [List.take_length] at OK
      have e1 : (p ++ words8 L).length ≤ 70 := by rw [List.length_append, words8_len]; have := hp.out; omega
      obtain ⟨z3, z4⟩ := CB.out _ BK.out
      have HB2 := Lib.hid (HB.out.below (B0.out.trans (BK.out.mono (by omega))))
      have hg := BK.out.size
      go_wp2_with (at_builtin; refine wpList_append_B rfl (.tmp 46) (.tmp 48) rfl (w.heap.size + 1) _ (p ++ words8 L) rfl OK.out B m d body rfl HBL.out HB2.out (by omega) (by omega) ?_; intro v4 w4 o4 b4; have O4 := Lib.hid o4; have B4 := Lib.hid (BK.out.trans b4); clear o4 b4)
      go_ret
      rw [← HPP.out]
      exact ⟨_, rfl, O4.out.lift (Nat.le_succ _), B0.out.trans (B4.out.mono (Nat.le_succ _))⟩
end Go.Proofs.YtegjeijiekggdaaGreatDoor
end
section
/- Slots: what Put makes lies in memory of its own. -/
namespace Go.Proofs.YtegjeijiekggdaaGreatDoor
open Go.RowKit
set_option linter.unusedVariables false
set_option linter.unusedSimpArgs false
/-- The slice of slices at A reads as the rows L, each in a block from lo on. -/
def RBT (lo : Nat) (w : World) (A : Option Addr) (L : List (List UInt8)) : Prop :=
  ∀ (j : Nat) (l : List UInt8), L[j]? = some l → ∃ (ad bd : Addr) (c : Nat), A = some ad ∧ w.cell? (ad.add j) = some (.slice (some bd) l.length c) ∧ l.length ≤ c ∧ c ≤ maxLen ∧ RB w (some bd) l ∧ lo ≤ bd.block
theorem RBT.rbs {lo : Nat} {w : World} {A : Option Addr} {L : List (List UInt8)} (h : RBT lo w A L) : RBS w A L := fun j l hj => by
  obtain ⟨ad, bd, c, h1, h2, h3, h4, h5, _⟩ := h j l hj
  exact ⟨ad, some bd, c, h1, h2, h3, h4, h5⟩
theorem RBT.lower {lo lo' : Nat} {w : World} {A : Option Addr} {L : List (List UInt8)} (h : RBT lo w A L) (hl : lo' ≤ lo) : RBT lo' w A L := fun j l hj => by
  obtain ⟨ad, bd, c, h1, h2, h3, h4, h5, h6⟩ := h j l hj
  exact ⟨ad, bd, c, h1, h2, h3, h4, h5, Nat.le_trans hl h6⟩
theorem Rws.rbt {w : World} {lo g : Nat} {vs : List Value} {L : List (List UInt8)} {t : TypeId} {fr : Nat × Nat} {more : List Value} (h : Rws w lo vs L) (hg : w.heap[g]? = some (.cells (vs ++ more).toArray t fr)) : RBT lo w (some ⟨g, 0, none⟩) L := fun j l hj => by
  obtain ⟨ad, c, h1, h2, h3, h4, h5, _⟩ := h.2 j l hj
  refine ⟨_, ad, c, rfl, ?_, h2, h3, h4, h5⟩
  have e : (⟨g, 0, none⟩ : Addr).add j = ⟨g, j, none⟩ := by cases j <;> simp [Addr.add]
  rw [e, cell_of_row w g j _ t fr hg]
  have hj' : j < vs.length := by rw [h.1]; exact (List.getElem?_eq_some_iff.1 hj).1
  simp only [List.getElem?_toArray]
  rw [List.getElem?_append_left hj']
  exact h1
set_option maxHeartbeats 2000000 in
set_option maxRecDepth 100000 in
theorem putX_ok (g : Nat) (A : Option Addr) (n c : Nat) (b : List UInt8) (w : World) (h1 : 1 ≤ g) (h2 : g ≤ 1099511627776) (hb : b.length = n) (h3 : n ≤ 954) (hc : n ≤ c) (hr : RB w A b) :
    Calls Tryz.prog 114 #[.int .i64 (g : Int), .slice A n c] w fun e w' => ∃ ad, e = .returned (.tuple #[.slice (some ad) 4 4, .int .i64 0]) ∧ RBS w' (some ad) (putL g b) ∧ w.heap.size ≤ ad.block ∧ RBT (w.heap.size + 1) w' (some ad) (putL g b) ∧ Below w.heap.size w w' := by
  have HL := Lib.hid hb
  have HR := Lib.hid hr
  clear hb hr
  go_enter Tryz.func114, Tryz.ntmps114
  have hz := run_zeroW w
  have A0 := Lib.hid (arr_z956 w)
  have HZ := Lib.hid (heap_size_alloc w (.cells z956 200))
  have B0 := Lib.hid ((Below.refl _ w).alloc (Nat.le_refl _) (.cells z956 200))
  go_upto_region 6 with (fail)
  clear hz
  generalize w.alloc (.cells z956 200) = W at *
  obtain ⟨c0, f0, s0⟩ := A0.out.at (k := 0) (x := 0) (by rw [List.getElem?_replicate]; rfl)
  obtain ⟨c1, f1, _⟩ := A0.out.at (k := 1) (x := 0) (by rw [List.getElem?_replicate]; rfl)
  have S0 := Lib.hid s0
  clear s0
  go_upto_region 7 with (fail)
  obtain ⟨W2, hW2⟩ : ∃ W2, W2 = ((W.setCell ⟨w.heap.size, 0, none⟩ (.int .u8 ((n : Int) / 256))).setCell ⟨w.heap.size, 1, none⟩ (.int .u8 ((n : Int) % 256))) := ⟨_, rfl⟩
  rw [← hW2]
  have A2 : Hid (slArr W2 w.heap.size 200 (((List.replicate 956 (0 : UInt8)).set 0 (UInt8.ofNat (b.length / 256))).set 1 (UInt8.ofNat b.length))) := Lib.hid (by
    rw [hW2, HL.out]
    exact ((S0.out (UInt8.ofNat (n / 256)) _ (by rw [toNat_of]; omega)).at (k := 1) (x := 0) (by rw [List.getElem?_set_ne (by omega), List.getElem?_replicate]; rfl)).2.2 _ _ (by rw [toNat_of]; omega))
  have B2 : Hid (Below w.heap.size w W2) := Lib.hid (by
    rw [hW2]
    exact (B0.out.setCell (Nat.le_refl _) _).setCell (Nat.le_refl _) _)
  have R2 := Lib.hid (HR.out.below B2.out)
  have HS := Lib.hid (all_splice b (by rw [HL.out]; omega))
  have X0 : Hid ((((List.replicate 956 (0 : UInt8)).set 0 (UInt8.ofNat (b.length / 256))).set 1 (UInt8.ofNat b.length)).length = 956) := Lib.hid (by simp)
  generalize (((List.replicate 956 (0 : UInt8)).set 0 (UInt8.ofNat (b.length / 256))).set 1 (UInt8.ofNat b.length)) = X at *
  clear hW2 c0 f0 c1 f1 S0 A0 HZ B0
  have h2 := slice_from W2 w.heap.size 2 2 rfl (by omega)
  go_upto_region 8 with (refine slWpList_copy_arr rfl (.tmp 29) (.tmp 30) rfl (some ⟨w.heap.size, 2, none⟩) A 954 954 n c rfl rfl w.heap.size 2 200 X b b A2.out (by rw [HL.out]; exact (Nat.min_eq_left (by omega)).symm) R2.out (by simp) (fun _ => rfl) (by rw [HL.out, X0.out]; omega) ?_; intro w3 hw3 ho3)
  have A3 := hw3.out
  rw [HS.out] at A3
  have A3 := Lib.hid A3
  have B3 := Lib.hid (B2.out.trans (ho3.below (Nat.le_refl _)))
  have LA := Lib.hid (allOf_len (b := b) (by rw [HL.out]; omega))
  have HPL := Lib.hid (fun i (hi : i < 4) => putL_at g b hi)
  generalize allOf b = X2 at *
  clear hw3 ho3 h2 HS X0 A2 B2 R2 HR
  go_upto_region 10 with (at_make; refine wpList_make_rows rfl _ _ rfl rfl rfl ?_; intro w4 hr4 hb4 hs4 _)
  have A4 := Lib.hid (A3.out.same hb4)
  have B4 := Lib.hid (B3.out.trans (hb4.mono B3.out.size))
  have ST : Hid (PutRel w w3.heap.size X2 (putL g b) (.int .i64 ((0 : Nat) : Int)) w4) := Lib.hid ⟨0, [], by omega, rfl, A4.out, hr4.out, Rws.nil, B4.out⟩
  have hq : Hid (w.heap.size < w3.heap.size) := Lib.hid A3.out.lt
  have KS := Lib.hid (fun W => stampOf_any g W h2)
  clear A4 B4 A3 B3 hr4 hb4 hs4
  generalize w3.heap.size = q at *
  go_wp2
  go_loopw [8, 35] (fun _ i wr => PutRel w q X2 (putL g b) i wr) (fun _ i _ => 4 - (intOf i).toNat)
  case atStart => exact ST.out
  case round =>
    obtain ⟨k, vs, hk, rfl, hA, hQ, hV, hB⟩ := hrel
    by_cases hlt : k < 4
    · have hX : (putL g b)[k]? = some (sec g k (partOf X2 k)) := HPL.out k hlt
      have HPR := Lib.hid (hA.reads.drop (k * 239))
      have hA' := Lib.hid hA
      have hQ' := Lib.hid hQ
      have hV' := Lib.hid hV
      have hB' := Lib.hid hB
      have hvl : vs.length = k := by rw [hV.1, List.length_take, putL_len]; omega
      have HVL := Lib.hid hvl
      have HT := Lib.hid (take_snocG hX)
      have HPN := Lib.hid (partOf_len (l := X2) LA.out hlt)
      have HRP : Hid (∀ W, Below wr.heap.size wr W → RB W (some ⟨w.heap.size, k * 239, none⟩) (partOf X2 k)) := Lib.hid (fun W hW => by
        have h5 := ((hA.reads.drop (k * 239)).take 239).below hW
        rw [add_at] at h5
        exact h5)
      have HSE : Hid (st g ++ [UInt8.ofNat k] ++ partOf X2 k ++ st g = sec g k (partOf X2 k)) := rfl
      have HSL := Lib.hid (sec_len (g := g) (i := k) HPN.out)
      have KL := Lib.hid (fun W (hW : Below wr.heap.size wr W) => lay_any (st g) k (some ⟨w.heap.size, k * 239, none⟩) 239 (956 - k * 239) (partOf X2 k) W (st_len g) (by omega) HPN.out (by omega) (HRP.out W hW))
      rw [HSE.out] at KL
      generalize sec g k (partOf X2 k) = S at *
      generalize partOf X2 k = Pt at *
      have KF : ∀ W, (Instr.sliceAt 200 (.pointer (some ⟨w.heap.size, 0, none⟩)) (some (.int .i64 ((k : Int) * 239))) (some (.int .i64 (((k : Int) + 1) * 239))) none).run Tryz.prog W = .ok (.slice (some ⟨w.heap.size, k * 239, none⟩) 239 (956 - k * 239)) W := fun W => by
        have h5 := slice_fromto W w.heap.size (k * 239) ((k + 1) * 239) ((k : Int) * 239) (((k : Int) + 1) * 239) (by omega) (by omega) (by omega) (by omega) (by omega)
        rw [show (k + 1) * 239 - k * 239 = 239 by omega] at h5
        exact h5
      have q1 : IntKind.i64.wrap ((k : Int) * 239) = (k : Int) * 239 := slWrap64 _ (by omega) (by omega)
      have q2 : IntKind.i64.wrap ((k : Int) + 1) = (k : Int) + 1 := slWrap64 _ (by omega) (by omega)
      have q3 : IntKind.i64.wrap (((k : Int) + 1) * 239) = ((k : Int) + 1) * 239 := slWrap64 _ (by omega) (by omega)
      clear hX HPR hA hQ hV hB hvl HSE LA HPL
      go_upto_region 12 with (fail)
      have HNX := Lib.hid (fun w5 w6 (b5 : Below wr.heap.size wr w5) ad6 c6 (hc6 : S.length ≤ c6) (hm6 : c6 ≤ maxLen) (r6 : RB w6 (some ad6) S) (hl6 : w5.heap.size ≤ ad6.block) (hg6 : ad6.block < w6.heap.size) (b6 : Below w5.heap.size w5 w6) =>
        put_step hlt hA'.out hQ'.out hV'.out hB'.out HVL.out HT.out hc6 hm6 r6 (b5.trans (b6.mono b5.size)) (Nat.le_trans b5.size hl6) hg6 hq.out)
      have S0 : Hid (0 < S.length) := Lib.hid (by rw [HSL.out]; omega)
      go_region_with (first
        | (go_at_call 152; refine (KS.out _).mono ?_; rintro e w5 ⟨rfl, b5⟩)
        | (go_at_call 151; refine (KL.out _ ((Below.refl _ wr).drew.trans b5)).mono ?_; rintro e w6 ⟨v6, rfl, o6, b6⟩; obtain ⟨ad6, c6, rfl, hc6, hm6, r6, hl6, hg6⟩ := o6.row S0.out; obtain ⟨cq, fq, nx⟩ := HNX.out w5 w6 ((Below.refl _ wr).drew.trans b5) ad6 c6 hc6 hm6 r6 hl6 hg6 b6; have NX := Lib.hid nx; clear nx o6 b6 hc6 hm6 r6 hl6 hg6)
        | fail)
      all_goals
        go_wp2
        go_roundw
        case rel => exact NX.out
        case measure => simp [intOf]; omega
    · obtain rfl : k = 4 := by omega
      have hV' := Lib.hid hV
      have hQ' := Lib.hid hQ
      have hB' := Lib.hid hB
      clear hA hQ hV hB
      go_wp2
      go_ret2
      have h5 := hV'.out.rbt hQ'.out
      rw [List.take_of_length_le (by rw [putL_len]; exact Nat.le_refl _)] at h5
      have h6 := h5.lower (Nat.succ_le_succ (Nat.le_of_lt hq.out))
      exact ⟨⟨q, 0, none⟩, rfl, h6.rbs, Nat.le_of_lt hq.out, h6, hB'.out⟩
end Go.Proofs.YtegjeijiekggdaaGreatDoor
end
