/- The walk of the law MsgFolds. -/
import Derived.Test.YtchfpgdioclajaaMgZ
import Derived.Test.YtchfpgdioclajaaMhB
import Derived.Test.YtchfpgdioclajaaVtA
import Derived.Deep.DeepMust
namespace Go.Proofs.Ytchfpgdioclajaa
open Go.RowKit
set_option linter.unusedVariables false
set_option linter.unusedSimpArgs false
/-- A row of versions is no box that holds a stack. -/
theorem RG.offBox {W : World} {A : Option Addr} {L : List Vn} {q : Nat} {k0 : ByteArray} {A0 : Option Addr} {n0 c0 : Nat} (h : RG KV W A L) (s : StBox W q k0 A0 n0 c0) (key : ByteArray) (u : Value) : RG KV (setSt W q key u) A L := fun j x hx => by
  obtain ⟨ad, cs, e, h1, h2⟩ := h j x hx
  have h2 : cs = x.cs := h2
  subst h2
  refine ⟨ad, x.cs, e, fun i v hv => ?_, rfl⟩
  have hc := h1 i v hv
  have n0 : (⟨q, 0, none⟩ : Addr) ≠ (ad.add (j * KV.k)).add i := fun e0 => by
    rw [← e0, s.c0] at hc
    injection hc with hc
    match i, hv with
    | 0, hv => simp [Vn.cs] at hv; rw [← hv] at hc; cases hc
    | 1, hv => simp [Vn.cs] at hv; rw [← hv] at hc; cases hc
    | 2, hv => simp [Vn.cs] at hv; rw [← hv] at hc; cases hc
    | 3, hv =>
      rw [vn_pos _ 3 (by omega)] at e0
      injection e0 with _ e0
      omega
    | i + 4, hv => simp [Vn.cs] at hv
  have n1 : (⟨q, 1, none⟩ : Addr) ≠ (ad.add (j * KV.k)).add i := fun e0 => by
    rw [← e0, s.c1] at hc
    injection hc with hc
    match i, hv with
    | 0, hv | 1, hv | 2, hv | 3, hv => simp [Vn.cs] at hv; rw [← hv] at hc; cases hc
    | i + 4, hv => simp [Vn.cs] at hv
  unfold setSt
  rw [World.cell?_setCell_other _ _ _ _ n1, World.cell?_setCell_other _ _ _ _ n0]
  exact hc
set_option maxHeartbeats 2000000 in
set_option maxRecDepth 100000 in
theorem mgApply1_any (key : ByteArray) (A : Option Addr) (n c : Nat) (l : List Vn) (m : Ms) (w : World) (hl : l.length = n) (hn : n ≤ 12) (hr : RG KV w A l) :
    Calls Try.prog 26 #[.agg #[.string key, .slice A n c], m.v] w (FoldPost w key (mgApplyK key l m)) := by
  have M := Lib.hid (ChW.new w key A n c m)
  have K := Lib.hid (fun (W : World) (h : Below w.heap.size w W) => show Calls Try.prog 32 #[.agg #[.string key, .slice A n c], .slice (some ⟨W.heap.size, 0, none⟩) 1 1] (W.alloc (.cells #[.int .u8 (m.kind.toNat : Int), .string m.key, .int .i64 m.txn, .int .i64 m.ts, .bool m.gone, .string m.val] 54)) (FoldPost (W.alloc (.cells #[.int .u8 (m.kind.toNat : Int), .string m.key, .int .i64 m.txn, .int .i64 m.ts, .bool m.gone, .string m.val] 54)) key (mgApplyK key l m)) from by
    have h1 := mgFold_any key A n c l (some ⟨W.heap.size, 0, none⟩) 1 1 [m] (W.alloc (.cells #[.int .u8 (m.kind.toNat : Int), .string m.key, .int .i64 m.txn, .int .i64 m.ts, .bool m.gone, .string m.val] 54)) hl hn ((hr.below h).alloc _) rfl (by omega) (rgM_lit W m 54)
    rw [mgFold_one] at h1
    exact h1)
  unfold FoldPost at *
  generalize mgApplyK key l m = R at *
  unfold Ms.v at *
  clear hl hr
  go_enter Try.func26, Try.ntmps26
  go_upto_region 1 with fail
  generalize ((w.alloc (.cells #[.string key, .slice A n c] 24)).alloc (.cells #[.int .u8 (m.kind.toNat : Int), .string m.key, .int .i64 m.txn, .int .i64 m.ts, .bool m.gone, .string m.val] 54)).alloc (.cells #[.string ⟨#[]⟩, .slice none 0 0] 24) = W0 at *
  have m0 := M.out.ab.c0; have m1 := M.out.ab.c1; have m2 := M.out.ab.c2; have m3 := M.out.ab.c3; have m4 := M.out.ab.c4; have m5 := M.out.ab.c5; have s0 := M.out.st.c0; have s1 := M.out.st.c1
  go_wp2_with (go_at_call 32; refine (K.out _ M.out.b).mono ?_; rintro e w2 ⟨A2, c2, rfl, h1, h2, b2⟩; have F2 := Lib.hid ((below1 W0 (.cells #[.int .u8 (m.kind.toNat : Int), .string m.key, .int .i64 m.txn, .int .i64 m.ts, .bool m.gone, .string m.val] 54)).trans (b2.mono (below1 W0 (.cells #[.int .u8 (m.kind.toNat : Int), .string m.key, .int .i64 m.txn, .int .i64 m.ts, .bool m.gone, .string m.val] 54)).size)); have M2 := Lib.hid (M.out.on F2.out); have C2 := Lib.hid h1; have R2 := Lib.hid h2; have r0 := M2.out.r.c0; have r1 := M2.out.r.c1; have g0 := M2.out.r.f0; have g1 := M2.out.r.f1; clear h1 h2 b2)
  have P := M2.out.r.put key A2 R.length c2
  have z0 := P.c0; have z1 := P.c1
  have b4 := belowSetSt (q := w.heap.size + 2) M2.out.b (by omega) key (.slice A2 R.length c2)
  have g4 : RG KV (setSt w2 (w.heap.size + 2) key (.slice A2 R.length c2)) A2 R := R2.out.offBox M2.out.r key _
  unfold setSt at z0 z1 b4 g4
  refine bodyPost_ret (v := .agg #[.string key, .slice A2 R.length c2]) (by simp [results, Try.results26, go_sem, z0, z1]) rfl ⟨A2, c2, rfl, C2.out, g4, b4⟩
set_option maxHeartbeats 2000000 in
set_option maxRecDepth 100000 in
theorem msgFolds_core (key : ByteArray) (A : Option Addr) (n c : Nat) (l : List Vn) (B : Option Addr) (m d : Nat) (ms : List Ms) (w : World) (hl : l.length = n) (hn : n ≤ maxLen) (hnc : n ≤ c) (hr : RG KV w A l) (hm : ms.length = m) (hm1 : m ≤ maxLen) (hmd : m ≤ d) (hs : RG KM w B ms) :
    Calls Try.prog 5 #[.agg #[.string key, .slice A n c], .slice B m d] w fun e w' => e = .returned (.bool true) ∧ Below w.heap.size w w' := by
  have KA := Lib.hid (fun W => mgAwake_any W)
  have KL := Lib.hid (fun W (h : Below w.heap.size w W) => vsLight_any key A n c l W hl hn (hr.below h))
  have KM_ := Lib.hid (fun W (h : Below w.heap.size w W) => mgLight_any B m d ms 20 W hm hm1 (by omega) (hs.below h))
  have HB := Lib.hid (below1 w (.cells #[.string key, .slice A n c] 24))
  have S := Lib.hid (StBox.new w key A n c 24)
  cases hlt : vsLight key l with
  | false =>
    rw [hlt] at KL
    clear hlt hl hn hr hm hm1 hs hmd hnc
    go_enter Try.func5, Try.ntmps5
    go_upto_region 1 with fail
    generalize w.alloc (.cells #[.string key, .slice A n c] 24) = W0 at *
    have s0 := S.out.c0; have s1 := S.out.c1
    go_wp2_with (first
      | (go_at_call 9; refine (KL.out _ HB.out).mono ?_; rintro e w1 ⟨rfl, b1⟩; have HB := Lib.hid (HB.out.trans (b1.mono HB.out.size)); clear b1)
      | (go_at_call 25; refine (KA.out _).mono ?_; rintro e w2 ⟨rfl, b2⟩; have HB := Lib.hid (HB.out.trans (b2.mono HB.out.size)); clear b2)
      | fail)
    go_ret
    exact ⟨rfl, HB.out⟩
  | true =>
    rw [hlt] at KL
    obtain ⟨k1, k2, k3⟩ := vsLight_at hlt
    have hn12 : n ≤ 12 := by omega
    clear hlt k1 k2 k3 hn
    cases hlm : mgLight ms 20 with
    | false =>
      rw [hlm] at KM_
      clear hlm hl hr hm hm1 hs hmd hnc
      go_enter Try.func5, Try.ntmps5
      go_upto_region 1 with fail
      generalize w.alloc (.cells #[.string key, .slice A n c] 24) = W0 at *
      have s0 := S.out.c0; have s1 := S.out.c1
      go_wp2_with (first
        | (go_at_call 9; refine (KL.out _ HB.out).mono ?_; rintro e w1 ⟨rfl, b1⟩; have HB := Lib.hid (HB.out.trans (b1.mono HB.out.size)); clear b1)
        | (go_at_call 24; refine (KM_.out _ HB.out).mono ?_; rintro e w1 ⟨rfl, rfl⟩)
        | (go_at_call 25; refine (KA.out _).mono ?_; rintro e w2 ⟨rfl, b2⟩; have HB := Lib.hid (HB.out.trans (b2.mono HB.out.size)); clear b2)
        | fail)
      go_ret
      exact ⟨rfl, HB.out⟩
    | true =>
      rw [hlm] at KM_
      have hm20 : m ≤ 20 := by rw [← hm]; exact (mgLight_at hlm).1
      clear hlm hm1
      have K1 := Lib.hid (fun (W : World) (x : Ms) (A1 : Option Addr) (c1 : Nat) (h : RG KV W A1 l) => mgApply1_any key A1 n c1 l x W hl hn12 h)
      have K2 := Lib.hid (fun (W : World) (x : Ms) (h : Below w.heap.size w W) => refApply_any key A n c l x W hl (by omega) hnc (hr.below h))
      have K3 := Lib.hid (fun (W : World) (A1 A2 : Option Addr) (q c1 c2 : Nat) (L : List Vn) (hL : L.length = q) (hq : q ≤ 12) (h : RG KV W A1 L) (g : RG KV W A2 L) => show Calls Try.prog 13 #[.agg #[.string key, .slice A1 q c1], .agg #[.string key, .slice A2 q c2]] W fun e w' => e = .returned (.bool true) ∧ Below W.heap.size W w' from by
        have h := refSame_any key key A1 A2 _ _ c1 c2 L L W hL hL (by omega) h g
        rw [show vsSame key L key L = true from by simp [vsSame]] at h
        exact h)
      have KAL := Lib.hid (fun (x : Ms) => mgApplyK_len key l x (by omega))
      have KFL := Lib.hid (mgFold_len key l ms (by omega))
      have K8 := Lib.hid (fun (W : World) (A1 : Option Addr) (c1 : Nat) (h : Below w.heap.size w W) (g : RG KV W A1 l) => mgFold_any key A1 n c1 l B m d ms W hl hn12 g hm (by omega) (hs.below h))
      have K9 := Lib.hid (fun (W : World) (h : Below w.heap.size w W) => refFoldM_any key A n c l B m d ms W hl hn12 hnc (hr.below h) hm (by omega) (hs.below h))
      have K4 := Lib.hid (fun (W : World) (x : Ms) => mgWide_any x W)
      have K5 := Lib.hid (fun (W : World) (x : Ms) => refWide_any x W)
      have K6 := Lib.hid (fun (W : World) (x : Ms) => mgCheck_any x W)
      have K7 := Lib.hid (fun (W : World) (x : Ms) => refCheckM_any x W)
      have HR := Lib.hid (fun (W : World) (h : Below w.heap.size w W) => hr.below h)
      have HS := Lib.hid (fun (W : World) (h : Below w.heap.size w W) => hs.below h)
      have HL := Lib.hid hl
      have HM := Lib.hid hm
      have HN := Lib.hid hn12
      generalize mgFold key l ms = RF at *
      unfold FoldPost ChPostK Ms.v at *
      clear hl hr hs hm hnc hmd hn12
      go_enter Try.func5, Try.ntmps5
      go_upto_region 1 with fail
      generalize w.alloc (.cells #[.string key, .slice A n c] 24) = W0 at *
      have s0 := S.out.c0; have s1 := S.out.c1
      go_upto_region 3 with (first
        | (go_at_call 9; refine (KL.out _ HB.out).mono ?_; rintro e w1 ⟨rfl, b1⟩; have S := Lib.hid (S.out.on b1); have s0 := S.out.c0; have s1 := S.out.c1; have HB := Lib.hid (HB.out.trans (b1.mono HB.out.size)); clear b1)
        | (go_at_call 24; refine (KM_.out _ HB.out).mono ?_; rintro e w1 ⟨rfl, rfl⟩)
        | fail)
      clear s0 s1 KL KM_
      generalize w1 = W2 at *
      have KS := Lib.hid (fun W (h : Below W2.heap.size W2 W) => (⟨(S.out.on h).c0, (S.out.on h).c1⟩ : _ ∧ _))
      have hsw : w.heap.size < W2.heap.size := S.out.lt
      go_cut [5] from 16 to 22 (fun p wx => ∃ b A1 c1, p = .pointer (some ⟨b, 0, none⟩) ∧ StBox wx b key A1 n c1 ∧ RG KV wx A1 l ∧ n ≤ c1 ∧ Below W2.heap.size W2 wx)
      case first =>
        have ba : Below W2.heap.size W2 (W2.alloc (.cells #[] 26)).drew := ((Below.refl _ W2).alloc (Nat.le_refl _) _).drew
        have bs : Below W2.heap.size W2 (W2.alloc (.cells #[.string ⟨#[]⟩, .slice none 0 0] 24)).drew := ((Below.refl _ W2).alloc (Nat.le_refl _) _).drew
        have bb : Below W2.heap.size W2 ((W2.alloc (.cells #[] 26)).alloc (.cells #[.string ⟨#[]⟩, .slice none 0 0] 24)).drew := (((Below.refl _ W2).alloc (Nat.le_refl _) _).alloc (by rw [heap_size_alloc]; omega) _).drew
        have bc : Below W2.heap.size W2 ((W2.alloc (.cells #[.string ⟨#[]⟩, .slice none 0 0] 24)).alloc (.cells #[] 26)).drew := (((Below.refl _ W2).alloc (Nat.le_refl _) _).alloc (by rw [heap_size_alloc]; omega) _).drew
        have BA := Lib.hid ba; have BB := Lib.hid bb; have BC := Lib.hid bc
        have ka := KS.out _ (Below.refl W2.heap.size W2).drew
        have kb := KS.out _ ba; have kc := KS.out _ bs; have kd := KS.out _ bb; have ke := KS.out _ bc
        have LA := Lib.hid ((OG.lit0 (K := KV) (T := 26) W2 (Nat.le_refl W2.heap.size)).drew)
        have LB := Lib.hid (((OG.lit0 (K := KV) (T := 26) W2 (Nat.le_refl W2.heap.size)).alloc (.cells #[.string ⟨#[]⟩, .slice none 0 0] 24)).drew)
        have LC : Hid (OG KV 26 W2.heap.size ((W2.alloc (.cells #[.string ⟨#[]⟩, .slice none 0 0] 24)).alloc (.cells #[] 26)).drew (.slice (some ⟨W2.heap.size + 1, 0, none⟩) 0 0) ([] : List Vn)) := by
          have := OG.lit0 (K := KV) (T := 26) (base := W2.heap.size) (W2.alloc (.cells #[.string ⟨#[]⟩, .slice none 0 0] 24)) (by rw [heap_size_alloc]; omega)
          rw [heap_size_alloc] at this
          exact Lib.hid this.drew
        have XB : Hid (StBox ((W2.alloc (.cells #[] 26)).alloc (.cells #[.string ⟨#[]⟩, .slice none 0 0] 24)).drew (W2.heap.size + 1) ⟨#[]⟩ none 0 0) := by
          have h1 := StBox.new (W2.alloc (.cells #[] 26)) ⟨#[]⟩ none 0 0 24
          rw [heap_size_alloc] at h1
          exact Lib.hid h1.drew
        have XC : Hid (StBox ((W2.alloc (.cells #[.string ⟨#[]⟩, .slice none 0 0] 24)).alloc (.cells #[] 26)).drew W2.heap.size ⟨#[]⟩ none 0 0) := Lib.hid (((StBox.new W2 ⟨#[]⟩ none 0 0 24).alloc (.cells #[] 26)).drew)
        have HRl := Lib.hid (fun W (h : Below W2.heap.size W2 W) => HR.out W (HB.out.trans (h.mono HB.out.size)))
        clear ba bs bb bc
        go_region_held3 (fun W => W.cell? ⟨w.heap.size, 0, none⟩ = some (.string key) ∧ W.cell? ⟨w.heap.size, 1, none⟩ = some (.slice A n c)) (first | with_reducible exact ka | with_reducible exact kb | with_reducible exact kc | with_reducible exact kd | with_reducible exact ke | with_reducible exact kf | with_reducible exact kg | with_reducible exact kh | fail)
          (first
            | (refine step_append_G tgV rfl (.tmp 18) (.tmp 20) rfl W2.heap.size (.slice (some ⟨W2.heap.size, 0, none⟩) 0 0) [] (by simp [Act.eval, Act.put]) LA.out A n c l (by simp [Act.eval, Act.put]) HL.out (HRl.out _ BA.out) (Apart.flat vn_flat) (by have := HN.out; simp; omega) BA.out.size ?_; intro v4 w4 o4 b4 g4 _; (rw [List.nil_append] at o4); obtain ⟨A4, c4, e4, h41, h42, h43, h44⟩ := o4.rg; (rw [HL.out] at e4 h41); subst e4; have B4 := Lib.hid (BA.out.trans b4); have CX := Lib.hid h41; have kf := KS.out _ B4.out; have PX := Lib.hid (StBox.new w4 key A4 n c4 24); have RX := Lib.hid (h43.alloc (.cells #[.string key, .slice A4 n c4] 24)); have BX := Lib.hid (B4.out.alloc B4.out.size (.cells #[.string key, .slice A4 n c4] 24)); have kg := KS.out _ (B4.out.alloc B4.out.size (.cells #[.string ⟨#[]⟩, .slice none 0 0] 24)); have kh := KS.out _ BX.out; clear o4 b4 g4 h41 h42 h43 h44)
            | (refine step_append_G tgV rfl (.tmp 18) (.tmp 20) rfl W2.heap.size (.slice (some ⟨W2.heap.size, 0, none⟩) 0 0) [] (by simp [Act.eval, Act.put]) LB.out A n c l (by simp [Act.eval, Act.put]) HL.out (HRl.out _ BB.out) (Apart.flat vn_flat) (by have := HN.out; simp; omega) BB.out.size ?_; intro v4 w4 o4 b4 g4 _; (rw [List.nil_append] at o4); obtain ⟨A4, c4, e4, h41, h42, h43, h44⟩ := o4.rg; (rw [HL.out] at e4 h41); subst e4; have B4 := Lib.hid (BB.out.trans b4); have CX := Lib.hid h41; have kf := KS.out _ B4.out; have NB := Lib.hid (XB.out.grown g4 (by intro e; injection e with e; have e : W2.heap.size = W2.heap.size + 1 := e; omega)); have PX := Lib.hid (NB.out.put key A4 n c4); have RX := Lib.hid (h43.offBox NB.out key (.slice A4 n c4)); have BX := Lib.hid (belowSetSt (q := W2.heap.size + 1) B4.out (by omega) key (.slice A4 n c4)); have kh0 := (S.out.on B4.out).offSt (show W2.heap.size + 1 ≠ w.heap.size from by omega) key (.slice A4 n c4); have kh := (⟨kh0.c0, kh0.c1⟩ : _ ∧ _); (unfold setSt at kh PX RX BX); have r0 := NB.out.c0; have r1 := NB.out.c1; have f0 := NB.out.f0; have f1 := NB.out.f1; clear o4 b4 g4 h41 h42 h43 h44 kh0)
            | (refine step_append_G tgV rfl (.tmp 18) (.tmp 20) rfl W2.heap.size (.slice (some ⟨W2.heap.size + 1, 0, none⟩) 0 0) [] (by simp [Act.eval, Act.put]) LC.out A n c l (by simp [Act.eval, Act.put]) HL.out (HRl.out _ BC.out) (Apart.flat vn_flat) (by have := HN.out; simp; omega) BC.out.size ?_; intro v4 w4 o4 b4 g4 _; (rw [List.nil_append] at o4); obtain ⟨A4, c4, e4, h41, h42, h43, h44⟩ := o4.rg; (rw [HL.out] at e4 h41); subst e4; have B4 := Lib.hid (BC.out.trans b4); have CX := Lib.hid h41; have kf := KS.out _ B4.out; have NB := Lib.hid (XC.out.grown g4 (by intro e; injection e with e; have e : W2.heap.size + 1 = W2.heap.size := e; omega)); have PX := Lib.hid (NB.out.put key A4 n c4); have RX := Lib.hid (h43.offBox NB.out key (.slice A4 n c4)); have BX := Lib.hid (belowSetSt (q := W2.heap.size) B4.out (by omega) key (.slice A4 n c4)); have kh0 := (S.out.on B4.out).offSt (show W2.heap.size ≠ w.heap.size from by omega) key (.slice A4 n c4); have kh := (⟨kh0.c0, kh0.c1⟩ : _ ∧ _); (unfold setSt at kh PX RX BX); have r0 := NB.out.c0; have r1 := NB.out.c1; have f0 := NB.out.f0; have f1 := NB.out.f1; clear o4 b4 g4 h41 h42 h43 h44 kh0)
            | fail)
        all_goals
          go_wp2_with fail
          go_meet
          exact ⟨_, _, _, rfl, PX.out, RX.out, CX.out, BX.out⟩
      case rest =>
        obtain ⟨b, A1, c1, rfl, hX, hR1, hc1, hb⟩ := hcut
        have X := Lib.hid hX; have R1 := Lib.hid hR1; have BW := Lib.hid (HB.out.trans (hb.mono HB.out.size)); have SC := Lib.hid (S.out.on hb)
        clear hX hR1 hb hc1 KS S
        have KF := Lib.hid (fun W (h : Below wc.heap.size wc W) => (⟨(SC.out.on h).c0, (SC.out.on h).c1, (X.out.on h).c0, (X.out.on h).c1⟩ : _ ∧ _ ∧ _ ∧ _))
        have KR1 := Lib.hid (fun W (h : Below wc.heap.size wc W) => R1.out.below h)
        have KB := Lib.hid (fun W (h : Below wc.heap.size wc W) => BW.out.trans (h.mono BW.out.size))
        clear SC X R1 hsw
        go_upto_region 5 with fail
        go_loopw [6] (fun i wr => ∃ k : Nat, k ≤ m ∧ i = .int .i64 (k : Int) ∧ Below wc.heap.size wc wr) (fun i _ => m - (intOf i).toNat)
        case atStart => exact ⟨0, Nat.zero_le _, rfl, Below.refl _ _⟩
        case round =>
          obtain ⟨k, hk, rfl, hb⟩ := hrel
          have hb0 := Lib.hid hb.drew
          by_cases hlt : k < m
          · obtain ⟨x, hx⟩ : ∃ x, ms[k]? = some x := ⟨ms[k]'(by rw [HM.out]; exact hlt), List.getElem?_eq_getElem _⟩
            obtain ⟨ad, rfl, _⟩ := (HS.out _ (KB.out _ hb)).ms hx
            have KF := Lib.hid (fun W (h : Below wc.heap.size wc W) => show _ ∧ _ ∧ _ ∧ _ ∧ _ ∧ _ ∧ _ ∧ _ ∧ _ ∧ _ from by
              obtain ⟨f0, f1, f2, f3⟩ := KF.out W h
              obtain ⟨ad', e, hv⟩ := (HS.out W (KB.out W h)).ms hx
              injection e with e
              subst e
              exact ⟨f0, f1, f2, f3, hv.d0, hv.d1, hv.d2, hv.d3, hv.d4, hv.d5⟩)
            have KAx := Lib.hid (KAL.out x)
            have K1 := Lib.hid (fun W => K1.out W x)
            have K2 := Lib.hid (fun W => K2.out W x)
            have K4 := Lib.hid (fun W => K4.out W x)
            have K5 := Lib.hid (fun W => K5.out W x)
            have K6 := Lib.hid (fun W => K6.out W x)
            have K7 := Lib.hid (fun W => K7.out W x)
            generalize mgApplyK key l x = L at *
            generalize checkM x = E at *
            generalize mgWide x.kind.toNat = Q at *
            clear hx hb
            have ka := KF.out _ hb0.out
            go_upto_region 7 with fail
            go_region_held3 (fun W => W.cell? ⟨w.heap.size, 0, none⟩ = some (.string key) ∧ W.cell? ⟨w.heap.size, 1, none⟩ = some (.slice A n c) ∧ W.cell? ⟨b, 0, none⟩ = some (.string key) ∧ W.cell? ⟨b, 1, none⟩ = some (.slice A1 n c1) ∧ W.cell? (ad.add (k * 6)) = some (.int .u8 (x.kind.toNat : Int)) ∧ W.cell? ⟨(ad.add (k * 6)).block, (ad.add (k * 6)).off + 1, none⟩ = some (.string x.key) ∧ W.cell? ⟨(ad.add (k * 6)).block, (ad.add (k * 6)).off + 2, none⟩ = some (.int .i64 x.txn) ∧ W.cell? ⟨(ad.add (k * 6)).block, (ad.add (k * 6)).off + 3, none⟩ = some (.int .i64 x.ts) ∧ W.cell? ⟨(ad.add (k * 6)).block, (ad.add (k * 6)).off + 4, none⟩ = some (.bool x.gone) ∧ W.cell? ⟨(ad.add (k * 6)).block, (ad.add (k * 6)).off + 5, none⟩ = some (.string x.val)) (first | with_reducible exact ka | with_reducible exact kb | with_reducible exact kc | with_reducible exact kd | with_reducible exact ke | with_reducible exact kf | with_reducible exact kg | with_reducible exact kh | fail)
              (first
                | (go_at_call 26; refine (K1.out _ _ _ (KR1.out _ hb0.out)).mono ?_; rintro e u1 ⟨A2, c2, rfl, _, h2, b⟩; have b1 := Lib.hid (hb0.out.trans (b.mono hb0.out.size)); have R2 := Lib.hid h2; have kb := KF.out _ b1.out; clear h2 b)
                | (go_at_call 27; refine (K2.out _ (KB.out _ b1.out)).mono ?_; rintro e u2 ⟨A3, c3, rfl, _, h3, _, b⟩; have b2 := Lib.hid (b1.out.trans (b.mono b1.out.size)); have R3 := Lib.hid h3; have R2 := Lib.hid (R2.out.below b); have kc := KF.out _ b2.out; clear h3 b)
                | (go_at_call 13; refine (K3.out _ _ _ _ _ _ L rfl KAx.out R2.out R3.out).mono ?_; rintro e u3 ⟨rfl, b⟩; have b3 := Lib.hid (b2.out.trans (b.mono b2.out.size)); have kd := KF.out _ b3.out; clear b)
                | (go_at_call 28; refine (K4.out _).mono ?_; rintro e u4 ⟨rfl, b⟩; have b4 := Lib.hid (b3.out.trans (b.mono b3.out.size)); have ke := KF.out _ b4.out; clear b)
                | (go_at_call 29; refine (K5.out _).mono ?_; rintro e u5 ⟨rfl, b⟩; have b5 := Lib.hid (b4.out.trans (b.mono b4.out.size)); have kf := KF.out _ b5.out; clear b)
                | (go_at_call 30; refine (K6.out _).mono ?_; rintro e u6 ⟨rfl, b⟩; have b6 := Lib.hid (b5.out.trans (b.mono b5.out.size)); have kg := KF.out _ b6.out; clear b)
                | (go_at_call 31; refine (K7.out _).mono ?_; rintro e u7 ⟨rfl, b⟩; have b7 := Lib.hid (b6.out.trans (b.mono b6.out.size)); have kh := KF.out _ b7.out; clear b)
                | fail)
            all_goals
              have FIN := Lib.hid b7.out
              clear ka kb kc kd ke kf kg kh
              go_wp2_with fail
              go_roundw
              case rel => exact ⟨k + 1, by omega, by go_num, FIN.out⟩
              case measure => simp [intOf]; omega
          · obtain rfl : k = m := by omega
            clear hb K1 K2 K4 K5 K6 K7
            have ka := KF.out _ hb0.out
            go_upto_region 9 with fail
            go_region_held3 (fun W => W.cell? ⟨w.heap.size, 0, none⟩ = some (.string key) ∧ W.cell? ⟨w.heap.size, 1, none⟩ = some (.slice A n c) ∧ W.cell? ⟨b, 0, none⟩ = some (.string key) ∧ W.cell? ⟨b, 1, none⟩ = some (.slice A1 n c1)) (first | with_reducible exact ka | with_reducible exact kb | with_reducible exact kc | with_reducible exact kd | with_reducible exact ke | with_reducible exact kf | fail)
              (first
                | (go_at_call 32; refine (K8.out _ _ _ (KB.out _ hb0.out) (KR1.out _ hb0.out)).mono ?_; rintro e u1 ⟨A2, c2, rfl, _, h2, b⟩; have b1 := Lib.hid (hb0.out.trans (b.mono hb0.out.size)); have R2 := Lib.hid h2; have kb := KF.out _ b1.out; clear h2 b)
                | (go_at_call 33; refine (K9.out _ (KB.out _ b1.out)).mono ?_; rintro e u2 ⟨A3, c3, rfl, _, h3, b⟩; have b2 := Lib.hid (b1.out.trans (b.mono b1.out.size)); have R3 := Lib.hid h3; have R2 := Lib.hid (R2.out.below b); have kc := KF.out _ b2.out; clear h3 b)
                | (go_at_call 13;
                    first
                      | ((with_reducible refine Calls.mono (K3.out u2 A2 A3 _ c2 c3 RF rfl KFL.out R2.out R3.out) ?_); rintro e u3 ⟨rfl, b⟩; have b3 := Lib.hid (b2.out.trans (b.mono b2.out.size)); have kd := KF.out _ b3.out; clear b)
                      | ((with_reducible refine Calls.mono (K3.out u3 A1 A n c1 c l HL.out HN.out (KR1.out _ b3.out) (HR.out _ (KB.out _ b3.out))) ?_); rintro e u4 ⟨rfl, b⟩; have b4 := Lib.hid (b3.out.trans (b.mono b3.out.size)); have ke := KF.out _ b4.out; clear b))
                | (go_at_call 25; refine (KA.out _).mono ?_; rintro e u5 ⟨rfl, b⟩; have b5 := Lib.hid (b4.out.trans (b.mono b4.out.size)); have kf := KF.out _ b5.out; clear b)
                | fail)
            all_goals
              go_wp2_with fail
              go_ret
              exact ⟨rfl, KB.out _ b5.out⟩
end Go.Proofs.Ytchfpgdioclajaa
