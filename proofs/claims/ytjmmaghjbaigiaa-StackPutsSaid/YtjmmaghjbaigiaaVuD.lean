/- The document's stacks: Get. -/
import Derived.Test.YtjmmaghjbaigiaaVuA
import Derived.Test.YtjmmaghjbaigiaaVuC
namespace Go.Proofs.Ytjmmaghjbaigiaa
open Go.RowKit
set_option linter.unusedVariables false
set_option linter.unusedSimpArgs false
theorem RG.offBx {W : World} {A : Option Addr} {L : List Vn} {q : Nat} {k0 : ByteArray} {A0 : Option Addr} {n0 c0 : Nat} (h : RG KV W A L) (s : StBox W q k0 A0 n0 c0) (key : ByteArray) (u : Value) : RG KV (setSt W q key u) A L := fun j x hx => by
  obtain ⟨ad, cs, e, h1, h2⟩ := h j x hx
  have h2 : cs = x.cs := h2
  subst h2
  refine ⟨ad, x.cs, e, fun i v hv => ?_, rfl⟩
  have hc := h1 i v hv
  have n0 : (⟨q, 0, none⟩ : Addr) ≠ (ad.add (j * KV.k)).add i := fun e0 => by
    rw [← e0, s.c0] at hc
    injection hc with hc
    match i, hv with
    | 0, hv => simp [Vn.cs] at hv; rw [← hv] at hc; cases hc
    | 1, hv => simp [Vn.cs] at hv; rw [← hv] at hc; cases hc
    | 2, hv => simp [Vn.cs] at hv; rw [← hv] at hc; cases hc
    | 3, hv =>
      rw [vn_pos _ 3 (by omega)] at e0
      injection e0 with _ e0
      omega
    | i + 4, hv => simp [Vn.cs] at hv
  have n1 : (⟨q, 1, none⟩ : Addr) ≠ (ad.add (j * KV.k)).add i := fun e0 => by
    rw [← e0, s.c1] at hc
    injection hc with hc
    match i, hv with
    | 0, hv | 1, hv | 2, hv | 3, hv => simp [Vn.cs] at hv; rw [← hv] at hc; cases hc
    | i + 4, hv => simp [Vn.cs] at hv
  unfold setSt
  rw [World.cell?_setCell_other _ _ _ _ n1, World.cell?_setCell_other _ _ _ _ n0]
  exact hc
set_option maxHeartbeats 2000000 in
set_option maxRecDepth 100000 in
theorem refGetS_any (A : Option Addr) (n c : Nat) (l : List UInt8) (w : World) (hN : n ≤ 1000000) (hl : l.length = n) (hc : n ≤ c) (hr : RB w A l) :
    Calls Try.prog 13 #[.slice A n c] w fun e w' => ∃ key B m d L z, e = .returned (.tuple #[.agg #[.string key, .slice B m d], .int .i64 ((z : Nat) : Int)]) ∧ L.length = m ∧ m ≤ d ∧ m ≤ 9 ∧ RG KV w' B L ∧ GetOfS l key L z ∧ Below w.heap.size w w' := by
  have KT := Lib.hid (fun W (h : Below w.heap.size w W) => refTake_any A n c l W hN hl hc (hr.below h))
  have KP := Lib.hid (fun (W : World) (key : ByteArray) (B : Option Addr) (m d : Nat) (L : List Vn) (h1 : L.length = m) (h2 : m ≤ 9) (h : RG KV W B L) => refPutS_any key B m d L W h1 (by omega) h)
  have HR := Lib.hid (fun W (h : Below w.heap.size w W) => hr.below h)
  have HB := Lib.hid (below1 w (.cells #[.string ⟨#[]⟩, .slice none 0 0] 24))
  have R0 := Lib.hid (StBox.new w ⟨#[]⟩ none 0 0 24)
  have HL := Lib.hid hl
  clear hr hl hN hc
  go_enter Try.func13, Try.ntmps13
  go_upto_region 1 with fail
  generalize w.alloc (.cells #[.string ⟨#[]⟩, .slice none 0 0] 24) = W0 at *
  go_upto_region 2 with (first | (go_at_call 45; refine (KT.out _ HB.out).mono ?_; rintro e w1 ⟨A1, n1, c1, f1, key, B, m, d, L, rfl, h1, h2, h3, h4, h5, b1⟩; have HB := Lib.hid (HB.out.trans (b1.mono HB.out.size)); have R0 := Lib.hid (R0.out.on b1); have G := Lib.hid h4; have LM := Lib.hid h1; have MD := Lib.hid h2; have M9 := Lib.hid h3; have HG := Lib.hid (GetOfS.guess l key L h5); clear h1 h2 h3 h4 h5 b1) | fail)
  have HB := Lib.hid ((HB.out.alloc HB.out.size (.cells #[.slice A1 n1 c1, .int .i64 (f1 : Int)] 80)).alloc (by have := HB.out.size; rw [heap_size_alloc]; omega) (.cells #[.string key, .slice B m d] 24))
  have R0 := Lib.hid ((R0.out.alloc (.cells #[.slice A1 n1 c1, .int .i64 (f1 : Int)] 80)).alloc (.cells #[.string key, .slice B m d] 24))
  have G := Lib.hid ((G.out.alloc (.cells #[.slice A1 n1 c1, .int .i64 (f1 : Int)] 80)).alloc (.cells #[.string key, .slice B m d] 24))
  have S := Lib.hid (StBox.new (w1.alloc (.cells #[.slice A1 n1 c1, .int .i64 (f1 : Int)] 80)) key B m d 24)
  rw [heap_size_alloc] at S
  generalize (w1.alloc (.cells #[.slice A1 n1 c1, .int .i64 (f1 : Int)] 80)).alloc (.cells #[.string key, .slice B m d] 24) = W1 at *
  have s0 := S.out.c0; have s1 := S.out.c1
  obtain ⟨z, hz⟩ : ∃ z, z = vsCheck key L := ⟨_, rfl⟩
  obtain ⟨P, hP⟩ : ∃ P, P = (if vsCheck key L = 0 then putS key L else []) := ⟨_, rfl⟩
  have KP2 := Lib.hid (fun W (h : RG KV W B L) => KP.out W key B m d L LM.out M9.out h)
  rw [← hP, ← hz] at KP2
  have HZ := Lib.hid hz
  have HP := Lib.hid hP
  clear hz hP KP KT
  by_cases hok : z = 0 ∧ P = l
  · have HO : Hid (GetOfS l key L 0) := Lib.hid (by
      have h := HG.out
      have e : vsCheck key L = 0 ∧ putS key L = l := by
        have h1 : vsCheck key L = 0 := HZ.out.symm.trans hok.1
        have h2 := HP.out
        rw [if_pos h1] at h2
        exact ⟨h1, h2.symm.trans hok.2⟩
      rw [if_pos e, if_pos e, if_pos e] at h
      exact h)
    obtain ⟨rfl, rfl⟩ := hok
    clear HG HZ HP
    go_upto_region 3 with (first | (go_at_call 11; refine (KP2.out _ G.out).mono ?_; rintro e w2 ⟨v2, rfl, o2, b2⟩; obtain ⟨A2, c2, rfl, hc2, r2⟩ := o2.form; have P2 := Lib.hid r2; have HB := Lib.hid (HB.out.trans (b2.mono HB.out.size)); have R0 := Lib.hid (R0.out.on b2); have G := Lib.hid (G.out.below b2); have S := Lib.hid (S.out.on b2); clear o2 b2 hc2 r2) | fail)
    have s0 := S.out.c0; have s1 := S.out.c1
    have r0 := R0.out.c0; have r1 := R0.out.c1; have rf0 := R0.out.f0; have rf1 := R0.out.f1
    have ka := run_str w2 A2 P.length c2 P rfl P2.out
    have kb := run_str w2 A n c P HL.out (HR.out _ HB.out)
    go_wp2_with fail
    have PX := R0.out.put key B m d
    have BF := belowSetSt (q := w.heap.size) HB.out (Nat.le_refl _) key (.slice B m d)
    have GF := G.out.offBx R0.out key (.slice B m d)
    have z0 := PX.c0; have z1 := PX.c1
    unfold setSt at z0 z1 BF GF
    refine bodyPost_ret (v := .tuple #[.agg #[.string key, .slice B m d], .int .i64 0]) (by simp [results, Try.results13, go_sem, z0, z1]) rfl ⟨key, B, m, d, L, 0, rfl, LM.out, MD.out, M9.out, GF, HO.out, BF⟩
  · have HO : Hid (GetOfS l ⟨#[]⟩ [] 4) := Lib.hid (by
      have h := HG.out
      have e : ¬ (vsCheck key L = 0 ∧ putS key L = l) := fun e => hok ⟨HZ.out.trans e.1, by have := HP.out; rw [if_pos e.1] at this; rw [this]; exact e.2⟩
      rw [if_neg e, if_neg e, if_neg e] at h
      exact h)
    by_cases hz0 : z = 0
    · have hPl : P ≠ l := fun e => hok ⟨hz0, e⟩
      subst hz0
      have hne : ((str P).toList == (str l).toList) = false := by
        rw [beq_eq_false_iff_ne]
        intro e
        exact hPl (by simpa [str, ByteArray.toList_eq] using e)
      clear HG HZ HP hok hPl
      go_upto_region 3 with (first | (go_at_call 11; refine (KP2.out _ G.out).mono ?_; rintro e w2 ⟨v2, rfl, o2, b2⟩; obtain ⟨A2, c2, rfl, hc2, r2⟩ := o2.form; have P2 := Lib.hid r2; have HB := Lib.hid (HB.out.trans (b2.mono HB.out.size)); have R0 := Lib.hid (R0.out.on b2); have G := Lib.hid (G.out.below b2); have S := Lib.hid (S.out.on b2); clear o2 b2 hc2 r2) | fail)
      have ka := run_str w2 A2 P.length c2 P rfl P2.out
      have kb := run_str w2 A n c l HL.out (HR.out _ HB.out)
      have r0 := R0.out.c0; have r1 := R0.out.c1; have rf0 := R0.out.f0; have rf1 := R0.out.f1
      go_wp2_with fail
      have PX := R0.out.put ⟨#[]⟩ none 0 0
      have BF := belowSetSt (q := w.heap.size) HB.out (Nat.le_refl _) ⟨#[]⟩ (.slice none 0 0)
      have z0 := PX.c0; have z1 := PX.c1
      unfold setSt at z0 z1 BF
      refine bodyPost_ret (v := .tuple #[.agg #[.string ⟨#[]⟩, .slice none 0 0], .int .i64 4]) (by simp [results, Try.results13, go_sem, z0, z1]) rfl ⟨⟨#[]⟩, none, 0, 0, [], 4, rfl, rfl, Nat.le_refl _, by omega, (fun j x hx => by simp at hx), HO.out, BF⟩
    · have hd : ((z : Int) != 0) = true := by simp; omega
      clear HG HZ HP hok hz0
      go_upto_region 3 with (first | (go_at_call 11; refine (KP2.out _ G.out).mono ?_; rintro e w2 ⟨v2, rfl, o2, b2⟩; obtain ⟨A2, c2, rfl, hc2, r2⟩ := o2.form; have P2 := Lib.hid r2; have HB := Lib.hid (HB.out.trans (b2.mono HB.out.size)); have R0 := Lib.hid (R0.out.on b2); have G := Lib.hid (G.out.below b2); have S := Lib.hid (S.out.on b2); clear o2 b2 hc2 r2) | fail)
      have r0 := R0.out.c0; have r1 := R0.out.c1; have rf0 := R0.out.f0; have rf1 := R0.out.f1
      go_wp2_with fail
      have PX := R0.out.put ⟨#[]⟩ none 0 0
      have BF := belowSetSt (q := w.heap.size) HB.out (Nat.le_refl _) ⟨#[]⟩ (.slice none 0 0)
      have z0 := PX.c0; have z1 := PX.c1
      unfold setSt at z0 z1 BF
      refine bodyPost_ret (v := .tuple #[.agg #[.string ⟨#[]⟩, .slice none 0 0], .int .i64 4]) (by simp [results, Try.results13, go_sem, z0, z1]) rfl ⟨⟨#[]⟩, none, 0, 0, [], 4, rfl, rfl, Nat.le_refl _, by omega, (fun j x hx => by simp at hx), HO.out, BF⟩
end Go.Proofs.Ytjmmaghjbaigiaa
