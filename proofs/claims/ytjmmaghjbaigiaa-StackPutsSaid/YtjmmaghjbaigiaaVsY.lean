/- Stacks as bytes: the program's Get. -/
import Derived.Test.YtjmmaghjbaigiaaVsX
namespace Go.Proofs.Ytjmmaghjbaigiaa
open Go.RowKit
set_option linter.unusedVariables false
set_option linter.unusedSimpArgs false
theorem gList_len (b : List UInt8) : (gList b).length ≤ 8 := by
  unfold gList
  rw [gVs_len]
  unfold gN
  omega
theorem vsBytes_any (A B : Option Addr) (n m c d : Nat) (a b : List UInt8) (w : World) (ha : a.length = n) (hb : b.length = m) (hr : RB w A a) (hs : RB w B b) :
    Calls Try.prog 44 #[.slice A n c, .slice B m d] w fun e w' => e = .returned (.bool (decide (a = b))) ∧ w = w' := by
  have h1 := run_str w A n c a ha hr
  have h2 := run_str w B m d b hb hs
  have HE : ((str a).toList == (str b).toList) = decide (a = b) := by
    rw [Bool.eq_iff_iff, beq_iff_eq, decide_eq_true_iff]
    exact ⟨fun e => by simpa [str, ByteArray.toList_eq] using e, fun e => by rw [e]⟩
  have HE := Lib.hid HE
  clear ha hb hr hs
  go_enter Try.func44, Try.ntmps44
  go_wp2
  go_ret
  exact ⟨by rw [← HE.out]; rfl, rfl⟩
set_option maxHeartbeats 4000000 in
set_option maxRecDepth 100000 in
theorem vsGet_any (A : Option Addr) (n c : Nat) (l : List UInt8) (w : World) (hN : n ≤ 1000000) (hl : l.length = n) (hc : n ≤ c) (hr : RB w A l) :
    Calls Try.prog 12 #[.slice A n c] w fun e w' => ∃ key v' L z, e = .returned (.tuple #[.agg #[.string key, v'], .int .i64 (z : Nat)]) ∧ GetOfS l key L z ∧ OG KV 66 w.heap.size w' v' L ∧ Below w.heap.size w w' := by
  have KG := Lib.hid (fun W (h : Below w.heap.size w W) => vsGuess_any A n c l W hN hl hc (hr.below h))
  have hgl := Lib.hid (gList_len l)
  have HGet := Lib.hid (GetOfS.guess l (gKey l) (gList l) (guess_uniq l))
  generalize gKey l = key at *
  generalize gList l = L at *
  have KP := Lib.hid (fun (W : World) (B : Option Addr) (d : Nat) (h1 : L.length ≤ d) (h : RG KV W B L) => vsPut_any key B L.length d L W rfl (by have := hgl.out; omega) h1 h)
  have KE := Lib.hid (fun (B : Option Addr) (m d : Nat) (b : List UInt8) W (hb : Below w.heap.size w W) (h1 : b.length = m) (hB : RB W B b) => vsBytes_any B A m n d c b l W h1 hl hB (hr.below hb))
  have B0 := Lib.hid (below1 w (.cells #[.string ⟨#[]⟩, .slice none 0 0] 24))
  have R0 := Lib.hid (StBox.new w ⟨#[]⟩ none 0 0 24)
  clear hr hl hN
  obtain ⟨z, hz⟩ : ∃ z, z = vsCheck key L := ⟨_, rfl⟩
  obtain ⟨P, hP⟩ : ∃ P, P = (if vsCheck key L = 0 then putS key L else []) := ⟨_, rfl⟩
  rw [← hP, ← hz] at KP
  have HZ := Lib.hid hz
  have HP := Lib.hid hP
  clear hz hP
  by_cases hok : z = 0 ∧ P = l
  · have HG : Hid (GetOfS l key L 0) := Lib.hid (by
      have h := HGet.out
      have e : vsCheck key L = 0 ∧ putS key L = l := ⟨HZ.out.symm.trans hok.1, by have := HP.out; rw [if_pos (HZ.out.symm.trans hok.1)] at this; rw [← this]; exact hok.2⟩
      rw [if_pos e, if_pos e, if_pos e] at h
      exact h)
    obtain ⟨rfl, rfl⟩ := hok
    clear HGet HP HZ
    go_enter Try.func12, Try.ntmps12
    go_upto_region 1 with fail
    generalize w.alloc (.cells #[.string ⟨#[]⟩, .slice none 0 0] 24) = W0 at *
    go_upto_region 2 with (go_at_call 43; refine (KG.out _ B0.out).mono ?_; rintro e w1 ⟨v1, rfl, o1, b1⟩; obtain ⟨A1, c1, e1, h11, h12, h13, h14⟩ := o1.rg; subst e1; have O1 := Lib.hid (o1.alloc (.cells #[.string key, .slice A1 L.length c1] 24)); have G1 := Lib.hid (h13.alloc (.cells #[.string key, .slice A1 L.length c1] 24)); have C1 := Lib.hid h11; have B1 := Lib.hid ((B0.out.trans (b1.mono B0.out.size)).alloc (Nat.le_trans B0.out.size b1.size) (.cells #[.string key, .slice A1 L.length c1] 24)); have R1 := Lib.hid ((R0.out.on b1).alloc (.cells #[.string key, .slice A1 L.length c1] 24)); have S1 := Lib.hid (StBox.new w1 key A1 L.length c1 24); clear o1 b1 h11 h12 h13 h14)
    generalize w1.alloc (.cells #[.string key, .slice A1 L.length c1] 24) = W1 at *
    have HW0 := Lib.hid R0.out.lt
    generalize w1.heap.size = q at *
    have s0 := S1.out.c0
    have s1 := S1.out.c1
    go_wp2_with (first
      | (go_at_call 10; refine (KP.out _ _ _ C1.out G1.out).mono ?_; rintro e w2 ⟨v2, rfl, o2, b2⟩; obtain ⟨A2, c2, rfl, hc2, r2⟩ := o2.form; have O2 := Lib.hid (O1.out.below b2); have B2 := Lib.hid (B1.out.trans (b2.mono B1.out.size)); have R2 := Lib.hid (R1.out.on b2); have S2 := Lib.hid (S1.out.on b2); have P2 := Lib.hid r2; have s0 := S2.out.c0; have s1 := S2.out.c1; have r0 := R2.out.c0; have r1 := R2.out.c1; have g0 := R2.out.f0; have g1 := R2.out.f1; clear o2 b2 r2 hc2)
      | (go_at_call 44; refine (KE.out _ _ _ _ _ B2.out rfl P2.out).mono ?_; rintro e w3 ⟨rfl, rfl⟩)
      | fail)
    have P3 := R2.out.put key A1 L.length c1
    have z0 := P3.c0; have z1 := P3.c1
    have o4 := O2.out.setSt (q := w.heap.size) HW0.out key (.slice A1 L.length c1)
    have b4 := belowSetSt (q := w.heap.size) B2.out (by omega) key (.slice A1 L.length c1)
    unfold setSt at z0 z1 o4 b4
    refine bodyPost_ret (v := .tuple #[.agg #[.string key, .slice A1 L.length c1], .int .i64 0]) (by simp [results, Try.results12, go_sem, z0, z1]) rfl ⟨key, _, L, 0, rfl, HG.out, o4.lift B0.out.size, b4⟩
  · have HG : Hid (GetOfS l ⟨#[]⟩ [] 4) := Lib.hid (by
      have h := HGet.out
      have e : ¬ (vsCheck key L = 0 ∧ putS key L = l) := fun e => hok ⟨HZ.out.trans e.1, by have := HP.out; rw [if_pos e.1] at this; rw [this]; exact e.2⟩
      rw [if_neg e, if_neg e, if_neg e] at h
      exact h)
    by_cases hz0 : z = 0
    · have hPl : P ≠ l := fun e => hok ⟨hz0, e⟩
      subst hz0
      have KE := Lib.hid (fun (B : Option Addr) (m d : Nat) W (hb : Below w.heap.size w W) (h1 : P.length = m) (hB : RB W B P) => show Calls Try.prog 44 #[.slice B m d, .slice A n c] W fun e w' => e = .returned (.bool false) ∧ W = w' from by
        have h := KE.out B m d P W hb h1 hB
        rw [decide_eq_false hPl] at h
        exact h)
      clear HGet HP HZ hok hPl
      go_enter Try.func12, Try.ntmps12
      go_upto_region 1 with fail
      generalize w.alloc (.cells #[.string ⟨#[]⟩, .slice none 0 0] 24) = W0 at *
      go_upto_region 2 with (go_at_call 43; refine (KG.out _ B0.out).mono ?_; rintro e w1 ⟨v1, rfl, o1, b1⟩; obtain ⟨A1, c1, e1, h11, h12, h13, h14⟩ := o1.rg; subst e1; have O1 := Lib.hid (o1.alloc (.cells #[.string key, .slice A1 L.length c1] 24)); have G1 := Lib.hid (h13.alloc (.cells #[.string key, .slice A1 L.length c1] 24)); have C1 := Lib.hid h11; have B1 := Lib.hid ((B0.out.trans (b1.mono B0.out.size)).alloc (Nat.le_trans B0.out.size b1.size) (.cells #[.string key, .slice A1 L.length c1] 24)); have R1 := Lib.hid ((R0.out.on b1).alloc (.cells #[.string key, .slice A1 L.length c1] 24)); have S1 := Lib.hid (StBox.new w1 key A1 L.length c1 24); clear o1 b1 h11 h12 h13 h14)
      generalize w1.alloc (.cells #[.string key, .slice A1 L.length c1] 24) = W1 at *
      have HW0 := Lib.hid R0.out.lt
      generalize w1.heap.size = q at *
      have s0 := S1.out.c0
      have s1 := S1.out.c1
      go_wp2_with (first
        | (go_at_call 10; refine (KP.out _ _ _ C1.out G1.out).mono ?_; rintro e w2 ⟨v2, rfl, o2, b2⟩; obtain ⟨A2, c2, rfl, hc2, r2⟩ := o2.form; have O2 := Lib.hid (O1.out.below b2); have B2 := Lib.hid (B1.out.trans (b2.mono B1.out.size)); have R2 := Lib.hid (R1.out.on b2); have S2 := Lib.hid (S1.out.on b2); have P2 := Lib.hid r2; have s0 := S2.out.c0; have s1 := S2.out.c1; have r0 := R2.out.c0; have r1 := R2.out.c1; have g0 := R2.out.f0; have g1 := R2.out.f1; clear o2 b2 r2 hc2)
        | (go_at_call 44; refine (KE.out _ _ _ _ B2.out rfl P2.out).mono ?_; rintro e w3 ⟨rfl, rfl⟩)
        | fail)
      have P3 := R2.out.put ⟨#[]⟩ none 0 0
      have z0 := P3.c0; have z1 := P3.c1
      have b4 := belowSetSt (q := w.heap.size) B2.out (by omega) ⟨#[]⟩ (.slice none 0 0)
      unfold setSt at z0 z1 b4
      refine bodyPost_ret (v := .tuple #[.agg #[.string ⟨#[]⟩, .slice none 0 0], .int .i64 4]) (by simp [results, Try.results12, go_sem, z0, z1]) rfl ⟨⟨#[]⟩, _, [], 4, rfl, HG.out, OG.nil, b4⟩
    · have hd : ((z : Int) != 0) = true := by simp; omega
      clear HGet HP HZ hok hz0
      go_enter Try.func12, Try.ntmps12
      go_upto_region 1 with fail
      generalize w.alloc (.cells #[.string ⟨#[]⟩, .slice none 0 0] 24) = W0 at *
      go_upto_region 2 with (go_at_call 43; refine (KG.out _ B0.out).mono ?_; rintro e w1 ⟨v1, rfl, o1, b1⟩; obtain ⟨A1, c1, e1, h11, h12, h13, h14⟩ := o1.rg; subst e1; have O1 := Lib.hid (o1.alloc (.cells #[.string key, .slice A1 L.length c1] 24)); have G1 := Lib.hid (h13.alloc (.cells #[.string key, .slice A1 L.length c1] 24)); have C1 := Lib.hid h11; have B1 := Lib.hid ((B0.out.trans (b1.mono B0.out.size)).alloc (Nat.le_trans B0.out.size b1.size) (.cells #[.string key, .slice A1 L.length c1] 24)); have R1 := Lib.hid ((R0.out.on b1).alloc (.cells #[.string key, .slice A1 L.length c1] 24)); have S1 := Lib.hid (StBox.new w1 key A1 L.length c1 24); clear o1 b1 h11 h12 h13 h14)
      generalize w1.alloc (.cells #[.string key, .slice A1 L.length c1] 24) = W1 at *
      have HW0 := Lib.hid R0.out.lt
      generalize w1.heap.size = q at *
      have s0 := S1.out.c0
      have s1 := S1.out.c1
      go_wp2_with (first
        | (go_at_call 10; refine (KP.out _ _ _ C1.out G1.out).mono ?_; rintro e w2 ⟨v2, rfl, o2, b2⟩; obtain ⟨A2, c2, rfl, hc2, r2⟩ := o2.form; have O2 := Lib.hid (O1.out.below b2); have B2 := Lib.hid (B1.out.trans (b2.mono B1.out.size)); have R2 := Lib.hid (R1.out.on b2); have S2 := Lib.hid (S1.out.on b2); have P2 := Lib.hid r2; have s0 := S2.out.c0; have s1 := S2.out.c1; have r0 := R2.out.c0; have r1 := R2.out.c1; have g0 := R2.out.f0; have g1 := R2.out.f1; clear o2 b2 r2 hc2)
        | (go_at_call 44; refine (KE.out _ _ _ _ _ B2.out rfl P2.out).mono ?_; rintro e w3 ⟨rfl, rfl⟩)
        | fail)
      have P3 := R2.out.put ⟨#[]⟩ none 0 0
      have z0 := P3.c0; have z1 := P3.c1
      have b4 := belowSetSt (q := w.heap.size) B2.out (by omega) ⟨#[]⟩ (.slice none 0 0)
      unfold setSt at z0 z1 b4
      refine bodyPost_ret (v := .tuple #[.agg #[.string ⟨#[]⟩, .slice none 0 0], .int .i64 4]) (by simp [results, Try.results12, go_sem, z0, z1]) rfl ⟨⟨#[]⟩, _, [], 4, rfl, HG.out, OG.nil, b4⟩
end Go.Proofs.Ytjmmaghjbaigiaa
