/- The walk of the law StackStays. -/
import Derived.Test.YtmknnbnamlbjnaaKStackEnds
import Derived.Test.YtmknnbnamlbjnaaVsL
import Derived.StillTailTactics
namespace Go.Proofs.Ytmknnbnamlbjnaa
open Go.RowKit
set_option linter.unusedVariables false
set_option linter.unusedSimpArgs false
/-- A call lies at a place. -/
structure AskAt (w : World) (p : Addr) (a : Askt) : Prop where
  c0 : w.cell? p = some (.int .u8 (a.1.toNat : Int))
  c1 : w.cell? ⟨p.block, p.off + 1, none⟩ = some (.int .i64 a.2.1.txn)
  c2 : w.cell? ⟨p.block, p.off + 2, none⟩ = some (.int .i64 a.2.1.ts)
  c3 : w.cell? ⟨p.block, p.off + 3, none⟩ = some (.bool a.2.1.gone)
  c4 : w.cell? ⟨p.block, p.off + 4, none⟩ = some (.string a.2.1.val)
  c5 : w.cell? ⟨p.block, p.off + 5, none⟩ = some (.int .i64 a.2.2)
theorem RG.ask {w : World} {A : Option Addr} {l : List Askt} (h : RG KAsk w A l) {k : Nat} {a : Askt} (hk : l[k]? = some a) : ∃ ad, A = some ad ∧ AskAt w (ad.add (k * 6)) a := by
  obtain ⟨ad, cs, e, h1, h2⟩ := h k a hk
  have h2 := kask_cells h2
  subst h2
  have g : ∀ i u, (askCs a)[i]? = some u → i ≠ 0 → w.cell? ⟨(ad.add (k * 6)).block, (ad.add (k * 6)).off + i, none⟩ = some u := fun i u hu hi => by rw [← vn_pos _ i hi]; exact h1 i u hu
  refine ⟨ad, e, ?_, g 1 _ rfl (by omega), g 2 _ rfl (by omega), g 3 _ rfl (by omega), g 4 _ rfl (by omega), g 5 _ rfl (by omega)⟩
  have := h1 0 _ rfl
  rwa [Addr.add_nought] at this
theorem vsCheck_do {key : ByteArray} {l : List Vn} {k : Nat} {v : Vn} {s : Int} (h : vsCheck key l = 0) (hm : vsMay v s = true) : vsCheck key (vsDo k l v s) = 0 := by
  obtain ⟨h1, h2, h3⟩ := vsMay_iff.1 hm
  unfold vsDo
  split
  · exact vsCheck_commit h h3
  · split
    · exact vsCheck_sub h (vsAbort_sub _ _)
    · split
      · exact vsCheck_sub h (vsPrune_sub _ _)
      · exact vsCheck_write h h1
theorem stkCalls3 {f : FuncId} {args : Array Value} {W : World} {key : ByteArray} {l : List Vn} (h : Calls Try.prog f args W fun e w' => ∃ v', e = .returned (.agg #[.string key, v']) ∧ OG KV 26 W.heap.size w' v' l ∧ Below W.heap.size W w') :
    Calls Try.prog f args W fun e w' => ∃ A c, e = .returned (.agg #[.string key, .slice A l.length c]) ∧ l.length ≤ c ∧ OG KV 26 W.heap.size w' (.slice A l.length c) l ∧ Below W.heap.size W w' := by
  refine h.mono ?_
  rintro e w' ⟨v', rfl, o, b⟩
  obtain ⟨A, c, rfl, h1, h2, h3, _⟩ := o.rg
  exact ⟨A, c, rfl, h1, o, b⟩
theorem vsGet4 {args : Array Value} {W : World} {Q : List UInt8} (h : Calls Try.prog 19 args W fun e w' => ∃ key v' L z, e = .returned (.tuple #[.agg #[.string key, v'], .int .i64 (z : Nat)]) ∧ GetOfS Q key L z ∧ OG KV 26 W.heap.size w' v' L ∧ Below W.heap.size W w') (hg : ∀ k m e, GetOfS Q k m e → e = 4) :
    Calls Try.prog 19 args W fun e w' => ∃ key2 A n c, e = .returned (.tuple #[.agg #[.string key2, .slice A n c], .int .i64 4]) ∧ Below W.heap.size W w' := by
  refine h.mono ?_
  rintro e w' ⟨key2, v', L2, z, rfl, h1, h2, h3⟩
  obtain rfl := hg _ _ _ h1
  obtain ⟨A, c, rfl, _, _, h4, _⟩ := h2.rg
  exact ⟨key2, A, _, c, rfl, h3⟩
set_option maxHeartbeats 2000000 in
set_option maxRecDepth 100000 in
theorem stackStays_core (key : ByteArray) (A : Option Addr) (n c : Nat) (l : List Vn) (B : Option Addr) (m d : Nat) (L : List Askt) (w : World) (hl : l.length = n) (hn : n ≤ maxLen) (hnc : n ≤ c) (hr : RG KV w A l) (hL : L.length = m) (hm : m ≤ maxLen) (hs : RG KAsk w B L) :
    Calls Try.prog 5 #[.agg #[.string key, .slice A n c], .slice B m d] w fun e w' => e = .returned (.bool true) ∧ Below w.heap.size w w' := by
  have KA := Lib.hid (fun W => vsAwake_any W)
  have KL := Lib.hid (fun W (h : Below w.heap.size w W) => vsLight_any key A n c l W hl hn (hr.below h))
  have HB := Lib.hid (below1 w (.cells #[.string key, .slice A n c] 24))
  have S := Lib.hid (RowB.new (key := key) (c := c) hr hl)
  have hm' : m ≤ 9223372036854775807 := by simp only [maxLen] at hm; omega
  clear hm
  cases hlt : vsLight key l with
  | false =>
    rw [hlt] at KL
    clear hlt hl hn hr hL hm'
    go_enter Try.func5, Try.ntmps5
    go_upto_region 1 with fail
    generalize w.alloc (.cells #[.string key, .slice A n c] 24) = W0 at *
    have s0 := S.out.s.c0; have s1 := S.out.s.c1
    go_wp2_with (first
      | (go_at_call 7; refine (KL.out _ HB.out).mono ?_; rintro e w1 ⟨rfl, b1⟩; have HB := Lib.hid (HB.out.trans (b1.mono HB.out.size)); clear b1)
      | (go_at_call 8; refine (KA.out _).mono ?_; rintro e w2 ⟨rfl, b2⟩; have HB := Lib.hid (HB.out.trans (b2.mono HB.out.size)); clear b2)
      | fail)
    go_ret
    exact ⟨rfl, HB.out⟩
  | true =>
    rw [hlt] at KL
    obtain ⟨k1, k2, k3⟩ := vsLight_at hlt
    have hn12 : n ≤ 12 := by omega
    have KC := Lib.hid (fun W (h : Below w.heap.size w W) => vsCheck_any key A n c l W hl (by omega) hnc (hr.below h))
    clear hlt k1 k2 k3 hn
    by_cases h20 : 20 < m
    · clear hl hr hL
      go_enter Try.func5, Try.ntmps5
      go_upto_region 1 with fail
      generalize w.alloc (.cells #[.string key, .slice A n c] 24) = W0 at *
      have s0 := S.out.s.c0; have s1 := S.out.s.c1
      go_wp2_with (first
        | (go_at_call 7; refine (KL.out _ HB.out).mono ?_; rintro e w1 ⟨rfl, b1⟩; have HB := Lib.hid (HB.out.trans (b1.mono HB.out.size)); clear b1)
        | (go_at_call 8; refine (KA.out _).mono ?_; rintro e w2 ⟨rfl, b2⟩; have HB := Lib.hid (HB.out.trans (b2.mono HB.out.size)); clear b2)
        | fail)
      go_ret
      exact ⟨rfl, HB.out⟩
    · clear hm'
      by_cases hck : vsCheck key l = 0
      · rw [hck] at KC
        have HCK := Lib.hid hck
        have HLL := Lib.hid hL
        have HS := Lib.hid (fun W (h : Below w.heap.size w W) => hs.below h)
        have HNC := Lib.hid hnc
        have hm20 : m ≤ 20 := by omega
        clear hck hl hr hL hs hn12 h20
        go_enter Try.func5, Try.ntmps5
        go_upto_region 1 with fail
        generalize w.alloc (.cells #[.string key, .slice A n c] 24) = W0 at *
        have s0 := S.out.s.c0; have s1 := S.out.s.c1
        go_upto_region 3 with (first
          | (go_at_call 7; refine (KL.out _ HB.out).mono ?_; rintro e w1 ⟨rfl, b1⟩; have S := Lib.hid (S.out.on b1); have s0 := S.out.s.c0; have s1 := S.out.s.c1; have HB := Lib.hid (HB.out.trans (b1.mono HB.out.size)); clear b1)
          | (go_at_call 15; refine (KC.out _ HB.out).mono ?_; rintro e w2 ⟨rfl, b2⟩; have S := Lib.hid (S.out.on b2); have HB := Lib.hid (HB.out.trans (b2.mono HB.out.size)); clear b2)
          | fail)
        clear s0 s1
        go_wp2
        go_loopw [5] (fun i wr => ∃ (k : Nat) (A' : Option Addr) (n' c' : Nat) (l' : List Vn), k ≤ m ∧ i = .int .i64 (k : Int) ∧ RowB wr w.heap.size key A' n' c' l' ∧ n' ≤ c' ∧ vsCheck key l' = 0 ∧ Below w.heap.size w wr) (fun i _ => m - (intOf i).toNat)
        case atStart => exact ⟨0, A, n, c, l, Nat.zero_le _, rfl, S.out, HNC.out, HCK.out, HB.out⟩
        case round =>
          clear S HNC HCK HB KC KL hnc
          obtain ⟨k, A', n', c', l', hk, rfl, hS, hnc, hck, hb⟩ := hrel
          have hn8 : n' ≤ 8 := by rw [← hS.ln]; exact (vsCheck_zero.1 hck).2.1
          have S := Lib.hid hS
          have HCK := Lib.hid hck
          have HB := Lib.hid hb
          have HNC := Lib.hid hnc
          have s0 := hS.s.c0; have s1 := hS.s.c1
          clear hS hck hb
          by_cases hlt : k < m
          · obtain ⟨a, ha⟩ : ∃ a, L[k]? = some a := ⟨L[k]'(by rw [HLL.out]; exact hlt), List.getElem?_eq_getElem _⟩
            obtain ⟨bd, hB, _⟩ := (HS.out w (Below.refl _ _)).ask ha
            subst hB
            have HA : Hid (∀ W, Below w.heap.size w W → AskAt W (bd.add (k * 6)) a) := Lib.hid fun W h => by
              obtain ⟨bd', e, h1⟩ := (HS.out W h).ask ha
              injection e with e
              subst e
              exact h1
            obtain ⟨kd, v, s⟩ := a
            have KM := Lib.hid (fun W => vsMay_any kd.toNat v s W)
            have hkd := kd.toNat_lt
            obtain ⟨a0, a1, a2, a3, a4, a5⟩ := HA.out _ HB.out
            dsimp only at a0 a1 a2 a3 a4 a5
            clear ha
            cases hmy : vsMay v s with
            | false =>
              rw [hmy] at KM
              clear hmy
              go_wp2_with (first
                | (go_at_call 22; refine (KM.out _).mono ?_; rintro e w1 ⟨rfl, b1⟩; have HB := Lib.hid (HB.out.trans (b1.mono HB.out.size)); clear b1)
                | (go_at_call 8; refine (KA.out _).mono ?_; rintro e w2 ⟨rfl, b2⟩; have HB := Lib.hid (HB.out.trans (b2.mono HB.out.size)); clear b2)
                | fail)
              go_ret
              exact ⟨rfl, HB.out⟩
            | true =>
              rw [hmy] at KM
              have KD := Lib.hid (fun W (S : RowB W w.heap.size key A' n' c' l') => stkCalls3 (vsDo_any key A' n' c' l' kd.toNat v s W S.ln (by omega) (by omega) S.r))
              have HCK2 := Lib.hid (vsCheck_do (k := kd.toNat % 4) HCK.out hmy)
              generalize vsDo (kd.toNat % 4) l' v s = l2 at *
              have HL8 := Lib.hid (vsCheck_zero.1 HCK2.out).2.1
              have KC2 := Lib.hid (fun (W : World) (A : Option Addr) (c : Nat) (h1 : l2.length ≤ c) (h : RG KV W A l2) => show Calls Try.prog 15 #[.agg #[.string key, .slice A l2.length c]] W fun e w' => e = .returned (.int .i64 0) ∧ Below W.heap.size W w' from by
                have g := vsCheck_any key A l2.length c l2 W rfl (by have := HL8.out; omega) h1 h
                rw [HCK2.out] at g
                exact g)
              clear hmy
              unfold Vn.v at *
              go_upto_region 8 with (go_at_call 22; refine (KM.out _).mono ?_; rintro e w1 ⟨rfl, b1⟩; have S := Lib.hid (S.out.on b1); have HB := Lib.hid (HB.out.trans (b1.mono HB.out.size)); clear b1)
              clear s0 s1 a0 a1 a2 a3 a4 a5
              have s0 := S.out.s.c0; have s1 := S.out.s.c1
              obtain ⟨a0, a1, a2, a3, a4, a5⟩ := HA.out _ HB.out
              dsimp only at a0 a1 a2 a3 a4 a5
              have S1 : Hid (RowB w1.drew w.heap.size key A' n' c' l') := Lib.hid ⟨S.out.s.drew, S.out.r.drew, S.out.ln⟩
              have HB1 := Lib.hid HB.out.drew
              go_still_tail 5, (by kernel_rfl)
              change wpList _ _ _ _ _ w1.drew
              clear s0 s1 a0 a1 a2 a3 a4 a5
              generalize w1.drew = wd at *
              go_upto_region 9 with (first
                | (go_at_call 10; refine (KD.out _ S1.out).mono ?_; rintro e w2 ⟨A2, c2, rfl, h2, o2, b2⟩; have HB2 := Lib.hid (HB1.out.trans (b2.mono HB1.out.size)); have SB := Lib.hid (S1.out.s.on b2); have O2 := Lib.hid (o2.setSt S1.out.s.lt key (.slice A2 l2.length c2)); have H2 := Lib.hid h2; have r0 := SB.out.c0; have r1 := SB.out.c1; have g0 := SB.out.f0; have g1 := SB.out.f1; clear o2 b2 h2)
                | fail)
              clear r0 r1 g0 g1
              have PB := Lib.hid (SB.out.put key A2 l2.length c2)
              have HB3 := Lib.hid (belowSetSt (q := w.heap.size) HB2.out (Nat.le_refl _) key (.slice A2 l2.length c2))
              have RB3 : Hid (RG KV (setSt w2 w.heap.size key (.slice A2 l2.length c2)) A2 l2) := Lib.hid (by
                obtain ⟨A3, c3, e, _, _, h, _⟩ := O2.out.rg
                injection e with e
                subst e
                exact h)
              unfold setSt at PB HB3 RB3
              clear O2 SB
              generalize (w2.setCell ⟨w.heap.size, 0, none⟩ (.string key)).setCell ⟨w.heap.size, 1, none⟩ (.slice A2 l2.length c2) = W3 at *
              have s0 := PB.out.c0; have s1 := PB.out.c1
              go_wp2_with (first
                | (go_at_call 15; refine (KC2.out _ _ _ H2.out RB3.out).mono ?_; rintro e w4 ⟨rfl, b4⟩; have HB4 := Lib.hid (HB3.out.trans (b4.mono HB3.out.size)); have RW4 : Hid (RowB w4 w.heap.size key A2 l2.length c2 l2) := Lib.hid ⟨PB.out.on b4, RB3.out.below b4, rfl⟩; clear b4)
                | fail)
              go_round
              case rel => exact ⟨k + 1, A2, l2.length, c2, l2, by omega, by go_num, RW4.out, H2.out, HCK2.out, HB4.out⟩
              case measure => simp [intOf]; omega
          · obtain rfl : k = m := by omega
            have KP := Lib.hid (fun (W : World) (S : RowB W w.heap.size key A' n' c' l') => show Calls Try.prog 17 #[.agg #[.string key, .slice A' n' c']] W fun e w' => ∃ v', e = .returned (.tuple #[v', .int .i64 0]) ∧ OB W.heap.size w' v' (putS key l') ∧ Below W.heap.size W w' from by have h := vsPut_any key A' n' c' l' W S.ln (by omega) HNC.out S.r; rw [HCK.out] at h; exact h)
            have HP := Lib.hid (putS_len HCK.out)
            have HPG := Lib.hid (fun k m e => GetOfS.put HCK.out (k := k) (m := m) (e := e))
            have HPM := Lib.hid (fun k m e => GetOfS.more HCK.out 0 (k := k) (m := m) (e := e))
            have KS := Lib.hid (fun (W : World) (C : Option Addr) (d : Nat) (S : RowB W w.heap.size key A' n' c' l') (h : RG KV W C l') => show Calls Try.prog 21 #[.agg #[.string key, .slice A' n' c'], .agg #[.string key, .slice C n' d]] W fun e w' => e = .returned (.bool true) ∧ Below W.heap.size W w' from by have g := vsSame_any key key A' C n' n' c' d l' l' W S.ln S.ln (by omega) S.r h; simpa [vsSame] using g)
            generalize putS key l' = P at *
            have KG := Lib.hid (fun (W : World) (C : Option Addr) (d : Nat) (hc : P.length ≤ d) (hr : RB W C P) => show Calls Try.prog 19 #[.slice C P.length d] W fun e w' => ∃ A c, e = .returned (.tuple #[.agg #[.string key, .slice A n' c], .int .i64 0]) ∧ RG KV w' A l' ∧ Below W.heap.size W w' from by
              refine (vsGet_any C P.length d P W (by have := HP.out; omega) rfl hc hr).mono ?_
              rintro e w' ⟨key2, v', L2, z, rfl, h1, h2, h3⟩
              obtain ⟨rfl, rfl, rfl⟩ := HPG.out _ _ _ h1
              obtain ⟨A, c, rfl, _, _, h4, _⟩ := h2.rg
              exact ⟨A, c, by rw [S.out.ln]; rfl, h4, h3⟩)
            obtain ⟨Q, hQ⟩ : ∃ Q, Q = P ++ [0] := ⟨_, rfl⟩
            have HQL := Lib.hid (show Q.length ≤ 1000000 from by have := HP.out; rw [hQ, List.length_append]; simp; omega)
            have HQ := Lib.hid hQ
            rw [← hQ] at HPM
            clear hQ
            have KG2 := Lib.hid (fun (W : World) (C : Option Addr) (d : Nat) (hc : Q.length ≤ d) (hr : RB W C Q) => vsGet4 (vsGet_any C Q.length d Q W HQL.out rfl hc hr) HPM.out)
            clear hm20
            go_upto_region 13 with (first
              | (go_at_call 17; refine (KP.out _ S.out).mono ?_; rintro e w1 ⟨v1, rfl, o1, b1⟩; obtain ⟨A1, c1, rfl, hc1, r1⟩ := o1.form; have S := Lib.hid (S.out.on b1); have HB := Lib.hid (HB.out.trans (b1.mono HB.out.size)); have R1 := Lib.hid r1; have C1 := Lib.hid hc1; clear o1 b1 r1 hc1)
              | (go_at_call 19; refine (KG.out _ _ _ C1.out R1.out).mono ?_; rintro e w2 ⟨A2, c2, rfl, h2, b2⟩; have T := Lib.hid (StBox.new w2 key A2 n' c2 24); have TR := Lib.hid (h2.alloc (.cells #[.string key, .slice A2 n' c2] 24)); have S := Lib.hid ((S.out.on b2).alloc (.cells #[.string key, .slice A2 n' c2] 24)); have R1 := Lib.hid ((R1.out.below b2).alloc (.cells #[.string key, .slice A2 n' c2] 24)); have HB := Lib.hid ((HB.out.trans (b2.mono HB.out.size)).alloc (Nat.le_trans HB.out.size b2.size) (.cells #[.string key, .slice A2 n' c2] 24)); clear b2 h2)
              | fail)
            clear s0 s1
            generalize w2.alloc (.cells #[.string key, .slice A2 n' c2] 24) = W2 at *
            generalize w2.heap.size = q2 at *
            have BW := Lib.hid (Below.refl W2.heap.size W2)
            have O0 := Lib.hid (OG.lit0 (K := CR.u8) (T := 5) (base := W2.heap.size) W2 (Nat.le_refl _))
            have BW1 := Lib.hid (below1 W2 (.cells #[] 5))
            have HM := Lib.hid (fun W => (RB.one W 0 0 rfl).rg)
            have R1A := Lib.hid ((R1.out.alloc (.cells #[] 5)).rg)
            have HPL := Lib.hid (show P.length ≤ 600 from HP.out)
            have FS := Lib.hid (fun W (h : Below W2.heap.size W2 W) => S.out.on h)
            have FT := Lib.hid (fun W (h : Below W2.heap.size W2 W) => T.out.on h)
            have FR := Lib.hid (fun W (h : Below W2.heap.size W2 W) => TR.out.below h)
            have FB := Lib.hid (fun W (h : Below W2.heap.size W2 W) => HB.out.trans (h.mono HB.out.size))
            clear S T TR HB R1
            go_upto_region 14 with (first
              | (at_builtin; refine wpList_append_G tgB rfl (.tmp 59) (.tmp 60) rfl W2.heap.size _ ([] : List UInt8) rfl O0.out A1 P.length c1 P rfl rfl R1A.out (Apart.flat u8_flat) (by have := HPL.out; simp; omega) BW1.out.size ?_; intro v3 w3 o3 b3 g3 h3; have O3 := Lib.hid o3; have BW3 := Lib.hid (BW1.out.trans b3); have BW4 := Lib.hid ((BW1.out.trans b3).alloc (BW1.out.trans b3).size (.cells #[.int .u8 0] 5)); clear o3 b3 g3 h3)
              | (at_builtin; refine wpList_append_G tgB rfl (.tmp 61) (.tmp 62) rfl W2.heap.size _ ([] ++ P) rfl (O3.out.alloc _) _ 1 1 [0] rfl rfl (HM.out _) (Apart.flat u8_flat) (by have := HPL.out; simp; omega) BW4.out.size ?_; intro v4 w4 o4 b4 g4 h4; have O4 := OG.ob o4; rw [List.nil_append, ← HQ.out] at O4; obtain ⟨A4, c4, e4, hc4, r4⟩ := O4.form; subst e4; have R4 := Lib.hid r4; have C4 := Lib.hid hc4; have BW5 := Lib.hid (BW4.out.trans b4); clear o4 b4 g4 h4 O4 r4 hc4)
              | (go_at_call 19; refine (KG2.out _ _ _ C4.out R4.out).mono ?_; rintro e w5 ⟨key5, A5, n5, c5, rfl, b5⟩; have BW6 := Lib.hid ((BW5.out.trans (b5.mono BW5.out.size)).alloc (BW5.out.trans (b5.mono BW5.out.size)).size (.cells #[.string key5, .slice A5 n5 c5] 24)); clear b5)
              | fail)
            generalize w5.alloc (.cells #[.string key5, .slice A5 n5 c5] 24) = W6 at *
            have s0 := (FS.out _ BW6.out).s.c0; have s1 := (FS.out _ BW6.out).s.c1
            have t0 := (FT.out _ BW6.out).c0; have t1 := (FT.out _ BW6.out).c1
            go_wp2_with (first
              | (go_at_call 21; refine (KS.out _ _ _ (FS.out _ BW6.out) (FR.out _ BW6.out)).mono ?_; rintro e w7 ⟨rfl, b7⟩; have B7 := Lib.hid ((FB.out _ BW6.out).trans (b7.mono (FB.out _ BW6.out).size)); clear b7)
              | (go_at_call 8; refine (KA.out _).mono ?_; rintro e w8 ⟨rfl, b8⟩; have B8 := Lib.hid (B7.out.trans (b8.mono B7.out.size)); clear b8)
              | fail)
            go_ret
            exact ⟨rfl, B8.out⟩
      · have hd : ((vsCheck key l : Int) != 0) = true := by simp; omega
        generalize vsCheck key l = z at *
        clear hl hr hck hL
        go_enter Try.func5, Try.ntmps5
        go_upto_region 1 with fail
        generalize w.alloc (.cells #[.string key, .slice A n c] 24) = W0 at *
        have s0 := S.out.s.c0; have s1 := S.out.s.c1
        go_wp2_with (first
          | (go_at_call 7; refine (KL.out _ HB.out).mono ?_; rintro e w1 ⟨rfl, b1⟩; have s0 := (S.out.on b1).s.c0; have s1 := (S.out.on b1).s.c1; have HB := Lib.hid (HB.out.trans (b1.mono HB.out.size)); clear b1)
          | (go_at_call 15; refine (KC.out _ HB.out).mono ?_; rintro e w2 ⟨rfl, b2⟩; have HB := Lib.hid (HB.out.trans (b2.mono HB.out.size)); clear b2)
          | (go_at_call 8; refine (KA.out _).mono ?_; rintro e w2 ⟨rfl, b2⟩; have HB := Lib.hid (HB.out.trans (b2.mono HB.out.size)); clear b2)
          | fail)
        go_ret
        exact ⟨rfl, HB.out⟩
end Go.Proofs.Ytmknnbnamlbjnaa
