/- The walk of the law WalRoom. -/
import Derived.Test.YtochifbbefbehaaWaH
import Derived.Test.YtochifbbefbehaaWsM
import Derived.Deep.CutRange
import Derived.Deep.DeepMust
namespace Go.Proofs.Ytochifbbefbehaa
open Go.RowKit
set_option linter.unusedVariables false
set_option linter.unusedSimpArgs false
theorem sync_left {d : Dk} {g : Lg} (h0 : g.fault = 0) (he : syncE d g = 0) : (syncG d g).left = g.left - (grp g.wt).length ∧ (syncG d g).recs = g.recs ++ g.wt ∧ (syncG d g).first = g.first ∧ (syncG d g).count = g.count ∧ (syncG d g).epoch = g.epoch ∧ (syncG d g).bad = g.bad := by
  by_cases hw : g.wt = []
  · have e3 : syncG d g = g := by unfold syncG; rw [if_pos (.inr hw)]
    rw [e3, hw, grp_nil]
    exact ⟨rfl, by simp, rfl, rfl, rfl, rfl⟩
  · have h2 : (syncR d g).2 = 0 := by
      unfold syncE at he
      rwa [if_neg (by omega), if_neg hw] at he
    have e3 : syncG d g = { g with written := g.written + (grp g.wt).length, recs := g.recs ++ g.wt, wt := [] } := by unfold syncG; rw [if_neg (by rintro (h | h); omega; exact hw h), if_pos h2]
    have hc : g.closed = false := by
      unfold Lg.fault at h0
      split at h0
      · cases h0
      · rename_i hb
        cases e : g.closed with
        | false => rfl
        | true => exact absurd (.inr e) hb
    rw [e3]
    refine ⟨?_, rfl, rfl, rfl, rfl, rfl⟩
    unfold Lg.left
    show (if g.closed = true then 0 else g.count - (g.written + (grp g.wt).length)) = _
    rw [hc, if_neg (by simp), if_neg (by simp)]
    omega
/-- A log of so many sectors, to which texts were added. -/
def roomG (N : Nat) (T : List (List UInt8)) : Lg := { newG 0 N 5 with wt := T }
theorem roomG_add {N : Nat} {T : List (List UInt8)} {s : List UInt8} (hs : s.length ≤ 238) : ((grp (T ++ [s])).length ≤ N → (roomG N T).addErr s = 0 ∧ (roomG N T).add s = roomG N (T ++ [s])) ∧ (N < (grp (T ++ [s])).length → (roomG N T).addErr s = 7 ∧ (roomG N T).add s = roomG N T) :=
  ⟨fun h => addErr_ok (g := roomG N T) rfl (by omega) h, fun h => addErr_full (g := roomG N T) rfl (by omega) h⟩
/-- The row that is kept away from has grown. -/
theorem roomNext {B : Nat} {F : Ft} {G : Nat} {v v' : Value} {W V : World} {d : Dk} {g : Lg} (h : LW B F G (fun b => b < B ∨ v.ownBlock = some b) W d g) (o : Obj) (hg : (W.alloc o).grownBy V v.ownBlock) (hv : v'.ownBlock = v.ownBlock ∨ v'.ownBlock = some (W.alloc o).heap.size) :
    LW B F G (fun b => b < B ∨ v'.ownBlock = some b) V d g := by
  have h1 := h.away (Z' := fun b => b < B ∨ v.ownBlock = some b ∨ v'.ownBlock = some b) fun b hb hz => by
    rcases hz with hz | hz | hz
    · exact .inl hz
    · exact .inr hz
    · rcases hv with hv | hv
      · exact .inr (by rw [← hv]; exact hz)
      · rw [hv] at hz
        injection hz with hz
        rw [heap_size_alloc] at hz
        omega
  have h2 := (h1.below ((Below.refl _ W).alloc (Nat.le_refl _) o)).frm (X := fun b => v.ownBlock = some b) (Frm.grown hg fun k hk => hk) fun b hb => .inr (.inl hb)
  exact h2.away fun b _ hz => by
    rcases hz with hz | hz
    · exact .inl hz
    · exact .inr (.inr hz)
set_option maxRecDepth 100000 in
set_option maxHeartbeats 4000000 in
theorem walRoom_core (m : Nat) (A : Option Addr) (n c : Nat) (L : List (List UInt8)) (w : World) (hm : m < 256) (hl : L.length = n) (hn : n ≤ 9223372036854775807) (hr : RS w A L) (hq : ∀ t ∈ L, t.length ≤ maxLen) :
    Calls Try.prog 4 #[.int .u8 (m : Int), .slice A n c] w fun x w' => x = .returned (.bool true) ∧ Below w.heap.size w w' := by
  by_cases h60 : 60 < n
  · have hI : (60 : Int) < (n : Int) := by omega
    clear hl hr hq h60
    go_enter Try.func4, Try.ntmps4
    go_wp2_with (first | (go_at_call 6; refine (waAwake_any _).mono ?_; rintro x w1 ⟨rfl, b1⟩) | fail)
    go_ret
    exact ⟨rfl, b1⟩
  have HL := Lib.hid hl
  have HR := Lib.hid hr
  have HQ := Lib.hid hq
  have hI : ¬ (60 : Int) < (n : Int) := by omega
  have hmod : ((m : Int)).tmod 21 = ((m % 21 : Nat) : Int) := by rw [Int.tmod_eq_emod_of_nonneg (by omega)]; omega
  have hN : m % 21 ≤ 20 := by omega
  clear hl hr hq
  generalize hNN : m % 21 = N at *
  clear hNN
  go_enter Try.func4, Try.ntmps4
  go_wp2_with fail
  refine (new_any 20 w).mono ?_
  rintro e w1 ⟨F, rfl, k1, b1⟩
  have KN := Lib.hid (waNew_any k1 b1.size rfl (first := 0) (count := N) (epoch := 5) (by omega) (by show 0 + N ≤ (List.replicate _ _).length; rw [List.length_replicate]; omega) (by omega) (by omega))
  have K1 := Lib.hid k1
  have B1 := Lib.hid b1
  have JN := Lib.hid (jn_new 20 0 N 5 (by omega) (by omega) (by omega) (by omega) (by omega))
  clear k1 b1
  go_upto_region 10 with (first
    | (go_at_call 8; refine KN.out.mono ?_; rintro e w2 ⟨G, rfl, g2, b2, l2⟩; have L2 := Lib.hid (l2 (fun b => b < w.heap.size) (fun b hb hz => by have := K1.out.based b hb; omega) (fun b hb => Nat.lt_of_lt_of_le hb B1.out.size)); have B2 := Lib.hid (B1.out.trans (b2.mono B1.out.size)); clear l2 b2 g2)
    | fail)
  have LW0 : LW w.heap.size F G (fun b => b < w.heap.size ∨ (Value.slice none 0 0).ownBlock = some b) w2 (Dk.new 20) (roomG N []) := L2.out.away (Z' := fun b => b < w.heap.size ∨ (Value.slice none 0 0).ownBlock = some b) fun b _ hb => by
    rcases hb with hb | hb
    · exact hb
    · cases hb
  have ST : Hid (∃ (k : Nat) (T : List (List UInt8)), k ≤ n ∧ (Value.int .i64 0) = .int .i64 (k : Int) ∧ T.length ≤ k ∧ (∀ t ∈ T, t.length ≤ 238) ∧ OG CR.str 9 w.heap.size w2 (.slice none 0 0) T ∧ LW w.heap.size F G (fun b => b < w.heap.size ∨ (Value.slice none 0 0).ownBlock = some b) w2 (Dk.new 20) (roomG N T) ∧ Jn (Dk.new 20) (roomG N T) 20 ∧ Below w.heap.size w w2) := Lib.hid ⟨0, [], Nat.zero_le _, rfl, Nat.zero_le _, fun t ht => (by cases ht), OG.nil, LW0, JN.out, B2.out⟩
  clear LW0 L2 B2 KN JN K1 B1
  go_loopw [9, 10, 11, 12] (fun v i _ _ wr => ∃ (k : Nat) (T : List (List UInt8)), k ≤ n ∧ i = .int .i64 (k : Int) ∧ T.length ≤ k ∧ (∀ t ∈ T, t.length ≤ 238) ∧ OG CR.str 9 w.heap.size wr v T ∧ LW w.heap.size F G (fun b => b < w.heap.size ∨ v.ownBlock = some b) wr (Dk.new 20) (roomG N T) ∧ Jn (Dk.new 20) (roomG N T) 20 ∧ Below w.heap.size w wr) (fun _ i _ _ _ => n - (intOf i).toNat)
  case atStart => exact ST.out
  case round =>
    clear ST
    obtain ⟨k, T, hk, rfl, hT, hT2, hO, hLW, hJ, hB⟩ := hrel
    obtain ⟨A9, c9, rfl, hc9, hm9, hr9, _⟩ := hO.rg
    have R9 := Lib.hid hr9
    clear hr9
    have HO := Lib.hid hO
    have HLW := Lib.hid hLW
    have HJ := Lib.hid hJ
    have HB := Lib.hid hB
    have HT2 := Lib.hid hT2
    by_cases hlt : k < n
    · obtain ⟨s, hs⟩ : ∃ s, L[k]? = some s := ⟨L[k]'(by rw [HL.out]; exact hlt), List.getElem?_eq_getElem _⟩
      obtain ⟨ad, rfl, hc⟩ := (HR.out.below hB).at_ hs
      have hsz := str_size s
      have HSM := Lib.hid (HQ.out s (List.mem_of_getElem? hs))
      have HC := Lib.hid (show ∀ V, Below w.heap.size w V → V.cell? (ad.add k) = some (.string (str s)) from fun V hV => by
        obtain ⟨ad', e, h⟩ := (HR.out.below hV).at_ hs
        injection e with e
        rw [e]
        exact h)
      clear hs hO hLW hJ hB hT2
      by_cases h238 : 238 < s.length
      · have h2I : (238 : Int) < (s.length : Int) := by omega
        have hmx : (s.length : Int) ≤ 9223372036854775807 := by have := HSM.out; unfold maxLen at this; omega
        clear h238
        go_wp2_with (first | (go_at_call 6; refine (waAwake_any _).mono ?_; rintro x w3 ⟨rfl, b3⟩; have B3 := Lib.hid b3; clear b3) | fail)
        go_ret
        exact ⟨rfl, HB.out.trans (B3.out.mono HB.out.size)⟩
      · have hs238 : s.length ≤ 238 := by omega
        have h2I : ¬ (238 : Int) < (s.length : Int) := by omega
        have hZ : ∀ b, (b < w.heap.size ∨ (Value.slice A9 T.length c9).ownBlock = some b) → b < wr.heap.size := fun b hb => by
          rcases hb with hb | hb
          · exact Nat.lt_of_lt_of_le hb HB.out.size
          · exact (HO.out.own_lt hb).2
        have hTn : T.length ≤ 60 := by omega
        obtain ⟨ra0, ra7⟩ := roomG_add (N := N) (T := T) hs238
        have RA0 := Lib.hid ra0
        have RA7 := Lib.hid ra7
        have KAD := Lib.hid (fun (e : Nat) g' h1 h2 => awAddZ (z := str s) rfl HLW.out HB.out.size hZ (e := e) (g' := g') h1 h2 (by omega) (by show T.length ≤ 500; omega))
        have TXT := Lib.hid (show ∀ t ∈ T ++ [s], t.length ≤ 1000 from fun t ht => by
          rcases List.mem_append.1 ht with ht | ht
          · have := HT2.out t ht
            omega
          · simp at ht
            subst ht
            omega)
        -- what the document's Parts tells
        have KPT := Lib.hid (show ∀ V v4, OG CR.str 9 w.heap.size V v4 (T ++ [s]) → ∀ A' n' c', v4 = .slice A' n' c' → Calls Try.prog 19 #[.slice A' n' c'] V fun x w' => x = .returned (.int .i64 ((grp (T ++ [s])).length : Int)) ∧ Below V.heap.size V w' from fun V v4 ho A' n' c' e => by
          obtain ⟨A2, c2, e', q1, q2, q3, _⟩ := ho.rg
          rw [e'] at e
          injection e with e1 e2 e3
          subst e1 e2 e3
          exact wsParts_any A2 _ c2 (T ++ [s]) V rfl (by simp; omega) TXT.out q3.rs)
        clear ra0 ra7
        by_cases hfit : (grp (T ++ [s])).length ≤ N
        · obtain ⟨e1, e3⟩ := RA0.out hfit
          have KA := Lib.hid (KAD.out 0 _ e1 e3)
          have hfI : ((grp (T ++ [s])).length : Int) ≤ (N : Int) := by omega
          have HJ2 := Lib.hid (show Jn (Dk.new 20) (roomG N (T ++ [s])) 20 from by rw [← e3]; exact HJ.out.add s)
          clear KAD RA0 RA7 hfit e1 e3
          generalize hgl : (grp (T ++ [s])).length = gl at *
          clear hgl
          go_upto_region 15 with (first
            | (go_at_call 14; refine KA.out.mono ?_; rintro e w2 ⟨rfl, l2, f2⟩; have L2 := Lib.hid l2; have F2 := Lib.hid f2; clear l2 f2)
            | fail)
          have HO2 := Lib.hid (HO.out.keepOwn (w' := w2) str_flat fun b hb => F2.out.block b (HO.out.own_lt hb).2 fun h => h (.inr hb))
          have HB2 := Lib.hid (HB.out.trans (F2.out.z_below (B := w.heap.size) (fun b hb => .inl hb) HB.out.size))
          have CC := Lib.hid (show ∀ V, Below w2.heap.size w2 V → V.cell? (ad.add k) = some (.string (str s)) from fun V hV => HC.out V (HB2.out.trans (hV.mono HB2.out.size)))
          obtain ⟨A9', c9', e9, _, _, r92, _⟩ := HO2.out.rg
          injection e9 with e9a _ e9b
          subst e9a e9b
          have R92 := Lib.hid r92
          clear r92
          have ba : Below w2.heap.size w2 (w2.alloc (.cells #[] 9)).drew := ((Below.refl _ w2).alloc (Nat.le_refl _) _).drew
          have bs : Below w2.heap.size w2 (w2.alloc (.cells #[.string (str s)] 9)).drew := ((Below.refl _ w2).alloc (Nat.le_refl _) _).drew
          have bb : Below w2.heap.size w2 ((w2.alloc (.cells #[] 9)).alloc (.cells #[.string (str s)] 9)).drew := (((Below.refl _ w2).alloc (Nat.le_refl _) _).alloc (by rw [heap_size_alloc]; omega) _).drew
          have bc : Below w2.heap.size w2 ((w2.alloc (.cells #[.string (str s)] 9)).alloc (.cells #[] 9)).drew := (((Below.refl _ w2).alloc (Nat.le_refl _) _).alloc (by rw [heap_size_alloc]; omega) _).drew
          have BA := Lib.hid ba; have BB := Lib.hid bb; have BC := Lib.hid bc
          have cc := CC.out _ (Below.refl w2.heap.size w2).drew
          have ca := CC.out _ ba; have cs := CC.out _ bs; have cb := CC.out _ bb; have cd := CC.out _ bc
          have LA := Lib.hid ((OG.lit0 (K := CR.str) (T := 9) w2 (Nat.le_refl w2.heap.size)).drew)
          have LB := Lib.hid (((OG.lit0 (K := CR.str) (T := 9) w2 (Nat.le_refl w2.heap.size)).alloc (.cells #[.string (str s)] 9)).drew)
          have LC : Hid (OG CR.str 9 w2.heap.size ((w2.alloc (.cells #[.string (str s)] 9)).alloc (.cells #[] 9)).drew (.slice (some ⟨w2.heap.size + 1, 0, none⟩) 0 0) ([] : List (List UInt8))) := by
            have := OG.lit0 (K := CR.str) (T := 9) (base := w2.heap.size) (w2.alloc (.cells #[.string (str s)] 9)) (by rw [heap_size_alloc]; omega)
            rw [heap_size_alloc] at this
            exact Lib.hid this.drew
          have SB : Hid (RG CR.str ((w2.alloc (.cells #[] 9)).alloc (.cells #[.string (str s)] 9)).drew (some ⟨w2.heap.size + 1, 0, none⟩) [s]) := by
            have h1 := heap_alloc_last (w2.alloc (.cells #[] 9)) (.cells #[.string (str s)] 9)
            rw [heap_size_alloc] at h1
            exact Lib.hid (rg_one (cell_of_row _ _ 0 _ _ _ h1)).drew
          have SC : Hid (RG CR.str ((w2.alloc (.cells #[.string (str s)] 9)).alloc (.cells #[] 9)).drew (some ⟨w2.heap.size, 0, none⟩) [s]) := Lib.hid (((rg_one (cell_of_row _ _ 0 _ _ _ (heap_alloc_last w2 (.cells #[.string (str s)] 9)))).alloc (.cells #[] 9)).drew)
          have ND := Lib.hid (show ∀ (V : World) (x y : Nat), x ≠ y → ∀ b, footR CR.str V (some ⟨x, 0, none⟩) [s] b → some b ≠ (Value.slice (some ⟨y, 0, none⟩) 0 0).ownBlock from fun V x y hxy b hb e => by
            obtain ⟨j, z, ad', cs', _, e1, _, _, h⟩ := hb
            injection e1 with e1
            subst e1
            rcases h with rfl | h
            · injection e with e
              exact hxy e
            · exact (str_flat _ _ _ _ h).elim)
          clear ba bs bb bc
          go_region_held3 (fun V => V.cell? (ad.add k) = some (.string (str s))) (first | with_reducible assumption | with_reducible exact cc | with_reducible exact ca | with_reducible exact cs | with_reducible exact cb | with_reducible exact cd | with_reducible exact ck | with_reducible exact cl | with_reducible exact cm | with_reducible exact cn | fail)
            (first
              | (refine step_append_G tgS rfl (.tmp 52) (.tmp 53) rfl w2.heap.size _ ([] : List (List UInt8)) rfl LA.out A9 T.length c9 T rfl rfl (R92.out.below BA.out) (Apart.flat str_flat) (by simp; omega) BA.out.size ?_; intro v3 w3 o3 b3 g3 _; rw [List.nil_append] at o3; obtain ⟨A3, c3, rfl, _⟩ := o3.rg; have O3 := Lib.hid o3; have B3 := Lib.hid (BA.out.trans b3); have ck := CC.out w3 B3.out; have cl := CC.out (w3.alloc (.cells #[.string (str s)] 9)) (B3.out.alloc B3.out.size (.cells #[.string (str s)] 9)); clear o3 b3 g3)
              | (refine step_append_G tgS rfl (.tmp 52) (.tmp 53) rfl w2.heap.size _ ([] : List (List UInt8)) rfl LB.out A9 T.length c9 T rfl rfl (R92.out.below BB.out) (Apart.flat str_flat) (by simp; omega) BB.out.size ?_; intro v3 w3 o3 b3 g3 _; rw [List.nil_append] at o3; obtain ⟨A3, c3, rfl, _⟩ := o3.rg; have O3 := Lib.hid o3; have B3 := Lib.hid (BB.out.trans b3); have ck := CC.out w3 B3.out; have RS3 := Lib.hid (SB.out.grown g3 (ND.out _ _ _ (by omega))); clear o3 b3 g3)
              | (refine step_append_G tgS rfl (.tmp 52) (.tmp 53) rfl w2.heap.size _ ([] : List (List UInt8)) rfl LC.out A9 T.length c9 T rfl rfl (R92.out.below BC.out) (Apart.flat str_flat) (by simp; omega) BC.out.size ?_; intro v3 w3 o3 b3 g3 _; rw [List.nil_append] at o3; obtain ⟨A3, c3, rfl, _⟩ := o3.rg; have O3 := Lib.hid o3; have B3 := Lib.hid (BC.out.trans b3); have ck := CC.out w3 B3.out; have RS3 := Lib.hid (SC.out.grown g3 (ND.out _ _ _ (by omega))); clear o3 b3 g3)
              | (refine step_append_G tgS rfl (.tmp 54) (.tmp 59) rfl w2.heap.size _ T rfl (O3.out.alloc (.cells #[.string (str s)] 9)) (some ⟨w3.heap.size, 0, none⟩) 1 1 [s] rfl rfl (rg_one (cell_of_row _ _ 0 _ _ _ (heap_alloc_last w3 (.cells #[.string (str s)] 9)))) (Apart.flat str_flat) (by omega) (by rw [heap_size_alloc]; have := B3.out.size; omega) ?_; intro v4 w4 o4 b4 _ _; have B4 := Lib.hid ((B3.out.alloc B3.out.size (.cells #[.string (str s)] 9)).trans b4); have KP4 := Lib.hid (KPT.out w4 v4 (o4.lift HB2.out.size)); obtain ⟨A4, c4, rfl, _⟩ := o4.rg; have cm := CC.out w4 B4.out; clear o4 b4)
              | (refine step_append_G tgS rfl (.tmp 54) (.tmp 59) rfl w2.heap.size _ T rfl O3.out _ 1 1 [s] rfl rfl RS3.out (Apart.flat str_flat) (by omega) B3.out.size ?_; intro v4 w4 o4 b4 _ _; have B4 := Lib.hid (B3.out.trans b4); have KP4 := Lib.hid (KPT.out w4 v4 (o4.lift HB2.out.size)); obtain ⟨A4, c4, rfl, _⟩ := o4.rg; have cm := CC.out w4 B4.out; clear o4 b4)
              | (go_at_call 19; refine (KP4.out _ _ _ (by simp)).mono ?_; rintro e w5 ⟨rfl, b5⟩; have B5 := Lib.hid (B4.out.trans (b5.mono B4.out.size)); have cn := CC.out w5 B5.out; clear b5)
              | fail)
          all_goals
            clear ca cs cb cd ck cm
            have L5 := Lib.hid (L2.out.below B5.out)
            have O5 := Lib.hid (HO2.out.below B5.out)
            have BW := Lib.hid (HB2.out.trans (B5.out.mono HB2.out.size))
            go_wp2_with (at_builtin; (refine wpList_append_G tgS rfl _ _ rfl w.heap.size _ T rfl (O5.out.alloc (.cells #[.string (str s)] 9)) (some ⟨w5.heap.size, 0, none⟩) 1 1 [s] rfl rfl (rg_one (cell_of_row _ _ 0 _ _ _ (heap_alloc_last w5 (.cells #[.string (str s)] 9)))) (Apart.flat str_flat) (by omega) (by rw [heap_size_alloc]; have := BW.out.size; omega) ?_; intro v6 w6 o6 b6 g6 h6; have O6 := Lib.hid o6; have B6 := Lib.hid ((BW.out.alloc BW.out.size (.cells #[.string (str s)] 9)).trans b6); have L6 := Lib.hid (roomNext L5.out (.cells #[.string (str s)] 9) g6 h6); clear o6 b6 g6 h6))
            go_roundw
            case rel => exact ⟨k + 1, T ++ [s], by omega, by go_num, by simp; omega, fun t ht => by
              rcases List.mem_append.1 ht with ht | ht
              · exact HT2.out t ht
              · simp at ht
                subst ht
                exact hs238, O6.out, L6.out, HJ2.out, B6.out⟩
            case measure => simp [intOf]; omega
        · obtain ⟨e1, e3⟩ := RA7.out (by omega)
          have KA := Lib.hid (KAD.out 7 _ e1 e3)
          have hfI : ¬ ((grp (T ++ [s])).length : Int) ≤ (N : Int) := by omega
          clear KAD RA0 RA7 hfit e1 e3
          generalize hgl : (grp (T ++ [s])).length = gl at *
          clear hgl
          go_upto_region 15 with (first
            | (go_at_call 14; refine KA.out.mono ?_; rintro e w2 ⟨rfl, l2, f2⟩; have L2 := Lib.hid l2; have F2 := Lib.hid f2; clear l2 f2)
            | fail)
          have HO2 := Lib.hid (HO.out.keepOwn (w' := w2) str_flat fun b hb => F2.out.block b (HO.out.own_lt hb).2 fun h => h (.inr hb))
          have HB2 := Lib.hid (HB.out.trans (F2.out.z_below (B := w.heap.size) (fun b hb => .inl hb) HB.out.size))
          have CC := Lib.hid (show ∀ V, Below w2.heap.size w2 V → V.cell? (ad.add k) = some (.string (str s)) from fun V hV => HC.out V (HB2.out.trans (hV.mono HB2.out.size)))
          obtain ⟨A9', c9', e9, _, _, r92, _⟩ := HO2.out.rg
          injection e9 with e9a _ e9b
          subst e9a e9b
          have R92 := Lib.hid r92
          clear r92
          have ba : Below w2.heap.size w2 (w2.alloc (.cells #[] 9)).drew := ((Below.refl _ w2).alloc (Nat.le_refl _) _).drew
          have bs : Below w2.heap.size w2 (w2.alloc (.cells #[.string (str s)] 9)).drew := ((Below.refl _ w2).alloc (Nat.le_refl _) _).drew
          have bb : Below w2.heap.size w2 ((w2.alloc (.cells #[] 9)).alloc (.cells #[.string (str s)] 9)).drew := (((Below.refl _ w2).alloc (Nat.le_refl _) _).alloc (by rw [heap_size_alloc]; omega) _).drew
          have bc : Below w2.heap.size w2 ((w2.alloc (.cells #[.string (str s)] 9)).alloc (.cells #[] 9)).drew := (((Below.refl _ w2).alloc (Nat.le_refl _) _).alloc (by rw [heap_size_alloc]; omega) _).drew
          have BA := Lib.hid ba; have BB := Lib.hid bb; have BC := Lib.hid bc
          have cc := CC.out _ (Below.refl w2.heap.size w2).drew
          have ca := CC.out _ ba; have cs := CC.out _ bs; have cb := CC.out _ bb; have cd := CC.out _ bc
          have LA := Lib.hid ((OG.lit0 (K := CR.str) (T := 9) w2 (Nat.le_refl w2.heap.size)).drew)
          have LB := Lib.hid (((OG.lit0 (K := CR.str) (T := 9) w2 (Nat.le_refl w2.heap.size)).alloc (.cells #[.string (str s)] 9)).drew)
          have LC : Hid (OG CR.str 9 w2.heap.size ((w2.alloc (.cells #[.string (str s)] 9)).alloc (.cells #[] 9)).drew (.slice (some ⟨w2.heap.size + 1, 0, none⟩) 0 0) ([] : List (List UInt8))) := by
            have := OG.lit0 (K := CR.str) (T := 9) (base := w2.heap.size) (w2.alloc (.cells #[.string (str s)] 9)) (by rw [heap_size_alloc]; omega)
            rw [heap_size_alloc] at this
            exact Lib.hid this.drew
          have SB : Hid (RG CR.str ((w2.alloc (.cells #[] 9)).alloc (.cells #[.string (str s)] 9)).drew (some ⟨w2.heap.size + 1, 0, none⟩) [s]) := by
            have h1 := heap_alloc_last (w2.alloc (.cells #[] 9)) (.cells #[.string (str s)] 9)
            rw [heap_size_alloc] at h1
            exact Lib.hid (rg_one (cell_of_row _ _ 0 _ _ _ h1)).drew
          have SC : Hid (RG CR.str ((w2.alloc (.cells #[.string (str s)] 9)).alloc (.cells #[] 9)).drew (some ⟨w2.heap.size, 0, none⟩) [s]) := Lib.hid (((rg_one (cell_of_row _ _ 0 _ _ _ (heap_alloc_last w2 (.cells #[.string (str s)] 9)))).alloc (.cells #[] 9)).drew)
          have ND := Lib.hid (show ∀ (V : World) (x y : Nat), x ≠ y → ∀ b, footR CR.str V (some ⟨x, 0, none⟩) [s] b → some b ≠ (Value.slice (some ⟨y, 0, none⟩) 0 0).ownBlock from fun V x y hxy b hb e => by
            obtain ⟨j, z, ad', cs', _, e1, _, _, h⟩ := hb
            injection e1 with e1
            subst e1
            rcases h with rfl | h
            · injection e with e
              exact hxy e
            · exact (str_flat _ _ _ _ h).elim)
          clear ba bs bb bc
          go_region_held3 (fun V => V.cell? (ad.add k) = some (.string (str s))) (first | with_reducible assumption | with_reducible exact cc | with_reducible exact ca | with_reducible exact cs | with_reducible exact cb | with_reducible exact cd | with_reducible exact ck | with_reducible exact cl | with_reducible exact cm | with_reducible exact cn | fail)
            (first
              | (refine step_append_G tgS rfl (.tmp 52) (.tmp 53) rfl w2.heap.size _ ([] : List (List UInt8)) rfl LA.out A9 T.length c9 T rfl rfl (R92.out.below BA.out) (Apart.flat str_flat) (by simp; omega) BA.out.size ?_; intro v3 w3 o3 b3 g3 _; rw [List.nil_append] at o3; obtain ⟨A3, c3, rfl, _⟩ := o3.rg; have O3 := Lib.hid o3; have B3 := Lib.hid (BA.out.trans b3); have ck := CC.out w3 B3.out; have cl := CC.out (w3.alloc (.cells #[.string (str s)] 9)) (B3.out.alloc B3.out.size (.cells #[.string (str s)] 9)); clear o3 b3 g3)
              | (refine step_append_G tgS rfl (.tmp 52) (.tmp 53) rfl w2.heap.size _ ([] : List (List UInt8)) rfl LB.out A9 T.length c9 T rfl rfl (R92.out.below BB.out) (Apart.flat str_flat) (by simp; omega) BB.out.size ?_; intro v3 w3 o3 b3 g3 _; rw [List.nil_append] at o3; obtain ⟨A3, c3, rfl, _⟩ := o3.rg; have O3 := Lib.hid o3; have B3 := Lib.hid (BB.out.trans b3); have ck := CC.out w3 B3.out; have RS3 := Lib.hid (SB.out.grown g3 (ND.out _ _ _ (by omega))); clear o3 b3 g3)
              | (refine step_append_G tgS rfl (.tmp 52) (.tmp 53) rfl w2.heap.size _ ([] : List (List UInt8)) rfl LC.out A9 T.length c9 T rfl rfl (R92.out.below BC.out) (Apart.flat str_flat) (by simp; omega) BC.out.size ?_; intro v3 w3 o3 b3 g3 _; rw [List.nil_append] at o3; obtain ⟨A3, c3, rfl, _⟩ := o3.rg; have O3 := Lib.hid o3; have B3 := Lib.hid (BC.out.trans b3); have ck := CC.out w3 B3.out; have RS3 := Lib.hid (SC.out.grown g3 (ND.out _ _ _ (by omega))); clear o3 b3 g3)
              | (refine step_append_G tgS rfl (.tmp 54) (.tmp 59) rfl w2.heap.size _ T rfl (O3.out.alloc (.cells #[.string (str s)] 9)) (some ⟨w3.heap.size, 0, none⟩) 1 1 [s] rfl rfl (rg_one (cell_of_row _ _ 0 _ _ _ (heap_alloc_last w3 (.cells #[.string (str s)] 9)))) (Apart.flat str_flat) (by omega) (by rw [heap_size_alloc]; have := B3.out.size; omega) ?_; intro v4 w4 o4 b4 _ _; have B4 := Lib.hid ((B3.out.alloc B3.out.size (.cells #[.string (str s)] 9)).trans b4); have KP4 := Lib.hid (KPT.out w4 v4 (o4.lift HB2.out.size)); obtain ⟨A4, c4, rfl, _⟩ := o4.rg; have cm := CC.out w4 B4.out; clear o4 b4)
              | (refine step_append_G tgS rfl (.tmp 54) (.tmp 59) rfl w2.heap.size _ T rfl O3.out _ 1 1 [s] rfl rfl RS3.out (Apart.flat str_flat) (by omega) B3.out.size ?_; intro v4 w4 o4 b4 _ _; have B4 := Lib.hid (B3.out.trans b4); have KP4 := Lib.hid (KPT.out w4 v4 (o4.lift HB2.out.size)); obtain ⟨A4, c4, rfl, _⟩ := o4.rg; have cm := CC.out w4 B4.out; clear o4 b4)
              | (go_at_call 19; refine (KP4.out _ _ _ (by simp)).mono ?_; rintro e w5 ⟨rfl, b5⟩; have B5 := Lib.hid (B4.out.trans (b5.mono B4.out.size)); have cn := CC.out w5 B5.out; clear b5)
              | fail)
          all_goals
            clear ca cs cb cd ck cm
            have L5 := Lib.hid (L2.out.below B5.out)
            have O5 := Lib.hid (HO2.out.below B5.out)
            have BW := Lib.hid (HB2.out.trans (B5.out.mono HB2.out.size))
            go_wp2
            go_roundw
            case rel => exact ⟨k + 1, T, by omega, by go_num, by omega, HT2.out, O5.out, L5.out, HJ.out, BW.out⟩
            case measure => simp [intOf]; omega
    · obtain rfl : k = n := by omega
      have hTn : T.length ≤ 60 := by omega
      have hZ : ∀ b, (b < w.heap.size ∨ (Value.slice A9 T.length c9).ownBlock = some b) → b < wr.heap.size := fun b hb => by
        rcases hb with hb | hb
        · exact Nat.lt_of_lt_of_le hb HB.out.size
        · exact (HO.out.own_lt hb).2
      have hsy := sync_fine HJ.out rfl
      have hsl := sync_left (d := Dk.new 20) (g := roomG N T) rfl hsy.1
      have KS := Lib.hid (awSyncZ HLW.out HB.out.size hZ hsy.1 rfl rfl (by decide) (by show T.length ≤ 500; omega) (by show 0 ≤ 500; omega))
      have HSL := Lib.hid hsl
      have hgT : (grp T).length ≤ N := HJ.out.ok.fits rfl
      have hglI : ((grp T).length : Int) ≤ (N : Int) := by omega
      obtain ⟨q, hq⟩ : ∃ q : Nat, (N : Int) - ((grp T).length : Int) = (q : Int) := ⟨N - (grp T).length, by omega⟩
      have HLF := Lib.hid (show (syncG (Dk.new 20) (roomG N T)).left = q from by
        have : (roomG N T).left = N := rfl
        rw [hsl.1, this]
        show N - (grp T).length = q
        omega)
      have HRC := Lib.hid (show (syncG (Dk.new 20) (roomG N T)).recs = T from hsl.2.1)
      have HRS : Hid ((syncG (Dk.new 20) (roomG N T)).restErr 9 = 0 ∧ (syncG (Dk.new 20) (roomG N T)).rest 9 = newG 0 N 9) := by
        obtain ⟨_, _, e1, e2, e3, e4⟩ := hsl
        have h0 : (syncG (Dk.new 20) (roomG N T)).restErr 9 = 0 := by
          unfold Lg.restErr
          rw [e4, e3]
          rw [if_neg (show ¬ (roomG N T).bad = true from fun h => by cases h), if_neg (show ¬ (9 : Int) ≤ ((roomG N T).epoch : Int) from (by show ¬ (9 : Int) ≤ ((5 : Nat) : Int); decide)), if_neg (by decide)]
        refine Lib.hid ⟨h0, ?_⟩
        unfold Lg.rest
        rw [if_pos h0, e1, e2]
        rfl
      have TXT := Lib.hid (show ∀ t ∈ T, t.length ≤ 1000 from fun t ht => by have := HT2.out t ht; omega)
      clear hO hLW hJ hB hT2 hsy hsl hglI
      generalize hGG : syncG (Dk.new 20) (roomG N T) = GG at *
      generalize hDD : syncD (Dk.new 20) (roomG N T) = DD at *
      clear hGG hDD
      go_wp2_with fail
      refine KS.out.mono ?_
      rintro e w2 ⟨rfl, l2, f2⟩
      have HB2 := Lib.hid (HB.out.trans (f2.z_below (B := w.heap.size) (fun b hb => .inl hb) HB.out.size))
      have HO2 := Lib.hid (HO.out.keepOwn (w' := w2) str_flat fun b hb => f2.block b (HO.out.own_lt hb).2 fun h => h (.inr hb))
      have L2 := Lib.hid l2
      have KR := Lib.hid (awRecs l2 HRC.out (by rw [HRC.out]; omega))
      clear l2 f2 KS
      go_upto_region 22 with (first
        | (go_at_call 17; refine KR.out.mono ?_; rintro e w3 ⟨v3, rfl, o3, b3⟩; obtain ⟨A3, c3, rfl, _, _, r3, _⟩ := o3.rg; have L3 := Lib.hid (L2.out.below b3); have HB3 := Lib.hid (HB2.out.trans (b3.mono HB2.out.size)); have HO3 := Lib.hid (HO2.out.below b3); have KSM := Lib.hid (wsSame_any A3 A9 T.length c3 T.length c9 T T w3 rfl rfl (by omega) r3.rs (by obtain ⟨A', c', e', _, _, r', _⟩ := HO3.out.rg; injection e' with e1 _ e2; subst e1; exact r'.rs)); rw [decide_eq_true rfl] at KSM; clear o3 b3 r3)
        | (go_at_call 20; refine KSM.out.mono ?_; rintro e w4 ⟨rfl, b4⟩; have L4 := Lib.hid (L3.out.below b4); have HB4 := Lib.hid (HB3.out.trans (b4.mono HB3.out.size)); have HO4 := Lib.hid (HO3.out.below b4); have KL := Lib.hid (awLeft L4.out HLF.out); clear b4)
        | (go_at_call 21; refine KL.out.mono ?_; rintro e w5 ⟨rfl, l5, b5⟩; have L5 := Lib.hid l5; have HB5 := Lib.hid (HB4.out.trans (b5.mono HB4.out.size)); have HO5 := Lib.hid (HO4.out.below b5); have KPA := Lib.hid (wsParts_any A9 T.length c9 T w5 rfl (by omega) TXT.out (by obtain ⟨A', c', e', _, _, r', _⟩ := HO5.out.rg; injection e' with e1 _ e2; subst e1; exact r'.rs)); clear l5 b5)
        | (go_at_call 19; refine KPA.out.mono ?_; rintro e w6 ⟨rfl, b6⟩; have L6 := Lib.hid (L5.out.below b6); have HB6 := Lib.hid (HB5.out.trans (b6.mono HB5.out.size)); clear b6)
        | fail)
      have KT := Lib.hid (awRestZ L6.out HRS.out.1 HRS.out.2)
      go_wp2_with (first
        | (go_at_call 10; refine KT.out.mono ?_; rintro e w7 ⟨rfl, l7, f7⟩; have HB7 := Lib.hid (HB6.out.trans (f7.z_below (B := w.heap.size) (fun b hb => .inl hb) HB6.out.size)); have KL7 := Lib.hid (awLeft l7 (n := N) rfl); clear l7 f7)
        | (go_at_call 21; refine KL7.out.mono ?_; rintro e w8 ⟨rfl, l8, b8⟩; have HB8 := Lib.hid (HB7.out.trans (b8.mono HB7.out.size)); have KR8 := Lib.hid (awRecs l8 (L := []) rfl (by show 0 ≤ 1000; omega)); clear l8 b8)
        | (go_at_call 17; refine KR8.out.mono ?_; rintro e w9 ⟨v9, rfl, o9, b9⟩; obtain ⟨A10, c10, rfl, _⟩ := o9.rg; have HB9 := Lib.hid (HB8.out.trans (b9.mono HB8.out.size)); clear o9 b9)
        | (go_at_call 6; refine (waAwake_any _).mono ?_; rintro x w10 ⟨rfl, b10⟩; have HB10 := Lib.hid (HB9.out.trans (b10.mono HB9.out.size)); clear b10)
        | fail)
      go_ret
      exact ⟨rfl, HB10.out⟩
end Go.Proofs.Ytochifbbefbehaa
