/- The walk of the law WalsecTorn. -/
import Derived.Test.YtkfpjbefjflhfaaKWalsecTorn
namespace Go.Proofs.Ytkfpjbefjflhfaa
open Go.RowKit
set_option linter.unusedVariables false
set_option linter.unusedSimpArgs false
def KF : CR (UInt8 × UInt8) := CR.prod CR.u8 CR.u8
theorem KF.at {w : World} {A : Option Addr} {F : List (UInt8 × UInt8)} (h : RG KF w A F) {k : Nat} {x : UInt8 × UInt8} (hk : F[k]? = some x) : ∃ ad, A = some ad ∧ w.cell? (ad.add (k * 2)) = some (.int .u8 (x.1.toNat : Int)) ∧ w.cell? (ad.add (k * 2 + 1)) = some (.int .u8 (x.2.toNat : Int)) := by
  obtain ⟨ad, cs, e, h1, as', bs', rfl, rfl, rfl⟩ := h k x hk
  have h2 := h1 0 _ rfl
  have h3 := h1 1 _ rfl
  rw [Addr.add_nought, show k * KF.k = k * 2 from rfl] at h2
  rw [show k * KF.k = k * 2 from rfl, add_of_add] at h3
  exact ⟨ad, e, h2, h3⟩
/-- A row that reads, and hangs on blocks from lo up to hi alone. -/
def RGb {α : Type} (K : CR α) (lo hi : Nat) (w : World) (A : Option Addr) (l : List α) : Prop := RG K w A l ∧ ∀ b, footR K w A l b → lo ≤ b ∧ b < hi
theorem RGb.keep {α : Type} {K : CR α} {lo hi : Nat} {w w' : World} {A : Option Addr} {l : List α} (h : RGb K lo hi w A l) (hk : ∀ b, lo ≤ b → b < hi → w'.heap[b]? = w.heap[b]?) : RGb K lo hi w' A l := by
  have := h.1.keepF (w' := w') fun b hb => hk b (h.2 b hb).1 (h.2 b hb).2
  exact ⟨this.1, fun b hb => h.2 b (this.2 b hb)⟩
theorem ownBlock_len (A : Option Addr) (m m' c c' : Nat) : (Value.slice A m c).ownBlock = (Value.slice A m' c').ownBlock := by cases A <;> rfl
theorem light_le {L : List (List UInt8)} (h : ∀ t ∈ L, t.length ≤ 300) : ∀ t ∈ L, t.length ≤ 1000 := fun t ht => Nat.le_trans (h t ht) (by omega)
set_option maxHeartbeats 8000000 in
set_option maxRecDepth 100000 in
theorem walsecTorn_core (A A' A3 : Option Addr) (n n' nf c c' c3 : Nat) (L M : List (List UInt8)) (F : List (UInt8 × UInt8)) (w : World) (hl : L.length = n) (hc : n ≤ c) (hm : c ≤ maxLen) (hs : ∀ t ∈ L, t.length ≤ maxLen) (hr : RS w A L) (hl' : M.length = n') (hc' : n' ≤ c') (hm' : c' ≤ maxLen) (hs' : ∀ t ∈ M, t.length ≤ maxLen) (hr' : RS w A' M) (hl3 : F.length = nf) (hr3 : RG KF w A3 F) :
    Calls Try.prog 5 #[.slice A n c, .slice A' n' c', .slice A3 nf c3] w fun x w' => x = .returned (.bool true) ∧ Below w.heap.size w w' := by
  have KL := Lib.hid (wsLight_any A n c L 30 w hl (by omega) hs hr)
  have KM := Lib.hid (wsLight_any A' n' c' M 30 w hl' (by omega) hs' hr')
  by_cases hL : lightB L 30 = true
  case neg =>
    rw [not_light hL] at KL
    clear hL hl hc hm hs hr hl' hc' hm' hs' hr' KM hl3 hr3
    go_enter Try.func5, Try.ntmps5
    go_wp2_with (first
      | (go_at_call 7; (with_reducible refine Calls.mono KL.out ?_); rintro x w1 ⟨rfl, rfl⟩)
      | (go_at_call 8; refine (wsAwake_any _).mono ?_; rintro x w6 ⟨rfl, b6⟩; (have B6 := Lib.hid (b6)); clear b6))
    go_ret
    exact ⟨rfl, B6.out⟩
  by_cases hM : lightB M 30 = true
  case neg =>
    rw [hL] at KL
    rw [not_light hM] at KM
    clear hL hM hl hc hm hs hr hl' hc' hm' hs' hr' hl3 hr3
    go_enter Try.func5, Try.ntmps5
    go_wp2_with (first
      | (go_at_call 7; (with_reducible refine Calls.mono KL.out ?_); rintro x w1 ⟨rfl, rfl⟩)
      | (go_at_call 7; (with_reducible refine Calls.mono KM.out ?_); rintro x w1 ⟨rfl, rfl⟩)
      | (go_at_call 8; refine (wsAwake_any _).mono ?_; rintro x w6 ⟨rfl, b6⟩; (have B6 := Lib.hid (b6)); clear b6))
    go_ret
    exact ⟨rfl, B6.out⟩
  rw [hL] at KL
  rw [hM] at KM
  by_cases hf : nf ≤ 40
  case neg =>
    have hf' : (40 : Int) < (nf : Int) := by omega
    clear hL hM hl hc hm hs hr hl' hc' hm' hs' hr' hl3 hr3
    go_enter Try.func5, Try.ntmps5
    go_wp2_with (first
      | (go_at_call 7; (with_reducible refine Calls.mono KL.out ?_); rintro x w1 ⟨rfl, rfl⟩)
      | (go_at_call 7; (with_reducible refine Calls.mono KM.out ?_); rintro x w1 ⟨rfl, rfl⟩)
      | (go_at_call 8; refine (wsAwake_any _).mono ?_; rintro x w6 ⟨rfl, b6⟩; (have B6 := Lib.hid (b6)); clear b6))
    go_ret
    exact ⟨rfl, B6.out⟩
  have hf' : ¬ (40 : Int) < (nf : Int) := by omega
  obtain ⟨hn, hLs⟩ := lightB_iff.1 hL
  obtain ⟨hn', hMs⟩ := lightB_iff.1 hM
  have hn30 : n ≤ 30 := by omega
  have hn30' : n' ≤ 30 := by omega
  have g1 := grp_len L
  have g2 := grp_len M
  have KP := Lib.hid (pack_full A n c L 7 0 w hl (by omega) hc hm (light_le hLs) hr)
  have KQ := Lib.hid (fun W (h : Below w.heap.size w W) => pack_full A' n' c' M 8 0 W hl' (by omega) hc' hm' (light_le hMs) (hr'.below h))
  unfold PackFull at KP KQ
  rcases packE_or (e := 7) (f := 0) (L := L) ⟨by omega, by omega, by omega⟩ with ⟨e1, hL238, r1⟩ | e1
  case inr =>
    rw [e1] at KP
    have HQ : Hid (∃ z : Int, packE 8 0 M = z) := Lib.hid ⟨_, rfl⟩
    obtain ⟨z, hz⟩ := HQ.out
    rw [hz] at KQ
    have hpr : (packR 7 0 L) = [] := by rw [packR, if_neg (by rw [e1]; omega)]
    rw [hpr] at KP
    clear hL hM hl hc hm hs hr hl' hc' hm' hs' hr' hLs hMs e1 hl3 hr3 hz HQ hpr
    go_enter Try.func5, Try.ntmps5
    go_wp2_with (first
      | (go_at_call 7; (with_reducible refine Calls.mono KL.out ?_); rintro x w1 ⟨rfl, rfl⟩)
      | (go_at_call 7; (with_reducible refine Calls.mono KM.out ?_); rintro x w1 ⟨rfl, rfl⟩)
      | (go_at_call 9; (with_reducible refine Calls.mono KP.out ?_); rintro x w1 ⟨v1, rfl, _, _, b1⟩; (have B1 := Lib.hid b1); clear b1)
      | (go_at_call 9; (with_reducible refine Calls.mono (KQ.out _ B1.out) ?_); rintro x w2 ⟨v2, rfl, _, _, b2⟩; (have B2 := Lib.hid (B1.out.trans (b2.mono B1.out.size))); clear b2)
      | (go_at_call 8; refine (wsAwake_any _).mono ?_; rintro x w6 ⟨rfl, b6⟩; (have B6 := Lib.hid (B2.out.trans (b6.mono B2.out.size))); clear b6))
    go_ret
    exact ⟨rfl, B6.out⟩
  rw [e1, r1, show (7 : Int).toNat = 7 from rfl, show (0 : Int).toNat = 0 from rfl] at KP
  rcases packE_or (e := 8) (f := 0) (L := M) ⟨by omega, by omega, by omega⟩ with ⟨e2, hM238, r2⟩ | e2
  case inr =>
    rw [e2] at KQ
    have hpr : (packR 8 0 M) = [] := by rw [packR, if_neg (by rw [e2]; omega)]
    rw [hpr] at KQ
    clear hL hM hl hc hm hs hr hl' hc' hm' hs' hr' hLs hMs e1 e2 r1 hl3 hr3 hpr
    generalize wsSecs 7 0 (grp L) = X at *
    go_enter Try.func5, Try.ntmps5
    go_wp2_with (first
      | (go_at_call 7; (with_reducible refine Calls.mono KL.out ?_); rintro x w1 ⟨rfl, rfl⟩)
      | (go_at_call 7; (with_reducible refine Calls.mono KM.out ?_); rintro x w1 ⟨rfl, rfl⟩)
      | (go_at_call 9; (with_reducible refine Calls.mono KP.out ?_); rintro x w1 ⟨v1, rfl, _, _, b1⟩; (have B1 := Lib.hid b1); clear b1)
      | (go_at_call 9; (with_reducible refine Calls.mono (KQ.out _ B1.out) ?_); rintro x w2 ⟨v2, rfl, _, _, b2⟩; (have B2 := Lib.hid (B1.out.trans (b2.mono B1.out.size))); clear b2)
      | (go_at_call 8; refine (wsAwake_any _).mono ?_; rintro x w6 ⟨rfl, b6⟩; (have B6 := Lib.hid (B2.out.trans (b6.mono B2.out.size))); clear b6))
    go_ret
    exact ⟨rfl, B6.out⟩
  rw [e2, r2, show (8 : Int).toNat = 8 from rfl, show (0 : Int).toNat = 0 from rfl] at KQ
  have HXL := Lib.hid (wsSecs_len 7 0 (grp L))
  have HYL := Lib.hid (wsSecs_len 8 0 (grp M))
  have HR' := Lib.hid hr'
  have HR3 := Lib.hid hr3
  have HL' := Lib.hid hl'
  have HL3 := Lib.hid hl3
  have H238 := Lib.hid (And.intro hL238 hM238)
  have HPQ := Lib.hid (show (grp L).length ≤ 30 ∧ (grp M).length ≤ 30 by omega)
  have HC' := Lib.hid (And.intro hc' hm')
  rw [HXL.out] at KP
  rw [HYL.out] at KQ
  obtain ⟨p, hp⟩ : ∃ p, p = (grp L).length := ⟨_, rfl⟩
  obtain ⟨q, hq⟩ : ∃ q, q = (grp M).length := ⟨_, rfl⟩
  rw [← hp] at KP
  rw [← hq] at KQ
  have HP := Lib.hid hp
  have HQ := Lib.hid hq
  have hpq : p ≤ 30 ∧ q ≤ 30 := by rw [hp, hq]; exact HPQ.out
  clear hL hM hl hc hm hs hr hl' hc' hm' hs' hr' hLs hMs e1 e2 r1 r2 hl3 hr3 hL238 hM238 hp hq g1 g2 HXL HYL
  go_enter Try.func5, Try.ntmps5
  go_upto_region 7 with (first
    | (go_at_call 7; (with_reducible refine Calls.mono KL.out ?_); rintro x w1 ⟨rfl, rfl⟩)
    | (go_at_call 7; (with_reducible refine Calls.mono KM.out ?_); rintro x w1 ⟨rfl, rfl⟩)
    | (go_at_call 9; (with_reducible refine Calls.mono KP.out ?_); rintro x w1 ⟨A1, rfl, o1, _, b1⟩; (have O1 := Lib.hid o1); (have B1 := Lib.hid b1); clear b1 o1)
    | (go_at_call 9; (with_reducible refine Calls.mono (KQ.out _ B1.out) ?_); rintro x w2 ⟨A2, rfl, o2, nr2, b2⟩; (have O2 := Lib.hid o2); (have NR2 := Lib.hid nr2); (have BB2 := Lib.hid b2); (have B2 := Lib.hid (B1.out.trans (b2.mono B1.out.size))); clear b2 nr2 o2))
  have hrg2 := (show ∃ A c, _ from O2.out.rg)
  have YB := Lib.hid (show RGb KB w1.heap.size w2.heap.size w2 A2 (wsSecs 8 0 (grp M)) from by
    obtain ⟨A', c', e, _, _, h, _⟩ := O2.out.rg
    injection e with e
    subst e
    exact ⟨h, fun b hb => ⟨NR2.out b hb, RG.lt hb⟩⟩)
  have hYlen := wsSecs_len 8 0 (grp M)
  clear KL KM KP KQ hrg2 NR2 hYlen
  have ST : Hid (∃ (j : Nat) (Ax : Option Addr) (cx : Nat), (Value.slice A1 p p) = .slice Ax (p + j) cx ∧ OG KB 34 w.heap.size w2 (.slice Ax (p + j) cx) (elder L j) ∧ (∀ b, (Value.slice Ax (p + j) cx).ownBlock = some b → b < w1.heap.size ∨ w2.heap.size ≤ b) ∧ (∀ b, w1.heap.size ≤ b → b < w2.heap.size → w2.heap[b]? = w2.heap[b]?) ∧ Below w.heap.size w w2 ∧ (0 < j → p + j ≤ q) ∧ w2.heap.size ≤ w2.heap.size) := Lib.hid ⟨0, A1, p, rfl, by simpa [elder] using O1.out.below BB2.out, fun b hb => .inl (by obtain ⟨css, h, _⟩ := O1.out; exact (World.ownsRow.lt h b hb).2), fun _ _ _ => rfl, B2.out, fun h => by omega, Nat.le_refl _⟩
  clear O1 O2 BB2 B1
  go_loopw [7] (fun v wr => ∃ (j : Nat) (Ax : Option Addr) (cx : Nat), v = .slice Ax (p + j) cx ∧ OG KB 34 w.heap.size wr (.slice Ax (p + j) cx) (elder L j) ∧ (∀ b, (Value.slice Ax (p + j) cx).ownBlock = some b → b < w1.heap.size ∨ w2.heap.size ≤ b) ∧ (∀ b, w1.heap.size ≤ b → b < w2.heap.size → wr.heap[b]? = w2.heap[b]?) ∧ Below w.heap.size w wr ∧ (0 < j → p + j ≤ q) ∧ w2.heap.size ≤ wr.heap.size) (fun v _ => match v with | .slice _ m _ => q - m | _ => 0)
  case atStart => exact ST.out
  case round =>
    clear ST
    obtain ⟨j, Ax, cx, rfl, hO, hnb, heq, hB, hj, hsz⟩ := hrel
    have HO := Lib.hid hO
    have HNB := Lib.hid hnb
    have HEQ := Lib.hid heq
    have HB := Lib.hid hB
    by_cases hlt : p + j < q
    · have hlt' : (p : Int) + (j : Int) < (q : Int) := by omega
      have hmk : (256 : Int) = ((256 : Nat) : Int) := rfl
      have HEL := Lib.hid (show (elder L j).length ≤ 100 from by simp [elder, wsSecs_len, ← HP.out]; omega)
      clear hO hnb heq hB
      go_wp2_with (first
        | (refine wpList_make_B rfl _ _ rfl wr.heap.size 256 256 256 rfl rfl rfl rfl (by omega) (Nat.le_refl _) ?_; intro w3 o3 b3; (have LT := Lib.hid (KB.lit HO.out o3 (Nat.le_refl _) (by simp [maxLen]))); (have B3 := Lib.hid b3); clear o3 b3)
        | (refine wpList_append_G tgBB rfl (.tmp 55) (.tmp 57) rfl w.heap.size _ (elder L j) rfl ((HO.out.below B3.out).alloc _) (some ⟨w3.heap.size, 0, none⟩) 1 1 [List.replicate 256 0] rfl rfl LT.out.1 LT.out.2 ?_ ?_ ?_; (have := HEL.out; omega); (rw [heap_size_alloc]; exact Nat.le_succ_of_le (Nat.le_trans HB.out.size B3.out.size)); intro v5 w5 o5 b5 g5 h5; obtain ⟨A5, c5, rfl, _, _, _, _⟩ := o5.rg; (have O5 := Lib.hid o5); (have G5 := Lib.hid g5); (have H5 := Lib.hid h5); (have B5 := Lib.hid (((HB.out.trans (B3.out.mono HB.out.size)).alloc (Nat.le_trans HB.out.size B3.out.size) _).trans b5)); clear o5 b5 g5 h5))
      have hel : (elder L j).length = p + j := by simp [elder, wsSecs_len, ← HP.out]
      have hes : elder L j ++ [List.replicate 256 0] = elder L (j + 1) := by
        unfold elder
        rw [List.append_assoc]
        congr 1
        rw [show List.replicate (j + 1) z256L = List.replicate j z256L ++ [z256L] from List.replicate_succ']
        rfl
      have O5' := O5.out
      rw [hes] at O5'
      refine ⟨⟨j + 1, A5, c5, by rw [hel]; rfl, by rw [show p + (j + 1) = (elder L (j + 1)).length by simp [elder, wsSecs_len, ← HP.out]]; exact O5', fun b hb => ?_, fun b hb1 hb2 => ?_, B5.out, fun _ => by omega, Nat.le_trans hsz (Nat.le_trans B3.out.size (Nat.le_trans (Nat.le_succ _) (by have := G5.out.size; rwa [heap_size_alloc] at this)))⟩, by rw [hel]; show q - (p + j + 1) < q - (p + j); omega⟩
      · rcases H5.out with h5 | h5
        · exact HNB.out b (by rw [ownBlock_len Ax (p + j) (p + j) cx cx]; exact h5.symm.trans ((ownBlock_len A5 _ (p + (j + 1)) c5 c5).trans hb))
        · have e : some b = some (w3.heap.size + 1) := by rw [← heap_size_alloc w3 (.cells #[.slice (some ⟨wr.heap.size, 0, none⟩) 256 256] 34)]; exact hb.symm.trans ((ownBlock_len A5 (p + (j + 1)) _ c5 c5).trans h5)
          injection e with e
          have := B3.out.size
          exact .inr (by omega)
      · have hb3 : b < wr.heap.size := by omega
        have e1 := G5.out.block b (by rw [heap_size_alloc]; have := B3.out.size; omega) (fun e => by rcases HNB.out b e.symm with h | h <;> omega)
        have e2 := ((Below.refl w3.heap.size w3).alloc (Nat.le_refl _) (.cells #[.slice (some ⟨wr.heap.size, 0, none⟩) 256 256] 34)).block b (by have := B3.out.size; omega)
        exact e1.trans (e2.trans ((B3.out.block b hb3).trans (HEQ.out b hb1 hb2)))
    · have hge : q ≤ p + j := by omega
      obtain ⟨N, hN⟩ : ∃ N, N = p + j := ⟨_, rfl⟩
      have hNE : N = (elder L j).length := by simp [elder, wsSecs_len, ← HP.out, hN]
      have ST2 : Hid (∃ (i wh : Nat) (xs : List (List UInt8)), i ≤ q ∧ (Value.int .i64 0) = .int .i64 (i : Int) ∧ (Value.int .i64 (q : Int)) = .int .i64 (wh : Int) ∧ wh ≤ q ∧ OG KB 34 w.heap.size wr (.slice Ax N cx) xs ∧ TornAt L M F j i wh xs ∧ (∀ b, w1.heap.size ≤ b → b < w2.heap.size → wr.heap[b]? = w2.heap[b]?) ∧ Below w.heap.size w wr ∧ w2.heap.size ≤ wr.heap.size) := Lib.hid ⟨0, q, elder L j, Nat.zero_le _, rfl, rfl, Nat.le_refl _, by rw [hN]; exact hO, by rw [HQ.out]; exact TornAt.start L M F j, heq, hB, hsz⟩
      have HNB := Lib.hid hnb
      have HJ := Lib.hid hj
      have HNN := Lib.hid hN
      have HNE := Lib.hid hNE
      have hlt' : ¬ (p : Int) + (j : Int) < (q : Int) := by omega
      rw [← hN] at HNB
      have hqN : q ≤ N := by omega
      have hN60 : N ≤ 60 := by rcases Nat.eq_zero_or_pos j with h | h; omega; have := hj h; omega
      clear hO heq hB hnb hj hNE
      rw [← hN]
      clear hN
      go_wp2
      go_loopw [11, 12, 13, 14] (fun u i _ _ wr => ∃ (k wh : Nat) (xs : List (List UInt8)), k ≤ q ∧ i = .int .i64 (k : Int) ∧ u = .int .i64 (wh : Int) ∧ wh ≤ q ∧ OG KB 34 w.heap.size wr (.slice Ax N cx) xs ∧ TornAt L M F j k wh xs ∧ (∀ b, w1.heap.size ≤ b → b < w2.heap.size → wr.heap[b]? = w2.heap[b]?) ∧ Below w.heap.size w wr ∧ w2.heap.size ≤ wr.heap.size) (fun _ i _ _ _ => q - (intOf i).toNat)
      case atStart => exact ST2.out
      case round =>
        clear ST2
        obtain ⟨k, wh, xs, hk, rfl, rfl, hwh, hO, hT, heq, hB, hsz⟩ := hrel
        by_cases hlk : k < q
        · obtain ⟨gk, hgk⟩ : ∃ gk, (grp M)[k]? = some gk := ⟨(grp M)[k]'(by rw [← HQ.out]; exact hlk), List.getElem?_eq_getElem _⟩
          obtain ⟨x, hx⟩ : ∃ x, (elder L j)[k]? = some x := ⟨(elder L j)[k]'(by rw [← HNE.out]; omega), List.getElem?_eq_getElem _⟩
          have hyk : (wsSecs 8 0 (grp M))[k]? = some (wsSec 8 k gk) := by rw [wsSecs_at, hgk]; simp
          have hxk : xs[k]? = some x := by rw [hT.2.1 k (Nat.le_refl _), hx]
          have HYL := Lib.hid (wsSec_len 8 k gk (grp_size H238.out.2 gk (List.mem_of_getElem? hgk)))
          have HXL := Lib.hid (elder_at H238.out.1 hx (by omega)).1
          have HST := Lib.hid (hT.step hx hgk)
          have HKL := Lib.hid (kOf_le F k)
          obtain ⟨yd, dy, by_, rfl, hyc, hy1, hy2, hy3⟩ := ((YB.out.keep (w' := wr) heq).1).rbs k _ hyk
          obtain ⟨g, rfl⟩ : ∃ g, Ax = some ⟨g, 0, none⟩ := by
            obtain ⟨css, o1, _⟩ := hO
            rcases o1.2 with ⟨e, _⟩ | ⟨g, cap, cur, e, _⟩
            · injection e with _ e2 _
              omega
            · injection e with e1 _ _
              exact ⟨g, e1⟩
          obtain ⟨A0, c0, e0, _, _, hrg0, _⟩ := hO.rg
          injection e0 with e0 e01 e02
          subst e0
          obtain ⟨xd, dx, bx, e0, hxc, hx1, hx2, hx3⟩ := hrg0.rbs k _ hxk
          injection e0 with e0
          subst e0
          obtain ⟨dx, rfl⟩ : ∃ a, dx = some a := hx3.some_of (by rw [HXL.out]; omega)
          obtain ⟨dy, rfl⟩ : ∃ a, dy = some a := hy3.some_of (by rw [HYL.out]; omega)
          rw [HXL.out] at hxc hx1
          rw [HYL.out] at hyc hy1
          rw [show (⟨g, 0, none⟩ : Addr).add k = ⟨g, k, none⟩ from by cases k <;> simp [Addr.add]] at hxc
          have hgb : g < wr.heap.size := by obtain ⟨css, o1, _⟩ := hO; exact (World.ownsRow.lt o1 g rfl).2
          have hgb2 := HNB.out g rfl
          have HO := Lib.hid hO
          have HB := Lib.hid hB
          have HEQ := Lib.hid heq
          have HSZ := Lib.hid hsz
          have HY3 := Lib.hid hy3
          have HX3 := Lib.hid hx3
          have hkN : (k : Int) < (N : Int) := by omega
          have hkq : (k : Int) < (q : Int) := by omega
          have HXS := Lib.hid hT.1
          clear hgk hx hyk hxk hT hO hB heq hsz hy3 hx3 hrg0 e01 e02 hy2 hx2
          generalize wsSec 8 k gk = Y at *
          by_cases hif : k < nf
          · obtain ⟨⟨kd, cu⟩, hfk⟩ : ∃ f, F[k]? = some f := ⟨F[k]'(by rw [HL3.out]; exact hif), List.getElem?_eq_getElem _⟩
            obtain ⟨fd, rfl, f0, f1⟩ := KF.at ((HR3.out).below HB.out) hfk
            simp only at f0 f1
            have hif' : (k : Int) < (nf : Int) := by omega
            have hkd := kd.toNat_lt
            have hcu := cu.toNat_lt
            have HKO := Lib.hid (show kOf F k = if kd.toNat % 3 = 0 then 0 else if kd.toNat % 3 = 2 then cu.toNat else 256 by simp only [kOf, hfk])
            have f0e : ∀ W, Below wr.heap.size wr W → W.cell? (fd.add (k * 2)) = some (.int .u8 (kd.toNat : Int)) := fun W h => (h.cell (lt_of_cell f0)).trans f0
            have f1b := f1
            rw [← add_of_add] at f1b
            have f1c := f1b
            rw [Addr.add_one_] at f1c
            have FE := Lib.hid f0e
            clear hfk f0e
            go_upto_if 79 with (fail)
            obtain ⟨k1, hk1⟩ : ∃ k1 : Nat, k1 = if kd.toNat % 3 = 0 then 0 else 256 := ⟨_, rfl⟩
            have HK1 := Lib.hid hk1
            clear hk1
            go_cut [13] from 61 to 142 (fun v wx => wr = wx ∧ v = .int .i64 (k1 : Int))
            case first =>
              by_cases hz : kd.toNat % 3 = 0
              · have hb1 : ((kd.toNat : Int) % 3 == 0) = true := by simpa using (by omega : (kd.toNat : Int) % 3 = 0)
                have hk1 : k1 = 0 := by rw [HK1.out, if_pos hz]
                have HK := Lib.hid hk1
                clear hk1 hz
                go_wp2
                go_meet
                case rel => exact ⟨rfl, by rw [HK.out]; rfl⟩
              · have hb1 : ((kd.toNat : Int) % 3 == 0) = false := by simpa using (by omega : ¬ (kd.toNat : Int) % 3 = 0)
                have hk1 : k1 = 256 := by rw [HK1.out, if_neg hz]
                have HK := Lib.hid hk1
                clear hk1 hz
                go_wp2
                go_meet
                case rel => exact ⟨rfl, by rw [HK.out]; rfl⟩
            case rest =>
              obtain ⟨rfl, rfl⟩ := hcut
              go_upto_if 92 with (fail)
              go_cut [13] from 61 to 142 (fun v wx => wr = wx ∧ v = .int .i64 (kOf F k : Int))
              case first =>
                by_cases hz : kd.toNat % 3 = 2
                · have hb1 : ((kd.toNat : Int) % 3 == 2) = true := by simpa using (by omega : (kd.toNat : Int) % 3 = 2)
                  have HK := Lib.hid (show kOf F k = cu.toNat by rw [HKO.out, if_neg (by omega), if_pos hz])
                  clear hz
                  go_wp2
                  go_meet
                  case rel => exact ⟨rfl, by rw [HK.out]⟩
                · have hb1 : ((kd.toNat : Int) % 3 == 2) = false := by simpa using (by omega : ¬ (kd.toNat : Int) % 3 = 2)
                  have HK := Lib.hid (show kOf F k = k1 by rw [HKO.out, HK1.out]; simp only [if_neg hz])
                  clear hz
                  go_wp2
                  go_meet
                  case rel => exact ⟨rfl, by rw [HK.out]⟩
              case rest =>
                obtain ⟨rfl, rfl⟩ := hcut
                clear f0 f1 f1b f1c
                generalize kOf F k = K at *
                have hK := HKL.out
                have e1 : (K : Int) ≤ (by_ : Int) := by omega
                have e2 : (K : Int) ≤ 256 := by omega
                have L1 := Lib.hid (show (Y.take K).length = K from by rw [List.length_take, HYL.out]; omega)
                have L2 := Lib.hid (show (x.drop K).length = 256 - K from by rw [List.length_drop, HXL.out])
                have L3 := Lib.hid (show (Y.take K ++ x.drop K).length = 256 from by rw [List.length_append, L1.out, L2.out]; omega)
                have R1 := Lib.hid (HY3.out.take K)
                have R2 : Hid (RB wr (if bx = K then some dx else some (dx.add K)) (x.drop K)) := Lib.hid (by
                  split
                  · rw [List.drop_of_length_le (by rw [HXL.out]; omega)]
                    exact RB.nil
                  · exact HX3.out.drop K)
                have HTC := Lib.hid (show ∀ V, Below wr.heap.size wr V → V.cell? (yd.add k) = some (.slice (some dy) 256 by_) ∧ V.cell? ⟨g, k, none⟩ = some (.slice (some dx) 256 bx) from fun V h => ⟨(h.cell (lt_of_cell hyc)).trans hyc, (h.cell (lt_of_cell hxc)).trans hxc⟩)
                have HSTEP := Lib.hid HST.out
                obtain ⟨Z, hZ⟩ : ∃ Z, Z = Y.take K ++ x.drop K := ⟨_, rfl⟩
                rw [← hZ] at HSTEP L3
                have HZ := Lib.hid hZ
                clear HST hZ
                generalize Y.take K = Y1 at *
                generalize x.drop K = X1 at *
                go_upto_region 20 with (fail)
                have S0 := HTC.out _ (Below.refl _ wr).drew
                have DA : Hid (Below wr.heap.size wr (wr.alloc (.cells #[] 5)).drew) := Lib.hid ((Below.refl _ wr).alloc (Nat.le_refl _) (.cells #[] 5)).drew
                have SA := HTC.out _ DA.out
                have OA : Hid (OB wr.heap.size (wr.alloc (.cells #[] 5)).drew (.slice (some ⟨wr.heap.size, 0, none⟩) 0 0) []) := Lib.hid (OB.lit wr wr.heap.size [] #[] (by simp [cellsB]) (Nat.le_refl _) (by simp [maxLen]))
                have GA : Hid (wr.heap.size ≤ (wr.alloc (.cells #[] 5)).drew.heap.size) := Lib.hid DA.out.size
                clear hyc hxc
                go_region_held3 (fun V => V.cell? (yd.add k) = some (.slice (some dy) 256 by_) ∧ V.cell? ⟨g, k, none⟩ = some (.slice (some dx) 256 bx)) (first | exact S0 | exact SA | exact S1 | exact S2 | fail)
                  (first
                    | (refine step_append_B rfl (.tmp 113) (.tmp 119) rfl wr.heap.size _ [] rfl OA.out (some dy) K by_ Y1 rfl L1.out (R1.out.below DA.out) (by simp; omega) GA.out ?_; intro v1 w3 o1 b1 _; have D1 := Lib.hid (DA.out.trans b1); have O2 : Hid (OB wr.heap.size w3 v1 Y1) := Lib.hid o1; have S1 := HTC.out _ D1.out; clear o1 b1)
                    | (refine step_append_B rfl (.tmp 120) (.tmp 126) rfl wr.heap.size v1 Y1 rfl O2.out (if bx = K then some dx else some (dx.add K)) (256 - K) (bx - K) X1 rfl L2.out (R2.out.below D1.out) (by rw [L1.out]; omega) D1.out.size ?_; intro v2 w4 o3' b2 _; have o3 := o3'; rw [← HZ.out] at o3; obtain ⟨bd, bc, rfl, hbc1, hbc2, r3, l3, g3⟩ := o3.row (by rw [L3.out]; omega); rw [L3.out]; have D2 := Lib.hid (D1.out.trans b2); have S2 := HTC.out _ D2.out; have RZ := Lib.hid r3; clear o3 o3' b2 r3)
                    | fail)
                clear S0 SA S1 OA GA DA HTC L1 L2 R1 R2 D1 O2
                have hs1 := run_str w4.drew (some bd) 256 bc Z L3.out RZ.out.drew
                have hs2 := run_str w4.drew (some dy) 256 by_ Y HYL.out (HY3.out.below D2.out.drew)
                have hyc4 : w4.drew.cell? (yd.add k) = some (.slice (some dy) 256 by_) := S2.1
                have hcx := S2.2
                have hse := str_eq Z Y
                have D5 := Lib.hid D2.out.drew
                have O5 := Lib.hid (HO.out.below D5.out)
                have RZ5 := Lib.hid RZ.out.drew
                have hE : KB.E w4.drew [.slice (some bd) 256 bc] Z := by
                  have := KB.mk (w := w4.drew) (A := some bd) (c := bc) (l := Z) (by rw [L3.out]; rw [L3.out] at hbc1; exact hbc1) hbc2 RZ5.out
                  rwa [L3.out] at this
                obtain ⟨⟨u0, hc0⟩, hf0, hset⟩ := OG.set1 (K := KB) rfl O5.out (j := k) (by rw [HXS.out, ← HNE.out]; omega) hE (fun b hb => by have e := KB.foot_at hb; omega)
                have HSET := Lib.hid hset
                have HCF := Lib.hid (And.intro hc0 hf0)
                have HQ5 := Lib.hid (show ∀ b, w1.heap.size ≤ b → b < w2.heap.size → (w4.drew.setCell ⟨g, k, none⟩ (.slice (some bd) 256 bc)).heap[b]? = w2.heap[b]? from fun b h1 h2 => (setCell_else w4.drew g k _ b (by omega)).trans ((D5.out.block b (by have := HSZ.out; omega)).trans (HEQ.out b h1 h2)))
                have HB5 := Lib.hid (show Below w.heap.size w (w4.drew.setCell ⟨g, k, none⟩ (.slice (some bd) 256 bc)) from (HB.out.trans (D5.out.mono HB.out.size)).setCell (by obtain ⟨css, o1, _⟩ := HO.out; exact (World.ownsRow.lt o1 g rfl).1) _)
                have HZ5 := Lib.hid (show w2.heap.size ≤ (w4.drew.setCell ⟨g, k, none⟩ (.slice (some bd) 256 bc)).heap.size from by rw [World.size_setCell]; exact Nat.le_trans HSZ.out D5.out.size)
                clear hset hc0 hf0 hE S2
                go_upto_region 21 with (fail)
                by_cases hq : Z = Y
                · rw [decide_eq_true hq] at hse
                  rw [if_pos hq] at HSTEP
                  clear hq
                  go_region_held3 (fun V => V.cell? (yd.add k) = some (.slice (some dy) 256 by_) ∧ (convert 34 9 (.slice (some bd) 256 bc)).run Try.prog V = .ok (.string (str Z)) V ∧ (convert 34 9 (.slice (some dy) 256 by_)).run Try.prog V = .ok (.string (str Y)) V) (first | exact ⟨hyc4, hs1, hs2⟩ | fail) (first | fail)
                  clear hs1 hs2 hyc4 hcx
                  obtain ⟨hc0, hf0⟩ := HCF.out
                  go_wp2
                  refine ⟨⟨k + 1, wh, _, by omega, by go_num, rfl, hwh, HSET.out, HSTEP.out, HQ5.out, HB5.out, HZ5.out⟩, by simp [intOf]; omega⟩
                · rw [decide_eq_false hq] at hse
                  rw [if_neg hq] at HSTEP
                  obtain ⟨mw, hmw⟩ : ∃ mw, mw = min wh k := ⟨_, rfl⟩
                  have hmin : (if k < wh then (k : Int) else (wh : Int)) = (mw : Int) := by split <;> omega
                  have HMN := Lib.hid hmin
                  rw [← hmw] at HSTEP
                  have hmq : mw ≤ q := by omega
                  clear hq hmw
                  go_region_held3 (fun V => V.cell? (yd.add k) = some (.slice (some dy) 256 by_) ∧ (convert 34 9 (.slice (some bd) 256 bc)).run Try.prog V = .ok (.string (str Z)) V ∧ (convert 34 9 (.slice (some dy) 256 by_)).run Try.prog V = .ok (.string (str Y)) V) (first | exact ⟨hyc4, hs1, hs2⟩ | fail) (first | fail)
                  clear hs1 hs2 hyc4 hcx
                  obtain ⟨hc0, hf0⟩ := HCF.out
                  go_wp2
                  refine ⟨⟨k + 1, mw, _, by omega, by go_num, by first | rfl | rw [HMN.out], hmq, HSET.out, HSTEP.out, HQ5.out, HB5.out, HZ5.out⟩, by simp [intOf]; omega⟩
          · have hif' : ¬ (k : Int) < (nf : Int) := by omega
            have HKO := Lib.hid (show kOf F k = 256 by simp only [kOf, List.getElem?_eq_none (show F.length ≤ k by rw [HL3.out]; omega)])
            go_upto_if 92 with (fail)
            go_cut [13] from 61 to 142 (fun v wx => wr = wx ∧ v = .int .i64 (kOf F k : Int))
            case first =>
              go_wp2
              go_meet
              case rel => exact ⟨rfl, by rw [HKO.out]; rfl⟩
            case rest =>
              obtain ⟨rfl, rfl⟩ := hcut
              generalize kOf F k = K at *
              have hK := HKL.out
              have e1 : (K : Int) ≤ (by_ : Int) := by omega
              have e2 : (K : Int) ≤ 256 := by omega
              have L1 := Lib.hid (show (Y.take K).length = K from by rw [List.length_take, HYL.out]; omega)
              have L2 := Lib.hid (show (x.drop K).length = 256 - K from by rw [List.length_drop, HXL.out])
              have L3 := Lib.hid (show (Y.take K ++ x.drop K).length = 256 from by rw [List.length_append, L1.out, L2.out]; omega)
              have R1 := Lib.hid (HY3.out.take K)
              have R2 : Hid (RB wr (if bx = K then some dx else some (dx.add K)) (x.drop K)) := Lib.hid (by
                split
                · rw [List.drop_of_length_le (by rw [HXL.out]; omega)]
                  exact RB.nil
                · exact HX3.out.drop K)
              have HTC := Lib.hid (show ∀ V, Below wr.heap.size wr V → V.cell? (yd.add k) = some (.slice (some dy) 256 by_) ∧ V.cell? ⟨g, k, none⟩ = some (.slice (some dx) 256 bx) from fun V h => ⟨(h.cell (lt_of_cell hyc)).trans hyc, (h.cell (lt_of_cell hxc)).trans hxc⟩)
              have HSTEP := Lib.hid HST.out
              obtain ⟨Z, hZ⟩ : ∃ Z, Z = Y.take K ++ x.drop K := ⟨_, rfl⟩
              rw [← hZ] at HSTEP L3
              have HZ := Lib.hid hZ
              clear HST hZ
              generalize Y.take K = Y1 at *
              generalize x.drop K = X1 at *
              go_upto_region 20 with (fail)
              have S0 := HTC.out _ (Below.refl _ wr).drew
              have DA : Hid (Below wr.heap.size wr (wr.alloc (.cells #[] 5)).drew) := Lib.hid ((Below.refl _ wr).alloc (Nat.le_refl _) (.cells #[] 5)).drew
              have SA := HTC.out _ DA.out
              have OA : Hid (OB wr.heap.size (wr.alloc (.cells #[] 5)).drew (.slice (some ⟨wr.heap.size, 0, none⟩) 0 0) []) := Lib.hid (OB.lit wr wr.heap.size [] #[] (by simp [cellsB]) (Nat.le_refl _) (by simp [maxLen]))
              have GA : Hid (wr.heap.size ≤ (wr.alloc (.cells #[] 5)).drew.heap.size) := Lib.hid DA.out.size
              clear hyc hxc
              go_region_held3 (fun V => V.cell? (yd.add k) = some (.slice (some dy) 256 by_) ∧ V.cell? ⟨g, k, none⟩ = some (.slice (some dx) 256 bx)) (first | exact S0 | exact SA | exact S1 | exact S2 | fail)
                (first
                  | (refine step_append_B rfl (.tmp 113) (.tmp 119) rfl wr.heap.size _ [] rfl OA.out (some dy) K by_ Y1 rfl L1.out (R1.out.below DA.out) (by simp; omega) GA.out ?_; intro v1 w3 o1 b1 _; have D1 := Lib.hid (DA.out.trans b1); have O2 : Hid (OB wr.heap.size w3 v1 Y1) := Lib.hid o1; have S1 := HTC.out _ D1.out; clear o1 b1)
                  | (refine step_append_B rfl (.tmp 120) (.tmp 126) rfl wr.heap.size v1 Y1 rfl O2.out (if bx = K then some dx else some (dx.add K)) (256 - K) (bx - K) X1 rfl L2.out (R2.out.below D1.out) (by rw [L1.out]; omega) D1.out.size ?_; intro v2 w4 o3' b2 _; have o3 := o3'; rw [← HZ.out] at o3; obtain ⟨bd, bc, rfl, hbc1, hbc2, r3, l3, g3⟩ := o3.row (by rw [L3.out]; omega); rw [L3.out]; have D2 := Lib.hid (D1.out.trans b2); have S2 := HTC.out _ D2.out; have RZ := Lib.hid r3; clear o3 o3' b2 r3)
                  | fail)
              clear S0 SA S1 OA GA DA HTC L1 L2 R1 R2 D1 O2
              have hs1 := run_str w4.drew (some bd) 256 bc Z L3.out RZ.out.drew
              have hs2 := run_str w4.drew (some dy) 256 by_ Y HYL.out (HY3.out.below D2.out.drew)
              have hyc4 : w4.drew.cell? (yd.add k) = some (.slice (some dy) 256 by_) := S2.1
              have hcx := S2.2
              have hse := str_eq Z Y
              have D5 := Lib.hid D2.out.drew
              have O5 := Lib.hid (HO.out.below D5.out)
              have RZ5 := Lib.hid RZ.out.drew
              have hE : KB.E w4.drew [.slice (some bd) 256 bc] Z := by
                have := KB.mk (w := w4.drew) (A := some bd) (c := bc) (l := Z) (by rw [L3.out]; rw [L3.out] at hbc1; exact hbc1) hbc2 RZ5.out
                rwa [L3.out] at this
              obtain ⟨⟨u0, hc0⟩, hf0, hset⟩ := OG.set1 (K := KB) rfl O5.out (j := k) (by rw [HXS.out, ← HNE.out]; omega) hE (fun b hb => by have e := KB.foot_at hb; omega)
              have HSET := Lib.hid hset
              have HCF := Lib.hid (And.intro hc0 hf0)
              have HQ5 := Lib.hid (show ∀ b, w1.heap.size ≤ b → b < w2.heap.size → (w4.drew.setCell ⟨g, k, none⟩ (.slice (some bd) 256 bc)).heap[b]? = w2.heap[b]? from fun b h1 h2 => (setCell_else w4.drew g k _ b (by omega)).trans ((D5.out.block b (by have := HSZ.out; omega)).trans (HEQ.out b h1 h2)))
              have HB5 := Lib.hid (show Below w.heap.size w (w4.drew.setCell ⟨g, k, none⟩ (.slice (some bd) 256 bc)) from (HB.out.trans (D5.out.mono HB.out.size)).setCell (by obtain ⟨css, o1, _⟩ := HO.out; exact (World.ownsRow.lt o1 g rfl).1) _)
              have HZ5 := Lib.hid (show w2.heap.size ≤ (w4.drew.setCell ⟨g, k, none⟩ (.slice (some bd) 256 bc)).heap.size from by rw [World.size_setCell]; exact Nat.le_trans HSZ.out D5.out.size)
              clear hset hc0 hf0 hE S2
              go_upto_region 21 with (fail)
              by_cases hq : Z = Y
              · rw [decide_eq_true hq] at hse
                rw [if_pos hq] at HSTEP
                clear hq
                go_region_held3 (fun V => V.cell? (yd.add k) = some (.slice (some dy) 256 by_) ∧ (convert 34 9 (.slice (some bd) 256 bc)).run Try.prog V = .ok (.string (str Z)) V ∧ (convert 34 9 (.slice (some dy) 256 by_)).run Try.prog V = .ok (.string (str Y)) V) (first | exact ⟨hyc4, hs1, hs2⟩ | fail) (first | fail)
                clear hs1 hs2 hyc4 hcx
                obtain ⟨hc0, hf0⟩ := HCF.out
                go_wp2
                refine ⟨⟨k + 1, wh, _, by omega, by go_num, rfl, hwh, HSET.out, HSTEP.out, HQ5.out, HB5.out, HZ5.out⟩, by simp [intOf]; omega⟩
              · rw [decide_eq_false hq] at hse
                rw [if_neg hq] at HSTEP
                obtain ⟨mw, hmw⟩ : ∃ mw, mw = min wh k := ⟨_, rfl⟩
                have hmin : (if k < wh then (k : Int) else (wh : Int)) = (mw : Int) := by split <;> omega
                have HMN := Lib.hid hmin
                rw [← hmw] at HSTEP
                have hmq : mw ≤ q := by omega
                clear hq hmw
                go_region_held3 (fun V => V.cell? (yd.add k) = some (.slice (some dy) 256 by_) ∧ (convert 34 9 (.slice (some bd) 256 bc)).run Try.prog V = .ok (.string (str Z)) V ∧ (convert 34 9 (.slice (some dy) 256 by_)).run Try.prog V = .ok (.string (str Y)) V) (first | exact ⟨hyc4, hs1, hs2⟩ | fail) (first | fail)
                clear hs1 hs2 hyc4 hcx
                obtain ⟨hc0, hf0⟩ := HCF.out
                go_wp2
                refine ⟨⟨k + 1, mw, _, by omega, by go_num, by first | rfl | rw [HMN.out], hmq, HSET.out, HSTEP.out, HQ5.out, HB5.out, HZ5.out⟩, by simp [intOf]; omega⟩
        · obtain rfl : k = q := by omega
          have hT' := hT
          rw [HQ.out] at hT'
          obtain ⟨_, hsc1, hsc2⟩ := hT'.done H238.out.1 H238.out.2 (by have := HPQ.out; omega) (by rw [← HP.out, ← HQ.out]; have := HNN.out; exact ⟨by omega, fun h => by have := HJ.out h; omega⟩)
          have hxl : xs.length = N := by rw [hT.1, ← HNE.out]
          obtain ⟨A0, c0, e0, _, _, hrg0, _⟩ := hO.rg
          injection e0 with e0 e01 e02
          subst e0
          obtain ⟨fl, hfl⟩ : ∃ fl, fl = ((grp M).take wh).flatten := ⟨_, rfl⟩
          rw [← hfl] at hsc1 hsc2
          have hpre : ∃ S, M = fl ++ S := ⟨((grp M).drop wh).flatten, by rw [hfl, ← List.flatten_append, List.take_append_drop, grp_flat]⟩
          have hfll : fl.length ≤ 30 := by
            obtain ⟨S, hS⟩ := hpre
            have := congrArg List.length hS
            rw [HL'.out, List.length_append] at this
            omega
          have KS1 := Lib.hid (scan_any Ax N cx xs 8 wr hxl (by omega) hrg0.rbs)
          have KS2 := Lib.hid (fun W (h : Below wr.heap.size wr W) => scan_any A2 wh k ((wsSecs 8 0 (grp M)).take wh) 8 W (by rw [List.length_take, wsSecs_len, ← HQ.out]; omega) (by omega) ((((YB.out.keep (w' := wr) heq).1.below h).take wh).rbs))
          unfold ScanPost at KS1 KS2
          rw [hsc1] at KS1
          rw [hsc2] at KS2
          dsimp only at KS1 KS2
          have KSS := Lib.hid (fun (B1 B2 : Option Addr) (d1 d2 n1 n2 : Nat) W (h1 : fl.length = n1) (h2 : fl.length = n2) (h3 : RS W B1 fl) (h4 : RS W B2 fl) => wsSame_self B1 B2 n1 d1 n2 d2 fl W h1 h2 (by omega) h3 h4)
          have KBG := Lib.hid (fun (B1 : Option Addr) (d1 n1 : Nat) W (h1 : fl.length = n1) (h3 : RS W B1 fl) (h4 : RS W A' M) => begins_any B1 A' n1 d1 n' c' fl M W h1 HL'.out (by omega) HC'.out.1 (by omega) HC'.out.2 h3 h4 hpre)
          have HB := Lib.hid hB
          have hww : ((wh : Int) == (wh : Int)) = true := by simp
          have hkk : ¬ (k : Int) < (k : Int) := by omega
          clear hT' hT hO heq hrg0 e01 e02 hsc1 hsc2 hpre hfl hB hxl HNB
          go_wp2_with (first
            | (go_at_call 17; (with_reducible refine Calls.mono KS1.out ?_); rintro x w3 ⟨v3, rfl, o3, b3⟩; obtain ⟨A4, c4, rfl, _, r4, _⟩ := o3.form; (have R4 := Lib.hid r4); (have C3 := Lib.hid b3); clear o3 b3 r4)
            | (go_at_call 17; (with_reducible refine Calls.mono (KS2.out _ C3.out) ?_); rintro x w4 ⟨v4, rfl, o4, b4⟩; obtain ⟨A5, c5, rfl, _, r5, _⟩ := o4.form; (have R5 := Lib.hid r5); (have R45 := Lib.hid (R4.out.below b4)); (have C4 := Lib.hid (C3.out.trans (b4.mono C3.out.size))); clear o4 b4 r5)
            | (go_at_call 16; (with_reducible refine Calls.mono (KSS.out _ _ _ _ _ _ _ rfl rfl R45.out R5.out) ?_); rintro x w5 ⟨rfl, b5⟩; (have R46 := Lib.hid (R45.out.below b5)); (have C5 := Lib.hid (C4.out.trans (b5.mono C4.out.size))); clear b5)
            | (go_at_call 19; (with_reducible refine Calls.mono (KBG.out _ _ _ _ rfl R46.out (HR'.out.below (HB.out.trans (C5.out.mono HB.out.size)))) ?_); rintro x w7 ⟨rfl, b7⟩; (have C7 := Lib.hid (C5.out.trans (b7.mono C5.out.size))); clear b7)
            | (go_at_call 8; refine (wsAwake_any _).mono ?_; rintro x w6 ⟨rfl, b6⟩; (have B6 := Lib.hid (HB.out.trans ((C7.out.trans (b6.mono C7.out.size)).mono HB.out.size))); clear b6))
          go_ret
          exact ⟨rfl, B6.out⟩
end Go.Proofs.Ytkfpjbefjflhfaa
