/- Records in sectors: texts are packed. -/
import Derived.Test.YtochifbbefbehaaWsH
import Derived.Test.YtochifbbefbehaaGnB
namespace Go.Proofs.Ytochifbbefbehaa
open Go.RowKit
set_option linter.unusedVariables false
set_option linter.unusedSimpArgs false
open Classical in
/-- What Pack tells: its error, and the sectors. -/
noncomputable def packE (e f : Int) (L : List (List UInt8)) : Int := if (1 ≤ e ∧ e ≤ 1099511627776) ∧ 0 ≤ f ∧ f ≤ 256 - ((grp L).length : Int) then (if tooBigP L = true then 5 else 0) else 9
open Classical in
noncomputable def packR (e f : Int) (L : List (List UInt8)) : List (List UInt8) := if packE e f L = 0 then wsSecs e.toNat f.toNat (grp L) else []
def PackPost (w : World) (e f : Int) (L : List (List UInt8)) (x : Ending) (w' : World) : Prop := ∃ v, x = .returned (.tuple #[v, .int .i64 (packE e f L)]) ∧ OG KB 32 w.heap.size w' v (packR e f L) ∧ Below w.heap.size w w'
theorem PackPost.no {w w' : World} {e f : Int} {L : List (List UInt8)} {z : Int} (h : packE e f L = z) (hz : z ≠ 0) (hb : Below w.heap.size w w') : PackPost w e f L (.returned (.tuple #[.slice none 0 0, .int .i64 z])) w' := ⟨_, by rw [h], by rw [packR, if_neg (by rw [h]; exact hz)]; exact OG.nil, hb⟩
/-- What the program's Pack tells: sectors in a row without further room. -/
def PackFull (w : World) (e f : Int) (L : List (List UInt8)) (x : Ending) (w' : World) : Prop := ∃ A, x = .returned (.tuple #[.slice A (packR e f L).length (packR e f L).length, .int .i64 (packE e f L)]) ∧ OG KB 32 w.heap.size w' (.slice A (packR e f L).length (packR e f L).length) (packR e f L) ∧ NewR KB w.heap.size w' A (packR e f L) ∧ Below w.heap.size w w'
theorem PackFull.post {w w' : World} {e f : Int} {L : List (List UInt8)} {x : Ending} (h : PackFull w e f L x w') : PackPost w e f L x w' := by
  obtain ⟨A, h1, h2, _, h3⟩ := h
  exact ⟨_, h1, h2, h3⟩
theorem PackFull.no {w w' : World} {e f : Int} {L : List (List UInt8)} {z : Int} (h : packE e f L = z) (hz : z ≠ 0) (hb : Below w.heap.size w w') : PackFull w e f L (.returned (.tuple #[.slice none 0 0, .int .i64 z])) w' := by
  have hr : packR e f L = [] := by rw [packR, if_neg (by rw [h]; exact hz)]
  exact ⟨none, by rw [h, hr]; rfl, by rw [hr]; exact OG.nil, by rw [hr]; exact NewR.nil, hb⟩
theorem packE_range {e f : Int} {L : List (List UInt8)} (h : ¬ ((1 ≤ e ∧ e ≤ 1099511627776) ∧ 0 ≤ f ∧ f ≤ 256 - ((grp L).length : Int))) : packE e f L = 9 := by rw [packE, if_neg h]
theorem packE_big {e f : Int} {L : List (List UInt8)} (h : (1 ≤ e ∧ e ≤ 1099511627776) ∧ 0 ≤ f ∧ f ≤ 256 - ((grp L).length : Int)) (hb : tooBigP L = true) : packE e f L = 5 := by rw [packE, if_pos h, if_pos hb]
theorem packE_ok {e f : Int} {L : List (List UInt8)} (h : (1 ≤ e ∧ e ≤ 1099511627776) ∧ 0 ≤ f ∧ f ≤ 256 - ((grp L).length : Int)) (hb : tooBigP L = false) : packE e f L = 0 := by rw [packE, if_pos h, if_neg (by rw [hb]; decide)]
theorem notBig {L : List (List UInt8)} (h : tooBigP L = false) : ∀ t ∈ L, t.length ≤ 238 := fun t ht => by
  have := List.any_eq_false.1 h t ht
  simp at this
  exact this
/-- The first k of S are stored. -/
def stored (S : List (List UInt8)) (k : Nat) : List (List UInt8) := S.take k ++ List.replicate (S.length - k) []
theorem stored_next {S : List (List UInt8)} {k : Nat} {x : List UInt8} (h : S[k]? = some x) : (stored S k).set k x = stored S (k + 1) := by
  have hk := (List.getElem?_eq_some_iff.1 h).1
  unfold stored
  rw [take_snocG h, show S.length - k = (S.length - (k + 1)) + 1 by omega, List.replicate_succ, set_mid _ _ _ _ (by simp; omega)]
  simp
/-- While sectors are packed: k are, the texts M are still to come. -/
def PackAt (e f : Nat) (L : List (List UInt8)) (w0 w : World) (v : Value) (g N k : Nat) : Prop := ∃ (A : Option Addr) (n c : Nat) (M : List (List UInt8)), v = .slice A n c ∧ M.length = n ∧ n ≤ c ∧ c ≤ maxLen ∧ n ≤ 1000 ∧ (∀ t ∈ M, t.length ≤ 238) ∧ RS w0 A M ∧ k + (grp M).length = N ∧
  (∀ j, (grp L)[k + j]? = (grp M)[j]?) ∧ OG KB 32 w0.heap.size w (.slice (some ⟨g, 0, none⟩) N N) (stored (wsSecs e f (grp L)) k) ∧ NewR KB w0.heap.size w (some ⟨g, 0, none⟩) (stored (wsSecs e f (grp L)) k) ∧ w0.heap.size ≤ g ∧ Below w0.heap.size w0 w
theorem newR_rep {w : World} {g B N : Nat} (h : B ≤ g) : NewR KB B w (some ⟨g, 0, none⟩) (List.replicate N []) := fun b ⟨j, x, ad, cs, hx, hA, _, _, hb⟩ => by
  injection hA with hA
  subst hA
  rcases hb with hb | hb
  · simp only at hb
    omega
  · rw [List.getElem?_replicate] at hx
    split at hx
    · injection hx with hx
      subst hx
      obtain ⟨A, c, _, j, x, ad, cs, hx, _⟩ := hb
      simp at hx
    · cases hx
set_option maxHeartbeats 2000000 in
set_option maxRecDepth 100000 in
theorem pack_full (A : Option Addr) (n c : Nat) (L : List (List UInt8)) (e f : Int) (w : World) (hl : L.length = n) (hn : n ≤ 1000) (hc : n ≤ c) (hm : c ≤ maxLen) (hs : ∀ t ∈ L, t.length ≤ 1000) (hr : RS w A L) :
    Calls Try.prog 26 #[.int .i64 e, .int .i64 f, .slice A n c] w (PackFull w e f L) := by
  have KP := Lib.hid (parts_any A n c L w hl hn hc hm hs hr)
  have KE := Lib.hid (isEpoch_any e w)
  have hg := grp_len L
  by_cases hep : 1 ≤ e ∧ e ≤ 1099511627776
  case neg =>
    rw [decide_eq_false hep] at KE
    have HP := Lib.hid (PackFull.no (w := w) (packE_range (f := f) (L := L) (fun h => hep h.1)) (by omega) (Below.refl _ _))
    clear hep hl hs hr
    go_enter Try.func26, Try.ntmps26
    go_wp2_with (first
      | (go_at_call 32; refine KP.out.mono ?_; rintro x w1 ⟨rfl, rfl⟩)
      | (go_at_call 39; refine KE.out.mono ?_; rintro x w1 ⟨rfl, rfl⟩))
    go_ret2
    exact HP.out
  rw [decide_eq_true hep] at KE
  generalize hN : (grp L).length = N at *
  have hN1000 : N ≤ 1000 := by omega
  by_cases hf : 0 ≤ f ∧ f ≤ 256 - (N : Int)
  case neg =>
    have HP := Lib.hid (PackFull.no (w := w) (packE_range (e := e) (f := f) (L := L) (fun h => hf (by rw [← hN]; exact h.2))) (by omega) (Below.refl _ _))
    clear hep hl hs hr
    by_cases h0 : f < 0
    · clear hf
      go_enter Try.func26, Try.ntmps26
      go_wp2_with (first
        | (go_at_call 32; refine KP.out.mono ?_; rintro x w1 ⟨rfl, rfl⟩)
        | (go_at_call 39; refine KE.out.mono ?_; rintro x w1 ⟨rfl, rfl⟩))
      go_ret2
      exact HP.out
    · have h1 : 256 - (N : Int) < f := by omega
      clear hf
      go_enter Try.func26, Try.ntmps26
      go_wp2_with (first
        | (go_at_call 32; refine KP.out.mono ?_; rintro x w1 ⟨rfl, rfl⟩)
        | (go_at_call 39; refine KE.out.mono ?_; rintro x w1 ⟨rfl, rfl⟩))
      go_ret2
      exact HP.out
  have KC := Lib.hid (containsFunc_any A n c L w hl hn hs hr)
  have h0 : ¬ f < 0 := by omega
  have h1 : ¬ 256 - (N : Int) < f := by omega
  by_cases hb : tooBigP L = true
  · rw [hb] at KC
    have HP := Lib.hid (PackFull.no (w := w) (packE_big (e := e) (f := f) (L := L) ⟨hep, by rw [hN]; exact hf⟩ hb) (by omega) (Below.refl _ _))
    clear hep hl hs hr hf hb
    go_enter Try.func26, Try.ntmps26
    go_wp2_with (first
      | (go_at_call 32; refine KP.out.mono ?_; rintro x w1 ⟨rfl, rfl⟩)
      | (go_at_call 39; refine KE.out.mono ?_; rintro x w1 ⟨rfl, rfl⟩)
      | (go_at_call 40; refine KC.out.mono ?_; rintro x w1 ⟨rfl, rfl⟩))
    go_ret2
    exact HP.out
  have hb' : tooBigP L = false := by simpa using hb
  rw [hb'] at KC
  obtain ⟨en, rfl⟩ : ∃ en : Nat, e = (en : Int) := ⟨e.toNat, by omega⟩
  obtain ⟨fn, rfl⟩ : ∃ fn : Nat, f = (fn : Int) := ⟨f.toNat, by omega⟩
  have hz := packE_ok (e := (en : Int)) (f := (fn : Int)) (L := L) ⟨hep, by rw [hN]; exact hf⟩ hb'
  have hpr : packR (en : Int) (fn : Int) L = wsSecs en fn (grp L) := by rw [packR, if_pos hz]; simp
  have HZ : Hid (∀ (A : Option Addr) (W : World), OG KB 32 w.heap.size W (.slice A N N) (wsSecs en fn (grp L)) → NewR KB w.heap.size W A (wsSecs en fn (grp L)) → Below w.heap.size w W → PackFull w en fn L (.returned (.tuple #[.slice A N N, .int .i64 0])) W) := Lib.hid (fun A W g1 g3 g2 => by
    have hlen : (packR (en : Int) (fn : Int) L).length = N := by rw [hpr, wsSecs_len, hN]
    exact ⟨A, by rw [hz, hlen], by rw [hlen, hpr]; exact g1, by rw [hpr]; exact g3, g2⟩)
  have HN := Lib.hid (show en ≤ 1099511627776 ∧ fn + N ≤ 256 by omega)
  have hN256 : N ≤ 256 := by omega
  have ST0 : Hid (∀ W, OG KB 32 w.heap.size W (.slice (some ⟨w.heap.size, 0, none⟩) N N) (List.replicate N []) → Below w.heap.size w W → PackAt en fn L w W (.slice A n c) w.heap.size N 0) := Lib.hid (fun W g1 g2 => ⟨A, n, c, L, rfl, hl, hc, hm, hn, notBig hb', hr, by rw [hN]; omega, fun j => by rw [Nat.zero_add], by simpa [stored, wsSecs_len, hN] using g1, by simpa [stored, wsSecs_len, hN] using newR_rep (Nat.le_refl _), Nat.le_refl _, g2⟩)
  have HNL := Lib.hid hN
  clear hep hl hs hr hf hb hb' hz hN hg hc hm hn hpr
  go_enter Try.func26, Try.ntmps26
  go_wp2_with (first
    | (go_at_call 32; refine KP.out.mono ?_; rintro x w1 ⟨rfl, rfl⟩)
    | (go_at_call 39; refine KE.out.mono ?_; rintro x w1 ⟨rfl, rfl⟩)
    | (go_at_call 40; refine KC.out.mono ?_; rintro x w1 ⟨rfl, rfl⟩)
    | (refine wpList_make_G (K := KB) (x0 := ([] : List UInt8)) Try.underlying59 infoRow (by omega) (fun W => ⟨⟨none, 0, rfl, Nat.le_refl _, by simp [maxLen], RG.nil⟩, fun b ⟨A, c, _, j, x, ad, cs, hx, _⟩ => by simp at hx⟩) rfl (.tmp 32) (.tmp 32) rfl w.heap.size N _ _ rfl rfl rfl rfl (by omega) (Nat.le_refl _) ?_; intro w1 ho1 hb1 _))
  have ST : Hid (∃ k : Nat, k ≤ N ∧ (Value.int .i64 0) = .int .i64 (k : Int) ∧ PackAt en fn L w w1 (.slice A n c) w.heap.size N k) := Lib.hid ⟨0, Nat.zero_le _, rfl, ST0.out w1 ho1 hb1⟩
  clear ho1 hb1 ST0 KP KE KC
  go_loopw [2, 10, 11, 12, 36] (fun v _ _ _ i wr => ∃ k : Nat, k ≤ N ∧ i = .int .i64 (k : Int) ∧ PackAt en fn L w wr v w.heap.size N k) (fun _ _ _ _ i _ => N - (intOf i).toNat)
  case atStart => exact ST.out
  case round =>
    clear ST
    obtain ⟨k, hk, rfl, A', n', c', M, rfl, h1, h2, h3, h4, h5, h6, h7, h8, hO, hNR, _, hB⟩ := hrel
    by_cases hlt : k < N
    · have hM : 0 < M.length := by
        rcases Nat.eq_zero_or_pos M.length with h | h
        · rw [List.eq_nil_of_length_eq_zero h, grp_nil] at h7
          simp at h7
          omega
        · exact h
      obtain ⟨ad, rfl⟩ := h6.some_of hM
      have hp := fitsP_pos (l := M) hM
      have hle := fitsP_le M
      rw [h1] at hle
      have hgc := grp_cons (l := M) hM
      have hz := grp_size h5 (M.take (fitsP M)) (by rw [hgc]; simp)
      have hSk : (wsSecs en fn (grp L))[k]? = some (wsSec en (fn + k) (M.take (fitsP M))) := by
        rw [wsSecs_at, show (grp L)[k]? = (grp M)[0]? from by simpa using h8 0, hgc]
        rfl
      have hXl := wsSec_len en (fn + k) (M.take (fitsP M)) hz
      have KF := Lib.hid (fits_any (some ad) n' c' M wr h1 h4 (fun t ht => by have := h5 t ht; omega) (h6.below hB))
      have KL := Lib.hid (fill_any en (fn + k) (some ad) (fitsP M) c' (M.take (fitsP M)) wr HN.out.1 (by have := HN.out; omega) (by rw [List.length_take]; omega) hz ((h6.below hB).take _))
      have HS := Lib.hid hSk
      have HX := Lib.hid hXl
      have HNX : Hid (∀ W, Below w.heap.size w W → OG KB 32 w.heap.size W (.slice (some ⟨w.heap.size, 0, none⟩) N N) (stored (wsSecs en fn (grp L)) (k + 1)) → NewR KB w.heap.size W (some ⟨w.heap.size, 0, none⟩) (stored (wsSecs en fn (grp L)) (k + 1)) → ∀ A2, (A2 = some (ad.add (fitsP M)) ∨ c' = fitsP M) → PackAt en fn L w W (.slice A2 (n' - fitsP M) (c' - fitsP M)) w.heap.size N (k + 1)) := Lib.hid (fun W g1 g3 g5 A2 g4 => by
        refine ⟨A2, n' - fitsP M, c' - fitsP M, M.drop (fitsP M), rfl, by rw [List.length_drop, h1], by omega, by omega, by omega, fun t ht => h5 t (List.mem_of_mem_drop ht), ?_, by have := congrArg List.length hgc; rw [List.length_cons] at this; omega, fun j => by rw [Nat.add_assoc, h8, hgc, Nat.add_comm 1 j, List.getElem?_cons_succ], g3, g5, Nat.le_refl _, g1⟩
        rcases g4 with rfl | g4
        · exact h6.drop _
        · rw [List.drop_of_length_le (by omega)]
          exact RS.nil)
      have HO := Lib.hid hO
      have HNR := Lib.hid hNR
      have HB := Lib.hid hB
      have hBs := hB.size
      have HLT : w.heap.size < wr.heap.size := by
        obtain ⟨_, _, e, _, _, _, h⟩ := hO.rg
        injection e with e
        subst e
        exact (h _ rfl).2.2
      have hfn : fn + k ≤ 256 := by have := HN.out; omega
      have hc9 : c' ≤ 9223372036854775807 := by unfold maxLen at h3; omega
      have h9 : ((fn : Int) + (k : Int)) = ((fn + k : Nat) : Int) := by omega
      clear h1 h5 h6 h7 h8 hO hNR hB hSk hgc hz hXl hM h3
      generalize wsSec en (fn + k) (M.take (fitsP M)) = X at *
      generalize fitsP M = p at *
      have hpc : p ≤ c' := by omega
      rw [← h9] at KL
      clear h9
      have hzc := run_zeroC
      go_upto_region 12 with (first
        | (go_at_call 42; refine KF.out.mono ?_; rintro x w2 ⟨rfl, rfl⟩)
        | (go_at_call 43; refine KL.out.mono ?_; rintro x w2 ⟨rfl, hb2⟩; (have A2 := Lib.hid (arr_z256 w2)); (have HI := Lib.hid (infoC_of HX.out)))
        | (refine wpList_store_arr rfl 77 (.tmp 12) (.tmp 48) rfl w2.heap.size 77 (List.replicate 256 0) X rfl rfl A2.out (by rw [HX.out]; simp) HI.out ?_; intro w4 hw4 ho4))
      have hB4 : Below w2.heap.size w2 w4 := ((Below.refl w2.heap.size w2).alloc (Nat.le_refl _) _).trans (ho4.below (Nat.le_refl _))
      have hBW : Below wr.heap.size wr w4 := hb2.trans (hB4.mono hb2.size)
      have hR4 := hw4.out.reads
      have hE : KB.E w4 [.slice (some ⟨w2.heap.size, 0, none⟩) 256 256] X := by
        have := KB.mk (w := w4) (A := some ⟨w2.heap.size, 0, none⟩) (c := 256) (l := X) (by rw [HX.out]; exact Nat.le_refl _) (by simp [maxLen]) hR4
        rwa [HX.out] at this
      have hlt2 : w.heap.size < w2.heap.size := Nat.lt_of_lt_of_le HLT hb2.size
      obtain ⟨⟨u0, hc0⟩, hf0, hset⟩ := OG.set1 (K := KB) rfl (HO.out.below hBW) (j := k) (by unfold stored; simp [wsSecs_len, HNL.out]; omega) hE (fun b hb => by have e := KB.foot_at hb; simp at e; omega)
      have hnr := NewR.set1 (K := KB) rfl (HO.out.below hBW) (HNR.out.below (by obtain ⟨_, _, e, _, _, h, _⟩ := HO.out.rg; injection e with e; rw [e]; exact h) hBW) (Nat.le_refl _) (j := k) (by unfold stored; simp [wsSecs_len, HNL.out]; omega) hE (fun b hb => by have e := KB.foot_at hb; simp at e; omega)
      rw [stored_next HS.out] at hset hnr
      have hsl := sliceC w4 w2.heap.size
      have hBS : Below w.heap.size w (w4.setCell ⟨w.heap.size, k, none⟩ (.slice (some ⟨w2.heap.size, 0, none⟩) 256 256)) := (HB.out.trans (hBW.mono hBs)).setCell (Nat.le_refl _) _
      have HNX2 := Lib.hid (fun A2 h => HNX.out _ hBS hset hnr A2 h)
      have hc1 : (k : Int) < (N : Int) := by omega
      clear HNX hset hnr hBS hE hR4 hBW hB4 hb2 ho4 hw4
      go_wp2
      go_roundw
      case rel => exact ⟨k + 1, by omega, by go_num, HNX2.out _ (by by_cases e : c' = p <;> simp [e])⟩
      case measure => simp [intOf]; omega
    · obtain rfl : k = N := by omega
      have hO2 : OG KB 32 w.heap.size wr (.slice (some ⟨w.heap.size, 0, none⟩) k k) (wsSecs en fn (grp L)) := by
        have := hO
        unfold stored at this
        rw [List.take_of_length_le (by rw [wsSecs_len, HNL.out]; exact Nat.le_refl _), wsSecs_len, HNL.out, Nat.sub_self] at this
        simpa using this
      have hNR2 : NewR KB w.heap.size wr (some ⟨w.heap.size, 0, none⟩) (wsSecs en fn (grp L)) := by
        have := hNR
        unfold stored at this
        rw [List.take_of_length_le (by rw [wsSecs_len, HNL.out]; exact Nat.le_refl _), wsSecs_len, HNL.out, Nat.sub_self] at this
        simpa using this
      have HR := Lib.hid (HZ.out _ wr hO2 hNR2 hB)
      clear hO hNR hNR2 hO2 hB h1 h2 h3 h4 h5 h6 h7 h8
      go_wp2
      go_ret2
      exact HR.out
theorem pack_any (A : Option Addr) (n c : Nat) (L : List (List UInt8)) (e f : Int) (w : World) (hl : L.length = n) (hn : n ≤ 1000) (hc : n ≤ c) (hm : c ≤ maxLen) (hs : ∀ t ∈ L, t.length ≤ 1000) (hr : RS w A L) :
    Calls Try.prog 26 #[.int .i64 e, .int .i64 f, .slice A n c] w (PackPost w e f L) := (pack_full A n c L e f w hl hn hc hm hs hr).mono fun _ _ h => h.post
end Go.Proofs.Ytochifbbefbehaa
