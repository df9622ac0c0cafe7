/- awake of layer 13. -/
import Derived.Test.YtjmmaghjbaigiaaVbF
import Derived.Test.YtjmmaghjbaigiaaVbC
import Derived.Test.YtjmmaghjbaigiaaVbS
namespace Go.Proofs.Ytjmmaghjbaigiaa
open Go.RowKit
set_option linter.unusedVariables false
set_option linter.unusedSimpArgs false
def bX : Vn := ⟨1, 5, false, ⟨#[97]⟩⟩
def bY : Vn := ⟨2, 8, true, ⟨#[]⟩⟩
def bZ : Vn := ⟨3, 0, false, ⟨#[99]⟩⟩
def bL : List Vn := [bX, bY, bZ]
theorem b_ord : vsO bL := by decide
theorem b_r1 : vbRd bL 9 7 = (⟨#[97]⟩, true) := by rw [vbRd_ord b_ord]; decide
theorem b_r2 : vbRd bL 9 9 = (⟨#[]⟩, false) := by rw [vbRd_ord b_ord]; decide
theorem b_r3 : vbRd bL 3 7 = (⟨#[99]⟩, true) := by rw [vbRd_ord b_ord]; decide
theorem b_r4 : vbRd bL 9 5 = (⟨#[97]⟩, true) := by rw [vbRd_ord b_ord]; decide
theorem b_w : vbWhich bL 9 4 = -1 := by
  have h1 : ∀ v ∈ bL, vbWaits 9 v = false := by decide
  have h2 : ∀ v ∈ bL, vsOld 4 v = false := by decide
  exact vbWhich_none (fun j v _ hv => h1 v (List.mem_of_getElem? hv)) (.inl ⟨rfl, fun j u _ _ hu => h2 u (List.mem_of_getElem? hu)⟩)
theorem b_n1 : vbNewer bL 1 7 = true := by decide
theorem b_n2 : vbNewer bL 2 7 = false := by decide
theorem b_room : vbRoom bL 9 = true := by decide
theorem b_s1 : vbSettled bL 7 = true := by decide
theorem b_s2 : vbSettled bL 8 = false := by decide
theorem b_scan : vbScanS [([107], bL)] 9 5 = [(⟨#[107]⟩, ⟨#[97]⟩)] := by
  unfold vbScanS
  rw [List.flatMap_cons, List.flatMap_nil, List.append_nil]
  unfold vbOne
  simp only [b_r4, if_true]
  rfl
/-- What awake made: the stack in its box. -/
structure AwS (w W : World) : Prop where
  b : Below w.heap.size w W
  s : StBox W (w.heap.size + 1) ⟨#[107]⟩ (some ⟨w.heap.size, 0, none⟩) 3 3
  r : RG KV W (some ⟨w.heap.size, 0, none⟩) bL
theorem AwS.on {w W W' : World} (h : AwS w W) (hb : Below W.heap.size W W') : AwS w W' := ⟨h.b.trans (hb.mono h.b.size), h.s.on hb, h.r.below hb⟩
theorem AwS.new (w : World) : AwS w ((w.alloc (.cells #[.int .i64 1, .int .i64 5, .bool false, .string ⟨#[97]⟩, .int .i64 2, .int .i64 8, .bool true, .string ⟨#[]⟩, .int .i64 3, .int .i64 0, .bool false, .string ⟨#[99]⟩] 66)).alloc (.cells #[.string ⟨#[107]⟩, .slice (some ⟨w.heap.size, 0, none⟩) 3 3] 24)) := by
  have h2 := StBox.new (w.alloc (.cells #[.int .i64 1, .int .i64 5, .bool false, .string ⟨#[97]⟩, .int .i64 2, .int .i64 8, .bool true, .string ⟨#[]⟩, .int .i64 3, .int .i64 0, .bool false, .string ⟨#[99]⟩] 66)) ⟨#[107]⟩ (some ⟨w.heap.size, 0, none⟩) 3 3 24
  rw [heap_size_alloc] at h2
  refine ⟨below2 w _ _, h2, RG.alloc (RG.lit (K := KV) (l := bL) [bX.cs, bY.cs, bZ.cs] rfl rfl fun j x hj => ?_) _⟩
  match j, hj with
  | 0, hj => simp [bL] at hj; subst hj; exact ⟨bX.cs, rfl, rfl⟩
  | 1, hj => simp [bL] at hj; subst hj; exact ⟨bY.cs, rfl, rfl⟩
  | 2, hj => simp [bL] at hj; subst hj; exact ⟨bZ.cs, rfl, rfl⟩
  | j + 3, hj => simp [bL] at hj
theorem rgSt_one {W : World} {B : Option Addr} {c : Nat} {L : List Vn} {n : Nat} (key : List UInt8) (t : TypeId) (hn : L.length = n) (hc : n ≤ c) (hm : c ≤ maxLen) (h : RG KV W B L) : RG KSt (W.alloc (.cells #[.string (str key), .slice B n c] t)) (some ⟨W.heap.size, 0, none⟩) [(key, L)] := by
  subst hn
  intro j x hj
  cases j with
  | zero =>
    simp at hj
    subst hj
    refine ⟨_, [.string (str key), .slice B L.length c], rfl, fun i u hu => ?_, ?_⟩
    · rw [Nat.zero_mul, Addr.add_nought]
      match i, hu with
      | 0, hu => simp at hu; subst hu; simp [Addr.add]
      | 1, hu => simp at hu; subst hu; simp [Addr.add]
      | i + 2, hu => simp at hu
    · exact ⟨[.string (str key)], [.slice B L.length c], rfl, rfl, B, c, rfl, hc, hm, h.alloc _⟩
  | succ j => simp at hj
set_option maxHeartbeats 200000 in
theorem aw_k1 (w W : World) (M : AwS w W) : Calls Try.prog 29 #[.agg #[.string ⟨#[107]⟩, .slice (some ⟨w.heap.size, 0, none⟩) 3 3], .int .i64 9, .int .i64 7] W fun e w' => e = .returned (.tuple #[.string ⟨#[97]⟩, .bool true]) ∧ Below W.heap.size W w' := by
  have h := vbRead_any ⟨#[107]⟩ (some ⟨w.heap.size, 0, none⟩) 3 3 bL 9 7 W rfl (by omega) M.r
  rw [b_r1] at h; exact h
theorem aw_k2 (w W : World) (M : AwS w W) : Calls Try.prog 29 #[.agg #[.string ⟨#[107]⟩, .slice (some ⟨w.heap.size, 0, none⟩) 3 3], .int .i64 9, .int .i64 9] W fun e w' => e = .returned (.tuple #[.string ⟨#[]⟩, .bool false]) ∧ Below W.heap.size W w' := by
  have h := vbRead_any ⟨#[107]⟩ (some ⟨w.heap.size, 0, none⟩) 3 3 bL 9 9 W rfl (by omega) M.r
  rw [b_r2] at h; exact h
theorem aw_k3 (w W : World) (M : AwS w W) : Calls Try.prog 29 #[.agg #[.string ⟨#[107]⟩, .slice (some ⟨w.heap.size, 0, none⟩) 3 3], .int .i64 3, .int .i64 7] W fun e w' => e = .returned (.tuple #[.string ⟨#[99]⟩, .bool true]) ∧ Below W.heap.size W w' := by
  have h := vbRead_any ⟨#[107]⟩ (some ⟨w.heap.size, 0, none⟩) 3 3 bL 3 7 W rfl (by omega) M.r
  rw [b_r3] at h; exact h
theorem aw_k4 (w W : World) (M : AwS w W) : Calls Try.prog 25 #[.slice (some ⟨W.heap.size, 0, none⟩) 1 1, .int .i64 9, .int .i64 5] (W.alloc (.cells #[.string ⟨#[107]⟩, .slice (some ⟨w.heap.size, 0, none⟩) 3 3] 24)) fun e w' => ∃ A c, e = .returned (.slice A 1 c) ∧ RG KPr w' A [(⟨#[107]⟩, ⟨#[97]⟩)] ∧ Below W.heap.size W w' := by
  have h := vbScan_any (some ⟨W.heap.size, 0, none⟩) 1 1 [([107], bL)] 9 5 (W.alloc (.cells #[.string ⟨#[107]⟩, .slice (some ⟨w.heap.size, 0, none⟩) 3 3] 24)) rfl (by omega) (by simp [bL]) (rgSt_one [107] _ rfl (by omega) (by decide) M.r)
  rw [b_scan] at h
  refine h.mono ?_
  rintro e w' ⟨v', rfl, o, b⟩
  obtain ⟨A, c, rfl, _, _, r, _⟩ := o.rg
  exact ⟨A, c, rfl, r, (below1 W _).trans (b.mono (by rw [heap_size_alloc]; omega))⟩
theorem aw_k5 (w W : World) (M : AwS w W) : Calls Try.prog 61 #[.agg #[.string ⟨#[107]⟩, .slice (some ⟨w.heap.size, 0, none⟩) 3 3], .int .i64 9, .int .i64 4] W fun e w' => e = .returned (.int .i64 (-1)) ∧ Below W.heap.size W w' := by
  have h := vbWhich_any ⟨#[107]⟩ (some ⟨w.heap.size, 0, none⟩) 3 3 bL 9 4 W rfl (by omega) M.r
  rw [b_w] at h; exact h
theorem aw_k6 (w W : World) (M : AwS w W) : Calls Try.prog 30 #[.agg #[.string ⟨#[107]⟩, .slice (some ⟨w.heap.size, 0, none⟩) 3 3], .int .i64 1, .int .i64 7] W fun e w' => e = .returned (.bool true) ∧ Below W.heap.size W w' := by
  have h := vbNewer_any ⟨#[107]⟩ (some ⟨w.heap.size, 0, none⟩) 3 3 bL 1 7 W rfl (by omega) M.r
  rw [b_n1] at h; exact h
theorem aw_k7 (w W : World) (M : AwS w W) : Calls Try.prog 30 #[.agg #[.string ⟨#[107]⟩, .slice (some ⟨w.heap.size, 0, none⟩) 3 3], .int .i64 2, .int .i64 7] W fun e w' => e = .returned (.bool false) ∧ Below W.heap.size W w' := by
  have h := vbNewer_any ⟨#[107]⟩ (some ⟨w.heap.size, 0, none⟩) 3 3 bL 2 7 W rfl (by omega) M.r
  rw [b_n2] at h; exact h
theorem aw_k8 (w W : World) (M : AwS w W) : Calls Try.prog 32 #[.agg #[.string ⟨#[107]⟩, .slice (some ⟨w.heap.size, 0, none⟩) 3 3], .int .i64 9] W fun e w' => e = .returned (.bool true) ∧ Below W.heap.size W w' := by
  have h := vbRoom_any ⟨#[107]⟩ (some ⟨w.heap.size, 0, none⟩) 3 3 bL 9 W rfl (by omega) M.r
  rw [b_room] at h; exact h
theorem aw_k9 (w W : World) (M : AwS w W) : Calls Try.prog 31 #[.agg #[.string ⟨#[107]⟩, .slice (some ⟨w.heap.size, 0, none⟩) 3 3], .int .i64 7] W fun e w' => e = .returned (.bool true) ∧ Below W.heap.size W w' := by
  have h := vbSettled_any ⟨#[107]⟩ (some ⟨w.heap.size, 0, none⟩) 3 3 bL 7 W rfl (by omega) M.r
  rw [b_s1] at h; exact h
theorem aw_k10 (w W : World) (M : AwS w W) : Calls Try.prog 31 #[.agg #[.string ⟨#[107]⟩, .slice (some ⟨w.heap.size, 0, none⟩) 3 3], .int .i64 8] W fun e w' => e = .returned (.bool false) ∧ Below W.heap.size W w' := by
  have h := vbSettled_any ⟨#[107]⟩ (some ⟨w.heap.size, 0, none⟩) 3 3 bL 8 W rfl (by omega) M.r
  rw [b_s2] at h; exact h
set_option maxHeartbeats 4000000 in
set_option maxRecDepth 100000 in
theorem vbAwake_any (w : World) : Calls Try.prog 23 #[] w fun e w' => e = .returned (.bool true) ∧ Below w.heap.size w w' := by
  have M := Lib.hid (AwS.new w)
  have k1 := Lib.hid (aw_k1 w); have k2 := Lib.hid (aw_k2 w); have k3 := Lib.hid (aw_k3 w); have k4 := Lib.hid (aw_k4 w); have k5 := Lib.hid (aw_k5 w)
  have k6 := Lib.hid (aw_k6 w); have k7 := Lib.hid (aw_k7 w); have k8 := Lib.hid (aw_k8 w); have k9 := Lib.hid (aw_k9 w); have k10 := Lib.hid (aw_k10 w)
  go_enter Try.func23, Try.ntmps23
  go_upto_region 2 with fail
  generalize (w.alloc (.cells #[.int .i64 1, .int .i64 5, .bool false, .string ⟨#[97]⟩, .int .i64 2, .int .i64 8, .bool true, .string ⟨#[]⟩, .int .i64 3, .int .i64 0, .bool false, .string ⟨#[99]⟩] 66)).alloc (.cells #[.string ⟨#[107]⟩, .slice (some ⟨w.heap.size, 0, none⟩) 3 3] 24) = W0 at *
  have s0 := M.out.s.c0; have s1 := M.out.s.c1
  go_wp2_with (first
    | (go_at_call 29; (with_reducible refine Calls.mono (k1.out _ M.out) ?_); rintro e w1 ⟨rfl, b1⟩; have M := Lib.hid (M.out.on b1); have s0 := M.out.s.c0; have s1 := M.out.s.c1; clear b1)
    | (go_at_call 29; (with_reducible refine Calls.mono (k2.out _ M.out) ?_); rintro e w1 ⟨rfl, b1⟩; have M := Lib.hid (M.out.on b1); have s0 := M.out.s.c0; have s1 := M.out.s.c1; clear b1)
    | (go_at_call 29; (with_reducible refine Calls.mono (k3.out _ M.out) ?_); rintro e w1 ⟨rfl, b1⟩; have M := Lib.hid (M.out.on b1); have s0 := M.out.s.c0; have s1 := M.out.s.c1; clear b1)
    | (go_at_call 25; (with_reducible refine Calls.mono (k4.out _ M.out) ?_); rintro e w1 ⟨A, c, rfl, r1, b1⟩; have M := Lib.hid (M.out.on b1); have P := Lib.hid r1; have s0 := M.out.s.c0; have s1 := M.out.s.c1; clear b1 r1)
    | (go_at_call 61; (with_reducible refine Calls.mono (k5.out _ M.out) ?_); rintro e w1 ⟨rfl, b1⟩; have M := Lib.hid (M.out.on b1); have P := Lib.hid (P.out.below b1); have s0 := M.out.s.c0; have s1 := M.out.s.c1; clear b1)
    | (go_at_call 30; (with_reducible refine Calls.mono (k6.out _ M.out) ?_); rintro e w1 ⟨rfl, b1⟩; have M := Lib.hid (M.out.on b1); have P := Lib.hid (P.out.below b1); have s0 := M.out.s.c0; have s1 := M.out.s.c1; clear b1)
    | (go_at_call 30; (with_reducible refine Calls.mono (k7.out _ M.out) ?_); rintro e w1 ⟨rfl, b1⟩; have M := Lib.hid (M.out.on b1); have P := Lib.hid (P.out.below b1); have s0 := M.out.s.c0; have s1 := M.out.s.c1; clear b1)
    | (go_at_call 32; (with_reducible refine Calls.mono (k8.out _ M.out) ?_); rintro e w1 ⟨rfl, b1⟩; have M := Lib.hid (M.out.on b1); have P := Lib.hid (P.out.below b1); have s0 := M.out.s.c0; have s1 := M.out.s.c1; clear b1)
    | (go_at_call 31; (with_reducible refine Calls.mono (k9.out _ M.out) ?_); rintro e w1 ⟨rfl, b1⟩; have M := Lib.hid (M.out.on b1); have P := Lib.hid (P.out.below b1); have s0 := M.out.s.c0; have s1 := M.out.s.c1; clear b1)
    | (go_at_call 31; (with_reducible refine Calls.mono (k10.out _ M.out) ?_); rintro e w1 ⟨rfl, b1⟩; have M := Lib.hid (M.out.on b1); have P := Lib.hid (P.out.below b1); obtain ⟨ad, rfl, p0, p1⟩ := P.out.pr (k := 0) (v := (⟨#[107]⟩, ⟨#[97]⟩)) rfl; simp only [Nat.zero_mul, Addr.add_nought] at p0; have s0 := M.out.s.c0; have s1 := M.out.s.c1; clear b1)
    | fail)
  go_ret
  exact ⟨rfl, M.out.b⟩
end Go.Proofs.Ytjmmaghjbaigiaa
