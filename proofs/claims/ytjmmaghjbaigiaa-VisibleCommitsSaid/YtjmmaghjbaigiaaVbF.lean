/- What a snapshot sees: Scan, the program's and the document's; SamePairs. -/
import Derived.Test.YtjmmaghjbaigiaaVbE
import Derived.Test.YtjmmaghjbaigiaaVsO
import Derived.Deep.QuietTactic
import Derived.BigQuiet
namespace Go.Proofs.Ytjmmaghjbaigiaa
open Go.RowKit
set_option linter.unusedVariables false
set_option linter.unusedSimpArgs false
abbrev Pr := ByteArray × ByteArray
def prCs (p : Pr) : List Value := [.string p.1, .string p.2]
def KPr : CR Pr := CR.flat 2 (by omega) prCs (fun _ => rfl) (fun x u hu => by
  simp only [prCs, List.mem_cons, List.not_mem_nil, or_false] at hu
  rcases hu with rfl | rfl <;> rfl)
theorem pr_flat : KPr.Flat := fun _ _ _ _ h => h
theorem infoPr : (Try.prog.info? 98).map (fun i => (i.zero, i.size, i.bytes)) = some (some (.agg #[.string ⟨#[]⟩, .string ⟨#[]⟩]), 2, 32) := by kernel_rfl
theorem tgPr : TG KPr Try.prog 53 98 := ⟨Try.underlying53, _, 32, infoPr, by omega, rfl⟩
theorem pr_pos (p : Addr) (i : Nat) (h : i ≠ 0) : p.add i = ⟨p.block, p.off + i, none⟩ := by simp [Addr.add, h]
theorem RG.pr {w : World} {A : Option Addr} {l : List Pr} (h : RG KPr w A l) {k : Nat} {v : Pr} (hk : l[k]? = some v) : ∃ ad, A = some ad ∧ w.cell? (ad.add (k * 2)) = some (.string v.1) ∧ w.cell? ⟨(ad.add (k * 2)).block, (ad.add (k * 2)).off + 1, none⟩ = some (.string v.2) := by
  obtain ⟨ad, cs, e, h1, h2⟩ := h k v hk
  have h2 : cs = prCs v := h2
  subst h2
  have a0 := h1 0 _ rfl
  have a1 := h1 1 _ rfl
  rw [Addr.add_nought] at a0
  rw [pr_pos _ 1 (by omega)] at a1
  exact ⟨ad, e, a0, a1⟩
theorem rgPr_lit (W : World) (x : Pr) (t : TypeId) : RG KPr (W.alloc (.cells #[.string x.1, .string x.2] t)) (some ⟨W.heap.size, 0, none⟩) [x] := fun j y hj => by
  cases j with
  | zero =>
    simp at hj
    subst hj
    refine ⟨_, prCs x, rfl, fun i u hu => ?_, rfl⟩
    rw [Nat.zero_mul, Addr.add_nought]
    match i, hu with
    | 0, hu => simp [prCs] at hu; subst hu; simp [Addr.add]
    | 1, hu => simp [prCs] at hu; subst hu; simp [Addr.add]
    | i + 2, hu => simp [prCs] at hu
  | succ j => simp at hj
theorem RG.stk {w : World} {A : Option Addr} {l : List Stt} (h : RG KSt w A l) {k : Nat} {x : Stt} (hk : l[k]? = some x) :
    ∃ ad B c, A = some ad ∧ w.cell? (ad.add (k * 2)) = some (.string (str x.1)) ∧ w.cell? ⟨(ad.add (k * 2)).block, (ad.add (k * 2)).off + 1, none⟩ = some (.slice B x.2.length c) ∧ x.2.length ≤ c ∧ c ≤ maxLen ∧ RG KV w B x.2 := by
  obtain ⟨ad, cs, e, h1, h2⟩ := h k x hk
  obtain ⟨B, c, rfl, h3, h4, h5⟩ := kst_cells h2
  have a0 := h1 0 _ rfl
  have a1 := h1 1 _ rfl
  rw [Addr.add_nought] at a0
  rw [pr_pos _ 1 (by omega)] at a1
  exact ⟨ad, B, c, e, a0, a1, h3, h4, h5⟩
/-- What is seen of a stack, as a pair, or none. -/
noncomputable def vbOne (me t : Int) (s : Stt) : List Pr := if (vbRd s.2 me t).2 then [(str s.1, (vbRd s.2 me t).1)] else []
noncomputable def vbScanS (ls : List Stt) (me t : Int) : List Pr := ls.flatMap (vbOne me t)
theorem vbScanS_snoc {ls : List Stt} {k : Nat} {x : Stt} (me t : Int) (h : ls[k]? = some x) : vbScanS (ls.take (k + 1)) me t = vbScanS (ls.take k) me t ++ vbOne me t x := by
  unfold vbScanS
  rw [List.take_add_one, h, Option.toList_some, List.flatMap_append]
  simp
theorem vbScanS_len (me t : Int) : ∀ ls : List Stt, (vbScanS ls me t).length ≤ ls.length
  | [] => Nat.le_refl _
  | x :: r => by
    have := vbScanS_len me t r
    have h1 : (vbOne me t x).length ≤ 1 := by unfold vbOne; split <;> simp
    unfold vbScanS at this ⊢
    rw [List.flatMap_cons, List.length_append, List.length_cons]
    omega
set_option maxHeartbeats 2000000 in
set_option maxRecDepth 100000 in
theorem vbScan_any (A : Option Addr) (n c : Nat) (ls : List Stt) (me t : Int) (w : World) (hl : ls.length = n) (hn : n ≤ 1000) (hs : ∀ x ∈ ls, x.2.length ≤ 1000) (hr : RG KSt w A ls) :
    Calls Try.prog 25 #[.slice A n c, .int .i64 me, .int .i64 t] w fun e w' => ∃ v', e = .returned v' ∧ OG KPr 98 w.heap.size w' v' (vbScanS ls me t) ∧ Below w.heap.size w w' := by
  have HL := Lib.hid hl
  have HR := Lib.hid hr
  have HS := Lib.hid hs
  have HW := Lib.hid (show w.heap.size ≤ w.heap.size from Nat.le_refl _)
  clear hr hl hs
  go_enter Try.func25, Try.ntmps25
  go_wp2
  go_loopw [7, 9, 10, 11, 14] (fun s _ _ _ i wr => ∃ k : Nat, k ≤ n ∧ i = .int .i64 (k : Int) ∧ OG KPr 98 w.heap.size wr s (vbScanS (ls.take k) me t) ∧ Below w.heap.size w wr) (fun _ _ _ _ i _ => n - (intOf i).toNat)
  case atStart => exact ⟨0, Nat.zero_le _, rfl, OG.nil, Below.refl _ _⟩
  case round =>
    obtain ⟨k, hk, rfl, ho, hb⟩ := hrel
    by_cases hlt : k < n
    · obtain ⟨x, hx⟩ : ∃ x, ls[k]? = some x := ⟨ls[k]'(by rw [HL.out]; exact hlt), List.getElem?_eq_getElem _⟩
      obtain ⟨ad, B, d, rfl, c0, c1, hd1, hd2, hrb⟩ := (HR.out.below hb).stk hx
      obtain ⟨key, hkey⟩ : ∃ key, key = str x.1 := ⟨_, rfl⟩
      obtain ⟨m, hm⟩ : ∃ m, m = x.2.length := ⟨_, rfl⟩
      have HKN : Hid (vbScanS (ls.take (k + 1)) me t = vbScanS (ls.take k) me t ++ if (vbRd x.2 me t).2 then [(key, (vbRd x.2 me t).1)] else []) := Lib.hid (by rw [vbScanS_snoc me t hx, hkey]; rfl)
      rw [← hkey] at c0
      rw [← hm] at c1
      have HKL := Lib.hid (show (vbScanS (ls.take k) me t).length + 1 ≤ 1000000 from by have h1 := vbScanS_len me t (ls.take k); rw [List.length_take] at h1; omega)
      have HO := Lib.hid (ho.alloc (.cells #[.string key, .slice B m d] 24))
      have HB := Lib.hid (hb.alloc hb.size (.cells #[.string key, .slice B m d] 24))
      have BX := Lib.hid (StBox.new wr key B m d 24)
      have KR := Lib.hid (fun W (h : Below wr.heap.size wr W) => vbRead_any key B m d x.2 me t W hm.symm (by have := HS.out x (List.mem_of_getElem? hx); omega) (hrb.below h))
      have HA := Lib.hid (below1 wr (.cells #[.string key, .slice B m d] 24))
      clear hx hrb hd1 hd2 hkey hm ho hb
      cases hg : vbRd x.2 me t with
      | mk val is =>
        rw [hg] at KR HKN
        clear hg
        cases is with
        | false =>
          dsimp only at KR
          have HK : Hid (vbScanS (ls.take (k + 1)) me t = vbScanS (ls.take k) me t) := Lib.hid (by rw [HKN.out]; simp)
          go_wp2_with (first
            | (go_at_call 29; refine (KR.out _ HA.out).mono ?_; rintro e w1 ⟨rfl, b1⟩; have B1 := Lib.hid b1; clear b1)
            | fail)
          go_round
          case rel => exact ⟨k + 1, by omega, by go_num, by rw [HK.out]; exact HO.out.below B1.out, HB.out.trans (B1.out.mono HB.out.size)⟩
          case measure => simp [intOf]; omega
        | true =>
          dsimp only at KR
          have HK : Hid (vbScanS (ls.take (k + 1)) me t = vbScanS (ls.take k) me t ++ [(key, val)]) := Lib.hid (by rw [HKN.out]; simp)
          go_wp2_with (first
            | (go_at_call 29; refine (KR.out _ HA.out).mono ?_; rintro e w1 ⟨rfl, b1⟩; have B1 := Lib.hid b1; have y0 := (BX.out.on b1).c0; clear b1)
            | (at_builtin; (refine wpList_append_G tgPr rfl _ _ rfl w.heap.size _ (vbScanS (ls.take k) me t) rfl ((HO.out.below B1.out).alloc _) (some ⟨w1.heap.size, 0, none⟩) 1 1 [(key, val)] rfl rfl (rgPr_lit _ (key, val) _) (Apart.flat pr_flat) HKL.out (by have := B1.out.size; have := HB.out.size; simp; omega) ?_; intro v2 w2 o2 b2 _ _; have O2 := Lib.hid o2; have B2 := Lib.hid b2; clear o2 b2))
            | fail)
          go_round
          case rel => exact ⟨k + 1, by omega, by go_num, by rw [HK.out]; exact O2.out, ((HB.out.trans (B1.out.mono HB.out.size)).alloc (Nat.le_trans HB.out.size B1.out.size) _).trans B2.out⟩
          case measure => simp [intOf]; omega
    · obtain rfl : k = n := by omega
      rw [List.take_of_length_le (by rw [HL.out]; exact Nat.le_refl _)] at ho
      have HO := Lib.hid ho
      have HB := Lib.hid hb
      clear ho hb
      go_wp2
      go_ret
      exact ⟨_, rfl, HO.out, HB.out⟩
set_option maxHeartbeats 2000000 in
set_option maxRecDepth 100000 in
theorem refScan13_any (A : Option Addr) (n c : Nat) (ls : List Stt) (me t : Int) (w : World) (hl : ls.length = n) (hn : n ≤ 1000) (hs : ∀ x ∈ ls, x.2.length ≤ 1000) (hr : RG KSt w A ls) :
    Calls Try.prog 26 #[.slice A n c, .int .i64 me, .int .i64 t] w fun e w' => ∃ v', e = .returned v' ∧ OG KPr 98 w.heap.size w' v' (vbScanS ls me t) ∧ Below w.heap.size w w' := by
  have HL := Lib.hid hl
  have HR := Lib.hid hr
  have HS := Lib.hid hs
  have HW := Lib.hid (show w.heap.size ≤ w.heap.size from Nat.le_refl _)
  clear hr hl hs
  go_enter Try.func26, Try.ntmps26
  go_wp2
  go_loopw [7, 8, 9, 10] (fun s i _ _ wr => ∃ k : Nat, k ≤ n ∧ i = .int .i64 (k : Int) ∧ OG KPr 98 w.heap.size wr s (vbScanS (ls.take k) me t) ∧ Below w.heap.size w wr) (fun _ i _ _ _ => n - (intOf i).toNat)
  case atStart => exact ⟨0, Nat.zero_le _, rfl, OG.nil, Below.refl _ _⟩
  case round =>
    obtain ⟨k, hk, rfl, ho, hb⟩ := hrel
    by_cases hlt : k < n
    · obtain ⟨x, hx⟩ : ∃ x, ls[k]? = some x := ⟨ls[k]'(by rw [HL.out]; exact hlt), List.getElem?_eq_getElem _⟩
      obtain ⟨ad, B, d, rfl, c0, c1, hd1, hd2, hrb⟩ := (HR.out.below hb).stk hx
      obtain ⟨key, hkey⟩ : ∃ key, key = str x.1 := ⟨_, rfl⟩
      obtain ⟨m, hm⟩ : ∃ m, m = x.2.length := ⟨_, rfl⟩
      have HKN : Hid (vbScanS (ls.take (k + 1)) me t = vbScanS (ls.take k) me t ++ if (vbRd x.2 me t).2 then [(key, (vbRd x.2 me t).1)] else []) := Lib.hid (by rw [vbScanS_snoc me t hx, hkey]; rfl)
      rw [← hkey] at c0
      rw [← hm] at c1
      have HKL := Lib.hid (show (vbScanS (ls.take k) me t).length + 1 ≤ 1000000 from by have h1 := vbScanS_len me t (ls.take k); rw [List.length_take] at h1; omega)
      have HO := Lib.hid ho
      have HB := Lib.hid hb
      have HX := Lib.hid (fun W (h : Below wr.heap.size wr W) => (h.cell (lt_of_cell c0)).trans c0)
      have KR := Lib.hid (fun W (h : Below wr.heap.size wr W) => refRead13_any key B m d x.2 me t W hm.symm (by have := HS.out x (List.mem_of_getElem? hx); omega) (hrb.below h))
      have HA := Lib.hid (Below.refl wr.heap.size wr)
      clear hx hrb hd1 hd2 hkey hm ho hb
      cases hg : vbRd x.2 me t with
      | mk val is =>
        rw [hg] at KR HKN
        clear hg
        cases is with
        | false =>
          dsimp only at KR
          have HK : Hid (vbScanS (ls.take (k + 1)) me t = vbScanS (ls.take k) me t) := Lib.hid (by rw [HKN.out]; simp)
          go_wp2_with (first
            | (go_at_call 62; refine (KR.out _ HA.out).mono ?_; rintro e w1 ⟨rfl, b1⟩; have B1 := Lib.hid b1; clear b1)
            | fail)
          go_round
          case rel => exact ⟨k + 1, by omega, by go_num, by rw [HK.out]; exact HO.out.below B1.out, HB.out.trans (B1.out.mono HB.out.size)⟩
          case measure => simp [intOf]; omega
        | true =>
          dsimp only at KR
          have HK : Hid (vbScanS (ls.take (k + 1)) me t = vbScanS (ls.take k) me t ++ [(key, val)]) := Lib.hid (by rw [HKN.out]; simp)
          go_wp2_with (first
            | (go_at_call 62; refine (KR.out _ HA.out).mono ?_; rintro e w1 ⟨rfl, b1⟩; have B1 := Lib.hid b1; have y0 := HX.out _ b1; clear b1)
            | (at_builtin; (refine wpList_append_G tgPr rfl _ _ rfl w.heap.size _ (vbScanS (ls.take k) me t) rfl ((HO.out.below B1.out).alloc _) (some ⟨w1.heap.size, 0, none⟩) 1 1 [(key, val)] rfl rfl (rgPr_lit _ (key, val) _) (Apart.flat pr_flat) HKL.out (by have := B1.out.size; have := HB.out.size; simp; omega) ?_; intro v2 w2 o2 b2 _ _; have O2 := Lib.hid o2; have B2 := Lib.hid b2; clear o2 b2))
            | fail)
          go_round
          case rel => exact ⟨k + 1, by omega, by go_num, by rw [HK.out]; exact O2.out, ((HB.out.trans (B1.out.mono HB.out.size)).alloc (Nat.le_trans HB.out.size B1.out.size) _).trans B2.out⟩
          case measure => simp [intOf]; omega
    · obtain rfl : k = n := by omega
      rw [List.take_of_length_le (by rw [HL.out]; exact Nat.le_refl _)] at ho
      have HO := Lib.hid ho
      have HB := Lib.hid hb
      clear ho hb
      go_wp2
      go_ret
      exact ⟨_, rfl, HO.out, HB.out⟩
set_option maxHeartbeats 2000000 in
set_option maxRecDepth 100000 in
theorem refSamePairs_any (A B : Option Addr) (n c d : Nat) (L : List Pr) (w : World) (hl : L.length = n) (hn : n ≤ 1000) (hr : RG KPr w A L) (hs : RG KPr w B L) :
    Calls Try.prog 24 #[.slice A n c, .slice B n d] w fun e w' => e = .returned (.bool true) ∧ Below w.heap.size w w' := by
  have HL := Lib.hid hl
  have HR := Lib.hid hr
  have HS := Lib.hid hs
  clear hr hs hl
  go_enter Try.func24, Try.ntmps24
  go_wp2
  go_loopw [5] (fun i wr => ∃ k : Nat, k ≤ n ∧ i = .int .i64 (k : Int) ∧ Below w.heap.size w wr) (fun i _ => n - (intOf i).toNat)
  case atStart => exact ⟨0, Nat.zero_le _, rfl, Below.refl _ _⟩
  case round =>
    obtain ⟨k, hk, rfl, hb⟩ := hrel
    by_cases hlt : k < n
    · obtain ⟨x, hx⟩ : ∃ x, L[k]? = some x := ⟨L[k]'(by rw [HL.out]; exact hlt), List.getElem?_eq_getElem _⟩
      obtain ⟨ad, rfl, c0, c1⟩ := (HR.out.below hb).pr hx
      obtain ⟨bd, rfl, d0, d1⟩ := (HS.out.below hb).pr hx
      have HB := Lib.hid (fun q => drewN_below hb q)
      clear hx hb
      go_upto_region 6 with fail
      go_quiet (fail)
      go_wp2
      go_round
      case rel => exact ⟨k + 1, by omega, by go_num, HB.out _⟩
      case measure => simp [intOf]; omega
    · obtain rfl : k = n := by omega
      have HB := Lib.hid hb
      clear hb
      go_wp2
      go_ret
      exact ⟨rfl, HB.out⟩
end Go.Proofs.Ytjmmaghjbaigiaa
