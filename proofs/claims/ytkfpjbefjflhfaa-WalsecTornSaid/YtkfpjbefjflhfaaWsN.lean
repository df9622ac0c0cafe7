/- Records in sectors: the document's Read. -/
import Derived.Test.YtkfpjbefjflhfaaWsM
namespace Go.Proofs.Ytkfpjbefjflhfaa
open Go.RowKit
set_option linter.unusedVariables false
set_option linter.unusedSimpArgs false
/-- What was cut out of a sector: it is what a sector of this place has, if any. -/
def CutOf (b : List UInt8) (L : List (List UInt8)) : Prop := (∀ t ∈ L, t.length ≤ 238) ∧ L.length ≤ 239 ∧ ∀ M, wsSize M ≤ 239 → b[8]? = some (UInt8.ofNat (wsSize M)) → (b.drop 9).take (wsSize M) = wsPut M → M = L
theorem grp_one {L : List (List UInt8)} (hs : ∀ t ∈ L, t.length ≤ 238) (h : (grp L).length = 1) : L ≠ [] ∧ wsSize L ≤ 239 := by
  have hf := grp_flat L
  match hg : grp L, h with
  | [g], _ =>
    rw [hg] at hf
    have hz := grp_size hs g (by rw [hg]; simp)
    have hn := grp_some g (l := L) (by rw [hg]; simp)
    simp at hf
    rw [← hf]
    exact ⟨hn, hz⟩
theorem fitK_all (u : Nat) (l : List (List UInt8)) (h : u + wsSize l ≤ 239) : fitK u l = l.length := by
  induction l generalizing u with
  | nil => rfl
  | cons t r ih =>
    simp only [wsSize] at h
    rw [fitK, if_neg (by omega), ih _ (by omega)]
    rfl
theorem grp_of_one {L : List (List UInt8)} (hn : L ≠ []) (hz : wsSize L ≤ 239) : (grp L).length = 1 := by
  cases L with
  | nil => exact (hn rfl).elim
  | cons t r =>
    simp only [wsSize] at hz
    rw [grp_cons (by simp), fitsP, fitK_all _ _ hz, List.drop_of_length_le (by simp), grp_nil]
    rfl
theorem rd_cut {b : List UInt8} {e a : Nat} {L : List (List UInt8)} (he : 1 ≤ e ∧ e ≤ 1099511627776) (ha : a < 256) (hc : CutOf b L) : rdP b e a = if L ≠ [] ∧ (grp L).length = 1 ∧ wsSec e a L = b then some L else none := by
  by_cases h : L ≠ [] ∧ (grp L).length = 1 ∧ wsSec e a L = b
  · rw [if_pos h]
    exact rdP_some ⟨by omega, by omega, by omega, by omega, h.1, (grp_one hc.1 h.2.1).2, by rw [Int.toNat_natCast, Int.toNat_natCast]; exact h.2.2.symm⟩
  · rw [if_neg h]
    refine rdP_none fun M hM => h ?_
    obtain rfl := hc.2.2 M hM.2.2.2.2.2.1 hM.part.2.1 hM.part.2.2
    exact ⟨hM.2.2.2.2.1, grp_of_one hM.2.2.2.2.1 hM.2.2.2.2.2.1, by have := hM.2.2.2.2.2.2; rw [Int.toNat_natCast, Int.toNat_natCast] at this; exact this.symm⟩
/-- While texts are cut out: s bytes are read, or one has run over the end. -/
def CutAt (b : List UInt8) (m : Nat) (L : List (List UInt8)) (i : Nat) : Prop :=
  (∀ t ∈ L, t.length ≤ 238) ∧ L.length ≤ 239 ∧ ((∃ s, i = 9 + s ∧ s ≤ m ∧ wsSize L = s ∧ (b.drop 9).take s = wsPut L) ∨ (9 + m < i ∧ i ≤ 1000 ∧ CutOf b L))
theorem CutAt.start (b : List UInt8) (m : Nat) : CutAt b m [] 9 := ⟨by simp, by simp, .inl ⟨0, rfl, Nat.zero_le _, rfl, by simp [wsPut]⟩⟩
theorem CutAt.of {b : List UInt8} {x : UInt8} {m i : Nat} {L : List (List UInt8)} (hl : b.length = 256) (h8 : b[8]? = some x) (hm : m = min x.toNat 239) (h : CutAt b m L i) (hi : 9 + m ≤ i) : CutOf b L := by
  obtain ⟨h1, h2, ⟨s, rfl, h3, h4, h5⟩ | ⟨_, _, h⟩⟩ := h
  · refine ⟨h1, h2, fun M g1 g2 g3 => ?_⟩
    rw [h8] at g2
    have e := size_of_byte g1 g2
    have e2 : wsSize M = s := by omega
    rw [e2, h5] at g3
    exact wsPut_inj (short_of (by omega)) (short_of g1) g3.symm
  · exact h
theorem CutAt.step {b : List UInt8} {x y : UInt8} {m i : Nat} {L : List (List UInt8)} (hl : b.length = 256) (h8 : b[8]? = some x) (hm : m = min x.toNat 239) (h : CutAt b m L i) (hi : i < 9 + m) (hy : b[i]? = some y) :
    CutAt b m (L ++ [(b.drop (i + 1)).take (min 248 (i + 1 + y.toNat) - (i + 1))]) (i + (1 + y.toNat)) := by
  obtain ⟨h1, h2, ⟨s, rfl, h3, h4, h5⟩ | ⟨_, _, h⟩⟩ := h
  · have hlen : ((b.drop (9 + s + 1)).take (min 248 (9 + s + 1 + y.toNat) - (9 + s + 1))).length = min 248 (9 + s + 1 + y.toNat) - (9 + s + 1) := by simp; omega
    have hll := wsSize_len L
    have hy2 := y.toNat_lt
    refine ⟨fun t ht => ?_, by simp; omega, ?_⟩
    · rcases List.mem_append.1 ht with ht | ht
      · exact h1 t ht
      · simp only [List.mem_singleton] at ht
        rw [ht, hlen]
        omega
    · by_cases hc : s + (1 + y.toNat) ≤ m
      · refine .inl ⟨s + (1 + y.toNat), by omega, hc, ?_⟩
        have := parts_step (L := L) hl (by rw [h4]; exact h5) (by rw [h4]; exact hy) (by omega)
        rw [h4] at this
        obtain ⟨q1, q2, q3⟩ := this
        rw [show min 248 (9 + s + 1 + y.toNat) - (9 + s + 1) = y.toNat by omega]
        exact ⟨by omega, by rw [← q3]; congr 1; omega⟩
      · refine .inr ⟨by omega, by omega, ?_, by simp; omega, fun M g1 g2 g3 => ?_⟩
        · intro t ht
          rcases List.mem_append.1 ht with ht | ht
          · exact h1 t ht
          · simp only [List.mem_singleton] at ht
            rw [ht, hlen]
            omega
        · have g2' := g2
          rw [h8] at g2'
          have e := size_of_byte g1 g2'
          by_cases hx : 239 < x.toNat
          · omega
          have := (TextsOf.cut (L := L) hl h8 (by omega) (by omega) (by rw [h4]; exact h5) (by rw [h4]; exact hy) (by omega)).2 M g1 g2 g3
          rw [this] at e
          simp [wsSize] at e
          omega
  · omega
set_option maxHeartbeats 4000000 in
set_option maxRecDepth 100000 in
theorem wsRead_any (A : Option Addr) (n c : Nat) (b : List UInt8) (e a : Int) (w : World) (hl : b.length = n) (hn : n ≤ c) (hc : c ≤ maxLen) (hr : RB w A b) :
    Calls Try.prog 15 #[.slice A n c, .int .i64 e, .int .i64 a] w fun x w' => RdPost w b e a x w' := by
  unfold maxLen at hc
  have early : (n ≠ 256 ∨ ¬ (1 ≤ e ∧ e ≤ 1099511627776) ∨ ¬ (0 ≤ a ∧ a < 256)) → RdPost w b e a (.returned (.tuple #[.slice none 0 0, .bool false])) w := fun h => RdPost.none (by
    rcases h with h | h | h
    · exact rd_len (by omega)
    · exact rd_epoch h
    · exact rd_place h) (Below.refl _ _)
  have HE := Lib.hid early
  clear early
  by_cases h256 : n = 256
  case neg =>
    have HP := Lib.hid (HE.out (.inl h256))
    have h1 : ((n : Int) == 256) = false := by simpa using (by omega : ¬ (n : Int) = 256)
    have h2 : ((n : Int) != 256) = true := by simpa using (by omega : ¬ (n : Int) = 256)
    clear hl hr h256
    go_enter Try.func15, Try.ntmps15
    go_wp2
    go_ret2
    exact HP.out
  subst h256
  by_cases h1 : e < 1
  · have HP := Lib.hid (HE.out (.inr (.inl (by omega))))
    clear hl hr
    go_enter Try.func15, Try.ntmps15
    go_wp2
    go_ret2
    exact HP.out
  by_cases h2 : 1099511627776 < e
  · have HP := Lib.hid (HE.out (.inr (.inl (by omega))))
    clear hl hr
    go_enter Try.func15, Try.ntmps15
    go_wp2
    go_ret2
    exact HP.out
  by_cases h3 : a < 0
  · have HP := Lib.hid (HE.out (.inr (.inr (by omega))))
    clear hl hr
    go_enter Try.func15, Try.ntmps15
    go_wp2
    go_ret2
    exact HP.out
  by_cases h4 : 256 ≤ a
  · have HP := Lib.hid (HE.out (.inr (.inr (by omega))))
    clear hl hr
    go_enter Try.func15, Try.ntmps15
    go_wp2
    go_ret2
    exact HP.out
  clear HE
  obtain ⟨en, rfl⟩ : ∃ en : Nat, e = (en : Int) := ⟨e.toNat, by omega⟩
  obtain ⟨an, rfl⟩ : ∃ an : Nat, a = (an : Int) := ⟨a.toNat, by omega⟩
  have HN := Lib.hid (show (1 ≤ en ∧ en ≤ 1099511627776) ∧ an < 256 from by omega)
  have HT := Lib.hid (fun L (h : CutOf b L) => rd_cut (e := en) (a := an) (by omega) (by omega) h)
  have HL := Lib.hid hl
  have HR := Lib.hid hr
  obtain ⟨ad, rfl⟩ := hr.some_of (by omega)
  obtain ⟨x, hx8⟩ : ∃ x, b[8]? = some x := ⟨b[8]'(by omega), List.getElem?_eq_getElem _⟩
  have hc8 : w.cell? ⟨ad.block, ad.off + 8, none⟩ = some (.int .u8 (x.toNat : Int)) := hr.atc hx8
  obtain ⟨m, hm⟩ : ∃ m, m = min x.toNat 239 := ⟨_, rfl⟩
  have hmin : (if (239 : Int) < (x.toNat : Int) then (239 : Int) else (x.toNat : Int)) = (m : Int) := by split <;> omega
  have HX := Lib.hid hx8
  have HM := Lib.hid hm
  have hm239 : m ≤ 239 := by omega
  have hx2 := x.toNat_lt
  have ST : Hid (∃ (i : Nat) (L : List (List UInt8)), (.int .i64 9 : Value) = .int .i64 (i : Int) ∧ OS w.heap.size w (.slice none 0 0) L ∧ CutAt b m L i ∧ i ≤ 1000 ∧ Below w.heap.size w w) := Lib.hid ⟨9, [], rfl, OS.nil, CutAt.start b m, by omega, Below.refl _ _⟩
  clear hl hr hx8 hm
  go_enter Try.func15, Try.ntmps15
  go_wp2
  go_loopw [8, 10] (fun v i wr => ∃ (k : Nat) (L : List (List UInt8)), i = .int .i64 (k : Int) ∧ OS w.heap.size wr v L ∧ CutAt b m L k ∧ k ≤ 1000 ∧ Below w.heap.size w wr) (fun _ i _ => 9 + m - (intOf i).toNat)
  case atStart => exact ST.out
  case round =>
    clear ST hc8 hmin
    obtain ⟨k, L, rfl, hO, hC, hk, hB⟩ := hrel
    by_cases hlt : k < 9 + m
    · obtain ⟨y, hy⟩ : ∃ y, b[k]? = some y := ⟨b[k]'(by rw [HL.out]; omega), List.getElem?_eq_getElem _⟩
      have hcy := (HR.out.below hB).atc hy
      have HST := Lib.hid (CutAt.step HL.out HX.out HM.out hC hlt hy)
      have hy2 := y.toNat_lt
      obtain ⟨q, hq⟩ : ∃ q, q = min 248 (k + 1 + y.toNat) := ⟨_, rfl⟩
      have hmin : (if (k : Int) + 1 + (y.toNat : Int) < 248 then (k : Int) + 1 + (y.toNat : Int) else 248) = (q : Int) := by split <;> omega
      have hq1 : q ≤ 248 := by omega
      have hq2 : k + 1 ≤ q := by omega
      rw [← hq] at HST
      have R1 := ((HR.out.below hB).dropw (k + 1) (by omega)).take (q - (k + 1))
      have hstr := run_str wr (some ⟨ad.block, ad.off + (k + 1), none⟩) (q - (k + 1)) (c - (k + 1)) _ (by simp [HL.out]; omega) R1
      have HLL := Lib.hid hC.2.1
      have HO := Lib.hid hO
      have HB := Lib.hid hB
      have hlt' : (k : Int) < 9 + (m : Int) := by omega
      have HY := Lib.hid hy
      clear hC hO hB R1 hy hq
      generalize (b.drop (k + 1)).take (q - (k + 1)) = t at *
      go_wp2_with (at_builtin; (refine wpList_append_S rfl (.tmp 47) (.tmp 62) rfl w.heap.size _ L rfl (HO.out.alloc _) (some ⟨wr.heap.size, 0, none⟩) 1 1 [t] rfl rfl (RS.one wr t) ?_ ?_ ?_; (have := HLL.out; omega); (rw [heap_size_alloc]; exact Nat.le_succ_of_le HB.out.size); intro v3 w3 o3 b3 g3; (have O3 := Lib.hid o3); (have B3 := Lib.hid ((HB.out.alloc HB.out.size _).trans b3)); (have hcy3 := (HR.out.below B3.out).atc HY.out); clear o3 b3 g3))
      go_roundw
      case rel => exact ⟨k + (1 + y.toNat), L ++ [t], by go_num, O3.out, HST.out, by omega, B3.out⟩
      case measure => simp [intOf]; omega
    · have HC := Lib.hid (HT.out L (hC.of HL.out HX.out HM.out (by omega)))
      have HLS := Lib.hid hC.1
      have hLL := hC.2.1
      obtain ⟨A2, c2, rfl, hc2, hR2, _⟩ := hO.form
      have R2 := Lib.hid hR2
      have HO := Lib.hid hO
      have HB := Lib.hid hB
      have hge : ¬ (k : Int) < 9 + (m : Int) := by omega
      clear hC hO hB hR2
      by_cases hL : L.length = 0
      · have HP := Lib.hid (fun W (h : Below w.heap.size w W) => RdPost.none (w := w) (w' := W) (b := b) (e := (en : Int)) (a := (an : Int)) (by rw [HC.out, if_neg (fun h => h.1 (List.eq_nil_of_length_eq_zero hL))]) h)
        rw [hL]
        go_upto_region 9 with (fail)
        go_quiet (fail)
        go_wp2
        go_ret2
        exact HP.out _ (drewN_below HB.out _)
      · have hLn : L ≠ [] := fun e => hL (by rw [e]; rfl)
        have hnn : ((L.length : Int) == 0) = false := by simpa using (by omega : ¬ (L.length : Int) = 0)
        have hgl := grp_len L
        have KP := Lib.hid (fun W (h : RS W A2 L) => wsParts_any A2 L.length c2 L W rfl (by omega) (fun t ht => by have := HLS.out t ht; omega) h)
        have R5 := Lib.hid R2.out.drew
        have B5 := Lib.hid HB.out.drew
        have O5 := Lib.hid (HO.out.below (Below.refl wr.heap.size wr).drew)
        have L5 := Lib.hid HB.out.drew.size
        have RR5 := Lib.hid (HR.out.below HB.out.drew)
        by_cases hp : (grp L).length = 1
        · have hz := (grp_one HLS.out hp).2
          have hX := wsSec_len en an L hz
          have KL := Lib.hid (fun W (h : RS W A2 L) => wsLay_any en an A2 L.length c2 L W HN.out.1.2 (by have := HN.out; omega) rfl hz h)
          rw [hp] at KP
          have hp2 : (((1 : Nat) : Int) != 1) = false := rfl
          have HXL := Lib.hid hX
          obtain ⟨X, hXe⟩ : ∃ X, X = wsSec en an L := ⟨_, rfl⟩
          rw [← hXe] at HXL KL
          have HP : Hid (∀ W, Below w.heap.size w W → OS w.heap.size W (.slice A2 L.length c2) L → RdPost w b en an (.returned (.tuple #[if X = b then .slice A2 L.length c2 else .slice none 0 0, .bool (decide (X = b))])) W) := Lib.hid (fun W h1 h2 => by
            by_cases e : X = b
            · rw [if_pos e, decide_eq_true e]
              exact ⟨_, by rw [HC.out, if_pos ⟨hLn, hp, hXe ▸ e⟩]; rfl, by rw [HC.out, if_pos ⟨hLn, hp, hXe ▸ e⟩]; exact h2, h1⟩
            · rw [if_neg e, decide_eq_false e]
              exact RdPost.none (by rw [HC.out, if_neg (fun h => e (hXe ▸ h.2.2))]) h1)
          have KS := Lib.hid (fun W (h : RB W (some ad) b) => run_str W (some ad) 256 c b HL.out h)
          have S0 := KS.out _ RR5.out
          have hse := str_eq X b
          clear hXe hp hX hz
          by_cases hq : X = b
          · rw [decide_eq_true hq] at hse
            simp only [if_pos hq, decide_eq_true hq] at HP
            clear hq
            go_upto_region 9 with (fail)
            refine wp_region_held (S := fun V => (convert 34 9 (.slice (some ad) 256 c)).run Try.prog V = .ok (.string (str b)) V) (by kernel_rfl) ?_
            change wpAnyH _ _ _ _ _ _ _ _ (World.drew wr)
            refine takeH 0 64 (v := ?_) rfl rfl (by kernel_rfl) (by kernel_rfl) (by kernel_rfl) (fun _ _ _ h => h) S0 (by rfl) ?_ ?_
            rotate_left
            · intro w' hSw
              go_simp
              try (with_reducible rfl)
            try simp only [Act.put, List.setIfInBounds_toArray, List.set_cons_zero, List.set_cons_succ]
            refine takeH 1 65 (v := ?_) rfl rfl (by kernel_rfl) (by kernel_rfl) (by kernel_rfl) (fun _ _ _ h => h) S0 (by rfl) ?_ ?_
            rotate_left
            · intro w' hSw
              go_simp
              try (with_reducible rfl)
            try simp only [Act.put, List.setIfInBounds_toArray, List.set_cons_zero, List.set_cons_succ]
            refine takeH 2 66 (v := .bool false) rfl rfl (by kernel_rfl) (by kernel_rfl) (by kernel_rfl) (fun _ _ _ h => h) S0 (by rfl) ?_ ?_
            · intro w' hSw
              go_simp
              try (rw [hnn])
            try simp only [Act.put, List.setIfInBounds_toArray, List.set_cons_zero, List.set_cons_succ]
            refine takeH 3 67 (v := .bool false) rfl rfl (by kernel_rfl) (by kernel_rfl) (by kernel_rfl) (fun _ _ _ h => h) S0 (by rfl) ?_ ?_
            · intro w' hSw
              go_simp
              try (with_reducible rfl)
            try simp only [Act.put, List.setIfInBounds_toArray, List.set_cons_zero, List.set_cons_succ]
            refine takeH 4 68 (v := ?_) rfl rfl (by kernel_rfl) (by kernel_rfl) (by kernel_rfl) (fun _ _ _ h => h) S0 (by rfl) ?_ ?_
            rotate_left
            · intro w' hSw
              go_simp
              try (with_reducible rfl)
            try simp only [Act.put, List.setIfInBounds_toArray, List.set_cons_zero, List.set_cons_succ]
            refine wpAnyH_ready (rs := [5]) (by kernel_rfl) (by simp) ?_
            refine AllReadyH.cons rfl (fun K hK => ?_) AllReadyH.nil
            go_simp
            refine (KP.out _ R5.out).mono ?_
            rintro x w5 ⟨rfl, b5⟩
            have HB5 := Lib.hid (B5.out.trans (b5.mono L5.out))
            have S5 := KS.out _ (HR.out.below HB5.out)
            have HB6 := Lib.hid b5
            clear b5
            refine hK _ _ S5 (fun _ => ?_)
            clear hK K
            try simp only [Act.put, List.setIfInBounds_toArray, List.set_cons_zero, List.set_cons_succ]
            refine takeH 6 70 (v := .bool false) rfl rfl (by kernel_rfl) (by kernel_rfl) (by kernel_rfl) (fun _ _ _ h => h) S5 (by rfl) ?_ ?_
            · intro w' hSw
              go_simp
              try (rw [hp2])
            try simp only [Act.put, List.setIfInBounds_toArray, List.set_cons_zero, List.set_cons_succ]
            refine takeH 7 71 (v := .bool false) rfl rfl (by kernel_rfl) (by kernel_rfl) (by kernel_rfl) (fun _ _ _ h => h) S5 (by rfl) ?_ ?_
            · intro w' hSw
              go_simp
              try (with_reducible rfl)
            try simp only [Act.put, List.setIfInBounds_toArray, List.set_cons_zero, List.set_cons_succ]
            refine takeH 8 72 (v := .bool false) rfl rfl (by kernel_rfl) (by kernel_rfl) (by kernel_rfl) (fun _ _ _ h => h) S5 (by rfl) ?_ ?_
            · intro w' hSw
              go_simp
              try (with_reducible rfl)
            try simp only [Act.put, List.setIfInBounds_toArray, List.set_cons_zero, List.set_cons_succ]
            refine takeH 9 73 (v := ?_) rfl rfl (by kernel_rfl) (by kernel_rfl) (by kernel_rfl) (fun _ _ _ h => h) S5 (by rfl) ?_ ?_
            rotate_left
            · intro w' hSw
              go_simp
              try (with_reducible rfl)
            try simp only [Act.put, List.setIfInBounds_toArray, List.set_cons_zero, List.set_cons_succ]
            refine takeH 10 74 (v := ?_) rfl rfl (by kernel_rfl) (by kernel_rfl) (by kernel_rfl) (fun _ _ _ h => h) S5 (by rfl) ?_ ?_
            rotate_left
            · intro w' hSw
              go_simp
              try (with_reducible rfl)
            try simp only [Act.put, List.setIfInBounds_toArray, List.set_cons_zero, List.set_cons_succ]
            refine takeH 11 75 (v := ?_) rfl rfl (by kernel_rfl) (by kernel_rfl) (by kernel_rfl) (fun _ _ _ h => h) S5 (by rfl) ?_ ?_
            rotate_left
            · intro w' hSw
              go_simp
              try (with_reducible rfl)
            try simp only [Act.put, List.setIfInBounds_toArray, List.set_cons_zero, List.set_cons_succ]
            refine takeH 14 78 (v := ?_) rfl rfl (by kernel_rfl) (by kernel_rfl) (by kernel_rfl) (fun _ _ _ h => h) S5 (by rfl) ?_ ?_
            rotate_left
            · intro w' hSw
              go_simp
              try (with_reducible rfl)
            try simp only [Act.put, List.setIfInBounds_toArray, List.set_cons_zero, List.set_cons_succ]
            refine takeH 15 79 (v := .string (str b)) rfl rfl (by kernel_rfl) (by kernel_rfl) (by kernel_rfl) (fun _ _ _ h => h) S5 (by rfl) ?_ ?_
            · intro w' hSw
              try dsimp only at hSw
              go_simp
              try (with_reducible rfl)
            try simp only [Act.put, List.setIfInBounds_toArray, List.set_cons_zero, List.set_cons_succ]
            refine wpAnyH_ready (rs := [12]) (by kernel_rfl) (by simp) ?_
            refine AllReadyH.cons rfl (fun K hK => ?_) AllReadyH.nil
            go_simp
            refine (KL.out _ (R5.out.below HB6.out)).mono ?_
            rintro x w6 ⟨v6, rfl, o6, b6⟩
            obtain ⟨A6, c6, rfl, _, r6⟩ := o6.form
            have HB7 := Lib.hid (HB5.out.trans (b6.mono HB5.out.size))
            have S6 := KS.out _ (HR.out.below HB7.out)
            have T6 := run_str w6 A6 X.length c6 X rfl r6
            have HB8 := Lib.hid (HB6.out.trans (b6.mono HB6.out.size))
            clear b6 o6 r6
            refine hK _ _ S6 (fun _ => ?_)
            clear hK K
            try simp only [Act.put, List.setIfInBounds_toArray, List.set_cons_zero, List.set_cons_succ]
            refine wpAnyH_ready (rs := [13]) (by kernel_rfl) (by simp) ?_
            refine AllReadyH.cons rfl (fun K hK => ?_) AllReadyH.nil
            go_simp
            refine hK _ _ S6 (fun _ => ?_)
            clear hK K
            try simp only [Act.put, List.setIfInBounds_toArray, List.set_cons_zero, List.set_cons_succ]
            refine takeH 16 80 (v := .bool false) rfl rfl (by kernel_rfl) (by kernel_rfl) (by kernel_rfl) (fun _ _ _ h => h) S6 (by rfl) ?_ ?_
            · intro w' hSw
              go_simp
              try (with_reducible rfl)
            try simp only [Act.put, List.setIfInBounds_toArray, List.set_cons_zero, List.set_cons_succ]
            refine takeH 17 81 (v := .bool false) rfl rfl (by kernel_rfl) (by kernel_rfl) (by kernel_rfl) (fun _ _ _ h => h) S6 (by rfl) ?_ ?_
            · intro w' hSw
              go_simp
              try (with_reducible rfl)
            try simp only [Act.put, List.setIfInBounds_toArray, List.set_cons_zero, List.set_cons_succ]
            refine wpAnyH_done (by kernel_rfl) ?_ _
            go_wp2
            go_ret2
            exact HP.out _ HB7.out (O5.out.below HB8.out)
          · rw [decide_eq_false hq] at hse
            simp only [if_neg hq, decide_eq_false hq] at HP
            clear hq
            go_upto_region 9 with (fail)
            refine wp_region_held (S := fun V => (convert 34 9 (.slice (some ad) 256 c)).run Try.prog V = .ok (.string (str b)) V) (by kernel_rfl) ?_
            change wpAnyH _ _ _ _ _ _ _ _ (World.drew wr)
            refine takeH 0 64 (v := ?_) rfl rfl (by kernel_rfl) (by kernel_rfl) (by kernel_rfl) (fun _ _ _ h => h) S0 (by rfl) ?_ ?_
            rotate_left
            · intro w' hSw
              go_simp
              try (with_reducible rfl)
            try simp only [Act.put, List.setIfInBounds_toArray, List.set_cons_zero, List.set_cons_succ]
            refine takeH 1 65 (v := ?_) rfl rfl (by kernel_rfl) (by kernel_rfl) (by kernel_rfl) (fun _ _ _ h => h) S0 (by rfl) ?_ ?_
            rotate_left
            · intro w' hSw
              go_simp
              try (with_reducible rfl)
            try simp only [Act.put, List.setIfInBounds_toArray, List.set_cons_zero, List.set_cons_succ]
            refine takeH 2 66 (v := .bool false) rfl rfl (by kernel_rfl) (by kernel_rfl) (by kernel_rfl) (fun _ _ _ h => h) S0 (by rfl) ?_ ?_
            · intro w' hSw
              go_simp
              try (rw [hnn])
            try simp only [Act.put, List.setIfInBounds_toArray, List.set_cons_zero, List.set_cons_succ]
            refine takeH 3 67 (v := .bool false) rfl rfl (by kernel_rfl) (by kernel_rfl) (by kernel_rfl) (fun _ _ _ h => h) S0 (by rfl) ?_ ?_
            · intro w' hSw
              go_simp
              try (with_reducible rfl)
            try simp only [Act.put, List.setIfInBounds_toArray, List.set_cons_zero, List.set_cons_succ]
            refine takeH 4 68 (v := ?_) rfl rfl (by kernel_rfl) (by kernel_rfl) (by kernel_rfl) (fun _ _ _ h => h) S0 (by rfl) ?_ ?_
            rotate_left
            · intro w' hSw
              go_simp
              try (with_reducible rfl)
            try simp only [Act.put, List.setIfInBounds_toArray, List.set_cons_zero, List.set_cons_succ]
            refine wpAnyH_ready (rs := [5]) (by kernel_rfl) (by simp) ?_
            refine AllReadyH.cons rfl (fun K hK => ?_) AllReadyH.nil
            go_simp
            refine (KP.out _ R5.out).mono ?_
            rintro x w5 ⟨rfl, b5⟩
            have HB5 := Lib.hid (B5.out.trans (b5.mono L5.out))
            have S5 := KS.out _ (HR.out.below HB5.out)
            have HB6 := Lib.hid b5
            clear b5
            refine hK _ _ S5 (fun _ => ?_)
            clear hK K
            try simp only [Act.put, List.setIfInBounds_toArray, List.set_cons_zero, List.set_cons_succ]
            refine takeH 6 70 (v := .bool false) rfl rfl (by kernel_rfl) (by kernel_rfl) (by kernel_rfl) (fun _ _ _ h => h) S5 (by rfl) ?_ ?_
            · intro w' hSw
              go_simp
              try (rw [hp2])
            try simp only [Act.put, List.setIfInBounds_toArray, List.set_cons_zero, List.set_cons_succ]
            refine takeH 7 71 (v := .bool false) rfl rfl (by kernel_rfl) (by kernel_rfl) (by kernel_rfl) (fun _ _ _ h => h) S5 (by rfl) ?_ ?_
            · intro w' hSw
              go_simp
              try (with_reducible rfl)
            try simp only [Act.put, List.setIfInBounds_toArray, List.set_cons_zero, List.set_cons_succ]
            refine takeH 8 72 (v := .bool false) rfl rfl (by kernel_rfl) (by kernel_rfl) (by kernel_rfl) (fun _ _ _ h => h) S5 (by rfl) ?_ ?_
            · intro w' hSw
              go_simp
              try (with_reducible rfl)
            try simp only [Act.put, List.setIfInBounds_toArray, List.set_cons_zero, List.set_cons_succ]
            refine takeH 9 73 (v := ?_) rfl rfl (by kernel_rfl) (by kernel_rfl) (by kernel_rfl) (fun _ _ _ h => h) S5 (by rfl) ?_ ?_
            rotate_left
            · intro w' hSw
              go_simp
              try (with_reducible rfl)
            try simp only [Act.put, List.setIfInBounds_toArray, List.set_cons_zero, List.set_cons_succ]
            refine takeH 10 74 (v := ?_) rfl rfl (by kernel_rfl) (by kernel_rfl) (by kernel_rfl) (fun _ _ _ h => h) S5 (by rfl) ?_ ?_
            rotate_left
            · intro w' hSw
              go_simp
              try (with_reducible rfl)
            try simp only [Act.put, List.setIfInBounds_toArray, List.set_cons_zero, List.set_cons_succ]
            refine takeH 11 75 (v := ?_) rfl rfl (by kernel_rfl) (by kernel_rfl) (by kernel_rfl) (fun _ _ _ h => h) S5 (by rfl) ?_ ?_
            rotate_left
            · intro w' hSw
              go_simp
              try (with_reducible rfl)
            try simp only [Act.put, List.setIfInBounds_toArray, List.set_cons_zero, List.set_cons_succ]
            refine takeH 14 78 (v := ?_) rfl rfl (by kernel_rfl) (by kernel_rfl) (by kernel_rfl) (fun _ _ _ h => h) S5 (by rfl) ?_ ?_
            rotate_left
            · intro w' hSw
              go_simp
              try (with_reducible rfl)
            try simp only [Act.put, List.setIfInBounds_toArray, List.set_cons_zero, List.set_cons_succ]
            refine takeH 15 79 (v := .string (str b)) rfl rfl (by kernel_rfl) (by kernel_rfl) (by kernel_rfl) (fun _ _ _ h => h) S5 (by rfl) ?_ ?_
            · intro w' hSw
              try dsimp only at hSw
              go_simp
              try (with_reducible rfl)
            try simp only [Act.put, List.setIfInBounds_toArray, List.set_cons_zero, List.set_cons_succ]
            refine wpAnyH_ready (rs := [12]) (by kernel_rfl) (by simp) ?_
            refine AllReadyH.cons rfl (fun K hK => ?_) AllReadyH.nil
            go_simp
            refine (KL.out _ (R5.out.below HB6.out)).mono ?_
            rintro x w6 ⟨v6, rfl, o6, b6⟩
            obtain ⟨A6, c6, rfl, _, r6⟩ := o6.form
            have HB7 := Lib.hid (HB5.out.trans (b6.mono HB5.out.size))
            have S6 := KS.out _ (HR.out.below HB7.out)
            have T6 := run_str w6 A6 X.length c6 X rfl r6
            have HB8 := Lib.hid (HB6.out.trans (b6.mono HB6.out.size))
            clear b6 o6 r6
            refine hK _ _ S6 (fun _ => ?_)
            clear hK K
            try simp only [Act.put, List.setIfInBounds_toArray, List.set_cons_zero, List.set_cons_succ]
            refine wpAnyH_ready (rs := [13]) (by kernel_rfl) (by simp) ?_
            refine AllReadyH.cons rfl (fun K hK => ?_) AllReadyH.nil
            go_simp
            refine hK _ _ S6 (fun _ => ?_)
            clear hK K
            try simp only [Act.put, List.setIfInBounds_toArray, List.set_cons_zero, List.set_cons_succ]
            refine takeH 16 80 (v := .bool true) rfl rfl (by kernel_rfl) (by kernel_rfl) (by kernel_rfl) (fun _ _ _ h => h) S6 (by rfl) ?_ ?_
            · intro w' hSw
              go_simp
              try (with_reducible rfl)
            try simp only [Act.put, List.setIfInBounds_toArray, List.set_cons_zero, List.set_cons_succ]
            refine takeH 17 81 (v := .bool true) rfl rfl (by kernel_rfl) (by kernel_rfl) (by kernel_rfl) (fun _ _ _ h => h) S6 (by rfl) ?_ ?_
            · intro w' hSw
              go_simp
              try (with_reducible rfl)
            try simp only [Act.put, List.setIfInBounds_toArray, List.set_cons_zero, List.set_cons_succ]
            refine wpAnyH_done (by kernel_rfl) ?_ _
            go_wp2
            go_ret2
            exact HP.out _ HB7.out (O5.out.below HB8.out)
        · have HP := Lib.hid (fun W (h : Below w.heap.size w W) => RdPost.none (w := w) (w' := W) (b := b) (e := (en : Int)) (a := (an : Int)) (by rw [HC.out, if_neg (fun h => hp h.2.1)]) h)
          have hp1 : (((grp L).length : Int) == 1) = false := by simpa using (by omega : ¬ ((grp L).length : Int) = 1)
          have hp2 : (((grp L).length : Int) != 1) = true := by simpa using (by omega : ¬ ((grp L).length : Int) = 1)
          generalize (grp L).length = N at *
          go_upto_region 9 with (fail)
          refine wp_region_held (S := fun V => True) (by kernel_rfl) ?_
          change wpAnyH _ _ _ _ _ _ _ _ (World.drew wr)
          have HS : True := trivial
          refine takeH 0 64 (v := ?_) rfl rfl (by kernel_rfl) (by kernel_rfl) (by kernel_rfl) (fun _ _ _ h => h) HS (by rfl) ?_ ?_
          rotate_left
          · intro w' hSw
            go_simp
            try (with_reducible rfl)
          try simp only [Act.put, List.setIfInBounds_toArray, List.set_cons_zero, List.set_cons_succ]
          refine takeH 1 65 (v := ?_) rfl rfl (by kernel_rfl) (by kernel_rfl) (by kernel_rfl) (fun _ _ _ h => h) HS (by rfl) ?_ ?_
          rotate_left
          · intro w' hSw
            go_simp
            try (with_reducible rfl)
          try simp only [Act.put, List.setIfInBounds_toArray, List.set_cons_zero, List.set_cons_succ]
          refine takeH 2 66 (v := .bool false) rfl rfl (by kernel_rfl) (by kernel_rfl) (by kernel_rfl) (fun _ _ _ h => h) HS (by rfl) ?_ ?_
          · intro w' hSw
            go_simp
            try (rw [hnn])
          try simp only [Act.put, List.setIfInBounds_toArray, List.set_cons_zero, List.set_cons_succ]
          refine takeH 3 67 (v := .bool false) rfl rfl (by kernel_rfl) (by kernel_rfl) (by kernel_rfl) (fun _ _ _ h => h) HS (by rfl) ?_ ?_
          · intro w' hSw
            go_simp
            try (with_reducible rfl)
          try simp only [Act.put, List.setIfInBounds_toArray, List.set_cons_zero, List.set_cons_succ]
          refine takeH 4 68 (v := ?_) rfl rfl (by kernel_rfl) (by kernel_rfl) (by kernel_rfl) (fun _ _ _ h => h) HS (by rfl) ?_ ?_
          rotate_left
          · intro w' hSw
            go_simp
            try (with_reducible rfl)
          try simp only [Act.put, List.setIfInBounds_toArray, List.set_cons_zero, List.set_cons_succ]
          refine wpAnyH_ready (rs := [5]) (by kernel_rfl) (by simp) ?_
          refine AllReadyH.cons rfl (fun K hK => ?_) AllReadyH.nil
          go_simp
          refine (KP.out _ R5.out).mono ?_
          rintro x w5 ⟨rfl, b5⟩
          have HB5 := Lib.hid (B5.out.trans (b5.mono L5.out))
          refine hK _ _ trivial (fun _ => ?_)
          clear hK K b5
          try simp only [Act.put, List.setIfInBounds_toArray, List.set_cons_zero, List.set_cons_succ]
          refine takeH 6 70 (v := .bool true) rfl rfl (by kernel_rfl) (by kernel_rfl) (by kernel_rfl) (fun _ _ _ h => h) HS (by rfl) ?_ ?_
          · intro w' hSw
            go_simp
            try (rw [hp2])
          try simp only [Act.put, List.setIfInBounds_toArray, List.set_cons_zero, List.set_cons_succ]
          refine takeH 7 71 (v := .bool true) rfl rfl (by kernel_rfl) (by kernel_rfl) (by kernel_rfl) (fun _ _ _ h => h) HS (by rfl) ?_ ?_
          · intro w' hSw
            go_simp
            try (with_reducible rfl)
          try simp only [Act.put, List.setIfInBounds_toArray, List.set_cons_zero, List.set_cons_succ]
          refine takeH 8 72 (v := .bool true) rfl rfl (by kernel_rfl) (by kernel_rfl) (by kernel_rfl) (fun _ _ _ h => h) HS (by rfl) ?_ ?_
          · intro w' hSw
            go_simp
            try (with_reducible rfl)
          try simp only [Act.put, List.setIfInBounds_toArray, List.set_cons_zero, List.set_cons_succ]
          refine takeSkip 9 73 rfl rfl (by kernel_rfl) (by kernel_rfl) (by kernel_rfl) (fun _ _ _ h => h) HS (by rfl) ?_
          try simp only [Act.put, List.setIfInBounds_toArray, List.set_cons_zero, List.set_cons_succ]
          refine takeSkip 10 74 rfl rfl (by kernel_rfl) (by kernel_rfl) (by kernel_rfl) (fun _ _ _ h => h) HS (by rfl) ?_
          try simp only [Act.put, List.setIfInBounds_toArray, List.set_cons_zero, List.set_cons_succ]
          refine takeSkip 11 75 rfl rfl (by kernel_rfl) (by kernel_rfl) (by kernel_rfl) (fun _ _ _ h => h) HS (by rfl) ?_
          try simp only [Act.put, List.setIfInBounds_toArray, List.set_cons_zero, List.set_cons_succ]
          refine takeSkip 12 76 rfl rfl (by kernel_rfl) (by kernel_rfl) (by kernel_rfl) (fun _ _ _ h => h) HS (by rfl) ?_
          try simp only [Act.put, List.setIfInBounds_toArray, List.set_cons_zero, List.set_cons_succ]
          refine takeSkip 13 77 rfl rfl (by kernel_rfl) (by kernel_rfl) (by kernel_rfl) (fun _ _ _ h => h) HS (by rfl) ?_
          try simp only [Act.put, List.setIfInBounds_toArray, List.set_cons_zero, List.set_cons_succ]
          refine takeSkip 14 78 rfl rfl (by kernel_rfl) (by kernel_rfl) (by kernel_rfl) (fun _ _ _ h => h) HS (by rfl) ?_
          try simp only [Act.put, List.setIfInBounds_toArray, List.set_cons_zero, List.set_cons_succ]
          refine takeSkip 15 79 rfl rfl (by kernel_rfl) (by kernel_rfl) (by kernel_rfl) (fun _ _ _ h => h) HS (by rfl) ?_
          try simp only [Act.put, List.setIfInBounds_toArray, List.set_cons_zero, List.set_cons_succ]
          refine takeSkip 16 80 rfl rfl (by kernel_rfl) (by kernel_rfl) (by kernel_rfl) (fun _ _ _ h => h) HS (by rfl) ?_
          try simp only [Act.put, List.setIfInBounds_toArray, List.set_cons_zero, List.set_cons_succ]
          refine takeH 17 81 (v := .bool true) rfl rfl (by kernel_rfl) (by kernel_rfl) (by kernel_rfl) (fun _ _ _ h => h) HS (by rfl) ?_ ?_
          · intro w' hSw
            go_simp
            try (with_reducible rfl)
          try simp only [Act.put, List.setIfInBounds_toArray, List.set_cons_zero, List.set_cons_succ]
          refine wpAnyH_done (by kernel_rfl) ?_ _
          go_wp2
          go_ret2
          exact HP.out _ HB5.out
end Go.Proofs.Ytkfpjbefjflhfaa
