/- The document's stacks: place, with, Pending, Same. -/
import Derived.Test.YtchfpgdioclajaaVsE
import Derived.Test.YtchfpgdioclajaaVsF
import Derived.Test.YtchfpgdioclajaaVsS
import Derived.Deep.CutBlock
namespace Go.Proofs.Ytchfpgdioclajaa
open Go.RowKit
set_option linter.unusedVariables false
set_option linter.unusedSimpArgs false
set_option maxHeartbeats 1000000 in
set_option maxRecDepth 100000 in
theorem refPlace_any (key : ByteArray) (A : Option Addr) (n c : Nat) (l : List Vn) (t : Int) (w : World) (hl : l.length = n) (hn : n ≤ 1000) (hr : RG KV w A l) :
    Calls Try.prog 50 #[.agg #[.string key, .slice A n c], .int .i64 t] w fun e w' => e = .returned (.int .i64 (vsIdx l t)) ∧ Below w.heap.size w w' := by
  have HB := Lib.hid (below1 w (.cells #[.string key, .slice A n c] 24))
  have SX := Lib.hid (StBox.new w key A n c 24)
  have HL := Lib.hid hl
  have HR := Lib.hid (fun W (h : Below w.heap.size w W) => hr.below h)
  have HF := Lib.hid (fun (k : Nat) (x : Vn) => vsIdx_found (l := l) (t := t) (k := k) (x := x))
  have HN := Lib.hid (vsIdx_none (l := l) (t := t))
  generalize vsIdx l t = R at HF HN ⊢
  clear hl hr
  go_enter Try.func50, Try.ntmps50
  go_upto_region 1 with fail
  generalize w.alloc (.cells #[.string key, .slice A n c] 24) = W0 at *
  have s1 := SX.out.c1
  go_wp2
  go_loop [5] (fun i => ∃ k : Nat, k ≤ n ∧ i = .int .i64 (k : Int) ∧ ∀ (j : Nat) (v : Vn), j < k → l[j]? = some v → vsPend t v = false) (fun i => n - (intOf i).toNat)
  case atStart => exact ⟨0, Nat.zero_le _, rfl, fun j v hj => by omega⟩
  case round =>
    obtain ⟨k, hk, rfl, hf⟩ := hrel
    have HA := Lib.hid hf
    by_cases hlt : k < n
    · obtain ⟨x, hx⟩ : ∃ x, l[k]? = some x := ⟨l[k]'(by rw [HL.out]; exact hlt), List.getElem?_eq_getElem _⟩
      obtain ⟨ad, rfl, hv⟩ := (HR.out _ HB.out).vn hx
      have c0 := hv.d0; have c1 := hv.d1
      have HX := Lib.hid hx
      by_cases h1 : x.ts = 0
      · by_cases h2 : x.txn = t
        · obtain ⟨e1, e2⟩ := HF.out k x hf hx (by simp [vsPend, h1, h2])
          have d1 : (x.ts == 0) = true := by simp [h1]
          have d2 : (x.txn == t) = true := by simp [h2]
          clear hf hx hv h1 h2
          go_wp2
          go_ret
          exact ⟨by first | rfl | (rw [e2]; rfl), HB.out⟩
        · have HP := Lib.hid (show vsPend t x = false from by simp [vsPend, h2])
          have d1 : (x.ts == 0) = true := by simp [h1]
          have d2 : (x.txn == t) = false := by simp [h2]
          clear hf hx hv h1 h2
          go_wp2
          go_round
          case rel => exact ⟨k + 1, by omega, by go_num, fun j v hj hv => by
            by_cases e : j = k
            · subst e
              rw [HX.out] at hv
              injection hv with hv
              rw [← hv]; exact HP.out
            · exact HA.out j v (by omega) hv⟩
          case measure => simp [intOf]; omega
      · have HP := Lib.hid (show vsPend t x = false from by simp [vsPend, h1])
        have d1 : (x.ts == 0) = false := by simp [h1]
        clear hf hx hv h1
        go_wp2
        go_round
        case rel => exact ⟨k + 1, by omega, by go_num, fun j v hj hv => by
          by_cases e : j = k
          · subst e
            rw [HX.out] at hv
            injection hv with hv
            rw [← hv]; exact HP.out
          · exact HA.out j v (by omega) hv⟩
        case measure => simp [intOf]; omega
    · obtain rfl : k = n := by omega
      obtain ⟨e1, e2⟩ := HN.out (by rw [HL.out]; exact hf)
      clear hf
      go_wp2
      go_ret
      exact ⟨by first | rfl | (rw [e2]; rfl), HB.out⟩
set_option maxHeartbeats 1000000 in
set_option maxRecDepth 100000 in
theorem refWith_any (key : ByteArray) (u : Value) (B : Option Addr) (m d : Nat) (L : List Vn) (w : World) (hu : ∃ A n c, u = .slice A n c) (hm : L.length = m) (hm1 : m ≤ 1000) (hr : RG KV w B L) :
    Calls Try.prog 87 #[.agg #[.string key, u], .slice B m d] w fun e w' => ∃ v', e = .returned (.agg #[.string key, v']) ∧ OG KV 26 w.heap.size w' v' L ∧ Below w.heap.size w w' := by
  obtain ⟨A, n, c, rfl⟩ := hu
  have HB := Lib.hid (below2 w (.cells #[.string key, .slice A n c] 24) (.cells #[.string ⟨#[]⟩, .slice none 0 0] 24))
  have SX := Lib.hid ((StBox.new w key A n c 24).alloc (.cells #[.string ⟨#[]⟩, .slice none 0 0] 24))
  have RX : Hid (StBox ((w.alloc (.cells #[.string key, .slice A n c] 24)).alloc (.cells #[.string ⟨#[]⟩, .slice none 0 0] 24)) (w.heap.size + 1) ⟨#[]⟩ none 0 0) := Lib.hid (by
    have := StBox.new (w.alloc (.cells #[.string key, .slice A n c] 24)) ⟨#[]⟩ none 0 0 24
    rw [heap_size_alloc] at this
    exact this)
  have HR := Lib.hid (fun W (h : Below w.heap.size w W) => hr.below h)
  have HM := Lib.hid hm
  clear hr hm
  go_enter Try.func87, Try.ntmps87
  go_upto_region 2 with fail
  generalize (w.alloc (.cells #[.string key, .slice A n c] 24)).alloc (.cells #[.string ⟨#[]⟩, .slice none 0 0] 24) = W0 at *
  have s0 := SX.out.drew.c0
  have hZ := Lib.hid (show w.heap.size + 1 < W0.drew.heap.size from RX.out.lt)
  go_region_held3 (fun W => W.cell? ⟨w.heap.size, 0, none⟩ = some (.string key)) (first | with_reducible exact s0 | with_reducible exact t0 | fail)
    (first
      | (refine step_append_G tgV rfl (.tmp 8) (.tmp 9) rfl W0.drew.heap.size (.slice none 0 0) [] (by simp [Act.eval, Act.put]) OG.nil B m d L (by simp [Act.eval, Act.put]) HM.out (HR.out _ HB.out.drew) Apart.nil (by simp; omega) (Nat.le_refl _) ?_; intro v1 w1 o1 b1 _ _; obtain ⟨A1, c1, e1, h11, h12, h13, h14⟩ := o1.rg; rw [List.nil_append] at e1; subst e1; have O1 := Lib.hid (o1.setSt hZ.out key (.slice A1 L.length c1)); have B1 := Lib.hid (belowSetSt (q := w.heap.size + 1) (HB.out.drew.trans (b1.mono (by have := hZ.out; omega))) (by omega) key (.slice A1 L.length c1)); have R1 := RX.out.drew.below b1 hZ.out; have S1 := SX.out.drew.below b1 (by have := hZ.out; omega); have P1 := Lib.hid (R1.put key A1 L.length c1); have s0 := S1.c0; have t0 := (S1.offSt (show w.heap.size + 1 ≠ w.heap.size from by omega) key (.slice A1 L.length c1)).c0; unfold setSt at t0; have r0 := R1.c0; have r1 := R1.c1; have g0 := R1.f0; have g1 := R1.f1; clear o1 b1 h11 h12 h13 h14 R1 S1)
      | fail)
  all_goals
    go_wp2
    have z0 := P1.out.c0; have z1 := P1.out.c1
    have o4 := O1.out; have b4 := B1.out
    unfold setSt at z0 z1 o4 b4
    refine bodyPost_ret (v := .agg #[.string key, .slice A1 L.length c1]) (by simp [results, Try.results87, go_sem, z0, z1]) rfl ⟨_, rfl, by rw [List.nil_append] at o4; exact o4.lift HB.out.drew.size, b4⟩
set_option maxHeartbeats 1000000 in
set_option maxRecDepth 100000 in
theorem refPending_any (key : ByteArray) (A : Option Addr) (n c : Nat) (l : List Vn) (t : Int) (w : World) (hl : l.length = n) (hn : n ≤ 1000) (hr : RG KV w A l) :
    Calls Try.prog 16 #[.agg #[.string key, .slice A n c], .int .i64 t] w fun e w' => e = .returned (.tuple #[(vsGot l t).v, .bool (vsHas l t)]) ∧ Below w.heap.size w w' := by
  have KI := Lib.hid (fun (W : World) (h : Below w.heap.size w W) => refPlace_any key A n c l t W hl hn (hr.below h))
  have HB := Lib.hid (below2 w (.cells #[.string key, .slice A n c] 24) (.cells #[.int .i64 0, .int .i64 0, .bool false, .string ⟨#[]⟩] 26))
  have SX := Lib.hid ((StBox.new w key A n c 24).alloc (.cells #[.int .i64 0, .int .i64 0, .bool false, .string ⟨#[]⟩] 26))
  have VX : Hid (VnBox ((w.alloc (.cells #[.string key, .slice A n c] 24)).alloc (.cells #[.int .i64 0, .int .i64 0, .bool false, .string ⟨#[]⟩] 26)) (w.heap.size + 1) vn0) := Lib.hid (by
    have := VnBox.new (w.alloc (.cells #[.string key, .slice A n c] 24)) vn0 26
    rw [heap_size_alloc] at this
    exact this)
  have HR := Lib.hid (fun W (h : Below w.heap.size w W) => hr.below h)
  have HL := Lib.hid hl
  by_cases h : vsAt l t < l.length
  · obtain ⟨k, x, e1, hk, hx, e2, e3, e4⟩ := vsGot_some h
    rw [e3, e4]
    rw [e2] at KI
    have HX := Lib.hid hx
    rw [hl] at hk
    clear e1 e2 e3 e4 h hx hl hr
    unfold Vn.v
    go_enter Try.func16, Try.ntmps16
    go_upto_region 1 with fail
    generalize (w.alloc (.cells #[.string key, .slice A n c] 24)).alloc (.cells #[.int .i64 0, .int .i64 0, .bool false, .string ⟨#[]⟩] 26) = W0 at *
    have s0 := SX.out.c0; have s1 := SX.out.c1
    go_upto_region 2 with (go_at_call 50; refine (KI.out _ HB.out).mono ?_; rintro e w2 ⟨rfl, b4⟩; have HB := Lib.hid (HB.out.trans (b4.mono HB.out.size)); have SX := Lib.hid (SX.out.on b4); have VX := Lib.hid (VX.out.on b4); clear b4)
    have s1 := SX.out.c1
    obtain ⟨ad, rfl, hv⟩ := (HR.out _ HB.out).vn HX.out
    have c0 := hv.d0; have c1 := hv.d1; have c2 := hv.d2; have c3 := hv.d3
    obtain ⟨y0, y1, y2, y3, g0, g1, g2, g3⟩ := VX.out
    simp only [vn0] at y0 y1 y2 y3
    clear hv
    go_wp2
    have P := VX.out.put x
    have z0 := P.c0; have z1 := P.c1; have z2 := P.c2; have z3 := P.c3
    unfold setVn at z0 z1 z2 z3
    refine bodyPost_ret (v := .tuple #[.agg #[.int .i64 x.txn, .int .i64 x.ts, .bool x.gone, .string x.val], .bool true]) (by simp [results, Try.results16, go_sem, z0, z1, z2, z3]) rfl ⟨rfl, ?_⟩
    exact Below.setVn HB.out (q := w.heap.size + 1) (by omega) x.txn x.ts x.gone x.val
  · obtain ⟨e1, e2, e3⟩ := vsGot_none h
    rw [e2, e3]
    rw [e1] at KI
    clear e1 e2 e3 h hl hr
    unfold Vn.v
    go_enter Try.func16, Try.ntmps16
    go_upto_region 1 with fail
    generalize (w.alloc (.cells #[.string key, .slice A n c] 24)).alloc (.cells #[.int .i64 0, .int .i64 0, .bool false, .string ⟨#[]⟩] 26) = W0 at *
    have s0 := SX.out.c0; have s1 := SX.out.c1
    go_upto_region 2 with (go_at_call 50; refine (KI.out _ HB.out).mono ?_; rintro e w2 ⟨rfl, b4⟩; have HB := Lib.hid (HB.out.trans (b4.mono HB.out.size)); have SX := Lib.hid (SX.out.on b4); have VX := Lib.hid (VX.out.on b4); clear b4)
    obtain ⟨y0, y1, y2, y3, g0, g1, g2, g3⟩ := VX.out
    simp only [vn0] at y0 y1 y2 y3
    go_wp2
    have P := VX.out.put vn0
    have z0 := P.c0; have z1 := P.c1; have z2 := P.c2; have z3 := P.c3
    unfold setVn at z0 z1 z2 z3
    simp only [vn0] at z0 z1 z2 z3
    refine bodyPost_ret (v := .tuple #[.agg #[.int .i64 0, .int .i64 0, .bool false, .string ⟨#[]⟩], .bool false]) (by simp [results, Try.results16, go_sem, z0, z1, z2, z3]) rfl ⟨rfl, ?_⟩
    exact Below.setVn HB.out (q := w.heap.size + 1) (by omega) 0 0 false ⟨#[]⟩
set_option maxHeartbeats 1000000 in
set_option maxRecDepth 100000 in
theorem refSame_any (k1 k2 : ByteArray) (A B : Option Addr) (n m c d : Nat) (L M : List Vn) (w : World) (hl : L.length = n) (hm : M.length = m) (hn : n ≤ 1000) (hr : RG KV w A L) (hs : RG KV w B M) :
    Calls Try.prog 13 #[.agg #[.string k1, .slice A n c], .agg #[.string k2, .slice B m d]] w fun e w' => e = .returned (.bool (vsSame k1 L k2 M)) ∧ Below w.heap.size w w' := by
  have hq := ba_toList k1 k2
  have HB := Lib.hid (below2 w (.cells #[.string k1, .slice A n c] 24) (.cells #[.string k2, .slice B m d] 24))
  have SX := Lib.hid ((StBox.new w k1 A n c 24).alloc (.cells #[.string k2, .slice B m d] 24))
  have TX : Hid (StBox ((w.alloc (.cells #[.string k1, .slice A n c] 24)).alloc (.cells #[.string k2, .slice B m d] 24)) (w.heap.size + 1) k2 B m d) := Lib.hid (by
    have := StBox.new (w.alloc (.cells #[.string k1, .slice A n c] 24)) k2 B m d 24
    rw [heap_size_alloc] at this
    exact this)
  have HL := Lib.hid hl
  have HM := Lib.hid hm
  have HR := Lib.hid (fun W (h : Below w.heap.size w W) => hr.below h)
  have HS := Lib.hid (fun W (h : Below w.heap.size w W) => hs.below h)
  obtain ⟨R, hR⟩ : ∃ R, R = vsSame k1 L k2 M := ⟨_, rfl⟩
  rw [← hR]
  have HV : Hid (R = (decide (k1 = k2) && decide (L = M))) := Lib.hid hR
  clear hR hr hs
  by_cases hk : k1 = k2
  · rw [decide_eq_true hk] at hq
    have HK := Lib.hid hk
    clear hk
    by_cases hnm : n = m
    · subst hnm
      have hb0 : ((n : Int) != (n : Int)) = false := by simp
      clear hl hm
      go_enter Try.func13, Try.ntmps13
      go_upto_region 1 with fail
      generalize (w.alloc (.cells #[.string k1, .slice A n c] 24)).alloc (.cells #[.string k2, .slice B n d] 24) = W0 at *
      have s0 := SX.out.c0; have s1 := SX.out.c1; have t0 := TX.out.c0; have t1 := TX.out.c1
      go_wp2
      go_loopw [5] (fun i wr => ∃ (k q : Nat), k ≤ n ∧ i = .int .i64 k ∧ L.take k = M.take k ∧ wr = W0.drewN q) (fun i _ => n - (intOf i).toNat)
      case atStart => exact ⟨0, 0, Nat.zero_le _, rfl, rfl, rfl⟩
      case round =>
        obtain ⟨k, q, hk, rfl, hP, hwr⟩ := hrel
        have hb := drewN_below HB.out q
        have bq := drewN_below (Below.refl W0.heap.size W0) q
        rw [← hwr] at hb bq
        have s0 := (SX.out.on bq).c0; have s1 := (SX.out.on bq).c1; have t0 := (TX.out.on bq).c0; have t1 := (TX.out.on bq).c1
        have HW := Lib.hid hwr
        clear hwr bq
        by_cases hlt : k < n
        · obtain ⟨a, ha⟩ : ∃ a, L[k]? = some a := ⟨L[k]'(by rw [HL.out]; omega), List.getElem?_eq_getElem _⟩
          obtain ⟨b, hbb⟩ : ∃ b, M[k]? = some b := ⟨M[k]'(by rw [HM.out]; omega), List.getElem?_eq_getElem _⟩
          obtain ⟨ad, rfl, hv⟩ := (HR.out _ hb).vn ha
          obtain ⟨bd, rfl, hv2⟩ := (HS.out _ hb).vn hbb
          have c0 := hv.d0; have c1 := hv.d1; have c2 := hv.d2; have c3 := hv.d3
          have d0 := hv2.d0; have d1 := hv2.d1; have d2 := hv2.d2; have d3 := hv2.d3
          have HT := Lib.hid (vs_take_snoc hP ha hbb)
          have HN := Lib.hid (vs_ne_at ha hbb)
          have heq := fun W => vsEqV 9998 W a b
          rw [vsEq_dec] at heq
          unfold Vn.v at heq
          have HBB := Lib.hid (fun q => drewN_below hb q)
          clear ha hbb hP hb hv hv2
          by_cases hab : a = b
          · rw [decide_eq_true hab] at heq
            have HT2 := Lib.hid (HT.out hab)
            clear hab HT HN
            go_upto_region 6 with fail
            go_quiet (fail)
            go_wp2
            go_round
            case rel => exact ⟨k + 1, _, by omega, by go_num, HT2.out, by rw [HW.out, World.drewN_drewN]⟩
            case measure => simp [intOf]; omega
          · rw [decide_eq_false hab] at heq
            have HN2 := Lib.hid (HN.out hab)
            clear hab HT HN
            go_upto_region 6 with fail
            go_quiet (fail)
            go_wp2
            go_ret
            exact ⟨by rw [HV.out, decide_eq_false HN2.out, Bool.and_false]; rfl, HBB.out _⟩
        · obtain rfl : k = n := by omega
          have HT2 : Hid (L = M) := Lib.hid (by
            rw [List.take_of_length_le (by rw [HL.out]; exact Nat.le_refl _), List.take_of_length_le (by rw [HM.out]; exact Nat.le_refl _)] at hP
            exact hP)
          have HBB := Lib.hid hb
          clear hP hb
          go_wp2
          go_ret
          exact ⟨by rw [HV.out, decide_eq_true HT2.out, decide_eq_true HK.out]; rfl, HBB.out⟩
    · have hne : L ≠ M := fun e => hnm (by rw [← hl, ← hm, e])
      have HN := Lib.hid hne
      have hb0 : ((n : Int) != (m : Int)) = true := by rw [bne_iff_ne]; omega
      clear hne hnm hl hm
      go_enter Try.func13, Try.ntmps13
      go_wp2
      go_ret
      exact ⟨by rw [HV.out, decide_eq_false HN.out, Bool.and_false]; rfl, HB.out⟩
  · rw [decide_eq_false hk] at hq
    have HK := Lib.hid hk
    clear hk hl hm
    go_enter Try.func13, Try.ntmps13
    go_wp2
    go_ret
    exact ⟨by rw [HV.out, decide_eq_false HK.out, Bool.false_and]; rfl, HB.out⟩
end Go.Proofs.Ytchfpgdioclajaa
