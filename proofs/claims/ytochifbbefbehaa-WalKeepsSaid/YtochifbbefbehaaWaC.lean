/- The package wal: texts of rows put together; Records, Waits; New. -/
import Derived.Test.YtochifbbefbehaaWaB
import Derived.Deep.DeepMust
namespace Go.Proofs.Ytochifbbefbehaa
open Go.RowKit
set_option linter.unusedVariables false
set_option linter.unusedSimpArgs false
theorem flat_take {α : Type} {L : List (List α)} {k : Nat} {l : List α} (h : L[k]? = some l) : (L.take (k + 1)).flatten = (L.take k).flatten ++ l := by
  rw [List.take_add_one, h, List.flatten_append]
  simp
theorem flat_le {α : Type} (L : List (List α)) (k : Nat) : (L.take k).flatten.length ≤ L.flatten.length := by
  conv => rhs; rw [← List.take_append_drop k L]
  rw [List.flatten_append, List.length_append]
  omega
set_option maxRecDepth 100000 in
set_option maxHeartbeats 1000000 in
theorem concatS_any (A : Option Addr) (n c : Nat) (L : List (List (List UInt8))) (W : World) (hl : L.length = n) (hn : n ≤ 1000) (hr : RG (CR.list CR.str) W A L) (hs : L.flatten.length ≤ 1000) :
    Calls Try.prog 37 #[.slice A n c] W fun e w' => ∃ v, e = .returned v ∧ OG CR.str 9 W.heap.size w' v L.flatten ∧ Below W.heap.size W w' := by
  have HL := Lib.hid hl
  have HR := Lib.hid hr
  have HN := Lib.hid (flat_le L)
  have HF := Lib.hid (show (L.take n).flatten = L.flatten from by rw [List.take_of_length_le (by omega)])
  clear hl hr
  generalize hz : L.flatten.length = z at *
  have HZ := Lib.hid hz
  clear hz
  go_enter Try.func37, Try.ntmps37
  go_wp2
  go_loop [3, 5, 11] (fun s _ i => ∃ k : Nat, k ≤ n ∧ i = .int .i64 (k : Int) ∧ s = .int .i64 ((L.take k).flatten.length : Int)) (fun _ _ i => n - (intOf i).toNat)
  case atStart => exact ⟨0, Nat.zero_le _, rfl, rfl⟩
  case round =>
    obtain ⟨k, hk, rfl, rfl⟩ := hrel
    by_cases hlt : k < n
    · obtain ⟨l, hl⟩ : ∃ l, L[k]? = some l := ⟨L[k]'(by rw [HL.out]; exact hlt), List.getElem?_eq_getElem _⟩
      obtain ⟨ad, B, cc, rfl, hc, h1, h2, h3⟩ := HR.out.listAt hl
      have hz := flat_take hl
      have hy := HN.out (k + 1)
      have hzl := congrArg List.length hz
      rw [List.length_append] at hzl
      have HY := Lib.hid hzl
      have hxy : ((L.take k).flatten.length : Int) + (l.length : Int) = ((L.take (k + 1)).flatten.length : Int) := by omega
      clear hl hz h3 HL HR HN HF HZ hzl
      generalize hyy : (L.take (k + 1)).flatten.length = y at *
      have HYY := Lib.hid hyy
      clear hyy
      generalize (L.take k).flatten.length = x at *
      generalize l.length = m at *
      go_wp2
      go_round
      case rel => exact ⟨k + 1, by omega, by go_num, by rw [HYY.out]⟩
      case measure => simp [intOf]; omega
    · obtain rfl : k = n := by omega
      have hx : (L.take k).flatten.length = z := by rw [HF.out]; exact HZ.out
      rw [hx]
      clear hx
      have KG := Lib.hid (growS_any z (by omega) W)
      go_upto_region 11 with (first | (go_at_call 51; refine KG.out.mono ?_; rintro e w1 ⟨v1, rfl, o1, b1⟩; have O1 := Lib.hid o1; have B1 := Lib.hid b1; clear o1 b1) | fail)
      have ST : Hid (∃ (j : Nat), j ≤ k ∧ (Value.int .i64 0) = .int .i64 (j : Int) ∧ OG CR.str 9 W.heap.size w1 v1 (L.take j).flatten ∧ Below W.heap.size W w1) := Lib.hid ⟨0, Nat.zero_le _, rfl, O1.out, B1.out⟩
      clear O1 B1 KG
      go_loopw [6, 8, 27] (fun v _ i wr => ∃ (j : Nat), j ≤ k ∧ i = .int .i64 (j : Int) ∧ OG CR.str 9 W.heap.size wr v (L.take j).flatten ∧ Below W.heap.size W wr) (fun _ _ i _ => k - (intOf i).toNat)
      case atStart => exact ST.out
      case round =>
        clear ST
        obtain ⟨j, hj, rfl, ho, hb⟩ := hrel
        have HO := Lib.hid ho
        have HB := Lib.hid hb
        by_cases hlt : j < k
        · obtain ⟨l, hl⟩ : ∃ l, L[j]? = some l := ⟨L[j]'(by rw [HL.out]; exact hlt), List.getElem?_eq_getElem _⟩
          obtain ⟨ad, B, cc, rfl, hc, h1, h2, h3⟩ := (HR.out.below hb).listAt hl
          have hz := flat_take hl
          have hy := HN.out j
          have HT := Lib.hid hz
          have hlz := HN.out (j + 1)
          have hll := congrArg List.length hz
          rw [List.length_append] at hll
          have H3 := Lib.hid h3
          clear hl hz h3 ho hb
          go_wp2_with (at_builtin; (refine wpList_append_G tgS rfl _ _ rfl W.heap.size _ (L.take j).flatten rfl HO.out B l.length cc l rfl rfl H3.out (Apart.flat str_flat) (by omega) HB.out.size ?_; intro v2 w2 o2 b2 _ _; have O2 := Lib.hid o2; have B2 := Lib.hid b2; clear o2 b2))
          go_roundw
          case rel => exact ⟨j + 1, by omega, by go_num, by rw [HT.out]; exact O2.out, HB.out.trans B2.out⟩
          case measure => simp [intOf]; omega
        · obtain rfl : j = k := by omega
          clear ho hb
          go_wp2
          go_ret
          exact ⟨_, rfl, by rw [← HF.out]; exact HO.out, HB.out⟩
set_option maxHeartbeats 400000 in
theorem waRecords_any {base : Nat} {F : Ft} {G : Nat} {v5 v6 : Value} {Y : Nat → Prop} {W : World} {g : Lg} (h : LgAt base F G v5 v6 Y W g) (hn : g.recs.length ≤ 1000) :
    Calls Try.prog 17 #[.pointer (some ⟨G, 0, none⟩)] W fun e w' => ∃ v, e = .returned v ∧ OG CR.str 9 W.heap.size w' v g.recs ∧ Below W.heap.size W w' := by
  have c5 := h.c5
  have KN := Lib.hid (waNone_any h)
  have KC := Lib.hid (cloneS_any h.recs (by omega))
  obtain ⟨A, c, rfl, _⟩ := h.recs.rg
  clear h
  go_enter Try.func17, Try.ntmps17
  go_wp2_with (first
    | (go_at_call 28; refine KN.out.mono ?_; rintro e w' ⟨rfl, rfl⟩)
    | (go_at_call 35; refine KC.out.mono ?_; rintro e w' ⟨v, rfl, o1, b1⟩)
    | fail)
  go_ret
  exact ⟨v, rfl, o1, b1⟩
set_option maxHeartbeats 400000 in
theorem waWaits_any {base : Nat} {F : Ft} {G : Nat} {v5 v6 : Value} {Y : Nat → Prop} {W : World} {g : Lg} (h : LgAt base F G v5 v6 Y W g) (hn : g.wt.length ≤ 1000) :
    Calls Try.prog 22 #[.pointer (some ⟨G, 0, none⟩)] W fun e w' => ∃ v, e = .returned v ∧ OG CR.str 9 W.heap.size w' v g.wt ∧ Below W.heap.size W w' := by
  have c6 := h.c6
  have KN := Lib.hid (waNone_any h)
  obtain ⟨A, c, rfl, _, _, hr⟩ := h.wait.rg
  have hgl := grp_len g.wt
  have hgf := grp_flat g.wt
  have KC := Lib.hid (concatS_any A (grp g.wt).length c (grp g.wt) W rfl (by omega) hr (by rw [hgf]; omega))
  rw [hgf] at KC
  clear h hr hgf
  go_enter Try.func22, Try.ntmps22
  go_wp2_with (first
    | (go_at_call 28; refine KN.out.mono ?_; rintro e w' ⟨rfl, rfl⟩)
    | (go_at_call 37; refine KC.out.mono ?_; rintro e w' ⟨v, rfl, o1, b1⟩)
    | fail)
  go_ret
  exact ⟨v, rfl, o1, b1⟩
set_option maxHeartbeats 1000000 in
theorem waFaultOf_ok {base : Nat} {F : Ft} {W : World} {d : Dk} (h : DkAt base F W d) (ho : d.off = false) {first count epoch : Nat} (h1 : count ≤ 256) (h2 : first + count ≤ d.rows.length) (h3 : 1 ≤ epoch) (h4 : epoch ≤ 1099511627776) :
    Calls Try.prog 24 #[.pointer (some ⟨F.b, 0, none⟩), .int .i64 (first : Int), .int .i64 (count : Int), .int .i64 (epoch : Int)] W fun e w' => e = .returned (.int .i64 0) ∧ W = w' := by
  have KO := Lib.hid (off_any h)
  have KS := Lib.hid (size_any h)
  have hm := h.ok.many
  rw [ho] at KO
  clear h
  generalize d.rows.length = N at *
  have q1 : ¬ ((N : Int) - (count : Int) < (first : Int)) := by omega
  have q2 : ¬ ((epoch : Int) < 1) := by omega
  have q3 : ¬ ((1099511627776 : Int) < (epoch : Int)) := by omega
  have q4 : ¬ ((256 : Int) < (count : Int)) := by omega
  have q5 : ¬ ((first : Int) < 0) := by omega
  have q6 : ¬ ((count : Int) < 0) := by omega
  go_enter Try.func24, Try.ntmps24
  go_wp2_with (first
    | (go_at_call 15; refine KO.out.mono ?_; rintro e w' ⟨rfl, rfl⟩)
    | (go_at_call 38; refine KS.out.mono ?_; rintro e w' ⟨rfl, rfl⟩)
    | fail)
  go_ret
  exact ⟨rfl, rfl⟩
set_option maxHeartbeats 1000000 in
theorem waNew_any {base : Nat} {F : Ft} {W : World} {d : Dk} (h : DkAt base F W d) (hbase : base ≤ W.heap.size) (ho : d.off = false) {first count epoch : Nat} (h1 : count ≤ 256) (h2 : first + count ≤ d.rows.length) (h3 : 1 ≤ epoch) (h4 : epoch ≤ 1099511627776) :
    Calls Try.prog 8 #[.pointer (some ⟨F.b, 0, none⟩), .int .i64 (first : Int), .int .i64 (count : Int), .int .i64 (epoch : Int)] W fun e w' => ∃ G, e = .returned (.tuple #[.pointer (some ⟨G, 0, none⟩), .int .i64 0]) ∧ W.heap.size ≤ G ∧ Below W.heap.size W w' ∧
      ∀ Z : Nat → Prop, (∀ b, F.has b → ¬ Z b) → (∀ b, Z b → b < W.heap.size) → LW base F G Z w' d (newG first count epoch) := by
  have KF := Lib.hid (waFaultOf_ok h ho h1 h2 h3 h4)
  have hm := h.ok.many
  have FIN : Hid (∀ Z : Nat → Prop, (∀ b, F.has b → ¬ Z b) → (∀ b, Z b → b < W.heap.size) → LW base F W.heap.size Z (W.alloc (.cells (lgCells F (newG first count epoch) (.slice none 0 0) (.slice none 0 0)) 58)) d (newG first count epoch)) := by
    refine Lib.hid fun Z hz1 hz2 => ⟨h.alloc _, newG_ok h1 (by omega) h3 h4, _, _, fun _ => False, ⟨hbase, fun hk => by have := h.inside _ hk; omega, id, heap_alloc_last W _, OG.nil, fun b hb => (by cases hb), ?_, fun b hb => hb.elim⟩, ?_⟩
    · show PW base _ _ _ (grp [])
      rw [grp_nil]
      exact PW.nil
    · rintro b (hb | rfl | hb | hb)
      · exact hz1 b hb
      · intro hz
        have := hz2 _ hz
        omega
      · cases hb
      · exact hb.elim
  have HB := Lib.hid ((Below.refl W.heap.size W).alloc (Nat.le_refl _) (.cells (lgCells F (newG first count epoch) (.slice none 0 0) (.slice none 0 0)) 58))
  clear h ho h1 h2 h3 h4 hm
  go_enter Try.func8, Try.ntmps8
  go_wp2_with (first
    | (go_at_call 24; refine KF.out.mono ?_; rintro e w' ⟨rfl, rfl⟩)
    | fail)
  go_ret2
  exact ⟨_, rfl, Nat.le_refl _, HB.out, FIN.out⟩
/-- A cell of a log is set. -/
theorem LgAt.set {base : Nat} {F : Ft} {G : Nat} {v5 v6 v5' v6' : Value} {Y : Nat → Prop} {W : World} {g g' : Lg} (h : LgAt base F G v5 v6 Y W g) (i : Nat) (u : Value) (hc : (lgCells F g v5 v6).setIfInBounds i u = lgCells F g' v5' v6')
    (hr : OG CR.str 9 base W v5' g'.recs) (hg : ∀ b, v5'.ownBlock = some b → b ≠ G ∧ ¬ F.has b ∧ ¬ Y b) (hw : PW base Y W v6' (grp g'.wt)) : LgAt base F G v5' v6' Y (W.setCell ⟨G, i, none⟩ u) g' := by
  have ho : ∀ b, b ≠ G → (W.setCell ⟨G, i, none⟩ u).heap[b]? = W.heap[b]? := setCell_else W G i u
  refine ⟨h.gb, h.nf, h.ny, ?_, hr.keepOwn str_flat fun b hb => ho b (hg b hb).1, hg, hw.keep fun b hb => ho b fun e => h.ny (by rw [← e]; exact hb), fun b hb => ⟨(h.yb b hb).1, ?_, (h.yb b hb).2.2⟩⟩
  · rw [heap_setCell_block u h.cells, hc]
  · rw [show (W.setCell ⟨G, i, none⟩ u).heap.size = W.heap.size from by simp [World.setCell]]
    exact (h.yb b hb).2.1
end Go.Proofs.Ytochifbbefbehaa
