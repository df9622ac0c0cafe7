/- The package wal: the ring is read; Open. -/
import Derived.Test.YtochifbbefbehaaWaC
import Derived.Test.YtochifbbefbehaaWsI
namespace Go.Proofs.Ytochifbbefbehaa
open Go.RowKit
set_option linter.unusedVariables false
set_option linter.unusedSimpArgs false
theorem ringP_len (d : Dk) (first count : Nat) : (ringP d first count).length = count := by simp [ringP]
theorem ringP_at (d : Dk) (first : Nat) {count k : Nat} (h : k < count) : (ringP d first count)[k]? = some (d.at_ (first + k)) := by simp [ringP, h]
theorem drew_below {w0 w : World} (h : Below w0.heap.size w0 w) : Below w0.heap.size w0 w.drew := h.drew
set_option maxRecDepth 100000 in
set_option maxHeartbeats 2000000 in
theorem waRead_any {base : Nat} {F : Ft} {G : Nat} {v5 v6 : Value} {Y : Nat → Prop} {W : World} {d : Dk} {g : Lg} (dk : DkAt base F W d) (h : LgAt base F G v5 v6 Y W g) (ho : d.off = false) (h1 : g.count ≤ 256) (h2 : g.first + g.count ≤ d.rows.length) :
    Calls Try.prog 33 #[.pointer (some ⟨G, 0, none⟩)] W fun e w' => ∃ A, e = .returned (.tuple #[.slice A g.count g.count, .int .i64 0]) ∧ RG KB w' A (ringP d g.first g.count) ∧ Below W.heap.size W w' := by
  have hm := dk.ok.many
  have CC := Lib.hid (show ∀ V, Below W.heap.size W V → V.cell? ⟨G, 0, none⟩ = some (.pointer (some ⟨F.b, 0, none⟩)) ∧ V.cell? ⟨G, 1, none⟩ = some (.int .i64 (g.first : Int)) from fun V hb => by
    have := h.keep hb.size fun b hb' => hb.block b (ow_lt dk h (.inr hb')).2
    exact ⟨this.c0, this.c1⟩)
  have c2 := h.c2
  have KR := Lib.hid (show ∀ V, Below W.heap.size W V → ∀ k, k < g.count → Calls Try.prog 49 #[.pointer (some ⟨F.b, 0, none⟩), .int .i64 ((g.first : Int) + (k : Int))] V fun e w' => ∃ A, e = .returned (.tuple #[.slice A 256 256, .int .i64 0]) ∧ RB w' A (d.at_ (g.first + k)) ∧ Below V.heap.size V w' ∧ ∀ ad, A = some ad → V.heap.size ≤ ad.block from fun V hb k hk => by
    have hf : d.faultAt ((g.first : Int) + (k : Int)) = 0 := by
      unfold Dk.faultAt
      rw [ho, if_neg (by simp), if_neg (by omega)]
    have hr : d.reads ((g.first : Int) + (k : Int)) = d.at_ (g.first + k) := by
      unfold Dk.reads
      rw [if_pos hf, show ((g.first : Int) + (k : Int)).toNat = g.first + k from by omega]
    have hl : (d.at_ (g.first + k)).length = 256 := Dk.at_len dk.ok (by omega)
    have := read_new (dk.below hb) ((g.first : Int) + (k : Int))
    rw [hr, hl, hf] at this
    exact this)
  have HLN := Lib.hid (show ∀ k, k < g.count → (d.at_ (g.first + k)).length = 256 from fun k hk => Dk.at_len dk.ok (by omega))
  have HS := Lib.hid (show ∀ k, k < g.count → (ringP d g.first g.count)[k]? = some (d.at_ (g.first + k)) from fun k hk => ringP_at d g.first hk)
  have HSL := Lib.hid (ringP_len d g.first g.count)
  clear dk h ho
  generalize hS : ringP d g.first g.count = S at *
  have h2' : g.first + g.count ≤ 4096 := by omega
  clear hS h2 hm
  generalize g.first = f at *
  generalize g.count = N at *
  go_enter Try.func33, Try.ntmps33
  go_wp2_with (first
    | (refine wpList_make_G (K := KB) (x0 := ([] : List UInt8)) Try.underlying59 infoRow (by omega) (fun W => ⟨⟨none, 0, rfl, Nat.le_refl _, by simp [maxLen], RG.nil⟩, fun b ⟨A, c, _, j, x, ad, cs, hx, _⟩ => by simp at hx⟩) rfl _ _ rfl W.heap.size N _ _ rfl rfl rfl rfl (by omega) (Nat.le_refl _) ?_; intro w1 o1 b1 _; have O1 := Lib.hid o1; have B1 := Lib.hid b1; clear o1 b1)
    | fail)
  have ST : Hid (∃ (k : Nat), k ≤ N ∧ (Value.int .i64 0) = .int .i64 (k : Int) ∧ OG KB 32 W.heap.size w1 (.slice (some ⟨W.heap.size, 0, none⟩) N N) (stored S k) ∧ Below W.heap.size W w1) := Lib.hid ⟨0, Nat.zero_le _, rfl, by unfold stored; rw [HSL.out]; simpa using O1.out, B1.out⟩
  clear O1 B1
  go_loopw [5, 6, 7, 15, 18] (fun _ _ _ i _ wr => ∃ (k : Nat), k ≤ N ∧ i = .int .i64 (k : Int) ∧ OG KB 32 W.heap.size wr (.slice (some ⟨W.heap.size, 0, none⟩) N N) (stored S k) ∧ Below W.heap.size W wr) (fun _ _ _ i _ _ => N - (intOf i).toNat)
  case atStart => exact ST.out
  case round =>
    clear ST
    obtain ⟨k, hk, rfl, hO, hB⟩ := hrel
    have HO := Lib.hid hO
    have HB := Lib.hid hB
    by_cases hlt : k < N
    · have HSk := Lib.hid (HS.out k hlt)
      have HLk := Lib.hid (HLN.out k hlt)
      have BV := Lib.hid (drew_below hB)
      have KK := Lib.hid (fun V hV => KR.out V hV k hlt)
      have HLT : W.heap.size < wr.heap.size := by
        obtain ⟨_, _, e, _, _, _, h⟩ := hO.rg
        injection e with e
        subst e
        exact (h _ rfl).2.2
      have cc := CC.out wr.drew BV.out
      have hfk : f + k ≤ 4096 := by omega
      have HWK := Lib.hid (show IntKind.i64.wrap ((f : Int) + (k : Int)) = (f : Int) + (k : Int) from by rw [IntKind.wrap_i64]; omega)
      clear hO hB
      generalize d.at_ (f + k) = X at *
      go_upto_region 5 with fail
      go_region_held3 (fun V => V.cell? ⟨G, 0, none⟩ = some (.pointer (some ⟨F.b, 0, none⟩)) ∧ V.cell? ⟨G, 1, none⟩ = some (.int .i64 (f : Int))) (first | with_reducible assumption | with_reducible exact cc | with_reducible exact cn | fail)
        (first
          | (go_at_call 49; rw [HWK.out]; refine (KK.out _ BV.out).mono ?_; rintro e w2 ⟨A2, rfl, r2, b2, n2⟩; have B2 := Lib.hid (BV.out.trans (b2.mono BV.out.size)); have cn := CC.out w2 B2.out; have R2 := Lib.hid r2; have N2 := Lib.hid n2; have BD := Lib.hid b2; clear r2 n2 b2)
          | fail)
      all_goals
        clear cc cn
        have hE : KB.E w2 [.slice A2 256 256] X := by
          have := KB.mk (w := w2) (A := A2) (c := 256) (l := X) (by rw [HLk.out]; exact Nat.le_refl _) (by simp [maxLen]) R2.out
          rwa [HLk.out] at this
        have hA2 : ∃ ad, A2 = some ad := by
          rcases R2.out with h | ⟨ad, h, _⟩
          · rw [h] at HLk; exact absurd HLk.out (by simp)
          · exact ⟨ad, h⟩
        obtain ⟨ad2, rfl⟩ := hA2
        have hn2 := N2.out ad2 rfl
        have hds : wr.drew.heap.size = wr.heap.size := rfl
        have HO2 := HO.out.drew.below BD.out
        obtain ⟨⟨u0, hc0⟩, hf0, hset⟩ := OG.set1 (K := KB) rfl HO2 (j := k) (by unfold stored; simp [HSL.out]; omega) hE (fun b hb => by have e := KB.foot_at hb; omega)
        rw [stored_next HSk.out] at hset
        have HSET := Lib.hid hset
        have BS := Lib.hid (B2.out.setCell (p := ⟨W.heap.size, k, none⟩) (Nat.le_refl _) (.slice (some ad2) 256 256))
        have hkc : (k : Int) < (N : Int) := by omega
        clear hE hn2 hds HO2 hset
        go_wp2
        go_roundw
        case rel => exact ⟨k + 1, by omega, by go_num, HSET.out, BS.out⟩
        case measure => simp [intOf]; omega
    · obtain rfl : k = N := by omega
      clear hO hB
      go_wp2
      go_ret2
      obtain ⟨A, c, e, _, _, hr, _⟩ := HO.out.rg
      injection e with e1 _ e2
      refine ⟨_, rfl, ?_, HB.out⟩
      have hs : stored S k = S := by
        unfold stored
        rw [List.take_of_length_le (by rw [HSL.out]; exact Nat.le_refl _), HSL.out, Nat.sub_self]
        simp
      rw [← hs, e1]
      exact hr
set_option maxRecDepth 100000 in
set_option maxHeartbeats 2000000 in
theorem waOpen_any {base : Nat} {F : Ft} {W : World} {d : Dk} (h : DkAt base F W d) (hbase : base ≤ W.heap.size) (ho : d.off = false) {first count epoch : Nat} (h1 : count ≤ 256) (h2 : first + count ≤ d.rows.length) (h3 : 1 ≤ epoch) (h4 : epoch ≤ 1099511627776) :
    Calls Try.prog 16 #[.pointer (some ⟨F.b, 0, none⟩), .int .i64 (first : Int), .int .i64 (count : Int), .int .i64 (epoch : Int)] W fun e w' => ∃ G, e = .returned (.tuple #[.pointer (some ⟨G, 0, none⟩), .int .i64 0]) ∧ Below W.heap.size W w' ∧
      ∀ Z : Nat → Prop, (∀ b, F.has b → ¬ Z b) → (∀ b, Z b → b < W.heap.size) → LW base F G Z w' d (openG d first count epoch) := by
  have KN := Lib.hid (waNew_any h hbase ho h1 h2 h3 h4)
  have hm := h.ok.many
  have H := Lib.hid h
  clear h
  go_enter Try.func16, Try.ntmps16
  go_wp2_with (first
    | (go_at_call 8; refine KN.out.mono ?_; rintro e w1 ⟨G, rfl, g1, b1, l1⟩)
    | fail)
  obtain ⟨dk, ok, v5, v6, Y, lg, lz⟩ := l1 (fun b => b < W.heap.size ∧ ¬ F.has b) (fun _ hf hz => hz.2 hf) (fun _ hb => hb.1)
  have KR := Lib.hid (waRead_any dk lg ho h1 h2)
  have B1 := Lib.hid b1
  have DK := Lib.hid dk
  have LG := Lib.hid lg
  have HG := Lib.hid g1
  have LZ := Lib.hid lz
  clear b1 l1 dk lg g1 ok KN lz
  go_wp2_with (first
    | (go_at_call 33; refine KR.out.mono ?_; rintro e w2 ⟨A2, rfl, r2, b2⟩)
    | fail)
  have KS := Lib.hid (scan_any A2 count count (ringP d first count) (epoch : Int) w2 (ringP_len _ _ _) (by omega) r2.rbs)
  have B2 := Lib.hid b2
  have LG2 := Lib.hid (LG.out.keep b2.size fun b hb' => b2.block b (ow_lt DK.out LG.out (.inr hb')).2)
  have DK2 := Lib.hid (DK.out.below b2)
  clear r2 b2 KR
  go_wp2_with (first
    | (go_at_call 34; refine KS.out.mono ?_; rintro e w3 ⟨v3, rfl, o3, b3⟩; have LG3 := Lib.hid (LG2.out.keep b3.size fun b hb' => b3.block b (ow_lt DK2.out LG2.out (.inr hb')).2); have c5 := LG3.out.c5; have f5 := LG3.out.fz 5; have c7 := LG3.out.c7; have f7 := LG3.out.fz 7; obtain ⟨A3, n3, rfl, hn3, _, _⟩ := o3.form; have O3 := Lib.hid o3.og; have B3 := Lib.hid b3; clear o3 b3)
    | fail)
  have HFIN : Hid (∀ Z : Nat → Prop, (∀ b, F.has b → ¬ Z b) → (∀ b, Z b → b < W.heap.size) → LW base F G Z ((w3.setCell ⟨G, 5, none⟩ (.slice A3 (scanK (epoch : Int) 0 (ringP d first count)).1.length n3)).setCell ⟨G, 7, none⟩ (.bool true)) d (openG d first count epoch)) := by
    have h2s : W.heap.size ≤ w2.heap.size := Nat.le_trans B1.out.size B2.out.size
    have hgl := LG.out.lt
    have hgl2 : G < w2.heap.size := Nat.lt_of_lt_of_le hgl B2.out.size
    have ho5 : ∀ b, (Value.slice A3 (scanK (epoch : Int) 0 (ringP d first count)).1.length n3).ownBlock = some b → b ≠ G ∧ ¬ F.has b ∧ ¬ Y b := fun b hb => by
      have h1 := (O3.out.own_lt hb).1
      exact ⟨by omega, fun hf => by have := DK2.out.inside b hf; omega, fun hy => by have := (LG2.out.yb b hy).2.1; omega⟩
    have l1 := LG3.out.set (g' := { newG first count epoch with recs := (scanK (epoch : Int) 0 (ringP d first count)).1 }) 5 (.slice A3 (scanK (epoch : Int) 0 (ringP d first count)).1.length n3) rfl (O3.out.lift (Nat.le_trans hbase h2s)) ho5 LG3.out.wait
    have l2 := l1.set (g' := openG d first count epoch) 7 (.bool true) rfl l1.recs ho5 l1.wait
    have dk3 := (DK2.out.below B3.out)
    have nG : ¬ F.has G := LG.out.nf
    refine Lib.hid fun Z hz1 hz2 => ⟨(dk3.frm (Frm.setCell w3 ⟨G, 5, none⟩ _ (X := fun b => b = G) rfl) fun k hk e => nG (by rw [← e]; exact hk)).frm (Frm.setCell _ ⟨G, 7, none⟩ _ (X := fun b => b = G) rfl) fun k hk e => nG (by rw [← e]; exact hk), openG_ok h1 (by omega) h3 h4, _, _, Y, l2, fun b hb hz => ?_⟩
    have hzl := hz2 b hz
    have hnf := fun hf => hz1 b hf hz
    rcases hb with hb | hb | hb | hb
    · exact hnf hb
    · exact LZ.out b (.inr (.inl hb)) ⟨hzl, hnf⟩
    · have := (O3.out.own_lt hb).1
      omega
    · exact LZ.out b (.inr (.inr (.inr hb))) ⟨hzl, hnf⟩
  have HB : Hid (Below W.heap.size W ((w3.setCell ⟨G, 5, none⟩ (.slice A3 (scanK (epoch : Int) 0 (ringP d first count)).1.length n3)).setCell ⟨G, 7, none⟩ (.bool true))) := by
    have hg : W.heap.size ≤ G := HG.out
    exact Lib.hid ((((B1.out.trans (B2.out.mono B1.out.size)).trans (B3.out.mono (Nat.le_trans B1.out.size B2.out.size))).setCell (p := ⟨G, 5, none⟩) hg _).setCell (p := ⟨G, 7, none⟩) hg _)
  clear c5 f5 c7 f7
  go_ret2
  exact ⟨G, rfl, HB.out, HFIN.out⟩
end Go.Proofs.Ytochifbbefbehaa
