/- Joined: StImg StKw. -/
import Derived.Test.YtegjeijiekggdaaGreatDoorM42
section
/- The package store: image tells what a store has. -/
namespace Go.Proofs.YtegjeijiekggdaaGreatDoor
open Go.RowKit
set_option linter.unusedVariables false
set_option linter.unusedSimpArgs false
theorem str_add (l m : List UInt8) : str l ++ str m = str (l ++ m) := ByteArray.mk_append_mk l m
theorem opn_len (b : List UInt8) : (opn b 1024).1.length ≤ 1016 := by
  unfold opn
  split
  · exact Nat.zero_le _
  · split
    · exact Nat.zero_le _
    · split
      · show (List.take _ _).length ≤ _
        rw [List.length_take]
        omega
      · exact Nat.zero_le _
theorem restK_len (d : Dk) (log : Nat) (U : List UInt64) : ∀ k, (restK d log U k).length ≤ 1021 * k
  | 0 => Nat.le_refl _
  | k + 1 => by
    have ih := restK_len d log U k
    rw [restK_succ, List.length_append]
    split
    · have := opn_len (d.rd (8 + log + 4 * k) 4)
      unfold blkB
      rw [List.length_append]
      simp only [List.length_cons, List.length_nil]
      omega
    · simp only [List.length_nil]
      omega
theorem opn_err (b : List UInt8) : (opn b 1024).2 ≤ 10 := by
  unfold opn
  repeat (first | split | simp)
theorem meas_next {k n : Nat} (h : k < n) : n - (intOf (.int .i64 ((k : Int) + 1))).toNat < n - (intOf (.int .i64 (k : Int))).toNat := by
  show n - ((k : Int) + 1).toNat < n - (k : Int).toNat
  omega
set_option maxHeartbeats 4000000 in
set_option maxRecDepth 100000 in
theorem image_any {w : World} {F : Ft} {G : Nat} {W : World} {d : Dk} {t : Sto} (h : Gt w F G W d t) (hlen : d.rows.length = 60) (ho : d.off = false) (hbad : t.bad = false) (g : t.Ok 60) :
    Calls Tryz.prog 29 #[.pointer (some ⟨G, 0, none⟩)] W fun e w' => e = .returned (.string (str (imgP d t t.used))) ∧ Gt w F G w' d t ∧ Frm (Wr F G) W w' := by
  obtain ⟨U, s, m, hU, hs, hm⟩ : ∃ (U : List UInt64) (s m : Nat), U = t.used ∧ s = t.size ∧ m = U.length := ⟨_, _, _, rfl, rfl, rfl⟩
  have hs5 : s ≤ 512 := by rw [hs]; exact g.lens.1
  have H := Lib.hid h
  have KB : Calls Tryz.prog 23 #[.pointer (some ⟨G, 0, none⟩)] W fun e w' => ∃ A c, e = .returned (.slice A t.body.length c) ∧ RB w' A t.body ∧ Below W.heap.size W w' := by
    obtain ⟨P, rfl, st⟩ := h.ex
    refine (body_any st g.body).mono ?_
    rintro e w' ⟨v, rfl, o, b⟩
    obtain ⟨A, c, rfl, hc, r⟩ := o.form
    exact ⟨A, c, rfl, r, b⟩
  have KU : ∀ V, Gt w F G V d t → Calls Tryz.prog 24 #[.pointer (some ⟨G, 0, none⟩)] V fun e w' => ∃ A c, e = .returned (.agg #[.int .i64 (s : Int), .slice A m c]) ∧ m ≤ c ∧ RQ w' A U ∧ (∀ ad, A = some ad → V.heap.size ≤ ad.block) ∧ Below V.heap.size V w' := fun V hV => by
    obtain ⟨P, rfl, st⟩ := hV.ex
    refine (used_any st (by have := words_few g.used g.lens.1; omega)).mono ?_
    rintro e w' ⟨v, rfl, o, b⟩
    obtain ⟨A, c, rfl, hc, r⟩ := o.as (n := t.used.length) rfl
    rw [hs, hm, hU]
    exact ⟨A, c, rfl, hc, r, o.at_base.1, b⟩
  have KB := Lib.hid KB
  have KU := Lib.hid KU
  have HU := Lib.hid hU
  have HS := Lib.hid hs
  have HM := Lib.hid hm
  obtain ⟨bl, hbl⟩ : ∃ bl, bl = t.body.length := ⟨_, rfl⟩
  rw [← hbl] at KB
  have HBL := Lib.hid hbl
  obtain ⟨log, hlog⟩ : ∃ log, log = t.log := ⟨_, rfl⟩
  have HLOG := Lib.hid hlog
  have hz1 : ¬ 9223372036854775807 < (str t.body).size + 1 := by rw [str_size]; have := g.body; omega
  clear hU hs hm hbl hlog h
  go_enter Tryz.func29, Tryz.ntmps29
  go_upto_region 3 with (first
    | (go_at_call 23; refine KB.out.mono ?_; rintro e w1 ⟨A1, c1, rfl, r1, b1⟩; have B1 := Lib.hid b1; have hcv := run_str w1 A1 bl c1 t.body HBL.out.symm r1; clear b1 r1)
    | (go_at_call 24; refine (KU.out _ (H.out.below B1.out)).mono ?_; rintro e w2 ⟨A2, c2, rfl, hc2, r2, a2, b2⟩; have HC2 := Lib.hid hc2; have R2 := Lib.hid r2; have AX2 := Lib.hid a2; have B2 := Lib.hid b2; clear hc2 r2 a2 b2 hcv)
    | fail)
  have G2 := Lib.hid ((H.out.below B1.out).below B2.out)
  have T3 := Lib.hid (G2.out.below ((Below.refl _ w2).alloc (Nat.le_refl _) (.cells #[.int .i64 (s : Int), .slice A2 m c2] 64)))
  have C3 := Lib.hid (show Ct F G w2.heap.size s m U A2 c2 (w2.alloc (.cells #[.int .i64 (s : Int), .slice A2 m c2] 64)) from
    ⟨HM.out.symm, HC2.out, (cell_of_row _ _ 0 _ _ _ (heap_alloc_last w2 _)).trans rfl, (cell_of_row _ _ 1 _ _ _ (heap_alloc_last w2 _)).trans rfl, R2.out.below ((Below.refl _ w2).alloc (Nat.le_refl _) _),
      fun hk => by have := G2.out.gl _ hk; omega, fun ad e hne hk => by have := (H.out.below B1.out).gl _ hk; have := AX2.out ad e; omega⟩)
  have F3 := Lib.hid (show Frm (Wr F G) W (w2.alloc (.cells #[.int .i64 (s : Int), .slice A2 m c2] 64)) from Frm.of_below ((B1.out.trans (B2.out.mono B1.out.size)).alloc (Nat.le_trans B1.out.size B2.out.size) _))
  have e0 : str t.body ++ { data := #[124] } = str (t.body ++ (124 :: restK d log U 0)) := str_add t.body [124]
  rw [e0]
  clear KB KU B1 B2 HC2 R2 AX2 H G2 hz1 e0
  generalize w2.heap.size = C at *
  generalize w2.alloc (.cells #[.int .i64 (s : Int), .slice A2 m c2] 64) = w3 at *
  go_upto_region 4 with fail
  have H3 := Lib.hid (show ∃ k : Nat, k ≤ s ∧ (0 : Int) = (k : Int) ∧ (str (t.body ++ (124 :: restK d log U 0))) = str (t.body ++ (124 :: restK d log U k)) ∧ Gt w F G w3 d t ∧ Ct F G C s m U A2 c2 w3 ∧ Frm (Wr F G) W w3 from ⟨0, Nat.zero_le _, rfl, rfl, T3.out, C3.out, F3.out⟩)
  clear T3 C3 F3
  go_loopw [3, 5] (fun o i wr => ∃ k : Nat, k ≤ s ∧ i = .int .i64 (k : Int) ∧ o = .string (str (t.body ++ (124 :: restK d log U k))) ∧ Gt w F G wr d t ∧ Ct F G C s m U A2 c2 wr ∧ Frm (Wr F G) W wr) (fun _ i _ => s - (intOf i).toNat)
  case atStart =>
    obtain ⟨k, z1, z2, z3, z4⟩ := H3.out
    exact ⟨k, z1, by rw [z2], by rw [z3], z4⟩
  case round =>
    clear H3
    obtain ⟨k, hk, rfl, rfl, st, ct, fr⟩ := hrel
    have ST := Lib.hid st
    have CT := Lib.hid ct
    have FR := Lib.hid fr
    have x0 := ct.x0
    have x1 := ct.x1
    by_cases hlt : k < s
    · have KH := cHas ct (k : Int)
      have hkk : (k : Int) < (s : Int) := by omega
      have okU : okB (s : Int) U = true := by rw [HU.out, HS.out]; exact g.used
      rw [hasB_bit okU hlt] at KH
      cases hb : bitL U k with
      | false =>
        rw [hb] at KH
        have KH := Lib.hid KH
        have e1 : restK d log U (k + 1) = restK d log U k := by rw [restK_succ, if_neg (by rw [hb]; simp), List.append_nil]
        have E1 := Lib.hid e1
        clear hb e1 st ct fr okU
        generalize restK d log U k = RK at *
        generalize hO : str (t.body ++ (124 :: RK)) = O at *
        have HO := Lib.hid hO
        clear hO
        go_wp2_with (first
          | (go_at_call 34; refine KH.out.mono ?_; rintro e w4 ⟨rfl, b4⟩; have B4 := Lib.hid b4; clear b4)
          | fail)
        go_round
        case rel => exact ⟨k + 1, by omega, by go_num, by rw [E1.out, HO.out], ST.out.below B4.out, CT.out.below B4.out, FR.out.trans (Frm.of_below B4.out)⟩
        case measure => exact meas_next hlt
      | true =>
        rw [hb] at KH
        have KH := Lib.hid KH
        have KR := fun (V : World) (S : Gt w F G V d t) => kRead S hlen ho hbad g (n := k) (by rw [← HS.out]; exact hlt) (by rw [← HU.out]; exact hb)
        rw [← HLOG.out] at KR
        have e1 : restK d log U (k + 1) = restK d log U k ++ blkB k (opn (d.rd (8 + log + 4 * k) 4) 1024) := by rw [restK_succ, if_pos hb]
        have hl1 := opn_len (d.rd (8 + log + 4 * k) 4)
        have hl2 := opn_err (d.rd (8 + log + 4 * k) 4)
        have hl3 := restK_len d log U k
        obtain ⟨bb, er, hop⟩ : ∃ (bb : List UInt8) (er : Nat), opn (d.rd (8 + log + 4 * k) 4) 1024 = (bb, er) := ⟨_, _, rfl⟩
        rw [hop] at KR e1 hl1 hl2
        obtain ⟨nb, hnb⟩ : ∃ nb, nb = bb.length := ⟨_, rfl⟩
        have KR : ∀ V, Gt w F G V d t → Calls Tryz.prog 17 #[.pointer (some ⟨G, 0, none⟩), .int .i64 (k : Int)] V fun e w' => ∃ A c, e = .returned (.tuple #[.slice A nb c, .int .i64 (er : Int)]) ∧ RB w' A bb ∧ Gt w F G w' d t ∧ Frm (Wr F G) V w' := by rw [hnb]; exact KR
        have KR := Lib.hid KR
        have HNB := Lib.hid hnb
        have E1 := Lib.hid e1
        have hl1 : nb ≤ 1016 := by rw [hnb]; exact hl1
        have hl2 : er ≤ 10 := hl2
        have hbl := g.body
        obtain ⟨nO, hnO⟩ : ∃ nO, nO = (t.body ++ (124 :: restK d log U k)).length := ⟨_, rfl⟩
        have hnO2 : nO ≤ 600000 := by rw [hnO, List.length_append, List.length_cons]; omega
        have HNO := Lib.hid hnO
        clear hb e1 st ct fr okU hop hnb hl3 hnO hbl
        generalize restK d log U k = RK at *
        obtain ⟨O, hO⟩ : ∃ O, O = str (t.body ++ (124 :: RK)) := ⟨_, rfl⟩
        have hOs : O.size = nO := by rw [hO, str_size, HNO.out]
        rw [← hO]
        have HO := Lib.hid hO
        clear hO
        go_upto_region 8 with (first
          | (go_at_call 34; refine KH.out.mono ?_; rintro e w4 ⟨rfl, b4⟩; have B4 := Lib.hid b4; clear b4)
          | (go_at_call 17; refine (KR.out _ (ST.out.below B4.out)).mono ?_; rintro e w5 ⟨A5, c5, rfl, r5, s5, f5⟩; have R5 := Lib.hid r5; have S5 := Lib.hid s5; have F5 := Lib.hid f5; clear r5 s5 f5)
          | fail)
        have hcell : (#[.int .u8 ((k : Int) / 256), .int .u8 ((k : Int) % 256), .int .u8 (er : Int), .int .u8 ((nb : Int) / 256), .int .u8 ((nb : Int) % 256)] : Array Value) = (cellsB [UInt8.ofNat (k / 256), UInt8.ofNat (k % 256), UInt8.ofNat er, UInt8.ofNat (nb / 256), UInt8.ofNat (nb % 256)]).toArray := by
          have q : ∀ x : Nat, x < 256 → (UInt8.ofNat x).toNat = x := fun x hx => by rw [toNat_of, Nat.mod_eq_of_lt hx]
          simp only [cellsB, cellB, List.map_cons, List.map_nil]
          rw [q _ (by omega), q _ (by omega), q _ (by omega), q _ (by omega), q _ (by omega)]
          simp
        have ZB := Lib.hid (show Below w5.heap.size w5 (w5.alloc (.cells #[.int .u8 ((k : Int) / 256), .int .u8 ((k : Int) % 256), .int .u8 (er : Int), .int .u8 ((nb : Int) / 256), .int .u8 ((nb : Int) % 256)] 5)) from (Below.refl _ w5).alloc (Nat.le_refl _) _)
        have hcv5 := run_str _ _ 5 5 _ rfl (RB.mark w5 _ _ (0, 0) hcell)
        have hcvb := run_str _ A5 nb c5 bb HNB.out.symm (R5.out.below ZB.out)
        obtain ⟨Z5, hZ5⟩ : ∃ Z5, Z5 = str [UInt8.ofNat (k / 256), UInt8.ofNat (k % 256), UInt8.ofNat er, UInt8.ofNat (nb / 256), UInt8.ofNat (nb % 256)] := ⟨_, rfl⟩
        obtain ⟨SB, hSB⟩ : ∃ SB, SB = str bb := ⟨_, rfl⟩
        have hZs : Z5.size = 5 := by rw [hZ5, str_size]; rfl
        have hSs : SB.size = nb := by rw [hSB, str_size, HNB.out]
        rw [← hZ5] at hcv5
        rw [← hSB] at hcvb
        have HZ5 := Lib.hid hZ5
        have HSB := Lib.hid hSB
        have hz2 : ¬ 9223372036854775807 < nO + 5 := by omega
        have hz3 : ¬ 9223372036854775807 < nO + 5 + nb := by omega
        clear hZ5 hSB hcell
        go_wp2_with fail
        go_round
        case rel =>
          refine ⟨k + 1, by omega, by go_num, ?_, S5.out.below ZB.out, ((CT.out.below B4.out).frm F5.out).below ZB.out, ((FR.out.trans (Frm.of_below B4.out)).trans F5.out).trans (Frm.of_below ZB.out)⟩
          rw [E1.out, HO.out, HZ5.out, HSB.out, str_add, str_add]
          congr 2
          unfold blkB
          rw [← HNB.out]
          simp
        case measure => exact meas_next hlt
    · obtain rfl : s = k := by omega
      clear st ct fr
      have e1 : imgP d t t.used = t.body ++ (124 :: restK d log U s) := by
        unfold imgP restP restK
        rw [← HS.out, ← HU.out, ← HLOG.out]
      have E1 := Lib.hid (congrArg str e1)
      clear e1
      generalize str (t.body ++ (124 :: restK d log U s)) = O at *
      go_wp2_with fail
      go_ret
      exact ⟨by rw [E1.out]; rfl, ST.out, FR.out⟩
/-- What Format leaves in the law. -/
theorem keeps_format : ∃ d t, formatP (Dk.new 60) 4 = (d, some t, 0) ∧ Kp d t 1 ∧ d.off = false ∧ t.bad = false ∧ d.calls ≤ 20 * (0 + 1) ∧ t.used = t.cts := by
  have hg : Good (Dk.new 60) 60 := good_new 60 (by omega)
  have ha : areaP 60 4 = true := by decide
  have hc := cntP_ge ha
  have ho : okB (cntP 60 4 : Int) (newL (cntP 60 4 : Nat)) = true := newL_ok (by omega)
  have hok : (Sto.new 60 4 1).Ok 60 := ⟨ha, rfl, by show 0 ≤ 1; omega, by show 1 ≤ 1; omega, by show 1 ≤ 1099511627776; omega, ho, ho, by show 0 ≤ 700; omega⟩
  have hl := hok.lens
  have hw : ∀ i, (Dk.new 60).wt i = none := fun _ => rfl
  have hlen : (Dk.new 60).rows.length = 60 := hg.len
  have hoff : (Dk.new 60).off = false := rfl
  obtain ⟨g1, g2, g3, g4⟩ := hg.putSlot (p := 0) (g := 1) (by omega) hl.2.2
  obtain ⟨q0, q1⟩ := putSlot_is hoff (p := 0) (g := 1) (b := (Sto.new 60 4 1).lay) (by omega) hl.2.2 hw
  have hz : ∀ i, i < 60 → (Dk.new 60).rows.getD i [] = zeros := fun i hi => by
    show (List.replicate 60 zeros).getD i [] = zeros
    rw [List.getD_eq_getElem?_getD, List.getElem?_replicate, if_pos hi]
    rfl
  have hs : (Dk.new 60).seen2 = 0 := by
    unfold Dk.seen2
    rw [show (Dk.new 60) = Dk.new ((60 : Nat) : Int) from rfl, new_secs (by omega) (by omega), new_secs (by omega) (by omega), zeros_secs]
    rfl
  have hf : formatP (Dk.new 60) 4 = (((Dk.new 60).putSlot 0 1 (Sto.new 60 4 1).lay).1, some (Sto.new 60 4 1), 0) := by
    unfold formatP
    rw [hoff, if_neg (by simp), hlen, show (4 : Int).toNat = 4 from rfl, if_neg (by rw [ha]; simp), hs, if_neg (by omega), show 0 + 1 = 1 from rfl, g2, if_neg (by simp)]
  refine ⟨_, _, hf, ?_, g1.off, rfl, ?_, rfl⟩
  · rcases q1 with ⟨r1, r2, r3, r4⟩ | ⟨r1, _⟩
    · generalize ((Dk.new 60).putSlot 0 1 (Sto.new 60 4 1).lay).1 = s1 at *
      rw [hlen] at r4
      refine ⟨g1.len, hok, Nat.le_refl _, fun i _ => r3 i, fun i hi => ?_, fun i hi => ?_, fun b hb => ?_, fun _ _ _ _ _ => r3 _⟩
      · show s1.rows.getD (4 * 0 + i) [] = _
        rw [r4 _ (by omega), if_pos (by omega), Nat.add_sub_cancel_left]
        rfl
      · rw [r4 i (by omega)]
        split
        · exact ⟨1, 1, Nat.le_refl _, Nat.le_refl _, sm_putL hl.2.2 (by omega)⟩
        · rw [hz i (by omega)]
          exact ⟨0, 0, by omega, by omega, sm_zeros⟩
      · have hb : takeP 60 1 (s1.rows4 1) = some b := hb
        have e : s1.rows4 1 = [zeros, zeros, zeros, zeros] := rows4_is rfl fun i hi => by
          rw [r4 _ (by omega), if_neg (by omega), hz _ (by omega)]
          rcases (show i = 0 ∨ i = 1 ∨ i = 2 ∨ i = 3 by omega) with rfl | rfl | rfl | rfl <;> rfl
        rw [e] at hb
        unfold takeP at hb
        rw [if_neg (by rw [show slGetE [zeros, zeros, zeros, zeros] = 3 from by kernel_rfl]; omega)] at hb
        cases hb
    · rw [g2] at r1
      cases r1
  · have : (Dk.new 60).calls = 0 := rfl
    omega
theorem sync_calls_le (d : Dk) : d.sync.calls ≤ d.calls + 1 := by
  unfold Dk.sync
  split
  · omega
  · exact Dk.call_calls d Dk.synced fun _ => rfl
theorem putSlot_calls (d : Dk) (p g : Nat) (b : List UInt8) : (d.putSlot p g b).1.calls ≤ d.calls + 5 := by
  have h := Dk.sw_calls d (4 * p) (putL g b) 4
  unfold Dk.putSlot
  split
  · have := sync_calls_le (d.sw (4 * p) (putL g b) 4).1
    show (Dk.sync _).calls ≤ _
    omega
  · omega
theorem commit_calls (d : Dk) (t : Sto) (b : List UInt8) : (commitP d t b).1.calls ≤ d.calls + 6 := by
  have h1 := sync_calls_le d
  have h2 := putSlot_calls d.sync (1 - t.place) (max t.gen d.seen2 + 1) (layP t.log t.size t.used b)
  unfold commitP
  split
  · show d.calls ≤ _; omega
  · split
    · show d.calls ≤ _; omega
    · split
      · show d.calls ≤ _; omega
      · split
        · show d.sync.calls ≤ _; omega
        · split
          · show (Dk.putSlot _ _ _ _).1.calls ≤ _; omega
          · show (Dk.putSlot _ _ _ _).1.calls ≤ _; omega
theorem write_callsK (d : Dk) (t : Sto) (n : Int) (l : List UInt8) : (writeP d t n l).1.calls ≤ d.calls + 4 := by
  unfold writeP
  split
  · show d.calls ≤ _; omega
  · split
    · show d.calls ≤ _; omega
    · show (d.bwrite t.area n l).1.calls ≤ _
      unfold Dk.bwrite
      split
      · show d.calls ≤ _; omega
      · split
        · show d.calls ≤ _; omega
        · exact Dk.bw_calls _ _ _ 4
end Go.Proofs.YtegjeijiekggdaaGreatDoor
end
section
/- The package store: the law StoreKeeps' calls upon a disk that may fail; what it knows of the call that it does. -/
namespace Go.Proofs.YtegjeijiekggdaaGreatDoor
open Go.RowKit
set_option linter.unusedVariables false
set_option linter.unusedSimpArgs false
theorem SaAt.dcells {w : World} {p : Addr} {x : Sa} (h : SaAt w p x) : w.cell? ⟨p.block, p.off + 3, none⟩ = some (.int .u8 (x.d.kind.toNat : Int)) ∧ w.cell? ⟨p.block, p.off + 4, none⟩ = some (.int .i64 x.d.n) ∧ w.cell? ⟨p.block, p.off + 5, none⟩ = some (.int .u8 (x.d.c.toNat : Int)) ∧ w.cell? ⟨p.block, p.off + 6, none⟩ = some (.int .u8 (x.d.cut.toNat : Int)) ∧ w.cell? ⟨p.block, p.off + 7, none⟩ = some (.bool x.d.done) ∧ w.cell? ⟨p.block, p.off + 8, none⟩ = some (.slice x.d.fA x.d.fates.length x.d.fc) := by
  have e := add_pos p 3 (by omega)
  have d := h.dd
  rw [e] at d
  exact ⟨d.d0, d.d1, d.d2, d.d3, d.d4, d.d5⟩
/-- Whatever waits is lost, kept or torn: what is opened has x, or y. -/
def Pwk (d : Dk) (x y : List UInt8) (j : Nat) : Prop := ∀ f, ∃ u : Sto, openP (d.power f) = (some u, 0) ∧ Kp (d.power f) u j ∧ u.bad = false ∧ u.used = u.cts ∧ (imgP (d.power f) u u.cts = x ∨ imgP (d.power f) u u.cts = y)
theorem Kp.pw {d : Dk} {t : Sto} {j : Nat} (h : Kp d t j) (hok : d.Ok) (y : List UInt8) : Pwk d (imgP d t t.cts) y j := fun f => by
  obtain ⟨h1, h2, h3⟩ := h.power hok f
  exact ⟨t.back, h1, h2, rfl, rfl, .inl h3⟩
theorem Tp.pw {d : Dk} {t t' : Sto} {X : List (List UInt8)} {j : Nat} (h : Tp d t t' X j) (hok : d.Ok) : Pwk d (imgP d t t.cts) (imgP d t' t'.cts) j := fun f => by
  rcases h.power hok f with ⟨h1, h2, h3⟩ | ⟨h1, h2, h3⟩
  · exact ⟨t.back, h1, h2, rfl, rfl, .inl h3⟩
  · exact ⟨t'.back, h1, h2, rfl, rfl, .inr h3⟩
/-- The call's box. -/
def KBx (a : Sa) : Array Value := #[.int .u8 (a.kind.toNat : Int), .int .i64 a.n, .slice a.bA a.body.length a.bc, .int .u8 (a.d.kind.toNat : Int), .int .i64 a.d.n, .int .u8 (a.d.c.toNat : Int), .int .u8 (a.d.cut.toNat : Int), .bool a.d.done, .slice a.d.fA a.d.fates.length a.d.fc]
/-- A disk at hand, and the call's box. -/
structure Kd (w : World) (F : Ft) (C : Nat) (a : Sa) (W : World) (d : Dk) : Prop where
  disk : DkAt w.heap.size F W d
  bel : Below w.heap.size w W
  bx : W.heap[C]? = some (.cells (KBx a) 33 (0, 0))
  nc : ¬ F.has C
/-- A store and its disk at hand, and the call's box. -/
structure Kw (w : World) (F : Ft) (G C : Nat) (a : Sa) (W : World) (d : Dk) (t : Sto) : Prop where
  gt : Gt w F G W d t
  bx : W.heap[C]? = some (.cells (KBx a) 33 (0, 0))
  nc : ¬ F.has C
  ng : C ≠ G
theorem Kw.frm {w : World} {F : Ft} {G C : Nat} {a : Sa} {W V : World} {d d' : Dk} {t t' : Sto} (h : Kw w F G C a W d t) (g : Gt w F G V d' t') (f : Frm (Wr F G) W V) : Kw w F G C a V d' t' :=
  ⟨g, (f.block _ (Array.getElem?_eq_some_iff.1 h.bx).1 (fun hk => Or.elim hk h.nc h.ng)).trans h.bx, h.nc, h.ng⟩
theorem Kw.below {w : World} {F : Ft} {G C : Nat} {a : Sa} {W V : World} {d : Dk} {t : Sto} (h : Kw w F G C a W d t) (b : Below W.heap.size W V) : Kw w F G C a V d t := h.frm (h.gt.below b) (Frm.of_below b)
theorem Kw.cell {w : World} {F : Ft} {G C : Nat} {a : Sa} {W : World} {d : Dk} {t : Sto} (h : Kw w F G C a W d t) (i : Nat) : W.cell? ⟨C, i, none⟩ = (KBx a)[i]? := cell_of_row W _ i _ _ _ h.bx
theorem Kw.start {w : World} {F : Ft} {G : Nat} {a : Sa} {W : World} {d : Dk} {t : Sto} (h : Gt w F G W d t) : Kw w F G W.heap.size a (W.alloc (.cells (KBx a) 33)) d t :=
  ⟨h.below ((Below.refl _ W).alloc (Nat.le_refl _) _), heap_alloc_last W _, fun hk => by have := h.gl _ (.inl hk); omega, fun e => by have := h.gl G (.inr rfl); omega⟩
theorem kImage {w : World} {F : Ft} {G C : Nat} {a : Sa} {W : World} {d : Dk} {t : Sto} {j : Nat} (h : Kw w F G C a W d t) (kp : Kp d t j) (ho : d.off = false) (hbad : t.bad = false) :
    Calls Tryz.prog 29 #[.pointer (some ⟨G, 0, none⟩)] W fun e w' => e = .returned (.string (str (imgP d t t.used))) ∧ Kw w F G C a w' d t := by
  refine (image_any h.gt kp.len ho hbad kp.tok).mono ?_
  rintro e w' ⟨rfl, g, f⟩
  exact ⟨rfl, h.frm g f⟩
theorem kImageX {w : World} {F : Ft} {G C : Nat} {a : Sa} {W : World} {d : Dk} {t : Sto} {j : Nat} {x : List UInt8} (h : Kw w F G C a W d t) (kp : Kp d t j) (ho : d.off = false) (hbad : t.bad = false) (hx : imgP d t t.used = x) :
    Calls Tryz.prog 29 #[.pointer (some ⟨G, 0, none⟩)] W fun e w' => e = .returned (.string (str x)) ∧ Kw w F G C a w' d t := by
  subst hx
  exact kImage h kp ho hbad
theorem kBody {w : World} {F : Ft} {G C : Nat} {a : Sa} {W : World} {d : Dk} {t : Sto} {j : Nat} (h : Kw w F G C a W d t) (kp : Kp d t j) :
    Calls Tryz.prog 23 #[.pointer (some ⟨G, 0, none⟩)] W fun e w' => ∃ A c, e = .returned (.slice A t.body.length c) ∧ Kw w F G C a w' d t := by
  obtain ⟨P, rfl, st⟩ := h.gt.ex
  refine (body_any st kp.tok.body).mono ?_
  rintro e w' ⟨v, rfl, o, b⟩
  obtain ⟨A, c, rfl, hc, r⟩ := o.form
  exact ⟨A, c, rfl, h.below b⟩
theorem kOff {w : World} {F : Ft} {G C : Nat} {a : Sa} {W : World} {d : Dk} {t : Sto} (h : Kw w F G C a W d t) : Calls Tryz.prog 32 #[.pointer (some ⟨F.b, 0, none⟩)] W fun e w' => e = .returned (.bool d.off) ∧ W = w' := off_any h.gt.disk
theorem kPower {w : World} {F : Ft} {G C : Nat} {a : Sa} {W : World} {d : Dk} {t : Sto} {p : Addr} (h : Kw w F G C a W d t) (ha : SaAt w p a) :
    Calls Tryz.prog 31 #[.pointer (some ⟨F.b, 0, none⟩), .slice a.d.fA a.d.fates.length a.d.fc] W fun e w' => e = .returned (.tuple #[]) ∧ Kd w F C a w' (d.power a.d.fates) := by
  have hd := (ha.below h.gt.bel).dd
  have hw := ha.dd
  refine (power_any h.gt.disk a.d.fA a.d.fates.length a.d.fc a.d.fates rfl hd.room (by have := hd.room; have := hd.most; omega) hd.rb (fun hne ad e hk => ?_)).mono ?_
  · have h1 := h.gt.disk.based _ hk
    have h2 := hw.rb.blt hne ad e
    omega
  · rintro e w' ⟨rfl, dk, f⟩
    exact ⟨rfl, dk, h.gt.bel.trans (f.below (fun i hi => h.gt.disk.based i hi) h.gt.bel.size), (f.block _ (Array.getElem?_eq_some_iff.1 h.bx).1 h.nc).trans h.bx, h.nc⟩
theorem kOpen {w : World} {F : Ft} {C : Nat} {a : Sa} {W : World} {d : Dk} {u : Sto} (h : Kd w F C a W d) (hu : openP d = (some u, 0)) :
    Calls Tryz.prog 14 #[.pointer (some ⟨F.b, 0, none⟩)] W fun e w' => ∃ G, e = .returned (.tuple #[.pointer (some ⟨G, 0, none⟩), .int .i64 0]) ∧ Kw w F G C a w' d u := by
  refine (open_store h.disk).mono ?_
  intro e w' hp
  obtain ⟨_, h2, b⟩ := hp
  obtain ⟨P, rfl, s⟩ := h2 u (by rw [hu])
  have hC := (Array.getElem?_eq_some_iff.1 h.bx).1
  exact ⟨P.G, rfl, ⟨⟨P, rfl, s.lower h.bel.size⟩, h.disk.below b, h.bel.trans (b.mono h.bel.size)⟩, (b.block _ hC).trans h.bx, h.nc, by have := s.gb; omega⟩
/-- Where the ways of a round meet. -/
def SwR (w : World) (F : Ft) (C k : Nat) (a : Sa) (p q z nx : Value) (wr : World) : Prop :=
  ∃ (G : Nat) (d : Dk) (t : Sto) (x y : List UInt8), p = .pointer (some ⟨G, 0, none⟩) ∧ q = .int .i64 0 ∧ z = .string (str x) ∧ nx = .string (str y) ∧ Kw w F G C a wr d t ∧ d.calls ≤ 20 * (k + 1) + 10 ∧ ((d.off = false ∧ t.bad = false ∧ Kp d t (k + 2) ∧ x = imgP d t t.cts) ∨ (d.off = true ∧ Pwk d x y (k + 2)))
theorem SwR.stay {w : World} {F : Ft} {G C k : Nat} {a : Sa} {wr : World} {d : Dk} {t : Sto} {x : List UInt8} (h : Kw w F G C a wr d t) (hc : d.calls ≤ 20 * (k + 1) + 10) (kp : Kp d t (k + 2)) (hbad : d.off = false → t.bad = false) (hx : imgP d t t.cts = x) :
    SwR w F C k a (.pointer (some ⟨G, 0, none⟩)) (.int .i64 0) (.string (str x)) (.string (str x)) wr := by
  refine ⟨G, d, t, x, x, rfl, rfl, rfl, rfl, h, hc, ?_⟩
  cases ho : d.off with
  | false => exact .inl ⟨rfl, hbad ho, kp, hx.symm⟩
  | true =>
    subst hx
    exact .inr ⟨rfl, kp.pw h.gt.disk.ok _⟩
theorem SwR.commit {w : World} {F : Ft} {G C k : Nat} {a : Sa} {wr : World} {d : Dk} {t : Sto} (hk : k ≤ 30) (kp : Kp d t (k + 1)) (ho : d.off = false) (hbad : t.bad = false) (hc : d.calls ≤ 20 * (k + 1))
    (h : Kw w F G C a wr (commitP d t a.body).1 (commitP d t a.body).2.1) (x y : List UInt8) (hx : x = imgP d t t.cts) (hy : a.body.length ≤ 700 → y = a.body ++ (124 :: restP d t.log t.size t.used)) :
    ((commitP d t a.body).2.2 = 0 ∧ SwR w F C k a (.pointer (some ⟨G, 0, none⟩)) (.int .i64 0) (.string (str y)) (.string (str y)) wr) ∨ ((commitP d t a.body).2.2 ≠ 0 ∧ SwR w F C k a (.pointer (some ⟨G, 0, none⟩)) (.int .i64 0) (.string (str x)) (.string (str y)) wr) := by
  have hcc := commit_calls d t a.body
  have hcm := kp.commit ho hbad (by omega) a.body
  generalize commitP d t a.body = R at *
  rcases hcm with ⟨h1, h2, h3, h4, h5, h6⟩ | ⟨h1, h2, h3, h4⟩ | ⟨h1, h2, h3, h4⟩ | ⟨h1, h2, h3, t', X, h4, h5, h6⟩
  · exact .inl ⟨h1, G, R.1, R.2.1, y, y, rfl, rfl, rfl, rfl, h, by omega, .inl ⟨h3, h4, h5, by rw [hy h2, h6]⟩⟩
  · refine .inr ⟨h1, G, R.1, R.2.1, x, y, rfl, rfl, rfl, rfl, h, by omega, .inl ⟨by rw [h3]; exact ho, by rw [h4]; exact hbad, by rw [h3, h4]; exact kp.more (by omega), by rw [h3, h4]; exact hx⟩⟩
  · refine .inr ⟨h1, G, R.1, R.2.1, x, y, rfl, rfl, rfl, rfl, h, by omega, .inr ⟨h2, ?_⟩⟩
    rw [hx, ← h4]
    exact (h3.more (by omega)).pw h.gt.disk.ok _
  · refine .inr ⟨h1, G, R.1, R.2.1, x, y, rfl, rfl, rfl, rfl, h, by omega, .inr ⟨h2, ?_⟩⟩
    rw [hx, ← h5, hy h3, ← h6]
    exact h4.pw h.gt.disk.ok
theorem str_drop (a : List UInt8) (n : Nat) : (str a).extract n (str a).size = str (a.drop n) := by
  apply ByteArray.ext
  rw [ByteArray.data_extract, str_size]
  simp only [str, List.extract_toArray, List.extract_eq_take_drop]
  congr 1
  rw [List.take_of_length_le (by rw [List.length_drop]; omega)]
end Go.Proofs.YtegjeijiekggdaaGreatDoor
end
