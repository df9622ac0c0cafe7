/- The walk of the law WalKeeps. -/
import Derived.Test.YtochifbbefbehaaWaK
import Derived.Test.YtochifbbefbehaaWaJ
import Derived.Deep.CutBlock
import Derived.Deep.CutRange
import Derived.Deep.DeepMust
namespace Go.Proofs.Ytochifbbefbehaa
open Go.RowKit
set_option linter.unusedVariables false
set_option linter.unusedSimpArgs false
theorem waMeas_next {k n : Nat} (h : k < n) : n - (intOf (.int .i64 ((k : Int) + 1))).toNat < n - (intOf (.int .i64 (k : Int))).toNat := by
  show n - ((k : Int) + 1).toNat < n - (k : Int).toNat
  omega
theorem kdPower {w : World} {F : Ft} {G C : Nat} {bx : Array Value} {W : World} {d : Dk} {g : Lg} {v : Value} {L : List (List UInt8)} (h : Kx w F G C bx W d g v L) {fA : Option Addr} {fc : Nat} {fts : List UInt8} (h1 : fts.length ≤ fc) (h2 : fc ≤ maxLen) (hr : RB w fA fts) :
    Calls Try.prog 13 #[.pointer (some ⟨F.b, 0, none⟩), .slice fA fts.length fc] W fun e w' => e = .returned (.tuple #[]) ∧ Kx w F G C bx w' (d.power fts) g v L := by
  refine (power_any h.lw.1 fA fts.length fc fts rfl h1 (by omega) (hr.below h.bel) (fun hne ad e hk => ?_)).mono ?_
  · have h1 := h.lw.1.based _ hk
    rcases hr with hr | ⟨ad', e', hc⟩
    · exact hne hr
    · rw [e] at e'
      injection e' with e'
      subst e'
      have h2 := lt_of_cell (hc 0 _ (List.getElem?_eq_getElem (List.length_pos_iff.2 hne)))
      rw [block_of_add] at h2
      omega
  · rintro e w' ⟨rfl, dk, f⟩
    have := h.lw.disk dk f
    exact ⟨rfl, h.step this.1 this.2⟩
theorem kdBreak {w : World} {F : Ft} {G C : Nat} {bx : Array Value} {W : World} {d : Dk} {g : Lg} {v : Value} {L : List (List UInt8)} (h : Kx w F G C bx W d g v L) (z : Int) (b : Bool) (hz : z ≤ 9223372036854775807) :
    Calls Try.prog 12 #[.pointer (some ⟨F.b, 0, none⟩), .int .i64 z, .bool b] W fun e w' => e = .returned (.int .i64 (d.breakErr z : Int)) ∧ Kx w F G C bx w' (d.brk z b) g v L := by
  refine (break_any h.lw.1 z b hz).mono ?_
  rintro e w' ⟨rfl, dk, f⟩
  have := h.lw.disk dk f
  exact ⟨rfl, h.step this.1 this.2⟩
theorem kdOpen {w : World} {F : Ft} {G C : Nat} {bx : Array Value} {W : World} {d : Dk} {g : Lg} {v : Value} {L : List (List UInt8)} (h : Kx w F G C bx W d g v L) (hq : Dq d 20 2 12 g.epoch) (he1 : 1 ≤ g.epoch) (he : g.epoch ≤ 200) :
    Calls Try.prog 16 #[.pointer (some ⟨F.b, 0, none⟩), .int .i64 2, .int .i64 12, .int .i64 (g.epoch : Int)] W fun e w' => ∃ G', e = .returned (.tuple #[.pointer (some ⟨G', 0, none⟩), .int .i64 0]) ∧ Kx w F G' C bx w' d (openG d 2 12 g.epoch) v L := by
  have hl := h.lw
  obtain ⟨dk, _, v5, v6, Y, _, hz⟩ := hl
  refine (waOpen_any dk h.bel.size hq.off (first := 2) (count := 12) (epoch := g.epoch) (by omega) (by have := hq.len; omega) he1 (by omega)).mono ?_
  rintro e w' ⟨G', rfl, b, l⟩
  exact ⟨G', rfl, h.step (l _ (fun b hb => hz b (.inl hb)) h.zlt) (Frm.of_below b)⟩
set_option maxHeartbeats 8000000 in
set_option maxRecDepth 100000 in
theorem walKeeps_core (A : Option Addr) (n c : Nat) (l : List At) (w : World) (hl : l.length = n) (hn : n ≤ 9223372036854775807) (ha : RG KA w A l) (hq : ∀ a ∈ l, a.2.1.length ≤ maxLen) :
    Calls Try.prog 3 #[.slice A n c] w fun e w' => e = .returned (.bool true) ∧ Below w.heap.size w w' := by
  have HL := Lib.hid hl
  have HA := Lib.hid ha
  have KF := Lib.hid (waFew_any A n c l 40 w hl hn ha hq)
  clear hl ha hq
  cases hf : fewP l 40 with
  | false =>
    rw [hf] at KF
    go_enter Try.func3, Try.ntmps3
    go_wp2_with (first
      | (go_at_call 5; refine KF.out.mono ?_; rintro e w0 ⟨rfl, rfl⟩)
      | (go_at_call 6; refine (waAwake_any _).mono ?_; rintro e w1 ⟨rfl, b1⟩; have B1 := Lib.hid b1; clear b1)
      | fail)
    go_ret
    exact ⟨rfl, B1.out⟩
  | true =>
    rw [hf] at KF
    obtain ⟨hf1, hf2⟩ := fewP_at hf
    rw [HL.out] at hf1
    have HF2 := Lib.hid hf2
    clear hf hf2
    go_enter Try.func3, Try.ntmps3
    go_wp2_with (first
      | (go_at_call 5; refine KF.out.mono ?_; rintro e w0 ⟨rfl, rfl⟩)
      | fail)
    refine (new_any 20 w).mono ?_
    rintro e w1 ⟨F, rfl, k1, b1⟩
    have KN := Lib.hid (waNew_any k1 b1.size rfl (first := 2) (count := 12) (epoch := 1) (by omega) (by show 14 ≤ (List.replicate _ _).length; rw [List.length_replicate]; decide) (by omega) (by omega))
    have K1 := Lib.hid k1
    have B1 := Lib.hid b1
    clear k1 b1
    go_upto_region 10 with (first
      | (go_at_call 8; refine KN.out.mono ?_; rintro e w2 ⟨G, rfl, g2, b2, l2⟩; have L2 := Lib.hid (l2 (fun b => b < w.heap.size) (fun b hb hz => by have := K1.out.based b hb; omega) (fun b hb => Nat.lt_of_lt_of_le hb B1.out.size)); have B2 := Lib.hid (B1.out.trans (b2.mono B1.out.size)); clear l2 b2 g2)
      | fail)
    have LW0 : LW w.heap.size F G (fun b => b < w.heap.size ∨ (Value.slice none 0 0).ownBlock = some b) w2 (Dk.new 20) (newG 2 12 1) := L2.out.away (Z' := fun b => b < w.heap.size ∨ (Value.slice none 0 0).ownBlock = some b) fun b _ hb => by
      rcases hb with hb | hb
      · exact hb
      · cases hb
    have ST : Hid (∃ k : Nat, k ≤ n ∧ (Value.int .i64 0) = .int .i64 (k : Int) ∧ SkR w F k (.pointer (some ⟨G, 0, none⟩)) (.slice none 0 0) (.int .i64 0) w2) := Lib.hid ⟨0, Nat.zero_le _, rfl, G, _, _, rfl, rfl, LW0, OG.nil, B2.out, rfl, rfl, by decide, by decide, by decide, jn_new 20 2 12 1 (by omega) (by omega) (by omega) (by omega) (by omega)⟩
    clear LW0 L2 B2 KN K1 B1
    go_loopw [4, 6, 7, 8, 9, 10, 11, 12] (fun p v z i _ _ _ _ wr => ∃ k : Nat, k ≤ n ∧ i = .int .i64 (k : Int) ∧ SkR w F k p v z wr) (fun _ _ _ i _ _ _ _ _ => n - (intOf i).toNat)
    case atStart => exact ST.out
    case round =>
      clear ST
      obtain ⟨k, hk, rfl, G, d, g, rfl, rfl, hLW, hO, hB, sk⟩ := hrel
      obtain ⟨A6, c6, rfl, hc6, hm6, _, _⟩ := hO.rg
      obtain ⟨L, hL⟩ : ∃ L, L = g.recs ++ g.wt := ⟨_, rfl⟩
      rw [← hL] at hO hLW hc6 ⊢
      have HLL := Lib.hid hL
      have HB := Lib.hid hB
      have HSK := Lib.hid sk
      have HLW := Lib.hid hLW
      have HO := Lib.hid hO
      clear hL
      by_cases hlt : k < n
      · have hk' : (k : Int) < (n : Int) := by omega
        obtain ⟨a, hka⟩ : ∃ a, l[k]? = some a := ⟨l[k]'(by rw [HL.out]; exact hlt), List.getElem?_eq_getElem _⟩
        obtain ⟨ad, fA, fc, rfl, hca, hfc1, hfc2, hfr⟩ := ka_at HA.out hka
        have hs300 := HF2.out k a hka
        have hkn : k ≤ 40 := by omega
        obtain ⟨kd8, s, nn, dk8, dn, dc, dcut, dd, fts⟩ := a
        have hca' : CellsAt wr (ad.add (k * 9)) [.int .u8 (kd8.toNat : Int), .string (str s), .int .i64 nn, .int .u8 (dk8.toNat : Int), .int .i64 dn, .int .u8 (dc.toNat : Int), .int .u8 (dcut.toNat : Int), .bool dd, .slice fA fts.length fc] := hca.same (hB.block _ (by have := hca.lt (by simp [KBa]); exact this))
        have x0 : wr.cell? (ad.add (k * 9)) = some (.int .u8 (kd8.toNat : Int)) := by have := hca' 0 _ rfl; rwa [Addr.add_nought] at this
        have x1 : wr.cell? ⟨(ad.add (k * 9)).block, (ad.add (k * 9)).off + 1, none⟩ = some (.string (str s)) := by rw [← add_pos (ad.add (k * 9)) 1 (by omega)]; exact hca' 1 _ rfl
        have x2 : wr.cell? ⟨(ad.add (k * 9)).block, (ad.add (k * 9)).off + 2, none⟩ = some (.int .i64 nn) := by rw [← add_pos (ad.add (k * 9)) 2 (by omega)]; exact hca' 2 _ rfl
        have x3 : wr.cell? ⟨(ad.add (k * 9)).block, (ad.add (k * 9)).off + 3, none⟩ = some (.int .u8 (dk8.toNat : Int)) := by rw [← add_pos (ad.add (k * 9)) 3 (by omega)]; exact hca' 3 _ rfl
        have x4 : wr.cell? ⟨(ad.add (k * 9)).block, (ad.add (k * 9)).off + 4, none⟩ = some (.int .i64 dn) := by rw [← add_pos (ad.add (k * 9)) 4 (by omega)]; exact hca' 4 _ rfl
        have x5 : wr.cell? ⟨(ad.add (k * 9)).block, (ad.add (k * 9)).off + 5, none⟩ = some (.int .u8 (dc.toNat : Int)) := by rw [← add_pos (ad.add (k * 9)) 5 (by omega)]; exact hca' 5 _ rfl
        have x6 : wr.cell? ⟨(ad.add (k * 9)).block, (ad.add (k * 9)).off + 6, none⟩ = some (.int .u8 (dcut.toNat : Int)) := by rw [← add_pos (ad.add (k * 9)) 6 (by omega)]; exact hca' 6 _ rfl
        have x7 : wr.cell? ⟨(ad.add (k * 9)).block, (ad.add (k * 9)).off + 7, none⟩ = some (.bool dd) := by rw [← add_pos (ad.add (k * 9)) 7 (by omega)]; exact hca' 7 _ rfl
        have x8 : wr.cell? ⟨(ad.add (k * 9)).block, (ad.add (k * 9)).off + 8, none⟩ = some (.slice fA fts.length fc) := by rw [← add_pos (ad.add (k * 9)) 8 (by omega)]; exact hca' 8 _ rfl
        have KW := Lib.hid (Kx.start (bx := #[.int .u8 (kd8.toNat : Int), .string (str s), .int .i64 nn, .int .u8 (dk8.toNat : Int), .int .i64 dn, .int .u8 (dc.toNat : Int), .int .u8 (dcut.toNat : Int), .bool dd, .slice fA fts.length fc]) hLW hO hB)
        have HFR := Lib.hid hfr
        have HFC1 := Lib.hid hfc1
        have HFC2 := Lib.hid hfc2
        have hfcI : (fc : Int) ≤ 9223372036854775807 := by unfold maxLen at hfc2; omega
        have hsl : s.length ≤ 300 := hs300
        have hszs := str_size s
        clear hca hca' hka hLW hO hB hfr hfc1 hfc2 sk hs300
        go_upto_region 13 with fail
        clear x0 x1 x2 x3 x4 x5 x6 x7 x8
        generalize wr.heap.size = C at *
        generalize (wr.alloc (.cells #[.int .u8 (kd8.toNat : Int), .string (str s), .int .i64 nn, .int .u8 (dk8.toNat : Int), .int .i64 dn, .int .u8 (dc.toNat : Int), .int .u8 (dcut.toNat : Int), .bool dd, .slice fA fts.length fc] 36)) = wa at *
        have x0 : wa.cell? ⟨C, 0, none⟩ = some (.int .u8 (kd8.toNat : Int)) := KW.out.cell 0
        have x1 : wa.cell? ⟨C, 1, none⟩ = some (.string (str s)) := KW.out.cell 1
        have x2 : wa.cell? ⟨C, 2, none⟩ = some (.int .i64 nn) := KW.out.cell 2
        have x7 : wa.cell? ⟨C, 7, none⟩ = some (.bool dd) := KW.out.cell 7
        have x8 : wa.cell? ⟨C, 8, none⟩ = some (.slice fA fts.length fc) := KW.out.cell 8
        have zk0 : 0 ≤ (kd8.toNat : Int) := by omega
        have zk1 : (kd8.toNat : Int) < 256 := by have := kd8.toNat_lt; omega
        generalize hkd : (kd8.toNat : Int) = kd at *
        clear hkd
        have KBR := Lib.hid (show ∀ z : Int, z ≤ 9223372036854775807 → Calls Try.prog 12 #[.pointer (some ⟨F.b, 0, none⟩), .int .i64 z, .bool dd] wa _ from fun z hz => kdBreak KW.out z dd hz)
        have KPO := Lib.hid (kdPower KW.out HFC1.out HFC2.out HFR.out)
        have hwtl : g.wt.length ≤ 500 := by have := HSK.out.few; omega
        have hrcl : g.recs.length ≤ 500 := by have := HSK.out.few; omega
        have hcll : d.calls ≤ 100000 := by have := HSK.out.calls; omega
        have KAD := Lib.hid (fun (e : Nat) g' h1 h2 => awAddZ (z := str s) rfl KW.out.lw KW.out.bel.size KW.out.zlt (e := e) (g' := g') h1 h2 (by omega) hwtl)
        have KSY := Lib.hid (awSyncZ KW.out.lw KW.out.bel.size KW.out.zlt (e := syncE d g) rfl rfl rfl hcll hwtl hrcl)
        have KEP := Lib.hid (awEpoch KW.out.lw (n := g.epoch) rfl)
        have hrst := HSK.out.rest hkn
        have KRS := Lib.hid (awRestZ KW.out.lw hrst.1 hrst.2.1)
        have HSW5 := Lib.hid hrst.2.2
        have hepI : (g.epoch : Int) ≤ 1000 := by have := HSK.out.ep; omega
        clear hrst hwtl hrcl hcll
        go_upto_block 2 with fail
        go_cut [4, 6, 7] from 29 to 132 (fun p v z wx => SwR w F C k #[.int .u8 kd, .string (str s), .int .i64 nn, .int .u8 (dk8.toNat : Int), .int .i64 dn, .int .u8 (dc.toNat : Int), .int .u8 (dcut.toNat : Int), .bool dd, .slice fA fts.length fc] p v z wx)
        case first =>
          by_cases q7 : kd % 8 = 7
          · go_wp2_with (first
              | (go_at_call 13; refine KPO.out.mono ?_; rintro e w3 ⟨rfl, k3⟩; have K3 := Lib.hid k3; clear k3)
              | fail)
            go_meet
            case rel => exact ⟨G, _, g, rfl, rfl, by rw [← HLL.out]; exact K3.out, HSK.out.power KW.out.lw.1.ok fts⟩
          · by_cases q6 : kd % 8 = 6
            · go_wp2_with (first
                | (go_at_call 12; refine (KBR.out _ (by unfold RowKit.wrap64; omega)).mono ?_; rintro e w3 ⟨rfl, k3⟩; have K3 := Lib.hid k3; clear k3)
                | fail)
              go_meet
              case rel => exact ⟨G, _, g, rfl, rfl, by rw [← HLL.out]; exact K3.out, HSK.out.brk _ dd⟩
            · by_cases q5 : kd % 8 = 5
              · go_wp2_with (first
                  | (go_at_call 11; refine KEP.out.mono ?_; rintro e w3 ⟨rfl, rfl⟩)
                  | (go_at_call 10; refine KRS.out.mono ?_; rintro e w3 ⟨rfl, l3, f3⟩; have K3 := Lib.hid (KW.out.step l3 f3).empty; clear l3 f3)
                  | fail)
                go_meet
                case rel => exact ⟨G, d, _, rfl, rfl, K3.out, HSW5.out⟩
              · by_cases q34 : kd % 8 = 3 ∨ kd % 8 = 4
                · by_cases hE : syncE d g = 0
                  · rw [hE] at KSY
                    rcases q34 with q34 | q34 <;>
                    · go_wp2_with (first
                        | (go_at_call 9; refine KSY.out.mono ?_; rintro e w3 ⟨rfl, l3, f3⟩; have L3 := Lib.hid l3; have K3 := Lib.hid (KW.out.step l3 f3); clear l3 f3)
                        | fail)
                      go_meet
                      case rel =>
                        obtain ⟨sw, e1, e2⟩ := HSK.out.sync KW.out.lw.1.ok L3.out.1.ok
                        rcases e2 with ⟨_, e2⟩ | ⟨e2, _⟩
                        · exact ⟨G, _, _, rfl, by rw [e2, ← HLL.out], by rw [e1, ← HLL.out]; exact K3.out, sw⟩
                        · exact absurd hE e2
                  · have hEI : ¬ ((syncE d g : Int) = 0) := by omega
                    obtain ⟨er, her⟩ : ∃ er, er = syncE d g := ⟨_, rfl⟩
                    rw [← her] at KSY hEI
                    rcases q34 with q34 | q34 <;>
                    · go_wp2_with (first
                        | (go_at_call 9; refine KSY.out.mono ?_; rintro e w3 ⟨rfl, l3, f3⟩; have L3 := Lib.hid l3; have K3 := Lib.hid (KW.out.step l3 f3); clear l3 f3)
                        | fail)
                      go_meet
                      case rel =>
                        obtain ⟨sw, e1, e2⟩ := HSK.out.sync KW.out.lw.1.ok L3.out.1.ok
                        rcases e2 with ⟨e2, _⟩ | ⟨_, e2⟩
                        · exact absurd e2 hE
                        · exact ⟨G, _, _, rfl, by rw [e2], by rw [e1, ← HLL.out]; exact K3.out, sw⟩
                · have z3 : (kd % 8 == 3) = false := by simp; omega
                  have z4 : (kd % 8 == 4) = false := by simp; omega
                  have z5 : (kd % 8 == 5) = false := by simp; omega
                  have z6 : (kd % 8 == 6) = false := by simp; omega
                  have z7 : (kd % 8 == 7) = false := by simp; omega
                  clear q34 q5 q6 q7
                  by_cases hE : g.addErr s = 0
                  · have KA0 := Lib.hid (KAD.out 0 _ hE rfl)
                    have hLl : L.length ≤ 100 := by rw [HLL.out, List.length_append]; have := HSK.out.few; omega
                    clear KAD
                    have HE := Lib.hid hE
                    clear hE
                    go_wp2_with (first
                      | (go_at_call 14; refine KA0.out.mono ?_; rintro e w3 ⟨rfl, l3, f3⟩; have K3 := Lib.hid (KW.out.step l3 f3); have x13 : w3.cell? ⟨C, 1, none⟩ = some (.string (str s)) := K3.out.cell 1; clear l3 f3)
                      | (at_builtin; (refine wpList_append_G tgS rfl _ _ rfl w.heap.size _ L rfl (K3.out.og.alloc (.cells #[.string (str s)] 9)) (some ⟨w3.heap.size, 0, none⟩) 1 1 [s] rfl rfl (rg_one (cell_of_row _ _ 0 _ _ _ (heap_alloc_last w3 (.cells #[.string (str s)] 9)))) (Apart.flat str_flat) (by omega) (by rw [heap_size_alloc]; have := K3.out.bel.size; omega) ?_; intro v6 w6 o6 b6 g6 h6; have K6 := Lib.hid (K3.out.grown (.cells #[.string (str s)] 9) o6 g6 h6); clear o6 b6 g6 h6))
                      | fail)
                    go_meet
                    case rel =>
                      obtain ⟨_, _, _, a4, a5, _⟩ := add_same g s
                      exact ⟨G, d, g.add s, rfl, by rw [a4], by rw [a4, a5 HE.out, ← List.append_assoc, ← HLL.out]; exact K6.out, HSK.out.add s⟩
                  · have hEI : ¬ ((g.addErr s : Int) = 0) := by omega
                    have KA0 := Lib.hid (KAD.out _ _ rfl rfl)
                    have HE := Lib.hid hE
                    clear KAD hE
                    obtain ⟨er, her⟩ : ∃ er, er = g.addErr s := ⟨_, rfl⟩
                    rw [← her] at KA0 hEI
                    clear her
                    go_wp2_with (first
                      | (go_at_call 14; refine KA0.out.mono ?_; rintro e w3 ⟨rfl, l3, f3⟩; have K3 := Lib.hid (KW.out.step l3 f3); clear l3 f3)
                      | fail)
                    go_meet
                    case rel =>
                      obtain ⟨_, _, _, a4, _, a6⟩ := add_same g s
                      exact ⟨G, d, g.add s, rfl, by rw [a4], by rw [a4, a6 HE.out, ← HLL.out]; exact K3.out, HSK.out.add s⟩
        case rest =>
          obtain ⟨G1, d1, g1, rfl, rfl, kx, sw⟩ := hcut
          obtain ⟨A7, c7, rfl, hc7, hm7, _, _⟩ := kx.og.rg
          obtain ⟨M, hM⟩ : ∃ M, M = g1.recs ++ g1.wt := ⟨_, rfl⟩
          rw [← hM] at kx hc7 ⊢
          have HM := Lib.hid hM
          have HKX := Lib.hid kx
          have HSW := Lib.hid sw
          clear hM KBR KPO KAD KSY KEP KRS HSW5 KW HLL HSK HLW HO x0 x1 x2 x7 x8
          have y0 : wc.cell? ⟨C, 0, none⟩ = some (.int .u8 kd) := kx.cell 0
          have y8 : wc.cell? ⟨C, 8, none⟩ = some (.slice fA fts.length fc) := kx.cell 8
          have KOF := off_any kx.lw.1
          have hways := sw.ways
          by_cases hgo : d1.off = false ∧ ¬ kd % 8 = 7
          · obtain ⟨o1, q7⟩ := hgo
            have hjn : Jn d1 g1 20 := by
              rcases hways with ⟨_, j⟩ | ⟨o, _⟩
              · exact j
              · rw [o1] at o; cases o
            have HJN := Lib.hid hjn
            rw [o1] at KOF
            have KOF := Lib.hid KOF
            clear hways hjn kx sw
            go_wp2_with (first
              | (go_at_call 15; refine KOF.out.mono ?_; rintro e w3 ⟨rfl, rfl⟩)
              | fail)
            exact ⟨⟨k + 1, by omega, by go_num, G1, d1, g1, rfl, rfl, HKX.out.done, by rw [← HM.out]; exact HKX.out.og, HKX.out.bel, HSW.out.first, HSW.out.count, by have := HSW.out.ep; omega, HSW.out.few, HSW.out.calls, HJN.out⟩, waMeas_next hlt⟩
          · have hpw : Pw d1 g1 20 ∧ 1 ≤ g1.epoch := by
              rcases hways with ⟨o, j⟩ | ⟨_, p, e⟩
              · exact ⟨j.pw0 kx.lw.1.ok, j.ok.ep1⟩
              · exact ⟨p, e⟩
            obtain ⟨hdq, T, R, e1, e2⟩ := hpw.1 fts
            have hep := sw.ep
            have he1 := hpw.2
            rw [sw.first, sw.count] at hdq e2
            have KPO := Lib.hid (kdPower kx HFC1.out HFC2.out HFR.out)
            have hML : M.length ≤ 100 := by rw [HM.out, List.length_append]; have := sw.few; omega
            have hbeg : ∃ N, M = (g1.recs ++ T) ++ N := ⟨R, by rw [HM.out, e1, List.append_assoc]⟩
            have hrl : (g1.recs ++ T).length ≤ 100 := by
              obtain ⟨N, hN⟩ := hbeg
              have := congrArg List.length hN
              rw [List.length_append] at this
              omega
            have hlen : ¬ (((g1.recs ++ T).length : Int) < (g1.recs.length : Int)) := by rw [List.length_append]; omega
            have HBG := Lib.hid hbeg
            have HDQ := Lib.hid hdq
            have HE2 := Lib.hid e2
            have hepI : (g1.epoch : Int) ≤ 1000 := by omega
            obtain ⟨RR, hRR⟩ : ∃ RR, RR = g1.recs ++ T := ⟨_, rfl⟩
            rw [← hRR] at HBG hrl hlen HE2
            clear e1 e2 hdq hbeg hpw hways kx sw hRR
            have AFT := Lib.hid (show ∀ V, Kx w F G1 C #[.int .u8 kd, .string (str s), .int .i64 nn, .int .u8 (dk8.toNat : Int), .int .i64 dn, .int .u8 (dc.toNat : Int), .int .u8 (dcut.toNat : Int), .bool dd, .slice fA fts.length fc] V (d1.power fts) g1 (.slice A7 M.length c7) M → Calls Try.prog 11 #[.pointer (some ⟨G1, 0, none⟩)] V (fun e w' => e = .returned (.int .i64 (g1.epoch : Int)) ∧ V = w') ∧ Calls Try.prog 16 #[.pointer (some ⟨F.b, 0, none⟩), .int .i64 2, .int .i64 12, .int .i64 (g1.epoch : Int)] V _ from fun V h => ⟨awEpoch h.lw rfl, kdOpen h HDQ.out he1 (by omega)⟩)
            have ORC := Lib.hid (show (openG (d1.power fts) 2 12 g1.epoch).recs = RR from HE2.out)
            have RST := Lib.hid (show ∀ (ok : (openG (d1.power fts) 2 12 g1.epoch).Ok), (openG (d1.power fts) 2 12 g1.epoch).restErr ((g1.epoch : Int) + 1) = 0 ∧ (openG (d1.power fts) 2 12 g1.epoch).rest ((g1.epoch : Int) + 1) = newG 2 12 (g1.epoch + 1) ∧ Jn (d1.power fts) (newG 2 12 (g1.epoch + 1)) 20 from fun ok => Dq.rest (g := openG (d1.power fts) 2 12 g1.epoch) HDQ.out ok rfl (by show g1.epoch + 1 ≤ 200; omega))
            have hepS : (openG (d1.power fts) 2 12 g1.epoch).epoch = g1.epoch := rfl
            have HEP := Lib.hid hepS
            clear hepS
            generalize hOG : openG (d1.power fts) 2 12 g1.epoch = og at *
            clear hOG
            have WAY : Hid ((d1.off = true) ∨ (d1.off = false ∧ kd % 8 = 7)) := Lib.hid (by
              cases o : d1.off with
              | true => exact .inl rfl
              | false =>
                right
                refine ⟨rfl, ?_⟩
                by_cases q : kd % 8 = 7
                · exact q
                · exact absurd ⟨o, q⟩ hgo)
            clear hgo
            have KPO2 := Lib.hid (show Calls Try.prog 13 #[.pointer (some ⟨F.b, 0, none⟩), .slice fA fts.length fc] wc (fun e w' => e = .returned (.tuple #[]) ∧ Kx w F G1 C #[.int .u8 kd, .string (str s), .int .i64 nn, .int .u8 (dk8.toNat : Int), .int .i64 dn, .int .u8 (dc.toNat : Int), .int .u8 (dcut.toNat : Int), .bool dd, .slice fA fts.length fc] w' (d1.power fts) g1 (.slice A7 M.length c7) M) from KPO.out)
            clear KPO
            rcases WAY.out with o1 | ⟨o1, q7⟩
            all_goals
              rw [o1] at KOF
              have KOF := Lib.hid KOF
              clear WAY o1
              go_wp2_with (first
                | (go_at_call 15; refine KOF.out.mono ?_; rintro e w3 ⟨rfl, rfl⟩)
                | (go_at_call 13; refine KPO2.out.mono ?_; rintro e w3 ⟨rfl, k3⟩; have K3 := Lib.hid k3; have AF := Lib.hid (AFT.out _ k3); clear k3)
                | (go_at_call 11; refine AF.out.1.mono ?_; rintro e w3 ⟨rfl, rfl⟩)
                | (go_at_call 16; refine AF.out.2.mono ?_; rintro e w4 ⟨G4, rfl, k4⟩; have K4 := Lib.hid k4; clear k4)
                | (go_at_call 17; refine (awRecs K4.out.lw ORC.out (by rw [ORC.out]; omega)).mono ?_; rintro e w5 ⟨v5, rfl, o5, b5⟩; obtain ⟨A8, c8, rfl, _, _, r8, _⟩ := o5.rg; have K5 := Lib.hid (K4.out.below b5); have KBG := Lib.hid (waBegins_any A8 A7 RR.length c8 M.length c7 RR M w5 rfl rfl (by omega) hc7 (by omega) hm7 r8.rs (by obtain ⟨A', c', e', _, _, r', _⟩ := K5.out.og.rg; injection e' with e1 _ e2; subst e1; exact r'.rs) HBG.out); clear o5 b5 r8)
                | (go_at_call 18; refine KBG.out.mono ?_; rintro e w6 ⟨rfl, b6⟩; have K6 := Lib.hid (K5.out.below b6); have RS6 := Lib.hid (RST.out K6.out.lw.2.1); have KR6 := Lib.hid (awRestZ K6.out.lw RS6.out.1 RS6.out.2.1); clear b6)
                | (go_at_call 11; refine (awEpoch K6.out.lw HEP.out).mono ?_; rintro e w7 ⟨rfl, rfl⟩)
                | (go_at_call 10; refine KR6.out.mono ?_; rintro e w7 ⟨rfl, l7, f7⟩; have K7 := Lib.hid (K6.out.step l7 f7).empty; clear l7 f7)
                | fail)
              exact ⟨⟨k + 1, by omega, by go_num, G4, _, _, rfl, rfl, K7.out.done, K7.out.og, K7.out.bel, rfl, rfl, by show g1.epoch + 1 ≤ _; omega, Nat.zero_le _, HSW.out.calls, RS6.out.2.2⟩, waMeas_next hlt⟩
      · obtain rfl : k = n := by omega
        clear hLW hO sk
        go_wp2_with (first
          | (go_at_call 6; refine (waAwake_any _).mono ?_; rintro e w3 ⟨rfl, b3⟩; have B3 := Lib.hid b3; clear b3)
          | fail)
        go_ret
        exact ⟨rfl, HB.out.trans (B3.out.mono HB.out.size)⟩
end Go.Proofs.Ytochifbbefbehaa
