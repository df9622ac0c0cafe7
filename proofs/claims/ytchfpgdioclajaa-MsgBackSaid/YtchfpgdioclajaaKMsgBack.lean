/- The walk of the law MsgBack. -/
import Derived.Test.YtchfpgdioclajaaMgZ
import Derived.Deep.DeepMust
namespace Go.Proofs.Ytchfpgdioclajaa
open Go.RowKit
set_option linter.unusedVariables false
set_option linter.unusedSimpArgs false
def mgEq (a b : Ms) : Bool := ((a.kind.toNat : Int) == (b.kind.toNat : Int)) && (a.key == b.key && (a.txn == b.txn && (a.ts == b.ts && (a.gone == b.gone && a.val == b.val))))
theorem mgEq_self (a : Ms) : mgEq a a = true := by
  have h : ∀ b : ByteArray, (b == b) = true := fun b => (vs_beq b b).2 rfl
  simp [mgEq, h]
theorem mgEqU (d : Nat) (w : World) (a b : Int) : (Op.equalIn (d + 1) 5 (.int .u8 a) (.int .u8 b)).run Try.prog w = .ok (a == b) w := by
  simp [Op.equalIn, run_underlying Try.underlying5, go_sem]
theorem mgEqV (d : Nat) (w : World) (a b : Ms) : (Op.equalIn (d + 2) 54 a.v b.v).run Try.prog w = .ok (mgEq a b) w := by
  have hF := Try.underlying54
  have hst : Try.prog.stoodInHeld 54 = false := by kernel_rfl
  unfold Ms.v
  rw [Op.equalIn]
  simp only [Sem.run_bind, run_underlying hF, Result.andThen_ok]
  simp [hst, part, vsEqI, vsEqB, vsEqS, mgEqU, go_sem]
  simp only [mgEq]
  (repeat' split) <;> simp_all
def catM (l : List Ms) : List UInt8 := (l.map putM).flatten
theorem catM_take {l : List Ms} {k : Nat} {x : Ms} (h : l[k]? = some x) : catM (l.take (k + 1)) = catM (l.take k) ++ putM x := by
  rw [List.take_add_one, h, Option.toList_some]
  simp [catM]
theorem catM_drop {l : List Ms} {k : Nat} {x : Ms} (h : l[k]? = some x) (t : List UInt8) : catM (l.drop k) ++ t = putM x ++ (catM (l.drop (k + 1)) ++ t) := by
  have hk := (List.getElem?_eq_some_iff.mp h).1
  have e : l[k] = x := (List.getElem?_eq_some_iff.mp h).2
  rw [List.drop_eq_getElem_cons hk, e]
  simp [catM]
theorem catM_len {l : List Ms} (h : ∀ x ∈ l, checkM x = 0) : (catM l).length ≤ 95 * l.length := by
  induction l with
  | nil => simp [catM]
  | cons x r ih =>
    have h1 := (putM_len (h x (by simp))).2
    have h2 := ih fun y hy => h y (by simp [hy])
    have h3 : catM (x :: r) = putM x ++ catM r := by simp [catM]
    rw [h3, List.length_append, List.length_cons]
    omega
theorem run_max0 (w : World) (ats : Array TypeId) (ty : TypeId) (a m : Int) (h : max 0 a = m) : (Builtin.max_ ats ty #[.int .i64 0, .int .i64 a]).run Try.prog w = .ok (.int .i64 m) w := by
  subst h
  have h2 : ∀ (x y : Int), (Builtin.max2 (.int .i64 x) (.int .i64 y)).run Try.prog w = .ok (.int .i64 (max x y)) w := fun x y => by
    simp only [Builtin.max2, Sem.run_pure]
    by_cases h : y > x
    · rw [if_pos h, Int.max_eq_right (by omega)]
    · rw [if_neg h, Int.max_eq_left (by omega)]
  simp [Builtin.max_, h2]
set_option maxHeartbeats 2000000 in
set_option maxRecDepth 100000 in
theorem msgBack_core (A : Option Addr) (n c : Nat) (l : List Ms) (B : Option Addr) (m d : Nat) (tl : List UInt8) (w : World) (hl : l.length = n) (hn : n ≤ maxLen) (hnc : n ≤ c) (hr : RG KM w A l) (hm : tl.length = m) (hm1 : m ≤ maxLen) (hmd : m ≤ d) (hs : RB w B tl) :
    Calls Try.prog 8 #[.slice A n c, .slice B m d] w fun e w' => e = .returned (.bool true) ∧ Below w.heap.size w w' := by
  have KA := Lib.hid (fun W => mgAwake_any W)
  have KM_ := Lib.hid (mgLight_any A n c l 20 w hl hn (by omega) hr)
  cases hlm : mgLight l 20 with
  | false =>
    rw [hlm] at KM_
    clear hlm hl hr hm hm1 hs hmd hnc
    go_enter Try.func8, Try.ntmps8
    go_wp2_with (first
      | (go_at_call 24; refine KM_.out.mono ?_; rintro e w1 ⟨rfl, rfl⟩)
      | (go_at_call 25; refine (KA.out _).mono ?_; rintro e w2 ⟨rfl, b2⟩; have HB := Lib.hid b2; clear b2)
      | fail)
    go_ret
    exact ⟨rfl, HB.out⟩
  | true =>
    rw [hlm] at KM_
    have hn20 : n ≤ 20 := by rw [← hl]; exact (mgLight_at hlm).1
    clear hlm hn
    by_cases h100 : 100 < m
    · have h100' : decide ((100 : Int) < (m : Int)) = true := by simp; omega
      clear hl hr hm hm1 hs hmd hnc h100
      go_enter Try.func8, Try.ntmps8
      go_wp2_with (first
        | (go_at_call 24; refine KM_.out.mono ?_; rintro e w1 ⟨rfl, rfl⟩)
        | (go_at_call 25; refine (KA.out _).mono ?_; rintro e w2 ⟨rfl, b2⟩; have HB := Lib.hid b2; clear b2)
        | fail)
      go_ret
      exact ⟨rfl, HB.out⟩
    · have h100' : decide ((100 : Int) < (m : Int)) = false := by simp; omega
      have HL := Lib.hid hl
      have HR := Lib.hid (fun W (h : Below w.heap.size w W) => hr.below h)
      have HT := Lib.hid (fun W (h : Below w.heap.size w W) => hs.below h)
      have HTm := Lib.hid hm
      have HM100 := Lib.hid h100
      have HN20 := Lib.hid hn20
      have HNC := Lib.hid hnc
      clear hl hr hs hm hm1 hmd h100 hn20 hnc
      go_enter Try.func8, Try.ntmps8
      go_upto_region 5 with (first
        | (go_at_call 24; refine KM_.out.mono ?_; rintro e w1 ⟨rfl, rfl⟩)
        | fail)
      clear KM_ h100'
      go_loopw [5, 6] (fun v i wr => ∃ k : Nat, k ≤ n ∧ i = .int .i64 (k : Int) ∧ OB w.heap.size wr v (catM (l.take k)) ∧ Below w.heap.size w wr ∧ ∀ x ∈ l.take k, checkM x = 0) (fun _ i _ => n - (intOf i).toNat)
      case atStart => exact ⟨0, Nat.zero_le _, rfl, OB.nil, Below.refl _ _, fun x hx => by simp at hx⟩
      case round =>
        obtain ⟨k, hk, rfl, ho, hb, hck⟩ := hrel
        have HO := Lib.hid ho
        have HB := Lib.hid hb
        have HCK := Lib.hid hck
        by_cases hlt : k < n
        · have hk20 : k < 20 := by have := HN20.out; omega
          obtain ⟨x, hx⟩ : ∃ x, l[k]? = some x := ⟨l[k]'(by rw [HL.out]; exact hlt), List.getElem?_eq_getElem _⟩
          obtain ⟨ad, rfl, hv⟩ := (HR.out _ hb).ms hx
          have c0 := hv.d0; have c1 := hv.d1; have c2 := hv.d2; have c3 := hv.d3; have c4 := hv.d4; have c5 := hv.d5
          have KP := Lib.hid (fun W => mgPut_any x W)
          have KS := Lib.hid (fun W => mgSize_any x W)
          have HV := Lib.hid (fun W (h : Below wr.heap.size wr W) => (show MsAt W (ad.add (k * 6)) x from by
            obtain ⟨ad', e, h'⟩ := (HR.out W (hb.trans (h.mono hb.size))).ms hx
            injection e with e
            rw [e]
            exact h'))
          have HX := Lib.hid hx
          have HTK := Lib.hid (catM_take hx)
          have HLn := Lib.hid (catM_len hck)
          clear hv ho hb hck hx
          unfold Ms.v at *
          by_cases h0 : checkM x = 0
          · have hp1 := (putM_len h0).1
            have HP95 := Lib.hid (putM_len h0).2
            have hsz : sizeM x = (putM x).length := by unfold sizeM; rw [if_pos h0]
            have H0 := Lib.hid h0
            rw [hsz] at KS
            rw [h0, if_pos rfl] at KP
            generalize putM x = P at *
            have hz0 : ((P.length : Int) == 0) = false := by rw [beq_eq_false_iff_ne]; omega
            clear h0 hsz hp1
            go_wp2_with (first
              | (go_at_call 34; refine (KP.out _).mono ?_; rintro e w1 ⟨v1, rfl, o1, b1⟩; obtain ⟨A1, c1', rfl, hc1, r1⟩ := o1.form; have R1 := Lib.hid r1; have B1 := Lib.hid b1; have O1 := Lib.hid (HO.out.keep b1 (by have := HB.out.size; omega)); have hv1 := HV.out w1 b1; have y0 := hv1.d0; have y1 := hv1.d1; have y2 := hv1.d2; have y3 := hv1.d3; have y4 := hv1.d4; have y5 := hv1.d5; clear o1 b1 r1 hc1 hv1)
              | (go_at_call 38; refine (KS.out _).mono ?_; rintro e w2 ⟨rfl, b2⟩; have R2 := Lib.hid (R1.out.below b2); have O2 := Lib.hid (O1.out.keep b2 (by have := B1.out.size; have := HB.out.size; omega)); have B2 := Lib.hid (HB.out.trans ((B1.out.trans (b2.mono B1.out.size)).mono HB.out.size)); clear b2)
              | (at_builtin; refine wpList_append_B rfl (.tmp 61) (.tmp 62) rfl w.heap.size _ _ rfl O2.out _ _ _ P rfl rfl R2.out (by have h1 := HLn.out; have h2 := HP95.out; have h3 := HN20.out; rw [List.length_take] at h1; omega) B2.out.size ?_; intro v3 w3 o3 b3; have O3 := Lib.hid o3; have B3 := Lib.hid (B2.out.trans b3); clear o3 b3)
              | fail)
            go_roundw
            case rel => exact ⟨k + 1, by omega, by go_num, by rw [HTK.out]; exact O3.out, B3.out, fun y hy => by
              rw [List.take_add_one, HX.out, Option.toList_some, List.mem_append] at hy
              rcases hy with hy | hy
              · exact HCK.out y hy
              · simp at hy
                subst hy
                exact H0.out⟩
            case measure => simp [intOf]; omega
          · have hz : ((checkM x : Int) != 0) = true := by simp; omega
            rw [if_neg h0] at KP
            generalize checkM x = E at *
            clear h0
            go_wp2_with (first
              | (go_at_call 34; refine (KP.out _).mono ?_; rintro e w1 ⟨v1, rfl, o1, b1⟩; have B1 := Lib.hid (HB.out.trans (b1.mono HB.out.size)); clear o1 b1)
              | (go_at_call 25; refine (KA.out _).mono ?_; rintro e w2 ⟨rfl, b2⟩; have B2 := Lib.hid (B1.out.trans (b2.mono B1.out.size)); clear b2)
              | fail)
            go_ret
            exact ⟨rfl, B2.out⟩
        · obtain rfl : k = n := by omega
          clear ho hb hck
          have e1 : l.take k = l := List.take_of_length_le (by rw [HL.out]; exact Nat.le_refl _)
          rw [e1] at HO HCK
          have HLn := Lib.hid (catM_len HCK.out)
          go_upto_region 13 with (first
            | (at_builtin; refine wpList_append_B rfl (.tmp 64) (.tmp 65) rfl w.heap.size _ _ rfl HO.out _ _ _ tl rfl HTm.out (HT.out _ HB.out) (by have h1 := HLn.out; have h2 := HN20.out; have h3 := HM100.out; rw [HL.out] at h1; omega) HB.out.size ?_; intro v3 w3 o3 b3; have O3 := Lib.hid o3; have B3 := Lib.hid (HB.out.trans b3); clear o3 b3)
            | fail)
          have HLN : Hid ((catM l ++ tl).length ≤ 2000) := Lib.hid (by have h1 := HLn.out; have h2 := HN20.out; have h3 := HM100.out; have h4 := HTm.out; rw [HL.out] at h1; rw [List.length_append]; omega)
          obtain ⟨A9, c9, e9, hc9, r9⟩ := O3.out.form
          obtain ⟨N9, hN9⟩ : ∃ N9, N9 = (catM l ++ tl).length := ⟨_, rfl⟩
          rw [← hN9] at e9 hc9 HLN
          have HN9 := Lib.hid hN9
          subst e9
          clear hN9
          have R9 := Lib.hid r9
          have C9 := Lib.hid hc9
          clear O3 HO HLn e1 r9 hc9
          go_loopw [5, 9] (fun v i wr => ∃ (j : Nat) (A' : Option Addr) (N' c' : Nat), j ≤ k ∧ i = .int .i64 (j : Int) ∧ v = .slice A' N' c' ∧ N' = (catM (l.drop j) ++ tl).length ∧ N' ≤ c' ∧ RB wr A' (catM (l.drop j) ++ tl) ∧ Below w.heap.size w wr ∧ N' ≤ 2000) (fun _ i _ => k - (intOf i).toNat)
          case atStart => exact ⟨0, A9, N9, c9, Nat.zero_le _, rfl, rfl, HN9.out, C9.out, R9.out, B3.out, HLN.out⟩
          case round =>
            clear R9 C9 B3 HLN HN9
            obtain ⟨j, A', N', c', hj, rfl, rfl, hN', hc', hrb, hb, hN⟩ := hrel
            by_cases hlt : j < k
            · have hk20 : j < 20 := by have := HN20.out; omega
              obtain ⟨x, hx⟩ : ∃ x, l[j]? = some x := ⟨l[j]'(by rw [HL.out]; exact hlt), List.getElem?_eq_getElem _⟩
              have h0 := HCK.out x (List.mem_of_getElem? hx)
              have HD := catM_drop hx tl
              obtain ⟨R', hR'⟩ : ∃ R', R' = catM (l.drop (j + 1)) ++ tl := ⟨_, rfl⟩
              rw [← hR'] at HD
              rw [HD] at hN' hrb
              have hp := putM_len h0
              have hNl : N' = (putM x).length + R'.length := by rw [hN', List.length_append]
              have KG1 := Lib.hid (fun W (h : Below wr.heap.size wr W) => show Calls Try.prog 36 #[.slice A' N' c'] W fun e w' => e = .returned (.tuple #[x.v, .int .i64 ((putM x).length : Nat), .int .i64 0]) ∧ Below W.heap.size W w' from by
                refine (mgGet_any A' N' c' (putM x ++ R') W (by omega) hN'.symm hc' (hrb.below h)).mono ?_
                rintro e w' ⟨m', k', z', rfl, h1, h2⟩
                obtain ⟨rfl, rfl, rfl⟩ := h1.put h0
                exact ⟨rfl, h2⟩)
              have KG2 := Lib.hid (fun W (h : Below wr.heap.size wr W) => show Calls Try.prog 36 #[.slice A' ((putM x).length - 1) c'] W fun e w' => ∃ (m' : Ms) (k' : Nat), e = .returned (.tuple #[m'.v, .int .i64 (k' : Int), .int .i64 4]) ∧ Below W.heap.size W w' from by
                refine (mgGet_any A' ((putM x).length - 1) c' ((putM x ++ R').take ((putM x).length - 1)) W (by omega) (by rw [List.length_take, List.length_append]; omega) (by omega) ((hrb.take _).below h)).mono ?_
                rintro e w' ⟨m', k', z', rfl, h1, h2⟩
                obtain rfl := h1.cut h0
                exact ⟨m', k', rfl, h2⟩)
              obtain ⟨B', hs1, hs2, hs3⟩ := run_from A' N' c' (putM x).length ((putM x).length : Int) rfl (by omega) hc' (putM x ++ R') hN'.symm
              have HB' := Lib.hid (fun W (h : Below wr.heap.size wr W) => show RB W B' R' from by have h2 := hs3 W (hrb.below h); rw [List.drop_left] at h2; exact h2)
              have hmx := fun (W : World) ats ty => run_max0 W ats ty (((putM x).length : Int) - 1) (((putM x).length - 1 : Nat) : Int) (by omega)
              have heq : ∀ W, (Op.equalIn 10000 54 x.v x.v).run Try.prog W = .ok true W := fun W => by have h := mgEqV 9998 W x x; rw [mgEq_self] at h; exact h
              obtain ⟨ad, rfl, hv⟩ := (HR.out _ hb).ms hx
              have c0 := hv.d0; have c1 := hv.d1; have c2 := hv.d2; have c3 := hv.d3; have c4 := hv.d4; have c5 := hv.d5
              have HV := Lib.hid (fun W (h : Below wr.heap.size wr W) => (show MsAt W (ad.add (j * 6)) x from by
                obtain ⟨ad', e, h'⟩ := (HR.out W (hb.trans (h.mono hb.size))).ms hx
                injection e with e
                rw [e]
                exact h'))
              have HB := Lib.hid hb
              have HRR := Lib.hid hR'
              generalize (putM x).length = z at *
              have hwz : IntKind.i64.wrap ((z : Int) - 1) = (z : Int) - 1 := by rw [IntKind.wrap_i64]; omega
              have hzc : z - 1 ≤ c' := by omega
              have hNR : R'.length = N' - z := by omega
              have HNR := Lib.hid hNR
              have HC2 := Lib.hid (show N' - z ≤ c' - z by omega)
              have HN2 := Lib.hid (show N' - z ≤ 2000 by omega)
              have hgt : decide (N' < z) = false := by simp; omega
              clear hv hb h0 HD hc' hrb hN hN' hp hNl hs3 hx hR' hNR
              unfold Ms.v at *
              go_upto_region 16 with (go_at_call 36; refine (KG1.out _ (Below.refl _ _)).mono ?_; rintro e w1 ⟨rfl, b1⟩; have B1 := Lib.hid b1; clear b1)
              have XB := Lib.hid (MsBox.new w1 x 54)
              have B2 := Lib.hid (B1.out.alloc B1.out.size (.cells #[.int .u8 (x.kind.toNat : Int), .string x.key, .int .i64 x.txn, .int .i64 x.ts, .bool x.gone, .string x.val] 54))
              generalize w1.alloc (.cells #[.int .u8 (x.kind.toNat : Int), .string x.key, .int .i64 x.txn, .int .i64 x.ts, .bool x.gone, .string x.val] 54) = W2 at *
              generalize w1.heap.size = q at *
              obtain ⟨x0, x1, x2, x3, x4, x5, _, _, _, _, _, _⟩ := XB.out
              have hv2 := HV.out W2 B2.out
              have y0 := hv2.d0; have y1 := hv2.d1; have y2 := hv2.d2; have y3 := hv2.d3; have y4 := hv2.d4; have y5 := hv2.d5
              clear hv2 c0 c1 c2 c3 c4 c5
              go_region
              have B2 := Lib.hid B2.out.drew
              go_upto_region 18 with fail
              clear x0 x1 x2 x3 x4 x5 y0 y1 y2 y3 y4 y5
              go_upto_region 19 with (go_at_call 36; refine (KG2.out _ B2.out).mono ?_; rintro e w3 ⟨m3, k3, rfl, b3⟩; have B3 := Lib.hid (B2.out.trans (b3.mono B2.out.size)); clear b3)
              have B4 := Lib.hid (B3.out.alloc B3.out.size (.cells #[.int .u8 (m3.kind.toNat : Int), .string m3.key, .int .i64 m3.txn, .int .i64 m3.ts, .bool m3.gone, .string m3.val] 54))
              generalize w3.alloc (.cells #[.int .u8 (m3.kind.toNat : Int), .string m3.key, .int .i64 m3.txn, .int .i64 m3.ts, .bool m3.gone, .string m3.val] 54) = W4 at *
              have FIN := Lib.hid (show ∃ (j' : Nat) (A2 : Option Addr) (N2 c2 : Nat), j' ≤ k ∧ (Value.int .i64 ((j : Int) + 1)) = .int .i64 (j' : Int) ∧ Value.slice B' (N' - z) (c' - z) = .slice A2 N2 c2 ∧ N2 = (catM (l.drop j') ++ tl).length ∧ N2 ≤ c2 ∧ RB W4 A2 (catM (l.drop j') ++ tl) ∧ Below w.heap.size w W4 ∧ N2 ≤ 2000 from ⟨j + 1, B', N' - z, c' - z, by omega, by simp, rfl, by rw [← HRR.out, HNR.out], HC2.out, by rw [← HRR.out]; exact HB'.out _ B4.out, HB.out.trans (B4.out.mono HB.out.size), HN2.out⟩)
              go_wp2
              clear KA HL HR HT HTm HM100 HN20 HNC HB HCK HV KG1 KG2 HB' HRR HNR HC2 HN2
              go_roundw
              case rel => exact FIN.out
              case measure => simp [intOf]; omega
            · obtain rfl : j = k := by omega
              have e0 : catM (l.drop j) ++ tl = tl := by rw [List.drop_of_length_le (by rw [HL.out]; exact Nat.le_refl _)]; rfl
              rw [e0] at hN' hrb
              have hs1 := run_str wr A' N' c' tl hN'.symm hrb
              have hs2 := run_str wr B m d tl HTm.out (HT.out _ hb)
              have HB := Lib.hid hb
              clear hc' hrb hN hN' hb e0
              go_wp2_with (first
                | (go_at_call 25; refine (KA.out _).mono ?_; rintro e w2 ⟨rfl, b2⟩; have B2 := Lib.hid (HB.out.trans (b2.mono HB.out.size)); clear b2)
                | fail)
              go_ret
              exact ⟨rfl, B2.out⟩
end Go.Proofs.Ytchfpgdioclajaa
