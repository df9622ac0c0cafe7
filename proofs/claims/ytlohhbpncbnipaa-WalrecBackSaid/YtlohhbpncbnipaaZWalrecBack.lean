/- Joined: KWalrecBack LWalrecBack. -/
import Derived.Test.YtlohhbpncbnipaaM56
import Derived.Test.YtlohhbpncbnipaaM54
import Derived.Deep.RegionHeld3
import Derived.Deep.CutBlock
import Derived.Test.YtlohhbpncbnipaaM55
import Derived.WalkKit
import Derived.ProofKit
import Derived.OpenShut
import Derived.ShutString
import Derived.ChangeOld
import Derived.Below
section
/- The law WalrecBack: the walk. -/
namespace Go.Proofs.Ytlohhbpncbnipaa
open Go.RowKit
set_option linter.unusedVariables false
set_option linter.unusedSimpArgs false
set_option maxHeartbeats 8000000 in
set_option maxRecDepth 100000 in
theorem walrecBack_core (a b : Rec) (w : World) (hfa : a.fits) (hfb : b.fits) :
    Calls Try.prog 6 #[a.v, b.v] w fun e w' => e = .returned (.bool true) ∧ Below w.heap.size w w' := by
  have KA := Lib.hid (fun W => wrAwake_any W)
  have KL := Lib.hid (fun A W (h : RcsAt W A [a, b]) => light_any A 2 2 [a, b] 2 W rfl (by simp [maxLen]) h)
  have KPa := Lib.hid (fun W => wrPut_any a W)
  have KPb := Lib.hid (fun W => wrPut_any b W)
  have KCa := Lib.hid (fun W => wrCheck_any a W)
  have KCb := Lib.hid (fun W => wrCheck_any b W)
  have HF := Lib.hid (And.intro hfa hfb)
  have HLa := Lib.hid (putR_len (r := a))
  have HP0 := Lib.hid (putR_pos a)
  have HGa := Lib.hid (fun (h : checkR a = 0) (A : Option Addr) (n c : Nat) W (hl : (putR a).length = n) (hc : n ≤ c) (hr : RB W A (putR a)) => (show Calls Try.prog 14 #[.slice A n c] W (fun e w' => e = .returned (.tuple #[a.v, .int .i64 0]) ∧ Below W.heap.size W w') from by
    refine (wrGet_any A n c _ W (by have := putR_len h; omega) hl hc hr).mono ?_
    rintro e w' ⟨r, z, rfl, g, bb⟩
    obtain ⟨rfl, rfl⟩ := g.one (GetOf.yes h rfl)
    exact ⟨rfl, bb⟩))
  have HGm := Lib.hid (fun (h : checkR a = 0) (A : Option Addr) (n c : Nat) W (hl : (putR a ++ [0]).length = n) (hc : n ≤ c) (hr : RB W A (putR a ++ [0])) => (show Calls Try.prog 14 #[.slice A n c] W (fun e w' => e = .returned (.tuple #[.agg #[.int .u8 0, .int .i64 0, .int .i64 0, .string ⟨#[]⟩, .bool false, .string ⟨#[]⟩], .int .i64 4]) ∧ Below W.heap.size W w') from by
    refine (wrGet_any A n c _ W (by have := putR_len h; simp at hl; omega) hl hc hr).mono ?_
    rintro e w' ⟨r, z, rfl, g, bb⟩
    obtain ⟨rfl, rfl⟩ := g.one (GetOf.more h 0)
    exact ⟨rfl, bb⟩))
  have HE := Lib.hid (fun (ha : checkR a = 0) (hb : checkR b = 0) => (show ((str (putR a)).toList == (str (putR b)).toList) = recEq a b from by
    rw [Bool.eq_iff_iff, beq_iff_eq, recEq_iff]
    exact ⟨fun e => putR_inj ha hb (by simpa [str, ByteArray.toList_eq] using e), fun e => by rw [e]⟩))
  have heq := fun W => equalIn_rec 9998 W a b
  have heqa := fun W => equalIn_rec 9998 W a a
  rw [(recEq_iff a a).2 rfl] at heqa
  clear hfa hfb
  generalize lightR [a, b] 2 = lb at *
  generalize recEq a b = q at *
  generalize putR a = pa at *
  generalize putR b = pb at *
  generalize checkR a = Ea at *
  generalize checkR b = Eb at *
  obtain ⟨ak, at_, as_, ay, ag, av⟩ := a
  obtain ⟨bk, bt, bs, by_, bg, bv⟩ := b
  unfold Rec.v at *
  dsimp only at *
  have e1 := heap_size_alloc w (.cells #[.int .u8 (ak : Int), .int .i64 at_, .int .i64 as_, .string ay, .bool ag, .string av] 23)
  have XAa := (RecBox.new w (ak : Int) at_ as_ ay ag av).below ((Below.refl (w.heap.size + 1) (w.alloc (.cells #[.int .u8 (ak : Int), .int .i64 at_, .int .i64 as_, .string ay, .bool ag, .string av] 23))).alloc (by rw [e1]; exact Nat.le_refl _) (.cells #[.int .u8 (bk : Int), .int .i64 bt, .int .i64 bs, .string by_, .bool bg, .string bv] 23)) (by omega)
  have XBa := RecBox.new (w.alloc (.cells #[.int .u8 (ak : Int), .int .i64 at_, .int .i64 as_, .string ay, .bool ag, .string av] 23)) (bk : Int) bt bs by_ bg bv
  rw [e1] at XBa
  have XA := Lib.hid XAa
  have XB := Lib.hid XBa
  have BB := Lib.hid (((Below.refl w.heap.size w).alloc (Nat.le_refl _) (.cells #[.int .u8 (ak : Int), .int .i64 at_, .int .i64 as_, .string ay, .bool ag, .string av] 23)).alloc (by omega) (.cells #[.int .u8 (bk : Int), .int .i64 bt, .int .i64 bs, .string by_, .bool bg, .string bv] 23))
  clear XAa XBa e1
  go_enter Try.func6, Try.ntmps6
  go_upto_region 1 with fail
  generalize (w.alloc (.cells #[.int .u8 (ak : Int), .int .i64 at_, .int .i64 as_, .string ay, .bool ag, .string av] 23)).alloc (.cells #[.int .u8 (bk : Int), .int .i64 bt, .int .i64 bs, .string by_, .bool bg, .string bv] 23) = W0 at *
  obtain ⟨x0, x1, x2, x3, x4, x5, xf0, xf1, xf2, xf3, xf4, xf5⟩ := XA.out
  obtain ⟨y0, y1, y2, y3, y4, y5, yf0, yf1, yf2, yf3, yf4, yf5⟩ := XB.out
  go_wp2_with fail
  clear x0 x1 x2 x3 x4 x5 xf0 xf1 xf2 xf3 xf4 xf5 y0 y1 y2 y3 y4 y5 yf0 yf1 yf2 yf3 yf4 yf5 
  have RC := Lib.hid (rcs_new W0 [⟨ak, at_, as_, ay, ag, av⟩, ⟨bk, bt, bs, by_, bg, bv⟩] #[.int .u8 (ak : Int), .int .i64 at_, .int .i64 as_, .string ay, .bool ag, .string av, .int .u8 (bk : Int), .int .i64 bt, .int .i64 bs, .string by_, .bool bg, .string bv] rfl (by intro r hr; simp only [List.mem_cons, List.not_mem_nil, or_false] at hr; rcases hr with rfl | rfl; exact HF.out.1; exact HF.out.2) 23)
  have XA := Lib.hid (XA.out.below ((Below.refl W0.heap.size W0).alloc (Nat.le_refl _) (.cells #[.int .u8 (ak : Int), .int .i64 at_, .int .i64 as_, .string ay, .bool ag, .string av, .int .u8 (bk : Int), .int .i64 bt, .int .i64 bs, .string by_, .bool bg, .string bv] 23)) XA.out.lt)
  have XB := Lib.hid (XB.out.below ((Below.refl W0.heap.size W0).alloc (Nat.le_refl _) (.cells #[.int .u8 (ak : Int), .int .i64 at_, .int .i64 as_, .string ay, .bool ag, .string av, .int .u8 (bk : Int), .int .i64 bt, .int .i64 bs, .string by_, .bool bg, .string bv] 23)) XB.out.lt)
  have BB := Lib.hid (BB.out.alloc BB.out.size (.cells #[.int .u8 (ak : Int), .int .i64 at_, .int .i64 as_, .string ay, .bool ag, .string av, .int .u8 (bk : Int), .int .i64 bt, .int .i64 bs, .string by_, .bool bg, .string bv] 23))
  generalize (W0.alloc (.cells #[.int .u8 (ak : Int), .int .i64 at_, .int .i64 as_, .string ay, .bool ag, .string av, .int .u8 (bk : Int), .int .i64 bt, .int .i64 bs, .string by_, .bool bg, .string bv] 23)) = W1 at *
  refine (KL.out _ _ RC.out).mono ?_
  rintro e w1 ⟨rfl, rfl⟩
  clear RC KL HF
  by_cases hlb : lb = true
  · subst hlb
    have hEa : ((Ea : Int) != 0) = decide (Ea ≠ 0) := by rw [Bool.eq_iff_iff]; simp
    have hEb : ((Eb : Int) != 0) = decide (Eb ≠ 0) := by rw [Bool.eq_iff_iff]; simp
    by_cases hca : Ea = 0
    · rw [decide_eq_false (by simpa using hca)] at hEa
      have HA0 := Lib.hid hca
      by_cases hcb : Eb = 0
      · rw [decide_eq_false (by simpa using hcb)] at hEb
        have HB0 := Lib.hid hcb
        rw [if_pos hca] at KPa
        rw [if_pos hcb] at KPb
        clear hca hcb
        obtain ⟨x0, x1, x2, x3, x4, x5, xf0, xf1, xf2, xf3, xf4, xf5⟩ := XA.out
        obtain ⟨y0, y1, y2, y3, y4, y5, yf0, yf1, yf2, yf3, yf4, yf5⟩ := XB.out
        go_wp2_with fail
        refine (KCa.out _).mono ?_
        rintro e w2 ⟨rfl, b2⟩
        clear x0 x1 x2 x3 x4 x5 xf0 xf1 xf2 xf3 xf4 xf5 y0 y1 y2 y3 y4 y5 yf0 yf1 yf2 yf3 yf4 yf5 
        have XA := Lib.hid (XA.out.below b2 XA.out.lt)
        have XB := Lib.hid (XB.out.below b2 XB.out.lt)
        have BB := Lib.hid (BB.out.trans (b2.mono BB.out.size))
        clear b2
        obtain ⟨x0, x1, x2, x3, x4, x5, xf0, xf1, xf2, xf3, xf4, xf5⟩ := XA.out
        obtain ⟨y0, y1, y2, y3, y4, y5, yf0, yf1, yf2, yf3, yf4, yf5⟩ := XB.out
        go_wp2_with fail
        refine (KCb.out _).mono ?_
        rintro e w2 ⟨rfl, b2⟩
        clear x0 x1 x2 x3 x4 x5 xf0 xf1 xf2 xf3 xf4 xf5 y0 y1 y2 y3 y4 y5 yf0 yf1 yf2 yf3 yf4 yf5 
        have XA := Lib.hid (XA.out.below b2 XA.out.lt)
        have XB := Lib.hid (XB.out.below b2 XB.out.lt)
        have BB := Lib.hid (BB.out.trans (b2.mono BB.out.size))
        clear b2
        obtain ⟨x0, x1, x2, x3, x4, x5, xf0, xf1, xf2, xf3, xf4, xf5⟩ := XA.out
        obtain ⟨y0, y1, y2, y3, y4, y5, yf0, yf1, yf2, yf3, yf4, yf5⟩ := XB.out
        go_wp2_with fail
        refine (KPa.out _).mono ?_
        rintro e w3 ⟨v3, rfl, o3, b3⟩
        clear x0 x1 x2 x3 x4 x5 xf0 xf1 xf2 xf3 xf4 xf5 y0 y1 y2 y3 y4 y5 yf0 yf1 yf2 yf3 yf4 yf5 
        have XA := Lib.hid (XA.out.below b3 XA.out.lt)
        have XB := Lib.hid (XB.out.below b3 XB.out.lt)
        have BB := Lib.hid (BB.out.trans (b3.mono BB.out.size))
        obtain ⟨A3, c3, rfl, hc3, r3⟩ := o3.form
        have R3 := Lib.hid r3
        have hc3 := Lib.hid hc3
        clear o3 b3 r3 KPa KCa KCb
        obtain ⟨x0, x1, x2, x3, x4, x5, xf0, xf1, xf2, xf3, xf4, xf5⟩ := XA.out
        obtain ⟨y0, y1, y2, y3, y4, y5, yf0, yf1, yf2, yf3, yf4, yf5⟩ := XB.out
        go_wp2_with fail
        refine (KPb.out _).mono ?_
        rintro e w4 ⟨v4, rfl, o4, b4⟩
        clear x0 x1 x2 x3 x4 x5 xf0 xf1 xf2 xf3 xf4 xf5 y0 y1 y2 y3 y4 y5 yf0 yf1 yf2 yf3 yf4 yf5 
        have XA := Lib.hid (XA.out.below b4 XA.out.lt)
        have XB := Lib.hid (XB.out.below b4 XB.out.lt)
        have BB := Lib.hid (BB.out.trans (b4.mono BB.out.size))
        obtain ⟨A4, c4, rfl, hc4, r4⟩ := o4.form
        have R3 := Lib.hid (R3.out.below b4)
        have R4 := Lib.hid r4
        clear o4 b4 r4 hc4 KPb
        go_wp2_with fail
        refine (HGa.out HA0.out A3 _ c3 _ rfl hc3.out R3.out).mono ?_
        rintro e w5 ⟨rfl, b5⟩
        have XA := Lib.hid (XA.out.below b5 XA.out.lt)
        have XB := Lib.hid (XB.out.below b5 XB.out.lt)
        have BB := Lib.hid (BB.out.trans (b5.mono BB.out.size))
        have R3 := Lib.hid (R3.out.below b5)
        have R4 := Lib.hid (R4.out.below b5)
        have X9 := Lib.hid (RecBox.new w5 (ak : Int) at_ as_ ay ag av)
        have XA := Lib.hid (XA.out.below ((Below.refl w5.heap.size w5).alloc (Nat.le_refl _) (.cells #[.int .u8 (ak : Int), .int .i64 at_, .int .i64 as_, .string ay, .bool ag, .string av] 23)) XA.out.lt)
        have XB := Lib.hid (XB.out.below ((Below.refl w5.heap.size w5).alloc (Nat.le_refl _) (.cells #[.int .u8 (ak : Int), .int .i64 at_, .int .i64 as_, .string ay, .bool ag, .string av] 23)) XB.out.lt)
        have BB := Lib.hid (BB.out.alloc BB.out.size (.cells #[.int .u8 (ak : Int), .int .i64 at_, .int .i64 as_, .string ay, .bool ag, .string av] 23))
        have R3 := Lib.hid (R3.out.alloc (.cells #[.int .u8 (ak : Int), .int .i64 at_, .int .i64 as_, .string ay, .bool ag, .string av] 23))
        have R4 := Lib.hid (R4.out.alloc (.cells #[.int .u8 (ak : Int), .int .i64 at_, .int .i64 as_, .string ay, .bool ag, .string av] 23))
        clear b5 HGa
        go_upto_region 6 with fail
        obtain ⟨q9, hq9⟩ : ∃ q, q = w5.heap.size := ⟨_, rfl⟩
        rw [← hq9] at X9 ⊢
        clear hq9
        generalize (w5.alloc (.cells #[.int .u8 (ak : Int), .int .i64 at_, .int .i64 as_, .string ay, .bool ag, .string av] 23)) = W5 at *
        have hp96 : pa.length ≤ 96 := HLa.out HA0.out
        have O6 := Lib.hid (OB.lit W5 W5.heap.size [] #[] (by simp [cellsB]) (Nat.le_refl _) (by simp [maxLen]))
        have R6 := Lib.hid (R3.out.alloc (.cells #[] 5))
        have B6 := Lib.hid ((Below.refl W5.heap.size W5).alloc (Nat.le_refl _) (.cells #[] 5))
        obtain ⟨X, hX⟩ : ∃ X, X = str pa := ⟨_, rfl⟩
        obtain ⟨Y, hY⟩ : ∃ Y, Y = str pb := ⟨_, rfl⟩
        have HS := Lib.hid (fun W (h : Below W5.heap.size W5 W) => (show W.cell? ⟨w.heap.size, 0, none⟩ = some (.int .u8 (ak : Int)) ∧ W.cell? ⟨w.heap.size, 1, none⟩ = some (.int .i64 at_) ∧ W.cell? ⟨w.heap.size, 2, none⟩ = some (.int .i64 as_) ∧ W.cell? ⟨w.heap.size, 3, none⟩ = some (.string ay) ∧ W.cell? ⟨w.heap.size, 4, none⟩ = some (.bool ag) ∧ W.cell? ⟨w.heap.size, 5, none⟩ = some (.string av) ∧ W.cell? ⟨w.heap.size + 1, 0, none⟩ = some (.int .u8 (bk : Int)) ∧ W.cell? ⟨w.heap.size + 1, 1, none⟩ = some (.int .i64 bt) ∧ W.cell? ⟨w.heap.size + 1, 2, none⟩ = some (.int .i64 bs) ∧ W.cell? ⟨w.heap.size + 1, 3, none⟩ = some (.string by_) ∧ W.cell? ⟨w.heap.size + 1, 4, none⟩ = some (.bool bg) ∧ W.cell? ⟨w.heap.size + 1, 5, none⟩ = some (.string bv) ∧ W.cell? ⟨q9, 0, none⟩ = some (.int .u8 (ak : Int)) ∧ W.cell? ⟨q9, 1, none⟩ = some (.int .i64 at_) ∧ W.cell? ⟨q9, 2, none⟩ = some (.int .i64 as_) ∧ W.cell? ⟨q9, 3, none⟩ = some (.string ay) ∧ W.cell? ⟨q9, 4, none⟩ = some (.bool ag) ∧ W.cell? ⟨q9, 5, none⟩ = some (.string av) ∧ (convert 27 9 (.slice A3 pa.length c3)).run Try.prog W = .ok (.string X) W ∧ (convert 27 9 (.slice A4 pb.length c4)).run Try.prog W = .ok (.string Y) W from by
          obtain ⟨x0, x1, x2, x3, x4, x5, _⟩ := XA.out.below h XA.out.lt
          obtain ⟨y0, y1, y2, y3, y4, y5, _⟩ := XB.out.below h XB.out.lt
          obtain ⟨z0, z1, z2, z3, z4, z5, _⟩ := X9.out.below h X9.out.lt
          exact ⟨x0, x1, x2, x3, x4, x5, y0, y1, y2, y3, y4, y5, z0, z1, z2, z3, z4, z5, by rw [hX]; exact run_str W A3 pa.length c3 pa rfl (R3.out.below h), by rw [hY]; exact run_str W A4 pb.length c4 pb rfl (R4.out.below h)⟩))
        have hXY : (X.toList == Y.toList) = q := by rw [hX, hY]; exact HE.out HA0.out HB0.out
        have HXY := Lib.hid hXY
        have HQ := Lib.hid heq
        have HQA := Lib.hid heqa
        clear hX hY hXY XA XB HE heqa heq R3 R4 X9
        go_wp2_with (first
          | (at_builtin; refine wpList_append_B rfl (.tmp 45) (.tmp 46) rfl W5.heap.size _ [] rfl O6.out _ _ _ pa rfl rfl R6.out (by simp; omega) (by simp) ?_; intro v7 w7 o7 b7; have O7 := Lib.hid o7; have B7 := Lib.hid (B6.out.trans b7); have HS7 := Lib.hid B7.out.size; clear o7 b7)
          | (at_builtin; refine wpList_append_B rfl (.tmp 47) (.tmp 48) rfl W5.heap.size _ pa rfl (O7.out.alloc _) _ _ _ [0] rfl rfl (RB.one w7 _ 0 rfl) (by simp; omega) (by rw [heap_size_alloc]; have := HS7.out; omega) ?_; intro v8 w8 o8 b8; (obtain ⟨A8, c8, rfl, hc8, r8⟩ := o8.form); have B8 := Lib.hid ((B7.out.alloc HS7.out _).trans b8); have R8 := Lib.hid r8; have HC8 := Lib.hid hc8; clear o8 b8 r8 hc8)
          | (go_at_call 14; (with_reducible refine Calls.mono (HGm.out HA0.out A8 _ c8 w8 (by simp) (by have := HC8.out; simpa using this) R8.out) ?_); rintro e w9 ⟨rfl, b9⟩; have B9 := Lib.hid (B8.out.trans (b9.mono B8.out.size)); clear b9)
          | fail)
        have B10 := Lib.hid (B9.out.alloc B9.out.size (.cells #[.int .u8 0, .int .i64 0, .int .i64 0, .string ⟨#[]⟩, .bool false, .string ⟨#[]⟩] 23))
        clear B6 B7 B8 B9 O6 O7 R6 R8 HC8 HGm HS7
        generalize (w9.alloc (.cells #[.int .u8 0, .int .i64 0, .int .i64 0, .string ⟨#[]⟩, .bool false, .string ⟨#[]⟩] 23)) = W9 at *
        have HQ := HQ.out
        have HQA := HQA.out
        have HXY := HXY.out
        have he1 : ((Ea : Int) == 0) = true := by rw [HA0.out]; rfl
        have he2 : ((Eb : Int) == 0) = true := by rw [HB0.out]; rfl
        have he3 : decide ((pa.length : Int) ≤ 96) = true := by simp; omega
        have he3' : (pa.length : Int) ≤ 96 := by omega
        have hqq : (q == q) = true := by simp
        clear hEa hEb hp96
        have ST := Lib.hid B10.out.drew
        have cc := HS.out _ ST.out
        go_region_held3 (fun W => W.cell? ⟨w.heap.size, 0, none⟩ = some (.int .u8 (ak : Int)) ∧ W.cell? ⟨w.heap.size, 1, none⟩ = some (.int .i64 at_) ∧ W.cell? ⟨w.heap.size, 2, none⟩ = some (.int .i64 as_) ∧ W.cell? ⟨w.heap.size, 3, none⟩ = some (.string ay) ∧ W.cell? ⟨w.heap.size, 4, none⟩ = some (.bool ag) ∧ W.cell? ⟨w.heap.size, 5, none⟩ = some (.string av) ∧ W.cell? ⟨w.heap.size + 1, 0, none⟩ = some (.int .u8 (bk : Int)) ∧ W.cell? ⟨w.heap.size + 1, 1, none⟩ = some (.int .i64 bt) ∧ W.cell? ⟨w.heap.size + 1, 2, none⟩ = some (.int .i64 bs) ∧ W.cell? ⟨w.heap.size + 1, 3, none⟩ = some (.string by_) ∧ W.cell? ⟨w.heap.size + 1, 4, none⟩ = some (.bool bg) ∧ W.cell? ⟨w.heap.size + 1, 5, none⟩ = some (.string bv) ∧ W.cell? ⟨q9, 0, none⟩ = some (.int .u8 (ak : Int)) ∧ W.cell? ⟨q9, 1, none⟩ = some (.int .i64 at_) ∧ W.cell? ⟨q9, 2, none⟩ = some (.int .i64 as_) ∧ W.cell? ⟨q9, 3, none⟩ = some (.string ay) ∧ W.cell? ⟨q9, 4, none⟩ = some (.bool ag) ∧ W.cell? ⟨q9, 5, none⟩ = some (.string av) ∧ (convert 27 9 (.slice A3 pa.length c3)).run Try.prog W = .ok (.string X) W ∧ (convert 27 9 (.slice A4 pb.length c4)).run Try.prog W = .ok (.string Y) W) (first | with_reducible assumption | with_reducible exact cc | go_keep | fail)
          (first
            | (go_at_call 9; refine (KA.out _).mono ?_; rintro e w11 ⟨rfl, b11⟩; have ST := Lib.hid (ST.out.trans (b11.mono ST.out.size)); have cc := HS.out _ ST.out; clear b11)
            | fail)
        all_goals
          go_wp2_with fail
          go_ret
          exact ⟨rfl, BB.out.trans (ST.out.mono BB.out.size)⟩
      · rw [decide_eq_true hcb] at hEb
        clear heq heqa
        obtain ⟨x0, x1, x2, x3, x4, x5, xf0, xf1, xf2, xf3, xf4, xf5⟩ := XA.out
        obtain ⟨y0, y1, y2, y3, y4, y5, yf0, yf1, yf2, yf3, yf4, yf5⟩ := XB.out
        go_wp2_with fail
        refine (KCa.out _).mono ?_
        rintro e w2 ⟨rfl, b2⟩
        clear x0 x1 x2 x3 x4 x5 xf0 xf1 xf2 xf3 xf4 xf5 y0 y1 y2 y3 y4 y5 yf0 yf1 yf2 yf3 yf4 yf5 
        have XA := Lib.hid (XA.out.below b2 XA.out.lt)
        have XB := Lib.hid (XB.out.below b2 XB.out.lt)
        have BB := Lib.hid (BB.out.trans (b2.mono BB.out.size))
        clear b2
        obtain ⟨x0, x1, x2, x3, x4, x5, xf0, xf1, xf2, xf3, xf4, xf5⟩ := XA.out
        obtain ⟨y0, y1, y2, y3, y4, y5, yf0, yf1, yf2, yf3, yf4, yf5⟩ := XB.out
        go_wp2_with fail
        refine (KCb.out _).mono ?_
        rintro e w2 ⟨rfl, b2⟩
        clear x0 x1 x2 x3 x4 x5 xf0 xf1 xf2 xf3 xf4 xf5 y0 y1 y2 y3 y4 y5 yf0 yf1 yf2 yf3 yf4 yf5 
        have XA := Lib.hid (XA.out.below b2 XA.out.lt)
        have XB := Lib.hid (XB.out.below b2 XB.out.lt)
        have BB := Lib.hid (BB.out.trans (b2.mono BB.out.size))
        clear b2
        go_wp2_with fail
        all_goals (try exact absurd ‹Eb = 0› hcb)
        refine (KA.out _).mono ?_
        rintro e w3 ⟨rfl, b3⟩
        have BB := Lib.hid (BB.out.trans (b3.mono BB.out.size))
        clear b3
        go_wp2_with fail
        go_ret
        exact ⟨rfl, BB.out⟩
    · rw [decide_eq_true hca] at hEa
      clear heq heqa
      obtain ⟨x0, x1, x2, x3, x4, x5, xf0, xf1, xf2, xf3, xf4, xf5⟩ := XA.out
      obtain ⟨y0, y1, y2, y3, y4, y5, yf0, yf1, yf2, yf3, yf4, yf5⟩ := XB.out
      go_wp2_with fail
      refine (KCa.out _).mono ?_
      rintro e w2 ⟨rfl, b2⟩
      clear x0 x1 x2 x3 x4 x5 xf0 xf1 xf2 xf3 xf4 xf5 y0 y1 y2 y3 y4 y5 yf0 yf1 yf2 yf3 yf4 yf5 
      have XA := Lib.hid (XA.out.below b2 XA.out.lt)
      have XB := Lib.hid (XB.out.below b2 XB.out.lt)
      have BB := Lib.hid (BB.out.trans (b2.mono BB.out.size))
      clear b2
      go_wp2_with fail
      all_goals (try exact absurd ‹Ea = 0› hca)
      refine (KA.out _).mono ?_
      rintro e w3 ⟨rfl, b3⟩
      have BB := Lib.hid (BB.out.trans (b3.mono BB.out.size))
      clear b3
      go_wp2_with fail
      go_ret
      exact ⟨rfl, BB.out⟩
  · have hlb' : lb = false := by simpa using hlb
    subst hlb'
    clear hlb heq heqa
    go_wp2_with fail
    refine (KA.out _).mono ?_
    rintro e w3 ⟨rfl, b3⟩
    have BB := Lib.hid (BB.out.trans (b3.mono BB.out.size))
    clear b3
    go_wp2_with fail
    go_ret
    exact ⟨rfl, BB.out⟩
end Go.Proofs.Ytlohhbpncbnipaa
end
section
/- It is proved that the law WalrecBack answers true for every two records. No condition. -/
namespace Go.Proofs.Ytlohhbpncbnipaa.walrecBack
open Go.ChangeShapes Go.WideShapes Go.ChangeAt Go.RowKit
set_option linter.unusedVariables false

theorem own : ownKnob Try.prog.godebug = none := by kernel_rfl
theorem laidOut : laidOutB Try.prog = true := by kernel_rfl

set_option maxRecDepth 100000 in
theorem lifted (os : Os) (started : os.Started) (H : Type) (enc : TypeId × Value → H) :
    ReturnsInHanded {} Try.checked os 6 .any (Rows.walrecBackSpec.pre6 enc Try.prog Try.f6 Rows.walrecBackRow.domain false) (Rows.walrecBackSpec.post enc Try.prog Try.f6 false true false false) := by
  refine returnsInHanded_of_change (C := Try.checked) own started (by kernel_rfl) Try.func6
    (ChangeSpec.witness6 (enc := enc) (C := Try.checked) false ⟨#[], #[.agg #[.int .u8 0, .int .i64 0, .int .i64 0, .string ⟨#[]⟩, .bool false, .string ⟨#[]⟩], .agg #[.int .u8 0, .int .i64 0, .int .i64 0, .string ⟨#[]⟩, .bool false, .string ⟨#[]⟩]], []⟩ 8 (by kernel_rfl) (by kernel_rfl) (by kernel_rfl) (by kernel_rfl)) ?_
  intro W base args ds gs before hval0 hW hcnd _
  have hval : ∀ (j : Nat) t v, Try.f6.params[j]? = some t → args[j]? = some v → Value.okWide Try.prog W .any base t v := hval0
  have hW' := hW
  obtain ⟨p, q, hA0, hV, rfl, hfz, hnd⟩ := hW
  have hA : DataW.TrodAll enc Try.prog W 0 (fun _ => true) true Try.f6.params.toList args.toList ds p := hA0
  rw [Try.params6] at hA hval
  obtain ⟨v0, vs0, d0, ds0, p0, q0, hargs, rfl, rfl, h0, r0⟩ := trodAll_cons hA
  obtain ⟨v1, vs1, d1, ds1, p1, q1, rfl, rfl, rfl, h1, r1⟩ := trodAll_cons r0
  obtain ⟨rfl, rfl, rfl⟩ := trodAll_nil r1
  obtain rfl : args = #[v0, v1] := by cases args; simp_all
  obtain ⟨rfl, rfl⟩ := trodVars_none hV
  have hv0 : ∃ cs, v0 = .agg cs := by
    have := hval 0 23 v0 rfl rfl
    simp only [Value.okWide, Try.underlying23] at this
    obtain ⟨cs, e, _⟩ := this
    exact ⟨cs, e⟩
  have k0 := h0
  have lt0 : ∀ x ∈ p0, x.block < W.heap.size := by obtain ⟨m, hm⟩ := k0; exact DataW.trod_lt m _ _ _ hm
  have hv1 : ∃ cs, v1 = .agg cs := by
    have := hval 1 23 v1 rfl rfl
    simp only [Value.okWide, Try.underlying23] at this
    obtain ⟨cs, e, _⟩ := this
    exact ⟨cs, e⟩
  have k1 := h1
  have lt1 : ∀ x ∈ p1, x.block < W.heap.size := by obtain ⟨m, hm⟩ := k1; exact DataW.trod_lt m _ _ _ hm
  obtain ⟨rc0, f0, rfl⟩ := open_recv hv0 h0
  obtain ⟨rc1, f1, rfl⟩ := open_recv hv1 h1
  clear hA0 hval0
  refine (walrecBack_core rc0 rc1 W f0 f1).mono fun e W' ⟨he, bel⟩ => ?_
  subst he
  exact ⟨_, rfl, _, _, _, [], _, [], hW', trodAll_mk1 (shut_bool Try.underlying4 _), (trodAll_cons_mk (Below.trod laidOut (by kernel_rfl) (of_decide_eq_true (by kernel_rfl)) k0 bel lt0) (trodAll_cons_mk (Below.trod laidOut (by kernel_rfl) (of_decide_eq_true (by kernel_rfl)) k1 bel lt1) trodAll_mk0)), rfl, bel.frame _, fun h => by cases h⟩

theorem over : Rows.walrecBackRow.holds Try.pinned (OpenSpec.ofChange Rows.walrecBackSpec) :=
  OpenClaim.holds_of_wide 6 Try.f6 rfl rfl rfl rfl rfl rfl rfl ⟨rfl, rfl, rfl, rfl, rfl⟩ rfl rfl rfl rfl rfl (by kernel_rfl) Try.func6 (by kernel_rfl)
    (of_decide_eq_true (by kernel_rfl)) (by unfold Func.isWrapper; first | (rw [if_pos (by decide +kernel)]; kernel_rfl) | (rw [if_neg (by decide +kernel)]; exact ⟨rfl, rfl⟩))
    (fun os started H enc _ => lifted os started H enc)

theorem proved : Rows.WalrecBackSaid := over
#print axioms proved
end Go.Proofs.Ytlohhbpncbnipaa.walrecBack
end
