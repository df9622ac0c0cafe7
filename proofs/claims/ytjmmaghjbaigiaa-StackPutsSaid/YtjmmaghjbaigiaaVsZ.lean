/- awake of layer 11. -/
import Derived.Test.YtjmmaghjbaigiaaVsY
import Derived.Test.YtjmmaghjbaigiaaVsK
import Derived.Test.YtjmmaghjbaigiaaVsS
namespace Go.Proofs.Ytjmmaghjbaigiaa
open Go.RowKit
set_option linter.unusedVariables false
set_option linter.unusedSimpArgs false
def aX1 : Vn := ⟨1, 0, false, ⟨#[118]⟩⟩
def aY1 : Vn := ⟨1, 5, false, ⟨#[118]⟩⟩
def aX2 : Vn := ⟨2, 0, true, ⟨#[]⟩⟩
def aY2 : Vn := ⟨2, 9, true, ⟨#[]⟩⟩
theorem a_one : vsWrite [] aX1 = [aX1] := by decide
theorem a_two : vsCommit [aX1] 1 5 = [aY1] := by decide
theorem a_three : vsWrite [aY1] aX2 = [aY1, aX2] := by decide
theorem a_four : vsGot [aY1, aX2] 2 = aX2 ∧ vsHas [aY1, aX2] 2 = true := by decide
theorem a_five : vsCheck ⟨#[]⟩ [aY1, aX2] = 0 := by decide
theorem a_six : vsCommit [aY1, aX2] 2 9 = [aY1, aY2] := by decide
theorem a_seven : vsPrune [aY1, aY2] 9 = [] := by decide
theorem a_eight : vsAbort [aY1, aX2] 2 = [aY1] := by decide
theorem a_nine : vsSame ⟨#[]⟩ [aY1, aX2] ⟨#[]⟩ [aY1, aX2] = true ∧ vsSame ⟨#[]⟩ [aY1, aX2] ⟨#[]⟩ [] = false := by decide
theorem stkCalls {f : FuncId} {args : Array Value} {W : World} {key : ByteArray} {l : List Vn} {n : Nat} (hn : l.length = n) (h : Calls Try.prog f args W fun e w' => ∃ v', e = .returned (.agg #[.string key, v']) ∧ OG KV 66 W.heap.size w' v' l ∧ Below W.heap.size W w') :
    Calls Try.prog f args W fun e w' => ∃ A c, e = .returned (.agg #[.string key, .slice A n c]) ∧ OG KV 66 W.heap.size w' (.slice A n c) l ∧ n ≤ c ∧ RG KV w' A l ∧ Below W.heap.size W w' := by
  subst hn
  refine h.mono ?_
  rintro e w' ⟨v', rfl, o, b⟩
  obtain ⟨A, c, rfl, h1, h2, h3, _⟩ := o.rg
  exact ⟨A, c, rfl, o, h1, h3, b⟩
/-- The stack that awake makes, in its box. -/
structure AwW (w W : World) (A : Option Addr) (n c : Nat) (l : List Vn) : Prop where
  b : Below w.heap.size w W
  s : StBox W w.heap.size ⟨#[]⟩ A n c
  r : RG KV W A l
  ln : l.length = n
  nc : n ≤ c
theorem AwW.on {w W W' : World} {A : Option Addr} {n c : Nat} {l : List Vn} (h : AwW w W A n c l) (hb : Below W.heap.size W W') : AwW w W' A n c l := ⟨h.b.trans (hb.mono h.b.size), h.s.on hb, h.r.below hb, h.ln, h.nc⟩
theorem AwW.set {w W w' : World} {A A' : Option Addr} {n c n' c' : Nat} {l l' : List Vn} (h : AwW w W A n c l) (o : OG KV 66 W.heap.size w' (.slice A' n' c') l') (hc : n' ≤ c') (hb : Below W.heap.size W w') : AwW w (setSt w' w.heap.size ⟨#[]⟩ (.slice A' n' c')) A' n' c' l' := by
  have h1 := h.on hb
  have o1 := o.setSt h.s.lt ⟨#[]⟩ (.slice A' n' c')
  obtain ⟨A2, c2, e, _, _, h3, _⟩ := o1.rg
  injection e with e1 e2 e3
  subst e1
  exact ⟨belowSetSt h1.b (Nat.le_refl _) _ _, h1.s.put ⟨#[]⟩ A' n' c', h3, e2.symm, hc⟩
/-- All that awake made, at its end. -/
structure AwZ (w W : World) (A : Option Addr) (c p5 p6 : Nat) (A6 : Option Addr) (c6 p8 : Nat) (A8 : Option Addr) (c8 p9 : Nat) (A9 : Option Addr) (c9 : Nat) : Prop where
  m : AwW w W A 2 c [aY1, aX2]
  v : VnBox W p5 aX2
  u : StBox W p6 ⟨#[]⟩ A6 2 c6
  ur : RG KV W A6 [aY1, aX2]
  t : StBox W p8 ⟨#[]⟩ A8 0 c8
  a : StBox W p9 ⟨#[]⟩ A9 1 c9
theorem AwZ.on {w W W' : World} {A : Option Addr} {c p5 p6 : Nat} {A6 : Option Addr} {c6 p8 : Nat} {A8 : Option Addr} {c8 p9 : Nat} {A9 : Option Addr} {c9 : Nat} (h : AwZ w W A c p5 p6 A6 c6 p8 A8 c8 p9 A9 c9) (hb : Below W.heap.size W W') : AwZ w W' A c p5 p6 A6 c6 p8 A8 c8 p9 A9 c9 := ⟨h.m.on hb, h.v.on hb, h.u.on hb, h.ur.below hb, h.t.on hb, h.a.on hb⟩
theorem AwZ.facts {w W : World} {A : Option Addr} {c p5 p6 : Nat} {A6 : Option Addr} {c6 p8 : Nat} {A8 : Option Addr} {c8 p9 : Nat} {A9 : Option Addr} {c9 : Nat} (h : AwZ w W A c p5 p6 A6 c6 p8 A8 c8 p9 A9 c9) :
    W.cell? ⟨w.heap.size, 0, none⟩ = some (.string ⟨#[]⟩) ∧ W.cell? ⟨w.heap.size, 1, none⟩ = some (.slice A 2 c) ∧ W.cell? ⟨p5, 2, none⟩ = some (.bool true) ∧ W.cell? ⟨p6, 0, none⟩ = some (.string ⟨#[]⟩) ∧ W.cell? ⟨p6, 1, none⟩ = some (.slice A6 2 c6) ∧ W.cell? ⟨p8, 0, none⟩ = some (.string ⟨#[]⟩) ∧ W.cell? ⟨p8, 1, none⟩ = some (.slice A8 0 c8) ∧ W.cell? ⟨p9, 1, none⟩ = some (.slice A9 1 c9) :=
  ⟨h.m.s.c0, h.m.s.c1, h.v.c2, h.u.c0, h.u.c1, h.t.c0, h.t.c1, h.a.c1⟩
set_option maxHeartbeats 8000000 in
set_option maxRecDepth 100000 in
theorem vsAwake_any (w : World) : Calls Try.prog 9 #[] w fun e w' => e = .returned (.bool true) ∧ Below w.heap.size w w' := by
  have K2 := Lib.hid (fun (W : World) (A : Option Addr) (c : Nat) (M : AwW w W A 0 c []) => show Calls Try.prog 33 #[.agg #[.string ⟨#[]⟩, .slice A 0 c], .agg #[.int .i64 1, .int .i64 0, .bool false, .string ⟨#[118]⟩]] W fun e w' => ∃ A c, e = .returned (.agg #[.string ⟨#[]⟩, .slice A 1 c]) ∧ OG KV 66 W.heap.size w' (.slice A 1 c) [aX1] ∧ 1 ≤ c ∧ RG KV w' A [aX1] ∧ Below W.heap.size W w' from stkCalls rfl (by have h := vsWrite_any ⟨#[]⟩ A 0 c [] aX1 W rfl (by omega) M.r; rw [a_one] at h; exact h))
  have K3 := Lib.hid (fun (W : World) (A : Option Addr) (c : Nat) (M : AwW w W A 1 c [aX1]) => stkCalls (n := 1) rfl (by have h := vsCommit_any ⟨#[]⟩ A 1 c [aX1] 1 5 W rfl (by omega) M.r; rw [a_two] at h; exact h))
  have K4 := Lib.hid (fun (W : World) (A : Option Addr) (c : Nat) (M : AwW w W A 1 c [aY1]) => show Calls Try.prog 33 #[.agg #[.string ⟨#[]⟩, .slice A 1 c], .agg #[.int .i64 2, .int .i64 0, .bool true, .string ⟨#[]⟩]] W fun e w' => ∃ A c, e = .returned (.agg #[.string ⟨#[]⟩, .slice A 2 c]) ∧ OG KV 66 W.heap.size w' (.slice A 2 c) [aY1, aX2] ∧ 2 ≤ c ∧ RG KV w' A [aY1, aX2] ∧ Below W.heap.size W w' from stkCalls rfl (by have h := vsWrite_any ⟨#[]⟩ A 1 c [aY1] aX2 W rfl (by omega) M.r; rw [a_three] at h; exact h))
  have K5 := Lib.hid (fun (W : World) (A : Option Addr) (c : Nat) (M : AwW w W A 2 c [aY1, aX2]) => show Calls Try.prog 35 #[.agg #[.string ⟨#[]⟩, .slice A 2 c], .int .i64 2] W fun e w' => e = .returned (.tuple #[.agg #[.int .i64 2, .int .i64 0, .bool true, .string ⟨#[]⟩], .bool true]) ∧ Below W.heap.size W w' from by have h := vsPendingT_any ⟨#[]⟩ A 2 c [aY1, aX2] 2 W rfl (by omega) M.r; rw [a_four.1, a_four.2] at h; exact h)
  have K6 := Lib.hid (fun (W : World) (A : Option Addr) (c : Nat) (M : AwW w W A 2 c [aY1, aX2]) => show Calls Try.prog 10 #[.agg #[.string ⟨#[]⟩, .slice A 2 c]] W fun e w' => ∃ v', e = .returned (.tuple #[v', .int .i64 0]) ∧ OB W.heap.size w' v' (putS ⟨#[]⟩ [aY1, aX2]) ∧ Below W.heap.size W w' from by have h := vsPut_any ⟨#[]⟩ A 2 c [aY1, aX2] W rfl (by omega) M.nc M.r; rw [a_five] at h; exact h)
  have HP := Lib.hid (putS_len a_five)
  have HPG := Lib.hid (fun k m e => GetOfS.put a_five (k := k) (m := m) (e := e))
  generalize putS ⟨#[]⟩ [aY1, aX2] = P at *
  have K7 := Lib.hid (fun (W : World) (A : Option Addr) (c : Nat) (hc : P.length ≤ c) (hr : RB W A P) => show Calls Try.prog 12 #[.slice A P.length c] W fun e w' => ∃ A c, e = .returned (.tuple #[.agg #[.string ⟨#[]⟩, .slice A 2 c], .int .i64 0]) ∧ RG KV w' A [aY1, aX2] ∧ Below W.heap.size W w' from by
    refine (vsGet_any A P.length c P W (by have := HP.out; omega) rfl hc hr).mono ?_
    rintro e w' ⟨key, v', L, z, rfl, h1, h2, h3⟩
    obtain ⟨rfl, rfl, rfl⟩ := HPG.out _ _ _ h1
    obtain ⟨A, c, rfl, _, _, h4, _⟩ := h2.rg
    exact ⟨A, c, rfl, h4, h3⟩)
  have K8 := Lib.hid (fun (W : World) (A : Option Addr) (c : Nat) (M : AwW w W A 2 c [aY1, aX2]) => stkCalls (n := 2) rfl (by have h := vsCommit_any ⟨#[]⟩ A 2 c [aY1, aX2] 2 9 W rfl (by omega) M.r; rw [a_six] at h; exact h))
  have K9 := Lib.hid (fun (W : World) (A : Option Addr) (c : Nat) (h : RG KV W A [aY1, aY2]) => stkCalls (n := 0) rfl (by have h := vsPrune_any ⟨#[]⟩ A 2 c [aY1, aY2] 9 W rfl (by omega) h; rw [a_seven] at h; exact h))
  have KA := Lib.hid (fun (W : World) (A : Option Addr) (c : Nat) (M : AwW w W A 2 c [aY1, aX2]) => stkCalls (n := 1) rfl (by have h := vsAbort_any ⟨#[]⟩ A 2 c [aY1, aX2] 2 W rfl (by omega) M.r; rw [a_eight] at h; exact h))
  have KB := Lib.hid (fun (W : World) (A B : Option Addr) (c d : Nat) (M : AwW w W A 2 c [aY1, aX2]) (h : RG KV W B [aY1, aX2]) => show Calls Try.prog 15 #[.agg #[.string ⟨#[]⟩, .slice A 2 c], .agg #[.string ⟨#[]⟩, .slice B 2 d]] W fun e w' => e = .returned (.bool true) ∧ Below W.heap.size W w' from by have h := vsSame_any ⟨#[]⟩ ⟨#[]⟩ A B 2 2 c d [aY1, aX2] [aY1, aX2] W rfl rfl (by omega) M.r h; rw [a_nine.1] at h; exact h)
  have KD := Lib.hid (fun (W : World) (A B : Option Addr) (c d : Nat) (M : AwW w W A 2 c [aY1, aX2]) => show Calls Try.prog 15 #[.agg #[.string ⟨#[]⟩, .slice A 2 c], .agg #[.string ⟨#[]⟩, .slice B 0 d]] W fun e w' => e = .returned (.bool false) ∧ Below W.heap.size W w' from by have h := vsSame_any ⟨#[]⟩ ⟨#[]⟩ A B 2 0 c d [aY1, aX2] [] W rfl rfl (by omega) M.r RG.nil; rw [a_nine.2] at h; exact h)
  have KE := Lib.hid (fun (W : World) (A : Option Addr) (c : Nat) (M : AwW w W A 2 c [aY1, aX2]) => show Calls Try.prog 27 #[.agg #[.string ⟨#[]⟩, .slice A 2 c]] W fun e w' => e = .returned (.int .i64 0) ∧ Below W.heap.size W w' from by have h := vsCheck_any ⟨#[]⟩ A 2 c [aY1, aX2] W rfl (by omega) M.nc M.r; rw [a_five] at h; exact h)
  have M : Hid (AwW w (w.alloc (.cells #[.string ⟨#[]⟩, .slice none 0 0] 24)) none 0 0 []) := Lib.hid ⟨below1 w _, StBox.new w ⟨#[]⟩ none 0 0 _, RG.nil, rfl, Nat.le_refl _⟩
  go_enter Try.func9, Try.ntmps9
  go_upto_region 2 with fail
  generalize w.alloc (.cells #[.string ⟨#[]⟩, .slice none 0 0] 24) = W1 at *
  have s0 := M.out.s.c0; have s1 := M.out.s.c1
  go_upto_region 3 with (go_at_call 33; refine (K2.out _ _ _ M.out).mono ?_; rintro e w1 ⟨A1, c1, rfl, o1, h1, h2, b1⟩; have M1 := Lib.hid (M.out.on b1); have M2 := Lib.hid (M.out.set o1 h1 b1); have s0 := M1.out.s.c0; have s1 := M1.out.s.c1; have s2 := M1.out.s.f0; have s3 := M1.out.s.f1; clear o1 h1 h2 b1)
  clear s0 s1 s2 s3
  unfold setSt at M2
  generalize (w1.setCell ⟨w.heap.size, 0, none⟩ (.string ⟨#[]⟩)).setCell ⟨w.heap.size, 1, none⟩ (.slice A1 1 c1) = W2 at *
  have M := M2
  clear M1 M2
  have s0 := M.out.s.c0; have s1 := M.out.s.c1
  go_upto_region 4 with (go_at_call 34; refine (K3.out _ _ _ M.out).mono ?_; rintro e w1 ⟨A1, c1, rfl, o1, h1, h2, b1⟩; have M1 := Lib.hid (M.out.on b1); have M2 := Lib.hid (M.out.set o1 h1 b1); have s0 := M1.out.s.c0; have s1 := M1.out.s.c1; have s2 := M1.out.s.f0; have s3 := M1.out.s.f1; clear o1 h1 h2 b1)
  clear s0 s1 s2 s3
  unfold setSt at M2
  generalize (w1.setCell ⟨w.heap.size, 0, none⟩ (.string ⟨#[]⟩)).setCell ⟨w.heap.size, 1, none⟩ (.slice A1 1 c1) = W3 at *
  have M := M2
  clear M1 M2
  have s0 := M.out.s.c0; have s1 := M.out.s.c1
  go_upto_region 5 with (go_at_call 33; refine (K4.out _ _ _ M.out).mono ?_; rintro e w1 ⟨A1, c1, rfl, o1, h1, h2, b1⟩; have M1 := Lib.hid (M.out.on b1); have M2 := Lib.hid (M.out.set o1 h1 b1); have s0 := M1.out.s.c0; have s1 := M1.out.s.c1; have s2 := M1.out.s.f0; have s3 := M1.out.s.f1; clear o1 h1 h2 b1)
  clear s0 s1 s2 s3
  unfold setSt at M2
  generalize (w1.setCell ⟨w.heap.size, 0, none⟩ (.string ⟨#[]⟩)).setCell ⟨w.heap.size, 1, none⟩ (.slice A1 2 c1) = W4 at *
  have M := M2
  clear M1 M2
  have s0 := M.out.s.c0; have s1 := M.out.s.c1
  go_upto_region 6 with (go_at_call 35; refine (K5.out _ _ _ M.out).mono ?_; rintro e w1 ⟨rfl, b1⟩; have V := Lib.hid (VnBox.new w1 aX2 66); have M := Lib.hid ((M.out.on b1).on (below1 w1 (.cells #[.int .i64 2, .int .i64 0, .bool true, .string ⟨#[]⟩] 66))); clear b1)
  clear s0 s1
  have V : Hid (VnBox (w1.alloc (.cells #[.int .i64 2, .int .i64 0, .bool true, .string ⟨#[]⟩] 66)) w1.heap.size aX2) := Lib.hid V.out
  generalize w1.alloc (.cells #[.int .i64 2, .int .i64 0, .bool true, .string ⟨#[]⟩] 66) = W5 at *
  generalize w1.heap.size = p5 at *
  have s0 := M.out.s.c0; have s1 := M.out.s.c1
  go_upto_region 8 with (first
    | (go_at_call 10; refine (K6.out _ _ _ M.out).mono ?_; rintro e w2 ⟨v2, rfl, o2, b2⟩; obtain ⟨AP, cP, rfl, hcP, rP⟩ := o2.form; have M := Lib.hid (M.out.on b2); have V := Lib.hid (V.out.on b2); have RP := Lib.hid rP; have CP := Lib.hid hcP; clear o2 b2 rP hcP)
    | (go_at_call 12; refine (K7.out _ _ _ CP.out RP.out).mono ?_; rintro e w3 ⟨A6, c6, rfl, h6, b3⟩; have U := Lib.hid (StBox.new w3 ⟨#[]⟩ A6 2 c6 24); have UR := Lib.hid (h6.alloc (.cells #[.string ⟨#[]⟩, .slice A6 2 c6] 24)); have M := Lib.hid ((M.out.on b3).on (below1 w3 (.cells #[.string ⟨#[]⟩, .slice A6 2 c6] 24))); have V := Lib.hid ((V.out.on b3).alloc (.cells #[.string ⟨#[]⟩, .slice A6 2 c6] 24)); clear b3 h6)
    | fail)
  clear s0 s1
  generalize w3.alloc (.cells #[.string ⟨#[]⟩, .slice A6 2 c6] 24) = W7 at *
  generalize w3.heap.size = p6 at *
  have s0 := M.out.s.c0; have s1 := M.out.s.c1
  go_upto_region 9 with (first
    | (go_at_call 34; refine (K8.out _ _ _ M.out).mono ?_; rintro e w4 ⟨A7, c7, rfl, o4, h41, h42, b4⟩; have M := Lib.hid (M.out.on b4); have V := Lib.hid (V.out.on b4); have U := Lib.hid (U.out.on b4); have UR := Lib.hid (UR.out.below b4); have R7 := Lib.hid h42; clear o4 h41 h42 b4)
    | (go_at_call 28; refine (K9.out _ _ _ R7.out).mono ?_; rintro e w5 ⟨A8, c8, rfl, o5, h51, h52, b5⟩; have T := Lib.hid (StBox.new w5 ⟨#[]⟩ A8 0 c8 24); have M := Lib.hid ((M.out.on b5).on (below1 w5 (.cells #[.string ⟨#[]⟩, .slice A8 0 c8] 24))); have V := Lib.hid ((V.out.on b5).alloc (.cells #[.string ⟨#[]⟩, .slice A8 0 c8] 24)); have U := Lib.hid ((U.out.on b5).alloc (.cells #[.string ⟨#[]⟩, .slice A8 0 c8] 24)); have UR := Lib.hid ((UR.out.below b5).alloc (.cells #[.string ⟨#[]⟩, .slice A8 0 c8] 24)); clear o5 h51 h52 b5)
    | fail)
  clear s0 s1
  generalize w5.alloc (.cells #[.string ⟨#[]⟩, .slice A8 0 c8] 24) = W8 at *
  generalize w5.heap.size = p8 at *
  have s0 := M.out.s.c0; have s1 := M.out.s.c1
  obtain ⟨ad, hA, hd0⟩ := M.out.r.vn (k := 0) (v := aY1) rfl
  subst hA
  have HD : Hid (∀ W, Below W8.heap.size W8 W → W.cell? ⟨ad.block, ad.off + 1, none⟩ = some (.int .i64 5)) := Lib.hid fun W h => by
    have := (hd0.below h).d1
    rw [Nat.zero_mul, Addr.add_nought] at this
    exact this
  clear hd0
  go_wp2_with (first
    | (go_at_call 36; refine (KA.out _ _ _ M.out).mono ?_; rintro e w6 ⟨A9, c9, rfl, o6, h61, h62, b6⟩; have z1 := HD.out _ (b6.trans ((below1 w6 (.cells #[.string ⟨#[]⟩, .slice A9 1 c9] 24)).mono b6.size)); have Z : Hid (AwZ w (w6.alloc (.cells #[.string ⟨#[]⟩, .slice A9 1 c9] 24)) (some ad) _ p5 p6 A6 c6 p8 A8 c8 w6.heap.size A9 c9) := Lib.hid ⟨(M.out.on b6).on (below1 w6 _), (V.out.on b6).alloc _, (U.out.on b6).alloc _, (UR.out.below b6).alloc _, (T.out.on b6).alloc _, StBox.new w6 ⟨#[]⟩ A9 1 c9 _⟩; obtain ⟨f0, f1, f2, f3, f4, f5, f6, f7⟩ := Z.out.facts; clear o6 h61 h62 b6)
    | (go_at_call 15; (with_reducible refine Calls.mono (KB.out _ _ _ _ _ Z.out.m Z.out.ur) ?_); rintro e w7 ⟨rfl, b7⟩; have Z := Lib.hid (Z.out.on b7); obtain ⟨f0, f1, f2, f3, f4, f5, f6, f7⟩ := Z.out.facts; clear b7)
    | (go_at_call 15; (with_reducible refine Calls.mono (KD.out _ _ A8 _ c8 Z.out.m) ?_); rintro e w7 ⟨rfl, b7⟩; have Z := Lib.hid (Z.out.on b7); obtain ⟨f0, f1, f2, f3, f4, f5, f6, f7⟩ := Z.out.facts; clear b7)
    | (go_at_call 27; refine (KE.out _ _ _ Z.out.m).mono ?_; rintro e w9 ⟨rfl, b9⟩; have B9 := Lib.hid (Z.out.m.on b9).b; clear b9)
    | fail)
  go_ret
  exact ⟨rfl, B9.out⟩
end Go.Proofs.Ytjmmaghjbaigiaa
