/- Joined: StN StO StU. -/
import Derived.Test.YtegjeijiekggdaaGreatDoorM38
import Derived.Test.YtegjeijiekggdaaGreatDoorM08
import Derived.Test.YtegjeijiekggdaaGreatDoorM36
section
/- The package store: what every right program has behind a lost commit. -/
namespace Go.Proofs.YtegjeijiekggdaaGreatDoor
open Go.RowKit
set_option linter.unusedVariables false
set_option linter.unusedSimpArgs false
theorem wr_ge {base : Nat} {F : Ft} {w : World} {d : Dk} {G : Nat} (h : DkAt base F w d) (hg : base ≤ G) : ∀ k, Wr F G k → base ≤ k := fun k hk => by
  rcases hk with hk | hk
  · exact h.based k hk
  · omega
theorem sLog {base : Nat} {F : Ft} {w : World} {P : Sf} (h : StAt base F w P smT4) : Calls Tryz.prog 18 #[.pointer (some ⟨P.G, 0, none⟩)] w fun e w' => e = .returned (.tuple #[.int .i64 8, .int .i64 8]) ∧ Below w.heap.size w w' := stLog_any h
theorem sBody {base : Nat} {F : Ft} {w : World} {P : Sf} (h : StAt base F w P smT4) : Calls Tryz.prog 23 #[.pointer (some ⟨P.G, 0, none⟩)] w fun e w' => ∃ A c, e = .returned (.slice A 1 c) ∧ RB w' A [114] ∧ Below w.heap.size w w' ∧ (convert 29 9 (.slice A 1 c)).run Tryz.prog w' = .ok (.string ⟨#[114]⟩) w' := by
  refine (body_any h (by decide)).mono ?_
  rintro e w' ⟨v, rfl, o, b⟩
  have o : OB w.heap.size w' v [114] := o
  obtain ⟨A, c, rfl, hc, r⟩ := o.form
  exact ⟨A, c, rfl, r, b, run_str w' A 1 c [114] rfl r⟩
theorem sGen {base : Nat} {F : Ft} {w : World} {P : Sf} (h : StAt base F w P smT4) : Calls Tryz.prog 26 #[.pointer (some ⟨P.G, 0, none⟩)] w fun e w' => e = .returned (.int .i64 2) ∧ w = w' := stGen_any h
theorem sRoom {base : Nat} {F : Ft} {w : World} {P : Sf} (h : StAt base F w P smT4) : Calls Tryz.prog 25 #[.pointer (some ⟨P.G, 0, none⟩)] w fun e w' => e = .returned (.int .i64 7) ∧ Below w.heap.size w w' := by
  have K := room_any h (by decide) (by decide +kernel) (by decide +kernel)
  rw [sm_room] at K
  exact K
theorem sUsed {base : Nat} {F : Ft} {w : World} {P : Sf} (h : StAt base F w P smT4) : Calls Tryz.prog 24 #[.pointer (some ⟨P.G, 0, none⟩)] w fun e w' => ∃ A c, e = .returned (.agg #[.int .i64 8, .slice A 1 c]) ∧ Below w.heap.size w w' ∧ Calls Tryz.prog 33 #[.agg #[.int .i64 8, .slice A 1 c], .int .i64 8] w' fun e w'' => e = .returned (.int .i64 1) ∧ Below w'.heap.size w' w'' := by
  refine (used_any h (by decide)).mono ?_
  rintro e w' ⟨v, rfl, o, b⟩
  have o : OQ w.heap.size w' v [1] := o
  obtain ⟨A, c, rfl, hc, r⟩ := o.as (n := 1) rfl
  refine ⟨A, c, rfl, b, ?_⟩
  have K := rank_any 8 A c [1] 8 w' (by simpa using hc) r
  rw [sm_rank] at K
  exact K
set_option maxHeartbeats 600000 in
set_option maxRecDepth 100000 in
theorem stAwake_any (w : World) (hT : TabAt 0 Lib.deBruijn64tab w) : Calls Tryz.prog 8 #[] w fun e w' => e = .returned (.bool true) ∧ Below w.heap.size w w' := by
  have kc := fun (w : World) (C : Array Value) (n c : Nat) => Lib.run_convert_bytes_const (P := Tryz.prog) w 29 5 C n c Tryz.underlying29 Tryz.underlying5
  have HT := Lib.hid (fun W (hb : Below w.heap.size w W) => TabAt.below hT hb (TabAt.pos hT))
  go_enter Tryz.func8, Tryz.ntmps8
  go_wp2_with fail
  refine (new_any 48 w).mono ?_
  rintro e w0 ⟨F, rfl, h0, b0⟩
  have B0 := Lib.hid b0
  have K0 := format_any (d := sm0) h0 (by rw [sm_calls.1]; omega) 8 (by omega) (by omega)
  rw [sm_format] at K0
  have K0 := Lib.hid K0
  clear h0 b0 hT
  go_wp2_with fail
  refine K0.out.mono ?_
  rintro e w1 ⟨d1, f1, _, hs⟩
  obtain ⟨P, rfl, s1⟩ := hs _ rfl
  have d1 : DkAt w.heap.size F w1 sm1 := d1
  have B1 := Lib.hid (B0.out.trans (f1.below d1.based B0.out.size))
  have s1 := s1.lower (show w.heap.size ≤ w0.heap.size from B0.out.size)
  have s1 : StAt w.heap.size F w1 P smT1 := s1
  have K1 := alloc_any (t := smT1) s1 d1.inside (by decide) (HT.out _ B1.out) (by decide +kernel) (by decide +kernel)
  rw [sm_alloc1] at K1
  have K1 := Lib.hid K1
  have D1 := Lib.hid d1
  clear K0 hs d1 f1 s1
  go_wp2_with fail
  refine K1.out.mono ?_
  rintro e w2 ⟨rfl, P2, hG2, s2, f2⟩
  have s2 : StAt w.heap.size F w2 P2 smT2 := s2
  have B2 := Lib.hid (B1.out.trans (f2.below (fun k e => by have := s2.gb; omega) B1.out.size))
  have D2 := Lib.hid (D1.out.gset f2 (by rw [← hG2]; exact s2.gf))
  have S2 := Lib.hid s2
  rw [← hG2]
  clear K1 f2 s2 D1 B1 hG2
  have Y2 := Lib.hid (show Below w2.heap.size w2 (w2.alloc (.cells #[.int .u8 97, .int .u8 98] 5 (2, 3))) from (Below.refl _ w2).alloc (Nat.le_refl _) _)
  have K2 := stWrite_any (d := sm1) (t := smT2) (D2.out.below Y2.out) (S2.out.below Y2.out) (by rw [sm_calls.2.1]; omega) 0 (some ⟨w2.heap.size, 0, none⟩) 2 2 [97, 98] rfl (by omega) (RB.mark w2 [97, 98] _ (2, 3) (by simp [cellsB, cellB]))
  rw [sm_write1] at K2
  have K2 := Lib.hid K2
  have B2' := Lib.hid (B2.out.trans (Y2.out.mono B2.out.size))
  clear B2 D2
  go_wp2_with fail
  refine K2.out.mono ?_
  rintro e w3 ⟨rfl, d3, s3, f3⟩
  have d3 : DkAt w.heap.size F w3 sm3 := d3
  have s3 : StAt w.heap.size F w3 P2 smT2 := s3
  have B3 := Lib.hid (B2'.out.trans (f3.below (wr_ge d3 s3.gb) B2'.out.size))
  have D3 := Lib.hid (show DkAt w.heap.size F w3 sm3 from d3)
  have S3 := Lib.hid (show StAt w.heap.size F w3 P2 smT2 from s3)
  clear K2 f3 d3 s3 Y2 S2 B2'
  have Y3 := Lib.hid (show Below w3.heap.size w3 (w3.alloc (.cells #[.int .u8 114] 5 (1, 2))) from (Below.refl _ w3).alloc (Nat.le_refl _) _)
  have K3 := stCommit_any (d := sm3) (t := smT2) (D3.out.below Y3.out) (S3.out.below Y3.out) (by rw [sm_calls.2.2.1]; omega) (by decide) (by decide) (by decide) (by decide) (by decide) (some ⟨w3.heap.size, 0, none⟩) 1 1 [114] rfl (by simp [maxLen]) (RB.mark w3 [114] _ (1, 2) (by simp [cellsB, cellB]))
  rw [sm_commit] at K3
  have K3 := Lib.hid K3
  have B3' := Lib.hid (B3.out.trans (Y3.out.mono B3.out.size))
  clear B3 D3
  go_wp2_with fail
  refine K3.out.mono ?_
  rintro e w4 ⟨rfl, d4, ⟨P4, hG4, s4⟩, f4⟩
  have d4 : DkAt w.heap.size F w4 sm4 := d4
  have s4 : StAt w.heap.size F w4 P4 smT4 := s4
  have B4 := Lib.hid (B3'.out.trans (f4.below (wr_ge d4 S3.out.gb) B3'.out.size))
  rw [← hG4]
  clear hG4
  have K4 := alloc_any (t := smT4) s4 d4.inside (by decide) (HT.out _ B4.out) (by decide +kernel) (by decide +kernel)
  rw [sm_alloc2] at K4
  have K4 := Lib.hid K4
  have D4 := Lib.hid (show DkAt w.heap.size F w4 sm4 from d4)
  clear K3 f4 d4 s4 Y3 S3 B3'
  go_wp2_with fail
  refine K4.out.mono ?_
  rintro e w5 ⟨rfl, P5, hG5, s5, f5⟩
  have s5 : StAt w.heap.size F w5 P5 smT5 := s5
  have B5 := Lib.hid (B4.out.trans (f5.below (fun k e => by have := s5.gb; omega) B4.out.size))
  have D5 := D4.out.gset f5 (by rw [← hG5]; exact s5.gf)
  rw [← hG5]
  clear hG5
  have K5 := stWrite_any (d := sm4) (t := smT5) D5 s5 (by rw [sm_calls.2.2.2]; omega) 0 none 0 0 [] rfl (by omega) RB.nil
  rw [sm_write2] at K5
  have K5 := Lib.hid K5
  clear K4 f5 s5 D4 B4 D5
  go_wp2_with fail
  refine K5.out.mono ?_
  rintro e w6 ⟨rfl, d6, s6, f6⟩
  have d6 : DkAt w.heap.size F w6 sm4 := d6
  have s6 : StAt w.heap.size F w6 P5 smT5 := s6
  have B6 := Lib.hid (B5.out.trans (f6.below (wr_ge d6 s6.gb) B5.out.size))
  have K6 := Lib.hid (power_any (s := sm4) d6 none 0 0 [] rfl (Nat.le_refl _) (by simp [maxLen]) (.inl rfl) (fun h => absurd rfl h))
  clear K5 f6 s6 d6 B5
  go_wp2_with fail
  refine K6.out.mono ?_
  rintro e w7 ⟨rfl, d7, f7⟩
  have d7 : DkAt w.heap.size F w7 sm7 := d7
  have B7 := Lib.hid (B6.out.trans (f7.below d7.based B6.out.size))
  have D7 := Lib.hid (show DkAt w.heap.size F w7 sm7 from d7)
  have K7 := open_store (d := sm7) D7.out
  unfold OpPost at K7
  rw [sm_open] at K7
  have K7 := Lib.hid K7
  clear K6 f7 d7 B6
  go_wp2_with fail
  refine K7.out.mono ?_
  rintro e w8 ⟨_, hs, b8⟩
  obtain ⟨P8, rfl, s8⟩ := hs _ rfl
  have B8 := Lib.hid (B7.out.trans (b8.mono B7.out.size))
  have s8 : StAt w.heap.size F w8 P8 smT4 := s8.lower B7.out.size
  have K8 := stRead_any (d := sm7) (t := smT4) (D7.out.below b8) s8 0
  rw [sm_read] at K8
  have K8 := Lib.hid K8
  clear K7 hs b8 s8 B7 D7
  go_wp2_with fail
  refine K8.out.mono ?_
  rintro e w9 ⟨v9, rfl, o9, s9, d9, f9⟩
  have o9 : OB w8.heap.size w9 v9 [97, 98] := o9
  have s9 : StAt w.heap.size F w9 P8 smT4 := s9
  obtain ⟨A9, c9, rfl, hc9, r9⟩ := o9.form
  have B9 := Lib.hid (B8.out.trans (f9.below (fun k e => by have := s9.gb; omega) B8.out.size))
  have S9 := Lib.hid s9
  have R9 := Lib.hid r9
  have K9 := Lib.hid (sLog s9)
  have hs9 := fun W (h : Below w9.heap.size w9 W) => run_str W A9 2 c9 [97, 98] rfl (R9.out.below h)
  have HS9 := Lib.hid hs9
  clear hs9
  clear K8 o9 s9 d9 f9 hc9 r9 B8
  go_wp2_with (first
    | (go_at_call 18; refine K9.out.mono ?_; rintro e w10 ⟨rfl, b10⟩; have S10 := Lib.hid (S9.out.below b10); have B10 := Lib.hid (B9.out.trans (b10.mono B9.out.size)); have hs10 : _ = Result.ok (Value.string ⟨#[97, 98]⟩) w10 := HS9.out w10 b10; have K10 := Lib.hid (sBody S10.out); clear b10)
    | (go_at_call 23; refine K10.out.mono ?_; rintro e w11 ⟨A11, c11, rfl, r11, b11, hs11⟩; have S11 := Lib.hid (S10.out.below b11); have B11 := Lib.hid (B10.out.trans (b11.mono B10.out.size)); have K11 := Lib.hid (sGen S11.out); clear b11 hs10 r11)
    | (go_at_call 26; refine K11.out.mono ?_; rintro e w12 ⟨rfl, rfl⟩; have K12 := Lib.hid (sRoom S11.out); clear hs11)
    | (go_at_call 25; refine K12.out.mono ?_; rintro e w13 ⟨rfl, b13⟩; have S13 := Lib.hid (S11.out.below b13); have B13 := Lib.hid (B11.out.trans (b13.mono B11.out.size)); have K13 := Lib.hid (sUsed S13.out); clear b13)
    | (go_at_call 24; refine K13.out.mono ?_; rintro e w14 ⟨A14, c14, rfl, b14, k14⟩; have B14 := Lib.hid (B13.out.trans (b14.mono B13.out.size)); have K14 := Lib.hid k14; clear b14 k14)
    | (go_at_call 33; refine K14.out.mono ?_; rintro e w15 ⟨rfl, b15⟩; have B15 := Lib.hid (B14.out.trans (b15.mono B14.out.size)); clear b15)
    | fail)
  go_ret
  exact ⟨rfl, B15.out⟩
end Go.Proofs.YtegjeijiekggdaaGreatDoor
end
section
/- Calls of store that came in, and how they read; few. -/
namespace Go.Proofs.YtegjeijiekggdaaGreatDoor
open Go.ChangeShapes Go.WideShapes Go.ChangeAt Go.RowKit
set_option linter.unusedVariables false
/-- A call that came in. -/
structure Sa where
  kind : UInt8
  n : Int
  body : List UInt8
  bA : Option Addr
  bc : Nat
  d : Ac
structure SaAt (w : World) (p : Addr) (a : Sa) : Prop where
  c0 : w.cell? (p.add 0) = some (.int .u8 (a.kind.toNat : Int))
  c1 : w.cell? (p.add 1) = some (.int .i64 a.n)
  c2 : w.cell? (p.add 2) = some (.slice a.bA a.body.length a.bc)
  rb : RB w a.bA a.body
  lo : -9223372036854775808 ≤ a.n
  hi : a.n ≤ 9223372036854775807
  room : a.body.length ≤ a.bc
  most : a.bc ≤ maxLen
  dd : AcAt w (p.add 3) a.d
theorem SaAt.d0 {w : World} {p : Addr} {a : Sa} (h : SaAt w p a) : w.cell? p = some (.int .u8 (a.kind.toNat : Int)) := by have := h.c0; rwa [Addr.add_nought] at this
theorem SaAt.d1 {w : World} {p : Addr} {a : Sa} (h : SaAt w p a) : w.cell? ⟨p.block, p.off + 1, none⟩ = some (.int .i64 a.n) := by rw [← add_pos p 1 (by omega)]; exact h.c1
theorem SaAt.d2 {w : World} {p : Addr} {a : Sa} (h : SaAt w p a) : w.cell? ⟨p.block, p.off + 2, none⟩ = some (.slice a.bA a.body.length a.bc) := by rw [← add_pos p 2 (by omega)]; exact h.c2
theorem SaAt.lt {w : World} {p : Addr} {a : Sa} (h : SaAt w p a) : p.block < w.heap.size := lt_of_cell h.d0
theorem SaAt.below {w w' : World} {p : Addr} {a : Sa} (h : SaAt w p a) (hb : Below w.heap.size w w') : SaAt w' p a :=
  ⟨(hb.cell (lt_of_cell h.c0)).trans h.c0, (hb.cell (lt_of_cell h.c1)).trans h.c1, (hb.cell (lt_of_cell h.c2)).trans h.c2, h.rb.below hb, h.lo, h.hi, h.room, h.most, h.dd.below hb⟩
def SActsAt (w : World) (A : Option Addr) (l : List Sa) : Prop := l = [] ∨ ∃ ad, A = some ad ∧ ∀ (i : Nat) (a : Sa), l[i]? = some a → SaAt w (ad.add (i * 9)) a
theorem SActsAt.below {w w' : World} {A : Option Addr} {l : List Sa} (h : SActsAt w A l) (hb : Below w.heap.size w w') : SActsAt w' A l := by
  rcases h with rfl | ⟨ad, rfl, hc⟩
  · exact .inl rfl
  · exact .inr ⟨ad, rfl, fun i a hi => (hc i a hi).below hb⟩
theorem SActsAt.at_ {w : World} {A : Option Addr} {l : List Sa} (h : SActsAt w A l) {i : Nat} (hi : i < l.length) : ∃ ad a, A = some ad ∧ l[i]? = some a ∧ SaAt w (ad.add (i * 9)) a := by
  rcases h with rfl | ⟨ad, rfl, hc⟩
  · simp at hi
  · exact ⟨ad, l[i], rfl, List.getElem?_eq_getElem hi, hc i _ (List.getElem?_eq_getElem hi)⟩
theorem Tryz.cellsSAct : Tryz.prog.cellsOf 33 = 9 := by kernel_rfl
section
variable {H : Type} {enc : TypeId × Value → H} {W : World} {base : Nat} {held : Bool}
theorem open_sact {k : Nat} {cs : List Value} {x : DataW H × List MemPlace} {p : Addr} (hf : DataW.trod enc Tryz.prog W base (fun _ => true) held k 33 cs = some x) (hl : cs.length = 9) (hc : ∀ j, j < 9 → W.cell? (p.add j) = cs[j]?) : ∃ a : Sa, SaAt W p a := by
  obtain ⟨xs, n, _, _, _, hxl, hg⟩ := DataW.trod_struct Tryz.underlying33 hf
  have g0 : DataW.trod enc Tryz.prog W base (fun _ => true) held n 5 ((cs.drop 0).take (Tryz.prog.cellsOf 5)) = xs[0]? := hg 0 _ rfl
  have g1 : DataW.trod enc Tryz.prog W base (fun _ => true) held n 3 ((cs.drop 1).take (Tryz.prog.cellsOf 3)) = xs[1]? := hg 1 _ rfl
  have g2 : DataW.trod enc Tryz.prog W base (fun _ => true) held n 29 ((cs.drop 2).take (Tryz.prog.cellsOf 29)) = xs[2]? := hg 2 _ rfl
  have g3 : DataW.trod enc Tryz.prog W base (fun _ => true) held n 31 ((cs.drop 3).take (Tryz.prog.cellsOf 31)) = xs[3]? := hg 3 _ rfl
  rw [Tryz.cellsU8, take1 (by omega)] at g0
  rw [Tryz.cellsInt, take1 (by omega)] at g1
  rw [Tryz.cellsBytes, take1 (by omega)] at g2
  rw [Tryz.cellsAct] at g3
  have hxs : xs.length = 4 := hxl
  rw [List.getElem?_eq_getElem (by omega)] at g0 g1 g2 g3
  obtain ⟨z0, e0, _, w0⟩ := DataW.trod_int Tryz.underlying5 g0
  obtain ⟨z1, e1, _, w1⟩ := DataW.trod_int Tryz.underlying3 g1
  obtain ⟨A, cc, fs, e2, r1, r2, r3⟩ := open_bytes g2
  obtain ⟨d, hd⟩ := open_act (p := p.add 3) g3 (by simp; omega) (fun j hj => by
    rw [add_of_add, hc (3 + j) (by omega), List.getElem?_take, if_pos hj, List.getElem?_drop])
  obtain ⟨x0, rfl⟩ := byte_of w0
  have b1 := bounds_i64 w1
  simp only [List.cons.injEq, and_true] at e0 e1
  refine ⟨⟨x0, z1, fs, A, cc, d⟩, ⟨?_, ?_, ?_, r3, b1.1, b1.2, r1, r2, hd⟩⟩
  · rw [hc 0 (by omega), List.getElem?_eq_getElem (by omega), e0]
  · rw [hc 1 (by omega), List.getElem?_eq_getElem (by omega), e1]
  · rw [hc 2 (by omega), List.getElem?_eq_getElem (by omega), e2]
theorem open_sacts {a : Option Addr} {len cap : Nat} {d : DataW H} {p : List MemPlace} (h : DataW.Trod enc Tryz.prog W base (fun _ => true) held 22 (.slice a len cap) d p) :
    ∃ l : List Sa, l.length = len ∧ len ≤ cap ∧ cap ≤ maxLen ∧ SActsAt W a l := by
  obtain ⟨fuel, hf⟩ := h
  rcases Go.Deep.open_slice Tryz.underlying22 hf with ⟨hcs, _⟩ | ⟨x, l, c, m, n, D, Pl, hcs, _, hl, hm, hmm, _, hi⟩
  · simp [Value.cells] at hcs
    obtain ⟨rfl, rfl, rfl⟩ := hcs
    exact ⟨[], rfl, Nat.le_refl _, Nat.zero_le _, .inl rfl⟩
  · simp [Value.cells] at hcs
    obtain ⟨rfl, rfl, rfl⟩ := hcs
    simp only [if_true] at hmm
    subst hmm
    obtain ⟨L, hL, hp⟩ := list_of (Pr := fun i a => SaAt W (x.add (i * 9)) a) len (fun i hlt => by
      obtain ⟨cs', hc, ht⟩ := hi i (by omega)
      rw [Tryz.cellsSAct] at hc
      obtain ⟨_, hcl, hat⟩ := World.cells?_some hc
      exact open_sact ht hcl hat)
    exact ⟨L, hL, hl, hm, .inr ⟨x, rfl, hp⟩⟩
end
def sfewL (l : List Sa) (most : Nat) : Bool := decide (l.length ≤ most) && l.all fun a => decide (a.body.length ≤ 1100)
theorem sfewL_at {l : List Sa} {most : Nat} (h : sfewL l most = true) : l.length ≤ most ∧ ∀ (i : Nat) (a : Sa), l[i]? = some a → a.body.length ≤ 1100 := by
  unfold sfewL at h
  simp only [Bool.and_eq_true, decide_eq_true_eq, List.all_eq_true] at h
  exact ⟨h.1, fun i a hi => h.2 a (List.mem_of_getElem? hi)⟩
set_option maxHeartbeats 1000000 in
set_option maxRecDepth 100000 in
theorem sfew_any (A : Option Addr) (n c : Nat) (l : List Sa) (most : Nat) (w : World) (hl : l.length = n) (hn : n ≤ maxLen) (ha : SActsAt w A l) :
    Calls Tryz.prog 7 #[.slice A n c, .int .i64 (most : Int)] w fun e w' => e = .returned (.bool (sfewL l most)) ∧ w = w' := by
  have HL := Lib.hid hl
  have HN : n ≤ 9223372036854775807 := by simp only [maxLen] at hn; omega
  clear hn
  by_cases h0 : most < n
  · have HF := Lib.hid (show sfewL l most = false from by unfold sfewL; rw [hl, decide_eq_false (by omega)]; rfl)
    have h1 : (most : Int) < (n : Int) := by omega
    clear h0 hl
    generalize sfewL l most = R at *
    go_enter Tryz.func7, Tryz.ntmps7
    go_wp2
    go_ret
    rw [HF.out]
    exact ⟨rfl, rfl⟩
  · have HF := Lib.hid (show sfewL l most = l.all fun a => decide (a.body.length ≤ 1100) from by unfold sfewL; rw [hl, decide_eq_true (by omega)]; rfl)
    have h1 : (n : Int) ≤ (most : Int) := by omega
    clear h0 hl
    generalize sfewL l most = R at *
    go_enter Tryz.func7, Tryz.ntmps7
    go_wp2
    go_loop [5] (fun i => ∃ k : Nat, k ≤ n ∧ i = .int .i64 (k : Int) ∧ ∀ (j : Nat) (a : Sa), j < k → l[j]? = some a → a.body.length ≤ 1100) (fun i => n - (RowKit.intOf i).toNat)
    case atStart => exact ⟨0, Nat.zero_le _, rfl, fun j a hj => by omega⟩
    case round =>
      obtain ⟨k, hk, rfl, hall⟩ := hrel
      have HA := Lib.hid hall
      clear hall
      by_cases hlt : k < n
      · have hk' : (k : Int) < (n : Int) := by omega
        obtain ⟨ad, a, rfl, hka, hat⟩ := ha.at_ (i := k) (by rw [HL.out]; exact hlt)
        have HK := Lib.hid hka
        have x2 := hat.d2
        clear hka hat
        by_cases hb : 1100 < a.body.length
        · have hb' : (1100 : Int) < (a.body.length : Int) := by omega
          have HF2 := Lib.hid (show (l.all fun a => decide (a.body.length ≤ 1100)) = false from by
            rw [List.all_eq_false]
            exact ⟨a, List.mem_of_getElem? HK.out, by simp; omega⟩)
          go_wp2
          go_ret
          rw [HF.out, HF2.out]
          exact ⟨rfl, rfl⟩
        · have hb' : decide ((1100 : Int) < (a.body.length : Int)) = false := by simp; omega
          have HB := Lib.hid (show a.body.length ≤ 1100 from by omega)
          clear hb
          go_wp2
          go_round
          case rel =>
            refine ⟨k + 1, by omega, by go_num, fun j x hj hx => ?_⟩
            by_cases e : j = k
            · subst e
              rw [HK.out] at hx
              injection hx with hx
              subst hx
              exact HB.out
            · exact HA.out j x (by omega) hx
          case measure => simp [RowKit.intOf]; omega
      · obtain rfl : k = n := by omega
        have HF2 := Lib.hid (show (l.all fun a => decide (a.body.length ≤ 1100)) = true from by
          rw [List.all_eq_true]
          intro a ha
          obtain ⟨i, hi, rfl⟩ := List.getElem_of_mem ha
          exact decide_eq_true (HA.out i _ (by rw [← HL.out]; exact hi) (List.getElem?_eq_getElem hi)))
        go_wp2
        go_ret
        rw [HF.out, HF2.out]
        exact ⟨rfl, rfl⟩
end Go.Proofs.YtegjeijiekggdaaGreatDoor
end
section
/- The package store: what its calls do in the law StoreGives, where nothing fails. -/
namespace Go.Proofs.YtegjeijiekggdaaGreatDoor
open Go.RowKit
set_option linter.unusedVariables false
/-- A store and its disk at hand. -/
structure Gt (w : World) (F : Ft) (G : Nat) (W : World) (d : Dk) (t : Sto) : Prop where
  ex : ∃ P : Sf, P.G = G ∧ StAt w.heap.size F W P t
  disk : DkAt w.heap.size F W d
  bel : Below w.heap.size w W
theorem Gt.below {w : World} {F : Ft} {G : Nat} {W V : World} {d : Dk} {t : Sto} (h : Gt w F G W d t) (b : Below W.heap.size W V) : Gt w F G V d t := by
  obtain ⟨⟨P, hG, s⟩, k, bl⟩ := h
  exact ⟨⟨P, hG, s.below b⟩, k.below b, bl.trans (b.mono bl.size)⟩
theorem Gt.gl {w : World} {F : Ft} {G : Nat} {W : World} {d : Dk} {t : Sto} (h : Gt w F G W d t) : ∀ k, Wr F G k → k < W.heap.size := fun k hk => by
  obtain ⟨P, hG, s⟩ := h.ex
  rcases hk with hk | hk
  · exact h.disk.inside k hk
  · have := s.lt; omega
theorem Gt.tab {w : World} {F : Ft} {G : Nat} {W : World} {d : Dk} {t : Sto} (h : Gt w F G W d t) (hT : TabAt 0 Lib.deBruijn64tab w) : TabAt 0 Lib.deBruijn64tab W := TabAt.below hT h.bel (TabAt.pos hT)
theorem Gt.mv {w : World} {F : Ft} {G : Nat} {W V : World} {d : Dk} {t t' : Sto} {P : Sf} (h : Gt w F G W d t) (hP : P.G = G) (hf : ¬ F.has P.G) (m : Mv w.heap.size F W P t' V) : Gt w F G V d t' ∧ Frm (Wr F G) W V := by
  obtain ⟨P', e, s, f⟩ := m
  subst hP
  have hgb := s.gb
  rw [e] at hgb
  exact ⟨⟨⟨P', e, s⟩, h.disk.gset f hf, h.bel.trans (f.below (fun k e => by omega) h.bel.size)⟩, f.wrG⟩
theorem gAlloc {w : World} {F : Ft} {G : Nat} {W : World} {d : Dk} {t : Sto} {N j : Nat} (h : Gt w F G W d t) (g : Gv N d t j) (hT : TabAt 0 Lib.deBruijn64tab w) :
    Calls Tryz.prog 16 #[.pointer (some ⟨G, 0, none⟩)] W fun e w' => e = .returned (.tuple #[.int .i64 ((allocP t).2.1 : Int), .int .i64 ((allocP t).2.2 : Int)]) ∧ Gt w F G w' d (allocP t).1 ∧ Frm (Wr F G) W w' := by
  obtain ⟨P, rfl, s⟩ := h.ex
  refine (alloc_any s h.disk.inside (by have := g.len; omega) (h.tab hT) g.ok.cts g.ok.used).mono ?_
  rintro e w' ⟨rfl, m⟩
  exact ⟨rfl, h.mv rfl s.gf m⟩
theorem gFree {w : World} {F : Ft} {G : Nat} {W : World} {d : Dk} {t : Sto} {N j : Nat} (h : Gt w F G W d t) (g : Gv N d t j) (n : Int) :
    Calls Tryz.prog 20 #[.pointer (some ⟨G, 0, none⟩), .int .i64 n] W fun e w' => e = .returned (.int .i64 ((freeP t n).2 : Int)) ∧ Gt w F G w' d (freeP t n).1 ∧ Frm (Wr F G) W w' := by
  obtain ⟨P, rfl, s⟩ := h.ex
  refine (free_any s h.disk.inside (by have := g.len; omega) n).mono ?_
  rintro e w' ⟨rfl, m⟩
  exact ⟨rfl, h.mv rfl s.gf m⟩
theorem gForget {w : World} {F : Ft} {G : Nat} {W : World} {d : Dk} {t : Sto} (h : Gt w F G W d t) :
    Calls Tryz.prog 22 #[.pointer (some ⟨G, 0, none⟩)] W fun e w' => e = .returned (.int .i64 ((forgetP t).2 : Int)) ∧ Gt w F G w' d (forgetP t).1 ∧ Frm (Wr F G) W w' := by
  obtain ⟨P, rfl, s⟩ := h.ex
  refine (forget_any s).mono ?_
  rintro e w' ⟨rfl, m⟩
  exact ⟨rfl, h.mv rfl s.gf m⟩
theorem gCommit {w : World} {F : Ft} {G : Nat} {W : World} {d : Dk} {t : Sto} {N j : Nat} (h : Gt w F G W d t) (g : Gv N d t j) (hj : j ≤ 1000) (B : Option Addr) (m c : Nat) (body : List UInt8) (hb : body.length = m) (hm : m ≤ 700) (hB : RB W B body) :
    Calls Tryz.prog 21 #[.pointer (some ⟨G, 0, none⟩), .slice B m c] W fun e w' => ∃ d' t', e = .returned (.int .i64 0) ∧ Gt w F G w' d' t' ∧ Gv N d' t' (j + 1) ∧ t'.size = t.size ∧ t'.cts = t.used ∧ t'.used = t.used ∧ Frm (Wr F G) W w' := by
  obtain ⟨P, rfl, s⟩ := h.ex
  obtain ⟨d', hc, g'⟩ := g.commit hj body (by omega)
  have hl := g.len
  have K := stCommit_any h.disk s (by have := g.calls; omega) hl.2.2.2.1 hl.1 g.ok.place g.ok.gen2 hl.2.2.1 B m c body hb (by unfold maxLen; omega) hB
  rw [hc] at K
  refine K.mono ?_
  rintro e w' ⟨rfl, dk, ⟨P', e, s'⟩, f⟩
  exact ⟨d', _, rfl, ⟨⟨P', e, s'⟩, dk, h.bel.trans (f.below (fun k hk => by
    rcases hk with hk | hk
    · exact h.disk.based k hk
    · have := s.gb; omega) h.bel.size)⟩, g', rfl, rfl, rfl, f⟩
theorem gRoom {w : World} {F : Ft} {G : Nat} {W : World} {d : Dk} {t : Sto} {N j : Nat} (h : Gt w F G W d t) (g : Gv N d t j) :
    Calls Tryz.prog 25 #[.pointer (some ⟨G, 0, none⟩)] W fun e w' => e = .returned (.int .i64 (roomP t : Int)) ∧ Below W.heap.size W w' := by
  obtain ⟨P, rfl, s⟩ := h.ex
  exact room_any s g.len.1 g.ok.cts g.ok.used
theorem gUsed {w : World} {F : Ft} {G : Nat} {W : World} {d : Dk} {t : Sto} {N j : Nat} (h : Gt w F G W d t) (g : Gv N d t j) :
    Calls Tryz.prog 24 #[.pointer (some ⟨G, 0, none⟩)] W fun e w' => ∃ A c, e = .returned (.agg #[.int .i64 (t.size : Int), .slice A t.used.length c]) ∧ t.used.length ≤ c ∧ RQ w' A t.used ∧ (∀ ad, A = some ad → W.heap.size ≤ ad.block) ∧ Below W.heap.size W w' := by
  obtain ⟨P, rfl, s⟩ := h.ex
  refine (used_any s (by have := g.len; omega)).mono ?_
  rintro e w' ⟨v, rfl, o, b⟩
  obtain ⟨A, c, rfl, hc, r⟩ := o.as (n := t.used.length) rfl
  have ha := o.at_base
  exact ⟨A, c, rfl, hc, r, ha.1, b⟩
/-- The map that was read out, in its box C. -/
structure Ct (F : Ft) (G C : Nat) (s m : Nat) (U : List UInt64) (A : Option Addr) (c : Nat) (W : World) : Prop where
  len : U.length = m
  cap : m ≤ c
  x0 : W.cell? ⟨C, 0, none⟩ = some (.int .i64 (s : Int))
  x1 : W.cell? ⟨C, 1, none⟩ = some (.slice A m c)
  rq : RQ W A U
  nC : ¬ Wr F G C
  nA : ∀ ad, A = some ad → U ≠ [] → ¬ Wr F G ad.block
theorem Ct.frm {F : Ft} {G C s m : Nat} {U : List UInt64} {A : Option Addr} {c : Nat} {W V : World} (h : Ct F G C s m U A c W) (f : Frm (Wr F G) W V) : Ct F G C s m U A c V :=
  ⟨h.len, h.cap, (f.cell (p := ⟨C, 0, none⟩) (lt_of_cell h.x0) h.nC).trans h.x0, (f.cell (p := ⟨C, 1, none⟩) (lt_of_cell h.x1) h.nC).trans h.x1, h.rq.frmNe f h.nA, h.nC, h.nA⟩
theorem Ct.below {F : Ft} {G C s m : Nat} {U : List UInt64} {A : Option Addr} {c : Nat} {W V : World} (h : Ct F G C s m U A c W) (b : Below W.heap.size W V) : Ct F G C s m U A c V := h.frm (Frm.of_below b)
theorem cHas {F : Ft} {G C s m : Nat} {U : List UInt64} {A : Option Addr} {c : Nat} {W : World} (h : Ct F G C s m U A c W) (n : Int) :
    Calls Tryz.prog 34 #[.agg #[.int .i64 (s : Int), .slice A m c], .int .i64 n] W fun e w' => e = .returned (.bool (hasB (s : Int) U n)) ∧ Below W.heap.size W w' := by
  have K := qHas_any (s : Int) A c U n W h.rq
  rw [h.len] at K
  exact K
theorem cRank {F : Ft} {G C s m : Nat} {U : List UInt64} {A : Option Addr} {c : Nat} {W : World} (h : Ct F G C s m U A c W) :
    Calls Tryz.prog 33 #[.agg #[.int .i64 (s : Int), .slice A m c], .int .i64 (s : Int)] W fun e w' => e = .returned (.int .i64 (rankB (s : Int) U (s : Int) : Int)) ∧ Below W.heap.size W w' := by
  have K := rank_any (s : Int) A c U (s : Int) W (by rw [h.len]; exact h.cap) h.rq
  rw [h.len] at K
  exact K
end Go.Proofs.YtegjeijiekggdaaGreatDoor
end
