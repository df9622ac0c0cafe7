/- The law BitmapBack, the walk. -/
import Derived.Test.YtmmehomobmoapaaDoorQg
import Derived.Test.YtmmehomobmoapaaDoorQq
namespace Go.Proofs.YtmmehomobmoapaaDoor.bitmapBack
open Go.RowKit
set_option linter.unusedVariables false
set_option linter.unusedSimpArgs false
theorem asT {f : FuncId} {args : Array Value} {W : World} {S z : Value} {R : List UInt64} {N : Nat} (hN : R.length = N) (h : Calls Tryd.prog f args W fun e w' => ∃ v, e = .returned (.tuple #[.agg #[S, v], z]) ∧ OQ W.heap.size w' v R ∧ Below W.heap.size W w') : Calls Tryd.prog f args W fun e w' => ∃ A' c', e = .returned (.tuple #[.agg #[S, .slice A' N c'], z]) ∧ N ≤ c' ∧ RQ w' A' R ∧ Below W.heap.size W w' := by
  refine h.mono ?_
  rintro e w' ⟨v, rfl, ho, hb⟩
  obtain ⟨A', c', rfl, hc, hr⟩ := ho.form
  rw [hN] at hc ⊢
  exact ⟨A', c', rfl, hc, hr, hb⟩
theorem asB {f : FuncId} {args : Array Value} {W : World} {z : Value} {R : List UInt8} {N : Nat} (hN : R.length = N) (h : Calls Tryd.prog f args W fun e w' => ∃ v, e = .returned (.tuple #[v, z]) ∧ OB W.heap.size w' v R ∧ Below W.heap.size W w') : Calls Tryd.prog f args W fun e w' => ∃ A' c', e = .returned (.tuple #[.slice A' N c', z]) ∧ N ≤ c' ∧ RB w' A' R ∧ Below W.heap.size W w' := by
  refine h.mono ?_
  rintro e w' ⟨v, rfl, ho, hb⟩
  obtain ⟨A', c', rfl, hc, hr⟩ := ho.form
  rw [hN] at hc ⊢
  exact ⟨A', c', rfl, hc, hr, hb⟩
theorem asO {f : FuncId} {args : Array Value} {W : World} {S : Value} {R : List UInt64} {N : Nat} (hN : R.length = N) (h : Calls Tryd.prog f args W fun e w' => ∃ v, e = .returned (.agg #[S, v]) ∧ OQ W.heap.size w' v R ∧ Below W.heap.size W w') : Calls Tryd.prog f args W fun e w' => ∃ A' c', e = .returned (.agg #[S, .slice A' N c']) ∧ OQ W.heap.size w' (.slice A' N c') R ∧ Below W.heap.size W w' := by
  refine h.mono ?_
  rintro e w' ⟨v, rfl, ho, hb⟩
  obtain ⟨A', c', rfl, hc, hr⟩ := ho.form
  rw [hN] at ho
  rw [hN]
  exact ⟨A', c', rfl, ho, hb⟩
theorem mix_to {s : Nat} {all : Bool} {A B : Option Addr} {c d N N2 : Nat} {L M : List UInt64} (h1 : okB (s : Int) L = true) (h2 : okB (s : Int) M = true) (e1 : L.length = N) (e2 : M.length = N2) (W : World) (hA : RQ W A L) (hB : RQ W B M) (f : FuncId)
    (h : Calls Tryd.prog f #[.agg #[.int .i64 (s : Int), .slice A L.length c], .agg #[.int .i64 (s : Int), .slice B M.length d]] W fun e w' => ∃ v, e = .returned (.agg #[.int .i64 (mixS (s : Int) (s : Int) L M), v]) ∧ OQ W.heap.size w' v (mixL all (s : Int) (s : Int) L M) ∧ Below W.heap.size W w') :
    Calls Tryd.prog f #[.agg #[.int .i64 (s : Int), .slice A N c], .agg #[.int .i64 (s : Int), .slice B N2 d]] W fun e w' => ∃ A' c', e = .returned (.agg #[.int .i64 (s : Int), .slice A' N c']) ∧ OQ W.heap.size w' (.slice A' N c') (mixL all (s : Int) (s : Int) L M) ∧ Below W.heap.size W w' := by
  obtain ⟨k1, k2⟩ := mixL_self_ok (all := all) h1 h2
  rw [k2, e1, e2] at h
  exact asO (by rw [okB_len k1, ← e1, okB_len h1]) h
theorem bAlloc {w W : World} (h : Below w.heap.size w W) (o : Obj) : Below w.heap.size w (W.alloc o) := h.alloc h.size o
theorem bSet {w W : World} (h : Below w.heap.size w W) {g i : Nat} (hg : w.heap.size ≤ g) (v : Value) : Below w.heap.size w (W.setCell ⟨g, i, none⟩ v) := h.setCell (p := ⟨g, i, none⟩) hg v
/-- Block p is a box for a map, still empty. -/
def ZB (W : World) (p : Nat) : Prop := W.heap[p]? = some (.cells #[.int .i64 0, .slice none 0 0] 27 (0, 0))
theorem ZB.lt {W : World} {p : Nat} (h : ZB W p) : p < W.heap.size := (Array.getElem?_eq_some_iff.1 h).1
theorem ZB.new (W : World) : ZB (W.alloc (.cells #[.int .i64 0, .slice none 0 0] 27)) W.heap.size := heap_alloc_last W _
theorem ZB.later {W V : World} {p : Nat} (h : ZB W p) (hb : Below W.heap.size W V) : ZB V p := (hb.block p h.lt).trans h
theorem ZB.alloc {W : World} {p : Nat} (h : ZB W p) (o : Obj) : ZB (W.alloc o) p := h.later ((Below.refl _ W).alloc (Nat.le_refl _) o)
theorem zb_second (W : World) : ZB ((W.alloc (.cells #[.int .i64 0, .slice none 0 0] 27)).alloc (.cells #[.int .i64 0, .slice none 0 0] 27)) (W.heap.size + 1) := by
  have h := ZB.new (W.alloc (.cells #[.int .i64 0, .slice none 0 0] 27))
  rw [heap_size_alloc] at h
  exact h
theorem ZB.drew {W : World} {p : Nat} (h : ZB W p) : ZB W.drew p := h
theorem row_facts {W : World} {p : Nat} {a0 a1 : Value} {t : TypeId} (h : W.heap[p]? = some (.cells #[a0, a1] t (0, 0))) : W.cell? ⟨p, 0, none⟩ = some a0 ∧ W.cell? ⟨p, 1, none⟩ = some a1 ∧ W.frozen? ⟨p, 0, none⟩ = false ∧ W.frozen? ⟨p, 1, none⟩ = false :=
  ⟨(cell_of_row W _ 0 _ _ _ h).trans rfl, (cell_of_row W _ 1 _ _ _ h).trans rfl, by simp [World.frozen?, h], by simp [World.frozen?, h]⟩
theorem row_past {W : World} {p g : Nat} {o : Option Obj} (h : W.heap[p]? = o) (hne : g ≠ p) (a0 a1 : Value) : ((W.setCell ⟨g, 0, none⟩ a0).setCell ⟨g, 1, none⟩ a1).heap[p]? = o := by
  rw [heap_setCell_ne (p := ⟨g, 1, none⟩) hne, heap_setCell_ne (p := ⟨g, 0, none⟩) hne]
  exact h
theorem own_past {base : Nat} {W : World} {v : Value} {L : List UInt64} (h : OQ base W v L) {g : Nat} (hne : v.ownBlock ≠ some g) (a0 a1 : Value) : OQ base ((W.setCell ⟨g, 0, none⟩ a0).setCell ⟨g, 1, none⟩ a1) v L := by
  unfold OQ at h ⊢
  refine ⟨h.1, ?_⟩
  rcases h.2 with h1 | ⟨gv, cap, cur, e, hb', hh, r⟩
  · exact .inl h1
  · exact .inr ⟨gv, cap, cur, e, hb', row_past hh (fun e2 => hne (by rw [e, e2]; rfl)) a0 a1, r⟩
theorem own_ne {b : Nat} {W : World} {v : Value} {L : List UInt64} (o : OQ b W v L) {p : Nat} (h : p < b ∨ W.heap.size ≤ p) : v.ownBlock ≠ some p := fun e => by
  have := o.block e
  omega
/-- Two empty boxes p and r in F, and two rows of one's own apart from them. -/
structure Pr (W8 F : World) (p r : Nat) (vE vV : Value) (E V : List UInt64) : Prop where
  hb : Below W8.heap.size W8 F
  hp : ZB F p
  hr : ZB F r
  ne : p ≠ r
  gp : W8.heap.size ≤ p
  gr : W8.heap.size ≤ r
  oE : OQ W8.heap.size F vE E
  oV : OQ W8.heap.size F vV V
  e1 : vE.ownBlock ≠ some p
  e2 : vE.ownBlock ≠ some r
  v1 : vV.ownBlock ≠ some p
  v2 : vV.ownBlock ≠ some r
theorem Pr.swap {W8 F : World} {p r : Nat} {vE vV : Value} {E V : List UInt64} (h : Pr W8 F p r vE vV E V) : Pr W8 F r p vE vV E V := ⟨h.hb, h.hr, h.hp, h.ne.symm, h.gr, h.gp, h.oE, h.oV, h.e2, h.e1, h.v2, h.v1⟩
/-- What the cut around the region asks. -/
def Pz (W8 W : World) (g h : Nat) (s : Int) (vE vV : Value) (E V : List UInt64) : Prop := W.cell? ⟨g, 0, none⟩ = some (.int .i64 s) ∧ W.cell? ⟨g, 1, none⟩ = some vE ∧ W.cell? ⟨h, 0, none⟩ = some (.int .i64 s) ∧ W.cell? ⟨h, 1, none⟩ = some vV ∧ OQ W8.heap.size W vE E ∧ OQ W8.heap.size W vV V ∧ Below W8.heap.size W8 W
theorem Pr.fin {W8 F : World} {p r : Nat} {vE vV : Value} {E V : List UInt64} (h : Pr W8 F p r vE vV E V) (s : Int) : Pz W8 ((((F.setCell ⟨p, 0, none⟩ (.int .i64 s)).setCell ⟨p, 1, none⟩ vE).setCell ⟨r, 0, none⟩ (.int .i64 s)).setCell ⟨r, 1, none⟩ vV) p r s vE vV E V := by
  have k1 := row_facts (row_past (heap_setC h.hp (.int .i64 s) vE) h.ne.symm (.int .i64 s) vV)
  have k2 := row_facts (heap_setC (row_past h.hr h.ne (.int .i64 s) vE) (.int .i64 s) vV)
  exact ⟨k1.1, k1.2.1, k2.1, k2.2.1, own_past (own_past h.oE h.e1 _ _) h.e2 _ _, own_past (own_past h.oV h.v1 _ _) h.v2 _ _, belowC (belowC h.hb h.gp _ _) h.gr _ _⟩
theorem fin1 {W8 F : World} {p : Nat} {vE vV : Value} {E V : List UInt64} (hb : Below W8.heap.size W8 F) (hp : ZB F p) (gp : W8.heap.size ≤ p) (oE : OQ W8.heap.size F vE E) (oV : OQ W8.heap.size F vV V) (e1 : vE.ownBlock ≠ some p) (v1 : vV.ownBlock ≠ some p) (s : Int) :
    Pz W8 (((F.alloc (.cells #[.int .i64 s, vE] 27)).setCell ⟨p, 0, none⟩ (.int .i64 s)).setCell ⟨p, 1, none⟩ vV) F.heap.size p s vE vV E V := by
  have k1 := row_facts (row_past (heap_alloc_last F (.cells #[.int .i64 s, vE] 27)) (Nat.ne_of_lt hp.lt) (.int .i64 s) vV)
  have k2 := row_facts (heap_setC (hp.alloc (.cells #[.int .i64 s, vE] 27)) (.int .i64 s) vV)
  exact ⟨k1.1, k1.2.1, k2.1, k2.2.1, own_past (oE.alloc _) e1 _ _, own_past (oV.alloc _) v1 _ _, belowC (bAlloc hb _) gp _ _⟩
theorem fin2a {W8 F : World} {vE vV : Value} {E V : List UInt64} (hb : Below W8.heap.size W8 F) (oE : OQ W8.heap.size F vE E) (oV : OQ W8.heap.size F vV V) (s : Int) :
    Pz W8 ((F.alloc (.cells #[.int .i64 s, vE] 27)).alloc (.cells #[.int .i64 s, vV] 27)) F.heap.size (F.heap.size + 1) s vE vV E V := by
  have h := bx4 F (.int .i64 s) vE (.int .i64 s) vV 27 27 (Below.refl _ _)
  exact ⟨h.1.1, h.1.2, h.2.1, h.2.2, (oE.alloc _).alloc _, (oV.alloc _).alloc _, bAlloc (bAlloc hb _) _⟩
theorem fin2b {W8 F : World} {vE vV : Value} {E V : List UInt64} (hb : Below W8.heap.size W8 F) (oE : OQ W8.heap.size F vE E) (oV : OQ W8.heap.size F vV V) (s : Int) :
    Pz W8 ((F.alloc (.cells #[.int .i64 s, vV] 27)).alloc (.cells #[.int .i64 s, vE] 27)) (F.heap.size + 1) F.heap.size s vE vV E V := by
  have h := bx4 F (.int .i64 s) vV (.int .i64 s) vE 27 27 (Below.refl _ _)
  exact ⟨h.2.1, h.2.2, h.1.1, h.1.2, (oE.alloc _).alloc _, (oV.alloc _).alloc _, bAlloc (bAlloc hb _) _⟩
theorem Pr.facts {W8 F : World} {p r : Nat} {vE vV : Value} {E V : List UInt64} (h : Pr W8 F p r vE vV E V) (s : Value) : (F.cell? ⟨p, 0, none⟩ = some (.int .i64 0) ∧ F.cell? ⟨p, 1, none⟩ = some (.slice none 0 0) ∧ F.frozen? ⟨p, 0, none⟩ = false ∧ F.frozen? ⟨p, 1, none⟩ = false) ∧ (F.cell? ⟨r, 0, none⟩ = some (.int .i64 0) ∧ F.cell? ⟨r, 1, none⟩ = some (.slice none 0 0) ∧ F.frozen? ⟨r, 0, none⟩ = false ∧ F.frozen? ⟨r, 1, none⟩ = false) ∧
    (((F.setCell ⟨p, 0, none⟩ s).setCell ⟨p, 1, none⟩ vE).cell? ⟨r, 0, none⟩ = some (.int .i64 0) ∧ ((F.setCell ⟨p, 0, none⟩ s).setCell ⟨p, 1, none⟩ vE).cell? ⟨r, 1, none⟩ = some (.slice none 0 0) ∧ ((F.setCell ⟨p, 0, none⟩ s).setCell ⟨p, 1, none⟩ vE).frozen? ⟨r, 0, none⟩ = false ∧ ((F.setCell ⟨p, 0, none⟩ s).setCell ⟨p, 1, none⟩ vE).frozen? ⟨r, 1, none⟩ = false) ∧
    (((F.setCell ⟨r, 0, none⟩ s).setCell ⟨r, 1, none⟩ vE).cell? ⟨p, 0, none⟩ = some (.int .i64 0) ∧ ((F.setCell ⟨r, 0, none⟩ s).setCell ⟨r, 1, none⟩ vE).cell? ⟨p, 1, none⟩ = some (.slice none 0 0) ∧ ((F.setCell ⟨r, 0, none⟩ s).setCell ⟨r, 1, none⟩ vE).frozen? ⟨p, 0, none⟩ = false ∧ ((F.setCell ⟨r, 0, none⟩ s).setCell ⟨r, 1, none⟩ vE).frozen? ⟨p, 1, none⟩ = false) :=
  ⟨row_facts h.hp, row_facts h.hr, row_facts (row_past h.hr h.ne s vE), row_facts (row_past h.hp h.ne.symm s vE)⟩
theorem own_cap {b : Nat} {W : World} {A : Option Addr} {n c N : Nat} {L : List UInt64} (o : OQ b W (.slice A n c) L) (h : L.length = N) : N ≤ c := by
  obtain ⟨A', c', e, hc, _⟩ := o.form
  injection e with e1 e2 e3
  omega
theorem sameK (s : Int) (A B : Option Addr) (c d N : Nat) (L : List UInt64) (W : World) (hN : L.length = N) (hn : L.length ≤ 1000) (hA : RQ W A L) (hB : RQ W B L) : Calls Tryd.prog 30 #[.agg #[.int .i64 s, .slice A N c], .agg #[.int .i64 s, .slice B N d]] W fun e w' => e = .returned (.bool true) ∧ Below W.heap.size W w' := by
  have h := same_any s s A B c d L L W hA hB hn
  rw [hN, show sameB s s L L = true from by unfold sameB; rw [decide_eq_true rfl, decide_eq_true rfl]; rfl] at h
  exact h
theorem rankK (s : Int) (A : Option Addr) (c N : Nat) (L : List UInt64) (n : Int) (W : World) (hN : L.length = N) (hc : N ≤ c) (hr : RQ W A L) : Calls Tryd.prog 24 #[.agg #[.int .i64 s, .slice A N c], .int .i64 n] W fun e w' => e = .returned (.int .i64 (rankB s L n : Int)) ∧ Below W.heap.size W w' := by
  have h := rank_any s A c L n W (by omega) hr
  rw [hN] at h
  exact h
theorem lightK (s : Int) (A : Option Addr) (N c : Nat) (W : World) (hN : N ≤ 8) : Calls Tryd.prog 9 #[.agg #[.int .i64 s, .slice A N c]] W fun e w' => e = .returned (.bool true) ∧ Below W.heap.size W w' := by
  have h := light_any s A N c W
  rw [decide_eq_true (by omega)] at h
  exact h
theorem flat {a b c d e f g h i j : Prop} (x : (a ∧ b) ∧ (c ∧ d) ∧ (e ∧ f) ∧ g ∧ h ∧ i ∧ j) : a ∧ b ∧ c ∧ d ∧ e ∧ f ∧ g ∧ h ∧ i ∧ j := ⟨x.1.1, x.1.2, x.2.1.1, x.2.1.2, x.2.2.1.1, x.2.2.1.2, x.2.2.2⟩
theorem form2 {R : List UInt8} {n3 base : Nat} {w : World} {v : Value} (h : R.length = n3) (o : OB base w v ([] ++ R ++ [1, 1])) : ∃ A c, v = .slice A (n3 + 2) c ∧ RB w A (R ++ [1, 1]) := by
  obtain ⟨A', c', rfl, hc, hr⟩ := o.form
  rw [List.nil_append, List.length_append, h]
  exact ⟨A', c', rfl, hr⟩
set_option maxHeartbeats 8000000 in
set_option maxRecDepth 100000 in
theorem core (s : Nat) (A B : Option Addr) (len c len2 c2 : Nat) (l o : List UInt8) (w : World) (hs : s ≤ 255) (hlen : len ≤ 9223372036854775807) (hlen2 : len2 ≤ 9223372036854775807) (hl : l.length = len) (hl2 : o.length = len2) (hr : RB w A l) (hr2 : RB w B o) (hT : TabAt 0 Lib.deBruijn64tab w) :
    Calls Tryd.prog 8 #[.int .u8 (s : Int), .slice A len c, .slice B len2 c2] w fun e w' => e = .returned (.bool true) ∧ Below w.heap.size w w' := by
  have HT := Lib.hid (fun W (hb : Below w.heap.size w W) => TabAt.below hT hb (TabAt.pos hT))
  have KA := Lib.hid (fun W (hb : Below w.heap.size w W) => awake_any W (HT.out W hb))
  have hoL := madeL_ok (s := s) (by omega) l
  have hoM := madeL_ok (s := s) (by omega) o
  obtain ⟨N, hN⟩ : ∃ N, (madeL s l).length = N := ⟨_, rfl⟩
  obtain ⟨N2, hN2⟩ : ∃ N2, (madeL s o).length = N2 := ⟨_, rfl⟩
  have KM := Lib.hid (asT hN (made_any s A len c l w hs hlen hl hr))
  have KM2 := Lib.hid (fun W (hb : Below w.heap.size w W) => asT hN2 (made_any s B len2 c2 o W hs hlen2 hl2 (hr2.below hb)))
  generalize madeL s l = L at *
  generalize madeL s o = M at *
  have HOL := Lib.hid hoL
  have HOM := Lib.hid hoM
  have HN := Lib.hid hN
  have HN2 := Lib.hid hN2
  obtain ⟨⟨g1, g2, g3⟩, g4, g5⟩ := back_gets hoL
  obtain ⟨p1, p2⟩ := putB_len hs L hoL
  have hck : chk (s : Int) L = 0 := by rcases chk_cases (s : Int) L with ⟨_, h⟩ | ⟨h, _⟩; exact h; rw [hoL] at h; cases h
  obtain ⟨n3, hn3⟩ : ∃ n3, (putB (s : Int) L).length = n3 := ⟨_, rfl⟩
  have KP := fun (A : Option Addr) (c : Nat) (W : World) (hb : RQ W A L) (ht : TabAt 0 Lib.deBruijn64tab W) => asB hn3 (put_any (s : Int) A c L W hb ht)
  rw [hN] at KP
  rw [hn3] at p1 p2 g5
  have KG1 := fun (A : Option Addr) (c : Nat) (W : World) (hb : RB W A (putB (s : Int) L)) => asT rfl (get_any A n3 c (putB (s : Int) L) W (by omega) hn3 hb)
  have KG2 := fun (A : Option Addr) (c : Nat) (W : World) (hb : RB W A (putB (s : Int) L ++ [1, 1])) => asT rfl (get_any A (n3 + 2) c (putB (s : Int) L ++ [1, 1]) W (by omega) (by rw [List.length_append, hn3]; rfl) hb)
  obtain ⟨m, hm⟩ : ∃ m, n3 - 1 = m := ⟨_, rfl⟩
  rw [hm] at g5
  have KG3 := fun (A : Option Addr) (c : Nat) (W : World) (hb : RB W A ((putB (s : Int) L).take m)) => asT rfl (get_any A m c ((putB (s : Int) L).take m) W (by omega) (by rw [List.length_take, hn3]; omega) hb)
  rw [hck] at KP
  rw [g1, g2, g3, hN] at KG1
  rw [g4] at KG2
  rw [g5] at KG3
  have HTK := Lib.hid (fun (W : World) (A : Option Addr) (h : RB W A (putB (s : Int) L)) => h.take m)
  generalize getS (putB (s : Int) L ++ [1, 1]) = G1 at *
  generalize getL (putB (s : Int) L ++ [1, 1]) = G2 at *
  generalize getS ((putB (s : Int) L).take m) = G3 at *
  generalize getL ((putB (s : Int) L).take m) = G4 at *
  generalize ((putB (s : Int) L).take m) = R3 at *
  generalize (putB (s : Int) L) = R at *
  clear g1 g2 g3 g4 g5 hck
  have KP := Lib.hid KP
  have KG1 := Lib.hid KG1
  have KG2 := Lib.hid KG2
  have KG3 := Lib.hid KG3
  clear hl hl2 hr hr2 hT
  generalize G2.length = G5 at *
  generalize G4.length = G6 at *
  have HN3 := Lib.hid hn3
  have hmi : (n3 : Int) - 1 = (m : Int) := by omega
  have hmi2 : IntKind.i64.wrap ((n3 : Int) - 1) = (m : Int) := by rw [IntKind.wrap_i64]; omega
  have hmw : IntKind.i64.wrap (m : Int) = (m : Int) := by rw [IntKind.wrap_i64]; omega
  have dn0 : ((n3 : Int) == 0) = false := by simp; omega
  go_enter Tryd.func8, Tryd.ntmps8
  go_wp2_with fail
  refine KM.out.mono ?_
  rintro e w1 ⟨Am, cm, rfl, hcm, hrm, b1⟩
  obtain ⟨x0, x1⟩ := bx2 w1 (.int .i64 (s : Int)) (.slice Am N cm) 27 (Below.refl _ _)
  have B1 := Lib.hid (b1.alloc b1.size (.cells #[.int .i64 (s : Int), .slice Am N cm] 27))
  have R1 := Lib.hid (hrm.alloc (.cells #[.int .i64 (s : Int), .slice Am N cm] 27))
  obtain ⟨q, hq⟩ : ∃ q, q = w1.heap.size := ⟨_, rfl⟩
  clear b1 hrm KM hN hN2 hn3 hm
  go_wp2_with fail
  generalize w1.alloc (.cells #[.int .i64 (s : Int), .slice Am N cm] 27) = W1 at *
  rw [← hq] at x0 x1 ⊢
  clear hq
  have CX := Lib.hid (fun W (h : Below W1.heap.size W1 W) => And.intro ((h.cell (p := ⟨q, 0, none⟩) (lt_of_cell x0)).trans x0) ((h.cell (p := ⟨q, 1, none⟩) (lt_of_cell x1)).trans x1))
  refine (KM2.out _ B1.out).mono ?_
  rintro e w2 ⟨Ap, cp, rfl, hcp, hrp, b2⟩
  obtain ⟨y0, y1⟩ := bx2 w2 (.int .i64 (s : Int)) (.slice Ap N2 cp) 27 (Below.refl _ _)
  have V2 := Lib.hid (b2.alloc b2.size (.cells #[.int .i64 (s : Int), .slice Ap N2 cp] 27))
  have R2 := Lib.hid (hrp.alloc (.cells #[.int .i64 (s : Int), .slice Ap N2 cp] 27))
  obtain ⟨x0, x1⟩ := CX.out _ V2.out
  obtain ⟨q2, hq2⟩ : ∃ q2, q2 = w2.heap.size := ⟨_, rfl⟩
  clear b2 hrp KM2
  go_wp2_with fail
  generalize w2.alloc (.cells #[.int .i64 (s : Int), .slice Ap N2 cp] 27) = W2 at *
  rw [← hq2] at y0 y1 ⊢
  clear hq2
  have CY := Lib.hid (fun W (h : Below W2.heap.size W2 W) => And.intro ((h.cell (p := ⟨q2, 0, none⟩) (lt_of_cell y0)).trans y0) ((h.cell (p := ⟨q2, 1, none⟩) (lt_of_cell y1)).trans y1))
  have B2 := Lib.hid (B1.out.trans (V2.out.mono B1.out.size))
  have RM2 := Lib.hid (R1.out.below V2.out)
  refine (KP.out Am cm W2 RM2.out (HT.out _ B2.out)).mono ?_
  rintro e w3 ⟨A3, c3, rfl, hc3, hr3, b3⟩
  have V3 := Lib.hid b3
  have R3 := Lib.hid hr3
  clear b3 hr3 KP x0 x1 y0 y1
  obtain ⟨x0, x1⟩ := CX.out _ (V2.out.trans (V3.out.mono V2.out.size))
  obtain ⟨y0, y1⟩ := CY.out _ V3.out
  go_wp2_with fail
  refine (KG1.out A3 c3 w3 R3.out).mono ?_
  rintro e w4 ⟨Ax, cx, rfl, hcx, hrx, b4⟩
  obtain ⟨z0, z1⟩ := bx2 w4 (.int .i64 (s : Int)) (.slice Ax N cx) 27 (Below.refl _ _)
  have V4 := Lib.hid (V3.out.trans ((b4.alloc b4.size (.cells #[.int .i64 (s : Int), .slice Ax N cx] 27)).mono V3.out.size))
  have R4 := Lib.hid (hrx.alloc (.cells #[.int .i64 (s : Int), .slice Ax N cx] 27))
  have R34 := Lib.hid ((R3.out.below b4).alloc (.cells #[.int .i64 (s : Int), .slice Ax N cx] 27))
  obtain ⟨q3, hq3⟩ : ∃ q3, q3 = w4.heap.size := ⟨_, rfl⟩
  clear x0 x1 y0 y1 b4 hrx
  go_upto_region 7 with fail
  generalize w4.alloc (.cells #[.int .i64 (s : Int), .slice Ax N cx] 27) = W4 at *
  rw [← hq3] at z0 z1 ⊢
  clear hq3
  have CZ := Lib.hid (fun W (h : Below W4.heap.size W4 W) => And.intro ((h.cell (p := ⟨q3, 0, none⟩) (lt_of_cell z0)).trans z0) ((h.cell (p := ⟨q3, 1, none⟩) (lt_of_cell z1)).trans z1))
  clear z0 z1
  go_upto_region 8 with (first
    | (at_builtin; refine wpList_append_B rfl (.tmp 60) (.tmp 61) rfl W4.heap.size _ [] rfl (OB.lit W4 W4.heap.size [] _ (by simp [cellsB]) (Nat.le_refl _) (by simp [maxLen])) A3 n3 c3 R rfl HN3.out (R34.out.alloc _) (by simp; omega) (by rw [heap_size_alloc]; omega) ?_; intro v5 w5 o5 b5; have O5 := Lib.hid o5; have H5 := Lib.hid ((Below.refl W4.heap.size W4).alloc (Nat.le_refl _) (.cells #[] 5) |>.trans b5); have S5 := H5.out.size; clear o5 b5)
    | (at_builtin; refine wpList_append_B rfl (.tmp 62) (.tmp 63) rfl W4.heap.size _ ([] ++ R) rfl (O5.out.alloc _) (some ⟨w5.heap.size, 0, none⟩) 2 2 [1, 1] rfl rfl (RB.lit w5 [1, 1] _ (by simp [cellsB, cellB]) (by simp [maxLen])) (by simp [HN3.out]; omega) (by rw [heap_size_alloc]; omega) ?_; intro v6 w6 o6 b6; obtain ⟨A6, c6, rfl, r6⟩ := form2 HN3.out o6; have R6 := Lib.hid r6; have H6 := Lib.hid (H5.out.trans (((Below.refl W4.heap.size w5).alloc S5 (.cells #[.int .u8 1, .int .u8 1] 5)).trans b6)); clear o6 b6 r6)
    | ((go_at_call 33); with_reducible refine Calls.mono (KG2.out A6 c6 w6 R6.out) ?_; rintro e w7 ⟨A7, c7, rfl, hc7, hr7, b7⟩; have H7 := Lib.hid (H6.out.trans ((b7.alloc b7.size (.cells #[.int .i64 (G1 : Int), .slice A7 G5 c7] 27)).mono H6.out.size)); clear b7 hr7)
    | fail)
  generalize w7.alloc (.cells #[.int .i64 (G1 : Int), .slice A7 G5 c7] 27) = W7 at *
  have R37 := Lib.hid (HTK.out W7 A3 (R34.out.below H7.out))
  go_wp2_with fail
  refine (KG3.out A3 c3 W7 R37.out).mono ?_
  rintro e w8 ⟨A8, c8, rfl, hc8, hr8, b8⟩
  have H8 := Lib.hid (H7.out.trans ((b8.alloc b8.size (.cells #[.int .i64 (G3 : Int), .slice A8 G6 c8] 27)).mono H7.out.size))
  clear b8 hr8
  go_upto_region 9 with fail
  generalize w8.alloc (.cells #[.int .i64 (G3 : Int), .slice A8 G6 c8] 27) = W8 at *
  have V8 := Lib.hid (V4.out.trans (H8.out.mono V4.out.size))
  have hne := World.new_ne W8
  have KE := Lib.hid (fun W (h : Below W8.heap.size W8 W) => mix_to (all := false) (c := cm) (d := cp) HOL.out HOM.out HN.out HN2.out W (RM2.out.below (V8.out.trans (h.mono V8.out.size))) (R2.out.below (V8.out.trans (h.mono V8.out.size))) _ (either_any (s : Int) (s : Int) Am Ap cm cp L M W (RM2.out.below (V8.out.trans (h.mono V8.out.size))) (R2.out.below (V8.out.trans (h.mono V8.out.size)))))
  have KB := Lib.hid (fun W (h : Below W8.heap.size W8 W) => mix_to (all := true) (c := cm) (d := cp) HOL.out HOM.out HN.out HN2.out W (RM2.out.below (V8.out.trans (h.mono V8.out.size))) (R2.out.below (V8.out.trans (h.mono V8.out.size))) _ (both_any (s : Int) (s : Int) Am Ap cm cp L M W (RM2.out.below (V8.out.trans (h.mono V8.out.size))) (R2.out.below (V8.out.trans (h.mono V8.out.size)))))
  have CB := Lib.hid (fun W (h : Below W8.heap.size W8 W) => And.intro (CX.out W (V2.out.trans ((V8.out.trans (h.mono V8.out.size)).mono V2.out.size))).1 (And.intro (CX.out W (V2.out.trans ((V8.out.trans (h.mono V8.out.size)).mono V2.out.size))).2 (CY.out W (V8.out.trans (h.mono V8.out.size)))))
  have RE := mixL_self_ok (all := false) hoL hoM
  have RV := mixL_self_ok (all := true) hoL hoM
  have hrk := rank_mix HOL.out HOM.out
  have hEL : (mixL false (s : Int) (s : Int) L M).length = N := by rw [okB_len RE.1, ← HN.out, okB_len hoL]
  have hVL : (mixL true (s : Int) (s : Int) L M).length = N := by rw [okB_len RV.1, ← HN.out, okB_len hoL]
  have hb1 : mixL true (s : Int) (s : Int) (mixL false (s : Int) (s : Int) L M) L = L := mix_back (all := true) HOL.out HOM.out
  have hb2 : mixL false (s : Int) (s : Int) (mixL true (s : Int) (s : Int) L M) L = L := mix_back (all := false) HOL.out HOM.out
  generalize mixL false (s : Int) (s : Int) L M = E at *
  generalize mixL true (s : Int) (s : Int) L M = V at *
  clear hne
  have HRK := Lib.hid hrk
  have HEL := Lib.hid hEL
  have HVL := Lib.hid hVL
  have HB1 := Lib.hid hb1
  have HB2 := Lib.hid hb2
  have HEO := Lib.hid RE.1
  have HVO := Lib.hid RV.1
  clear hrk hEL hVL hb1 hb2 RE RV
  have za := (Below.refl W8.heap.size W8).drew
  have zb := ((Below.refl W8.heap.size W8).alloc (Nat.le_refl _) (.cells #[.int .i64 0, .slice none 0 0] 27)).drew
  have zc := (((Below.refl W8.heap.size W8).alloc (Nat.le_refl _) (.cells #[.int .i64 0, .slice none 0 0] 27)).alloc (by rw [heap_size_alloc]; omega) (.cells #[.int .i64 0, .slice none 0 0] 27)).drew
  have c0 := CB.out _ za
  have c1 := CB.out _ zb
  have c2 := CB.out _ zc
  go_cut [19, 20] from 79 to 82 (fun p5 p6 wx => ∃ g h AE cE AV cV, p5 = .pointer (some ⟨g, 0, none⟩) ∧ p6 = .pointer (some ⟨h, 0, none⟩) ∧ Pz W8 wx g h (s : Int) (.slice AE N cE) (.slice AV N cV) E V)
  case first =>
    go_region_held3 (fun W => W.cell? ⟨q, 0, none⟩ = some (.int .i64 (s : Int)) ∧ W.cell? ⟨q, 1, none⟩ = some (.slice Am N cm) ∧ W.cell? ⟨q2, 0, none⟩ = some (.int .i64 (s : Int)) ∧ W.cell? ⟨q2, 1, none⟩ = some (.slice Ap N2 cp)) (first | with_reducible exact c0 | with_reducible exact c1 | with_reducible exact c2 | with_reducible exact c4 | with_reducible exact c5 | with_reducible exact c6 | (with_reducible refine CB.out _ ?_; repeat (first | with_reducible exact ya | with_reducible exact za | with_reducible refine bAlloc ?_ _ | with_reducible refine bSet ?_ (by omega) _)) | fail)
      (first
        | (go_at_call 28; (with_reducible refine Calls.mono (KE.out _ za) ?_); go_must (rintro e w9 ⟨AE, cE, rfl, oE, b9⟩; have BW := Lib.hid (za.trans (b9.mono za.size)); have OE := Lib.hid (oE.lift za.size); have ya := BW.out; have ys := ya.size; have yb := bAlloc ya (.cells #[.int .i64 0, .slice none 0 0] 27); have yc := bAlloc yb (.cells #[.int .i64 0, .slice none 0 0] 27); have c4 := CB.out _ ya; have c5 := CB.out _ yb; have c6 := CB.out _ yc; clear oE b9))
        | (go_at_call 28; (with_reducible refine Calls.mono (KE.out _ zb) ?_); go_must (rintro e w9 ⟨AE, cE, rfl, oE, b9⟩; have P1 := Lib.hid ((ZB.new W8).drew.later (V := w9) b9); have n1 := Lib.hid (own_ne oE (p := W8.heap.size) (.inl (ZB.new W8).drew.lt)); have BW := Lib.hid (zb.trans (b9.mono zb.size)); have OE := Lib.hid (oE.lift zb.size); have ya := BW.out; have ys := ya.size; have yb := bAlloc ya (.cells #[.int .i64 0, .slice none 0 0] 27); have yc := bAlloc yb (.cells #[.int .i64 0, .slice none 0 0] 27); have c4 := CB.out _ ya; have c5 := CB.out _ yb; have c6 := CB.out _ yc; clear oE b9))
        | (go_at_call 28; (with_reducible refine Calls.mono (KE.out _ zc) ?_); go_must (rintro e w9 ⟨AE, cE, rfl, oE, b9⟩; have P1 := Lib.hid (((ZB.new W8).alloc (.cells #[.int .i64 0, .slice none 0 0] 27)).drew.later (V := w9) b9); have n1 := Lib.hid (own_ne oE (p := W8.heap.size) (.inl ((ZB.new W8).alloc (.cells #[.int .i64 0, .slice none 0 0] 27)).drew.lt)); have P2 := Lib.hid (show ZB w9 (W8.heap.size + 1) from (zb_second W8).drew.later b9); have n2 := Lib.hid (own_ne oE (p := W8.heap.size + 1) (.inl (zb_second W8).drew.lt)); have BW := Lib.hid (zc.trans (b9.mono zc.size)); have OE := Lib.hid (oE.lift zc.size); have ya := BW.out; have ys := ya.size; have yb := bAlloc ya (.cells #[.int .i64 0, .slice none 0 0] 27); have yc := bAlloc yb (.cells #[.int .i64 0, .slice none 0 0] 27); have c4 := CB.out _ ya; have c5 := CB.out _ yb; have c6 := CB.out _ yc; clear oE b9))
        | (go_at_call 26; revert P2; intro P2; revert P1; intro P1; (with_reducible refine Calls.mono (KB.out _ ya) ?_); go_must (rintro e w10 ⟨AV, cV, rfl, oV, b10⟩; have BV := Lib.hid (ya.trans (b10.mono ya.size)); have OE := Lib.hid (OE.out.keep b10 (Nat.le_refl _)); have OV := Lib.hid (oV.lift ya.size); have PR := Lib.hid (Pr.mk BV.out (P1.out.later b10) (P2.out.later b10) (by omega) (Nat.le_refl _) (Nat.le_succ _) OE.out OV.out n1.out n2.out (own_ne oV (.inl P1.out.lt)) (own_ne oV (.inl P2.out.lt))); obtain ⟨⟨f0, f1, f2, f3⟩, ⟨f4, f5, f6, f7⟩, ⟨f8, f9, f10, f11⟩, ⟨f12, f13, f14, f15⟩⟩ := PR.out.facts (.int .i64 (s : Int)); have ya := BV.out; have yt := ya.size; have yb := bAlloc ya (.cells #[.int .i64 0, .slice none 0 0] 27); have yc := bAlloc yb (.cells #[.int .i64 0, .slice none 0 0] 27); have c4 := CB.out _ ya; have c5 := CB.out _ yb; have c6 := CB.out _ yc; clear oV b10))
        | (go_at_call 26; revert P1; intro P1; (with_reducible refine Calls.mono (KB.out _ yb) ?_); go_must (have ne9 := OE.out; rintro e w10 ⟨AV, cV, rfl, oV, b10⟩; have BV := Lib.hid (yb.trans (b10.mono yb.size)); have OE := Lib.hid ((OE.out.alloc (.cells #[.int .i64 0, .slice none 0 0] 27)).keep b10 (Nat.le_refl _)); have OV := Lib.hid (oV.lift yb.size); have PR := Lib.hid (Pr.mk BV.out ((P1.out.alloc (.cells #[.int .i64 0, .slice none 0 0] 27)).later b10) ((ZB.new w9).later b10) (Nat.ne_of_lt P1.out.lt) (Nat.le_refl _) ys OE.out OV.out n1.out (own_ne ne9 (.inr (Nat.le_refl _))) (own_ne oV (.inl (P1.out.alloc (.cells #[.int .i64 0, .slice none 0 0] 27)).lt)) (own_ne oV (.inl (ZB.new w9).lt))); obtain ⟨⟨f0, f1, f2, f3⟩, ⟨f4, f5, f6, f7⟩, ⟨f8, f9, f10, f11⟩, ⟨f12, f13, f14, f15⟩⟩ := PR.out.facts (.int .i64 (s : Int)); have ya := BV.out; have yt := ya.size; have yb := bAlloc ya (.cells #[.int .i64 0, .slice none 0 0] 27); have yc := bAlloc yb (.cells #[.int .i64 0, .slice none 0 0] 27); have c4 := CB.out _ ya; have c5 := CB.out _ yb; have c6 := CB.out _ yc; clear oV b10))
        | (go_at_call 26; revert P1; intro P1; (with_reducible refine Calls.mono (KB.out _ ya) ?_); go_must (rintro e w10 ⟨AV, cV, rfl, oV, b10⟩; have BV := Lib.hid (ya.trans (b10.mono ya.size)); have OE := Lib.hid (OE.out.keep b10 (Nat.le_refl _)); have OV := Lib.hid (oV.lift ya.size); have PP := Lib.hid (P1.out.later b10); have NV := Lib.hid (own_ne oV (.inl P1.out.lt)); have NE := Lib.hid n1.out; have GP := Lib.hid (Nat.le_refl W8.heap.size); have PR := Lib.hid (Pr.mk (bAlloc BV.out (.cells #[.int .i64 0, .slice none 0 0] 27)) (PP.out.alloc (.cells #[.int .i64 0, .slice none 0 0] 27)) (ZB.new w10) (Nat.ne_of_lt PP.out.lt) (Nat.le_refl _) BV.out.size (OE.out.alloc _) (OV.out.alloc _) n1.out (own_ne OE.out (.inr (Nat.le_refl _))) NV.out (own_ne OV.out (.inr (Nat.le_refl _)))); obtain ⟨⟨f0, f1, f2, f3⟩, ⟨f4, f5, f6, f7⟩, ⟨f8, f9, f10, f11⟩, ⟨f12, f13, f14, f15⟩⟩ := PR.out.facts (.int .i64 (s : Int)); obtain ⟨g0, g1, g2, g3⟩ := row_facts (PP.out.alloc (.cells #[.int .i64 (s : Int), .slice AE N cE] 27)); have ya := BV.out; have yt := ya.size; have yb := bAlloc ya (.cells #[.int .i64 0, .slice none 0 0] 27); have yc := bAlloc yb (.cells #[.int .i64 0, .slice none 0 0] 27); have c4 := CB.out _ ya; have c5 := CB.out _ yb; have c6 := CB.out _ yc; clear oV b10))
        | (go_at_call 26; (with_reducible refine Calls.mono (KB.out _ yc) ?_); go_must (have ne9 := OE.out; rintro e w10 ⟨AV, cV, rfl, oV, b10⟩; have BV := Lib.hid (yc.trans (b10.mono yc.size)); have OE := Lib.hid (((OE.out.alloc (.cells #[.int .i64 0, .slice none 0 0] 27)).alloc (.cells #[.int .i64 0, .slice none 0 0] 27)).keep b10 (Nat.le_refl _)); have OV := Lib.hid (oV.lift yc.size); have PR := Lib.hid (Pr.mk BV.out (((ZB.new w9).alloc (.cells #[.int .i64 0, .slice none 0 0] 27)).later b10) ((zb_second w9).later b10) (by omega) ys (Nat.le_succ_of_le ys) OE.out OV.out (own_ne ne9 (.inr (Nat.le_refl _))) (own_ne ne9 (.inr (Nat.le_succ _))) (own_ne oV (.inl ((ZB.new w9).alloc (.cells #[.int .i64 0, .slice none 0 0] 27)).lt)) (own_ne oV (.inl (zb_second w9).lt))); obtain ⟨⟨f0, f1, f2, f3⟩, ⟨f4, f5, f6, f7⟩, ⟨f8, f9, f10, f11⟩, ⟨f12, f13, f14, f15⟩⟩ := PR.out.facts (.int .i64 (s : Int)); have ya := BV.out; have yt := ya.size; have yb := bAlloc ya (.cells #[.int .i64 0, .slice none 0 0] 27); have yc := bAlloc yb (.cells #[.int .i64 0, .slice none 0 0] 27); have c4 := CB.out _ ya; have c5 := CB.out _ yb; have c6 := CB.out _ yc; clear oV b10))
        | (go_at_call 26; (with_reducible refine Calls.mono (KB.out _ yb) ?_); go_must (have ne9 := OE.out; rintro e w10 ⟨AV, cV, rfl, oV, b10⟩; have BV := Lib.hid (yb.trans (b10.mono yb.size)); have OE := Lib.hid ((OE.out.alloc (.cells #[.int .i64 0, .slice none 0 0] 27)).keep b10 (Nat.le_refl _)); have OV := Lib.hid (oV.lift yb.size); have PP := Lib.hid ((ZB.new w9).later b10); have NV := Lib.hid (own_ne oV (.inl (ZB.new w9).lt)); have NE := Lib.hid (own_ne ne9 (.inr (Nat.le_refl _))); have GP := Lib.hid ys; have PR := Lib.hid (Pr.mk (bAlloc BV.out (.cells #[.int .i64 0, .slice none 0 0] 27)) (PP.out.alloc (.cells #[.int .i64 0, .slice none 0 0] 27)) (ZB.new w10) (Nat.ne_of_lt PP.out.lt) ys BV.out.size (OE.out.alloc _) (OV.out.alloc _) NE.out (own_ne OE.out (.inr (Nat.le_refl _))) NV.out (own_ne OV.out (.inr (Nat.le_refl _)))); obtain ⟨⟨f0, f1, f2, f3⟩, ⟨f4, f5, f6, f7⟩, ⟨f8, f9, f10, f11⟩, ⟨f12, f13, f14, f15⟩⟩ := PR.out.facts (.int .i64 (s : Int)); obtain ⟨g0, g1, g2, g3⟩ := row_facts (PP.out.alloc (.cells #[.int .i64 (s : Int), .slice AE N cE] 27)); have ya := BV.out; have yt := ya.size; have yb := bAlloc ya (.cells #[.int .i64 0, .slice none 0 0] 27); have yc := bAlloc yb (.cells #[.int .i64 0, .slice none 0 0] 27); have c4 := CB.out _ ya; have c5 := CB.out _ yb; have c6 := CB.out _ yc; clear oV b10))
        | (go_at_call 26; (with_reducible refine Calls.mono (KB.out _ ya) ?_); go_must (rintro e w10 ⟨AV, cV, rfl, oV, b10⟩; have BV := Lib.hid (ya.trans (b10.mono ya.size)); have OE := Lib.hid (OE.out.keep b10 (Nat.le_refl _)); have OV := Lib.hid (oV.lift ya.size); have ya := BV.out; have yt := ya.size; have yb := bAlloc ya (.cells #[.int .i64 0, .slice none 0 0] 27); have yc := bAlloc yb (.cells #[.int .i64 0, .slice none 0 0] 27); have c4 := CB.out _ ya; have c5 := CB.out _ yb; have c6 := CB.out _ yc; clear oV b10))
        | fail)
    all_goals
      go_wp2_with fail
      go_meet
      refine ⟨_, _, AE, cE, AV, cV, rfl, rfl, ?_⟩
      first
        | with_reducible exact PR.out.fin _
        | with_reducible exact PR.out.swap.fin _
        | with_reducible exact fin1 BV.out PP.out GP.out OE.out OV.out NE.out NV.out _
        | with_reducible exact fin2a BV.out OE.out OV.out _
        | with_reducible exact fin2b BV.out OE.out OV.out _
        | (trace_state; sorry)
  case rest =>
    obtain ⟨g, h, AE, cE, AV, cV, rfl, rfl, u0, u1, v0, v1, oE, oV, hb⟩ := hcut
    have hcE := own_cap oE HEL.out
    have hcV := own_cap oV HVL.out
    have BC := Lib.hid (V8.out.trans (hb.mono V8.out.size))
    have CC := Lib.hid (fun W (k : Below wc.heap.size wc W) => flat (And.intro (CX.out W (V2.out.trans ((BC.out.trans (k.mono BC.out.size)).mono V2.out.size))) (And.intro (CY.out W (BC.out.trans (k.mono BC.out.size))) (And.intro (CZ.out W (H8.out.trans ((hb.trans (k.mono hb.size)).mono H8.out.size))) (And.intro ((k.cell (lt_of_cell u0)).trans u0) (And.intro ((k.cell (lt_of_cell u1)).trans u1) (And.intro ((k.cell (lt_of_cell v0)).trans v0) ((k.cell (lt_of_cell v1)).trans v1))))))))
    have RM := Lib.hid (RM2.out.below BC.out)
    have RP := Lib.hid (R2.out.below BC.out)
    have RX := Lib.hid ((R4.out.below (H8.out.trans (hb.mono H8.out.size))))
    have REr := Lib.hid oE.reads
    have RVr := Lib.hid oV.reads
    have BE := Lib.hid (fun W (k : Below wc.heap.size wc W) => B2.out.trans ((BC.out.trans (k.mono BC.out.size)).mono B2.out.size))
    have KS := Lib.hid (fun (A : Option Addr) (c : Nat) W (k : Below wc.heap.size wc W) (r : RQ W A L) => sameK (s : Int) A Am c cm N L W HN.out (by have := okB_len HOL.out; omega) r (RM.out.below k))
    have KR1 := Lib.hid (fun W (k : Below wc.heap.size wc W) => rankK (s : Int) AE cE N E (s : Int) W HEL.out hcE (REr.out.below k))
    have KR2 := Lib.hid (fun W (k : Below wc.heap.size wc W) => rankK (s : Int) AV cV N V (s : Int) W HVL.out hcV (RVr.out.below k))
    have KR3 := Lib.hid (fun W (k : Below wc.heap.size wc W) => rankK (s : Int) Am cm N L (s : Int) W HN.out hcm (RM.out.below k))
    have KR4 := Lib.hid (fun W (k : Below wc.heap.size wc W) => rankK (s : Int) Ap cp N2 M (s : Int) W HN2.out hcp (RP.out.below k))
    have KB1 := fun W (k : Below wc.heap.size wc W) => mix_to (all := true) (c := cE) (d := cm) HEO.out HOL.out HEL.out HN.out W (REr.out.below k) (RM.out.below k) _ (both_any (s : Int) (s : Int) AE Am cE cm E L W (REr.out.below k) (RM.out.below k))
    have KB2 := fun W (k : Below wc.heap.size wc W) => mix_to (all := false) (c := cV) (d := cm) HVO.out HOL.out HVL.out HN.out W (RVr.out.below k) (RM.out.below k) _ (either_any (s : Int) (s : Int) AV Am cV cm V L W (RVr.out.below k) (RM.out.below k))
    rw [HB1.out] at KB1
    rw [HB2.out] at KB2
    have KB1 := Lib.hid KB1
    have KB2 := Lib.hid KB2
    have KL := Lib.hid (fun W => lightK (s : Int) Am N cm W (by have := okB_len HOL.out; have := HN.out; omega))
    have m1 := rank_small (s : Int) E (s : Int) (by omega)
    have m2 := rank_small (s : Int) V (s : Int) (by omega)
    have m3 := rank_small (s : Int) L (s : Int) (by omega)
    have m4 := rank_small (s : Int) M (s : Int) (by omega)
    have hrk := HRK.out
    generalize rankB (s : Int) E (s : Int) = ru at *
    generalize rankB (s : Int) V (s : Int) = rv at *
    generalize rankB (s : Int) L (s : Int) = rm at *
    generalize rankB (s : Int) M (s : Int) = rp at *
    have ha1 : IntKind.i64.wrap ((ru : Int) + (rv : Int)) = (ru : Int) + (rv : Int) := by rw [IntKind.wrap_i64]; omega
    have ha2 : IntKind.i64.wrap ((rm : Int) + (rp : Int)) = (rm : Int) + (rp : Int) := by rw [IntKind.wrap_i64]; omega
    have heq : ((ru : Int) + (rv : Int) == (rm : Int) + (rp : Int)) = true := by simp; omega
    have hws : IntKind.i64.wrap (s : Int) = (s : Int) := by rw [IntKind.wrap_i64]; omega
    have hz : ((0 : Int) == 0) = true := rfl
    clear u0 u1 v0 v1 oE oV hb m1 m2 m3 m4 hrk
    go_upto_region 11 with fail
    have BW := Lib.hid ((Below.refl wc.heap.size wc).drew)
    have cc := CC.out _ BW.out
    go_region_held3 (fun W => W.cell? ⟨q, 0, none⟩ = some (.int .i64 (s : Int)) ∧ W.cell? ⟨q, 1, none⟩ = some (.slice Am N cm) ∧ W.cell? ⟨q2, 0, none⟩ = some (.int .i64 (s : Int)) ∧ W.cell? ⟨q2, 1, none⟩ = some (.slice Ap N2 cp) ∧ W.cell? ⟨q3, 0, none⟩ = some (.int .i64 (s : Int)) ∧ W.cell? ⟨q3, 1, none⟩ = some (.slice Ax N cx) ∧ W.cell? ⟨g, 0, none⟩ = some (.int .i64 (s : Int)) ∧ W.cell? ⟨g, 1, none⟩ = some (.slice AE N cE) ∧ W.cell? ⟨h, 0, none⟩ = some (.int .i64 (s : Int)) ∧ W.cell? ⟨h, 1, none⟩ = some (.slice AV N cV)) (first | with_reducible assumption | with_reducible exact cc | fail)
        (first
          | (go_at_call 30; (with_reducible refine Calls.mono (KS.out Ax cx _ BW.out (RX.out.below BW.out)) ?_); go_must (rintro e w12 ⟨rfl, b12⟩; have BW := Lib.hid (BW.out.trans (b12.mono BW.out.size)); have cc := CC.out _ BW.out; clear b12))
          | (go_at_call 30; (with_reducible refine Calls.mono (KS.out AB cB _ BW.out RB.out) ?_); go_must (rintro e w12 ⟨rfl, b12⟩; have BW := Lib.hid (BW.out.trans (b12.mono BW.out.size)); have cc := CC.out _ BW.out; clear b12))
          | (go_at_call 30; (with_reducible refine Calls.mono (KS.out AD cD _ BW.out RD.out) ?_); go_must (rintro e w12 ⟨rfl, b12⟩; have BW := Lib.hid (BW.out.trans (b12.mono BW.out.size)); have cc := CC.out _ BW.out; clear b12))
          | (go_at_call 24; (with_reducible refine Calls.mono (KR1.out _ BW.out) ?_); go_must (rintro e w12 ⟨rfl, b12⟩; have BW := Lib.hid (BW.out.trans (b12.mono BW.out.size)); have cc := CC.out _ BW.out; clear b12))
          | (go_at_call 24; (with_reducible refine Calls.mono (KR2.out _ BW.out) ?_); go_must (rintro e w12 ⟨rfl, b12⟩; have BW := Lib.hid (BW.out.trans (b12.mono BW.out.size)); have cc := CC.out _ BW.out; clear b12))
          | (go_at_call 24; (with_reducible refine Calls.mono (KR3.out _ BW.out) ?_); go_must (rintro e w12 ⟨rfl, b12⟩; have BW := Lib.hid (BW.out.trans (b12.mono BW.out.size)); have cc := CC.out _ BW.out; clear b12))
          | (go_at_call 24; (with_reducible refine Calls.mono (KR4.out _ BW.out) ?_); go_must (rintro e w12 ⟨rfl, b12⟩; have BW := Lib.hid (BW.out.trans (b12.mono BW.out.size)); have cc := CC.out _ BW.out; clear b12))
          | (go_at_call 26; (with_reducible refine Calls.mono (KB1.out _ BW.out) ?_); go_must (rintro e w12 ⟨AB, cB, rfl, oB, b12⟩; have RB := Lib.hid oB.reads; clear oB; have BW := Lib.hid (BW.out.trans (b12.mono BW.out.size)); have cc := CC.out _ BW.out; clear b12))
          | (go_at_call 28; (with_reducible refine Calls.mono (KB2.out _ BW.out) ?_); go_must (rintro e w12 ⟨AD, cD, rfl, oD, b12⟩; have RD := Lib.hid oD.reads; clear oD; have BW := Lib.hid (BW.out.trans (b12.mono BW.out.size)); have cc := CC.out _ BW.out; clear b12))
          | (go_at_call 9; (with_reducible refine Calls.mono (KL.out _) ?_); go_must (rintro e w12 ⟨rfl, b12⟩; have BW := Lib.hid (BW.out.trans (b12.mono BW.out.size)); have cc := CC.out _ BW.out; clear b12))
          | (go_at_call 10; (with_reducible refine Calls.mono (KA.out _ (BE.out _ BW.out)) ?_); go_must (rintro e w12 ⟨rfl, b12⟩; have BW := Lib.hid (BW.out.trans (b12.mono BW.out.size)); have cc := CC.out _ BW.out; clear b12))
          | fail)
    all_goals
      go_wp2
      go_ret
      exact ⟨rfl, BE.out _ BW.out⟩
end Go.Proofs.YtmmehomobmoapaaDoor.bitmapBack
