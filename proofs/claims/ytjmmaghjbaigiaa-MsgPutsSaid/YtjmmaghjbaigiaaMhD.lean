/- The document's messages: Get. -/
import Derived.Test.YtjmmaghjbaigiaaMhC
import Derived.Test.YtjmmaghjbaigiaaMgG
import Derived.Test.YtjmmaghjbaigiaaTxD
import Derived.Test.YtjmmaghjbaigiaaVsS
import Derived.Deep.CutBlock
import Derived.Deep.QuietTactic
import Derived.BigQuiet
namespace Go.Proofs.Ytjmmaghjbaigiaa
open Go.RowKit
set_option linter.unusedVariables false
set_option linter.unusedSimpArgs false
theorem RB.otherM {w : World} {A : Option Addr} {l : List UInt8} (h : RB w A l) {p : Addr} {v : Value} (hc : w.cell? p = some v) (hv : ∀ z, v ≠ .int .u8 z) (u : Value) : RB (w.setCell p u) A l := by
  rcases h with rfl | ⟨ad, rfl, hj⟩
  · exact .inl rfl
  · refine .inr ⟨ad, rfl, fun j x hx => ?_⟩
    rw [World.cell?_setCell_other w p (ad.add j) u (fun e => by have := hj j x hx; rw [← e, hc] at this; injection this with this; exact hv _ this)]
    exact hj j x hx
/-- The memory of the document's Get: the result, the message that grows, the reader, in a box. -/
structure GvW (w : World) (A : Option Addr) (n c : Nat) (l : List UInt8) (f : Nat) (m : Ms) (W : World) : Prop where
  b : Below w.heap.size w W
  p : MsBox W w.heap.size ms0
  x : MsBox W (w.heap.size + 1) m
  r0 : W.cell? ⟨w.heap.size + 2, 0, none⟩ = some (.slice A n c)
  r1 : W.cell? ⟨w.heap.size + 2, 1, none⟩ = some (.int .i64 (f : Int))
  g0 : W.frozen? ⟨w.heap.size + 2, 0, none⟩ = false
  g1 : W.frozen? ⟨w.heap.size + 2, 1, none⟩ = false
  rb : RB W A l
  ln : l.length = n
  nc : n ≤ c
theorem GvW.on {w W W' : World} {A : Option Addr} {n c : Nat} {l : List UInt8} {f : Nat} {m : Ms} (h : GvW w A n c l f m W) (hb : Below W.heap.size W W') : GvW w A n c l f m W' :=
  ⟨h.b.trans (hb.mono h.b.size), h.p.on hb, h.x.on hb, (hb.cell (lt_of_cell h.r0)).trans h.r0, (hb.cell (lt_of_cell h.r1)).trans h.r1, (hb.frozen (lt_of_cell h.r0)).trans h.g0, (hb.frozen (lt_of_cell h.r1)).trans h.g1, h.rb.below hb, h.ln, h.nc⟩
/-- The reader's box gets another reader. -/
theorem GvW.rd {w W W' : World} {A A' : Option Addr} {n c n' c' : Nat} {l l' : List UInt8} {f f' : Nat} {m : Ms} (h : GvW w A n c l f m W) (hb : Below W.heap.size W W') (hl : l'.length = n') (hc : n' ≤ c') (hr : RB W' A' l') :
    GvW w A' n' c' l' f' m ((W'.setCell ⟨w.heap.size + 2, 0, none⟩ (.slice A' n' c')).setCell ⟨w.heap.size + 2, 1, none⟩ (.int .i64 (f' : Int))) := by
  have h1 := h.on hb
  have e1 : (W'.setCell ⟨w.heap.size + 2, 0, none⟩ (.slice A' n' c')).cell? ⟨w.heap.size + 2, 1, none⟩ = some (.int .i64 (f : Int)) := by
    rw [World.cell?_setCell_other _ _ _ _ (by simp)]; exact h1.r1
  have hr1 : RB (W'.setCell ⟨w.heap.size + 2, 0, none⟩ (.slice A' n' c')) A' l' := hr.otherM h1.r0 (fun z => by simp) _
  refine ⟨(h1.b.setCell (p := ⟨w.heap.size + 2, 0, none⟩) (by simp) _).setCell (p := ⟨w.heap.size + 2, 1, none⟩) (by simp) _, (h1.p.other (by show w.heap.size + 2 ≠ w.heap.size; omega) _).other (by show w.heap.size + 2 ≠ w.heap.size; omega) _, (h1.x.other (by show w.heap.size + 2 ≠ w.heap.size + 1; omega) _).other (by show w.heap.size + 2 ≠ w.heap.size + 1; omega) _, ?_, ?_, ?_, ?_, hr1.otherM e1 (fun z => by simp) _, hl, hc⟩
  · simp [World.cell?_setCell_other, World.cell?_setCell_same', h1.r0, h1.r1]
  · simp [World.cell?_setCell_other, World.cell?_setCell_same', h1.r0, h1.r1]
  · simp [h1.g0]
  · simp [h1.g1]
/-- The reader's bytes, cut. -/
theorem GvW.rd0 {w W : World} {A A' : Option Addr} {n c n' c' : Nat} {l l' : List UInt8} {f : Nat} {m : Ms} (h1 : GvW w A n c l f m W) (hl : l'.length = n') (hc : n' ≤ c') (hr : RB W A' l') :
    GvW w A' n' c' l' f m (W.setCell ⟨w.heap.size + 2, 0, none⟩ (.slice A' n' c')) := by
  refine ⟨h1.b.setCell (p := ⟨w.heap.size + 2, 0, none⟩) (by simp) _, h1.p.other (by show w.heap.size + 2 ≠ w.heap.size; omega) _, h1.x.other (by show w.heap.size + 2 ≠ w.heap.size + 1; omega) _, by simp [World.cell?_setCell_same', h1.r0], ?_, ?_, ?_, hr.otherM h1.r0 (fun z => by simp) _, hl, hc⟩
  · rw [World.cell?_setCell_other _ _ _ _ (by simp)]; exact h1.r1
  · simp [h1.g0]
  · simp [h1.g1]
/-- A field of the message stored. -/
theorem GvW.fld {w W : World} {A : Option Addr} {n c : Nat} {l : List UInt8} {f : Nat} {m m' : Ms} (h : GvW w A n c l f m W) (i : Nat) (u v : Value) (hv : W.cell? ⟨w.heap.size + 1, i, none⟩ = some v) (hn : ∀ z, v ≠ .int .u8 z) (hx : MsBox (W.setCell ⟨w.heap.size + 1, i, none⟩ u) (w.heap.size + 1) m') :
    GvW w A n c l f m' (W.setCell ⟨w.heap.size + 1, i, none⟩ u) := by
  have e : ∀ j, (⟨w.heap.size + 1, i, none⟩ : Addr) ≠ ⟨w.heap.size + 2, j, none⟩ := fun j e => by injection e with e; omega
  exact ⟨h.b.setCell (p := ⟨w.heap.size + 1, i, none⟩) (by simp) _, h.p.other (by show w.heap.size + 1 ≠ w.heap.size; omega) _, hx, by rw [World.cell?_setCell_other _ _ _ _ (e 0)]; exact h.r0, by rw [World.cell?_setCell_other _ _ _ _ (e 1)]; exact h.r1, by simp [h.g0], by simp [h.g1], h.rb.otherM hv hn _, h.ln, h.nc⟩
theorem GvW.new (w : World) (y : UInt8) (B1 : Option Addr) (n c : Nat) (r : List UInt8) (hr : ∀ W, Below w.heap.size w W → RB W B1 r) (hl : r.length = n - 1) (hc : n - 1 ≤ c - 1) : GvW w B1 (n - 1) (c - 1) r 0 ⟨y, ⟨#[]⟩, 0, 0, false, ⟨#[]⟩⟩ (((w.alloc (.cells #[.int .u8 0, .string ⟨#[]⟩, .int .i64 0, .int .i64 0, .bool false, .string ⟨#[]⟩] 40)).alloc (.cells #[.int .u8 (y.toNat : Int), .string ⟨#[]⟩, .int .i64 0, .int .i64 0, .bool false, .string ⟨#[]⟩] 40)).alloc (.cells #[.slice B1 (n - 1) (c - 1), .int .i64 0] 80)) := by
  have h1 := heap_size_alloc w (.cells #[.int .u8 0, .string ⟨#[]⟩, .int .i64 0, .int .i64 0, .bool false, .string ⟨#[]⟩] 40)
  have h2 := heap_size_alloc (w.alloc (.cells #[.int .u8 0, .string ⟨#[]⟩, .int .i64 0, .int .i64 0, .bool false, .string ⟨#[]⟩] 40)) (.cells #[.int .u8 (y.toNat : Int), .string ⟨#[]⟩, .int .i64 0, .int .i64 0, .bool false, .string ⟨#[]⟩] 40)
  have hb := below2 w (.cells #[.int .u8 0, .string ⟨#[]⟩, .int .i64 0, .int .i64 0, .bool false, .string ⟨#[]⟩] 40) (.cells #[.int .u8 (y.toNat : Int), .string ⟨#[]⟩, .int .i64 0, .int .i64 0, .bool false, .string ⟨#[]⟩] 40)
  have x1 := MsBox.new (w.alloc (.cells #[.int .u8 0, .string ⟨#[]⟩, .int .i64 0, .int .i64 0, .bool false, .string ⟨#[]⟩] 40)) ⟨y, ⟨#[]⟩, 0, 0, false, ⟨#[]⟩⟩ 40
  rw [h1] at x1
  have p1 := (MsBox.new w ms0 40).alloc (.cells #[.int .u8 (y.toNat : Int), .string ⟨#[]⟩, .int .i64 0, .int .i64 0, .bool false, .string ⟨#[]⟩] 40)
  have hs : ((w.alloc (.cells #[.int .u8 0, .string ⟨#[]⟩, .int .i64 0, .int .i64 0, .bool false, .string ⟨#[]⟩] 40)).alloc (.cells #[.int .u8 (y.toNat : Int), .string ⟨#[]⟩, .int .i64 0, .int .i64 0, .bool false, .string ⟨#[]⟩] 40)).heap.size = w.heap.size + 2 := by omega
  have p1 : MsBox ((w.alloc (.cells #[.int .u8 0, .string ⟨#[]⟩, .int .i64 0, .int .i64 0, .bool false, .string ⟨#[]⟩] 40)).alloc (.cells #[.int .u8 (y.toNat : Int), .string ⟨#[]⟩, .int .i64 0, .int .i64 0, .bool false, .string ⟨#[]⟩] 40)) w.heap.size ms0 := p1
  generalize (w.alloc (.cells #[.int .u8 0, .string ⟨#[]⟩, .int .i64 0, .int .i64 0, .bool false, .string ⟨#[]⟩] 40)).alloc (.cells #[.int .u8 (y.toNat : Int), .string ⟨#[]⟩, .int .i64 0, .int .i64 0, .bool false, .string ⟨#[]⟩] 40) = W at *
  have hb3 := hb.alloc hb.size (.cells #[.slice B1 (n - 1) (c - 1), .int .i64 0] 80)
  exact ⟨hb3, p1.alloc _, x1.alloc _, by rw [← hs]; simp, by rw [← hs]; simp, by rw [← hs]; simp, by rw [← hs]; simp, hr _ hb3, hl, hc⟩
/-- What the document guesses is the message, where there is one. -/
def IsMs (b : List UInt8) (g : Ms) : Prop := ∀ x R, checkM x = 0 → b = putM x ++ R → g = x
theorem IsMs.of {b : List UInt8} {g : Ms} (h : mgGuess b = g) : IsMs b g := fun x R h1 h2 => by rw [← h, h2]; exact mgGuess_put h1 R
theorem putM_head {x : Ms} {k : UInt8} {r R : List UInt8} (h : k :: r = putM x ++ R) : k = x.kind := by
  unfold putM layM at h
  simp only [List.cons_append] at h
  injection h
theorem lay_zero {x : Ms} {k : UInt8} {r R : List UInt8} (hx : checkM x = 0) (hk : k.toNat = 0) (h : k :: r = putM x ++ R) : rdF (rtL r 0 16) (rtF r 0 16) = 0 ∧ rdL (rtL r 0 16) (rtF r 0 16) ≠ [] := by
  obtain ⟨c1, c2, c3, ⟨t1, t2⟩, ⟨s1, s2⟩, c4, c5⟩ := checkM_zero hx
  have hkk := putM_head h
  subst hkk
  unfold putM layM at h
  rw [show mgPair x.kind.toNat = true from by rw [hk]; rfl, show mgTxn x.kind.toNat = true from by rw [hk]; rfl, show mgTS x.kind.toNat = false from by rw [hk]; rfl] at h
  simp only [if_true, List.cons_append, List.append_assoc] at h
  injection h with _ h
  obtain ⟨a1, a2, a3⟩ := rt_put x.key.data.toList (putSmall x.txn.toNat ++ ((if false = true then putSmall x.ts.toNat else []) ++ (vsMark x.gone :: (putText x.val.data.toList ++ R)))) 16 (show x.key.data.toList.length ≤ 16 from c4)
  obtain ⟨b1, b2, b3⟩ := rd_put x.txn.toNat ((if false = true then putSmall x.ts.toNat else []) ++ (vsMark x.gone :: (putText x.val.data.toList ++ R))) (by omega)
  rw [h, a2, a3, b2, b3]
  exact ⟨rfl, by simp⟩
theorem IsMs.none {k : UInt8} {r : List UInt8} (g : Ms) (hk : 3 < k.toNat) : IsMs (k :: r) g := fun x R h1 h2 => by
  have := putM_head h2
  have := (checkM_zero h1).1
  subst k
  omega
theorem IsMs.zero_no {k : UInt8} {r : List UInt8} (g : Ms) (hk : k.toNat = 0) (h : ¬ (rdF (rtL r 0 16) (rtF r 0 16) = 0 ∧ rdL (rtL r 0 16) (rtF r 0 16) ≠ [])) : IsMs (k :: r) g := fun x R h1 h2 => (h (lay_zero h1 hk h2)).elim
/-- What the document guesses. -/
def refG1 (y : UInt8) (r : List UInt8) : Ms := ⟨y, if mgPair y.toNat then str (rtV r 0 16) else ⟨#[]⟩, 0, 0, false, ⟨#[]⟩⟩
def refL1 (y : UInt8) (r : List UInt8) : List UInt8 := mgxL (mgPair y.toNat) r 0
def refF1 (y : UInt8) (r : List UInt8) : Nat := mgxF (mgPair y.toNat) r 0
def refL2 (y : UInt8) (r : List UInt8) : List UInt8 := mgL (y.toNat != 3) (refL1 y r) (refF1 y r)
def refF2 (y : UInt8) (r : List UInt8) : Nat := mgF (y.toNat != 3) (refL1 y r) (refF1 y r)
def refT2 (y : UInt8) (r : List UInt8) : Nat := mgT (y.toNat != 3) (refL1 y r) (refF1 y r)
def refL3 (y : UInt8) (r : List UInt8) : List UInt8 := mgL (mgTS y.toNat) (refL2 y r) (refF2 y r)
def refF3 (y : UInt8) (r : List UInt8) : Nat := mgF (mgTS y.toNat) (refL2 y r) (refF2 y r)
def refT3 (y : UInt8) (r : List UInt8) : Nat := mgT (mgTS y.toNat) (refL2 y r) (refF2 y r)
def refGood (y : UInt8) (r : List UInt8) : Bool := mgPair y.toNat && (refF3 y r == 0 && !(refL3 y r).isEmpty)
def refG (y : UInt8) (r : List UInt8) : Ms := ⟨y, if mgPair y.toNat then str (rtV r 0 16) else ⟨#[]⟩, refT2 y r, refT3 y r, if refGood y r then (mgWrit (refL3 y r)).1 else false, if refGood y r then str (mgWrit (refL3 y r)).2 else ⟨#[]⟩⟩
def refG2 (y : UInt8) (r : List UInt8) : Ms := { refG1 y r with txn := (refT2 y r : Nat) }
def refG3 (y : UInt8) (r : List UInt8) : Ms := { refG2 y r with ts := (refT3 y r : Nat) }
theorem refG_is (y : UInt8) (r : List UInt8) : IsMs (y :: r) (refG y r) := fun x R h1 h2 => by
  have hk : y.toNat ≤ 3 := by rw [putM_head h2]; exact (checkM_zero h1).1
  have hg : mgGuess (y :: r) = x := by rw [h2]; exact mgGuess_put h1 R
  rw [← hg]
  have h4 : y.toNat = 0 ∨ y.toNat = 1 ∨ y.toNat = 2 ∨ y.toNat = 3 := by omega
  rcases h4 with e | e | e | e
  · obtain ⟨f1, f2⟩ := lay_zero h1 e h2
    simp [refG, refGood, refT2, refT3, refL3, refF3, refL2, refF2, refL1, refF1, mgGuess, mgGuessL, mgPair, mgTxn, mgTS, mgxL, mgxF, mgL, mgF, mgT, e, f1, f2]
  all_goals simp [refG, refGood, refT2, refT3, refL3, refF3, refL2, refF2, refL1, refF1, mgGuess, mgGuessL, mgPair, mgTxn, mgTS, mgxL, mgxF, mgL, mgF, mgT, e]
theorem ref_lens (y : UInt8) (r : List UInt8) : (refL1 y r).length ≤ r.length ∧ (refL2 y r).length ≤ r.length ∧ (refL3 y r).length ≤ r.length := by
  have h1 : (refL1 y r).length ≤ r.length := by
    unfold refL1 mgxL
    split
    · exact rtL_le r 0 16
    · exact Nat.le_refl _
  have h2 : (refL2 y r).length ≤ (refL1 y r).length := by
    unfold refL2 mgL
    split
    · exact rdL_le _ _
    · exact Nat.le_refl _
  have h3 : (refL3 y r).length ≤ (refL2 y r).length := by
    unfold refL3 mgL
    split
    · exact rdL_le _ _
    · exact Nat.le_refl _
  exact ⟨h1, by omega, by omega⟩
set_option maxHeartbeats 8000000 in
set_option maxRecDepth 100000 in
theorem refGetM_cons (A : Option Addr) (n c : Nat) (k : UInt8) (r : List UInt8) (w : World) (hN : n ≤ 1000000) (hl : (k :: r).length = n) (hc : n ≤ c) (hr : RB w A (k :: r)) :
    Calls Try.prog 21 #[.slice A n c] w fun e w' => ∃ m j z, e = .returned (.tuple #[Ms.v m, .int .i64 (j : Nat), .int .i64 (z : Nat)]) ∧ GetOfM (k :: r) m j z ∧ Below w.heap.size w w' := by
  obtain ⟨ad, y, rfl, hy, hcy⟩ := hr.at_ (k := 0) (by simp)
  obtain rfl : y = k := by simpa using hy.symm
  rw [Addr.add_nought] at hcy
  have hn : r.length = n - 1 := by simp at hl; omega
  have h1n : 1 ≤ n := by simp at hl; omega
  obtain ⟨B1, hs1, hs2, hs3⟩ := run_from (some ad) n c 1 1 rfl h1n hc (y :: r) hl
  have HB1 := Lib.hid (fun W (h : Below w.heap.size w W) => show RB W B1 r from by have h2 := hs3 _ (hr.below h); rw [List.drop_one, List.tail_cons] at h2; exact h2)
  have G0 := Lib.hid (GvW.new w y B1 n c r HB1.out hn (by omega))
  have hcy0 : (w.alloc (.cells #[.int .u8 0, .string ⟨#[]⟩, .int .i64 0, .int .i64 0, .bool false, .string ⟨#[]⟩] 40)).cell? ad = some (.int .u8 (y.toNat : Int)) := ((below1 w (.cells #[.int .u8 0, .string ⟨#[]⟩, .int .i64 0, .int .i64 0, .bool false, .string ⟨#[]⟩] 40)).cell (lt_of_cell hcy)).trans hcy
  have hl0 : 0 < n := by omega
  have hz0 : ((n : Int) == 0) = false := by simp; omega
  have HN := Lib.hid hN
  have HRn := Lib.hid hn
  have HL := Lib.hid hl
  have HR := Lib.hid (fun W (h : Below w.heap.size w W) => hr.below h)
  have HC := Lib.hid hc
  clear hs3 hN hl hc hr hy hcy hn
  go_enter Try.func21, Try.ntmps21
  go_upto_region 5 with fail
  generalize ((w.alloc (.cells #[.int .u8 0, .string ⟨#[]⟩, .int .i64 0, .int .i64 0, .bool false, .string ⟨#[]⟩] 40)).alloc (.cells #[.int .u8 (y.toNat : Int), .string ⟨#[]⟩, .int .i64 0, .int .i64 0, .bool false, .string ⟨#[]⟩] 40)).alloc (.cells #[.slice B1 (n - 1) (c - 1), .int .i64 0] 80) = W0 at *
  clear hcy0
  have HR0 := Lib.hid (show r.length ≤ 1000000 from by have h1 := HRn.out; have h2 := HN.out; omega)
  have HLS := Lib.hid (ref_lens y r)
  have G := G0
  clear G0 hs1 hs2
  have hp : ((y.toNat : Int) == 0) = mgPair y.toNat := by unfold mgPair; rw [Bool.eq_iff_iff]; simp
  have hq : ((y.toNat : Int) != 3) = (y.toNat != 3) := by rw [Bool.eq_iff_iff]; simp; omega
  have KT := Lib.hid (fun (W : World) (A' : Option Addr) (n' c' : Nat) (m' : Ms) (h : GvW w A' n' c' r 0 m' W) => okRefText_any A' n' c' 0 16 r W (by have h1 := h.ln; have h2 := HR0.out; omega) h.ln h.nc h.rb (by omega) (by omega))
  have KS2 := Lib.hid (fun (W : World) (A' : Option Addr) (n' c' : Nat) (m' : Ms) (h : GvW w A' n' c' (refL1 y r) (refF1 y r) m' W) => okRefSmall_any A' n' c' (refF1 y r) (refL1 y r) W (by have h1 := h.ln; have h2 := HLS.out; have h3 := HR0.out; omega) h.ln h.nc h.rb)
  have KS3 := Lib.hid (fun (W : World) (A' : Option Addr) (n' c' : Nat) (m' : Ms) (h : GvW w A' n' c' (refL2 y r) (refF2 y r) m' W) => okRefSmall_any A' n' c' (refF2 y r) (refL2 y r) W (by have h1 := h.ln; have h2 := HLS.out; have h3 := HR0.out; omega) h.ln h.nc h.rb)
  obtain ⟨x0, x1c, x2c, x3c, x4c, x5c, xf0, xf1, xf2, xf3, xf4, xf5⟩ := G.out.x
  dsimp only at x0 x1c x2c x3c x4c x5c
  have r0 := G.out.r0; have r1 := G.out.r1
  go_upto_if 22 with fail
  go_cut [] from 22 to 28 (fun wx => ∃ A2 n2 c2, GvW w A2 n2 c2 (refL1 y r) (refF1 y r) (refG1 y r) wx)
  case first =>
    cases hp0 : mgPair y.toNat with
    | true =>
      have E1 : Hid (refL1 y r = rtL r 0 16 ∧ refF1 y r = rtF r 0 16 ∧ refG1 y r = ⟨y, str (rtV r 0 16), 0, 0, false, ⟨#[]⟩⟩) := Lib.hid (by unfold refL1 refF1 refG1 mgxL mgxF; rw [hp0]; exact ⟨rfl, rfl, rfl⟩)
      rw [hp0] at hp
      clear hp0 x0 x1c x2c x3c x4c x5c xf0 xf1 xf2 xf3 xf4 xf5 r0 r1
      obtain ⟨x0, x1c, x2c, x3c, x4c, x5c, xf0, xf1, xf2, xf3, xf4, xf5⟩ := G.out.x
      dsimp only at x0 x1c x2c x3c x4c x5c
      have r0 := G.out.r0; have r1 := G.out.r1
      go_wp2_with (first | (go_at_call 59; (refine (KT.out _ _ _ _ _ G.out).mono ?_; rintro e w1 ⟨A2, n2, c2, rfl, h1, h2, h3, h4⟩; have GN := Lib.hid (G.out.rd (f' := rtF r 0 16) h4 h1 h2 h3); have GA := Lib.hid (G.out.on h4); (clear x0 x1c x2c x3c x4c x5c xf0 xf1 xf2 xf3 xf4 xf5 r0 r1); (obtain ⟨x0, x1c, x2c, x3c, x4c, x5c, xf0, xf1, xf2, xf3, xf4, xf5⟩ := GA.out.x); (try dsimp only at x0 x1c x2c x3c x4c x5c); have r0 := GA.out.r0; have r1 := GA.out.r1; have g0 := GA.out.g0; have g1 := GA.out.g1; clear h1 h2 h3 h4)) | fail)
      have GF := Lib.hid (GN.out.fld 1 (.string (str (rtV r 0 16))) (.string ⟨#[]⟩) GN.out.x.c1 (fun z => by simp) (GN.out.x.set1 (str (rtV r 0 16))))
      try dsimp only at GF
      go_meet
      exact ⟨_, _, _, by rw [E1.out.1, E1.out.2.1, E1.out.2.2]; exact GF.out⟩
    | false =>
      have E1 : Hid (refL1 y r = r ∧ refF1 y r = 0 ∧ refG1 y r = ⟨y, ⟨#[]⟩, 0, 0, false, ⟨#[]⟩⟩) := Lib.hid (by unfold refL1 refF1 refG1 mgxL mgxF; rw [hp0]; exact ⟨rfl, rfl, rfl⟩)
      rw [hp0] at hp
      clear hp0
      go_wp2_with fail
      go_meet
      exact ⟨_, _, _, by rw [E1.out.1, E1.out.2.1, E1.out.2.2]; exact G.out⟩
  case rest =>
    obtain ⟨A1, n1, c1, hG⟩ := hcut
    have G := Lib.hid hG
    clear hG x0 x1c x2c x3c x4c x5c xf0 xf1 xf2 xf3 xf4 xf5 r0 r1
    have hyk : (refG1 y r).kind.toNat = y.toNat := rfl
    have x0 : wc.cell? ⟨w.heap.size + 1, 0, none⟩ = some (.int .u8 (y.toNat : Int)) := G.out.x.c0
    go_upto_if 31 with fail
    clear x0
    go_cut [] from 31 to 37 (fun wx => ∃ A2 n2 c2, GvW w A2 n2 c2 (refL2 y r) (refF2 y r) (refG2 y r) wx)
    case first =>
      cases hp0 : (y.toNat != 3) with
      | true =>
        have E1 : Hid (refL2 y r = rdL (refL1 y r) (refF1 y r) ∧ refF2 y r = rdF (refL1 y r) (refF1 y r) ∧ refT2 y r = rdV (refL1 y r) (refF1 y r)) := Lib.hid (by unfold refL2 refF2 refT2 mgL mgF mgT; rw [hp0]; exact ⟨rfl, rfl, rfl⟩)
        rw [hp0] at hq
        clear hp0
        obtain ⟨x0, x1c, x2c, x3c, x4c, x5c, xf0, xf1, xf2, xf3, xf4, xf5⟩ := G.out.x
        have r0 := G.out.r0; have r1 := G.out.r1
        go_wp2_with (first | (go_at_call 60; (refine (KS2.out _ _ _ _ _ G.out).mono ?_; rintro e w1 ⟨A2, n2, c2, rfl, h1, h2, h3, h4⟩; have GN := Lib.hid (G.out.rd (f' := rdF (refL1 y r) (refF1 y r)) h4 h1 h2 h3); have GA := Lib.hid (G.out.on h4); (clear x0 x1c x2c x3c x4c x5c xf0 xf1 xf2 xf3 xf4 xf5 r0 r1); (obtain ⟨x0, x1c, x2c, x3c, x4c, x5c, xf0, xf1, xf2, xf3, xf4, xf5⟩ := GA.out.x); (try dsimp only at x0 x1c x2c x3c x4c x5c); have r0 := GA.out.r0; have r1 := GA.out.r1; have g0 := GA.out.g0; have g1 := GA.out.g1; clear h1 h2 h3 h4)) | fail)
        have GF := Lib.hid (GN.out.fld 2 (.int .i64 ((rdV (refL1 y r) (refF1 y r) : Nat) : Int)) (.int .i64 ((refG1 y r).txn)) GN.out.x.c2 (fun z => by simp) (GN.out.x.set2 (((rdV (refL1 y r) (refF1 y r) : Nat) : Int))))
        try dsimp only at GF
        go_meet
        exact ⟨_, _, _, by rw [E1.out.1, E1.out.2.1]; unfold refG2; rw [E1.out.2.2]; exact GF.out⟩
      | false =>
        have E1 : Hid (refL2 y r = refL1 y r ∧ refF2 y r = refF1 y r ∧ refT2 y r = 0) := Lib.hid (by unfold refL2 refF2 refT2 mgL mgF mgT; rw [hp0]; exact ⟨rfl, rfl, rfl⟩)
        rw [hp0] at hq
        clear hp0
        go_wp2_with fail
        go_meet
        exact ⟨_, _, _, by rw [E1.out.1, E1.out.2.1]; unfold refG2; rw [E1.out.2.2]; exact G.out⟩
    case rest =>
      obtain ⟨A1, n1, c1, hG⟩ := hcut
      have G := Lib.hid hG
      clear hG
      have x0 : wc.cell? ⟨w.heap.size + 1, 0, none⟩ = some (.int .u8 (y.toNat : Int)) := G.out.x.c0
      go_upto_region 9 with fail
      go_cut [45] from 38 to 45 (fun v wx => v = .bool (mgTS y.toNat) ∧ GvW w A1 n1 c1 (refL2 y r) (refF2 y r) (refG2 y r) wx)
      case first =>
        by_cases h1 : y.toNat = 1
        · have e1 : ((y.toNat : Int) == 1) = true := by simp [h1]
          have HT := Lib.hid (show mgTS y.toNat = true from by rw [h1]; rfl)
          clear h1
          go_wp2_with fail
          go_meet
          exact ⟨by rw [HT.out], G.out⟩
        · have e1 : ((y.toNat : Int) == 1) = false := by simp; omega
          by_cases h3 : y.toNat = 3
          · have e3 : ((y.toNat : Int) == 3) = true := by simp [h3]
            have HT := Lib.hid (show mgTS y.toNat = true from by rw [h3]; rfl)
            clear h1 h3
            go_wp2_with fail
            go_meet
            exact ⟨by rw [HT.out], G.out⟩
          · have e3 : ((y.toNat : Int) == 3) = false := by simp; omega
            have HT := Lib.hid (show mgTS y.toNat = false from by unfold mgTS; simp [h1, h3])
            clear h1 h3
            go_wp2_with fail
            go_meet
            exact ⟨by rw [HT.out], G.out⟩
      case rest =>
        obtain ⟨rfl, hG⟩ := hcut
        have G := Lib.hid hG
        clear hG x0
        go_upto_if 45 with fail
        go_cut [] from 45 to 51 (fun wx => ∃ A2 n2 c2, GvW w A2 n2 c2 (refL3 y r) (refF3 y r) (refG3 y r) wx)
        case first =>
          cases hp0 : mgTS y.toNat with
          | true =>
            have E1 : Hid (refL3 y r = rdL (refL2 y r) (refF2 y r) ∧ refF3 y r = rdF (refL2 y r) (refF2 y r) ∧ refT3 y r = rdV (refL2 y r) (refF2 y r)) := Lib.hid (by unfold refL3 refF3 refT3 mgL mgF mgT; rw [hp0]; exact ⟨rfl, rfl, rfl⟩)
            clear hp0
            obtain ⟨x0, x1c, x2c, x3c, x4c, x5c, xf0, xf1, xf2, xf3, xf4, xf5⟩ := G.out.x
            have r0 := G.out.r0; have r1 := G.out.r1
            go_wp2_with (first | (go_at_call 60; (refine (KS3.out _ _ _ _ _ G.out).mono ?_; rintro e w1 ⟨A2, n2, c2, rfl, h1, h2, h3, h4⟩; have GN := Lib.hid (G.out.rd (f' := rdF (refL2 y r) (refF2 y r)) h4 h1 h2 h3); have GA := Lib.hid (G.out.on h4); (clear x0 x1c x2c x3c x4c x5c xf0 xf1 xf2 xf3 xf4 xf5 r0 r1); (obtain ⟨x0, x1c, x2c, x3c, x4c, x5c, xf0, xf1, xf2, xf3, xf4, xf5⟩ := GA.out.x); (try dsimp only at x0 x1c x2c x3c x4c x5c); have r0 := GA.out.r0; have r1 := GA.out.r1; have g0 := GA.out.g0; have g1 := GA.out.g1; clear h1 h2 h3 h4)) | fail)
            have GF := Lib.hid (GN.out.fld 3 (.int .i64 ((rdV (refL2 y r) (refF2 y r) : Nat) : Int)) (.int .i64 ((refG2 y r).ts)) GN.out.x.c3 (fun z => by simp) (GN.out.x.set3 (((rdV (refL2 y r) (refF2 y r) : Nat) : Int))))
            try dsimp only at GF
            go_meet
            exact ⟨_, _, _, by rw [E1.out.1, E1.out.2.1]; unfold refG3; rw [E1.out.2.2]; exact GF.out⟩
          | false =>
            have E1 : Hid (refL3 y r = refL2 y r ∧ refF3 y r = refF2 y r ∧ refT3 y r = 0) := Lib.hid (by unfold refL3 refF3 refT3 mgL mgF mgT; rw [hp0]; exact ⟨rfl, rfl, rfl⟩)
            clear hp0
            go_wp2_with fail
            go_meet
            exact ⟨_, _, _, by rw [E1.out.1, E1.out.2.1]; unfold refG3; rw [E1.out.2.2]; exact G.out⟩
        case rest =>
          obtain ⟨A1, n1, c1, hG⟩ := hcut
          have G := Lib.hid hG
          clear hG
          go_upto_region 11 with fail
          have x0 : wc.cell? ⟨w.heap.size + 1, 0, none⟩ = some (.int .u8 (y.toNat : Int)) := G.out.x.c0
          have r0 := G.out.r0; have r1 := G.out.r1
          go_cut [65] from 52 to 65 (fun v wx => v = .bool (refGood y r) ∧ GvW w A1 n1 c1 (refL3 y r) (refF3 y r) (refG3 y r) wx)
          case first =>
            by_cases hp0 : mgPair y.toNat = true
            · rw [hp0] at hp
              by_cases hf : refF3 y r = 0
              · have e1 : ((refF3 y r : Int) == 0) = true := by simp [hf]
                by_cases hl : refL3 y r = []
                · have HT := Lib.hid (show refGood y r = false from by unfold refGood; rw [hl]; simp)
                  have e2 : decide (0 < n1) = false := by have := G.out.ln; rw [hl] at this; simp at this; simp; omega
                  clear hp0 hf hl
                  go_wp2_with fail
                  go_meet
                  exact ⟨by rw [HT.out], G.out⟩
                · have HT := Lib.hid (show refGood y r = true from by unfold refGood; rw [hp0, hf]; simp [hl])
                  have e2 : decide (0 < n1) = true := by have h1 := G.out.ln; have h2 := List.length_pos_iff.mpr hl; simp; omega
                  clear hp0 hf hl
                  go_wp2_with fail
                  go_meet
                  exact ⟨by rw [HT.out], G.out⟩
              · have e1 : ((refF3 y r : Int) == 0) = false := by simp [hf]
                have HT := Lib.hid (show refGood y r = false from by unfold refGood; simp [hf])
                clear hp0 hf
                go_wp2_with fail
                go_meet
                exact ⟨by rw [HT.out], G.out⟩
            · have hp0 : mgPair y.toNat = false := by simpa using hp0
              rw [hp0] at hp
              have HT := Lib.hid (show refGood y r = false from by unfold refGood; rw [hp0]; rfl)
              clear hp0
              go_wp2_with fail
              go_meet
              exact ⟨by rw [HT.out], G.out⟩
          case rest =>
            obtain ⟨rfl, hG⟩ := hcut
            have G := Lib.hid hG
            clear hG x0 r0 r1
            go_upto_if 65 with fail
            go_cut [] from 65 to 81 (fun wx => MsBox wx (w.heap.size + 1) (refG y r) ∧ MsBox wx w.heap.size ms0 ∧ Below w.heap.size w wx)
            case first =>
              cases hg : refGood y r with
              | false =>
                have E1 : Hid (refG y r = refG3 y r) := Lib.hid (by unfold refG refG3 refG2 refG1; rw [hg]; rfl)
                clear hg
                go_wp2_with fail
                go_meet
                exact ⟨by rw [E1.out]; exact G.out.x, G.out.p, G.out.b⟩
              | true =>
                obtain ⟨hf, z, q, hz⟩ : refF3 y r = 0 ∧ ∃ z q, refL3 y r = z :: q := by
                  have h := hg
                  simp only [refGood, Bool.and_eq_true, beq_iff_eq, Bool.not_eq_true'] at h
                  refine ⟨h.2.1, ?_⟩
                  cases hh : refL3 y r with
                  | nil => rw [hh] at h; simp at h
                  | cons z q => exact ⟨z, q, rfl⟩
                have E1 : Hid (refG y r = { refG3 y r with gone := z == 1, val := str (rtV q 0 24) }) := Lib.hid (by unfold refG refG3 refG2 refG1; rw [hg, hz]; rfl)
                have HZ1 : ((z.toNat : Int) == 1) = (z == 1) := by rw [Bool.eq_iff_iff]; simp [← UInt8.toNat_inj]; omega
                have hq5 : q.length ≤ 1000000 := by have h1 := HLS.out.2.2; have h2 := HR0.out; rw [hz] at h1; simp at h1; omega
                rw [hf, hz] at G
                obtain ⟨a3, z', rfl, hz', hcz⟩ := G.out.rb.at_ (k := 0) (by simp)
                obtain rfl : z' = z := by simpa using hz'.symm
                rw [Addr.add_nought] at hcz
                have hn1 : 1 ≤ n1 := by have h1 := G.out.ln; simp at h1; omega
                obtain ⟨B3, hs1, hs2, hs3⟩ := run_from (some a3) n1 c1 1 1 rfl hn1 G.out.nc (z' :: q) G.out.ln
                have HB3 := Lib.hid (fun W (h : RB W (some a3) (z' :: q)) => show RB W B3 q from by have h2 := hs3 W h; rw [List.drop_one, List.tail_cons] at h2; exact h2)
                have hqn : q.length = n1 - 1 := by have h1 := G.out.ln; simp at h1; omega
                have HQN := Lib.hid hqn
                have HC3 := Lib.hid (show n1 - 1 ≤ c1 - 1 from by have := G.out.nc; omega)
                have KT5 := Lib.hid (fun (W : World) (h : RB W B3 q) => okRefText_any B3 (n1 - 1) (c1 - 1) 0 24 q W (by omega) hqn HC3.out h (by omega) (by omega))
                have hn0 : 0 < n1 := by omega
                clear hg hf hz hz' hs3 hq5 hqn
                obtain ⟨x0, x1c, x2c, x3c, x4c, x5c, xf0, xf1, xf2, xf3, xf4, xf5⟩ := G.out.x
                have r0 := G.out.r0; have r1 := G.out.r1
                go_upto_region 13 with fail
                have G := Lib.hid (G.out.fld 4 (.bool (z' == 1)) (.bool ((refG3 y r).gone)) G.out.x.c4 (fun z => by simp) (G.out.x.set4 (z' == 1)))
                clear hcz x0 x1c x2c x3c x4c x5c xf0 xf1 xf2 xf3 xf4 xf5 r0 r1
                generalize wc.setCell ⟨w.heap.size + 1, 4, none⟩ (.bool (z' == 1)) = W4 at *
                obtain ⟨x0, x1c, x2c, x3c, x4c, x5c, xf0, xf1, xf2, xf3, xf4, xf5⟩ := G.out.x
                have r0 := G.out.r0; have r1 := G.out.r1
                have g0 := G.out.g0
                go_upto_region 14 with fail
                have G := Lib.hid (G.out.rd0 HQN.out HC3.out (HB3.out _ G.out.rb))
                clear g0 x0 x1c x2c x3c x4c x5c xf0 xf1 xf2 xf3 xf4 xf5 r0 r1
                generalize W4.setCell ⟨w.heap.size + 2, 0, none⟩ (.slice B3 (n1 - 1) (c1 - 1)) = W5 at *
                obtain ⟨x0, x1c, x2c, x3c, x4c, x5c, xf0, xf1, xf2, xf3, xf4, xf5⟩ := G.out.x
                have r0 := G.out.r0; have r1 := G.out.r1
                go_wp2_with (first | (go_at_call 59; refine (KT5.out _ G.out.rb).mono ?_; rintro e w1 ⟨A2, n2, c2, rfl, h1, h2, h3, h4⟩; have GA := Lib.hid (G.out.on h4); (clear x0 x1c x2c x3c x4c x5c xf0 xf1 xf2 xf3 xf4 xf5 r0 r1); (obtain ⟨x0, x1c, x2c, x3c, x4c, x5c, xf0, xf1, xf2, xf3, xf4, xf5⟩ := GA.out.x); have r0 := GA.out.r0; have r1 := GA.out.r1; clear h1 h2 h3 h4) | fail)
                have GF := Lib.hid (GA.out.fld 5 (.string (str (rtV q 0 24))) (.string ((refG3 y r).val)) GA.out.x.c5 (fun z => by simp) (GA.out.x.set5 (str (rtV q 0 24))))
                go_meet
                exact ⟨by rw [E1.out]; exact GF.out.x, GF.out.p, GF.out.b⟩
            case rest =>
              obtain ⟨hX, hP, hB⟩ := hcut
              have HI := Lib.hid (refG_is y r)
              obtain ⟨g, hg⟩ : ∃ g, g = refG y r := ⟨_, rfl⟩
              rw [← hg] at hX HI
              have X0 := Lib.hid hX; have P0 := Lib.hid hP; have B0 := Lib.hid hB
              clear hX hP hB hg
              have KP := Lib.hid (fun W => refPutM_any g W)
              have HNo := Lib.hid (GetOfM.no (y :: r) g HI.out)
              obtain ⟨z, hz⟩ : ∃ z, z = checkM g := ⟨_, rfl⟩
              obtain ⟨P, hPP⟩ : ∃ P, P = (if checkM g = 0 then putM g else []) := ⟨_, rfl⟩
              rw [← hPP, ← hz] at KP
              have HZ := Lib.hid hz
              have HPP := Lib.hid hPP
              clear hz hPP
              obtain ⟨x0, x1, x2, x3, x4, x5, _, _, _, _, _, _⟩ := X0.out
              unfold Ms.v at KP
              by_cases hok : z = 0 ∧ (y :: r).take P.length = P
              · obtain ⟨rfl, hpl⟩ := hok
                have HO : Hid (GetOfM (y :: r) g P.length 0) := Lib.hid (by
                  have h0 : checkM g = 0 := HZ.out.symm
                  have h1 : P = putM g := by rw [HPP.out, if_pos h0]
                  refine .inl ⟨h0, ⟨(y :: r).drop P.length, ?_⟩, by rw [h1], rfl⟩
                  have h3 := (List.take_append_drop P.length (y :: r)).symm
                  rw [hpl] at h3
                  rw [← h1]
                  exact h3)
                have hPn : P.length ≤ n := by have h1 := congrArg List.length hpl; have h2 := HL.out; rw [List.length_take] at h1; omega
                have hPc : P.length ≤ c := by have := HC.out; omega
                have hlt : decide (n < P.length) = false := decide_eq_false (by omega)
                have HTL := Lib.hid (show ((y :: r).take P.length).length = P.length from by rw [hpl])
                clear HNo HZ HPP HI
                go_upto_region 16 with (go_at_call 19; refine (KP.out _).mono ?_; rintro e w2 ⟨v2, rfl, o2, b2⟩; obtain ⟨A2, c2, rfl, hc2, r2⟩ := o2.form; have P0 := Lib.hid (P0.out.on b2); have X0 := Lib.hid (X0.out.on b2); have B0 := Lib.hid (B0.out.trans (b2.mono B0.out.size)); have R2 := Lib.hid r2; clear o2 b2 r2 hc2)
                clear x0 x1 x2 x3 x4 x5
                have KS := Lib.hid (fun W (h : Below w2.heap.size w2 W) => (⟨run_str W A2 P.length c2 P rfl (R2.out.below h), run_str W (some ad) P.length c ((y :: r).take P.length) HTL.out (((HR.out w2 B0.out).take P.length).below h)⟩ : (convert 25 9 (.slice A2 P.length c2)).run Try.prog W = .ok (.string (str P)) W ∧ (convert 25 9 (.slice (some ad) P.length c)).run Try.prog W = .ok (.string (str ((y :: r).take P.length))) W))
                have ka := KS.out _ (Below.refl w2.heap.size w2).drew
                have kb := KS.out _ (Below.refl w2.heap.size w2)
                rw [hpl] at ka kb
                go_region_held3 (fun W => (convert 25 9 (.slice A2 P.length c2)).run Try.prog W = .ok (.string (str P)) W ∧ (convert 25 9 (.slice (some ad) P.length c)).run Try.prog W = .ok (.string (str P)) W) (first | with_reducible exact ka | with_reducible exact kb | fail) (fail)
                all_goals
                  skip
                  obtain ⟨x0, x1, x2, x3, x4, x5, _, _, _, _, _, _⟩ := X0.out
                  obtain ⟨p0, p1, p2, p3, p4, p5, pf0, pf1, pf2, pf3, pf4, pf5⟩ := P0.out
                  go_wp2_with fail
                  have PX := P0.out.put g
                  have BF := belowSetMs B0.out (Nat.le_refl _) g
                  obtain ⟨z0, z1, z2, z3, z4, z5, _, _, _, _, _, _⟩ := PX
                  unfold setMs at z0 z1 z2 z3 z4 z5 BF
                  refine bodyPost_ret (v := .tuple #[.agg #[.int .u8 (g.kind.toNat : Int), .string g.key, .int .i64 g.txn, .int .i64 g.ts, .bool g.gone, .string g.val], .int .i64 (P.length : Nat), .int .i64 0]) (by simp [results, Try.results21, go_sem, z0, z1, z2, z3, z4, z5]) rfl ⟨g, P.length, 0, rfl, HO.out, BF.drew⟩
              · have HO : Hid (GetOfM (y :: r) ms0 0 4) := Lib.hid (HNo.out fun h => by
                  obtain ⟨h0, R, h1⟩ := h
                  have hh : P = putM g := by rw [HPP.out, if_pos h0]
                  exact hok ⟨HZ.out.trans h0, by rw [hh, h1, List.take_left]⟩)
                by_cases hz0 : z = 0
                · have hpl : ¬ (y :: r).take P.length = P := fun e => hok ⟨hz0, e⟩
                  subst hz0
                  clear HNo HZ HPP HI hok
                  by_cases hPn : P.length ≤ n
                  · have hPc : P.length ≤ c := by have := HC.out; omega
                    have hlt : decide (n < P.length) = false := decide_eq_false (by omega)
                    obtain ⟨TL, hTL⟩ : ∃ TL, TL = (y :: r).take P.length := ⟨_, rfl⟩
                    have HTL := Lib.hid (show TL.length = P.length from by have h2 := HL.out; rw [hTL, List.length_take]; omega)
                    have hne : ((str P).toList == (str TL).toList) = false := by
                      rw [← hTL] at hpl
                      rw [beq_eq_false_iff_ne]
                      intro e
                      exact hpl (by simpa [str, ByteArray.toList_eq] using e.symm)
                    have HTT := Lib.hid hTL
                    clear hpl hTL
                    go_upto_region 16 with (go_at_call 19; refine (KP.out _).mono ?_; rintro e w2 ⟨v2, rfl, o2, b2⟩; obtain ⟨A2, c2, rfl, hc2, r2⟩ := o2.form; have P0 := Lib.hid (P0.out.on b2); have X0 := Lib.hid (X0.out.on b2); have B0 := Lib.hid (B0.out.trans (b2.mono B0.out.size)); have R2 := Lib.hid r2; clear o2 b2 r2 hc2)
                    clear x0 x1 x2 x3 x4 x5
                    have KS := Lib.hid (fun W (h : Below w2.heap.size w2 W) => (⟨run_str W A2 P.length c2 P rfl (R2.out.below h), run_str W (some ad) P.length c TL HTL.out (by rw [HTT.out]; exact ((HR.out w2 B0.out).take P.length).below h)⟩ : (convert 25 9 (.slice A2 P.length c2)).run Try.prog W = .ok (.string (str P)) W ∧ (convert 25 9 (.slice (some ad) P.length c)).run Try.prog W = .ok (.string (str TL)) W))
                    have ka := KS.out _ (Below.refl w2.heap.size w2).drew
                    have kb := KS.out _ (Below.refl w2.heap.size w2)
                    go_region_held3 (fun W => (convert 25 9 (.slice A2 P.length c2)).run Try.prog W = .ok (.string (str P)) W ∧ (convert 25 9 (.slice (some ad) P.length c)).run Try.prog W = .ok (.string (str TL)) W) (first | with_reducible exact ka | with_reducible exact kb | fail) (fail)
                    all_goals
                      skip
                      obtain ⟨x0, x1, x2, x3, x4, x5, _, _, _, _, _, _⟩ := X0.out
                      obtain ⟨p0, p1, p2, p3, p4, p5, pf0, pf1, pf2, pf3, pf4, pf5⟩ := P0.out
                      go_wp2_with fail
                      have PX := P0.out.put ms0
                      have BF := belowSetMs B0.out (Nat.le_refl _) ms0
                      obtain ⟨z0, z1, z2, z3, z4, z5, _, _, _, _, _, _⟩ := PX
                      unfold setMs ms0 at z0 z1 z2 z3 z4 z5 BF
                      dsimp only at z0 z1 z2 z3 z4 z5 BF
                      simp only [show ((0 : UInt8).toNat : Int) = 0 from rfl] at z0 z1 z2 z3 z4 z5 BF
                      refine bodyPost_ret (v := .tuple #[.agg #[.int .u8 0, .string ⟨#[]⟩, .int .i64 0, .int .i64 0, .bool false, .string ⟨#[]⟩], .int .i64 0, .int .i64 4]) (by simp [results, Try.results21, go_sem, z0, z1, z2, z3, z4, z5]) rfl ⟨ms0, 0, 4, rfl, HO.out, BF.drew⟩
                  · have hlt : decide (n < P.length) = true := decide_eq_true (by omega)
                    clear hpl hPn
                    go_upto_region 16 with (go_at_call 19; refine (KP.out _).mono ?_; rintro e w2 ⟨v2, rfl, o2, b2⟩; obtain ⟨A2, c2, rfl, hc2, r2⟩ := o2.form; have P0 := Lib.hid (P0.out.on b2); have X0 := Lib.hid (X0.out.on b2); have B0 := Lib.hid (B0.out.trans (b2.mono B0.out.size)); have R2 := Lib.hid r2; clear o2 b2 r2 hc2)
                    clear x0 x1 x2 x3 x4 x5
                    go_quiet (fail)
                    all_goals
                      skip
                      obtain ⟨x0, x1, x2, x3, x4, x5, _, _, _, _, _, _⟩ := X0.out
                      obtain ⟨p0, p1, p2, p3, p4, p5, pf0, pf1, pf2, pf3, pf4, pf5⟩ := P0.out
                      go_wp2_with fail
                      have PX := (P0.out.on (drewN_below (Below.refl w2.heap.size w2) nq)).put ms0
                      have BF := belowSetMs (drewN_below B0.out nq) (Nat.le_refl _) ms0
                      obtain ⟨z0, z1, z2, z3, z4, z5, _, _, _, _, _, _⟩ := PX
                      unfold setMs ms0 at z0 z1 z2 z3 z4 z5 BF
                      dsimp only at z0 z1 z2 z3 z4 z5 BF
                      simp only [show ((0 : UInt8).toNat : Int) = 0 from rfl] at z0 z1 z2 z3 z4 z5 BF
                      refine bodyPost_ret (v := .tuple #[.agg #[.int .u8 0, .string ⟨#[]⟩, .int .i64 0, .int .i64 0, .bool false, .string ⟨#[]⟩], .int .i64 0, .int .i64 4]) (by simp [results, Try.results21, go_sem, z0, z1, z2, z3, z4, z5]) rfl ⟨ms0, 0, 4, rfl, HO.out, BF⟩
                · have hd : ((z : Int) != 0) = true := by simp; omega
                  clear HNo HZ HPP HI hok hz0
                  go_upto_region 16 with (go_at_call 19; refine (KP.out _).mono ?_; rintro e w2 ⟨v2, rfl, o2, b2⟩; obtain ⟨A2, c2, rfl, hc2, r2⟩ := o2.form; have P0 := Lib.hid (P0.out.on b2); have X0 := Lib.hid (X0.out.on b2); have B0 := Lib.hid (B0.out.trans (b2.mono B0.out.size)); have R2 := Lib.hid r2; clear o2 b2 r2 hc2)
                  clear x0 x1 x2 x3 x4 x5
                  go_quiet (fail)
                  all_goals
                    skip
                    obtain ⟨x0, x1, x2, x3, x4, x5, _, _, _, _, _, _⟩ := X0.out
                    obtain ⟨p0, p1, p2, p3, p4, p5, pf0, pf1, pf2, pf3, pf4, pf5⟩ := P0.out
                    go_wp2_with fail
                    have PX := (P0.out.on (drewN_below (Below.refl w2.heap.size w2) nq)).put ms0
                    have BF := belowSetMs (drewN_below B0.out nq) (Nat.le_refl _) ms0
                    obtain ⟨z0, z1, z2, z3, z4, z5, _, _, _, _, _, _⟩ := PX
                    unfold setMs ms0 at z0 z1 z2 z3 z4 z5 BF
                    dsimp only at z0 z1 z2 z3 z4 z5 BF
                    simp only [show ((0 : UInt8).toNat : Int) = 0 from rfl] at z0 z1 z2 z3 z4 z5 BF
                    refine bodyPost_ret (v := .tuple #[.agg #[.int .u8 0, .string ⟨#[]⟩, .int .i64 0, .int .i64 0, .bool false, .string ⟨#[]⟩], .int .i64 0, .int .i64 4]) (by simp [results, Try.results21, go_sem, z0, z1, z2, z3, z4, z5]) rfl ⟨ms0, 0, 4, rfl, HO.out, BF⟩
end Go.Proofs.Ytjmmaghjbaigiaa
