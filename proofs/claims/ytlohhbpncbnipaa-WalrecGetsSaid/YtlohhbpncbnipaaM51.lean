/- Joined: WrH. -/
import Derived.Test.YtlohhbpncbnipaaM48
section
/- The document's Get: the record that it guesses. -/
namespace Go.Proofs.Ytlohhbpncbnipaa
open Go.RowKit
set_option linter.unusedVariables false
set_option linter.unusedSimpArgs false
/-- What the document reads behind a key: whether it goes, and the value. -/
def refWrit (l : List UInt8) (f : Nat) : Bool × List UInt8 := if f = 0 ∧ 0 < l.length then (l.headD 0 == 1, rtV l.tail f 24) else (false, rtV l f 24)
def refGuessL (k : Nat) (r : List UInt8) : Rec :=
  if k = 0 ∨ k = 2 then ⟨k, (rdV r 0 : Nat), (rdV (rdL r 0) (rdF r 0) : Nat), ⟨#[]⟩, false, ⟨#[]⟩⟩
  else if k = 1 then ⟨k, (rdV r 0 : Nat), 0, str (rtV (rdL r 0) (rdF r 0) 16), (refWrit (rtL (rdL r 0) (rdF r 0) 16) (rtF (rdL r 0) (rdF r 0) 16)).1, str (refWrit (rtL (rdL r 0) (rdF r 0) 16) (rtF (rdL r 0) (rdF r 0) 16)).2⟩
  else if k = 3 then ⟨k, (rdV r 0 : Nat), 0, ⟨#[]⟩, false, ⟨#[]⟩⟩
  else if k = 4 then ⟨k, 0, (rdV r 0 : Nat), ⟨#[]⟩, false, ⟨#[]⟩⟩
  else ⟨k, 0, 0, ⟨#[]⟩, false, ⟨#[]⟩⟩
theorem refWrit_put (g : Bool) (v : List UInt8) (h : v.length ≤ 24) : refWrit (wrMark g :: putText v) 0 = (g, v) := by
  have e := (rt_put v [] 24 h).1
  rw [List.append_nil] at e
  unfold refWrit
  rw [if_pos ⟨rfl, by simp⟩]
  simp only [List.headD_cons, List.tail_cons, e]
  cases g <;> rfl
theorem refGuess_put {r : Rec} (h : checkR r = 0) {k : UInt8} {t : List UInt8} (e : putR r = k :: t) : refGuessL k.toNat t = r := by
  obtain ⟨c1, c2, c3, ⟨t1, t2⟩, ⟨s1, s2⟩, c4, c5⟩ := checkR_zero h
  obtain ⟨e1, e2, e3⟩ := strays_not c2
  clear h c2
  obtain ⟨kind, txn, ts, key, gone, val⟩ := r
  dsimp only at *
  obtain ⟨n, rfl⟩ := Int.eq_ofNat_of_zero_le t1
  obtain ⟨m, rfl⟩ := Int.eq_ofNat_of_zero_le s1
  have hn : n ≤ 1099511627776 := by omega
  have hm : m ≤ 1099511627776 := by omega
  have hk : (UInt8.ofNat kind).toNat = kind := by rw [ofNat_toNat]; omega
  unfold putR layR at e
  simp only [List.cons_append, Int.toNat_natCast, List.cons.injEq] at e
  obtain ⟨rfl, rfl⟩ := e
  rw [hk]
  clear hk
  have hn0 := rd_put n [] hn
  have hm0 := rd_put m [] hm
  have hn1 := rd_put n (putSmall m) hn
  have hn2 := rd_put n (putText key.data.toList ++ wrMark gone :: putText val.data.toList) hn
  have hk1 := rt_put key.data.toList (wrMark gone :: putText val.data.toList) 16 (show key.data.toList.length ≤ 16 from c4)
  have hv1 := refWrit_put gone val.data.toList (show val.data.toList.length ≤ 24 from c5)
  rw [List.append_nil] at hn0 hm0
  have hk5 : kind = 0 ∨ kind = 1 ∨ kind = 2 ∨ kind = 3 ∨ kind = 4 := by omega
  rcases hk5 with rfl | rfl | rfl | rfl | rfl
  · obtain ⟨rfl, rfl, rfl⟩ := e3 rfl
    simp [refGuessL, wrHasTxn, wrHasTS, wrHasPair, hn1, hm0]
  · have := e2 rfl
    simp [refGuessL, wrHasTxn, wrHasTS, wrHasPair, hn2, hk1, hv1, str_data]
    omega
  · obtain ⟨rfl, rfl, rfl⟩ := e3 rfl
    simp [refGuessL, wrHasTxn, wrHasTS, wrHasPair, hn1, hm0]
  · obtain ⟨rfl, rfl, rfl⟩ := e3 rfl
    have := e2 rfl
    simp [refGuessL, wrHasTxn, wrHasTS, wrHasPair, hn0]
    omega
  · obtain ⟨rfl, rfl, rfl⟩ := e3 rfl
    have := e1 rfl
    simp [refGuessL, wrHasTxn, wrHasTS, wrHasPair, hm0]
    omega
theorem rtL_len (l : List UInt8) (f m : Nat) : (rtL l f m).length ≤ l.length := by
  obtain ⟨k, hk, e⟩ := rt_suffix l f m
  rw [e]; simp
/-- A box that holds a reader of the document's. -/
structure RdBox (W : World) (q : Nat) (A : Option Addr) (n c f : Nat) : Prop where
  c0 : W.cell? ⟨q, 0, none⟩ = some (.slice A n c)
  c1 : W.cell? ⟨q, 1, none⟩ = some (.int .i64 (f : Int))
  f0 : W.frozen? ⟨q, 0, none⟩ = false
  f1 : W.frozen? ⟨q, 1, none⟩ = false
theorem RdBox.new (w : World) (A : Option Addr) (n c f : Nat) (t : TypeId) : RdBox (w.alloc (.cells #[.slice A n c, .int .i64 (f : Int)] t)) w.heap.size A n c f := by
  constructor <;> simp
theorem RdBox.below {W W' : World} {q : Nat} {A : Option Addr} {n c f : Nat} (h : RdBox W q A n c f) {B : Nat} (hb : Below B W W') (hq : q < B) : RdBox W' q A n c f :=
  ⟨(hb.cell (p := ⟨q, 0, none⟩) hq).trans h.c0, (hb.cell (p := ⟨q, 1, none⟩) hq).trans h.c1, (hb.frozen (p := ⟨q, 0, none⟩) hq).trans h.f0, (hb.frozen (p := ⟨q, 1, none⟩) hq).trans h.f1⟩
theorem RdBox.other {W : World} {q : Nat} {A : Option Addr} {n c f : Nat} (h : RdBox W q A n c f) {p : Addr} (hp : p.block ≠ q) (x : Value) : RdBox (W.setCell p x) q A n c f := by
  have C : ∀ i y, W.cell? ⟨q, i, none⟩ = some y → (W.setCell p x).cell? ⟨q, i, none⟩ = some y := fun i y hy => by
    rw [World.cell?_setCell_other W p _ x (fun e => hp (by rw [e]))]; exact hy
  refine ⟨C _ _ h.c0, C _ _ h.c1, ?_, ?_⟩ <;> simp [h.f0, h.f1]
theorem RdBox.put {W : World} {q : Nat} {A : Option Addr} {n c f : Nat} (h : RdBox W q A n c f) (A' : Option Addr) (n' c' f' : Nat) : RdBox ((W.setCell ⟨q, 0, none⟩ (.slice A' n' c')).setCell ⟨q, 1, none⟩ (.int .i64 (f' : Int))) q A' n' c' f' := by
  constructor <;> simp [World.cell?_setCell_other, World.cell?_setCell_same', h.c0, h.c1, h.f0, h.f1]
theorem RecBox.set4 {W : World} {q : Nat} {k t s : Int} {key : ByteArray} {g : Bool} {v : ByteArray} (h : RecBox W q k t s key g v) (x : Bool) : RecBox (W.setCell ⟨q, 4, none⟩ (.bool x)) q k t s key x v := by
  constructor <;> simp [World.cell?_setCell_other, World.cell?_setCell_same', h.c0, h.c1, h.c2, h.c3, h.c4, h.c5, h.f0, h.f1, h.f2, h.f3, h.f4, h.f5]
theorem RecBox.set5 {W : World} {q : Nat} {k t s : Int} {key : ByteArray} {g : Bool} {v : ByteArray} (h : RecBox W q k t s key g v) (x : ByteArray) : RecBox (W.setCell ⟨q, 5, none⟩ (.string x)) q k t s key g x := by
  constructor <;> simp [World.cell?_setCell_other, World.cell?_setCell_same', h.c0, h.c1, h.c2, h.c3, h.c4, h.c5, h.f0, h.f1, h.f2, h.f3, h.f4, h.f5]
end Go.Proofs.Ytlohhbpncbnipaa
end
