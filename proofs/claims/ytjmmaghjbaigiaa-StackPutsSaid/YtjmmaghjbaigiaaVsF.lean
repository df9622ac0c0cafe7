/- Stacks: Abort. -/
import Derived.Test.YtjmmaghjbaigiaaVsE
import Derived.Laws.EntriesVeiled
namespace Go.Proofs.Ytjmmaghjbaigiaa
open Go.RowKit
set_option linter.unusedVariables false
set_option linter.unusedSimpArgs false
/-- A stack stored into a box. -/
def setSt (W : World) (q : Nat) (key : ByteArray) (u : Value) : World := (W.setCell ⟨q, 0, none⟩ (.string key)).setCell ⟨q, 1, none⟩ u
theorem StBox.put {W : World} {q : Nat} {k0 : ByteArray} {A0 : Option Addr} {n0 c0 : Nat} (h : StBox W q k0 A0 n0 c0) (key : ByteArray) (A : Option Addr) (n c : Nat) : StBox (setSt W q key (.slice A n c)) q key A n c := by
  unfold setSt
  constructor <;> simp [World.cell?_setCell_other, World.cell?_setCell_same', h.c0, h.c1, h.f0, h.f1]
theorem StBox.offSt {W : World} {q p : Nat} {k0 : ByteArray} {A0 : Option Addr} {n0 c0 : Nat} (h : StBox W q k0 A0 n0 c0) (hp : p ≠ q) (key : ByteArray) (u : Value) : StBox (setSt W p key u) q k0 A0 n0 c0 := by
  unfold setSt
  have e : ∀ i j : Nat, (⟨p, i, none⟩ : Addr) ≠ ⟨q, j, none⟩ := fun i j e => hp (by injection e)
  have hc : ∀ j, ((W.setCell ⟨p, 0, none⟩ (.string key)).setCell ⟨p, 1, none⟩ u).cell? ⟨q, j, none⟩ = W.cell? ⟨q, j, none⟩ := fun j => by
    rw [World.cell?_setCell_other _ _ _ _ (e _ _), World.cell?_setCell_other _ _ _ _ (e _ _)]
  exact ⟨(hc 0).trans h.c0, (hc 1).trans h.c1, by simp [h.f0], by simp [h.f1]⟩
theorem belowSetSt {B : Nat} {w W : World} (h : Below B w W) {q : Nat} (hq : B ≤ q) (key : ByteArray) (u : Value) : Below B w (setSt W q key u) := (h.setCell (p := ⟨q, 0, none⟩) hq _).setCell (p := ⟨q, 1, none⟩) hq _
theorem setSt_other (W : World) (q : Nat) (key : ByteArray) (u : Value) (b : Nat) (h : b ≠ q) : (setSt W q key u).heap[b]? = W.heap[b]? := by
  unfold setSt
  rw [setCell_else _ q 1 u b h, setCell_else _ q 0 _ b h]
theorem OG.setSt {T : TypeId} {base : Nat} {W : World} {v : Value} {l : List Vn} (h : OG KV T base W v l) {q : Nat} (hq : q < base) (key : ByteArray) (u : Value) : OG KV T base (Go.Proofs.Ytjmmaghjbaigiaa.setSt W q key u) v l := by
  obtain ⟨css, h1, h2, h3⟩ := h
  exact ⟨css, ownsRow_keepB h1 fun b hb => setSt_other W q key u b (by have := (World.ownsRow.lt h1 b hb).1; omega), h2, h3⟩
/-- A box that holds a function that tells the pending ones of a transaction. -/
structure FnBox (W : World) (p q : Nat) (t : Int) : Prop where
  c0 : W.cell? ⟨p, 0, none⟩ = some (.func (.func 101) #[] #[.pointer (some ⟨q, 0, none⟩)])
  c1 : W.cell? ⟨q, 0, none⟩ = some (.int .i64 t)
theorem FnBox.on {W W' : World} {p q : Nat} {t : Int} (h : FnBox W p q t) (hb : Below W.heap.size W W') : FnBox W' p q t := ⟨(hb.cell (p := ⟨p, 0, none⟩) (lt_of_cell h.c0)).trans h.c0, (hb.cell (p := ⟨q, 0, none⟩) (lt_of_cell h.c1)).trans h.c1⟩
theorem FnBox.drew {W : World} {p q : Nat} {t : Int} (h : FnBox W p q t) : FnBox W.drew p q t := ⟨h.c0, h.c1⟩
set_option maxHeartbeats 2000000 in
set_option maxRecDepth 100000 in
theorem vsAbort_any (key : ByteArray) (A : Option Addr) (n c : Nat) (l : List Vn) (t : Int) (w : World) (hl : l.length = n) (hn : n ≤ 1000) (hr : RG KV w A l) :
    Calls Try.prog 36 #[.agg #[.string key, .slice A n c], .int .i64 t] w fun e w' => ∃ v', e = .returned (.agg #[.string key, v']) ∧ OG KV 66 w.heap.size w' v' (vsAbort l t) ∧ Below w.heap.size w w' := by
  have hmf : ∀ (fn : Fn) (first cap : Array Value) (w : World), (Instr.makeFunc fn first cap).run Try.prog w = .ok (.func fn first cap) w := fun _ _ _ _ => rfl
  have HK := Lib.hid (fun (W : World) => vsPendingOf_any t W)
  have KW := Lib.hid (fun (W : World) (p q : Nat) (h : Below w.heap.size w W) (hf : FnBox W p q t) => vsWithoutA A n c l (fun _ v => vsPend t v) ⟨p, 0, none⟩ W hl hn (hr.below h) (fun W' i x _ hb => vsAbortFn_any i t x ⟨p, 0, none⟩ q W' (hf.on hb).c0 (hf.on hb).c1))
  have HE := Lib.hid (vsKeep_filter (vsPend t) 0 l)
  have HB := Lib.hid (below2 w (.cells #[.string key, .slice A n c] 24) (.cells #[.string ⟨#[]⟩, .slice none 0 0] 24))
  have SX := Lib.hid ((StBox.new w key A n c 24).alloc (.cells #[.string ⟨#[]⟩, .slice none 0 0] 24))
  have RX : Hid (StBox ((w.alloc (.cells #[.string key, .slice A n c] 24)).alloc (.cells #[.string ⟨#[]⟩, .slice none 0 0] 24)) (w.heap.size + 1) ⟨#[]⟩ none 0 0) := Lib.hid (by
    have := StBox.new (w.alloc (.cells #[.string key, .slice A n c] 24)) ⟨#[]⟩ none 0 0 24
    rw [heap_size_alloc] at this
    exact this)
  generalize vsKeep (fun _ v => vsPend t v) 0 l = L at KW HE
  unfold vsAbort
  rw [← HE.out]
  clear HE hl hr
  go_enter Try.func36, Try.ntmps36
  go_upto_region 1 with fail
  generalize (w.alloc (.cells #[.string key, .slice A n c] 24)).alloc (.cells #[.string ⟨#[]⟩, .slice none 0 0] 24) = W0 at *
  go_upto_region 2 with (go_at_call 72; refine (HK.out _).mono ?_; rintro e w1 ⟨q, rfl, q1, q2, q3, b1⟩; have HB := Lib.hid (HB.out.trans (b1.mono HB.out.size)); have SX := Lib.hid (SX.out.on b1); have RX := Lib.hid (RX.out.on b1); have Q1 := Lib.hid q1; clear q1 q2 q3 b1)
  have F1 : Hid (FnBox (w1.alloc (.cells #[.func (.func 101) #[] #[.pointer (some ⟨q, 0, none⟩)]] 106)) w1.heap.size q t) := Lib.hid ⟨by simp, ((below1 w1 _).cell (p := ⟨q, 0, none⟩) (lt_of_cell Q1.out)).trans Q1.out⟩
  have HB := Lib.hid (HB.out.alloc HB.out.size (.cells #[.func (.func 101) #[] #[.pointer (some ⟨q, 0, none⟩)]] 106))
  have SX := Lib.hid (SX.out.alloc (.cells #[.func (.func 101) #[] #[.pointer (some ⟨q, 0, none⟩)]] 106))
  have RX := Lib.hid (RX.out.alloc (.cells #[.func (.func 101) #[] #[.pointer (some ⟨q, 0, none⟩)]] 106))
  generalize w1.alloc (.cells #[.func (.func 101) #[] #[.pointer (some ⟨q, 0, none⟩)]] 106) = W2 at *
  clear Q1
  generalize w1.heap.size = p at *
  have s0 := SX.out.drew.c0
  have s1 := SX.out.drew.c1
  go_region_held3 (fun W => W.cell? ⟨w.heap.size, 0, none⟩ = some (.string key) ∧ W.cell? ⟨w.heap.size, 1, none⟩ = some (.slice A n c)) (first | with_reducible exact ⟨s0, s1⟩ | with_reducible exact ⟨t0, t1⟩ | fail)
    (first
      | (go_at_call 66; refine (KW.out _ p q HB.out.drew F1.out.drew).mono ?_; rintro e w3 ⟨v3, rfl, o3, b3⟩; obtain ⟨A3, c3, rfl, h31, h32, h33, h34⟩ := o3.rg; have O3 := Lib.hid (o3.setSt RX.out.lt key (.slice A3 L.length c3)); have B3 := Lib.hid (belowSetSt (q := w.heap.size + 1) (HB.out.drew.trans (b3.mono HB.out.size)) (by omega) key (.slice A3 L.length c3)); have P3 := Lib.hid ((RX.out.drew.on b3).put key A3 L.length c3); have s0 := (SX.out.drew.on b3).c0; have s1 := (SX.out.drew.on b3).c1; have t0 := ((SX.out.drew.on b3).offSt (show w.heap.size + 1 ≠ w.heap.size from by omega) key (.slice A3 L.length c3)).c0; have t1 := ((SX.out.drew.on b3).offSt (show w.heap.size + 1 ≠ w.heap.size from by omega) key (.slice A3 L.length c3)).c1; unfold setSt at t0 t1; have r0 := (RX.out.drew.on b3).c0; have r1 := (RX.out.drew.on b3).c1; have g0 := (RX.out.drew.on b3).f0; have g1 := (RX.out.drew.on b3).f1; clear o3 b3 h31 h32 h33 h34)
      | fail)
  all_goals
    go_wp2
    have z0 := P3.out.c0; have z1 := P3.out.c1
    have o4 := O3.out; have b4 := B3.out
    unfold setSt at z0 z1 o4 b4
    refine bodyPost_ret (v := .agg #[.string key, .slice A3 L.length c3]) (by simp [results, Try.results36, go_sem, z0, z1]) rfl ⟨_, rfl, o4.lift HB.out.size, b4⟩
end Go.Proofs.Ytjmmaghjbaigiaa
