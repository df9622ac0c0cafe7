/- The package msg: what kinds have; whether a message may be; whether it is wide. The package msg: the messages about a key. The package msg: a message's bytes. -/
import Derived.Test.YtjmmaghjbaigiaaMgP
import Derived.Test.YtjmmaghjbaigiaaVsA
import Derived.Test.YtjmmaghjbaigiaaVsS
namespace Go.Proofs.Ytjmmaghjbaigiaa
open Go.RowKit
set_option linter.unusedVariables false
set_option linter.unusedSimpArgs false
abbrev Ms.v (m : Ms) : Value := .agg #[.int .u8 (m.kind.toNat : Int), .string m.key, .int .i64 m.txn, .int .i64 m.ts, .bool m.gone, .string m.val]
def Ms.cs (m : Ms) : List Value := [.int .u8 (m.kind.toNat : Int), .string m.key, .int .i64 m.txn, .int .i64 m.ts, .bool m.gone, .string m.val]
def KM : CR Ms := CR.flat 6 (by omega) Ms.cs (fun _ => rfl) (fun x u hu => by
  simp only [Ms.cs, List.mem_cons, List.not_mem_nil, or_false] at hu
  rcases hu with rfl | rfl | rfl | rfl | rfl | rfl <;> rfl)
theorem ms_flat : KM.Flat := fun _ _ _ _ h => h
theorem infoM : (Try.prog.info? 40).map (fun i => (i.zero, i.size, i.bytes)) = some (some (.agg #[.int .u8 0, .string ⟨#[]⟩, .int .i64 0, .int .i64 0, .bool false, .string ⟨#[]⟩]), 6, 64) := by kernel_rfl
theorem tgM : TG KM Try.prog 42 40 := ⟨Try.underlying42, _, 64, infoM, by omega, rfl⟩
/-- The message m stands at p. -/
structure MsAt (w : World) (p : Addr) (r : Ms) : Prop where
  c0 : w.cell? (p.add 0) = some (.int .u8 (r.kind.toNat : Int))
  c1 : w.cell? (p.add 1) = some (.string r.key)
  c2 : w.cell? (p.add 2) = some (.int .i64 r.txn)
  c3 : w.cell? (p.add 3) = some (.int .i64 r.ts)
  c4 : w.cell? (p.add 4) = some (.bool r.gone)
  c5 : w.cell? (p.add 5) = some (.string r.val)
theorem MsAt.d0 {w : World} {p : Addr} {r : Ms} (h : MsAt w p r) : w.cell? p = some (.int .u8 (r.kind.toNat : Int)) := by have := h.c0; rwa [Addr.add_nought] at this
theorem MsAt.d1 {w : World} {p : Addr} {r : Ms} (h : MsAt w p r) : w.cell? ⟨p.block, p.off + 1, none⟩ = some (.string r.key) := by rw [← vn_pos p 1 (by omega)]; exact h.c1
theorem MsAt.d2 {w : World} {p : Addr} {r : Ms} (h : MsAt w p r) : w.cell? ⟨p.block, p.off + 2, none⟩ = some (.int .i64 r.txn) := by rw [← vn_pos p 2 (by omega)]; exact h.c2
theorem MsAt.d3 {w : World} {p : Addr} {r : Ms} (h : MsAt w p r) : w.cell? ⟨p.block, p.off + 3, none⟩ = some (.int .i64 r.ts) := by rw [← vn_pos p 3 (by omega)]; exact h.c3
theorem MsAt.d4 {w : World} {p : Addr} {r : Ms} (h : MsAt w p r) : w.cell? ⟨p.block, p.off + 4, none⟩ = some (.bool r.gone) := by rw [← vn_pos p 4 (by omega)]; exact h.c4
theorem MsAt.d5 {w : World} {p : Addr} {r : Ms} (h : MsAt w p r) : w.cell? ⟨p.block, p.off + 5, none⟩ = some (.string r.val) := by rw [← vn_pos p 5 (by omega)]; exact h.c5
theorem RG.ms {w : World} {A : Option Addr} {l : List Ms} (h : RG KM w A l) {k : Nat} {v : Ms} (hk : l[k]? = some v) : ∃ ad, A = some ad ∧ MsAt w (ad.add (k * 6)) v := by
  obtain ⟨ad, cs, e, h1, h2⟩ := h k v hk
  have h2 : cs = v.cs := h2
  subst h2
  exact ⟨ad, e, ⟨h1 0 _ rfl, h1 1 _ rfl, h1 2 _ rfl, h1 3 _ rfl, h1 4 _ rfl, h1 5 _ rfl⟩⟩
/-- A box that holds a message. -/
structure MsBox (W : World) (q : Nat) (v : Ms) : Prop where
  c0 : W.cell? ⟨q, 0, none⟩ = some (.int .u8 (v.kind.toNat : Int))
  c1 : W.cell? ⟨q, 1, none⟩ = some (.string v.key)
  c2 : W.cell? ⟨q, 2, none⟩ = some (.int .i64 v.txn)
  c3 : W.cell? ⟨q, 3, none⟩ = some (.int .i64 v.ts)
  c4 : W.cell? ⟨q, 4, none⟩ = some (.bool v.gone)
  c5 : W.cell? ⟨q, 5, none⟩ = some (.string v.val)
  f0 : W.frozen? ⟨q, 0, none⟩ = false
  f1 : W.frozen? ⟨q, 1, none⟩ = false
  f2 : W.frozen? ⟨q, 2, none⟩ = false
  f3 : W.frozen? ⟨q, 3, none⟩ = false
  f4 : W.frozen? ⟨q, 4, none⟩ = false
  f5 : W.frozen? ⟨q, 5, none⟩ = false
theorem MsBox.new (w : World) (v : Ms) (t : TypeId) : MsBox (w.alloc (.cells #[.int .u8 (v.kind.toNat : Int), .string v.key, .int .i64 v.txn, .int .i64 v.ts, .bool v.gone, .string v.val] t)) w.heap.size v := by constructor <;> simp
theorem MsBox.lt {W : World} {q : Nat} {v : Ms} (h : MsBox W q v) : q < W.heap.size := lt_of_cell h.c0
theorem MsBox.below {W W' : World} {q : Nat} {v : Ms} (h : MsBox W q v) {B : Nat} (hb : Below B W W') (hq : q < B) : MsBox W' q v := by
  have C : ∀ i x, W.cell? ⟨q, i, none⟩ = some x → W'.cell? ⟨q, i, none⟩ = some x := fun i x hx => (hb.cell (p := ⟨q, i, none⟩) hq).trans hx
  have F : ∀ i, W.frozen? ⟨q, i, none⟩ = false → W'.frozen? ⟨q, i, none⟩ = false := fun i hx => (hb.frozen (p := ⟨q, i, none⟩) hq).trans hx
  exact ⟨C _ _ h.c0, C _ _ h.c1, C _ _ h.c2, C _ _ h.c3, C _ _ h.c4, C _ _ h.c5, F _ h.f0, F _ h.f1, F _ h.f2, F _ h.f3, F _ h.f4, F _ h.f5⟩
theorem MsBox.on {W W' : World} {q : Nat} {v : Ms} (h : MsBox W q v) (hb : Below W.heap.size W W') : MsBox W' q v := h.below hb h.lt
theorem MsBox.alloc {W : World} {q : Nat} {v : Ms} (h : MsBox W q v) (o : Obj) : MsBox (W.alloc o) q v := h.on (below1 W o)
theorem MsBox.drew {W : World} {q : Nat} {v : Ms} (h : MsBox W q v) : MsBox W.drew q v := ⟨h.c0, h.c1, h.c2, h.c3, h.c4, h.c5, h.f0, h.f1, h.f2, h.f3, h.f4, h.f5⟩
theorem MsBox.other {W : World} {q : Nat} {v : Ms} (h : MsBox W q v) {p : Addr} (hp : p.block ≠ q) (x : Value) : MsBox (W.setCell p x) q v := by
  have C : ∀ i y, W.cell? ⟨q, i, none⟩ = some y → (W.setCell p x).cell? ⟨q, i, none⟩ = some y := fun i y hy => by
    rw [World.cell?_setCell_other W p _ x (fun e => hp (by rw [e]))]; exact hy
  refine ⟨C _ _ h.c0, C _ _ h.c1, C _ _ h.c2, C _ _ h.c3, C _ _ h.c4, C _ _ h.c5, ?_, ?_, ?_, ?_, ?_, ?_⟩ <;> simp [h.f0, h.f1, h.f2, h.f3, h.f4, h.f5]
theorem MsBox.set1 {W : World} {q : Nat} {v : Ms} (h : MsBox W q v) (x : ByteArray) : MsBox (W.setCell ⟨q, 1, none⟩ (.string x)) q { v with key := x } := by
  constructor <;> simp [World.cell?_setCell_other, World.cell?_setCell_same', h.c0, h.c1, h.c2, h.c3, h.c4, h.c5, h.f0, h.f1, h.f2, h.f3, h.f4, h.f5]
theorem MsBox.set2 {W : World} {q : Nat} {v : Ms} (h : MsBox W q v) (x : Int) : MsBox (W.setCell ⟨q, 2, none⟩ (.int .i64 x)) q { v with txn := x } := by
  constructor <;> simp [World.cell?_setCell_other, World.cell?_setCell_same', h.c0, h.c1, h.c2, h.c3, h.c4, h.c5, h.f0, h.f1, h.f2, h.f3, h.f4, h.f5]
theorem MsBox.set3 {W : World} {q : Nat} {v : Ms} (h : MsBox W q v) (x : Int) : MsBox (W.setCell ⟨q, 3, none⟩ (.int .i64 x)) q { v with ts := x } := by
  constructor <;> simp [World.cell?_setCell_other, World.cell?_setCell_same', h.c0, h.c1, h.c2, h.c3, h.c4, h.c5, h.f0, h.f1, h.f2, h.f3, h.f4, h.f5]
theorem MsBox.set4 {W : World} {q : Nat} {v : Ms} (h : MsBox W q v) (x : Bool) : MsBox (W.setCell ⟨q, 4, none⟩ (.bool x)) q { v with gone := x } := by
  constructor <;> simp [World.cell?_setCell_other, World.cell?_setCell_same', h.c0, h.c1, h.c2, h.c3, h.c4, h.c5, h.f0, h.f1, h.f2, h.f3, h.f4, h.f5]
theorem MsBox.set5 {W : World} {q : Nat} {v : Ms} (h : MsBox W q v) (x : ByteArray) : MsBox (W.setCell ⟨q, 5, none⟩ (.string x)) q { v with val := x } := by
  constructor <;> simp [World.cell?_setCell_other, World.cell?_setCell_same', h.c0, h.c1, h.c2, h.c3, h.c4, h.c5, h.f0, h.f1, h.f2, h.f3, h.f4, h.f5]
theorem MsBox.at {W : World} {q : Nat} {v : Ms} (h : MsBox W q v) : MsAt W ⟨q, 0, none⟩ v := by
  constructor <;> simp [Addr.add, h.c0, h.c1, h.c2, h.c3, h.c4, h.c5]
theorem rgM_at {w : World} {ad : Addr} {s : Ms} (h : MsAt w ad s) : RG KM w (some ad) [s] := fun j x hj => by
  cases j with
  | zero =>
    simp at hj
    subst hj
    refine ⟨ad, s.cs, rfl, ?_, rfl⟩
    intro i u hu
    rw [Nat.zero_mul, Addr.add_nought]
    match i, hu with
    | 0, hu => simp [Ms.cs] at hu; subst hu; exact h.c0
    | 1, hu => simp [Ms.cs] at hu; subst hu; exact h.c1
    | 2, hu => simp [Ms.cs] at hu; subst hu; exact h.c2
    | 3, hu => simp [Ms.cs] at hu; subst hu; exact h.c3
    | 4, hu => simp [Ms.cs] at hu; subst hu; exact h.c4
    | 5, hu => simp [Ms.cs] at hu; subst hu; exact h.c5
    | i + 6, hu => simp [Ms.cs] at hu
  | succ j => simp at hj
theorem rgM_lit (W : World) (x : Ms) (t : TypeId) : RG KM (W.alloc (.cells #[.int .u8 (x.kind.toNat : Int), .string x.key, .int .i64 x.txn, .int .i64 x.ts, .bool x.gone, .string x.val] t)) (some ⟨W.heap.size, 0, none⟩) [x] := rgM_at (MsBox.new W x t).at
def setMs (W : World) (q : Nat) (x : Ms) : World := (((((W.setCell ⟨q, 0, none⟩ (.int .u8 (x.kind.toNat : Int))).setCell ⟨q, 1, none⟩ (.string x.key)).setCell ⟨q, 2, none⟩ (.int .i64 x.txn)).setCell ⟨q, 3, none⟩ (.int .i64 x.ts)).setCell ⟨q, 4, none⟩ (.bool x.gone)).setCell ⟨q, 5, none⟩ (.string x.val)
theorem MsBox.put {W : World} {q : Nat} {v : Ms} (h : MsBox W q v) (x : Ms) : MsBox (setMs W q x) q x := by
  unfold setMs
  constructor <;> simp [World.cell?_setCell_other, World.cell?_setCell_same', h.c0, h.c1, h.c2, h.c3, h.c4, h.c5, h.f0, h.f1, h.f2, h.f3, h.f4, h.f5]
theorem belowSetMs {B : Nat} {w W : World} (h : Below B w W) {q : Nat} (hq : B ≤ q) (x : Ms) : Below B w (setMs W q x) :=
  (((((h.setCell (p := ⟨q, 0, none⟩) hq _).setCell (p := ⟨q, 1, none⟩) hq _).setCell (p := ⟨q, 2, none⟩) hq _).setCell (p := ⟨q, 3, none⟩) hq _).setCell (p := ⟨q, 4, none⟩) hq _).setCell (p := ⟨q, 5, none⟩) hq _
theorem mgPair_any (k : Nat) (w : World) : Calls Try.prog 52 #[.int .u8 (k : Int)] w fun e w' => e = .returned (.bool (mgPair k)) ∧ w = w' := by
  have h : ((k : Int) == 0) = mgPair k := by unfold mgPair; rw [Bool.eq_iff_iff]; simp
  go_enter Try.func52, Try.ntmps52
  go_wp2
  go_ret
  exact ⟨rfl, rfl⟩
theorem mgTS_any (k : Nat) (w : World) : Calls Try.prog 54 #[.int .u8 (k : Int)] w fun e w' => e = .returned (.bool (mgTS k)) ∧ w = w' := by
  unfold mgTS
  by_cases h1 : k = 1
  · subst h1
    go_enter Try.func54, Try.ntmps54
    go_wp2
    go_ret
    exact ⟨rfl, rfl⟩
  · have h : ((k : Int) == 3) = (k == 1 || k == 3) := by rw [Bool.eq_iff_iff]; simp; omega
    have a1 : ((k : Int) == 1) = false := by simp; omega
    clear h1
    go_enter Try.func54, Try.ntmps54
    go_wp2
    go_ret
    exact ⟨rfl, rfl⟩
theorem mgTxn_any (k : Nat) (w : World) : Calls Try.prog 53 #[.int .u8 (k : Int)] w fun e w' => e = .returned (.bool (mgTxn k)) ∧ w = w' := by
  unfold mgTxn
  by_cases h1 : k = 0
  · subst h1
    go_enter Try.func53, Try.ntmps53
    go_wp2
    go_ret
    exact ⟨rfl, rfl⟩
  · by_cases h2 : k = 1
    · subst h2
      go_enter Try.func53, Try.ntmps53
      go_wp2
      go_ret
      exact ⟨rfl, rfl⟩
    · have h : ((k : Int) == 2) = (k == 0 || k == 1 || k == 2) := by rw [Bool.eq_iff_iff]; simp; omega
      have a1 : ((k : Int) == 0) = false := by simp; omega
      have a2 : ((k : Int) == 1) = false := by simp; omega
      clear h1 h2
      go_enter Try.func53, Try.ntmps53
      go_wp2
      go_ret
      exact ⟨rfl, rfl⟩
theorem mgWideN_any (k : Nat) (key : ByteArray) (txn ts : Int) (gone : Bool) (val : ByteArray) (w : World) : Calls Try.prog 50 #[.agg #[.int .u8 (k : Int), .string key, .int .i64 txn, .int .i64 ts, .bool gone, .string val]] w fun e w' => e = .returned (.bool (mgWide k)) ∧ Below w.heap.size w w' := by
  have HB := Lib.hid (fun o => below1 w o)
  unfold mgWide
  by_cases h1 : k = 1
  · subst h1
    go_enter Try.func50, Try.ntmps50
    go_wp2
    go_ret
    exact ⟨rfl, HB.out _⟩
  · by_cases h2 : k = 2
    · subst h2
      go_enter Try.func50, Try.ntmps50
      go_wp2
      go_ret
      exact ⟨rfl, HB.out _⟩
    · have h : ((k : Int) == 3) = (k == 1 || k == 2 || k == 3) := by rw [Bool.eq_iff_iff]; simp; omega
      have a1 : ((k : Int) == 1) = false := by simp; omega
      have a2 : ((k : Int) == 2) = false := by simp; omega
      clear h1 h2
      go_enter Try.func50, Try.ntmps50
      go_wp2
      go_ret
      exact ⟨rfl, HB.out _⟩
theorem mgWide_any (m : Ms) (w : World) : Calls Try.prog 50 #[m.v] w fun e w' => e = .returned (.bool (mgWide m.kind.toNat)) ∧ Below w.heap.size w w' := mgWideN_any _ _ _ _ _ _ w
theorem mgIn_any (n : Int) (w : World) : Calls Try.prog 93 #[.int .i64 n] w fun e w' => e = .returned (.bool (mgIn n)) ∧ w = w' := by
  unfold mgIn
  by_cases h0 : 0 ≤ n
  · have hb : decide (n ≤ 1099511627776) = decide (0 ≤ n ∧ n ≤ 1099511627776) := by simp [h0]
    go_enter Try.func93, Try.ntmps93
    go_wp2
    go_ret
    exact ⟨rfl, rfl⟩
  · have hb := Lib.hid (show decide (0 ≤ n ∧ n ≤ 1099511627776) = false from by simp; omega)
    have h1 : decide (0 ≤ n) = false := by simp; omega
    clear h0
    go_enter Try.func93, Try.ntmps93
    go_wp2
    go_ret
    rw [hb.out]
    exact ⟨rfl, rfl⟩
theorem mgMark_any (b : Bool) (w : World) : Calls Try.prog 55 #[.bool b] w fun e w' => e = .returned (.int .u8 ((vsMark b).toNat : Int)) ∧ w = w' := by
  cases b
  all_goals
    go_enter Try.func55, Try.ntmps55
    go_wp2
    go_ret
    exact ⟨rfl, rfl⟩
set_option maxHeartbeats 1000000 in
theorem mgStrays_any (m : Ms) (w : World) : Calls Try.prog 92 #[m.v] w fun e w' => e = .returned (.bool (mgStrays m)) ∧ Below w.heap.size w w' := by
  have B := fun o => (Below.refl w.heap.size w).alloc (Nat.le_refl _) o
  unfold Ms.v mgStrays
  obtain ⟨kind, key, txn, ts, gone, val⟩ := m
  dsimp only
  generalize kind.toNat = kd
  generalize hA : mgTxn kd = a
  generalize hB : mgTS kd = b
  generalize hC : mgPair kd = c
  have K1 := fun W => mgTxn_any kd W
  have K2 := fun W => mgTS_any kd W
  have K3 := fun W => mgPair_any kd W
  rw [hA] at K1
  rw [hB] at K2
  rw [hC] at K3
  clear hA hB hC
  go_enter Try.func92, Try.ntmps92
  go_wp2_with (first | (go_at_call 53; refine (K1 _).mono ?_; rintro e w' ⟨rfl, rfl⟩) | (go_at_call 54; refine (K2 _).mono ?_; rintro e w' ⟨rfl, rfl⟩) | (go_at_call 52; refine (K3 _).mono ?_; rintro e w' ⟨rfl, rfl⟩) | fail)
  all_goals (
    go_ret
    refine ⟨?_, B _⟩
    simp_all)
set_option maxHeartbeats 2000000 in
set_option maxRecDepth 100000 in
theorem mgCheck_any (m : Ms) (w : World) : Calls Try.prog 51 #[m.v] w fun e w' => e = .returned (.int .i64 (checkM m : Int)) ∧ Below w.heap.size w w' := by
  have HB := Lib.hid (below1 w (.cells #[.int .u8 (m.kind.toNat : Int), .string m.key, .int .i64 m.txn, .int .i64 m.ts, .bool m.gone, .string m.val] 40))
  have BX := Lib.hid (MsBox.new w m 40)
  have K1 := Lib.hid (fun W => mgStrays_any m W)
  have K2 := Lib.hid (fun W => mgIn_any m.txn W)
  have K3 := Lib.hid (fun W => mgIn_any m.ts W)
  have HC : Hid (checkM m = if 3 < m.kind.toNat then 13 else if (mgStrays m || m.gone && !m.val.toList.isEmpty) = true then 4 else if (!mgIn m.txn || !mgIn m.ts || (m.kind.toNat == 1 && m.ts == 0)) = true then 9 else if 16 < m.key.size ∨ 24 < m.val.size then 5 else 0) := Lib.hid rfl
  generalize checkM m = E at *
  unfold Ms.v at *
  generalize mgStrays m = S at *
  generalize mgIn m.txn = I1 at *
  generalize mgIn m.ts = I2 at *
  obtain ⟨kind, key, txn, ts, gone, val⟩ := m
  dsimp only at *
  have hk1 : ((kind.toNat : Int) == 1) = (kind.toNat == 1) := by rw [Bool.eq_iff_iff]; simp; omega
  have hk3 : decide ((3 : Int) < (kind.toNat : Int)) = decide (3 < kind.toNat) := by rw [decide_eq_decide]; omega
  have hs1 : decide ((16 : Int) < (key.size : Int)) = decide (16 < key.size) := by rw [decide_eq_decide]; omega
  have hs2 : decide ((24 : Int) < (val.size : Int)) = decide (24 < val.size) := by rw [decide_eq_decide]; omega
  have HG : ∀ (d3 em k1 t0 b16 b24 : Bool), decide ((3 : Int) < (kind.toNat : Int)) = d3 → val.toList.isEmpty = em → ((kind.toNat : Int) == 1) = k1 → (ts == 0) = t0 → decide ((16 : Int) < (key.size : Int)) = b16 → decide ((24 : Int) < (val.size : Int)) = b24 → (HC : Hid (E = if d3 then 13 else if (S || gone && !em) = true then 4 else if (!I1 || !I2 || (k1 && t0)) = true then 9 else if (b16 || b24) then 5 else 0)) →
      Calls Try.prog 51 #[.agg #[.int .u8 (kind.toNat : Int), .string key, .int .i64 txn, .int .i64 ts, .bool gone, .string val]] w fun e w' => e = .returned (.int .i64 (E : Int)) ∧ Below w.heap.size w w' := by
    clear HC hk1 hk3 hs1 hs2
    intro d3 em k1 t0 b16 b24 e1 e2 e3 e4 e5 e6 HC
    cases d3 with
    | true =>
      go_enter Try.func51, Try.ntmps51
      go_wp2_with (first | (go_at_call 92; refine (K1.out _).mono ?_; rintro e w1 ⟨rfl, b1⟩; have BX := Lib.hid (BX.out.on b1); have HB := Lib.hid (HB.out.trans (b1.mono HB.out.size)); obtain ⟨x0, x1, x2, x3, x4, x5, _, _, _, _, _, _⟩ := BX.out; clear b1) | (go_at_call 93; first | (with_reducible refine Calls.mono (K2.out _) ?_; rintro e w2 ⟨rfl, rfl⟩) | (with_reducible refine Calls.mono (K3.out _) ?_; rintro e w2 ⟨rfl, rfl⟩)) | fail)
      go_ret
      exact ⟨by rw [HC.out]; rfl, HB.out⟩
    | false =>
      cases S with
      | true =>
        go_enter Try.func51, Try.ntmps51
        go_wp2_with (first | (go_at_call 92; refine (K1.out _).mono ?_; rintro e w1 ⟨rfl, b1⟩; have BX := Lib.hid (BX.out.on b1); have HB := Lib.hid (HB.out.trans (b1.mono HB.out.size)); obtain ⟨x0, x1, x2, x3, x4, x5, _, _, _, _, _, _⟩ := BX.out; clear b1) | (go_at_call 93; first | (with_reducible refine Calls.mono (K2.out _) ?_; rintro e w2 ⟨rfl, rfl⟩) | (with_reducible refine Calls.mono (K3.out _) ?_; rintro e w2 ⟨rfl, rfl⟩)) | fail)
        go_ret
        exact ⟨by rw [HC.out]; rfl, HB.out⟩
      | false =>
        cases gone with
        | true =>
          cases em with
          | true =>
            cases I1 with
            | true =>
              cases I2 with
              | true =>
                cases k1 with
                | true =>
                  cases t0 with
                  | true =>
                    go_enter Try.func51, Try.ntmps51
                    go_wp2_with (first | (go_at_call 92; refine (K1.out _).mono ?_; rintro e w1 ⟨rfl, b1⟩; have BX := Lib.hid (BX.out.on b1); have HB := Lib.hid (HB.out.trans (b1.mono HB.out.size)); obtain ⟨x0, x1, x2, x3, x4, x5, _, _, _, _, _, _⟩ := BX.out; clear b1) | (go_at_call 93; first | (with_reducible refine Calls.mono (K2.out _) ?_; rintro e w2 ⟨rfl, rfl⟩) | (with_reducible refine Calls.mono (K3.out _) ?_; rintro e w2 ⟨rfl, rfl⟩)) | fail)
                    go_ret
                    exact ⟨by rw [HC.out]; rfl, HB.out⟩
                  | false =>
                    cases b16 with
                    | true =>
                      go_enter Try.func51, Try.ntmps51
                      go_wp2_with (first | (go_at_call 92; refine (K1.out _).mono ?_; rintro e w1 ⟨rfl, b1⟩; have BX := Lib.hid (BX.out.on b1); have HB := Lib.hid (HB.out.trans (b1.mono HB.out.size)); obtain ⟨x0, x1, x2, x3, x4, x5, _, _, _, _, _, _⟩ := BX.out; clear b1) | (go_at_call 93; first | (with_reducible refine Calls.mono (K2.out _) ?_; rintro e w2 ⟨rfl, rfl⟩) | (with_reducible refine Calls.mono (K3.out _) ?_; rintro e w2 ⟨rfl, rfl⟩)) | fail)
                      go_ret
                      exact ⟨by rw [HC.out]; rfl, HB.out⟩
                    | false =>
                      cases b24 with
                      | true =>
                        go_enter Try.func51, Try.ntmps51
                        go_wp2_with (first | (go_at_call 92; refine (K1.out _).mono ?_; rintro e w1 ⟨rfl, b1⟩; have BX := Lib.hid (BX.out.on b1); have HB := Lib.hid (HB.out.trans (b1.mono HB.out.size)); obtain ⟨x0, x1, x2, x3, x4, x5, _, _, _, _, _, _⟩ := BX.out; clear b1) | (go_at_call 93; first | (with_reducible refine Calls.mono (K2.out _) ?_; rintro e w2 ⟨rfl, rfl⟩) | (with_reducible refine Calls.mono (K3.out _) ?_; rintro e w2 ⟨rfl, rfl⟩)) | fail)
                        go_ret
                        exact ⟨by rw [HC.out]; rfl, HB.out⟩
                      | false =>
                        go_enter Try.func51, Try.ntmps51
                        go_wp2_with (first | (go_at_call 92; refine (K1.out _).mono ?_; rintro e w1 ⟨rfl, b1⟩; have BX := Lib.hid (BX.out.on b1); have HB := Lib.hid (HB.out.trans (b1.mono HB.out.size)); obtain ⟨x0, x1, x2, x3, x4, x5, _, _, _, _, _, _⟩ := BX.out; clear b1) | (go_at_call 93; first | (with_reducible refine Calls.mono (K2.out _) ?_; rintro e w2 ⟨rfl, rfl⟩) | (with_reducible refine Calls.mono (K3.out _) ?_; rintro e w2 ⟨rfl, rfl⟩)) | fail)
                        go_ret
                        exact ⟨by rw [HC.out]; rfl, HB.out⟩
                | false =>
                  cases b16 with
                  | true =>
                    go_enter Try.func51, Try.ntmps51
                    go_wp2_with (first | (go_at_call 92; refine (K1.out _).mono ?_; rintro e w1 ⟨rfl, b1⟩; have BX := Lib.hid (BX.out.on b1); have HB := Lib.hid (HB.out.trans (b1.mono HB.out.size)); obtain ⟨x0, x1, x2, x3, x4, x5, _, _, _, _, _, _⟩ := BX.out; clear b1) | (go_at_call 93; first | (with_reducible refine Calls.mono (K2.out _) ?_; rintro e w2 ⟨rfl, rfl⟩) | (with_reducible refine Calls.mono (K3.out _) ?_; rintro e w2 ⟨rfl, rfl⟩)) | fail)
                    go_ret
                    exact ⟨by rw [HC.out]; rfl, HB.out⟩
                  | false =>
                    cases b24 with
                    | true =>
                      go_enter Try.func51, Try.ntmps51
                      go_wp2_with (first | (go_at_call 92; refine (K1.out _).mono ?_; rintro e w1 ⟨rfl, b1⟩; have BX := Lib.hid (BX.out.on b1); have HB := Lib.hid (HB.out.trans (b1.mono HB.out.size)); obtain ⟨x0, x1, x2, x3, x4, x5, _, _, _, _, _, _⟩ := BX.out; clear b1) | (go_at_call 93; first | (with_reducible refine Calls.mono (K2.out _) ?_; rintro e w2 ⟨rfl, rfl⟩) | (with_reducible refine Calls.mono (K3.out _) ?_; rintro e w2 ⟨rfl, rfl⟩)) | fail)
                      go_ret
                      exact ⟨by rw [HC.out]; rfl, HB.out⟩
                    | false =>
                      go_enter Try.func51, Try.ntmps51
                      go_wp2_with (first | (go_at_call 92; refine (K1.out _).mono ?_; rintro e w1 ⟨rfl, b1⟩; have BX := Lib.hid (BX.out.on b1); have HB := Lib.hid (HB.out.trans (b1.mono HB.out.size)); obtain ⟨x0, x1, x2, x3, x4, x5, _, _, _, _, _, _⟩ := BX.out; clear b1) | (go_at_call 93; first | (with_reducible refine Calls.mono (K2.out _) ?_; rintro e w2 ⟨rfl, rfl⟩) | (with_reducible refine Calls.mono (K3.out _) ?_; rintro e w2 ⟨rfl, rfl⟩)) | fail)
                      go_ret
                      exact ⟨by rw [HC.out]; rfl, HB.out⟩
              | false =>
                go_enter Try.func51, Try.ntmps51
                go_wp2_with (first | (go_at_call 92; refine (K1.out _).mono ?_; rintro e w1 ⟨rfl, b1⟩; have BX := Lib.hid (BX.out.on b1); have HB := Lib.hid (HB.out.trans (b1.mono HB.out.size)); obtain ⟨x0, x1, x2, x3, x4, x5, _, _, _, _, _, _⟩ := BX.out; clear b1) | (go_at_call 93; first | (with_reducible refine Calls.mono (K2.out _) ?_; rintro e w2 ⟨rfl, rfl⟩) | (with_reducible refine Calls.mono (K3.out _) ?_; rintro e w2 ⟨rfl, rfl⟩)) | fail)
                go_ret
                exact ⟨by rw [HC.out]; rfl, HB.out⟩
            | false =>
              go_enter Try.func51, Try.ntmps51
              go_wp2_with (first | (go_at_call 92; refine (K1.out _).mono ?_; rintro e w1 ⟨rfl, b1⟩; have BX := Lib.hid (BX.out.on b1); have HB := Lib.hid (HB.out.trans (b1.mono HB.out.size)); obtain ⟨x0, x1, x2, x3, x4, x5, _, _, _, _, _, _⟩ := BX.out; clear b1) | (go_at_call 93; first | (with_reducible refine Calls.mono (K2.out _) ?_; rintro e w2 ⟨rfl, rfl⟩) | (with_reducible refine Calls.mono (K3.out _) ?_; rintro e w2 ⟨rfl, rfl⟩)) | fail)
              go_ret
              exact ⟨by rw [HC.out]; rfl, HB.out⟩
          | false =>
            go_enter Try.func51, Try.ntmps51
            go_wp2_with (first | (go_at_call 92; refine (K1.out _).mono ?_; rintro e w1 ⟨rfl, b1⟩; have BX := Lib.hid (BX.out.on b1); have HB := Lib.hid (HB.out.trans (b1.mono HB.out.size)); obtain ⟨x0, x1, x2, x3, x4, x5, _, _, _, _, _, _⟩ := BX.out; clear b1) | (go_at_call 93; first | (with_reducible refine Calls.mono (K2.out _) ?_; rintro e w2 ⟨rfl, rfl⟩) | (with_reducible refine Calls.mono (K3.out _) ?_; rintro e w2 ⟨rfl, rfl⟩)) | fail)
            go_ret
            exact ⟨by rw [HC.out]; rfl, HB.out⟩
        | false =>
          cases I1 with
          | true =>
            cases I2 with
            | true =>
              cases k1 with
              | true =>
                cases t0 with
                | true =>
                  go_enter Try.func51, Try.ntmps51
                  go_wp2_with (first | (go_at_call 92; refine (K1.out _).mono ?_; rintro e w1 ⟨rfl, b1⟩; have BX := Lib.hid (BX.out.on b1); have HB := Lib.hid (HB.out.trans (b1.mono HB.out.size)); obtain ⟨x0, x1, x2, x3, x4, x5, _, _, _, _, _, _⟩ := BX.out; clear b1) | (go_at_call 93; first | (with_reducible refine Calls.mono (K2.out _) ?_; rintro e w2 ⟨rfl, rfl⟩) | (with_reducible refine Calls.mono (K3.out _) ?_; rintro e w2 ⟨rfl, rfl⟩)) | fail)
                  go_ret
                  exact ⟨by rw [HC.out]; rfl, HB.out⟩
                | false =>
                  cases b16 with
                  | true =>
                    go_enter Try.func51, Try.ntmps51
                    go_wp2_with (first | (go_at_call 92; refine (K1.out _).mono ?_; rintro e w1 ⟨rfl, b1⟩; have BX := Lib.hid (BX.out.on b1); have HB := Lib.hid (HB.out.trans (b1.mono HB.out.size)); obtain ⟨x0, x1, x2, x3, x4, x5, _, _, _, _, _, _⟩ := BX.out; clear b1) | (go_at_call 93; first | (with_reducible refine Calls.mono (K2.out _) ?_; rintro e w2 ⟨rfl, rfl⟩) | (with_reducible refine Calls.mono (K3.out _) ?_; rintro e w2 ⟨rfl, rfl⟩)) | fail)
                    go_ret
                    exact ⟨by rw [HC.out]; rfl, HB.out⟩
                  | false =>
                    cases b24 with
                    | true =>
                      go_enter Try.func51, Try.ntmps51
                      go_wp2_with (first | (go_at_call 92; refine (K1.out _).mono ?_; rintro e w1 ⟨rfl, b1⟩; have BX := Lib.hid (BX.out.on b1); have HB := Lib.hid (HB.out.trans (b1.mono HB.out.size)); obtain ⟨x0, x1, x2, x3, x4, x5, _, _, _, _, _, _⟩ := BX.out; clear b1) | (go_at_call 93; first | (with_reducible refine Calls.mono (K2.out _) ?_; rintro e w2 ⟨rfl, rfl⟩) | (with_reducible refine Calls.mono (K3.out _) ?_; rintro e w2 ⟨rfl, rfl⟩)) | fail)
                      go_ret
                      exact ⟨by rw [HC.out]; rfl, HB.out⟩
                    | false =>
                      go_enter Try.func51, Try.ntmps51
                      go_wp2_with (first | (go_at_call 92; refine (K1.out _).mono ?_; rintro e w1 ⟨rfl, b1⟩; have BX := Lib.hid (BX.out.on b1); have HB := Lib.hid (HB.out.trans (b1.mono HB.out.size)); obtain ⟨x0, x1, x2, x3, x4, x5, _, _, _, _, _, _⟩ := BX.out; clear b1) | (go_at_call 93; first | (with_reducible refine Calls.mono (K2.out _) ?_; rintro e w2 ⟨rfl, rfl⟩) | (with_reducible refine Calls.mono (K3.out _) ?_; rintro e w2 ⟨rfl, rfl⟩)) | fail)
                      go_ret
                      exact ⟨by rw [HC.out]; rfl, HB.out⟩
              | false =>
                cases b16 with
                | true =>
                  go_enter Try.func51, Try.ntmps51
                  go_wp2_with (first | (go_at_call 92; refine (K1.out _).mono ?_; rintro e w1 ⟨rfl, b1⟩; have BX := Lib.hid (BX.out.on b1); have HB := Lib.hid (HB.out.trans (b1.mono HB.out.size)); obtain ⟨x0, x1, x2, x3, x4, x5, _, _, _, _, _, _⟩ := BX.out; clear b1) | (go_at_call 93; first | (with_reducible refine Calls.mono (K2.out _) ?_; rintro e w2 ⟨rfl, rfl⟩) | (with_reducible refine Calls.mono (K3.out _) ?_; rintro e w2 ⟨rfl, rfl⟩)) | fail)
                  go_ret
                  exact ⟨by rw [HC.out]; rfl, HB.out⟩
                | false =>
                  cases b24 with
                  | true =>
                    go_enter Try.func51, Try.ntmps51
                    go_wp2_with (first | (go_at_call 92; refine (K1.out _).mono ?_; rintro e w1 ⟨rfl, b1⟩; have BX := Lib.hid (BX.out.on b1); have HB := Lib.hid (HB.out.trans (b1.mono HB.out.size)); obtain ⟨x0, x1, x2, x3, x4, x5, _, _, _, _, _, _⟩ := BX.out; clear b1) | (go_at_call 93; first | (with_reducible refine Calls.mono (K2.out _) ?_; rintro e w2 ⟨rfl, rfl⟩) | (with_reducible refine Calls.mono (K3.out _) ?_; rintro e w2 ⟨rfl, rfl⟩)) | fail)
                    go_ret
                    exact ⟨by rw [HC.out]; rfl, HB.out⟩
                  | false =>
                    go_enter Try.func51, Try.ntmps51
                    go_wp2_with (first | (go_at_call 92; refine (K1.out _).mono ?_; rintro e w1 ⟨rfl, b1⟩; have BX := Lib.hid (BX.out.on b1); have HB := Lib.hid (HB.out.trans (b1.mono HB.out.size)); obtain ⟨x0, x1, x2, x3, x4, x5, _, _, _, _, _, _⟩ := BX.out; clear b1) | (go_at_call 93; first | (with_reducible refine Calls.mono (K2.out _) ?_; rintro e w2 ⟨rfl, rfl⟩) | (with_reducible refine Calls.mono (K3.out _) ?_; rintro e w2 ⟨rfl, rfl⟩)) | fail)
                    go_ret
                    exact ⟨by rw [HC.out]; rfl, HB.out⟩
            | false =>
              go_enter Try.func51, Try.ntmps51
              go_wp2_with (first | (go_at_call 92; refine (K1.out _).mono ?_; rintro e w1 ⟨rfl, b1⟩; have BX := Lib.hid (BX.out.on b1); have HB := Lib.hid (HB.out.trans (b1.mono HB.out.size)); obtain ⟨x0, x1, x2, x3, x4, x5, _, _, _, _, _, _⟩ := BX.out; clear b1) | (go_at_call 93; first | (with_reducible refine Calls.mono (K2.out _) ?_; rintro e w2 ⟨rfl, rfl⟩) | (with_reducible refine Calls.mono (K3.out _) ?_; rintro e w2 ⟨rfl, rfl⟩)) | fail)
              go_ret
              exact ⟨by rw [HC.out]; rfl, HB.out⟩
          | false =>
            go_enter Try.func51, Try.ntmps51
            go_wp2_with (first | (go_at_call 92; refine (K1.out _).mono ?_; rintro e w1 ⟨rfl, b1⟩; have BX := Lib.hid (BX.out.on b1); have HB := Lib.hid (HB.out.trans (b1.mono HB.out.size)); obtain ⟨x0, x1, x2, x3, x4, x5, _, _, _, _, _, _⟩ := BX.out; clear b1) | (go_at_call 93; first | (with_reducible refine Calls.mono (K2.out _) ?_; rintro e w2 ⟨rfl, rfl⟩) | (with_reducible refine Calls.mono (K3.out _) ?_; rintro e w2 ⟨rfl, rfl⟩)) | fail)
            go_ret
            exact ⟨by rw [HC.out]; rfl, HB.out⟩
  refine HG _ _ _ _ _ _ rfl rfl rfl rfl rfl rfl (Lib.hid ?_)
  rw [HC.out, hk3, hk1, hs1, hs2]
  simp
set_option maxHeartbeats 1000000 in
theorem mgForFn_any (key : ByteArray) (m : Ms) (p : Addr) (w : World) (hp : w.cell? p = some (.string key)) :
    Calls Try.prog 91 (#[m.v] ++ #[.pointer (some p)]) w fun e w' => e = .returned (.bool (mgAbout key m)) ∧ Below w.heap.size w w' := by
  have K := Lib.hid (fun W => mgWide_any m W)
  have hpl := lt_of_cell hp
  have HB := Lib.hid (below1 w (.cells #[.int .u8 (m.kind.toNat : Int), .string m.key, .int .i64 m.txn, .int .i64 m.ts, .bool m.gone, .string m.val] 40))
  have BX := Lib.hid (MsBox.new w m 40)
  have HP := Lib.hid (fun W (h : Below w.heap.size w W) => (h.cell (p := p) hpl).trans hp)
  have HQ := Lib.hid (ba_toList m.key key)
  unfold mgAbout
  generalize decide (m.key = key) = b at *
  generalize mgWide m.kind.toNat = a at *
  unfold Ms.v at *
  clear hp
  cases a with
  | true =>
    go_enter Try.func91, Try.ntmps91
    go_wp2_with (go_at_call 50; refine (K.out _).mono ?_; rintro e w1 ⟨rfl, b1⟩; have HB := Lib.hid (HB.out.trans (b1.mono HB.out.size)); clear b1)
    go_ret
    exact ⟨rfl, HB.out⟩
  | false =>
    have HQ := HQ.out
    go_enter Try.func91, Try.ntmps91
    go_wp2_with (go_at_call 50; refine (K.out _).mono ?_; rintro e w1 ⟨rfl, b1⟩; have x1 := (BX.out.on b1).c1; have HB := Lib.hid (HB.out.trans (b1.mono HB.out.size)); have x2 := HP.out _ HB.out; clear b1)
    go_ret
    exact ⟨rfl, HB.out⟩
set_option maxHeartbeats 1000000 in
set_option maxRecDepth 100000 in
theorem mgPickF (A : Option Addr) (n c : Nat) (l : List Ms) (p : Ms → Bool) (a : Addr) (w : World) (hl : l.length = n) (hn : n ≤ 1000) (hr : RG KM w A l)
    (hF : ∀ (W : World) (x : Ms), Below w.heap.size w W → Calls Try.prog 91 (#[x.v] ++ #[.pointer (some a)]) W fun e w' => e = .returned (.bool (p x)) ∧ Below W.heap.size W w') :
    Calls Try.prog 87 #[.slice A n c, .func (.func 91) #[] #[.pointer (some a)]] w fun e w' => ∃ v', e = .returned v' ∧ OG KM 40 w.heap.size w' v' (l.filter p) ∧ Below w.heap.size w w' := by
  have HL := Lib.hid hl
  have HR := Lib.hid hr
  have HF := Lib.hid hF
  clear hl hr hF
  go_enter Try.func87, Try.ntmps87
  go_wp2
  go_loopw [5, 10] (fun v i wr => ∃ k : Nat, k ≤ n ∧ i = .int .i64 (k : Int) ∧ OG KM 40 w.heap.size wr v ((l.take k).filter p) ∧ Below w.heap.size w wr) (fun _ i _ => n - (intOf i).toNat)
  case atStart => exact ⟨0, Nat.zero_le _, rfl, OG.nil, Below.refl _ _⟩
  case round =>
    obtain ⟨k, hk, rfl, ho, hb⟩ := hrel
    by_cases hlt : k < n
    · obtain ⟨x, hx⟩ : ∃ x, l[k]? = some x := ⟨l[k]'(by rw [HL.out]; exact hlt), List.getElem?_eq_getElem _⟩
      obtain ⟨ad, rfl, hv⟩ := (HR.out.below hb).ms hx
      have c0 := hv.d0; have c1 := hv.d1; have c2 := hv.d2; have c3 := hv.d3; have c4 := hv.d4; have c5 := hv.d5
      have HKL := Lib.hid (show ((l.take k).filter p).length + 1 ≤ 1000000 from by
        have := (List.filter_sublist (l := l.take k) (p := p)).length_le
        rw [List.length_take] at this; omega)
      have HKS : (l.take (k + 1)).filter p = if p x then (l.take k).filter p ++ [x] else (l.take k).filter p := by
        rw [List.take_add_one, hx, Option.toList_some, List.filter_append]
        cases hpx : p x <;> simp [hpx]
      have HO := Lib.hid (ho.alloc (.cells #[.int .u8 (x.kind.toNat : Int), .string x.key, .int .i64 x.txn, .int .i64 x.ts, .bool x.gone, .string x.val] 40))
      have HB := Lib.hid (hb.alloc hb.size (.cells #[.int .u8 (x.kind.toNat : Int), .string x.key, .int .i64 x.txn, .int .i64 x.ts, .bool x.gone, .string x.val] 40))
      have BX := Lib.hid (MsBox.new wr x 40)
      have KF := Lib.hid (fun W (h : Below w.heap.size w W) => HF.out W x h)
      unfold Ms.v at KF
      clear hb ho hv hx
      cases hp : p x with
      | false =>
        rw [hp] at KF HKS
        simp only [Bool.false_eq_true, if_false] at HKS
        have HK := Lib.hid HKS
        clear HKS hp
        go_wp2_with (go_at_call 91; refine (KF.out _ HB.out).mono ?_; rintro e w1 ⟨rfl, b1⟩; have B1 := Lib.hid b1; clear b1)
        go_round
        case rel => exact ⟨k + 1, by omega, by go_num, by rw [HK.out]; exact HO.out.below B1.out, HB.out.trans (B1.out.mono HB.out.size)⟩
        case measure => simp [intOf]; omega
      | true =>
        rw [hp] at KF HKS
        simp only [if_true] at HKS
        have HK := Lib.hid HKS
        clear HKS hp
        go_wp2_with (first
          | (go_at_call 91; refine (KF.out _ HB.out).mono ?_; rintro e w1 ⟨rfl, b1⟩; have B1 := Lib.hid b1; obtain ⟨y0, y1, y2, y3, y4, y5, _, _, _, _, _, _⟩ := BX.out.on b1; clear b1)
          | (at_builtin; (refine wpList_append_G tgM rfl _ _ rfl w.heap.size _ ((l.take k).filter p) rfl ((HO.out.below B1.out).alloc _) (some ⟨w1.heap.size, 0, none⟩) 1 1 [x] rfl rfl (rgM_lit _ _ _) (Apart.flat ms_flat) HKL.out (by have := B1.out.size; have := HB.out.size; simp; omega) ?_; intro v2 w2 o2 b2 _ _; have O2 := Lib.hid o2; have B2 := Lib.hid b2; clear o2 b2))
          | fail)
        go_round
        case rel => exact ⟨k + 1, by omega, by go_num, by rw [HK.out]; exact O2.out, ((HB.out.trans (B1.out.mono HB.out.size)).alloc (Nat.le_trans HB.out.size B1.out.size) _).trans B2.out⟩
        case measure => simp [intOf]; omega
    · obtain rfl : k = n := by omega
      rw [List.take_of_length_le (by rw [HL.out]; exact Nat.le_refl _)] at ho
      have HO := Lib.hid ho
      have HB := Lib.hid hb
      clear ho hb
      go_wp2
      go_ret
      exact ⟨_, rfl, HO.out, HB.out⟩
set_option maxHeartbeats 1000000 in
set_option maxRecDepth 100000 in
theorem mgFor_any (A : Option Addr) (n c : Nat) (l : List Ms) (key : ByteArray) (w : World) (hl : l.length = n) (hn : n ≤ 1000) (hr : RG KM w A l) :
    Calls Try.prog 49 #[.slice A n c, .string key] w fun e w' => ∃ v', e = .returned v' ∧ OG KM 40 w.heap.size w' v' (l.filter (mgAbout key)) ∧ Below w.heap.size w w' := by
  have hmf : ∀ (fn : Fn) (first cap : Array Value) (w : World), (Instr.makeFunc fn first cap).run Try.prog w = .ok (.func fn first cap) w := fun _ _ _ _ => rfl
  have HB := Lib.hid (below1 w (.cells #[.string key] 9))
  have HC := Lib.hid (show (w.alloc (.cells #[.string key] 9)).cell? ⟨w.heap.size, 0, none⟩ = some (.string key) from by simp)
  have K := Lib.hid (mgPickF A n c l (mgAbout key) ⟨w.heap.size, 0, none⟩ (w.alloc (.cells #[.string key] 9)) hl hn (hr.alloc _) (fun W x hb => mgForFn_any key x ⟨w.heap.size, 0, none⟩ W ((hb.cell (lt_of_cell HC.out)).trans HC.out)))
  clear hl hr
  go_enter Try.func49, Try.ntmps49
  go_wp2_with (go_at_call 87; refine K.out.mono ?_; rintro e w1 ⟨v1, rfl, o1, b1⟩; have O1 := Lib.hid o1; have B1 := Lib.hid b1; clear o1 b1)
  go_ret
  exact ⟨_, rfl, O1.out.lift HB.out.size, HB.out.trans (B1.out.mono HB.out.size)⟩
theorem mgByte (w : World) (base : Nat) (k : UInt8) (hb : base ≤ w.heap.size) : OB base (w.alloc (.cells #[.int .u8 (k.toNat : Int)] 5)) (.slice (some ⟨w.heap.size, 0, none⟩) 1 1) [k] := OB.one w base _ _ rfl hb
set_option maxHeartbeats 4000000 in
set_option maxRecDepth 100000 in
theorem mgPut_any (m : Ms) (w : World) : Calls Try.prog 18 #[m.v] w fun e w' => ∃ v', e = .returned (.tuple #[v', .int .i64 (checkM m : Int)]) ∧ OB w.heap.size w' v' (if checkM m = 0 then putM m else []) ∧ Below w.heap.size w w' := by
  have BX := Lib.hid (fun W (h : Below (w.alloc (.cells #[.int .u8 (m.kind.toNat : Int), .string m.key, .int .i64 m.txn, .int .i64 m.ts, .bool m.gone, .string m.val] 40)).heap.size (w.alloc (.cells #[.int .u8 (m.kind.toNat : Int), .string m.key, .int .i64 m.txn, .int .i64 m.ts, .bool m.gone, .string m.val] 40)) W) => (MsBox.new w m 40).on h)
  have B := Lib.hid (fun W (h : Below (w.alloc (.cells #[.int .u8 (m.kind.toNat : Int), .string m.key, .int .i64 m.txn, .int .i64 m.ts, .bool m.gone, .string m.val] 40)).heap.size (w.alloc (.cells #[.int .u8 (m.kind.toNat : Int), .string m.key, .int .i64 m.txn, .int .i64 m.ts, .bool m.gone, .string m.val] 40)) W) => (below1 w (.cells #[.int .u8 (m.kind.toNat : Int), .string m.key, .int .i64 m.txn, .int .i64 m.ts, .bool m.gone, .string m.val] 40)).trans (h.mono (below1 w (.cells #[.int .u8 (m.kind.toNat : Int), .string m.key, .int .i64 m.txn, .int .i64 m.ts, .bool m.gone, .string m.val] 40)).size))
  have K0 := Lib.hid (fun W => mgCheck_any m W)
  have hlo := heap_size_alloc w (.cells #[.int .u8 (m.kind.toNat : Int), .string m.key, .int .i64 m.txn, .int .i64 m.ts, .bool m.gone, .string m.val] 40)
  by_cases h0 : checkM m = 0
  · rw [if_pos h0]
    obtain ⟨c1, c2, c3, ⟨t1, t2⟩, ⟨s1, s2⟩, c4, c5⟩ := checkM_zero h0
    have K0 := Lib.hid (fun W => (show Calls Try.prog 51 #[m.v] W (fun e w' => e = .returned (.int .i64 0) ∧ Below W.heap.size W w') from by have h := K0.out W; rw [h0] at h; exact h))
    rw [h0]
    unfold putM Ms.v at *
    obtain ⟨kind, key, txn, ts, gone, val⟩ := m
    dsimp only at *
    obtain ⟨n, rfl⟩ := Int.eq_ofNat_of_zero_le t1
    obtain ⟨k, rfl⟩ := Int.eq_ofNat_of_zero_le s1
    have wn : IntKind.u64.wrap (n : Int) = (n : Int) := by rw [IntKind.wrap_u64]; omega
    have wm : IntKind.u64.wrap (k : Int) = (k : Int) := by rw [IntKind.wrap_u64]; omega
    have KA := Lib.hid (fun W => mgPair_any kind.toNat W)
    have KB := Lib.hid (fun W => mgTxn_any kind.toNat W)
    have KC := Lib.hid (fun W => mgTS_any kind.toNat W)
    have KG := Lib.hid (fun W => mgMark_any gone W)
    have KS1 := Lib.hid (fun W => putSmall_any n W (by omega))
    have KS2 := Lib.hid (fun W => putSmall_any k W (by omega))
    have KT1 := Lib.hid (fun W => putText_any key W (by omega))
    have KT2 := Lib.hid (fun W => putText_any val W (by omega))
    have l1 := Lib.hid (vs_small n (by omega))
    have l2 := Lib.hid (vs_small k (by omega))
    have l3 := Lib.hid (vs_ba key 16 c4)
    have l4 := Lib.hid (vs_ba val 24 c5)
    have HM := Lib.hid (fun W => RB.one W ((vsMark gone).toNat : Int) (vsMark gone) rfl)
    have H5 := Lib.hid (fun W base (hb : base ≤ W.heap.size) => mgByte W base kind hb)
    simp only [Int.toNat_natCast]
    have HK := mg_kinds kind.toNat
    generalize mgPair kind.toNat = a at *
    generalize mgTxn kind.toNat = b at *
    generalize mgTS kind.toNat = c at *
    clear h0 c1 c2 c3 c4 c5 t1 t2 s1 s2
    unfold layM
    rcases HK with ⟨rfl, rfl, rfl⟩ | ⟨rfl, rfl, rfl⟩ | ⟨rfl, rfl, rfl⟩ | ⟨rfl, rfl, rfl⟩ | ⟨rfl, rfl, rfl⟩
    all_goals (
      go_enter Try.func18, Try.ntmps18
      go_wp2_with fail
      refine (K0.out _).mono ?_
      rintro e w1 ⟨rfl, b1⟩
      obtain ⟨x0, x1, x2, x3, x4, x5, _, _, _, _, _, _⟩ := BX.out w1 b1
      have hz := Lib.hid b1.size
      have hzl : w.heap.size < w1.heap.size := by have := b1.size; omega
      have O := Lib.hid (H5.out w1 w1.heap.size (Nat.le_refl _))
      have BS := Lib.hid (show w1.heap.size ≤ (w1.alloc (.cells #[.int .u8 (kind.toNat : Int)] 5)).heap.size from by simp)
      have BB := Lib.hid (b1.alloc hz.out (.cells #[.int .u8 (kind.toNat : Int)] 5))
      have hlo' := Lib.hid hlo
      clear b1 hlo
      obtain ⟨y0, y1, y2, y3, y4, y5, _, _, _, _, _, _⟩ := BX.out _ BB.out
      go_wp2_with (first
        | (go_at_call 52; refine (KA.out _).mono ?_; rintro e w' ⟨rfl, rfl⟩)
        | (go_at_call 53; refine (KB.out _).mono ?_; rintro e w' ⟨rfl, rfl⟩)
        | (go_at_call 54; refine (KC.out _).mono ?_; rintro e w' ⟨rfl, rfl⟩)
        | (go_at_call 55; refine (KG.out _).mono ?_; rintro e w' ⟨rfl, rfl⟩)
        | (go_at_call 37; with_reducible refine Calls.mono (KT1.out _) ?_; rintro e w2 ⟨v2, rfl, o2, b2⟩; obtain ⟨A2, c2, rfl, hc2, r2⟩ := o2.form; have O := Lib.hid (O.out.keep b2 (Nat.le_refl _)); have BB := Lib.hid (BB.out.trans (b2.mono (Nat.le_trans hz.out BS.out))); have BS := Lib.hid (Nat.le_trans BS.out b2.size); have S := Lib.hid r2; obtain ⟨x0, x1, x2, x3, x4, x5, _, _, _, _, _, _⟩ := BX.out w2 BB.out; clear o2 b2 r2)
        | (go_at_call 37; with_reducible refine Calls.mono (KT2.out _) ?_; rintro e w2 ⟨v2, rfl, o2, b2⟩; obtain ⟨A2, c2, rfl, hc2, r2⟩ := o2.form; have O := Lib.hid (O.out.keep b2 (Nat.le_refl _)); have BB := Lib.hid (BB.out.trans (b2.mono (Nat.le_trans hz.out BS.out))); have BS := Lib.hid (Nat.le_trans BS.out b2.size); have S := Lib.hid r2; obtain ⟨x0, x1, x2, x3, x4, x5, _, _, _, _, _, _⟩ := BX.out w2 BB.out; clear o2 b2 r2)
        | (go_at_call 38; with_reducible refine Calls.mono (KS1.out _) ?_; rintro e w2 ⟨v2, rfl, o2, b2⟩; obtain ⟨A2, c2, rfl, hc2, r2⟩ := o2.form; have O := Lib.hid (O.out.keep b2 (Nat.le_refl _)); have BB := Lib.hid (BB.out.trans (b2.mono (Nat.le_trans hz.out BS.out))); have BS := Lib.hid (Nat.le_trans BS.out b2.size); have S := Lib.hid r2; obtain ⟨x0, x1, x2, x3, x4, x5, _, _, _, _, _, _⟩ := BX.out w2 BB.out; clear o2 b2 r2)
        | (go_at_call 38; with_reducible refine Calls.mono (KS2.out _) ?_; rintro e w2 ⟨v2, rfl, o2, b2⟩; obtain ⟨A2, c2, rfl, hc2, r2⟩ := o2.form; have O := Lib.hid (O.out.keep b2 (Nat.le_refl _)); have BB := Lib.hid (BB.out.trans (b2.mono (Nat.le_trans hz.out BS.out))); have BS := Lib.hid (Nat.le_trans BS.out b2.size); have S := Lib.hid r2; obtain ⟨x0, x1, x2, x3, x4, x5, _, _, _, _, _, _⟩ := BX.out w2 BB.out; clear o2 b2 r2)
        | (at_builtin; refine wpList_append_B rfl (.tmp 17) (.tmp 20) rfl w1.heap.size _ _ rfl O.out _ _ _ (putText key.data.toList) rfl rfl S.out (by have := l1.out; have := l2.out; have := l3.out; have := l4.out; simp only [List.length_append, List.length_cons, List.length_nil]; omega) BS.out ?_; intro v3 w3 o3 b3; have BB := Lib.hid (BB.out.trans (b3.mono hz.out)); have BS := Lib.hid (Nat.le_trans BS.out b3.size); have O := Lib.hid o3; obtain ⟨x0, x1, x2, x3, x4, x5, _, _, _, _, _, _⟩ := BX.out w3 BB.out; clear o3 b3)
        | (at_builtin; refine wpList_append_B rfl (.tmp 25) (.tmp 29) rfl w1.heap.size _ _ rfl O.out _ _ _ (putSmall n) rfl rfl S.out (by have := l1.out; have := l2.out; have := l3.out; have := l4.out; simp only [List.length_append, List.length_cons, List.length_nil]; omega) BS.out ?_; intro v3 w3 o3 b3; have BB := Lib.hid (BB.out.trans (b3.mono hz.out)); have BS := Lib.hid (Nat.le_trans BS.out b3.size); have O := Lib.hid o3; obtain ⟨x0, x1, x2, x3, x4, x5, _, _, _, _, _, _⟩ := BX.out w3 BB.out; clear o3 b3)
        | (at_builtin; refine wpList_append_B rfl (.tmp 34) (.tmp 38) rfl w1.heap.size _ _ rfl O.out _ _ _ (putSmall k) rfl rfl S.out (by have := l1.out; have := l2.out; have := l3.out; have := l4.out; simp only [List.length_append, List.length_cons, List.length_nil]; omega) BS.out ?_; intro v3 w3 o3 b3; have BB := Lib.hid (BB.out.trans (b3.mono hz.out)); have BS := Lib.hid (Nat.le_trans BS.out b3.size); have O := Lib.hid o3; obtain ⟨x0, x1, x2, x3, x4, x5, _, _, _, _, _, _⟩ := BX.out w3 BB.out; clear o3 b3)
        | (at_builtin; refine wpList_append_B rfl (.tmp 43) (.tmp 47) rfl w1.heap.size _ _ rfl (O.out.alloc _) _ _ _ [vsMark gone] rfl rfl (HM.out _) (by have := l1.out; have := l2.out; have := l3.out; have := l4.out; simp only [List.length_append, List.length_cons, List.length_nil]; omega) (Nat.le_trans BS.out (Nat.le_of_lt (by simp))) ?_; intro v3 w3 o3 b3; have BB := Lib.hid ((BB.out.alloc (Nat.le_trans hz.out BS.out) _).trans (b3.mono hz.out)); have BS := Lib.hid (Nat.le_trans (Nat.le_trans BS.out (Nat.le_of_lt (by simp))) b3.size); have O := Lib.hid o3; obtain ⟨x0, x1, x2, x3, x4, x5, _, _, _, _, _, _⟩ := BX.out w3 BB.out; clear o3 b3)
        | (at_builtin; refine wpList_append_B rfl (.tmp 49) (.tmp 52) rfl w1.heap.size _ _ rfl O.out _ _ _ (putText val.data.toList) rfl rfl S.out (by have := l1.out; have := l2.out; have := l3.out; have := l4.out; simp only [List.length_append, List.length_cons, List.length_nil]; omega) BS.out ?_; intro v3 w3 o3 b3; have BB := Lib.hid (BB.out.trans (b3.mono hz.out)); have BS := Lib.hid (Nat.le_trans BS.out b3.size); have O := Lib.hid o3; obtain ⟨x0, x1, x2, x3, x4, x5, _, _, _, _, _, _⟩ := BX.out w3 BB.out; clear o3 b3)
        | fail)
      go_ret2
      refine ⟨_, rfl, ?_, B.out _ BB.out⟩
      have := O.out.lift (B := w.heap.size) (Nat.le_of_lt hzl)
      simpa using this)
  · rw [if_neg h0]
    have d0 : ((checkM m : Int) != 0) = true := by simp; omega
    generalize checkM m = E at *
    unfold Ms.v at *
    clear h0
    go_enter Try.func18, Try.ntmps18
    go_wp2_with fail
    refine (K0.out _).mono ?_
    rintro e w1 ⟨rfl, b1⟩
    go_wp2
    go_ret2
    exact ⟨_, rfl, OB.nil, B.out _ b1⟩
def sizeM (m : Ms) : Nat := if checkM m = 0 then (putM m).length else 0
set_option maxHeartbeats 1000000 in
theorem mgSize_any (m : Ms) (w : World) : Calls Try.prog 22 #[m.v] w fun e w' => e = .returned (.int .i64 (sizeM m : Int)) ∧ Below w.heap.size w w' := by
  have K := Lib.hid (fun W => mgPut_any m W)
  have HB := Lib.hid (below1 w (.cells #[.int .u8 (m.kind.toNat : Int), .string m.key, .int .i64 m.txn, .int .i64 m.ts, .bool m.gone, .string m.val] 40))
  have HS : Hid ((if checkM m = 0 then putM m else []).length = sizeM m) := Lib.hid (by unfold sizeM; split <;> rfl)
  generalize (if checkM m = 0 then putM m else []) = P at *
  generalize checkM m = E at *
  generalize sizeM m = Z at *
  unfold Ms.v at *
  go_enter Try.func22, Try.ntmps22
  go_wp2_with (go_at_call 18; refine (K.out _).mono ?_; rintro e w1 ⟨v1, rfl, o1, b1⟩; obtain ⟨A1, c1, rfl, _, _⟩ := o1.form; have HB := Lib.hid (HB.out.trans (b1.mono HB.out.size)); clear o1 b1)
  go_ret
  exact ⟨by rw [HS.out]; rfl, HB.out⟩
end Go.Proofs.Ytjmmaghjbaigiaa
