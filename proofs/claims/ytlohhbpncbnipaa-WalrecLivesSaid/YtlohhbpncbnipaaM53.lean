/- Joined: WrJ RwA WrK. -/
import Derived.Test.YtlohhbpncbnipaaM45
import Derived.Test.YtlohhbpncbnipaaM01
import Derived.Deep.OwnRows
import Derived.Deep.RegionHeld3
section
/- Records in a row; Light, and the greatest time, of both. -/
namespace Go.Proofs.Ytlohhbpncbnipaa
open Go.RowKit
set_option linter.unusedVariables false
set_option linter.unusedSimpArgs false
theorem add_posR (p : Addr) (i : Nat) (h : i ≠ 0) : p.add i = ⟨p.block, p.off + i, none⟩ := by simp [Addr.add, h]
/-- A record lies at a place. -/
structure RcAt (w : World) (p : Addr) (r : Rec) : Prop where
  c0 : w.cell? (p.add 0) = some (.int .u8 (r.kind : Int))
  c1 : w.cell? (p.add 1) = some (.int .i64 r.txn)
  c2 : w.cell? (p.add 2) = some (.int .i64 r.ts)
  c3 : w.cell? (p.add 3) = some (.string r.key)
  c4 : w.cell? (p.add 4) = some (.bool r.gone)
  c5 : w.cell? (p.add 5) = some (.string r.val)
  fit : r.fits
theorem RcAt.d0 {w : World} {p : Addr} {r : Rec} (h : RcAt w p r) : w.cell? p = some (.int .u8 (r.kind : Int)) := by have := h.c0; rwa [Addr.add_nought] at this
theorem RcAt.d1 {w : World} {p : Addr} {r : Rec} (h : RcAt w p r) : w.cell? ⟨p.block, p.off + 1, none⟩ = some (.int .i64 r.txn) := by rw [← add_posR p 1 (by omega)]; exact h.c1
theorem RcAt.d2 {w : World} {p : Addr} {r : Rec} (h : RcAt w p r) : w.cell? ⟨p.block, p.off + 2, none⟩ = some (.int .i64 r.ts) := by rw [← add_posR p 2 (by omega)]; exact h.c2
theorem RcAt.d3 {w : World} {p : Addr} {r : Rec} (h : RcAt w p r) : w.cell? ⟨p.block, p.off + 3, none⟩ = some (.string r.key) := by rw [← add_posR p 3 (by omega)]; exact h.c3
theorem RcAt.d4 {w : World} {p : Addr} {r : Rec} (h : RcAt w p r) : w.cell? ⟨p.block, p.off + 4, none⟩ = some (.bool r.gone) := by rw [← add_posR p 4 (by omega)]; exact h.c4
theorem RcAt.d5 {w : World} {p : Addr} {r : Rec} (h : RcAt w p r) : w.cell? ⟨p.block, p.off + 5, none⟩ = some (.string r.val) := by rw [← add_posR p 5 (by omega)]; exact h.c5
theorem RcAt.lt {w : World} {p : Addr} {r : Rec} (h : RcAt w p r) : p.block < w.heap.size := lt_of_cell h.d0
theorem RcAt.keep {w w' : World} {p : Addr} {r : Rec} (h : RcAt w p r) (hk : ∀ q : Addr, q.block < w.heap.size → w'.cell? q = w.cell? q) : RcAt w' p r :=
  ⟨(hk _ (lt_of_cell h.c0)).trans h.c0, (hk _ (lt_of_cell h.c1)).trans h.c1, (hk _ (lt_of_cell h.c2)).trans h.c2, (hk _ (lt_of_cell h.c3)).trans h.c3, (hk _ (lt_of_cell h.c4)).trans h.c4, (hk _ (lt_of_cell h.c5)).trans h.c5, h.fit⟩
/-- Records lie in a row. -/
def RcsAt (w : World) (A : Option Addr) (l : List Rec) : Prop := l = [] ∨ ∃ ad, A = some ad ∧ ∀ (i : Nat) (a : Rec), l[i]? = some a → RcAt w (ad.add (i * 6)) a
theorem RcsAt.keep {w w' : World} {A : Option Addr} {l : List Rec} (h : RcsAt w A l) (hk : ∀ q : Addr, q.block < w.heap.size → w'.cell? q = w.cell? q) : RcsAt w' A l := by
  rcases h with rfl | ⟨ad, rfl, hc⟩
  · exact .inl rfl
  · exact .inr ⟨ad, rfl, fun i a hi => (hc i a hi).keep hk⟩
theorem RcsAt.below {w w' : World} {A : Option Addr} {l : List Rec} (h : RcsAt w A l) (hb : Below w.heap.size w w') : RcsAt w' A l := h.keep fun q hq => hb.cell hq
theorem RcsAt.at_ {w : World} {A : Option Addr} {l : List Rec} (h : RcsAt w A l) {i : Nat} (hi : i < l.length) : ∃ ad a, A = some ad ∧ l[i]? = some a ∧ RcAt w (ad.add (i * 6)) a := by
  rcases h with rfl | ⟨ad, rfl, hc⟩
  · simp at hi
  · exact ⟨ad, l[i], rfl, List.getElem?_eq_getElem hi, hc i _ (List.getElem?_eq_getElem hi)⟩
/-- Few records, with short texts. -/
def lightR (l : List Rec) (most : Nat) : Bool := decide (l.length ≤ most) && l.all fun a => decide (a.key.size ≤ 100 ∧ a.val.size ≤ 100)
theorem lightR_at {l : List Rec} {most : Nat} (h : lightR l most = true) : l.length ≤ most ∧ ∀ (i : Nat) (a : Rec), l[i]? = some a → a.key.size ≤ 100 ∧ a.val.size ≤ 100 := by
  unfold lightR at h
  simp only [Bool.and_eq_true, decide_eq_true_eq, List.all_eq_true] at h
  exact ⟨h.1, fun i a hi => h.2 a (List.mem_of_getElem? hi)⟩
set_option maxHeartbeats 1000000 in
set_option maxRecDepth 100000 in
theorem light_any (A : Option Addr) (n c : Nat) (l : List Rec) (most : Nat) (w : World) (hl : l.length = n) (hn : n ≤ maxLen) (ha : RcsAt w A l) :
    Calls Try.prog 8 #[.slice A n c, .int .i64 (most : Int)] w fun e w' => e = .returned (.bool (lightR l most)) ∧ w = w' := by
  have HL := Lib.hid hl
  have HN : n ≤ 9223372036854775807 := by simp only [maxLen] at hn; omega
  clear hn
  by_cases h0 : most < n
  · have HF := Lib.hid (show lightR l most = false from by unfold lightR; rw [hl, decide_eq_false (by omega)]; rfl)
    have h1 : (most : Int) < (n : Int) := by omega
    clear h0 hl
    generalize lightR l most = R at *
    go_enter Try.func8, Try.ntmps8
    go_wp2
    go_ret
    rw [HF.out]
    exact ⟨rfl, rfl⟩
  · have HF := Lib.hid (show lightR l most = l.all fun a => decide (a.key.size ≤ 100 ∧ a.val.size ≤ 100) from by unfold lightR; rw [hl, decide_eq_true (by omega)]; rfl)
    have h1 : (n : Int) ≤ (most : Int) := by omega
    clear h0 hl
    generalize lightR l most = R at *
    go_enter Try.func8, Try.ntmps8
    go_wp2
    go_loop [5] (fun i => ∃ k : Nat, k ≤ n ∧ i = .int .i64 (k : Int) ∧ ∀ (j : Nat) (a : Rec), j < k → l[j]? = some a → a.key.size ≤ 100 ∧ a.val.size ≤ 100) (fun i => n - (RowKit.intOf i).toNat)
    case atStart => exact ⟨0, Nat.zero_le _, rfl, fun j a hj => by omega⟩
    case round =>
      obtain ⟨k, hk, rfl, hall⟩ := hrel
      have HA := Lib.hid hall
      clear hall
      by_cases hlt : k < n
      · have hk' : (k : Int) < (n : Int) := by omega
        obtain ⟨ad, a, rfl, hka, hat⟩ := ha.at_ (i := k) (by rw [HL.out]; exact hlt)
        have HK := Lib.hid hka
        have x3 := hat.d3
        have x5 := hat.d5
        clear hka hat
        by_cases hb : 100 < a.key.size ∨ 100 < a.val.size
        · have HF2 := Lib.hid (show (l.all fun a => decide (a.key.size ≤ 100 ∧ a.val.size ≤ 100)) = false from by
            rw [List.all_eq_false]
            exact ⟨a, List.mem_of_getElem? HK.out, by simp; omega⟩)
          by_cases hb1 : 100 < a.key.size
          · have hb' : decide ((100 : Int) < (a.key.size : Int)) = true := by simp; omega
            clear hb
            go_wp2
            go_ret
            rw [HF.out, HF2.out]
            exact ⟨rfl, rfl⟩
          · have hb' : decide ((100 : Int) < (a.key.size : Int)) = false := by simp; omega
            have hb2 : decide ((100 : Int) < (a.val.size : Int)) = true := by simp; omega
            clear hb
            go_wp2
            go_ret
            rw [HF.out, HF2.out]
            exact ⟨rfl, rfl⟩
        · have hb' : decide ((100 : Int) < (a.key.size : Int)) = false := by simp; omega
          have hb2 : decide ((100 : Int) < (a.val.size : Int)) = false := by simp; omega
          have HB := Lib.hid (show a.key.size ≤ 100 ∧ a.val.size ≤ 100 from by omega)
          clear hb
          go_wp2
          go_round
          case rel =>
            refine ⟨k + 1, by omega, by go_num, fun j x hj hx => ?_⟩
            by_cases e : j = k
            · subst e
              rw [HK.out] at hx
              injection hx with hx
              subst hx
              exact HB.out
            · exact HA.out j x (by omega) hx
          case measure => simp [RowKit.intOf]; omega
      · obtain rfl : k = n := by omega
        have HF2 := Lib.hid (show (l.all fun a => decide (a.key.size ≤ 100 ∧ a.val.size ≤ 100)) = true from by
          rw [List.all_eq_true]
          intro a ha
          obtain ⟨i, hi, rfl⟩ := List.getElem_of_mem ha
          exact decide_eq_true (HA.out i _ (by rw [← HL.out]; exact hi) (List.getElem?_eq_getElem hi)))
        go_wp2
        go_ret
        rw [HF.out, HF2.out]
        exact ⟨rfl, rfl⟩
/-- The greatest time. -/
def clockR (l : List Rec) (z : Int) : Int := l.foldl (fun a r => max a r.ts) z
theorem clockR_snoc {l : List Rec} {k : Nat} {r : Rec} {z : Int} (h : l[k]? = some r) : clockR (l.take (k + 1)) z = max (clockR (l.take k) z) r.ts := by
  rw [List.take_add_one, h]
  simp [clockR]
theorem run_max2I (w : World) (ats : Array TypeId) (ty : TypeId) (a b m : Int) (h : max a b = m) : (Builtin.max_ ats ty #[.int .i64 a, .int .i64 b]).run Try.prog w = .ok (.int .i64 m) w := by
  subst h
  have h2 : ∀ (x y : Int), (Builtin.max2 (.int .i64 x) (.int .i64 y)).run Try.prog w = .ok (.int .i64 (max x y)) w := fun x y => by
    simp only [Builtin.max2, Sem.run_pure]
    by_cases h : y > x
    · rw [if_pos h, Int.max_eq_right (by omega)]
    · rw [if_neg h, Int.max_eq_left (by omega)]
  simp [Builtin.max_, h2]
set_option maxHeartbeats 1000000 in
set_option maxRecDepth 100000 in
theorem refClock_any (A : Option Addr) (n c : Nat) (l : List Rec) (z : Int) (w : World) (hl : l.length = n) (hn : n ≤ maxLen) (ha : RcsAt w A l) :
    Calls Try.prog 19 #[.slice A n c, .int .i64 z] w fun e w' => e = .returned (.int .i64 (clockR l z)) ∧ w = w' := by
  have HL := Lib.hid hl
  have HN : n ≤ 9223372036854775807 := by simp only [maxLen] at hn; omega
  clear hn hl
  go_enter Try.func19, Try.ntmps19
  go_wp2
  go_loop [1, 5] (fun v i => ∃ k : Nat, k ≤ n ∧ i = .int .i64 (k : Int) ∧ v = .int .i64 (clockR (l.take k) z)) (fun _ i => n - (RowKit.intOf i).toNat)
  case atStart => exact ⟨0, Nat.zero_le _, rfl, rfl⟩
  case round =>
    obtain ⟨k, hk, rfl, rfl⟩ := hrel
    by_cases hlt : k < n
    · have hk' : (k : Int) < (n : Int) := by omega
      obtain ⟨ad, a, rfl, hka, hat⟩ := ha.at_ (i := k) (by rw [HL.out]; exact hlt)
      have HK := Lib.hid (clockR_snoc (z := z) hka)
      have x2 := hat.d2
      obtain ⟨m, hm⟩ : ∃ m, m = max (clockR (l.take k) z) a.ts := ⟨_, rfl⟩
      have HM := Lib.hid hm
      have KM := fun W (ats : Array TypeId) (ty : TypeId) => run_max2I W ats ty (clockR (l.take k) z) a.ts m hm.symm
      clear hka hat hm
      generalize clockR (l.take k) z = y at *
      go_wp2
      go_round
      case rel => exact ⟨k + 1, by omega, by go_num, by rw [HK.out, HM.out]⟩
      case measure => simp [RowKit.intOf]; omega
    · obtain rfl : k = n := by omega
      have HF := Lib.hid (show clockR (l.take k) z = clockR l z from by rw [List.take_of_length_le (by rw [HL.out]; exact Nat.le_refl _)])
      go_wp2
      go_ret
      exact ⟨by rw [HF.out]; rfl, rfl⟩
set_option maxHeartbeats 1000000 in
set_option maxRecDepth 100000 in
theorem clock_any (A : Option Addr) (n c : Nat) (l : List Rec) (z : Int) (w : World) (hl : l.length = n) (hn : n ≤ maxLen) (ha : RcsAt w A l) :
    Calls Try.prog 18 #[.slice A n c, .int .i64 z] w fun e w' => e = .returned (.int .i64 (clockR l z)) ∧ Below w.heap.size w w' := by
  have HL := Lib.hid hl
  have HN : n ≤ 9223372036854775807 := by simp only [maxLen] at hn; omega
  clear hn hl
  go_enter Try.func18, Try.ntmps18
  go_wp2
  go_loopw [5, 7, 11] (fun v _ i wr => ∃ k : Nat, k ≤ n ∧ i = .int .i64 (k : Int) ∧ v = .int .i64 (clockR (l.take k) z) ∧ Below w.heap.size w wr) (fun _ _ i _ => n - (RowKit.intOf i).toNat)
  case atStart => exact ⟨0, Nat.zero_le _, rfl, rfl, Below.refl _ _⟩
  case round =>
    obtain ⟨k, hk, rfl, rfl, hB⟩ := hrel
    by_cases hlt : k < n
    · have hk' : (k : Int) < (n : Int) := by omega
      obtain ⟨ad, a, rfl, hka, hat⟩ := (ha.below hB).at_ (i := k) (by rw [HL.out]; exact hlt)
      have HK := Lib.hid (clockR_snoc (z := z) hka)
      have x0 := hat.d0
      have x1 := hat.d1
      have x2 := hat.d2
      have x3 := hat.d3
      have x4 := hat.d4
      have x5 := hat.d5
      obtain ⟨m, hm⟩ : ∃ m, m = max (clockR (l.take k) z) a.ts := ⟨_, rfl⟩
      have HM := Lib.hid hm
      have KM := fun W (ats : Array TypeId) (ty : TypeId) => run_max2I W ats ty (clockR (l.take k) z) a.ts m hm.symm
      have HB := Lib.hid (fun o => hB.alloc hB.size o)
      have hlt2 := hat.lt
      clear hka hat hm hB
      generalize clockR (l.take k) z = y at *
      go_wp2
      go_round
      case rel => exact ⟨k + 1, by omega, by go_num, by rw [HK.out, HM.out], HB.out _⟩
      case measure => simp [RowKit.intOf]; omega
    · obtain rfl : k = n := by omega
      have HF := Lib.hid (show clockR (l.take k) z = clockR l z from by rw [List.take_of_length_le (by rw [HL.out]; exact Nat.le_refl _)])
      have HB := Lib.hid hB
      clear hB
      go_wp2
      go_ret
      exact ⟨by rw [HF.out]; rfl, HB.out⟩
end Go.Proofs.Ytlohhbpncbnipaa
end
section
/- Rows of rows of bytes: what reads as them, and how a list of them grows. -/
namespace Go.Proofs.Ytlohhbpncbnipaa
open Go.RowKit
set_option linter.unusedVariables false
set_option linter.unusedSimpArgs false
theorem add_at (q l : Nat) : (⟨q, 0, none⟩ : Addr).add l = ⟨q, l, none⟩ := by cases l <;> simp [Addr.add]
/-- The slice of slices at A reads as the rows L. -/
def RBS (w : World) (A : Option Addr) (L : List (List UInt8)) : Prop :=
  ∀ (j : Nat) (l : List UInt8), L[j]? = some l → ∃ (ad : Addr) (B : Option Addr) (c : Nat), A = some ad ∧ w.cell? (ad.add j) = some (.slice B l.length c) ∧ l.length ≤ c ∧ c ≤ maxLen ∧ RB w B l
theorem RBS.keep {w w' : World} {A : Option Addr} {L : List (List UInt8)} (h : RBS w A L) (hk : ∀ p : Addr, p.block < w.heap.size → w'.cell? p = w.cell? p) : RBS w' A L := fun j l hj => by
  obtain ⟨ad, B, c, e, h1, h2, h3, h4⟩ := h j l hj
  exact ⟨ad, B, c, e, (hk _ (lt_of_cell h1)).trans h1, h2, h3, h4.keep hk⟩
theorem RBS.below {w w' : World} {A : Option Addr} {L : List (List UInt8)} (h : RBS w A L) (hb : Below w.heap.size w w') : RBS w' A L := h.keep fun _ hp => hb.cell hp
theorem RBS.alloc {w : World} {A : Option Addr} {L : List (List UInt8)} (h : RBS w A L) (o : Obj) : RBS (w.alloc o) A L := h.keep fun p hp => World.cell?_alloc_lt w o p hp
theorem RBS.drew {w : World} {A : Option Addr} {L : List (List UInt8)} (h : RBS w A L) : RBS w.drew A L := h
theorem RBS.nil {w : World} {A : Option Addr} : RBS w A [] := fun j l hj => by simp at hj

theorem infoRow : (Try.prog.info? 27).map (fun i => (i.zero, i.size, i.bytes)) = some (some (.slice none 0 0), 1, 24) := by kernel_rfl
/-- A block is a row of slices. -/
def Row (w : World) (g : Nat) (vs : List Value) : Prop := w.heap[g]? = some (.cells vs.toArray 27 (0, 0))
theorem Row.new (w : World) (vs : List Value) : Row (w.alloc (.cells vs.toArray 27)) w.heap.size vs := by
  unfold Row World.alloc
  simp
theorem Row.at {w : World} {g : Nat} {vs : List Value} (h : Row w g vs) {k : Nat} {x : Value} (hk : vs[k]? = some x) :
    w.cell? ⟨g, k, none⟩ = some x ∧ w.frozen? ⟨g, k, none⟩ = false ∧ ∀ y, Row (w.setCell ⟨g, k, none⟩ y) g (vs.set k y) := by
  have h' : w.heap[g]? = some (.cells vs.toArray 27 (0, 0)) := h
  refine ⟨?_, by simp [World.frozen?, h'], fun y => ?_⟩
  · rw [cell_of_row w g k _ _ _ h]
    simp [hk]
  · unfold Row
    rw [heap_setCell_same w g k _ _ y h]
    simp
theorem Row.below {w w' : World} {g B : Nat} {vs : List Value} (h : Row w g vs) (hb : Below B w w') (hB : g < B) : Row w' g vs := (hb.block g hB).trans h
theorem Row.lt {w : World} {g : Nat} {vs : List Value} (h : Row w g vs) : g < w.heap.size := (Array.getElem?_eq_some_iff.1 h).1
theorem take_snocG {α : Type} {l : List α} {k : Nat} {x : α} (h : l[k]? = some x) : l.take (k + 1) = l.take k ++ [x] := by
  rw [List.take_add_one, h]; rfl
theorem run_append_row {base : Nat} {w : World} {v : Value} {n : Nat} {vs : List Value} (ty : TypeId) (hown : w.ownsRow base 27 1 v n vs) {g : Nat} {u : Value} (hg : Row w g [u]) (h1 : u.oneCell' = true) (hn : n ≤ 1000000) (hbase : base ≤ w.heap.size) :
    ∃ v' w', (Builtin.append_ #[44, 44] ty #[v, .slice (some ⟨g, 0, none⟩) 1 1]).run Try.prog w = .ok v' w' ∧ w'.ownsRow base 27 1 v' (n + 1) (vs ++ [u]) ∧ w.grownBy w' v.ownBlock ∧ (v'.ownBlock = v.ownBlock ∨ v'.ownBlock = some w.heap.size) := by
  obtain ⟨i0, hi, hz0, hz1, hz2⟩ := info_parts infoRow
  obtain ⟨v', w', hrun, h2, h3, _, h5⟩ := run_append_own_at (P := Try.prog) w base 44 ty 27 i0 _ 1 24 Try.underlying44 hi hz0 hz1 hz2 rfl (by omega) v n vs hown ⟨g, 0, none⟩ 1 1 [u]
    rfl (fun j x hx => by
      rw [add_at, cell_of_row w g j _ _ _ hg]
      simpa using hx) (by simpa using h1) (by simp only [maxLen]; omega) (by omega) hbase
  exact ⟨v', w', hrun, h2, h3, h5⟩
/-- While a list of sectors grows: the first k of M are in it. -/
def OutRel (w : World) (M : List (List UInt8)) (k : Nat) (v : Value) (wr : World) : Prop :=
  ∃ vs : List Value, wr.ownsRow w.heap.size 27 1 v k vs ∧
    (∀ (j : Nat) (l : List UInt8), (M.take k)[j]? = some l → ∃ (ad : Addr) (c : Nat), vs[j]? = some (.slice (some ad) l.length c) ∧ l.length ≤ c ∧ c ≤ maxLen ∧ RB wr (some ad) l ∧ ad.block < wr.heap.size ∧ v.ownBlock ≠ some ad.block) ∧
    w.heap.size ≤ wr.heap.size ∧ Below w.heap.size w wr
theorem OutRel.start {w wr : World} {M : List (List UInt8)} (hb : Below w.heap.size w wr) : OutRel w M 0 (.slice none 0 0) wr :=
  ⟨[], World.ownsRow_nil wr w.heap.size 27 1, fun j l hj => by simp at hj, hb.size, hb⟩
theorem ownsRow_below {base : Nat} {w w' : World} {v : Value} {n : Nat} {vs : List Value} {e : TypeId} (h : w.ownsRow base e 1 v n vs) (hb : Below w.heap.size w w') : w'.ownsRow base e 1 v n vs := by
  refine ⟨h.1, ?_⟩
  rcases h.2 with h | ⟨g, cap, cur, e, hb', hh, r⟩
  · exact .inl h
  · exact .inr ⟨g, cap, cur, e, hb', (hb.block g (Array.getElem?_eq_some_iff.1 hh).1).trans hh, r⟩
theorem OutRel.below {w wr W : World} {M : List (List UInt8)} {k : Nat} {v : Value} (h : OutRel w M k v wr) (hb : Below wr.heap.size wr W) : OutRel w M k v W := by
  obtain ⟨vs, h1, h2, h3, h4⟩ := h
  refine ⟨vs, ownsRow_below h1 hb, fun j l hj => ?_, Nat.le_trans h3 hb.size, h4.trans (hb.mono h3)⟩
  obtain ⟨ad, c, g1, g2, g3, g4, g5, g6⟩ := h2 j l hj
  exact ⟨ad, c, g1, g2, g3, g4.below hb, Nat.lt_of_lt_of_le g5 hb.size, g6⟩
theorem OutRel.append {w W : World} {M : List (List UInt8)} {k : Nat} {v : Value} (ty : TypeId) (h : OutRel w M k v W) (hk : k ≤ 1000) {l : List UInt8} (hM : M[k]? = some l) {ad : Addr} {c g : Nat} (h2 : l.length ≤ c) (h3 : c ≤ maxLen) (h4 : RB W (some ad) l) (h5 : ad.block < W.heap.size) (h6 : v.ownBlock ≠ some ad.block)
    (hg : Row W g [.slice (some ad) l.length c]) :
    ∃ v' w', (Builtin.append_ #[44, 44] ty #[v, .slice (some ⟨g, 0, none⟩) 1 1]).run Try.prog W = .ok v' w' ∧ OutRel w M (k + 1) v' w' := by
  obtain ⟨vs, a1, a2, a3, a4⟩ := h
  obtain ⟨v', w', hrun, b1, b2, b3⟩ := run_append_row ty a1 hg rfl (by omega) (by omega)
  refine ⟨v', w', hrun, vs ++ [.slice (some ad) l.length c], b1, fun j x hj => ?_, Nat.le_trans a3 b2.size, a4.grown b2 a3 (fun q hq => (World.ownsRow.lt a1 q hq).1)⟩
  have hvl : vs.length = k := by have := a1.1; omega
  have hkl : k < M.length := (List.getElem?_eq_some_iff.1 hM).1
  have nb : ∀ (a : Addr), a.block < W.heap.size → v.ownBlock ≠ some a.block → v'.ownBlock ≠ some a.block := fun a e1 e2 e3 => by
    rcases b3 with b3 | b3
    · exact e2 (by rw [← b3]; exact e3)
    · rw [b3] at e3
      injection e3 with e3
      omega
  rw [take_snocG hM] at hj
  by_cases hlt : j < k
  · rw [List.getElem?_append_left (by rw [List.length_take]; omega)] at hj
    obtain ⟨ad', c', g1, g2, g3, g4, g5, g6⟩ := a2 j x hj
    exact ⟨ad', c', by rw [List.getElem?_append_left (by omega)]; exact g1, g2, g3, g4.grown b2 (fun e => g6 e.symm), Nat.lt_of_lt_of_le g5 b2.size, nb ad' g5 g6⟩
  · have hjk : j = k := by
      have h7 := (List.getElem?_eq_some_iff.1 hj).1
      simp at h7
      omega
    subst hjk
    rw [List.getElem?_append_right (by rw [List.length_take]; omega), List.length_take, show j - min j M.length = 0 by omega] at hj
    simp only [List.getElem?_cons_zero, Option.some.injEq] at hj
    subst hj
    exact ⟨ad, c, by rw [List.getElem?_append_right (by omega), hvl, Nat.sub_self]; rfl, h2, h3, h4.grown b2 (fun e => h6 e.symm), Nat.lt_of_lt_of_le h5 b2.size, nb ad h5 h6⟩
theorem wpList_append_out {w W : World} {M : List (List UInt8)} {k : Nat} {v : Value} {ops : Array Oper} {rest : List Oper} {o : Oper} {a : Act} {Q : Exit → Act → World → Prop} (hgd : o.guard = none) (s x : Operand)
    (ho : o.op = .call { callee := .builtin .append, args := #[s, x], argTypes := #[44, 44] })
    (h : OutRel w M k v W) (hk : k ≤ 1000) {l : List UInt8} (hM : M[k]? = some l) {ad : Addr} {c g : Nat} (h2 : l.length ≤ c) (h3 : c ≤ maxLen) (h4 : RB W (some ad) l) (h5 : ad.block < W.heap.size) (h6 : v.ownBlock ≠ some ad.block)
    (hg : Row W g [.slice (some ad) l.length c]) (hs : a.eval s = v) (hx : a.eval x = .slice (some ⟨g, 0, none⟩) 1 1)
    (hh : ∀ v' w', Hid (OutRel w M (k + 1) v' w') → wpList Try.prog ops Q rest (a.put o.dst v') w') : wpList Try.prog ops Q (o :: rest) a W :=
  wpList_plain hgd fun K hK => by
    obtain ⟨v', w', hrun, h7⟩ := OutRel.append o.type h hk hM h2 h3 h4 h5 h6 hg
    unfold Oper.wp execOp
    simp only [ho, resolve, invoke, builtin, Sem.run_bind, Sem.run_pure, Result.andThen_ok, List.map_toArray, List.map_cons, List.map_nil, hs, hx, hrun]
    exact hK _ _ (hh v' w' (Lib.hid h7))
theorem step_append_out {w W : World} {M : List (List UInt8)} {k : Nat} {v : Value} {ops : Array Oper} {o : Oper} {a : Act} {K : Act → World → Prop} {Q : Exit → Act → World → Prop} {E : Prop} (hgd : o.guard = none) (s x : Operand)
    (ho : o.op = .call { callee := .builtin .append, args := #[s, x], argTypes := #[44, 44] })
    (h : OutRel w M k v W) (hk : k ≤ 1000) {l : List UInt8} (hM : M[k]? = some l) {ad : Addr} {c g : Nat} (h2 : l.length ≤ c) (h3 : c ≤ maxLen) (h4 : RB W (some ad) l) (h5 : ad.block < W.heap.size) (h6 : v.ownBlock ≠ some ad.block)
    (hg : Row W g [.slice (some ad) l.length c]) (hs : a.eval s = v) (hx : a.eval x = .slice (some ⟨g, 0, none⟩) 1 1)
    (hh : ∀ v' w', Hid (OutRel w M (k + 1) v' w') → K (a.put o.dst v') w') :
    if Region.wanted o (yielded ops a.tmps) = true then Oper.wp Try.prog o a W K Q else E := by
  have hw : Region.wanted o (yielded ops a.tmps) = true := by simp [Region.wanted, hgd]
  rw [if_pos hw]
  obtain ⟨v', w', hrun, h7⟩ := OutRel.append o.type h hk hM h2 h3 h4 h5 h6 hg
  unfold Oper.wp execOp
  simp only [ho, resolve, invoke, builtin, Sem.run_bind, Sem.run_pure, Result.andThen_ok, List.map_toArray, List.map_cons, List.map_nil, hs, hx, hrun]
  exact hh v' w' (Lib.hid h7)
theorem OutRel.rbs {w W : World} {M : List (List UInt8)} {k : Nat} {v : Value} (h : OutRel w M k v W) (hk : 0 < k) (hM : M.length = k) : ∃ A c, v = .slice A k c ∧ k ≤ c ∧ c ≤ maxLen ∧ RBS W A M := by
  obtain ⟨vs, a1, a2, a3, a4⟩ := h
  rcases a1.2 with ⟨_, h0⟩ | ⟨g, cap, cur, e, hb, hh, hc, hm, _⟩
  · omega
  · refine ⟨_, cap, e, hc, hm, fun j l hj => ?_⟩
    obtain ⟨ad, c, g1, g2, g3, g4, _⟩ := a2 j l (by rw [List.take_of_length_le (by omega)]; exact hj)
    subst e
    exact ⟨_, some ad, c, rfl, World.ownsRow.cells a1 (g := g) rfl j _ g1, g2, g3, g4⟩
theorem OB.row {base : Nat} {w : World} {v : Value} {l : List UInt8} (h : OB base w v l) (hl : 0 < l.length) : ∃ ad c, v = .slice (some ad) l.length c ∧ l.length ≤ c ∧ c ≤ maxLen ∧ RB w (some ad) l ∧ base ≤ ad.block ∧ ad.block < w.heap.size := by
  have hf := h.form
  unfold OB at h
  rcases h.2 with ⟨e, hn⟩ | ⟨g, cap, cur, e, hb, hh, hc, hm, hsz, ht⟩
  · omega
  · obtain ⟨A, c, e2, h2, h3⟩ := hf
    rw [e] at e2
    injection e2 with e3 e4 e5
    subst e3 e5
    exact ⟨_, _, e, hc, hm, h3, hb, (Array.getElem?_eq_some_iff.1 hh).1⟩
end Go.Proofs.Ytlohhbpncbnipaa
end
section
/- All: the records' bytes in a list. -/
namespace Go.Proofs.Ytlohhbpncbnipaa
open Go.RowKit
set_option linter.unusedVariables false
set_option linter.unusedSimpArgs false
theorem OutRel.rbs0 {w W : World} {M : List (List UInt8)} {k : Nat} {v : Value} (h : OutRel w M k v W) (hM : M.length = k) : ∃ A c, v = .slice A k c ∧ k ≤ c ∧ c ≤ maxLen ∧ RBS W A M := by
  obtain ⟨vs, a1, a2, a3, a4⟩ := h
  rcases a1.2 with ⟨h1, h0⟩ | ⟨g, cap, cur, e, hb, hh, hc, hm, _⟩
  · subst h0
    have : M = [] := List.length_eq_zero_iff.1 hM
    subst this
    exact ⟨none, 0, by simpa using h1, Nat.le_refl _, Nat.zero_le _, RBS.nil⟩
  · refine ⟨_, cap, e, hc, hm, fun j l hj => ?_⟩
    obtain ⟨ad, c, g1, g2, g3, g4, _⟩ := a2 j l (by rw [List.take_of_length_le (by omega)]; exact hj)
    subst e
    exact ⟨_, some ad, c, rfl, World.ownsRow.cells a1 (g := g) rfl j _ g1, g2, g3, g4⟩
/-- What All tells of records. -/
def AllOf (l : List Rec) (v : Value) (z : Nat) (w : World) : Prop :=
  (z = 0 ∧ (∀ (j : Nat) (r : Rec), l[j]? = some r → checkR r = 0) ∧ ∃ A c, v = .slice A l.length c ∧ l.length ≤ c ∧ c ≤ maxLen ∧ RBS w A (l.map putR)) ∨
  (∃ (k : Nat) (r : Rec), l[k]? = some r ∧ checkR r = z ∧ z ≠ 0 ∧ (∀ (j : Nat) (r : Rec), j < k → l[j]? = some r → checkR r = 0) ∧ v = .slice none 0 0)
theorem putR_pos (r : Rec) : 0 < (putR r).length := by simp [putR, layR]
theorem wpList_make_out {w : World} {M : List (List UInt8)} {ops : Array Oper} {rest : List Oper} {o : Oper} {a : Act} {Q : Exit → Act → World → Prop} (hgd : o.guard = none) (s x : Operand)
    (ho : o.op = Op.makeSlice 44 s x) (n : Nat) (hs : a.eval s = .int .i64 0) (hx : a.eval x = .int .i64 (n : Int)) (hn : n ≤ 100000)
    (h : ∀ v' w', Hid (OutRel w M 0 v' w') → wpList Try.prog ops Q rest (a.put o.dst v') w') : wpList Try.prog ops Q (o :: rest) a w := by
  obtain ⟨i0, hi, hz0, hz1, hz2⟩ := info_parts infoRow
  refine wpList_make_own w hgd s x 44 ho w.heap.size 27 i0 _ 1 Try.underlying44 hi hz0 hz1 .i64 .i64 (n : Int) n hs hx rfl (by rw [hz2]; omega) (by simp only [maxLen]; omega) (Nat.le_refl _) ?_
  intro w' h1 h2
  refine h _ w' (Lib.hid ⟨[], h1, fun j l hj => by simp at hj, h2.size, (Below.refl _ _).grown h2 (Nat.le_refl _) fun k hk => by cases hk⟩)
set_option maxHeartbeats 2000000 in
set_option maxRecDepth 100000 in
theorem all_any (A : Option Addr) (n c : Nat) (l : List Rec) (w : World) (hl : l.length = n) (hn : n ≤ 1000) (ha : RcsAt w A l) :
    Calls Try.prog 20 #[.slice A n c] w fun e w' => ∃ v z, e = .returned (.tuple #[v, .int .i64 (z : Nat)]) ∧ AllOf l v z w' ∧ Below w.heap.size w w' := by
  have HL := Lib.hid hl
  clear hl
  go_enter Try.func20, Try.ntmps20
  go_wp2_with (first
    | (refine wpList_make_out (M := l.map putR) rfl _ _ rfl n rfl rfl (by omega) ?_; intro v0 w0 h0)
    | fail)
  go_loopw [4, 6, 7, 8, 14] (fun v _ _ _ i wr => ∃ k : Nat, k ≤ n ∧ i = .int .i64 (k : Int) ∧ OutRel w (l.map putR) k v wr ∧ ∀ (j : Nat) (r : Rec), j < k → l[j]? = some r → checkR r = 0) (fun _ _ _ _ i _ => n - (RowKit.intOf i).toNat)
  case atStart => exact ⟨0, Nat.zero_le _, rfl, h0.out, fun j r hj => by omega⟩
  case round =>
    obtain ⟨k, hk, rfl, hO, hA⟩ := hrel
    obtain ⟨vs0, o1, o2, o3, o4⟩ := id hO
    by_cases hlt : k < n
    · have hk' : (k : Int) < (n : Int) := by omega
      obtain ⟨ad, r, rfl, hka, hat⟩ := (ha.below o4).at_ (i := k) (by rw [HL.out]; exact hlt)
      have hkm : (l.map putR)[k]? = some (putR r) := by rw [List.getElem?_map, hka]; rfl
      have HK := Lib.hid hkm
      have HKA := Lib.hid hka
      have HA := Lib.hid hA
      have hown := Lib.hid (show ∀ q, u4.ownBlock = some q → q < wr.heap.size from fun q hq => (World.ownsRow.lt o1 q hq).2)
      have HO := Lib.hid hO
      have HS := Lib.hid o3
      have HB0 := Lib.hid o4
      have x0 := hat.d0
      have x1 := hat.d1
      have x2 := hat.d2
      have x3 := hat.d3
      have x4 := hat.d4
      have x5 := hat.d5
      have hlt2 := hat.lt
      obtain ⟨kind, txn, ts, key, gone, val⟩ := r
      dsimp only at x0 x1 x2 x3 x4 x5
      have KP' := Lib.hid (fun W => wrPut_any ⟨kind, txn, ts, key, gone, val⟩ W)
      have KP := KP'
      unfold Rec.v at KP
      dsimp only at KP
      have BA := Lib.hid ((Below.refl wr.heap.size wr).alloc (Nat.le_refl _) (.cells #[.int .u8 (kind : Int), .int .i64 txn, .int .i64 ts, .string key, .bool gone, .string val] 23))
      have hsz := heap_size_alloc wr (.cells #[.int .u8 (kind : Int), .int .i64 txn, .int .i64 ts, .string key, .bool gone, .string val] 23)
      have HSZ := Lib.hid hsz
      clear hka hkm hat hO hA o1 o2 o3 o4 KP' hsz
      go_wp2_with fail
      generalize wr.alloc (.cells #[.int .u8 (kind : Int), .int .i64 txn, .int .i64 ts, .string key, .bool gone, .string val] 23) = W1 at *
      refine (KP.out _).mono ?_
      rintro e w2 ⟨v2, rfl, ob2, b2⟩
      have BB := Lib.hid (BA.out.trans (b2.mono (by have := HSZ.out; omega)))
      by_cases h0 : checkR ⟨kind, txn, ts, key, gone, val⟩ = 0
      · rw [if_pos h0] at ob2
        obtain ⟨ad2, c2, rfl, hc2, hm2, hr2, hg2, hg3⟩ := ob2.row (putR_pos _)
        have HO2 := Lib.hid (HO.out.below BB.out)
        have HC := Lib.hid h0
        have h6 : Hid (u4.ownBlock ≠ some ad2.block) := Lib.hid (fun e => by have := hown.out _ e; have := HSZ.out; omega)
        have hc2 := Lib.hid hc2
        have hm2 := Lib.hid hm2
        have hr2 := Lib.hid hr2
        have hg3 := Lib.hid hg3
        have e0 : ((checkR ⟨kind, txn, ts, key, gone, val⟩ : Int) != 0) = false := by rw [h0]; rfl
        rw [h0] at e0 ⊢
        clear ob2 b2 h0 hg2 HO
        go_wp2_with (first
          | (at_builtin; refine wpList_append_out (w := w) (M := l.map putR) (k := k) (v := u4) (l := putR ⟨kind, txn, ts, key, gone, val⟩) (ad := ad2) (c := c2) (g := w2.heap.size) rfl _ _ rfl (HO2.out.below ((Below.refl _ w2).alloc (Nat.le_refl _) _)) (by omega) HK.out hc2.out hm2.out (hr2.out.alloc _) (by simp; have := hg3.out; omega) h6.out (Row.new w2 [.slice (some ad2) (putR ⟨kind, txn, ts, key, gone, val⟩).length c2]) rfl rfl ?_; intro v3 w3 h3)
          | fail)
        go_round
        case rel =>
          refine ⟨k + 1, by omega, by go_num, h3.out, fun j x hj hx => ?_⟩
          by_cases e : j = k
          · subst e
            rw [HKA.out] at hx
            injection hx with hx
            subst hx
            exact HC.out
          · exact HA.out j x (by omega) hx
        case measure => simp [RowKit.intOf]; omega
      · have e0 : ((checkR ⟨kind, txn, ts, key, gone, val⟩ : Int) != 0) = true := by simp; omega
        have GO := Lib.hid (show AllOf l (.slice none 0 0) (checkR ⟨kind, txn, ts, key, gone, val⟩) w2 from .inr ⟨k, _, HKA.out, rfl, h0, HA.out, rfl⟩)
        have GB := Lib.hid (HB0.out.trans (BB.out.mono HS.out))
        generalize checkR ⟨kind, txn, ts, key, gone, val⟩ = E at *
        clear ob2 b2 HO hown HK HKA
        go_wp2_with fail
        all_goals
          first
            | exact absurd ‹E = 0› h0
            | exact bodyPost_ret (v := .tuple #[.slice none 0 0, .int .i64 (E : Int)]) (by simp [results, Try.results20, go_sem]) rfl ⟨_, E, rfl, GO.out, GB.out⟩
    · obtain rfl : k = n := by omega
      obtain ⟨A1, c1, rfl, hc1, hm1, hr1⟩ := hO.rbs0 (by rw [List.length_map, HL.out])
      have GO := Lib.hid (show AllOf l (.slice A1 k c1) 0 wr from .inl ⟨rfl, fun j r hj => hA j r (by rw [← HL.out]; exact (List.getElem?_eq_some_iff.1 hj).1) hj, A1, c1, by rw [HL.out], by rw [HL.out]; exact hc1, hm1, hr1⟩)
      have GB := Lib.hid o4
      clear hO hA o1 o2 o3 o4 hr1
      go_wp2_with fail
      exact bodyPost_ret (v := .tuple #[.slice A1 k c1, .int .i64 0]) (by simp [results, Try.results20, go_sem]) rfl ⟨_, 0, rfl, GO.out, GB.out⟩
end Go.Proofs.Ytlohhbpncbnipaa
end
