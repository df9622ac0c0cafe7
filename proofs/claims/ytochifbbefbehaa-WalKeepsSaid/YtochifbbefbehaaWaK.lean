/- The law WalKeeps: a log, its disk, the texts that were added and the call's box at hand. -/
import Derived.Test.YtochifbbefbehaaWaI
import Derived.Test.YtochifbbefbehaaWaH
namespace Go.Proofs.Ytochifbbefbehaa
open Go.RowKit
set_option linter.unusedVariables false
set_option linter.unusedSimpArgs false
/-- The disk has turned, and the log beside it not. -/
theorem LW.disk {base : Nat} {F : Ft} {G : Nat} {Z : Nat → Prop} {W V : World} {d d' : Dk} {g : Lg} (h : LW base F G Z W d g) (dk' : DkAt base F V d') (f : Frm F.has W V) : LW base F G Z V d' g ∧ Frm (fun b => ¬ Z b) W V := by
  obtain ⟨dk, ok, v5, v6, Y, l, z⟩ := h
  refine ⟨⟨dk', ok, v5, v6, Y, l.keep f.size fun b hb => f.block b (ow_lt dk l (.inr hb)).2 fun hf => ?_, z⟩, f.mono fun b hb hz => z b (.inl hb) hz⟩
  rcases hb with rfl | hb | hb
  · exact l.nf hf
  · exact (l.rg b hb).2.1 hf
  · exact (l.yb b hb).2.2 hf
theorem Jn.power {d : Dk} {g : Lg} {N : Nat} (h : Jn d g N) (hok : d.Ok) (f : List UInt8) : Jn (d.power f) g N := by
  have hr : ∀ i, i < g.count → (d.power f).rows.getD (g.first + i) [] = d.rows.getD (g.first + i) [] := fun i hi => d.powerNone hok f (by have := h.q.len; have := h.q.fit; omega) (h.q.wt _)
  refine ⟨⟨(dkPower_len d f).trans h.q.len, rfl, power_wt d f, h.q.fit, h.q.cnt, h.q.few, fun i hi => by rw [hr i hi]; exact h.q.new i hi⟩, h.ok, h.ep, h.cl, h.bd, ?_, fun i h1 h2 => by rw [hr i h2]; exact h.old i h1 h2⟩
  obtain ⟨Gs, e1, e2, e3, e4⟩ := h.ex
  refine ⟨Gs, e1, e2, e3, fun i x hx => ?_⟩
  have hi : i < g.written := by rw [← e1]; exact (List.getElem?_eq_some_iff.1 hx).1
  rw [hr i (by have := h.ok.wr; omega)]
  exact e4 i x hx
/-- What the log keeps away from: what was there ahead, the call's box, the added texts' row. -/
def Zc (B C : Nat) (v : Value) (b : Nat) : Prop := b < B ∨ b = C ∨ v.ownBlock = some b
structure Kx (w : World) (F : Ft) (G C : Nat) (bx : Array Value) (W : World) (d : Dk) (g : Lg) (v : Value) (L : List (List UInt8)) : Prop where
  lw : LW w.heap.size F G (Zc w.heap.size C v) W d g
  og : OG CR.str 9 w.heap.size W v L
  bx : W.heap[C]? = some (.cells bx 36 (0, 0))
  bel : Below w.heap.size w W
  ne : v.ownBlock ≠ some C
  cb : w.heap.size ≤ C
theorem Kx.zlt {w : World} {F : Ft} {G C : Nat} {bx : Array Value} {W : World} {d : Dk} {g : Lg} {v : Value} {L : List (List UInt8)} (h : Kx w F G C bx W d g v L) : ∀ b, Zc w.heap.size C v b → b < W.heap.size := fun b hb => by
  rcases hb with hb | rfl | hb
  · exact Nat.lt_of_lt_of_le hb h.bel.size
  · exact (Array.getElem?_eq_some_iff.1 h.bx).1
  · exact (h.og.own_lt hb).2
theorem Kx.step {w : World} {F : Ft} {G G' C : Nat} {bx : Array Value} {W V : World} {d d' : Dk} {g g' : Lg} {v : Value} {L : List (List UInt8)} (h : Kx w F G C bx W d g v L) (l : LW w.heap.size F G' (Zc w.heap.size C v) V d' g') (f : Frm (fun b => ¬ Zc w.heap.size C v b) W V) : Kx w F G' C bx V d' g' v L :=
  ⟨l, h.og.keepOwn str_flat fun b hb => f.block b (h.og.own_lt hb).2 fun hn => hn (.inr (.inr hb)), (f.block C (Array.getElem?_eq_some_iff.1 h.bx).1 fun hn => hn (.inr (.inl rfl))).trans h.bx, h.bel.trans (f.z_below (fun b hb => .inl hb) h.bel.size), h.ne, h.cb⟩
theorem Kx.below {w : World} {F : Ft} {G C : Nat} {bx : Array Value} {W V : World} {d : Dk} {g : Lg} {v : Value} {L : List (List UInt8)} (h : Kx w F G C bx W d g v L) (b : Below W.heap.size W V) : Kx w F G C bx V d g v L := h.step (h.lw.below b) (Frm.of_below b)
/-- The added texts are forgotten. -/
theorem Kx.empty {w : World} {F : Ft} {G C : Nat} {bx : Array Value} {W : World} {d : Dk} {g : Lg} {v : Value} {L : List (List UInt8)} (h : Kx w F G C bx W d g v L) : Kx w F G C bx W d g (.slice none 0 0) [] := by
  refine ⟨h.lw.away fun b _ hz => ?_, OG.nil, h.bx, h.bel, fun e => (by cases e), h.cb⟩
  rcases hz with hz | hz | hz
  · exact .inl hz
  · exact .inr (.inl hz)
  · cases hz
/-- The call's box is made. -/
theorem Kx.start {w : World} {F : Ft} {G : Nat} {bx : Array Value} {W : World} {d : Dk} {g : Lg} {v : Value} {L : List (List UInt8)} (l : LW w.heap.size F G (fun b => b < w.heap.size ∨ v.ownBlock = some b) W d g) (o : OG CR.str 9 w.heap.size W v L) (b : Below w.heap.size w W) : Kx w F G W.heap.size bx (W.alloc (.cells bx 36)) d g v L :=
  ⟨(l.away (Z' := Zc w.heap.size W.heap.size v) fun b hb hz => by
    rcases hz with hz | hz | hz
    · exact .inl hz
    · omega
    · exact .inr hz).below ((Below.refl _ W).alloc (Nat.le_refl _) _), o.alloc _, heap_alloc_last W _, b.alloc b.size _, fun e => by have := (o.own_lt e).2; omega, b.size⟩
theorem Kx.done {w : World} {F : Ft} {G C : Nat} {bx : Array Value} {W : World} {d : Dk} {g : Lg} {v : Value} {L : List (List UInt8)} (h : Kx w F G C bx W d g v L) : LW w.heap.size F G (fun b => b < w.heap.size ∨ v.ownBlock = some b) W d g := h.lw.away fun b _ hz => by
  rcases hz with hz | hz
  · exact .inl hz
  · exact .inr (.inr hz)
theorem Kx.cell {w : World} {F : Ft} {G C : Nat} {bx : Array Value} {W : World} {d : Dk} {g : Lg} {v : Value} {L : List (List UInt8)} (h : Kx w F G C bx W d g v L) (i : Nat) : W.cell? ⟨C, i, none⟩ = bx[i]? := cell_of_row W _ i _ _ _ h.bx
/-- The added texts' row has grown. -/
theorem Kx.grown {w : World} {F : Ft} {G C : Nat} {bx : Array Value} {W V : World} {d : Dk} {g : Lg} {v v' : Value} {L M : List (List UInt8)} (h : Kx w F G C bx W d g v L) (o : Obj) (og : OG CR.str 9 w.heap.size V v' M) (hg : (W.alloc o).grownBy V v.ownBlock) (hv : v'.ownBlock = v.ownBlock ∨ v'.ownBlock = some (W.alloc o).heap.size) : Kx w F G C bx V d g v' M := by
  have hC := (Array.getElem?_eq_some_iff.1 h.bx).1
  have hs : (W.alloc o).heap.size = W.heap.size + 1 := heap_size_alloc W o
  have h1 := h.lw.away (Z' := fun b => Zc w.heap.size C v b ∨ v'.ownBlock = some b) fun b hb hz => by
    rcases hz with hz | hz
    · exact hz
    · rcases hv with hv | hv
      · exact .inr (.inr (by rw [← hv]; exact hz))
      · rw [hv] at hz
        injection hz with hz
        omega
  have h2 := (h1.below ((Below.refl _ W).alloc (Nat.le_refl _) o)).frm (X := fun b => v.ownBlock = some b) (Frm.grown hg fun k hk => hk) fun b hb => .inl (.inr (.inr hb))
  have ba : Below w.heap.size w (W.alloc o) := h.bel.alloc h.bel.size o
  refine ⟨h2.away fun b _ hz => ?_, og, ?_, ba.trans ((Below.refl w.heap.size (W.alloc o)).grown hg ba.size fun q hq => (h.og.own_lt hq).1), fun e => ?_, h.cb⟩
  · rcases hz with hz | hz | hz
    · exact .inl (.inl hz)
    · exact .inl (.inr (.inl hz))
    · exact .inr hz
  · exact (hg.block C (by omega) fun e => h.ne e.symm).trans ((Below.heap_alloc _ _ _ hC).trans h.bx)
  · rcases hv with hv | hv
    · exact h.ne (by rw [← hv]; exact e)
    · rw [hv] at e
      injection e with e
      omega
/-- What a round has when its call is done. -/
structure Sw (k : Nat) (d : Dk) (g : Lg) : Prop where
  first : g.first = 2
  count : g.count = 12
  ep : g.epoch ≤ 2 * k + 2
  few : g.recs.length + g.wt.length ≤ k + 1
  calls : d.calls ≤ 20 * (k + 1)
  ways : (d.off = false ∧ Jn d g 20) ∨ (d.off = true ∧ Pw d g 20 ∧ 1 ≤ g.epoch)
def SwR (w : World) (F : Ft) (C k : Nat) (bx : Array Value) (p v z : Value) (wr : World) : Prop :=
  ∃ (G : Nat) (d : Dk) (g : Lg), p = .pointer (some ⟨G, 0, none⟩) ∧ z = .int .i64 (g.recs.length : Int) ∧ Kx w F G C bx wr d g v (g.recs ++ g.wt) ∧ Sw k d g
/-- Between two rounds. -/
structure Sk (k : Nat) (d : Dk) (g : Lg) : Prop where
  first : g.first = 2
  count : g.count = 12
  ep : g.epoch ≤ 2 * k + 1
  few : g.recs.length + g.wt.length ≤ k
  calls : d.calls ≤ 20 * k
  jn : Jn d g 20
def SkR (w : World) (F : Ft) (k : Nat) (p v z : Value) (wr : World) : Prop :=
  ∃ (G : Nat) (d : Dk) (g : Lg), p = .pointer (some ⟨G, 0, none⟩) ∧ z = .int .i64 (g.recs.length : Int) ∧ LW w.heap.size F G (fun b => b < w.heap.size ∨ v.ownBlock = some b) wr d g ∧ OG CR.str 9 w.heap.size wr v (g.recs ++ g.wt) ∧ Below w.heap.size w wr ∧ Sk k d g
theorem Sk.more {k : Nat} {d : Dk} {g : Lg} (h : Sk k d g) : Sw k d g := ⟨h.first, h.count, by have := h.ep; omega, by have := h.few; omega, by have := h.calls; omega, .inl ⟨h.jn.q.off, h.jn⟩⟩
theorem add_same (g : Lg) (s : List UInt8) : (g.add s).first = g.first ∧ (g.add s).count = g.count ∧ (g.add s).epoch = g.epoch ∧ (g.add s).recs = g.recs ∧ (g.addErr s = 0 → (g.add s).wt = g.wt ++ [s]) ∧ (g.addErr s ≠ 0 → (g.add s).wt = g.wt) := by
  unfold Lg.add
  split
  · rename_i h
    exact ⟨rfl, rfl, rfl, rfl, fun _ => rfl, fun e => absurd h e⟩
  · rename_i h
    exact ⟨rfl, rfl, rfl, rfl, fun e => absurd e h, fun _ => rfl⟩
theorem Sk.add {k : Nat} {d : Dk} {g : Lg} (h : Sk k d g) (s : List UInt8) : Sw k d (g.add s) := by
  obtain ⟨h1, h2, h3, h4, h5, h6⟩ := add_same g s
  refine ⟨h1.trans h.first, h2.trans h.count, by rw [h3]; have := h.ep; omega, ?_, by have := h.calls; omega, .inl ⟨h.jn.q.off, h.jn.add s⟩⟩
  rw [h4]
  have := h.few
  by_cases e : g.addErr s = 0
  · rw [h5 e, List.length_append, List.length_singleton]; omega
  · rw [h6 e]; omega
theorem Sk.brk {k : Nat} {d : Dk} {g : Lg} (h : Sk k d g) (n : Int) (b : Bool) : Sw k (d.brk n b) g := by
  have hc : (d.brk n b).calls = d.calls := by unfold Dk.brk; split <;> rfl
  exact ⟨h.first, h.count, by have := h.ep; omega, by have := h.few; omega, by rw [hc]; have := h.calls; omega, .inl ⟨(h.jn.brk n b).q.off, h.jn.brk n b⟩⟩
theorem Sk.power {k : Nat} {d : Dk} {g : Lg} (h : Sk k d g) (hok : d.Ok) (f : List UInt8) : Sw k (d.power f) g := ⟨h.first, h.count, by have := h.ep; omega, by have := h.few; omega, by have := h.calls; show d.calls ≤ _; omega, .inl ⟨rfl, h.jn.power hok f⟩⟩
theorem Sk.rest {k : Nat} {d : Dk} {g : Lg} (h : Sk k d g) (hk : k ≤ 40) : g.restErr ((g.epoch : Int) + 1) = 0 ∧ g.rest ((g.epoch : Int) + 1) = newG 2 12 (g.epoch + 1) ∧ Sw k d (newG 2 12 (g.epoch + 1)) := by
  have hep := h.ep
  obtain ⟨e1, e2, e3⟩ := h.jn.q.rest h.jn.ok h.jn.bd (by omega)
  rw [h.first, h.count] at e2 e3
  exact ⟨e1, e2, rfl, rfl, by show g.epoch + 1 ≤ _; omega, Nat.zero_le _, by have := h.calls; omega, .inl ⟨e3.q.off, e3⟩⟩
theorem sync_calls2 {d : Dk} {g : Lg} (h : (grp g.wt).length ≤ 12) : (syncD d g).calls ≤ d.calls + 13 := by
  unfold syncD
  split
  · omega
  · have := wrAll_calls g.secs d (g.first + g.written)
    have hsl : g.secs.length = (grp g.wt).length := wsSecs_len _ _ _
    show (wrAll _ _ _).1.calls ≤ _
    omega
theorem Sk.sync {k : Nat} {d : Dk} {g : Lg} (h : Sk k d g) (hok : d.Ok) (hok' : (syncD d g).Ok) : Sw k (syncD d g) (syncG d g) ∧ (syncG d g).recs ++ (syncG d g).wt = g.recs ++ g.wt ∧ ((syncE d g = 0 ∧ (syncG d g).recs.length = (g.recs ++ g.wt).length) ∨ (syncE d g ≠ 0 ∧ (syncG d g).recs.length = g.recs.length)) := by
  have hfit := h.jn.ok.fits h.jn.cl
  have hct := h.count
  have hcl := sync_calls2 (d := d) (g := g) (by omega)
  have hc := h.calls
  have hep := h.ep
  have hfw := h.few
  rcases h.jn.sync hok hok' with ⟨e0, j, r1, r2, r3, r4, r5⟩ | ⟨e0, o, p, r⟩
  · refine ⟨⟨r4.trans h.first, r5.trans hct, by rw [r3]; omega, by rw [r1, r2]; simp; omega, by omega, .inl ⟨j.q.off, j⟩⟩, by rw [r1, r2, List.append_nil], .inl ⟨e0, by rw [r1]⟩⟩
  · rw [r]
    exact ⟨⟨h.first, hct, by show g.epoch ≤ _; omega, by show g.recs.length + g.wt.length ≤ _; omega, by omega, .inr ⟨o, p, h.jn.ok.ep1⟩⟩, rfl, .inr ⟨e0, rfl⟩⟩
end Go.Proofs.Ytochifbbefbehaa
