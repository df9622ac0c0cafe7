/- Rows of whatever elements, in general: how cells read as data, how slices of them read, rows of one's own; appends. Nothing of the program is proved here. -/
import Derived.Test.YtjmmaghjbaigiaaOwn
import Derived.Deep.OwnRows
import Derived.Deep.RegionHeld3
import Derived.Deep.WholeRow
namespace Go.Proofs.Ytjmmaghjbaigiaa
open Go.RowKit
set_option linter.unusedVariables false
set_option linter.unusedSimpArgs false
/-- How k cells read as an x, and which blocks that hangs on. -/
structure CR (α : Type) where
  k : Nat
  E : World → List Value → α → Prop
  foot : World → List Value → α → Nat → Prop
  pos : 0 < k
  len : ∀ {w : World} {cs : List Value} {x : α}, E w cs x → cs.length = k
  one : ∀ {w : World} {cs : List Value} {x : α}, E w cs x → ∀ u ∈ cs, u.oneCell' = true
  keep : ∀ {w w' : World} {cs : List Value} {x : α}, E w cs x → (∀ b, foot w cs x b → w'.heap[b]? = w.heap[b]?) → E w' cs x ∧ ∀ b, foot w' cs x b → foot w cs x b
  lt : ∀ {w : World} {cs : List Value} {x : α}, E w cs x → ∀ b, foot w cs x b → b < w.heap.size
/-- Data that hang on no block. -/
def CR.flat {α : Type} (k : Nat) (hk : 0 < k) (f : α → List Value) (hl : ∀ x, (f x).length = k) (h1 : ∀ x, ∀ u ∈ f x, u.oneCell' = true) : CR α where
  k := k
  E := fun _ cs x => cs = f x
  foot := fun _ _ _ _ => False
  pos := hk
  len := fun h => by rw [h]; exact hl _
  one := fun h => by rw [h]; exact h1 _
  keep := fun h _ => ⟨h, fun _ hb => hb⟩
  lt := fun _ _ hb => hb.elim
def CR.one1 {α : Type} (f : α → Value) (h1 : ∀ x, (f x).oneCell' = true) : CR α := CR.flat 1 (by omega) (fun x => [f x]) (fun _ => rfl) (fun x u hu => by simp only [List.mem_singleton] at hu; rw [hu]; exact h1 x)
def CR.u8 : CR UInt8 := CR.one1 (fun x => .int .u8 (x.toNat : Int)) (fun _ => rfl)
def CR.int (k : IntKind) : CR Int := CR.one1 (fun n => .int k n) (fun _ => rfl)
def CR.bool : CR Bool := CR.one1 (fun b => .bool b) (fun _ => rfl)
def CR.str : CR (List UInt8) := CR.one1 (fun t => .string (Go.Proofs.Ytjmmaghjbaigiaa.str t)) (fun _ => rfl)
/-- Read through a function. -/
def CR.via {α β : Type} (K : CR α) (f : β → α) : CR β where
  k := K.k
  E := fun w cs y => K.E w cs (f y)
  foot := fun w cs y b => K.foot w cs (f y) b
  pos := K.pos
  len := K.len
  one := K.one
  keep := K.keep
  lt := K.lt
/-- One behind the other. -/
def CR.prod {α β : Type} (K : CR α) (M : CR β) : CR (α × β) where
  k := K.k + M.k
  E := fun w cs x => ∃ ps qs, cs = ps ++ qs ∧ K.E w ps x.1 ∧ M.E w qs x.2
  foot := fun w cs x b => ∃ ps qs, cs = ps ++ qs ∧ K.E w ps x.1 ∧ M.E w qs x.2 ∧ (K.foot w ps x.1 b ∨ M.foot w qs x.2 b)
  pos := Nat.lt_of_lt_of_le K.pos (Nat.le_add_right _ _)
  len := fun ⟨ps, qs, h, h1, h2⟩ => by rw [h, List.length_append, K.len h1, M.len h2]
  one := fun ⟨ps, qs, h, h1, h2⟩ u hu => by
    rw [h] at hu
    rcases List.mem_append.1 hu with hu | hu
    · exact K.one h1 u hu
    · exact M.one h2 u hu
  keep := fun {w w' cs x} ⟨ps, qs, h, h1, h2⟩ hk => by
    have k1 := K.keep h1 (fun b hb => hk b ⟨ps, qs, h, h1, h2, .inl hb⟩)
    have k2 := M.keep h2 (fun b hb => hk b ⟨ps, qs, h, h1, h2, .inr hb⟩)
    refine ⟨⟨ps, qs, h, k1.1, k2.1⟩, fun b ⟨ps', qs', h', h1', h2', hb⟩ => ?_⟩
    have e : ps' = ps ∧ qs' = qs := by
      have := List.append_inj (h'.symm.trans h) (by rw [K.len h1, K.len h1'])
      exact this
    obtain ⟨rfl, rfl⟩ := e
    rcases hb with hb | hb
    · exact ⟨ps', qs', h, h1, h2, .inl (k1.2 b hb)⟩
    · exact ⟨ps', qs', h, h1, h2, .inr (k2.2 b hb)⟩
  lt := fun ⟨ps, qs, h, h1, h2⟩ b ⟨ps', qs', h', h1', h2', hb⟩ => by
    rcases hb with hb | hb
    · exact K.lt h1' b hb
    · exact M.lt h2' b hb
/-- The cells cs stand at ad in w. -/
def CellsAt (w : World) (ad : Addr) (cs : List Value) : Prop := ∀ (i : Nat) (u : Value), cs[i]? = some u → w.cell? (ad.add i) = some u
theorem cell_same {w w' : World} {p : Addr} (h : w'.heap[p.block]? = w.heap[p.block]?) : w'.cell? p = w.cell? p := by
  unfold World.cell?
  rw [h]
theorem CellsAt.same {w w' : World} {ad : Addr} {cs : List Value} (h : CellsAt w ad cs) (hb : w'.heap[ad.block]? = w.heap[ad.block]?) : CellsAt w' ad cs := fun i u hu => by
  exact (cell_same (p := ad.add i) (by rw [block_of_add]; exact hb)).trans (h i u hu)
theorem CellsAt.uniq {w : World} {ad : Addr} {cs ds : List Value} (h : CellsAt w ad cs) (g : CellsAt w ad ds) (hl : cs.length = ds.length) : cs = ds := by
  refine List.ext_getElem? fun i => ?_
  by_cases hi : i < cs.length
  · have h1 := h i _ (List.getElem?_eq_getElem hi)
    have h2 := g i _ (List.getElem?_eq_getElem (by omega : i < ds.length))
    rw [h1] at h2
    rw [List.getElem?_eq_getElem hi, List.getElem?_eq_getElem (by omega : i < ds.length)]
    exact h2
  · rw [List.getElem?_eq_none (by omega), List.getElem?_eq_none (by omega)]
theorem CellsAt.lt {w : World} {ad : Addr} {cs : List Value} (h : CellsAt w ad cs) (hp : 0 < cs.length) : ad.block < w.heap.size := by
  have := lt_of_cell (h 0 _ (List.getElem?_eq_getElem hp))
  rwa [block_of_add] at this
/-- The slice at A reads as the row l. -/
def RG {α : Type} (K : CR α) (w : World) (A : Option Addr) (l : List α) : Prop :=
  ∀ (j : Nat) (x : α), l[j]? = some x → ∃ ad cs, A = some ad ∧ CellsAt w (ad.add (j * K.k)) cs ∧ K.E w cs x
/-- Which blocks that hangs on. -/
def footR {α : Type} (K : CR α) (w : World) (A : Option Addr) (l : List α) (b : Nat) : Prop :=
  ∃ (j : Nat) (x : α) (ad : Addr) (cs : List Value), l[j]? = some x ∧ A = some ad ∧ CellsAt w (ad.add (j * K.k)) cs ∧ K.E w cs x ∧ (ad.block = b ∨ K.foot w cs x b)
theorem RG.lt {α : Type} {K : CR α} {w : World} {A : Option Addr} {l : List α} {b : Nat} (h : footR K w A l b) : b < w.heap.size := by
  obtain ⟨j, x, ad, cs, _, _, h1, h2, h3⟩ := h
  rcases h3 with rfl | h3
  · have := h1.lt (by rw [K.len h2]; exact K.pos)
    rwa [block_of_add] at this
  · exact K.lt h2 b h3
theorem RG.keepF {α : Type} {K : CR α} {w w' : World} {A : Option Addr} {l : List α} (h : RG K w A l) (hk : ∀ b, footR K w A l b → w'.heap[b]? = w.heap[b]?) : RG K w' A l ∧ ∀ b, footR K w' A l b → footR K w A l b := by
  constructor
  · intro j x hx
    obtain ⟨ad, cs, e, h1, h2⟩ := h j x hx
    exact ⟨ad, cs, e, h1.same (by rw [block_of_add]; exact hk _ ⟨j, x, ad, cs, hx, e, h1, h2, .inl rfl⟩), (K.keep h2 fun b hb => hk b ⟨j, x, ad, cs, hx, e, h1, h2, .inr hb⟩).1⟩
  · rintro b ⟨j, x, ad, cs, hx, e, h1, h2, h3⟩
    obtain ⟨ad', cs', e', g1, g2⟩ := h j x hx
    obtain rfl : ad' = ad := Option.some.inj (e'.symm.trans e)
    have hs : w'.heap[(ad'.add (j * K.k)).block]? = w.heap[(ad'.add (j * K.k)).block]? := by rw [block_of_add]; exact hk _ ⟨j, x, ad', cs', hx, e, g1, g2, .inl rfl⟩
    obtain rfl : cs' = cs := (g1.same hs).uniq h1 (by rw [K.len g2, K.len h2])
    refine ⟨j, x, ad', cs', hx, e, g1, g2, ?_⟩
    rcases h3 with h3 | h3
    · exact .inl h3
    · exact .inr ((K.keep g2 fun b hb => hk b ⟨j, x, ad', cs', hx, e, g1, g2, .inr hb⟩).2 b h3)
theorem RG.nil {α : Type} {K : CR α} {w : World} {A : Option Addr} : RG K w A [] := fun j x hj => by simp at hj
theorem RG.below {α : Type} {K : CR α} {w w' : World} {A : Option Addr} {l : List α} (h : RG K w A l) (hb : Below w.heap.size w w') : RG K w' A l := (h.keepF fun b hf => hb.block b (RG.lt hf)).1
theorem RG.grown {α : Type} {K : CR α} {w w' : World} {A : Option Addr} {l : List α} {row : Option Nat} (h : RG K w A l) (hg : w.grownBy w' row) (hne : ∀ b, footR K w A l b → some b ≠ row) : RG K w' A l := (h.keepF fun b hf => hg.block b (RG.lt hf) (hne b hf)).1
theorem RG.alloc {α : Type} {K : CR α} {w : World} {A : Option Addr} {l : List α} (h : RG K w A l) (o : Obj) : RG K (w.alloc o) A l := h.below ((Below.refl _ w).alloc (Nat.le_refl _) o)
theorem RG.drew {α : Type} {K : CR α} {w : World} {A : Option Addr} {l : List α} (h : RG K w A l) : RG K w.drew A l := h.below (Below.refl _ w).drew
theorem RG.take {α : Type} {K : CR α} {w : World} {A : Option Addr} {l : List α} (h : RG K w A l) (n : Nat) : RG K w A (l.take n) := fun j x hj => by
  rw [List.getElem?_take] at hj
  split at hj
  · exact h j x hj
  · cases hj
theorem RG.drop {α : Type} {K : CR α} {w : World} {ad : Addr} {l : List α} (h : RG K w (some ad) l) (n : Nat) : RG K w (some (ad.add (n * K.k))) (l.drop n) := fun j x hj => by
  rw [List.getElem?_drop] at hj
  obtain ⟨ad', cs, e, h1, h2⟩ := h _ _ hj
  injection e with e
  subst e
  exact ⟨_, cs, rfl, by rw [add_of_add, ← Nat.add_mul]; exact h1, h2⟩
theorem RG.some_of {α : Type} {K : CR α} {w : World} {A : Option Addr} {l : List α} (h : RG K w A l) (hl : 0 < l.length) : ∃ ad, A = some ad := by
  obtain ⟨ad, cs, e, _⟩ := h 0 (l[0]'hl) (List.getElem?_eq_getElem _)
  exact ⟨ad, e⟩
/-- A slice of such data, as one cell. -/
def CR.list {α : Type} (K : CR α) : CR (List α) where
  k := 1
  E := fun w cs l => ∃ A c, cs = [.slice A l.length c] ∧ l.length ≤ c ∧ c ≤ maxLen ∧ RG K w A l
  foot := fun w cs l b => ∃ A c, cs = [.slice A l.length c] ∧ footR K w A l b
  pos := by omega
  len := fun ⟨A, c, h, _⟩ => by rw [h]; rfl
  one := fun ⟨A, c, h, _⟩ u hu => by rw [h, List.mem_singleton] at hu; rw [hu]; rfl
  keep := fun {w w' cs l} ⟨A, c, h, h1, h2, h3⟩ hk => by
    have := h3.keepF (fun b hb => hk b ⟨A, c, h, hb⟩)
    refine ⟨⟨A, c, h, h1, h2, this.1⟩, fun b ⟨A', c', h', hb⟩ => ?_⟩
    rw [h] at h'
    injection h' with e1 _
    injection e1 with e1 _ e2
    subst e1
    exact ⟨A, c, h, this.2 b hb⟩
  lt := fun ⟨A, c, h, h1, h2, h3⟩ b ⟨A', c', h', hb⟩ => RG.lt hb
/-- A row of one's own. -/
def OG {α : Type} (K : CR α) (T : TypeId) (base : Nat) (w : World) (v : Value) (l : List α) : Prop :=
  ∃ css : List (List Value), w.ownsRow base T K.k v l.length css.flatten ∧ css.length = l.length ∧
    ∀ (j : Nat) (x : α), l[j]? = some x → ∃ cs, css[j]? = some cs ∧ K.E w cs x ∧ ∀ b, K.foot w cs x b → v.ownBlock ≠ some b
theorem OG.nil {α : Type} {K : CR α} {T : TypeId} {base : Nat} {w : World} : OG K T base w (.slice none 0 0) ([] : List α) := ⟨[], World.ownsRow_nil w base T K.k, rfl, fun j x hj => by simp at hj⟩
theorem flat_at {k : Nat} {css : List (List Value)} (h : ∀ cs ∈ css, cs.length = k) {j i : Nat} {cs : List Value} {u : Value} (hj : css[j]? = some cs) (hi : cs[i]? = some u) : css.flatten[j * k + i]? = some u := by
  induction css generalizing j with
  | nil => simp at hj
  | cons a r ih =>
    have ha := h a (by simp)
    cases j with
    | zero =>
      simp at hj
      subst hj
      have := (List.getElem?_eq_some_iff.1 hi).1
      rw [List.flatten_cons, Nat.zero_mul, Nat.zero_add, List.getElem?_append_left this]
      exact hi
    | succ j =>
      rw [List.flatten_cons, List.getElem?_append_right (by rw [ha, Nat.add_mul]; omega), ha, show (j + 1) * k + i - k = j * k + i by rw [Nat.add_mul]; omega]
      exact ih (fun cs hcs => h cs (by simp [hcs])) (by simpa using hj)
theorem OG.lens {α : Type} {K : CR α} {w : World} {l : List α} {css : List (List Value)} {P : List Value → α → Prop} (hl : css.length = l.length) (h : ∀ (j : Nat) (x : α), l[j]? = some x → ∃ cs, css[j]? = some cs ∧ K.E w cs x ∧ P cs x) : ∀ cs ∈ css, cs.length = K.k ∧ ∀ u ∈ cs, u.oneCell' = true := by
  intro cs hcs
  obtain ⟨j, hj, e⟩ := List.getElem_of_mem hcs
  obtain ⟨cs', h1, h2, _⟩ := h j _ (List.getElem?_eq_getElem (by omega : j < l.length))
  rw [List.getElem?_eq_getElem hj, e] at h1
  injection h1 with h1
  subst h1
  exact ⟨K.len h2, K.one h2⟩
theorem OG.rg {α : Type} {K : CR α} {T : TypeId} {base : Nat} {w : World} {v : Value} {l : List α} (h : OG K T base w v l) :
    ∃ A c, v = .slice A l.length c ∧ l.length ≤ c ∧ c ≤ maxLen ∧ RG K w A l ∧ ∀ ad, A = some ad → ad.off = 0 ∧ base ≤ ad.block ∧ ad.block < w.heap.size := by
  obtain ⟨css, h1, h2, h3⟩ := h
  have hls := OG.lens h2 h3
  have h1' := h1
  rcases h1.2 with ⟨rfl, h0⟩ | ⟨g, cap, cur, rfl, hb, hh, hc, hm, hsz, ht⟩
  · refine ⟨none, 0, by rw [h0], by omega, by simp only [maxLen]; omega, ?_, fun ad e => by cases e⟩
    rw [List.length_eq_zero_iff.1 h0]
    exact RG.nil
  · refine ⟨_, cap, rfl, hc, hm, fun j x hx => ?_, fun ad e => by injection e with e; subst e; exact ⟨rfl, hb, (Array.getElem?_eq_some_iff.1 hh).1⟩⟩
    obtain ⟨cs, g1, g2, _⟩ := h3 j x hx
    refine ⟨_, cs, rfl, fun i u hu => ?_, g2⟩
    have := World.ownsRow.cells h1' (g := g) rfl (j * K.k + i) u (flat_at (fun cs hcs => (hls cs hcs).1) g1 hu)
    rwa [add_of_add]
theorem ownsRow_keepB {base : Nat} {w w' : World} {v : Value} {n k : Nat} {vs : List Value} {e : TypeId} (h : w.ownsRow base e k v n vs) (hb : ∀ g, v.ownBlock = some g → w'.heap[g]? = w.heap[g]?) : w'.ownsRow base e k v n vs := by
  refine ⟨h.1, ?_⟩
  rcases h.2 with h | ⟨g, cap, cur, e, hb', hh, r⟩
  · exact .inl h
  · exact .inr ⟨g, cap, cur, e, hb', (hb g (by rw [e]; rfl)).trans hh, r⟩
theorem OG.keepB {α : Type} {K : CR α} {T : TypeId} {base : Nat} {w w' : World} {v : Value} {l : List α} (h : OG K T base w v l) (hb : ∀ g, g < w.heap.size → w'.heap[g]? = w.heap[g]?) : OG K T base w' v l := by
  obtain ⟨css, h1, h2, h3⟩ := h
  refine ⟨css, ownsRow_keepB h1 fun g hg => hb g (World.ownsRow.lt h1 g hg).2, h2, fun j x hx => ?_⟩
  obtain ⟨cs, g1, g2, g3⟩ := h3 j x hx
  have := K.keep g2 fun b hf => hb b (K.lt g2 b hf)
  exact ⟨cs, g1, this.1, fun b hf => g3 b (this.2 b hf)⟩
theorem OG.below {α : Type} {K : CR α} {T : TypeId} {base : Nat} {w w' : World} {v : Value} {l : List α} (h : OG K T base w v l) (hb : Below w.heap.size w w') : OG K T base w' v l := h.keepB fun g hg => hb.block g hg
theorem OG.lift {α : Type} {K : CR α} {T : TypeId} {b B : Nat} {w : World} {v : Value} {l : List α} (h : OG K T b w v l) (hB : B ≤ b) : OG K T B w v l := by
  obtain ⟨css, h1, r⟩ := h
  refine ⟨css, ⟨h1.1, ?_⟩, r⟩
  rcases h1.2 with h | ⟨g, cap, cur, e, hb', r⟩
  · exact .inl h
  · exact .inr ⟨g, cap, cur, e, Nat.le_trans hB hb', r⟩
theorem OG.alloc {α : Type} {K : CR α} {T : TypeId} {base : Nat} {w : World} {v : Value} {l : List α} (h : OG K T base w v l) (o : Obj) : OG K T base (w.alloc o) v l := h.below ((Below.refl _ w).alloc (Nat.le_refl _) o)
theorem OG.drew {α : Type} {K : CR α} {T : TypeId} {base : Nat} {w : World} {v : Value} {l : List α} (h : OG K T base w v l) : OG K T base w.drew v l := h.below (Below.refl _ w).drew
/-- What the program says of the types of a slice and its elements. -/
structure TG {α : Type} (K : CR α) (P : Program) (sl T : TypeId) : Prop where
  und : P.underlying sl = some (.slice T)
  info : ∃ z bytes, (P.info? T).map (fun i => (i.zero, i.size, i.bytes)) = some (some z, K.k, bytes) ∧ bytes ≤ 1000 ∧ z.cells.size = K.k
/-- What may be appended to v: a row whose elements hang on no block of v's own. -/
def Apart {α : Type} (K : CR α) (w : World) (A : Option Addr) (M : List α) (v : Value) : Prop :=
  ∀ (j : Nat) (x : α) (ad : Addr) (cs : List Value), M[j]? = some x → A = some ad → CellsAt w (ad.add (j * K.k)) cs → K.E w cs x → ∀ b, K.foot w cs x b → v.ownBlock ≠ some b
theorem flatten_map_len {css : List (List Value)} {k : Nat} (h : ∀ cs ∈ css, cs.length = k) : css.flatten.length = css.length * k := by
  induction css with
  | nil => simp
  | cons a r ih =>
    rw [List.flatten_cons, List.length_append, h a (by simp), ih fun cs hcs => h cs (by simp [hcs]), List.length_cons, Nat.add_mul]
    omega
/-- A row that reads is laid out as cells. -/
theorem RG.rows {α : Type} {K : CR α} {w : World} {ad : Addr} {M : List α} (h : RG K w (some ad) M) :
    ∃ css : List (List Value), css.length = M.length ∧ CellsAt w ad css.flatten ∧ ∀ (j : Nat) (x : α), M[j]? = some x → ∃ cs, css[j]? = some cs ∧ K.E w cs x ∧ CellsAt w (ad.add (j * K.k)) cs := by
  induction M generalizing ad with
  | nil => exact ⟨[], rfl, fun i u hu => by simp at hu, fun j x hj => by simp at hj⟩
  | cons a r ih =>
    obtain ⟨ad', cs, e, h1, h2⟩ := h 0 a rfl
    obtain rfl : ad = ad' := Option.some.inj e
    rw [Nat.zero_mul, Addr.add_nought] at h1
    obtain ⟨css, g1, g2, g3⟩ := ih (ad := ad.add (1 * K.k)) (by simpa using h.drop 1)
    rw [Nat.one_mul] at g2 g3
    refine ⟨cs :: css, by simp [g1], fun i u hu => ?_, fun j x hj => ?_⟩
    · rw [List.flatten_cons] at hu
      by_cases hi : i < cs.length
      · rw [List.getElem?_append_left hi] at hu
        exact h1 i u hu
      · rw [List.getElem?_append_right (by omega)] at hu
        have := g2 _ u hu
        rwa [add_of_add, ← K.len h2, show cs.length + (i - cs.length) = i by omega] at this
    · cases j with
      | zero =>
        simp at hj
        subst hj
        exact ⟨cs, rfl, h2, by rw [Nat.zero_mul, Addr.add_nought]; exact h1⟩
      | succ j =>
        obtain ⟨cs', e1, e2, e3⟩ := g3 j x (by simpa using hj)
        exact ⟨cs', by simpa using e1, e2, by rw [Nat.add_mul, Nat.one_mul, Nat.add_comm, ← add_of_add]; exact e3⟩
theorem run_append_G {α : Type} {K : CR α} {P : Program} {sl T : TypeId} (tg : TG K P sl T) {base : Nat} {w : World} {v : Value} {l : List α} (ty : TypeId) (hown : OG K T base w v l) {A : Option Addr} {m : Nat} (c : Nat) {M : List α} (hm : M.length = m) (hr : RG K w A M) (hap : Apart K w A M v) (hbound : l.length + m ≤ 1000000) (hbase : base ≤ w.heap.size) :
    ∃ v' w', (Builtin.append_ #[sl, sl] ty #[v, .slice A m c]).run P w = .ok v' w' ∧ OG K T base w' v' (l ++ M) ∧ Below base w w' ∧ w.grownBy w' v.ownBlock ∧ (v'.ownBlock = v.ownBlock ∨ v'.ownBlock = some w.heap.size) := by
  obtain ⟨z, bytes, hinfo, hby, hzc⟩ := tg.info
  obtain ⟨i0, hi, hz0, hz1, hz2⟩ := info_parts hinfo
  subst hm
  rcases Classical.em (A = none) with rfl | hA
  · have hn : M = [] := by
      cases M with
      | nil => rfl
      | cons x t => obtain ⟨ad, cs, e, _⟩ := hr 0 x rfl; cases e
    subst hn
    refine ⟨v, w, ?_, by simpa using hown, Below.refl _ _, ⟨rfl, rfl, rfl, Nat.le_refl _, fun _ _ _ => rfl⟩, .inl rfl⟩
    obtain ⟨css, h1, _⟩ := hown
    rcases h1.2 with ⟨rfl, hl⟩ | ⟨g, cap, cur, rfl, _, _, hnc, _⟩
    · simp [Builtin.append_, run_underlying tg.und, sizeOf, typeInfo, hi, Builtin.lenOf, Builtin.firstCells]
    · simp [Builtin.append_, run_underlying tg.und, sizeOf, typeInfo, hi, Builtin.lenOf, Builtin.firstCells, hnc, storeCells]
  · obtain ⟨ad, rfl⟩ := Option.ne_none_iff_exists'.1 hA
    obtain ⟨css, h1, h2, h3⟩ := hown
    obtain ⟨dss, d1, d2, d3⟩ := hr.rows
    have hls := OG.lens (P := fun _ _ => True) d1 fun j x hx => by
      obtain ⟨cs, e1, e2, _⟩ := d3 j x hx
      exact ⟨cs, e1, e2, trivial⟩
    obtain ⟨v', w', hrun, b1, b2, _, b3⟩ := run_append_own_at (P := P) w base sl ty T i0 z K.k bytes tg.und hi hz0 hz1 hz2 hzc K.pos v l.length css.flatten h1 ad M.length c dss.flatten
      (by rw [flatten_map_len fun cs hcs => (hls cs hcs).1, d1]) d2 (fun u hu => by
        obtain ⟨cs, hcs, hu⟩ := List.mem_flatten.1 hu
        exact (hls cs hcs).2 u hu) (by simp only [maxLen]; omega) (Nat.le_trans (Nat.mul_le_mul hbound hby) (by omega)) hbase
    have hbe : Below base w w' := (Below.refl base w).grown b2 hbase fun q hq => (World.ownsRow.lt h1 q hq).1
    have nb : ∀ b, b < w.heap.size → v.ownBlock ≠ some b → v'.ownBlock ≠ some b := fun b e1 e2 e3 => by
      rcases b3 with b3 | b3
      · exact e2 (by rw [← b3]; exact e3)
      · rw [b3] at e3
        injection e3 with e3
        omega
    refine ⟨v', w', hrun, ⟨css ++ dss, by rw [List.length_append, List.flatten_append]; exact b1, by simp [h2, d1], fun j x hj => ?_⟩, hbe, b2, b3⟩
    by_cases hlt : j < l.length
    · rw [List.getElem?_append_left hlt] at hj
      obtain ⟨cs, e1, e2, e3⟩ := h3 j x hj
      have := K.keep (w' := w') e2 fun b hf => b2.block b (K.lt e2 b hf) fun e => e3 b hf e.symm
      exact ⟨cs, by rw [List.getElem?_append_left (by omega)]; exact e1, this.1, fun b hf => nb b (K.lt e2 b (this.2 b hf)) (e3 b (this.2 b hf))⟩
    · rw [List.getElem?_append_right (by omega)] at hj
      obtain ⟨cs, e1, e2, e4⟩ := d3 _ x hj
      have e3 := hap _ x ad cs hj rfl e4 e2
      have := K.keep (w' := w') e2 fun b hf => b2.block b (K.lt e2 b hf) fun e => e3 b hf e.symm
      exact ⟨cs, by rw [List.getElem?_append_right (by omega), h2]; exact e1, this.1, fun b hf => nb b (K.lt e2 b (this.2 b hf)) (e3 b (this.2 b hf))⟩
/-- An append onto a row without room: a row of one's own, and what was there stays. -/
theorem run_append_full_G {α : Type} {K : CR α} {P : Program} {sl T : TypeId} (tg : TG K P sl T) {base : Nat} {w : World} {b a : Addr} {l M : List α} {n m : Nat} (ty : TypeId) (c : Nat) (h1 : RG K w (some b) l) (h2 : RG K w (some a) M) (hn : l.length = n) (hm : M.length = m) (hp : 0 < m) (hbound : n + m ≤ 1000000) (hbase : base ≤ w.heap.size) :
    ∃ v' w', (Builtin.append_ #[sl, sl] ty #[.slice (some b) n n, .slice (some a) m c]).run P w = .ok v' w' ∧ OG K T base w' v' (l ++ M) ∧ Below w.heap.size w w' := by
  obtain ⟨z, bytes, hinfo, hby, hzc⟩ := tg.info
  obtain ⟨i0, hi, hz0, hz1, hz2⟩ := info_parts hinfo
  obtain ⟨css, c1, c2, c3⟩ := h1.rows
  obtain ⟨dss, d1, d2, d3⟩ := h2.rows
  subst hn hm
  have hls := OG.lens (P := fun _ _ => True) c1 fun j x hx => by
    obtain ⟨cs, e1, e2, _⟩ := c3 j x hx
    exact ⟨cs, e1, e2, trivial⟩
  have hlt := OG.lens (P := fun _ _ => True) d1 fun j x hx => by
    obtain ⟨cs, e1, e2, _⟩ := d3 j x hx
    exact ⟨cs, e1, e2, trivial⟩
  have fc := flatten_map_len fun cs hcs => (hls cs hcs).1
  have fd := flatten_map_len fun cs hcs => (hlt cs hcs).1
  rw [c1] at fc
  rw [d1] at fd
  have hmx : l.length + M.length ≤ maxLen := by simp only [maxLen]; omega
  have hrun := run_append_grow (P := P) w sl ty T i0 z tg.und hi hz0 b l.length l.length css.flatten (by rw [hz1]; exact fc) c2 a M.length c dss.flatten (by rw [hz1]; exact fd) d2 (by omega) (by omega)
    (growslice_fits (by omega) (by rw [hz2]; exact Nat.le_trans (Nat.mul_le_mul hbound hby) (by omega)))
  have hge := grownCap_ge w (l.length + M.length) l.length T
  have hle := grownCap_le_maxLen w (l.length + M.length) l.length T hmx
  generalize grownCap w (l.length + M.length) l.length T = cap at *
  obtain ⟨cur, hcur⟩ : ∃ cur, cur = css.flatten.toArray ++ dss.flatten.toArray ++ Builtin.zeroCells z.cells (cap - (l.length + M.length)) := ⟨_, rfl⟩
  rw [← hcur] at hrun
  have hb : Below w.heap.size w (w.drew.alloc (.cells cur T)) := ((Below.refl _ w).drew).alloc (Nat.le_refl _) _
  refine ⟨_, _, hrun, ⟨css ++ dss, ⟨by rw [List.flatten_append, List.length_append, fc, fd, List.length_append, Nat.add_mul], .inr ⟨w.heap.size, cap, cur, by rw [List.length_append], hbase, heap_alloc_last w.drew _, by rw [List.length_append]; exact hge, hle, ?_, ?_⟩⟩, by simp [c1, d1], fun j x hj => ?_⟩, hb⟩
  · rw [hcur, Array.size_append, Array.size_append, size_zeroCells, hzc]
    simp only [List.size_toArray, fc, fd]
    rw [← Nat.add_mul, ← Nat.add_mul]
    congr 1
    omega
  · rw [hcur]
    simp only [Array.toList_append, List.length_append]
    rw [List.take_append_of_le_length (by simp only [List.length_append, fc, fd, Nat.add_mul]; exact Nat.le_refl _), List.take_of_length_le (by simp only [List.length_append, fc, fd, Nat.add_mul]; exact Nat.le_refl _), List.flatten_append]
  · have fin : ∀ (cs : List Value), K.E w cs x → K.E (w.drew.alloc (.cells cur T)) cs x ∧ ∀ b, K.foot (w.drew.alloc (.cells cur T)) cs x b → (Value.slice (some ⟨w.heap.size, 0, none⟩) (l.length + M.length) cap).ownBlock ≠ some b := fun cs hE => by
      have := K.keep (w' := w.drew.alloc (.cells cur T)) hE fun b hf => hb.block b (K.lt hE b hf)
      refine ⟨this.1, fun b hf e => ?_⟩
      have h3 := K.lt hE b (this.2 b hf)
      injection e with e
      simp only at e
      omega
    by_cases hlt : j < l.length
    · rw [List.getElem?_append_left hlt] at hj
      obtain ⟨cs, e1, e2, _⟩ := c3 j x hj
      exact ⟨cs, by rw [List.getElem?_append_left (by omega)]; exact e1, fin cs e2⟩
    · rw [List.getElem?_append_right (by omega)] at hj
      obtain ⟨cs, e1, e2, _⟩ := d3 _ x hj
      exact ⟨cs, by rw [List.getElem?_append_right (by omega), c1]; exact e1, fin cs e2⟩
theorem step_append_G {α : Type} {K : CR α} {P : Program} {sl T : TypeId} (tg : TG K P sl T) {w : World} {ops : Array Oper} {o : Oper} {a : Act} {N : Act → World → Prop} {Q : Exit → Act → World → Prop} {E : Prop} (hgd : o.guard = none) (s x : Operand)
    (ho : o.op = .call { callee := .builtin .append, args := #[s, x], argTypes := #[sl, sl] })
    (base : Nat) (v : Value) (l : List α) (hs : a.eval s = v) (hown : OG K T base w v l) (A : Option Addr) (m c : Nat) (M : List α) (hx : a.eval x = .slice A m c) (hm : M.length = m) (hr : RG K w A M) (hap : Apart K w A M v)
    (hbound : l.length + m ≤ 1000000) (hbase : base ≤ w.heap.size)
    (h : ∀ v' w', OG K T base w' v' (l ++ M) → Below base w w' → w.grownBy w' v.ownBlock → (v'.ownBlock = v.ownBlock ∨ v'.ownBlock = some w.heap.size) → N (a.put o.dst v') w') :
    if Region.wanted o (yielded ops a.tmps) = true then Oper.wp P o a w N Q else E := by
  have hw : Region.wanted o (yielded ops a.tmps) = true := by simp [Region.wanted, hgd]
  rw [if_pos hw]
  obtain ⟨v', w', hrun, h2, h3, h4, h5⟩ := run_append_G tg o.type hown c hm hr hap hbound hbase
  unfold Oper.wp execOp
  simp only [ho, resolve, invoke, builtin, Sem.run_bind, Sem.run_pure, Result.andThen_ok, List.map_toArray, List.map_cons, List.map_nil, hs, hx, hrun]
  exact h v' w' h2 h3 h4 h5
theorem wpList_append_G {α : Type} {K : CR α} {P : Program} {sl T : TypeId} (tg : TG K P sl T) {w : World} {ops : Array Oper} {rest : List Oper} {o : Oper} {a : Act} {Q : Exit → Act → World → Prop} (hgd : o.guard = none) (s x : Operand)
    (ho : o.op = .call { callee := .builtin .append, args := #[s, x], argTypes := #[sl, sl] })
    (base : Nat) (v : Value) (l : List α) (hs : a.eval s = v) (hown : OG K T base w v l) (A : Option Addr) (m c : Nat) (M : List α) (hx : a.eval x = .slice A m c) (hm : M.length = m) (hr : RG K w A M) (hap : Apart K w A M v)
    (hbound : l.length + m ≤ 1000000) (hbase : base ≤ w.heap.size)
    (h : ∀ v' w', OG K T base w' v' (l ++ M) → Below base w w' → w.grownBy w' v.ownBlock → (v'.ownBlock = v.ownBlock ∨ v'.ownBlock = some w.heap.size) → wpList P ops Q rest (a.put o.dst v') w') : wpList P ops Q (o :: rest) a w :=
  wpList_step fun N hN => step_append_G tg hgd s x ho base v l hs hown A m c M hx hm hr hap hbound hbase fun v' w' h2 h3 h4 h5 => hN _ _ (h v' w' h2 h3 h4 h5)
theorem wpList_append_Gw {α : Type} {K : CR α} {P : Program} {sl T : TypeId} (tg : TG K P sl T) {w : World} {ops : Array Oper} {rest : List Oper} {o : Oper} {a : Act} {Q : Exit → Act → World → Prop} (hw : Region.wanted o (yielded ops a.tmps) = true) (s x : Operand)
    (ho : o.op = .call { callee := .builtin .append, args := #[s, x], argTypes := #[sl, sl] })
    (base : Nat) (v : Value) (l : List α) (hs : a.eval s = v) (hown : OG K T base w v l) (A : Option Addr) (m c : Nat) (M : List α) (hx : a.eval x = .slice A m c) (hm : M.length = m) (hr : RG K w A M) (hap : Apart K w A M v)
    (hbound : l.length + m ≤ 1000000) (hbase : base ≤ w.heap.size)
    (h : ∀ v' w', OG K T base w' v' (l ++ M) → Below base w w' → w.grownBy w' v.ownBlock → (v'.ownBlock = v.ownBlock ∨ v'.ownBlock = some w.heap.size) → wpList P ops Q rest (a.put o.dst v') w') : wpList P ops Q (o :: rest) a w :=
  wpList_step fun N hN => by
    rw [if_pos hw]
    obtain ⟨v', w', hrun, h2, h3, h4, h5⟩ := run_append_G tg o.type hown c hm hr hap hbound hbase
    unfold Oper.wp execOp
    simp only [ho, resolve, invoke, builtin, Sem.run_bind, Sem.run_pure, Result.andThen_ok, List.map_toArray, List.map_cons, List.map_nil, hs, hx, hrun]
    exact hN _ _ (h v' w' h2 h3 h4 h5)
/-- An operation that is not wanted is taken. -/
theorem takeSkip {P : Program} {md : Region.Mode} {ops : Array Oper} {Q : Exit → Act → World → Prop} {S : World → Prop} {fuel : Nat} {listed : Array Bool} {a : Act} {w : World} (i : Nat) (d : Nat) {oi : Oper}
    (hi : ops[i]? = some oi) (hd : oi.dst = some d) (hs : Region.noSelect ops = true) (hf : Region.free md ops listed i = true) (hr : (Region.ready md ops listed).contains i = true)
    (hQ : ∀ c a w, Q (.panic c) (a.put (some d) undef) w → Q (.panic c) a w) (hS : S w) (hw : Region.wanted oi (yielded ops a.tmps) = false)
    (h : wpAnyH P md ops Q S fuel (listed.setIfInBounds i true) (a.put (some d) undef) w) : wpAnyH P md ops Q S (fuel + 1) listed a w :=
  wpAnyH_take hi hs hf hr (by rw [hd]; exact hQ) (.inr ⟨hw, rfl⟩) hS (by rw [hd]; exact h)
/-- A row of rows, read at a place. -/
theorem RG.listAt {α : Type} {K : CR α} {w : World} {A : Option Addr} {L : List (List α)} (h : RG (CR.list K) w A L) {k : Nat} {l : List α} (hk : L[k]? = some l) : ∃ ad B c, A = some ad ∧ w.cell? (ad.add k) = some (.slice B l.length c) ∧ l.length ≤ c ∧ c ≤ maxLen ∧ RG K w B l := by
  obtain ⟨ad, cs, e, h1, B, c, rfl, h2, h3, h4⟩ := h k l hk
  have := h1 0 _ rfl
  rw [Addr.add_nought, show k * (CR.list K).k = k from Nat.mul_one k] at this
  exact ⟨ad, B, c, e, this, h2, h3, h4⟩
/-- All that a row hangs on is B or newer. -/
def NewR {α : Type} (K : CR α) (B : Nat) (w : World) (A : Option Addr) (l : List α) : Prop := ∀ b, footR K w A l b → B ≤ b
theorem NewR.below {α : Type} {K : CR α} {B : Nat} {w w' : World} {A : Option Addr} {l : List α} (h : NewR K B w A l) (hr : RG K w A l) (hb : Below w.heap.size w w') : NewR K B w' A l := fun b hf => h b ((hr.keepF fun b hb' => hb.block b (RG.lt hb')).2 b hf)
theorem NewR.nil {α : Type} {K : CR α} {B : Nat} {w : World} {A : Option Addr} : NewR K B w A ([] : List α) := fun b ⟨j, x, ad, cs, hx, _⟩ => by simp at hx
/-- A row that reads, and hangs on nothing of the block g. -/
def RGx {α : Type} (K : CR α) (w : World) (A : Option Addr) (l : List α) (g : Nat) : Prop := RG K w A l ∧ ∀ b, footR K w A l b → b ≠ g
theorem RGx.keep {α : Type} {K : CR α} {w w' : World} {A : Option Addr} {l : List α} {g : Nat} (h : RGx K w A l g) (hk : ∀ b, b < w.heap.size → b ≠ g → w'.heap[b]? = w.heap[b]?) : RGx K w' A l g := by
  have := h.1.keepF (w' := w') fun b hb => hk b (RG.lt hb) (h.2 b hb)
  exact ⟨this.1, fun b hb => h.2 b (this.2 b hb)⟩
theorem RGx.below {α : Type} {K : CR α} {w w' : World} {A : Option Addr} {l : List α} {g : Nat} (h : RGx K w A l g) (hb : Below w.heap.size w w') : RGx K w' A l g := h.keep fun b h1 _ => hb.block b h1
/-- A store into a row of one's own keeps all else. -/
theorem setCell_else (w : World) (g j : Nat) (u : Value) : ∀ b, b ≠ g → (w.setCell ⟨g, j, none⟩ u).heap[b]? = w.heap[b]? := fun b hne => Below.heap_setCell w ⟨g, j, none⟩ u b hne
/-- An empty row that was just laid. -/
theorem OG.lit0 {α : Type} {K : CR α} {T : TypeId} {base : Nat} (w : World) (h : base ≤ w.heap.size) : OG K T base (w.alloc (.cells #[] T)) (.slice (some ⟨w.heap.size, 0, none⟩) 0 0) ([] : List α) :=
  ⟨[], ⟨by simp, .inr ⟨w.heap.size, 0, #[], rfl, h, heap_alloc_last w _, Nat.le_refl _, by simp [maxLen], by simp, by simp⟩⟩, rfl, fun j x hj => by simp at hj⟩
/-- An append whose run is known. -/
theorem step_append_of {P : Program} {w : World} {ops : Array Oper} {o : Oper} {a : Act} {N : Act → World → Prop} {Q : Exit → Act → World → Prop} {E : Prop} (hgd : o.guard = none) (s x : Operand) {t1 t2 : TypeId}
    (ho : o.op = .call { callee := .builtin .append, args := #[s, x], argTypes := #[t1, t2] }) (v u : Value) (hs : a.eval s = v) (hx : a.eval x = u) {R : Value → World → Prop} (hrun : ∃ v' w', (Builtin.append_ #[t1, t2] o.type #[v, u]).run P w = .ok v' w' ∧ R v' w')
    (h : ∀ v' w', R v' w' → N (a.put o.dst v') w') : if Region.wanted o (yielded ops a.tmps) = true then Oper.wp P o a w N Q else E := by
  have hw : Region.wanted o (yielded ops a.tmps) = true := by simp [Region.wanted, hgd]
  rw [if_pos hw]
  obtain ⟨v', w', hrun, h2⟩ := hrun
  unfold Oper.wp execOp
  simp only [ho, resolve, invoke, builtin, Sem.run_bind, Sem.run_pure, Result.andThen_ok, List.map_toArray, List.map_cons, List.map_nil, hs, hx, hrun]
  exact h v' w' h2
theorem wpList_append_of {P : Program} {w : World} {ops : Array Oper} {rest : List Oper} {o : Oper} {a : Act} {Q : Exit → Act → World → Prop} (hgd : o.guard = none) (s x : Operand) {t1 t2 : TypeId}
    (ho : o.op = .call { callee := .builtin .append, args := #[s, x], argTypes := #[t1, t2] }) (v u : Value) (hs : a.eval s = v) (hx : a.eval x = u) {R : Value → World → Prop} (hrun : ∃ v' w', (Builtin.append_ #[t1, t2] o.type #[v, u]).run P w = .ok v' w' ∧ R v' w')
    (h : ∀ v' w', R v' w' → wpList P ops Q rest (a.put o.dst v') w') : wpList P ops Q (o :: rest) a w :=
  wpList_step fun N hN => step_append_of hgd s x ho v u hs hx hrun fun v' w' h2 => hN _ _ (h v' w' h2)
/-- Elements that hang on no block, or on older ones than v's own. -/
theorem Apart.flat {α : Type} {K : CR α} {w : World} {A : Option Addr} {M : List α} {v : Value} (h : ∀ w cs x b, ¬ K.foot w cs x b) : Apart K w A M v := fun _ _ _ _ _ _ _ _ b hb => (h _ _ _ b hb).elim
theorem Apart.older {α : Type} {K : CR α} {w w0 : World} {A : Option Addr} {M : List α} {v : Value} {T : TypeId} {n k base : Nat} {vs : List Value} (h0 : RG K w0 A M) (hb : Below w0.heap.size w0 w) (hv : w.ownsRow base T k v n vs) (hbase : w0.heap.size ≤ base) : Apart K w A M v := fun j x ad cs hx hA hc hE b hf e => by
  have h1 := (World.ownsRow.lt hv b e).1
  have h2 := (h0.keepF (w' := w) fun b hb' => hb.block b (RG.lt hb')).2 b ⟨j, x, ad, cs, hx, hA, hc, hE, .inr hf⟩
  have := RG.lt h2
  omega
theorem Apart.nil {α : Type} {K : CR α} {w : World} {A : Option Addr} {M : List α} : Apart K w A M (.slice none 0 0) := fun _ _ _ _ _ _ _ _ _ _ e => by cases e
/-- A block that was just laid, whose cells read. -/
theorem RG.lit {α : Type} {K : CR α} {w : World} {l : List α} (css : List (List Value)) {cs : Array Value} {T : TypeId} {fr : Nat × Nat} (hcs : cs = css.flatten.toArray) (hl : css.length = l.length) (h : ∀ (j : Nat) (x : α), l[j]? = some x → ∃ ds, css[j]? = some ds ∧ K.E w ds x) : RG K (w.alloc (.cells cs T fr)) (some ⟨w.heap.size, 0, none⟩) l := fun j x hx => by
  obtain ⟨ds, e1, e2⟩ := h j x hx
  have hb : Below w.heap.size w (w.alloc (.cells cs T fr)) := (Below.refl _ w).alloc (Nat.le_refl _) _
  have hls := OG.lens (P := fun _ _ => True) hl fun j x hx => by
    obtain ⟨ds, e1, e2⟩ := h j x hx
    exact ⟨ds, e1, e2, trivial⟩
  refine ⟨_, ds, rfl, fun i u hu => ?_, (K.keep e2 fun b hf => hb.block b (K.lt e2 b hf)).1⟩
  have := flat_at (fun cs hcs => (hls cs hcs).1) e1 hu
  rw [add_of_add, hcs]
  generalize j * K.k + i = n at *
  have hg : (w.alloc (.cells css.flatten.toArray T fr)).heap[w.heap.size]? = some (.cells css.flatten.toArray T fr) := heap_alloc_last w _
  have h2 : (⟨w.heap.size, 0, none⟩ : Addr).add n = ⟨w.heap.size, n, none⟩ := by cases n <;> simp [Addr.add]
  rw [h2, cell_of_row _ _ _ _ _ _ hg]
  simpa using this
/-- A store of one whole element of one cell into a row of one's own. -/
theorem OG.set1 {α : Type} {K : CR α} (hk : K.k = 1) {T : TypeId} {base g n c j : Nat} {w : World} {l : List α} {u : Value} {x : α} (h : OG K T base w (.slice (some ⟨g, 0, none⟩) n c) l) (hj : j < l.length) (hE : K.E w [u] x) (hf : ∀ b, K.foot w [u] x b → b ≠ g) :
    (∃ u0, w.cell? ⟨g, j, none⟩ = some u0) ∧ w.frozen? ⟨g, j, none⟩ = false ∧ OG K T base (w.setCell ⟨g, j, none⟩ u) (.slice (some ⟨g, 0, none⟩) n c) (l.set j x) := by
  obtain ⟨css, h1, h2, h3⟩ := h
  have hls := OG.lens (P := fun _ _ => True) h2 fun j x hx => by
    obtain ⟨cs, e1, e2, _⟩ := h3 j x hx
    exact ⟨cs, e1, e2, trivial⟩
  have hfl := flatten_map_len fun cs hcs => (hls cs hcs).1
  rw [hk, h2, Nat.mul_one] at hfl
  rcases h1.2 with ⟨e, _⟩ | ⟨g', cap, cur, e, hb, hh, hc, hm, hsz, ht⟩
  · cases e
  · injection e with e1 e2 e3
    injection e1 with e1
    injection e1 with e1
    subst e1 e2 e3
    rw [hk, Nat.mul_one] at hsz ht
    have hcur : j < cur.size := by omega
    refine ⟨⟨cur[j], by rw [cell_of_row w g j _ _ _ hh]; exact Array.getElem?_eq_getElem hcur⟩, by simp [World.frozen?, hh], css.set j [u], ?_, by simp [h2], fun i y hy => ?_⟩
    · refine ⟨?_, .inr ⟨g, c, cur.setIfInBounds j u, by simp, hb, heap_setCell_same w g j cur T u hh, ?_, hm, by rw [hk, Nat.mul_one, Array.size_setIfInBounds]; exact hsz, ?_⟩⟩
      · rw [flatten_map_len (k := 1)]
        · simp [h2, hk]
        · intro cs hcs
          rcases List.mem_or_eq_of_mem_set hcs with hcs | rfl
          · rw [← hk]; exact (hls cs hcs).1
          · rfl
      · simpa using hc
      · rw [List.length_set, hk, Nat.mul_one, Array.toList_setIfInBounds, List.take_set, ht]
        refine List.ext_getElem? fun i => ?_
        have key : ∀ (css : List (List Value)), (∀ cs ∈ css, cs.length = 1) → ∀ i : Nat, css.flatten[i]? = (css[i]?).bind (·[0]?) := by
          intro css hcs
          induction css with
          | nil => simp
          | cons a r ih =>
            intro i
            have ha := hcs a (by simp)
            match a, ha with
            | [a0], _ =>
              cases i with
              | zero => rfl
              | succ i => simpa using ih (fun cs h => hcs cs (by simp [h])) i
        rw [key _ (fun cs hcs => by
          rcases List.mem_or_eq_of_mem_set hcs with hcs | rfl
          · rw [← hk]; exact (hls cs hcs).1
          · rfl)]
        rw [List.getElem?_set, List.getElem?_set, key _ (fun cs hcs => by rw [← hk]; exact (hls cs hcs).1), hfl, h2]
        by_cases e : j = i
        · rw [if_pos e, if_pos e]
          by_cases hjl : j < l.length
          · rw [if_pos hjl, if_pos hjl]; rfl
          · rw [if_neg hjl, if_neg hjl]; rfl
        · rw [if_neg e, if_neg e]
    · have hg : ∀ b, b ≠ g → (w.setCell ⟨g, j, none⟩ u).heap[b]? = w.heap[b]? := fun b hne => by
        rw [setCell_eq_setRow w g j cur T (0, 0) u hh]
        exact setRow_other w g b _ hne
      rw [List.getElem?_set] at hy
      by_cases e : j = i
      · subst e
        rw [if_pos rfl, if_pos hj] at hy
        injection hy with hy
        subst hy
        have := K.keep hE fun b hb => hg b (hf b hb)
        exact ⟨[u], by rw [List.getElem?_set, if_pos rfl, if_pos (by omega)], this.1, fun b hb e => by injection e with e; exact hf b (this.2 b hb) e.symm⟩
      · rw [if_neg e] at hy
        obtain ⟨cs, e1, e2, e3⟩ := h3 i y hy
        have := K.keep e2 fun b hb => hg b fun e => e3 b hb (by rw [e]; rfl)
        exact ⟨cs, by rw [List.getElem?_set, if_neg e]; exact e1, this.1, fun b hb => e3 b (this.2 b hb)⟩
theorem NewR.set1 {α : Type} {K : CR α} (hk : K.k = 1) {T : TypeId} {base B g n c j : Nat} {w : World} {l : List α} {u : Value} {x : α} (h : OG K T base w (.slice (some ⟨g, 0, none⟩) n c) l) (hn : NewR K B w (some ⟨g, 0, none⟩) l) (hB : B ≤ g) (hj : j < l.length) (hE : K.E w [u] x) (hf : ∀ b, K.foot w [u] x b → b ≠ g ∧ B ≤ b) :
    NewR K B (w.setCell ⟨g, j, none⟩ u) (some ⟨g, 0, none⟩) (l.set j x) := by
  obtain ⟨⟨u0, hu0⟩, _, hset⟩ := OG.set1 hk h hj hE fun b hb => (hf b hb).1
  obtain ⟨A, c', e, _, _, hrg, _⟩ := h.rg
  injection e with e
  subst e
  rintro b ⟨i, y, ad, cs, hy, hA, hc, hyE, hb⟩
  injection hA with hA
  subst hA
  rcases hb with hb | hb
  · simp only at hb
    omega
  · have hoth : ∀ q, q ≠ g → (w.setCell ⟨g, j, none⟩ u).heap[q]? = w.heap[q]? := fun q hq => Below.heap_setCell w ⟨g, j, none⟩ u q hq
    rw [List.getElem?_set] at hy
    by_cases e : j = i
    · subst e
      rw [if_pos rfl, if_pos hj] at hy
      injection hy with hy
      subst hy
      have hcs : cs = [u] := by
        refine hc.uniq (fun i v hv => ?_) (by rw [K.len hyE, hk]; rfl)
        cases i with
        | succ i => simp at hv
        | zero =>
          simp at hv
          subst hv
          rw [Addr.add_nought, hk, Nat.mul_one, show (⟨g, 0, none⟩ : Addr).add j = ⟨g, j, none⟩ from by cases j <;> simp [Addr.add]]
          exact World.cell?_setCell_same' _ _ _ (by rw [hu0]; rfl)
      subst hcs
      exact (hf b ((K.keep hE fun q hq => hoth q (hf q hq).1).2 b hb)).2
    · rw [if_neg e] at hy
      obtain ⟨ad', ds, e', h1, h2⟩ := hrg i y hy
      injection e' with e'
      subst e'
      obtain ⟨css, o1, o2, o3⟩ := h
      obtain ⟨es, q1, q2, q3⟩ := o3 i y hy
      have hds : ds = es := by
        refine h1.uniq (fun z v hv => ?_) (by rw [K.len h2, K.len q2])
        have hls := OG.lens (P := fun _ _ => True) o2 fun j x hx => by
          obtain ⟨cs, e1, e2, _⟩ := o3 j x hx
          exact ⟨cs, e1, e2, trivial⟩
        rw [add_of_add]
        exact World.ownsRow.cells o1 (g := g) rfl _ v (flat_at (fun cs hcs => (hls cs hcs).1) q1 hv)
      subst hds
      have hcs : cs = ds := by
        refine hc.uniq (fun z v hv => ?_) (by rw [K.len hyE, K.len h2])
        have hz : z = 0 := by
          have := (List.getElem?_eq_some_iff.1 hv).1
          rw [K.len h2, hk] at this
          omega
        subst hz
        have h3 := h1 0 v hv
        rw [Addr.add_nought, hk, Nat.mul_one, show (⟨g, 0, none⟩ : Addr).add i = ⟨g, i, none⟩ from by cases i <;> simp [Addr.add]] at h3 ⊢
        rw [World.cell?_setCell_other (h := show (⟨g, j, none⟩ : Addr) ≠ ⟨g, i, none⟩ from fun e3 => e (congrArg Addr.off e3))]
        exact h3
      subst hcs
      exact hn b ⟨i, y, _, cs, hy, rfl, h1, h2, .inr ((K.keep q2 fun q hq => hoth q fun e => q3 q hq (by rw [e]; rfl)).2 b hb)⟩
theorem madeCells_G (cs : Array Value) (n : Nat) (h : 0 < cs.size) : (madeCells cs (n * cs.size)).toList = (List.replicate n cs.toList).flatten := by
  refine List.ext_getElem? fun i => ?_
  by_cases hi : i < n * cs.size
  · have h1 : i / cs.size < n := (Nat.div_lt_iff_lt_mul h).2 hi
    have h2 := Nat.mod_lt i h
    have h3 := flat_at (k := cs.size) (css := List.replicate n cs.toList) (fun a ha => by rw [(List.mem_replicate.1 ha).2]; simp) (j := i / cs.size) (i := i % cs.size) (cs := cs.toList) (u := cs[i % cs.size]) (by rw [List.getElem?_replicate, if_pos h1]) (by simp [h2])
    rw [Nat.mul_comm, Nat.div_add_mod] at h3
    rw [h3]
    simp [madeCells, hi, h2]
  · rw [List.getElem?_eq_none (by simp [madeCells]; omega), List.getElem?_eq_none (by rw [flatten_map_len (k := cs.size) fun a ha => by rw [(List.mem_replicate.1 ha).2]; simp]; simp; omega)]
theorem wpList_make_G {α : Type} {K : CR α} {P : Program} {sl T : TypeId} {z : Value} {bytes : Nat} (hu : P.underlying sl = some (.slice T)) (hinfo : (P.info? T).map (fun i => (i.zero, i.size, i.bytes)) = some (some z, K.k, bytes)) (hby : bytes ≤ 1000) {x0 : α} (hz : ∀ w, K.E w z.cells.toList x0 ∧ ∀ b, ¬ K.foot w z.cells.toList x0 b)
    {w : World} {ops : Array Oper} {rest : List Oper} {o : Oper} {a : Act} {Q : Exit → Act → World → Prop} (hgd : o.guard = none) (s x : Operand)
    (ho : o.op = Op.makeSlice sl s x) (base n : Nat) (L C : Int) (hs : a.eval s = .int .i64 L) (hx : a.eval x = .int .i64 C) (hL : L = (n : Int)) (hC : C = (n : Int)) (hn : n ≤ 1000000) (hbase : base ≤ w.heap.size)
    (h : ∀ w', OG K T base w' (.slice (some ⟨w.heap.size, 0, none⟩) n n) (List.replicate n x0) → Below base w w' → w.grownBy w' none → wpList P ops Q rest (a.put o.dst (.slice (some ⟨w.heap.size, 0, none⟩) n n)) w') : wpList P ops Q (o :: rest) a w := by
  obtain ⟨i0, hi, hz0, hz1, hz2⟩ := info_parts hinfo
  have hzk : z.cells.size = K.k := by simpa using K.len (hz w).1
  refine wpList_make_full w hgd s x sl ho base T i0 _ K.k hu hi hz0 hz1 .i64 .i64 L C n hs hx hL hC (by rw [hz2]; exact Nat.le_trans (Nat.mul_le_mul hby hn) (by omega)) (by simp only [maxLen]; omega) hbase ?_
  intro w' h1 h2
  refine h w' ⟨List.replicate n z.cells.toList, ?_, by simp, fun j y hy => ?_⟩ ((Below.refl base w).grown h2 hbase fun k hk => by cases hk) h2
  · rw [← hzk, madeCells_G _ _ (by rw [hzk]; exact K.pos), hzk] at h1
    rw [List.length_replicate]
    exact h1
  · rw [List.getElem?_replicate] at hy
    split at hy
    · injection hy with hy
      subst hy
      rename_i hj
      exact ⟨_, by rw [List.getElem?_replicate, if_pos hj], (hz w').1, fun b hb => ((hz w').2 b hb).elim⟩
    · cases hy
end Go.Proofs.Ytjmmaghjbaigiaa
