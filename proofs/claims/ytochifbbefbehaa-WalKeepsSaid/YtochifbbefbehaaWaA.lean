/- Rows of rows of texts that grow, with the blocks they hang on; an append that leaves what it was given as it was. Nothing of the program is proved here. -/
import Derived.Test.YtochifbbefbehaaGnS
import Derived.Test.YtochifbbefbehaaWaP
import Derived.ArgAppend
import Derived.Deep.DeepAppendRoom
namespace Go.Proofs.Ytochifbbefbehaa
open Go.RowKit
set_option linter.unusedVariables false
set_option linter.unusedSimpArgs false
theorem ownsRow_front {w : World} {base e k g n m cap : Nat} {xs ys : List Value} (h : w.ownsRow base e k (.slice (some ⟨g, 0, none⟩) (n + m) cap) (n + m) (xs ++ ys)) (hx : xs.length = n * k) : w.ownsRow base e k (.slice (some ⟨g, 0, none⟩) n cap) n xs := by
  rcases h.2 with ⟨h0, _⟩ | ⟨g', cap', cur, hv, hbg, hg, hnc, hcm, hcs, ht⟩
  · cases h0
  · injection hv with e1 e2 e3
    injection e1 with e1
    injection e1 with e1
    subst e1 e3
    refine ⟨hx, .inr ⟨g, cap, cur, rfl, hbg, hg, by omega, hcm, hcs, ?_⟩⟩
    have h2 := congrArg (List.take (n * k)) ht
    rw [List.take_take, Nat.min_eq_left (Nat.mul_le_mul_right _ (by omega))] at h2
    rw [h2, List.take_append_of_le_length (by omega), List.take_of_length_le (by omega)]
theorem ownsRow_up {w : World} {b base e k n : Nat} {v : Value} {xs : List Value} (h : w.ownsRow b e k v n xs) (hb : base ≤ b) : w.ownsRow base e k v n xs := by
  refine ⟨h.1, ?_⟩
  rcases h.2 with h | ⟨g, cap, cur, hv, hbg, r⟩
  · exact .inl h
  · exact .inr ⟨g, cap, cur, hv, Nat.le_trans hb hbg, r⟩
/-- A row of one's own, of data that hang on no block, whose own block is as it was. -/
theorem OG.keepOwn {α : Type} {K : CR α} (hK : K.Flat) {T : TypeId} {base : Nat} {w w' : World} {v : Value} {l : List α} (h : OG K T base w v l) (hk : ∀ b, v.ownBlock = some b → w'.heap[b]? = w.heap[b]?) : OG K T base w' v l := by
  obtain ⟨css, h1, h2, h3⟩ := h
  exact ⟨css, ownsRow_keepB h1 hk, h2, fun j x hj => by
    obtain ⟨cs, e1, e2, e3⟩ := h3 j x hj
    have := K.keep (w' := w') e2 fun b hb => (hK _ _ _ _ hb).elim
    exact ⟨cs, e1, this.1, fun b hb => e3 b (this.2 b hb)⟩⟩
theorem OG.own_lt {α : Type} {K : CR α} {T : TypeId} {base : Nat} {w : World} {v : Value} {l : List α} (h : OG K T base w v l) {b : Nat} (hb : v.ownBlock = some b) : base ≤ b ∧ b < w.heap.size := by
  obtain ⟨css, h1, _⟩ := h
  exact World.ownsRow.lt h1 b hb
/-- An append that leaves what it was given. -/
theorem run_append_keep {α : Type} {K : CR α} (hK : K.Flat) {P : Program} {sl T : TypeId} (tg : TG K P sl T) {base : Nat} {w : World} {v : Value} {l : List α} (ty : TypeId) (hown : OG K T base w v l) {ad : Addr} {m : Nat} (c : Nat) {M : List α} (hm : M.length = m) (hp : 0 < m) (hr : RG K w (some ad) M) (hbound : l.length + m ≤ 1000000) (hbase : base ≤ w.heap.size) :
    ∃ v' w', (Builtin.append_ #[sl, sl] ty #[v, .slice (some ad) m c]).run P w = .ok v' w' ∧ OG K T base w' v' (l ++ M) ∧ OG K T base w' v l ∧ Below base w w' ∧ w.grownBy w' v.ownBlock ∧ (v'.ownBlock = v.ownBlock ∨ ∃ b, v'.ownBlock = some b ∧ w.heap.size ≤ b ∧ b < w'.heap.size) := by
  have hown' := hown
  obtain ⟨css, h1, h2, h3⟩ := hown
  rcases h1.2 with ⟨rfl, h0⟩ | ⟨g, cap, cur, rfl, hb, hh, hc, hcm, hsz, ht⟩
  · obtain rfl := List.eq_nil_of_length_eq_zero h0
    obtain ⟨v', w', e1, e2, e3, e4, e5⟩ := run_append_G tg ty hown' c hm hr (fun _ _ _ _ _ _ _ _ b hb => (hK _ _ _ _ hb).elim) hbound hbase
    refine ⟨v', w', e1, e2, OG.nil, e3, e4, ?_⟩
    rcases e5 with e5 | e5
    · exact .inl e5
    · exact .inr ⟨_, e5, Nat.le_refl _, (e2.own_lt e5).2⟩
  · obtain ⟨z, bytes, hinfo, hby, hzc⟩ := tg.info
    obtain ⟨i0, hi, hz0, hz1, hz2⟩ := info_parts hinfo
    obtain ⟨dss, d1, d2, d3⟩ := hr.rows
    have hls := OG.lens (P := fun _ _ => True) d1 fun j x hx => by
      obtain ⟨cs, e1, e2, _⟩ := d3 j x hx
      exact ⟨cs, e1, e2, trivial⟩
    have hcl := OG.lens (P := fun _ _ => True) h2 fun j x hx => by
      obtain ⟨cs, e1, e2, _⟩ := h3 j x hx
      exact ⟨cs, e1, e2, trivial⟩
    have fc := flatten_map_len fun cs hcs => (hcl cs hcs).1
    have fd := flatten_map_len fun cs hcs => (hls cs hcs).1
    rw [h2] at fc
    rw [d1, hm] at fd
    have one : ∀ u ∈ dss.flatten, u.oneCell' = true := fun u hu => by
      obtain ⟨cs, hcs, hu⟩ := List.mem_flatten.1 hu
      exact (hls cs hcs).2 u hu
    have both : ∀ {w' : World} {v' : Value}, w'.ownsRow base T K.k v' (l.length + m) (css.flatten ++ dss.flatten) → OG K T base w' v' (l ++ M) := fun {w' v'} hv' => by
      refine ⟨css ++ dss, by rw [List.length_append, hm, List.flatten_append]; exact hv', by simp [h2, d1], fun j x hj => ?_⟩
      by_cases hlt : j < l.length
      · rw [List.getElem?_append_left hlt] at hj
        obtain ⟨cs, e1, e2, e3⟩ := h3 j x hj
        have := K.keep (w' := w') e2 fun b hf => (hK _ _ _ _ hf).elim
        exact ⟨cs, by rw [List.getElem?_append_left (by omega)]; exact e1, this.1, fun b hf => (hK _ _ _ _ hf).elim⟩
      · rw [List.getElem?_append_right (by omega)] at hj
        obtain ⟨cs, e1, e2, e4⟩ := d3 _ x hj
        have := K.keep (w' := w') e2 fun b hf => (hK _ _ _ _ hf).elim
        exact ⟨cs, by rw [List.getElem?_append_right (by omega), h2]; exact e1, this.1, fun b hf => (hK _ _ _ _ hf).elim⟩
    have old : ∀ {w' : World}, w'.ownsRow base T K.k (.slice (some ⟨g, 0, none⟩) l.length cap) l.length css.flatten → OG K T base w' (.slice (some ⟨g, 0, none⟩) l.length cap) l := fun {w'} hv' => by
      refine ⟨css, hv', h2, fun j x hj => ?_⟩
      obtain ⟨cs, e1, e2, e3⟩ := h3 j x hj
      have := K.keep (w' := w') e2 fun b hf => (hK _ _ _ _ hf).elim
      exact ⟨cs, e1, this.1, fun b hf => (hK _ _ _ _ hf).elim⟩
    by_cases hroom : l.length + m ≤ cap
    · obtain ⟨w', q1, q2, q3⟩ := run_append_own_spare (P := P) w base sl ty T i0 K.k tg.und hi hz1 g l.length cap css.flatten h1 ad m c dss.flatten fd d2 one hroom
      refine ⟨_, w', q1, both q2, old (ownsRow_front q2 fc), (Below.refl base w).grown q3 hbase fun q hq => by injection hq with hq; omega, q3, .inl rfl⟩
    · obtain ⟨v', w', q1, q2, q3⟩ := run_append_arg_grows (P := P) w sl ty T i0 z K.k bytes tg.und hi hz0 hz1 hz2 hzc K.pos ⟨g, 0, none⟩ l.length cap css.flatten fc (fun j u hj => by
          have := World.ownsRow.cells h1 (g := g) rfl j u hj
          exact this) ad m c dss.flatten fd d2 (by omega) (by simp only [maxLen]; omega) (Nat.le_trans (Nat.mul_le_mul hbound hby) (by omega))
      have hbe : Below base w w' := (Below.refl base w).grown q3 hbase fun q hq => by cases hq
      refine ⟨v', w', q1, both (ownsRow_up q2 hbase), old (ownsRow_keepB h1 fun b hb' => by injection hb' with hb'; subst hb'; exact q3.block _ (Array.getElem?_eq_some_iff.1 hh).1 (by simp)), hbe, ⟨q3.os, q3.tape, q3.output, q3.size, fun k hk _ => q3.block k hk (by simp)⟩, ?_⟩
      rcases q2.2 with ⟨_, e0⟩ | ⟨g', cap', cur', e0, e1, e2, _⟩
      · omega
      · exact .inr ⟨g', by rw [e0]; rfl, e1, (Array.getElem?_eq_some_iff.1 e2).1⟩
/-- What the whole rows hang on. -/
def FootF {α : Type} (K : CR α) (w : World) (g : Nat) (F : List (List α)) (b : Nat) : Prop := ∃ (j : Nat) (x : List α) (a : Value), F[j]? = some x ∧ w.cell? ⟨g, j, none⟩ = some a ∧ (CR.list K).foot w [a] x b
theorem OO.cells {α : Type} {K : CR α} {T TS : TypeId} {base g n c : Nat} {w : World} {u : Value} {F : List (List α)} {cur : List α} (h : OO K T TS base w (.slice (some ⟨g, 0, none⟩) n c) u F cur) {j : Nat} {x : List α} {a : Value} (hj : F[j]? = some x) (ha : w.cell? ⟨g, j, none⟩ = some a) : (CR.list K).E w [a] x ∧ ∀ b, (CR.list K).foot w [a] x b → g ≠ b ∧ u.ownBlock ≠ some b := by
  obtain ⟨vs, h1, h2, h3, h4, h5⟩ := h
  obtain ⟨a', g1, g2, g3⟩ := h5 j x hj
  have hjl : j < F.length := (List.getElem?_eq_some_iff.1 hj).1
  have hc := World.ownsRow.cells h1 (g := g) rfl j a' (by rw [List.getElem?_append_left (by omega)]; exact g1)
  rw [show (⟨g, 0, none⟩ : Addr).add j = ⟨g, j, none⟩ from by cases j <;> simp [Addr.add], ha] at hc
  obtain rfl := Option.some.inj hc
  exact ⟨g2, fun b hb => ⟨fun e => (g3 b hb).1 (by rw [e]; rfl), (g3 b hb).2⟩⟩
theorem OO.foot_ne {α : Type} {K : CR α} {T TS : TypeId} {base g n c : Nat} {w : World} {u : Value} {F : List (List α)} {cur : List α} (h : OO K T TS base w (.slice (some ⟨g, 0, none⟩) n c) u F cur) {b : Nat} (hb : FootF K w g F b) : g ≠ b ∧ u.ownBlock ≠ some b ∧ b < w.heap.size := by
  obtain ⟨j, x, a, h1, h2, h3⟩ := hb
  have := h.cells h1 h2
  exact ⟨(this.2 b h3).1, (this.2 b h3).2, (CR.list K).lt this.1 b h3⟩
theorem OO.keepY {α : Type} {K : CR α} (hK : K.Flat) {T TS : TypeId} {base g n c : Nat} {w w' : World} {u : Value} {F : List (List α)} {cur : List α} (h : OO K T TS base w (.slice (some ⟨g, 0, none⟩) n c) u F cur)
    (hg : w'.heap[g]? = w.heap[g]?) (ho : OG K T base w' u cur) (hv : ∀ b, FootF K w g F b → w'.heap[b]? = w.heap[b]?) : OO K T TS base w' (.slice (some ⟨g, 0, none⟩) n c) u F cur := by
  obtain ⟨vs, h1, h2, h3, h4, h5⟩ := h
  refine ⟨vs, ownsRow_keepB h1 fun b hb => by injection hb with hb; subst hb; exact hg, h2, ho, h4, fun j x hj => ?_⟩
  obtain ⟨a, g1, g2, g3⟩ := h5 j x hj
  have hjl : j < F.length := (List.getElem?_eq_some_iff.1 hj).1
  have hc := World.ownsRow.cells h1 (g := g) rfl j a (by rw [List.getElem?_append_left (by omega)]; exact g1)
  rw [show (⟨g, 0, none⟩ : Addr).add j = ⟨g, j, none⟩ from by cases j <;> simp [Addr.add]] at hc
  have := (CR.list K).keep (w' := w') g2 fun b hf => hv b ⟨j, x, a, hj, hc, hf⟩
  exact ⟨a, g1, this.1, fun b hf => g3 b (this.2 b hf)⟩
theorem OO.footKeep {α : Type} {K : CR α} {T TS : TypeId} {base g n c : Nat} {w w' : World} {u : Value} {F : List (List α)} {cur : List α} (h : OO K T TS base w (.slice (some ⟨g, 0, none⟩) n c) u F cur)
    (hg : ∀ j, j < F.length → w'.cell? ⟨g, j, none⟩ = w.cell? ⟨g, j, none⟩) (hv : ∀ b, FootF K w g F b → w'.heap[b]? = w.heap[b]?) {b : Nat} (hb : FootF K w' g F b) : FootF K w g F b := by
  obtain ⟨j, x, a, h1, h2, h3⟩ := hb
  rw [hg j (List.getElem?_eq_some_iff.1 h1).1] at h2
  exact ⟨j, x, a, h1, h2, ((CR.list K).keep (w' := w') (h.cells h1 h2).1 fun b hf => hv b ⟨j, x, a, h1, h2, hf⟩).2 b h3⟩
/-- Rows of texts of which the last one grows; the blocks that they hang on are in Y. -/
def PW (base : Nat) (Y : Nat → Prop) (w : World) (v : Value) (L : List (List (List UInt8))) : Prop :=
  (L = [] ∧ v = .slice none 0 0) ∨ ∃ (F : List (List (List UInt8))) (cur : List (List UInt8)) (u : Value) (g c : Nat), L = F ++ [cur] ∧ v = .slice (some ⟨g, 0, none⟩) (F.length + 1) c ∧
    OO CR.str 9 31 base w v u F cur ∧ Y g ∧ (∀ b, u.ownBlock = some b → Y b) ∧ ∀ b, FootF CR.str w g F b → Y b
theorem PW.nil {base : Nat} {Y : Nat → Prop} {w : World} : PW base Y w (.slice none 0 0) [] := .inl ⟨rfl, rfl⟩
theorem PW.keep {base : Nat} {Y : Nat → Prop} {w w' : World} {v : Value} {L : List (List (List UInt8))} (h : PW base Y w v L) (hk : ∀ b, Y b → w'.heap[b]? = w.heap[b]?) : PW base Y w' v L := by
  rcases h with h | ⟨F, cur, u, g, c, rfl, rfl, h, y1, y2, y3⟩
  · exact .inl h
  · have h' := h
    obtain ⟨_, _, _, ho, _⟩ := h'
    exact .inr ⟨F, cur, u, g, c, rfl, rfl, h.keepY str_flat (hk g y1) (ho.keepOwn str_flat fun b hb => hk b (y2 b hb)) fun b hb => hk b (y3 b hb), y1, y2, fun b hb => y3 b (h.footKeep (fun j _ => cell_same (p := ⟨g, j, none⟩) (hk g y1)) (fun b hb => hk b (y3 b hb)) hb)⟩
theorem PW.mono {base : Nat} {Y Z : Nat → Prop} {w : World} {v : Value} {L : List (List (List UInt8))} (h : PW base Y w v L) (hy : ∀ b, Y b → Z b) : PW base Z w v L := by
  rcases h with h | ⟨F, cur, u, g, c, e1, e2, h, y1, y2, y3⟩
  · exact .inl h
  · exact .inr ⟨F, cur, u, g, c, e1, e2, h, hy _ y1, fun b hb => hy _ (y2 b hb), fun b hb => hy _ (y3 b hb)⟩
theorem PW.rg {base : Nat} {Y : Nat → Prop} {w : World} {v : Value} {L : List (List (List UInt8))} (h : PW base Y w v L) : ∃ A c, v = .slice A L.length c ∧ L.length ≤ c ∧ c ≤ maxLen ∧ RG (CR.list CR.str) w A L := by
  rcases h with ⟨rfl, rfl⟩ | ⟨F, cur, u, g, c, rfl, rfl, h, y1, y2, y3⟩
  · exact ⟨none, 0, rfl, Nat.le_refl _, Nat.zero_le _, RG.nil⟩
  · obtain ⟨A, c', e, e1, e2, e3, _⟩ := (h.og str_flat).rg
    exact ⟨A, c', e, e1, e2, e3⟩
theorem rg_one {w : World} {q : Nat} {s : List UInt8} (hq : w.cell? ⟨q, 0, none⟩ = some (.string (str s))) : RG CR.str w (some ⟨q, 0, none⟩) [s] := fun j x hj => by
  cases j with
  | zero =>
    simp at hj
    subst hj
    refine ⟨_, _, rfl, fun i u hu => ?_, rfl⟩
    cases i with
    | zero =>
      simp at hu
      subst hu
      rw [Nat.zero_mul, Addr.add_nought, Addr.add_nought]
      exact hq
    | succ i => simp at hu
  | succ j => simp at hj
set_option maxRecDepth 100000 in
/-- A further text onto the last row: what was there stays; it may be stored in its place. -/
theorem PW.grow {base : Nat} {Y : Nat → Prop} {w : World} {v : Value} {F : List (List (List UInt8))} {cur : List (List UInt8)} (h : PW base Y w v (F ++ [cur])) (hY : ∀ b, Y b → b < w.heap.size) {q : Nat} {s : List UInt8} (hq : w.cell? ⟨q, 0, none⟩ = some (.string (str s))) (hn : cur.length ≤ 100000) (hbase : base ≤ w.heap.size) :
    ∃ g c u, v = .slice (some ⟨g, 0, none⟩) (F.length + 1) c ∧ F.length + 1 ≤ c ∧ Y g ∧ w.cell? ⟨g, F.length, none⟩ = some u ∧ ∀ ty, ∃ u' w', (Builtin.append_ #[31, 31] ty #[u, .slice (some ⟨q, 0, none⟩) 1 1]).run Try.prog w = .ok u' w' ∧
      OG CR.str 9 base w' u' (cur ++ [s]) ∧ PW base Y w' v (F ++ [cur]) ∧ Frm Y w w' ∧ Below base w w' ∧
      w'.frozen? ⟨g, F.length, none⟩ = false ∧ w'.cell? ⟨g, F.length, none⟩ = some u ∧ PW base (fun b => Y b ∨ w.heap.size ≤ b ∧ b < w'.heap.size) (w'.setCell ⟨g, F.length, none⟩ u') v (F ++ [cur ++ [s]]) := by
  rcases h with ⟨h, _⟩ | ⟨F', cur', u, g, c, e, rfl, h, y1, y2, y3⟩
  · simp at h
  · obtain ⟨rfl, e⟩ := List.append_inj' e rfl
    obtain rfl : cur = cur' := by simpa using e
    have hc := h.cell
    obtain ⟨g', c', e, hc1, hc2, hc3, hc4, hc5⟩ := hc
    simp only [Value.slice.injEq, Option.some.injEq, Addr.mk.injEq, and_true, true_and] at e
    obtain ⟨rfl, rfl⟩ := e
    have h' := h
    obtain ⟨vs, h1, h2, ho, hb', h5⟩ := h'
    refine ⟨g, c, u, rfl, hc1, y1, hc3, fun ty => ?_⟩
    obtain ⟨u', w', a1, a2, a3, a4, a5, a6⟩ := run_append_keep str_flat tgS ty ho (m := 1) 1 (M := [s]) rfl (by omega) (rg_one hq) (by omega) hbase
    have fr : Frm Y w w' := Frm.grown a5 fun k hk => y2 k hk
    have hgl : g < w.heap.size := hY g y1
    have hgu : ∀ b, u.ownBlock = some b → b ≠ g := fun b hb e => hb' b hb (by rw [e]; rfl)
    have hcg : w'.heap[g]? = w.heap[g]? := a5.block g hgl fun e => hgu g e.symm rfl
    have hrow : ∀ b, FootF CR.str w g F b → w'.heap[b]? = w.heap[b]? := fun b hb => a5.block b (h.foot_ne hb).2.2 fun e => (h.foot_ne hb).2.1 e.symm
    have hk := h.keepY str_flat hcg a3 hrow
    have hf : ∀ b, FootF CR.str w' g F b → FootF CR.str w g F b := fun b hb => h.footKeep (fun j _ => cell_same (p := ⟨g, j, none⟩) hcg) hrow hb
    have h6 : u'.ownBlock = u.ownBlock ∨ ∃ b, u'.ownBlock = some b ∧ w.heap.size ≤ b := by
      rcases a6 with a6 | ⟨b, a6, a7, _⟩
      · exact .inl a6
      · exact .inr ⟨b, a6, a7⟩
    obtain ⟨s1, s2, s3⟩ := h.store a5 a2 str_flat h6
    have hoth : ∀ b, b ≠ g → (w'.setCell ⟨g, F.length, none⟩ u').heap[b]? = w'.heap[b]? := setCell_else w' g F.length u'
    refine ⟨u', w', a1, a2, .inr ⟨F, cur, u, g, c, rfl, rfl, hk, y1, y2, fun b hb => y3 b (hf b hb)⟩, fr, a4, s1, s2, .inr ⟨F, _, u', g, c, rfl, rfl, s3, .inl y1, fun b hb => ?_, fun b hb => ?_⟩⟩
    · rcases a6 with a6 | ⟨b', a6, a7, a8⟩
      · exact .inl (y2 b (by rw [← a6]; exact hb))
      · rw [a6] at hb
        injection hb with hb
        subst hb
        exact .inr ⟨a7, a8⟩
    · refine .inl (y3 b (hf b (hk.footKeep (fun j hj => ?_) (fun b hb => hoth b (fun e => (hk.foot_ne hb).1 e.symm)) hb)))
      exact World.cell?_setCell_other w' ⟨g, F.length, none⟩ ⟨g, j, none⟩ u' (fun e => by injection e with _ e; omega)
set_option maxRecDepth 100000 in
/-- A further row is begun. -/
theorem PW.push {base : Nat} {Y : Nat → Prop} {w : World} {v : Value} {L : List (List (List UInt8))} (ty : TypeId) (h : PW base Y w v L) (hY : ∀ b, Y b → b < w.heap.size) {q b2 : Nat} {u2 : Value} {c2 : List (List UInt8)} (hq : w.cell? ⟨q, 0, none⟩ = some u2) (ho : OG CR.str 9 base w u2 c2) (hb2 : u2.ownBlock = some b2) (hy2 : ¬ Y b2) (hn : L.length ≤ 100000) (hbase : base ≤ w.heap.size) :
    ∃ v' w', (Builtin.append_ #[56, 56] ty #[v, .slice (some ⟨q, 0, none⟩) 1 1]).run Try.prog w = .ok v' w' ∧ PW base (fun b => Y b ∨ b = b2 ∨ w.heap.size ≤ b ∧ b < w'.heap.size) w' v' (L ++ [c2]) ∧ Below base w w' ∧ Frm Y w w' := by
  obtain ⟨z, bytes, hinfo, hby, hzc⟩ := tgSS.info
  obtain ⟨i0, hi, hz0, hz1, hz2⟩ := info_parts hinfo
  have hcell : ∀ (j : Nat) (x : Value), [u2][j]? = some x → w.cell? ((⟨q, 0, none⟩ : Addr).add j) = some x := fun j x hx => by
    cases j with
    | zero =>
      simp at hx
      subst hx
      rw [Addr.add_nought]
      exact hq
    | succ j => simp at hx
  have hone : ∀ u ∈ [u2], u.oneCell' = true := fun u hu => by
    simp at hu
    subst hu
    obtain ⟨A, c, e, _⟩ := ho.rg
    rw [e]
    rfl
  have hb2l := ho.own_lt hb2
  rcases h with ⟨rfl, rfl⟩ | ⟨F, cur, u, g, c, rfl, rfl, h, y1, y2, y3⟩
  · obtain ⟨v', w', hrun, b1, g1, _, b3⟩ := run_append_own_at (P := Try.prog) w base 56 ty 31 i0 z 1 bytes tgSS.und hi hz0 hz1 hz2 hzc (by omega) (.slice none 0 0) 0 [] (World.ownsRow_nil w base 31 1) ⟨q, 0, none⟩ 1 1 [u2] rfl hcell hone (by simp only [maxLen]; omega) (Nat.le_trans (Nat.mul_le_mul (show _ ≤ 1000000 by omega) hby) (by omega)) hbase
    have hv' : v'.ownBlock = some w.heap.size := by
      rcases b3 with b3 | b3
      · rcases b1.2 with ⟨_, e⟩ | ⟨g, _, _, e, _⟩
        · omega
        · rw [e] at b3
          cases b3
      · exact b3
    rcases b1.2 with ⟨_, e⟩ | ⟨g, c, cu, e, q1, q2, q3, q4, q5, q6⟩
    · omega
    · subst e
      injection hv' with hv'
      simp only at hv'
      refine ⟨_, w', hrun, .inr ⟨[], c2, u2, g, c, rfl, rfl, ⟨[], b1, rfl, ho.keepOwn str_flat fun b hb => ?_, fun b hb e => ?_, fun j x hj => by simp at hj⟩, .inr (.inr ⟨by omega, (Array.getElem?_eq_some_iff.1 q2).1⟩), fun b hb => .inr (.inl ?_), fun b ⟨j, x, a, hj, _⟩ => by simp at hj⟩, (Below.refl base w).grown g1 hbase fun q hq => (by cases hq), Frm.grown g1 fun k hk => (by cases hk)⟩
      · rw [hb2] at hb
        injection hb with hb
        subst hb
        exact g1.block _ hb2l.2 (by simp [Value.ownBlock])
      · rw [hb2] at hb
        injection hb with hb
        injection e with e
        simp only at e
        omega
      · rw [hb2] at hb
        injection hb with hb
        exact hb.symm
  · have h' := h
    obtain ⟨vs, h1, h2, ho1, hb', h5⟩ := h'
    rw [List.length_append, List.length_singleton] at hn
    obtain ⟨v', w', hrun, b1, g1, _, b3⟩ := run_append_own_at (P := Try.prog) w base 56 ty 31 i0 z 1 bytes tgSS.und hi hz0 hz1 hz2 hzc (by omega) (.slice (some ⟨g, 0, none⟩) (F.length + 1) c) (F.length + 1) (vs ++ [u]) h1 ⟨q, 0, none⟩ 1 1 [u2] rfl hcell hone (by simp only [maxLen]; omega) (Nat.le_trans (Nat.mul_le_mul (show _ ≤ 1000000 by omega) hby) (by omega)) hbase
    have hgl := hY g y1
    have hv' : v'.ownBlock = some g ∨ v'.ownBlock = some w.heap.size := b3
    rcases b1.2 with ⟨_, e⟩ | ⟨g', c', cu, e, q1, q2, q3, q4, q5, q6⟩
    · omega
    · subst e
      have hg' : g' = g ∨ g' = w.heap.size := by
        rcases hv' with hv' | hv'
        · injection hv' with hv'
          exact .inl hv'
        · injection hv' with hv'
          exact .inr hv'
      have ug : ∀ b, u.ownBlock = some b → b ≠ g := fun b hb e => hb' b hb (by rw [e]; rfl)
      have oth : ∀ b, b < w.heap.size → b ≠ g → w'.heap[b]? = w.heap[b]? := fun b h1 h2 => g1.block b h1 fun e => by injection e with e; exact h2 e
      have ub : ∀ b, u.ownBlock = some b → w'.heap[b]? = w.heap[b]? := fun b hb => oth b (hY b (y2 b hb)) (ug b hb)
      have hE : (CR.list CR.str).E w [u] cur := ho1.listE
      have hEk := (CR.list CR.str).keep (w' := w') hE fun b hf => ub b (list_foot str_flat hf)
      have b2g : b2 ≠ g := fun e => hy2 (by rw [e]; exact y1)
      have hOO : OO CR.str 9 31 base w' (.slice (some ⟨g', 0, none⟩) (F.length + 1 + 1) c') u2 (F ++ [cur]) c2 := by
        refine ⟨vs ++ [u], by rw [List.length_append, List.length_singleton]; exact b1, by simp [h2], ho.keepOwn str_flat fun b hb => ?_, fun b hb e => ?_, fun j x hj => ?_⟩
        · rw [hb2] at hb
          injection hb with hb
          subst hb
          exact oth _ hb2l.2 b2g
        · rw [hb2] at hb
          injection hb with hb
          injection e with e
          simp only at e
          rcases hg' with hg' | hg' <;> omega
        · by_cases hlt : j < F.length
          · rw [List.getElem?_append_left hlt] at hj
            obtain ⟨a, f1, f2, f3⟩ := h5 j x hj
            have hc := World.ownsRow.cells h1 (g := g) rfl j a (by rw [List.getElem?_append_left (by omega)]; exact f1)
            rw [show (⟨g, 0, none⟩ : Addr).add j = ⟨g, j, none⟩ from by cases j <;> simp [Addr.add]] at hc
            have hff : ∀ b, (CR.list CR.str).foot w [a] x b → FootF CR.str w g F b := fun b hb => ⟨j, x, a, hj, hc, hb⟩
            have := (CR.list CR.str).keep (w' := w') f2 fun b hf => oth b (h.foot_ne (hff b hf)).2.2 fun e => (h.foot_ne (hff b hf)).1 e.symm
            refine ⟨a, by rw [List.getElem?_append_left (by omega)]; exact f1, this.1, fun b hb => ⟨fun e => ?_, fun e => ?_⟩⟩
            · have hfn := h.foot_ne (hff b (this.2 b hb))
              injection e with e
              simp only at e
              rcases hg' with hg' | hg'
              · exact hfn.1 (by omega)
              · omega
            · rw [hb2] at e
              injection e with e
              subst e
              exact hy2 (y3 _ (hff _ (this.2 _ hb)))
          · rw [List.getElem?_append_right (by omega)] at hj
            have hj0 : j - F.length = 0 := by
              have := (List.getElem?_eq_some_iff.1 hj).1
              simp at this
              omega
            rw [hj0] at hj
            simp at hj
            subst hj
            refine ⟨u, by rw [List.getElem?_append_right (by omega), h2, hj0]; rfl, hEk.1, fun b hb => ?_⟩
            have hub := list_foot str_flat (hEk.2 b hb)
            refine ⟨fun e => ?_, fun e => ?_⟩
            · injection e with e
              simp only at e
              have := hY b (y2 b hub)
              rcases hg' with hg' | hg'
              · exact ug b hub (by omega)
              · omega
            · rw [hb2] at e
              injection e with e
              subst e
              exact hy2 (y2 _ hub)
      refine ⟨_, w', hrun, .inr ⟨F ++ [cur], c2, u2, g', c', rfl, by rw [List.length_append, List.length_singleton], hOO, ?_, fun b hb => .inr (.inl ?_), fun b hb => .inl ?_⟩, (Below.refl base w).grown g1 hbase fun q hq => (World.ownsRow.lt h1 q hq).1, Frm.grown g1 fun k hk => by injection hk with hk; rw [← hk]; exact y1⟩
      · rcases hg' with hg' | hg'
        · exact .inl (by rw [hg']; exact y1)
        · exact .inr (.inr ⟨by omega, (Array.getElem?_eq_some_iff.1 q2).1⟩)
      · rw [hb2] at hb
        injection hb with hb
        exact hb.symm
      · obtain ⟨j, x, a, hj, hc, hf⟩ := hb
        have hOc := hOO
        obtain ⟨ws, k1, k2, k3, k4, k5⟩ := hOc
        by_cases hlt : j < F.length
        · rw [List.getElem?_append_left hlt] at hj
          obtain ⟨a', f1, f2, f3⟩ := h5 j x hj
          have hc' := World.ownsRow.cells h1 (g := g) rfl j a' (by rw [List.getElem?_append_left (by omega)]; exact f1)
          rw [show (⟨g, 0, none⟩ : Addr).add j = ⟨g, j, none⟩ from by cases j <;> simp [Addr.add]] at hc'
          have hff : ∀ b, (CR.list CR.str).foot w [a'] x b → FootF CR.str w g F b := fun b hb => ⟨j, x, a', hj, hc', hb⟩
          have hkp := (CR.list CR.str).keep (w' := w') f2 fun b hf => oth b (h.foot_ne (hff b hf)).2.2 fun e => (h.foot_ne (hff b hf)).1 e.symm
          have hb1 := World.ownsRow.cells b1 (g := g') rfl j a' (by rw [List.getElem?_append_left (show j < (vs ++ [u]).length by rw [List.length_append, List.length_singleton]; omega), List.getElem?_append_left (show j < vs.length by omega)]; exact f1)
          rw [show (⟨g', 0, none⟩ : Addr).add j = ⟨g', j, none⟩ from by cases j <;> simp [Addr.add], hc] at hb1
          obtain rfl := Option.some.inj hb1
          exact y3 b (hff b (hkp.2 b hf))
        · rw [List.getElem?_append_right (by omega)] at hj
          have hj0 : j = F.length := by
            have := (List.getElem?_eq_some_iff.1 hj).1
            simp at this
            omega
          subst hj0
          simp at hj
          subst hj
          have hb1 := World.ownsRow.cells b1 (g := g') rfl F.length u (by rw [List.getElem?_append_left (show F.length < (vs ++ [u]).length by rw [List.length_append, List.length_singleton]; omega), List.getElem?_append_right (by omega), h2, Nat.sub_self]; rfl)
          rw [show (⟨g', 0, none⟩ : Addr).add F.length = ⟨g', F.length, none⟩ from by cases F.length <;> simp [Addr.add], hc] at hb1
          obtain rfl := Option.some.inj hb1
          exact y2 b (list_foot str_flat hf)
end Go.Proofs.Ytochifbbefbehaa
