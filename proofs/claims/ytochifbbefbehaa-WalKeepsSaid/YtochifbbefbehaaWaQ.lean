/- A log and its disk, plain: what Sync, a failure, a loss of power and an opening leave; nothing of the program is proved here. -/
import Derived.Test.YtochifbbefbehaaWaP
import Derived.Test.YtochifbbefbehaaWsV
namespace Go.Proofs.Ytochifbbefbehaa
set_option linter.unusedVariables false
set_option linter.unusedSimpArgs false
/-- The byte that tells the epoch's lowest byte at a sector's end. -/
def b254 (x : List UInt8) : Nat := (x.getD 254 0).toNat
theorem st_six {e a : Nat} (he : e < 256) (ha : a < 256) : (st (256 * e + a))[6]? = some (UInt8.ofNat e) := by
  rw [st_at _ 6 (by omega)]
  congr 2
  omega
theorem IsSec.b254 {b : List UInt8} {e a : Nat} {L : List (List UInt8)} (h : IsSec b (e : Int) (a : Int) L) (he : e < 256) : b254 b = e := by
  have h1 := h.tail8
  have ha : a < 256 := by have := h.2.2.2.1; omega
  rw [Int.toNat_natCast, Int.toNat_natCast] at h1
  have h2 : b[254]? = some (UInt8.ofNat e) := by
    have := congrArg (·[6]?) h1
    simp only [List.getElem?_drop] at this
    rw [this]
    exact st_six he ha
  unfold Go.Proofs.Ytochifbbefbehaa.b254
  rw [List.getD_eq_getElem?_getD, h2]
  show (UInt8.ofNat e).toNat = e
  rw [toNat_of]
  omega
theorem isSec_mk {e a : Nat} {g : List (List UInt8)} (he1 : 1 ≤ e) (he : e < 256) (ha : a < 256) (hg : g ≠ []) (hz : wsSize g ≤ 239) : IsSec (wsSec e a g) (e : Int) (a : Int) g := ⟨by omega, by omega, by omega, by omega, hg, hz, by simp⟩
theorem rd_old {x : List UInt8} {e a : Nat} (he : e < 256) (h : b254 x ≠ e) : rdP x (e : Int) (a : Int) = none := rdP_none fun L hL => h (hL.b254 he)
/-- A sector that was torn is read as it was written, or not at all. -/
theorem rd_torn {e a t : Nat} {g : List (List UInt8)} {o : List UInt8} (he1 : 1 ≤ e) (he : e < 256) (ha : a < 256) (hg : g ≠ []) (hz : wsSize g ≤ 239) (ho : o.length = 256) (hoe : b254 o ≠ e) (ht : t ≤ 256) :
    rdP ((wsSec e a g).take t ++ o.drop t) (e : Int) (a : Int) = none ∨ rdP ((wsSec e a g).take t ++ o.drop t) (e : Int) (a : Int) = some g := by
  have hY := wsSec_len e a g hz
  have hs := isSec_mk he1 he ha hg hz
  cases hr : rdP ((wsSec e a g).take t ++ o.drop t) (e : Int) (a : Int) with
  | none => exact .inl rfl
  | some L =>
    right
    have hL := rdP_is hr
    have hx : (wsSec e a g).take t ++ o.drop t = wsSec e a g := by
      by_cases h1 : t ≤ 254
      · exfalso
        have := hL.b254 he
        apply hoe
        rw [← this]
        unfold b254
        rw [List.getD_eq_getElem?_getD, List.getD_eq_getElem?_getD, List.getElem?_append_right (by rw [List.length_take]; omega), List.length_take, Nat.min_eq_left (by omega), List.getElem?_drop]
        congr 3
        omega
      · by_cases h2 : t = 256
        · rw [h2, List.take_of_length_le (by omega), List.drop_of_length_le (by omega), List.append_nil]
        · have h3 : t = 255 := by omega
          subst h3
          have hl : ((wsSec e a g).take 255 ++ o.drop 255).length = 256 := by simp; omega
          refine List.ext_getElem? fun i => ?_
          by_cases hi : i < 255
          · rw [List.getElem?_append_left (by rw [List.length_take]; omega), List.getElem?_take, if_pos hi]
          · by_cases hi2 : i = 255
            · subst hi2
              have q1 := congrArg (·[7]?) hL.tail8
              have q2 := congrArg (·[7]?) hs.tail8
              simp only [List.getElem?_drop] at q1 q2
              rw [q1, q2]
            · rw [List.getElem?_eq_none (by omega), List.getElem?_eq_none (by omega)]
    rw [hx] at hr
    rw [rdP_some hs] at hr
    rw [← hr]
/-- What is told of sectors of which the first ones may be torn. -/
theorem scan_torn {e : Nat} (he : e < 256) : ∀ (Y : List (List UInt8)) (a : Nat) (Hs : List (List (List UInt8))),
    (∀ (j : Nat) (y : List UInt8), Y[j]? = some y → match Hs[j]? with
      | none => b254 y ≠ e
      | some g => rdP y (e : Int) ((a + j : Nat) : Int) = none ∨ rdP y (e : Int) ((a + j : Nat) : Int) = some g) → ∃ T N, Hs.flatten = T ++ N ∧ (scanK (e : Int) a Y).1 = T := by
  intro Y
  induction Y with
  | nil => intro a Hs h; exact ⟨[], _, rfl, rfl⟩
  | cons y Y ih =>
    intro a Hs h
    have h0 := h 0 y rfl
    cases Hs with
    | nil =>
      have : rdP y (e : Int) (a : Int) = none := rd_old he h0
      exact ⟨[], [], rfl, by rw [scanK_none this]⟩
    | cons g Hs =>
      have h0 : rdP y (e : Int) ((a + 0 : Nat) : Int) = none ∨ rdP y (e : Int) ((a + 0 : Nat) : Int) = some g := h0
      rw [Nat.add_zero] at h0
      rcases h0 with h0 | h0
      · exact ⟨[], _, rfl, by rw [scanK_none h0]⟩
      · obtain ⟨T, N, h1, h2⟩ := ih (a + 1) Hs fun j z hz => by
          have := h (j + 1) z hz
          rw [Nat.add_comm j 1, ← Nat.add_assoc] at this
          rwa [Nat.add_comm 1 j, List.getElem?_cons_succ] at this
        exact ⟨g ++ T, N, by rw [List.flatten_cons, h1, List.append_assoc], by rw [scanK_some h0, h2]⟩
/-- Sectors are written, and there is a Sync. -/
theorem wrAll_spec (nw : Nat → Option (List UInt8)) : ∀ (S : List (List UInt8)) (d : Dk) (n : Nat), d.off = false → (∀ (j : Nat) (x : List UInt8), S[j]? = some x → nw (n + j) = some x ∧ x.length = 256 ∧ n + j < d.rows.length) → (∀ i, d.wt i = none ∨ d.wt i = nw i) →
    ((wrAll d n S).2 = 0 ∧ (wrAll d n S).1.off = false ∧ (wrAll d n S).1.rows.length = d.rows.length ∧ (∀ i, (wrAll d n S).1.wt i = none) ∧ ∀ i, i < d.rows.length → (wrAll d n S).1.rows.getD i [] = if n ≤ i ∧ i < n + S.length then S.getD (i - n) [] else d.at_ i) ∨
    ((wrAll d n S).2 ≠ 0 ∧ (wrAll d n S).1.off = true ∧ (wrAll d n S).1.rows.length = d.rows.length ∧ (((wrAll d n S).1.rows = d.rows ∧ ∀ i, (wrAll d n S).1.wt i = none ∨ (wrAll d n S).1.wt i = nw i) ∨
      ((∀ i, (wrAll d n S).1.wt i = none) ∧ ∀ i, i < d.rows.length → (wrAll d n S).1.rows.getD i [] = if n ≤ i ∧ i < n + S.length then S.getD (i - n) [] else d.at_ i))) := by
  intro S
  induction S with
  | nil =>
    intro d n ho _ hw
    have key : ∀ i, (if n ≤ i ∧ i < n + ([] : List (List UInt8)).length then ([] : List (List UInt8)).getD (i - n) [] else d.at_ i) = d.at_ i := fun i => if_neg (by simp)
    rw [wrAll_nil]
    rcases dkSync_is ho with ⟨h1, h2, h3⟩ | ⟨h1, h2, h3⟩
    · exact .inl ⟨h1, h2, h3.len, h3.wt, fun i hi => by rw [key]; exact h3.row i hi⟩
    · refine .inr ⟨by show d.syncErr ≠ 0; rw [h1]; decide, h2, ?_⟩
      rcases h3 with h3 | ⟨h3, h4⟩
      · exact ⟨h3.len, .inr ⟨h3.wt, fun i hi => by rw [key]; exact h3.row i hi⟩⟩
      · exact ⟨by rw [h3], .inl ⟨h3, fun i => by show d.sync.wt i = none ∨ d.sync.wt i = nw i; rw [h4]; exact hw i⟩⟩
  | cons b r ih =>
    intro d n ho hS hw
    obtain ⟨b1, b2, b3⟩ := hS 0 b rfl
    rw [Nat.add_zero] at b1 b3
    obtain ⟨hr, hcase⟩ := dkWrite_is ho b3 b2
    rcases hcase with ⟨h1, h2, h3⟩ | ⟨h1, h2, h3⟩
    · rw [wrAll_ok r h1]
      have hat : ∀ i, (d.write (n : Int) b).at_ i = if i = n then b else d.at_ i := fun i => by
        unfold Dk.at_
        rw [hr, h3 i]
        by_cases e : i = n
        · rw [if_pos e, if_pos e]; rfl
        · rw [if_neg e, if_neg e]
      have key : ∀ i, (if n + 1 ≤ i ∧ i < n + 1 + r.length then r.getD (i - (n + 1)) [] else (d.write (n : Int) b).at_ i) = if n ≤ i ∧ i < n + (b :: r).length then (b :: r).getD (i - n) [] else d.at_ i := fun i => by
        rw [hat]
        simp only [List.length_cons]
        by_cases e : i = n
        · subst e
          rw [if_neg (by omega), if_pos rfl, if_pos (by omega), Nat.sub_self]
          rfl
        · rw [if_neg e]
          by_cases e2 : n + 1 ≤ i ∧ i < n + 1 + r.length
          · rw [if_pos e2, if_pos (by omega), show i - n = (i - (n + 1)) + 1 by omega]
            rfl
          · rw [if_neg e2, if_neg (by omega)]
      have := ih (d.write (n : Int) b) (n + 1) h2 (fun j x hx => by
        have := hS (j + 1) x hx
        rw [hr]
        rw [show n + 1 + j = n + (j + 1) by omega]
        exact this) (fun i => by
        rw [h3 i]
        by_cases e : i = n
        · rw [if_pos e, e]; exact .inr b1.symm
        · rw [if_neg e]; exact hw i)
      simp only [hr, key] at this
      exact this
    · rw [wrAll_no r (by rw [h1]; decide)]
      refine .inr ⟨by show d.writeErr (n : Int) b ≠ 0; rw [h1]; decide, h2, by rw [hr], .inl ⟨hr, fun i => ?_⟩⟩
      rcases h3 i with h3 | ⟨rfl, h3⟩
      · rw [h3]; exact hw i
      · rw [h3]; exact .inr b1.symm
/-- A disk upon which nothing waits, and a ring of sectors of epochs up to e. -/
structure Dq (d : Dk) (N first count e : Nat) : Prop where
  len : d.rows.length = N
  off : d.off = false
  wt : ∀ i, d.wt i = none
  fit : first + count ≤ N
  cnt : count ≤ 256
  few : N ≤ 4096
  new : ∀ i, i < count → b254 (d.rows.getD (first + i) []) ≤ e
/-- A log at work. -/
structure Jn (d : Dk) (g : Lg) (N : Nat) : Prop where
  q : Dq d N g.first g.count g.epoch
  ok : g.Ok
  ep : g.epoch ≤ 200
  cl : g.closed = false
  bd : g.bad = false
  ex : ∃ Gs : List (List (List UInt8)), Gs.length = g.written ∧ Gs.flatten = g.recs ∧ (∀ x ∈ Gs, x ≠ [] ∧ wsSize x ≤ 239) ∧ ∀ i x, Gs[i]? = some x → d.rows.getD (g.first + i) [] = wsSec g.epoch i x
  old : ∀ i, g.written ≤ i → i < g.count → b254 (d.rows.getD (g.first + i) []) < g.epoch
theorem Jn.add {d : Dk} {g : Lg} {N : Nat} (h : Jn d g N) (s : List UInt8) : Jn d (g.add s) N := by
  have ok' := h.ok.add s
  unfold Lg.add at ok' ⊢
  split at ok'
  · rename_i h0
    rw [if_pos h0]
    exact ⟨h.q, ok', h.ep, h.cl, h.bd, h.ex, h.old⟩
  · rename_i h0
    rw [if_neg h0]
    exact h
theorem Jn.brk {d : Dk} {g : Lg} {N : Nat} (h : Jn d g N) (n : Int) (b : Bool) : Jn (d.brk n b) g N := by
  have hr : (d.brk n b).rows = d.rows := by unfold Dk.brk; split <;> rfl
  have hw : (d.brk n b).wt = d.wt := by unfold Dk.brk; split <;> rfl
  have ho : (d.brk n b).off = d.off := by unfold Dk.brk; split <;> rfl
  refine ⟨⟨by rw [hr]; exact h.q.len, by rw [ho]; exact h.q.off, by rw [hw]; exact h.q.wt, h.q.fit, h.q.cnt, h.q.few, by rw [hr]; exact h.q.new⟩, h.ok, h.ep, h.cl, h.bd, by rw [hr]; exact h.ex, by rw [hr]; exact h.old⟩
/-- A further epoch begins. -/
theorem Dq.rest {d : Dk} {g : Lg} {N : Nat} (h : Dq d N g.first g.count g.epoch) (ok : g.Ok) (hb : g.bad = false) (he : g.epoch + 1 ≤ 200) : g.restErr ((g.epoch : Int) + 1) = 0 ∧ g.rest ((g.epoch : Int) + 1) = newG g.first g.count (g.epoch + 1) ∧ Jn d (newG g.first g.count (g.epoch + 1)) N := by
  have e0 : g.restErr ((g.epoch : Int) + 1) = 0 := by
    unfold Lg.restErr
    rw [if_neg (by rw [hb]; simp), if_neg (by omega), if_neg (by omega)]
  have e1 : g.rest ((g.epoch : Int) + 1) = newG g.first g.count (g.epoch + 1) := by
    unfold Lg.rest
    rw [if_pos e0, show ((g.epoch : Int) + 1).toNat = g.epoch + 1 by omega]
    rfl
  refine ⟨e0, e1, ⟨⟨h.len, h.off, h.wt, h.fit, h.cnt, h.few, fun i hi => Nat.le_succ_of_le (h.new i hi)⟩, newG_ok ok.cnt ok.fst (by omega) (by omega), he, rfl, rfl, ⟨[], rfl, rfl, fun x hx => (by cases hx), fun i x hx => (by simp at hx)⟩, fun i _ hi => Nat.lt_succ_of_le (h.new i hi)⟩⟩
/-- Whatever is lost, kept or torn: what is told begins what was added, and the ring may take a further epoch. -/
def Pw (d : Dk) (g : Lg) (N : Nat) : Prop := ∀ f, Dq (d.power f) N g.first g.count g.epoch ∧ ∃ T M, g.wt = T ++ M ∧ (scanK (g.epoch : Int) 0 (ringP (d.power f) g.first g.count)).1 = g.recs ++ T
theorem getD_len {d : Dk} (h : d.Ok) {i : Nat} (hi : i < d.rows.length) : (d.rows.getD i []).length = 256 := by
  refine h.each _ ?_
  rw [List.getD_eq_getElem?_getD, List.getElem?_eq_getElem hi]
  exact List.getElem_mem hi
/-- What a ring tells of which some sectors are whole, some may be torn, others are old. -/
theorem ring_scan {R : List (List UInt8)} {e w : Nat} {Gs Hs : List (List (List UInt8))} (he1 : 1 ≤ e) (he : e < 256) (hR : R.length ≤ 256) (hw : Gs.length = w) (hwR : w ≤ R.length) (hG : ∀ x ∈ Gs, x ≠ [] ∧ wsSize x ≤ 239) (h1 : ∀ i x, Gs[i]? = some x → R[i]? = some (wsSec e i x))
    (h2 : ∀ (j : Nat) (y : List UInt8), R[w + j]? = some y → match Hs[j]? with
      | none => b254 y ≠ e
      | some g => rdP y (e : Int) ((w + j : Nat) : Int) = none ∨ rdP y (e : Int) ((w + j : Nat) : Int) = some g) : ∃ T M, Hs.flatten = T ++ M ∧ (scanK (e : Int) 0 R).1 = Gs.flatten ++ T := by
  have hsplit : R = wsSecs e 0 Gs ++ R.drop w := by
    conv => lhs; rw [← List.take_append_drop w R]
    congr 1
    refine List.ext_getElem? fun i => ?_
    rw [List.getElem?_take, wsSecs_at, Nat.zero_add]
    by_cases hi : i < w
    · rw [if_pos hi, List.getElem?_eq_getElem (by omega : i < Gs.length), h1 i _ (List.getElem?_eq_getElem (by omega))]
      rfl
    · rw [if_neg hi, List.getElem?_eq_none (by omega)]
      rfl
  obtain ⟨T, M, q1, q2⟩ := scan_torn he (R.drop w) w Hs fun j y hy => h2 j y (by rw [← List.getElem?_drop]; exact hy)
  refine ⟨T, M, q1, ?_⟩
  rw [hsplit, scanK_secs he1 (by omega) Gs (fun g hg => (hG g hg).1) (fun g hg => (hG g hg).2) 0 (by omega), Nat.zero_add, hw]
  show Gs.flatten ++ _ = _
  rw [q2]
theorem ring_at {d : Dk} {first count : Nat} (hw : ∀ i, d.wt i = none) {i : Nat} {y : List UInt8} (h : (ringP d first count)[i]? = some y) : i < count ∧ y = d.rows.getD (first + i) [] := by
  have hi : i < count := by
    have := (List.getElem?_eq_some_iff.1 h).1
    simpa [ringP] using this
  refine ⟨hi, ?_⟩
  have h2 : (ringP d first count)[i]? = some (d.at_ (first + i)) := by simp [ringP, hi]
  rw [h2] at h
  rw [← Option.some.inj h]
  exact dkAt_none (hw _)
theorem power_wt (d : Dk) (f : List UInt8) (i : Nat) : (d.power f).wt i = none := rfl
theorem power_row {d : Dk} (h : d.Ok) (f : List UInt8) {i : Nat} (hi : i < d.rows.length) : ∃ t, t ≤ 256 ∧ (d.power f).rows.getD i [] = (d.at_ i).take t ++ (d.rows.getD i []).drop t := by
  obtain ⟨t, h1, h2⟩ := d.power_at h f hi
  rw [dkAt_none (power_wt d f i)] at h2
  exact ⟨t, h1, h2⟩
/-- A disk that has what it had, but for the sectors of a log that is written, of which each is as it was or new, and where new is safe nothing waits. -/
theorem Jn.pw {d d' : Dk} {g : Lg} {N : Nat} (h : Jn d g N) (hok : d.Ok) (hok' : d'.Ok) (hl : d'.rows.length = N)
    (hs : ∀ i, i < N → (d'.at_ i = d.rows.getD i [] ∧ d'.rows.getD i [] = d.rows.getD i []) ∨ ∃ j x, g.secs[j]? = some x ∧ i = g.first + g.written + j ∧ d'.at_ i = x ∧ (d'.rows.getD i [] = d.rows.getD i [] ∨ d'.rows.getD i [] = x)) : Pw d' g N := by
  intro f
  have hq := h.q
  have he1 := h.ok.ep1
  have he2 : g.epoch < 256 := by have := h.ep; omega
  have hfit := h.ok.fits h.cl
  have hwr := h.ok.wr
  have hct := h.ok.cnt
  have hff := hq.fit
  have hsz := grp_size h.ok.small
  have hne := fun x (hx : x ∈ grp g.wt) => grp_some (l := g.wt) x hx
  have hll := hq.len
  -- each sector behind the loss
  have key : ∀ i, i < N → ((d'.power f).rows.getD i [] = d.rows.getD i []) ∨ ∃ j x t, (grp g.wt)[j]? = some x ∧ i = g.first + g.written + j ∧ t ≤ 256 ∧ (d'.power f).rows.getD i [] = (wsSec g.epoch (g.written + j) x).take t ++ (d.rows.getD i []).drop t := fun i hi => by
    obtain ⟨t, t1, t2⟩ := power_row hok' f (by rw [hl]; exact hi)
    rcases hs i hi with ⟨a1, a2⟩ | ⟨j, y, b1, b2, b3, b4⟩
    · left
      rw [t2, a1, a2, List.take_append_drop]
    · right
      have b1' := b1
      unfold Lg.secs at b1'
      rw [wsSecs_at] at b1'
      obtain ⟨x, hx, e⟩ := Option.map_eq_some_iff.1 b1'
      have hyl : y.length = 256 := by rw [← e]; exact wsSec_len _ _ _ (hsz x (List.mem_of_getElem? hx))
      have hdl : (d.rows.getD i []).length = 256 := getD_len hok (by omega)
      rcases b4 with b4 | b4
      · exact ⟨j, x, t, hx, b2, t1, by rw [t2, b3, b4, ← e]⟩
      · refine ⟨j, x, 256, hx, b2, Nat.le_refl _, ?_⟩
        rw [t2, b3, b4, List.take_append_drop, e, List.take_of_length_le (by omega), List.drop_of_length_le (by omega), List.append_nil]
  have hnew : ∀ i, i < g.count → b254 ((d'.power f).rows.getD (g.first + i) []) ≤ g.epoch := fun i hi => by
    rcases key (g.first + i) (by omega) with a | ⟨j, x, t, b1, b2, b3, b4⟩
    · rw [a]; exact hq.new i hi
    · have hxz := hsz x (List.mem_of_getElem? b1)
      have hxl := wsSec_len g.epoch (g.written + j) x hxz
      have hdl : (d.rows.getD (g.first + i) []).length = 256 := getD_len hok (by omega)
      have hjl := (List.getElem?_eq_some_iff.1 b1).1
      rw [b4]
      unfold b254
      by_cases ht : 254 < t
      · have : b254 (wsSec g.epoch (g.written + j) x) = g.epoch := (isSec_mk he1 he2 (by omega) (hne x (List.mem_of_getElem? b1)) hxz).b254 he2
        unfold b254 at this
        rw [List.getD_eq_getElem?_getD] at this ⊢
        rw [List.getElem?_append_left (by rw [List.length_take]; omega), List.getElem?_take, if_pos ht, this]
        exact Nat.le_refl _
      · have := hq.new i hi
        unfold b254 at this
        rw [List.getD_eq_getElem?_getD (i := 254)] at this ⊢
        rw [List.getElem?_append_right (by rw [List.length_take]; omega), List.length_take, Nat.min_eq_left (by omega), List.getElem?_drop, show t + (254 - t) = 254 by omega]
        exact this
  refine ⟨⟨(dkPower_len d' f).trans hl, rfl, power_wt d' f, hq.fit, hq.cnt, hq.few, hnew⟩, ?_⟩
  obtain ⟨Gs, g1, g2, g3, g4⟩ := h.ex
  have hflat := grp_flat g.wt
  obtain ⟨T, M, r1, r2⟩ := ring_scan (R := ringP (d'.power f) g.first g.count) (e := g.epoch) (w := g.written) (Gs := Gs) (Hs := grp g.wt) he1 he2 (by simp [ringP]; omega) g1 (by simp [ringP]; omega) g3
    (fun i x hx => by
      have hi : i < g.written := by rw [← g1]; exact (List.getElem?_eq_some_iff.1 hx).1
      have h3 : (ringP (d'.power f) g.first g.count)[i]? = some ((d'.power f).at_ (g.first + i)) := by unfold ringP; rw [List.getElem?_map, List.getElem?_range (by omega)]; rfl
      rw [h3, dkAt_none (power_wt d' f _)]
      rcases key (g.first + i) (by omega) with a | ⟨j, x', t, b1, b2, _⟩
      · rw [a, g4 i x hx]
      · omega)
    (fun j y hy => by
      obtain ⟨hj, rfl⟩ := ring_at (power_wt d' f) hy
      have hold := h.old (g.written + j) (by omega) hj
      have hdl : (d.rows.getD (g.first + (g.written + j)) []).length = 256 := getD_len hok (by omega)
      rcases key (g.first + (g.written + j)) (by omega) with a | ⟨k, x, t, b1, b2, b3, b4⟩
      · rw [a]
        split
        · omega
        · exact .inl (rd_old he2 (by omega))
      · have hk : k = j := by omega
        subst hk
        rw [b4, b1]
        have hxm := List.mem_of_getElem? b1
        exact rd_torn he1 he2 (by omega) (hne x hxm) (hsz x hxm) hdl (by omega) b3)
  rw [hflat] at r1
  exact ⟨T, M, r1, by rw [r2, g2]⟩
theorem Jn.pw0 {d : Dk} {g : Lg} {N : Nat} (h : Jn d g N) (hok : d.Ok) : Pw d g N := h.pw hok hok h.q.len fun i hi => .inl ⟨dkAt_none (h.q.wt i), rfl⟩
/-- A Sync of a log at work. -/
theorem Jn.sync {d : Dk} {g : Lg} {N : Nat} (h : Jn d g N) (hok : d.Ok) (hok' : (syncD d g).Ok) :
    (syncE d g = 0 ∧ Jn (syncD d g) (syncG d g) N ∧ (syncG d g).recs = g.recs ++ g.wt ∧ (syncG d g).wt = [] ∧ (syncG d g).epoch = g.epoch ∧ (syncG d g).first = g.first ∧ (syncG d g).count = g.count) ∨
    (syncE d g ≠ 0 ∧ (syncD d g).off = true ∧ Pw (syncD d g) g N ∧ syncG d g = { g with bad := true }) := by
  have h0 : g.fault = 0 := by unfold Lg.fault; rw [if_neg (by rw [h.bd, h.cl]; simp)]
  by_cases hw : g.wt = []
  · have e1 : syncE d g = 0 := by unfold syncE; rw [if_neg (by omega), if_pos hw]
    have e2 : syncD d g = d := by unfold syncD; rw [if_pos (.inr hw)]
    have e3 : syncG d g = g := by unfold syncG; rw [if_pos (.inr hw)]
    rw [e1, e2, e3]
    exact .inl ⟨rfl, h, by rw [hw, List.append_nil], hw, rfl, rfl, rfl⟩
  · have e1 : syncE d g = (syncR d g).2 := by unfold syncE; rw [if_neg (by omega), if_neg hw]
    have e2 : syncD d g = (syncR d g).1 := by unfold syncD; rw [if_neg (by rintro (h | h); omega; exact hw h)]
    have e3 : syncG d g = if (syncR d g).2 = 0 then { g with written := g.written + (grp g.wt).length, recs := g.recs ++ g.wt, wt := [] } else { g with bad := true } := by unfold syncG; rw [if_neg (by rintro (h | h); omega; exact hw h)]
    have okg := syncG_ok (d := d) h.ok
    have hfit := h.ok.fits h.cl
    have hwr := h.ok.wr
    have hct := h.ok.cnt
    have hff := h.q.fit
    have hll := h.q.len
    have hep := h.ep
    have he1 := h.ok.ep1
    have hsz := grp_size h.ok.small
    have hsl : g.secs.length = (grp g.wt).length := wsSecs_len _ _ _
    have hsat : ∀ j x, g.secs[j]? = some x → ∃ y, (grp g.wt)[j]? = some y ∧ wsSec g.epoch (g.written + j) y = x := fun j x hx => by
      unfold Lg.secs at hx
      rw [wsSecs_at] at hx
      exact Option.map_eq_some_iff.1 hx
    have hat : ∀ i, d.at_ i = d.rows.getD i [] := fun i => dkAt_none (h.q.wt i)
    have sp := wrAll_spec (fun i => if g.first + g.written ≤ i then g.secs[i - (g.first + g.written)]? else none) g.secs d (g.first + g.written) h.q.off (fun j x hx => by
      obtain ⟨y, y1, y2⟩ := hsat j x hx
      have hjl := (List.getElem?_eq_some_iff.1 hx).1
      refine ⟨?_, by rw [← y2]; exact wsSec_len _ _ _ (hsz y (List.mem_of_getElem? y1)), by omega⟩
      show (if _ then _ else _) = _
      rw [if_pos (by omega), show g.first + g.written + j - (g.first + g.written) = j by omega]
      exact hx) (fun i => .inl (h.q.wt i))
    have sp : ((syncR d g).2 = 0 ∧ _) ∨ ((syncR d g).2 ≠ 0 ∧ _) := sp
    rw [e2] at hok'
    rcases sp with ⟨s1, s2, s3, s4, s5⟩ | ⟨s1, s2, s3, s4⟩
    · left
      rw [if_pos s1] at e3
      have s2 : (syncR d g).1.off = false := s2
      have s3 : (syncR d g).1.rows.length = d.rows.length := s3
      have s4 : ∀ i, (syncR d g).1.wt i = none := s4
      have s5 : ∀ i, i < d.rows.length → (syncR d g).1.rows.getD i [] = if g.first + g.written ≤ i ∧ i < g.first + g.written + g.secs.length then g.secs.getD (i - (g.first + g.written)) [] else d.at_ i := s5
      rw [e3] at okg
      refine ⟨by rw [e1]; exact s1, ?_, by rw [e3], by rw [e3], by rw [e3], by rw [e3], by rw [e3]⟩
      rw [e2, e3]
      have hrow : ∀ i, i < g.count → ((syncR d g).1.rows.getD (g.first + i) [] = d.rows.getD (g.first + i) [] ∧ (i < g.written ∨ g.written + (grp g.wt).length ≤ i)) ∨ ∃ j x, (grp g.wt)[j]? = some x ∧ i = g.written + j ∧ (syncR d g).1.rows.getD (g.first + i) [] = wsSec g.epoch i x := fun i hi => by
        have := s5 (g.first + i) (by omega)
        by_cases hr : g.first + g.written ≤ g.first + i ∧ g.first + i < g.first + g.written + g.secs.length
        · right
          rw [if_pos hr] at this
          obtain ⟨k, rfl⟩ : ∃ k, i = g.written + k := ⟨i - g.written, by omega⟩
          have hjl : k < g.secs.length := by omega
          obtain ⟨y, y1, y2⟩ := hsat k _ (List.getElem?_eq_getElem hjl)
          refine ⟨k, y, y1, rfl, ?_⟩
          rw [this, show g.first + (g.written + k) - (g.first + g.written) = k by omega, List.getD_eq_getElem?_getD, List.getElem?_eq_getElem hjl, y2]
          rfl
        · left
          rw [if_neg hr, hat] at this
          exact ⟨this, by omega⟩
      refine ⟨⟨by show (syncR d g).1.rows.length = N; omega, s2, s4, h.q.fit, h.q.cnt, h.q.few, fun i hi => ?_⟩, okg, h.ep, h.cl, h.bd, ?_, fun i hi1 hi2 => ?_⟩
      · rcases hrow i hi with ⟨a, _⟩ | ⟨j, x, x1, x2, x3⟩
        · rw [a]; exact h.q.new i hi
        · rw [x3]
          have hxm := List.mem_of_getElem? x1
          rw [(isSec_mk he1 (by omega) (by have := h.q.cnt; have : i < g.count := hi; omega) (grp_some (l := g.wt) x hxm) (hsz x hxm)).b254 (by omega)]
          exact Nat.le_refl _
      · obtain ⟨Gs, g1, g2, g3, g4⟩ := h.ex
        refine ⟨Gs ++ grp g.wt, by rw [List.length_append, g1], by rw [List.flatten_append, g2, grp_flat], fun x hx => ?_, fun i x hx => ?_⟩
        · rcases List.mem_append.1 hx with hx | hx
          · exact g3 x hx
          · exact ⟨grp_some (l := g.wt) x hx, hsz x hx⟩
        · have hil : i < g.written + (grp g.wt).length := by
            have := (List.getElem?_eq_some_iff.1 hx).1
            rw [List.length_append, g1] at this
            exact this
          show (syncR d g).1.rows.getD (g.first + i) [] = wsSec g.epoch i x
          by_cases hi : i < g.written
          · rw [List.getElem?_append_left (by omega)] at hx
            rcases hrow i (by omega) with ⟨a, _⟩ | ⟨j, _, _, x2, _⟩
            · rw [a]; exact g4 i x hx
            · omega
          · rw [List.getElem?_append_right (by omega), g1] at hx
            rcases hrow i (by omega) with ⟨_, a⟩ | ⟨j, y, x1, x2, x3⟩
            · omega
            · rw [x3]
              rw [show i - g.written = j by omega, x1] at hx
              rw [Option.some.inj hx]
      · have hi1 : g.written + (grp g.wt).length ≤ i := hi1
        have hi2 : i < g.count := hi2
        show b254 ((syncR d g).1.rows.getD (g.first + i) []) < g.epoch
        rcases hrow i hi2 with ⟨a, _⟩ | ⟨j, x, x1, x2, _⟩
        · rw [a]; exact h.old i (by omega) hi2
        · have := (List.getElem?_eq_some_iff.1 x1).1
          omega
    · right
      rw [if_neg s1] at e3
      have s2 : (syncR d g).1.off = true := s2
      have s3 : (syncR d g).1.rows.length = d.rows.length := s3
      refine ⟨by rw [e1]; exact s1, by rw [e2]; exact s2, ?_, e3⟩
      rw [e2]
      refine h.pw hok hok' (by omega) fun i hi => ?_
      have s4 : ((syncR d g).1.rows = d.rows ∧ ∀ i, (syncR d g).1.wt i = none ∨ (syncR d g).1.wt i = if g.first + g.written ≤ i then g.secs[i - (g.first + g.written)]? else none) ∨ ((∀ i, (syncR d g).1.wt i = none) ∧ ∀ i, i < d.rows.length → (syncR d g).1.rows.getD i [] = if g.first + g.written ≤ i ∧ i < g.first + g.written + g.secs.length then g.secs.getD (i - (g.first + g.written)) [] else d.at_ i) := s4
      rcases s4 with ⟨s4, s5⟩ | ⟨s4, s5⟩
      · cases hwt : (syncR d g).1.wt i with
        | none => exact .inl ⟨by rw [dkAt_none hwt, s4], by rw [s4]⟩
        | some x =>
          right
          rcases s5 i with s5 | s5
          · rw [hwt] at s5; cases s5
          · rw [hwt] at s5
            split at s5
            · rename_i hle
              exact ⟨i - (g.first + g.written), x, s5.symm, by omega, by unfold Dk.at_; rw [hwt]; rfl, .inl (by rw [s4])⟩
            · cases s5
      · have := s5 i (by omega)
        by_cases hr : g.first + g.written ≤ i ∧ i < g.first + g.written + g.secs.length
        · rw [if_pos hr] at this
          have hjl : i - (g.first + g.written) < g.secs.length := by omega
          right
          refine ⟨i - (g.first + g.written), _, List.getElem?_eq_getElem hjl, by omega, ?_, .inr ?_⟩
          · rw [dkAt_none (s4 i), this, List.getD_eq_getElem?_getD, List.getElem?_eq_getElem hjl]; rfl
          · rw [this, List.getD_eq_getElem?_getD, List.getElem?_eq_getElem hjl]; rfl
        · rw [if_neg hr, hat] at this
          exact .inl ⟨by rw [dkAt_none (s4 i), this], this⟩
end Go.Proofs.Ytochifbbefbehaa
