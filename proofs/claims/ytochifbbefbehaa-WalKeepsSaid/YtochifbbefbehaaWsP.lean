/- Plain facts on records in sectors: what texts have as bytes, how many go into a sector, groups, sectors, what a sector and a log tell; nothing of the program is proved here. -/
import Derived.Test.YtochifbbefbehaaSlP
namespace Go.Proofs.Ytochifbbefbehaa
set_option linter.unusedVariables false
set_option linter.unusedSimpArgs false
/-- Texts as bytes: a length ahead of each. -/
def wsPut : List (List UInt8) → List UInt8
  | [] => []
  | t :: r => UInt8.ofNat t.length :: (t ++ wsPut r)
/-- How many bytes these are. -/
def wsSize : List (List UInt8) → Nat
  | [] => 0
  | t :: r => t.length + 1 + wsSize r
theorem wsPut_len (L : List (List UInt8)) : (wsPut L).length = wsSize L := by
  induction L with
  | nil => rfl
  | cons t r ih => simp [wsPut, wsSize, ih]; omega
theorem wsPut_append (L M : List (List UInt8)) : wsPut (L ++ M) = wsPut L ++ wsPut M := by
  induction L with
  | nil => rfl
  | cons t r ih => simp [wsPut, ih]
theorem wsSize_append (L M : List (List UInt8)) : wsSize (L ++ M) = wsSize L + wsSize M := by
  induction L with
  | nil => simp [wsSize]
  | cons t r ih => simp [wsSize, ih]; omega
theorem wsSize_snoc (L : List (List UInt8)) (t : List UInt8) : wsSize (L ++ [t]) = wsSize L + (t.length + 1) := by rw [wsSize_append]; simp [wsSize]
theorem wsPut_snoc (L : List (List UInt8)) (t : List UInt8) : wsPut (L ++ [t]) = wsPut L ++ UInt8.ofNat t.length :: t := by rw [wsPut_append]; simp [wsPut]
theorem wsSize_take {L : List (List UInt8)} {k : Nat} {t : List UInt8} (h : L[k]? = some t) : wsSize (L.take (k + 1)) = wsSize (L.take k) + (t.length + 1) := by
  rw [List.take_add_one, h]; exact wsSize_snoc _ _
theorem wsPut_take {L : List (List UInt8)} {k : Nat} {t : List UInt8} (h : L[k]? = some t) : wsPut (L.take (k + 1)) = wsPut (L.take k) ++ UInt8.ofNat t.length :: t := by
  rw [List.take_add_one, h]; exact wsPut_snoc _ _
theorem wsSize_le (L : List (List UInt8)) (k : Nat) : wsSize (L.take k) ≤ wsSize L := by
  conv => rhs; rw [← List.take_append_drop k L]
  rw [wsSize_append]; omega
theorem wsSize_len (L : List (List UInt8)) : L.length ≤ wsSize L := by
  induction L with
  | nil => simp
  | cons t r ih => simp [wsSize]; omega
theorem wsSize_mem {L : List (List UInt8)} {t : List UInt8} (h : t ∈ L) : t.length < wsSize L := by
  induction L with
  | nil => simp at h
  | cons a r ih =>
    simp only [wsSize]
    rcases List.mem_cons.1 h with rfl | h
    · omega
    · have := ih h; omega
/-- What texts of less than 256 bytes have as bytes tells them. -/
theorem wsPut_cancel {L M : List (List UInt8)} {r : List UInt8} (hL : ∀ t ∈ L, t.length < 256) (hM : ∀ t ∈ M, t.length < 256) (h : wsPut M = wsPut L ++ r) : ∃ N, M = L ++ N ∧ wsPut N = r := by
  induction L generalizing M with
  | nil => exact ⟨M, rfl, h⟩
  | cons a L ih =>
    cases M with
    | nil => simp [wsPut] at h
    | cons b M =>
      simp only [wsPut, List.cons_append, List.cons.injEq, List.append_assoc] at h
      obtain ⟨h1, h2⟩ := h
      have ha := hL a (by simp)
      have hb := hM b (by simp)
      have h3 : b.length = a.length := by
        have h4 := congrArg UInt8.toNat h1
        simp at h4
        omega
      obtain ⟨h5, h6⟩ := List.append_inj h2 h3
      obtain ⟨N, h7, h8⟩ := ih (fun t ht => hL t (by simp [ht])) (fun t ht => hM t (by simp [ht])) h6
      exact ⟨N, by rw [h5, h7]; rfl, h8⟩
theorem wsPut_inj {L M : List (List UInt8)} (hL : ∀ t ∈ L, t.length < 256) (hM : ∀ t ∈ M, t.length < 256) (h : wsPut M = wsPut L) : M = L := by
  obtain ⟨N, h1, h2⟩ := wsPut_cancel (r := []) hL hM (by simpa using h)
  cases N with
  | nil => simpa using h1
  | cons a N => simp [wsPut] at h2
/-- How many further texts go into a sector of which u bytes are used. -/
def fitK (u : Nat) : List (List UInt8) → Nat
  | [] => 0
  | t :: r => if 239 < u + (t.length + 1) then 0 else fitK (u + (t.length + 1)) r + 1
theorem fitK_le (u : Nat) (l : List (List UInt8)) : fitK u l ≤ l.length := by
  induction l generalizing u with
  | nil => simp [fitK]
  | cons t r ih =>
    simp only [fitK]
    split
    · omega
    · have := ih (u + (t.length + 1)); simp; omega
/-- How many texts go into one sector. -/
def fitsP : List (List UInt8) → Nat
  | [] => 0
  | t :: r => fitK (t.length + 1) r + 1
theorem fitsP_le (l : List (List UInt8)) : fitsP l ≤ l.length := by
  cases l with
  | nil => simp [fitsP]
  | cons t r => have := fitK_le (t.length + 1) r; simp [fitsP]; omega
theorem fitsP_pos {l : List (List UInt8)} (h : 0 < l.length) : 0 < fitsP l := by
  cases l with
  | nil => simp at h
  | cons t r => simp [fitsP]
/-- Texts, sector by sector. -/
def grp (l : List (List UInt8)) : List (List (List UInt8)) :=
  if h : 0 < l.length then l.take (fitsP l) :: grp (l.drop (fitsP l)) else []
termination_by l.length
decreasing_by
  have := fitsP_pos h
  simp
  omega
theorem grp_nil : grp [] = [] := by rw [grp]; simp
theorem grp_cons {l : List (List UInt8)} (h : 0 < l.length) : grp l = l.take (fitsP l) :: grp (l.drop (fitsP l)) := by rw [grp, dif_pos h]
theorem grp_ind {P : List (List UInt8) → Prop} (h0 : P []) (h1 : ∀ l, 0 < l.length → P (l.drop (fitsP l)) → P l) : ∀ l, P l := by
  have : ∀ n l, l.length ≤ n → P l := by
    intro n
    induction n with
    | zero => intro l hl; obtain rfl := List.eq_nil_of_length_eq_zero (Nat.le_zero.1 hl); exact h0
    | succ n ih =>
      intro l hl
      by_cases h : 0 < l.length
      · exact h1 l h (ih _ (by have := fitsP_pos h; simp; omega))
      · obtain rfl := List.eq_nil_of_length_eq_zero (by omega : l.length = 0); exact h0
  exact fun l => this _ l (Nat.le_refl _)
theorem grp_flat (l : List (List UInt8)) : (grp l).flatten = l := by
  refine grp_ind (P := fun l => (grp l).flatten = l) (by rw [grp_nil]; rfl) (fun l h ih => ?_) l
  rw [grp_cons h, List.flatten_cons, ih, List.take_append_drop]
theorem grp_len (l : List (List UInt8)) : (grp l).length ≤ l.length := by
  refine grp_ind (P := fun l => (grp l).length ≤ l.length) (by rw [grp_nil]; simp) (fun l h ih => ?_) l
  rw [grp_cons h, List.length_cons]
  have := fitsP_pos h
  rw [List.length_drop] at ih
  omega
theorem grp_some {l : List (List UInt8)} : ∀ g ∈ grp l, g ≠ [] := by
  refine grp_ind (P := fun l => ∀ g ∈ grp l, g ≠ []) (by rw [grp_nil]; simp) (fun l h ih => ?_) l
  rw [grp_cons h]
  intro g hg
  rcases List.mem_cons.1 hg with rfl | hg
  · intro e
    have := congrArg List.length e
    have h2 := fitsP_pos h
    have h3 := fitsP_le l
    rw [List.length_take, List.length_nil] at this
    omega
  · exact ih g hg
theorem fitK_size (u : Nat) (l : List (List UInt8)) (hu : u ≤ 239) : u + wsSize (l.take (fitK u l)) ≤ 239 := by
  induction l generalizing u with
  | nil => simpa [wsSize] using hu
  | cons t r ih =>
    simp only [fitK]
    split
    · simpa [wsSize] using hu
    · have := ih (u + (t.length + 1)) (by omega)
      simp only [List.take_succ_cons, wsSize]
      omega
theorem grp_size {l : List (List UInt8)} (hl : ∀ t ∈ l, t.length ≤ 238) : ∀ g ∈ grp l, wsSize g ≤ 239 := by
  revert hl
  refine grp_ind (P := fun l => (∀ t ∈ l, t.length ≤ 238) → ∀ g ∈ grp l, wsSize g ≤ 239) (fun _ => by rw [grp_nil]; simp) (fun l h ih hl => ?_) l
  rw [grp_cons h]
  intro g hg
  rcases List.mem_cons.1 hg with rfl | hg
  · cases l with
    | nil => simp at h
    | cons t r =>
      have ht := hl t (by simp)
      have := fitK_size (t.length + 1) r (by omega)
      simp only [fitsP, List.take_succ_cons, wsSize]
      omega
  · exact ih (fun t ht => hl t (List.mem_of_mem_drop ht)) g hg
/-- Texts, sector by sector, as the document lays them: the last sector's, its used bytes, what is still to come. -/
def gFrom (cur : List (List UInt8)) (u : Nat) : List (List UInt8) → List (List (List UInt8))
  | [] => [cur]
  | t :: r => if 239 < u + (1 + min t.length 238) then cur :: gFrom [t] (1 + min t.length 238) r else gFrom (cur ++ [t]) (u + (1 + min t.length 238)) r
theorem gFrom_eq : ∀ (n : Nat) (r : List (List UInt8)), r.length ≤ n → ∀ (cur : List (List UInt8)) (u v : Nat), 1 ≤ u → (u = v ∨ 239 ≤ u ∧ 239 ≤ v) → gFrom cur u r = (cur ++ r.take (fitK v r)) :: grp (r.drop (fitK v r)) := by
  intro n
  induction n with
  | zero =>
    intro r hr cur u v hu huv
    obtain rfl := List.eq_nil_of_length_eq_zero (Nat.le_zero.1 hr)
    simp [gFrom, grp_nil]
  | succ n ih =>
    intro r hr cur u v hu huv
    cases r with
    | nil => simp [gFrom, grp_nil]
    | cons t r =>
      have hr' : r.length ≤ n := by simpa using hr
      simp only [gFrom, fitK]
      by_cases h : 239 < v + (t.length + 1)
      · rw [if_pos h, if_pos (by omega), List.take_zero, List.append_nil, List.drop_zero, grp_cons (l := t :: r) (by simp), ih r hr' [t] (1 + min t.length 238) (t.length + 1) (by omega) (by omega)]
        rfl
      · rw [if_neg h, if_neg (by omega), ih r hr' (cur ++ [t]) (u + (1 + min t.length 238)) (v + (t.length + 1)) (by omega) (by omega)]
        simp
theorem gFrom_grp (t : List UInt8) (r : List (List UInt8)) : gFrom [t] (1 + min t.length 238) r = grp (t :: r) := by
  rw [gFrom_eq r.length r (Nat.le_refl _) [t] _ (t.length + 1) (by omega) (by omega), grp_cons (l := t :: r) (by simp)]
  rfl
/-- A sector of texts. -/
def wsSec (e a : Nat) (g : List (List UInt8)) : List UInt8 := st (256 * e + a) ++ UInt8.ofNat (wsSize g) :: (wsPut g ++ (List.replicate (239 - wsSize g) 0 ++ st (256 * e + a)))
theorem wsSec_len (e a : Nat) (g : List (List UInt8)) (h : wsSize g ≤ 239) : (wsSec e a g).length = 256 := by
  simp [wsSec, st_len, wsPut_len]
  omega
/-- Sectors of an epoch from a place on. -/
def wsSecs (e : Nat) : Nat → List (List (List UInt8)) → List (List UInt8)
  | _, [] => []
  | a, g :: r => wsSec e a g :: wsSecs e (a + 1) r
theorem wsSecs_len (e a : Nat) (G : List (List (List UInt8))) : (wsSecs e a G).length = G.length := by
  induction G generalizing a with
  | nil => rfl
  | cons g r ih => simp [wsSecs, ih]
theorem wsSecs_at (e a : Nat) (G : List (List (List UInt8))) (k : Nat) : (wsSecs e a G)[k]? = G[k]?.map (wsSec e (a + k)) := by
  induction G generalizing a k with
  | nil => rfl
  | cons g r ih =>
    cases k with
    | zero => rfl
    | succ k => simp [wsSecs, ih, Nat.add_assoc, Nat.add_comm 1 k]
/-- Bytes are the sector of an epoch and a place that has these texts. -/
def IsSec (b : List UInt8) (e a : Int) (L : List (List UInt8)) : Prop :=
  1 ≤ e ∧ e ≤ 1099511627776 ∧ 0 ≤ a ∧ a < 256 ∧ L ≠ [] ∧ wsSize L ≤ 239 ∧ b = wsSec e.toNat a.toNat L
theorem IsSec.part {b : List UInt8} {e a : Int} {L : List (List UInt8)} (h : IsSec b e a L) : b.length = 256 ∧ b[8]? = some (UInt8.ofNat (wsSize L)) ∧ (b.drop 9).take (wsSize L) = wsPut L := by
  obtain ⟨_, _, _, _, _, h1, rfl⟩ := h
  refine ⟨wsSec_len _ _ _ h1, ?_, ?_⟩
  · unfold wsSec
    rw [List.getElem?_append_right (by rw [st_len]; omega), st_len]
    rfl
  · unfold wsSec
    rw [show ∀ (x : UInt8) (r : List UInt8), st (256 * e.toNat + a.toNat) ++ x :: r = (st (256 * e.toNat + a.toNat) ++ [x]) ++ r by simp]
    rw [List.drop_append_of_le_length (by simp [st_len]), List.drop_of_length_le (by simp [st_len]), List.nil_append]
    rw [List.take_append_of_le_length (by rw [wsPut_len]; exact Nat.le_refl _), List.take_of_length_le (by rw [wsPut_len]; exact Nat.le_refl _)]
theorem IsSec.uniq {b : List UInt8} {e a : Int} {L M : List (List UInt8)} (h : IsSec b e a L) (g : IsSec b e a M) : L = M := by
  obtain ⟨_, h1, h2⟩ := h.part
  obtain ⟨_, g1, g2⟩ := g.part
  have h3 : wsSize L ≤ 239 := h.2.2.2.2.2.1
  have g3 : wsSize M ≤ 239 := g.2.2.2.2.2.1
  have e1 : wsSize M = wsSize L := by
    rw [h1] at g1
    have h4 := congrArg UInt8.toNat (Option.some.inj g1)
    simp at h4
    omega
  rw [e1, h2] at g2
  exact wsPut_inj (fun t ht => by have := wsSize_mem ht; omega) (fun t ht => by have := wsSize_mem ht; omega) g2
open Classical in
/-- What a sector tells. -/
noncomputable def rdP (b : List UInt8) (e a : Int) : Option (List (List UInt8)) := if h : ∃ L, IsSec b e a L then some h.choose else none
theorem rdP_some {b : List UInt8} {e a : Int} {L : List (List UInt8)} (h : IsSec b e a L) : rdP b e a = some L := by
  have h' : ∃ L, IsSec b e a L := ⟨L, h⟩
  rw [rdP, dif_pos h', h'.choose_spec.uniq h]
theorem rdP_none {b : List UInt8} {e a : Int} (h : ∀ L, ¬ IsSec b e a L) : rdP b e a = none := by
  rw [rdP, dif_neg (fun ⟨L, hL⟩ => h L hL)]
theorem rdP_is {b : List UInt8} {e a : Int} {L : List (List UInt8)} (h : rdP b e a = some L) : IsSec b e a L := by
  unfold rdP at h
  split at h
  · rename_i h'
    rw [← Option.some.inj h]
    exact h'.choose_spec
  · cases h
/-- What a log tells from a place on: texts, and how many sectors. -/
noncomputable def scanK (e : Int) : Nat → List (List UInt8) → List (List UInt8) × Nat
  | _, [] => ([], 0)
  | a, b :: r => match rdP b e a with
    | none => ([], 0)
    | some L => (L ++ (scanK e (a + 1) r).1, (scanK e (a + 1) r).2 + 1)
theorem scanK_some {e : Int} {a : Nat} {b : List UInt8} {r L : List (List UInt8)} (h : rdP b e a = some L) : scanK e a (b :: r) = (L ++ (scanK e (a + 1) r).1, (scanK e (a + 1) r).2 + 1) := by rw [scanK, h]
theorem scanK_none {e : Int} {a : Nat} {b : List UInt8} {r : List (List UInt8)} (h : rdP b e a = none) : scanK e a (b :: r) = ([], 0) := by rw [scanK, h]
/-- Sectors that were laid are read, and what follows them. -/
theorem scanK_secs {e : Nat} (h1 : 1 ≤ e) (h2 : e ≤ 1099511627776) (G : List (List (List UInt8))) (hs : ∀ g ∈ G, g ≠ []) (hz : ∀ g ∈ G, wsSize g ≤ 239) (a : Nat) (ha : a + G.length ≤ 256) (more : List (List UInt8)) :
    scanK e a (wsSecs e a G ++ more) = (G.flatten ++ (scanK e (a + G.length) more).1, G.length + (scanK e (a + G.length) more).2) := by
  induction G generalizing a with
  | nil => simp [wsSecs]
  | cons g r ih =>
    simp only [List.length_cons] at ha
    have hr : IsSec (wsSec e a g) (e : Int) (a : Int) g := ⟨by omega, by omega, by omega, by omega, hs g (by simp), hz g (by simp), by simp⟩
    rw [wsSecs, List.cons_append, scanK_some (rdP_some hr), ih (fun x hx => hs x (by simp [hx])) (fun x hx => hz x (by simp [hx])) (a + 1) (by omega)]
    simp only [List.flatten_cons, List.length_cons, List.append_assoc, Nat.add_assoc, Nat.add_comm 1 r.length]
    congr 1
    omega
end Go.Proofs.Ytochifbbefbehaa
