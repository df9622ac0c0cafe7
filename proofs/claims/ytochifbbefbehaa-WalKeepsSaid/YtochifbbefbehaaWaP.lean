/- Plain facts on a log: what it has, what a text more does, what a Sync writes; nothing of the program is proved here. -/
import Derived.Test.YtochifbbefbehaaWsP
import Derived.Test.YtochifbbefbehaaScV
namespace Go.Proofs.Ytochifbbefbehaa
set_option linter.unusedVariables false
set_option linter.unusedSimpArgs false
theorem fitK_snoc (u : Nat) (l : List (List UInt8)) (s : List UInt8) : fitK u (l ++ [s]) = if fitK u l < l.length then fitK u l else if 239 < u + wsSize l + (s.length + 1) then l.length else l.length + 1 := by
  induction l generalizing u with
  | nil => simp [fitK, wsSize]
  | cons t r ih =>
    have hw : wsSize (t :: r) = t.length + 1 + wsSize r := rfl
    have hl : (t :: r).length = r.length + 1 := rfl
    by_cases h : 239 < u + (t.length + 1)
    · have e1 : fitK u (t :: r) = 0 := by rw [fitK, if_pos h]
      have e2 : fitK u (t :: r ++ [s]) = 0 := by rw [List.cons_append, fitK, if_pos h]
      rw [e1, e2, if_pos (by omega)]
    · have e1 : fitK u (t :: r) = fitK (u + (t.length + 1)) r + 1 := by rw [fitK, if_neg h]
      have e2 : fitK u (t :: r ++ [s]) = fitK (u + (t.length + 1)) (r ++ [s]) + 1 := by rw [List.cons_append, fitK, if_neg h]
      rw [e1, e2, ih, hw, hl]
      by_cases h1 : fitK (u + (t.length + 1)) r < r.length
      · rw [if_pos h1, if_pos (by omega)]
      · rw [if_neg h1]
        by_cases h2 : 239 < u + (t.length + 1) + wsSize r + (s.length + 1)
        · rw [if_pos h2, if_neg (by omega), if_pos (by omega)]
        · rw [if_neg h2, if_neg (by omega), if_neg (by omega)]
theorem fitsP_snoc {l : List (List UInt8)} (hl : 0 < l.length) (s : List UInt8) : fitsP (l ++ [s]) = if fitsP l < l.length then fitsP l else if 239 < wsSize l + (s.length + 1) then l.length else l.length + 1 := by
  cases l with
  | nil => simp at hl
  | cons t r =>
    have hw : wsSize (t :: r) = t.length + 1 + wsSize r := rfl
    have hl' : (t :: r).length = r.length + 1 := rfl
    have e1 : fitsP (t :: r) = fitK (t.length + 1) r + 1 := rfl
    have e2 : fitsP (t :: r ++ [s]) = fitK (t.length + 1) (r ++ [s]) + 1 := rfl
    rw [e1, e2, fitK_snoc, hw, hl']
    by_cases h1 : fitK (t.length + 1) r < r.length
    · rw [if_pos h1, if_pos (by omega)]
    · rw [if_neg h1]
      by_cases h2 : 239 < t.length + 1 + wsSize r + (s.length + 1)
      · rw [if_pos h2, if_neg (by omega), if_pos (by omega)]
      · rw [if_neg h2, if_neg (by omega), if_neg (by omega)]
theorem grp_single (s : List UInt8) : grp [s] = [[s]] := by
  rw [grp_cons (by simp)]
  simp [fitsP, fitK, grp_nil]
/-- A text more goes into the last group, or into one of its own. -/
theorem grp_snoc (s : List UInt8) : ∀ l : List (List UInt8), l ≠ [] → ∃ G c, grp l = G ++ [c] ∧ c ≠ [] ∧ grp c = [c] ∧ grp (l ++ [s]) = if 239 < wsSize c + (s.length + 1) then G ++ [c] ++ [[s]] else G ++ [c ++ [s]] := by
  refine grp_ind (P := fun l => l ≠ [] → ∃ G c, grp l = G ++ [c] ∧ c ≠ [] ∧ grp c = [c] ∧ grp (l ++ [s]) = if 239 < wsSize c + (s.length + 1) then G ++ [c] ++ [[s]] else G ++ [c ++ [s]]) (fun h => absurd rfl h) fun l hl ih _ => ?_
  have hp := fitsP_pos hl
  have hle := fitsP_le l
  have hf := fitsP_snoc hl s
  have hl1 : 0 < (l ++ [s]).length := by simp
  by_cases h : fitsP l < l.length
  · rw [if_pos h] at hf
    have hne : l.drop (fitsP l) ≠ [] := by
      intro e
      have := congrArg List.length e
      simp at this
      omega
    obtain ⟨G, c, h1, h2, h3, h4⟩ := ih hne
    refine ⟨l.take (fitsP l) :: G, c, by rw [grp_cons hl, h1]; rfl, h2, h3, ?_⟩
    rw [grp_cons hl1, hf, List.take_append_of_le_length hle, List.drop_append_of_le_length hle, h4]
    split <;> rfl
  · have he : fitsP l = l.length := by omega
    rw [if_neg h] at hf
    have hg : grp l = [l] := by
      rw [grp_cons hl, he, List.take_length, List.drop_length, grp_nil]
    refine ⟨[], l, by rw [hg]; rfl, by intro e; rw [e] at hl; simp at hl, hg, ?_⟩
    rw [grp_cons hl1, hf]
    by_cases h2 : 239 < wsSize l + (s.length + 1)
    · rw [if_pos h2, if_pos h2, List.take_append_of_le_length (Nat.le_refl _), List.take_length, List.drop_append_of_le_length (Nat.le_refl _), List.drop_length, List.nil_append, grp_single]
      rfl
    · rw [if_neg h2, if_neg h2, List.take_of_length_le (by simp), List.drop_of_length_le (by simp), grp_nil]
      rfl
theorem lgGrp_one {c : List (List UInt8)} (s : List UInt8) (hc : c ≠ []) (h : grp c = [c]) : (grp (c ++ [s])).length = if 239 < wsSize c + (s.length + 1) then 2 else 1 := by
  obtain ⟨G, c', h1, _, _, h4⟩ := grp_snoc s c hc
  rw [h] at h1
  have hG : G = [] := by
    have := congrArg List.length h1
    rw [List.length_append] at this
    simp only [List.length_cons, List.length_nil] at this
    exact List.eq_nil_of_length_eq_zero (by omega)
  subst hG
  obtain rfl : c = c' := by simpa using h1
  rw [h4]
  split <;> rfl
theorem grp_nil_iff {l : List (List UInt8)} : grp l = [] ↔ l = [] := by
  constructor
  · intro h
    have := grp_flat l
    rw [h] at this
    simpa using this.symm
  · rintro rfl
    exact grp_nil
/-- A log: its ring, its epoch, how many sectors have records, these, what waits, and whether nothing may be added. -/
structure Lg where
  first : Nat
  count : Nat
  epoch : Nat
  written : Nat
  recs : List (List UInt8)
  wt : List (List UInt8)
  closed : Bool
  bad : Bool
def Lg.left (g : Lg) : Nat := if g.closed = true then 0 else g.count - g.written
def Lg.fault (g : Lg) : Nat := if g.bad = true ∨ g.closed = true then 11 else 0
def Lg.addErr (g : Lg) (s : List UInt8) : Nat := if g.bad = true ∨ g.closed = true then 11 else if 238 < s.length then 5 else if (grp (g.wt ++ [s])).length ≤ g.count - g.written then 0 else 7
def Lg.add (g : Lg) (s : List UInt8) : Lg := if g.addErr s = 0 then { g with wt := g.wt ++ [s] } else g
structure Lg.Ok (g : Lg) : Prop where
  cnt : g.count ≤ 256
  fst : g.first ≤ 4096
  ep1 : 1 ≤ g.epoch
  ep2 : g.epoch ≤ 1099511627776
  wr : g.written ≤ g.count
  fits : g.closed = false → (grp g.wt).length ≤ g.count - g.written
  shut : g.closed = true → g.wt = []
  small : ∀ t ∈ g.wt, t.length ≤ 238
theorem Lg.Ok.add {g : Lg} (h : g.Ok) (s : List UInt8) : (g.add s).Ok := by
  unfold Lg.add
  split
  · rename_i h0
    unfold Lg.addErr at h0
    split at h0
    · cases h0
    · rename_i h1
      split at h0
      · cases h0
      · rename_i h2
        split at h0
        · rename_i h3
          exact ⟨h.cnt, h.fst, h.ep1, h.ep2, h.wr, fun _ => h3, fun hc => absurd (.inr hc) h1, fun t ht => by
            rcases List.mem_append.1 ht with ht | ht
            · exact h.small t ht
            · simp at ht
              subst ht
              omega⟩
        · cases h0
  · exact h
/-- Sectors are written one behind the other, and then there is a Sync; the first error ends it. -/
def wrAll : Dk → Nat → List (List UInt8) → Dk × Nat
  | d, _, [] => (d.sync, d.syncErr)
  | d, n, b :: r => if d.writeErr (n : Int) b = 0 then wrAll (d.write (n : Int) b) (n + 1) r else (d.write (n : Int) b, d.writeErr (n : Int) b)
theorem wrAll_nil (d : Dk) (n : Nat) : wrAll d n [] = (d.sync, d.syncErr) := rfl
theorem wrAll_ok {d : Dk} {n : Nat} {b : List UInt8} (r : List (List UInt8)) (h : d.writeErr (n : Int) b = 0) : wrAll d n (b :: r) = wrAll (d.write (n : Int) b) (n + 1) r := by rw [wrAll, if_pos h]
theorem wrAll_no {d : Dk} {n : Nat} {b : List UInt8} (r : List (List UInt8)) (h : d.writeErr (n : Int) b ≠ 0) : wrAll d n (b :: r) = (d.write (n : Int) b, d.writeErr (n : Int) b) := by rw [wrAll, if_neg h]
def Lg.secs (g : Lg) : List (List UInt8) := wsSecs g.epoch g.written (grp g.wt)
def syncR (d : Dk) (g : Lg) : Dk × Nat := wrAll d (g.first + g.written) g.secs
def syncD (d : Dk) (g : Lg) : Dk := if g.fault ≠ 0 ∨ g.wt = [] then d else (syncR d g).1
def syncE (d : Dk) (g : Lg) : Nat := if g.fault ≠ 0 then g.fault else if g.wt = [] then 0 else (syncR d g).2
def syncG (d : Dk) (g : Lg) : Lg := if g.fault ≠ 0 ∨ g.wt = [] then g else if (syncR d g).2 = 0 then { g with written := g.written + (grp g.wt).length, recs := g.recs ++ g.wt, wt := [] } else { g with bad := true }
/-- A further epoch. -/
def Lg.restErr (g : Lg) (e : Int) : Nat := if g.bad = true then 11 else if e ≤ (g.epoch : Int) then 12 else if 1099511627776 < e then 9 else 0
def Lg.rest (g : Lg) (e : Int) : Lg := if g.restErr e = 0 then { first := g.first, count := g.count, epoch := e.toNat, written := 0, recs := [], wt := [], closed := false, bad := false } else g
/-- What the ring's sectors have. -/
def ringP (d : Dk) (first count : Nat) : List (List UInt8) := (List.range count).map fun i => d.at_ (first + i)
noncomputable def openG (d : Dk) (first count epoch : Nat) : Lg := { first := first, count := count, epoch := epoch, written := 0, recs := (scanK (epoch : Int) 0 (ringP d first count)).1, wt := [], closed := true, bad := false }
def newG (first count epoch : Nat) : Lg := { first := first, count := count, epoch := epoch, written := 0, recs := [], wt := [], closed := false, bad := false }
theorem newG_ok {first count epoch : Nat} (h1 : count ≤ 256) (h2 : first ≤ 4096) (h3 : 1 ≤ epoch) (h4 : epoch ≤ 1099511627776) : (newG first count epoch).Ok := ⟨h1, h2, h3, h4, Nat.zero_le _, fun _ => by show (grp []).length ≤ _; rw [grp_nil]; exact Nat.zero_le _, fun _ => rfl, fun t ht => by cases ht⟩
theorem openG_ok {d : Dk} {first count epoch : Nat} (h1 : count ≤ 256) (h2 : first ≤ 4096) (h3 : 1 ≤ epoch) (h4 : epoch ≤ 1099511627776) : (openG d first count epoch).Ok := ⟨h1, h2, h3, h4, Nat.zero_le _, fun h => (by cases h), fun _ => rfl, fun t ht => (by cases ht)⟩
theorem syncG_ok {d : Dk} {g : Lg} (h : g.Ok) : (syncG d g).Ok := by
  unfold syncG
  split
  · exact h
  · rename_i h0
    have hc : g.closed = false := by
      cases e : g.closed with
      | false => rfl
      | true => exact absurd (.inr (h.shut e)) h0
    have hf := h.fits hc
    have hw := h.wr
    split
    · exact ⟨h.cnt, h.fst, h.ep1, h.ep2, (by show g.written + _ ≤ g.count; omega), fun _ => by show (grp []).length ≤ _; rw [grp_nil]; exact Nat.zero_le _, fun _ => rfl, fun t ht => by cases ht⟩
    · exact ⟨h.cnt, h.fst, h.ep1, h.ep2, h.wr, h.fits, h.shut, h.small⟩
theorem Lg.Ok.rest {g : Lg} (h : g.Ok) (e : Int) : (g.rest e).Ok := by
  unfold Lg.rest
  split
  · rename_i h0
    unfold Lg.restErr at h0
    have h1 := h.ep1
    split at h0
    · cases h0
    · split at h0
      · cases h0
      · split at h0
        · cases h0
        · exact newG_ok h.cnt h.fst (by omega) (by omega)
  · exact h
end Go.Proofs.Ytochifbbefbehaa
