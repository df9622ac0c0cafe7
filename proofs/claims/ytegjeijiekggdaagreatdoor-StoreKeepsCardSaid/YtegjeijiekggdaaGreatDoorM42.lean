/- Joined: StX StY StZ. -/
import Derived.Test.YtegjeijiekggdaaGreatDoorM41
import Derived.Test.YtegjeijiekggdaaGreatDoorM39
section
/- The package store, plain: what a commit, a write and a failure to come leave on a disk that may fail. -/
namespace Go.Proofs.YtegjeijiekggdaaGreatDoor
open Go.RowKit
set_option linter.unusedVariables false
/-- A call that is counted: it fails, or not. -/
theorem call_ok {d : Dk} (upd : Dk → Dk) (h : d.callErr = 0) : d.call upd = upd { d with calls := d.calls + 1, left := if d.fset = true then d.left - 1 else d.left } := by
  unfold Dk.callErr at h
  unfold Dk.call
  split at h
  · cases h
  · rename_i hc
    rw [if_neg hc]
theorem call_no {d : Dk} (upd : Dk → Dk) (h : d.callErr ≠ 0) : d.callErr = 8 ∧ d.call upd = { (if d.done = true then upd { d with calls := d.calls + 1 } else { d with calls := d.calls + 1 }) with off := true } := by
  unfold Dk.callErr at h ⊢
  unfold Dk.call
  split at h
  · rename_i hc
    rw [if_pos hc, if_pos hc]
    exact ⟨rfl, rfl⟩
  · exact absurd rfl h
theorem row_synced (d : Dk) (c l : Nat) {i : Nat} (h : i < d.rows.length) : (({ d with calls := c, left := l } : Dk).synced).rows.getD i [] = d.at_ i := synced_at ({ d with calls := c, left := l } : Dk) i h
theorem len_synced (d : Dk) : d.synced.rows.length = d.rows.length := by
  show ((List.range d.rows.length).map _).length = _
  simp
/-- What a Sync leaves. -/
structure Sy (d d' : Dk) : Prop where
  len : d'.rows.length = d.rows.length
  wt : ∀ i, d'.wt i = none
  row : ∀ i, i < d.rows.length → d'.rows.getD i [] = d.at_ i
theorem sync_is {d : Dk} (ho : d.off = false) : (d.syncErr = 0 ∧ d.sync.off = false ∧ Sy d d.sync) ∨ (d.syncErr = 8 ∧ d.sync.off = true ∧ (Sy d d.sync ∨ (d.sync.rows = d.rows ∧ d.sync.wt = d.wt))) := by
  have h0 : ¬ d.off = true := by rw [ho]; simp
  unfold Dk.syncErr Dk.sync
  rw [if_neg h0, if_neg h0]
  by_cases hc : d.callErr = 0
  · left
    rw [call_ok _ hc]
    exact ⟨hc, ho, ⟨len_synced _, fun _ => rfl, fun i hi => row_synced d _ _ hi⟩⟩
  · right
    obtain ⟨e1, e2⟩ := call_no Dk.synced hc
    rw [e2]
    refine ⟨e1, rfl, ?_⟩
    cases hd : d.done
    · right; rw [if_neg (by simp)]; exact ⟨rfl, rfl⟩
    · left; rw [if_pos rfl]; exact ⟨len_synced _, fun _ => rfl, fun i hi => row_synced d (d.calls + 1) d.left hi⟩
theorem write_is {d : Dk} (ho : d.off = false) {n : Nat} (hn : n < d.rows.length) {l : List UInt8} (hl : l.length = 256) :
    (d.write (n : Int) l).rows = d.rows ∧ ((d.writeErr (n : Int) l = 0 ∧ (d.write (n : Int) l).off = false ∧ ∀ i, (d.write (n : Int) l).wt i = if i = n then some l else d.wt i) ∨
      (d.writeErr (n : Int) l = 8 ∧ (d.write (n : Int) l).off = true ∧ ∀ i, (d.write (n : Int) l).wt i = d.wt i ∨ (i = n ∧ (d.write (n : Int) l).wt i = some l))) := by
  have hf : d.faultAt (n : Int) = 0 := by
    unfold Dk.faultAt
    rw [ho, if_neg (by simp), if_neg (by omega)]
  unfold Dk.write Dk.writeErr
  rw [hf, if_neg (by omega), if_neg (by omega), if_neg (by omega), Int.toNat_natCast]
  by_cases hc : d.callErr = 0
  · rw [call_ok _ hc]
    exact ⟨rfl, .inl ⟨hc, ho, fun i => rfl⟩⟩
  · obtain ⟨e1, e2⟩ := call_no (fun t => t.put n l) hc
    rw [e2]
    cases hd : d.done
    · rw [if_neg (by simp)]
      exact ⟨rfl, .inr ⟨e1, rfl, fun i => .inl rfl⟩⟩
    · rw [if_pos rfl]
      refine ⟨rfl, .inr ⟨e1, rfl, fun i => ?_⟩⟩
      show (if i = n then some l else d.wt i) = _ ∨ (_ ∧ (if i = n then some l else d.wt i) = _)
      by_cases hi : i = n
      · rw [if_pos hi]; exact .inr ⟨hi, rfl⟩
      · rw [if_neg hi]; exact .inl rfl
/-- Some sectors from x on are written, up to the first failure: the rows stand, others wait for what they did. -/
structure Wn (d d' : Dk) (x : Nat) (L : List (List UInt8)) (k e : Nat) : Prop where
  rows : d'.rows = d.rows
  err : (e = 0 ∧ d'.off = false ∧ ∀ i, d'.wt i = if x ≤ i ∧ i < x + k then some (L.getD (i - x) []) else d.wt i) ∨
    (e = 8 ∧ d'.off = true ∧ ∀ i, d'.wt i = d.wt i ∨ (x ≤ i ∧ i < x + 4 ∧ d'.wt i = some (L.getD (i - x) [])))
theorem sw_is {d : Dk} (ho : d.off = false) {x : Nat} {L : List (List UInt8)} (hL : ∀ k, k < 4 → (L.getD k []).length = 256) (hx : x + 4 ≤ d.rows.length) : ∀ k, k ≤ 4 → Wn d (d.sw x L k).1 x L k (d.sw x L k).2
  | 0, _ => ⟨rfl, .inl ⟨rfl, ho, fun i => by rw [if_neg (by omega)]; rfl⟩⟩
  | k + 1, hk => by
    obtain ⟨h1, h2⟩ := sw_is ho hL hx k (by omega)
    rcases h2 with ⟨e, o, w⟩ | ⟨e, o, w⟩
    · have e' : d.sw x L (k + 1) = ((d.sw x L k).1.write ((x + k : Nat) : Int) (L.getD k []), (d.sw x L k).1.writeErr ((x + k : Nat) : Int) (L.getD k [])) := by
        show (if (d.sw x L k).2 = 0 then _ else _) = _
        rw [if_pos e]
      obtain ⟨r1, r2⟩ := write_is o (n := x + k) (by rw [h1]; omega) (hL k (by omega))
      rw [e']
      refine ⟨r1.trans h1, ?_⟩
      rcases r2 with ⟨q1, q2, q3⟩ | ⟨q1, q2, q3⟩
      · refine .inl ⟨q1, q2, fun i => ?_⟩
        show (Dk.write _ _ _).wt i = _
        rw [q3 i]
        by_cases hi : i = x + k
        · rw [if_pos hi, if_pos (by omega), hi, Nat.add_sub_cancel_left]
        · rw [if_neg hi, w i]
          by_cases c : x ≤ i ∧ i < x + k
          · rw [if_pos c, if_pos (by omega)]
          · rw [if_neg c, if_neg (by omega)]
      · refine .inr ⟨q1, q2, fun i => ?_⟩
        show (Dk.write _ _ _).wt i = _ ∨ (_ ∧ _ ∧ (Dk.write _ _ _).wt i = _)
        rcases q3 i with h | ⟨h, h'⟩
        · rw [h, w i]
          by_cases c : x ≤ i ∧ i < x + k
          · rw [if_pos c]; exact .inr ⟨c.1, by omega, rfl⟩
          · rw [if_neg c]; exact .inl rfl
        · rw [h']
          refine .inr ⟨by omega, by omega, ?_⟩
          rw [h, Nat.add_sub_cancel_left]
    · have e' : d.sw x L (k + 1) = d.sw x L k := by
        show (if (d.sw x L k).2 = 0 then _ else _) = _
        rw [if_neg (by omega)]
      rw [e']
      exact ⟨h1, .inr ⟨e, o, w⟩⟩
/-- A slot is written on a disk that waits for nothing. -/
theorem putSlot_is {d : Dk} (ho : d.off = false) {p g : Nat} {b : List UInt8} (hp : 4 * p + 4 ≤ d.rows.length) (hb : b.length ≤ 954) (hw : ∀ i, d.wt i = none) :
    (d.putSlot p g b).1.rows.length = d.rows.length ∧
    (((d.putSlot p g b).2 = 0 ∧ (d.putSlot p g b).1.off = false ∧ (∀ i, (d.putSlot p g b).1.wt i = none) ∧ ∀ i, i < d.rows.length → (d.putSlot p g b).1.rows.getD i [] = if 4 * p ≤ i ∧ i < 4 * p + 4 then (putL g b).getD (i - 4 * p) [] else d.rows.getD i []) ∨
     ((d.putSlot p g b).2 = 8 ∧ (d.putSlot p g b).1.off = true ∧ (∀ i, i < d.rows.length → ¬ (4 * p ≤ i ∧ i < 4 * p + 4) → (d.putSlot p g b).1.wt i = none ∧ (d.putSlot p g b).1.rows.getD i [] = d.rows.getD i []) ∧
       ∀ i, i < 4 → ((d.putSlot p g b).1.wt (4 * p + i) = none ∧ ((d.putSlot p g b).1.rows.getD (4 * p + i) [] = d.rows.getD (4 * p + i) [] ∨ (d.putSlot p g b).1.rows.getD (4 * p + i) [] = (putL g b).getD i [])) ∨
         ((d.putSlot p g b).1.wt (4 * p + i) = some ((putL g b).getD i []) ∧ (d.putSlot p g b).1.rows.getD (4 * p + i) [] = d.rows.getD (4 * p + i) []))) := by
  obtain ⟨h1, h2⟩ := sw_is ho (x := 4 * p) (put_each (g := g) hb) hp 4 (Nat.le_refl _)
  rcases h2 with ⟨e, o, w⟩ | ⟨e, o, w⟩
  · have e' : d.putSlot p g b = ((d.sw (4 * p) (putL g b) 4).1.sync, (d.sw (4 * p) (putL g b) 4).1.syncErr) := by
      unfold Dk.putSlot
      rw [if_pos e]
    rw [e']
    generalize (d.sw (4 * p) (putL g b) 4).1 = s at *
    have hat : ∀ i, i < d.rows.length → s.at_ i = if 4 * p ≤ i ∧ i < 4 * p + 4 then (putL g b).getD (i - 4 * p) [] else d.rows.getD i [] := fun i hi => by
      unfold Dk.at_
      rw [w i, h1]
      split
      · rfl
      · rw [hw i]; rfl
    rcases sync_is o with ⟨q1, q2, q3⟩ | ⟨q1, q2, q3⟩
    · exact ⟨q3.len.trans (by rw [h1]), .inl ⟨q1, q2, q3.wt, fun i hi => by rw [← hat i hi]; exact q3.row i (by rw [h1]; exact hi)⟩⟩
    · rcases q3 with q3 | ⟨q3, q4⟩
      · refine ⟨q3.len.trans (by rw [h1]), .inr ⟨q1, q2, fun i hi hn => ⟨q3.wt i, ?_⟩, fun i hi => .inl ⟨q3.wt _, .inr ?_⟩⟩⟩
        · show s.sync.rows.getD i [] = _
          rw [q3.row i (by rw [h1]; exact hi), hat i hi, if_neg hn]
        · show s.sync.rows.getD (4 * p + i) [] = _
          rw [q3.row _ (by rw [h1]; omega), hat _ (by omega), if_pos (by omega), Nat.add_sub_cancel_left]
      · refine ⟨by show s.sync.rows.length = _; rw [q3, h1], .inr ⟨q1, q2, fun i hi hn => ⟨?_, ?_⟩, fun i hi => .inr ⟨?_, ?_⟩⟩⟩
        · show s.sync.wt i = _
          rw [q4, w i, if_neg hn, hw i]
        · show s.sync.rows.getD i [] = _
          rw [q3, h1]
        · show s.sync.wt _ = _
          rw [q4, w _, if_pos (by omega), Nat.add_sub_cancel_left]
        · show s.sync.rows.getD _ [] = _
          rw [q3, h1]
  · have e' : d.putSlot p g b = d.sw (4 * p) (putL g b) 4 := by
      unfold Dk.putSlot
      rw [if_neg (by omega)]
    rw [e']
    generalize (d.sw (4 * p) (putL g b) 4) = s at *
    refine ⟨by rw [h1], .inr ⟨e, o, fun i hi hn => ⟨?_, by rw [h1]⟩, fun i hi => ?_⟩⟩
    · rcases w i with h | ⟨ha, hb', _⟩
      · rw [h, hw i]
      · exact absurd ⟨ha, hb'⟩ hn
    · rcases w (4 * p + i) with h | ⟨_, _, h⟩
      · exact .inl ⟨by rw [h, hw], .inl (by rw [h1])⟩
      · refine .inr ⟨?_, by rw [h1]⟩
        rw [h, Nat.add_sub_cancel_left]
theorem Kp.seen {d : Dk} {t : Sto} {j : Nat} (h : Kp d t j) (ho : d.off = false) (hj : j < 256) : d.seen2 ≤ j := by
  have key : ∀ k, k ≤ 1 → seenP (d.secs k) ≤ j := fun k hk => by
    rw [secs_rows ho (by rw [h.len]; omega) (fun i hi => h.wt _ (by omega))]
    have := seen_all (g := j) (d.rows4 k) 0 (fun b hb n => by
      simp only [Dk.rows4, List.mem_map, List.mem_range] at hb
      obtain ⟨i, hi, rfl⟩ := hb
      obtain ⟨x, y, hx, hy, s⟩ := h.sm (4 * k + i) (by omega)
      exact sm_seen s hx hy hj)
    unfold seenP
    omega
  have h0 := key 0 (by omega)
  have h1 := key 1 (by omega)
  unfold Dk.seen2
  omega
theorem seen_ge {L : List (List UInt8)} {b : List UInt8} {x y : Nat} (h : b ∈ L) (s : Sm b x y) (hx : x < 256) (hy : y < 256) : ∀ n, x ≤ L.foldl seen1 n ∧ y ≤ L.foldl seen1 n := by
  induction L with
  | nil => cases h
  | cons c L ih =>
    intro n
    simp only [List.foldl_cons]
    rcases List.mem_cons.1 h with rfl | h
    · have h1 := foldl_seen_ge L (seen1 n b)
      have h2 : max x y ≤ seen1 n b := by
        unfold seen1
        rw [s.hd, s.tl, genOf_st (by unfold maxNum; omega), genOf_st (by unfold maxNum; omega), if_pos s.len]
        omega
      omega
    · exact ih h _
theorem Kp.below {d : Dk} {t : Sto} {j : Nat} (h : Kp d t j) (ho : d.off = false) (hj : j < 256) {k i : Nat} (hk : k ≤ 1) (hi : i < 4) : ∃ x y, x ≤ d.seen2 ∧ y ≤ d.seen2 ∧ Sm (d.rows.getD (4 * k + i) []) x y := by
  obtain ⟨x, y, hx, hy, s⟩ := h.sm (4 * k + i) (by omega)
  have e : d.secs k = d.rows4 k := secs_rows ho (by rw [h.len]; omega) (fun i hi => h.wt _ (by omega))
  have hm : d.rows.getD (4 * k + i) [] ∈ d.secs k := by
    rw [e]
    exact List.mem_map.2 ⟨i, List.mem_range.2 hi, rfl⟩
  have h1 := seen_ge hm s (by omega) (by omega) 0
  have h2 : seenP (d.secs k) ≤ d.seen2 := by
    unfold Dk.seen2
    rcases (show k = 0 ∨ k = 1 by omega) with rfl | rfl <;> omega
  unfold seenP at h2
  exact ⟨x, y, by omega, by omega, s⟩
theorem Kp.like {d d' : Dk} {t : Sto} {j : Nat} (h : Kp d t j) (hl : d'.rows.length = 60) (hr : ∀ i, i < 8 → d'.rows.getD i [] = d.rows.getD i []) (hw : ∀ i, i < 8 → d'.wt i = none)
    (hb : ∀ n, n < t.size → bitL t.cts n = true → ∀ i, i < 4 → d'.wt (8 + t.log + 4 * n + i) = none) : Kp d' t j := by
  have hp := h.tok.place
  refine ⟨hl, h.tok, h.gen, hw, fun i hi => by rw [hr _ (by omega)]; exact h.cs i hi, fun i hi => by rw [hr i hi]; exact h.sm i hi, fun t' ht' => h.ot t' ?_, hb⟩
  have e : d'.rows4 (1 - t.place) = d.rows4 (1 - t.place) := rows4_is (Dk.rows4_len _ _) fun i hi => by rw [Dk.rows4_at _ _ hi, hr _ (by omega)]
  rwa [← e]
theorem Kp.sync {d d' : Dk} {t : Sto} {j : Nat} (h : Kp d t j) (s : Sy d d') : Kp d' t j ∧ ∀ i, i < 60 → d'.at_ i = d.at_ i := by
  have hat : ∀ i, i < 60 → d'.at_ i = d.at_ i := fun i hi => by rw [at_none (s.wt i), s.row i (by rw [h.len]; exact hi)]
  exact ⟨h.like (s.len.trans h.len) (fun i hi => by rw [s.row i (by rw [h.len]; omega), at_none (h.wt i hi)]) (fun i _ => s.wt i) (fun _ _ _ _ _ => s.wt _), hat⟩
theorem rest_at {d d' : Dk} {t : Sto} (ht : t.Ok 60) (U : List UInt64) (h : ∀ i, 8 ≤ i → i < 60 → d'.at_ i = d.at_ i) : restP d' t.log t.size U = restP d t.log t.size U :=
  restP_congr fun n hn _ i hi => h _ (by omega) (by have := ht.lens; omega)
/-- What a commit leaves. -/
def CmOut (d : Dk) (t : Sto) (j : Nat) (body : List UInt8) (R : Dk × Sto × Nat) : Prop :=
  (R.2.2 = 0 ∧ body.length ≤ 700 ∧ R.1.off = false ∧ R.2.1.bad = false ∧ Kp R.1 R.2.1 (j + 1) ∧ imgP R.1 R.2.1 R.2.1.cts = body ++ (124 :: restP d t.log t.size t.used)) ∨
  (R.2.2 ≠ 0 ∧ 700 < body.length ∧ R.1 = d ∧ R.2.1 = t) ∨
  (R.2.2 ≠ 0 ∧ R.1.off = true ∧ Kp R.1 t j ∧ imgP R.1 t t.cts = imgP d t t.cts) ∨
  (R.2.2 ≠ 0 ∧ R.1.off = true ∧ body.length ≤ 700 ∧ ∃ t' X, Tp R.1 t t' X (j + 1) ∧ imgP R.1 t t.cts = imgP d t t.cts ∧ imgP R.1 t' t'.cts = body ++ (124 :: restP d t.log t.size t.used))
set_option maxHeartbeats 1000000 in
theorem Kp.commit {d : Dk} {t : Sto} {j : Nat} (h : Kp d t j) (ho : d.off = false) (hbad : t.bad = false) (hj : j ≤ 200) (body : List UInt8) : CmOut d t j body (commitP d t body) := by
  unfold CmOut commitP
  rw [if_neg (by rw [hbad]; simp)]
  by_cases hbody : 700 < body.length
  · rw [if_pos hbody]
    exact .inr (.inl ⟨by simp, hbody, rfl, rfl⟩)
  rw [if_neg hbody]
  have hseen := h.seen ho (by omega)
  have hgen := h.gen
  have hp := h.tok.place
  have hl := h.tok.lens
  rw [if_neg (by omega)]
  generalize hg : max t.gen d.seen2 + 1 = g at *
  have hg1 : t.gen < g := by omega
  have hg2 : g ≤ j + 1 := by omega
  have imgs : ∀ {d' : Dk}, (∀ i, 8 ≤ i → i < 60 → d'.at_ i = d.at_ i) → imgP d' t t.cts = imgP d t t.cts := fun {d'} hat => by
    unfold imgP
    rw [rest_at h.tok _ hat]
  rcases sync_is ho with ⟨e, o, s⟩ | ⟨e, o, s⟩
  · rw [e, if_neg (by simp)]
    obtain ⟨k1, hat⟩ := h.sync s
    have hlen : d.sync.rows.length = 60 := k1.len
    have hX : ∀ i, i < 4 → ∃ a b, a < g ∧ b < g ∧ Sm (d.sync.rows.getD (4 * (1 - t.place) + i) []) a b := fun i hi => by
      obtain ⟨x, y, hx, hy, sm⟩ := h.below ho (by omega) (k := 1 - t.place) (by omega) hi
      rw [s.row _ (by rw [h.len]; omega), at_none (h.wt _ (by omega))]
      exact ⟨x, y, by omega, by omega, sm⟩
    have hlay : (layP t.log t.size t.used body).length ≤ 954 := layP_len (by have := cntP_ge h.tok.area; omega) hl.1 (words_few h.tok.used hl.1) (by omega)
    obtain ⟨q0, q1⟩ := putSlot_is o (p := 1 - t.place) (g := g) (b := layP t.log t.size t.used body) (by omega) hlay s.wt
    have tok' : Sto.Ok { t with gen := g, place := 1 - t.place, cts := t.used, body := body } 60 := ⟨h.tok.area, h.tok.size, by show 1 - t.place ≤ 1; omega, by show 1 ≤ g; omega, by show g ≤ _; omega, h.tok.used, h.tok.used, by show body.length ≤ 700; omega⟩
    rcases q1 with ⟨r1, r2, r3, r4⟩ | ⟨r1, r2, r3, r4⟩
    · left
      rw [r1, if_neg (by simp)]
      generalize (d.sync.putSlot (1 - t.place) g (layP t.log t.size t.used body)).1 = s1 at *
      have hold : ∀ i, i < 60 → ¬ (4 * (1 - t.place) ≤ i ∧ i < 4 * (1 - t.place) + 4) → s1.rows.getD i [] = d.sync.rows.getD i [] := fun i hi hn => by rw [r4 i (by omega), if_neg hn]
      have hnew : ∀ i, i < 4 → s1.rows.getD (4 * (1 - t.place) + i) [] = (putL g (layP t.log t.size t.used body)).getD i [] := fun i hi => by rw [r4 _ (by omega), if_pos (by omega), Nat.add_sub_cancel_left]
      have hat1 : ∀ i, 8 ≤ i → i < 60 → s1.at_ i = d.at_ i := fun i h8 hi => by rw [at_none (r3 i), hold i hi (by omega), ← at_none (s.wt i), hat i hi]
      refine ⟨rfl, by omega, r2, hbad, ⟨by show s1.rows.length = 60; omega, tok', hg2, fun i _ => r3 i, hnew, fun i hi => ?_, fun b hb => ?_, fun _ _ _ _ _ => r3 _⟩, ?_⟩
      · by_cases c : 4 * (1 - t.place) ≤ i ∧ i < 4 * (1 - t.place) + 4
        · obtain ⟨q, rfl⟩ : ∃ q, i = 4 * (1 - t.place) + q := ⟨i - 4 * (1 - t.place), by omega⟩
          show ∃ x y, _ ∧ _ ∧ Sm (s1.rows.getD _ []) x y
          rw [hnew q (by omega)]
          exact ⟨g, g, hg2, hg2, sm_putL hlay (by omega)⟩
        · show ∃ x y, _ ∧ _ ∧ Sm (s1.rows.getD i []) x y
          rw [hold i (by omega) c]
          obtain ⟨x, y, hx, hy, sm⟩ := k1.sm i hi
          exact ⟨x, y, by omega, by omega, sm⟩
      · have hb : takeP 60 (1 - (1 - t.place)) (s1.rows4 (1 - (1 - t.place))) = some b := hb
        rw [show 1 - (1 - t.place) = t.place by omega] at hb
        have e4 : s1.rows4 t.place = putL t.gen t.lay := rows4_is (putL_len _ _) fun i hi => by rw [hold _ (by omega) (by omega)]; exact k1.cs i hi
        rw [e4, take_back h.tok] at hb
        cases hb
        exact hg1
      · show body ++ (124 :: restP s1 t.log t.size t.used) = _
        rw [rest_at h.tok _ hat1]
    · right; right; right
      rw [r1, if_pos (by simp)]
      generalize (d.sync.putSlot (1 - t.place) g (layP t.log t.size t.used body)).1 = s1 at *
      have hat1 : ∀ i, 8 ≤ i → i < 60 → s1.at_ i = d.at_ i := fun i h8 hi => by
        obtain ⟨w1, w2⟩ := r3 i (by omega) (by omega)
        rw [at_none w1, w2, ← at_none (s.wt i), hat i hi]
      have hin : ∀ n, n < t.size → ∀ i, i < 4 → s1.wt (8 + t.log + 4 * n + i) = none := fun n hn i hi => (r3 _ (by omega) (by omega)).1
      refine ⟨by simp, r2, by omega, { t with gen := g, place := 1 - t.place, cts := t.used, body := body }, d.sync.rows4 (1 - t.place), ⟨by omega, h.tok, tok', rfl, hg1, hg2, by omega, rfl, rfl, fun i hi => (r3 _ (by omega) (by omega)).1, fun i hi => ?_, Dk.rows4_len _ _, fun i hi => ?_, fun i hi => ?_, fun b hb => k1.ot b hb, fun n hn _ i hi => hin n hn i hi, fun n hn _ i hi => hin n hn i hi⟩, imgs hat1, ?_⟩
      · rw [(r3 _ (by omega) (by omega)).2]
        exact k1.cs i hi
      · rw [Dk.rows4_at _ _ hi]
        exact hX i hi
      · rw [Dk.rows4_at _ _ hi]
        exact r4 i hi
      · show body ++ (124 :: restP s1 t.log t.size t.used) = _
        rw [rest_at h.tok _ hat1]
  · right; right; left
    rw [e, if_pos (by simp)]
    refine ⟨by simp, o, ?_, ?_⟩
    · rcases s with s | ⟨s1, s2⟩
      · exact (h.sync s).1
      · exact h.like (by rw [s1]; exact h.len) (fun i _ => by rw [s1]) (fun i hi => by rw [s2]; exact h.wt i hi) (fun n hn hb i hi => by rw [s2]; exact h.bl n hn hb i hi)
    · rcases s with s | ⟨s1, s2⟩
      · exact imgs fun i _ hi => (h.sync s).2 i hi
      · exact imgs fun i _ _ => by unfold Dk.at_; rw [s1, s2]
end Go.Proofs.YtegjeijiekggdaaGreatDoor
end
section
/- The package store, plain: what a write leaves on a disk that may fail. -/
namespace Go.Proofs.YtegjeijiekggdaaGreatDoor
open Go.RowKit
set_option linter.unusedVariables false
/-- Sectors x to x + 3 are written, up to the first failure. -/
structure Wb (d d' : Dk) (x e : Nat) : Prop where
  rows : d'.rows = d.rows
  err : (e = 0 ∧ d'.off = false) ∨ (e = 8 ∧ d'.off = true)
  wt : ∀ i, ¬ (x ≤ i ∧ i < x + 4) → d'.wt i = d.wt i
theorem bw_is {d : Dk} (ho : d.off = false) {x : Nat} {b : List UInt8} (hb : b.length = 1024) (hx : x + 4 ≤ d.rows.length) : ∀ k, k ≤ 4 → Wb d (d.bw (x : Int) b k).1 x (d.bw (x : Int) b k).2
  | 0, _ => ⟨rfl, .inl ⟨rfl, ho⟩, fun i _ => rfl⟩
  | k + 1, hk => by
    obtain ⟨h1, h2, h3⟩ := bw_is ho hb hx k (by omega)
    rcases h2 with ⟨e, o⟩ | ⟨e, o⟩
    · have e' : d.bw (x : Int) b (k + 1) = ((d.bw (x : Int) b k).1.write ((x + k : Nat) : Int) (part b k), (d.bw (x : Int) b k).1.writeErr ((x + k : Nat) : Int) (part b k)) := by
        show (if (d.bw (x : Int) b k).2 = 0 then _ else _) = _
        rw [if_pos e, Int.natCast_add]
      obtain ⟨r1, r2⟩ := write_is o (n := x + k) (by rw [h1]; omega) (part_len hb (show k < 4 by omega))
      rw [e']
      rcases r2 with ⟨q1, q2, q3⟩ | ⟨q1, q2, q3⟩
      · refine ⟨r1.trans h1, .inl ⟨q1, q2⟩, fun i hi => ?_⟩
        show (Dk.write _ _ _).wt i = _
        rw [q3 i, if_neg (by omega), h3 i hi]
      · refine ⟨r1.trans h1, .inr ⟨q1, q2⟩, fun i hi => ?_⟩
        show (Dk.write _ _ _).wt i = _
        rcases q3 i with h | ⟨h, _⟩
        · rw [h, h3 i hi]
        · omega
    · have e' : d.bw (x : Int) b (k + 1) = d.bw (x : Int) b k := by
        show (if (d.bw (x : Int) b k).2 = 0 then _ else _) = _
        rw [if_neg (by omega)]
      rw [e']
      exact ⟨h1, .inr ⟨e, o⟩, h3⟩
theorem Ar.fault_not8 (a : Ar) (size : Nat) (n : Int) : a.fault size n ≠ 8 := by
  unfold Ar.fault
  split
  · split <;> omega
  · omega
/-- What a write leaves: the store, but for its standing still; what counts stands. -/
def WtOut (d : Dk) (t : Sto) (j : Nat) (R : Dk × Sto × Nat) : Prop :=
  ∃ b, R.2.1 = { t with bad := b } ∧ (R.1.off = false → b = false) ∧ Kp R.1 t j ∧ imgP R.1 t t.cts = imgP d t t.cts
set_option maxHeartbeats 1000000 in
theorem Kp.write {d : Dk} {t : Sto} {j : Nat} (h : Kp d t j) (ho : d.off = false) (hbad : t.bad = false) (n : Int) (l : List UInt8) : WtOut d t j (writeP d t n l) := by
  have stay : ∀ e : Nat, e ≠ 8 → WtOut d t j (d, t.noted e, e) := fun e he => ⟨t.bad || decide (e = 8), rfl, fun _ => by rw [hbad, decide_eq_false he]; rfl, h, rfl⟩
  have stay0 : ∀ e : Nat, WtOut d t j (d, t, e) := fun e => ⟨t.bad, rfl, fun _ => hbad, h, rfl⟩
  unfold writeP
  by_cases hf : faultP t n ≠ 0
  · rw [if_pos hf]
    exact stay0 _
  rw [if_neg hf]
  by_cases hc : hasB (t.size : Int) t.cts n = true
  · rw [if_pos hc]
    exact stay0 _
  rw [if_neg hc]
  unfold Dk.bwrite
  by_cases ha : t.area.fault d.rows.length n ≠ 0
  · rw [if_pos ha]
    exact stay _ (Ar.fault_not8 _ _ _)
  rw [if_neg ha]
  by_cases hl : 1016 < l.length
  · rw [if_pos hl]
    exact stay 5 (by omega)
  rw [if_neg hl]
  have hlens := h.tok.lens
  have hn : 0 ≤ n ∧ n < (t.size : Int) := by
    have hh : hasB (t.size : Int) t.used n = true := by
      unfold faultP at hf
      rw [if_neg (by rw [hbad]; simp)] at hf
      cases hh : hasB (t.size : Int) t.used n
      · rw [hh] at hf; simp at hf
      · rfl
    unfold hasB at hh
    simp only [Bool.and_eq_true, decide_eq_true_eq] at hh
    exact hh.1.2
  obtain ⟨m, rfl⟩ := Int.eq_ofNat_of_zero_le hn.1
  have hm : m < t.size := by omega
  have hU : bitL t.cts m = false := by
    have := hasB_bit h.tok.cts hm
    cases hb : bitL t.cts m
    · rfl
    · rw [this, hb] at hc; simp at hc
  have ex : (t.area.first + 4 * (m : Int)) = ((8 + t.log + 4 * m : Nat) : Int) := by
    show 8 + (t.log : Int) + 4 * (m : Int) = _
    omega
  rw [ex]
  have hlen := h.len
  obtain ⟨r1, r2, r3⟩ := bw_is ho (x := 8 + t.log + 4 * m) (seal_len l 1024 (by omega)) (by omega) 4 (Nat.le_refl _)
  generalize d.bw ((8 + t.log + 4 * m : Nat) : Int) (sealL l 1024) 4 = R at *
  have hout : ∀ k, k < t.size → bitL t.cts k = true → ∀ i, i < 4 → R.1.wt (8 + t.log + 4 * k + i) = none := fun k hk hb i hi => by
    have hne : k ≠ m := fun e => by subst e; rw [hU] at hb; cases hb
    rw [r3 _ (by omega)]
    exact h.bl k hk hb i hi
  refine ⟨t.bad || decide (R.2 = 8), rfl, fun hoff => ?_, h.like (by rw [r1]; exact hlen) (fun i _ => by rw [r1]) (fun i hi => by rw [r3 i (by omega)]; exact h.wt i hi) hout, ?_⟩
  · rcases r2 with ⟨e, _⟩ | ⟨_, o⟩
    · rw [hbad, e]; rfl
    · have hoff : R.1.off = false := hoff
      rw [o] at hoff; cases hoff
  · unfold imgP
    rw [restP_congr fun k hk hb i hi => ?_]
    show R.1.at_ _ = _
    rw [at_none (hout k hk hb i hi), at_none (h.bl k hk hb i hi), r1]
theorem Kp.brk {d : Dk} {t : Sto} {j : Nat} (h : Kp d t j) (a : Int) (b : Bool) : Kp (d.brk a b) t j ∧ imgP (d.brk a b) t t.cts = imgP d t t.cts ∧ (d.brk a b).off = d.off ∧ (d.brk a b).calls = d.calls := by
  unfold Dk.brk
  split
  · exact ⟨h, rfl, rfl, rfl⟩
  · exact ⟨⟨h.len, h.tok, h.gen, h.wt, h.cs, h.sm, h.ot, h.bl⟩, rfl, rfl, rfl⟩
theorem opn_not8 (b : List UInt8) (n : Nat) : (opn b n).2 ≠ 8 := by
  unfold opn
  repeat (first | split | simp)
end Go.Proofs.YtegjeijiekggdaaGreatDoor
end
section
/- The package store: what a store has, as a text (the law's image); a store's calls on a disk that may fail. -/
namespace Go.Proofs.YtegjeijiekggdaaGreatDoor
open Go.RowKit
set_option linter.unusedVariables false
set_option linter.unusedSimpArgs false
theorem kAlloc {w : World} {F : Ft} {G : Nat} {W : World} {d : Dk} {t : Sto} (h : Gt w F G W d t) (g : t.Ok 60) (hT : TabAt 0 Lib.deBruijn64tab w) :
    Calls Tryz.prog 16 #[.pointer (some ⟨G, 0, none⟩)] W fun e w' => ∃ L x y, e = .returned (.tuple #[.int .i64 x, .int .i64 y]) ∧ okB (t.size : Int) L = true ∧ Gt w F G w' d { t with used := L } ∧ Frm (Wr F G) W w' := by
  obtain ⟨P, rfl, s⟩ := h.ex
  refine (alloc_any s h.disk.inside (by have := words_few g.used g.lens.1; omega) (h.tab hT) g.cts g.used).mono ?_
  rintro e w' ⟨rfl, m⟩
  have hm := h.mv rfl s.gf m
  have e : ∃ L, okB (t.size : Int) L = true ∧ (allocP t).1 = { t with used := L } := by
    unfold allocP
    split
    · exact ⟨t.used, g.used, rfl⟩
    · split
      · exact ⟨_, setL_ok g.used, rfl⟩
      · exact ⟨t.used, g.used, rfl⟩
  obtain ⟨L, hL, e⟩ := e
  rw [e] at hm
  exact ⟨L, _, _, rfl, hL, hm⟩
theorem kFree {w : World} {F : Ft} {G : Nat} {W : World} {d : Dk} {t : Sto} (h : Gt w F G W d t) (g : t.Ok 60) (n : Int) :
    Calls Tryz.prog 20 #[.pointer (some ⟨G, 0, none⟩), .int .i64 n] W fun e w' => ∃ L x, e = .returned (.int .i64 x) ∧ okB (t.size : Int) L = true ∧ Gt w F G w' d { t with used := L } ∧ Frm (Wr F G) W w' := by
  obtain ⟨P, rfl, s⟩ := h.ex
  refine (free_any s h.disk.inside (by have := words_few g.used g.lens.1; omega) n).mono ?_
  rintro e w' ⟨rfl, m⟩
  have hm := h.mv rfl s.gf m
  have e : ∃ L, okB (t.size : Int) L = true ∧ (freeP t n).1 = { t with used := L } := by
    unfold freeP
    split
    · exact ⟨t.used, g.used, rfl⟩
    · exact ⟨_, setL_ok g.used, rfl⟩
  obtain ⟨L, hL, e⟩ := e
  rw [e] at hm
  exact ⟨L, _, rfl, hL, hm⟩
theorem kForget {w : World} {F : Ft} {G : Nat} {W : World} {d : Dk} {t : Sto} (h : Gt w F G W d t) (g : t.Ok 60) :
    Calls Tryz.prog 22 #[.pointer (some ⟨G, 0, none⟩)] W fun e w' => ∃ L x, e = .returned (.int .i64 x) ∧ okB (t.size : Int) L = true ∧ Gt w F G w' d { t with used := L } ∧ Frm (Wr F G) W w' := by
  refine (gForget h).mono ?_
  rintro e w' ⟨rfl, hm⟩
  have e : ∃ L, okB (t.size : Int) L = true ∧ (forgetP t).1 = { t with used := L } := by
    unfold forgetP
    split
    · exact ⟨t.used, g.used, rfl⟩
    · exact ⟨_, g.cts, rfl⟩
  obtain ⟨L, hL, e⟩ := e
  rw [e] at hm
  exact ⟨L, _, rfl, hL, hm⟩
theorem Gt.ofFrm {w : World} {F : Ft} {G : Nat} {W V : World} {d d' : Dk} {t t' : Sto} (h : Gt w F G W d t) (ex : ∃ P : Sf, P.G = G ∧ StAt w.heap.size F V P t') (k : DkAt w.heap.size F V d') (f : Frm (Wr F G) W V) : Gt w F G V d' t' := by
  obtain ⟨P, hG, s⟩ := h.ex
  exact ⟨ex, k, h.bel.trans (f.below (fun i hi => by
    rcases hi with hi | hi
    · exact h.disk.based i hi
    · have := s.gb; omega) h.bel.size)⟩
theorem kCommit {w : World} {F : Ft} {G : Nat} {W : World} {d : Dk} {t : Sto} (h : Gt w F G W d t) (g : t.Ok 60) (hc : d.calls < 4611686018427370000) (B : Option Addr) (m c : Nat) (body : List UInt8) (hb : body.length = m) (hm : m ≤ maxLen) (hB : RB W B body) :
    Calls Tryz.prog 21 #[.pointer (some ⟨G, 0, none⟩), .slice B m c] W fun e w' => e = .returned (.int .i64 ((commitP d t body).2.2 : Int)) ∧ Gt w F G w' (commitP d t body).1 (commitP d t body).2.1 ∧ Frm (Wr F G) W w' := by
  obtain ⟨P, rfl, s⟩ := h.ex
  have ha := cntP_ge g.area
  refine (stCommit_any h.disk s hc (by omega) g.lens.1 g.place g.gen2 (words_few g.used g.lens.1) B m c body hb hm hB).mono ?_
  rintro e w' ⟨rfl, dk, ⟨P', e, s'⟩, f⟩
  exact ⟨rfl, h.ofFrm ⟨P', e, s'⟩ dk f, f⟩
theorem kWrite {w : World} {F : Ft} {G : Nat} {W : World} {d : Dk} {t : Sto} (h : Gt w F G W d t) (hc : d.calls < 4611686018427387900) (n : Int) (B : Option Addr) (m c : Nat) (body : List UInt8) (hb : body.length = m) (hm : m ≤ 1099511627776) (hB : RB W B body) :
    Calls Tryz.prog 19 #[.pointer (some ⟨G, 0, none⟩), .int .i64 n, .slice B m c] W fun e w' => e = .returned (.int .i64 ((writeP d t n body).2.2 : Int)) ∧ Gt w F G w' (writeP d t n body).1 (writeP d t n body).2.1 ∧ Frm (Wr F G) W w' := by
  obtain ⟨P, rfl, s⟩ := h.ex
  refine (stWrite_any h.disk s hc n B m c body hb hm hB).mono ?_
  rintro e w' ⟨rfl, dk, s', f⟩
  exact ⟨rfl, h.ofFrm ⟨P, rfl, s'⟩ dk f, f⟩
theorem read_ok {d : Dk} {t : Sto} (hlen : d.rows.length = 60) (ho : d.off = false) (hbad : t.bad = false) (g : t.Ok 60) {n : Nat} (hn : n < t.size) (hb : bitL t.used n = true) : readP d t (n : Int) = (t, opn (d.rd (8 + t.log + 4 * n) 4) 1024) := by
  have hl := g.lens
  have hf : faultP t (n : Int) = 0 := by
    unfold faultP
    rw [if_neg (by rw [hbad]; simp), hasB_bit g.used hn, if_pos hb]
  have he : d.bread t.area (n : Int) = opn (d.rd (8 + t.log + 4 * n) 4) 1024 := by
    have ha : t.area.fault d.rows.length (n : Int) = 0 := by
      rw [hlen]
      exact Ar.fault_zero (p := 8 + (t.log : Int)) (q := (t.size : Int)) (by omega) (by omega) (by omega)
    unfold Dk.bread
    rw [ha, if_neg (by simp), if_neg (by rw [ho]; simp)]
    have ex : (t.area.first + 4 * (n : Int)).toNat = 8 + t.log + 4 * n := by
      show (8 + (t.log : Int) + 4 * (n : Int)).toNat = _
      omega
    rw [ex]
  unfold readP
  rw [hf, if_neg (by simp), he]
  have hno : t.noted (opn (d.rd (8 + t.log + 4 * n) 4) 1024).2 = t := by
    unfold Sto.noted
    rw [decide_eq_false (opn_not8 _ _), Bool.or_false]
  rw [hno]
theorem kRead {w : World} {F : Ft} {G : Nat} {W : World} {d : Dk} {t : Sto} (h : Gt w F G W d t) (hlen : d.rows.length = 60) (ho : d.off = false) (hbad : t.bad = false) (g : t.Ok 60) {n : Nat} (hn : n < t.size) (hb : bitL t.used n = true) :
    Calls Tryz.prog 17 #[.pointer (some ⟨G, 0, none⟩), .int .i64 (n : Int)] W fun e w' => ∃ A c, e = .returned (.tuple #[.slice A (opn (d.rd (8 + t.log + 4 * n) 4) 1024).1.length c, .int .i64 ((opn (d.rd (8 + t.log + 4 * n) 4) 1024).2 : Int)]) ∧ RB w' A (opn (d.rd (8 + t.log + 4 * n) 4) 1024).1 ∧ Gt w F G w' d t ∧ Frm (Wr F G) W w' := by
  obtain ⟨P, rfl, s⟩ := h.ex
  have K := stRead_any h.disk s (n : Int)
  rw [read_ok hlen ho hbad g hn hb] at K
  refine K.mono ?_
  rintro e w' ⟨v, rfl, o, s', dk, f⟩
  obtain ⟨A, c, rfl, hc, r⟩ := o.form
  exact ⟨A, c, rfl, r, h.ofFrm ⟨P, rfl, s'⟩ dk f.wrG, f.wrG⟩
def restK (d : Dk) (log : Nat) (U : List UInt64) (k : Nat) : List UInt8 := (List.range k).flatMap fun n => if bitL U n = true then blkB n (opn (d.rd (8 + log + 4 * n) 4) 1024) else []
theorem restK_succ (d : Dk) (log : Nat) (U : List UInt64) (k : Nat) : restK d log U (k + 1) = restK d log U k ++ (if bitL U k = true then blkB k (opn (d.rd (8 + log + 4 * k) 4) 1024) else []) := by
  unfold restK
  rw [List.range_succ, List.flatMap_append]
  simp
end Go.Proofs.YtegjeijiekggdaaGreatDoor
end
