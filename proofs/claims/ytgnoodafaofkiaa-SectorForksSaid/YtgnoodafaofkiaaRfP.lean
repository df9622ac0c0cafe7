/- The program's disk and the document's: what calls leave of both is the same (plain). -/
import Derived.Test.YtgnoodafaofkiaaRfI
import Derived.Test.YtgnoodafaofkiaaScU
namespace Go.Proofs.Ytgnoodafaofkiaa
open Go.RowKit
set_option linter.unusedVariables false
/-- What the document's disk has at a sector of the program's. -/
def Dk.sx (s : Dk) (i : Nat) : Sx := ⟨s.at_ i, s.rows.getD i [], (s.wt i).isSome⟩
def Dk.twinS (s : Dk) : List Sx := (List.range s.rows.length).map s.sx
structure Twin (s : Dk) (r : Rk) : Prop where
  S : r.S = s.twinS
  off : r.off = s.off
  calls : r.calls = (s.calls : Int)
  on : s.off = false → r.after = (if s.fset = true then (s.left : Int) else -1) ∧ (s.fset = true → r.done = s.done)
  down : s.off = true → r.after = -1
theorem Dk.twinS_len (s : Dk) : s.twinS.length = s.rows.length := by simp [Dk.twinS]
theorem Dk.twinS_at (s : Dk) {i : Nat} (h : i < s.rows.length) : s.twinS[i]? = some (s.sx i) := by simp [Dk.twinS, h]
theorem twinS_ext {s : Dk} {L : List Sx} (hl : L.length = s.rows.length) (h : ∀ i, i < s.rows.length → L[i]? = some (s.sx i)) : L = s.twinS := by
  apply List.ext_getElem?
  intro i
  rcases Nat.lt_or_ge i s.rows.length with hi | hi
  · rw [h i hi, s.twinS_at hi]
  · rw [List.getElem?_eq_none (by omega), List.getElem?_eq_none (by rw [s.twinS_len]; omega)]
theorem Twin.len {s : Dk} {r : Rk} (h : Twin s r) : r.S.length = s.rows.length := by rw [h.S, s.twinS_len]
theorem Twin.lo {s : Dk} {r : Rk} (h : Twin s r) : -1 ≤ r.after := by
  cases ho : s.off with
  | true => rw [h.down ho]; omega
  | false => rw [(h.on ho).1]; split <;> omega
theorem Twin.hi {s : Dk} {r : Rk} (h : Twin s r) (hs : s.Ok) : r.after ≤ 9223372036854775807 := by
  have := hs.left
  cases ho : s.off with
  | true => rw [h.down ho]; omega
  | false => rw [(h.on ho).1]; split <;> omega
theorem Twin.rows {s : Dk} {r : Rk} (h : Twin s r) (hs : s.Ok) : ∀ x ∈ r.S, x.has.length = 256 ∧ x.safe.length = 256 := by
  intro x hx
  rw [h.S] at hx
  simp only [Dk.twinS, List.mem_map, List.mem_range] at hx
  obtain ⟨i, hi, rfl⟩ := hx
  refine ⟨Dk.at_len hs hi, hs.each _ ?_⟩
  show s.rows.getD i [] ∈ s.rows
  rw [List.getD_eq_getElem?_getD, List.getElem?_eq_getElem hi]
  exact List.getElem_mem hi
theorem Twin.at {s : Dk} {r : Rk} (h : Twin s r) (n : Int) : r.at n = s.faultAt n := by
  unfold Rk.at Dk.faultAt
  rw [h.off, h.len]
theorem Twin.reads {s : Dk} {r : Rk} (h : Twin s r) (n : Int) : r.reads n = s.reads n := by
  unfold Rk.reads Dk.reads
  rw [h.at n]
  split
  · rename_i h0
    obtain ⟨h1, h2⟩ := Dk.faultAt_ok h0
    rw [h.S, s.twinS_at (by omega)]
    rfl
  · rfl
theorem twin_new (n : Int) (h : n ≤ 40) : Twin (Dk.new n) (Rk.new n) := by
  have hl : newLen n = (min (max n 0) 4096).toNat := by unfold newLen; omega
  refine ⟨?_, rfl, rfl, fun _ => ⟨rfl, fun e => by cases e⟩, fun e => by cases e⟩
  refine twinS_ext ?_ fun i hi => ?_
  · show (List.replicate (newLen n) zeroS).length = (List.replicate (min (max n 0) 4096).toNat zeros).length
    rw [List.length_replicate, List.length_replicate, hl]
  · have hi' : i < (min (max n 0) 4096).toNat := by
      have : i < (List.replicate (min (max n 0) 4096).toNat zeros).length := hi
      rwa [List.length_replicate] at this
    show (List.replicate (newLen n) zeroS)[i]? = _
    rw [List.getElem?_replicate, if_pos (by omega)]
    have e : (Dk.new n).rows.getD i [] = zeros := by
      show (List.replicate (min (max n 0) 4096).toNat zeros).getD i [] = zeros
      rw [List.getD_eq_getElem?_getD, List.getElem?_replicate, if_pos hi']
      rfl
    have e2 : (Dk.new n).at_ i = zeros := e
    unfold Dk.sx
    rw [e, e2]
    rfl
theorem Twin.callErr {s : Dk} {r : Rk} (h : Twin s r) (ho : s.off = false) : r.callErr = s.callErr := by
  unfold Rk.callErr Dk.callErr
  rw [(h.on ho).1]
  cases hf : s.fset with
  | true =>
    simp only [if_true, true_and]
    by_cases hl : s.left = 0
    · rw [if_pos (by omega), if_pos hl]
    · rw [if_neg (by omega), if_neg hl]
  | false => simp
/-- A call whose change is the same on both leaves the same. -/
theorem Twin.call {s : Dk} {r : Rk} (h : Twin s r) (ho : s.off = false) (upd : Dk → Dk) (S' : List Sx) (hu : ∀ t : Dk, (upd t).calls = t.calls ∧ (upd t).off = t.off ∧ (upd t).fset = t.fset ∧ (upd t).left = t.left ∧ (upd t).done = t.done) (hS : ∀ c l, (upd { s with calls := c, left := l }).twinS = S') :
    Twin (s.call upd) (r.call { r with S := S' }) := by
  obtain ⟨ha, hd⟩ := h.on ho
  by_cases hb : s.fset = true ∧ s.left = 0
  · have hz : r.after = 0 := by rw [ha, if_pos hb.1, hb.2]; rfl
    have hdd := hd hb.1
    have e1 : s.call upd = { (if s.done = true then upd { s with calls := s.calls + 1 } else { s with calls := s.calls + 1 }) with off := true } := if_pos hb
    have e2 : r.call { r with S := S' } = if r.done = true then { ({ r with S := S' } : Rk) with calls := r.up.calls, after := r.up.after, off := true } else { r.up with off := true } := by
      unfold Rk.call
      rw [if_neg (by simp [hz])]
    have hua : r.up.after = -1 := by show (if 0 ≤ r.after then r.after - 1 else r.after) = -1; rw [hz]; rfl
    rw [e1, e2]
    by_cases hdn : s.done = true
    · rw [if_pos hdn, if_pos (show r.done = true from hdd.trans hdn)]
      obtain ⟨u1, u2, u3, u4, u5⟩ := hu { s with calls := s.calls + 1 }
      refine ⟨?_, rfl, ?_, (fun e => by cases e), fun _ => hua⟩
      · exact (hS (s.calls + 1) s.left).symm
      · show r.calls + 1 = ((upd { s with calls := s.calls + 1 }).calls : Int)
        rw [u1, h.calls]
        rfl
    · rw [if_neg hdn, if_neg (show ¬ r.done = true from by rw [hdd]; exact hdn)]
      refine ⟨h.S, rfl, ?_, (fun e => by cases e), fun _ => hua⟩
      show r.calls + 1 = ((s.calls + 1 : Nat) : Int)
      rw [h.calls]
      rfl
  · have hz : r.after ≠ 0 := by
      rw [ha]
      split
      · rename_i hf
        intro e
        exact hb ⟨hf, by omega⟩
      · omega
    have e1 : s.call upd = upd { s with calls := s.calls + 1, left := if s.fset = true then s.left - 1 else s.left } := if_neg hb
    have e2 : r.call { r with S := S' } = { ({ r with S := S' } : Rk) with calls := r.up.calls, after := r.up.after } := if_pos hz
    rw [e1, e2]
    obtain ⟨u1, u2, u3, u4, u5⟩ := hu { s with calls := s.calls + 1, left := if s.fset = true then s.left - 1 else s.left }
    refine ⟨(hS _ _).symm, ?_, ?_, fun _ => ⟨?_, fun hf => ?_⟩, fun e => ?_⟩
    · rw [u2]; exact h.off
    · rw [u1]
      show r.calls + 1 = ((s.calls + 1 : Nat) : Int)
      rw [h.calls]
      rfl
    · rw [u3, u4]
      show (if 0 ≤ r.after then r.after - 1 else r.after) = if s.fset = true then (((if s.fset = true then s.left - 1 else s.left) : Nat) : Int) else -1
      rw [ha]
      cases hf : s.fset with
      | true =>
        have : s.left ≠ 0 := fun e => hb ⟨hf, e⟩
        simp only [if_true]
        rw [if_pos (by omega)]
        omega
      | false => simp
    · rw [u3] at hf
      rw [u5]
      exact hd hf
    · rw [u2] at e
      have : s.off = true := e
      rw [ho] at this
      cases this
theorem Twin.writeErr {s : Dk} {r : Rk} (h : Twin s r) (n : Int) (l : List UInt8) : r.writeErr n l = s.writeErr n l := by
  unfold Rk.writeErr Dk.writeErr
  rw [h.at n]
  split
  · rfl
  · rename_i h0
    split
    · rfl
    · refine h.callErr ?_
      have h0 : s.faultAt n = 0 := by omega
      unfold Dk.faultAt at h0
      cases ho : s.off with
      | true => rw [ho] at h0; cases h0
      | false => rfl
theorem Dk.put_twin (s : Dk) {k : Nat} (hk : k < s.rows.length) (l : List UInt8) : (s.put k l).twinS = s.twinS.set k ⟨l, s.rows.getD k [], true⟩ := by
  refine (twinS_ext ?_ fun i hi => ?_).symm
  · rw [List.length_set, s.twinS_len]; rfl
  · have hi : i < s.rows.length := hi
    by_cases e : i = k
    · subst e
      rw [List.getElem?_set_self (by rw [s.twinS_len]; exact hi)]
      have e1 : (s.put i l).at_ i = l := by rw [put_at, if_pos rfl]
      have e2 : ((s.put i l).wt i).isSome = true := by show (if i = i then some l else s.wt i).isSome = true; rw [if_pos rfl]; rfl
      unfold Dk.sx
      rw [e1, e2]
      rfl
    · rw [List.getElem?_set_ne (by omega), s.twinS_at hi]
      have e1 : (s.put k l).at_ i = s.at_ i := by rw [put_at, if_neg e]
      have e2 : (s.put k l).wt i = s.wt i := if_neg e
      unfold Dk.sx
      rw [e1, e2]
      rfl
theorem Twin.write {s : Dk} {r : Rk} (h : Twin s r) (n : Int) (l : List UInt8) : Twin (s.write n l) (r.write n l) := by
  unfold Rk.write Dk.write
  rw [h.at n]
  split
  · exact h
  · rename_i h0
    have h0 : s.faultAt n = 0 := by omega
    obtain ⟨h1, h2⟩ := Dk.faultAt_ok h0
    have ho : s.off = false := by
      unfold Dk.faultAt at h0
      cases ho : s.off with
      | true => rw [ho] at h0; cases h0
      | false => rfl
    have hk : n.toNat < s.rows.length := by omega
    have e : r.put n.toNat l = { r with S := (s.put n.toNat l).twinS } := by
      unfold Rk.put
      rw [h.S, s.twinS_at hk, s.put_twin hk]
      rfl
    rw [e]
    exact h.call ho (fun t => t.put n.toNat l) _ (fun t => ⟨rfl, rfl, rfl, rfl, rfl⟩) (fun c l' => rfl)
theorem Dk.synced_twin (s : Dk) : s.synced.twinS = s.twinS.map Sx.safed := by
  have hl : s.synced.rows.length = s.rows.length := by show ((List.range s.rows.length).map s.at_).length = _; simp
  refine (twinS_ext ?_ fun i hi => ?_).symm
  · rw [List.length_map, s.twinS_len, hl]
  · rw [hl] at hi
    rw [List.getElem?_map, s.twinS_at hi]
    have e1 : s.synced.at_ i = s.at_ i := synced_at s i hi
    have e2 : s.synced.rows.getD i [] = s.at_ i := e1
    unfold Dk.sx
    rw [e1, e2]
    rfl
theorem Twin.sync {s : Dk} {r : Rk} (h : Twin s r) : Twin s.sync r.sync ∧ r.syncErr = s.syncErr := by
  unfold Dk.sync Rk.sync Dk.syncErr Rk.syncErr
  rw [h.off]
  cases ho : s.off with
  | true => exact ⟨h, rfl⟩
  | false =>
    rw [if_neg (by simp), if_neg (by simp), if_neg (by simp), if_neg (by simp)]
    refine ⟨?_, h.callErr ho⟩
    have e : r.safed = { r with S := s.synced.twinS } := by
      unfold Rk.safed
      rw [h.S, s.synced_twin]
    rw [e]
    exact h.call ho Dk.synced _ (fun t => ⟨rfl, rfl, rfl, rfl, rfl⟩) (fun c l' => rfl)
theorem Twin.brk {s : Dk} {r : Rk} (h : Twin s r) (n : Int) (d : Bool) : Twin (s.brk n d) (r.brk n d) ∧ r.breakErr n = s.breakErr n := by
  refine ⟨?_, by unfold Dk.breakErr Rk.breakErr; rw [h.off]⟩
  by_cases hn : s.off = true ∨ n < 0
  · have e1 : s.brk n d = s := if_pos hn
    have e2 : r.brk n d = r := if_pos (by rw [h.off]; exact hn)
    rw [e1, e2]
    exact h
  · have e1 : s.brk n d = { s with fset := true, left := n.toNat, done := d } := if_neg hn
    have e2 : r.brk n d = { r with after := n, done := d } := if_neg (by rw [h.off]; exact hn)
    rw [e1, e2]
    refine ⟨h.S, h.off, h.calls, fun _ => ⟨?_, fun _ => rfl⟩, fun e => absurd (Or.inl e) hn⟩
    show n = if true = true then ((n.toNat : Nat) : Int) else -1
    rw [if_pos rfl]
    omega
theorem getD_set_self {L : List (List UInt8)} {i : Nat} {x : List UInt8} (h : i < L.length) : (L.set i x).getD i [] = x := by
  rw [List.getD_eq_getElem?_getD, List.getElem?_set_self h]
  rfl
theorem getD_set_ne {L : List (List UInt8)} {i k : Nat} {x : List UInt8} (h : k ≠ i) : (L.set k x).getD i [] = L.getD i [] := by
  rw [List.getD_eq_getElem?_getD, List.getD_eq_getElem?_getD, List.getElem?_set_ne h]
theorem keysOf_succ (f : Nat → Option (List UInt8)) (k : Nat) : keysOf f (k + 1) = if (f k).isSome = true then keysOf f k ++ [k] else keysOf f k := by
  unfold keysOf
  rw [List.range_succ, List.filter_append]
  cases h : (f k).isSome <;> simp [h]
theorem Twin.waits {s : Dk} {r : Rk} (h : Twin s r) : waitsTo r.S r.S.length = s.waits := by
  have go : ∀ k, k ≤ s.rows.length → waitsTo r.S k = keysOf s.wt k := by
    intro k
    induction k with
    | zero => intro _; rfl
    | succ k ih =>
      intro hk
      have e : waitsTo r.S (k + 1) = if ((r.S[k]?).map (·.w)).getD false = true then waitsTo r.S k ++ [k] else waitsTo r.S k := rfl
      rw [e, keysOf_succ, ih (by omega), h.S, s.twinS_at (by omega)]
      rfl
  rw [h.len]
  exact go _ (Nat.le_refl _)
/-- How far both have come at a loss of power. -/
theorem power_steps (s : Dk) (fs : List UInt8) : ∀ k, k ≤ s.rows.length →
    (pwTo s.twinS fs k).2 = (powerGo s.wt (keysOf s.wt k) (s.rows, fs)).2 ∧
    ∀ i, i < s.rows.length → (pwTo s.twinS fs k).1[i]? = some ⟨if i < k then (powerGo s.wt (keysOf s.wt k) (s.rows, fs)).1.getD i [] else s.at_ i, s.rows.getD i [], (s.wt i).isSome⟩
  | 0, _ => ⟨rfl, fun i hi => by rw [if_neg (by omega)]; exact s.twinS_at hi⟩
  | k + 1, hk => by
    obtain ⟨h1, h2⟩ := power_steps s fs k (by omega)
    have hk' : k < s.rows.length := by omega
    have hnk : k ∉ keysOf s.wt k := fun hm => by have := (mem_keysOf.1 hm).1; omega
    have hrow : (powerGo s.wt (keysOf s.wt k) (s.rows, fs)).1.getD k [] = s.rows.getD k [] := powerGo_out _ _ _ _ hnk
    have hlen : (powerGo s.wt (keysOf s.wt k) (s.rows, fs)).1.length = s.rows.length := powerGo_length _ _ _
    have hq := h2 k hk'
    rw [if_neg (by omega)] at hq
    have e : pwTo s.twinS fs (k + 1) = ((pwTo s.twinS fs k).1.set k ((s.sx k).fate (pwTo s.twinS fs k).2).1, ((s.sx k).fate (pwTo s.twinS fs k).2).2) := by
      show (match (pwTo s.twinS fs k).1[k]? with | some x => _ | none => _) = _
      rw [hq]
      rfl
    have hql : (pwTo s.twinS fs k).1.length = s.rows.length := by rw [pwTo_len, s.twinS_len]
    rw [e, keysOf_succ]
    cases hw : (s.wt k).isSome with
    | false =>
      have hn : s.wt k = none := by
        cases h : s.wt k with
        | none => rfl
        | some l => rw [h] at hw; cases hw
      have hf : (s.sx k).fate (pwTo s.twinS fs k).2 = (s.sx k, (pwTo s.twinS fs k).2) := by
        unfold Sx.fate
        rw [if_neg (by show ¬ (s.wt k).isSome = true; rw [hw]; simp)]
      rw [hf, if_neg (by simp)]
      refine ⟨h1, fun i hi => ?_⟩
      by_cases hik : i = k
      · subst hik
        rw [List.getElem?_set_self (by omega), if_pos (by omega), hrow]
        have : s.at_ i = s.rows.getD i [] := by unfold Dk.at_; rw [hn]; rfl
        unfold Dk.sx
        rw [this]
      · rw [List.getElem?_set_ne (by omega), h2 i hi]
        by_cases hlt : i < k
        · rw [if_pos hlt, if_pos (by omega)]
        · rw [if_neg hlt, if_neg (by omega)]
    | true =>
      have hat : s.at_ k = (s.wt k).getD [] := by
        cases h : s.wt k with
        | none => rw [h] at hw; cases hw
        | some l => unfold Dk.at_; rw [h]; rfl
      have hf : (s.sx k).fate (pwTo s.twinS fs k).2 = (⟨(fate1 (s.rows.getD k []) ((s.wt k).getD []) (powerGo s.wt (keysOf s.wt k) (s.rows, fs)).2).1, s.rows.getD k [], true⟩, (fate1 (s.rows.getD k []) ((s.wt k).getD []) (powerGo s.wt (keysOf s.wt k) (s.rows, fs)).2).2) := by
        unfold Sx.fate
        rw [if_pos (show (s.sx k).w = true from hw)]
        show ((⟨(fate1 (s.rows.getD k []) (s.at_ k) _).1, s.rows.getD k [], (s.wt k).isSome⟩ : Sx), (fate1 (s.rows.getD k []) (s.at_ k) _).2) = _
        rw [hat, h1, hw]
      rw [hf, if_pos rfl, powerGo_snoc, hrow]
      refine ⟨rfl, fun i hi => ?_⟩
      by_cases hik : i = k
      · subst hik
        rw [List.getElem?_set_self (by omega), if_pos (by omega)]
        simp only
        rw [getD_set_self (by omega), hw]
      · rw [List.getElem?_set_ne (by omega), h2 i hi]
        by_cases hlt : i < k
        · rw [if_pos hlt, if_pos (by omega)]
          simp only
          rw [getD_set_ne (by omega)]
        · rw [if_neg hlt, if_neg (by omega)]
theorem Twin.power {s : Dk} {r : Rk} (h : Twin s r) (fs : List UInt8) : Twin (s.power fs) (r.power fs) := by
  obtain ⟨h1, h2⟩ := power_steps s fs s.rows.length (Nat.le_refl _)
  have hl : (s.power fs).rows.length = s.rows.length := powerGo_length _ _ _
  refine ⟨?_, rfl, h.calls, fun _ => ⟨rfl, fun e => by cases e⟩, fun e => by cases e⟩
  show (pwTo r.S fs r.S.length).1.map Sx.safed = _
  rw [h.len, h.S]
  refine twinS_ext ?_ fun i hi => ?_
  · rw [List.length_map, pwTo_len, s.twinS_len, hl]
  · rw [hl] at hi
    rw [List.getElem?_map, h2 i hi, if_pos hi]
    rfl
end Go.Proofs.Ytgnoodafaofkiaa
