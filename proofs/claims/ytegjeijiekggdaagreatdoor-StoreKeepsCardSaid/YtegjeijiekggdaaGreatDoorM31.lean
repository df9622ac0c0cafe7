/- Joined: RfR. -/
import Derived.Test.YtegjeijiekggdaaGreatDoorM30
import Derived.Test.YtegjeijiekggdaaGreatDoorM08
section
/- The program's disk and the document's: what calls leave of both is the same (plain). The laws' function Do: a call on both disks. The laws' function Do: Sync, Break and Power on both disks. -/
namespace Go.Proofs.YtegjeijiekggdaaGreatDoor
open Go.RowKit
set_option linter.unusedVariables false
/-- What the document's disk has at a sector of the program's. -/
def Dk.sx (s : Dk) (i : Nat) : Sx := ⟨s.at_ i, s.rows.getD i [], (s.wt i).isSome⟩
def Dk.twinS (s : Dk) : List Sx := (List.range s.rows.length).map s.sx
structure Twin (s : Dk) (r : Rk) : Prop where
  S : r.S = s.twinS
  off : r.off = s.off
  calls : r.calls = (s.calls : Int)
  on : s.off = false → r.after = (if s.fset = true then (s.left : Int) else -1) ∧ (s.fset = true → r.done = s.done)
  down : s.off = true → r.after = -1
theorem Dk.twinS_len (s : Dk) : s.twinS.length = s.rows.length := by simp [Dk.twinS]
theorem Dk.twinS_at (s : Dk) {i : Nat} (h : i < s.rows.length) : s.twinS[i]? = some (s.sx i) := by simp [Dk.twinS, h]
theorem twinS_ext {s : Dk} {L : List Sx} (hl : L.length = s.rows.length) (h : ∀ i, i < s.rows.length → L[i]? = some (s.sx i)) : L = s.twinS := by
  apply List.ext_getElem?
  intro i
  rcases Nat.lt_or_ge i s.rows.length with hi | hi
  · rw [h i hi, s.twinS_at hi]
  · rw [List.getElem?_eq_none (by omega), List.getElem?_eq_none (by rw [s.twinS_len]; omega)]
theorem Twin.len {s : Dk} {r : Rk} (h : Twin s r) : r.S.length = s.rows.length := by rw [h.S, s.twinS_len]
theorem Twin.lo {s : Dk} {r : Rk} (h : Twin s r) : -1 ≤ r.after := by
  cases ho : s.off with
  | true => rw [h.down ho]; omega
  | false => rw [(h.on ho).1]; split <;> omega
theorem Twin.hi {s : Dk} {r : Rk} (h : Twin s r) (hs : s.Ok) : r.after ≤ 9223372036854775807 := by
  have := hs.left
  cases ho : s.off with
  | true => rw [h.down ho]; omega
  | false => rw [(h.on ho).1]; split <;> omega
theorem Twin.rows {s : Dk} {r : Rk} (h : Twin s r) (hs : s.Ok) : ∀ x ∈ r.S, x.has.length = 256 ∧ x.safe.length = 256 := by
  intro x hx
  rw [h.S] at hx
  simp only [Dk.twinS, List.mem_map, List.mem_range] at hx
  obtain ⟨i, hi, rfl⟩ := hx
  refine ⟨Dk.at_len hs hi, hs.each _ ?_⟩
  show s.rows.getD i [] ∈ s.rows
  rw [List.getD_eq_getElem?_getD, List.getElem?_eq_getElem hi]
  exact List.getElem_mem hi
theorem Twin.at {s : Dk} {r : Rk} (h : Twin s r) (n : Int) : r.at n = s.faultAt n := by
  unfold Rk.at Dk.faultAt
  rw [h.off, h.len]
theorem Twin.reads {s : Dk} {r : Rk} (h : Twin s r) (n : Int) : r.reads n = s.reads n := by
  unfold Rk.reads Dk.reads
  rw [h.at n]
  split
  · rename_i h0
    obtain ⟨h1, h2⟩ := Dk.faultAt_ok h0
    rw [h.S, s.twinS_at (by omega)]
    rfl
  · rfl
theorem twin_new (n : Int) (h : n ≤ 40) : Twin (Dk.new n) (Rk.new n) := by
  have hl : newLen n = (min (max n 0) 4096).toNat := by unfold newLen; omega
  refine ⟨?_, rfl, rfl, fun _ => ⟨rfl, fun e => by cases e⟩, fun e => by cases e⟩
  refine twinS_ext ?_ fun i hi => ?_
  · show (List.replicate (newLen n) zeroS).length = (List.replicate (min (max n 0) 4096).toNat zeros).length
    rw [List.length_replicate, List.length_replicate, hl]
  · have hi' : i < (min (max n 0) 4096).toNat := by
      have : i < (List.replicate (min (max n 0) 4096).toNat zeros).length := hi
      rwa [List.length_replicate] at this
    show (List.replicate (newLen n) zeroS)[i]? = _
    rw [List.getElem?_replicate, if_pos (by omega)]
    have e : (Dk.new n).rows.getD i [] = zeros := by
      show (List.replicate (min (max n 0) 4096).toNat zeros).getD i [] = zeros
      rw [List.getD_eq_getElem?_getD, List.getElem?_replicate, if_pos hi']
      rfl
    have e2 : (Dk.new n).at_ i = zeros := e
    unfold Dk.sx
    rw [e, e2]
    rfl
theorem Twin.callErr {s : Dk} {r : Rk} (h : Twin s r) (ho : s.off = false) : r.callErr = s.callErr := by
  unfold Rk.callErr Dk.callErr
  rw [(h.on ho).1]
  cases hf : s.fset with
  | true =>
    simp only [if_true, true_and]
    by_cases hl : s.left = 0
    · rw [if_pos (by omega), if_pos hl]
    · rw [if_neg (by omega), if_neg hl]
  | false => simp
/-- A call whose change is the same on both leaves the same. -/
theorem Twin.call {s : Dk} {r : Rk} (h : Twin s r) (ho : s.off = false) (upd : Dk → Dk) (S' : List Sx) (hu : ∀ t : Dk, (upd t).calls = t.calls ∧ (upd t).off = t.off ∧ (upd t).fset = t.fset ∧ (upd t).left = t.left ∧ (upd t).done = t.done) (hS : ∀ c l, (upd { s with calls := c, left := l }).twinS = S') :
    Twin (s.call upd) (r.call { r with S := S' }) := by
  obtain ⟨ha, hd⟩ := h.on ho
  by_cases hb : s.fset = true ∧ s.left = 0
  · have hz : r.after = 0 := by rw [ha, if_pos hb.1, hb.2]; rfl
    have hdd := hd hb.1
    have e1 : s.call upd = { (if s.done = true then upd { s with calls := s.calls + 1 } else { s with calls := s.calls + 1 }) with off := true } := if_pos hb
    have e2 : r.call { r with S := S' } = if r.done = true then { ({ r with S := S' } : Rk) with calls := r.up.calls, after := r.up.after, off := true } else { r.up with off := true } := by
      unfold Rk.call
      rw [if_neg (by simp [hz])]
    have hua : r.up.after = -1 := by show (if 0 ≤ r.after then r.after - 1 else r.after) = -1; rw [hz]; rfl
    rw [e1, e2]
    by_cases hdn : s.done = true
    · rw [if_pos hdn, if_pos (show r.done = true from hdd.trans hdn)]
      obtain ⟨u1, u2, u3, u4, u5⟩ := hu { s with calls := s.calls + 1 }
      refine ⟨?_, rfl, ?_, (fun e => by cases e), fun _ => hua⟩
      · exact (hS (s.calls + 1) s.left).symm
      · show r.calls + 1 = ((upd { s with calls := s.calls + 1 }).calls : Int)
        rw [u1, h.calls]
        rfl
    · rw [if_neg hdn, if_neg (show ¬ r.done = true from by rw [hdd]; exact hdn)]
      refine ⟨h.S, rfl, ?_, (fun e => by cases e), fun _ => hua⟩
      show r.calls + 1 = ((s.calls + 1 : Nat) : Int)
      rw [h.calls]
      rfl
  · have hz : r.after ≠ 0 := by
      rw [ha]
      split
      · rename_i hf
        intro e
        exact hb ⟨hf, by omega⟩
      · omega
    have e1 : s.call upd = upd { s with calls := s.calls + 1, left := if s.fset = true then s.left - 1 else s.left } := if_neg hb
    have e2 : r.call { r with S := S' } = { ({ r with S := S' } : Rk) with calls := r.up.calls, after := r.up.after } := if_pos hz
    rw [e1, e2]
    obtain ⟨u1, u2, u3, u4, u5⟩ := hu { s with calls := s.calls + 1, left := if s.fset = true then s.left - 1 else s.left }
    refine ⟨(hS _ _).symm, ?_, ?_, fun _ => ⟨?_, fun hf => ?_⟩, fun e => ?_⟩
    · rw [u2]; exact h.off
    · rw [u1]
      show r.calls + 1 = ((s.calls + 1 : Nat) : Int)
      rw [h.calls]
      rfl
    · rw [u3, u4]
      show (if 0 ≤ r.after then r.after - 1 else r.after) = if s.fset = true then (((if s.fset = true then s.left - 1 else s.left) : Nat) : Int) else -1
      rw [ha]
      cases hf : s.fset with
      | true =>
        have : s.left ≠ 0 := fun e => hb ⟨hf, e⟩
        simp only [if_true]
        rw [if_pos (by omega)]
        omega
      | false => simp
    · rw [u3] at hf
      rw [u5]
      exact hd hf
    · rw [u2] at e
      have : s.off = true := e
      rw [ho] at this
      cases this
theorem Twin.writeErr {s : Dk} {r : Rk} (h : Twin s r) (n : Int) (l : List UInt8) : r.writeErr n l = s.writeErr n l := by
  unfold Rk.writeErr Dk.writeErr
  rw [h.at n]
  split
  · rfl
  · rename_i h0
    split
    · rfl
    · refine h.callErr ?_
      have h0 : s.faultAt n = 0 := by omega
      unfold Dk.faultAt at h0
      cases ho : s.off with
      | true => rw [ho] at h0; cases h0
      | false => rfl
theorem Dk.put_twin (s : Dk) {k : Nat} (hk : k < s.rows.length) (l : List UInt8) : (s.put k l).twinS = s.twinS.set k ⟨l, s.rows.getD k [], true⟩ := by
  refine (twinS_ext ?_ fun i hi => ?_).symm
  · rw [List.length_set, s.twinS_len]; rfl
  · have hi : i < s.rows.length := hi
    by_cases e : i = k
    · subst e
      rw [List.getElem?_set_self (by rw [s.twinS_len]; exact hi)]
      have e1 : (s.put i l).at_ i = l := by rw [put_at, if_pos rfl]
      have e2 : ((s.put i l).wt i).isSome = true := by show (if i = i then some l else s.wt i).isSome = true; rw [if_pos rfl]; rfl
      unfold Dk.sx
      rw [e1, e2]
      rfl
    · rw [List.getElem?_set_ne (by omega), s.twinS_at hi]
      have e1 : (s.put k l).at_ i = s.at_ i := by rw [put_at, if_neg e]
      have e2 : (s.put k l).wt i = s.wt i := if_neg e
      unfold Dk.sx
      rw [e1, e2]
      rfl
theorem Twin.write {s : Dk} {r : Rk} (h : Twin s r) (n : Int) (l : List UInt8) : Twin (s.write n l) (r.write n l) := by
  unfold Rk.write Dk.write
  rw [h.at n]
  split
  · exact h
  · rename_i h0
    have h0 : s.faultAt n = 0 := by omega
    obtain ⟨h1, h2⟩ := Dk.faultAt_ok h0
    have ho : s.off = false := by
      unfold Dk.faultAt at h0
      cases ho : s.off with
      | true => rw [ho] at h0; cases h0
      | false => rfl
    have hk : n.toNat < s.rows.length := by omega
    have e : r.put n.toNat l = { r with S := (s.put n.toNat l).twinS } := by
      unfold Rk.put
      rw [h.S, s.twinS_at hk, s.put_twin hk]
      rfl
    rw [e]
    exact h.call ho (fun t => t.put n.toNat l) _ (fun t => ⟨rfl, rfl, rfl, rfl, rfl⟩) (fun c l' => rfl)
theorem Dk.synced_twin (s : Dk) : s.synced.twinS = s.twinS.map Sx.safed := by
  have hl : s.synced.rows.length = s.rows.length := by show ((List.range s.rows.length).map s.at_).length = _; simp
  refine (twinS_ext ?_ fun i hi => ?_).symm
  · rw [List.length_map, s.twinS_len, hl]
  · rw [hl] at hi
    rw [List.getElem?_map, s.twinS_at hi]
    have e1 : s.synced.at_ i = s.at_ i := synced_at s i hi
    have e2 : s.synced.rows.getD i [] = s.at_ i := e1
    unfold Dk.sx
    rw [e1, e2]
    rfl
theorem Twin.sync {s : Dk} {r : Rk} (h : Twin s r) : Twin s.sync r.sync ∧ r.syncErr = s.syncErr := by
  unfold Dk.sync Rk.sync Dk.syncErr Rk.syncErr
  rw [h.off]
  cases ho : s.off with
  | true => exact ⟨h, rfl⟩
  | false =>
    rw [if_neg (by simp), if_neg (by simp), if_neg (by simp), if_neg (by simp)]
    refine ⟨?_, h.callErr ho⟩
    have e : r.safed = { r with S := s.synced.twinS } := by
      unfold Rk.safed
      rw [h.S, s.synced_twin]
    rw [e]
    exact h.call ho Dk.synced _ (fun t => ⟨rfl, rfl, rfl, rfl, rfl⟩) (fun c l' => rfl)
theorem Twin.brk {s : Dk} {r : Rk} (h : Twin s r) (n : Int) (d : Bool) : Twin (s.brk n d) (r.brk n d) ∧ r.breakErr n = s.breakErr n := by
  refine ⟨?_, by unfold Dk.breakErr Rk.breakErr; rw [h.off]⟩
  by_cases hn : s.off = true ∨ n < 0
  · have e1 : s.brk n d = s := if_pos hn
    have e2 : r.brk n d = r := if_pos (by rw [h.off]; exact hn)
    rw [e1, e2]
    exact h
  · have e1 : s.brk n d = { s with fset := true, left := n.toNat, done := d } := if_neg hn
    have e2 : r.brk n d = { r with after := n, done := d } := if_neg (by rw [h.off]; exact hn)
    rw [e1, e2]
    refine ⟨h.S, h.off, h.calls, fun _ => ⟨?_, fun _ => rfl⟩, fun e => absurd (Or.inl e) hn⟩
    show n = if true = true then ((n.toNat : Nat) : Int) else -1
    rw [if_pos rfl]
    omega
theorem getD_set_self {L : List (List UInt8)} {i : Nat} {x : List UInt8} (h : i < L.length) : (L.set i x).getD i [] = x := by
  rw [List.getD_eq_getElem?_getD, List.getElem?_set_self h]
  rfl
theorem getD_set_ne {L : List (List UInt8)} {i k : Nat} {x : List UInt8} (h : k ≠ i) : (L.set k x).getD i [] = L.getD i [] := by
  rw [List.getD_eq_getElem?_getD, List.getD_eq_getElem?_getD, List.getElem?_set_ne h]
theorem keysOf_succ (f : Nat → Option (List UInt8)) (k : Nat) : keysOf f (k + 1) = if (f k).isSome = true then keysOf f k ++ [k] else keysOf f k := by
  unfold keysOf
  rw [List.range_succ, List.filter_append]
  cases h : (f k).isSome <;> simp [h]
theorem Twin.waits {s : Dk} {r : Rk} (h : Twin s r) : waitsTo r.S r.S.length = s.waits := by
  have go : ∀ k, k ≤ s.rows.length → waitsTo r.S k = keysOf s.wt k := by
    intro k
    induction k with
    | zero => intro _; rfl
    | succ k ih =>
      intro hk
      have e : waitsTo r.S (k + 1) = if ((r.S[k]?).map (·.w)).getD false = true then waitsTo r.S k ++ [k] else waitsTo r.S k := rfl
      rw [e, keysOf_succ, ih (by omega), h.S, s.twinS_at (by omega)]
      rfl
  rw [h.len]
  exact go _ (Nat.le_refl _)
/-- How far both have come at a loss of power. -/
theorem power_steps (s : Dk) (fs : List UInt8) : ∀ k, k ≤ s.rows.length →
    (pwTo s.twinS fs k).2 = (powerGo s.wt (keysOf s.wt k) (s.rows, fs)).2 ∧
    ∀ i, i < s.rows.length → (pwTo s.twinS fs k).1[i]? = some ⟨if i < k then (powerGo s.wt (keysOf s.wt k) (s.rows, fs)).1.getD i [] else s.at_ i, s.rows.getD i [], (s.wt i).isSome⟩
  | 0, _ => ⟨rfl, fun i hi => by rw [if_neg (by omega)]; exact s.twinS_at hi⟩
  | k + 1, hk => by
    obtain ⟨h1, h2⟩ := power_steps s fs k (by omega)
    have hk' : k < s.rows.length := by omega
    have hnk : k ∉ keysOf s.wt k := fun hm => by have := (mem_keysOf.1 hm).1; omega
    have hrow : (powerGo s.wt (keysOf s.wt k) (s.rows, fs)).1.getD k [] = s.rows.getD k [] := powerGo_out _ _ _ _ hnk
    have hlen : (powerGo s.wt (keysOf s.wt k) (s.rows, fs)).1.length = s.rows.length := powerGo_length _ _ _
    have hq := h2 k hk'
    rw [if_neg (by omega)] at hq
    have e : pwTo s.twinS fs (k + 1) = ((pwTo s.twinS fs k).1.set k ((s.sx k).fate (pwTo s.twinS fs k).2).1, ((s.sx k).fate (pwTo s.twinS fs k).2).2) := by
      show (match (pwTo s.twinS fs k).1[k]? with | some x => _ | none => _) = _
      rw [hq]
      rfl
    have hql : (pwTo s.twinS fs k).1.length = s.rows.length := by rw [pwTo_len, s.twinS_len]
    rw [e, keysOf_succ]
    cases hw : (s.wt k).isSome with
    | false =>
      have hn : s.wt k = none := by
        cases h : s.wt k with
        | none => rfl
        | some l => rw [h] at hw; cases hw
      have hf : (s.sx k).fate (pwTo s.twinS fs k).2 = (s.sx k, (pwTo s.twinS fs k).2) := by
        unfold Sx.fate
        rw [if_neg (by show ¬ (s.wt k).isSome = true; rw [hw]; simp)]
      rw [hf, if_neg (by simp)]
      refine ⟨h1, fun i hi => ?_⟩
      by_cases hik : i = k
      · subst hik
        rw [List.getElem?_set_self (by omega), if_pos (by omega), hrow]
        have : s.at_ i = s.rows.getD i [] := by unfold Dk.at_; rw [hn]; rfl
        unfold Dk.sx
        rw [this]
      · rw [List.getElem?_set_ne (by omega), h2 i hi]
        by_cases hlt : i < k
        · rw [if_pos hlt, if_pos (by omega)]
        · rw [if_neg hlt, if_neg (by omega)]
    | true =>
      have hat : s.at_ k = (s.wt k).getD [] := by
        cases h : s.wt k with
        | none => rw [h] at hw; cases hw
        | some l => unfold Dk.at_; rw [h]; rfl
      have hf : (s.sx k).fate (pwTo s.twinS fs k).2 = (⟨(fate1 (s.rows.getD k []) ((s.wt k).getD []) (powerGo s.wt (keysOf s.wt k) (s.rows, fs)).2).1, s.rows.getD k [], true⟩, (fate1 (s.rows.getD k []) ((s.wt k).getD []) (powerGo s.wt (keysOf s.wt k) (s.rows, fs)).2).2) := by
        unfold Sx.fate
        rw [if_pos (show (s.sx k).w = true from hw)]
        show ((⟨(fate1 (s.rows.getD k []) (s.at_ k) _).1, s.rows.getD k [], (s.wt k).isSome⟩ : Sx), (fate1 (s.rows.getD k []) (s.at_ k) _).2) = _
        rw [hat, h1, hw]
      rw [hf, if_pos rfl, powerGo_snoc, hrow]
      refine ⟨rfl, fun i hi => ?_⟩
      by_cases hik : i = k
      · subst hik
        rw [List.getElem?_set_self (by omega), if_pos (by omega)]
        simp only
        rw [getD_set_self (by omega), hw]
      · rw [List.getElem?_set_ne (by omega), h2 i hi]
        by_cases hlt : i < k
        · rw [if_pos hlt, if_pos (by omega)]
          simp only
          rw [getD_set_ne (by omega)]
        · rw [if_neg hlt, if_neg (by omega)]
theorem Twin.power {s : Dk} {r : Rk} (h : Twin s r) (fs : List UInt8) : Twin (s.power fs) (r.power fs) := by
  obtain ⟨h1, h2⟩ := power_steps s fs s.rows.length (Nat.le_refl _)
  have hl : (s.power fs).rows.length = s.rows.length := powerGo_length _ _ _
  refine ⟨?_, rfl, h.calls, fun _ => ⟨rfl, fun e => by cases e⟩, fun e => by cases e⟩
  show (pwTo r.S fs r.S.length).1.map Sx.safed = _
  rw [h.len, h.S]
  refine twinS_ext ?_ fun i hi => ?_
  · rw [List.length_map, pwTo_len, s.twinS_len, hl]
  · rw [hl] at hi
    rw [List.getElem?_map, h2 i hi, if_pos hi]
    rfl
end Go.Proofs.YtegjeijiekggdaaGreatDoor
namespace Go.Proofs.YtegjeijiekggdaaGreatDoor
open Go.RowKit
set_option linter.unusedVariables false
/-- A row of sectors is not in a block whose first cell is no text. -/
theorem RS.ne_block {W : World} {A : Option Addr} {S : List Sx} (hr : RS W A S) (hS : S ≠ []) {ad : Addr} (hA : A = some ad) {b : Nat} {v : Value} (hb : W.cell? ⟨b, 0, none⟩ = some v) (hv : ∀ t, v ≠ .string t) : ad.block ≠ b := by
  rcases hr with e | ⟨g, e, hc⟩
  · exact absurd e hS
  · rw [hA] at e
    injection e with e
    subst e
    intro e
    have e : g = b := e
    subst e
    cases S with
    | nil => exact absurd rfl hS
    | cons x S =>
      have := hc 0 (.string (str x.has)) rfl
      rw [hb] at this
      injection this with this
      exact hv _ this
theorem RS.ne_map {W : World} {A : Option Addr} {S : List Sx} (hr : RS W A S) (hS : S ≠ []) {ad : Addr} (hA : A = some ad) {b : Nat} (hb : W.cell? ⟨b, 0, none⟩ = none) : ad.block ≠ b := by
  rcases hr with e | ⟨g, e, hc⟩
  · exact absurd e hS
  · rw [hA] at e
    injection e with e
    subst e
    intro e
    have e : g = b := e
    subst e
    cases S with
    | nil => exact absurd rfl hS
    | cons x S =>
      have := hc 0 (.string (str x.has)) rfl
      rw [hb] at this
      cases this
/-- The document's rows lie outside of the program's disk. -/
theorem DkAt.rs_out {base : Nat} {F : Ft} {w : World} {s : Dk} (h : DkAt base F w s) {A : Option Addr} {S : List Sx} (hr : RS w A S) (hl : S.length = s.rows.length) : S ≠ [] → ∀ ad, A = some ad → ¬ F.has ad.block := by
  intro hS ad hA hx
  rcases hx with e | e | ⟨ad', e, e'⟩
  · exact hr.ne_block hS hA h.c0 (fun t e => by cases e) e
  · refine hr.ne_map hS hA ?_ e
    obtain ⟨n, D, ⟨es, clock, hb, _⟩, _⟩ := h.map
    simp [World.cell?, hb]
  · rcases h.rowat with ⟨e1, _⟩ | ⟨g, cur, e1, hb, hh, hg, hc, hsz, ht⟩
    · rw [e1] at e; cases e
    · rw [e1] at e
      injection e with e
      subst e
      have e' : g = ad.block := e'
      have hpos : 0 < s.rows.length := by
        rw [← hl]
        cases S with
        | nil => exact absurd rfl hS
        | cons x S => simp
      have hrow : s.rows[0] ∈ s.rows := List.getElem_mem hpos
      have hlen := h.ok.each _ hrow
      have hfl : 0 < s.rows.flatten.length := by
        cases hrs : s.rows with
        | nil => rw [hrs] at hpos; simp at hpos
        | cons y ys =>
          have : y.length = 256 := h.ok.each y (by rw [hrs]; simp)
          simp [List.length_flatten, this]
          omega
      obtain ⟨x, hx⟩ : ∃ x, s.rows.flatten[0]? = some x := ⟨_, List.getElem?_eq_getElem hfl⟩
      have hcell : w.cell? ⟨g, 0, none⟩ = some (.int .u8 (x.toNat : Int)) := by
        have h1 : (cur.toList.take (s.rows.length * 256))[0]? = some (.int .u8 (x.toNat : Int)) := by
          rw [ht]
          show (s.rows.flatten.map cellB)[0]? = _
          rw [List.getElem?_map, hx]
          rfl
        rw [List.getElem?_take, if_pos (by omega)] at h1
        rw [cell_of_row w _ 0 _ _ _ hh]
        simpa using h1
      exact hr.ne_block hS hA hcell (fun t e => by cases e) e'.symm
/-- Three boxes made one behind the other. -/
structure Bx (b : Nat) (x y : Array Value) (W : World) : Prop where
  b0 : W.heap[b]? = some (.cells x 39 (0, 0))
  b1 : W.heap[b + 1]? = some (.cells y 31 (0, 0))
  b2 : W.heap[b + 2]? = some (.cells #[.slice none 0 0, .bool false, .int .i64 0, .int .i64 0, .bool false] 39 (0, 0))
theorem Bx.mk3 (w : World) (x y : Array Value) : Bx w.heap.size x y (((w.alloc (.cells x 39)).alloc (.cells y 31)).alloc (.cells #[.slice none 0 0, .bool false, .int .i64 0, .int .i64 0, .bool false] 39)) := by
  have hz := heap_size_alloc w (.cells x 39)
  have hz1 := heap_size_alloc (w.alloc (.cells x 39)) (.cells y 31)
  refine ⟨?_, ?_, ?_⟩
  · exact (Below.heap_alloc _ _ _ (by omega)).trans ((Below.heap_alloc _ _ _ (by omega)).trans (heap_alloc_last w _))
  · refine (Below.heap_alloc _ _ _ (by omega)).trans ?_
    have := heap_alloc_last (w.alloc (.cells x 39)) (.cells y 31)
    rw [hz] at this
    exact this
  · have := heap_alloc_last ((w.alloc (.cells x 39)).alloc (.cells y 31)) (.cells #[.slice none 0 0, .bool false, .int .i64 0, .int .i64 0, .bool false] 39)
    rw [hz1, hz] at this
    exact this
theorem Bx.size {b : Nat} {x y : Array Value} {W : World} (h : Bx b x y W) : b + 2 < W.heap.size := (Array.getElem?_eq_some_iff.1 h.b2).1
theorem Bx.frm {b : Nat} {x y : Array Value} {W W' : World} {X : Nat → Prop} (h : Bx b x y W) (hf : Frm X W W') (hX : ∀ k, X k → k < b) : Bx b x y W' := by
  have := h.size
  exact ⟨(hf.block _ (by omega) (fun hx => by have := hX _ hx; omega)).trans h.b0, (hf.block _ (by omega) (fun hx => by have := hX _ hx; omega)).trans h.b1, (hf.block _ (by omega) (fun hx => by have := hX _ hx; omega)).trans h.b2⟩
theorem Bx.below {b : Nat} {x y : Array Value} {W W' : World} (h : Bx b x y W) (hb : Below W.heap.size W W') : Bx b x y W' := h.frm (X := fun _ => False) (Frm.of_below hb) (fun _ e => e.elim)
theorem Bx.c0 {b : Nat} {y : Array Value} {a0 a1 a2 a3 a4 : Value} {W : World} (h : Bx b #[a0, a1, a2, a3, a4] y W) : W.cell? ⟨b, 0, none⟩ = some a0 ∧ W.cell? ⟨b, 1, none⟩ = some a1 ∧ W.cell? ⟨b, 2, none⟩ = some a2 ∧ W.cell? ⟨b, 3, none⟩ = some a3 ∧ W.cell? ⟨b, 4, none⟩ = some a4 :=
  ⟨(cell_of_row W _ 0 _ _ _ h.b0).trans rfl, (cell_of_row W _ 1 _ _ _ h.b0).trans rfl, (cell_of_row W _ 2 _ _ _ h.b0).trans rfl, (cell_of_row W _ 3 _ _ _ h.b0).trans rfl, (cell_of_row W _ 4 _ _ _ h.b0).trans rfl⟩
theorem Bx.c1 {b : Nat} {x : Array Value} {a0 a1 a2 a3 a4 a5 : Value} {W : World} (h : Bx b x #[a0, a1, a2, a3, a4, a5] W) : W.cell? ⟨b + 1, 0, none⟩ = some a0 ∧ W.cell? ⟨b + 1, 1, none⟩ = some a1 ∧ W.cell? ⟨b + 1, 2, none⟩ = some a2 ∧ W.cell? ⟨b + 1, 3, none⟩ = some a3 ∧ W.cell? ⟨b + 1, 4, none⟩ = some a4 ∧ W.cell? ⟨b + 1, 5, none⟩ = some a5 :=
  ⟨(cell_of_row W _ 0 _ _ _ h.b1).trans rfl, (cell_of_row W _ 1 _ _ _ h.b1).trans rfl, (cell_of_row W _ 2 _ _ _ h.b1).trans rfl, (cell_of_row W _ 3 _ _ _ h.b1).trans rfl, (cell_of_row W _ 4 _ _ _ h.b1).trans rfl, (cell_of_row W _ 5 _ _ _ h.b1).trans rfl⟩
theorem Bx.c2 {b : Nat} {x y : Array Value} {W : World} (h : Bx b x y W) : W.cell? ⟨b + 2, 0, none⟩ = some (.slice none 0 0) ∧ W.cell? ⟨b + 2, 1, none⟩ = some (.bool false) ∧ W.cell? ⟨b + 2, 2, none⟩ = some (.int .i64 0) ∧ W.cell? ⟨b + 2, 3, none⟩ = some (.int .i64 0) ∧ W.cell? ⟨b + 2, 4, none⟩ = some (.bool false) :=
  ⟨(cell_of_row W _ 0 _ _ _ h.b2).trans rfl, (cell_of_row W _ 1 _ _ _ h.b2).trans rfl, (cell_of_row W _ 2 _ _ _ h.b2).trans rfl, (cell_of_row W _ 3 _ _ _ h.b2).trans rfl, (cell_of_row W _ 4 _ _ _ h.b2).trans rfl⟩
theorem Bx.f0 {b : Nat} {x y : Array Value} {W : World} (h : Bx b x y W) (j : Nat) : W.frozen? ⟨b, j, none⟩ = false := by simp [World.frozen?, h.b0]
theorem Bx.f2 {b : Nat} {x y : Array Value} {W : World} (h : Bx b x y W) (j : Nat) : W.frozen? ⟨b + 2, j, none⟩ = false := by simp [World.frozen?, h.b2]
theorem Bx.set {b : Nat} {x0 x1 x2 x3 x4 : Value} {y : Array Value} {W : World} (h : Bx b #[x0, x1, x2, x3, x4] y W) (a0 a1 a2 a3 a4 : Value) : Bx b #[a0, a1, a2, a3, a4] y (set5 W b a0 a1 a2 a3 a4) :=
  ⟨heap_set5 h.b0 _ _ _ _ _, (heap_set5_other _ _ _ (by omega) _ _ _ _ _).trans h.b1, (heap_set5_other _ _ _ (by omega) _ _ _ _ _).trans h.b2⟩
theorem Frm.set5 {X : Nat → Prop} {w W : World} {b : Nat} (h : Frm X w W) (hb : w.heap.size ≤ b) (a0 a1 a2 a3 a4 : Value) : Frm X w (set5 W b a0 a1 a2 a3 a4) :=
  have q := below_set5 (Below.refl 0 W) (Nat.zero_le b) a0 a1 a2 a3 a4
  ⟨q.os.trans h.os, q.tape.trans h.tape, q.output.trans h.output, Nat.le_trans h.size q.size, fun k hk hx => (heap_set5_other _ _ _ (by omega) _ _ _ _ _).trans (h.block k hk hx)⟩
theorem DkAt.set5 {base : Nat} {F : Ft} {W : World} {s : Dk} {b : Nat} (h : DkAt base F W s) (hb : ¬ F.has b) (a0 a1 a2 a3 a4 : Value) : DkAt base F (set5 W b a0 a1 a2 a3 a4) s :=
  h.kept fun k hk => heap_set5_other _ _ _ (fun e => hb (by rw [← e]; exact hk)) _ _ _ _ _
theorem RS.set5 {W : World} {A : Option Addr} {S : List Sx} {b : Nat} {v : Value} (h : RS W A S) (hb : W.cell? ⟨b, 0, none⟩ = some v) (hv : ∀ t, v ≠ .string t) (a0 a1 a2 a3 a4 : Value) : RS (set5 W b a0 a1 a2 a3 a4) A S := by
  by_cases hS : S = []
  · exact .inl hS
  · have h' := h
    rcases h with e | ⟨g, rfl, hc⟩
    · exact .inl e
    · have hg := h'.ne_block hS rfl hb hv
      exact .inr ⟨g, rfl, fun j u hj => (cell_set5 W b ⟨g, j, none⟩ hg _ _ _ _ _).trans (hc j u hj)⟩
/-- What Do leaves. -/
def DoPost (base : Nat) (F : Ft) (w : World) (s : Dk) (e : Ending) (w' : World) : Prop :=
  ∃ s' r' A' c', e = .returned (.tuple #[rkV A' c' r', .int .i64 0]) ∧ DkAt base F w' s' ∧ RS w' A' r'.S ∧ Twin s' r' ∧ s'.calls ≤ s.calls + 1 ∧ s'.rows.length = s.rows.length ∧ Frm F.has w w'
def acV (a : Ac) : Value := .agg #[.int .u8 (a.kind.toNat : Int), .int .i64 a.n, .int .u8 (a.c.toNat : Int), .int .u8 (a.cut.toNat : Int), .bool a.done, .slice a.fA a.fates.length a.fc]
/-- The last steps: the result is laid, and given back. -/
theorem do_last {base : Nat} {F : Ft} {w w2 : World} {s s' : Dk} {r' : Rk} {A2 : Option Addr} {c2 : Nat} {x0 x1 x2 x3 x4 : Value} {y : Array Value} (hd : DkAt base F w2 s') (hr : RS w2 A2 r'.S) (ht : Twin s' r') (hc : s'.calls ≤ s.calls + 1) (hl : s'.rows.length = s.rows.length) (hf : Frm F.has w w2) (hin : ∀ k, F.has k → k < w.heap.size)
    (hb : Bx w.heap.size #[x0, x1, x2, x3, x4] y w2) (hx : ∀ t, x0 ≠ .string t) (a0 a1 a2 a3 a4 b0 b1 b2 b3 b4 : Value) (ha : ∀ t, a0 ≠ .string t) : DoPost base F w s (.returned (.tuple #[rkV A2 c2 r', .int .i64 0])) (set5 (set5 w2 w.heap.size a0 a1 a2 a3 a4) (w.heap.size + 2) b0 b1 b2 b3 b4) := by
  have n4 : ¬ F.has w.heap.size := fun h => by have := hin _ h; omega
  have n6 : ¬ F.has (w.heap.size + 2) := fun h => by have := hin _ h; omega
  refine ⟨s', r', A2, c2, rfl, (hd.set5 n4 _ _ _ _ _).set5 n6 _ _ _ _ _, ?_, ht, hc, hl, (hf.set5 (Nat.le_refl _) _ _ _ _ _).set5 (by omega) _ _ _ _ _⟩
  exact (hr.set5 hb.c0.1 hx _ _ _ _ _).set5 (hb.set a0 a1 a2 a3 a4).c2.1 (fun t e => by cases e) _ _ _ _ _
end Go.Proofs.YtegjeijiekggdaaGreatDoor
namespace Go.Proofs.YtegjeijiekggdaaGreatDoor
open Go.RowKit
set_option linter.unusedVariables false
theorem Dk.call_len (s : Dk) (upd : Dk → Dk) (h : ∀ t : Dk, (upd t).rows.length = t.rows.length) : (s.call upd).rows.length = s.rows.length := by
  unfold Dk.call
  split
  · show (if s.done = true then upd { s with calls := s.calls + 1 } else { s with calls := s.calls + 1 }).rows.length = _
    split
    · rw [h]
    · rfl
  · rw [h]
theorem Dk.call_calls' (s : Dk) (upd : Dk → Dk) (h : ∀ t : Dk, (upd t).calls = t.calls) : (s.call upd).calls ≤ s.calls + 1 := by
  unfold Dk.call
  repeat (first | split | simp [h])
theorem Dk.sync_calls (s : Dk) : s.sync.calls ≤ s.calls + 1 := by
  unfold Dk.sync
  split
  · omega
  · exact Dk.call_calls' _ _ fun t => rfl
theorem Dk.sync_len (s : Dk) : s.sync.rows.length = s.rows.length := by
  unfold Dk.sync
  split
  · rfl
  · exact Dk.call_len _ _ fun t => by show ((List.range t.rows.length).map t.at_).length = _; simp
theorem Dk.brk_calls (s : Dk) (n : Int) (d : Bool) : (s.brk n d).calls ≤ s.calls + 1 := by
  unfold Dk.brk
  split
  · omega
  · show s.calls ≤ _; omega
theorem Dk.brk_len (s : Dk) (n : Int) (d : Bool) : (s.brk n d).rows.length = s.rows.length := by
  unfold Dk.brk
  split <;> rfl
theorem Rk.brk_S (r : Rk) (n : Int) (d : Bool) : (r.brk n d).S = r.S := by
  unfold Rk.brk
  split <;> rfl
theorem Dk.power_calls (s : Dk) (f : List UInt8) : (s.power f).calls ≤ s.calls + 1 := by show s.calls ≤ _; omega
theorem Dk.power_len (s : Dk) (f : List UInt8) : (s.power f).rows.length = s.rows.length := powerGo_length _ _ _
theorem Dk.write_calls' (s : Dk) (n : Int) (l : List UInt8) : (s.write n l).calls ≤ s.calls + 1 := by
  unfold Dk.write
  split
  · omega
  · exact Dk.call_calls' _ _ fun t => rfl
theorem Dk.write_len (s : Dk) (n : Int) (l : List UInt8) : (s.write n l).rows.length = s.rows.length := by
  unfold Dk.write
  split
  · rfl
  · exact Dk.call_len _ _ fun t => rfl
set_option maxHeartbeats 1000000 in
set_option maxRecDepth 100000 in
theorem do_sync {base : Nat} {F : Ft} {w : World} {s : Dk} (h : DkAt base F w s) (A : Option Addr) (c : Nat) (r : Rk) (hr : RS w A r.S) (ht : Twin s r) (hcalls : s.calls < 4611686018427387900) (a : Ac) (hrb : RB w a.fA a.fates) (hroom : a.fates.length ≤ a.fc) (hmost : a.fc ≤ maxLen) (hlo : -9223372036854775808 ≤ a.n) (hhi : a.n ≤ 9223372036854775807) (hne : a.fates ≠ [] → ∀ ad, a.fA = some ad → ¬ F.has ad.block) (hk : a.kind.toNat % 8 = 5) :
    Calls Tryz.prog 44 #[.pointer (some ⟨F.b, 0, none⟩), rkV A c r, acV a] w (DoPost base F w s) := by
  have X0 := Lib.hid (Bx.mk3 w #[.slice A r.S.length c, .bool r.off, .int .i64 r.calls, .int .i64 r.after, .bool r.done] #[.int .u8 (a.kind.toNat : Int), .int .i64 a.n, .int .u8 (a.c.toNat : Int), .int .u8 (a.cut.toNat : Int), .bool a.done, .slice a.fA a.fates.length a.fc])
  have B0 := Lib.hid ((((Below.refl _ w).alloc (Nat.le_refl _) (.cells #[.slice A r.S.length c, .bool r.off, .int .i64 r.calls, .int .i64 r.after, .bool r.done] 39)).alloc (by rw [heap_size_alloc]; omega) (.cells #[.int .u8 (a.kind.toNat : Int), .int .i64 a.n, .int .u8 (a.c.toNat : Int), .int .u8 (a.cut.toNat : Int), .bool a.done, .slice a.fA a.fates.length a.fc] 31)).alloc (by rw [heap_size_alloc, heap_size_alloc]; omega) (.cells #[.slice none 0 0, .bool false, .int .i64 0, .int .i64 0, .bool false] 39))
  have IN := Lib.hid h.inside
  have D0 := Lib.hid h
  have R0 := Lib.hid hr
  have TW := Lib.hid ht
  have OK := Lib.hid h.ok
  have RBF := Lib.hid hrb
  have HNE := Lib.hid hne
  have zk0 : 0 ≤ (a.kind.toNat : Int) := by omega
  have zk1 : (a.kind.toNat : Int) < 256 := by have := a.kind.toNat_lt; omega
  have LL := Lib.hid ht.len
  have h4096 : Hid (r.S.length ≤ 4096) := Lib.hid (by rw [ht.len]; exact h.ok.many)
  have hca : Hid (0 ≤ r.calls ∧ r.calls ≤ 4611686018427387904) := Lib.hid (by rw [ht.calls]; omega)
  unfold rkV acV
  have t5 : ((a.kind.toNat : Int) % 8 == 5) = true := by simp; omega
  have EE := Lib.hid ht.sync.2
  clear h hr ht hrb hne
  go_enter Tryz.func44, Tryz.ntmps44
  go_wp2_with fail
  have XX := X0.out
  obtain ⟨i0, i1, i2, i3, i4, i5⟩ := XX.c1
  clear XX
  generalize ((w.alloc (.cells #[.slice A r.S.length c, .bool r.off, .int .i64 r.calls, .int .i64 r.after, .bool r.done] 39)).alloc (.cells #[.int .u8 (a.kind.toNat : Int), .int .i64 a.n, .int .u8 (a.c.toNat : Int), .int .u8 (a.cut.toNat : Int), .bool a.done, .slice a.fA a.fates.length a.fc] 31)).alloc (.cells #[.slice none 0 0, .bool false, .int .i64 0, .int .i64 0, .bool false] 39) = V0 at *
  have K1 := sync_any (D0.out.below B0.out) (by omega)
  refine K1.mono ?_
  clear K1
  rintro e1 w1 ⟨rfl, h1, f1⟩
  have X1 := Lib.hid (X0.out.frm f1 IN.out)
  have F1 := Lib.hid ((Frm.of_below B0.out).trans f1)
  have R1 := Lib.hid ((R0.out.below B0.out).frm f1 ((D0.out.below B0.out).rs_out (R0.out.below B0.out) LL.out))
  have D1 := Lib.hid h1
  clear h1 f1 i0 i1 i2 i3 i4 i5
  obtain ⟨j0, j1, j2, j3, j4⟩ := X1.out.c0
  obtain ⟨i0, i1, i2, i3, i4, i5⟩ := X1.out.c1
  go_wp2_with fail
  have K2 := refSync_any A c r w1 h4096.out R1.out hca.out.1 hca.out.2 TW.out.lo (TW.out.hi OK.out)
  unfold rkV at K2
  rw [EE.out] at K2
  refine K2.mono ?_
  clear K2
  rintro e2 w2 ⟨v, rfl, hv, b2⟩
  obtain ⟨A2, c2, rfl, rs2⟩ := hv
  have X2 := Lib.hid (X1.out.below b2)
  have F2 := Lib.hid (F1.out.trans (Frm.of_below b2))
  have FIN := Lib.hid (fun p0 p1 p2 p3 p4 q0 q1 q2 q3 q4 ha => do_last (c2 := c2) (D1.out.below b2) rs2 TW.out.sync.1 (Dk.sync_calls s) (Dk.sync_len s) F2.out IN.out X2.out (fun t e => by cases e) p0 p1 p2 p3 p4 q0 q1 q2 q3 q4 ha)
  clear rs2 b2 j0 j1 j2 j3 j4 i0 i1 i2 i3 i4 i5
  obtain ⟨j0, j1, j2, j3, j4⟩ := X2.out.c0
  obtain ⟨o0, o1, o2, o3, o4⟩ := X2.out.c2
  have g0 := X2.out.f0 0; have g1 := X2.out.f0 1; have g2 := X2.out.f0 2; have g3 := X2.out.f0 3; have g4 := X2.out.f0 4
  have e0 := X2.out.f2 0; have e1 := X2.out.f2 1; have e2 := X2.out.f2 2; have e3 := X2.out.f2 3; have e4 := X2.out.f2 4
  have nb5 : w.heap.size ≠ w.heap.size + 2 := by omega
  unfold rkV at *
  generalize r.sync = R at *
  obtain ⟨S2, off2, calls2, after2, done2⟩ := R
  simp only at FIN ⊢
  go_wp2
  refine bodyPost_ret (v := .tuple #[.agg #[.slice A2 S2.length c2, .bool off2, .int .i64 calls2, .int .i64 after2, .bool done2], .int .i64 0]) (by simp [results, Tryz.results44, go_sem, o0, o1, o2, o3, o4]) rfl ?_
  exact FIN.out _ _ _ _ _ _ _ _ _ _ (fun t e => by cases e)
set_option maxHeartbeats 1000000 in
set_option maxRecDepth 100000 in
theorem do_break {base : Nat} {F : Ft} {w : World} {s : Dk} (h : DkAt base F w s) (A : Option Addr) (c : Nat) (r : Rk) (hr : RS w A r.S) (ht : Twin s r) (hcalls : s.calls < 4611686018427387900) (a : Ac) (hrb : RB w a.fA a.fates) (hroom : a.fates.length ≤ a.fc) (hmost : a.fc ≤ maxLen) (hlo : -9223372036854775808 ≤ a.n) (hhi : a.n ≤ 9223372036854775807) (hne : a.fates ≠ [] → ∀ ad, a.fA = some ad → ¬ F.has ad.block) (hk : a.kind.toNat % 8 = 6) :
    Calls Tryz.prog 44 #[.pointer (some ⟨F.b, 0, none⟩), rkV A c r, acV a] w (DoPost base F w s) := by
  have X0 := Lib.hid (Bx.mk3 w #[.slice A r.S.length c, .bool r.off, .int .i64 r.calls, .int .i64 r.after, .bool r.done] #[.int .u8 (a.kind.toNat : Int), .int .i64 a.n, .int .u8 (a.c.toNat : Int), .int .u8 (a.cut.toNat : Int), .bool a.done, .slice a.fA a.fates.length a.fc])
  have B0 := Lib.hid ((((Below.refl _ w).alloc (Nat.le_refl _) (.cells #[.slice A r.S.length c, .bool r.off, .int .i64 r.calls, .int .i64 r.after, .bool r.done] 39)).alloc (by rw [heap_size_alloc]; omega) (.cells #[.int .u8 (a.kind.toNat : Int), .int .i64 a.n, .int .u8 (a.c.toNat : Int), .int .u8 (a.cut.toNat : Int), .bool a.done, .slice a.fA a.fates.length a.fc] 31)).alloc (by rw [heap_size_alloc, heap_size_alloc]; omega) (.cells #[.slice none 0 0, .bool false, .int .i64 0, .int .i64 0, .bool false] 39))
  have IN := Lib.hid h.inside
  have D0 := Lib.hid h
  have R0 := Lib.hid hr
  have TW := Lib.hid ht
  have OK := Lib.hid h.ok
  have RBF := Lib.hid hrb
  have HNE := Lib.hid hne
  have zk0 : 0 ≤ (a.kind.toNat : Int) := by omega
  have zk1 : (a.kind.toNat : Int) < 256 := by have := a.kind.toNat_lt; omega
  have LL := Lib.hid ht.len
  have h4096 : Hid (r.S.length ≤ 4096) := Lib.hid (by rw [ht.len]; exact h.ok.many)
  have hca : Hid (0 ≤ r.calls ∧ r.calls ≤ 4611686018427387904) := Lib.hid (by rw [ht.calls]; omega)
  unfold rkV acV
  have t5 : ((a.kind.toNat : Int) % 8 == 5) = false := by simp; omega
  have t6 : ((a.kind.toNat : Int) % 8 == 6) = true := by simp; omega
  have EE := Lib.hid (ht.brk a.n a.done).2
  clear h hr ht hrb hne
  go_enter Tryz.func44, Tryz.ntmps44
  go_wp2_with fail
  have XX := X0.out
  obtain ⟨i0, i1, i2, i3, i4, i5⟩ := XX.c1
  clear XX
  generalize ((w.alloc (.cells #[.slice A r.S.length c, .bool r.off, .int .i64 r.calls, .int .i64 r.after, .bool r.done] 39)).alloc (.cells #[.int .u8 (a.kind.toNat : Int), .int .i64 a.n, .int .u8 (a.c.toNat : Int), .int .u8 (a.cut.toNat : Int), .bool a.done, .slice a.fA a.fates.length a.fc] 31)).alloc (.cells #[.slice none 0 0, .bool false, .int .i64 0, .int .i64 0, .bool false] 39) = V0 at *
  have K1 := break_any (D0.out.below B0.out) a.n a.done hhi
  refine K1.mono ?_
  clear K1
  rintro e1 w1 ⟨rfl, h1, f1⟩
  have X1 := Lib.hid (X0.out.frm f1 IN.out)
  have F1 := Lib.hid ((Frm.of_below B0.out).trans f1)
  have R1 := Lib.hid ((R0.out.below B0.out).frm f1 ((D0.out.below B0.out).rs_out (R0.out.below B0.out) LL.out))
  have D1 := Lib.hid h1
  clear h1 f1 i0 i1 i2 i3 i4 i5
  obtain ⟨j0, j1, j2, j3, j4⟩ := X1.out.c0
  obtain ⟨i0, i1, i2, i3, i4, i5⟩ := X1.out.c1
  go_wp2_with fail
  have K2 := refBreak_any A c r a.n a.done w1
  unfold rkV at K2
  rw [EE.out] at K2
  refine K2.mono ?_
  clear K2
  rintro e2 w2 ⟨rfl, b2⟩
  have hv : ∃ A2 c2, Value.agg #[.slice A (r.brk a.n a.done).S.length c, .bool (r.brk a.n a.done).off, .int .i64 (r.brk a.n a.done).calls, .int .i64 (r.brk a.n a.done).after, .bool (r.brk a.n a.done).done] = rkV A2 c2 (r.brk a.n a.done) ∧ RS w2 A2 (r.brk a.n a.done).S := ⟨A, c, rfl, by rw [Rk.brk_S]; exact R1.out.below b2⟩
  obtain ⟨A2, c2, ev, rs2⟩ := hv
  rw [ev]
  clear ev
  have X2 := Lib.hid (X1.out.below b2)
  have F2 := Lib.hid (F1.out.trans (Frm.of_below b2))
  have FIN := Lib.hid (fun p0 p1 p2 p3 p4 q0 q1 q2 q3 q4 ha => do_last (c2 := c2) (D1.out.below b2) rs2 (TW.out.brk a.n a.done).1 (Dk.brk_calls s a.n a.done) (Dk.brk_len s a.n a.done) F2.out IN.out X2.out (fun t e => by cases e) p0 p1 p2 p3 p4 q0 q1 q2 q3 q4 ha)
  clear rs2 b2 j0 j1 j2 j3 j4 i0 i1 i2 i3 i4 i5
  obtain ⟨j0, j1, j2, j3, j4⟩ := X2.out.c0
  obtain ⟨o0, o1, o2, o3, o4⟩ := X2.out.c2
  have g0 := X2.out.f0 0; have g1 := X2.out.f0 1; have g2 := X2.out.f0 2; have g3 := X2.out.f0 3; have g4 := X2.out.f0 4
  have e0 := X2.out.f2 0; have e1 := X2.out.f2 1; have e2 := X2.out.f2 2; have e3 := X2.out.f2 3; have e4 := X2.out.f2 4
  have nb5 : w.heap.size ≠ w.heap.size + 2 := by omega
  unfold rkV at *
  generalize r.brk a.n a.done = R at *
  obtain ⟨S2, off2, calls2, after2, done2⟩ := R
  simp only at FIN ⊢
  go_wp2
  refine bodyPost_ret (v := .tuple #[.agg #[.slice A2 S2.length c2, .bool off2, .int .i64 calls2, .int .i64 after2, .bool done2], .int .i64 0]) (by simp [results, Tryz.results44, go_sem, o0, o1, o2, o3, o4]) rfl ?_
  exact FIN.out _ _ _ _ _ _ _ _ _ _ (fun t e => by cases e)
set_option maxHeartbeats 1000000 in
set_option maxRecDepth 100000 in
theorem do_power {base : Nat} {F : Ft} {w : World} {s : Dk} (h : DkAt base F w s) (A : Option Addr) (c : Nat) (r : Rk) (hr : RS w A r.S) (ht : Twin s r) (hcalls : s.calls < 4611686018427387900) (a : Ac) (hrb : RB w a.fA a.fates) (hroom : a.fates.length ≤ a.fc) (hmost : a.fc ≤ maxLen) (hlo : -9223372036854775808 ≤ a.n) (hhi : a.n ≤ 9223372036854775807) (hne : a.fates ≠ [] → ∀ ad, a.fA = some ad → ¬ F.has ad.block) (hk : a.kind.toNat % 8 = 7) :
    Calls Tryz.prog 44 #[.pointer (some ⟨F.b, 0, none⟩), rkV A c r, acV a] w (DoPost base F w s) := by
  have X0 := Lib.hid (Bx.mk3 w #[.slice A r.S.length c, .bool r.off, .int .i64 r.calls, .int .i64 r.after, .bool r.done] #[.int .u8 (a.kind.toNat : Int), .int .i64 a.n, .int .u8 (a.c.toNat : Int), .int .u8 (a.cut.toNat : Int), .bool a.done, .slice a.fA a.fates.length a.fc])
  have B0 := Lib.hid ((((Below.refl _ w).alloc (Nat.le_refl _) (.cells #[.slice A r.S.length c, .bool r.off, .int .i64 r.calls, .int .i64 r.after, .bool r.done] 39)).alloc (by rw [heap_size_alloc]; omega) (.cells #[.int .u8 (a.kind.toNat : Int), .int .i64 a.n, .int .u8 (a.c.toNat : Int), .int .u8 (a.cut.toNat : Int), .bool a.done, .slice a.fA a.fates.length a.fc] 31)).alloc (by rw [heap_size_alloc, heap_size_alloc]; omega) (.cells #[.slice none 0 0, .bool false, .int .i64 0, .int .i64 0, .bool false] 39))
  have IN := Lib.hid h.inside
  have D0 := Lib.hid h
  have R0 := Lib.hid hr
  have TW := Lib.hid ht
  have OK := Lib.hid h.ok
  have RBF := Lib.hid hrb
  have HNE := Lib.hid hne
  have zk0 : 0 ≤ (a.kind.toNat : Int) := by omega
  have zk1 : (a.kind.toNat : Int) < 256 := by have := a.kind.toNat_lt; omega
  have LL := Lib.hid ht.len
  have h4096 : Hid (r.S.length ≤ 4096) := Lib.hid (by rw [ht.len]; exact h.ok.many)
  have hca : Hid (0 ≤ r.calls ∧ r.calls ≤ 4611686018427387904) := Lib.hid (by rw [ht.calls]; omega)
  unfold rkV acV
  have t5 : ((a.kind.toNat : Int) % 8 == 5) = false := by simp; omega
  have t6 : ((a.kind.toNat : Int) % 8 == 6) = false := by simp; omega
  have t7 : ((a.kind.toNat : Int) % 8 == 7) = true := by simp; omega
  clear h hr ht hrb hne
  go_enter Tryz.func44, Tryz.ntmps44
  go_wp2_with fail
  have XX := X0.out
  obtain ⟨i0, i1, i2, i3, i4, i5⟩ := XX.c1
  clear XX
  generalize ((w.alloc (.cells #[.slice A r.S.length c, .bool r.off, .int .i64 r.calls, .int .i64 r.after, .bool r.done] 39)).alloc (.cells #[.int .u8 (a.kind.toNat : Int), .int .i64 a.n, .int .u8 (a.c.toNat : Int), .int .u8 (a.cut.toNat : Int), .bool a.done, .slice a.fA a.fates.length a.fc] 31)).alloc (.cells #[.slice none 0 0, .bool false, .int .i64 0, .int .i64 0, .bool false] 39) = V0 at *
  have K1 := power_any (D0.out.below B0.out) a.fA a.fates.length a.fc a.fates rfl hroom (Nat.le_trans hroom hmost) (RBF.out.below B0.out) HNE.out
  refine K1.mono ?_
  clear K1
  rintro e1 w1 ⟨rfl, h1, f1⟩
  have RB1 := Lib.hid (show RB w1 a.fA a.fates from by
    by_cases hf : a.fates = []
    · exact .inl hf
    · have r0 := RBF.out.below B0.out
      rcases hA : a.fA with _ | ad
      · rw [hA] at r0
        rcases r0 with e | ⟨ad, e, _⟩
        · exact absurd e hf
        · cases e
      · rw [hA] at r0
        exact f1.rb r0 (HNE.out hf ad hA))
  have X1 := Lib.hid (X0.out.frm f1 IN.out)
  have F1 := Lib.hid ((Frm.of_below B0.out).trans f1)
  have R1 := Lib.hid ((R0.out.below B0.out).frm f1 ((D0.out.below B0.out).rs_out (R0.out.below B0.out) LL.out))
  have D1 := Lib.hid h1
  clear h1 f1 i0 i1 i2 i3 i4 i5
  obtain ⟨j0, j1, j2, j3, j4⟩ := X1.out.c0
  obtain ⟨i0, i1, i2, i3, i4, i5⟩ := X1.out.c1
  go_wp2_with fail
  have K2 := refPower_any A c r a.fA a.fates.length a.fc a.fates w1 h4096.out R1.out (TW.out.rows OK.out) rfl hroom (Nat.le_trans hroom hmost) RB1.out
  unfold rkV at K2
  refine K2.mono ?_
  clear K2
  rintro e2 w2 ⟨v, rfl, hv, b2⟩
  obtain ⟨A2, c2, rfl, rs2⟩ := hv
  have X2 := Lib.hid (X1.out.below b2)
  have F2 := Lib.hid (F1.out.trans (Frm.of_below b2))
  have FIN := Lib.hid (fun p0 p1 p2 p3 p4 q0 q1 q2 q3 q4 ha => do_last (c2 := c2) (D1.out.below b2) rs2 (TW.out.power a.fates) (Dk.power_calls s a.fates) (Dk.power_len s a.fates) F2.out IN.out X2.out (fun t e => by cases e) p0 p1 p2 p3 p4 q0 q1 q2 q3 q4 ha)
  clear rs2 b2 j0 j1 j2 j3 j4 i0 i1 i2 i3 i4 i5
  obtain ⟨j0, j1, j2, j3, j4⟩ := X2.out.c0
  obtain ⟨o0, o1, o2, o3, o4⟩ := X2.out.c2
  have g0 := X2.out.f0 0; have g1 := X2.out.f0 1; have g2 := X2.out.f0 2; have g3 := X2.out.f0 3; have g4 := X2.out.f0 4
  have e0 := X2.out.f2 0; have e1 := X2.out.f2 1; have e2 := X2.out.f2 2; have e3 := X2.out.f2 3; have e4 := X2.out.f2 4
  have nb5 : w.heap.size ≠ w.heap.size + 2 := by omega
  unfold rkV at *
  generalize r.power a.fates = R at *
  obtain ⟨S2, off2, calls2, after2, done2⟩ := R
  simp only at FIN ⊢
  go_wp2
  refine bodyPost_ret (v := .tuple #[.agg #[.slice A2 S2.length c2, .bool off2, .int .i64 calls2, .int .i64 after2, .bool done2], .int .i64 0]) (by simp [results, Tryz.results44, go_sem, o0, o1, o2, o3, o4]) rfl ?_
  exact FIN.out _ _ _ _ _ _ _ _ _ _ (fun t e => by cases e)
end Go.Proofs.YtegjeijiekggdaaGreatDoor
end
