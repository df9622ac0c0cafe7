/- Joined: StP StA StB. -/
import Derived.Test.YtegjeijiekggdaaGreatDoorM12
import Derived.Test.YtegjeijiekggdaaGreatDoorM15
import Derived.Test.YtegjeijiekggdaaGreatDoorM25
import Derived.Test.YtegjeijiekggdaaGreatDoorM02
import Derived.BigQuiet
section
/- Plain facts on a store: the bytes of a map's words, what a slot has, what a store is; nothing of the program is proved here. -/
namespace Go.Proofs.YtegjeijiekggdaaGreatDoor
open Go.RowKit
set_option linter.unusedVariables false

/-- The eight bytes of each word. -/
def words8 (L : List UInt64) : List UInt8 := L.flatMap fun x => st x.toNat
theorem words8_nil : words8 [] = [] := rfl
theorem words8_app (L M : List UInt64) : words8 (L ++ M) = words8 L ++ words8 M := by simp [words8, List.flatMap_append]
theorem words8_one (x : UInt64) : words8 [x] = st x.toNat := by simp [words8]
theorem words8_len (L : List UInt64) : (words8 L).length = 8 * L.length := by
  induction L with
  | nil => rfl
  | cons x L ih =>
    show (st x.toNat ++ words8 L).length = _
    rw [List.length_append, st_len, ih, List.length_cons]
    omega
/-- The first k words of bytes. -/
def unwords (b : List UInt8) : Nat → List UInt64
  | 0 => []
  | k + 1 => unwords b k ++ [UInt64.ofNat (be ((b.drop (8 * k)).take 8))]
theorem unwords_len (b : List UInt8) : ∀ k, (unwords b k).length = k
  | 0 => rfl
  | k + 1 => by
    show (unwords b k ++ [_]).length = _
    rw [List.length_append, unwords_len b k]
    rfl
theorem words8_unwords (b : List UInt8) : ∀ k, 8 * k ≤ b.length → words8 (unwords b k) = b.take (8 * k)
  | 0, _ => by simp [unwords, words8]
  | k + 1, h => by
    have ih := words8_unwords b k (by omega)
    have hl : ((b.drop (8 * k)).take 8).length = 8 := by rw [List.length_take, List.length_drop]; omega
    have hb := be_le8 ((b.drop (8 * k)).take 8) (by omega)
    show words8 (unwords b k ++ [_]) = _
    rw [words8_app, words8_one, ih]
    have e : (UInt64.ofNat (be ((b.drop (8 * k)).take 8))).toNat = be ((b.drop (8 * k)).take 8) := by
      rw [UInt64.toNat_ofNat']
      exact Nat.mod_eq_of_lt hb
    rw [e, st_be _ hl, show 8 * (k + 1) = 8 * k + 8 by omega, List.take_add]
theorem unwords_words8 (L : List UInt64) (t : List UInt8) : ∀ k, k ≤ L.length → unwords (words8 L ++ t) k = L.take k
  | 0, _ => by simp [unwords]
  | k + 1, h => by
    have ih := unwords_words8 L t k (by omega)
    have hx : L[k]? = some (L[k]'(by omega)) := List.getElem?_eq_getElem _
    have e : L = L.take k ++ [L[k]'(by omega)] ++ L.drop (k + 1) := by
      rw [← take_snocQ hx, List.take_append_drop]
    have hl : (words8 (L.take k)).length = 8 * k := by rw [words8_len, List.length_take]; omega
    have e2 : (words8 L ++ t).drop (8 * k) = st (L[k]'(by omega)).toNat ++ (words8 (L.drop (k + 1)) ++ t) := by
      conv => lhs; rw [e]
      rw [words8_app, words8_app, words8_one, List.append_assoc, List.append_assoc, List.drop_left' hl]
    show unwords (words8 L ++ t) k ++ [_] = _
    rw [ih, e2, List.take_left' (st_len _), be_st _ (UInt64.toNat_lt _), take_snocQ hx]
    simp

/-- A slot's body. -/
def layP (log size : Nat) (used : List UInt64) (body : List UInt8) : List UInt8 := putSmall log ++ putSmall size ++ words8 used ++ body
theorem putSmall_short {n : Nat} (h : n ≤ 65535) : (putSmall n).length ≤ 3 := by
  rw [putSmall_size]
  have := wid_le 2 n (by have : (256 : Nat) ^ 2 = 65536 := by decide
                         omega)
  omega
theorem layP_len {log size : Nat} {used : List UInt64} {body : List UInt8} (h1 : log ≤ 256) (h2 : size ≤ 512) (h3 : used.length ≤ 8) (h4 : body.length ≤ 700) : (layP log size used body).length ≤ 954 := by
  have := putSmall_short (n := log) (by omega)
  have := putSmall_short (n := size) (by omega)
  unfold layP
  rw [List.length_append, List.length_append, List.length_append, words8_len]
  omega
/-- What a store has. -/
structure Sto where
  log : Nat
  size : Nat
  place : Nat
  gen : Nat
  cts : List UInt64
  body : List UInt8
  used : List UInt64
  bad : Bool
/-- How many blocks a disk of N sectors has room for behind a log. -/
def cntP (N log : Nat) : Nat := min ((N - (8 + log)) / 4) 512
def areaP (N log : Nat) : Bool := decide (log ≤ 256 ∧ 8 + log + 16 ≤ N)
theorem cntP_ge {N log : Nat} (h : areaP N log = true) : 4 ≤ cntP N log ∧ cntP N log ≤ 512 ∧ 8 + log + 4 * cntP N log ≤ N ∧ log ≤ 256 := by
  unfold areaP at h
  have h := of_decide_eq_true h
  unfold cntP
  omega
structure Sto.Ok (t : Sto) (N : Nat) : Prop where
  area : areaP N t.log = true
  size : t.size = cntP N t.log
  place : t.place ≤ 1
  gen1 : 1 ≤ t.gen
  gen2 : t.gen ≤ 1099511627776
  cts : okB (t.size : Int) t.cts = true
  used : okB (t.size : Int) t.used = true
  body : t.body.length ≤ 700
theorem words_few {s : Nat} {L : List UInt64} (h : okB (s : Int) L = true) (hs : s ≤ 512) : L.length ≤ 8 := by
  have := okB_len h
  omega
/-- What a slot's sectors have of a store. -/
def takeB (N place gen : Nat) (b : List UInt8) : Option Sto :=
  if areaP N (rdV b 0) = true ∧ rdV (rdL b 0) (rdF b 0) = cntP N (rdV b 0) ∧
    8 * ((rdV (rdL b 0) (rdF b 0) + 63) / 64) ≤ (rdL (rdL b 0) (rdF b 0)).length ∧ okB (rdV (rdL b 0) (rdF b 0) : Int) (unwords (rdL (rdL b 0) (rdF b 0)) ((rdV (rdL b 0) (rdF b 0) + 63) / 64)) = true ∧
    (rdL (rdL b 0) (rdF b 0)).length - 8 * ((rdV (rdL b 0) (rdF b 0) + 63) / 64) ≤ 700
  then some ⟨rdV b 0, rdV (rdL b 0) (rdF b 0), place, gen, unwords (rdL (rdL b 0) (rdF b 0)) ((rdV (rdL b 0) (rdF b 0) + 63) / 64), (rdL (rdL b 0) (rdF b 0)).drop (8 * ((rdV (rdL b 0) (rdF b 0) + 63) / 64)), unwords (rdL (rdL b 0) (rdF b 0)) ((rdV (rdL b 0) (rdF b 0) + 63) / 64), false⟩
  else none
def takeP (N place : Nat) (L : List (List UInt8)) : Option Sto := if slGetE L = 0 then takeB N place (getG L) (getB L) else none
theorem takeB_lay {N place gen log : Nat} {used : List UInt64} {body : List UInt8} (ha : areaP N log = true) (hu : okB (cntP N log : Int) used = true) (hb : body.length ≤ 700) :
    takeB N place gen (layP log (cntP N log) used body) = some ⟨log, cntP N log, place, gen, used, body, used, false⟩ := by
  obtain ⟨h1, h2, h3, h4⟩ := cntP_ge ha
  have hl := okB_len hu
  generalize hs : cntP N log = s at *
  have e : layP log s used body = putSmall log ++ (putSmall s ++ (words8 used ++ body)) := by simp [layP]
  obtain ⟨a1, a2, a3⟩ := rd_put (n := log) (by omega) (putSmall s ++ (words8 used ++ body))
  obtain ⟨b1, b2, b3⟩ := rd_put (n := s) (by omega) (words8 used ++ body)
  have hk : (words8 used).length = 8 * ((s + 63) / 64) := by rw [words8_len, hl]
  have hun : unwords (words8 used ++ body) ((s + 63) / 64) = used := by
    rw [unwords_words8 used body _ (by omega), List.take_of_length_le (by omega)]
  have hlen : (words8 used ++ body).length = 8 * ((s + 63) / 64) + body.length := by rw [List.length_append, hk]
  unfold takeB
  rw [e, a1, a2, a3, b1, b2, hun, hlen, hs, if_pos ⟨ha, rfl, by omega, hu, by omega⟩, List.drop_left' hk]
theorem takeB_inv {N place gen : Nat} {b : List UInt8} {t : Sto} (h : takeB N place gen b = some t) : areaP N t.log = true ∧ t.size = cntP N t.log ∧ t.place = place ∧ t.gen = gen ∧ okB (t.size : Int) t.cts = true ∧ t.used = t.cts ∧ t.body.length ≤ 700 ∧ t.bad = false ∧ b = layP t.log t.size t.cts t.body := by
  unfold takeB at h
  split at h
  · rename_i hc
    obtain ⟨h1, h2, h3, h4, h5⟩ := hc
    obtain ⟨q1, q2, q3, q4⟩ := cntP_ge h1
    cases h
    refine ⟨h1, h2, rfl, rfl, h4, rfl, by show (List.drop _ _).length ≤ 700; rw [List.length_drop]; exact h5, rfl, ?_⟩
    have hf1 : rdF b 0 = 0 := by
      rcases Nat.eq_zero_or_pos (rdF b 0) with e | e
      · exact e
      · have : rdV (rdL b 0) (rdF b 0) = 0 := by unfold rdV; rw [if_neg (fun hh => by omega)]
        omega
    have i1 := rd_inv hf1
    have hf2 : rdF (rdL b 0) (rdF b 0) = 0 := by
      rw [hf1] at h2 ⊢
      rcases Nat.eq_zero_or_pos (rdF (rdL b 0) 0) with e | e
      · exact e
      · exfalso
        have : rdV (rdL b 0) 0 = 0 := by
          unfold rdF at e
          rw [if_pos rfl] at e
          unfold rdV
          split
          · rename_i hh
            rw [if_pos hh.2.1, if_pos hh.2.2] at e
            omega
          · rfl
        omega
    have i2 := rd_inv hf2
    show b = layP (rdV b 0) (rdV (rdL b 0) (rdF b 0)) _ _
    unfold layP
    rw [words8_unwords _ _ h3, List.append_assoc, List.append_assoc, List.take_append_drop, ← i2.2.1]
    exact i1.2.1
  · cases h
theorem takeP_put {N place gen log : Nat} {used : List UInt64} {body : List UInt8} (h1 : 1 ≤ gen) (h2 : gen ≤ 1099511627776) (ha : areaP N log = true) (hu : okB (cntP N log : Int) used = true) (hb : body.length ≤ 700) :
    takeP N place (putL gen (layP log (cntP N log) used body)) = some ⟨log, cntP N log, place, gen, used, body, used, false⟩ := by
  obtain ⟨q1, q2, q3, q4⟩ := cntP_ge ha
  obtain ⟨g1, g2, g3⟩ := get_putL (g := gen) (b := layP log (cntP N log) used body) (layP_len q4 q2 (words_few hu q2) hb) h1 (by unfold maxNum; omega)
  unfold takeP
  rw [if_pos g1, g2, g3]
  exact takeB_lay ha hu hb
theorem slGet_inv {L : List (List UInt8)} (h : slGetE L = 0) : 1 ≤ getG L ∧ getG L ≤ 1099511627776 ∧ L = putL (getG L) (getB L) ∧ (getB L).length ≤ 954 := by
  have h0 := h
  unfold slGetE at h
  have hg : getG L = sharedP L := by unfold getG; rw [if_pos h0]
  have hb : getB L = bodyP (allP L) := by unfold getB; rw [if_pos h0]
  split at h
  · cases h
  · split at h
    · cases h
    · split at h
      · rename_i h1 h2 h3
        refine ⟨by omega, by rw [hg]; exact shared_le L, by rw [hg, hb, h3], ?_⟩
        rw [hb]
        unfold bodyP
        rw [List.length_take]
        omega
      · cases h
theorem takeP_inv {N place : Nat} {L : List (List UInt8)} {t : Sto} (hp : place ≤ 1) (h : takeP N place L = some t) : t.Ok N ∧ t.place = place ∧ t.used = t.cts ∧ t.bad = false ∧ slGetE L = 0 ∧ t.gen = getG L ∧ getB L = layP t.log t.size t.cts t.body ∧ L = putL t.gen (layP t.log t.size t.cts t.body) := by
  unfold takeP at h
  split at h
  · rename_i h0
    obtain ⟨a1, a2, a3, a4, a5, a6, a7, a8, a9⟩ := takeB_inv h
    obtain ⟨b1, b2, b3, b4⟩ := slGet_inv h0
    exact ⟨⟨a1, a2, by omega, by omega, by omega, a5, by rw [a6]; exact a5, a7⟩, a3, a6, a8, h0, a4, a9, by rw [a4, ← a9]; exact b3⟩
  · cases h

/-- A slot's sectors, as a disk reads them. -/
def Dk.secs (d : Dk) (k : Nat) : List (List UInt8) := (List.range 4).map fun i => d.reads ((4 * k + i : Nat) : Int)
theorem Dk.secs_len (d : Dk) (k : Nat) : (d.secs k).length = 4 := by simp [Dk.secs]
theorem Dk.secs_at (d : Dk) (k : Nat) {i : Nat} (h : i < 4) : (d.secs k)[i]? = some (d.reads ((4 * k + i : Nat) : Int)) := by simp [Dk.secs, h]
def Dk.seen2 (d : Dk) : Nat := max (seenP (d.secs 0)) (seenP (d.secs 1))
/-- The first k sectors of a slot are written, up to the first error. -/
def Dk.sw (s : Dk) (x : Nat) (L : List (List UInt8)) : Nat → Dk × Nat
  | 0 => (s, 0)
  | k + 1 => if (s.sw x L k).2 = 0 then ((s.sw x L k).1.write ((x + k : Nat) : Int) (L.getD k []), (s.sw x L k).1.writeErr ((x + k : Nat) : Int) (L.getD k [])) else s.sw x L k
theorem Dk.sw_stop {s : Dk} {x : Nat} {L : List (List UInt8)} {k : Nat} (h : (s.sw x L k).2 ≠ 0) : ∀ j, k ≤ j → s.sw x L j = s.sw x L k := by
  intro j hj
  induction j with
  | zero => obtain rfl : k = 0 := by omega
            rfl
  | succ j ih =>
    by_cases e : k = j + 1
    · subst e; rfl
    · have ih := ih (by omega)
      show (if (s.sw x L j).2 = 0 then _ else s.sw x L j) = _
      rw [ih, if_neg h]
theorem Dk.sw_calls (s : Dk) (x : Nat) (L : List (List UInt8)) : ∀ k, (s.sw x L k).1.calls ≤ s.calls + k
  | 0 => Nat.le_refl _
  | k + 1 => by
    have ih := Dk.sw_calls s x L k
    unfold Dk.sw
    split
    · have := Dk.write_calls (s.sw x L k).1 ((x + k : Nat) : Int) (L.getD k [])
      show ((s.sw x L k).1.write _ _).calls ≤ _
      omega
    · omega
/-- A slot is written, and the disk synced. -/
def Dk.putSlot (d : Dk) (place gen : Nat) (b : List UInt8) : Dk × Nat :=
  if (d.sw (4 * place) (putL gen b) 4).2 = 0 then ((d.sw (4 * place) (putL gen b) 4).1.sync, (d.sw (4 * place) (putL gen b) 4).1.syncErr) else d.sw (4 * place) (putL gen b) 4

def Sto.lay (t : Sto) : List UInt8 := layP t.log t.size t.cts t.body
/-- Commit. -/
def commitP (d : Dk) (t : Sto) (body : List UInt8) : Dk × Sto × Nat :=
  if t.bad = true then (d, t, 11)
  else if 700 < body.length then (d, t, 5)
  else if 1099511627776 < max t.gen d.seen2 + 1 then (d, t, 9)
  else if d.syncErr ≠ 0 then (d.sync, { t with bad := true }, d.syncErr)
  else if (d.sync.putSlot (1 - t.place) (max t.gen d.seen2 + 1) (layP t.log t.size t.used body)).2 ≠ 0 then
    ((d.sync.putSlot (1 - t.place) (max t.gen d.seen2 + 1) (layP t.log t.size t.used body)).1, { t with bad := true }, (d.sync.putSlot (1 - t.place) (max t.gen d.seen2 + 1) (layP t.log t.size t.used body)).2)
  else ((d.sync.putSlot (1 - t.place) (max t.gen d.seen2 + 1) (layP t.log t.size t.used body)).1, { t with gen := max t.gen d.seen2 + 1, place := 1 - t.place, cts := t.used, body := body }, 0)
/-- A new store. -/
def Sto.new (N log gen : Nat) : Sto := ⟨log, cntP N log, 0, gen, newL (cntP N log : Nat), [], newL (cntP N log : Nat), false⟩
def formatP (d : Dk) (log : Int) : Dk × Option Sto × Nat :=
  if d.off = true then (d, none, 8)
  else if log < 0 ∨ areaP d.rows.length log.toNat = false then (d, none, 2)
  else if 1099511627776 < d.seen2 + 1 then (d, none, 9)
  else if (d.putSlot 0 (d.seen2 + 1) (Sto.new d.rows.length log.toNat (d.seen2 + 1)).lay).2 ≠ 0 then ((d.putSlot 0 (d.seen2 + 1) (Sto.new d.rows.length log.toNat (d.seen2 + 1)).lay).1, none, (d.putSlot 0 (d.seen2 + 1) (Sto.new d.rows.length log.toNat (d.seen2 + 1)).lay).2)
  else ((d.putSlot 0 (d.seen2 + 1) (Sto.new d.rows.length log.toNat (d.seen2 + 1)).lay).1, some (Sto.new d.rows.length log.toNat (d.seen2 + 1)), 0)
def bestP (a b : Option Sto) : Option Sto :=
  match a, b with
  | none, b => b
  | some a, none => some a
  | some a, some b => if a.gen < b.gen then some b else some a
def openP (d : Dk) : Option Sto × Nat :=
  if d.off = true then (none, 8)
  else match bestP (takeP d.rows.length 0 (d.secs 0)) (takeP d.rows.length 1 (d.secs 1)) with
    | none => (none, 4)
    | some t => (some t, 0)
def allocP (t : Sto) : Sto × Nat × Nat :=
  if t.bad = true then (t, 0, 11)
  else if nextB (t.size : Int) (mixL false (t.size : Int) (t.size : Int) t.used t.cts) 0 false = true then
    ({ t with used := setL (t.size : Int) t.used (nextN (t.size : Int) (mixL false (t.size : Int) (t.size : Int) t.used t.cts) 0 false : Int) true }, nextN (t.size : Int) (mixL false (t.size : Int) (t.size : Int) t.used t.cts) 0 false, 0)
  else (t, 0, 7)
def faultP (t : Sto) (n : Int) : Nat := if t.bad = true then 11 else if hasB (t.size : Int) t.used n = true then 0 else 6
def freeP (t : Sto) (n : Int) : Sto × Nat := if faultP t n ≠ 0 then (t, faultP t n) else ({ t with used := setL (t.size : Int) t.used n false }, 0)
def Sto.area (t : Sto) : Ar := ⟨8 + (t.log : Int), (t.size : Int)⟩
def Sto.noted (t : Sto) (e : Nat) : Sto := { t with bad := t.bad || decide (e = 8) }
def writeP (d : Dk) (t : Sto) (n : Int) (l : List UInt8) : Dk × Sto × Nat :=
  if faultP t n ≠ 0 then (d, t, faultP t n) else if hasB (t.size : Int) t.cts n = true then (d, t, 11)
  else ((d.bwrite t.area n l).1, t.noted (d.bwrite t.area n l).2, (d.bwrite t.area n l).2)
def readP (d : Dk) (t : Sto) (n : Int) : Sto × List UInt8 × Nat :=
  if faultP t n ≠ 0 then (t, [], faultP t n) else (t.noted (d.bread t.area n).2, (d.bread t.area n).1, (d.bread t.area n).2)
def forgetP (t : Sto) : Sto × Nat := if t.bad = true then (t, 11) else ({ t with used := t.cts }, 0)
def roomP (t : Sto) : Nat := t.size - rankB (t.size : Int) (mixL false (t.size : Int) (t.size : Int) t.used t.cts) (t.size : Int)
end Go.Proofs.YtegjeijiekggdaaGreatDoor
end
section
/- The package store: what a store in memory is; looks that make nothing. -/
namespace Go.Proofs.YtegjeijiekggdaaGreatDoor
open Go.RowKit
set_option linter.unusedVariables false
set_option linter.unusedSimpArgs false
theorem RQ.frmOut {W W' : World} {P : Nat → Prop} {A : Option Addr} {l : List UInt64} (h : RQ W A l) (hf : Frm P W W') (hne : ∀ ad, A = some ad → ¬ P ad.block) : RQ W' A l := by
  rcases h with rfl | ⟨ad, rfl, hc⟩
  · exact .inl rfl
  · refine .inr ⟨ad, rfl, fun j x hx => ?_⟩
    have h1 := hc j x hx
    rw [hf.cell (lt_of_cell h1) (by rw [block_of_add]; exact hne ad rfl)]
    exact h1
theorem RB.frmOut' {W W' : World} {P : Nat → Prop} {A : Option Addr} {l : List UInt8} (h : RB W A l) (hf : Frm P W W') (hne : ∀ ad, A = some ad → ¬ P ad.block) : RB W' A l := by
  rcases h with rfl | ⟨ad, rfl, hc⟩
  · exact .inl rfl
  · exact hf.rb (.inr ⟨ad, rfl, hc⟩) (hne ad rfl)
theorem RQ.frmNe {W W' : World} {P : Nat → Prop} {A : Option Addr} {l : List UInt64} (h : RQ W A l) (hf : Frm P W W') (hne : ∀ ad, A = some ad → l ≠ [] → ¬ P ad.block) : RQ W' A l := by
  by_cases hl : l = []
  · exact .inl hl
  · exact h.frmOut hf fun ad e => hne ad e hl
theorem RB.frmNe {W W' : World} {P : Nat → Prop} {A : Option Addr} {l : List UInt8} (h : RB W A l) (hf : Frm P W W') (hne : ∀ ad, A = some ad → l ≠ [] → ¬ P ad.block) : RB W' A l := by
  by_cases hl : l = []
  · exact .inl hl
  · exact h.frmOut' hf fun ad e => hne ad e hl
/-- Where a store lies: its block; the addresses and rooms of the counting map's words, of the body, of the map's words. -/
structure Sf where
  G : Nat
  Ac : Option Addr
  cc : Nat
  Ab : Option Addr
  cb : Nat
  Au : Option Addr
  cu : Nat
def stCells (F : Ft) (P : Sf) (t : Sto) : Array Value :=
  #[.pointer (some ⟨F.b, 0, none⟩), .int .i64 (t.log : Int), .int .i64 (8 + (t.log : Int)), .int .i64 (t.size : Int), .int .i64 (t.place : Int), .int .i64 (t.gen : Int), .int .i64 (t.size : Int), .slice P.Ac t.cts.length P.cc, .slice P.Ab t.body.length P.cb, .int .i64 (t.size : Int), .slice P.Au t.used.length P.cu, .bool t.bad]
/-- What a store's call may write. -/
def Wr (F : Ft) (G k : Nat) : Prop := F.has k ∨ k = G
structure StAt (base : Nat) (F : Ft) (w : World) (P : Sf) (t : Sto) : Prop where
  gb : base ≤ P.G
  gf : ¬ F.has P.G
  cells : w.heap[P.G]? = some (.cells (stCells F P t) 109 (0, 0))
  rc : RQ w P.Ac t.cts
  rb : RB w P.Ab t.body
  ru : RQ w P.Au t.used
  kc : t.cts.length ≤ P.cc
  kb : t.body.length ≤ P.cb
  ku : t.used.length ≤ P.cu
  nc : ∀ ad, P.Ac = some ad → t.cts ≠ [] → ¬ Wr F P.G ad.block
  nb : ∀ ad, P.Ab = some ad → t.body ≠ [] → ¬ Wr F P.G ad.block
  nu : ∀ ad, P.Au = some ad → t.used ≠ [] → ¬ Wr F P.G ad.block
theorem StAt.lt {base : Nat} {F : Ft} {w : World} {P : Sf} {t : Sto} (h : StAt base F w P t) : P.G < w.heap.size := (Array.getElem?_eq_some_iff.1 h.cells).1
theorem StAt.frm {base : Nat} {F : Ft} {w w' : World} {P : Sf} {t : Sto} {X : Nat → Prop} (h : StAt base F w P t) (hf : Frm X w w') (hg : ¬ X P.G) (hx : ∀ k, X k → k < w.heap.size → F.has k) : StAt base F w' P t := by
  have hl := h.lt
  have kq : ∀ {A : Option Addr} {l : List UInt64}, RQ w A l → (∀ ad, A = some ad → l ≠ [] → ¬ Wr F P.G ad.block) → RQ w' A l := fun {A l} hr hn => by
    rcases hr with rfl | ⟨ad, rfl, hc⟩
    · exact .inl rfl
    · refine .inr ⟨ad, rfl, fun j x hj => ?_⟩
      have h1 := hc j x hj
      rw [hf.cell (lt_of_cell h1) (fun hxx => hn ad rfl (fun e => by subst e; simp at hj) (.inl (by have := hx _ hxx (lt_of_cell h1); rw [block_of_add] at this; exact this)))]
      exact h1
  have kb : ∀ {A : Option Addr} {l : List UInt8}, RB w A l → (∀ ad, A = some ad → l ≠ [] → ¬ Wr F P.G ad.block) → RB w' A l := fun {A l} hr hn => by
    rcases hr with rfl | ⟨ad, rfl, hc⟩
    · exact .inl rfl
    · refine .inr ⟨ad, rfl, fun j x hj => ?_⟩
      have h1 := hc j x hj
      rw [hf.cell (lt_of_cell h1) (fun hxx => hn ad rfl (fun e => by subst e; simp at hj) (.inl (by have := hx _ hxx (lt_of_cell h1); rw [block_of_add] at this; exact this)))]
      exact h1
  exact ⟨h.gb, h.gf, (hf.block _ hl hg).trans h.cells, kq h.rc h.nc, kb h.rb h.nb, kq h.ru h.nu, h.kc, h.kb, h.ku, h.nc, h.nb, h.nu⟩
theorem StAt.disk {base : Nat} {F : Ft} {w w' : World} {P : Sf} {t : Sto} (h : StAt base F w P t) (hf : Frm F.has w w') : StAt base F w' P t := h.frm hf h.gf fun k hk _ => hk
theorem StAt.below {base : Nat} {F : Ft} {w w' : World} {P : Sf} {t : Sto} (h : StAt base F w P t) (hb : Below w.heap.size w w') : StAt base F w' P t := h.frm (X := fun _ => False) (Frm.of_below hb) id fun _ hk _ => hk.elim
theorem StAt.alloc {base : Nat} {F : Ft} {w : World} {P : Sf} {t : Sto} (h : StAt base F w P t) (o : Obj) : StAt base F (w.alloc o) P t := h.below ((Below.refl _ w).alloc (Nat.le_refl _) o)
theorem StAt.drew {base : Nat} {F : Ft} {w : World} {P : Sf} {t : Sto} (h : StAt base F w P t) : StAt base F w.drew P t := h.below (Below.refl _ w).drew
theorem StAt.cellAt {base : Nat} {F : Ft} {w : World} {P : Sf} {t : Sto} (h : StAt base F w P t) (i : Nat) : w.cell? ⟨P.G, i, none⟩ = (stCells F P t)[i]? := by
  simp [World.cell?, h.cells]
theorem StAt.fz {base : Nat} {F : Ft} {w : World} {P : Sf} {t : Sto} (h : StAt base F w P t) (i : Nat) : w.frozen? ⟨P.G, i, none⟩ = false := by
  simp [World.frozen?, h.cells]
theorem StAt.d0 {base : Nat} {F : Ft} {w : World} {P : Sf} {t : Sto} (h : StAt base F w P t) : w.cell? ⟨P.G, 0, none⟩ = some (.pointer (some ⟨F.b, 0, none⟩)) := (h.cellAt 0).trans rfl
theorem StAt.d1 {base : Nat} {F : Ft} {w : World} {P : Sf} {t : Sto} (h : StAt base F w P t) : w.cell? ⟨P.G, 1, none⟩ = some (.int .i64 (t.log : Int)) := (h.cellAt 1).trans rfl
theorem StAt.d2 {base : Nat} {F : Ft} {w : World} {P : Sf} {t : Sto} (h : StAt base F w P t) : w.cell? ⟨P.G, 2, none⟩ = some (.int .i64 (8 + (t.log : Int))) := (h.cellAt 2).trans rfl
theorem StAt.d3 {base : Nat} {F : Ft} {w : World} {P : Sf} {t : Sto} (h : StAt base F w P t) : w.cell? ⟨P.G, 3, none⟩ = some (.int .i64 (t.size : Int)) := (h.cellAt 3).trans rfl
theorem StAt.d4 {base : Nat} {F : Ft} {w : World} {P : Sf} {t : Sto} (h : StAt base F w P t) : w.cell? ⟨P.G, 4, none⟩ = some (.int .i64 (t.place : Int)) := (h.cellAt 4).trans rfl
theorem StAt.d5 {base : Nat} {F : Ft} {w : World} {P : Sf} {t : Sto} (h : StAt base F w P t) : w.cell? ⟨P.G, 5, none⟩ = some (.int .i64 (t.gen : Int)) := (h.cellAt 5).trans rfl
theorem StAt.d6 {base : Nat} {F : Ft} {w : World} {P : Sf} {t : Sto} (h : StAt base F w P t) : w.cell? ⟨P.G, 6, none⟩ = some (.int .i64 (t.size : Int)) := (h.cellAt 6).trans rfl
theorem StAt.d7 {base : Nat} {F : Ft} {w : World} {P : Sf} {t : Sto} (h : StAt base F w P t) : w.cell? ⟨P.G, 7, none⟩ = some (.slice P.Ac t.cts.length P.cc) := (h.cellAt 7).trans rfl
theorem StAt.d8 {base : Nat} {F : Ft} {w : World} {P : Sf} {t : Sto} (h : StAt base F w P t) : w.cell? ⟨P.G, 8, none⟩ = some (.slice P.Ab t.body.length P.cb) := (h.cellAt 8).trans rfl
theorem StAt.d9 {base : Nat} {F : Ft} {w : World} {P : Sf} {t : Sto} (h : StAt base F w P t) : w.cell? ⟨P.G, 9, none⟩ = some (.int .i64 (t.size : Int)) := (h.cellAt 9).trans rfl
theorem StAt.d10 {base : Nat} {F : Ft} {w : World} {P : Sf} {t : Sto} (h : StAt base F w P t) : w.cell? ⟨P.G, 10, none⟩ = some (.slice P.Au t.used.length P.cu) := (h.cellAt 10).trans rfl
theorem StAt.d11 {base : Nat} {F : Ft} {w : World} {P : Sf} {t : Sto} (h : StAt base F w P t) : w.cell? ⟨P.G, 11, none⟩ = some (.bool t.bad) := (h.cellAt 11).trans rfl
/-- The cells of a store are written. -/
theorem StAt.put {base : Nat} {F : Ft} {w w' : World} {P P' : Sf} {t t' : Sto} (h : StAt base F w P t) (hG : P'.G = P.G) (hf : Frm (fun k => k = P.G) w w') (hc : w'.heap[P.G]? = some (.cells (stCells F P' t') 109 (0, 0)))
    (rc : RQ w P'.Ac t'.cts) (rb : RB w P'.Ab t'.body) (ru : RQ w P'.Au t'.used) (kc : t'.cts.length ≤ P'.cc) (kb : t'.body.length ≤ P'.cb) (ku : t'.used.length ≤ P'.cu)
    (nc : ∀ ad, P'.Ac = some ad → t'.cts ≠ [] → ¬ Wr F P.G ad.block) (nb : ∀ ad, P'.Ab = some ad → t'.body ≠ [] → ¬ Wr F P.G ad.block) (nu : ∀ ad, P'.Au = some ad → t'.used ≠ [] → ¬ Wr F P.G ad.block) : StAt base F w' P' t' :=
  ⟨by rw [hG]; exact h.gb, by rw [hG]; exact h.gf, by rw [hG]; exact hc, rc.frmNe hf fun ad e hl hk => nc ad e hl (.inr hk), rb.frmNe hf fun ad e hl hk => nb ad e hl (.inr hk), ru.frmNe hf fun ad e hl hk => nu ad e hl (.inr hk), kc, kb, ku, by rw [hG]; exact nc, by rw [hG]; exact nb, by rw [hG]; exact nu⟩
theorem StAt.setBad {base : Nat} {F : Ft} {w : World} {P : Sf} {t : Sto} (h : StAt base F w P t) : StAt base F (w.setCell ⟨P.G, 11, none⟩ (.bool true)) P { t with bad := true } := by
  refine h.put rfl (Frm.setCell w _ _ rfl) ?_ h.rc h.rb h.ru h.kc h.kb h.ku h.nc h.nb h.nu
  rw [heap_setCell_block _ h.cells]
  rfl
/-- A map and a body that were made. -/
theorem made_out {F : Ft} {w : World} {G : Nat} (hF : ∀ k, F.has k → k < w.heap.size) (hG : G < w.heap.size) {A : Option Addr} (h : ∀ ad, A = some ad → w.heap.size ≤ ad.block) : ∀ ad, A = some ad → ¬ Wr F G ad.block := by
  intro ad e hk
  have h1 := h ad e
  rcases hk with hk | hk
  · have := hF _ hk; omega
  · omega
theorem OQ.at_base {base : Nat} {w : World} {A : Option Addr} {n c : Nat} {l : List UInt64} (h : OQ base w (.slice A n c) l) : (∀ ad, A = some ad → base ≤ ad.block) ∧ l.length ≤ c := by
  unfold OQ at h
  rcases h.2 with ⟨e, h0⟩ | ⟨g, cap, cur, e, hb, hh, hc, _⟩
  · injection e with e1 e2 e3
    subst e1
    exact ⟨fun ad e => (by cases e), by omega⟩
  · injection e with e1 e2 e3
    subst e1 e3
    exact ⟨fun ad e => by injection e with e; subst e; exact hb, hc⟩
theorem OB.at_base {base : Nat} {w : World} {A : Option Addr} {n c : Nat} {l : List UInt8} (h : OB base w (.slice A n c) l) : (∀ ad, A = some ad → base ≤ ad.block) ∧ l.length ≤ c := by
  unfold OB at h
  rcases h.2 with ⟨e, h0⟩ | ⟨g, cap, cur, e, hb, hh, hc, _⟩
  · injection e with e1 e2 e3
    subst e1
    exact ⟨fun ad e => (by cases e), by omega⟩
  · injection e with e1 e2 e3
    subst e1 e3
    exact ⟨fun ad e => by injection e with e; subst e; exact hb, hc⟩
theorem StAt.setUsed {base : Nat} {F : Ft} {w : World} {P : Sf} {t : Sto} (h : StAt base F w P t) {A : Option Addr} {c : Nat} {L : List UInt64} (hr : RQ w A L) (hk : L.length ≤ c) (hn : ∀ ad, A = some ad → L ≠ [] → ¬ Wr F P.G ad.block) :
    StAt base F ((w.setCell ⟨P.G, 9, none⟩ (.int .i64 (t.size : Int))).setCell ⟨P.G, 10, none⟩ (.slice A L.length c)) { P with Au := A, cu := c } { t with used := L } ∧ Frm (fun k => k = P.G) w ((w.setCell ⟨P.G, 9, none⟩ (.int .i64 (t.size : Int))).setCell ⟨P.G, 10, none⟩ (.slice A L.length c)) := by
  have hf : Frm (fun k => k = P.G) w ((w.setCell ⟨P.G, 9, none⟩ (.int .i64 (t.size : Int))).setCell ⟨P.G, 10, none⟩ (.slice A L.length c)) := (Frm.setCell (X := fun k => k = P.G) w _ _ rfl).trans (Frm.setCell (X := fun k => k = P.G) _ _ _ rfl)
  refine ⟨h.put rfl hf ?_ h.rc h.rb hr h.kc h.kb hk h.nc h.nb hn, hf⟩
  rw [heap_setCell_block _ (heap_setCell_block _ h.cells)]
  rfl
theorem Frm.wr {F : Ft} {G : Nat} {w w' : World} (h : Frm F.has w w') : Frm (Wr F G) w w' := h.mono fun _ hk => .inl hk
theorem Frm.wrG {F : Ft} {G : Nat} {w w' : World} (h : Frm (fun k => k = G) w w') : Frm (Wr F G) w w' := h.mono fun _ hk => .inr hk
theorem DkAt.gset {base : Nat} {F : Ft} {w w' : World} {s : Dk} {G : Nat} (h : DkAt base F w s) (hf : Frm (fun k => k = G) w w') (hg : ¬ F.has G) : DkAt base F w' s := h.frm hf fun k hk e => hg (by rw [← e]; exact hk)
set_option maxHeartbeats 1000000 in
theorem none_any {base : Nat} {F : Ft} {w : World} {P : Sf} {t : Sto} (h : StAt base F w P t) : Calls Tryz.prog 52 #[.pointer (some ⟨P.G, 0, none⟩)] w fun e w' => e = .returned (.bool false) ∧ w = w' := by
  have x0 := h.d0
  clear h
  go_enter Tryz.func52, Tryz.ntmps52
  go_wp2
  go_ret
  exact ⟨rfl, rfl⟩
theorem none_nil (w : World) : Calls Tryz.prog 52 #[.pointer none] w fun e w' => e = .returned (.bool true) ∧ w = w' := by
  go_enter Tryz.func52, Tryz.ntmps52
  go_wp2
  go_ret
  exact ⟨rfl, rfl⟩
theorem stFault_any {base : Nat} {F : Ft} {w : World} {P : Sf} {t : Sto} (h : StAt base F w P t) : Calls Tryz.prog 60 #[.pointer (some ⟨P.G, 0, none⟩)] w fun e w' => e = .returned (.int .i64 (if t.bad = true then 11 else 0)) ∧ w = w' := by
  have K := Lib.hid (none_any h)
  have x0 := h.d11
  clear h
  cases hb : t.bad <;> rw [hb] at x0 <;>
  · go_enter Tryz.func60, Tryz.ntmps60
    go_wp2_with (go_at_call 52; refine K.out.mono ?_; rintro e w1 ⟨rfl, rfl⟩)
    go_ret
    exact ⟨rfl, rfl⟩
theorem stFault_nil (w : World) : Calls Tryz.prog 60 #[.pointer none] w fun e w' => e = .returned (.int .i64 1) ∧ w = w' := by
  go_enter Tryz.func60, Tryz.ntmps60
  go_wp2_with (go_at_call 52; refine (none_nil _).mono ?_; rintro e w1 ⟨rfl, rfl⟩)
  go_ret
  exact ⟨rfl, rfl⟩
set_option maxHeartbeats 1000000 in
theorem stFaultAt_any {base : Nat} {F : Ft} {w : World} {P : Sf} {t : Sto} (h : StAt base F w P t) (n : Int) : Calls Tryz.prog 64 #[.pointer (some ⟨P.G, 0, none⟩), .int .i64 n] w fun e w' => e = .returned (.int .i64 (faultP t n : Int)) ∧ Below w.heap.size w w' := by
  have K := Lib.hid (stFault_any h)
  have x9 := h.d9
  have x10 := h.d10
  have KH := Lib.hid (qHas_any (t.size : Int) P.Au P.cu t.used n w h.ru)
  generalize t.used.length = m at *
  unfold faultP
  cases hb : t.bad <;> rw [hb] at K
  · cases hh : hasB (t.size : Int) t.used n <;> rw [hh] at KH <;>
    · go_enter Tryz.func64, Tryz.ntmps64
      go_wp2_with (first | (go_at_call 60; refine K.out.mono ?_; rintro e w1 ⟨rfl, rfl⟩) | (go_at_call 34; refine KH.out.mono ?_; rintro e w2 ⟨rfl, b2⟩) | fail)
      go_ret
      exact ⟨rfl, b2⟩
  · go_enter Tryz.func64, Tryz.ntmps64
    go_wp2_with (go_at_call 60; refine K.out.mono ?_; rintro e w1 ⟨rfl, rfl⟩)
    go_ret
    exact ⟨rfl, Below.refl _ _⟩
theorem stFaultAt_nil (n : Int) (w : World) : Calls Tryz.prog 64 #[.pointer none, .int .i64 n] w fun e w' => e = .returned (.int .i64 1) ∧ w = w' := by
  go_enter Tryz.func64, Tryz.ntmps64
  go_wp2_with (go_at_call 60; refine (stFault_nil _).mono ?_; rintro e w1 ⟨rfl, rfl⟩)
  go_ret
  exact ⟨rfl, rfl⟩
set_option maxHeartbeats 1000000 in
theorem note_any {base : Nat} {F : Ft} {w : World} {P : Sf} {t : Sto} (h : StAt base F w P t) (er : Nat) : Calls Tryz.prog 66 #[.pointer (some ⟨P.G, 0, none⟩), .int .i64 (er : Int)] w fun e w' => e = .returned (.tuple #[]) ∧ StAt base F w' P (t.noted er) ∧ Frm (fun k => k = P.G) w w' := by
  have H := Lib.hid h
  have f0 := h.fz 11
  have x0 := h.d11
  unfold Sto.noted
  by_cases he : er = 8
  · subst he
    rw [decide_eq_true rfl, Bool.or_true]
    clear h
    go_enter Tryz.func66, Tryz.ntmps66
    go_wp2
    go_end0
    exact ⟨rfl, H.out.setBad, Frm.setCell w _ _ rfl⟩
  · have hd : ((er : Int) == 8) = false := by simp; omega
    rw [decide_eq_false he, Bool.or_false]
    clear h he
    go_enter Tryz.func66, Tryz.ntmps66
    go_wp2
    go_end0
    exact ⟨rfl, H.out, Frm.refl _ _⟩
theorem bad_any {base : Nat} {F : Ft} {w : World} {P : Sf} {t : Sto} (h : StAt base F w P t) : Calls Tryz.prog 27 #[.pointer (some ⟨P.G, 0, none⟩)] w fun e w' => e = .returned (.bool t.bad) ∧ w = w' := by
  have K := Lib.hid (none_any h)
  have x0 := h.d11
  clear h
  go_enter Tryz.func27, Tryz.ntmps27
  go_wp2_with (go_at_call 52; refine K.out.mono ?_; rintro e w1 ⟨rfl, rfl⟩)
  go_ret
  exact ⟨rfl, rfl⟩
theorem bad_nil (w : World) : Calls Tryz.prog 27 #[.pointer none] w fun e w' => e = .returned (.bool false) ∧ w = w' := by
  go_enter Tryz.func27, Tryz.ntmps27
  go_wp2_with (go_at_call 52; refine (none_nil _).mono ?_; rintro e w1 ⟨rfl, rfl⟩)
  go_ret
  exact ⟨rfl, rfl⟩
theorem stGen_any {base : Nat} {F : Ft} {w : World} {P : Sf} {t : Sto} (h : StAt base F w P t) : Calls Tryz.prog 26 #[.pointer (some ⟨P.G, 0, none⟩)] w fun e w' => e = .returned (.int .i64 (t.gen : Int)) ∧ w = w' := by
  have K := Lib.hid (none_any h)
  have x0 := h.d5
  clear h
  go_enter Tryz.func26, Tryz.ntmps26
  go_wp2_with (go_at_call 52; refine K.out.mono ?_; rintro e w1 ⟨rfl, rfl⟩)
  go_ret
  exact ⟨rfl, rfl⟩
theorem stGen_nil (w : World) : Calls Tryz.prog 26 #[.pointer none] w fun e w' => e = .returned (.int .i64 0) ∧ w = w' := by
  go_enter Tryz.func26, Tryz.ntmps26
  go_wp2_with (go_at_call 52; refine (none_nil _).mono ?_; rintro e w1 ⟨rfl, rfl⟩)
  go_ret
  exact ⟨rfl, rfl⟩
theorem stLog_any {base : Nat} {F : Ft} {w : World} {P : Sf} {t : Sto} (h : StAt base F w P t) : Calls Tryz.prog 18 #[.pointer (some ⟨P.G, 0, none⟩)] w fun e w' => e = .returned (.tuple #[.int .i64 8, .int .i64 (t.log : Int)]) ∧ Below w.heap.size w w' := by
  have K := Lib.hid (none_any h)
  have H := Lib.hid h
  have x0 := h.d1
  clear h
  go_enter Tryz.func18, Tryz.ntmps18
  go_wp2_with (go_at_call 52; refine K.out.mono ?_; rintro e w1 ⟨rfl, rfl⟩; have x1 : w.drew.cell? ⟨P.G, 1, none⟩ = some (.int .i64 (t.log : Int)) := x0)
  go_quiet (fail)
  go_wp2
  go_ret2
  exact ⟨rfl, bdrewN (Below.refl _ _) _⟩
theorem stLog_nil (w : World) : Calls Tryz.prog 18 #[.pointer none] w fun e w' => e = .returned (.tuple #[.int .i64 0, .int .i64 0]) ∧ w = w' := by
  go_enter Tryz.func18, Tryz.ntmps18
  go_wp2_with (go_at_call 52; refine (none_nil _).mono ?_; rintro e w1 ⟨rfl, rfl⟩)
  go_ret2
  exact ⟨rfl, rfl⟩
end Go.Proofs.YtegjeijiekggdaaGreatDoor
end
section
/- The package store: what can be done with a disk; which blocks are taken, how many are not; Body, Used, Forget, Free, Alloc. -/
namespace Go.Proofs.YtegjeijiekggdaaGreatDoor
open Go.RowKit
set_option linter.unusedVariables false
set_option linter.unusedSimpArgs false
theorem faultOf_any {base : Nat} {F : Ft} {w : World} {d : Dk} (h : DkAt base F w d) : Calls Tryz.prog 53 #[.pointer (some ⟨F.b, 0, none⟩)] w fun e w' => e = .returned (.int .i64 (if d.off = true then 8 else 0)) ∧ w = w' := by
  have K := Lib.hid (off_any h)
  clear h
  cases hb : d.off <;> rw [hb] at K <;>
  · go_enter Tryz.func53, Tryz.ntmps53
    go_wp2_with (go_at_call 32; refine K.out.mono ?_; rintro e w1 ⟨rfl, rfl⟩)
    go_ret
    exact ⟨rfl, rfl⟩
theorem faultOf_nil (w : World) : Calls Tryz.prog 53 #[.pointer none] w fun e w' => e = .returned (.int .i64 1) ∧ w = w' := by
  go_enter Tryz.func53, Tryz.ntmps53
  go_wp2
  go_ret
  exact ⟨rfl, rfl⟩
theorem frozen_of' {w : World} {b : Nat} {cs : Array Value} {t : TypeId} (h : w.heap[b]? = some (.cells cs t (0, 0))) (i : Nat) : w.frozen? ⟨b, i, none⟩ = false := by simp [World.frozen?, h]
theorem tdiv4 (n : Nat) : (n : Int).tdiv 4 = ((n / 4 : Nat) : Int) := by rw [Int.tdiv_eq_ediv_of_nonneg (by omega)]; omega
theorem tdiv4_neg {x : Int} (h : x < 16) : x.tdiv 4 < 4 := by
  rcases Int.lt_or_le x 0 with h0 | h0
  · have : x.tdiv 4 ≤ 0 := by
      rw [show x = -(-x) by omega, Int.neg_tdiv]
      have := Int.tdiv_nonneg (a := -x) (b := 4) (by omega) (by omega)
      omega
    omega
  · rw [Int.tdiv_eq_ediv_of_nonneg h0]
    omega
theorem tdiv4_lo {x : Int} (h : -264 ≤ x) : -264 ≤ x.tdiv 4 := by
  rcases Int.lt_or_le x 0 with h0 | h0
  · rw [show x = -(-x) by omega, Int.neg_tdiv, Int.tdiv_eq_ediv_of_nonneg (by omega)]
    omega
  · rw [Int.tdiv_eq_ediv_of_nonneg h0]
    omega
set_option maxHeartbeats 1000000 in
set_option maxRecDepth 100000 in
theorem areaOf_yes {base : Nat} {F : Ft} {w : World} {d : Dk} (h : DkAt base F w d) (log : Nat) (ha : areaP d.rows.length log = true) : Calls Tryz.prog 56 #[.pointer (some ⟨F.b, 0, none⟩), .int .i64 (log : Int)] w fun e w' =>
    e = .returned (.tuple #[.agg #[.int .i64 (8 + (log : Int)), .int .i64 (cntP d.rows.length log : Int)], .bool true]) ∧ Below w.heap.size w w' := by
  have H := Lib.hid h
  have hm := h.ok.many
  have hb := of_decide_eq_true ha
  have hc := cntP_ge ha
  have hN : ((d.rows.length : Int) - (8 + (log : Int))).tdiv 4 = (((d.rows.length - (8 + log)) / 4 : Nat) : Int) := by
    rw [show (d.rows.length : Int) - (8 + (log : Int)) = ((d.rows.length - (8 + log) : Nat) : Int) by omega, tdiv4]
  have hM : min (((d.rows.length - (8 + log)) / 4 : Nat) : Int) 512 = ((cntP d.rows.length log : Nat) : Int) := by unfold cntP; omega
  have K := Lib.hid (fun W (hb : Below w.heap.size w W) => size_any (h.below hb))
  have hr5 : (d.rows.length - (8 + log)) / 4 ≤ 4096 := by omega
  generalize cntP d.rows.length log = q at *
  generalize (d.rows.length - (8 + log)) / 4 = r at *
  generalize d.rows.length = N at *
  have hX0 := heap_alloc_last w (.cells #[.int .i64 0, .int .i64 0] 105)
  have B0 := Lib.hid ((Below.refl _ w).alloc (Nat.le_refl _) (.cells #[.int .i64 0, .int .i64 0] 105))
  have u0 : (w.alloc (.cells #[.int .i64 0, .int .i64 0] 105)).cell? ⟨w.heap.size, 0, none⟩ = some (.int .i64 0) := (cell_of_row _ _ 0 _ _ _ hX0).trans rfl
  have u1 : (w.alloc (.cells #[.int .i64 0, .int .i64 0] 105)).cell? ⟨w.heap.size, 1, none⟩ = some (.int .i64 0) := (cell_of_row _ _ 1 _ _ _ hX0).trans rfl
  have f0 : (w.alloc (.cells #[.int .i64 0, .int .i64 0] 105)).frozen? ⟨w.heap.size, 0, none⟩ = false := frozen_of' hX0 _
  have f1 : (w.alloc (.cells #[.int .i64 0, .int .i64 0] 105)).frozen? ⟨w.heap.size, 1, none⟩ = false := frozen_of' hX0 _
  have hW : RowKit.wrap64 (r : Int) = (r : Int) := by unfold RowKit.wrap64; omega
  have hq4 : decide (4 ≤ (q : Int)) = true := decide_eq_true (by omega)
  have hl0 : decide ((log : Int) < 0) = false := decide_eq_false (by omega)
  have hl1 : decide ((256 : Int) < (log : Int)) = false := decide_eq_false (by omega)
  have hlog : log ≤ 256 := hb.1
  have hN4 : N ≤ 4096 := hm
  have hq5 : q ≤ 512 := hc.2.1
  clear h ha hX0 hm hb hc
  go_enter Tryz.func56, Tryz.ntmps56
  go_wp2_with fail
  generalize w.alloc (.cells #[.int .i64 0, .int .i64 0] 105) = W0 at *
  refine (K.out _ B0.out).mono ?_
  rintro e w1 ⟨rfl, rfl⟩
  go_wp2
  refine bodyPost_ret (v := .tuple #[.agg #[.int .i64 (8 + (log : Int)), .int .i64 (q : Int)], .bool true]) (by simp [results, Tryz.results56, go_sem, u0, u1]) rfl ⟨rfl, belowC B0.out (Nat.le_refl _) _ _⟩
set_option maxHeartbeats 1000000 in
set_option maxRecDepth 100000 in
theorem areaOf_no {base : Nat} {F : Ft} {w : World} {d : Dk} (h : DkAt base F w d) (log : Int) (ha : log < 0 ∨ areaP d.rows.length log.toNat = false) (hlo : -9223372036854775808 ≤ log) (hhi : log ≤ 9223372036854775807) : Calls Tryz.prog 56 #[.pointer (some ⟨F.b, 0, none⟩), .int .i64 log] w fun e w' =>
    ∃ x y : Int, e = .returned (.tuple #[.agg #[.int .i64 x, .int .i64 y], .bool false]) ∧ Below w.heap.size w w' := by
  have H := Lib.hid h
  have hm := h.ok.many
  have K := Lib.hid (fun W (hb : Below w.heap.size w W) => size_any (h.below hb))
  have hX0 := heap_alloc_last w (.cells #[.int .i64 0, .int .i64 0] 105)
  have B0 := Lib.hid ((Below.refl _ w).alloc (Nat.le_refl _) (.cells #[.int .i64 0, .int .i64 0] 105))
  have u0 : (w.alloc (.cells #[.int .i64 0, .int .i64 0] 105)).cell? ⟨w.heap.size, 0, none⟩ = some (.int .i64 0) := (cell_of_row _ _ 0 _ _ _ hX0).trans rfl
  have u1 : (w.alloc (.cells #[.int .i64 0, .int .i64 0] 105)).cell? ⟨w.heap.size, 1, none⟩ = some (.int .i64 0) := (cell_of_row _ _ 1 _ _ _ hX0).trans rfl
  have f0 : (w.alloc (.cells #[.int .i64 0, .int .i64 0] 105)).frozen? ⟨w.heap.size, 0, none⟩ = false := frozen_of' hX0 _
  have f1 : (w.alloc (.cells #[.int .i64 0, .int .i64 0] 105)).frozen? ⟨w.heap.size, 1, none⟩ = false := frozen_of' hX0 _
  by_cases h1 : log < 0
  · clear h ha hX0 hm
    go_enter Tryz.func56, Tryz.ntmps56
    go_wp2_with fail
    refine bodyPost_ret (v := .tuple #[.agg #[.int .i64 0, .int .i64 0], .bool false]) (by simp [results, Tryz.results56, go_sem, u0, u1]) rfl ⟨_, _, rfl, B0.out⟩
  · have hl0 : decide (log < 0) = false := decide_eq_false (by omega)
    by_cases h2 : 256 < log
    · have hl1 : decide ((256 : Int) < log) = true := decide_eq_true h2
      clear h ha hX0 hm h2 h1
      go_enter Tryz.func56, Tryz.ntmps56
      go_wp2_with fail
      refine bodyPost_ret (v := .tuple #[.agg #[.int .i64 0, .int .i64 0], .bool false]) (by simp [results, Tryz.results56, go_sem, u0, u1]) rfl ⟨_, _, rfl, B0.out⟩
    · obtain ⟨k, rfl⟩ := Int.eq_ofNat_of_zero_le (show 0 ≤ log by omega)
      have hk : k ≤ 256 := by omega
      have hN : (d.rows.length : Int) - (8 + (k : Int)) < 16 := by
        rcases ha with ha | ha
        · omega
        · have := of_decide_eq_false ha
          rw [Int.toNat_natCast] at this
          omega
      have hN2 : -264 ≤ (d.rows.length : Int) - (8 + (k : Int)) := by omega
      have hq := tdiv4_neg hN
      have hq2 : -264 ≤ ((d.rows.length : Int) - (8 + (k : Int))).tdiv 4 := by
        exact tdiv4_lo hN2
      have hl1 : decide ((256 : Int) < (k : Int)) = false := decide_eq_false (by omega)
      obtain ⟨r, hr⟩ : ∃ r, ((d.rows.length : Int) - (8 + (k : Int))).tdiv 4 = r := ⟨_, rfl⟩
      rw [hr] at hq hq2
      have hN4 : d.rows.length ≤ 4096 := hm
      generalize d.rows.length = N at *
      have hW : RowKit.wrap64 r = r := by unfold RowKit.wrap64; omega
      have hM : min r 512 = r := by omega
      have hq4 : decide (4 ≤ r) = false := decide_eq_false (by omega)
      clear h ha hX0 hm h2 h1 hN hN2 hq hq2 hlo hhi
      go_enter Tryz.func56, Tryz.ntmps56
      go_wp2_with fail
      generalize w.alloc (.cells #[.int .i64 0, .int .i64 0] 105) = W0 at *
      refine (K.out _ B0.out).mono ?_
      rintro e w1 ⟨rfl, rfl⟩
      go_wp2
      refine bodyPost_ret (v := .tuple #[.agg #[.int .i64 (8 + (k : Int)), .int .i64 r], .bool false]) (by simp [results, Tryz.results56, go_sem, u0, u1]) rfl ⟨_, _, rfl, belowC B0.out (Nat.le_refl _) _ _⟩
end Go.Proofs.YtegjeijiekggdaaGreatDoor
end
