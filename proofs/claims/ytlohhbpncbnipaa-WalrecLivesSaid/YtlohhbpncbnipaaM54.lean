/- Joined: WrL WrM. -/
import Derived.Test.YtlohhbpncbnipaaM53
import Derived.Test.YtlohhbpncbnipaaM40
import Derived.Maps.OwnSet
import Derived.Maps.RangeWalk
import Derived.Maps.Ext
import Derived.Lib.SlKeysI
import Derived.Carry
import Derived.Test.YtlohhbpncbnipaaM50
section
/- Which transactions are not over: in plain words, and the program's map. -/
namespace Go.Proofs.Ytlohhbpncbnipaa
open Go.RowKit Go.Maps
set_option linter.unusedVariables false
set_option linter.unusedSimpArgs false
def liveStep (S : Int → Bool) (r : Rec) : Int → Bool := fun t => if r.kind = 4 then S t else if t = r.txn then decide (r.kind ≠ 2 ∧ r.kind ≠ 3) else S t
def liveB (l : List Rec) : Int → Bool := l.foldl liveStep (fun _ => false)
theorem liveB_snoc (l : List Rec) (r : Rec) : liveB (l ++ [r]) = liveStep (liveB l) r := by simp [liveB]
theorem liveB_at {l : List Rec} {k : Nat} {r : Rec} (h : l[k]? = some r) : liveB (l.take (k + 1)) = liveStep (liveB (l.take k)) r := by
  rw [List.take_add_one, h]
  exact liveB_snoc _ _
/-- The numbers that are not over, rising. -/
def LiveOf (l : List Rec) (L : List Int) : Prop := L.Pairwise (· < ·) ∧ ∀ t, t ∈ L ↔ liveB l t = true
theorem LiveOf.one {l : List Rec} {L M : List Int} (h : LiveOf l L) (g : LiveOf l M) : L = M := by
  have hp : L.Perm M := (List.perm_ext_iff_of_nodup (h.1.imp fun {a b} hlt e => by omega) (g.1.imp fun {a b} hlt e => by omega)).2 fun t => (h.2 t).trans (g.2 t).symm
  exact List.Perm.eq_of_pairwise (le := fun a b => a < b) (fun a b _ _ h1 h2 => by omega) h.1 g.1 hp
/-- A row of ints. -/
def RI (w : World) (A : Option Addr) (L : List Int) : Prop := ∀ (j : Nat) (t : Int), L[j]? = some t → ∃ ad, A = some ad ∧ w.cell? (ad.add j) = some (.int .i64 t)
theorem RI.below {w w' : World} {A : Option Addr} {L : List Int} (h : RI w A L) (hb : Below w.heap.size w w') : RI w' A L := fun j t hj => by
  obtain ⟨ad, e, hc⟩ := h j t hj
  exact ⟨ad, e, (hb.cell (lt_of_cell hc)).trans hc⟩
theorem lvUnit : Try.prog.underlying 64 = some (.map 3 65) := by kernel_rfl
theorem sortsL (m : Nat) : AnyZI.SortsIn Try.prog Try.sortedA_ren Fence.wide m :=
  ⟨fun blk off cap ss W hH hblk hsz => callsIn_wide.2 (AnyM.slices_Sort_int Try.sortA blk off cap ss W hH hblk hsz),
   fun p cap W => callsIn_wide.2 (AnyM.slices_Sort_int_none Try.sortA p cap W)⟩
theorem keysL_any (mb : Option Nat) (w : World) : Calls Try.prog 37 #[.map mb] w fun e w' => e = .returned (.func (.func 50) #[] #[.pointer (some ⟨w.heap.size, 0, none⟩)]) ∧ w' = w.alloc (.cells #[.map mb] 64) :=
  (callsIn_wide (n := 5)).1 (AnyZI.keys_in Try.keysA Fence.wide 5 trivial rfl mb w)
set_option maxHeartbeats 1000000 in
theorem sortedL_any {b nn : Nat} {D0 : DataW Unit} {w : World} (hown : w.ownsMap Try.prog 3 unitElem b nn D0) (hmax : Maps.size D0 ≤ 4096) :
    Calls Try.prog 36 #[.func (.func 50) #[] #[.pointer (some ⟨w.heap.size, 0, none⟩)]] (w.alloc (.cells #[.map (some b)] 64)) fun e w' => ∃ (v : Value) (ss : List Int), e = .returned v ∧ ss.Perm (intKeys D0) ∧
      w'.ownsRow (w.heap.size + 1) 3 1 v ss.length ((ss.mergeSort (fun x y => decide (x ≤ y))).map encZ) ∧ Below (w.heap.size + 1) (w.alloc (.cells #[.map (some b)] 64)) w' := by
  have hbl := hown.lt
  have hseq : SeqGives Fence.wide 2 Try.prog 50 #[.pointer (some ⟨w.heap.size, 0, none⟩)] encZ (fun ss => ss.Perm (intKeys D0)) (Maps.size D0) (w.alloc (.cells #[.map (some b)] 64)) :=
    AnyZI.keys_gives (ρ := Try.keysA_ren) { Try.keysA with } Fence.wide _ trivial rfl (by omega) w.heap.size b nn D0 _ (by simp) (by simp) (by
      obtain ⟨es, clock, hb, Ft, hs, hD⟩ := hown
      exact ⟨es, clock, (Below.heap_alloc _ _ b hbl).trans hb, Ft, hs, hD⟩)
  have cS := AnyZI.sorted_in Try.sortedA Fence.wide 5 trivial trivial trivial trivial rfl (by omega) (sortsL _) (enters_of Try.func49 (by kernel_rfl) rfl) 50 #[.pointer (some ⟨w.heap.size, 0, none⟩)] trivial (enters_of Try.func50 (by kernel_rfl) rfl) _ _ (by simp only [maxLen]; omega) (by omega) _ hseq
  change CallsIn _ _ Try.prog 36 _ _ _ at cS
  refine (callsIn_wide.1 cS).mono ?_
  rintro e w' ⟨v, ss, rfl, hS, hrow, hnil, hb⟩
  rw [heap_size_alloc] at hrow hb
  exact ⟨v, ss, rfl, hS, hrow, hb⟩
/-- The map has the numbers that are not over. -/
structure LvMap (w : World) (b : Nat) (l : List Rec) (n : Nat) (D : DataW Unit) : Prop where
  owns : w.ownsMap (H := Unit) Try.prog 3 unitElem b n D
  has : ∀ t : Int, Maps.has D (.int .i64 t) = liveB l t
theorem lvKey (t : Int) (h : -9223372036854775808 ≤ t ∧ t < 9223372036854775808) : keyOf Try.prog 3 (.int .i64 t) = some (.int .i64 t) := Maps.keyOf_int_mk Try.underlying3 (WalkArith.wf_i64 ⟨by omega, by omega⟩)
theorem lvLit (k : Int) : WideAt.IsKeyLit (.int .i64 k) := trivial
theorem LvMap.put {w w' : World} {b n n' : Nat} {l : List Rec} {D : DataW Unit} {r : Rec} (h : LvMap w b l n D) (hk : r.kind ≠ 4 ∧ r.kind ≠ 2 ∧ r.kind ≠ 3) {d : DataW Unit} (ho : w'.ownsMap (H := Unit) Try.prog 3 unitElem b n' (D.put (.int .i64 r.txn) d)) : LvMap w' b (l ++ [r]) n' (D.put (.int .i64 r.txn) d) := by
  refine ⟨ho, fun t => ?_⟩
  rw [liveB_snoc, liveStep, if_neg hk.1]
  by_cases e : t = r.txn
  · subst e; rw [if_pos rfl, has_put_same h.owns.isMap (lvLit _)]; simp [hk]
  · rw [if_neg e, has_put_other (by simp; omega), h.has t]
theorem LvMap.del {w w' : World} {b n n' : Nat} {l : List Rec} {D : DataW Unit} {r : Rec} (h : LvMap w b l n D) (hk : r.kind = 2 ∨ r.kind = 3) (ho : w'.ownsMap (H := Unit) Try.prog 3 unitElem b n' (D.del (.int .i64 r.txn))) : LvMap w' b (l ++ [r]) n' (D.del (.int .i64 r.txn)) := by
  refine ⟨ho, fun t => ?_⟩
  rw [liveB_snoc, liveStep, if_neg (by omega)]
  by_cases e : t = r.txn
  · subst e; rw [if_pos rfl, has_del_same]; rcases hk with hk | hk <;> simp [hk]
  · rw [if_neg e, has_del_other (by simp; omega), h.has t]
theorem LvMap.stay {w w' : World} {b n : Nat} {l : List Rec} {D : DataW Unit} {r : Rec} (h : LvMap w b l n D) (hk : r.kind = 4) (ho : w'.ownsMap (H := Unit) Try.prog 3 unitElem b n D) : LvMap w' b (l ++ [r]) n D := by
  refine ⟨ho, fun t => ?_⟩
  rw [liveB_snoc, liveStep, if_pos hk, h.has t]
theorem LvMap.live {w : World} {b n : Nat} {l : List Rec} {D : DataW Unit} (h : LvMap w b l n D) {ss : List Int} (hS : ss.Perm (intKeys D)) : LiveOf l (ss.mergeSort (fun x y => decide (x ≤ y))) ∧ ss.length ≤ n := by
  have hsl := h.owns.size_le
  have K := int_keyed (P := Try.prog) (k := 3) Try.underlying3
  obtain ⟨es, rfl, hp, hk⟩ := h.owns.entries K
  have hkey : ∀ p ∈ es, ∃ x, p.1 = .int .i64 x := by
    obtain ⟨es', e, hk'⟩ := h.owns.keysOf
    injection e with e
    subst e
    intro p hp
    obtain ⟨v, hv⟩ := hk' p hp
    obtain ⟨x, _, e, _⟩ := Maps.keyOf_i64 Try.underlying3 hv
    exact ⟨x, e⟩
  have hnd : (intKeys (.map es : DataW Unit)).Nodup := by
    show (es.map fun p => Go.intOf p.1).Nodup
    refine List.pairwise_map.2 (hp.imp_of_mem fun {p q} hp' hq' hne e => hne ?_)
    obtain ⟨a, ha⟩ := hkey p hp'
    obtain ⟨b, hb⟩ := hkey q hq'
    rw [ha, hb] at e ⊢
    exact congrArg _ e
  have hmem : ∀ x, x ∈ intKeys (.map es : DataW Unit) ↔ Maps.has (.map es : DataW Unit) (.int .i64 x) = true := by
    intro x
    rw [has_eq, List.any_eq_true]
    show x ∈ es.map (fun p => Go.intOf p.1) ↔ _
    rw [List.mem_map]
    constructor
    · rintro ⟨p, hp', rfl⟩
      obtain ⟨a, ha⟩ := hkey p hp'
      exact ⟨p, hp', by rw [ha]; simp [Lit.sameKey, Go.intOf]⟩
    · rintro ⟨p, hp', hs⟩
      obtain ⟨a, ha⟩ := hkey p hp'
      rw [ha] at hs
      exact ⟨p, hp', by rw [ha]; simpa [Lit.sameKey, Go.intOf] using hs⟩
  have tr : ∀ a b c : Int, leI a b = true → leI b c = true → leI a c = true := fun a b c h1 h2 => by simp only [leI, decide_eq_true_eq] at *; exact Int.le_trans h1 h2
  have to : ∀ a b : Int, (leI a b || leI b a) = true := fun a b => by simp only [leI, Bool.or_eq_true, decide_eq_true_eq]; exact Int.le_total a b
  have hpm : (ss.mergeSort leI).Perm (intKeys (.map es : DataW Unit)) := (List.mergeSort_perm ss leI).trans hS
  have hnd2 : (ss.mergeSort leI).Nodup := hpm.nodup_iff.2 hnd
  refine ⟨⟨?_, fun t => ?_⟩, by rw [hS.length_eq]; simpa [intKeys, Maps.size] using hsl⟩
  · have h1 := List.pairwise_mergeSort tr to ss
    refine (List.Pairwise.and h1 hnd2).imp ?_
    intro a b hab
    have h2 := hab.1
    simp only [leI, decide_eq_true_eq] at h2
    have h3 : a ≠ b := hab.2
    omega
  · rw [← h.has t, ← hmem t]
    exact hpm.mem_iff
set_option maxHeartbeats 2000000 in
set_option maxRecDepth 100000 in
theorem live_any (A : Option Addr) (n c : Nat) (l : List Rec) (w : World) (hl : l.length = n) (hn : n ≤ 1000) (ha : RcsAt w A l) :
    Calls Try.prog 16 #[.slice A n c] w fun e w' => ∃ B c' L, e = .returned (.slice B L.length c') ∧ LiveOf l L ∧ RI w' B L ∧ L.length ≤ n ∧ Below w.heap.size w w' := by
  have HL := Lib.hid hl
  have KU := lvUnit
  have km := @RowKit.run_makeMap Try.prog
  clear hl
  go_enter Try.func16, Try.ntmps16
  go_wp2_with fail
  have M0 := Lib.hid (show LvMap (w.alloc (.map #[] 0)) w.heap.size [] 0 (.map []) from ⟨World.ownsMap_made w _ _ _, fun t => rfl⟩)
  have B0 := Lib.hid ((Below.refl w.heap.size w).alloc (Nat.le_refl _) (.map #[] 0))
  go_loopw [5, 9, 17, 22] (fun _ i _ _ wr => ∃ (k m : Nat) (D : DataW Unit), k ≤ n ∧ m ≤ k ∧ i = .int .i64 (k : Int) ∧ LvMap wr w.heap.size (l.take k) m D ∧ Below w.heap.size w wr) (fun _ i _ _ _ => n - (RowKit.intOf i).toNat)
  case atStart => exact ⟨0, 0, _, Nat.zero_le _, Nat.le_refl _, rfl, M0.out, B0.out⟩
  case round =>
    obtain ⟨k, m, D, hk, hm, rfl, hM, hB⟩ := hrel
    by_cases hlt : k < n
    · have hk' : (k : Int) < (n : Int) := by omega
      obtain ⟨ad, r, rfl, hka, hat⟩ := (ha.below hB).at_ (i := k) (by rw [HL.out]; exact hlt)
      have HT := Lib.hid (show l.take (k + 1) = l.take k ++ [r] from by rw [List.take_add_one, hka]; rfl)
      have HF := Lib.hid hat.fit
      have x0 := hat.d0
      have x1 := hat.d1
      have x2 := hat.d2
      have x3 := hat.d3
      have x4 := hat.d4
      have x5 := hat.d5
      have hlt2 := hat.lt
      obtain ⟨kind, txn, ts, key, gone, val⟩ := r
      dsimp only at x0 x1 x2 x3 x4 x5
      have HY := Lib.hid (lvKey txn HF.out.2.1)
      have HM := Lib.hid hM
      have HO := Lib.hid (hM.owns.alloc (.cells #[.int .u8 (kind : Int), .int .i64 txn, .int .i64 ts, .string key, .bool gone, .string val] 23))
      have HB := Lib.hid (hB.alloc hB.size (.cells #[.int .u8 (kind : Int), .int .i64 txn, .int .i64 ts, .string key, .bool gone, .string val] 23))
      have HS := Lib.hid (show w.heap.size ≤ (wr.alloc (.cells #[.int .u8 (kind : Int), .int .i64 txn, .int .i64 ts, .string key, .bool gone, .string val] 23)).heap.size from by rw [heap_size_alloc]; have := hB.size; omega)
      have KD := Lib.hid (int_keyed (P := Try.prog) (k := 3) Try.underlying3)
      have KU' := Lib.hid KU
      clear hka hat hM hB KU km
      by_cases h4 : kind = 4
      · have KH := Lib.hid (fun W => (show Calls Try.prog 21 #[.int .u8 (kind : Int)] W (fun e w' => e = .returned (.bool false) ∧ W = w') from by have h := hasTxn_any kind W; rw [show wrHasTxn kind = false from by rw [h4]; rfl] at h; exact h))
        have HK := Lib.hid h4
        clear h4
        go_wp2_with (first
          | (go_at_call 21; refine (KH.out _).mono ?_; rintro e w' ⟨rfl, rfl⟩)
          | fail)
        go_round
        case rel => exact ⟨k + 1, m, D, by omega, by omega, by go_num, by rw [HT.out]; exact HM.out.stay HK.out HO.out, HB.out⟩
        case measure => simp [RowKit.intOf]; omega
      · have KH := Lib.hid (fun W => (show Calls Try.prog 21 #[.int .u8 (kind : Int)] W (fun e w' => e = .returned (.bool true) ∧ W = w') from by have h := hasTxn_any kind W; rw [show wrHasTxn kind = true from by simp [wrHasTxn, h4]] at h; exact h))
        by_cases h2 : kind = 2
        · have t2 : ((kind : Int) == 2) = true := by rw [h2]; rfl
          have HK := Lib.hid h2
          clear h4 h2
          go_wp2_with (first
            | (go_at_call 21; refine (KH.out _).mono ?_; rintro e w' ⟨rfl, rfl⟩)
            | (at_delete; refine wpList_delete_own _ rfl _ _ 64 3 rfl 65 KD.out KU'.out unitElem w.heap.size m D rfl HO.out _ _ rfl HY.out ?_; intro w1 hown1 hturn1; have H1 := Lib.hid hown1; have H2 := Lib.hid hturn1; clear hown1 hturn1)
            | fail)
          go_round
          case rel => exact ⟨k + 1, m, _, by omega, by omega, by go_num, by rw [HT.out]; exact HM.out.del (.inl HK.out) H1.out, HB.out.grown H2.out.grown HS.out (fun q hq => by injection hq with hq; omega)⟩
          case measure => simp [RowKit.intOf]; omega
        · have t2 : ((kind : Int) == 2) = false := by simp; omega
          by_cases h3 : kind = 3
          · have t3 : ((kind : Int) == 3) = true := by rw [h3]; rfl
            have HK := Lib.hid h3
            clear h4 h2 h3
            go_wp2_with (first
              | (go_at_call 21; refine (KH.out _).mono ?_; rintro e w' ⟨rfl, rfl⟩)
              | (at_delete; refine wpList_delete_own _ rfl _ _ 64 3 rfl 65 KD.out KU'.out unitElem w.heap.size m D rfl HO.out _ _ rfl HY.out ?_; intro w1 hown1 hturn1; have H1 := Lib.hid hown1; have H2 := Lib.hid hturn1; clear hown1 hturn1)
              | fail)
            go_round
            case rel => exact ⟨k + 1, m, _, by omega, by omega, by go_num, by rw [HT.out]; exact HM.out.del (.inr HK.out) H1.out, HB.out.grown H2.out.grown HS.out (fun q hq => by injection hq with hq; omega)⟩
            case measure => simp [RowKit.intOf]; omega
          · have t3 : ((kind : Int) == 3) = false := by simp; omega
            have HK := Lib.hid (show kind ≠ 4 ∧ kind ≠ 2 ∧ kind ≠ 3 from ⟨h4, h2, h3⟩)
            clear h4 h2 h3
            go_wp2_with (first
              | (go_at_call 21; refine (KH.out _).mono ?_; rintro e w' ⟨rfl, rfl⟩)
              | (at_mapUpdate; refine wpList_mapUpdate_in _ rfl _ _ _ 64 rfl 3 65 KD.out KU'.out unitElem w.heap.size m D rfl HO.out (by simp only [maxLen]; omega) _ _ _ rfl rfl HY.out _ _ unitElem_mk ?_; intro w1 hown1 hturn1; have H1 := Lib.hid hown1; have H2 := Lib.hid hturn1; clear hown1 hturn1)
              | fail)
            go_round
            case rel => exact ⟨k + 1, m + 1, _, by omega, by omega, by go_num, by rw [HT.out]; exact HM.out.put HK.out H1.out, HB.out.grown H2.out.grown HS.out (fun q hq => by injection hq with hq; omega)⟩
            case measure => simp [RowKit.intOf]; omega
    · obtain rfl : k = n := by omega
      rw [List.take_of_length_le (by rw [HL.out]; exact Nat.le_refl _)] at hM
      have hsz := hM.owns.size_le
      have HSo := Lib.hid (sortedL_any hM.owns (by omega))
      have HM := Lib.hid hM
      have HB := Lib.hid hB
      have HS := Lib.hid hB.size
      clear hM hB hsz KU km
      go_wp2_with (first
        | (go_at_call 37; refine (keysL_any _ _).mono ?_; rintro e w' ⟨rfl, rfl⟩)
        | (go_at_call 36; refine HSo.out.mono ?_; rintro e w' ⟨v, ss, rfl, hS, hrow, hb⟩)
        | fail)
      have hlen : (ss.mergeSort (fun x y => decide (x ≤ y))).length = ss.length := (List.mergeSort_perm ss _).length_eq
      obtain ⟨hLv, hLn⟩ := HM.out.live hS
      rw [← hlen] at hLn
      have hLn' := Nat.le_trans hLn hm
      have hBB : Below w.heap.size w w' := (HB.out.alloc HS.out _).trans (hb.mono (by have := HS.out; omega))
      rw [← hlen] at hrow
      generalize ss.mergeSort (fun x y => decide (x ≤ y)) = L at *
      rcases hrow.2 with ⟨rfl, h0⟩ | ⟨g, cap, cur, rfl, hbase, hg, r1, r2, r3, r4⟩
      · have e0 : L = [] := List.eq_nil_of_length_eq_zero h0
        subst e0
        exact bodyPost_ret (v := .slice none 0 0) (by simp [results, Try.results16, go_sem]) rfl ⟨none, 0, [], rfl, hLv, (fun j t hj => by simp at hj), hLn', hBB⟩
      · exact bodyPost_ret (v := .slice (some ⟨g, 0, none⟩) L.length cap) (by simp [results, Try.results16, go_sem]) rfl ⟨_, cap, L, rfl, hLv, (fun j t hj => ⟨_, rfl, World.ownsRow.cells hrow (g := g) rfl j _ (by simp [hj, encZ])⟩), hLn', hBB⟩
end Go.Proofs.Ytlohhbpncbnipaa
end
section
/- awake of layer 8. -/
namespace Go.Proofs.Ytlohhbpncbnipaa
open Go.RowKit
set_option linter.unusedVariables false
set_option linter.unusedSimpArgs false
def Rec.cells (r : Rec) : List Value := [.int .u8 (r.kind : Int), .int .i64 r.txn, .int .i64 r.ts, .string r.key, .bool r.gone, .string r.val]
theorem flat6 : ∀ (l : List Rec) (i j : Nat), j < 6 → (l.flatMap Rec.cells)[i * 6 + j]? = (l[i]?).bind (fun r => r.cells[j]?)
  | [], i, j, hj => by simp
  | r :: t, 0, j, hj => by
    rw [List.flatMap_cons, List.getElem?_append_left (by simp [Rec.cells]; omega)]
    simp
  | r :: t, i + 1, j, hj => by
    rw [List.flatMap_cons, List.getElem?_append_right (by simp [Rec.cells]; omega), show (i + 1) * 6 + j - r.cells.length = i * 6 + j from by simp [Rec.cells]; omega, flat6 t i j hj]
    simp
theorem rcs_row {w : World} {g : Nat} {l : List Rec} {cs : Array Value} {t : TypeId} {fr : Nat × Nat} (hg : w.heap[g]? = some (.cells cs t fr)) (hcs : cs = (l.flatMap Rec.cells).toArray) (hf : ∀ r ∈ l, r.fits) : RcsAt w (some ⟨g, 0, none⟩) l := by
  refine .inr ⟨_, rfl, fun i a hi => ?_⟩
  have e : ∀ j, j < 6 → w.cell? (((⟨g, 0, none⟩ : Addr).add (i * 6)).add j) = a.cells[j]? := by
    intro j hj
    rw [add_of_add, add_at, cell_of_row w g _ cs t fr hg, hcs]
    simp only [List.getElem?_toArray]
    rw [flat6 l i j hj, hi]
    rfl
  exact ⟨e 0 (by omega), e 1 (by omega), e 2 (by omega), e 3 (by omega), e 4 (by omega), e 5 (by omega), hf _ (List.mem_of_getElem? hi)⟩
theorem rcs_new (w : World) (l : List Rec) (cs : Array Value) (hcs : cs = (l.flatMap Rec.cells).toArray) (hf : ∀ r ∈ l, r.fits) (t : TypeId) : RcsAt (w.alloc (.cells cs t)) (some ⟨w.heap.size, 0, none⟩) l :=
  rcs_row (g := w.heap.size) (t := t) (fr := (0, 0)) (by unfold World.alloc; simp) hcs hf
def awR : Rec := ⟨2, 3, 258, ⟨#[]⟩, false, ⟨#[]⟩⟩
def awW : Rec := ⟨1, 1, 0, ⟨#[107]⟩, false, ⟨#[118]⟩⟩
def awB : Rec := ⟨0, 2, 7, ⟨#[]⟩, false, ⟨#[]⟩⟩
def awA : Rec := ⟨3, 1, 0, ⟨#[]⟩, false, ⟨#[]⟩⟩
theorem aw_cR : checkR awR = 0 := by kernel_rfl
theorem aw_cW : checkR awW = 0 := by kernel_rfl
theorem aw_pR : putR awR = [2, 1, 3, 2, 1, 2] := by kernel_rfl
theorem aw_pW : putR awW = [1, 1, 1, 107, 0, 1, 0, 118, 0, 1] := by kernel_rfl
theorem aw_live : LiveOf [awW, awB, awA] [2] := by
  refine ⟨by simp, fun t => ?_⟩
  simp only [liveB, List.foldl_cons, List.foldl_nil, liveStep, awW, awB, awA]
  by_cases h1 : t = 1
  · subst h1; simp
  · by_cases h2 : t = 2
    · subst h2; simp
    · simp [h1, h2]
theorem aw_all {v : Value} {z : Nat} {w : World} (h : AllOf [awW, awR] v z w) : z = 0 ∧ ∃ A c, v = .slice A 2 c ∧ RBS w A [putR awW, putR awR] := by
  rcases h with ⟨rfl, _, A, c, rfl, _, _, h⟩ | ⟨k, r, hk, e, hz, _⟩
  · exact ⟨rfl, A, c, rfl, h⟩
  · exfalso
    match k with
    | 0 => simp at hk; subst hk; rw [aw_cW] at e; omega
    | 1 => simp at hk; subst hk; rw [aw_cR] at e; omega
    | k + 2 => simp at hk
theorem aw_clock : clockR [awR] 9 = 258 := by decide
set_option maxHeartbeats 4000000 in
set_option maxRecDepth 100000 in
theorem wrAwake_any (w : World) : Calls Try.prog 9 #[] w fun e w' => e = .returned (.bool true) ∧ Below w.heap.size w w' := by
  have KPR := Lib.hid (fun W => (show Calls Try.prog 10 #[.agg #[.int .u8 2, .int .i64 3, .int .i64 258, .string ⟨#[]⟩, .bool false, .string ⟨#[]⟩]] W (fun e w' => ∃ v', e = .returned (.tuple #[v', .int .i64 0]) ∧ OB W.heap.size w' v' [2, 1, 3, 2, 1, 2] ∧ Below W.heap.size W w') from by
    have h := wrPut_any awR W
    rw [aw_cR, if_pos rfl, aw_pR] at h
    exact h))
  have KPW := Lib.hid (fun W => (show Calls Try.prog 10 #[.agg #[.int .u8 1, .int .i64 1, .int .i64 0, .string ⟨#[107]⟩, .bool false, .string ⟨#[118]⟩]] W (fun e w' => ∃ v', e = .returned (.tuple #[v', .int .i64 0]) ∧ OB W.heap.size w' v' [1, 1, 1, 107, 0, 1, 0, 118, 0, 1] ∧ Below W.heap.size W w') from by
    have h := wrPut_any awW W
    rw [aw_cW, if_pos rfl, aw_pW] at h
    exact h))
  have KC := Lib.hid (fun W => (show Calls Try.prog 12 #[.agg #[.int .u8 1, .int .i64 1, .int .i64 0, .string ⟨#[107]⟩, .bool false, .string ⟨#[118]⟩]] W (fun e w' => e = .returned (.int .i64 0) ∧ Below W.heap.size W w') from by
    have h := wrCheck_any awW W
    rw [aw_cW] at h
    exact h))
  have KG := Lib.hid (fun (A : Option Addr) (c : Nat) W (hc : 6 ≤ c) (h : RB W A [2, 1, 3, 2, 1, 2]) => (show Calls Try.prog 14 #[.slice A 6 c] W (fun e w' => e = .returned (.tuple #[.agg #[.int .u8 2, .int .i64 3, .int .i64 258, .string ⟨#[]⟩, .bool false, .string ⟨#[]⟩], .int .i64 0]) ∧ Below W.heap.size W w') from by
    refine (wrGet_any A 6 c _ W (by omega) rfl hc h).mono ?_
    rintro e w' ⟨r, z, rfl, g, b⟩
    obtain ⟨rfl, rfl⟩ := g.one (GetOf.yes aw_cR aw_pR)
    exact ⟨rfl, b⟩))
  go_enter Try.func9, Try.ntmps9
  go_wp2_with fail
  refine (KPR.out _).mono ?_
  rintro e w1 ⟨v1, rfl, o1, b1⟩
  obtain ⟨A1, c1, rfl, hc1, r1⟩ := o1.form
  have B1 := Lib.hid b1
  have R1 := Lib.hid r1
  have hc1 := Lib.hid hc1
  clear o1 b1 r1
  go_wp2_with fail
  refine (KG.out _ _ _ hc1.out R1.out).mono ?_
  rintro e w2 ⟨rfl, b2⟩
  have B2 := Lib.hid (B1.out.trans (b2.mono B1.out.size))
  have R1 := Lib.hid (R1.out.below b2)
  clear b2
  go_wp2_with fail
  have e1 := heap_size_alloc w2 (.cells #[.int .u8 2, .int .i64 3, .int .i64 258, .string ⟨#[]⟩, .bool false, .string ⟨#[]⟩] 23)
  have e2 := heap_size_alloc (w2.alloc (.cells #[.int .u8 2, .int .i64 3, .int .i64 258, .string ⟨#[]⟩, .bool false, .string ⟨#[]⟩] 23)) (.cells #[.int .u8 1, .int .i64 1, .int .i64 0, .string ⟨#[107]⟩, .bool false, .string ⟨#[118]⟩] 23)
  have XRa := (RecBox.new w2 2 3 258 ⟨#[]⟩ false ⟨#[]⟩).below ((Below.refl (w2.heap.size + 1) (w2.alloc (.cells #[.int .u8 2, .int .i64 3, .int .i64 258, .string ⟨#[]⟩, .bool false, .string ⟨#[]⟩] 23))).alloc (by rw [e1]; exact Nat.le_refl _) (.cells #[.int .u8 1, .int .i64 1, .int .i64 0, .string ⟨#[107]⟩, .bool false, .string ⟨#[118]⟩] 23)) (by omega)
  have XWa := RecBox.new (w2.alloc (.cells #[.int .u8 2, .int .i64 3, .int .i64 258, .string ⟨#[]⟩, .bool false, .string ⟨#[]⟩] 23)) 1 1 0 ⟨#[107]⟩ false ⟨#[118]⟩
  rw [e1] at XWa
  have XR := Lib.hid XRa
  have XW := Lib.hid XWa
  have BB := Lib.hid ((B2.out.alloc B2.out.size (.cells #[.int .u8 2, .int .i64 3, .int .i64 258, .string ⟨#[]⟩, .bool false, .string ⟨#[]⟩] 23)).alloc (by have := B2.out.size; omega) (.cells #[.int .u8 1, .int .i64 1, .int .i64 0, .string ⟨#[107]⟩, .bool false, .string ⟨#[118]⟩] 23))
  have R1' := Lib.hid ((R1.out.alloc (.cells #[.int .u8 2, .int .i64 3, .int .i64 258, .string ⟨#[]⟩, .bool false, .string ⟨#[]⟩] 23)).alloc (.cells #[.int .u8 1, .int .i64 1, .int .i64 0, .string ⟨#[107]⟩, .bool false, .string ⟨#[118]⟩] 23))
  clear XRa XWa e1 e2 R1
  generalize (w2.alloc (.cells #[.int .u8 2, .int .i64 3, .int .i64 258, .string ⟨#[]⟩, .bool false, .string ⟨#[]⟩] 23)).alloc (.cells #[.int .u8 1, .int .i64 1, .int .i64 0, .string ⟨#[107]⟩, .bool false, .string ⟨#[118]⟩] 23) = W3 at *
  refine (KPW.out _).mono ?_
  rintro e w4 ⟨v4, rfl, o4, b4⟩
  obtain ⟨A4, c4, rfl, hc4, r4⟩ := o4.form
  have XR := Lib.hid (XR.out.below b4 XR.out.lt)
  have XW := Lib.hid (XW.out.below b4 XW.out.lt)
  have BB := Lib.hid (BB.out.trans (b4.mono BB.out.size))
  have R1 := Lib.hid (R1'.out.below b4)
  have R4 := Lib.hid r4
  clear o4 b4 r4 R1' hc4
  obtain ⟨x0, x1, x2, x3, x4, x5, xf0, xf1, xf2, xf3, xf4, xf5⟩ := XR.out
  obtain ⟨y0, y1, y2, y3, y4, y5, yf0, yf1, yf2, yf3, yf4, yf5⟩ := XW.out
  go_wp2_with fail
  clear x0 x1 x2 x3 x4 x5 xf0 xf1 xf2 xf3 xf4 xf5 y0 y1 y2 y3 y4 y5 yf0 yf1 yf2 yf3 yf4 yf5
  have XR := Lib.hid (XR.out.below ((Below.refl w4.heap.size w4).alloc (Nat.le_refl _) (.cells #[.int .u8 1, .int .i64 1, .int .i64 0, .string ⟨#[107]⟩, .bool false, .string ⟨#[118]⟩, .int .u8 0, .int .i64 2, .int .i64 7, .string ⟨#[]⟩, .bool false, .string ⟨#[]⟩, .int .u8 3, .int .i64 1, .int .i64 0, .string ⟨#[]⟩, .bool false, .string ⟨#[]⟩] 23)) XR.out.lt)
  have XW := Lib.hid (XW.out.below ((Below.refl w4.heap.size w4).alloc (Nat.le_refl _) (.cells #[.int .u8 1, .int .i64 1, .int .i64 0, .string ⟨#[107]⟩, .bool false, .string ⟨#[118]⟩, .int .u8 0, .int .i64 2, .int .i64 7, .string ⟨#[]⟩, .bool false, .string ⟨#[]⟩, .int .u8 3, .int .i64 1, .int .i64 0, .string ⟨#[]⟩, .bool false, .string ⟨#[]⟩] 23)) XW.out.lt)
  have BB := Lib.hid (BB.out.alloc BB.out.size (.cells #[.int .u8 1, .int .i64 1, .int .i64 0, .string ⟨#[107]⟩, .bool false, .string ⟨#[118]⟩, .int .u8 0, .int .i64 2, .int .i64 7, .string ⟨#[]⟩, .bool false, .string ⟨#[]⟩, .int .u8 3, .int .i64 1, .int .i64 0, .string ⟨#[]⟩, .bool false, .string ⟨#[]⟩] 23))
  have R1 := Lib.hid (R1.out.alloc (.cells #[.int .u8 1, .int .i64 1, .int .i64 0, .string ⟨#[107]⟩, .bool false, .string ⟨#[118]⟩, .int .u8 0, .int .i64 2, .int .i64 7, .string ⟨#[]⟩, .bool false, .string ⟨#[]⟩, .int .u8 3, .int .i64 1, .int .i64 0, .string ⟨#[]⟩, .bool false, .string ⟨#[]⟩] 23))
  have R4 := Lib.hid (R4.out.alloc (.cells #[.int .u8 1, .int .i64 1, .int .i64 0, .string ⟨#[107]⟩, .bool false, .string ⟨#[118]⟩, .int .u8 0, .int .i64 2, .int .i64 7, .string ⟨#[]⟩, .bool false, .string ⟨#[]⟩, .int .u8 3, .int .i64 1, .int .i64 0, .string ⟨#[]⟩, .bool false, .string ⟨#[]⟩] 23))
  have RC := Lib.hid (rcs_new w4 [awW, awB, awA] #[.int .u8 1, .int .i64 1, .int .i64 0, .string ⟨#[107]⟩, .bool false, .string ⟨#[118]⟩, .int .u8 0, .int .i64 2, .int .i64 7, .string ⟨#[]⟩, .bool false, .string ⟨#[]⟩, .int .u8 3, .int .i64 1, .int .i64 0, .string ⟨#[]⟩, .bool false, .string ⟨#[]⟩] rfl (by intro r hr; simp only [List.mem_cons, List.not_mem_nil, or_false] at hr; rcases hr with rfl | rfl | rfl <;> simp [Rec.fits, awW, awB, awA]) 23)
  generalize (w4.alloc (.cells #[.int .u8 1, .int .i64 1, .int .i64 0, .string ⟨#[107]⟩, .bool false, .string ⟨#[118]⟩, .int .u8 0, .int .i64 2, .int .i64 7, .string ⟨#[]⟩, .bool false, .string ⟨#[]⟩, .int .u8 3, .int .i64 1, .int .i64 0, .string ⟨#[]⟩, .bool false, .string ⟨#[]⟩] 23)) = W5 at *
  refine (live_any _ 3 3 [awW, awB, awA] _ rfl (by omega) RC.out).mono ?_
  rintro e w5 ⟨B5, c5, L, rfl, lv, ri5, _, b5⟩
  obtain rfl : L = [2] := lv.one aw_live
  obtain ⟨a5, rfl, hc5⟩ := ri5 0 2 rfl
  rw [Addr.add_nought] at hc5
  have XR := Lib.hid (XR.out.below b5 XR.out.lt)
  have XW := Lib.hid (XW.out.below b5 XW.out.lt)
  have BB := Lib.hid (BB.out.trans (b5.mono BB.out.size))
  have R1 := Lib.hid (R1.out.below b5)
  have R4 := Lib.hid (R4.out.below b5)
  have C5 := Lib.hid hc5
  clear b5 RC ri5 lv hc5
  obtain ⟨x0, x1, x2, x3, x4, x5, xf0, xf1, xf2, xf3, xf4, xf5⟩ := XR.out
  obtain ⟨y0, y1, y2, y3, y4, y5, yf0, yf1, yf2, yf3, yf4, yf5⟩ := XW.out
  simp only [List.length_cons, List.length_nil]
  go_wp2_with fail
  clear x0 x1 x2 x3 x4 x5 xf0 xf1 xf2 xf3 xf4 xf5 y0 y1 y2 y3 y4 y5 yf0 yf1 yf2 yf3 yf4 yf5
  have C5 := Lib.hid (((Below.refl w5.heap.size w5).alloc (Nat.le_refl _) (.cells #[.int .u8 1, .int .i64 1, .int .i64 0, .string ⟨#[107]⟩, .bool false, .string ⟨#[118]⟩, .int .u8 2, .int .i64 3, .int .i64 258, .string ⟨#[]⟩, .bool false, .string ⟨#[]⟩] 23)).cell (lt_of_cell C5.out) |>.trans C5.out)
  have XR := Lib.hid (XR.out.below ((Below.refl w5.heap.size w5).alloc (Nat.le_refl _) (.cells #[.int .u8 1, .int .i64 1, .int .i64 0, .string ⟨#[107]⟩, .bool false, .string ⟨#[118]⟩, .int .u8 2, .int .i64 3, .int .i64 258, .string ⟨#[]⟩, .bool false, .string ⟨#[]⟩] 23)) XR.out.lt)
  have XW := Lib.hid (XW.out.below ((Below.refl w5.heap.size w5).alloc (Nat.le_refl _) (.cells #[.int .u8 1, .int .i64 1, .int .i64 0, .string ⟨#[107]⟩, .bool false, .string ⟨#[118]⟩, .int .u8 2, .int .i64 3, .int .i64 258, .string ⟨#[]⟩, .bool false, .string ⟨#[]⟩] 23)) XW.out.lt)
  have BB := Lib.hid (BB.out.alloc BB.out.size (.cells #[.int .u8 1, .int .i64 1, .int .i64 0, .string ⟨#[107]⟩, .bool false, .string ⟨#[118]⟩, .int .u8 2, .int .i64 3, .int .i64 258, .string ⟨#[]⟩, .bool false, .string ⟨#[]⟩] 23))
  have R1 := Lib.hid (R1.out.alloc (.cells #[.int .u8 1, .int .i64 1, .int .i64 0, .string ⟨#[107]⟩, .bool false, .string ⟨#[118]⟩, .int .u8 2, .int .i64 3, .int .i64 258, .string ⟨#[]⟩, .bool false, .string ⟨#[]⟩] 23))
  have R4 := Lib.hid (R4.out.alloc (.cells #[.int .u8 1, .int .i64 1, .int .i64 0, .string ⟨#[107]⟩, .bool false, .string ⟨#[118]⟩, .int .u8 2, .int .i64 3, .int .i64 258, .string ⟨#[]⟩, .bool false, .string ⟨#[]⟩] 23))
  have RC := Lib.hid (rcs_new w5 [awW, awR] #[.int .u8 1, .int .i64 1, .int .i64 0, .string ⟨#[107]⟩, .bool false, .string ⟨#[118]⟩, .int .u8 2, .int .i64 3, .int .i64 258, .string ⟨#[]⟩, .bool false, .string ⟨#[]⟩] rfl (by intro r hr; simp only [List.mem_cons, List.not_mem_nil, or_false] at hr; rcases hr with rfl | rfl <;> simp [Rec.fits, awW, awR]) 23)
  generalize (w5.alloc (.cells #[.int .u8 1, .int .i64 1, .int .i64 0, .string ⟨#[107]⟩, .bool false, .string ⟨#[118]⟩, .int .u8 2, .int .i64 3, .int .i64 258, .string ⟨#[]⟩, .bool false, .string ⟨#[]⟩] 23)) = W6 at *
  refine (all_any _ 2 2 [awW, awR] _ rfl (by omega) RC.out).mono ?_
  rintro e w6 ⟨v6, z6, rfl, al, b5⟩
  obtain ⟨rfl, A6, c6, rfl, rb6⟩ := aw_all al
  have C6 := (b5.cell (lt_of_cell C5.out)).trans C5.out
  have XR := Lib.hid (XR.out.below b5 XR.out.lt)
  have XW := Lib.hid (XW.out.below b5 XW.out.lt)
  have BB := Lib.hid (BB.out.trans (b5.mono BB.out.size))
  have R1 := Lib.hid (R1.out.below b5)
  have R4 := Lib.hid (R4.out.below b5)
  have cs1 := run_str w6 A1 6 c1 _ rfl R1.out
  have cs4 := run_str w6 A4 10 c4 _ rfl R4.out
  have q1 : (str [2, 1, 3, 2, 1, 2]).toList = [2, 1, 3, 2, 1, 2] := by rw [ByteArray.toList_eq]; simp [str]
  have q4 : (str [1, 1, 1, 107, 0, 1, 0, 118, 0, 1]).toList = [1, 1, 1, 107, 0, 1, 0, 118, 0, 1] := by rw [ByteArray.toList_eq]; simp [str]
  clear RC b5 rb6 al KPR KPW KG
  obtain ⟨x0, x1, x2, x3, x4, x5, xf0, xf1, xf2, xf3, xf4, xf5⟩ := XR.out
  obtain ⟨y0, y1, y2, y3, y4, y5, yf0, yf1, yf2, yf3, yf4, yf5⟩ := XW.out
  have RC := Lib.hid (rcs_new w6 [awR] #[.int .u8 2, .int .i64 3, .int .i64 258, .string ⟨#[]⟩, .bool false, .string ⟨#[]⟩] rfl (by intro r hr; simp only [List.mem_cons, List.not_mem_nil, or_false] at hr; rcases hr with rfl; simp [Rec.fits, awR]) 23)
  go_wp2_with fail
  clear x0 x1 x2 x3 x4 x5 xf0 xf1 xf2 xf3 xf4 xf5 y0 y1 y2 y3 y4 y5 yf0 yf1 yf2 yf3 yf4 yf5 cs1 cs4 q1 q4 C6
  have XW := Lib.hid (XW.out.below ((Below.refl w6.heap.size w6).alloc (Nat.le_refl _) (.cells #[.int .u8 2, .int .i64 3, .int .i64 258, .string ⟨#[]⟩, .bool false, .string ⟨#[]⟩] 23)) XW.out.lt)
  have BB := Lib.hid (BB.out.alloc BB.out.size (.cells #[.int .u8 2, .int .i64 3, .int .i64 258, .string ⟨#[]⟩, .bool false, .string ⟨#[]⟩] 23))
  generalize (w6.alloc (.cells #[.int .u8 2, .int .i64 3, .int .i64 258, .string ⟨#[]⟩, .bool false, .string ⟨#[]⟩] 23)) = W7 at *
  refine (clock_any _ 1 1 [awR] 9 _ rfl (by simp [maxLen]) RC.out).mono ?_
  rintro e w7 ⟨rfl, b7⟩
  rw [aw_clock]
  have XW := Lib.hid (XW.out.below b7 XW.out.lt)
  have BB := Lib.hid (BB.out.trans (b7.mono BB.out.size))
  clear b7 RC XR R1 R4
  obtain ⟨y0, y1, y2, y3, y4, y5, yf0, yf1, yf2, yf3, yf4, yf5⟩ := XW.out
  go_wp2_with fail
  refine (KC.out _).mono ?_
  rintro e w8 ⟨rfl, b8⟩
  have BB := Lib.hid (BB.out.trans (b8.mono BB.out.size))
  clear b8
  go_wp2_with fail
  go_ret
  exact ⟨rfl, BB.out⟩
end Go.Proofs.Ytlohhbpncbnipaa
end
