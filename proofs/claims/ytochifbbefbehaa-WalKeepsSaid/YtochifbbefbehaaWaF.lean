/- The package wal: sectors are written, with the deferred call that notes an error. -/
import Derived.Test.YtochifbbefbehaaWaE
import Derived.Defers
namespace Go.Proofs.Ytochifbbefbehaa
open Go.RowKit
set_option linter.unusedVariables false
set_option linter.unusedSimpArgs false
theorem write_calls (d : Dk) (n : Int) (b : List UInt8) : (d.write n b).calls ≤ d.calls + 1 := by
  unfold Dk.write
  split
  · omega
  · unfold Dk.call
    split
    · show (if _ then _ else _ : Dk).calls ≤ _
      split <;> exact Nat.le_refl _
    · exact Nat.le_refl _
theorem sync_calls (d : Dk) : d.sync.calls ≤ d.calls + 1 := by
  unfold Dk.sync
  split
  · omega
  · unfold Dk.call
    split
    · show (if _ then _ else _ : Dk).calls ≤ _
      split <;> exact Nat.le_refl _
    · exact Nat.le_refl _
theorem wrAll_calls (S : List (List UInt8)) : ∀ (d : Dk) (n : Nat), (wrAll d n S).1.calls ≤ d.calls + S.length + 1 := by
  induction S with
  | nil => intro d n; exact sync_calls d
  | cons b r ih =>
    intro d n
    by_cases h : d.writeErr (n : Int) b = 0
    · rw [wrAll_ok r h]
      have h1 := ih (d.write (n : Int) b) (n + 1)
      have h2 := write_calls d (n : Int) b
      simp only [List.length_cons]
      omega
    · rw [wrAll_no r h]
      have h2 := write_calls d (n : Int) b
      simp only [List.length_cons]
      omega
/-- The deferred call: whether there was an error is noted. -/
theorem waNote_d {G R B : Nat} {e : Nat} (u : FrameMode) {W : World} (h1 : W.cell? ⟨B, 0, none⟩ = some (.pointer (some ⟨G, 0, none⟩))) (h2 : W.cell? ⟨R, 0, none⟩ = some (.int .i64 (e : Int))) (h3 : ∃ v, W.cell? ⟨G, 8, none⟩ = some v) (h4 : W.frozen? ⟨G, 8, none⟩ = false) :
    CallsD Try.prog 44 #[.pointer (some ⟨R, 0, none⟩), .pointer (some ⟨B, 0, none⟩)] u W fun x u' w' => u' = u ∧ (x = .returned (.tuple #[]) ∧ w' = W.setCell ⟨G, 8, none⟩ (.bool (decide (e ≠ 0)))) := by
  obtain ⟨v, h3⟩ := h3
  by_cases h0 : e = 0
  · subst h0
    go_enter_d Try.func44, Try.ntmps44
    go_wp2
    go_end0
    exact ⟨rfl, rfl⟩
  · have he : ¬ ((e : Int) = 0) := by omega
    have hd : decide (e ≠ 0) = true := by simp [h0]
    rw [hd]
    clear h0 hd
    go_enter_d Try.func44, Try.ntmps44
    go_wp2
    go_end0
    refine ⟨rfl, ?_⟩
    rw [show ((e : Int) != 0) = true from by simpa using he]
theorem wrap_few (a : Int) (h1 : 0 ≤ a) (h2 : a ≤ 1000000) : IntKind.i64.wrap a = a := by
  rw [IntKind.wrap_i64]
  omega
/-- Between two writes. -/
structure WrSt (base : Nat) (F : Ft) (G : Nat) (d : Dk) (n0 : Nat) (S : List (List UInt8)) (W1 : World) (R k : Nat) (dk : Dk) (wr : World) : Prop where
  disk : DkAt base F wr dk
  rest : wrAll d n0 S = wrAll dk (n0 + k) (S.drop k)
  calls : dk.calls ≤ d.calls + k
  len : dk.rows.length = d.rows.length
  frm : Frm (fun b => F.has b ∨ b = R) W1 wr
  res : wr.heap[R]? = some (.cells #[.int .i64 0] 28 (0, 0))
theorem dkWrite_rows (d : Dk) (n : Int) (b : List UInt8) : (d.write n b).rows = d.rows := by
  unfold Dk.write
  split
  · rfl
  · unfold Dk.call
    split
    · show (if _ then _ else _ : Dk).rows = _
      split <;> rfl
    · rfl
set_option maxRecDepth 100000 in
set_option maxHeartbeats 2000000 in
theorem waWrite_any {base : Nat} {F : Ft} {G : Nat} {v5 v6 : Value} {Y : Nat → Prop} {W : World} {d : Dk} {g : Lg} (dk : DkAt base F W d) (lg : LgAt base F G v5 v6 Y W g) (hcalls : d.calls ≤ 100000) (hbad : g.bad = false) (A : Option Addr) (n c : Nat) (S : List (List UInt8)) (hl : S.length = n) (hn : n ≤ 256) (hr : RG KB W A S) (hf : ∀ b, footR KB W A S b → ¬ F.has b) (hS : ∀ x ∈ S, x.length = 256)
    (ok : g.Ok) : Calls Try.prog 27 #[.pointer (some ⟨G, 0, none⟩), .slice A n c] W fun e w' => e = .returned (.int .i64 ((wrAll d (g.first + g.written) S).2 : Int)) ∧ DkAt base F w' (wrAll d (g.first + g.written) S).1 ∧
      LgAt base F G v5 v6 Y w' { g with bad := decide ((wrAll d (g.first + g.written) S).2 ≠ 0) } ∧ Frm (fun b => F.has b ∨ b = G) W w' := by
  have hmf : ∀ (fn : Fn) (first cap : Array Value) (w : World), (Instr.makeFunc fn first cap).run Try.prog w = .ok (.func fn first cap) w := fun _ _ _ _ => rfl
  have hs1 := heap_size_alloc W (.cells #[.pointer (some ⟨G, 0, none⟩)] 27)
  have hs2 := heap_size_alloc (W.alloc (.cells #[.pointer (some ⟨G, 0, none⟩)] 27)) (.cells #[.int .i64 0] 28)
  have b1 := (Below.refl W.heap.size W).alloc (Nat.le_refl _) (.cells #[.pointer (some ⟨G, 0, none⟩)] 27)
  have b2 : Below W.heap.size W ((W.alloc (.cells #[.pointer (some ⟨G, 0, none⟩)] 27)).alloc (.cells #[.int .i64 0] 28)) := b1.alloc b1.size _
  have hB : ((W.alloc (.cells #[.pointer (some ⟨G, 0, none⟩)] 27)).alloc (.cells #[.int .i64 0] 28)).heap[W.heap.size]? = some (.cells #[.pointer (some ⟨G, 0, none⟩)] 27 (0, 0)) := (Below.heap_alloc _ _ _ (by omega)).trans (heap_alloc_last W _)
  have hR : ((W.alloc (.cells #[.pointer (some ⟨G, 0, none⟩)] 27)).alloc (.cells #[.int .i64 0] 28)).heap[W.heap.size + 1]? = some (.cells #[.int .i64 0] 28 (0, 0)) := by
    have := heap_alloc_last (W.alloc (.cells #[.pointer (some ⟨G, 0, none⟩)] 27)) (.cells #[.int .i64 0] 28)
    rwa [hs1] at this
  have nB : ¬ F.has W.heap.size := fun h => by have := dk.inside _ h; omega
  have nR : ¬ F.has (W.heap.size + 1) := fun h => by have := dk.inside _ h; omega
  have dk1 := dk.below b2
  have lg1 := lg.keep b2.size fun b hb' => b2.block b (ow_lt dk lg (.inr hb')).2
  have hGl := lg.lt
  have hr1 := hr.keepF (w' := (W.alloc (.cells #[.pointer (some ⟨G, 0, none⟩)] 27)).alloc (.cells #[.int .i64 0] 28)) fun b hb => b2.block b (RG.lt hb)
  have hrl : ∀ b, footR KB ((W.alloc (.cells #[.pointer (some ⟨G, 0, none⟩)] 27)).alloc (.cells #[.int .i64 0] 28)) A S b → ¬ F.has b ∧ b < W.heap.size := fun b hb => ⟨hf b (hr1.2 b hb), RG.lt (hr1.2 b hb)⟩
  go_enter_defers Try.func27, Try.ntmps27
  go_wp2_with fail
  have BF : Below W.heap.size W _ := b2
  generalize (W.alloc (.cells #[.pointer (some ⟨G, 0, none⟩)] 27)).alloc (.cells #[.int .i64 0] 28) = W1 at *
  have hBl : W.heap.size < W1.heap.size := by omega
  have hRl : W.heap.size + 1 < W1.heap.size := by omega
  -- what a world has that is W1 but for the disk and the result
  have CC := Lib.hid (show ∀ V, Frm (fun b => F.has b ∨ b = W.heap.size + 1) W1 V → V.cell? ⟨W.heap.size, 0, none⟩ = some (.pointer (some ⟨G, 0, none⟩)) ∧ V.cell? ⟨G, 0, none⟩ = some (.pointer (some ⟨F.b, 0, none⟩)) ∧ V.cell? ⟨G, 1, none⟩ = some (.int .i64 (g.first : Int)) ∧ V.cell? ⟨G, 4, none⟩ = some (.int .i64 (g.written : Int)) from fun V hv => by
    have hG : V.heap[G]? = W1.heap[G]? := hv.block G (by omega) (by rintro (h | h); exact lg.nf h; omega)
    have hb : V.heap[W.heap.size]? = W1.heap[W.heap.size]? := hv.block _ hBl (by rintro (h | h); exact nB h; omega)
    exact ⟨(cell_same (p := ⟨W.heap.size, 0, none⟩) hb).trans (cell_of_row _ _ 0 _ _ _ hB), (cell_same (p := ⟨G, 0, none⟩) hG).trans lg1.c0, (cell_same (p := ⟨G, 1, none⟩) hG).trans lg1.c1, (cell_same (p := ⟨G, 4, none⟩) hG).trans lg1.c4⟩)
  have FZ := Lib.hid (show ∀ V, Frm (fun b => F.has b ∨ b = W.heap.size + 1) W1 V → ∀ e : Nat, V.cell? ⟨W.heap.size + 1, 0, none⟩ = some (.int .i64 (e : Int)) → ∀ u, CallsD Try.prog 44 #[.pointer (some ⟨W.heap.size + 1, 0, none⟩), .pointer (some ⟨W.heap.size, 0, none⟩)] u V fun x u' w' => u' = u ∧ (x = .returned (.tuple #[]) ∧ w' = V.setCell ⟨G, 8, none⟩ (.bool (decide (e ≠ 0)))) from fun V hv e he u => by
    have hG : V.heap[G]? = W1.heap[G]? := hv.block G (by omega) (by rintro (h | h); exact lg.nf h; omega)
    exact waNote_d u (CC.out V hv).1 he ⟨_, (cell_same (p := ⟨G, 8, none⟩) hG).trans lg1.c8⟩ (by have := lg1.fz 8; unfold World.frozen? at this ⊢; rw [hG]; exact this))
  have FIN := Lib.hid (show ∀ V dk' (e : Nat), Frm (fun b => F.has b ∨ b = W.heap.size + 1) W1 V → DkAt base F V dk' → (wrAll d (g.first + g.written) S) = (dk', e) → DkAt base F (V.setCell ⟨G, 8, none⟩ (.bool (decide (e ≠ 0)))) (wrAll d (g.first + g.written) S).1 ∧
      LgAt base F G v5 v6 Y (V.setCell ⟨G, 8, none⟩ (.bool (decide (e ≠ 0)))) { g with bad := decide ((wrAll d (g.first + g.written) S).2 ≠ 0) } ∧ Frm (fun b => F.has b ∨ b = G) W (V.setCell ⟨G, 8, none⟩ (.bool (decide (e ≠ 0)))) from fun V dk' e hv kv hw => by
    rw [hw]
    have hk : LgAt base F G v5 v6 Y V g := lg1.keep hv.size fun b hb => hv.block b (ow_lt dk1 lg1 (.inr hb)).2 (by
      have hbl : b < W.heap.size := (ow_lt dk lg (.inr hb)).2
      rintro (h | h)
      · rcases hb with rfl | hb | hb
        · exact lg.nf h
        · exact (lg.rg b hb).2.1 h
        · exact (lg.yb b hb).2.2 h
      · omega)
    refine ⟨kv.frm (Frm.setCell V ⟨G, 8, none⟩ _ (X := fun b => b = G) rfl) fun k hk' e => lg.nf (by rw [← e]; exact hk'), hk.set 8 _ rfl hk.recs hk.rg hk.wait, ?_⟩
    have f1 : Frm (fun b => F.has b ∨ b = G) W V := (Frm.of_below BF).step hv fun i hi hil => by
      rcases hi with hi | hi
      · exact .inl hi
      · omega
    exact f1.trans (Frm.setCell V ⟨G, 8, none⟩ _ (.inr rfl)))
  have ST : Hid (∃ (k : Nat) (dk : Dk), k ≤ n ∧ (Value.int .i64 0) = .int .i64 (k : Int) ∧ WrSt base F G d (g.first + g.written) S W1 (W.heap.size + 1) k dk W1) := Lib.hid ⟨0, d, Nat.zero_le _, rfl, dk1, by simp, by omega, rfl, Frm.refl _ _, hR⟩
  have KW := Lib.hid (show ∀ V, Frm (fun b => F.has b ∨ b = W.heap.size + 1) W1 V → ∀ (k : Nat) (x : List UInt8), S[k]? = some x → ∃ ad B cb, A = some ad ∧ V.cell? (ad.add k) = some (.slice B x.length cb) ∧ x.length ≤ cb ∧ cb ≤ maxLen ∧ RB V B x ∧ (∀ a, B = some a → ¬ F.has a.block) ∧ x.length = 256 from fun V hv k x hx => by
    have hrV := hr1.1.keepF (w' := V) fun b hb => hv.block b (RG.lt hb) (by
      have := hrl b hb
      rintro (h | h)
      · exact this.1 h
      · omega)
    obtain ⟨ad, B, cb, rfl, q1, q2, q3, q4⟩ := RG.listAt hrV.1 hx
    have hx256 := hS x (List.mem_of_getElem? hx)
    refine ⟨ad, B, cb, rfl, q1, q2, q3, q4.rb, fun a ha => ?_, hx256⟩
    subst ha
    obtain ⟨ad', cs', e', c1, B', cb', rfl, q5, q6, q7⟩ := hrV.1 k x hx
    injection e' with e'
    subst e'
    have e8 := c1 0 _ rfl
    rw [Addr.add_nought, show k * KB.k = k from Nat.mul_one k, q1] at e8
    have e9 := Option.some.inj e8
    injection e9 with e9 _ e10
    subst e9 e10
    have hx0 : x[0]? = some (x[0]'(by omega)) := List.getElem?_eq_getElem _
    obtain ⟨ad2, cs2, e2, c2, c3⟩ := q7 0 _ hx0
    injection e2 with e2
    subst e2
    have hfoot : footR KB V (some ad) S a.block := ⟨k, x, ad, _, hx, rfl, c1, ⟨_, _, rfl, q5, q6, q7⟩, .inr ⟨_, _, rfl, 0, _, a, cs2, hx0, rfl, c2, c3, .inl rfl⟩⟩
    exact (hrl _ (hrV.2 _ hfoot)).1)
  have HL := Lib.hid hl
  have h1 := ok.wr
  have h2 := ok.cnt
  have h3 := ok.fst
  have HN := Lib.hid (show ((g.first : Int) + (g.written : Int)) = ((g.first + g.written : Nat) : Int) from by omega)
  have NR := Lib.hid nR
  have GL := Lib.hid hGl
  clear hl hr hf hr1 hrl lg lg1 dk dk1 hB hR nB nR b1 b2 hs1 hs2 ok BF hbad hS
  go_loopw [5, 6, 10] (fun _ _ i wr => ∃ (k : Nat) (dk : Dk), k ≤ n ∧ i = .int .i64 (k : Int) ∧ WrSt base F G d (g.first + g.written) S W1 (W.heap.size + 1) k dk wr) (fun _ _ i _ => n - (intOf i).toNat)
  case atStart => exact ST.out
  case round =>
    clear ST
    obtain ⟨k, dk, hk, rfl, st⟩ := hrel
    have HST := Lib.hid st
    have frd : Frm (fun b => F.has b ∨ b = W.heap.size + 1) W1 wr.drew := st.frm.trans (Frm.drew _ wr)
    have nR : ¬ F.has (W.heap.size + 1) := NR.out
    have hRn : wr.heap[W.heap.size + 1]? = some (.cells #[.int .i64 0] 28 (0, 0)) := st.res
    -- behind a call of the disk and the store of its error
    have AFT := Lib.hid (show ∀ w2, Frm F.has wr.drew w2 → w2.cell? ⟨W.heap.size + 1, 0, none⟩ = some (.int .i64 0) ∧ w2.frozen? ⟨W.heap.size + 1, 0, none⟩ = false ∧ Frm (fun b => F.has b ∨ b = W.heap.size + 1) W1 w2 ∧ ∀ v, Frm (fun b => F.has b ∨ b = W.heap.size + 1) W1 (w2.setCell ⟨W.heap.size + 1, 0, none⟩ v) ∧ (w2.setCell ⟨W.heap.size + 1, 0, none⟩ v).heap[W.heap.size + 1]? = some (.cells #[v] 28 (0, 0)) from fun w2 f2 => by
      have h2 : w2.heap[W.heap.size + 1]? = some (.cells #[.int .i64 0] 28 (0, 0)) := (f2.block _ (by show _ < wr.heap.size; exact (Array.getElem?_eq_some_iff.1 hRn).1) nR).trans hRn
      refine ⟨cell_of_row _ _ 0 _ _ _ h2, by simp [World.frozen?, h2], frd.trans (f2.mono fun b hb => Or.inl hb), fun v => ⟨(frd.trans (f2.mono fun b hb => Or.inl hb)).trans (Frm.setCell w2 _ v (.inr rfl)), ?_⟩⟩
      have := heap_setCell_block (i := 0) v h2
      simpa using this)
    by_cases hlt : k < n
    · obtain ⟨x, hx⟩ : ∃ x, S[k]? = some x := ⟨S[k]'(by rw [HL.out]; exact hlt), List.getElem?_eq_getElem _⟩
      obtain ⟨ad, B, cb, rfl, q1, q2, q3, q4, q5, q6⟩ := KW.out wr st.frm k x hx
      have KC := write_any st.disk.drew (by have := st.calls; omega) ((g.first + g.written + k : Nat) : Int) B x.length cb x rfl q4 q5
      have hdrop : S.drop k = x :: S.drop (k + 1) := drop_cons hx
      have hrest := st.rest
      rw [hdrop] at hrest
      have hcl := write_calls dk ((g.first + g.written + k : Nat) : Int) x
      have hstc := st.calls
      have hlenn := st.len
      have cc := CC.out wr.drew frd
      rw [q6] at KC
      have KC := Lib.hid KC
      clear st frd hRn nR q4 q5 hx
      have hk256 : g.first + g.written + k ≤ 10000 := by omega
      have HWK := Lib.hid (show IntKind.i64.wrap (IntKind.i64.wrap ((g.first : Int) + (g.written : Int)) + (k : Int)) = ((g.first + g.written + k : Nat) : Int) from by rw [wrap_few ((g.first : Int) + (g.written : Int)) (by omega) (by omega), wrap_few _ (by omega) (by omega)]; omega)
      by_cases h0 : dk.writeErr ((g.first + g.written + k : Nat) : Int) x = 0
      · rw [h0] at KC
        have hrest' := hrest.trans (wrAll_ok _ h0)
        have HREST := Lib.hid hrest'
        clear hrest hrest' h0
        go_upto_region 5 with fail
        go_region_held3 (fun V => V.cell? ⟨W.heap.size, 0, none⟩ = some (.pointer (some ⟨G, 0, none⟩)) ∧ V.cell? ⟨G, 0, none⟩ = some (.pointer (some ⟨F.b, 0, none⟩)) ∧ V.cell? ⟨G, 1, none⟩ = some (.int .i64 (g.first : Int)) ∧ V.cell? ⟨G, 4, none⟩ = some (.int .i64 (g.written : Int))) (first | with_reducible assumption | with_reducible exact cc | with_reducible exact cn | with_reducible exact cz _ | fail)
          (first
            | (go_at_call 45; rw [HWK.out]; refine KC.out.mono ?_; rintro e w2 ⟨rfl, d2, f2⟩; obtain ⟨cR, fR, fx, hset⟩ := AFT.out w2 f2; have D2 := Lib.hid d2; have HSET := Lib.hid hset; have cn := CC.out w2 fx; have cz := fun v => CC.out _ (HSET.out v).1; clear d2 f2 fx hset)
            | fail)
        all_goals
          clear cc cn cz
          have hw : ((dk.write ((g.first + g.written + k : Nat) : Int) x).rows.length) = dk.rows.length := by rw [dkWrite_rows]
          have NX := Lib.hid (show WrSt base F G d (g.first + g.written) S W1 (W.heap.size + 1) (k + 1) (dk.write ((g.first + g.written + k : Nat) : Int) x) (w2.setCell ⟨W.heap.size + 1, 0, none⟩ (.int .i64 0)) from ⟨D2.out.frm (Frm.setCell w2 _ _ (X := fun b => b = W.heap.size + 1) rfl) fun b hb e => NR.out (by rw [← e]; exact hb), HREST.out, by omega, by omega, (HSET.out _).1, (HSET.out _).2⟩)
          go_wp2
          go_roundw
          case rel => exact ⟨k + 1, _, by omega, by go_num, NX.out⟩
          case measure => simp [intOf]; omega
      · have hrest' := hrest.trans (wrAll_no _ h0)
        have HREST := Lib.hid hrest'
        generalize hE : dk.writeErr ((g.first + g.written + k : Nat) : Int) x = ei at *
        have h0I : ¬ ((ei : Int) = 0) := by omega
        clear hrest hrest' h0 hE
        go_upto_region 5 with fail
        go_region_held3 (fun V => V.cell? ⟨W.heap.size, 0, none⟩ = some (.pointer (some ⟨G, 0, none⟩)) ∧ V.cell? ⟨G, 0, none⟩ = some (.pointer (some ⟨F.b, 0, none⟩)) ∧ V.cell? ⟨G, 1, none⟩ = some (.int .i64 (g.first : Int)) ∧ V.cell? ⟨G, 4, none⟩ = some (.int .i64 (g.written : Int))) (first | with_reducible assumption | with_reducible exact cc | with_reducible exact cn | with_reducible exact cz _ | fail)
          (first
            | (go_at_call 45; rw [HWK.out]; refine KC.out.mono ?_; rintro e w2 ⟨rfl, d2, f2⟩; obtain ⟨cR, fR, fx, hset⟩ := AFT.out w2 f2; have D2 := Lib.hid d2; have HSET := Lib.hid hset; have cn := CC.out w2 fx; have cz := fun v => CC.out _ (HSET.out v).1; clear d2 f2 fx hset)
            | fail)
        all_goals
          clear cc cn cz
          obtain ⟨fA, hA⟩ := HSET.out (.int .i64 (ei : Int))
          have DR := Lib.hid (show ∀ b, F.has b → b ≠ W.heap.size + 1 from fun b hb e => NR.out (by rw [← e]; exact hb))
          have fB := fA.trans (Frm.setCell (w2.setCell ⟨W.heap.size + 1, 0, none⟩ (.int .i64 (ei : Int))) ⟨W.heap.size + 1, 0, none⟩ (.int .i64 (ei : Int)) (X := fun b => F.has b ∨ b = W.heap.size + 1) (.inr rfl))
          have hB := heap_setCell_block (i := 0) (.int .i64 (ei : Int)) hA
          have dB := (D2.out.frm (Frm.setCell w2 ⟨W.heap.size + 1, 0, none⟩ (.int .i64 (ei : Int)) (X := fun b => b = W.heap.size + 1) rfl) DR.out).frm (Frm.setCell _ ⟨W.heap.size + 1, 0, none⟩ (.int .i64 (ei : Int)) (X := fun b => b = W.heap.size + 1) rfl) DR.out
          have FN := Lib.hid (FIN.out _ _ ei fB dB HREST.out)
          have FF := Lib.hid (FZ.out _ fB ei (cell_of_row _ _ 0 _ _ _ hB) .returning)
          have RC := Lib.hid (show ∀ v, (((w2.setCell ⟨W.heap.size + 1, 0, none⟩ (.int .i64 (ei : Int))).setCell ⟨W.heap.size + 1, 0, none⟩ (.int .i64 (ei : Int))).setCell ⟨G, 8, none⟩ v).cell? ⟨W.heap.size + 1, 0, none⟩ = some (.int .i64 (ei : Int)) from fun v => (cell_same (p := ⟨W.heap.size + 1, 0, none⟩) (setCell_else _ G 8 v _ (by have := GL.out; show W.heap.size + 1 ≠ G; omega))).trans (cell_of_row _ _ 0 _ _ _ hB))
          clear fA hA fB hB dB
          go_wp2
          refine leaves_cons (f := 44) (args := #[.pointer (some ⟨W.heap.size + 1, 0, none⟩), .pointer (some ⟨W.heap.size, 0, none⟩)]) (by simp) (by simp [go_sem]) ?_
          refine FF.out.mono ?_
          rintro e u' w'' ⟨rfl, rfl, rfl⟩
          refine ⟨.int .i64 (ei : Int), by simp [results, Try.results27, go_sem, RC.out], by rw [HREST.out], FN.out⟩
    · obtain rfl : k = n := by omega
      have hrest := st.rest
      rw [List.drop_of_length_le (by rw [HL.out]; exact Nat.le_refl _), wrAll_nil] at hrest
      have HREST := Lib.hid hrest
      have KC := Lib.hid (sync_any st.disk (by have := st.calls; omega))
      have cc := CC.out wr st.frm
      have AFS := Lib.hid (show ∀ w2, Frm F.has wr w2 → w2.cell? ⟨W.heap.size + 1, 0, none⟩ = some (.int .i64 0) ∧ w2.frozen? ⟨W.heap.size + 1, 0, none⟩ = false ∧ Frm (fun b => F.has b ∨ b = W.heap.size + 1) W1 w2 ∧ ∀ v, Frm (fun b => F.has b ∨ b = W.heap.size + 1) W1 (w2.setCell ⟨W.heap.size + 1, 0, none⟩ v) ∧ (w2.setCell ⟨W.heap.size + 1, 0, none⟩ v).heap[W.heap.size + 1]? = some (.cells #[v] 28 (0, 0)) from fun w2 f2 => AFT.out w2 ⟨f2.os, f2.tape, f2.output, f2.size, f2.block⟩)
      clear st frd hRn nR hrest AFT
      generalize hE : dk.syncErr = ei at *
      clear hE
      go_wp2_with (first
        | (go_at_call 46; refine KC.out.mono ?_; rintro e w2 ⟨rfl, d2, f2⟩; obtain ⟨cR, fR, fx, hset⟩ := AFS.out w2 f2; have D2 := Lib.hid d2; have HSET := Lib.hid hset; clear d2 f2 fx hset)
        | fail)
      obtain ⟨fB, hB⟩ := HSET.out (.int .i64 (ei : Int))
      have DR := Lib.hid (show ∀ b, F.has b → b ≠ W.heap.size + 1 from fun b hb e => NR.out (by rw [← e]; exact hb))
      have dB := D2.out.frm (Frm.setCell w2 ⟨W.heap.size + 1, 0, none⟩ (.int .i64 (ei : Int)) (X := fun b => b = W.heap.size + 1) rfl) DR.out
      have FN := Lib.hid (FIN.out _ _ ei fB dB HREST.out)
      have FF := Lib.hid (FZ.out _ fB ei (cell_of_row _ _ 0 _ _ _ hB) .returning)
      have RC := Lib.hid (show ∀ v, ((w2.setCell ⟨W.heap.size + 1, 0, none⟩ (.int .i64 (ei : Int))).setCell ⟨G, 8, none⟩ v).cell? ⟨W.heap.size + 1, 0, none⟩ = some (.int .i64 (ei : Int)) from fun v => (cell_same (p := ⟨W.heap.size + 1, 0, none⟩) (setCell_else _ G 8 v _ (by have := GL.out; show W.heap.size + 1 ≠ G; omega))).trans (cell_of_row _ _ 0 _ _ _ hB))
      clear fB hB dB
      refine leaves_cons (f := 44) (args := #[.pointer (some ⟨W.heap.size + 1, 0, none⟩), .pointer (some ⟨W.heap.size, 0, none⟩)]) (by simp) (by simp [go_sem]) ?_
      refine FF.out.mono ?_
      rintro e u' w'' ⟨rfl, rfl, rfl⟩
      exact ⟨.int .i64 (ei : Int), by simp [results, Try.results27, go_sem, RC.out], by rw [HREST.out], FN.out⟩
end Go.Proofs.Ytochifbbefbehaa
