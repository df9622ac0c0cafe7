/- The document's stacks: Abort, Prune. -/
import Derived.Test.YtchfpgdioclajaaVtA
import Derived.Test.YtchfpgdioclajaaVsG
import Derived.StillTailTactics
namespace Go.Proofs.Ytchfpgdioclajaa
open Go.RowKit
set_option linter.unusedVariables false
set_option linter.unusedSimpArgs false
theorem StBox.put1' {W : World} {q : Nat} {key : ByteArray} {A : Option Addr} {n c : Nat} (h : StBox W q key A n c) (A' : Option Addr) (n' c' : Nat) : StBox (W.setCell ⟨q, 1, none⟩ (.slice A' n' c')) q key A' n' c' := by
  obtain ⟨a0, a1, f0, f1⟩ := h
  constructor <;> simp [World.cell?_setCell_other, World.cell?_setCell_same', a0, a1, f0, f1]
theorem StBox.same' {W W' : World} {q : Nat} {key : ByteArray} {A : Option Addr} {n c : Nat} (h : StBox W q key A n c) (hb : W'.heap[q]? = W.heap[q]?) : StBox W' q key A n c := by
  have hc : ∀ i, W'.cell? ⟨q, i, none⟩ = W.cell? ⟨q, i, none⟩ := fun i => cell_same (p := ⟨q, i, none⟩) hb
  have hf : ∀ i, W'.frozen? ⟨q, i, none⟩ = W.frozen? ⟨q, i, none⟩ := fun i => by unfold World.frozen?; rw [hb]
  exact ⟨(hc 0).trans h.c0, (hc 1).trans h.c1, (hf 0).trans h.f0, (hf 1).trans h.f1⟩
theorem VnAt.drewV {w : World} {p : Addr} {r : Vn} (h : VnAt w p r) : VnAt w.drew p r := ⟨h.c0, h.c1, h.c2, h.c3⟩
theorem OG.cellV {T : TypeId} {base : Nat} {W : World} {v : Value} {l : List Vn} (h : OG KV T base W v l) {q : Nat} (hq : q < base) (i : Nat) (u : Value) : OG KV T base (W.setCell ⟨q, i, none⟩ u) v l := by
  obtain ⟨css, h1, h2, h3⟩ := h
  exact ⟨css, ownsRow_keepB h1 fun b hb => setCell_else W q i u b (by have := (World.ownsRow.lt h1 b hb).1; omega), h2, h3⟩
/-- What the loop of Abort and of Prune has: the stack, the result, and the stack that grows at x. -/
structure FlW (w : World) (key : ByteArray) (A : Option Addr) (n c : Nat) (x : Nat) (W : World) (B : Option Addr) (m d : Nat) (L : List Vn) : Prop where
  b : Below w.heap.size w W
  s : StBox W w.heap.size key A n c
  r : StBox W (w.heap.size + 1) ⟨#[]⟩ none 0 0
  g : StBox W x key B m d
  o : OG KV 26 (x + 1) W (.slice B m d) L
  hx : w.heap.size + 1 < x
  ml : L.length = m
theorem FlW.fin {w : World} {key : ByteArray} {A : Option Addr} {n c x : Nat} {W : World} {B : Option Addr} {m d : Nat} {L : List Vn} (h : FlW w key A n c x W B m d L) :
    StBox (setSt W (w.heap.size + 1) key (.slice B m d)) (w.heap.size + 1) key B m d ∧ OG KV 26 w.heap.size (setSt W (w.heap.size + 1) key (.slice B m d)) (.slice B m d) L ∧ Below w.heap.size w (setSt W (w.heap.size + 1) key (.slice B m d)) :=
  ⟨h.r.put key B m d, (h.o.setSt (q := w.heap.size + 1) (by have := h.hx; omega) key (.slice B m d)).lift (by have := h.hx; omega), belowSetSt h.b (by omega) key (.slice B m d)⟩
theorem FlW.next {w : World} {key : ByteArray} {A : Option Addr} {n c x : Nat} {W W' : World} {B B' : Option Addr} {m d m' d' : Nat} {L L' : List Vn} (h : FlW w key A n c x W B m d L) (hb : Below (x + 1) W W') (o : OG KV 26 (x + 1) W' (.slice B' m' d') L') (hm : L'.length = m') : FlW w key A n c x (W'.setCell ⟨x, 1, none⟩ (.slice B' m' d')) B' m' d' L' := by
  have hx := h.hx
  exact ⟨(h.b.trans (hb.mono (by omega))).setCell (p := ⟨x, 1, none⟩) (by simp; omega) _, (h.s.below hb (by omega)).off (by omega) _ _, (h.r.below hb (by omega)).off (by omega) _ _, (h.g.below hb (by omega)).put1' B' m' d', o.cellV (by omega) 1 _, hx, hm⟩
theorem FlW.lt {w : World} {key : ByteArray} {A : Option Addr} {n c x : Nat} {W : World} {B : Option Addr} {m d : Nat} {L : List Vn} (h : FlW w key A n c x W B m d L) : x + 1 ≤ W.heap.size := h.g.lt
theorem FlW.new (w : World) (key : ByteArray) (A : Option Addr) (n c : Nat) : FlW w key A n c (w.heap.size + 2) (((w.alloc (.cells #[.string key, .slice A n c] 24)).alloc (.cells #[.string ⟨#[]⟩, .slice none 0 0] 24)).alloc (.cells #[.string key, .slice none 0 0] 24)) none 0 0 [] := by
  have b1 := below1 w (.cells #[.string key, .slice A n c] 24)
  have s1 := heap_size_alloc w (.cells #[.string key, .slice A n c] 24)
  have x1 := StBox.new w key A n c 24
  generalize w.alloc (.cells #[.string key, .slice A n c] 24) = w1 at *
  have b2 := below1 w1 (.cells #[.string ⟨#[]⟩, .slice none 0 0] 24)
  have s2 := heap_size_alloc w1 (.cells #[.string ⟨#[]⟩, .slice none 0 0] 24)
  have x2 := StBox.new w1 ⟨#[]⟩ none 0 0 24
  generalize w1.alloc (.cells #[.string ⟨#[]⟩, .slice none 0 0] 24) = w2 at *
  have b3 := below1 w2 (.cells #[.string key, .slice none 0 0] 24)
  have x3 := StBox.new w2 key none 0 0 24
  generalize w2.alloc (.cells #[.string key, .slice none 0 0] 24) = w3 at *
  have e1 : w1.heap.size = w.heap.size + 1 := s1
  have e2 : w2.heap.size = w.heap.size + 2 := by omega
  rw [e1] at x2
  rw [e2] at x3
  have b23 : Below w1.heap.size w1 w3 := b2.trans (b3.mono (by omega))
  exact ⟨b1.trans (b23.mono (by omega)), x1.on b23, x2.on b3, x3, OG.nil, by omega, rfl⟩
set_option maxHeartbeats 1000000 in
set_option maxRecDepth 100000 in
theorem refAbort_any (key : ByteArray) (A : Option Addr) (n c : Nat) (l : List Vn) (t : Int) (w : World) (hl : l.length = n) (hn : n ≤ 1000) (hr : RG KV w A l) :
    Calls Try.prog 45 #[.agg #[.string key, .slice A n c], .int .i64 t] w fun e w' => ∃ v', e = .returned (.agg #[.string key, v']) ∧ OG KV 26 w.heap.size w' v' (vsAbort l t) ∧ Below w.heap.size w w' := by
  have M := Lib.hid (FlW.new w key A n c)
  have HL := Lib.hid hl
  have HR := Lib.hid (fun W (h : Below w.heap.size w W) => hr.below h)
  clear hl hr
  go_enter Try.func45, Try.ntmps45
  go_upto_region 2 with fail
  generalize ((w.alloc (.cells #[.string key, .slice A n c] 24)).alloc (.cells #[.string ⟨#[]⟩, .slice none 0 0] 24)).alloc (.cells #[.string key, .slice none 0 0] 24) = W0 at *
  obtain ⟨x, hx⟩ : ∃ x, x = w.heap.size + 2 := ⟨_, rfl⟩
  rw [← hx] at M
  have HX := Lib.hid hx
  go_wp2
  go_loopw [6] (fun i wr => ∃ (k : Nat) (B : Option Addr) (m d : Nat), k ≤ n ∧ i = .int .i64 (k : Int) ∧ FlW w key A n c (w.heap.size + 2) wr B m d (vsAbort (l.take k) t)) (fun i _ => n - (intOf i).toNat)
  case atStart => exact ⟨0, none, 0, 0, Nat.zero_le _, rfl, by rw [← HX.out]; exact M.out⟩
  case round =>
    clear M HX hx
    obtain ⟨k, B, m, d, hk, rfl, hM⟩ := hrel
    have M := Lib.hid hM
    have s0 := hM.s.c0; have s1 := hM.s.c1
    by_cases hlt : k < n
    · obtain ⟨y, hy⟩ : ∃ y, l[k]? = some y := ⟨l[k]'(by rw [HL.out]; exact hlt), List.getElem?_eq_getElem _⟩
      obtain ⟨ad, rfl, hv⟩ := (HR.out _ hM.b).vn hy
      have HS : Hid (vsAbort (l.take (k + 1)) t = vsAbort (l.take k) t ++ if vsPend t y then [] else [y]) := Lib.hid (by
        unfold vsAbort
        rw [List.take_add_one, hy, Option.toList_some, List.filter_append]
        cases h : vsPend t y <;> simp [h])
      have hml : (vsAbort (l.take k) t).length ≤ k := by
        have := (vsAbort_sub (l.take k) t).length_le
        rw [List.length_take] at this
        omega
      have HV := Lib.hid hv
      have c0 := hv.d0; have c1 := hv.d1
      generalize vsAbort (l.take k) t = L at *
      clear hM hy hv
      have hk9 : k < 1000 := by omega
      by_cases hp : y.ts = 0 ∧ y.txn = t
      · have d1 : (y.ts != 0) = false := by simp [hp.1]
        have d2 : (y.txn != t) = false := by simp [hp.2]
        have HS2 : Hid (vsAbort (l.take (k + 1)) t = L) := Lib.hid (by rw [HS.out, if_pos (by simp [vsPend, hp.1, hp.2]), List.append_nil])
        clear hp
        go_wp2
        go_round
        case rel => exact ⟨k + 1, B, m, d, by omega, by go_num, by rw [HS2.out]; exact M.out⟩
        case measure => simp [intOf]; omega
      · have HS2 : Hid (vsAbort (l.take (k + 1)) t = L ++ [y]) := Lib.hid (by rw [HS.out, if_neg (by simpa [vsPend] using hp)])
        have HX := Lib.hid M.out.hx
        have HML := Lib.hid M.out.ml
        have ZX := Lib.hid M.out.lt
        have g1 := M.out.g.c1
        have g0 := M.out.g.c0
        have gf := M.out.g.f1
        have c2 := HV.out.d2; have c3 := HV.out.d3
        have HOx : Hid (OG KV 26 (w.heap.size + 2 + 1) (wr.alloc (.cells #[.int .i64 y.txn, .int .i64 y.ts, .bool y.gone, .string y.val] 26)).drew (.slice B m d) L) := Lib.hid ((M.out.o.alloc _).drew)
        have HBx : Hid (Below (w.heap.size + 2 + 1) wr (wr.alloc (.cells #[.int .i64 y.txn, .int .i64 y.ts, .bool y.gone, .string y.val] 26)).drew) := Lib.hid ((Below.refl _ wr).alloc ZX.out _).drew
        have HRL := Lib.hid (rgV_lit wr y 26).drew
        have gz := (M.out.g.alloc (.cells #[.int .i64 y.txn, .int .i64 y.ts, .bool y.gone, .string y.val] 26)).drew.c1
        have hcase : (y.ts != 0) = true ∨ ((y.ts != 0) = false ∧ (y.txn != t) = true) := by
          by_cases h1 : y.ts = 0
          · exact .inr ⟨by simp [h1], by simp; exact fun h => hp ⟨h1, h⟩⟩
          · exact .inl (by simp [h1])
        clear hp HX
        rcases hcase with d1 | ⟨d1, d2⟩
        all_goals
          go_upto_region 6 with fail
          have g1 := M.out.g.drew.c1
          have s1 := M.out.s.drew.c1
          have hd0 := (HV.out.drewV).d0; have hd1 := (HV.out.drewV).d1; have hd2 := (HV.out.drewV).d2; have hd3 := (HV.out.drewV).d3
          go_region_law (refine step_append_G tgV rfl (.tmp 35) (.tmp 41) rfl (w.heap.size + 2 + 1) (.slice B m d) L rfl HOx.out (some ⟨wr.heap.size, 0, none⟩) 1 1 [y] rfl rfl HRL.out (Apart.flat vn_flat) ?_ ?_ ?_; (omega); (exact Nat.le_trans ZX.out HBx.out.size); intro v2 w2 o2 b2 _ _; obtain ⟨B2, e2, h2e, h21, h22, h23, h24⟩ := o2.rg; (rw [List.length_append, List.length_singleton] at h2e); subst h2e; have BB := HBx.out.trans b2; have GX := M.out.g.below BB (Nat.lt_succ_self _); have q1 := GX.c1; have q2 := GX.f1; have NX := Lib.hid (M.out.next (m' := L.length + 1) BB o2 (by simp)); clear o2 b2 BB GX h21 h22 h23 h24)
          all_goals go_wp2
          all_goals
            go_round
            case rel => exact ⟨k + 1, B2, _, e2, by omega, by go_num, by rw [HS2.out]; exact NX.out⟩
            case measure => simp [intOf]; omega
    · obtain rfl : k = n := by omega
      have HM := Lib.hid hM
      rw [List.take_of_length_le (by rw [HL.out]; exact Nat.le_refl _)] at HM
      obtain ⟨f1, f2, f3⟩ := HM.out.fin
      have g0 := HM.out.g.c0; have g1 := HM.out.g.c1; have r0 := HM.out.r.c0; have r1 := HM.out.r.c1; have h0 := HM.out.r.f0; have h1 := HM.out.r.f1
      have FF := Lib.hid f1
      have FO := Lib.hid f2
      have FB := Lib.hid f3
      clear hM f1 f2 f3
      go_wp2
      have z0 := FF.out.c0; have z1 := FF.out.c1
      have o4 := FO.out; have b4 := FB.out
      unfold setSt at z0 z1 o4 b4
      refine bodyPost_ret (v := .agg #[.string key, .slice B m d]) (by simp [results, Try.results45, go_sem, z0, z1]) rfl ⟨_, rfl, o4, b4⟩
end Go.Proofs.Ytchfpgdioclajaa
