/- Joined: BlC BlD. -/
import Derived.Test.YtegjeijiekggdaaGreatDoorM02
import Derived.Test.YtegjeijiekggdaaGreatDoorM03
import Derived.Test.YtegjeijiekggdaaGreatDoorM08
import Derived.Deep.DeepMust
section
/- The package blocks: Write. -/
namespace Go.Proofs.YtegjeijiekggdaaGreatDoor
open Go.RowKit
set_option linter.unusedVariables false
/-- A sector's part of a block. -/
def part (b : List UInt8) (k : Nat) : List UInt8 := (b.drop (k * 256)).take 256
theorem part_len {b : List UInt8} {k : Nat} (hb : b.length = 1024) (hk : k < 4) : (part b k).length = 256 := by
  unfold part
  rw [List.length_take, List.length_drop, hb]
  omega
/-- The first k sectors of a block are written, up to the first error. -/
def Dk.bw (s : Dk) (x : Int) (b : List UInt8) : Nat → Dk × Nat
  | 0 => (s, 0)
  | k + 1 => if (s.bw x b k).2 = 0 then ((s.bw x b k).1.write (x + k) (part b k), (s.bw x b k).1.writeErr (x + k) (part b k)) else s.bw x b k
theorem Dk.bw_stop {s : Dk} {x : Int} {b : List UInt8} {k : Nat} (h : (s.bw x b k).2 ≠ 0) : ∀ j, k ≤ j → s.bw x b j = s.bw x b k := by
  intro j hj
  induction j with
  | zero => obtain rfl : k = 0 := by omega
            rfl
  | succ j ih =>
    by_cases e : k = j + 1
    · subst e; rfl
    · have ih := ih (by omega)
      show (if (s.bw x b j).2 = 0 then _ else s.bw x b j) = _
      rw [ih, if_neg h]
def Dk.bwrite (s : Dk) (a : Ar) (n : Int) (l : List UInt8) : Dk × Nat :=
  if a.fault s.rows.length n ≠ 0 then (s, a.fault s.rows.length n) else if 1016 < l.length then (s, 5) else s.bw (a.first + 4 * n) (sealL l 1024) 4
theorem Dk.call_calls (s : Dk) (upd : Dk → Dk) (h : ∀ t : Dk, (upd t).calls = t.calls) : (s.call upd).calls ≤ s.calls + 1 := by
  unfold Dk.call
  repeat (first | split | simp [h])
theorem Dk.write_calls (s : Dk) (n : Int) (l : List UInt8) : (s.write n l).calls ≤ s.calls + 1 := by
  unfold Dk.write
  split
  · omega
  · exact Dk.call_calls _ _ fun t => rfl
theorem Dk.bw_calls (s : Dk) (x : Int) (b : List UInt8) : ∀ k, (s.bw x b k).1.calls ≤ s.calls + k
  | 0 => Nat.le_refl _
  | k + 1 => by
    have ih := Dk.bw_calls s x b k
    unfold Dk.bw
    split
    · have := Dk.write_calls (s.bw x b k).1 (x + k) (part b k)
      show ((s.bw x b k).1.write _ _).calls ≤ _
      omega
    · omega
/-- Between two sectors that are written. -/
def BwRel (base : Nat) (F : Ft) (s : Dk) (w : World) (g g2 : Nat) (x : Int) (B : List UInt8) (i : Value) (wr : World) : Prop :=
  ∃ k : Nat, k ≤ 4 ∧ i = .int .i64 (k : Int) ∧ (s.bw x B k).2 = 0 ∧ DkAt base F wr (s.bw x B k).1 ∧ Four wr g2 x 4 ∧ RB wr (some ⟨g, 0, none⟩) B ∧ Frm F.has w wr
theorem part_rb {w : World} {g : Nat} {B : List UInt8} (h : RB w (some ⟨g, 0, none⟩) B) (k : Nat) : RB w (some ⟨g, k * 256, none⟩) (part B k) := by
  have := (h.drop (k * 256)).take 256
  have e : (⟨g, 0, none⟩ : Addr).add (k * 256) = ⟨g, k * 256, none⟩ := by cases k <;> simp [Addr.add]
  rw [e] at this
  exact this
set_option maxHeartbeats 2000000 in
set_option maxRecDepth 100000 in
theorem bwrite_any {base : Nat} {F : Ft} {w : World} {s : Dk} (h : DkAt base F w s) (hcalls : s.calls < 4611686018427387900) (a : Ar) (n : Int) (A : Option Addr) (m c : Nat) (l : List UInt8) (hl : l.length = m) (hm : m ≤ 1099511627776) (hr : RB w A l) :
    Calls Tryz.prog 67 #[.pointer (some ⟨F.b, 0, none⟩), a.v, .int .i64 n, .slice A m c] w fun e w' => e = .returned (.int .i64 ((s.bwrite a n l).2 : Int)) ∧ DkAt base F w' (s.bwrite a n l).1 ∧ Frm F.has w w' := by
  have K1 := Lib.hid (fun W (hb : Below w.heap.size w W) => bfault_any (h.below hb) a n)
  have HZ := Lib.hid (show ∀ f, f = a.fault s.rows.length n → f ≠ 0 → s.bwrite a n l = (s, f) from fun f hf h0 => by subst hf; exact if_pos h0)
  have HB := Lib.hid (show a.fault s.rows.length n = 0 → 1016 < l.length → s.bwrite a n l = (s, 5) from fun h0 h1 => (if_neg (by simp [h0])).trans (if_pos h1))
  have HS := Lib.hid (show a.fault s.rows.length n = 0 → ¬ 1016 < l.length → s.bwrite a n l = s.bw (a.first + 4 * n) (sealL l 1024) 4 from fun h0 h1 => (if_neg (by simp [h0])).trans (if_neg h1))
  have KN := Lib.hid (fun W (h1 : a.may = true) (h2 : a.has n = true) => sectors_some a n W h1 h2)
  have HF := Lib.hid (show a.fault s.rows.length n = 0 → a.may = true ∧ a.has n = true from fun h0 => by
    unfold Ar.fault at h0
    split at h0
    · rename_i h1
      unfold Ar.check at h1
      split at h1
      · rename_i h2
        split at h0
        · rename_i h3
          exact ⟨h2.1, h3⟩
        · cases h0
      · cases h1
    · cases h0)
  have D0 := Lib.hid h
  have R0 := Lib.hid hr
  have L0 := Lib.hid hl
  have inn := Lib.hid h.inside
  obtain ⟨p, q⟩ := a
  have K1 : Hid (∀ W, Below w.heap.size w W → Calls Tryz.prog 118 #[.pointer (some ⟨F.b, 0, none⟩), .agg #[.int .i64 p, .int .i64 q], .int .i64 n] W fun e w' => e = .returned (.int .i64 (Ar.fault ⟨p, q⟩ s.rows.length n : Int)) ∧ Below W.heap.size W w') := K1
  show Calls Tryz.prog 67 #[.pointer (some ⟨F.b, 0, none⟩), .agg #[.int .i64 p, .int .i64 q], .int .i64 n, .slice A m c] w _
  have KN : Hid (∀ W, Ar.may ⟨p, q⟩ = true → Ar.has ⟨p, q⟩ n = true → Calls Tryz.prog 119 #[.agg #[.int .i64 p, .int .i64 q], .int .i64 n] W fun e w' => ∃ g, e = .returned (.slice (some ⟨g, 0, none⟩) 4 4) ∧ W.heap.size < g ∧ Four w' g (p + 4 * n) 4 ∧ Below W.heap.size W w') := KN
  have HS : Hid (Ar.fault ⟨p, q⟩ s.rows.length n = 0 → ¬ 1016 < l.length → s.bwrite ⟨p, q⟩ n l = s.bw (p + 4 * n) (sealL l 1024) 4) := HS
  have B0 := Lib.hid ((Below.refl _ w).alloc (Nat.le_refl _) (.cells #[.int .i64 p, .int .i64 q] 105))
  have hz := heap_size_alloc w (.cells #[.int .i64 p, .int .i64 q] 105)
  generalize s.bwrite ⟨p, q⟩ n l = R at *
  generalize Ar.fault ⟨p, q⟩ s.rows.length n = f at *
  clear h hr hl
  by_cases hf : f = 0
  · subst hf
    have HM := Lib.hid (HF.out rfl)
    have HR2 := Lib.hid (show (1016 < m → R = (s, 5)) ∧ (¬ 1016 < m → R = s.bw (p + 4 * n) (sealL l 1024) 4) from ⟨fun h => HB.out rfl (by rw [L0.out]; exact h), fun h => HS.out rfl (by rw [L0.out]; exact h)⟩)
    clear HF HB HS HZ
    go_enter Tryz.func67, Tryz.ntmps67
    go_wp2_with fail
    refine (K1.out _ B0.out).mono ?_
    rintro e w1 ⟨rfl, b1⟩
    have B1 := Lib.hid (B0.out.trans (b1.mono (by omega)))
    have hh : w1.heap[w.heap.size]? = some (.cells #[.int .i64 p, .int .i64 q] 105 (0, 0)) := (b1.block _ (by omega)).trans (heap_alloc_last w _)
    have HH := Lib.hid hh
    have hs1 := (Array.getElem?_eq_some_iff.1 hh).1
    clear b1 hh K1
    by_cases hbig : 1016 < m
    · have KB := Lib.hid (seal_big A m c 1024 w1 (by omega) (by omega) (by omega))
      go_wp2_with fail
      refine KB.out.mono ?_
      rintro e w2 ⟨rfl, rfl⟩
      go_wp2
      go_ret
      rw [HR2.out.1 hbig]
      exact ⟨rfl, D0.out.below B1.out, Frm.of_below B1.out⟩
    · have KB := Lib.hid (seal_ok A m c 1024 l w1 L0.out (by omega) (by omega) (R0.out.below B1.out))
      go_wp2_with fail
      refine KB.out.mono ?_
      rintro e w2 ⟨v2, rfl, o2, b2⟩
      have HR := Lib.hid (HR2.out.2 hbig)
      have HL2 := Lib.hid (seal_len l 1024 (by rw [L0.out]; omega))
      generalize sealL l 1024 = B at *
      obtain ⟨g, c2, rfl, hg, hc2⟩ : ∃ g c2, v2 = .slice (some ⟨g, 0, none⟩) 1024 c2 ∧ w1.heap.size ≤ g ∧ 1024 ≤ c2 := by
        rcases o2.2 with ⟨e, h0⟩ | ⟨g, cap, cur, e, hb, hh, hc, _⟩
        · rw [HL2.out] at h0; cases h0
        · exact ⟨g, cap, by rw [e, HL2.out], hb, by rw [HL2.out] at hc; exact hc⟩
      have r2 := Lib.hid o2.reads
      have B2 := Lib.hid (B1.out.trans (b2.mono B1.out.size))
      have HH2 := Lib.hid ((b2.block _ hs1).trans HH.out)
      have x0 : w2.cell? ⟨w.heap.size, 0, none⟩ = some (.int .i64 p) := (cell_of_row w2 _ 0 _ _ _ HH2.out).trans rfl
      have x1 : w2.cell? ⟨w.heap.size, 1, none⟩ = some (.int .i64 q) := (cell_of_row w2 _ 1 _ _ _ HH2.out).trans rfl
      clear o2 b2 KB HR2
      go_wp2_with fail
      refine (KN.out _ HM.out.1 HM.out.2).mono ?_
      rintro e w3 ⟨g2, rfl, hg2, f3, b3⟩
      have B3 := Lib.hid (B2.out.trans (b3.mono B2.out.size))
      have r3 := r2.out.below b3
      have ST : Hid (BwRel base F s w g g2 (p + 4 * n) B (.int .i64 ((0 : Nat) : Int)) w3) := Lib.hid ⟨0, by omega, rfl, rfl, D0.out.below B3.out, f3, r3, Frm.of_below B3.out⟩
      have gg := Lib.hid (show ¬ F.has g ∧ ¬ F.has g2 from ⟨fun hx => by have := inn.out g hx; omega, fun hx => by have := inn.out g2 hx; have := B2.out.size; omega⟩)
      clear r3 f3 b3 x0 x1 KN HM HH HH2 hg2
      generalize p + 4 * n = x at *
      go_wp2
      go_loopw [12, 13, 14, 15, 35] (fun _ _ _ _ i wr => BwRel base F s w g g2 x B i wr) (fun _ _ _ _ i _ => 4 - (RowKit.intOf i).toNat)
      case atStart => exact ST.out
      case round =>
        obtain ⟨k, hk, rfl, he, hd, hf4, hrb, hfr⟩ := hrel
        have HE := Lib.hid he
        have HFR := Lib.hid hfr
        have HFF := Lib.hid hf4
        have HRB := Lib.hid hrb
        by_cases hlt : k < 4
        · have k0 : (k : Int) < 4 := by omega
          have y0 : wr.cell? ⟨g2, k, none⟩ = some (.int .i64 (x + k)) := by
            rw [hf4.cell k]
            match k, hlt with
            | 0, _ => simp [four]
            | 1, _ => simp [four]
            | 2, _ => simp [four]
            | 3, _ => simp [four]
          have KW := Lib.hid (write_any hd (by have := Dk.bw_calls s x B k; omega) (x + k) (some ⟨g, k * 256, none⟩) 256 (c2 - k * 256) (part B k) (part_len HL2.out hlt) (part_rb hrb k) (fun ad e => by injection e with e; subst e; exact gg.out.1))
          clear he hd hf4 hrb hfr
          go_wp2_with fail
          refine KW.out.mono ?_
          rintro e w4 ⟨rfl, d4, fr4⟩
          have HN := Lib.hid (show s.bw x B (k + 1) = ((s.bw x B k).1.write (x + k) (part B k), (s.bw x B k).1.writeErr (x + k) (part B k)) from if_pos HE.out)
          have FR4 := Lib.hid (HFR.out.trans fr4)
          have F4 := Lib.hid (show Four w4 g2 x 4 from (fr4.block g2 (Array.getElem?_eq_some_iff.1 HFF.out).1 gg.out.2).trans HFF.out)
          have R4 := Lib.hid (fr4.rb HRB.out gg.out.1)
          have D4 := Lib.hid d4
          clear d4 fr4 KW
          by_cases h0 : (s.bw x B k).1.writeErr (x + k) (part B k) = 0
          · have H0 := Lib.hid h0
            rw [h0]
            clear h0
            generalize (s.bw x B k).1.write (x + k) (part B k) = t at *
            go_wp2
            go_roundw
            case rel => exact ⟨k + 1, by omega, by go_num, by rw [HN.out]; exact H0.out, by rw [HN.out]; exact D4.out, F4.out, R4.out, FR4.out⟩
            case measure => simp [RowKit.intOf]; omega
          · have hst := Lib.hid (Dk.bw_stop (s := s) (x := x) (b := B) (k := k + 1) (by rw [HN.out]; exact h0) 4 (by omega))
            have hb : ((((s.bw x B k).1.writeErr (x + k) (part B k) : Nat) : Int) != 0) = true := by rw [bne_iff_ne]; omega
            generalize (s.bw x B k).1.writeErr (x + k) (part B k) = er at *
            generalize (s.bw x B k).1.write (x + k) (part B k) = t at *
            clear h0
            go_wp2
            go_ret
            rw [HR.out, hst.out, HN.out]
            exact ⟨rfl, D4.out, FR4.out⟩
        · obtain rfl : k = 4 := by omega
          have D4 := Lib.hid hd
          clear he hd hf4 hrb hfr
          go_wp2
          go_ret
          rw [HR.out, HE.out]
          exact ⟨rfl, D4.out, HFR.out⟩
  · have HR := Lib.hid (HZ.out f rfl hf)
    have hb : ((f : Int) != 0) = true := by rw [bne_iff_ne]; omega
    clear HB HS HZ HF KN hf
    go_enter Tryz.func67, Tryz.ntmps67
    go_wp2_with fail
    refine (K1.out _ B0.out).mono ?_
    rintro e w1 ⟨rfl, b1⟩
    have B1 := Lib.hid (B0.out.trans (b1.mono (by omega)))
    clear b1 K1
    go_wp2
    go_ret
    rw [HR.out]
    exact ⟨rfl, D0.out.below B1.out, Frm.of_below B1.out⟩
end Go.Proofs.YtegjeijiekggdaaGreatDoor
end
section
/- The package blocks: Read. -/
namespace Go.Proofs.YtegjeijiekggdaaGreatDoor
open Go.RowKit
set_option linter.unusedVariables false
/-- What the first k sectors from x on read. -/
def Dk.rd (s : Dk) (x : Nat) : Nat → List UInt8
  | 0 => []
  | k + 1 => s.rd x k ++ s.at_ (x + k)
def Dk.bread (s : Dk) (a : Ar) (n : Int) : List UInt8 × Nat :=
  if a.fault s.rows.length n ≠ 0 then ([], a.fault s.rows.length n) else if s.off = true then ([], 8) else opn (s.rd (a.first + 4 * n).toNat 4) 1024
theorem Dk.rd_len {s : Dk} (h : s.Ok) {x : Nat} : ∀ {k : Nat}, x + k ≤ s.rows.length → (s.rd x k).length = 256 * k
  | 0, _ => rfl
  | k + 1, hk => by
    show (s.rd x k ++ s.at_ (x + k)).length = _
    rw [List.length_append, Dk.rd_len h (by omega), Dk.at_len h (by omega)]
    omega
/-- What a block that has no fault is. -/
theorem Ar.fault_ok {a : Ar} {size : Nat} {n : Int} (h : a.fault size n = 0) : a.may = true ∧ a.has n = true ∧ ∃ X : Nat, a.first + 4 * n = (X : Int) ∧ X + 4 ≤ size := by
  unfold Ar.fault at h
  split at h
  · rename_i h1
    unfold Ar.check at h1
    split at h1
    · rename_i h2
      split at h
      · rename_i h3
        refine ⟨h2.1, h3, (a.first + 4 * n).toNat, ?_⟩
        have m1 : 0 ≤ a.first ∧ a.first ≤ 4096 ∧ 0 ≤ a.count ∧ a.count ≤ 512 := of_decide_eq_true h2.1
        have m2 : 0 ≤ n ∧ n < a.count := of_decide_eq_true h3
        have m3 := h2.2
        omega
      · cases h
    · cases h1
  · cases h
theorem zeroArr_eq : Tryz.zeroCells179 = (cellsB (List.replicate 1024 0)).toArray := by kernel_rfl
/-- An array of bytes lies in a block. -/
def Arr (w : World) (g : Nat) (l : List UInt8) : Prop := w.heap[g]? = some (.cells (cellsB l).toArray 179 (0, 0))
set_option maxRecDepth 100000 in
theorem slice_arr (W : World) (g k : Nat) (hk : k < 4) : (Instr.sliceAt 179 (.pointer (some ⟨g, 0, none⟩)) (some (.int .i64 ((k : Int) * 256))) none none).run Tryz.prog W = .ok (.slice (some ⟨g, k * 256, none⟩) (1024 - k * 256) (1024 - k * 256)) W := by
  have hu : Tryz.prog.underlying 179 = some (.array (Tryz.prog.arrayLen 179) (Tryz.prog.elem 179)) := by kernel_rfl
  have hl : Tryz.prog.arrayLen 179 = 1024 := by kernel_rfl
  have he : Tryz.prog.elem 179 = 5 := by kernel_rfl
  rw [run_sliceAt_array_l W 179 ⟨g, 0, none⟩ hu .i64 _ (by omega) (by rw [hl]; omega), hl, he]
  have hs : (sizeOf 5).run Tryz.prog W = .ok 1 W := by simp [go_sem]
  rw [hs]
  have e : ((k : Int) * 256).toNat = k * 256 := by omega
  simp only [Result.andThen_ok, slicedAt, e]
  rw [if_neg (by omega), Nat.mul_one]
  congr 3
  cases k <;> simp [Addr.add]
set_option maxRecDepth 100000 in
theorem slice_whole (W : World) (g : Nat) : (Instr.sliceAt 179 (.pointer (some ⟨g, 0, none⟩)) none none none).run Tryz.prog W = .ok (.slice (some ⟨g, 0, none⟩) 1024 1024) W := by
  have hu : Tryz.prog.underlying 179 = some (.array (Tryz.prog.arrayLen 179) (Tryz.prog.elem 179)) := by kernel_rfl
  have hl : Tryz.prog.arrayLen 179 = 1024 := by kernel_rfl
  have he : Tryz.prog.elem 179 = 5 := by kernel_rfl
  rw [run_sliceAt_array_all W 179 ⟨g, 0, none⟩ hu, hl, he]
  have hs : (sizeOf 5).run Tryz.prog W = .ok 1 W := by simp [go_sem]
  rw [hs]
  rfl
theorem wpList_copy_arr {w : World} {ops : Array Oper} {rest : List Oper} {o : Oper} {a : Act} {Q : Exit → Act → World → Prop} (hgd : o.guard = none) (d s : Operand)
    (ho : o.op = .call { callee := .builtin .copy, args := #[d, s], argTypes := #[29, 29] })
    (sp : Option Addr) (dLen dCap sLen sCap : Nat) (g off : Nat) (hd : a.eval d = .slice (some ⟨g, off, none⟩) dLen dCap) (hs : a.eval s = .slice sp sLen sCap)
    (cur l : List UInt8) (t : TypeId) (hg : w.heap[g]? = some (.cells (cellsB cur).toArray t (0, 0))) (hn : l.length = Nat.min sLen dLen) (hl : 0 < l.length) (hr : RB w sp l) (hfit : off + l.length ≤ cur.length)
    (h : ∀ w', Hid (w'.heap[g]? = some (.cells (splice (cellsB cur) off (cellsB l)).toArray t (0, 0))) → Frm (fun k => k = g) w w' → wpList Tryz.prog ops Q rest (a.put o.dst (goInt (cellsB l).length)) w') :
    wpList Tryz.prog ops Q (o :: rest) a w := by
  rcases hr with e | ⟨ad, rfl, hc⟩
  · rw [e] at hl; exact absurd hl (by simp)
  · refine wpList_copy_own hgd d s 29 29 ho 5 Tryz.underlying29 (by kernel_rfl) g off dLen dCap ad sLen sCap hd hs (cellsB cur).toArray t hg (cellsB l) (by rw [length_cellsB]; exact hn) (fun j v hv => ?_) (by simpa [length_cellsB] using hfit) (oneCells_B l) ?_
    · simp only [cellsB, List.getElem?_map, Option.map_eq_some_iff] at hv
      obtain ⟨x, hx, rfl⟩ := hv
      exact hc j x hx
    · refine h _ (show _ = _ by simpa [splice] using setRow_heap w g _ _ t _ hg) ⟨rfl, rfl, rfl, by simp [World.setRow], fun k _ hk => setRow_other w g k _ hk⟩
/-- Between two sectors that are read. -/
def BrRel (s : Dk) (w : World) (g g2 : Nat) (X : Nat) (i : Value) (wr : World) : Prop :=
  ∃ k : Nat, k ≤ 4 ∧ i = .int .i64 (k : Int) ∧ (0 < k → s.off = false) ∧ Arr wr g (s.rd X k ++ List.replicate (1024 - 256 * k) 0) ∧ Four wr g2 (X : Int) 4 ∧ Below w.heap.size w wr
set_option maxRecDepth 100000 in
theorem splice_rd (N : Nat) (a b : List UInt8) (k : Nat) (ha : a.length = 256 * k) (hb : b.length = 256) (hn : 256 * (k + 1) ≤ N) : splice (cellsB (a ++ List.replicate (N - 256 * k) 0)) (k * 256) (cellsB b) = cellsB ((a ++ b) ++ List.replicate (N - 256 * (k + 1)) 0) := by
  have e1 : (cellsB (a ++ List.replicate (N - 256 * k) 0)).take (k * 256) = cellsB a := by
    unfold cellsB
    rw [List.map_append, List.take_left' (by simp [ha]; omega)]
  have e2 : (cellsB (a ++ List.replicate (N - 256 * k) 0)).drop (k * 256 + (cellsB b).length) = cellsB (List.replicate (N - 256 * (k + 1)) 0) := by
    rw [length_cellsB, hb]
    unfold cellsB
    rw [List.map_append, List.drop_append, List.drop_of_length_le (by simp [ha]; omega), List.nil_append, List.length_map, ha, List.map_replicate, List.map_replicate, List.drop_replicate]
    congr 1
    omega
  unfold splice
  rw [e1, e2]
  unfold cellsB
  simp
set_option maxHeartbeats 2000000 in
set_option maxRecDepth 100000 in
theorem bread_any {base : Nat} {F : Ft} {w : World} {s : Dk} (h : DkAt base F w s) (a : Ar) (n : Int) :
    Calls Tryz.prog 65 #[.pointer (some ⟨F.b, 0, none⟩), a.v, .int .i64 n] w fun e w' => ∃ v, e = .returned (.tuple #[v, .int .i64 ((s.bread a n).2 : Int)]) ∧ OB w.heap.size w' v (s.bread a n).1 ∧ Below w.heap.size w w' := by
  have K1 := Lib.hid (fun W (hb : Below w.heap.size w W) => bfault_any (h.below hb) a n)
  have HZ := Lib.hid (show ∀ f, f = a.fault s.rows.length n → f ≠ 0 → s.bread a n = ([], f) from fun f hf h0 => by subst hf; exact if_pos h0)
  have HO := Lib.hid (show a.fault s.rows.length n = 0 → s.bread a n = if s.off = true then ([], 8) else opn (s.rd (a.first + 4 * n).toNat 4) 1024 from fun h0 => if_neg (by simp [h0]))
  have KN := Lib.hid (fun W (h1 : a.may = true) (h2 : a.has n = true) => sectors_some a n W h1 h2)
  have HF := Lib.hid (show a.fault s.rows.length n = 0 → _ from Ar.fault_ok)
  have D0 := Lib.hid h
  obtain ⟨p, q⟩ := a
  have K1 : Hid (∀ W, Below w.heap.size w W → Calls Tryz.prog 118 #[.pointer (some ⟨F.b, 0, none⟩), .agg #[.int .i64 p, .int .i64 q], .int .i64 n] W fun e w' => e = .returned (.int .i64 (Ar.fault ⟨p, q⟩ s.rows.length n : Int)) ∧ Below W.heap.size W w') := K1
  show Calls Tryz.prog 65 #[.pointer (some ⟨F.b, 0, none⟩), .agg #[.int .i64 p, .int .i64 q], .int .i64 n] w _
  have KN : Hid (∀ W, Ar.may ⟨p, q⟩ = true → Ar.has ⟨p, q⟩ n = true → Calls Tryz.prog 119 #[.agg #[.int .i64 p, .int .i64 q], .int .i64 n] W fun e w' => ∃ g, e = .returned (.slice (some ⟨g, 0, none⟩) 4 4) ∧ W.heap.size < g ∧ Four w' g (p + 4 * n) 4 ∧ Below W.heap.size W w') := KN
  have HO : Hid (Ar.fault ⟨p, q⟩ s.rows.length n = 0 → s.bread ⟨p, q⟩ n = if s.off = true then ([], 8) else opn (s.rd (p + 4 * n).toNat 4) 1024) := HO
  have HF : Hid (Ar.fault ⟨p, q⟩ s.rows.length n = 0 → Ar.may ⟨p, q⟩ = true ∧ Ar.has ⟨p, q⟩ n = true ∧ ∃ X : Nat, p + 4 * n = (X : Int) ∧ X + 4 ≤ s.rows.length) := HF
  have B0 := Lib.hid ((Below.refl _ w).alloc (Nat.le_refl _) (.cells #[.int .i64 p, .int .i64 q] 105))
  have hz := heap_size_alloc w (.cells #[.int .i64 p, .int .i64 q] 105)
  generalize s.bread ⟨p, q⟩ n = R at *
  generalize Ar.fault ⟨p, q⟩ s.rows.length n = f at *
  clear h
  by_cases hf : f = 0
  · subst hf
    obtain ⟨hm1, hm2, X, hX, hX4⟩ := HF.out rfl
    have HR := Lib.hid (HO.out rfl)
    rw [hX] at HR KN
    have HX4 := Lib.hid hX4
    have KN := Lib.hid (fun W => KN.out W hm1 hm2)
    clear HF HO HZ hX hX4 hm1 hm2
    go_enter Tryz.func65, Tryz.ntmps65
    go_wp2_with fail
    refine (K1.out _ B0.out).mono ?_
    rintro e w1 ⟨rfl, b1⟩
    have B1 := Lib.hid (B0.out.trans (b1.mono (by omega)))
    have hh : w1.heap[w.heap.size]? = some (.cells #[.int .i64 p, .int .i64 q] 105 (0, 0)) := (b1.block _ (by omega)).trans (heap_alloc_last w _)
    have HH := Lib.hid hh
    have hs1 := (Array.getElem?_eq_some_iff.1 hh).1
    have x0 : w1.cell? ⟨w.heap.size, 0, none⟩ = some (.int .i64 p) := (cell_of_row w1 _ 0 _ _ _ hh).trans rfl
    have x1 : w1.cell? ⟨w.heap.size, 1, none⟩ = some (.int .i64 q) := (cell_of_row w1 _ 1 _ _ _ hh).trans rfl
    clear b1 hh K1
    go_wp2_with fail
    refine (KN.out _).mono ?_
    rintro e w3 ⟨g2, rfl, hg2, f3, b3⟩
    have hsA := heap_size_alloc w1 (.cells Tryz.zeroCells179 179)
    have hA3 : Arr w3 w1.heap.size (List.replicate 1024 0) := by
      show w3.heap[w1.heap.size]? = _
      rw [b3.block w1.heap.size (by omega), heap_alloc_last w1, zeroArr_eq]
    have B3 : Below w.heap.size w w3 := (B1.out.alloc B1.out.size _).trans (b3.mono (by have := B1.out.size; omega))
    have ST : Hid (BrRel s w w1.heap.size g2 X (.int .i64 ((0 : Nat) : Int)) w3) := Lib.hid ⟨0, by omega, rfl, fun h => by omega, hA3, f3, B3⟩
    have hgw : w.heap.size ≤ w1.heap.size := B1.out.size
    have hg12 : w1.heap.size < g2 := by omega
    clear hA3 f3 b3 B3 x0 x1 KN HH B1 B0 hg2 hsA
    generalize w1.heap.size = g at *
    go_wp2
    go_loopw [10, 11, 12, 13, 25] (fun _ _ _ _ i wr => BrRel s w g g2 X i wr) (fun _ _ _ _ i _ => 4 - (RowKit.intOf i).toNat)
    case atStart => exact ST.out
    case round =>
      obtain ⟨k, hk, rfl, hof, hA, hf4, hb⟩ := hrel
      have HOF := Lib.hid hof
      clear hof
      have HA := Lib.hid hA
      have HFF := Lib.hid hf4
      have HBB := Lib.hid hb
      by_cases hlt : k < 4
      · have k0 : (k : Int) < 4 := by omega
        have y0 : wr.cell? ⟨g2, k, none⟩ = some (.int .i64 ((X : Int) + k)) := by
          rw [hf4.cell k]
          match k, hlt with
          | 0, _ => simp [four]
          | 1, _ => simp [four]
          | 2, _ => simp [four]
          | 3, _ => simp [four]
        have KR := read_any (D0.out.below hb) ((X : Int) + k)
        clear hA hf4 hb
        cases hoff : s.off with
        | true =>
          have e1 : s.faultAt ((X : Int) + k) = 8 := by unfold Dk.faultAt; rw [hoff]; rfl
          have e2 : s.reads ((X : Int) + k) = [] := by unfold Dk.reads; rw [e1]; rfl
          rw [e1, e2] at KR
          rw [hoff, if_pos rfl] at HR
          have KR := Lib.hid KR
          clear e1 e2
          go_wp2_with fail
          refine KR.out.mono ?_
          rintro e w5 ⟨A5, rfl, r5, b5⟩
          have B5 := Lib.hid (HBB.out.trans (b5.mono HBB.out.size))
          clear r5 b5
          go_wp2
          go_ret2
          rw [HR.out]
          exact ⟨_, rfl, OB.nil, B5.out⟩
        | false =>
          have e1 : s.faultAt ((X : Int) + k) = 0 := by unfold Dk.faultAt; rw [hoff, if_neg (by simp), if_neg (by have := HX4.out; omega)]
          have e2 : s.reads ((X : Int) + k) = s.at_ (X + k) := by unfold Dk.reads; rw [e1, if_pos rfl]; rfl
          have e3 : (s.at_ (X + k)).length = 256 := Dk.at_len D0.out.ok (by have := HX4.out; omega)
          rw [e1, e2, e3] at KR
          have KR := Lib.hid KR
          have HS := Lib.hid (splice_rd 1024 (s.rd X k) (s.at_ (X + k)) k (Dk.rd_len D0.out.ok (by have := HX4.out; omega)) e3 (by omega))
          have HL := Lib.hid (show (s.rd X k ++ List.replicate (1024 - 256 * k) 0).length = 1024 from by rw [List.length_append, Dk.rd_len D0.out.ok (by have := HX4.out; omega), List.length_replicate]; omega)
          have HN := Lib.hid (show s.rd X (k + 1) = s.rd X k ++ s.at_ (X + k) from rfl)
          have E3 := Lib.hid e3
          have OFF := Lib.hid hoff
          clear e1 e2 e3
          go_wp2_with fail
          refine KR.out.mono ?_
          rintro e w5 ⟨A5, rfl, r5, b5⟩
          have B5 := Lib.hid (HBB.out.trans (b5.mono HBB.out.size))
          have A5' := Lib.hid (show w5.heap[g]? = some (.cells (cellsB (s.rd X k ++ List.replicate (1024 - 256 * k) 0)).toArray 179 (0, 0)) from (b5.block g (Array.getElem?_eq_some_iff.1 HA.out).1).trans HA.out)
          have F5 := Lib.hid (show Four w5 g2 (X : Int) 4 from (b5.block g2 (Array.getElem?_eq_some_iff.1 HFF.out).1).trans HFF.out)
          have R5 := Lib.hid r5
          clear r5 b5 KR hoff
          generalize s.at_ (X + k) = l5 at *
          generalize s.rd X k ++ List.replicate (1024 - 256 * k) 0 = cur at *
          have hkk : k * 256 + 256 ≤ 1024 := by omega
          have hsl := slice_arr w5 g k hlt
          have QN := Lib.hid (show l5.length = Nat.min 256 (1024 - k * 256) from by rw [E3.out]; exact (Nat.min_eq_left (by omega)).symm)
          have QF := Lib.hid (show k * 256 + l5.length ≤ cur.length from by rw [E3.out, HL.out]; omega)
          have QL := Lib.hid (show 0 < l5.length from by rw [E3.out]; omega)
          go_upto_region 12 with (with_reducible refine wpList_copy_arr rfl (.tmp 41) (.tmp 42) rfl A5 (1024 - k * 256) (1024 - k * 256) 256 256 g (k * 256) rfl rfl cur l5 179 A5'.out QN.out QL.out R5.out QF.out ?_; intro w6 h6 fr6)
          have A6 := Lib.hid (show Arr w6 g (s.rd X (k + 1) ++ List.replicate (1024 - 256 * (k + 1)) 0) from by
            have := h6.out
            rw [HS.out, ← HN.out] at this
            exact this)
          have F6 := Lib.hid (show Four w6 g2 (X : Int) 4 from (fr6.block g2 (Array.getElem?_eq_some_iff.1 F5.out).1 (by omega)).trans F5.out)
          have B6 := Lib.hid (show Below w.heap.size w w6 from B5.out.trans (fr6.below (fun k hk => by omega) B5.out.size))
          clear h6 fr6 QN QF QL hsl A5' B5 R5 F5 HS HL
          go_wp2
          go_roundw
          case rel =>
            exact ⟨k + 1, by omega, by go_num, fun _ => OFF.out, A6.out, F6.out, B6.out⟩
          case measure => simp [RowKit.intOf]; omega
      · obtain rfl : k = 4 := by omega
        clear hA hf4 hb
        have hoff := HOF.out (by omega)
        · rw [hoff, if_neg (by simp)] at HR
          have hlen := Dk.rd_len D0.out.ok (x := X) (k := 4) (by have := HX4.out; omega)
          have hA : Arr wr g (s.rd X 4) := by have := HA.out; simpa using this
          have hrb : RB wr (some ⟨g, 0, none⟩) (s.rd X 4) := rb_of_row' hA
          have KO := Lib.hid (open_any (some ⟨g, 0, none⟩) 1024 1024 (s.rd X 4) wr hlen (by omega) (by omega) (by omega) hrb)
          have HR : Hid (R = opn (s.rd X 4) 1024) := HR
          generalize opn (s.rd X 4) 1024 = R4 at *
          clear hA hrb hlen
          have hsl : (Instr.sliceAt 179 (.pointer (some ⟨g, 0, none⟩)) none none none).run Tryz.prog wr = .ok (.slice (some ⟨g, 0, none⟩) 1024 1024) wr := slice_whole wr g
          go_wp2_with fail
          refine KO.out.mono ?_
          rintro e w7 ⟨v7, rfl, o7, b7⟩
          have O7 := Lib.hid (o7.lift (HBB.out.size))
          have B7 := Lib.hid (HBB.out.trans (b7.mono HBB.out.size))
          clear o7 b7
          go_wp2
          go_ret2
          rw [HR.out]
          exact ⟨_, rfl, O7.out, B7.out⟩
  · have HR := Lib.hid (HZ.out f rfl hf)
    have hb : ((f : Int) != 0) = true := by rw [bne_iff_ne]; omega
    clear HO HZ HF KN hf
    go_enter Tryz.func65, Tryz.ntmps65
    go_wp2_with fail
    refine (K1.out _ B0.out).mono ?_
    rintro e w1 ⟨rfl, b1⟩
    have B1 := Lib.hid (B0.out.trans (b1.mono (by omega)))
    clear b1 K1
    go_wp2
    go_ret2
    rw [HR.out]
    exact ⟨_, rfl, OB.nil, B1.out⟩
end Go.Proofs.YtegjeijiekggdaaGreatDoor
end
