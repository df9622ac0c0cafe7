/- Words for memory: a conversion of bytes to a text, bytes.Clone, a store into an own row, a row that came in, an operation of a drawn region taken first. -/
import Derived.Test.YtjmmaghjbaigiaaBase
import Derived.Laws.BytesString
import Derived.Laws.Cells
import Derived.Lib.SliceRun
import Derived.Lib.SmallJoins
import Derived.Lib.SlBytesConst
import Derived.Deep.RegionHeld3
import Derived.OrdersHeld
import Derived.OpenShut
namespace Go.Proofs.Ytjmmaghjbaigiaa
open Go.RowKit
set_option linter.unusedVariables false

theorem ofNat_toNat (n : Nat) : (UInt8.ofNat n).toNat = n % 256 := by simp
theorem Addr.add_nought (a : Go.Addr) : a.add 0 = a := by simp [Go.Addr.add]
theorem Addr.add_one_ (a : Go.Addr) : a.add 1 = ⟨a.block, a.off + 1, none⟩ := by simp [Go.Addr.add]
/-- The text of some bytes. -/
def str (l : List UInt8) : ByteArray := ⟨l.toArray⟩
theorem str_size (l : List UInt8) : (str l).size = l.length := by simp [str, ByteArray.size]

theorem fold_push (l : List UInt8) (s : ByteArray) : (l.map fun x : UInt8 => (x.toNat : Int)).foldl (fun r n => r.push (UInt8.ofNat n.toNat)) s = ⟨s.data ++ l.toArray⟩ := by
  induction l generalizing s with
  | nil => simp
  | cons x l ih =>
    simp only [List.map_cons, List.foldl_cons]
    rw [ih]
    simp [ByteArray.push]

theorem run_str (w : World) (A : Option Addr) (n c : Nat) (l : List UInt8) (hl : l.length = n) (hr : RB w A l) : (convert 25 9 (.slice A n c)).run Try.prog w = .ok (.string (str l)) w := by
  rw [run_convert_bytes_string w 25 9 5 A n c Try.underlying25 Try.underlying5 Try.underlying9]
  subst hl
  rcases A with _ | ad
  · obtain rfl : l = [] := by
      rcases hr with h | ⟨ad, h, _⟩
      · exact h
      · cases h
    rfl
  · have h := run_loadCells_list (P := Try.prog) w ad ((l.map fun x : UInt8 => (x.toNat : Int)).map (Value.int .u8)) (by
      intro j v hv
      rcases hr with rfl | ⟨ad', h, hc⟩
      · simp at hv
      · injection h with h
        subst h
        simp only [List.getElem?_map, Option.map_eq_some_iff] at hv
        obtain ⟨z, ⟨x, hx, rfl⟩, rfl⟩ := hv
        exact hc j x hx)
    rw [show ((l.map fun x : UInt8 => (x.toNat : Int)).map (Value.int .u8)).length = l.length by simp] at h
    rw [run_bytesToString w ad l.length c _ h, fold_push]
    simp [str]

set_option maxHeartbeats 400000 in
theorem clone_any (A : Option Addr) (n c : Nat) (l : List UInt8) (w : World) (hn : n ≤ 70368744177664) (hl : l.length = n) (hr : RB w A l) :
    Calls Try.prog 105 #[.slice A n c] w fun e w' => ∃ v', e = .returned v' ∧ OB w.heap.size w' v' l ∧ Below w.heap.size w w' := by
  have q22 : ∀ (w : World) (a : Option Addr) (n c n' c' : Nat), (binOp .eql 25 (.slice a n c) (.slice none n' c')).run Try.prog w = .ok (.bool a.isNone) w := fun w a n c n' c' => Lib.run_eql_slice_nil w _ _ a n c n' c' Try.underlying25
  have HL := Lib.hid hl
  clear hl
  rcases A with _ | ad
  · obtain rfl : l = [] := by
      rcases hr with h | ⟨ad, h, _⟩
      · exact h
      · cases h
    go_enter Try.func105, Try.ntmps105
    go_wp2
    go_ret
    exact ⟨_, rfl, OB.nil, Below.refl _ _⟩
  · go_enter Try.func105, Try.ntmps105
    go_wp2_with (at_builtin; refine wpList_append_B rfl (.tmp 5) (.tmp 6) rfl w.heap.size _ [] rfl (OB.lit w w.heap.size [] _ (by simp [cellsB]) (Nat.le_refl _) (by simp [maxLen])) _ _ _ l rfl HL.out (hr.alloc _) (by simp; omega) (by simp) ?_; intro v1 w1 hown1 hb1)
    go_ret
    exact ⟨_, rfl, hown1, ((Below.refl _ _).alloc (Nat.le_refl _) _).trans hb1⟩

theorem OB.at_ {base : Nat} {w : World} {A : Option Addr} {n c k : Nat} {l : List UInt8} {x : UInt8} (h : OB base w (.slice A n c) l) (hk : l[k]? = some x) :
    ∃ g, A = some ⟨g, 0, none⟩ ∧ base ≤ g ∧ g < w.heap.size ∧ w.cell? ⟨g, k, none⟩ = some (.int .u8 (x.toNat : Int)) ∧ w.frozen? ⟨g, k, none⟩ = false ∧
      ∀ (y : UInt8) (z : Int), z = (y.toNat : Int) → OB base (w.setCell ⟨g, k, none⟩ (.int .u8 z)) (.slice A n c) (l.set k y) := by
  have hlen := h.len
  subst hlen
  have hl : k < l.length := (List.getElem?_eq_some_iff.1 hk).1
  unfold OB at h
  rcases h.2 with ⟨_, h0⟩ | ⟨g, cap, cur, e, hb, hh, r⟩
  · omega
  · have hg : g < w.heap.size := by
      rcases Nat.lt_or_ge g w.heap.size with hlt | hge
      · exact hlt
      · rw [Array.getElem?_eq_none hge] at hh; cases hh
    injection e with e1 e2 e3
    subst e1 e3
    refine ⟨g, rfl, hb, hg, ?_, World.ownsRow.frozenAt h k, ?_⟩
    · rw [World.ownsRow.cellAt h k (by omega)]
      simp [cellsB, hk, cellB]
    · intro y z hz
      have hs := World.ownsRow.stored h k (.int .u8 z)
      unfold OB
      simpa [cellsB, cellB, hz, List.map_set] using hs.1

theorem set_last {a : List UInt8} {k : Nat} (h : a.length = k) (x y : UInt8) : (a ++ [x]).set k y = a ++ [y] := by
  subst h
  simp

theorem step_append_B {w : World} {ops : Array Oper} {o : Oper} {a : Act} {K : Act → World → Prop} {Q : Exit → Act → World → Prop} {E : Prop} (hgd : o.guard = none) (s x : Operand)
    (ho : o.op = .call { callee := .builtin .append, args := #[s, x], argTypes := #[25, 25] })
    (base : Nat) (v : Value) (l : List UInt8) (hs : a.eval s = v) (hown : OB base w v l) (A : Option Addr) (m c : Nat) (news : List UInt8) (hx : a.eval x = .slice A m c) (hm : news.length = m) (hr : RB w A news)
    (hbound : l.length + m ≤ 70368744177664) (hbase : base ≤ w.heap.size)
    (h : ∀ v' w', OB base w' v' (l ++ news) → Below base w w' → w.grownBy w' v.ownBlock → K (a.put o.dst v') w') :
    if Region.wanted o (yielded ops a.tmps) = true then Oper.wp Try.prog o a w K Q else E := by
  have hw : Region.wanted o (yielded ops a.tmps) = true := by simp [Region.wanted, hgd]
  rw [if_pos hw]
  obtain ⟨v', w', hrun, h2, h3, h4⟩ := run_append_B o.type hown c hm hr hbound hbase
  unfold Oper.wp execOp
  simp only [ho, resolve, invoke, builtin, Sem.run_bind, Sem.run_pure, Result.andThen_ok, List.map_toArray, List.map_cons, List.map_nil, hs, hx, hrun]
  exact h v' w' h2 h3 h4

theorem heap_size_alloc (w : World) (o : Obj) : (w.alloc o).heap.size = w.heap.size + 1 := by simp

theorem RB.mark (w : World) (l : List UInt8) (cs : Array Value) (fr : Nat × Nat) (hcs : cs = (cellsB l).toArray) : RB (w.alloc (.cells cs 5 fr)) (some ⟨w.heap.size, 0, none⟩) l := by
  subst hcs
  refine .inr ⟨_, rfl, fun j x hx => ?_⟩
  have e : (⟨w.heap.size, 0, none⟩ : Addr).add j = ⟨w.heap.size, j, none⟩ := by cases j <;> simp [Addr.add]
  rw [e, World.cell?_alloc_mark]
  simp [cellsB, hx, cellB]

theorem rb_of_row {w : World} {a : Option Addr} {len cap : Nat} {zs : List Int}
    (h : (a = none ∧ len = 0 ∧ cap = 0 ∧ zs = []) ∨ ∃ x, a = some x ∧ len ≤ cap ∧ cap ≤ maxLen ∧ zs.length = cap ∧ (∀ i, i < zs.length → w.cell? (x.add i) = some (.int .u8 (zs.getD i 0))) ∧ ∀ n ∈ zs, (Lit.int .u8 n).wf = true) :
    ∃ l : List UInt8, l.length = len ∧ len ≤ cap ∧ cap ≤ maxLen ∧ RB w a l := by
  rcases h with ⟨rfl, rfl, rfl, rfl⟩ | ⟨x, rfl, hl, hm, hz, hc, hw⟩
  · exact ⟨[], rfl, Nat.le_refl _, Nat.zero_le _, .inl rfl⟩
  · refine ⟨(zs.take len).map (fun z => UInt8.ofNat z.toNat), by simp; omega, hl, hm, .inr ⟨x, rfl, fun j y hy => ?_⟩⟩
    simp only [List.getElem?_map, Option.map_eq_some_iff, List.getElem?_take] at hy
    obtain ⟨z, hzj, rfl⟩ := hy
    split at hzj
    · rename_i hj
      obtain ⟨hjl, rfl⟩ := List.getElem?_eq_some_iff.1 hzj
      have h1 := hc j hjl
      rw [h1]
      have h2 := hw zs[j] (List.getElem_mem hjl)
      have h3 : 0 ≤ zs[j] ∧ zs[j] ≤ 255 := bounds_u8 h2
      rw [ofNat_toNat]
      simp [List.getElem?_eq_getElem hjl]
      omega
    · cases hzj

theorem takeH {P : Program} {md : Region.Mode} {ops : Array Oper} {Q : Exit → Act → World → Prop} {S : World → Prop} {fuel : Nat} {listed : Array Bool} {a : Act} {w : World} (i : Nat) (d : Nat) {oi : Oper} {v : Value}
    (hi : ops[i]? = some oi) (hd : oi.dst = some d) (hs : Region.noSelect ops = true) (hf : Region.free md ops listed i = true) (hr : (Region.ready md ops listed).contains i = true)
    (hQ : ∀ c a w, Q (.panic c) (a.put (some d) v) w → Q (.panic c) a w) (hS : S w) (hw : Region.wanted oi (yielded ops a.tmps) = true)
    (hy : ∀ w, S w → (execOp a.eval oi).run P w = .ok (.value v) w)
    (h : wpAnyH P md ops Q S fuel (listed.setIfInBounds i true) (a.put (some d) v) w) : wpAnyH P md ops Q S (fuel + 1) listed a w :=
  wpAnyH_take hi hs hf hr (by rw [hd]; exact hQ) (.inl ⟨hw, hy⟩) hS (by rw [hd]; exact h)

theorem take0 {P : Program} {md : Region.Mode} {ops : Array Oper} {Q : Exit → Act → World → Prop} {fuel : Nat} {listed : Array Bool} {a : Act} {w : World} (i : Nat) (d : Nat) {oi : Oper} {v : Value}
    (hi : ops[i]? = some oi) (hd : oi.dst = some d) (hs : Region.noSelect ops = true) (hf : Region.free md ops listed i = true) (hr : (Region.ready md ops listed).contains i = true)
    (hQ : ∀ c a w, Q (.panic c) (a.put (some d) v) w → Q (.panic c) a w) (hw : Region.wanted oi (yielded ops a.tmps) = true)
    (hy : ∀ w, (execOp a.eval oi).run P w = .ok (.value v) w)
    (h : wpAny P md ops Q fuel (listed.setIfInBounds i true) (a.put (some d) v) w) : wpAny P md ops Q (fuel + 1) listed a w :=
  wpAny_take hi hs hf hr (by rw [hd]; exact hQ) (.inl ⟨hw, hy⟩) (by rw [hd]; exact h)

end Go.Proofs.Ytjmmaghjbaigiaa
