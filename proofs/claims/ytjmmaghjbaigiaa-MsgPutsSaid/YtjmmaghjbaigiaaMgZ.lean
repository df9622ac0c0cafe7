/- An append that leaves what it was given as it was. Nothing of the program is proved here. The package msg: Keys of two messages. The laws of messages: how many and how great they may be; what every right program folds. -/
import Derived.Test.YtjmmaghjbaigiaaGnS
import Derived.ArgAppend
import Derived.Deep.DeepAppendRoom
import Derived.Test.YtjmmaghjbaigiaaMgA
import Derived.Test.YtjmmaghjbaigiaaMgE
import Derived.Test.YtjmmaghjbaigiaaMgG
import Derived.Test.YtjmmaghjbaigiaaVsU
namespace Go.Proofs.Ytjmmaghjbaigiaa
open Go.RowKit
set_option linter.unusedVariables false
set_option linter.unusedSimpArgs false
theorem mg_ownsRow_front {w : World} {base e k g n m cap : Nat} {xs ys : List Value} (h : w.ownsRow base e k (.slice (some ⟨g, 0, none⟩) (n + m) cap) (n + m) (xs ++ ys)) (hx : xs.length = n * k) : w.ownsRow base e k (.slice (some ⟨g, 0, none⟩) n cap) n xs := by
  rcases h.2 with ⟨h0, _⟩ | ⟨g', cap', cur, hv, hbg, hg, hnc, hcm, hcs, ht⟩
  · cases h0
  · injection hv with e1 e2 e3
    injection e1 with e1
    injection e1 with e1
    subst e1 e3
    refine ⟨hx, .inr ⟨g, cap, cur, rfl, hbg, hg, by omega, hcm, hcs, ?_⟩⟩
    have h2 := congrArg (List.take (n * k)) ht
    rw [List.take_take, Nat.min_eq_left (Nat.mul_le_mul_right _ (by omega))] at h2
    rw [h2, List.take_append_of_le_length (by omega), List.take_of_length_le (by omega)]
theorem mg_ownsRow_up {w : World} {b base e k n : Nat} {v : Value} {xs : List Value} (h : w.ownsRow b e k v n xs) (hb : base ≤ b) : w.ownsRow base e k v n xs := by
  refine ⟨h.1, ?_⟩
  rcases h.2 with h | ⟨g, cap, cur, hv, hbg, r⟩
  · exact .inl h
  · exact .inr ⟨g, cap, cur, hv, Nat.le_trans hb hbg, r⟩
/-- A row of one's own, of data that hang on no block, whose own block is as it was. -/
theorem OG.mg_keepOwn {α : Type} {K : CR α} (hK : K.Flat) {T : TypeId} {base : Nat} {w w' : World} {v : Value} {l : List α} (h : OG K T base w v l) (hk : ∀ b, v.ownBlock = some b → w'.heap[b]? = w.heap[b]?) : OG K T base w' v l := by
  obtain ⟨css, h1, h2, h3⟩ := h
  exact ⟨css, ownsRow_keepB h1 hk, h2, fun j x hj => by
    obtain ⟨cs, e1, e2, e3⟩ := h3 j x hj
    have := K.keep (w' := w') e2 fun b hb => (hK _ _ _ _ hb).elim
    exact ⟨cs, e1, this.1, fun b hb => e3 b (this.2 b hb)⟩⟩
theorem OG.mg_own_lt {α : Type} {K : CR α} {T : TypeId} {base : Nat} {w : World} {v : Value} {l : List α} (h : OG K T base w v l) {b : Nat} (hb : v.ownBlock = some b) : base ≤ b ∧ b < w.heap.size := by
  obtain ⟨css, h1, _⟩ := h
  exact World.ownsRow.lt h1 b hb
/-- An append that leaves what it was given. -/
theorem mg_run_append_keep {α : Type} {K : CR α} (hK : K.Flat) {P : Program} {sl T : TypeId} (tg : TG K P sl T) {base : Nat} {w : World} {v : Value} {l : List α} (ty : TypeId) (hown : OG K T base w v l) {ad : Addr} {m : Nat} (c : Nat) {M : List α} (hm : M.length = m) (hp : 0 < m) (hr : RG K w (some ad) M) (hbound : l.length + m ≤ 1000000) (hbase : base ≤ w.heap.size) :
    ∃ v' w', (Builtin.append_ #[sl, sl] ty #[v, .slice (some ad) m c]).run P w = .ok v' w' ∧ OG K T base w' v' (l ++ M) ∧ OG K T base w' v l ∧ Below base w w' ∧ w.grownBy w' v.ownBlock ∧ (v'.ownBlock = v.ownBlock ∨ ∃ b, v'.ownBlock = some b ∧ w.heap.size ≤ b ∧ b < w'.heap.size) := by
  have hown' := hown
  obtain ⟨css, h1, h2, h3⟩ := hown
  rcases h1.2 with ⟨rfl, h0⟩ | ⟨g, cap, cur, rfl, hb, hh, hc, hcm, hsz, ht⟩
  · obtain rfl := List.eq_nil_of_length_eq_zero h0
    obtain ⟨v', w', e1, e2, e3, e4, e5⟩ := run_append_G tg ty hown' c hm hr (fun _ _ _ _ _ _ _ _ b hb => (hK _ _ _ _ hb).elim) hbound hbase
    refine ⟨v', w', e1, e2, OG.nil, e3, e4, ?_⟩
    rcases e5 with e5 | e5
    · exact .inl e5
    · exact .inr ⟨_, e5, Nat.le_refl _, (e2.mg_own_lt e5).2⟩
  · obtain ⟨z, bytes, hinfo, hby, hzc⟩ := tg.info
    obtain ⟨i0, hi, hz0, hz1, hz2⟩ := info_parts hinfo
    obtain ⟨dss, d1, d2, d3⟩ := hr.rows
    have hls := OG.lens (P := fun _ _ => True) d1 fun j x hx => by
      obtain ⟨cs, e1, e2, _⟩ := d3 j x hx
      exact ⟨cs, e1, e2, trivial⟩
    have hcl := OG.lens (P := fun _ _ => True) h2 fun j x hx => by
      obtain ⟨cs, e1, e2, _⟩ := h3 j x hx
      exact ⟨cs, e1, e2, trivial⟩
    have fc := flatten_map_len fun cs hcs => (hcl cs hcs).1
    have fd := flatten_map_len fun cs hcs => (hls cs hcs).1
    rw [h2] at fc
    rw [d1, hm] at fd
    have one : ∀ u ∈ dss.flatten, u.oneCell' = true := fun u hu => by
      obtain ⟨cs, hcs, hu⟩ := List.mem_flatten.1 hu
      exact (hls cs hcs).2 u hu
    have both : ∀ {w' : World} {v' : Value}, w'.ownsRow base T K.k v' (l.length + m) (css.flatten ++ dss.flatten) → OG K T base w' v' (l ++ M) := fun {w' v'} hv' => by
      refine ⟨css ++ dss, by rw [List.length_append, hm, List.flatten_append]; exact hv', by simp [h2, d1], fun j x hj => ?_⟩
      by_cases hlt : j < l.length
      · rw [List.getElem?_append_left hlt] at hj
        obtain ⟨cs, e1, e2, e3⟩ := h3 j x hj
        have := K.keep (w' := w') e2 fun b hf => (hK _ _ _ _ hf).elim
        exact ⟨cs, by rw [List.getElem?_append_left (by omega)]; exact e1, this.1, fun b hf => (hK _ _ _ _ hf).elim⟩
      · rw [List.getElem?_append_right (by omega)] at hj
        obtain ⟨cs, e1, e2, e4⟩ := d3 _ x hj
        have := K.keep (w' := w') e2 fun b hf => (hK _ _ _ _ hf).elim
        exact ⟨cs, by rw [List.getElem?_append_right (by omega), h2]; exact e1, this.1, fun b hf => (hK _ _ _ _ hf).elim⟩
    have old : ∀ {w' : World}, w'.ownsRow base T K.k (.slice (some ⟨g, 0, none⟩) l.length cap) l.length css.flatten → OG K T base w' (.slice (some ⟨g, 0, none⟩) l.length cap) l := fun {w'} hv' => by
      refine ⟨css, hv', h2, fun j x hj => ?_⟩
      obtain ⟨cs, e1, e2, e3⟩ := h3 j x hj
      have := K.keep (w' := w') e2 fun b hf => (hK _ _ _ _ hf).elim
      exact ⟨cs, e1, this.1, fun b hf => (hK _ _ _ _ hf).elim⟩
    by_cases hroom : l.length + m ≤ cap
    · obtain ⟨w', q1, q2, q3⟩ := run_append_own_spare (P := P) w base sl ty T i0 K.k tg.und hi hz1 g l.length cap css.flatten h1 ad m c dss.flatten fd d2 one hroom
      refine ⟨_, w', q1, both q2, old (mg_ownsRow_front q2 fc), (Below.refl base w).grown q3 hbase fun q hq => by injection hq with hq; omega, q3, .inl rfl⟩
    · obtain ⟨v', w', q1, q2, q3⟩ := run_append_arg_grows (P := P) w sl ty T i0 z K.k bytes tg.und hi hz0 hz1 hz2 hzc K.pos ⟨g, 0, none⟩ l.length cap css.flatten fc (fun j u hj => by
          have := World.ownsRow.cells h1 (g := g) rfl j u hj
          exact this) ad m c dss.flatten fd d2 (by omega) (by simp only [maxLen]; omega) (Nat.le_trans (Nat.mul_le_mul hbound hby) (by omega))
      have hbe : Below base w w' := (Below.refl base w).grown q3 hbase fun q hq => by cases hq
      refine ⟨v', w', q1, both (mg_ownsRow_up q2 hbase), old (ownsRow_keepB h1 fun b hb' => by injection hb' with hb'; subst hb'; exact q3.block _ (Array.getElem?_eq_some_iff.1 hh).1 (by simp)), hbe, ⟨q3.os, q3.tape, q3.output, q3.size, fun k hk _ => q3.block k hk (by simp)⟩, ?_⟩
      rcases q2.2 with ⟨_, e0⟩ | ⟨g', cap', cur', e0, e1, e2, _⟩
      · omega
      · exact .inr ⟨g', by rw [e0]; rfl, e1, (Array.getElem?_eq_some_iff.1 e2).1⟩
set_option maxRecDepth 100000 in
theorem len64_one (w : World) : Calls Try.prog 125 #[.int .u64 1] w fun e w' => e = .returned (.int .i64 1) ∧ w = w' := by
  go_enter Try.func125, Try.ntmps125
  go_wp2
  go_ret
  exact ⟨by kernel_rfl, rfl⟩
theorem len_one (w : World) : Calls Try.prog 111 #[.int .u64 1] w fun e w' => e = .returned (.int .i64 1) ∧ w = w' := by
  have K := Lib.hid (fun W => len64_one W)
  go_enter Try.func111, Try.ntmps111
  go_wp2_with (go_at_call 125; refine (K.out _).mono ?_; rintro e w1 ⟨rfl, rfl⟩)
  go_ret
  exact ⟨rfl, rfl⟩
theorem insert_one (A : Option Addr) (c : Nat) (w : World) : Calls Try.prog 115 #[.slice A 1 c, .int .i64 0, .int .i64 1] w fun e w' => e = .returned (.tuple #[]) ∧ w = w' := by
  go_enter Try.func115, Try.ntmps115
  go_wp2
  go_loopw [6] (fun i wr => i = .int .i64 1 ∧ w = wr) (fun _ _ => 0)
  case atStart => exact ⟨rfl, rfl⟩
  case round =>
    obtain ⟨rfl, rfl⟩ := hrel
    go_wp2
    first
      | (go_end0; exact ⟨rfl, rfl⟩)
      | (go_ret; exact ⟨rfl, rfl⟩)
theorem pdq_one (A : Option Addr) (c : Nat) (z : Int) (w : World) : Calls Try.prog 110 #[.slice A 1 c, .int .i64 0, .int .i64 1, .int .i64 z] w fun e w' => e = .returned (.tuple #[]) ∧ w = w' := by
  have K := Lib.hid (fun W => insert_one A c W)
  go_enter Try.func110, Try.ntmps110
  go_wp2
  go_loopw [1, 2] (fun a b wr => a = .int .i64 0 ∧ b = .int .i64 1 ∧ w = wr) (fun _ _ _ => 0)
  case atStart => exact ⟨rfl, rfl, rfl⟩
  case round =>
    obtain ⟨rfl, rfl, rfl⟩ := hrel
    go_wp2_with (go_at_call 115; refine (K.out _).mono ?_; rintro e w1 ⟨rfl, rfl⟩)
    exact bodyPost_ret (v := .tuple #[]) (by simp [results, Try.results110, go_sem]) rfl ⟨rfl, rfl⟩
theorem sort_one (A : Option Addr) (c : Nat) (w : World) : Calls Try.prog 89 #[.slice A 1 c] w fun e w' => e = .returned (.tuple #[]) ∧ w = w' := by
  have K := Lib.hid (fun W => len_one W)
  have KP := Lib.hid (fun W => pdq_one A c 1 W)
  go_enter Try.func89, Try.ntmps89
  go_wp2_with (first
    | (go_at_call 111; refine (K.out _).mono ?_; rintro e w1 ⟨rfl, rfl⟩)
    | (go_at_call 110; refine (KP.out _).mono ?_; rintro e w1 ⟨rfl, rfl⟩)
    | fail)
  first
    | (go_end0; exact ⟨rfl, rfl⟩)
    | (go_ret; exact ⟨rfl, rfl⟩)
theorem compact_one (A : Option Addr) (c : Nat) (w : World) : Calls Try.prog 90 #[.slice A 1 c] w fun e w' => e = .returned (.slice A 1 c) ∧ w = w' := by
  go_enter Try.func90, Try.ntmps90
  go_wp2
  go_ret
  exact ⟨rfl, rfl⟩
def wM : Ms := ⟨0, ⟨#[107]⟩, 1, 0, false, ⟨#[118]⟩⟩
def cM : Ms := ⟨1, ⟨#[]⟩, 1, 5, false, ⟨#[]⟩⟩
def isW (m : Ms) : Bool := m.kind == 0
set_option maxHeartbeats 2000000 in
set_option maxRecDepth 100000 in
theorem within_w (p q : Addr) (w : World) (hp : w.cell? p = some (.string ⟨#[]⟩)) (hq : w.cell? q = some (.string ⟨#[]⟩)) :
    Calls Try.prog 109 (#[wM.v] ++ #[.pointer (some p), .pointer (some q)]) w fun e w' => e = .returned (.bool true) ∧ Below w.heap.size w w' := by
  have HB := Lib.hid (below1 w (.cells #[.int .u8 0, .string ⟨#[107]⟩, .int .i64 1, .int .i64 0, .bool false, .string ⟨#[118]⟩] 40))
  have hp1 : (w.alloc (.cells #[.int .u8 0, .string ⟨#[107]⟩, .int .i64 1, .int .i64 0, .bool false, .string ⟨#[118]⟩] 40)).cell? p = some (.string ⟨#[]⟩) := ((below1 w _).cell (lt_of_cell hp)).trans hp
  have hq1 : (w.alloc (.cells #[.int .u8 0, .string ⟨#[107]⟩, .int .i64 1, .int .i64 0, .bool false, .string ⟨#[118]⟩] 40)).cell? q = some (.string ⟨#[]⟩) := ((below1 w _).cell (lt_of_cell hq)).trans hq
  clear hp hq
  have e0 : wM.v = .agg #[.int .u8 0, .string ⟨#[107]⟩, .int .i64 1, .int .i64 0, .bool false, .string ⟨#[118]⟩] := rfl
  rw [e0]
  clear e0
  have hge : ∀ W, (binOp .geq 9 (.string ⟨#[107]⟩) (.string ⟨#[]⟩)).run Try.prog W = .ok (.bool true) W := fun _ => by kernel_rfl
  go_enter Try.func109, Try.ntmps109
  go_wp2
  go_ret
  exact ⟨rfl, HB.out⟩
set_option maxHeartbeats 2000000 in
set_option maxRecDepth 100000 in
theorem within_c (p q : Addr) (w : World) :
    Calls Try.prog 109 (#[cM.v] ++ #[.pointer (some p), .pointer (some q)]) w fun e w' => e = .returned (.bool false) ∧ Below w.heap.size w w' := by
  have HB := Lib.hid (below1 w (.cells #[.int .u8 1, .string ⟨#[]⟩, .int .i64 1, .int .i64 5, .bool false, .string ⟨#[]⟩] 40))
  have e0 : cM.v = .agg #[.int .u8 1, .string ⟨#[]⟩, .int .i64 1, .int .i64 5, .bool false, .string ⟨#[]⟩] := rfl
  rw [e0]
  clear e0
  go_enter Try.func109, Try.ntmps109
  go_wp2
  go_ret
  exact ⟨rfl, HB.out⟩
set_option maxHeartbeats 1000000 in
set_option maxRecDepth 100000 in
theorem mgPickW (A : Option Addr) (n c : Nat) (l : List Ms) (p : Ms → Bool) (a b : Addr) (w : World) (hl : l.length = n) (hn : n ≤ 1000) (hr : RG KM w A l)
    (hF : ∀ (W : World) (x : Ms), x ∈ l → Below w.heap.size w W → Calls Try.prog 109 (#[x.v] ++ #[.pointer (some a), .pointer (some b)]) W fun e w' => e = .returned (.bool (p x)) ∧ Below W.heap.size W w') :
    Calls Try.prog 87 #[.slice A n c, .func (.func 109) #[] #[.pointer (some a), .pointer (some b)]] w fun e w' => ∃ v', e = .returned v' ∧ OG KM 40 w.heap.size w' v' (l.filter p) ∧ Below w.heap.size w w' := by
  have HL := Lib.hid hl
  have HR := Lib.hid hr
  have HF := Lib.hid hF
  clear hl hr hF
  go_enter Try.func87, Try.ntmps87
  go_wp2
  go_loopw [5, 10] (fun v i wr => ∃ k : Nat, k ≤ n ∧ i = .int .i64 (k : Int) ∧ OG KM 40 w.heap.size wr v ((l.take k).filter p) ∧ Below w.heap.size w wr) (fun _ i _ => n - (intOf i).toNat)
  case atStart => exact ⟨0, Nat.zero_le _, rfl, OG.nil, Below.refl _ _⟩
  case round =>
    obtain ⟨k, hk, rfl, ho, hb⟩ := hrel
    by_cases hlt : k < n
    · obtain ⟨x, hx⟩ : ∃ x, l[k]? = some x := ⟨l[k]'(by rw [HL.out]; exact hlt), List.getElem?_eq_getElem _⟩
      obtain ⟨ad, rfl, hv⟩ := (HR.out.below hb).ms hx
      have c0 := hv.d0; have c1 := hv.d1; have c2 := hv.d2; have c3 := hv.d3; have c4 := hv.d4; have c5 := hv.d5
      have HKL := Lib.hid (show ((l.take k).filter p).length + 1 ≤ 1000000 from by
        have := (List.filter_sublist (l := l.take k) (p := p)).length_le
        rw [List.length_take] at this; omega)
      have HKS : (l.take (k + 1)).filter p = if p x then (l.take k).filter p ++ [x] else (l.take k).filter p := by
        rw [List.take_add_one, hx, Option.toList_some, List.filter_append]
        cases hpx : p x <;> simp [hpx]
      have HIn := Lib.hid (List.mem_of_getElem? hx)
      have HO := Lib.hid (ho.alloc (.cells #[.int .u8 (x.kind.toNat : Int), .string x.key, .int .i64 x.txn, .int .i64 x.ts, .bool x.gone, .string x.val] 40))
      have HB := Lib.hid (hb.alloc hb.size (.cells #[.int .u8 (x.kind.toNat : Int), .string x.key, .int .i64 x.txn, .int .i64 x.ts, .bool x.gone, .string x.val] 40))
      have BX := Lib.hid (MsBox.new wr x 40)
      have KF := Lib.hid (fun W (h : Below w.heap.size w W) => HF.out W x HIn.out h)
      unfold Ms.v at KF
      clear hb ho hv hx
      cases hp : p x with
      | false =>
        rw [hp] at KF HKS
        simp only [Bool.false_eq_true, if_false] at HKS
        have HK := Lib.hid HKS
        clear HKS hp
        go_wp2_with (go_at_call 109; refine (KF.out _ HB.out).mono ?_; rintro e w1 ⟨rfl, b1⟩; have B1 := Lib.hid b1; clear b1)
        go_round
        case rel => exact ⟨k + 1, by omega, by go_num, by rw [HK.out]; exact HO.out.below B1.out, HB.out.trans (B1.out.mono HB.out.size)⟩
        case measure => simp [intOf]; omega
      | true =>
        rw [hp] at KF HKS
        simp only [if_true] at HKS
        have HK := Lib.hid HKS
        clear HKS hp
        go_wp2_with (first
          | (go_at_call 109; refine (KF.out _ HB.out).mono ?_; rintro e w1 ⟨rfl, b1⟩; have B1 := Lib.hid b1; obtain ⟨y0, y1, y2, y3, y4, y5, _, _, _, _, _, _⟩ := BX.out.on b1; clear b1)
          | (at_builtin; (refine wpList_append_G tgM rfl _ _ rfl w.heap.size _ ((l.take k).filter p) rfl ((HO.out.below B1.out).alloc _) (some ⟨w1.heap.size, 0, none⟩) 1 1 [x] rfl rfl (rgM_lit _ _ _) (Apart.flat ms_flat) HKL.out (by have := B1.out.size; have := HB.out.size; simp; omega) ?_; intro v2 w2 o2 b2 _ _; have O2 := Lib.hid o2; have B2 := Lib.hid b2; clear o2 b2))
          | fail)
        go_round
        case rel => exact ⟨k + 1, by omega, by go_num, by rw [HK.out]; exact O2.out, ((HB.out.trans (B1.out.mono HB.out.size)).alloc (Nat.le_trans HB.out.size B1.out.size) _).trans B2.out⟩
        case measure => simp [intOf]; omega
    · obtain rfl : k = n := by omega
      rw [List.take_of_length_le (by rw [HL.out]; exact Nat.le_refl _)] at ho
      have HO := Lib.hid ho
      have HB := Lib.hid hb
      clear ho hb
      go_wp2
      go_ret
      exact ⟨_, rfl, HO.out, HB.out⟩
theorem within_any (w : World) : Calls Try.prog 88 #[.string ⟨#[]⟩, .string ⟨#[]⟩] w fun e w' => ∃ p q, e = .returned (.func (.func 109) #[] #[.pointer (some ⟨p, 0, none⟩), .pointer (some ⟨q, 0, none⟩)]) ∧ w'.cell? ⟨p, 0, none⟩ = some (.string ⟨#[]⟩) ∧ w'.cell? ⟨q, 0, none⟩ = some (.string ⟨#[]⟩) ∧ Below w.heap.size w w' := by
  have hmf : ∀ (fn : Fn) (first cap : Array Value) (w : World), (Instr.makeFunc fn first cap).run Try.prog w = .ok (.func fn first cap) w := fun _ _ _ _ => rfl
  have hb := Lib.hid (below2 w (.cells #[.string ⟨#[]⟩] 9) (.cells #[.string ⟨#[]⟩] 9))
  go_enter Try.func88, Try.ntmps88
  go_wp2
  go_ret
  exact ⟨_, _, rfl, by simp, by simp, hb.out⟩
theorem mgS_one {w : World} {q : Nat} {s : List UInt8} (hq : w.cell? ⟨q, 0, none⟩ = some (.string (str s))) : RG CR.str w (some ⟨q, 0, none⟩) [s] := fun j x hj => by
  cases j with
  | zero =>
    simp at hj
    subst hj
    refine ⟨_, _, rfl, fun i u hu => ?_, rfl⟩
    cases i with
    | zero =>
      simp at hu
      subst hu
      rw [Nat.zero_mul, Addr.add_nought, Addr.add_nought]
      exact hq
    | succ i => simp at hu
  | succ j => simp at hj
set_option maxRecDepth 100000 in
/-- A further text onto the last row: what was there stays; it may be stored in its place. -/
theorem isW_two : [wM, cM].filter isW = [wM] := rfl
theorem pick_two (A : Option Addr) (c : Nat) (p q : Nat) (w : World) (hr : RG KM w A [wM, cM]) (hp : w.cell? ⟨p, 0, none⟩ = some (.string ⟨#[]⟩)) (hq : w.cell? ⟨q, 0, none⟩ = some (.string ⟨#[]⟩)) :
    Calls Try.prog 87 #[.slice A 2 c, .func (.func 109) #[] #[.pointer (some ⟨p, 0, none⟩), .pointer (some ⟨q, 0, none⟩)]] w fun e w' => ∃ B d, e = .returned (.slice B 1 d) ∧ RG KM w' B [wM] ∧ Below w.heap.size w w' := by
  refine (mgPickW A 2 c [wM, cM] isW ⟨p, 0, none⟩ ⟨q, 0, none⟩ w rfl (by omega) hr (fun W x hx hb => ?_)).mono ?_
  · simp only [List.mem_cons, List.not_mem_nil, or_false] at hx
    rcases hx with rfl | rfl
    · exact within_w _ _ W ((hb.cell (lt_of_cell hp)).trans hp) ((hb.cell (lt_of_cell hq)).trans hq)
    · exact within_c _ _ W
  · rintro e w' ⟨v', rfl, o, b⟩
    rw [isW_two] at o
    obtain ⟨B, d, rfl, _, _, h, _⟩ := o.rg
    exact ⟨B, d, rfl, h, b⟩
set_option maxHeartbeats 2000000 in
set_option maxRecDepth 100000 in
theorem mgKeys_two (A : Option Addr) (c : Nat) (w : World) (hr : RG KM w A [wM, cM]) :
    Calls Try.prog 48 #[.slice A 2 c, .string ⟨#[]⟩, .string ⟨#[]⟩] w fun e w' => ∃ B d, e = .returned (.slice B 1 d) ∧ RG CR.str w' B [[107]] ∧ Below w.heap.size w w' := by
  have K1 := Lib.hid (fun W => within_any W)
  have K2 := Lib.hid (fun (W : World) (p q : Nat) (h : Below w.heap.size w W) (hp : W.cell? ⟨p, 0, none⟩ = some (.string ⟨#[]⟩)) (hq : W.cell? ⟨q, 0, none⟩ = some (.string ⟨#[]⟩)) => pick_two A c p q W (hr.below h) hp hq)
  have K3 := Lib.hid (fun (B : Option Addr) (d : Nat) W => sort_one B d W)
  have K4 := Lib.hid (fun (B : Option Addr) (d : Nat) W => compact_one B d W)
  clear hr
  go_enter Try.func48, Try.ntmps48
  go_upto_region 3 with (first
    | (go_at_call 88; refine (K1.out _).mono ?_; rintro e w1 ⟨p, q, rfl, h1, h2, b1⟩; have H1 := Lib.hid h1; have H2 := Lib.hid h2; have B1 := Lib.hid b1; clear h1 h2 b1)
    | (go_at_call 87; refine (K2.out _ _ _ B1.out H1.out H2.out).mono ?_; rintro e w2 ⟨B, d, rfl, h1, b2⟩; have R := Lib.hid h1; have B2 := Lib.hid (B1.out.trans (b2.mono B1.out.size)); clear h1 b2)
    | fail)
  have HZ := Lib.hid B2.out.size
  go_loopw [7, 16] (fun v i wr => ∃ k : Nat, k ≤ 1 ∧ i = .int .i64 (k : Int) ∧ OG CR.str 9 w.heap.size wr v ([[107]].take k) ∧ Below w.heap.size w wr ∧ (k = 0 → RG KM wr B [wM])) (fun _ i _ => 1 - (intOf i).toNat)
  case atStart => exact ⟨0, by omega, rfl, OG.nil, B2.out, fun _ => R.out⟩
  case round =>
    obtain ⟨k, hk, rfl, ho, hb, hR⟩ := hrel
    by_cases hlt : k < 1
    · obtain rfl : k = 0 := by omega
      obtain ⟨ad, rfl, hv⟩ := (hR rfl).ms (k := 0) (v := wM) rfl
      rw [Nat.zero_mul, Addr.add_nought] at hv
      have c0 : wr.cell? ad = some (.int .u8 0) := hv.d0
      have c1 : wr.cell? ⟨ad.block, ad.off + 1, none⟩ = some (.string ⟨#[107]⟩) := hv.d1
      have c2 : wr.cell? ⟨ad.block, ad.off + 2, none⟩ = some (.int .i64 1) := hv.d2
      have c3 : wr.cell? ⟨ad.block, ad.off + 3, none⟩ = some (.int .i64 0) := hv.d3
      have c4 : wr.cell? ⟨ad.block, ad.off + 4, none⟩ = some (.bool false) := hv.d4
      have c5 : wr.cell? ⟨ad.block, ad.off + 5, none⟩ = some (.string ⟨#[118]⟩) := hv.d5
      have HO := Lib.hid (ho.alloc (.cells #[.int .u8 0, .string ⟨#[107]⟩, .int .i64 1, .int .i64 0, .bool false, .string ⟨#[118]⟩] 40))
      have HB := Lib.hid (hb.alloc hb.size (.cells #[.int .u8 0, .string ⟨#[107]⟩, .int .i64 1, .int .i64 0, .bool false, .string ⟨#[118]⟩] 40))
      clear ho hb hv hR
      have HS : Hid (RG CR.str ((wr.alloc (.cells #[.int .u8 0, .string ⟨#[107]⟩, .int .i64 1, .int .i64 0, .bool false, .string ⟨#[118]⟩] 40)).alloc (.cells #[.string ⟨#[107]⟩] 9)) (some ⟨wr.heap.size + 1, 0, none⟩) [[107]]) := Lib.hid (by
        have h1 := heap_alloc_last (wr.alloc (.cells #[.int .u8 0, .string ⟨#[107]⟩, .int .i64 1, .int .i64 0, .bool false, .string ⟨#[118]⟩] 40)) (.cells #[.string ⟨#[107]⟩] 9)
        rw [heap_size_alloc] at h1
        exact mgS_one (cell_of_row _ _ 0 _ _ _ h1))
      go_wp2_with (at_builtin; (refine wpList_append_G tgS rfl _ _ rfl w.heap.size _ ([] : List (List UInt8)) rfl (HO.out.alloc _) (some ⟨wr.heap.size + 1, 0, none⟩) 1 1 [[107]] rfl rfl HS.out (Apart.flat str_flat) (by simp) (by have h1 := HB.out.size; rw [heap_size_alloc] at h1; rw [heap_size_alloc, heap_size_alloc]; omega) ?_; intro v3 w3 o3 b3 _ _; have O3 := Lib.hid o3; have B3 := Lib.hid b3; clear o3 b3))
      go_round
      case rel => exact ⟨1, by omega, by go_num, O3.out, (HB.out.alloc HB.out.size _).trans B3.out, fun h => by omega⟩
      case measure => simp [intOf]
    · obtain rfl : k = 1 := by omega
      obtain ⟨B9, d9, e9, _, _, h9, _⟩ := ho.rg
      subst e9
      have R9 := Lib.hid h9
      have HB := Lib.hid hb
      clear ho hb h9 hR
      go_wp2_with (first
        | (go_at_call 89; refine (K3.out _ _ _).mono ?_; rintro e w5 ⟨rfl, rfl⟩)
        | (go_at_call 90; refine (K4.out _ _ _).mono ?_; rintro e w6 ⟨rfl, rfl⟩)
        | fail)
      go_ret
      exact ⟨_, _, rfl, R9.out, HB.out⟩
def mgLight (l : List Ms) (most : Nat) : Bool := decide (l.length ≤ most) && l.all fun m => decide (m.key.size ≤ 100) && decide (m.val.size ≤ 100)
theorem mgLight_at {l : List Ms} {most : Nat} (h : mgLight l most = true) : l.length ≤ most ∧ ∀ m ∈ l, m.key.size ≤ 100 ∧ m.val.size ≤ 100 := by
  unfold mgLight at h
  simp only [Bool.and_eq_true, decide_eq_true_eq, List.all_eq_true] at h
  exact h
set_option maxHeartbeats 2000000 in
set_option maxRecDepth 100000 in
theorem mgLight_any (A : Option Addr) (n c : Nat) (l : List Ms) (most : Nat) (w : World) (hl : l.length = n) (hn : n ≤ maxLen) (hm : most ≤ 100) (hr : RG KM w A l) :
    Calls Try.prog 16 #[.slice A n c, .int .i64 (most : Int)] w fun e w' => e = .returned (.bool (mgLight l most)) ∧ w = w' := by
  have HL := Lib.hid hl
  have HR := Lib.hid hr
  have HG : Hid (most < l.length → mgLight l most = false) := Lib.hid fun h => by unfold mgLight; rw [decide_eq_false (by omega)]; rfl
  have HF : Hid (∀ (k : Nat) (x : Ms), l[k]? = some x → (100 < x.key.size ∨ 100 < x.val.size) → mgLight l most = false) := Lib.hid fun k x hx h => by
    unfold mgLight
    rw [List.all_eq_false.2 ⟨x, List.mem_of_getElem? hx, by simp; omega⟩, Bool.and_false]
  have HT : Hid (l.length ≤ most → (∀ (j : Nat) (a : Ms), j < l.length → l[j]? = some a → a.key.size ≤ 100 ∧ a.val.size ≤ 100) → mgLight l most = true) := Lib.hid fun h1 h3 => by
    unfold mgLight
    rw [decide_eq_true h1, List.all_eq_true.2 (fun v hv => by
      obtain ⟨j, hj, e⟩ := List.getElem_of_mem hv
      have := h3 j v hj (by rw [← e]; exact List.getElem?_eq_getElem hj)
      simp [this])]
    rfl
  generalize mgLight l most = R at *
  unfold maxLen at hn
  clear hr
  by_cases h2 : most < n
  · have e1 := HG.out (by omega)
    have h2' : decide (most < n) = true := decide_eq_true h2
    clear hl
    go_enter Try.func16, Try.ntmps16
    go_wp2
    go_ret
    exact ⟨by first | rfl | (rw [e1]; rfl), rfl⟩
  · have h2' : decide (most < n) = false := decide_eq_false h2
    have HK := Lib.hid h2
    clear hl h2
    go_enter Try.func16, Try.ntmps16
    go_wp2
    go_loop [5] (fun i => ∃ k : Nat, k ≤ n ∧ i = .int .i64 (k : Int) ∧ ∀ (j : Nat) (a : Ms), j < k → l[j]? = some a → a.key.size ≤ 100 ∧ a.val.size ≤ 100) (fun i => n - (intOf i).toNat)
    case atStart => exact ⟨0, Nat.zero_le _, rfl, fun j a hj => by omega⟩
    case round =>
      obtain ⟨k, hk, rfl, hf⟩ := hrel
      have HA := Lib.hid hf
      clear hf
      by_cases hlt : k < n
      · obtain ⟨x, hx⟩ : ∃ x, l[k]? = some x := ⟨l[k]'(by rw [HL.out]; exact hlt), List.getElem?_eq_getElem _⟩
        obtain ⟨ad, rfl, hv⟩ := HR.out.ms hx
        have c1 := hv.d1
        have c5 := hv.d5
        have HX := Lib.hid hx
        clear hv hx
        by_cases ha : 100 < x.key.size
        · have e1 := HF.out k x HX.out (.inl ha)
          have ha' : decide ((100 : Int) < (x.key.size : Int)) = true := by simp; omega
          clear ha
          go_wp2
          go_ret
          exact ⟨by first | rfl | (rw [e1]; rfl), rfl⟩
        · have ha' : decide ((100 : Int) < (x.key.size : Int)) = false := by simp; omega
          have HCa := Lib.hid ha
          clear ha
          by_cases hb : 100 < x.val.size
          · have e1 := HF.out k x HX.out (.inr hb)
            have hb' : decide ((100 : Int) < (x.val.size : Int)) = true := by simp; omega
            clear hb
            go_wp2
            go_ret
            exact ⟨by first | rfl | (rw [e1]; rfl), rfl⟩
          · have hb' : decide ((100 : Int) < (x.val.size : Int)) = false := by simp; omega
            have HC := Lib.hid hb
            clear hb
            go_wp2
            go_round
            case rel => exact ⟨k + 1, by omega, by go_num, fun j a hj ha => by
              by_cases ej : j = k
              · subst ej
                rw [HX.out] at ha
                injection ha with ha
                have h1 := HC.out
                have h2 := HCa.out
                rw [← ha]; omega
              · exact HA.out j a (by omega) ha⟩
            case measure => simp [intOf]; omega
      · obtain rfl : k = n := by omega
        have e1 := HT.out (by rw [HL.out]; have := HK.out; omega) (by rw [HL.out]; exact HA.out)
        go_wp2
        go_ret
        exact ⟨by first | rfl | (rw [e1]; rfl), rfl⟩
def aM : Ms := ⟨2, ⟨#[]⟩, 3, 0, false, ⟨#[]⟩⟩
def aV : Vn := ⟨1, 5, false, ⟨#[118]⟩⟩
theorem ck_w : checkM wM = 0 := by unfold checkM mgStrays; simp only [ba_isEmpty]; decide
theorem ck_c : checkM cM = 0 := by unfold checkM mgStrays; simp only [ba_isEmpty]; decide
theorem ck_a : checkM aM = 0 := by unfold checkM mgStrays; simp only [ba_isEmpty]; decide
theorem small_one (n : Nat) (h : 0 < n) (h2 : n < 256) : putSmall n = [1, UInt8.ofNat n] := by
  have e : wid n = 1 := by rw [wid_pos h, show n / 256 = 0 by omega, wid_zero]
  simp [putSmall, e, hi]
theorem put_a : putM aM = [2, 1, 3] := by
  show (2 : UInt8) :: [] ++ putSmall 3 ++ [] ++ [] = _
  rw [small_one 3 (by omega) (by omega)]
  rfl
theorem put_c : (putM cM).length = 5 := by
  show ((1 : UInt8) :: [] ++ putSmall 1 ++ putSmall 5 ++ []).length = _
  rw [small_one 1 (by omega) (by omega), small_one 5 (by omega) (by omega)]
  rfl
theorem size_c : sizeM cM = 5 := by unfold sizeM; rw [if_pos ck_c, put_c]
theorem fold_two : mgFold ⟨#[107]⟩ [] [wM, cM] = [aV] := by
  show [wM, cM].foldl mgApply [] = _
  show mgApply (mgApply [] wM) cM = _
  have e1 : mgApply [] wM = [⟨1, 0, false, ⟨#[118]⟩⟩] := by unfold mgApply; rw [if_pos ck_w]; decide
  rw [e1]
  unfold mgApply
  rw [if_pos ck_c]
  decide
theorem for_two : [wM, cM].filter (mgAbout ⟨#[120]⟩) = [cM] := rfl
theorem rgM_two (W : World) : RG KM (W.alloc (.cells #[.int .u8 0, .string ⟨#[107]⟩, .int .i64 1, .int .i64 0, .bool false, .string ⟨#[118]⟩, .int .u8 1, .string ⟨#[]⟩, .int .i64 1, .int .i64 5, .bool false, .string ⟨#[]⟩] 40)) (some ⟨W.heap.size, 0, none⟩) [wM, cM] := fun j x hj => by
  match j, hj with
  | 0, hj =>
    simp at hj
    subst hj
    refine ⟨_, wM.cs, rfl, ?_, rfl⟩
    intro i u hu
    match i, hu with
    | 0, hu | 1, hu | 2, hu | 3, hu | 4, hu | 5, hu => simp [Ms.cs, wM] at hu; subst hu; simp [Addr.add]
    | i + 6, hu => simp [Ms.cs] at hu
  | 1, hj =>
    simp at hj
    subst hj
    refine ⟨_, cM.cs, rfl, ?_, rfl⟩
    intro i u hu
    match i, hu with
    | 0, hu | 1, hu | 2, hu | 3, hu | 4, hu | 5, hu => simp [Ms.cs, cM] at hu; subst hu; simp [Addr.add, KM, CR.flat]
    | i + 6, hu => simp [Ms.cs] at hu
  | j + 2, hj => simp at hj
theorem MsBox.w {W : World} {q : Nat} (h : MsBox W q wM) : W.cell? ⟨q, 0, none⟩ = some (.int .u8 0) ∧ W.cell? ⟨q, 1, none⟩ = some (.string ⟨#[107]⟩) ∧ W.cell? ⟨q, 2, none⟩ = some (.int .i64 1) ∧ W.cell? ⟨q, 3, none⟩ = some (.int .i64 0) ∧ W.cell? ⟨q, 4, none⟩ = some (.bool false) ∧ W.cell? ⟨q, 5, none⟩ = some (.string ⟨#[118]⟩) := ⟨h.c0, h.c1, h.c2, h.c3, h.c4, h.c5⟩
theorem MsBox.c {W : World} {q : Nat} (h : MsBox W q cM) : W.cell? ⟨q, 0, none⟩ = some (.int .u8 1) ∧ W.cell? ⟨q, 1, none⟩ = some (.string ⟨#[]⟩) ∧ W.cell? ⟨q, 2, none⟩ = some (.int .i64 1) ∧ W.cell? ⟨q, 3, none⟩ = some (.int .i64 5) ∧ W.cell? ⟨q, 4, none⟩ = some (.bool false) ∧ W.cell? ⟨q, 5, none⟩ = some (.string ⟨#[]⟩) := ⟨h.c0, h.c1, h.c2, h.c3, h.c4, h.c5⟩
theorem AgW.new (w : World) : Below w.heap.size w ((w.alloc (.cells #[.int .u8 0, .string ⟨#[107]⟩, .int .i64 1, .int .i64 0, .bool false, .string ⟨#[118]⟩] 40)).alloc (.cells #[.int .u8 1, .string ⟨#[]⟩, .int .i64 1, .int .i64 5, .bool false, .string ⟨#[]⟩] 40)) ∧ MsBox ((w.alloc (.cells #[.int .u8 0, .string ⟨#[107]⟩, .int .i64 1, .int .i64 0, .bool false, .string ⟨#[118]⟩] 40)).alloc (.cells #[.int .u8 1, .string ⟨#[]⟩, .int .i64 1, .int .i64 5, .bool false, .string ⟨#[]⟩] 40)) w.heap.size wM ∧ MsBox ((w.alloc (.cells #[.int .u8 0, .string ⟨#[107]⟩, .int .i64 1, .int .i64 0, .bool false, .string ⟨#[118]⟩] 40)).alloc (.cells #[.int .u8 1, .string ⟨#[]⟩, .int .i64 1, .int .i64 5, .bool false, .string ⟨#[]⟩] 40)) (w.heap.size + 1) cM := by
  refine ⟨below2 w _ _, (MsBox.new w wM 40).alloc _, ?_⟩
  have := MsBox.new (w.alloc (.cells #[.int .u8 0, .string ⟨#[107]⟩, .int .i64 1, .int .i64 0, .bool false, .string ⟨#[118]⟩] 40)) cM 40
  rw [heap_size_alloc] at this
  exact this
theorem RG.str0 {W : World} {bd : Addr} {s : List UInt8} (h : RG CR.str W (some bd) [s]) : W.cell? bd = some (.string (str s)) := by
  obtain ⟨ad, cs, e, h1, h2⟩ := h 0 s rfl
  injection e with e
  subst e
  have h2 : cs = [.string (str s)] := h2
  subst h2
  have := h1 0 _ rfl
  rw [Nat.zero_mul, Addr.add_nought, Addr.add_nought] at this
  exact this
/-- All that awake has at its end. -/
theorem AgZ {w W : World} {q3 q6 : Nat} {ad : Addr} {c1 : Nat} (x : MsBox W w.heap.size wM) (y : MsBox W (w.heap.size + 1) cM) (s : StBox W q3 ⟨#[107]⟩ (some ad) 1 c1) (r : RG KV W (some ad) [aV]) (m : MsBox W q6 aM) :
    (W.cell? ⟨w.heap.size, 0, none⟩ = some (.int .u8 0) ∧ W.cell? ⟨w.heap.size, 1, none⟩ = some (.string ⟨#[107]⟩) ∧ W.cell? ⟨w.heap.size, 2, none⟩ = some (.int .i64 1) ∧ W.cell? ⟨w.heap.size, 3, none⟩ = some (.int .i64 0) ∧ W.cell? ⟨w.heap.size, 4, none⟩ = some (.bool false) ∧ W.cell? ⟨w.heap.size, 5, none⟩ = some (.string ⟨#[118]⟩)) ∧
    (W.cell? ⟨w.heap.size + 1, 0, none⟩ = some (.int .u8 1) ∧ W.cell? ⟨w.heap.size + 1, 1, none⟩ = some (.string ⟨#[]⟩) ∧ W.cell? ⟨w.heap.size + 1, 2, none⟩ = some (.int .i64 1) ∧ W.cell? ⟨w.heap.size + 1, 3, none⟩ = some (.int .i64 5) ∧ W.cell? ⟨w.heap.size + 1, 4, none⟩ = some (.bool false) ∧ W.cell? ⟨w.heap.size + 1, 5, none⟩ = some (.string ⟨#[]⟩)) ∧
    W.cell? ⟨q3, 1, none⟩ = some (.slice (some ad) 1 c1) ∧ W.cell? ⟨ad.block, ad.off + 1, none⟩ = some (.int .i64 5) ∧ W.cell? ⟨q6, 2, none⟩ = some (.int .i64 3) := by
  refine ⟨x.w, y.c, s.c1, ?_, m.c2⟩
  obtain ⟨ad', e, h⟩ := r.vn (k := 0) (v := aV) rfl
  injection e with e
  subst e
  have := h.d1
  rw [Nat.zero_mul, Addr.add_nought] at this
  exact this
theorem agK1 (W : World) :
    Calls Try.prog 47 #[.agg #[.string ⟨#[107]⟩, .slice none 0 0], .slice (some ⟨W.heap.size, 0, none⟩) 2 2] (W.alloc (.cells #[.int .u8 0, .string ⟨#[107]⟩, .int .i64 1, .int .i64 0, .bool false, .string ⟨#[118]⟩, .int .u8 1, .string ⟨#[]⟩, .int .i64 1, .int .i64 5, .bool false, .string ⟨#[]⟩] 40)) fun e w' => ∃ A c, e = .returned (.agg #[.string ⟨#[107]⟩, .slice (some A) 1 c]) ∧ RG KV w' (some A) [aV] ∧ Below (W.alloc (.cells #[.int .u8 0, .string ⟨#[107]⟩, .int .i64 1, .int .i64 0, .bool false, .string ⟨#[118]⟩, .int .u8 1, .string ⟨#[]⟩, .int .i64 1, .int .i64 5, .bool false, .string ⟨#[]⟩] 40)).heap.size (W.alloc (.cells #[.int .u8 0, .string ⟨#[107]⟩, .int .i64 1, .int .i64 0, .bool false, .string ⟨#[118]⟩, .int .u8 1, .string ⟨#[]⟩, .int .i64 1, .int .i64 5, .bool false, .string ⟨#[]⟩] 40)) w' := by
  refine (mgFold_any ⟨#[107]⟩ none 0 0 [] (some ⟨W.heap.size, 0, none⟩) 2 2 [wM, cM] (W.alloc (.cells #[.int .u8 0, .string ⟨#[107]⟩, .int .i64 1, .int .i64 0, .bool false, .string ⟨#[118]⟩, .int .u8 1, .string ⟨#[]⟩, .int .i64 1, .int .i64 5, .bool false, .string ⟨#[]⟩] 40)) rfl (by omega) RG.nil rfl (by omega) (rgM_two W)).mono ?_
  rintro e w' ⟨A, c, rfl, h1, h2, h3⟩
  rw [fold_two] at h1 h2 ⊢
  obtain ⟨ad, rfl⟩ := h2.some_of (by simp)
  exact ⟨ad, c, rfl, h2, h3⟩
theorem agK2 (W : World) :
    Calls Try.prog 18 #[.agg #[.int .u8 2, .string ⟨#[]⟩, .int .i64 3, .int .i64 0, .bool false, .string ⟨#[]⟩]] W fun e w' => ∃ v', e = .returned (.tuple #[v', .int .i64 0]) ∧ OB W.heap.size w' v' [2, 1, 3] ∧ Below W.heap.size W w' := by
  have h := mgPut_any aM W
  rw [ck_a, if_pos rfl, put_a] at h
  exact h
theorem agK3 (W : World) (B : Option Addr) (d : Nat) (hd : 4 ≤ d) (hr : RB W B [2, 1, 3, 9]) :
    Calls Try.prog 20 #[.slice B 4 d] W fun e w' => e = .returned (.tuple #[.agg #[.int .u8 2, .string ⟨#[]⟩, .int .i64 3, .int .i64 0, .bool false, .string ⟨#[]⟩], .int .i64 3, .int .i64 0]) ∧ Below W.heap.size W w' := by
  refine (mgGet_any B 4 d [2, 1, 3, 9] W (by omega) rfl hd hr).mono ?_
  rintro e w' ⟨m, k, z, rfl, h1, h2⟩
  have e1 : ([2, 1, 3, 9] : List UInt8) = putM aM ++ [9] := by rw [put_a]; rfl
  rw [e1] at h1
  obtain ⟨rfl, rfl, rfl⟩ := h1.put ck_a
  rw [put_a]
  exact ⟨rfl, h2⟩
theorem agK4 (W : World) :
    Calls Try.prog 48 #[.slice (some ⟨W.heap.size, 0, none⟩) 2 2, .string ⟨#[]⟩, .string ⟨#[]⟩] (W.alloc (.cells #[.int .u8 0, .string ⟨#[107]⟩, .int .i64 1, .int .i64 0, .bool false, .string ⟨#[118]⟩, .int .u8 1, .string ⟨#[]⟩, .int .i64 1, .int .i64 5, .bool false, .string ⟨#[]⟩] 40)) fun e w' => ∃ B d, e = .returned (.slice B 1 d) ∧ RG CR.str w' B [[107]] ∧ Below (W.alloc (.cells #[.int .u8 0, .string ⟨#[107]⟩, .int .i64 1, .int .i64 0, .bool false, .string ⟨#[118]⟩, .int .u8 1, .string ⟨#[]⟩, .int .i64 1, .int .i64 5, .bool false, .string ⟨#[]⟩] 40)).heap.size (W.alloc (.cells #[.int .u8 0, .string ⟨#[107]⟩, .int .i64 1, .int .i64 0, .bool false, .string ⟨#[118]⟩, .int .u8 1, .string ⟨#[]⟩, .int .i64 1, .int .i64 5, .bool false, .string ⟨#[]⟩] 40)) w' := mgKeys_two (some ⟨W.heap.size, 0, none⟩) 2 (W.alloc (.cells #[.int .u8 0, .string ⟨#[107]⟩, .int .i64 1, .int .i64 0, .bool false, .string ⟨#[118]⟩, .int .u8 1, .string ⟨#[]⟩, .int .i64 1, .int .i64 5, .bool false, .string ⟨#[]⟩] 40)) (rgM_two W)
theorem agK5 (W : World) :
    Calls Try.prog 49 #[.slice (some ⟨W.heap.size, 0, none⟩) 2 2, .string ⟨#[120]⟩] (W.alloc (.cells #[.int .u8 0, .string ⟨#[107]⟩, .int .i64 1, .int .i64 0, .bool false, .string ⟨#[118]⟩, .int .u8 1, .string ⟨#[]⟩, .int .i64 1, .int .i64 5, .bool false, .string ⟨#[]⟩] 40)) fun e w' => ∃ A c, e = .returned (.slice A 1 c) ∧ Below (W.alloc (.cells #[.int .u8 0, .string ⟨#[107]⟩, .int .i64 1, .int .i64 0, .bool false, .string ⟨#[118]⟩, .int .u8 1, .string ⟨#[]⟩, .int .i64 1, .int .i64 5, .bool false, .string ⟨#[]⟩] 40)).heap.size (W.alloc (.cells #[.int .u8 0, .string ⟨#[107]⟩, .int .i64 1, .int .i64 0, .bool false, .string ⟨#[118]⟩, .int .u8 1, .string ⟨#[]⟩, .int .i64 1, .int .i64 5, .bool false, .string ⟨#[]⟩] 40)) w' := by
  refine (mgFor_any (some ⟨W.heap.size, 0, none⟩) 2 2 [wM, cM] ⟨#[120]⟩ (W.alloc (.cells #[.int .u8 0, .string ⟨#[107]⟩, .int .i64 1, .int .i64 0, .bool false, .string ⟨#[118]⟩, .int .u8 1, .string ⟨#[]⟩, .int .i64 1, .int .i64 5, .bool false, .string ⟨#[]⟩] 40)) rfl (by omega) (rgM_two W)).mono ?_
  rintro e w' ⟨v', rfl, o, b⟩
  rw [for_two] at o
  obtain ⟨A, c, rfl, _⟩ := o.rg
  exact ⟨A, c, rfl, b⟩
theorem agK6 (W : World) :
    Calls Try.prog 50 #[.agg #[.int .u8 1, .string ⟨#[]⟩, .int .i64 1, .int .i64 5, .bool false, .string ⟨#[]⟩]] W fun e w' => e = .returned (.bool true) ∧ Below W.heap.size W w' := mgWide_any cM W
theorem agK7 (W : World) :
    Calls Try.prog 50 #[.agg #[.int .u8 0, .string ⟨#[107]⟩, .int .i64 1, .int .i64 0, .bool false, .string ⟨#[118]⟩]] W fun e w' => e = .returned (.bool false) ∧ Below W.heap.size W w' := mgWide_any wM W
theorem agK8 (W : World) :
    Calls Try.prog 22 #[.agg #[.int .u8 1, .string ⟨#[]⟩, .int .i64 1, .int .i64 5, .bool false, .string ⟨#[]⟩]] W fun e w' => e = .returned (.int .i64 5) ∧ Below W.heap.size W w' := by have h := mgSize_any cM W; rw [size_c] at h; exact h
theorem agK9 (W : World) :
    Calls Try.prog 51 #[.agg #[.int .u8 0, .string ⟨#[107]⟩, .int .i64 1, .int .i64 0, .bool false, .string ⟨#[118]⟩]] W fun e w' => e = .returned (.int .i64 0) ∧ Below W.heap.size W w' := by have h := mgCheck_any wM W; rw [ck_w] at h; exact h
set_option maxHeartbeats 1000000 in
set_option maxRecDepth 100000 in
theorem mgAwake_any (w : World) : Calls Try.prog 17 #[] w fun e w' => e = .returned (.bool true) ∧ Below w.heap.size w w' := by
  have N0 := Lib.hid (AgW.new w)
  have K1 := Lib.hid (@agK1)
  have K2 := Lib.hid (@agK2)
  have K3 := Lib.hid (@agK3)
  have K4 := Lib.hid (@agK4)
  have K5 := Lib.hid (@agK5)
  have K6 := Lib.hid (@agK6)
  have K7 := Lib.hid (@agK7)
  have K8 := Lib.hid (@agK8)
  have K9 := Lib.hid (@agK9)
  go_enter Try.func17, Try.ntmps17
  go_upto_region 3 with fail
  generalize ((w.alloc (.cells #[.int .u8 0, .string ⟨#[107]⟩, .int .i64 1, .int .i64 0, .bool false, .string ⟨#[118]⟩] 40)).alloc (.cells #[.int .u8 1, .string ⟨#[]⟩, .int .i64 1, .int .i64 5, .bool false, .string ⟨#[]⟩] 40)) = W2 at *
  have B2 := Lib.hid N0.out.1; have X2 := Lib.hid N0.out.2.1; have Y2 := Lib.hid N0.out.2.2
  clear N0
  obtain ⟨x0, x1, x2, x3, x4, x5⟩ := X2.out.w; obtain ⟨y0, y1, y2, y3, y4, y5⟩ := Y2.out.c
  go_upto_region 4 with (go_at_call 47; refine (K1.out _).mono ?_; rintro e w3 ⟨ad, c1, rfl, h1, b3⟩; have F3 := Lib.hid ((below1 W2 (.cells #[.int .u8 0, .string ⟨#[107]⟩, .int .i64 1, .int .i64 0, .bool false, .string ⟨#[118]⟩, .int .u8 1, .string ⟨#[]⟩, .int .i64 1, .int .i64 5, .bool false, .string ⟨#[]⟩] 40)).trans (b3.mono (below1 W2 (.cells #[.int .u8 0, .string ⟨#[107]⟩, .int .i64 1, .int .i64 0, .bool false, .string ⟨#[118]⟩, .int .u8 1, .string ⟨#[]⟩, .int .i64 1, .int .i64 5, .bool false, .string ⟨#[]⟩] 40)).size)); have R3 := Lib.hid h1; clear h1 b3)
  clear x0 x1 x2 x3 x4 x5 y0 y1 y2 y3 y4 y5
  have F4 := Lib.hid (F3.out.alloc F3.out.size (.cells #[.string ⟨#[107]⟩, .slice (some ad) 1 c1] 24))
  have S4 := Lib.hid (StBox.new w3 ⟨#[107]⟩ (some ad) 1 c1 24)
  have R4 := Lib.hid (R3.out.alloc (.cells #[.string ⟨#[107]⟩, .slice (some ad) 1 c1] 24))
  have X4 := Lib.hid (X2.out.on F4.out); have Y4 := Lib.hid (Y2.out.on F4.out)
  have B4 := Lib.hid (B2.out.trans (F4.out.mono B2.out.size))
  generalize w3.alloc (.cells #[.string ⟨#[107]⟩, .slice (some ad) 1 c1] 24) = W4 at *
  generalize w3.heap.size = q3 at *
  clear F3 F4 R3 X2 Y2 B2
  go_upto_region 5 with (go_at_call 18; refine (K2.out _).mono ?_; rintro e w5 ⟨v5, rfl, o5, b5⟩; obtain ⟨AP, cP, e5, hcP, rP⟩ := o5.form; have e7 : v5 = .slice AP 3 cP := e5; subst e7; have F5 := Lib.hid b5; have O5 := Lib.hid o5; clear o5 b5 e5 hcP rP)
  have HRUN := Lib.hid (mg_run_append_keep u8_flat tgB 25 (O5.out.alloc (.cells #[.int .u8 9] 5)).og (ad := ⟨w5.heap.size, 0, none⟩) (m := 1) 1 (M := [9]) rfl (by omega) (RB.one w5 9 9 rfl).rg (by simp) (by have := F5.out.size; rw [heap_size_alloc]; omega))
  go_upto_region 6 with (first
    | (at_builtin; refine wpList_append_of rfl (.tmp 23) (.tmp 24) rfl (.slice AP 3 cP) (.slice (some ⟨w5.heap.size, 0, none⟩) 1 1) rfl rfl HRUN.out ?_; rintro v6 w6 ⟨o6, p6, b6, _, _⟩; have F6 := Lib.hid ((F5.out.alloc F5.out.size (.cells #[.int .u8 9] 5)).trans b6); obtain ⟨A6_, c6_, e6, h61, _, h62, _⟩ := o6.rg; have e7 : v6 = .slice A6_ 4 c6_ := e6; subst e7; have R6 := Lib.hid (show RB w6 A6_ [2, 1, 3, 9] from h62.rb); have C6_ := Lib.hid (show 4 ≤ c6_ from h61); obtain ⟨A7_, c7_, e8, _, _, h72, _⟩ := p6.rg; injection e8 with e81 e82 e83; subst e81; have RP := Lib.hid (show RB w6 AP [2, 1, 3] from h72.rb); clear o6 p6 b6 e6 h61 h62 e82 e83 h72)
    | (go_at_call 20; refine (K3.out _ _ _ C6_.out R6.out).mono ?_; rintro e w7 ⟨rfl, b7⟩; have F7 := Lib.hid (F6.out.trans (b7.mono F6.out.size)); have RP := Lib.hid (RP.out.below b7); clear b7)
    | fail)
  have M7 := Lib.hid (show MsBox (w7.alloc (.cells #[.int .u8 2, .string ⟨#[]⟩, .int .i64 3, .int .i64 0, .bool false, .string ⟨#[]⟩] 40)) w7.heap.size aM from MsBox.new w7 aM 40)
  have F7 := Lib.hid (F7.out.alloc F7.out.size (.cells #[.int .u8 2, .string ⟨#[]⟩, .int .i64 3, .int .i64 0, .bool false, .string ⟨#[]⟩] 40))
  have RP := Lib.hid (RP.out.below (below1 w7 (.cells #[.int .u8 2, .string ⟨#[]⟩, .int .i64 3, .int .i64 0, .bool false, .string ⟨#[]⟩] 40)))
  generalize w7.alloc (.cells #[.int .u8 2, .string ⟨#[]⟩, .int .i64 3, .int .i64 0, .bool false, .string ⟨#[]⟩] 40) = W7 at *
  generalize w7.heap.size = q6 at *
  have KZ := Lib.hid (fun W (h : Below W7.heap.size W7 W) => AgZ ((X4.out.on F7.out).on h) ((Y4.out.on F7.out).on h) ((S4.out.on F7.out).on h) ((R4.out.below F7.out).below h) (M7.out.on h))
  have KS := Lib.hid (fun W (h : Below W7.heap.size W7 W) => show (convert 25 9 (.slice AP 3 cP)).run Try.prog W = .ok (.string ⟨#[2, 1, 3]⟩) W from run_str W AP 3 cP [2, 1, 3] rfl (RP.out.below h))
  have BW7 := Lib.hid (B4.out.trans (F7.out.mono B4.out.size))
  clear HRUN K1 K2 K3 F5 F6 O5 R6 C6_ RP X4 Y4 S4 R4 B4 M7 F7
  obtain ⟨⟨x0, x1, x2, x3, x4, x5⟩, ⟨y0, y1, y2, y3, y4, y5⟩, s1, r1, m2⟩ := KZ.out W7 (Below.refl _ _)
  go_wp2_with (first
    | (go_at_call 48; refine (K4.out _).mono ?_; rintro e w8 ⟨B8, d8, rfl, h8, b8⟩; obtain ⟨bd, rfl⟩ := h8.some_of (by simp); have G8 := Lib.hid ((below1 W7 (.cells #[.int .u8 0, .string ⟨#[107]⟩, .int .i64 1, .int .i64 0, .bool false, .string ⟨#[118]⟩, .int .u8 1, .string ⟨#[]⟩, .int .i64 1, .int .i64 5, .bool false, .string ⟨#[]⟩] 40)).trans (b8.mono (below1 W7 (.cells #[.int .u8 0, .string ⟨#[107]⟩, .int .i64 1, .int .i64 0, .bool false, .string ⟨#[118]⟩, .int .u8 1, .string ⟨#[]⟩, .int .i64 1, .int .i64 5, .bool false, .string ⟨#[]⟩] 40)).size)); have H8 := Lib.hid h8; have k8 : w8.cell? bd = some (.string ⟨#[107]⟩) := (by have hh := h8.str0; exact hh); have cs := KS.out _ G8.out; (clear x0 x1 x2 x3 x4 x5 y0 y1 y2 y3 y4 y5 s1 r1 m2); obtain ⟨⟨x0, x1, x2, x3, x4, x5⟩, ⟨y0, y1, y2, y3, y4, y5⟩, s1, r1, m2⟩ := KZ.out _ G8.out; clear h8 b8)
    | (go_at_call 49; refine (K5.out _).mono ?_; rintro e w9 ⟨A9, d9, rfl, b9⟩; have G9 := Lib.hid (G8.out.trans (((below1 w8 (.cells #[.int .u8 0, .string ⟨#[107]⟩, .int .i64 1, .int .i64 0, .bool false, .string ⟨#[118]⟩, .int .u8 1, .string ⟨#[]⟩, .int .i64 1, .int .i64 5, .bool false, .string ⟨#[]⟩] 40)).trans (b9.mono (below1 w8 (.cells #[.int .u8 0, .string ⟨#[107]⟩, .int .i64 1, .int .i64 0, .bool false, .string ⟨#[118]⟩, .int .u8 1, .string ⟨#[]⟩, .int .i64 1, .int .i64 5, .bool false, .string ⟨#[]⟩] 40)).size)).mono G8.out.size)); (clear x0 x1 x2 x3 x4 x5 y0 y1 y2 y3 y4 y5 s1 r1 m2); obtain ⟨⟨x0, x1, x2, x3, x4, x5⟩, ⟨y0, y1, y2, y3, y4, y5⟩, s1, r1, m2⟩ := KZ.out _ G9.out; clear b9)
    | (go_at_call 50; (with_reducible refine Calls.mono (K6.out _) ?_); rintro e wa ⟨rfl, b⟩; have Ga := Lib.hid (G9.out.trans (b.mono G9.out.size)); (clear x0 x1 x2 x3 x4 x5 y0 y1 y2 y3 y4 y5 s1 r1 m2); obtain ⟨⟨x0, x1, x2, x3, x4, x5⟩, ⟨y0, y1, y2, y3, y4, y5⟩, s1, r1, m2⟩ := KZ.out _ Ga.out; clear b)
    | (go_at_call 50; (with_reducible refine Calls.mono (K7.out _) ?_); rintro e wb ⟨rfl, b⟩; have Gb := Lib.hid (Ga.out.trans (b.mono Ga.out.size)); (clear x0 x1 x2 x3 x4 x5 y0 y1 y2 y3 y4 y5 s1 r1 m2); obtain ⟨⟨x0, x1, x2, x3, x4, x5⟩, ⟨y0, y1, y2, y3, y4, y5⟩, s1, r1, m2⟩ := KZ.out _ Gb.out; clear b)
    | (go_at_call 22; refine (K8.out _).mono ?_; rintro e wc ⟨rfl, b⟩; have Gc := Lib.hid (Gb.out.trans (b.mono Gb.out.size)); (clear x0 x1 x2 x3 x4 x5 y0 y1 y2 y3 y4 y5 s1 r1 m2); obtain ⟨⟨x0, x1, x2, x3, x4, x5⟩, ⟨y0, y1, y2, y3, y4, y5⟩, s1, r1, m2⟩ := KZ.out _ Gc.out; clear b)
    | (go_at_call 51; refine (K9.out _).mono ?_; rintro e wd ⟨rfl, b⟩; have Gd := Lib.hid (Gc.out.trans (b.mono Gc.out.size)); clear b)
    | fail)
  go_ret
  exact ⟨rfl, BW7.out.trans (Gd.out.mono BW7.out.size)⟩
end Go.Proofs.Ytjmmaghjbaigiaa
