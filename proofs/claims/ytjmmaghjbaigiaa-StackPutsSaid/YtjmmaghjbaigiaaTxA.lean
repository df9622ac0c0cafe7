/- Texts of bytes: plain functions that say how a text is laid and read, and their laws; the contracts of the program's and of the document's functions. -/
import Derived.Test.YtjmmaghjbaigiaaOkC
namespace Go.Proofs.Ytjmmaghjbaigiaa
open Go.RowKit
set_option linter.unusedVariables false
set_option linter.unusedSimpArgs false

theorem drop_cons {l : List UInt8} {k : Nat} {x : UInt8} (h : l[k]? = some x) : l.drop k = x :: l.drop (k + 1) := by
  obtain ⟨h1, rfl⟩ := List.getElem?_eq_some_iff.1 h
  exact List.drop_eq_getElem_cons h1
/-- The bytes of a text, without its end. -/
def encT : List UInt8 → List UInt8
  | [] => []
  | x :: l => if x.toNat = 0 then 0 :: 255 :: encT l else x :: encT l
def putText (l : List UInt8) : List UInt8 := encT l ++ [0, 1]
theorem encT_snoc (l : List UInt8) (x : UInt8) : encT (l ++ [x]) = encT l ++ if x.toNat = 0 then [0, 255] else [x] := by
  induction l with
  | nil => simp only [List.nil_append, encT]
  | cons y l ih =>
    simp only [List.cons_append, encT, ih]
    split <;> simp
theorem encT_len (l : List UInt8) : (encT l).length ≤ 2 * l.length := by
  induction l with
  | nil => simp [encT]
  | cons y l ih =>
    simp only [encT]
    split <;> simp <;> omega

/-- Reading a text: whether a 00 stands ahead; the bytes that are left; the text so far; how many were read. -/
def getTS : Bool → List UInt8 → List UInt8 → Nat → List UInt8 × Nat × Nat
  | _, [], _, _ => ([], 0, 3)
  | false, x :: r, acc, i => if x.toNat = 0 then getTS true r acc (i + 1) else getTS false r (acc ++ [x]) (i + 1)
  | true, x :: r, acc, i => if x.toNat = 255 then getTS false r (acc ++ [0]) (i + 1) else if x.toNat = 1 then (acc, i + 1, 0) else ([], 0, 4)
def getText (l : List UInt8) : List UInt8 × Nat × Nat := getTS false l [] 0
theorem getTS_end {z : Bool} {l acc : List UInt8} {k : Nat} (h : l.length ≤ k) : getTS z (l.drop k) acc k = ([], 0, 3) := by
  rw [List.drop_eq_nil_of_le h]; cases z <;> rfl
theorem getTS_zero {l acc : List UInt8} {k : Nat} {x : UInt8} (h : l[k]? = some x) (hx : x.toNat = 0) : getTS false (l.drop k) acc k = getTS true (l.drop (k + 1)) acc (k + 1) := by
  rw [drop_cons h, getTS, if_pos hx]
theorem getTS_byte {l acc : List UInt8} {k : Nat} {x : UInt8} (h : l[k]? = some x) (hx : x.toNat ≠ 0) : getTS false (l.drop k) acc k = getTS false (l.drop (k + 1)) (acc ++ [x]) (k + 1) := by
  rw [drop_cons h, getTS, if_neg hx]
theorem getTS_mark {l acc : List UInt8} {k : Nat} {x : UInt8} (h : l[k]? = some x) (hx : x.toNat = 255) : getTS true (l.drop k) acc k = getTS false (l.drop (k + 1)) (acc ++ [0]) (k + 1) := by
  rw [drop_cons h, getTS, if_pos hx]
theorem getTS_done {l acc : List UInt8} {k : Nat} {x : UInt8} (h : l[k]? = some x) (hx : x.toNat = 1) : getTS true (l.drop k) acc k = (acc, k + 1, 0) := by
  rw [drop_cons h, getTS, if_neg (by omega), if_pos hx]
theorem getTS_form {l acc : List UInt8} {k : Nat} {x : UInt8} (h : l[k]? = some x) (h1 : x.toNat ≠ 255) (h2 : x.toNat ≠ 1) : getTS true (l.drop k) acc k = ([], 0, 4) := by
  rw [drop_cons h, getTS, if_neg h1, if_neg h2]
theorem txt_at (s : ByteArray) (k : Nat) (h : k < s.size) : s.data.toList[k]? = some s[k] := by
  rw [List.getElem?_eq_getElem (by simpa using h)]
  rfl

set_option maxHeartbeats 800000 in
theorem putText_any (s : ByteArray) (w : World) (hs : s.size ≤ 17592186044416) :
    Calls Try.prog 37 #[.string s] w fun e w' => ∃ v', e = .returned v' ∧ OB w.heap.size w' v' (putText s.data.toList) ∧ Below w.heap.size w w' := by
  go_enter Try.func37, Try.ntmps37
  go_wp2
  go_loopw [3, 7] (fun t i wr => ∃ k : Nat, k ≤ s.size ∧ i = .int .i64 k ∧ OB w.heap.size wr t (encT (s.data.toList.take k)) ∧ Below w.heap.size w wr) (fun _ i _ => s.size - (intOf i).toNat)
  case atStart => exact ⟨0, Nat.zero_le _, rfl, OB.nil, Below.refl _ _⟩
  case round =>
    obtain ⟨k, hk, rfl, hown, hbel⟩ := hrel
    have hbs := hbel.size
    have hlen : (encT (s.data.toList.take k)).length ≤ 2 * k := Nat.le_trans (encT_len _) (Nat.mul_le_mul_left _ (List.length_take_le _ _))
    by_cases hlt : k < s.size
    · have HS := Lib.hid (show encT (s.data.toList.take (k + 1)) = encT (s.data.toList.take k) ++ if s[k].toNat = 0 then [0, 255] else [s[k]] from by rw [take_snoc (txt_at s k hlt), encT_snoc])
      by_cases h0 : s[k].toNat = 0
      · have HG := Lib.hid (show encT (s.data.toList.take (k + 1)) = encT (s.data.toList.take k) ++ [0] ++ [255] from by rw [HS.out, if_pos h0]; simp)
        have h0' : s[k].toNat < 1 := by omega
        have HB := Lib.hid (show (s[k].toNat : Int) = ((0 : UInt8).toNat : Int) from by rw [h0]; rfl)
        clear h0 HS
        go_wp2_with (first
          | (at_builtin; refine wpList_append_B rfl (.tmp 10) (.tmp 14) rfl w.heap.size _ _ rfl (hown.alloc _) _ 1 _ [0] rfl rfl (RB.one _ _ _ HB.out) (by omega) (by simp; omega) ?_; intro v1 w1 hown1 hb1; have h20 : Below w.heap.size w w1 := ((hbel.alloc hbs _).trans hb1); have hz1 := h20.size)
          | (at_builtin; refine wpList_append_B rfl (.tmp 20) (.tmp 21) rfl w.heap.size _ _ rfl (hown1.alloc _) _ 1 _ [255] rfl rfl (RB.one _ _ _ rfl) (by simp; omega) (by simp; omega) ?_; intro v2 w2 hown2 hb2; have h21 : Below w.heap.size w w2 := ((h20.alloc hz1 _).trans hb2)))
        go_roundw
        case rel => exact ⟨k + 1, by omega, by go_num, by rw [HG.out]; exact hown2, h21⟩
        case measure => simp [intOf]; omega
      · have HG := Lib.hid (show encT (s.data.toList.take (k + 1)) = encT (s.data.toList.take k) ++ [s[k]] from by rw [HS.out, if_neg h0])
        have h0' : 0 < s[k].toNat := by omega
        clear h0 HS
        go_wp2_with (at_builtin; refine wpList_append_B rfl (.tmp 10) (.tmp 14) rfl w.heap.size _ _ rfl (hown.alloc _) _ 1 _ [s[k]] rfl rfl (RB.one _ _ _ rfl) (by omega) (by simp; omega) ?_; intro v1 w1 hown1 hb1; have h20 : Below w.heap.size w w1 := ((hbel.alloc hbs _).trans hb1))
        go_roundw
        case rel => exact ⟨k + 1, by omega, by go_num, by rw [HG.out]; exact hown1, h20⟩
        case measure => simp [intOf]; omega
    · have HG := Lib.hid (show s.data.toList.take k = s.data.toList from List.take_of_length_le (by simp; omega))
      go_wp2_with (at_builtin; refine wpList_append_B rfl (.tmp 24) (.tmp 25) rfl w.heap.size _ _ rfl (hown.alloc _) _ 2 _ [0, 1] rfl rfl (RB.lit _ [0, 1] _ (by simp [cellsB, cellB]) (by simp [maxLen])) (by omega) (by simp; omega) ?_; intro v1 w1 hown1 hb1; have h20 : Below w.heap.size w w1 := ((hbel.alloc hbs _).trans hb1))
      go_ret
      rw [HG.out] at hown1
      exact ⟨_, rfl, hown1, h20⟩

set_option maxHeartbeats 800000 in
theorem refPutText_any (s : ByteArray) (w : World) (hs : s.size ≤ 17592186044416) :
    Calls Try.prog 41 #[.string s] w fun e w' => ∃ v', e = .returned v' ∧ OB w.heap.size w' v' (putText s.data.toList) ∧ Below w.heap.size w w' := by
  go_enter Try.func41, Try.ntmps41
  go_wp2
  go_loopw [3, 4] (fun t i wr => ∃ k : Nat, k ≤ s.size ∧ i = .int .i64 k ∧ OB w.heap.size wr t (encT (s.data.toList.take k)) ∧ Below w.heap.size w wr) (fun _ i _ => s.size - (intOf i).toNat)
  case atStart => exact ⟨0, Nat.zero_le _, rfl, OB.nil, Below.refl _ _⟩
  case round =>
    obtain ⟨k, hk, rfl, hown, hbel⟩ := hrel
    have hbs := hbel.size
    have hlen : (encT (s.data.toList.take k)).length ≤ 2 * k := Nat.le_trans (encT_len _) (Nat.mul_le_mul_left _ (List.length_take_le _ _))
    by_cases hlt : k < s.size
    · have HS := Lib.hid (show encT (s.data.toList.take (k + 1)) = encT (s.data.toList.take k) ++ if s[k].toNat = 0 then [0, 255] else [s[k]] from by rw [take_snoc (txt_at s k hlt), encT_snoc])
      by_cases h0 : s[k].toNat = 0
      · have HG := Lib.hid (show encT (s.data.toList.take (k + 1)) = encT (s.data.toList.take k) ++ [0] ++ [255] from by rw [HS.out, if_pos h0]; simp)
        have h0' : s[k].toNat < 1 := by omega
        have HB := Lib.hid (show (s[k].toNat : Int) = ((0 : UInt8).toNat : Int) from by rw [h0]; rfl)
        clear h0 HS
        go_wp2_with (first
          | (at_builtin; refine wpList_append_B rfl (.tmp 11) (.tmp 15) rfl w.heap.size _ _ rfl (hown.alloc _) _ 1 _ [0] rfl rfl (RB.one _ _ _ HB.out) (by omega) (by simp; omega) ?_; intro v1 w1 hown1 hb1; have h21 : Below w.heap.size w w1 := ((hbel.alloc hbs _).trans hb1); have hz1 := h21.size)
          | (at_builtin; refine wpList_append_B rfl (.tmp 21) (.tmp 22) rfl w.heap.size _ _ rfl (hown1.alloc _) _ 1 _ [255] rfl rfl (RB.one _ _ _ rfl) (by simp; omega) (by simp; omega) ?_; intro v2 w2 hown2 hb2; have h22 : Below w.heap.size w w2 := ((h21.alloc hz1 _).trans hb2)))
        go_roundw
        case rel => exact ⟨k + 1, by omega, by go_num, by rw [HG.out]; exact hown2, h22⟩
        case measure => simp [intOf]; omega
      · have HG := Lib.hid (show encT (s.data.toList.take (k + 1)) = encT (s.data.toList.take k) ++ [s[k]] from by rw [HS.out, if_neg h0])
        have h0' : 0 < s[k].toNat := by omega
        clear h0 HS
        go_wp2_with (at_builtin; refine wpList_append_B rfl (.tmp 11) (.tmp 15) rfl w.heap.size _ _ rfl (hown.alloc _) _ 1 _ [s[k]] rfl rfl (RB.one _ _ _ rfl) (by omega) (by simp; omega) ?_; intro v1 w1 hown1 hb1; have h21 : Below w.heap.size w w1 := ((hbel.alloc hbs _).trans hb1))
        go_roundw
        case rel => exact ⟨k + 1, by omega, by go_num, by rw [HG.out]; exact hown1, h21⟩
        case measure => simp [intOf]; omega
    · have HG := Lib.hid (show s.data.toList.take k = s.data.toList from List.take_of_length_le (by simp; omega))
      go_wp2_with (at_builtin; refine wpList_append_B rfl (.tmp 24) (.tmp 25) rfl w.heap.size _ _ rfl (hown.alloc _) _ 2 _ [0, 1] rfl rfl (RB.lit _ [0, 1] _ (by simp [cellsB, cellB]) (by simp [maxLen])) (by omega) (by simp; omega) ?_; intro v1 w1 hown1 hb1; have h21 : Below w.heap.size w w1 := ((hbel.alloc hbs _).trans hb1))
      go_ret
      rw [HG.out] at hown1
      exact ⟨_, rfl, hown1, h21⟩

set_option maxHeartbeats 1600000 in
set_option maxRecDepth 100000 in
theorem getText_any (A : Option Addr) (n c : Nat) (l : List UInt8) (w : World) (hn : n ≤ 17592186044416) (hl : l.length = n) (hr : RB w A l) :
    Calls Try.prog 106 #[.slice A n c] w fun e w' => e = .returned (.tuple #[.string (str (getText l).1), .int .i64 (getText l).2.1, .int .i64 (getText l).2.2]) ∧ Below w.heap.size w w' := by
  have HL := Lib.hid hl
  clear hl
  go_enter Try.func106, Try.ntmps106
  go_wp2
  go_loopw [5, 6, 10] (fun t z i wr => ∃ (k : Nat) (b : Bool) (acc : List UInt8), k ≤ n ∧ i = .int .i64 k ∧ z = .bool b ∧ OB w.heap.size wr t acc ∧ acc.length ≤ k ∧ getText l = getTS b (l.drop k) acc k ∧ Below w.heap.size w wr) (fun _ _ i _ => n - (intOf i).toNat)
  case atStart => exact ⟨0, false, [], Nat.zero_le _, rfl, rfl, OB.nil, by simp, rfl, Below.refl _ _⟩
  case round =>
    obtain ⟨k, b, acc, hk, rfl, rfl, hown, hacc, hgt, hbel⟩ := hrel
    have HG := Lib.hid hgt
    clear hgt
    have hbs := hbel.size
    by_cases hlt : k < n
    · obtain ⟨ad, x, rfl, hx, hcx⟩ := (hr.below hbel).at_ (k := k) (by rw [HL.out]; exact hlt)
      have hx8 : x.toNat < 256 := x.toNat_lt
      cases b with
      | false =>
        by_cases h0 : x.toNat = 0
        · have HH := Lib.hid (show getText l = getTS true (l.drop (k + 1)) acc (k + 1) from by rw [HG.out, getTS_zero hx h0])
          have h0' : x.toNat < 1 := by omega
          clear h0 hx HG
          go_wp2
          go_roundw
          case rel => exact ⟨k + 1, true, acc, by omega, by go_num, rfl, hown, by omega, HH.out, hbel⟩
          case measure => simp [intOf]; omega
        · have HH := Lib.hid (show getText l = getTS false (l.drop (k + 1)) (acc ++ [x]) (k + 1) from by rw [HG.out, getTS_byte hx h0])
          have h0' : 0 < x.toNat := by omega
          clear h0 hx HG
          go_wp2_with (at_builtin; refine wpList_append_B rfl (.tmp 26) (.tmp 31) rfl w.heap.size _ _ rfl (hown.alloc _) _ 1 _ [x] rfl rfl (RB.one _ _ _ rfl) (by omega) (by simp; omega) ?_; intro v1 w1 hown1 hb1; have hB1 : Below w.heap.size w w1 := ((hbel.alloc hbs _).trans hb1))
          go_roundw
          case rel => exact ⟨k + 1, false, acc ++ [x], by omega, by go_num, rfl, hown1, by simp; omega, HH.out, hB1⟩
          case measure => simp [intOf]; omega
      | true =>
        by_cases h255 : x.toNat = 255
        · have HH := Lib.hid (show getText l = getTS false (l.drop (k + 1)) (acc ++ [0]) (k + 1) from by rw [HG.out, getTS_mark hx h255])
          have h1 : 254 < x.toNat := by omega
          clear h255 hx HG
          go_wp2_with (at_builtin; refine wpList_append_B rfl (.tmp 39) (.tmp 40) rfl w.heap.size _ _ rfl (hown.alloc _) _ 1 _ [0] rfl rfl (RB.one _ _ _ rfl) (by omega) (by simp; omega) ?_; intro v1 w1 hown1 hb1; have hB1 : Below w.heap.size w w1 := ((hbel.alloc hbs _).trans hb1))
          go_roundw
          case rel => exact ⟨k + 1, false, acc ++ [0], by omega, by go_num, rfl, hown1, by simp; omega, HH.out, hB1⟩
          case measure => simp [intOf]; omega
        · by_cases h1 : x.toNat = 1
          · have HH := Lib.hid (show getText l = (acc, k + 1, 0) from by rw [HG.out, getTS_done hx h1])
            obtain ⟨A1, c1, rfl, hc1, hr1⟩ := hown.form
            have hcv := run_str wr A1 acc.length c1 acc rfl hr1
            have ha : x.toNat ≤ 1 := by omega
            have hb : 0 < x.toNat := by omega
            clear h255 h1 hx HG
            go_wp2
            go_ret3
            rw [HH.out]
            exact ⟨rfl, hbel⟩
          · have HH := Lib.hid (show getText l = ([], 0, 4) from by rw [HG.out, getTS_form hx h255 h1])
            clear hx HG
            go_wp2
            go_ret3
            rw [HH.out]
            exact ⟨rfl, hbel⟩
    · have HH := Lib.hid (show getText l = ([], 0, 3) from by rw [HG.out, getTS_end (by rw [HL.out]; omega)])
      go_wp2
      go_ret3
      rw [HH.out]
      exact ⟨rfl, hbel⟩

theorem Addr.add_succ_ (a : Addr) (k : Nat) : a.add (k + 1) = ⟨a.block, a.off + (k + 1), none⟩ := by simp [Addr.add]

set_option maxHeartbeats 1600000 in
set_option maxRecDepth 100000 in
theorem refGetText_any (A : Option Addr) (n c : Nat) (l : List UInt8) (w : World) (hn : n ≤ 17592186044416) (hl : l.length = n) (hr : RB w A l) :
    Calls Try.prog 96 #[.slice A n c] w fun e w' => e = .returned (.tuple #[.string (str (getText l).1), .int .i64 (getText l).2.1, .int .i64 (getText l).2.2]) ∧ Below w.heap.size w w' := by
  have HL := Lib.hid hl
  clear hl
  go_enter Try.func96, Try.ntmps96
  go_wp2
  go_loopw [5, 6] (fun t i wr => ∃ (k : Nat) (acc : List UInt8), k ≤ n ∧ i = .int .i64 k ∧ OB w.heap.size wr t acc ∧ acc.length ≤ k ∧ getText l = getTS false (l.drop k) acc k ∧ Below w.heap.size w wr) (fun _ i _ => n - (intOf i).toNat)
  case atStart => exact ⟨0, [], Nat.zero_le _, rfl, OB.nil, by simp, rfl, Below.refl _ _⟩
  case round =>
    obtain ⟨k, acc, hk, rfl, hown, hacc, hgt, hbel⟩ := hrel
    have HG := Lib.hid hgt
    clear hgt
    have hbs := hbel.size
    by_cases hlt : k < n
    · obtain ⟨ad, x, rfl, hx, hcx⟩ := (hr.below hbel).at_ (k := k) (by rw [HL.out]; exact hlt)
      have hx8 : x.toNat < 256 := x.toNat_lt
      by_cases h0 : x.toNat = 0
      · have HH := Lib.hid (show getText l = getTS true (l.drop (k + 1)) acc (k + 1) from by rw [HG.out, getTS_zero hx h0])
        have h0' : x.toNat < 1 := by omega
        clear h0 hx HG
        by_cases hlt2 : k + 1 < n
        · obtain ⟨_, y, e, hy, hcy⟩ := (hr.below hbel).at_ (k := k + 1) (by rw [HL.out]; exact hlt2)
          injection e with e
          subst e
          have hy8 : y.toNat < 256 := y.toNat_lt
          rw [Addr.add_succ_] at hcy
          by_cases h1 : y.toNat = 1
          · have HI := Lib.hid (show getText l = (acc, k + 1 + 1, 0) from by rw [HH.out, getTS_done hy h1])
            obtain ⟨A1, c1, rfl, hc1, hr1⟩ := hown.form
            have hcv := run_str wr A1 acc.length c1 acc rfl hr1
            have ha : y.toNat ≤ 1 := by omega
            have hb : 0 < y.toNat := by omega
            clear h1 hy HH
            go_wp2
            go_ret3
            rw [HI.out]
            exact ⟨rfl, hbel⟩
          · by_cases h255 : y.toNat = 255
            · have HI := Lib.hid (show getText l = getTS false (l.drop (k + 1 + 1)) (acc ++ [0]) (k + 1 + 1) from by rw [HH.out, getTS_mark hy h255])
              have ha : 254 < y.toNat := by omega
              clear h255 h1 hy HH
              go_wp2_with (at_builtin; refine wpList_append_B rfl (.tmp 50) (.tmp 51) rfl w.heap.size _ _ rfl (hown.alloc _) _ 1 _ [0] rfl rfl (RB.one _ _ _ rfl) (by omega) (by simp; omega) ?_; intro v1 w1 hown1 hb1; have hB1 : Below w.heap.size w w1 := ((hbel.alloc hbs _).trans hb1))
              go_roundw
              case rel => exact ⟨k + 1 + 1, acc ++ [0], by omega, by go_num, hown1, by simp; omega, HI.out, hB1⟩
              case measure => simp [intOf]; omega
            · have HI := Lib.hid (show getText l = ([], 0, 4) from by rw [HH.out, getTS_form hy h255 h1])
              clear hy HH
              go_wp2
              go_ret3
              rw [HI.out]
              exact ⟨rfl, hbel⟩
        · have HI := Lib.hid (show getText l = ([], 0, 3) from by rw [HH.out, getTS_end (by rw [HL.out]; omega)])
          go_wp2
          go_ret3
          rw [HI.out]
          exact ⟨rfl, hbel⟩
      · have HH := Lib.hid (show getText l = getTS false (l.drop (k + 1)) (acc ++ [x]) (k + 1) from by rw [HG.out, getTS_byte hx h0])
        have h0' : 0 < x.toNat := by omega
        clear h0 hx HG
        go_wp2_with (at_builtin; refine wpList_append_B rfl (.tmp 19) (.tmp 24) rfl w.heap.size _ _ rfl (hown.alloc _) _ 1 _ [x] rfl rfl (RB.one _ _ _ rfl) (by omega) (by simp; omega) ?_; intro v1 w1 hown1 hb1; have hB1 : Below w.heap.size w w1 := ((hbel.alloc hbs _).trans hb1))
        go_roundw
        case rel => exact ⟨k + 1, acc ++ [x], by omega, by go_num, hown1, by simp; omega, HH.out, hB1⟩
        case measure => simp [intOf]; omega
    · have HH := Lib.hid (show getText l = ([], 0, 3) from by rw [HG.out, getTS_end (by rw [HL.out]; omega)])
      go_wp2
      go_ret3
      rw [HH.out]
      exact ⟨rfl, hbel⟩

end Go.Proofs.Ytjmmaghjbaigiaa
