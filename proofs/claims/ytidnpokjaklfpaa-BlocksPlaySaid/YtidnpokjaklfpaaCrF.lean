/- Contracts of Open, the document's. -/
import Derived.Test.YtidnpokjaklfpaaCrD
import Derived.Test.YtidnpokjaklfpaaCrE
namespace Go.Proofs.Ytidnpokjaklfpaa
open Go.RowKit
set_option linter.unusedVariables false

theorem refOpen_arg (A : Option Addr) (n c : Nat) (size : Int) (w : World) (h : size < 8 ∨ 65536 < size) :
    Calls Try.prog 59 #[.slice A n c, .int .i64 size] w fun e w' => e = .returned (.tuple #[.slice none 0 0, .int .i64 2]) ∧ w = w' := by
  rcases h with h | h
  · go_enter Try.func59, Try.ntmps59
    go_wp2
    go_ret2
    exact ⟨rfl, rfl⟩
  · have h8 : ¬ size < 8 := by omega
    go_enter Try.func59, Try.ntmps59
    go_wp2
    go_ret2
    exact ⟨rfl, rfl⟩
theorem refOpen_cut (A : Option Addr) (n c size : Nat) (w : World) (h1 : 8 ≤ size) (h2 : size ≤ 65536) (h3 : ¬ n = size) :
    Calls Try.prog 59 #[.slice A n c, .int .i64 size] w fun e w' => e = .returned (.tuple #[.slice none 0 0, .int .i64 3]) ∧ w = w' := by
  have h4 : ((n : Int) != (size : Int)) = true := by simp; omega
  have h5 : 8 ≤ (size : Int) := by omega
  have h6 : (size : Int) ≤ 65536 := by omega
  go_enter Try.func59, Try.ntmps59
  go_wp2
  go_ret2
  exact ⟨rfl, rfl⟩

/-- The first six bytes, as cells. -/
theorem six_cells {w : World} {ad : Addr} {a b c d e f g i : UInt8} {r : List UInt8} (hr : RB w (some ad) (a :: b :: c :: d :: e :: f :: g :: i :: r)) :
    w.cell? ad = some (.int .u8 a.toNat) ∧ w.cell? ⟨ad.block, ad.off + 1, none⟩ = some (.int .u8 b.toNat) ∧ w.cell? ⟨ad.block, ad.off + 2, none⟩ = some (.int .u8 c.toNat) ∧
    w.cell? ⟨ad.block, ad.off + 3, none⟩ = some (.int .u8 d.toNat) ∧ w.cell? ⟨ad.block, ad.off + 4, none⟩ = some (.int .u8 e.toNat) ∧ w.cell? ⟨ad.block, ad.off + 5, none⟩ = some (.int .u8 f.toNat) := by
  rcases hr with h | ⟨ad', h, hc⟩
  · cases h
  · injection h with h
    subst h
    exact ⟨by simpa [Addr.add] using hc 0 a rfl, by simpa [Addr.add] using hc 1 b rfl, by simpa [Addr.add] using hc 2 c rfl, by simpa [Addr.add] using hc 3 d rfl, by simpa [Addr.add] using hc 4 e rfl, by simpa [Addr.add] using hc 5 f rfl⟩

theorem sum_parts {a b c d : UInt8} {s : BitVec 32} : be [a, b, c, d] = s.toNat ↔ (((a.toNat : Int) != (s.toNat : Int) / 16777216) = false ∧ ((b.toNat : Int) != (s.toNat : Int) / 65536 % 256) = false ∧ ((c.toNat : Int) != (s.toNat : Int) / 256 % 256) = false ∧ ((d.toNat : Int) != (s.toNat : Int) % 256) = false) := by
  have ha := a.toNat_lt
  have hb := b.toNat_lt
  have hc := c.toNat_lt
  have hd := d.toNat_lt
  have hs : s.toNat < 4294967296 := s.isLt
  rw [be4]
  simp only [bne_eq_false_iff_eq]
  omega

set_option maxRecDepth 100000 in
set_option maxHeartbeats 1600000 in
theorem refOpen_any (A : Option Addr) (n c : Nat) (l : List UInt8) (w : World) (hl : l.length = n) (hc : n ≤ c) (h1 : 8 ≤ n) (h2 : n ≤ 65536) (hr : RB w A l) :
    Calls Try.prog 59 #[.slice A n c, .int .i64 n] w fun e w' => ∃ v', e = .returned (.tuple #[v', .int .i64 ((opn l n).2 : Nat)]) ∧ OB w.heap.size w' v' (opn l n).1 ∧ Below w.heap.size w w' := by
  obtain ⟨ad, _, rfl, _, _⟩ := hr.at_ (k := 0) (by omega)
  have HL := Lib.hid hl
  obtain ⟨a, b, c', d, e, f, g, i, r, he⟩ := eight (l := l) (by omega)
  have hr' := hr
  rw [he] at hr'
  obtain ⟨k0, k1, k2, k3, k4, k5⟩ := six_cells hr'
  have ht4 : l.take 4 = [a, b, c', d] := by rw [he]; rfl
  have ht2 : (l.drop 4).take 2 = [e, f] := by rw [he]; rfl
  clear hr' he hl
  have ha := a.toNat_lt
  have hb := b.toNat_lt
  have hcc := c'.toNat_lt
  have hd := d.toNat_lt
  have he := e.toNat_lt
  have hf := f.toNat_lt
  have HT2 := Lib.hid ht2
  have HOS := Lib.hid (opn_sum (raw := l) (size := n))
  have HOB := Lib.hid (opn_big (raw := l) (size := n))
  have HOF := Lib.hid (opn_form (raw := l) (size := n))
  have HOK := Lib.hid (opn_ok (raw := l) (size := n))
  have HSP := Lib.hid (sum_parts (a := a) (b := b) (c := c') (d := d) (s := crc (l.drop 4)))
  rw [ht4, ht2, be2] at HOB HOF HOK
  rw [ht4] at HOS
  clear ht4 ht2 HT2
  obtain ⟨m, hm⟩ : ∃ m, m = e.toNat * 256 + f.toNat := ⟨_, rfl⟩
  rw [← hm] at HOB HOF HOK
  have HM := Lib.hid (show 256 * (e.toNat : Int) + (f.toNat : Int) = (m : Int) from by omega)
  have hmb : m < 65536 := by omega
  clear hm
  have hc4 : ¬ c = 4 := by omega
  have hg4 : (4 : Int) ≤ (c : Int) := by omega
  have hg4n : (4 : Int) ≤ (n : Int) := by omega
  have hg8n : (8 : Int) ≤ (n : Int) := by omega
  have hgn : (n : Int) ≤ 65536 := by omega
  have hnn : ((n : Int) != (n : Int)) = false := by simp
  have R2 := (hr.dropw 4 (by omega))
  have L2 := Lib.hid (show (l.drop 4).length = n - 4 from by rw [List.length_drop, HL.out])
  go_enter Try.func59, Try.ntmps59
  go_wp2_with fail
  with_reducible refine (refOf_any _ (n - 4) _ (l.drop 4) _ L2.out (by omega) R2).mono ?_
  rintro e w' ⟨rfl, rfl⟩
  generalize crc (l.drop 4) = sm at *
  have hsm : sm.toNat < 4294967296 := sm.isLt
  rcases t0 : ((a.toNat : Int) != (sm.toNat : Int) / 16777216) with _ | _
  · rcases t1 : ((b.toNat : Int) != (sm.toNat : Int) / 65536 % 256) with _ | _
    · rcases t2 : ((c'.toNat : Int) != (sm.toNat : Int) / 256 % 256) with _ | _
      · rcases t3 : ((d.toNat : Int) != (sm.toNat : Int) % 256) with _ | _
        · have HS := Lib.hid (HSP.out.2 ⟨t0, t1, t2, t3⟩)
          go_wp2
          go_quiet (fail)
          rw [HM.out]
          have hbW : Below w.heap.size w (w.drewN nq) := ⟨rfl, rfl, rfl, Nat.le_refl _, fun _ _ => rfl⟩
          have hrW := hr.drewN nq
          have HZW := Lib.hid (show (w.drewN nq).heap.size = w.heap.size from rfl)
          clear hr R2 L2 k0 k1 k2 k3 k4 k5 t0 t1 t2 t3 HSP HOS
          generalize w.drewN nq = W at *
          by_cases hbig : n - 8 < m
          · have hd : decide ((n : Int) - 8 < (m : Int)) = true := by simp; omega
            go_wp2
            go_ret2
            rw [HOB.out HS.out hbig]
            exact ⟨_, rfl, OB.nil, hbW⟩
          · have hd : decide ((n : Int) - 8 < (m : Int)) = false := by simp; omega
            have hm1 : (m : Int) ≤ (n : Int) - 8 := by omega
            have R7 : RB W (if c = 8 then some ad else some ⟨ad.block, ad.off + 8, none⟩) ((l.drop 8).take m) := by
              by_cases h8 : c = 8
              · exact .inl (by rw [List.drop_of_length_le (by rw [HL.out]; omega), List.take_nil])
              · rw [if_neg h8]
                exact (hrW.dropw 8 (by omega)).take m
            have L7 := Lib.hid (show ((l.drop 8).take m).length = m from by rw [List.length_take, List.length_drop, HL.out]; omega)
            have HF := Lib.hid (HOF.out HS.out hbig)
            have HK := Lib.hid (HOK.out HS.out hbig)
            generalize (l.drop 8).take m = X at *
            go_upto_region 12 with (at_builtin; refine wpList_append_B rfl (.tmp 73) (.tmp 77) rfl W.heap.size _ [] rfl (OB.lit W W.heap.size [] _ (by simp [cellsB]) (Nat.le_refl _) (by simp [maxLen])) (if c = 8 then some ad else some ⟨ad.block, ad.off + 8, none⟩) (8 + m - 8) _ X rfl (by rw [L7.out]; omega) (R7.alloc _) (by simp; omega) (by simp) ?_; intro v1 w1 ho1 hb1)
            rw [List.nil_append] at ho1
            generalize (if c = 8 then some ad else some (⟨ad.block, ad.off + 8, none⟩ : Addr)) = dp
            have hB1 : Below W.heap.size W w1 := ((Below.refl _ _).alloc (Nat.le_refl _) _).trans hb1
            obtain ⟨A1, c1, rfl, hc1, hr1⟩ := ho1.form
            rw [L7.out] at ho1 ⊢
            clear hb1 R7
            have hr1' := hrW.below hB1
            have HLS := Lib.hid (show (sealL X n).length = n from seal_len X n (by rw [L7.out]; omega))
            go_wp2_with fail
            with_reducible refine (refSeal_ok A1 m c1 n X w1 L7.out (by omega) h2 hr1).mono ?_
            rintro e w2 ⟨v2, rfl, ho2, hb2⟩
            obtain ⟨A2, c2, rfl, hc2, hr2⟩ := ho2.form
            rw [HLS.out]
            have hcv1 := run_str w2 A2 n c2 (sealL X n) HLS.out hr2
            have hcv2 := run_str w2 (some ad) n c l HL.out (hr1'.below hb2)
            have HO1 := Lib.hid (show OB w.heap.size w2 (.slice A1 m c1) X from by
              have h := ho1.keep hb2 (Nat.le_refl _)
              rw [HZW.out] at h
              exact h)
            have HB2 := Lib.hid (show Below w.heap.size w w2 from hbW.trans ((by rw [HZW.out] at hB1; exact hB1 : Below w.heap.size W w1).trans (hb2.mono (by have := hB1.size; rw [HZW.out] at this; exact this))))
            by_cases hq : sealL X n = l
            · have HQ := Lib.hid (HK.out hq)
              have hbt : ((str (sealL X n)).toList == (str l).toList) = true := by rw [hq]; simp
              clear hq
              generalize sealL X n = Y at *
              go_wp2
              go_ret2
              rw [HQ.out]
              exact ⟨_, rfl, HO1.out, HB2.out⟩
            · have HQ := Lib.hid (HF.out hq)
              have hbt : ((str (sealL X n)).toList == (str l).toList) = false := by
                simp only [beq_eq_false_iff_ne, ne_eq]
                intro h
                have h2 : ∀ l : List UInt8, (str l).toList = l := by
                  intro l
                  simp [str, ByteArray.toList_eq]
                rw [h2, h2] at h
                exact hq h
              clear hq
              generalize sealL X n = Y at *
              go_wp2
              go_ret2
              rw [HQ.out]
              exact ⟨_, rfl, OB.nil, HB2.out⟩
        · have HS := Lib.hid (HOS.out (fun h => by have := (HSP.out.1 h).2.2.2; rw [t3] at this; cases this))
          go_wp2
          go_ret2
          rw [HS.out]
          exact ⟨_, rfl, OB.nil, Below.refl _ _⟩
      · have HS := Lib.hid (HOS.out (fun h => by have := (HSP.out.1 h).2.2.1; rw [t2] at this; cases this))
        go_wp2
        go_ret2
        rw [HS.out]
        exact ⟨_, rfl, OB.nil, Below.refl _ _⟩
    · have HS := Lib.hid (HOS.out (fun h => by have := (HSP.out.1 h).2.1; rw [t1] at this; cases this))
      go_wp2
      go_ret2
      rw [HS.out]
      exact ⟨_, rfl, OB.nil, Below.refl _ _⟩
  · have HS := Lib.hid (HOS.out (fun h => by have := (HSP.out.1 h).1; rw [t0] at this; cases this))
    go_wp2
    go_ret2
    rw [HS.out]
    exact ⟨_, rfl, OB.nil, Below.refl _ _⟩
end Go.Proofs.Ytidnpokjaklfpaa
