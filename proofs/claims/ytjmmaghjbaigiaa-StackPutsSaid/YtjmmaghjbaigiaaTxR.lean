/- A reader takes texts off. -/
import Derived.Test.YtjmmaghjbaigiaaTxA
namespace Go.Proofs.Ytjmmaghjbaigiaa
open Go.RowKit
set_option linter.unusedVariables false
set_option linter.unusedSimpArgs false
/-- What a reader of the bytes l with the error f tells as a text, and what it has behind that. -/
def rtV (l : List UInt8) (f most : Nat) : List UInt8 := if f = 0 ∧ (getText l).2.2 = 0 ∧ (getText l).1.length ≤ most then (getText l).1 else []
def rtL (l : List UInt8) (f most : Nat) : List UInt8 := if f = 0 ∧ (getText l).2.2 = 0 ∧ (getText l).1.length ≤ most then l.drop (getText l).2.1 else l
def rtF (l : List UInt8) (f most : Nat) : Nat := if f = 0 then (if (getText l).2.2 = 0 then (if (getText l).1.length ≤ most then 0 else 5) else (getText l).2.2) else f
theorem getTS_use (b : Bool) (l acc : List UInt8) (i : Nat) : (getTS b l acc i).2.1 ≤ i + l.length ∧ (getTS b l acc i).2.2 ≤ 4 ∧ (getTS b l acc i).1.length ≤ acc.length + l.length := by
  induction l generalizing b acc i with
  | nil => cases b <;> simp [getTS]
  | cons x r ih =>
    cases b with
    | false =>
      rw [getTS]
      split
      · have := ih true acc (i + 1); simp at this ⊢; omega
      · have := ih false (acc ++ [x]) (i + 1); simp at this ⊢; omega
    | true =>
      rw [getTS]
      split
      · have := ih false (acc ++ [0]) (i + 1); simp at this ⊢; omega
      · split
        · simp
        · simp
theorem getText_use (l : List UInt8) : (getText l).2.1 ≤ l.length := by have := (getTS_use false l [] 0).1; simpa [getText] using this
theorem getText_err (l : List UInt8) : (getText l).2.2 ≤ 4 := (getTS_use false l [] 0).2.1
theorem getText_short (l : List UInt8) : (getText l).1.length ≤ l.length := by have := (getTS_use false l [] 0).2.2; simpa [getText] using this
theorem rt_err {l : List UInt8} {f : Nat} (m : Nat) (h : f ≠ 0) : rtV l f m = [] ∧ rtL l f m = l ∧ rtF l f m = f := by
  unfold rtV rtL rtF
  rw [if_neg (fun x => h x.1), if_neg (fun x => h x.1), if_neg h]
  exact ⟨rfl, rfl, rfl⟩
theorem rt_form {l : List UInt8} (m : Nat) (h : (getText l).2.2 ≠ 0) : rtV l 0 m = [] ∧ rtL l 0 m = l ∧ rtF l 0 m = (getText l).2.2 := by
  unfold rtV rtL rtF
  rw [if_neg (fun x => h x.2.1), if_neg (fun x => h x.2.1), if_pos rfl, if_neg h]
  exact ⟨rfl, rfl, rfl⟩
theorem rt_big {l : List UInt8} {m : Nat} (h : (getText l).2.2 = 0) (hv : m < (getText l).1.length) : rtV l 0 m = [] ∧ rtL l 0 m = l ∧ rtF l 0 m = 5 := by
  unfold rtV rtL rtF
  rw [if_neg (fun x => by omega), if_neg (fun x => by omega), if_pos rfl, if_pos h, if_neg (by omega)]
  exact ⟨rfl, rfl, rfl⟩
theorem rt_good {l : List UInt8} {m : Nat} (h : (getText l).2.2 = 0) (hv : (getText l).1.length ≤ m) : rtV l 0 m = (getText l).1 ∧ rtL l 0 m = l.drop (getText l).2.1 ∧ rtF l 0 m = 0 := by
  unfold rtV rtL rtF
  rw [if_pos ⟨rfl, h, hv⟩, if_pos ⟨rfl, h, hv⟩, if_pos rfl, if_pos h, if_pos hv]
  exact ⟨rfl, rfl, rfl⟩
set_option maxHeartbeats 1000000 in
set_option maxRecDepth 100000 in
theorem okText_any (g f most : Nat) (l : List UInt8) (w : World) (hR : RDF w g l f) (hl : l.length ≤ 17592186044416) (hmost : most ≤ 17592186044416) :
    Calls Try.prog 82 #[.pointer (some ⟨g, 0, none⟩), .int .i64 (most : Int)] w fun e w' => e = .returned (.string (str (rtV l f most))) ∧ RDF w' g (rtL l f most) (rtF l f most) ∧ Below g w w' := by
  have HR := Lib.hid hR
  have hg := Lib.hid hR.lt
  obtain ⟨A, c, h1, h2, h3, h4, h5, h6, h7⟩ := hR
  have KG := Lib.hid (getText_any A l.length c l w (by omega) rfl h2)
  clear h3
  by_cases hf : f = 0
  · subst hf
    have hu := getText_use l
    have he := getText_err l
    by_cases he0 : (getText l).2.2 = 0
    · by_cases hv2 : (getText l).1.length ≤ most
      · obtain ⟨r1, r2, r3⟩ := rt_good he0 hv2
        rw [r1, r2, r3]
        rw [he0] at KG
        have KT := Lib.hid (fun W (h : RDF W g l 0) => okTake_ok g (getText l).2.1 l W h hu (by omega))
        have hsz := str_size (getText l).1
        generalize (getText l).2.1 = m at *
        generalize (getText l).1 = t at *
        have d : decide (most < (str t).size) = false := by rw [hsz]; simp; omega
        clear he0 hv2 r1 r2 r3 hsz he hu
        generalize l.drop m = R at *
        go_enter Try.func82, Try.ntmps82
        go_wp2_with fail
        refine KG.out.mono ?_
        rintro e w1 ⟨rfl, b1⟩
        have R1 := Lib.hid (HR.out.keep b1)
        go_wp2_with fail
        refine (KT.out _ R1.out).mono ?_
        rintro e w2 ⟨rfl, hR2, hb2⟩
        have B2 := Lib.hid ((b1.mono (Nat.le_of_lt hg.out)).trans (hb2.below (Nat.le_refl _)))
        have R2 := Lib.hid hR2
        clear b1 hb2 hR2
        go_wp2
        go_ret
        exact ⟨rfl, R2.out, B2.out⟩
      · obtain ⟨r1, r2, r3⟩ := rt_big (m := most) he0 (by omega)
        rw [r1, r2, r3]
        rw [he0] at KG
        have KT := Lib.hid (fun W (h : RDF W g l 0) => okTake_bad g (getText l).2.1 5 l W h (by omega))
        have hsz := str_size (getText l).1
        generalize (getText l).2.1 = m at *
        generalize (getText l).1 = t at *
        have d : most < (str t).size := by rw [hsz]; omega
        clear he0 hv2 r1 r2 r3 hsz he hu
        go_enter Try.func82, Try.ntmps82
        go_wp2_with fail
        refine KG.out.mono ?_
        rintro e w1 ⟨rfl, b1⟩
        have R1 := Lib.hid (HR.out.keep b1)
        go_wp2_with fail
        refine (KT.out _ R1.out).mono ?_
        rintro e w2 ⟨rfl, hR2, hb2⟩
        have B2 := Lib.hid ((b1.mono (Nat.le_of_lt hg.out)).trans (hb2.below (Nat.le_refl _)))
        have R2 := Lib.hid hR2
        clear b1 hb2 hR2
        go_wp2
        go_ret
        exact ⟨rfl, R2.out, B2.out⟩
    · obtain ⟨r1, r2, r3⟩ := rt_form most he0
      rw [r1, r2, r3]
      have d : (((getText l).2.2 : Int) == 0) = false := by simp; omega
      have KT := Lib.hid (fun W (h : RDF W g l 0) => okTake_bad g (getText l).2.1 (getText l).2.2 l W h (by omega))
      generalize (getText l).2.1 = m at *
      generalize (getText l).1 = t at *
      generalize (getText l).2.2 = er at *
      clear he0 r1 r2 r3 he hu
      go_enter Try.func82, Try.ntmps82
      go_wp2_with fail
      refine KG.out.mono ?_
      rintro e w1 ⟨rfl, b1⟩
      have R1 := Lib.hid (HR.out.keep b1)
      go_wp2_with fail
      refine (KT.out _ R1.out).mono ?_
      rintro e w2 ⟨rfl, hR2, hb2⟩
      have B2 := Lib.hid ((b1.mono (Nat.le_of_lt hg.out)).trans (hb2.below (Nat.le_refl _)))
      have R2 := Lib.hid hR2
      clear b1 hb2 hR2
      go_wp2
      go_ret
      exact ⟨rfl, R2.out, B2.out⟩
  · obtain ⟨r1, r2, r3⟩ := rt_err (l := l) most hf
    rw [r1, r2, r3]
    have d : ((f : Int) != 0) = true := by simp; omega
    clear KG r1 r2 r3 hf
    go_enter Try.func82, Try.ntmps82
    go_wp2
    go_ret
    exact ⟨rfl, HR.out, Below.refl _ _⟩
theorem okLeft_any (g f : Nat) (l : List UInt8) (w : World) (hR : RDF w g l f) : Calls Try.prog 85 #[.pointer (some ⟨g, 0, none⟩)] w fun e w' => e = .returned (.int .i64 (l.length : Int)) ∧ w = w' := by
  obtain ⟨A, c, h1, h2, h3, h4, h5, h6, h7⟩ := hR
  clear h3 h1
  generalize l.length = n at *
  go_enter Try.func85, Try.ntmps85
  go_wp2
  go_ret
  exact ⟨rfl, rfl⟩
end Go.Proofs.Ytjmmaghjbaigiaa
