/- The law WalKeeps: begins. -/
import Derived.Test.YtochifbbefbehaaWsJ
namespace Go.Proofs.Ytochifbbefbehaa
open Go.RowKit
set_option linter.unusedVariables false
set_option linter.unusedSimpArgs false
set_option maxHeartbeats 1000000 in
theorem waBegins_any (A B : Option Addr) (n c m d : Nat) (L M : List (List UInt8)) (w : World) (hl : L.length = n) (hm : M.length = m) (hn : n ≤ 1000000) (hmd : m ≤ d) (hm2 : m ≤ 1000000) (hd : d ≤ maxLen) (hr : RS w A L) (hq : RS w B M) (hp : ∃ N, M = L ++ N) :
    Calls Try.prog 18 #[.slice A n c, .slice B m d] w fun x w' => x = .returned (.bool true) ∧ Below w.heap.size w w' := by
  obtain ⟨N, hN⟩ := hp
  have hle : n ≤ m := by rw [← hl, ← hm, hN]; simp
  have htk : M.take n = L := by rw [hN, ← hl]; simp
  have KS := Lib.hid (wsSame_any A B n c n d L (M.take n) w hl (by rw [List.length_take]; omega) hn hr (hq.take n))
  rw [htk, decide_eq_true rfl] at KS
  have hle' : (n : Int) ≤ (m : Int) := by omega
  have hmin : (if (n : Int) < (m : Int) then (n : Int) else (m : Int)) = (n : Int) := by split <;> omega
  unfold maxLen at hd
  clear hl hm hr hq hN htk
  go_enter Try.func18, Try.ntmps18
  go_wp2_with (go_at_call 20; refine KS.out.mono ?_; rintro x w1 ⟨rfl, b⟩; (have B1 := Lib.hid b); clear b)
  go_ret
  exact ⟨rfl, B1.out⟩
end Go.Proofs.Ytochifbbefbehaa
