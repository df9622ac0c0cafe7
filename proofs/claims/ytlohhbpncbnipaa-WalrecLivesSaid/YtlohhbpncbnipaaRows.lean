/-
  No cell of these rows narrows 'for every input' (looked for: loops, veiled, ifaces, maps, wideKeys, modest, calm, conditions, laid).
  DERIVED. THE GIVEN ROWS OF THIS SEAT. 5 by the template 'for every input the law returns true; each argument reads behind the call as it read before'; 0 by the template 'total and deterministic' (their statements: YtlohhbpncbnipaaTotals.lean).
  GIVEN WITH THE SEED: the statements are not yours to turn. If you find one false, say at which input.
  Laid BY PROGRAM, IN A SANDBOX (cutbox-rows.mjs): the forced cells as the released guide's own fill.sh prints them over the translation 37350adc0e1ded39… (all of the seat's roots in one cut). By AI agents, Wed Nov 11 2026. No macro, syntax, notation, axiom, sorry.
-/
import Derived.Test.YtlohhbpncbnipaaChecked
import GoSem.Claim
import GoSem.ClaimJoined
import GoSem.ClaimMapViews
import Derived.JoinedTies
import Derived.KernelRfl
namespace Go.Proofs.Ytlohhbpncbnipaa
/- THE CELL 'sum', in the pinned program and in every row, IS THE sha256 OF THE DUMP (.gsa) THAT YtlohhbpncbnipaaProg.lean LOADS. Nothing in Lean hashes anything: it is a label: what it is worth is what the hold of that sum in a sandbox is worth. -/
noncomputable def Try.pinned : Pinned := { name := "ytlohhbpncbnipaa", sum := "37350adc0e1ded39759dfa19c96223dd4191dbd33236239e2620c80351178a0b", checked := Try.checked }
namespace Rows
def none {H : Type} : Left H := { results := [], args := [] }

/-- 'fasciclelaw08.WalrecPuts': WHATEVER THE INPUT: true; the input reads as it did. -/
def walrecPutsSpec : ChangeSpec := { name := "walrecPuts", fn := fun _ => fun
  | [d] => { results := [.lit (.bool true)], args := [d] }
  | _ => none }
def walrecPutsRow : OpenClaim := { program := "ytlohhbpncbnipaa", sum := "37350adc0e1ded39759dfa19c96223dd4191dbd33236239e2620c80351178a0b", func := "fascicle/fasciclelaw08.WalrecPuts", spec := "walrecPuts", unfollowed := true, recurses := true, apart := false }
def WalrecPutsSaid : Prop := walrecPutsRow.holds Try.pinned (OpenSpec.ofChange walrecPutsSpec)

/-- ITS FALSE NEIGHBOUR: 'it returns false'. Refute it at one input. -/
def walrecPutsWrong : ChangeSpec := { name := "walrecPuts", fn := fun _ => fun
  | [d] => { results := [.lit (.bool false)], args := [d] }
  | _ => none }
def WalrecPutsWrongFalsely : Prop := walrecPutsRow.holds Try.pinned (OpenSpec.ofChange walrecPutsWrong)

/-- 'fasciclelaw08.WalrecGets': WHATEVER THE INPUT: true; the input reads as it did. -/
def walrecGetsSpec : ChangeSpec := { name := "walrecGets", fn := fun _ => fun
  | [d] => { results := [.lit (.bool true)], args := [d] }
  | _ => none }
def walrecGetsRow : OpenClaim := { program := "ytlohhbpncbnipaa", sum := "37350adc0e1ded39759dfa19c96223dd4191dbd33236239e2620c80351178a0b", func := "fascicle/fasciclelaw08.WalrecGets", spec := "walrecGets", unfollowed := true, recurses := true, apart := false }
def WalrecGetsSaid : Prop := walrecGetsRow.holds Try.pinned (OpenSpec.ofChange walrecGetsSpec)

/-- ITS FALSE NEIGHBOUR: 'it returns false'. Refute it at one input. -/
def walrecGetsWrong : ChangeSpec := { name := "walrecGets", fn := fun _ => fun
  | [d] => { results := [.lit (.bool false)], args := [d] }
  | _ => none }
def WalrecGetsWrongFalsely : Prop := walrecGetsRow.holds Try.pinned (OpenSpec.ofChange walrecGetsWrong)

/-- 'fasciclelaw08.WalrecLives': WHATEVER THE INPUT: true; the input reads as it did. -/
def walrecLivesSpec : ChangeSpec := { name := "walrecLives", fn := fun _ => fun
  | [d1, d2] => { results := [.lit (.bool true)], args := [d1, d2] }
  | _ => none }
def walrecLivesRow : OpenClaim := { program := "ytlohhbpncbnipaa", sum := "37350adc0e1ded39759dfa19c96223dd4191dbd33236239e2620c80351178a0b", func := "fascicle/fasciclelaw08.WalrecLives", spec := "walrecLives", unfollowed := true, recurses := true, apart := false }
def WalrecLivesSaid : Prop := walrecLivesRow.holds Try.pinned (OpenSpec.ofChange walrecLivesSpec)

/-- ITS FALSE NEIGHBOUR: 'it returns false'. Refute it at one input. -/
def walrecLivesWrong : ChangeSpec := { name := "walrecLives", fn := fun _ => fun
  | [d1, d2] => { results := [.lit (.bool false)], args := [d1, d2] }
  | _ => none }
def WalrecLivesWrongFalsely : Prop := walrecLivesRow.holds Try.pinned (OpenSpec.ofChange walrecLivesWrong)

/-- 'fasciclelaw08.WalrecBack': WHATEVER THE INPUT: true; the input reads as it did. -/
def walrecBackSpec : ChangeSpec := { name := "walrecBack", fn := fun _ => fun
  | [d1, d2] => { results := [.lit (.bool true)], args := [d1, d2] }
  | _ => none }
def walrecBackRow : OpenClaim := { program := "ytlohhbpncbnipaa", sum := "37350adc0e1ded39759dfa19c96223dd4191dbd33236239e2620c80351178a0b", func := "fascicle/fasciclelaw08.WalrecBack", spec := "walrecBack", unfollowed := true, recurses := true, apart := false }
def WalrecBackSaid : Prop := walrecBackRow.holds Try.pinned (OpenSpec.ofChange walrecBackSpec)

/-- ITS FALSE NEIGHBOUR: 'it returns false'. Refute it at one input. -/
def walrecBackWrong : ChangeSpec := { name := "walrecBack", fn := fun _ => fun
  | [d1, d2] => { results := [.lit (.bool false)], args := [d1, d2] }
  | _ => none }
def WalrecBackWrongFalsely : Prop := walrecBackRow.holds Try.pinned (OpenSpec.ofChange walrecBackWrong)

/-- 'fasciclelaw08.WalrecEnds': WHATEVER THE INPUT: true; the input reads as it did. -/
def walrecEndsSpec : ChangeSpec := { name := "walrecEnds", fn := fun _ => fun
  | [d] => { results := [.lit (.bool true)], args := [d] }
  | _ => none }
def walrecEndsRow : OpenClaim := { program := "ytlohhbpncbnipaa", sum := "37350adc0e1ded39759dfa19c96223dd4191dbd33236239e2620c80351178a0b", func := "fascicle/fasciclelaw08.WalrecEnds", spec := "walrecEnds", unfollowed := true, recurses := true, apart := false }
def WalrecEndsSaid : Prop := walrecEndsRow.holds Try.pinned (OpenSpec.ofChange walrecEndsSpec)

/-- ITS FALSE NEIGHBOUR: 'it returns false'. Refute it at one input. -/
def walrecEndsWrong : ChangeSpec := { name := "walrecEnds", fn := fun _ => fun
  | [d] => { results := [.lit (.bool false)], args := [d] }
  | _ => none }
def WalrecEndsWrongFalsely : Prop := walrecEndsRow.holds Try.pinned (OpenSpec.ofChange walrecEndsWrong)

/- THE SECOND FORM. 'bulk': how many values and letters a reading holds, each counted each time it is reached (what is shared counts as often as it is met; a slice's spare places count too). A statement '..UptoSaid' is the law's where the arguments, and the package variables that the reading takes, are together of bulk at most 1048576: NARROWER than '..Said'. Prove '..Said' where nothing that the law and all that it calls make is longer than what came in: it says more and counts as full. Else prove '..UptoSaid'. A law counts once. -/
mutual
def uptoBulk {H : Type} : DataW H → Nat
  | .lit (.string bytes) => bytes.length + 1
  | .lit _ => 1
  | .nil => 1
  | .ptr d => uptoBulk d + 1
  | .slice elems spare => uptoBulkAll elems + uptoBulkAll spare + 1
  | .agg parts => uptoBulkAll parts + 1
  | .iface _ d => uptoBulk d + 1
  | .map entries => uptoBulkEntries entries + 1
  | .held _ => 1
def uptoBulkAll {H : Type} : List (DataW H) → Nat
  | [] => 0
  | d :: r => uptoBulk d + uptoBulkAll r
def uptoBulkEntries {H : Type} : List (Lit × DataW H) → Nat
  | [] => 0
  | x :: r => uptoBulkEntry x + uptoBulkEntries r
def uptoBulkEntry {H : Type} : Lit × DataW H → Nat
  | (.string bytes, d) => bytes.length + uptoBulk d + 1
  | (_, d) => uptoBulk d + 1
 end
def uptoSmall : (H : Type) → List (DataW H) → Bool := fun _ ds => decide (uptoBulkAll ds ≤ 1048576)
def OpenSpec.upto (s : _root_.Go.ChangeSpec) : _root_.Go.OpenSpec := { _root_.Go.OpenSpec.ofChange s with cond := some uptoSmall }

/-- 'fasciclelaw08.WalrecPuts', WHERE WHAT IT READS IS OF BULK AT MOST 1048576: true; the input reads as it did. -/
def walrecPutsUptoRow : OpenClaim := { program := "ytlohhbpncbnipaa", sum := "37350adc0e1ded39759dfa19c96223dd4191dbd33236239e2620c80351178a0b", func := "fascicle/fasciclelaw08.WalrecPuts", spec := "walrecPuts", unfollowed := true, recurses := true, apart := false, narrowed := true }
def WalrecPutsUptoSaid : Prop := walrecPutsUptoRow.holds Try.pinned (OpenSpec.upto walrecPutsSpec)

/-- 'fasciclelaw08.WalrecGets', WHERE WHAT IT READS IS OF BULK AT MOST 1048576: true; the input reads as it did. -/
def walrecGetsUptoRow : OpenClaim := { program := "ytlohhbpncbnipaa", sum := "37350adc0e1ded39759dfa19c96223dd4191dbd33236239e2620c80351178a0b", func := "fascicle/fasciclelaw08.WalrecGets", spec := "walrecGets", unfollowed := true, recurses := true, apart := false, narrowed := true }
def WalrecGetsUptoSaid : Prop := walrecGetsUptoRow.holds Try.pinned (OpenSpec.upto walrecGetsSpec)

/-- 'fasciclelaw08.WalrecLives', WHERE WHAT IT READS IS OF BULK AT MOST 1048576: true; the input reads as it did. -/
def walrecLivesUptoRow : OpenClaim := { program := "ytlohhbpncbnipaa", sum := "37350adc0e1ded39759dfa19c96223dd4191dbd33236239e2620c80351178a0b", func := "fascicle/fasciclelaw08.WalrecLives", spec := "walrecLives", unfollowed := true, recurses := true, apart := false, narrowed := true }
def WalrecLivesUptoSaid : Prop := walrecLivesUptoRow.holds Try.pinned (OpenSpec.upto walrecLivesSpec)

/-- 'fasciclelaw08.WalrecBack', WHERE WHAT IT READS IS OF BULK AT MOST 1048576: true; the input reads as it did. -/
def walrecBackUptoRow : OpenClaim := { program := "ytlohhbpncbnipaa", sum := "37350adc0e1ded39759dfa19c96223dd4191dbd33236239e2620c80351178a0b", func := "fascicle/fasciclelaw08.WalrecBack", spec := "walrecBack", unfollowed := true, recurses := true, apart := false, narrowed := true }
def WalrecBackUptoSaid : Prop := walrecBackUptoRow.holds Try.pinned (OpenSpec.upto walrecBackSpec)

/-- 'fasciclelaw08.WalrecEnds', WHERE WHAT IT READS IS OF BULK AT MOST 1048576: true; the input reads as it did. -/
def walrecEndsUptoRow : OpenClaim := { program := "ytlohhbpncbnipaa", sum := "37350adc0e1ded39759dfa19c96223dd4191dbd33236239e2620c80351178a0b", func := "fascicle/fasciclelaw08.WalrecEnds", spec := "walrecEnds", unfollowed := true, recurses := true, apart := false, narrowed := true }
def WalrecEndsUptoSaid : Prop := walrecEndsUptoRow.holds Try.pinned (OpenSpec.upto walrecEndsSpec)

end Rows
end Go.Proofs.Ytlohhbpncbnipaa
