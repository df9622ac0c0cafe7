/-
  No cell of these rows narrows 'for every input' (looked for: loops, veiled, ifaces, maps, wideKeys, modest, calm, conditions, laid).
  DERIVED. THE GIVEN ROWS OF THIS SEAT. 5 by the template 'for every input the law returns true; each argument reads behind the call as it read before'; 0 by the template 'total and deterministic' (their statements: YtmicofjmpnfehaaTotals.lean).
  GIVEN WITH THE SEED: the statements are not yours to turn. If you find one false, say at which input.
  Laid BY PROGRAM, IN A SANDBOX (cutbox-rows.mjs): the forced cells as the released guide's own fill.sh prints them over the translation 48878beb53deb83a… (all of the seat's roots in one cut). By AI agents, Wed Nov 11 2026. No macro, syntax, notation, axiom, sorry.
-/
import Derived.Test.YtmicofjmpnfehaaChecked
import GoSem.Claim
import GoSem.ClaimJoined
import GoSem.ClaimMapViews
import Derived.JoinedTies
import Derived.KernelRfl
namespace Go.Proofs.Ytmicofjmpnfehaa
/- THE CELL 'sum', in the pinned program and in every row, IS THE sha256 OF THE DUMP (.gsa) THAT YtmicofjmpnfehaaProg.lean LOADS. Nothing in Lean hashes anything: it is a label: what it is worth is what the hold of that sum in a sandbox is worth. -/
noncomputable def Try.pinned : Pinned := { name := "ytmicofjmpnfehaa", sum := "48878beb53deb83a3fc020588666f7fab44af4f1e0e713ed7b6d81aace1e40e8", checked := Try.checked }
namespace Rows
def none {H : Type} : Left H := { results := [], args := [] }

/-- 'fasciclelaw02.CrcbOfs': WHATEVER THE INPUT: true; the input reads as it did. -/
def crcbOfsSpec : ChangeSpec := { name := "crcbOfs", fn := fun _ => fun
  | [d1, d2] => { results := [.lit (.bool true)], args := [d1, d2] }
  | _ => none }
def crcbOfsRow : OpenClaim := { program := "ytmicofjmpnfehaa", sum := "48878beb53deb83a3fc020588666f7fab44af4f1e0e713ed7b6d81aace1e40e8", func := "fascicle/fasciclelaw02.CrcbOfs", spec := "crcbOfs", apart := false }
def CrcbOfsSaid : Prop := crcbOfsRow.holds Try.pinned (OpenSpec.ofChange crcbOfsSpec)

/-- ITS FALSE NEIGHBOUR: 'it returns false'. Refute it at one input. -/
def crcbOfsWrong : ChangeSpec := { name := "crcbOfs", fn := fun _ => fun
  | [d1, d2] => { results := [.lit (.bool false)], args := [d1, d2] }
  | _ => none }
def CrcbOfsWrongFalsely : Prop := crcbOfsRow.holds Try.pinned (OpenSpec.ofChange crcbOfsWrong)

/-- 'fasciclelaw02.CrcbSeals': WHATEVER THE INPUT: true; the input reads as it did. -/
def crcbSealsSpec : ChangeSpec := { name := "crcbSeals", fn := fun _ => fun
  | [d1, d2, d3] => { results := [.lit (.bool true)], args := [d1, d2, d3] }
  | _ => none }
def crcbSealsRow : OpenClaim := { program := "ytmicofjmpnfehaa", sum := "48878beb53deb83a3fc020588666f7fab44af4f1e0e713ed7b6d81aace1e40e8", func := "fascicle/fasciclelaw02.CrcbSeals", spec := "crcbSeals", apart := false }
def CrcbSealsSaid : Prop := crcbSealsRow.holds Try.pinned (OpenSpec.ofChange crcbSealsSpec)

/-- ITS FALSE NEIGHBOUR: 'it returns false'. Refute it at one input. -/
def crcbSealsWrong : ChangeSpec := { name := "crcbSeals", fn := fun _ => fun
  | [d1, d2, d3] => { results := [.lit (.bool false)], args := [d1, d2, d3] }
  | _ => none }
def CrcbSealsWrongFalsely : Prop := crcbSealsRow.holds Try.pinned (OpenSpec.ofChange crcbSealsWrong)

/-- 'fasciclelaw02.CrcbShifts': WHATEVER THE INPUT: true; the input reads as it did. -/
def crcbShiftsSpec : ChangeSpec := { name := "crcbShifts", fn := fun _ => fun
  | [d1, d2] => { results := [.lit (.bool true)], args := [d1, d2] }
  | _ => none }
def crcbShiftsRow : OpenClaim := { program := "ytmicofjmpnfehaa", sum := "48878beb53deb83a3fc020588666f7fab44af4f1e0e713ed7b6d81aace1e40e8", func := "fascicle/fasciclelaw02.CrcbShifts", spec := "crcbShifts", apart := false }
def CrcbShiftsSaid : Prop := crcbShiftsRow.holds Try.pinned (OpenSpec.ofChange crcbShiftsSpec)

/-- ITS FALSE NEIGHBOUR: 'it returns false'. Refute it at one input. -/
def crcbShiftsWrong : ChangeSpec := { name := "crcbShifts", fn := fun _ => fun
  | [d1, d2] => { results := [.lit (.bool false)], args := [d1, d2] }
  | _ => none }
def CrcbShiftsWrongFalsely : Prop := crcbShiftsRow.holds Try.pinned (OpenSpec.ofChange crcbShiftsWrong)

/-- 'fasciclelaw02.CrcbTurned': WHATEVER THE INPUT: true; the input reads as it did. -/
def crcbTurnedSpec : ChangeSpec := { name := "crcbTurned", fn := fun _ => fun
  | [d1, d2, d3] => { results := [.lit (.bool true)], args := [d1, d2, d3] }
  | _ => none }
def crcbTurnedRow : OpenClaim := { program := "ytmicofjmpnfehaa", sum := "48878beb53deb83a3fc020588666f7fab44af4f1e0e713ed7b6d81aace1e40e8", func := "fascicle/fasciclelaw02.CrcbTurned", spec := "crcbTurned", apart := false }
def CrcbTurnedSaid : Prop := crcbTurnedRow.holds Try.pinned (OpenSpec.ofChange crcbTurnedSpec)

/-- ITS FALSE NEIGHBOUR: 'it returns false'. Refute it at one input. -/
def crcbTurnedWrong : ChangeSpec := { name := "crcbTurned", fn := fun _ => fun
  | [d1, d2, d3] => { results := [.lit (.bool false)], args := [d1, d2, d3] }
  | _ => none }
def CrcbTurnedWrongFalsely : Prop := crcbTurnedRow.holds Try.pinned (OpenSpec.ofChange crcbTurnedWrong)

/-- 'fasciclelaw02.CrcbTails': WHATEVER THE INPUT: true; the input reads as it did. -/
def crcbTailsSpec : ChangeSpec := { name := "crcbTails", fn := fun _ => fun
  | [d1, d2, d3] => { results := [.lit (.bool true)], args := [d1, d2, d3] }
  | _ => none }
def crcbTailsRow : OpenClaim := { program := "ytmicofjmpnfehaa", sum := "48878beb53deb83a3fc020588666f7fab44af4f1e0e713ed7b6d81aace1e40e8", func := "fascicle/fasciclelaw02.CrcbTails", spec := "crcbTails", apart := false }
def CrcbTailsSaid : Prop := crcbTailsRow.holds Try.pinned (OpenSpec.ofChange crcbTailsSpec)

/-- ITS FALSE NEIGHBOUR: 'it returns false'. Refute it at one input. -/
def crcbTailsWrong : ChangeSpec := { name := "crcbTails", fn := fun _ => fun
  | [d1, d2, d3] => { results := [.lit (.bool false)], args := [d1, d2, d3] }
  | _ => none }
def CrcbTailsWrongFalsely : Prop := crcbTailsRow.holds Try.pinned (OpenSpec.ofChange crcbTailsWrong)

/- THE SECOND FORM. 'bulk': how many values and letters a reading holds, each counted each time it is reached (what is shared counts as often as it is met; a slice's spare places count too). A statement '..UptoSaid' is the law's where the arguments, and the package variables that the reading takes, are together of bulk at most 1048576: NARROWER than '..Said'. Prove '..Said' where nothing that the law and all that it calls make is longer than what came in: it says more and counts as full. Else prove '..UptoSaid'. A law counts once. -/
mutual
def uptoBulk {H : Type} : DataW H → Nat
  | .lit (.string bytes) => bytes.length + 1
  | .lit _ => 1
  | .nil => 1
  | .ptr d => uptoBulk d + 1
  | .slice elems spare => uptoBulkAll elems + uptoBulkAll spare + 1
  | .agg parts => uptoBulkAll parts + 1
  | .iface _ d => uptoBulk d + 1
  | .map entries => uptoBulkEntries entries + 1
  | .held _ => 1
def uptoBulkAll {H : Type} : List (DataW H) → Nat
  | [] => 0
  | d :: r => uptoBulk d + uptoBulkAll r
def uptoBulkEntries {H : Type} : List (Lit × DataW H) → Nat
  | [] => 0
  | x :: r => uptoBulkEntry x + uptoBulkEntries r
def uptoBulkEntry {H : Type} : Lit × DataW H → Nat
  | (.string bytes, d) => bytes.length + uptoBulk d + 1
  | (_, d) => uptoBulk d + 1
 end
def uptoSmall : (H : Type) → List (DataW H) → Bool := fun _ ds => decide (uptoBulkAll ds ≤ 1048576)
def OpenSpec.upto (s : _root_.Go.ChangeSpec) : _root_.Go.OpenSpec := { _root_.Go.OpenSpec.ofChange s with cond := some uptoSmall }

/-- 'fasciclelaw02.CrcbOfs', WHERE WHAT IT READS IS OF BULK AT MOST 1048576: true; the input reads as it did. -/
def crcbOfsUptoRow : OpenClaim := { program := "ytmicofjmpnfehaa", sum := "48878beb53deb83a3fc020588666f7fab44af4f1e0e713ed7b6d81aace1e40e8", func := "fascicle/fasciclelaw02.CrcbOfs", spec := "crcbOfs", apart := false, narrowed := true }
def CrcbOfsUptoSaid : Prop := crcbOfsUptoRow.holds Try.pinned (OpenSpec.upto crcbOfsSpec)

/-- 'fasciclelaw02.CrcbSeals', WHERE WHAT IT READS IS OF BULK AT MOST 1048576: true; the input reads as it did. -/
def crcbSealsUptoRow : OpenClaim := { program := "ytmicofjmpnfehaa", sum := "48878beb53deb83a3fc020588666f7fab44af4f1e0e713ed7b6d81aace1e40e8", func := "fascicle/fasciclelaw02.CrcbSeals", spec := "crcbSeals", apart := false, narrowed := true }
def CrcbSealsUptoSaid : Prop := crcbSealsUptoRow.holds Try.pinned (OpenSpec.upto crcbSealsSpec)

/-- 'fasciclelaw02.CrcbShifts', WHERE WHAT IT READS IS OF BULK AT MOST 1048576: true; the input reads as it did. -/
def crcbShiftsUptoRow : OpenClaim := { program := "ytmicofjmpnfehaa", sum := "48878beb53deb83a3fc020588666f7fab44af4f1e0e713ed7b6d81aace1e40e8", func := "fascicle/fasciclelaw02.CrcbShifts", spec := "crcbShifts", apart := false, narrowed := true }
def CrcbShiftsUptoSaid : Prop := crcbShiftsUptoRow.holds Try.pinned (OpenSpec.upto crcbShiftsSpec)

/-- 'fasciclelaw02.CrcbTurned', WHERE WHAT IT READS IS OF BULK AT MOST 1048576: true; the input reads as it did. -/
def crcbTurnedUptoRow : OpenClaim := { program := "ytmicofjmpnfehaa", sum := "48878beb53deb83a3fc020588666f7fab44af4f1e0e713ed7b6d81aace1e40e8", func := "fascicle/fasciclelaw02.CrcbTurned", spec := "crcbTurned", apart := false, narrowed := true }
def CrcbTurnedUptoSaid : Prop := crcbTurnedUptoRow.holds Try.pinned (OpenSpec.upto crcbTurnedSpec)

/-- 'fasciclelaw02.CrcbTails', WHERE WHAT IT READS IS OF BULK AT MOST 1048576: true; the input reads as it did. -/
def crcbTailsUptoRow : OpenClaim := { program := "ytmicofjmpnfehaa", sum := "48878beb53deb83a3fc020588666f7fab44af4f1e0e713ed7b6d81aace1e40e8", func := "fascicle/fasciclelaw02.CrcbTails", spec := "crcbTails", apart := false, narrowed := true }
def CrcbTailsUptoSaid : Prop := crcbTailsUptoRow.holds Try.pinned (OpenSpec.upto crcbTailsSpec)

end Rows
end Go.Proofs.Ytmicofjmpnfehaa
