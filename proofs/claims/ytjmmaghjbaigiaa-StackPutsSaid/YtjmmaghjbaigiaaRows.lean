/-
  No cell of these rows narrows 'for every input' (looked for: loops, veiled, ifaces, maps, wideKeys, modest, calm, conditions, laid).
  DERIVED. THE GIVEN ROWS OF THIS SEAT. 5 by the template 'for every input the law returns true; each argument reads behind the call as it read before'; 0 by the template 'total and deterministic' (their statements: YtjmmaghjbaigiaaTotals.lean).
  GIVEN WITH THE SEED: the statements are not yours to turn. If you find one false, say at which input.
  Laid BY PROGRAM, IN A SANDBOX (cutbox-rows.mjs): the forced cells as the released guide's own fill.sh prints them over the translation 94cc55560ac1edb3… (all of the seat's roots in one cut). By AI agents, Wed Nov 11 2026. No macro, syntax, notation, axiom, sorry.
-/
import Derived.Test.YtjmmaghjbaigiaaChecked
import GoSem.Claim
import GoSem.ClaimJoined
import GoSem.ClaimMapViews
import Derived.JoinedTies
import Derived.KernelRfl
namespace Go.Proofs.Ytjmmaghjbaigiaa
/- THE CELL 'sum', in the pinned program and in every row, IS THE sha256 OF THE DUMP (.gsa) THAT YtjmmaghjbaigiaaProg.lean LOADS. Nothing in Lean hashes anything: it is a label: what it is worth is what the hold of that sum in a sandbox is worth. -/
noncomputable def Try.pinned : Pinned := { name := "ytjmmaghjbaigiaa", sum := "94cc55560ac1edb319488a587ffe27b4ac4ddbe7752b6e613cea580566aed78b", checked := Try.checked }
namespace Rows
def none {H : Type} : Left H := { results := [], args := [] }

/-- 'fasciclelaw11.StackPuts': WHATEVER THE INPUT: true; the input reads as it did. -/
def stackPutsSpec : ChangeSpec := { name := "stackPuts", fn := fun _ => fun
  | [d1, d2, d3] => { results := [.lit (.bool true)], args := [d1, d2, d3] }
  | _ => none }
def stackPutsRow : OpenClaim := { program := "ytjmmaghjbaigiaa", sum := "94cc55560ac1edb319488a587ffe27b4ac4ddbe7752b6e613cea580566aed78b", func := "fascicle/fasciclelaw11.StackPuts", spec := "stackPuts", inPlace := ["slices.overlaps[fascicle/api.Version]"], unfollowed := true, recurses := true, apart := false }
def StackPutsSaid : Prop := stackPutsRow.holds Try.pinned (OpenSpec.ofChange stackPutsSpec)

/-- ITS FALSE NEIGHBOUR: 'it returns false'. Refute it at one input. -/
def stackPutsWrong : ChangeSpec := { name := "stackPuts", fn := fun _ => fun
  | [d1, d2, d3] => { results := [.lit (.bool false)], args := [d1, d2, d3] }
  | _ => none }
def StackPutsWrongFalsely : Prop := stackPutsRow.holds Try.pinned (OpenSpec.ofChange stackPutsWrong)

/-- 'fasciclelaw12.MsgPuts': WHATEVER THE INPUT: true; the input reads as it did. -/
def msgPutsSpec : ChangeSpec := { name := "msgPuts", fn := fun _ => fun
  | [d1, d2] => { results := [.lit (.bool true)], args := [d1, d2] }
  | _ => none }
def msgPutsRow : OpenClaim := { program := "ytjmmaghjbaigiaa", sum := "94cc55560ac1edb319488a587ffe27b4ac4ddbe7752b6e613cea580566aed78b", func := "fascicle/fasciclelaw12.MsgPuts", spec := "msgPuts", inPlace := ["slices.overlaps[fascicle/api.Version]"], unfollowed := true, recurses := true, apart := false }
def MsgPutsSaid : Prop := msgPutsRow.holds Try.pinned (OpenSpec.ofChange msgPutsSpec)

/-- ITS FALSE NEIGHBOUR: 'it returns false'. Refute it at one input. -/
def msgPutsWrong : ChangeSpec := { name := "msgPuts", fn := fun _ => fun
  | [d1, d2] => { results := [.lit (.bool false)], args := [d1, d2] }
  | _ => none }
def MsgPutsWrongFalsely : Prop := msgPutsRow.holds Try.pinned (OpenSpec.ofChange msgPutsWrong)

/-- 'fasciclelaw13.VisibleScans': WHATEVER THE INPUT: true; the input reads as it did. -/
def visibleScansSpec : ChangeSpec := { name := "visibleScans", fn := fun _ => fun
  | [d1, d2, d3] => { results := [.lit (.bool true)], args := [d1, d2, d3] }
  | _ => none }
def visibleScansRow : OpenClaim := { program := "ytjmmaghjbaigiaa", sum := "94cc55560ac1edb319488a587ffe27b4ac4ddbe7752b6e613cea580566aed78b", func := "fascicle/fasciclelaw13.VisibleScans", spec := "visibleScans", apart := false }
def VisibleScansSaid : Prop := visibleScansRow.holds Try.pinned (OpenSpec.ofChange visibleScansSpec)

/-- ITS FALSE NEIGHBOUR: 'it returns false'. Refute it at one input. -/
def visibleScansWrong : ChangeSpec := { name := "visibleScans", fn := fun _ => fun
  | [d1, d2, d3] => { results := [.lit (.bool false)], args := [d1, d2, d3] }
  | _ => none }
def VisibleScansWrongFalsely : Prop := visibleScansRow.holds Try.pinned (OpenSpec.ofChange visibleScansWrong)

/-- 'fasciclelaw13.VisiblePrunes': WHATEVER THE INPUT: true; the input reads as it did. -/
def visiblePrunesSpec : ChangeSpec := { name := "visiblePrunes", fn := fun _ => fun
  | [d1, d2, d3] => { results := [.lit (.bool true)], args := [d1, d2, d3] }
  | _ => none }
def visiblePrunesRow : OpenClaim := { program := "ytjmmaghjbaigiaa", sum := "94cc55560ac1edb319488a587ffe27b4ac4ddbe7752b6e613cea580566aed78b", func := "fascicle/fasciclelaw13.VisiblePrunes", spec := "visiblePrunes", unfollowed := true, recurses := true, apart := false }
def VisiblePrunesSaid : Prop := visiblePrunesRow.holds Try.pinned (OpenSpec.ofChange visiblePrunesSpec)

/-- ITS FALSE NEIGHBOUR: 'it returns false'. Refute it at one input. -/
def visiblePrunesWrong : ChangeSpec := { name := "visiblePrunes", fn := fun _ => fun
  | [d1, d2, d3] => { results := [.lit (.bool false)], args := [d1, d2, d3] }
  | _ => none }
def VisiblePrunesWrongFalsely : Prop := visiblePrunesRow.holds Try.pinned (OpenSpec.ofChange visiblePrunesWrong)

/-- 'fasciclelaw13.VisibleCommits': WHATEVER THE INPUT: true; the input reads as it did. -/
def visibleCommitsSpec : ChangeSpec := { name := "visibleCommits", fn := fun _ => fun
  | [d1, d2, d3] => { results := [.lit (.bool true)], args := [d1, d2, d3] }
  | _ => none }
def visibleCommitsRow : OpenClaim := { program := "ytjmmaghjbaigiaa", sum := "94cc55560ac1edb319488a587ffe27b4ac4ddbe7752b6e613cea580566aed78b", func := "fascicle/fasciclelaw13.VisibleCommits", spec := "visibleCommits", inPlace := ["slices.overlaps[fascicle/api.Version]"], unfollowed := true, recurses := true, apart := false }
def VisibleCommitsSaid : Prop := visibleCommitsRow.holds Try.pinned (OpenSpec.ofChange visibleCommitsSpec)

/-- ITS FALSE NEIGHBOUR: 'it returns false'. Refute it at one input. -/
def visibleCommitsWrong : ChangeSpec := { name := "visibleCommits", fn := fun _ => fun
  | [d1, d2, d3] => { results := [.lit (.bool false)], args := [d1, d2, d3] }
  | _ => none }
def VisibleCommitsWrongFalsely : Prop := visibleCommitsRow.holds Try.pinned (OpenSpec.ofChange visibleCommitsWrong)

/- THE SECOND FORM. 'bulk': how many values and letters a reading holds, each counted each time it is reached (what is shared counts as often as it is met; a slice's spare places count too). A statement '..UptoSaid' is the law's where the arguments, and the package variables that the reading takes, are together of bulk at most 1048576: NARROWER than '..Said'. Prove '..Said' where nothing that the law and all that it calls make is longer than what came in: it says more and counts as full. Else prove '..UptoSaid'. A law counts once. -/
mutual
def uptoBulk {H : Type} : DataW H → Nat
  | .lit (.string bytes) => bytes.length + 1
  | .lit _ => 1
  | .nil => 1
  | .ptr d => uptoBulk d + 1
  | .slice elems spare => uptoBulkAll elems + uptoBulkAll spare + 1
  | .agg parts => uptoBulkAll parts + 1
  | .iface _ d => uptoBulk d + 1
  | .map entries => uptoBulkEntries entries + 1
  | .held _ => 1
def uptoBulkAll {H : Type} : List (DataW H) → Nat
  | [] => 0
  | d :: r => uptoBulk d + uptoBulkAll r
def uptoBulkEntries {H : Type} : List (Lit × DataW H) → Nat
  | [] => 0
  | x :: r => uptoBulkEntry x + uptoBulkEntries r
def uptoBulkEntry {H : Type} : Lit × DataW H → Nat
  | (.string bytes, d) => bytes.length + uptoBulk d + 1
  | (_, d) => uptoBulk d + 1
 end
def uptoSmall : (H : Type) → List (DataW H) → Bool := fun _ ds => decide (uptoBulkAll ds ≤ 1048576)
def OpenSpec.upto (s : _root_.Go.ChangeSpec) : _root_.Go.OpenSpec := { _root_.Go.OpenSpec.ofChange s with cond := some uptoSmall }

/-- 'fasciclelaw11.StackPuts', WHERE WHAT IT READS IS OF BULK AT MOST 1048576: true; the input reads as it did. -/
def stackPutsUptoRow : OpenClaim := { program := "ytjmmaghjbaigiaa", sum := "94cc55560ac1edb319488a587ffe27b4ac4ddbe7752b6e613cea580566aed78b", func := "fascicle/fasciclelaw11.StackPuts", spec := "stackPuts", inPlace := ["slices.overlaps[fascicle/api.Version]"], unfollowed := true, recurses := true, apart := false, narrowed := true }
def StackPutsUptoSaid : Prop := stackPutsUptoRow.holds Try.pinned (OpenSpec.upto stackPutsSpec)

/-- 'fasciclelaw12.MsgPuts', WHERE WHAT IT READS IS OF BULK AT MOST 1048576: true; the input reads as it did. -/
def msgPutsUptoRow : OpenClaim := { program := "ytjmmaghjbaigiaa", sum := "94cc55560ac1edb319488a587ffe27b4ac4ddbe7752b6e613cea580566aed78b", func := "fascicle/fasciclelaw12.MsgPuts", spec := "msgPuts", inPlace := ["slices.overlaps[fascicle/api.Version]"], unfollowed := true, recurses := true, apart := false, narrowed := true }
def MsgPutsUptoSaid : Prop := msgPutsUptoRow.holds Try.pinned (OpenSpec.upto msgPutsSpec)

/-- 'fasciclelaw13.VisibleScans', WHERE WHAT IT READS IS OF BULK AT MOST 1048576: true; the input reads as it did. -/
def visibleScansUptoRow : OpenClaim := { program := "ytjmmaghjbaigiaa", sum := "94cc55560ac1edb319488a587ffe27b4ac4ddbe7752b6e613cea580566aed78b", func := "fascicle/fasciclelaw13.VisibleScans", spec := "visibleScans", apart := false, narrowed := true }
def VisibleScansUptoSaid : Prop := visibleScansUptoRow.holds Try.pinned (OpenSpec.upto visibleScansSpec)

/-- 'fasciclelaw13.VisiblePrunes', WHERE WHAT IT READS IS OF BULK AT MOST 1048576: true; the input reads as it did. -/
def visiblePrunesUptoRow : OpenClaim := { program := "ytjmmaghjbaigiaa", sum := "94cc55560ac1edb319488a587ffe27b4ac4ddbe7752b6e613cea580566aed78b", func := "fascicle/fasciclelaw13.VisiblePrunes", spec := "visiblePrunes", unfollowed := true, recurses := true, apart := false, narrowed := true }
def VisiblePrunesUptoSaid : Prop := visiblePrunesUptoRow.holds Try.pinned (OpenSpec.upto visiblePrunesSpec)

/-- 'fasciclelaw13.VisibleCommits', WHERE WHAT IT READS IS OF BULK AT MOST 1048576: true; the input reads as it did. -/
def visibleCommitsUptoRow : OpenClaim := { program := "ytjmmaghjbaigiaa", sum := "94cc55560ac1edb319488a587ffe27b4ac4ddbe7752b6e613cea580566aed78b", func := "fascicle/fasciclelaw13.VisibleCommits", spec := "visibleCommits", inPlace := ["slices.overlaps[fascicle/api.Version]"], unfollowed := true, recurses := true, apart := false, narrowed := true }
def VisibleCommitsUptoSaid : Prop := visibleCommitsUptoRow.holds Try.pinned (OpenSpec.upto visibleCommitsSpec)

end Rows
end Go.Proofs.Ytjmmaghjbaigiaa
