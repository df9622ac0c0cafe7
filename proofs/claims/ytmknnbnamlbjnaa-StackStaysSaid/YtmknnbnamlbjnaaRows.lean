/-
  No cell of these rows narrows 'for every input' (looked for: loops, veiled, ifaces, maps, wideKeys, modest, calm, conditions, laid).
  DERIVED. THE GIVEN ROWS OF THIS SEAT. 4 by the template 'for every input the law returns true; each argument reads behind the call as it read before'; 0 by the template 'total and deterministic' (their statements: YtmknnbnamlbjnaaTotals.lean).
  GIVEN WITH THE SEED: the statements are not yours to turn. If you find one false, say at which input.
  Laid BY PROGRAM, IN A SANDBOX (cutbox-rows.mjs): the forced cells as the released guide's own fill.sh prints them over the translation 1cf35e0bef0d1af1… (all of the seat's roots in one cut). By AI agents, Wed Nov 11 2026. No macro, syntax, notation, axiom, sorry.
-/
import Derived.Test.YtmknnbnamlbjnaaChecked
import GoSem.Claim
import GoSem.ClaimJoined
import GoSem.ClaimMapViews
import Derived.JoinedTies
import Derived.KernelRfl
namespace Go.Proofs.Ytmknnbnamlbjnaa
/- THE CELL 'sum', in the pinned program and in every row, IS THE sha256 OF THE DUMP (.gsa) THAT YtmknnbnamlbjnaaProg.lean LOADS. Nothing in Lean hashes anything: it is a label: what it is worth is what the hold of that sum in a sandbox is worth. -/
noncomputable def Try.pinned : Pinned := { name := "ytmknnbnamlbjnaa", sum := "1cf35e0bef0d1af1359cb39356dceab71f00d2d914bbb8e634d7a46b0db7cee3", checked := Try.checked }
namespace Rows
def none {H : Type} : Left H := { results := [], args := [] }

/-- 'fasciclelaw11.StackDoes': WHATEVER THE INPUT: true; the input reads as it did. -/
def stackDoesSpec : ChangeSpec := { name := "stackDoes", fn := fun _ => fun
  | [d1, d2] => { results := [.lit (.bool true)], args := [d1, d2] }
  | _ => none }
def stackDoesRow : OpenClaim := { program := "ytmknnbnamlbjnaa", sum := "1cf35e0bef0d1af1359cb39356dceab71f00d2d914bbb8e634d7a46b0db7cee3", func := "fascicle/fasciclelaw11.StackDoes", spec := "stackDoes", inPlace := ["slices.overlaps[fascicle/api.Version]"], unfollowed := true, recurses := true, apart := false }
def StackDoesSaid : Prop := stackDoesRow.holds Try.pinned (OpenSpec.ofChange stackDoesSpec)

/-- ITS FALSE NEIGHBOUR: 'it returns false'. Refute it at one input. -/
def stackDoesWrong : ChangeSpec := { name := "stackDoes", fn := fun _ => fun
  | [d1, d2] => { results := [.lit (.bool false)], args := [d1, d2] }
  | _ => none }
def StackDoesWrongFalsely : Prop := stackDoesRow.holds Try.pinned (OpenSpec.ofChange stackDoesWrong)

/-- 'fasciclelaw11.StackPuts': WHATEVER THE INPUT: true; the input reads as it did. -/
def stackPutsSpec : ChangeSpec := { name := "stackPuts", fn := fun _ => fun
  | [d1, d2, d3] => { results := [.lit (.bool true)], args := [d1, d2, d3] }
  | _ => none }
def stackPutsRow : OpenClaim := { program := "ytmknnbnamlbjnaa", sum := "1cf35e0bef0d1af1359cb39356dceab71f00d2d914bbb8e634d7a46b0db7cee3", func := "fascicle/fasciclelaw11.StackPuts", spec := "stackPuts", inPlace := ["slices.overlaps[fascicle/api.Version]"], unfollowed := true, recurses := true, apart := false }
def StackPutsSaid : Prop := stackPutsRow.holds Try.pinned (OpenSpec.ofChange stackPutsSpec)

/-- ITS FALSE NEIGHBOUR: 'it returns false'. Refute it at one input. -/
def stackPutsWrong : ChangeSpec := { name := "stackPuts", fn := fun _ => fun
  | [d1, d2, d3] => { results := [.lit (.bool false)], args := [d1, d2, d3] }
  | _ => none }
def StackPutsWrongFalsely : Prop := stackPutsRow.holds Try.pinned (OpenSpec.ofChange stackPutsWrong)

/-- 'fasciclelaw11.StackStays': WHATEVER THE INPUT: true; the input reads as it did. -/
def stackStaysSpec : ChangeSpec := { name := "stackStays", fn := fun _ => fun
  | [d1, d2] => { results := [.lit (.bool true)], args := [d1, d2] }
  | _ => none }
def stackStaysRow : OpenClaim := { program := "ytmknnbnamlbjnaa", sum := "1cf35e0bef0d1af1359cb39356dceab71f00d2d914bbb8e634d7a46b0db7cee3", func := "fascicle/fasciclelaw11.StackStays", spec := "stackStays", inPlace := ["slices.overlaps[fascicle/api.Version]"], unfollowed := true, recurses := true, apart := false }
def StackStaysSaid : Prop := stackStaysRow.holds Try.pinned (OpenSpec.ofChange stackStaysSpec)

/-- ITS FALSE NEIGHBOUR: 'it returns false'. Refute it at one input. -/
def stackStaysWrong : ChangeSpec := { name := "stackStays", fn := fun _ => fun
  | [d1, d2] => { results := [.lit (.bool false)], args := [d1, d2] }
  | _ => none }
def StackStaysWrongFalsely : Prop := stackStaysRow.holds Try.pinned (OpenSpec.ofChange stackStaysWrong)

/-- 'fasciclelaw11.StackEnds': WHATEVER THE INPUT: true; the input reads as it did. -/
def stackEndsSpec : ChangeSpec := { name := "stackEnds", fn := fun _ => fun
  | [d1, d2, d3] => { results := [.lit (.bool true)], args := [d1, d2, d3] }
  | _ => none }
def stackEndsRow : OpenClaim := { program := "ytmknnbnamlbjnaa", sum := "1cf35e0bef0d1af1359cb39356dceab71f00d2d914bbb8e634d7a46b0db7cee3", func := "fascicle/fasciclelaw11.StackEnds", spec := "stackEnds", inPlace := ["slices.overlaps[fascicle/api.Version]"], unfollowed := true, recurses := true, apart := false }
def StackEndsSaid : Prop := stackEndsRow.holds Try.pinned (OpenSpec.ofChange stackEndsSpec)

/-- ITS FALSE NEIGHBOUR: 'it returns false'. Refute it at one input. -/
def stackEndsWrong : ChangeSpec := { name := "stackEnds", fn := fun _ => fun
  | [d1, d2, d3] => { results := [.lit (.bool false)], args := [d1, d2, d3] }
  | _ => none }
def StackEndsWrongFalsely : Prop := stackEndsRow.holds Try.pinned (OpenSpec.ofChange stackEndsWrong)

/- THE SECOND FORM. 'bulk': how many values and letters a reading holds, each counted each time it is reached (what is shared counts as often as it is met; a slice's spare places count too). A statement '..UptoSaid' is the law's where the arguments, and the package variables that the reading takes, are together of bulk at most 1048576: NARROWER than '..Said'. Prove '..Said' where nothing that the law and all that it calls make is longer than what came in: it says more and counts as full. Else prove '..UptoSaid'. A law counts once. -/
mutual
def uptoBulk {H : Type} : DataW H → Nat
  | .lit (.string bytes) => bytes.length + 1
  | .lit _ => 1
  | .nil => 1
  | .ptr d => uptoBulk d + 1
  | .slice elems spare => uptoBulkAll elems + uptoBulkAll spare + 1
  | .agg parts => uptoBulkAll parts + 1
  | .iface _ d => uptoBulk d + 1
  | .map entries => uptoBulkEntries entries + 1
  | .held _ => 1
def uptoBulkAll {H : Type} : List (DataW H) → Nat
  | [] => 0
  | d :: r => uptoBulk d + uptoBulkAll r
def uptoBulkEntries {H : Type} : List (Lit × DataW H) → Nat
  | [] => 0
  | x :: r => uptoBulkEntry x + uptoBulkEntries r
def uptoBulkEntry {H : Type} : Lit × DataW H → Nat
  | (.string bytes, d) => bytes.length + uptoBulk d + 1
  | (_, d) => uptoBulk d + 1
 end
def uptoSmall : (H : Type) → List (DataW H) → Bool := fun _ ds => decide (uptoBulkAll ds ≤ 1048576)
def OpenSpec.upto (s : _root_.Go.ChangeSpec) : _root_.Go.OpenSpec := { _root_.Go.OpenSpec.ofChange s with cond := some uptoSmall }

/-- 'fasciclelaw11.StackDoes', WHERE WHAT IT READS IS OF BULK AT MOST 1048576: true; the input reads as it did. -/
def stackDoesUptoRow : OpenClaim := { program := "ytmknnbnamlbjnaa", sum := "1cf35e0bef0d1af1359cb39356dceab71f00d2d914bbb8e634d7a46b0db7cee3", func := "fascicle/fasciclelaw11.StackDoes", spec := "stackDoes", inPlace := ["slices.overlaps[fascicle/api.Version]"], unfollowed := true, recurses := true, apart := false, narrowed := true }
def StackDoesUptoSaid : Prop := stackDoesUptoRow.holds Try.pinned (OpenSpec.upto stackDoesSpec)

/-- 'fasciclelaw11.StackPuts', WHERE WHAT IT READS IS OF BULK AT MOST 1048576: true; the input reads as it did. -/
def stackPutsUptoRow : OpenClaim := { program := "ytmknnbnamlbjnaa", sum := "1cf35e0bef0d1af1359cb39356dceab71f00d2d914bbb8e634d7a46b0db7cee3", func := "fascicle/fasciclelaw11.StackPuts", spec := "stackPuts", inPlace := ["slices.overlaps[fascicle/api.Version]"], unfollowed := true, recurses := true, apart := false, narrowed := true }
def StackPutsUptoSaid : Prop := stackPutsUptoRow.holds Try.pinned (OpenSpec.upto stackPutsSpec)

/-- 'fasciclelaw11.StackStays', WHERE WHAT IT READS IS OF BULK AT MOST 1048576: true; the input reads as it did. -/
def stackStaysUptoRow : OpenClaim := { program := "ytmknnbnamlbjnaa", sum := "1cf35e0bef0d1af1359cb39356dceab71f00d2d914bbb8e634d7a46b0db7cee3", func := "fascicle/fasciclelaw11.StackStays", spec := "stackStays", inPlace := ["slices.overlaps[fascicle/api.Version]"], unfollowed := true, recurses := true, apart := false, narrowed := true }
def StackStaysUptoSaid : Prop := stackStaysUptoRow.holds Try.pinned (OpenSpec.upto stackStaysSpec)

/-- 'fasciclelaw11.StackEnds', WHERE WHAT IT READS IS OF BULK AT MOST 1048576: true; the input reads as it did. -/
def stackEndsUptoRow : OpenClaim := { program := "ytmknnbnamlbjnaa", sum := "1cf35e0bef0d1af1359cb39356dceab71f00d2d914bbb8e634d7a46b0db7cee3", func := "fascicle/fasciclelaw11.StackEnds", spec := "stackEnds", inPlace := ["slices.overlaps[fascicle/api.Version]"], unfollowed := true, recurses := true, apart := false, narrowed := true }
def StackEndsUptoSaid : Prop := stackEndsUptoRow.holds Try.pinned (OpenSpec.upto stackEndsSpec)

end Rows
end Go.Proofs.Ytmknnbnamlbjnaa
