/-
  No cell of these rows narrows 'for every input' (looked for: loops, veiled, ifaces, maps, wideKeys, modest, calm, conditions, laid).
  DERIVED. THE GIVEN ROWS OF THIS SEAT. 6 by the template 'for every input the law returns true; each argument reads behind the call as it read before'; 0 by the template 'total and deterministic' (their statements: YtchfpgdioclajaaTotals.lean).
  GIVEN WITH THE SEED: the statements are not yours to turn. If you find one false, say at which input.
  Laid BY PROGRAM, IN A SANDBOX (cutbox-rows.mjs): the forced cells as the released guide's own fill.sh prints them over the translation 6f164ad703e79297… (all of the seat's roots in one cut). By AI agents, Wed Nov 11 2026. No macro, syntax, notation, axiom, sorry.
-/
import Derived.Test.YtchfpgdioclajaaChecked
import GoSem.Claim
import GoSem.ClaimJoined
import GoSem.ClaimMapViews
import Derived.JoinedTies
import Derived.KernelRfl
namespace Go.Proofs.Ytchfpgdioclajaa
/- THE CELL 'sum', in the pinned program and in every row, IS THE sha256 OF THE DUMP (.gsa) THAT YtchfpgdioclajaaProg.lean LOADS. Nothing in Lean hashes anything: it is a label: what it is worth is what the hold of that sum in a sandbox is worth. -/
noncomputable def Try.pinned : Pinned := { name := "ytchfpgdioclajaa", sum := "6f164ad703e79297d51a45c3106083235a3766d0ad5a0e7634fa7de6cb172338", checked := Try.checked }
namespace Rows
def none {H : Type} : Left H := { results := [], args := [] }

/-- 'fasciclelaw11.StackDoes': WHATEVER THE INPUT: true; the input reads as it did. -/
def stackDoesSpec : ChangeSpec := { name := "stackDoes", fn := fun _ => fun
  | [d1, d2] => { results := [.lit (.bool true)], args := [d1, d2] }
  | _ => none }
def stackDoesRow : OpenClaim := { program := "ytchfpgdioclajaa", sum := "6f164ad703e79297d51a45c3106083235a3766d0ad5a0e7634fa7de6cb172338", func := "fascicle/fasciclelaw11.StackDoes", spec := "stackDoes", inPlace := ["slices.overlaps[fascicle/api.Version]"], unfollowed := true, recurses := true, apart := false }
def StackDoesSaid : Prop := stackDoesRow.holds Try.pinned (OpenSpec.ofChange stackDoesSpec)

/-- ITS FALSE NEIGHBOUR: 'it returns false'. Refute it at one input. -/
def stackDoesWrong : ChangeSpec := { name := "stackDoes", fn := fun _ => fun
  | [d1, d2] => { results := [.lit (.bool false)], args := [d1, d2] }
  | _ => none }
def StackDoesWrongFalsely : Prop := stackDoesRow.holds Try.pinned (OpenSpec.ofChange stackDoesWrong)

/-- 'fasciclelaw11.StackPuts': WHATEVER THE INPUT: true; the input reads as it did. -/
def stackPutsSpec : ChangeSpec := { name := "stackPuts", fn := fun _ => fun
  | [d1, d2, d3] => { results := [.lit (.bool true)], args := [d1, d2, d3] }
  | _ => none }
def stackPutsRow : OpenClaim := { program := "ytchfpgdioclajaa", sum := "6f164ad703e79297d51a45c3106083235a3766d0ad5a0e7634fa7de6cb172338", func := "fascicle/fasciclelaw11.StackPuts", spec := "stackPuts", inPlace := ["slices.overlaps[fascicle/api.Version]"], unfollowed := true, recurses := true, apart := false }
def StackPutsSaid : Prop := stackPutsRow.holds Try.pinned (OpenSpec.ofChange stackPutsSpec)

/-- ITS FALSE NEIGHBOUR: 'it returns false'. Refute it at one input. -/
def stackPutsWrong : ChangeSpec := { name := "stackPuts", fn := fun _ => fun
  | [d1, d2, d3] => { results := [.lit (.bool false)], args := [d1, d2, d3] }
  | _ => none }
def StackPutsWrongFalsely : Prop := stackPutsRow.holds Try.pinned (OpenSpec.ofChange stackPutsWrong)

/-- 'fasciclelaw12.MsgFolds': WHATEVER THE INPUT: true; the input reads as it did. -/
def msgFoldsSpec : ChangeSpec := { name := "msgFolds", fn := fun _ => fun
  | [d1, d2] => { results := [.lit (.bool true)], args := [d1, d2] }
  | _ => none }
def msgFoldsRow : OpenClaim := { program := "ytchfpgdioclajaa", sum := "6f164ad703e79297d51a45c3106083235a3766d0ad5a0e7634fa7de6cb172338", func := "fascicle/fasciclelaw12.MsgFolds", spec := "msgFolds", inPlace := ["slices.overlaps[fascicle/api.Version]"], unfollowed := true, recurses := true, apart := false }
def MsgFoldsSaid : Prop := msgFoldsRow.holds Try.pinned (OpenSpec.ofChange msgFoldsSpec)

/-- ITS FALSE NEIGHBOUR: 'it returns false'. Refute it at one input. -/
def msgFoldsWrong : ChangeSpec := { name := "msgFolds", fn := fun _ => fun
  | [d1, d2] => { results := [.lit (.bool false)], args := [d1, d2] }
  | _ => none }
def MsgFoldsWrongFalsely : Prop := msgFoldsRow.holds Try.pinned (OpenSpec.ofChange msgFoldsWrong)

/-- 'fasciclelaw12.MsgPuts': WHATEVER THE INPUT: true; the input reads as it did. -/
def msgPutsSpec : ChangeSpec := { name := "msgPuts", fn := fun _ => fun
  | [d1, d2] => { results := [.lit (.bool true)], args := [d1, d2] }
  | _ => none }
def msgPutsRow : OpenClaim := { program := "ytchfpgdioclajaa", sum := "6f164ad703e79297d51a45c3106083235a3766d0ad5a0e7634fa7de6cb172338", func := "fascicle/fasciclelaw12.MsgPuts", spec := "msgPuts", inPlace := ["slices.overlaps[fascicle/api.Version]"], unfollowed := true, recurses := true, apart := false }
def MsgPutsSaid : Prop := msgPutsRow.holds Try.pinned (OpenSpec.ofChange msgPutsSpec)

/-- ITS FALSE NEIGHBOUR: 'it returns false'. Refute it at one input. -/
def msgPutsWrong : ChangeSpec := { name := "msgPuts", fn := fun _ => fun
  | [d1, d2] => { results := [.lit (.bool false)], args := [d1, d2] }
  | _ => none }
def MsgPutsWrongFalsely : Prop := msgPutsRow.holds Try.pinned (OpenSpec.ofChange msgPutsWrong)

/-- 'fasciclelaw12.MsgParts': WHATEVER THE INPUT: true; the input reads as it did. -/
def msgPartsSpec : ChangeSpec := { name := "msgParts", fn := fun _ => fun
  | [d1, d2, d3] => { results := [.lit (.bool true)], args := [d1, d2, d3] }
  | _ => none }
def msgPartsRow : OpenClaim := { program := "ytchfpgdioclajaa", sum := "6f164ad703e79297d51a45c3106083235a3766d0ad5a0e7634fa7de6cb172338", func := "fascicle/fasciclelaw12.MsgParts", spec := "msgParts", inPlace := ["slices.overlaps[fascicle/api.Version]"], unfollowed := true, recurses := true, apart := false }
def MsgPartsSaid : Prop := msgPartsRow.holds Try.pinned (OpenSpec.ofChange msgPartsSpec)

/-- ITS FALSE NEIGHBOUR: 'it returns false'. Refute it at one input. -/
def msgPartsWrong : ChangeSpec := { name := "msgParts", fn := fun _ => fun
  | [d1, d2, d3] => { results := [.lit (.bool false)], args := [d1, d2, d3] }
  | _ => none }
def MsgPartsWrongFalsely : Prop := msgPartsRow.holds Try.pinned (OpenSpec.ofChange msgPartsWrong)

/-- 'fasciclelaw12.MsgBack': WHATEVER THE INPUT: true; the input reads as it did. -/
def msgBackSpec : ChangeSpec := { name := "msgBack", fn := fun _ => fun
  | [d1, d2] => { results := [.lit (.bool true)], args := [d1, d2] }
  | _ => none }
def msgBackRow : OpenClaim := { program := "ytchfpgdioclajaa", sum := "6f164ad703e79297d51a45c3106083235a3766d0ad5a0e7634fa7de6cb172338", func := "fascicle/fasciclelaw12.MsgBack", spec := "msgBack", inPlace := ["slices.overlaps[fascicle/api.Version]"], unfollowed := true, recurses := true, apart := false }
def MsgBackSaid : Prop := msgBackRow.holds Try.pinned (OpenSpec.ofChange msgBackSpec)

/-- ITS FALSE NEIGHBOUR: 'it returns false'. Refute it at one input. -/
def msgBackWrong : ChangeSpec := { name := "msgBack", fn := fun _ => fun
  | [d1, d2] => { results := [.lit (.bool false)], args := [d1, d2] }
  | _ => none }
def MsgBackWrongFalsely : Prop := msgBackRow.holds Try.pinned (OpenSpec.ofChange msgBackWrong)

/- THE SECOND FORM. 'bulk': how many values and letters a reading holds, each counted each time it is reached (what is shared counts as often as it is met; a slice's spare places count too). A statement '..UptoSaid' is the law's where the arguments, and the package variables that the reading takes, are together of bulk at most 1048576: NARROWER than '..Said'. Prove '..Said' where nothing that the law and all that it calls make is longer than what came in: it says more and counts as full. Else prove '..UptoSaid'. A law counts once. -/
mutual
def uptoBulk {H : Type} : DataW H → Nat
  | .lit (.string bytes) => bytes.length + 1
  | .lit _ => 1
  | .nil => 1
  | .ptr d => uptoBulk d + 1
  | .slice elems spare => uptoBulkAll elems + uptoBulkAll spare + 1
  | .agg parts => uptoBulkAll parts + 1
  | .iface _ d => uptoBulk d + 1
  | .map entries => uptoBulkEntries entries + 1
  | .held _ => 1
def uptoBulkAll {H : Type} : List (DataW H) → Nat
  | [] => 0
  | d :: r => uptoBulk d + uptoBulkAll r
def uptoBulkEntries {H : Type} : List (Lit × DataW H) → Nat
  | [] => 0
  | x :: r => uptoBulkEntry x + uptoBulkEntries r
def uptoBulkEntry {H : Type} : Lit × DataW H → Nat
  | (.string bytes, d) => bytes.length + uptoBulk d + 1
  | (_, d) => uptoBulk d + 1
 end
def uptoSmall : (H : Type) → List (DataW H) → Bool := fun _ ds => decide (uptoBulkAll ds ≤ 1048576)
def OpenSpec.upto (s : _root_.Go.ChangeSpec) : _root_.Go.OpenSpec := { _root_.Go.OpenSpec.ofChange s with cond := some uptoSmall }

/-- 'fasciclelaw11.StackDoes', WHERE WHAT IT READS IS OF BULK AT MOST 1048576: true; the input reads as it did. -/
def stackDoesUptoRow : OpenClaim := { program := "ytchfpgdioclajaa", sum := "6f164ad703e79297d51a45c3106083235a3766d0ad5a0e7634fa7de6cb172338", func := "fascicle/fasciclelaw11.StackDoes", spec := "stackDoes", inPlace := ["slices.overlaps[fascicle/api.Version]"], unfollowed := true, recurses := true, apart := false, narrowed := true }
def StackDoesUptoSaid : Prop := stackDoesUptoRow.holds Try.pinned (OpenSpec.upto stackDoesSpec)

/-- 'fasciclelaw11.StackPuts', WHERE WHAT IT READS IS OF BULK AT MOST 1048576: true; the input reads as it did. -/
def stackPutsUptoRow : OpenClaim := { program := "ytchfpgdioclajaa", sum := "6f164ad703e79297d51a45c3106083235a3766d0ad5a0e7634fa7de6cb172338", func := "fascicle/fasciclelaw11.StackPuts", spec := "stackPuts", inPlace := ["slices.overlaps[fascicle/api.Version]"], unfollowed := true, recurses := true, apart := false, narrowed := true }
def StackPutsUptoSaid : Prop := stackPutsUptoRow.holds Try.pinned (OpenSpec.upto stackPutsSpec)

/-- 'fasciclelaw12.MsgFolds', WHERE WHAT IT READS IS OF BULK AT MOST 1048576: true; the input reads as it did. -/
def msgFoldsUptoRow : OpenClaim := { program := "ytchfpgdioclajaa", sum := "6f164ad703e79297d51a45c3106083235a3766d0ad5a0e7634fa7de6cb172338", func := "fascicle/fasciclelaw12.MsgFolds", spec := "msgFolds", inPlace := ["slices.overlaps[fascicle/api.Version]"], unfollowed := true, recurses := true, apart := false, narrowed := true }
def MsgFoldsUptoSaid : Prop := msgFoldsUptoRow.holds Try.pinned (OpenSpec.upto msgFoldsSpec)

/-- 'fasciclelaw12.MsgPuts', WHERE WHAT IT READS IS OF BULK AT MOST 1048576: true; the input reads as it did. -/
def msgPutsUptoRow : OpenClaim := { program := "ytchfpgdioclajaa", sum := "6f164ad703e79297d51a45c3106083235a3766d0ad5a0e7634fa7de6cb172338", func := "fascicle/fasciclelaw12.MsgPuts", spec := "msgPuts", inPlace := ["slices.overlaps[fascicle/api.Version]"], unfollowed := true, recurses := true, apart := false, narrowed := true }
def MsgPutsUptoSaid : Prop := msgPutsUptoRow.holds Try.pinned (OpenSpec.upto msgPutsSpec)

/-- 'fasciclelaw12.MsgParts', WHERE WHAT IT READS IS OF BULK AT MOST 1048576: true; the input reads as it did. -/
def msgPartsUptoRow : OpenClaim := { program := "ytchfpgdioclajaa", sum := "6f164ad703e79297d51a45c3106083235a3766d0ad5a0e7634fa7de6cb172338", func := "fascicle/fasciclelaw12.MsgParts", spec := "msgParts", inPlace := ["slices.overlaps[fascicle/api.Version]"], unfollowed := true, recurses := true, apart := false, narrowed := true }
def MsgPartsUptoSaid : Prop := msgPartsUptoRow.holds Try.pinned (OpenSpec.upto msgPartsSpec)

/-- 'fasciclelaw12.MsgBack', WHERE WHAT IT READS IS OF BULK AT MOST 1048576: true; the input reads as it did. -/
def msgBackUptoRow : OpenClaim := { program := "ytchfpgdioclajaa", sum := "6f164ad703e79297d51a45c3106083235a3766d0ad5a0e7634fa7de6cb172338", func := "fascicle/fasciclelaw12.MsgBack", spec := "msgBack", inPlace := ["slices.overlaps[fascicle/api.Version]"], unfollowed := true, recurses := true, apart := false, narrowed := true }
def MsgBackUptoSaid : Prop := msgBackUptoRow.holds Try.pinned (OpenSpec.upto msgBackSpec)

end Rows
end Go.Proofs.Ytchfpgdioclajaa
