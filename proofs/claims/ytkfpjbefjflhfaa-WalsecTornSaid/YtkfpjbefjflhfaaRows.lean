/-
  No cell of these rows narrows 'for every input' (looked for: loops, veiled, ifaces, maps, wideKeys, modest, calm, conditions, laid).
  DERIVED. THE GIVEN ROWS OF THIS SEAT. 4 by the template 'for every input the law returns true; each argument reads behind the call as it read before'; 0 by the template 'total and deterministic' (their statements: YtkfpjbefjflhfaaTotals.lean).
  GIVEN WITH THE SEED: the statements are not yours to turn. If you find one false, say at which input.
  Laid BY PROGRAM, IN A SANDBOX (cutbox-rows.mjs): the forced cells as the released guide's own fill.sh prints them over the translation 4c2fe6f47d8bed6e… (all of the seat's roots in one cut). By AI agents, Wed Nov 11 2026. No macro, syntax, notation, axiom, sorry.
-/
import Derived.Test.YtkfpjbefjflhfaaChecked
import GoSem.Claim
import GoSem.ClaimJoined
import GoSem.ClaimMapViews
import Derived.JoinedTies
import Derived.KernelRfl
namespace Go.Proofs.Ytkfpjbefjflhfaa
/- THE CELL 'sum', in the pinned program and in every row, IS THE sha256 OF THE DUMP (.gsa) THAT YtkfpjbefjflhfaaProg.lean LOADS. Nothing in Lean hashes anything: it is a label: what it is worth is what the hold of that sum in a sandbox is worth. -/
noncomputable def Try.pinned : Pinned := { name := "ytkfpjbefjflhfaa", sum := "4c2fe6f47d8bed6e28ad2dd20dd20d61dbdf2921b08dd443fbd97b495854e41b", checked := Try.checked }
namespace Rows
def none {H : Type} : Left H := { results := [], args := [] }

/-- 'fasciclelaw09.WalsecPacks': WHATEVER THE INPUT: true; the input reads as it did. -/
def walsecPacksSpec : ChangeSpec := { name := "walsecPacks", fn := fun _ => fun
  | [d1, d2, d3] => { results := [.lit (.bool true)], args := [d1, d2, d3] }
  | _ => none }
def walsecPacksRow : OpenClaim := { program := "ytkfpjbefjflhfaa", sum := "4c2fe6f47d8bed6e28ad2dd20dd20d61dbdf2921b08dd443fbd97b495854e41b", func := "fascicle/fasciclelaw09.WalsecPacks", spec := "walsecPacks", unfollowed := true, recurses := true, apart := false }
def WalsecPacksSaid : Prop := walsecPacksRow.holds Try.pinned (OpenSpec.ofChange walsecPacksSpec)

/-- ITS FALSE NEIGHBOUR: 'it returns false'. Refute it at one input. -/
def walsecPacksWrong : ChangeSpec := { name := "walsecPacks", fn := fun _ => fun
  | [d1, d2, d3] => { results := [.lit (.bool false)], args := [d1, d2, d3] }
  | _ => none }
def WalsecPacksWrongFalsely : Prop := walsecPacksRow.holds Try.pinned (OpenSpec.ofChange walsecPacksWrong)

/-- 'fasciclelaw09.WalsecReads': WHATEVER THE INPUT: true; the input reads as it did. -/
def walsecReadsSpec : ChangeSpec := { name := "walsecReads", fn := fun _ => fun
  | [d1, d2, d3] => { results := [.lit (.bool true)], args := [d1, d2, d3] }
  | _ => none }
def walsecReadsRow : OpenClaim := { program := "ytkfpjbefjflhfaa", sum := "4c2fe6f47d8bed6e28ad2dd20dd20d61dbdf2921b08dd443fbd97b495854e41b", func := "fascicle/fasciclelaw09.WalsecReads", spec := "walsecReads", unfollowed := true, recurses := true, apart := false }
def WalsecReadsSaid : Prop := walsecReadsRow.holds Try.pinned (OpenSpec.ofChange walsecReadsSpec)

/-- ITS FALSE NEIGHBOUR: 'it returns false'. Refute it at one input. -/
def walsecReadsWrong : ChangeSpec := { name := "walsecReads", fn := fun _ => fun
  | [d1, d2, d3] => { results := [.lit (.bool false)], args := [d1, d2, d3] }
  | _ => none }
def WalsecReadsWrongFalsely : Prop := walsecReadsRow.holds Try.pinned (OpenSpec.ofChange walsecReadsWrong)

/-- 'fasciclelaw09.WalsecTorn': WHATEVER THE INPUT: true; the input reads as it did. -/
def walsecTornSpec : ChangeSpec := { name := "walsecTorn", fn := fun _ => fun
  | [d1, d2, d3] => { results := [.lit (.bool true)], args := [d1, d2, d3] }
  | _ => none }
def walsecTornRow : OpenClaim := { program := "ytkfpjbefjflhfaa", sum := "4c2fe6f47d8bed6e28ad2dd20dd20d61dbdf2921b08dd443fbd97b495854e41b", func := "fascicle/fasciclelaw09.WalsecTorn", spec := "walsecTorn", unfollowed := true, recurses := true, apart := false }
def WalsecTornSaid : Prop := walsecTornRow.holds Try.pinned (OpenSpec.ofChange walsecTornSpec)

/-- ITS FALSE NEIGHBOUR: 'it returns false'. Refute it at one input. -/
def walsecTornWrong : ChangeSpec := { name := "walsecTorn", fn := fun _ => fun
  | [d1, d2, d3] => { results := [.lit (.bool false)], args := [d1, d2, d3] }
  | _ => none }
def WalsecTornWrongFalsely : Prop := walsecTornRow.holds Try.pinned (OpenSpec.ofChange walsecTornWrong)

/-- 'fasciclelaw09.WalsecBack': WHATEVER THE INPUT: true; the input reads as it did. -/
def walsecBackSpec : ChangeSpec := { name := "walsecBack", fn := fun _ => fun
  | [d1, d2, d3] => { results := [.lit (.bool true)], args := [d1, d2, d3] }
  | _ => none }
def walsecBackRow : OpenClaim := { program := "ytkfpjbefjflhfaa", sum := "4c2fe6f47d8bed6e28ad2dd20dd20d61dbdf2921b08dd443fbd97b495854e41b", func := "fascicle/fasciclelaw09.WalsecBack", spec := "walsecBack", unfollowed := true, recurses := true, apart := false }
def WalsecBackSaid : Prop := walsecBackRow.holds Try.pinned (OpenSpec.ofChange walsecBackSpec)

/-- ITS FALSE NEIGHBOUR: 'it returns false'. Refute it at one input. -/
def walsecBackWrong : ChangeSpec := { name := "walsecBack", fn := fun _ => fun
  | [d1, d2, d3] => { results := [.lit (.bool false)], args := [d1, d2, d3] }
  | _ => none }
def WalsecBackWrongFalsely : Prop := walsecBackRow.holds Try.pinned (OpenSpec.ofChange walsecBackWrong)

/- THE SECOND FORM. 'bulk': how many values and letters a reading holds, each counted each time it is reached (what is shared counts as often as it is met; a slice's spare places count too). A statement '..UptoSaid' is the law's where the arguments, and the package variables that the reading takes, are together of bulk at most 1048576: NARROWER than '..Said'. Prove '..Said' where nothing that the law and all that it calls make is longer than what came in: it says more and counts as full. Else prove '..UptoSaid'. A law counts once. -/
mutual
def uptoBulk {H : Type} : DataW H → Nat
  | .lit (.string bytes) => bytes.length + 1
  | .lit _ => 1
  | .nil => 1
  | .ptr d => uptoBulk d + 1
  | .slice elems spare => uptoBulkAll elems + uptoBulkAll spare + 1
  | .agg parts => uptoBulkAll parts + 1
  | .iface _ d => uptoBulk d + 1
  | .map entries => uptoBulkEntries entries + 1
  | .held _ => 1
def uptoBulkAll {H : Type} : List (DataW H) → Nat
  | [] => 0
  | d :: r => uptoBulk d + uptoBulkAll r
def uptoBulkEntries {H : Type} : List (Lit × DataW H) → Nat
  | [] => 0
  | x :: r => uptoBulkEntry x + uptoBulkEntries r
def uptoBulkEntry {H : Type} : Lit × DataW H → Nat
  | (.string bytes, d) => bytes.length + uptoBulk d + 1
  | (_, d) => uptoBulk d + 1
 end
def uptoSmall : (H : Type) → List (DataW H) → Bool := fun _ ds => decide (uptoBulkAll ds ≤ 1048576)
def OpenSpec.upto (s : _root_.Go.ChangeSpec) : _root_.Go.OpenSpec := { _root_.Go.OpenSpec.ofChange s with cond := some uptoSmall }

/-- 'fasciclelaw09.WalsecPacks', WHERE WHAT IT READS IS OF BULK AT MOST 1048576: true; the input reads as it did. -/
def walsecPacksUptoRow : OpenClaim := { program := "ytkfpjbefjflhfaa", sum := "4c2fe6f47d8bed6e28ad2dd20dd20d61dbdf2921b08dd443fbd97b495854e41b", func := "fascicle/fasciclelaw09.WalsecPacks", spec := "walsecPacks", unfollowed := true, recurses := true, apart := false, narrowed := true }
def WalsecPacksUptoSaid : Prop := walsecPacksUptoRow.holds Try.pinned (OpenSpec.upto walsecPacksSpec)

/-- 'fasciclelaw09.WalsecReads', WHERE WHAT IT READS IS OF BULK AT MOST 1048576: true; the input reads as it did. -/
def walsecReadsUptoRow : OpenClaim := { program := "ytkfpjbefjflhfaa", sum := "4c2fe6f47d8bed6e28ad2dd20dd20d61dbdf2921b08dd443fbd97b495854e41b", func := "fascicle/fasciclelaw09.WalsecReads", spec := "walsecReads", unfollowed := true, recurses := true, apart := false, narrowed := true }
def WalsecReadsUptoSaid : Prop := walsecReadsUptoRow.holds Try.pinned (OpenSpec.upto walsecReadsSpec)

/-- 'fasciclelaw09.WalsecTorn', WHERE WHAT IT READS IS OF BULK AT MOST 1048576: true; the input reads as it did. -/
def walsecTornUptoRow : OpenClaim := { program := "ytkfpjbefjflhfaa", sum := "4c2fe6f47d8bed6e28ad2dd20dd20d61dbdf2921b08dd443fbd97b495854e41b", func := "fascicle/fasciclelaw09.WalsecTorn", spec := "walsecTorn", unfollowed := true, recurses := true, apart := false, narrowed := true }
def WalsecTornUptoSaid : Prop := walsecTornUptoRow.holds Try.pinned (OpenSpec.upto walsecTornSpec)

/-- 'fasciclelaw09.WalsecBack', WHERE WHAT IT READS IS OF BULK AT MOST 1048576: true; the input reads as it did. -/
def walsecBackUptoRow : OpenClaim := { program := "ytkfpjbefjflhfaa", sum := "4c2fe6f47d8bed6e28ad2dd20dd20d61dbdf2921b08dd443fbd97b495854e41b", func := "fascicle/fasciclelaw09.WalsecBack", spec := "walsecBack", unfollowed := true, recurses := true, apart := false, narrowed := true }
def WalsecBackUptoSaid : Prop := walsecBackUptoRow.holds Try.pinned (OpenSpec.upto walsecBackSpec)

end Rows
end Go.Proofs.Ytkfpjbefjflhfaa
