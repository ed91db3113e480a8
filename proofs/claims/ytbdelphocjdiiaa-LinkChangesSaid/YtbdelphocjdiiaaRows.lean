/-
  No cell of these rows narrows 'for every input' (looked for: loops, veiled, ifaces, maps, wideKeys, modest, calm, conditions, laid).
  DERIVED. THE GIVEN ROWS OF THIS SEAT. 4 by the template 'for every input the law returns true; each argument reads behind the call as it read before'; 0 by the template 'total and deterministic' (their statements: YtbdelphocjdiiaaTotals.lean).
  GIVEN WITH THE SEED: the statements are not yours to turn. If you find one false, say at which input.
  Laid BY PROGRAM, IN A SANDBOX (cutbox-rows.mjs): the forced cells as the released guide's own fill.sh prints them over the translation 38aa1402d764ac7b… (all of the seat's roots in one cut). By AI agents, Wed Nov 11 2026. No macro, syntax, notation, axiom, sorry.
-/
import Derived.Test.YtbdelphocjdiiaaChecked
import GoSem.Claim
import GoSem.ClaimJoined
import GoSem.ClaimMapViews
import Derived.JoinedTies
import Derived.KernelRfl
namespace Go.Proofs.Ytbdelphocjdiiaa
/- THE CELL 'sum', in the pinned program and in every row, IS THE sha256 OF THE DUMP (.gsa) THAT YtbdelphocjdiiaaProg.lean LOADS. Nothing in Lean hashes anything: it is a label: what it is worth is what the hold of that sum in a sandbox is worth. -/
noncomputable def Try.pinned : Pinned := { name := "ytbdelphocjdiiaa", sum := "38aa1402d764ac7bd29868c4b479b84a1c8d9894d70e4c00835af6933d970e46", checked := Try.checked }
namespace Rows
def none {H : Type} : Left H := { results := [], args := [] }

/-- 'tholepinlaw23.LinkWrites': WHATEVER THE INPUT: true; the input reads as it did. -/
def linkWritesSpec : ChangeSpec := { name := "linkWrites", fn := fun _ => fun
  | [d1, d2, d3] => { results := [.lit (.bool true)], args := [d1, d2, d3] }
  | _ => none }
def linkWritesRow : OpenClaim := { program := "ytbdelphocjdiiaa", sum := "38aa1402d764ac7bd29868c4b479b84a1c8d9894d70e4c00835af6933d970e46", func := "tholepin/tholepinlaw23.LinkWrites", spec := "linkWrites", recurses := true, apart := false }
def LinkWritesSaid : Prop := linkWritesRow.holds Try.pinned (OpenSpec.ofChange linkWritesSpec)

/-- ITS FALSE NEIGHBOUR: 'it returns false'. Refute it at one input. -/
def linkWritesWrong : ChangeSpec := { name := "linkWrites", fn := fun _ => fun
  | [d1, d2, d3] => { results := [.lit (.bool false)], args := [d1, d2, d3] }
  | _ => none }
def LinkWritesWrongFalsely : Prop := linkWritesRow.holds Try.pinned (OpenSpec.ofChange linkWritesWrong)

/-- 'tholepinlaw23.LinkReads': WHATEVER THE INPUT: true; the input reads as it did. -/
def linkReadsSpec : ChangeSpec := { name := "linkReads", fn := fun _ => fun
  | [d1, d2] => { results := [.lit (.bool true)], args := [d1, d2] }
  | _ => none }
def linkReadsRow : OpenClaim := { program := "ytbdelphocjdiiaa", sum := "38aa1402d764ac7bd29868c4b479b84a1c8d9894d70e4c00835af6933d970e46", func := "tholepin/tholepinlaw23.LinkReads", spec := "linkReads", recurses := true, apart := false }
def LinkReadsSaid : Prop := linkReadsRow.holds Try.pinned (OpenSpec.ofChange linkReadsSpec)

/-- ITS FALSE NEIGHBOUR: 'it returns false'. Refute it at one input. -/
def linkReadsWrong : ChangeSpec := { name := "linkReads", fn := fun _ => fun
  | [d1, d2] => { results := [.lit (.bool false)], args := [d1, d2] }
  | _ => none }
def LinkReadsWrongFalsely : Prop := linkReadsRow.holds Try.pinned (OpenSpec.ofChange linkReadsWrong)

/-- 'tholepinlaw23.LinkChanges': WHATEVER THE INPUT: true; the input reads as it did. -/
def linkChangesSpec : ChangeSpec := { name := "linkChanges", fn := fun _ => fun
  | [d1, d2, d3] => { results := [.lit (.bool true)], args := [d1, d2, d3] }
  | _ => none }
def linkChangesRow : OpenClaim := { program := "ytbdelphocjdiiaa", sum := "38aa1402d764ac7bd29868c4b479b84a1c8d9894d70e4c00835af6933d970e46", func := "tholepin/tholepinlaw23.LinkChanges", spec := "linkChanges", unfollowed := true, recurses := true, apart := false }
def LinkChangesSaid : Prop := linkChangesRow.holds Try.pinned (OpenSpec.ofChange linkChangesSpec)

/-- ITS FALSE NEIGHBOUR: 'it returns false'. Refute it at one input. -/
def linkChangesWrong : ChangeSpec := { name := "linkChanges", fn := fun _ => fun
  | [d1, d2, d3] => { results := [.lit (.bool false)], args := [d1, d2, d3] }
  | _ => none }
def LinkChangesWrongFalsely : Prop := linkChangesRow.holds Try.pinned (OpenSpec.ofChange linkChangesWrong)

/-- 'tholepinlaw23.LinkLater': WHATEVER THE INPUT: true; the input reads as it did. -/
def linkLaterSpec : ChangeSpec := { name := "linkLater", fn := fun _ => fun
  | [d1, d2, d3] => { results := [.lit (.bool true)], args := [d1, d2, d3] }
  | _ => none }
def linkLaterRow : OpenClaim := { program := "ytbdelphocjdiiaa", sum := "38aa1402d764ac7bd29868c4b479b84a1c8d9894d70e4c00835af6933d970e46", func := "tholepin/tholepinlaw23.LinkLater", spec := "linkLater", unfollowed := true, recurses := true, apart := false }
def LinkLaterSaid : Prop := linkLaterRow.holds Try.pinned (OpenSpec.ofChange linkLaterSpec)

/-- ITS FALSE NEIGHBOUR: 'it returns false'. Refute it at one input. -/
def linkLaterWrong : ChangeSpec := { name := "linkLater", fn := fun _ => fun
  | [d1, d2, d3] => { results := [.lit (.bool false)], args := [d1, d2, d3] }
  | _ => none }
def LinkLaterWrongFalsely : Prop := linkLaterRow.holds Try.pinned (OpenSpec.ofChange linkLaterWrong)

/- THE SECOND FORM. 'bulk': how many values and letters a reading holds, each counted each time it is reached (what is shared counts as often as it is met; a slice's spare places count too). A statement '..UptoSaid' is the law's where the arguments, and the package variables that the reading takes, are together of bulk at most 1048576: NARROWER than '..Said'. Prove '..Said' where nothing that the law and all that it calls make is longer than what came in: it says more and counts as full. Else prove '..UptoSaid'. A law counts once. -/
mutual
def uptoBulk {H : Type} : DataW H → Nat
  | .lit (.string bytes) => bytes.length + 1
  | .lit _ => 1
  | .nil => 1
  | .ptr d => uptoBulk d + 1
  | .slice elems spare => uptoBulkAll elems + uptoBulkAll spare + 1
  | .agg parts => uptoBulkAll parts + 1
  | .iface _ d => uptoBulk d + 1
  | .map entries => uptoBulkEntries entries + 1
  | .held _ => 1
def uptoBulkAll {H : Type} : List (DataW H) → Nat
  | [] => 0
  | d :: r => uptoBulk d + uptoBulkAll r
def uptoBulkEntries {H : Type} : List (Lit × DataW H) → Nat
  | [] => 0
  | x :: r => uptoBulkEntry x + uptoBulkEntries r
def uptoBulkEntry {H : Type} : Lit × DataW H → Nat
  | (.string bytes, d) => bytes.length + uptoBulk d + 1
  | (_, d) => uptoBulk d + 1
 end
def uptoSmall : (H : Type) → List (DataW H) → Bool := fun _ ds => decide (uptoBulkAll ds ≤ 1048576)
def OpenSpec.upto (s : _root_.Go.ChangeSpec) : _root_.Go.OpenSpec := { _root_.Go.OpenSpec.ofChange s with cond := some uptoSmall }

/-- 'tholepinlaw23.LinkWrites', WHERE WHAT IT READS IS OF BULK AT MOST 1048576: true; the input reads as it did. -/
def linkWritesUptoRow : OpenClaim := { program := "ytbdelphocjdiiaa", sum := "38aa1402d764ac7bd29868c4b479b84a1c8d9894d70e4c00835af6933d970e46", func := "tholepin/tholepinlaw23.LinkWrites", spec := "linkWrites", recurses := true, apart := false, narrowed := true }
def LinkWritesUptoSaid : Prop := linkWritesUptoRow.holds Try.pinned (OpenSpec.upto linkWritesSpec)

/-- 'tholepinlaw23.LinkReads', WHERE WHAT IT READS IS OF BULK AT MOST 1048576: true; the input reads as it did. -/
def linkReadsUptoRow : OpenClaim := { program := "ytbdelphocjdiiaa", sum := "38aa1402d764ac7bd29868c4b479b84a1c8d9894d70e4c00835af6933d970e46", func := "tholepin/tholepinlaw23.LinkReads", spec := "linkReads", recurses := true, apart := false, narrowed := true }
def LinkReadsUptoSaid : Prop := linkReadsUptoRow.holds Try.pinned (OpenSpec.upto linkReadsSpec)

/-- 'tholepinlaw23.LinkChanges', WHERE WHAT IT READS IS OF BULK AT MOST 1048576: true; the input reads as it did. -/
def linkChangesUptoRow : OpenClaim := { program := "ytbdelphocjdiiaa", sum := "38aa1402d764ac7bd29868c4b479b84a1c8d9894d70e4c00835af6933d970e46", func := "tholepin/tholepinlaw23.LinkChanges", spec := "linkChanges", unfollowed := true, recurses := true, apart := false, narrowed := true }
def LinkChangesUptoSaid : Prop := linkChangesUptoRow.holds Try.pinned (OpenSpec.upto linkChangesSpec)

/-- 'tholepinlaw23.LinkLater', WHERE WHAT IT READS IS OF BULK AT MOST 1048576: true; the input reads as it did. -/
def linkLaterUptoRow : OpenClaim := { program := "ytbdelphocjdiiaa", sum := "38aa1402d764ac7bd29868c4b479b84a1c8d9894d70e4c00835af6933d970e46", func := "tholepin/tholepinlaw23.LinkLater", spec := "linkLater", unfollowed := true, recurses := true, apart := false, narrowed := true }
def LinkLaterUptoSaid : Prop := linkLaterUptoRow.holds Try.pinned (OpenSpec.upto linkLaterSpec)

end Rows
end Go.Proofs.Ytbdelphocjdiiaa
