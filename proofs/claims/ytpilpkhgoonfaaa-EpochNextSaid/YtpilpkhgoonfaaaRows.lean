/-
  No cell of these rows narrows 'for every input' (looked for: loops, veiled, ifaces, maps, wideKeys, modest, calm, conditions, laid).
  DERIVED. THE GIVEN ROWS OF THIS SEAT. 4 by the template 'for every input the law returns true; each argument reads behind the call as it read before'; 0 by the template 'total and deterministic' (their statements: YtpilpkhgoonfaaaTotals.lean).
  GIVEN WITH THE SEED: the statements are not yours to turn. If you find one false, say at which input.
  Laid BY PROGRAM, IN A SANDBOX (cutbox-rows.mjs): the forced cells as the released guide's own fill.sh prints them over the translation 0acd1694f6c9aea4… (all of the seat's roots in one cut). By AI agents, Wed Nov 11 2026. No macro, syntax, notation, axiom, sorry.
-/
import Derived.Test.YtpilpkhgoonfaaaChecked
import GoSem.Claim
import GoSem.ClaimJoined
import GoSem.ClaimMapViews
import Derived.JoinedTies
import Derived.KernelRfl
namespace Go.Proofs.Ytpilpkhgoonfaaa
/- THE CELL 'sum', in the pinned program and in every row, IS THE sha256 OF THE DUMP (.gsa) THAT YtpilpkhgoonfaaaProg.lean LOADS. Nothing in Lean hashes anything: it is a label: what it is worth is what the hold of that sum in a sandbox is worth. -/
noncomputable def Try.pinned : Pinned := { name := "ytpilpkhgoonfaaa", sum := "0acd1694f6c9aea46818cc7ddd6d963bf8457b87813fa9ec09ff64c2d064fd86", checked := Try.checked }
namespace Rows
def none {H : Type} : Left H := { results := [], args := [] }

/-- 'tholepinlaw17.EpochWrites': WHATEVER THE INPUT: true; the input reads as it did. -/
def epochWritesSpec : ChangeSpec := { name := "epochWrites", fn := fun _ => fun
  | [d] => { results := [.lit (.bool true)], args := [d] }
  | _ => none }
def epochWritesRow : OpenClaim := { program := "ytpilpkhgoonfaaa", sum := "0acd1694f6c9aea46818cc7ddd6d963bf8457b87813fa9ec09ff64c2d064fd86", func := "tholepin/tholepinlaw17.EpochWrites", spec := "epochWrites", recurses := true, apart := false }
def EpochWritesSaid : Prop := epochWritesRow.holds Try.pinned (OpenSpec.ofChange epochWritesSpec)

/-- ITS FALSE NEIGHBOUR: 'it returns false'. Refute it at one input. -/
def epochWritesWrong : ChangeSpec := { name := "epochWrites", fn := fun _ => fun
  | [d] => { results := [.lit (.bool false)], args := [d] }
  | _ => none }
def EpochWritesWrongFalsely : Prop := epochWritesRow.holds Try.pinned (OpenSpec.ofChange epochWritesWrong)

/-- 'tholepinlaw17.EpochReads': WHATEVER THE INPUT: true; the input reads as it did. -/
def epochReadsSpec : ChangeSpec := { name := "epochReads", fn := fun _ => fun
  | [d] => { results := [.lit (.bool true)], args := [d] }
  | _ => none }
def epochReadsRow : OpenClaim := { program := "ytpilpkhgoonfaaa", sum := "0acd1694f6c9aea46818cc7ddd6d963bf8457b87813fa9ec09ff64c2d064fd86", func := "tholepin/tholepinlaw17.EpochReads", spec := "epochReads", unfollowed := true, recurses := true, apart := false }
def EpochReadsSaid : Prop := epochReadsRow.holds Try.pinned (OpenSpec.ofChange epochReadsSpec)

/-- ITS FALSE NEIGHBOUR: 'it returns false'. Refute it at one input. -/
def epochReadsWrong : ChangeSpec := { name := "epochReads", fn := fun _ => fun
  | [d] => { results := [.lit (.bool false)], args := [d] }
  | _ => none }
def EpochReadsWrongFalsely : Prop := epochReadsRow.holds Try.pinned (OpenSpec.ofChange epochReadsWrong)

/-- 'tholepinlaw17.EpochNext': WHATEVER THE INPUT: true; the input reads as it did. -/
def epochNextSpec : ChangeSpec := { name := "epochNext", fn := fun _ => fun
  | [d1, d2] => { results := [.lit (.bool true)], args := [d1, d2] }
  | _ => none }
def epochNextRow : OpenClaim := { program := "ytpilpkhgoonfaaa", sum := "0acd1694f6c9aea46818cc7ddd6d963bf8457b87813fa9ec09ff64c2d064fd86", func := "tholepin/tholepinlaw17.EpochNext", spec := "epochNext", apart := false }
def EpochNextSaid : Prop := epochNextRow.holds Try.pinned (OpenSpec.ofChange epochNextSpec)

/-- ITS FALSE NEIGHBOUR: 'it returns false'. Refute it at one input. -/
def epochNextWrong : ChangeSpec := { name := "epochNext", fn := fun _ => fun
  | [d1, d2] => { results := [.lit (.bool false)], args := [d1, d2] }
  | _ => none }
def EpochNextWrongFalsely : Prop := epochNextRow.holds Try.pinned (OpenSpec.ofChange epochNextWrong)

/-- 'tholepinlaw17.EpochAdmits': WHATEVER THE INPUT: true; the input reads as it did. -/
def epochAdmitsSpec : ChangeSpec := { name := "epochAdmits", fn := fun _ => fun
  | [d1, d2, d3] => { results := [.lit (.bool true)], args := [d1, d2, d3] }
  | _ => none }
def epochAdmitsRow : OpenClaim := { program := "ytpilpkhgoonfaaa", sum := "0acd1694f6c9aea46818cc7ddd6d963bf8457b87813fa9ec09ff64c2d064fd86", func := "tholepin/tholepinlaw17.EpochAdmits", spec := "epochAdmits", apart := false }
def EpochAdmitsSaid : Prop := epochAdmitsRow.holds Try.pinned (OpenSpec.ofChange epochAdmitsSpec)

/-- ITS FALSE NEIGHBOUR: 'it returns false'. Refute it at one input. -/
def epochAdmitsWrong : ChangeSpec := { name := "epochAdmits", fn := fun _ => fun
  | [d1, d2, d3] => { results := [.lit (.bool false)], args := [d1, d2, d3] }
  | _ => none }
def EpochAdmitsWrongFalsely : Prop := epochAdmitsRow.holds Try.pinned (OpenSpec.ofChange epochAdmitsWrong)

/- THE SECOND FORM. 'bulk': how many values and letters a reading holds, each counted each time it is reached (what is shared counts as often as it is met; a slice's spare places count too). A statement '..UptoSaid' is the law's where the arguments, and the package variables that the reading takes, are together of bulk at most 1048576: NARROWER than '..Said'. Prove '..Said' where nothing that the law and all that it calls make is longer than what came in: it says more and counts as full. Else prove '..UptoSaid'. A law counts once. -/
mutual
def uptoBulk {H : Type} : DataW H → Nat
  | .lit (.string bytes) => bytes.length + 1
  | .lit _ => 1
  | .nil => 1
  | .ptr d => uptoBulk d + 1
  | .slice elems spare => uptoBulkAll elems + uptoBulkAll spare + 1
  | .agg parts => uptoBulkAll parts + 1
  | .iface _ d => uptoBulk d + 1
  | .map entries => uptoBulkEntries entries + 1
  | .held _ => 1
def uptoBulkAll {H : Type} : List (DataW H) → Nat
  | [] => 0
  | d :: r => uptoBulk d + uptoBulkAll r
def uptoBulkEntries {H : Type} : List (Lit × DataW H) → Nat
  | [] => 0
  | x :: r => uptoBulkEntry x + uptoBulkEntries r
def uptoBulkEntry {H : Type} : Lit × DataW H → Nat
  | (.string bytes, d) => bytes.length + uptoBulk d + 1
  | (_, d) => uptoBulk d + 1
 end
def uptoSmall : (H : Type) → List (DataW H) → Bool := fun _ ds => decide (uptoBulkAll ds ≤ 1048576)
def OpenSpec.upto (s : _root_.Go.ChangeSpec) : _root_.Go.OpenSpec := { _root_.Go.OpenSpec.ofChange s with cond := some uptoSmall }

/-- 'tholepinlaw17.EpochWrites', WHERE WHAT IT READS IS OF BULK AT MOST 1048576: true; the input reads as it did. -/
def epochWritesUptoRow : OpenClaim := { program := "ytpilpkhgoonfaaa", sum := "0acd1694f6c9aea46818cc7ddd6d963bf8457b87813fa9ec09ff64c2d064fd86", func := "tholepin/tholepinlaw17.EpochWrites", spec := "epochWrites", recurses := true, apart := false, narrowed := true }
def EpochWritesUptoSaid : Prop := epochWritesUptoRow.holds Try.pinned (OpenSpec.upto epochWritesSpec)

/-- 'tholepinlaw17.EpochReads', WHERE WHAT IT READS IS OF BULK AT MOST 1048576: true; the input reads as it did. -/
def epochReadsUptoRow : OpenClaim := { program := "ytpilpkhgoonfaaa", sum := "0acd1694f6c9aea46818cc7ddd6d963bf8457b87813fa9ec09ff64c2d064fd86", func := "tholepin/tholepinlaw17.EpochReads", spec := "epochReads", unfollowed := true, recurses := true, apart := false, narrowed := true }
def EpochReadsUptoSaid : Prop := epochReadsUptoRow.holds Try.pinned (OpenSpec.upto epochReadsSpec)

/-- 'tholepinlaw17.EpochNext', WHERE WHAT IT READS IS OF BULK AT MOST 1048576: true; the input reads as it did. -/
def epochNextUptoRow : OpenClaim := { program := "ytpilpkhgoonfaaa", sum := "0acd1694f6c9aea46818cc7ddd6d963bf8457b87813fa9ec09ff64c2d064fd86", func := "tholepin/tholepinlaw17.EpochNext", spec := "epochNext", apart := false, narrowed := true }
def EpochNextUptoSaid : Prop := epochNextUptoRow.holds Try.pinned (OpenSpec.upto epochNextSpec)

/-- 'tholepinlaw17.EpochAdmits', WHERE WHAT IT READS IS OF BULK AT MOST 1048576: true; the input reads as it did. -/
def epochAdmitsUptoRow : OpenClaim := { program := "ytpilpkhgoonfaaa", sum := "0acd1694f6c9aea46818cc7ddd6d963bf8457b87813fa9ec09ff64c2d064fd86", func := "tholepin/tholepinlaw17.EpochAdmits", spec := "epochAdmits", apart := false, narrowed := true }
def EpochAdmitsUptoSaid : Prop := epochAdmitsUptoRow.holds Try.pinned (OpenSpec.upto epochAdmitsSpec)

end Rows
end Go.Proofs.Ytpilpkhgoonfaaa
