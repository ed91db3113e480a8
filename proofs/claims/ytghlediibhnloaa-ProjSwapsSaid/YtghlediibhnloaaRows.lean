/-
  No cell of these rows narrows 'for every input' (looked for: loops, veiled, ifaces, maps, wideKeys, modest, calm, conditions, laid).
  DERIVED. THE GIVEN ROWS OF THIS SEAT. 4 by the template 'for every input the law returns true; each argument reads behind the call as it read before'; 0 by the template 'total and deterministic' (their statements: YtghlediibhnloaaTotals.lean).
  GIVEN WITH THE SEED: the statements are not yours to turn. If you find one false, say at which input.
  Laid BY PROGRAM, IN A SANDBOX (cutbox-rows.mjs): the forced cells as the released guide's own fill.sh prints them over the translation ca2128689bdadead… (all of the seat's roots in one cut). By AI agents, Wed Nov 11 2026. No macro, syntax, notation, axiom, sorry.
-/
import Derived.Test.YtghlediibhnloaaChecked
import GoSem.Claim
import GoSem.ClaimJoined
import GoSem.ClaimMapViews
import Derived.JoinedTies
import Derived.KernelRfl
namespace Go.Proofs.Ytghlediibhnloaa
/- THE CELL 'sum', in the pinned program and in every row, IS THE sha256 OF THE DUMP (.gsa) THAT YtghlediibhnloaaProg.lean LOADS. Nothing in Lean hashes anything: it is a label: what it is worth is what the hold of that sum in a sandbox is worth. -/
noncomputable def Try.pinned : Pinned := { name := "ytghlediibhnloaa", sum := "ca2128689bdadeadca83bbe9aba210e7eb0c581efdd60d87d76e3753837dda56", checked := Try.checked }
namespace Rows
def none {H : Type} : Left H := { results := [], args := [] }

/-- 'tholepinlaw20.ProjWrites': WHATEVER THE INPUT: true; the input reads as it did. -/
def projWritesSpec : ChangeSpec := { name := "projWrites", fn := fun _ => fun
  | [d1, d2, d3] => { results := [.lit (.bool true)], args := [d1, d2, d3] }
  | _ => none }
def projWritesRow : OpenClaim := { program := "ytghlediibhnloaa", sum := "ca2128689bdadeadca83bbe9aba210e7eb0c581efdd60d87d76e3753837dda56", func := "tholepin/tholepinlaw20.ProjWrites", spec := "projWrites", unfollowed := true, recurses := true, apart := false }
def ProjWritesSaid : Prop := projWritesRow.holds Try.pinned (OpenSpec.ofChange projWritesSpec)

/-- ITS FALSE NEIGHBOUR: 'it returns false'. Refute it at one input. -/
def projWritesWrong : ChangeSpec := { name := "projWrites", fn := fun _ => fun
  | [d1, d2, d3] => { results := [.lit (.bool false)], args := [d1, d2, d3] }
  | _ => none }
def ProjWritesWrongFalsely : Prop := projWritesRow.holds Try.pinned (OpenSpec.ofChange projWritesWrong)

/-- 'tholepinlaw20.ProjReads': WHATEVER THE INPUT: true; the input reads as it did. -/
def projReadsSpec : ChangeSpec := { name := "projReads", fn := fun _ => fun
  | [d] => { results := [.lit (.bool true)], args := [d] }
  | _ => none }
def projReadsRow : OpenClaim := { program := "ytghlediibhnloaa", sum := "ca2128689bdadeadca83bbe9aba210e7eb0c581efdd60d87d76e3753837dda56", func := "tholepin/tholepinlaw20.ProjReads", spec := "projReads", unfollowed := true, recurses := true, apart := false }
def ProjReadsSaid : Prop := projReadsRow.holds Try.pinned (OpenSpec.ofChange projReadsSpec)

/-- ITS FALSE NEIGHBOUR: 'it returns false'. Refute it at one input. -/
def projReadsWrong : ChangeSpec := { name := "projReads", fn := fun _ => fun
  | [d] => { results := [.lit (.bool false)], args := [d] }
  | _ => none }
def ProjReadsWrongFalsely : Prop := projReadsRow.holds Try.pinned (OpenSpec.ofChange projReadsWrong)

/-- 'tholepinlaw20.ProjGrows': WHATEVER THE INPUT: true; the input reads as it did. -/
def projGrowsSpec : ChangeSpec := { name := "projGrows", fn := fun _ => fun
  | [d1, d2, d3] => { results := [.lit (.bool true)], args := [d1, d2, d3] }
  | _ => none }
def projGrowsRow : OpenClaim := { program := "ytghlediibhnloaa", sum := "ca2128689bdadeadca83bbe9aba210e7eb0c581efdd60d87d76e3753837dda56", func := "tholepin/tholepinlaw20.ProjGrows", spec := "projGrows", unfollowed := true, recurses := true, apart := false }
def ProjGrowsSaid : Prop := projGrowsRow.holds Try.pinned (OpenSpec.ofChange projGrowsSpec)

/-- ITS FALSE NEIGHBOUR: 'it returns false'. Refute it at one input. -/
def projGrowsWrong : ChangeSpec := { name := "projGrows", fn := fun _ => fun
  | [d1, d2, d3] => { results := [.lit (.bool false)], args := [d1, d2, d3] }
  | _ => none }
def ProjGrowsWrongFalsely : Prop := projGrowsRow.holds Try.pinned (OpenSpec.ofChange projGrowsWrong)

/-- 'tholepinlaw20.ProjSwaps': WHATEVER THE INPUT: true; the input reads as it did. -/
def projSwapsSpec : ChangeSpec := { name := "projSwaps", fn := fun _ => fun
  | [d1, d2, d3] => { results := [.lit (.bool true)], args := [d1, d2, d3] }
  | _ => none }
def projSwapsRow : OpenClaim := { program := "ytghlediibhnloaa", sum := "ca2128689bdadeadca83bbe9aba210e7eb0c581efdd60d87d76e3753837dda56", func := "tholepin/tholepinlaw20.ProjSwaps", spec := "projSwaps", unfollowed := true, recurses := true, apart := false }
def ProjSwapsSaid : Prop := projSwapsRow.holds Try.pinned (OpenSpec.ofChange projSwapsSpec)

/-- ITS FALSE NEIGHBOUR: 'it returns false'. Refute it at one input. -/
def projSwapsWrong : ChangeSpec := { name := "projSwaps", fn := fun _ => fun
  | [d1, d2, d3] => { results := [.lit (.bool false)], args := [d1, d2, d3] }
  | _ => none }
def ProjSwapsWrongFalsely : Prop := projSwapsRow.holds Try.pinned (OpenSpec.ofChange projSwapsWrong)

/- THE SECOND FORM. 'bulk': how many values and letters a reading holds, each counted each time it is reached (what is shared counts as often as it is met; a slice's spare places count too). A statement '..UptoSaid' is the law's where the arguments, and the package variables that the reading takes, are together of bulk at most 1048576: NARROWER than '..Said'. Prove '..Said' where nothing that the law and all that it calls make is longer than what came in: it says more and counts as full. Else prove '..UptoSaid'. A law counts once. -/
mutual
def uptoBulk {H : Type} : DataW H → Nat
  | .lit (.string bytes) => bytes.length + 1
  | .lit _ => 1
  | .nil => 1
  | .ptr d => uptoBulk d + 1
  | .slice elems spare => uptoBulkAll elems + uptoBulkAll spare + 1
  | .agg parts => uptoBulkAll parts + 1
  | .iface _ d => uptoBulk d + 1
  | .map entries => uptoBulkEntries entries + 1
  | .held _ => 1
def uptoBulkAll {H : Type} : List (DataW H) → Nat
  | [] => 0
  | d :: r => uptoBulk d + uptoBulkAll r
def uptoBulkEntries {H : Type} : List (Lit × DataW H) → Nat
  | [] => 0
  | x :: r => uptoBulkEntry x + uptoBulkEntries r
def uptoBulkEntry {H : Type} : Lit × DataW H → Nat
  | (.string bytes, d) => bytes.length + uptoBulk d + 1
  | (_, d) => uptoBulk d + 1
 end
def uptoSmall : (H : Type) → List (DataW H) → Bool := fun _ ds => decide (uptoBulkAll ds ≤ 1048576)
def OpenSpec.upto (s : _root_.Go.ChangeSpec) : _root_.Go.OpenSpec := { _root_.Go.OpenSpec.ofChange s with cond := some uptoSmall }

/-- 'tholepinlaw20.ProjWrites', WHERE WHAT IT READS IS OF BULK AT MOST 1048576: true; the input reads as it did. -/
def projWritesUptoRow : OpenClaim := { program := "ytghlediibhnloaa", sum := "ca2128689bdadeadca83bbe9aba210e7eb0c581efdd60d87d76e3753837dda56", func := "tholepin/tholepinlaw20.ProjWrites", spec := "projWrites", unfollowed := true, recurses := true, apart := false, narrowed := true }
def ProjWritesUptoSaid : Prop := projWritesUptoRow.holds Try.pinned (OpenSpec.upto projWritesSpec)

/-- 'tholepinlaw20.ProjReads', WHERE WHAT IT READS IS OF BULK AT MOST 1048576: true; the input reads as it did. -/
def projReadsUptoRow : OpenClaim := { program := "ytghlediibhnloaa", sum := "ca2128689bdadeadca83bbe9aba210e7eb0c581efdd60d87d76e3753837dda56", func := "tholepin/tholepinlaw20.ProjReads", spec := "projReads", unfollowed := true, recurses := true, apart := false, narrowed := true }
def ProjReadsUptoSaid : Prop := projReadsUptoRow.holds Try.pinned (OpenSpec.upto projReadsSpec)

/-- 'tholepinlaw20.ProjGrows', WHERE WHAT IT READS IS OF BULK AT MOST 1048576: true; the input reads as it did. -/
def projGrowsUptoRow : OpenClaim := { program := "ytghlediibhnloaa", sum := "ca2128689bdadeadca83bbe9aba210e7eb0c581efdd60d87d76e3753837dda56", func := "tholepin/tholepinlaw20.ProjGrows", spec := "projGrows", unfollowed := true, recurses := true, apart := false, narrowed := true }
def ProjGrowsUptoSaid : Prop := projGrowsUptoRow.holds Try.pinned (OpenSpec.upto projGrowsSpec)

/-- 'tholepinlaw20.ProjSwaps', WHERE WHAT IT READS IS OF BULK AT MOST 1048576: true; the input reads as it did. -/
def projSwapsUptoRow : OpenClaim := { program := "ytghlediibhnloaa", sum := "ca2128689bdadeadca83bbe9aba210e7eb0c581efdd60d87d76e3753837dda56", func := "tholepin/tholepinlaw20.ProjSwaps", spec := "projSwaps", unfollowed := true, recurses := true, apart := false, narrowed := true }
def ProjSwapsUptoSaid : Prop := projSwapsUptoRow.holds Try.pinned (OpenSpec.upto projSwapsSpec)

end Rows
end Go.Proofs.Ytghlediibhnloaa
