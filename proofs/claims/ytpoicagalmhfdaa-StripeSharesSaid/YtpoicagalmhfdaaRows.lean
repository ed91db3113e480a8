/-
  No cell of these rows narrows 'for every input' (looked for: loops, veiled, ifaces, maps, wideKeys, modest, calm, conditions, laid).
  DERIVED. THE GIVEN ROWS OF THIS SEAT. 4 by the template 'for every input the law returns true; each argument reads behind the call as it read before'; 0 by the template 'total and deterministic' (their statements: YtpoicagalmhfdaaTotals.lean).
  GIVEN WITH THE SEED: the statements are not yours to turn. If you find one false, say at which input.
  Laid BY PROGRAM, IN A SANDBOX (cutbox-rows.mjs): the forced cells as the released guide's own fill.sh prints them over the translation 501c30cd56e11a17… (all of the seat's roots in one cut). By AI agents, Wed Nov 11 2026. No macro, syntax, notation, axiom, sorry.
-/
import Derived.Test.YtpoicagalmhfdaaChecked
import GoSem.Claim
import GoSem.ClaimJoined
import GoSem.ClaimMapViews
import Derived.JoinedTies
import Derived.KernelRfl
namespace Go.Proofs.Ytpoicagalmhfdaa
/- THE CELL 'sum', in the pinned program and in every row, IS THE sha256 OF THE DUMP (.gsa) THAT YtpoicagalmhfdaaProg.lean LOADS. Nothing in Lean hashes anything: it is a label: what it is worth is what the hold of that sum in a sandbox is worth. -/
noncomputable def Try.pinned : Pinned := { name := "ytpoicagalmhfdaa", sum := "501c30cd56e11a17eb0ac3cc5f869f0913a59f458087a709cd773e7fc7b9e130", checked := Try.checked }
namespace Rows
def none {H : Type} : Left H := { results := [], args := [] }

/-- 'tholepinlaw19.StripeWrites': WHATEVER THE INPUT: true; the input reads as it did. -/
def stripeWritesSpec : ChangeSpec := { name := "stripeWrites", fn := fun _ => fun
  | [d1, d2, d3] => { results := [.lit (.bool true)], args := [d1, d2, d3] }
  | _ => none }
def stripeWritesRow : OpenClaim := { program := "ytpoicagalmhfdaa", sum := "501c30cd56e11a17eb0ac3cc5f869f0913a59f458087a709cd773e7fc7b9e130", func := "tholepin/tholepinlaw19.StripeWrites", spec := "stripeWrites", unfollowed := true, recurses := true, apart := false }
def StripeWritesSaid : Prop := stripeWritesRow.holds Try.pinned (OpenSpec.ofChange stripeWritesSpec)

/-- ITS FALSE NEIGHBOUR: 'it returns false'. Refute it at one input. -/
def stripeWritesWrong : ChangeSpec := { name := "stripeWrites", fn := fun _ => fun
  | [d1, d2, d3] => { results := [.lit (.bool false)], args := [d1, d2, d3] }
  | _ => none }
def StripeWritesWrongFalsely : Prop := stripeWritesRow.holds Try.pinned (OpenSpec.ofChange stripeWritesWrong)

/-- 'tholepinlaw19.StripeReads': WHATEVER THE INPUT: true; the input reads as it did. -/
def stripeReadsSpec : ChangeSpec := { name := "stripeReads", fn := fun _ => fun
  | [d1, d2] => { results := [.lit (.bool true)], args := [d1, d2] }
  | _ => none }
def stripeReadsRow : OpenClaim := { program := "ytpoicagalmhfdaa", sum := "501c30cd56e11a17eb0ac3cc5f869f0913a59f458087a709cd773e7fc7b9e130", func := "tholepin/tholepinlaw19.StripeReads", spec := "stripeReads", recurses := true, apart := false }
def StripeReadsSaid : Prop := stripeReadsRow.holds Try.pinned (OpenSpec.ofChange stripeReadsSpec)

/-- ITS FALSE NEIGHBOUR: 'it returns false'. Refute it at one input. -/
def stripeReadsWrong : ChangeSpec := { name := "stripeReads", fn := fun _ => fun
  | [d1, d2] => { results := [.lit (.bool false)], args := [d1, d2] }
  | _ => none }
def StripeReadsWrongFalsely : Prop := stripeReadsRow.holds Try.pinned (OpenSpec.ofChange stripeReadsWrong)

/-- 'tholepinlaw19.StripeDeals': WHATEVER THE INPUT: true; the input reads as it did. -/
def stripeDealsSpec : ChangeSpec := { name := "stripeDeals", fn := fun _ => fun
  | [d1, d2, d3] => { results := [.lit (.bool true)], args := [d1, d2, d3] }
  | _ => none }
def stripeDealsRow : OpenClaim := { program := "ytpoicagalmhfdaa", sum := "501c30cd56e11a17eb0ac3cc5f869f0913a59f458087a709cd773e7fc7b9e130", func := "tholepin/tholepinlaw19.StripeDeals", spec := "stripeDeals", recurses := true, apart := false }
def StripeDealsSaid : Prop := stripeDealsRow.holds Try.pinned (OpenSpec.ofChange stripeDealsSpec)

/-- ITS FALSE NEIGHBOUR: 'it returns false'. Refute it at one input. -/
def stripeDealsWrong : ChangeSpec := { name := "stripeDeals", fn := fun _ => fun
  | [d1, d2, d3] => { results := [.lit (.bool false)], args := [d1, d2, d3] }
  | _ => none }
def StripeDealsWrongFalsely : Prop := stripeDealsRow.holds Try.pinned (OpenSpec.ofChange stripeDealsWrong)

/-- 'tholepinlaw19.StripeShares': WHATEVER THE INPUT: true; the input reads as it did. -/
def stripeSharesSpec : ChangeSpec := { name := "stripeShares", fn := fun _ => fun
  | [d1, d2] => { results := [.lit (.bool true)], args := [d1, d2] }
  | _ => none }
def stripeSharesRow : OpenClaim := { program := "ytpoicagalmhfdaa", sum := "501c30cd56e11a17eb0ac3cc5f869f0913a59f458087a709cd773e7fc7b9e130", func := "tholepin/tholepinlaw19.StripeShares", spec := "stripeShares", recurses := true, apart := false }
def StripeSharesSaid : Prop := stripeSharesRow.holds Try.pinned (OpenSpec.ofChange stripeSharesSpec)

/-- ITS FALSE NEIGHBOUR: 'it returns false'. Refute it at one input. -/
def stripeSharesWrong : ChangeSpec := { name := "stripeShares", fn := fun _ => fun
  | [d1, d2] => { results := [.lit (.bool false)], args := [d1, d2] }
  | _ => none }
def StripeSharesWrongFalsely : Prop := stripeSharesRow.holds Try.pinned (OpenSpec.ofChange stripeSharesWrong)

/- THE SECOND FORM. 'bulk': how many values and letters a reading holds, each counted each time it is reached (what is shared counts as often as it is met; a slice's spare places count too). A statement '..UptoSaid' is the law's where the arguments, and the package variables that the reading takes, are together of bulk at most 1048576: NARROWER than '..Said'. Prove '..Said' where nothing that the law and all that it calls make is longer than what came in: it says more and counts as full. Else prove '..UptoSaid'. A law counts once. -/
mutual
def uptoBulk {H : Type} : DataW H → Nat
  | .lit (.string bytes) => bytes.length + 1
  | .lit _ => 1
  | .nil => 1
  | .ptr d => uptoBulk d + 1
  | .slice elems spare => uptoBulkAll elems + uptoBulkAll spare + 1
  | .agg parts => uptoBulkAll parts + 1
  | .iface _ d => uptoBulk d + 1
  | .map entries => uptoBulkEntries entries + 1
  | .held _ => 1
def uptoBulkAll {H : Type} : List (DataW H) → Nat
  | [] => 0
  | d :: r => uptoBulk d + uptoBulkAll r
def uptoBulkEntries {H : Type} : List (Lit × DataW H) → Nat
  | [] => 0
  | x :: r => uptoBulkEntry x + uptoBulkEntries r
def uptoBulkEntry {H : Type} : Lit × DataW H → Nat
  | (.string bytes, d) => bytes.length + uptoBulk d + 1
  | (_, d) => uptoBulk d + 1
 end
def uptoSmall : (H : Type) → List (DataW H) → Bool := fun _ ds => decide (uptoBulkAll ds ≤ 1048576)
def OpenSpec.upto (s : _root_.Go.ChangeSpec) : _root_.Go.OpenSpec := { _root_.Go.OpenSpec.ofChange s with cond := some uptoSmall }

/-- 'tholepinlaw19.StripeWrites', WHERE WHAT IT READS IS OF BULK AT MOST 1048576: true; the input reads as it did. -/
def stripeWritesUptoRow : OpenClaim := { program := "ytpoicagalmhfdaa", sum := "501c30cd56e11a17eb0ac3cc5f869f0913a59f458087a709cd773e7fc7b9e130", func := "tholepin/tholepinlaw19.StripeWrites", spec := "stripeWrites", unfollowed := true, recurses := true, apart := false, narrowed := true }
def StripeWritesUptoSaid : Prop := stripeWritesUptoRow.holds Try.pinned (OpenSpec.upto stripeWritesSpec)

/-- 'tholepinlaw19.StripeReads', WHERE WHAT IT READS IS OF BULK AT MOST 1048576: true; the input reads as it did. -/
def stripeReadsUptoRow : OpenClaim := { program := "ytpoicagalmhfdaa", sum := "501c30cd56e11a17eb0ac3cc5f869f0913a59f458087a709cd773e7fc7b9e130", func := "tholepin/tholepinlaw19.StripeReads", spec := "stripeReads", recurses := true, apart := false, narrowed := true }
def StripeReadsUptoSaid : Prop := stripeReadsUptoRow.holds Try.pinned (OpenSpec.upto stripeReadsSpec)

/-- 'tholepinlaw19.StripeDeals', WHERE WHAT IT READS IS OF BULK AT MOST 1048576: true; the input reads as it did. -/
def stripeDealsUptoRow : OpenClaim := { program := "ytpoicagalmhfdaa", sum := "501c30cd56e11a17eb0ac3cc5f869f0913a59f458087a709cd773e7fc7b9e130", func := "tholepin/tholepinlaw19.StripeDeals", spec := "stripeDeals", recurses := true, apart := false, narrowed := true }
def StripeDealsUptoSaid : Prop := stripeDealsUptoRow.holds Try.pinned (OpenSpec.upto stripeDealsSpec)

/-- 'tholepinlaw19.StripeShares', WHERE WHAT IT READS IS OF BULK AT MOST 1048576: true; the input reads as it did. -/
def stripeSharesUptoRow : OpenClaim := { program := "ytpoicagalmhfdaa", sum := "501c30cd56e11a17eb0ac3cc5f869f0913a59f458087a709cd773e7fc7b9e130", func := "tholepin/tholepinlaw19.StripeShares", spec := "stripeShares", recurses := true, apart := false, narrowed := true }
def StripeSharesUptoSaid : Prop := stripeSharesUptoRow.holds Try.pinned (OpenSpec.upto stripeSharesSpec)

end Rows
end Go.Proofs.Ytpoicagalmhfdaa
