/-
  No cell of these rows narrows 'for every input' (looked for: loops, veiled, ifaces, maps, wideKeys, modest, calm, conditions, laid).
  DERIVED. THE GIVEN ROWS OF THIS SEAT. 5 by the template 'for every input the law returns true; each argument reads behind the call as it read before'; 0 by the template 'total and deterministic' (their statements: YtmflnnfgkcmlhaaTotals.lean).
  GIVEN WITH THE SEED: the statements are not yours to turn. If you find one false, say at which input.
  Laid BY PROGRAM, IN A SANDBOX (cutbox-rows.mjs): the forced cells as the released guide's own fill.sh prints them over the translation 7a2e17c5e2c65d56… (all of the seat's roots in one cut). By AI agents, Wed Nov 11 2026. No macro, syntax, notation, axiom, sorry.
-/
import Derived.Test.YtmflnnfgkcmlhaaChecked
import GoSem.Claim
import GoSem.ClaimJoined
import GoSem.ClaimMapViews
import Derived.JoinedTies
import Derived.KernelRfl
namespace Go.Proofs.Ytmflnnfgkcmlhaa
/- THE CELL 'sum', in the pinned program and in every row, IS THE sha256 OF THE DUMP (.gsa) THAT YtmflnnfgkcmlhaaProg.lean LOADS. Nothing in Lean hashes anything: it is a label: what it is worth is what the hold of that sum in a sandbox is worth. -/
noncomputable def Try.pinned : Pinned := { name := "ytmflnnfgkcmlhaa", sum := "7a2e17c5e2c65d5684431bed9ffb04110ffdc0f8db85ea604ed6ee5d67ea8e08", checked := Try.checked }
namespace Rows
def none {H : Type} : Left H := { results := [], args := [] }

/-- 'tholepinlaw15.PressTokens': WHATEVER THE INPUT: true; the input reads as it did. -/
def pressTokensSpec : ChangeSpec := { name := "pressTokens", fn := fun _ => fun
  | [d] => { results := [.lit (.bool true)], args := [d] }
  | _ => none }
def pressTokensRow : OpenClaim := { program := "ytmflnnfgkcmlhaa", sum := "7a2e17c5e2c65d5684431bed9ffb04110ffdc0f8db85ea604ed6ee5d67ea8e08", func := "tholepin/tholepinlaw15.PressTokens", spec := "pressTokens", unfollowed := true, recurses := true, apart := false }
def PressTokensSaid : Prop := pressTokensRow.holds Try.pinned (OpenSpec.ofChange pressTokensSpec)

/-- ITS FALSE NEIGHBOUR: 'it returns false'. Refute it at one input. -/
def pressTokensWrong : ChangeSpec := { name := "pressTokens", fn := fun _ => fun
  | [d] => { results := [.lit (.bool false)], args := [d] }
  | _ => none }
def PressTokensWrongFalsely : Prop := pressTokensRow.holds Try.pinned (OpenSpec.ofChange pressTokensWrong)

/-- 'tholepinlaw15.PressBack': WHATEVER THE INPUT: true; the input reads as it did. -/
def pressBackSpec : ChangeSpec := { name := "pressBack", fn := fun _ => fun
  | [d] => { results := [.lit (.bool true)], args := [d] }
  | _ => none }
def pressBackRow : OpenClaim := { program := "ytmflnnfgkcmlhaa", sum := "7a2e17c5e2c65d5684431bed9ffb04110ffdc0f8db85ea604ed6ee5d67ea8e08", func := "tholepin/tholepinlaw15.PressBack", spec := "pressBack", unfollowed := true, recurses := true, apart := false }
def PressBackSaid : Prop := pressBackRow.holds Try.pinned (OpenSpec.ofChange pressBackSpec)

/-- ITS FALSE NEIGHBOUR: 'it returns false'. Refute it at one input. -/
def pressBackWrong : ChangeSpec := { name := "pressBack", fn := fun _ => fun
  | [d] => { results := [.lit (.bool false)], args := [d] }
  | _ => none }
def PressBackWrongFalsely : Prop := pressBackRow.holds Try.pinned (OpenSpec.ofChange pressBackWrong)

/-- 'tholepinlaw15.PressChecks': WHATEVER THE INPUT: true; the input reads as it did. -/
def pressChecksSpec : ChangeSpec := { name := "pressChecks", fn := fun _ => fun
  | [d1, d2, d3] => { results := [.lit (.bool true)], args := [d1, d2, d3] }
  | _ => none }
def pressChecksRow : OpenClaim := { program := "ytmflnnfgkcmlhaa", sum := "7a2e17c5e2c65d5684431bed9ffb04110ffdc0f8db85ea604ed6ee5d67ea8e08", func := "tholepin/tholepinlaw15.PressChecks", spec := "pressChecks", unfollowed := true, recurses := true, apart := false }
def PressChecksSaid : Prop := pressChecksRow.holds Try.pinned (OpenSpec.ofChange pressChecksSpec)

/-- ITS FALSE NEIGHBOUR: 'it returns false'. Refute it at one input. -/
def pressChecksWrong : ChangeSpec := { name := "pressChecks", fn := fun _ => fun
  | [d1, d2, d3] => { results := [.lit (.bool false)], args := [d1, d2, d3] }
  | _ => none }
def PressChecksWrongFalsely : Prop := pressChecksRow.holds Try.pinned (OpenSpec.ofChange pressChecksWrong)

/-- 'tholepinlaw15.PressLongest': WHATEVER THE INPUT: true; the input reads as it did. -/
def pressLongestSpec : ChangeSpec := { name := "pressLongest", fn := fun _ => fun
  | [d] => { results := [.lit (.bool true)], args := [d] }
  | _ => none }
def pressLongestRow : OpenClaim := { program := "ytmflnnfgkcmlhaa", sum := "7a2e17c5e2c65d5684431bed9ffb04110ffdc0f8db85ea604ed6ee5d67ea8e08", func := "tholepin/tholepinlaw15.PressLongest", spec := "pressLongest", unfollowed := true, recurses := true, apart := false }
def PressLongestSaid : Prop := pressLongestRow.holds Try.pinned (OpenSpec.ofChange pressLongestSpec)

/-- ITS FALSE NEIGHBOUR: 'it returns false'. Refute it at one input. -/
def pressLongestWrong : ChangeSpec := { name := "pressLongest", fn := fun _ => fun
  | [d] => { results := [.lit (.bool false)], args := [d] }
  | _ => none }
def PressLongestWrongFalsely : Prop := pressLongestRow.holds Try.pinned (OpenSpec.ofChange pressLongestWrong)

/-- 'tholepinlaw15.PressLeast': WHATEVER THE INPUT: true; the input reads as it did. -/
def pressLeastSpec : ChangeSpec := { name := "pressLeast", fn := fun _ => fun
  | [d] => { results := [.lit (.bool true)], args := [d] }
  | _ => none }
def pressLeastRow : OpenClaim := { program := "ytmflnnfgkcmlhaa", sum := "7a2e17c5e2c65d5684431bed9ffb04110ffdc0f8db85ea604ed6ee5d67ea8e08", func := "tholepin/tholepinlaw15.PressLeast", spec := "pressLeast", unfollowed := true, recurses := true, apart := false }
def PressLeastSaid : Prop := pressLeastRow.holds Try.pinned (OpenSpec.ofChange pressLeastSpec)

/-- ITS FALSE NEIGHBOUR: 'it returns false'. Refute it at one input. -/
def pressLeastWrong : ChangeSpec := { name := "pressLeast", fn := fun _ => fun
  | [d] => { results := [.lit (.bool false)], args := [d] }
  | _ => none }
def PressLeastWrongFalsely : Prop := pressLeastRow.holds Try.pinned (OpenSpec.ofChange pressLeastWrong)

/- THE SECOND FORM. 'bulk': how many values and letters a reading holds, each counted each time it is reached (what is shared counts as often as it is met; a slice's spare places count too). A statement '..UptoSaid' is the law's where the arguments, and the package variables that the reading takes, are together of bulk at most 1048576: NARROWER than '..Said'. Prove '..Said' where nothing that the law and all that it calls make is longer than what came in: it says more and counts as full. Else prove '..UptoSaid'. A law counts once. -/
mutual
def uptoBulk {H : Type} : DataW H → Nat
  | .lit (.string bytes) => bytes.length + 1
  | .lit _ => 1
  | .nil => 1
  | .ptr d => uptoBulk d + 1
  | .slice elems spare => uptoBulkAll elems + uptoBulkAll spare + 1
  | .agg parts => uptoBulkAll parts + 1
  | .iface _ d => uptoBulk d + 1
  | .map entries => uptoBulkEntries entries + 1
  | .held _ => 1
def uptoBulkAll {H : Type} : List (DataW H) → Nat
  | [] => 0
  | d :: r => uptoBulk d + uptoBulkAll r
def uptoBulkEntries {H : Type} : List (Lit × DataW H) → Nat
  | [] => 0
  | x :: r => uptoBulkEntry x + uptoBulkEntries r
def uptoBulkEntry {H : Type} : Lit × DataW H → Nat
  | (.string bytes, d) => bytes.length + uptoBulk d + 1
  | (_, d) => uptoBulk d + 1
 end
def uptoSmall : (H : Type) → List (DataW H) → Bool := fun _ ds => decide (uptoBulkAll ds ≤ 1048576)
def OpenSpec.upto (s : _root_.Go.ChangeSpec) : _root_.Go.OpenSpec := { _root_.Go.OpenSpec.ofChange s with cond := some uptoSmall }

/-- 'tholepinlaw15.PressTokens', WHERE WHAT IT READS IS OF BULK AT MOST 1048576: true; the input reads as it did. -/
def pressTokensUptoRow : OpenClaim := { program := "ytmflnnfgkcmlhaa", sum := "7a2e17c5e2c65d5684431bed9ffb04110ffdc0f8db85ea604ed6ee5d67ea8e08", func := "tholepin/tholepinlaw15.PressTokens", spec := "pressTokens", unfollowed := true, recurses := true, apart := false, narrowed := true }
def PressTokensUptoSaid : Prop := pressTokensUptoRow.holds Try.pinned (OpenSpec.upto pressTokensSpec)

/-- 'tholepinlaw15.PressBack', WHERE WHAT IT READS IS OF BULK AT MOST 1048576: true; the input reads as it did. -/
def pressBackUptoRow : OpenClaim := { program := "ytmflnnfgkcmlhaa", sum := "7a2e17c5e2c65d5684431bed9ffb04110ffdc0f8db85ea604ed6ee5d67ea8e08", func := "tholepin/tholepinlaw15.PressBack", spec := "pressBack", unfollowed := true, recurses := true, apart := false, narrowed := true }
def PressBackUptoSaid : Prop := pressBackUptoRow.holds Try.pinned (OpenSpec.upto pressBackSpec)

/-- 'tholepinlaw15.PressChecks', WHERE WHAT IT READS IS OF BULK AT MOST 1048576: true; the input reads as it did. -/
def pressChecksUptoRow : OpenClaim := { program := "ytmflnnfgkcmlhaa", sum := "7a2e17c5e2c65d5684431bed9ffb04110ffdc0f8db85ea604ed6ee5d67ea8e08", func := "tholepin/tholepinlaw15.PressChecks", spec := "pressChecks", unfollowed := true, recurses := true, apart := false, narrowed := true }
def PressChecksUptoSaid : Prop := pressChecksUptoRow.holds Try.pinned (OpenSpec.upto pressChecksSpec)

/-- 'tholepinlaw15.PressLongest', WHERE WHAT IT READS IS OF BULK AT MOST 1048576: true; the input reads as it did. -/
def pressLongestUptoRow : OpenClaim := { program := "ytmflnnfgkcmlhaa", sum := "7a2e17c5e2c65d5684431bed9ffb04110ffdc0f8db85ea604ed6ee5d67ea8e08", func := "tholepin/tholepinlaw15.PressLongest", spec := "pressLongest", unfollowed := true, recurses := true, apart := false, narrowed := true }
def PressLongestUptoSaid : Prop := pressLongestUptoRow.holds Try.pinned (OpenSpec.upto pressLongestSpec)

/-- 'tholepinlaw15.PressLeast', WHERE WHAT IT READS IS OF BULK AT MOST 1048576: true; the input reads as it did. -/
def pressLeastUptoRow : OpenClaim := { program := "ytmflnnfgkcmlhaa", sum := "7a2e17c5e2c65d5684431bed9ffb04110ffdc0f8db85ea604ed6ee5d67ea8e08", func := "tholepin/tholepinlaw15.PressLeast", spec := "pressLeast", unfollowed := true, recurses := true, apart := false, narrowed := true }
def PressLeastUptoSaid : Prop := pressLeastUptoRow.holds Try.pinned (OpenSpec.upto pressLeastSpec)

end Rows
end Go.Proofs.Ytmflnnfgkcmlhaa
