/-
  No cell of these rows narrows 'for every input' (looked for: loops, veiled, ifaces, maps, wideKeys, modest, calm, conditions, laid).
  DERIVED. THE GIVEN ROWS OF THIS SEAT. 4 by the template 'for every input the law returns true; each argument reads behind the call as it read before'; 0 by the template 'total and deterministic' (their statements: YtklkflfdianbpaaTotals.lean).
  GIVEN WITH THE SEED: the statements are not yours to turn. If you find one false, say at which input.
  Laid BY PROGRAM, IN A SANDBOX (cutbox-rows.mjs): the forced cells as the released guide's own fill.sh prints them over the translation 56427f9ac727b318… (all of the seat's roots in one cut). By AI agents, Wed Nov 11 2026. No macro, syntax, notation, axiom, sorry.
-/
import Derived.Test.YtklkflfdianbpaaChecked
import GoSem.Claim
import GoSem.ClaimJoined
import GoSem.ClaimMapViews
import Derived.JoinedTies
import Derived.KernelRfl
namespace Go.Proofs.Ytklkflfdianbpaa
/- THE CELL 'sum', in the pinned program and in every row, IS THE sha256 OF THE DUMP (.gsa) THAT YtklkflfdianbpaaProg.lean LOADS. Nothing in Lean hashes anything: it is a label: what it is worth is what the hold of that sum in a sandbox is worth. -/
noncomputable def Try.pinned : Pinned := { name := "ytklkflfdianbpaa", sum := "56427f9ac727b318ce212e3a8316e5508aedc75595dce60135978cae36204e53", checked := Try.checked }
namespace Rows
def none {H : Type} : Left H := { results := [], args := [] }

/-- 'tholepinlaw12.ExpandTokens': WHATEVER THE INPUT: true; the input reads as it did. -/
def expandTokensSpec : ChangeSpec := { name := "expandTokens", fn := fun _ => fun
  | [d1, d2] => { results := [.lit (.bool true)], args := [d1, d2] }
  | _ => none }
def expandTokensRow : OpenClaim := { program := "ytklkflfdianbpaa", sum := "56427f9ac727b318ce212e3a8316e5508aedc75595dce60135978cae36204e53", func := "tholepin/tholepinlaw12.ExpandTokens", spec := "expandTokens", unfollowed := true, recurses := true, apart := false }
def ExpandTokensSaid : Prop := expandTokensRow.holds Try.pinned (OpenSpec.ofChange expandTokensSpec)

/-- ITS FALSE NEIGHBOUR: 'it returns false'. Refute it at one input. -/
def expandTokensWrong : ChangeSpec := { name := "expandTokens", fn := fun _ => fun
  | [d1, d2] => { results := [.lit (.bool false)], args := [d1, d2] }
  | _ => none }
def ExpandTokensWrongFalsely : Prop := expandTokensRow.holds Try.pinned (OpenSpec.ofChange expandTokensWrong)

/-- 'tholepinlaw12.ExpandBytes': WHATEVER THE INPUT: true; the input reads as it did. -/
def expandBytesSpec : ChangeSpec := { name := "expandBytes", fn := fun _ => fun
  | [d1, d2] => { results := [.lit (.bool true)], args := [d1, d2] }
  | _ => none }
def expandBytesRow : OpenClaim := { program := "ytklkflfdianbpaa", sum := "56427f9ac727b318ce212e3a8316e5508aedc75595dce60135978cae36204e53", func := "tholepin/tholepinlaw12.ExpandBytes", spec := "expandBytes", unfollowed := true, recurses := true, apart := false }
def ExpandBytesSaid : Prop := expandBytesRow.holds Try.pinned (OpenSpec.ofChange expandBytesSpec)

/-- ITS FALSE NEIGHBOUR: 'it returns false'. Refute it at one input. -/
def expandBytesWrong : ChangeSpec := { name := "expandBytes", fn := fun _ => fun
  | [d1, d2] => { results := [.lit (.bool false)], args := [d1, d2] }
  | _ => none }
def ExpandBytesWrongFalsely : Prop := expandBytesRow.holds Try.pinned (OpenSpec.ofChange expandBytesWrong)

/-- 'tholepinlaw12.ExpandBound': WHATEVER THE INPUT: true; the input reads as it did. -/
def expandBoundSpec : ChangeSpec := { name := "expandBound", fn := fun _ => fun
  | [d1, d2] => { results := [.lit (.bool true)], args := [d1, d2] }
  | _ => none }
def expandBoundRow : OpenClaim := { program := "ytklkflfdianbpaa", sum := "56427f9ac727b318ce212e3a8316e5508aedc75595dce60135978cae36204e53", func := "tholepin/tholepinlaw12.ExpandBound", spec := "expandBound", unfollowed := true, recurses := true, apart := false }
def ExpandBoundSaid : Prop := expandBoundRow.holds Try.pinned (OpenSpec.ofChange expandBoundSpec)

/-- ITS FALSE NEIGHBOUR: 'it returns false'. Refute it at one input. -/
def expandBoundWrong : ChangeSpec := { name := "expandBound", fn := fun _ => fun
  | [d1, d2] => { results := [.lit (.bool false)], args := [d1, d2] }
  | _ => none }
def ExpandBoundWrongFalsely : Prop := expandBoundRow.holds Try.pinned (OpenSpec.ofChange expandBoundWrong)

/-- 'tholepinlaw12.ExpandOrigins': WHATEVER THE INPUT: true; the input reads as it did. -/
def expandOriginsSpec : ChangeSpec := { name := "expandOrigins", fn := fun _ => fun
  | [d] => { results := [.lit (.bool true)], args := [d] }
  | _ => none }
def expandOriginsRow : OpenClaim := { program := "ytklkflfdianbpaa", sum := "56427f9ac727b318ce212e3a8316e5508aedc75595dce60135978cae36204e53", func := "tholepin/tholepinlaw12.ExpandOrigins", spec := "expandOrigins", unfollowed := true, recurses := true, apart := false }
def ExpandOriginsSaid : Prop := expandOriginsRow.holds Try.pinned (OpenSpec.ofChange expandOriginsSpec)

/-- ITS FALSE NEIGHBOUR: 'it returns false'. Refute it at one input. -/
def expandOriginsWrong : ChangeSpec := { name := "expandOrigins", fn := fun _ => fun
  | [d] => { results := [.lit (.bool false)], args := [d] }
  | _ => none }
def ExpandOriginsWrongFalsely : Prop := expandOriginsRow.holds Try.pinned (OpenSpec.ofChange expandOriginsWrong)

/- THE SECOND FORM. 'bulk': how many values and letters a reading holds, each counted each time it is reached (what is shared counts as often as it is met; a slice's spare places count too). A statement '..UptoSaid' is the law's where the arguments, and the package variables that the reading takes, are together of bulk at most 1048576: NARROWER than '..Said'. Prove '..Said' where nothing that the law and all that it calls make is longer than what came in: it says more and counts as full. Else prove '..UptoSaid'. A law counts once. -/
mutual
def uptoBulk {H : Type} : DataW H → Nat
  | .lit (.string bytes) => bytes.length + 1
  | .lit _ => 1
  | .nil => 1
  | .ptr d => uptoBulk d + 1
  | .slice elems spare => uptoBulkAll elems + uptoBulkAll spare + 1
  | .agg parts => uptoBulkAll parts + 1
  | .iface _ d => uptoBulk d + 1
  | .map entries => uptoBulkEntries entries + 1
  | .held _ => 1
def uptoBulkAll {H : Type} : List (DataW H) → Nat
  | [] => 0
  | d :: r => uptoBulk d + uptoBulkAll r
def uptoBulkEntries {H : Type} : List (Lit × DataW H) → Nat
  | [] => 0
  | x :: r => uptoBulkEntry x + uptoBulkEntries r
def uptoBulkEntry {H : Type} : Lit × DataW H → Nat
  | (.string bytes, d) => bytes.length + uptoBulk d + 1
  | (_, d) => uptoBulk d + 1
 end
def uptoSmall : (H : Type) → List (DataW H) → Bool := fun _ ds => decide (uptoBulkAll ds ≤ 1048576)
def OpenSpec.upto (s : _root_.Go.ChangeSpec) : _root_.Go.OpenSpec := { _root_.Go.OpenSpec.ofChange s with cond := some uptoSmall }

/-- 'tholepinlaw12.ExpandTokens', WHERE WHAT IT READS IS OF BULK AT MOST 1048576: true; the input reads as it did. -/
def expandTokensUptoRow : OpenClaim := { program := "ytklkflfdianbpaa", sum := "56427f9ac727b318ce212e3a8316e5508aedc75595dce60135978cae36204e53", func := "tholepin/tholepinlaw12.ExpandTokens", spec := "expandTokens", unfollowed := true, recurses := true, apart := false, narrowed := true }
def ExpandTokensUptoSaid : Prop := expandTokensUptoRow.holds Try.pinned (OpenSpec.upto expandTokensSpec)

/-- 'tholepinlaw12.ExpandBytes', WHERE WHAT IT READS IS OF BULK AT MOST 1048576: true; the input reads as it did. -/
def expandBytesUptoRow : OpenClaim := { program := "ytklkflfdianbpaa", sum := "56427f9ac727b318ce212e3a8316e5508aedc75595dce60135978cae36204e53", func := "tholepin/tholepinlaw12.ExpandBytes", spec := "expandBytes", unfollowed := true, recurses := true, apart := false, narrowed := true }
def ExpandBytesUptoSaid : Prop := expandBytesUptoRow.holds Try.pinned (OpenSpec.upto expandBytesSpec)

/-- 'tholepinlaw12.ExpandBound', WHERE WHAT IT READS IS OF BULK AT MOST 1048576: true; the input reads as it did. -/
def expandBoundUptoRow : OpenClaim := { program := "ytklkflfdianbpaa", sum := "56427f9ac727b318ce212e3a8316e5508aedc75595dce60135978cae36204e53", func := "tholepin/tholepinlaw12.ExpandBound", spec := "expandBound", unfollowed := true, recurses := true, apart := false, narrowed := true }
def ExpandBoundUptoSaid : Prop := expandBoundUptoRow.holds Try.pinned (OpenSpec.upto expandBoundSpec)

/-- 'tholepinlaw12.ExpandOrigins', WHERE WHAT IT READS IS OF BULK AT MOST 1048576: true; the input reads as it did. -/
def expandOriginsUptoRow : OpenClaim := { program := "ytklkflfdianbpaa", sum := "56427f9ac727b318ce212e3a8316e5508aedc75595dce60135978cae36204e53", func := "tholepin/tholepinlaw12.ExpandOrigins", spec := "expandOrigins", unfollowed := true, recurses := true, apart := false, narrowed := true }
def ExpandOriginsUptoSaid : Prop := expandOriginsUptoRow.holds Try.pinned (OpenSpec.upto expandOriginsSpec)

end Rows
end Go.Proofs.Ytklkflfdianbpaa
