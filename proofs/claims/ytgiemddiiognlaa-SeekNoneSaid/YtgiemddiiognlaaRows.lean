/-
  No cell of these rows narrows 'for every input' (looked for: loops, veiled, ifaces, maps, wideKeys, modest, calm, conditions, laid).
  DERIVED. THE GIVEN ROWS OF THIS SEAT. 3 by the template 'for every input the law returns true; each argument reads behind the call as it read before'; 0 by the template 'total and deterministic' (their statements: YtgiemddiiognlaaTotals.lean).
  GIVEN WITH THE SEED: the statements are not yours to turn. If you find one false, say at which input.
  Laid BY PROGRAM, IN A SANDBOX (cutbox-rows.mjs): the forced cells as the released guide's own fill.sh prints them over the translation fdf019e5817079fc… (all of the seat's roots in one cut). By AI agents, Wed Nov 11 2026. No macro, syntax, notation, axiom, sorry.
-/
import Derived.Test.YtgiemddiiognlaaChecked
import GoSem.Claim
import GoSem.ClaimJoined
import GoSem.ClaimMapViews
import Derived.JoinedTies
import Derived.KernelRfl
namespace Go.Proofs.Ytgiemddiiognlaa
/- THE CELL 'sum', in the pinned program and in every row, IS THE sha256 OF THE DUMP (.gsa) THAT YtgiemddiiognlaaProg.lean LOADS. Nothing in Lean hashes anything: it is a label: what it is worth is what the hold of that sum in a sandbox is worth. -/
noncomputable def Try.pinned : Pinned := { name := "ytgiemddiiognlaa", sum := "fdf019e5817079fcccf8f26d227f5639142a0cf9d7af7b1296f1b16eb1d9d407", checked := Try.checked }
namespace Rows
def none {H : Type} : Left H := { results := [], args := [] }

/-- 'tholepinlaw14.SeekMatches': WHATEVER THE INPUT: true; the input reads as it did. -/
def seekMatchesSpec : ChangeSpec := { name := "seekMatches", fn := fun _ => fun
  | [d1, d2, d3] => { results := [.lit (.bool true)], args := [d1, d2, d3] }
  | _ => none }
def seekMatchesRow : OpenClaim := { program := "ytgiemddiiognlaa", sum := "fdf019e5817079fcccf8f26d227f5639142a0cf9d7af7b1296f1b16eb1d9d407", func := "tholepin/tholepinlaw14.SeekMatches", spec := "seekMatches", unfollowed := true, recurses := true, apart := false }
def SeekMatchesSaid : Prop := seekMatchesRow.holds Try.pinned (OpenSpec.ofChange seekMatchesSpec)

/-- ITS FALSE NEIGHBOUR: 'it returns false'. Refute it at one input. -/
def seekMatchesWrong : ChangeSpec := { name := "seekMatches", fn := fun _ => fun
  | [d1, d2, d3] => { results := [.lit (.bool false)], args := [d1, d2, d3] }
  | _ => none }
def SeekMatchesWrongFalsely : Prop := seekMatchesRow.holds Try.pinned (OpenSpec.ofChange seekMatchesWrong)

/-- 'tholepinlaw14.SeekNone': WHATEVER THE INPUT: true; the input reads as it did. -/
def seekNoneSpec : ChangeSpec := { name := "seekNone", fn := fun _ => fun
  | [d1, d2] => { results := [.lit (.bool true)], args := [d1, d2] }
  | _ => none }
def seekNoneRow : OpenClaim := { program := "ytgiemddiiognlaa", sum := "fdf019e5817079fcccf8f26d227f5639142a0cf9d7af7b1296f1b16eb1d9d407", func := "tholepin/tholepinlaw14.SeekNone", spec := "seekNone", unfollowed := true, recurses := true, apart := false }
def SeekNoneSaid : Prop := seekNoneRow.holds Try.pinned (OpenSpec.ofChange seekNoneSpec)

/-- ITS FALSE NEIGHBOUR: 'it returns false'. Refute it at one input. -/
def seekNoneWrong : ChangeSpec := { name := "seekNone", fn := fun _ => fun
  | [d1, d2] => { results := [.lit (.bool false)], args := [d1, d2] }
  | _ => none }
def SeekNoneWrongFalsely : Prop := seekNoneRow.holds Try.pinned (OpenSpec.ofChange seekNoneWrong)

/-- 'tholepinlaw14.SeekGoes': WHATEVER THE INPUT: true; the input reads as it did. -/
def seekGoesSpec : ChangeSpec := { name := "seekGoes", fn := fun _ => fun
  | [d1, d2] => { results := [.lit (.bool true)], args := [d1, d2] }
  | _ => none }
def seekGoesRow : OpenClaim := { program := "ytgiemddiiognlaa", sum := "fdf019e5817079fcccf8f26d227f5639142a0cf9d7af7b1296f1b16eb1d9d407", func := "tholepin/tholepinlaw14.SeekGoes", spec := "seekGoes", unfollowed := true, recurses := true, apart := false }
def SeekGoesSaid : Prop := seekGoesRow.holds Try.pinned (OpenSpec.ofChange seekGoesSpec)

/-- ITS FALSE NEIGHBOUR: 'it returns false'. Refute it at one input. -/
def seekGoesWrong : ChangeSpec := { name := "seekGoes", fn := fun _ => fun
  | [d1, d2] => { results := [.lit (.bool false)], args := [d1, d2] }
  | _ => none }
def SeekGoesWrongFalsely : Prop := seekGoesRow.holds Try.pinned (OpenSpec.ofChange seekGoesWrong)

/- THE SECOND FORM. 'bulk': how many values and letters a reading holds, each counted each time it is reached (what is shared counts as often as it is met; a slice's spare places count too). A statement '..UptoSaid' is the law's where the arguments, and the package variables that the reading takes, are together of bulk at most 1048576: NARROWER than '..Said'. Prove '..Said' where nothing that the law and all that it calls make is longer than what came in: it says more and counts as full. Else prove '..UptoSaid'. A law counts once. -/
mutual
def uptoBulk {H : Type} : DataW H → Nat
  | .lit (.string bytes) => bytes.length + 1
  | .lit _ => 1
  | .nil => 1
  | .ptr d => uptoBulk d + 1
  | .slice elems spare => uptoBulkAll elems + uptoBulkAll spare + 1
  | .agg parts => uptoBulkAll parts + 1
  | .iface _ d => uptoBulk d + 1
  | .map entries => uptoBulkEntries entries + 1
  | .held _ => 1
def uptoBulkAll {H : Type} : List (DataW H) → Nat
  | [] => 0
  | d :: r => uptoBulk d + uptoBulkAll r
def uptoBulkEntries {H : Type} : List (Lit × DataW H) → Nat
  | [] => 0
  | x :: r => uptoBulkEntry x + uptoBulkEntries r
def uptoBulkEntry {H : Type} : Lit × DataW H → Nat
  | (.string bytes, d) => bytes.length + uptoBulk d + 1
  | (_, d) => uptoBulk d + 1
 end
def uptoSmall : (H : Type) → List (DataW H) → Bool := fun _ ds => decide (uptoBulkAll ds ≤ 1048576)
def OpenSpec.upto (s : _root_.Go.ChangeSpec) : _root_.Go.OpenSpec := { _root_.Go.OpenSpec.ofChange s with cond := some uptoSmall }

/-- 'tholepinlaw14.SeekMatches', WHERE WHAT IT READS IS OF BULK AT MOST 1048576: true; the input reads as it did. -/
def seekMatchesUptoRow : OpenClaim := { program := "ytgiemddiiognlaa", sum := "fdf019e5817079fcccf8f26d227f5639142a0cf9d7af7b1296f1b16eb1d9d407", func := "tholepin/tholepinlaw14.SeekMatches", spec := "seekMatches", unfollowed := true, recurses := true, apart := false, narrowed := true }
def SeekMatchesUptoSaid : Prop := seekMatchesUptoRow.holds Try.pinned (OpenSpec.upto seekMatchesSpec)

/-- 'tholepinlaw14.SeekNone', WHERE WHAT IT READS IS OF BULK AT MOST 1048576: true; the input reads as it did. -/
def seekNoneUptoRow : OpenClaim := { program := "ytgiemddiiognlaa", sum := "fdf019e5817079fcccf8f26d227f5639142a0cf9d7af7b1296f1b16eb1d9d407", func := "tholepin/tholepinlaw14.SeekNone", spec := "seekNone", unfollowed := true, recurses := true, apart := false, narrowed := true }
def SeekNoneUptoSaid : Prop := seekNoneUptoRow.holds Try.pinned (OpenSpec.upto seekNoneSpec)

/-- 'tholepinlaw14.SeekGoes', WHERE WHAT IT READS IS OF BULK AT MOST 1048576: true; the input reads as it did. -/
def seekGoesUptoRow : OpenClaim := { program := "ytgiemddiiognlaa", sum := "fdf019e5817079fcccf8f26d227f5639142a0cf9d7af7b1296f1b16eb1d9d407", func := "tholepin/tholepinlaw14.SeekGoes", spec := "seekGoes", unfollowed := true, recurses := true, apart := false, narrowed := true }
def SeekGoesUptoSaid : Prop := seekGoesUptoRow.holds Try.pinned (OpenSpec.upto seekGoesSpec)

end Rows
end Go.Proofs.Ytgiemddiiognlaa
