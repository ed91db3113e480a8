/-
  No cell of these rows narrows 'for every input' (looked for: loops, veiled, ifaces, maps, wideKeys, modest, calm, conditions, laid).
  DERIVED. THE GIVEN ROWS OF THIS SEAT. 4 by the template 'for every input the law returns true; each argument reads behind the call as it read before'; 0 by the template 'total and deterministic' (their statements: YtmcabaebdloakaaTotals.lean).
  GIVEN WITH THE SEED: the statements are not yours to turn. If you find one false, say at which input.
  Laid BY PROGRAM, IN A SANDBOX (cutbox-rows.mjs): the forced cells as the released guide's own fill.sh prints them over the translation 9ec89b77842aa6eb… (all of the seat's roots in one cut). By AI agents, Wed Nov 11 2026. No macro, syntax, notation, axiom, sorry.
-/
import Derived.Test.YtmcabaebdloakaaChecked
import GoSem.Claim
import GoSem.ClaimJoined
import GoSem.ClaimMapViews
import Derived.JoinedTies
import Derived.KernelRfl
namespace Go.Proofs.Ytmcabaebdloakaa
/- THE CELL 'sum', in the pinned program and in every row, IS THE sha256 OF THE DUMP (.gsa) THAT YtmcabaebdloakaaProg.lean LOADS. Nothing in Lean hashes anything: it is a label: what it is worth is what the hold of that sum in a sandbox is worth. -/
noncomputable def Try.pinned : Pinned := { name := "ytmcabaebdloakaa", sum := "9ec89b77842aa6eb5e3d88cc46814aff617c110cfd3f36464bd34b29e482a7a1", checked := Try.checked }
namespace Rows
def none {H : Type} : Left H := { results := [], args := [] }

/-- 'tholepinlaw21.LocatePlaces': WHATEVER THE INPUT: true; the input reads as it did. -/
def locatePlacesSpec : ChangeSpec := { name := "locatePlaces", fn := fun _ => fun
  | [d1, d2] => { results := [.lit (.bool true)], args := [d1, d2] }
  | _ => none }
def locatePlacesRow : OpenClaim := { program := "ytmcabaebdloakaa", sum := "9ec89b77842aa6eb5e3d88cc46814aff617c110cfd3f36464bd34b29e482a7a1", func := "tholepin/tholepinlaw21.LocatePlaces", spec := "locatePlaces", unfollowed := true, recurses := true, apart := false }
def LocatePlacesSaid : Prop := locatePlacesRow.holds Try.pinned (OpenSpec.ofChange locatePlacesSpec)

/-- ITS FALSE NEIGHBOUR: 'it returns false'. Refute it at one input. -/
def locatePlacesWrong : ChangeSpec := { name := "locatePlaces", fn := fun _ => fun
  | [d1, d2] => { results := [.lit (.bool false)], args := [d1, d2] }
  | _ => none }
def LocatePlacesWrongFalsely : Prop := locatePlacesRow.holds Try.pinned (OpenSpec.ofChange locatePlacesWrong)

/-- 'tholepinlaw21.LocatePos': WHATEVER THE INPUT: true; the input reads as it did. -/
def locatePosSpec : ChangeSpec := { name := "locatePos", fn := fun _ => fun
  | [d1, d2, d3] => { results := [.lit (.bool true)], args := [d1, d2, d3] }
  | _ => none }
def locatePosRow : OpenClaim := { program := "ytmcabaebdloakaa", sum := "9ec89b77842aa6eb5e3d88cc46814aff617c110cfd3f36464bd34b29e482a7a1", func := "tholepin/tholepinlaw21.LocatePos", spec := "locatePos", unfollowed := true, recurses := true, apart := false }
def LocatePosSaid : Prop := locatePosRow.holds Try.pinned (OpenSpec.ofChange locatePosSpec)

/-- ITS FALSE NEIGHBOUR: 'it returns false'. Refute it at one input. -/
def locatePosWrong : ChangeSpec := { name := "locatePos", fn := fun _ => fun
  | [d1, d2, d3] => { results := [.lit (.bool false)], args := [d1, d2, d3] }
  | _ => none }
def LocatePosWrongFalsely : Prop := locatePosRow.holds Try.pinned (OpenSpec.ofChange locatePosWrong)

/-- 'tholepinlaw21.LocateCounts': WHATEVER THE INPUT: true; the input reads as it did. -/
def locateCountsSpec : ChangeSpec := { name := "locateCounts", fn := fun _ => fun
  | [d1, d2, d3] => { results := [.lit (.bool true)], args := [d1, d2, d3] }
  | _ => none }
def locateCountsRow : OpenClaim := { program := "ytmcabaebdloakaa", sum := "9ec89b77842aa6eb5e3d88cc46814aff617c110cfd3f36464bd34b29e482a7a1", func := "tholepin/tholepinlaw21.LocateCounts", spec := "locateCounts", unfollowed := true, recurses := true, apart := false }
def LocateCountsSaid : Prop := locateCountsRow.holds Try.pinned (OpenSpec.ofChange locateCountsSpec)

/-- ITS FALSE NEIGHBOUR: 'it returns false'. Refute it at one input. -/
def locateCountsWrong : ChangeSpec := { name := "locateCounts", fn := fun _ => fun
  | [d1, d2, d3] => { results := [.lit (.bool false)], args := [d1, d2, d3] }
  | _ => none }
def LocateCountsWrongFalsely : Prop := locateCountsRow.holds Try.pinned (OpenSpec.ofChange locateCountsWrong)

/-- 'tholepinlaw21.LocateMoves': WHATEVER THE INPUT: true; the input reads as it did. -/
def locateMovesSpec : ChangeSpec := { name := "locateMoves", fn := fun _ => fun
  | [d1, d2, d3] => { results := [.lit (.bool true)], args := [d1, d2, d3] }
  | _ => none }
def locateMovesRow : OpenClaim := { program := "ytmcabaebdloakaa", sum := "9ec89b77842aa6eb5e3d88cc46814aff617c110cfd3f36464bd34b29e482a7a1", func := "tholepin/tholepinlaw21.LocateMoves", spec := "locateMoves", unfollowed := true, recurses := true, apart := false }
def LocateMovesSaid : Prop := locateMovesRow.holds Try.pinned (OpenSpec.ofChange locateMovesSpec)

/-- ITS FALSE NEIGHBOUR: 'it returns false'. Refute it at one input. -/
def locateMovesWrong : ChangeSpec := { name := "locateMoves", fn := fun _ => fun
  | [d1, d2, d3] => { results := [.lit (.bool false)], args := [d1, d2, d3] }
  | _ => none }
def LocateMovesWrongFalsely : Prop := locateMovesRow.holds Try.pinned (OpenSpec.ofChange locateMovesWrong)

/- THE SECOND FORM. 'bulk': how many values and letters a reading holds, each counted each time it is reached (what is shared counts as often as it is met; a slice's spare places count too). A statement '..UptoSaid' is the law's where the arguments, and the package variables that the reading takes, are together of bulk at most 1048576: NARROWER than '..Said'. Prove '..Said' where nothing that the law and all that it calls make is longer than what came in: it says more and counts as full. Else prove '..UptoSaid'. A law counts once. -/
mutual
def uptoBulk {H : Type} : DataW H → Nat
  | .lit (.string bytes) => bytes.length + 1
  | .lit _ => 1
  | .nil => 1
  | .ptr d => uptoBulk d + 1
  | .slice elems spare => uptoBulkAll elems + uptoBulkAll spare + 1
  | .agg parts => uptoBulkAll parts + 1
  | .iface _ d => uptoBulk d + 1
  | .map entries => uptoBulkEntries entries + 1
  | .held _ => 1
def uptoBulkAll {H : Type} : List (DataW H) → Nat
  | [] => 0
  | d :: r => uptoBulk d + uptoBulkAll r
def uptoBulkEntries {H : Type} : List (Lit × DataW H) → Nat
  | [] => 0
  | x :: r => uptoBulkEntry x + uptoBulkEntries r
def uptoBulkEntry {H : Type} : Lit × DataW H → Nat
  | (.string bytes, d) => bytes.length + uptoBulk d + 1
  | (_, d) => uptoBulk d + 1
 end
def uptoSmall : (H : Type) → List (DataW H) → Bool := fun _ ds => decide (uptoBulkAll ds ≤ 1048576)
def OpenSpec.upto (s : _root_.Go.ChangeSpec) : _root_.Go.OpenSpec := { _root_.Go.OpenSpec.ofChange s with cond := some uptoSmall }

/-- 'tholepinlaw21.LocatePlaces', WHERE WHAT IT READS IS OF BULK AT MOST 1048576: true; the input reads as it did. -/
def locatePlacesUptoRow : OpenClaim := { program := "ytmcabaebdloakaa", sum := "9ec89b77842aa6eb5e3d88cc46814aff617c110cfd3f36464bd34b29e482a7a1", func := "tholepin/tholepinlaw21.LocatePlaces", spec := "locatePlaces", unfollowed := true, recurses := true, apart := false, narrowed := true }
def LocatePlacesUptoSaid : Prop := locatePlacesUptoRow.holds Try.pinned (OpenSpec.upto locatePlacesSpec)

/-- 'tholepinlaw21.LocatePos', WHERE WHAT IT READS IS OF BULK AT MOST 1048576: true; the input reads as it did. -/
def locatePosUptoRow : OpenClaim := { program := "ytmcabaebdloakaa", sum := "9ec89b77842aa6eb5e3d88cc46814aff617c110cfd3f36464bd34b29e482a7a1", func := "tholepin/tholepinlaw21.LocatePos", spec := "locatePos", unfollowed := true, recurses := true, apart := false, narrowed := true }
def LocatePosUptoSaid : Prop := locatePosUptoRow.holds Try.pinned (OpenSpec.upto locatePosSpec)

/-- 'tholepinlaw21.LocateCounts', WHERE WHAT IT READS IS OF BULK AT MOST 1048576: true; the input reads as it did. -/
def locateCountsUptoRow : OpenClaim := { program := "ytmcabaebdloakaa", sum := "9ec89b77842aa6eb5e3d88cc46814aff617c110cfd3f36464bd34b29e482a7a1", func := "tholepin/tholepinlaw21.LocateCounts", spec := "locateCounts", unfollowed := true, recurses := true, apart := false, narrowed := true }
def LocateCountsUptoSaid : Prop := locateCountsUptoRow.holds Try.pinned (OpenSpec.upto locateCountsSpec)

/-- 'tholepinlaw21.LocateMoves', WHERE WHAT IT READS IS OF BULK AT MOST 1048576: true; the input reads as it did. -/
def locateMovesUptoRow : OpenClaim := { program := "ytmcabaebdloakaa", sum := "9ec89b77842aa6eb5e3d88cc46814aff617c110cfd3f36464bd34b29e482a7a1", func := "tholepin/tholepinlaw21.LocateMoves", spec := "locateMoves", unfollowed := true, recurses := true, apart := false, narrowed := true }
def LocateMovesUptoSaid : Prop := locateMovesUptoRow.holds Try.pinned (OpenSpec.upto locateMovesSpec)

end Rows
end Go.Proofs.Ytmcabaebdloakaa
